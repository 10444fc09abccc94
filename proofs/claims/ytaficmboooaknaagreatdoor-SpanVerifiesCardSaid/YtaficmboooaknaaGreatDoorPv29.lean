import Derived.Test.YtaficmboooaknaaGreatDoorPv01
import Derived.Test.YtaficmboooaknaaGreatDoorPv27
import Derived.Test.YtaficmboooaknaaGreatDoorPv28
import Derived.Test.YtaficmboooaknaaGreatDoorRows
import Derived.Test.YtaficmboooaknaaGreatDoorPv09
import Derived.Lib.LaidU8
import Derived.LaidMore
import Derived.Stop.Joined
import Derived.ProofKit
set_option maxRecDepth 100000
set_option maxHeartbeats 16000000
namespace Go.Proofs.YtaficmboooaknaaGreatDoor
section
open Go.RowKit
open Sto (T St)
theorem rspverify_X (root f e:T) (m:Int) (zi:Value) (I:St) (x:T) (zn:Value) (L:List T) (w:World) (hi:ItIn w zi I) (hv:StrsC w zn L) (hL:∀ y ∈ L,y.length<=999) (hl:L.length<=400) (hil:I.length<=400) (hf:f.length<=1000000) (he:e.length<=1000000) (hxl:x.length<=1000000) (hm:1<=m/\m<=16) (hlong:¬ m < (I.length:Int)) (hx0:x ≠ []):
    Calls Tryz.prog 20 #[.string ⟨root.toArray⟩,.string ⟨f.toArray⟩,.string ⟨e.toArray⟩,.int .i64 m,.agg #[zi,.string ⟨x.toArray⟩,zn]] w (RVPost (Spn.verifyP root f e m I x L) w):=by
  obtain ⟨w0,hw0⟩:∃ w0,w.alloc (.cells #[zi,.string ⟨x.toArray⟩,zn] 31)=w0:=⟨_,rfl⟩
  obtain ⟨q0,hq0⟩:∃ q0,w.heap.size=q0:=⟨_,rfl⟩
  have hb0:Below w.heap.size w w0:=by rw [← hw0]; exact (Below.refl _ w).alloc (Nat.le_refl _) _
  have ra:PageAt w0 q0 zi x zn:=by rw [← hw0,← hq0]; exact heap_alloc_new w _
  have HB0:=qh hb0
  have HP0:=qh ra
  have HI0:=qh (RowsIn.below hi hb0)
  have HL0:=qh (hv.below hb0)
  have HBD:Hid ((∀ y ∈ L,y.length<=999)/\L.length<=400/\I.length<=400/\f.length<=1000000/\e.length<=1000000/\x.length<=1000000):=qh ⟨hL,hl,hil,hf,he,hxl⟩
  obtain ⟨A,cap,rfl,-,-⟩:=hi.form
  obtain ⟨An,capn,rfl,-⟩:=hv.form
  clear ra hb0 hi hv hL hl hil hf he hxl
  obtain ⟨s0,s1,s2⟩:=HP0.out.cells
  have HM:=qh hm
  have p1:decide (m < 1)=false:=decide_eq_false (by omega)
  have p2:decide (16 < m)=false:=decide_eq_false (by omega)
  have p3:decide (m < (I.length:Int))=false:=decide_eq_false hlong
  have HNL:=qh hlong
  have p4:(x == [])=false:=beq_eq_false_iff_ne.2 hx0
  have p5:x.isEmpty=false:=by cases x <;> simp_all
  have HX0:=qh hx0
  have HBE:Hid (∀ (y:T) w',Below w0.heap.size w0 w'->Calls Tryz.prog 47 #[.string ⟨y.toArray⟩] w' fun r w''=>r=.returned (.string ⟨(Scn.behind y).toArray⟩)/\Below w0.heap.size w0 w''):=qh (fun y w' h=>(rscBehind_all y w').mono fun e w'' ⟨q1,q2⟩=>⟨q1,bchain h q2⟩)
  have BD:Below w0.heap.size w0 w0.drew:=(Below.refl _ _).drew
  obtain ⟨bad,hbad⟩:∃ b,decide ((I.length:Int) ≠ m ∨ Scn.behind (I.getD (m.toNat - 1) ([],[])).1 ≠ x ∨ (e ≠ []/\¬ x < e))=b:=⟨_,rfl⟩
  have HBAD:=qh hbad
  clear hm hlong hx0 hbad
  go_enter Tryz.func20,Tryz.ntmps20
  go_upto_region 1 with fail
  try rw [hq0]
  clear hw0 hq0
  go_upto_region 6 with fail
  go_cut [56] from 29 to 56 (fun c wx=>c=.bool bad/\Below w0.heap.size w0 wx)
  case first=>
    clear p1 p2 p3 p4 p5
    by_cases hlen:(I.length:Int)=m
    case neg=>
      have b1:((I.length:Int) != m)=true:=by rw [bne_iff_ne]; exact hlen
      have hb1:bad=true:=by rw [← HBAD.out]; exact decide_eq_true (Or.inl hlen)
      clear hlen HBE
      obtain ⟨s0,s1,s2⟩:=(PageAt.below (HP0.out) BD).cells
      subst hb1
      go_quiet (fail)
      go_wp2
      go_meet
      case rel=>exact ⟨rfl,bel_drewN (Below.refl _ _) _⟩
    obtain ⟨n,hn⟩:∃ n,I.length=n+1:=⟨I.length - 1,by have:=HM.out; omega⟩
    have hmn:m=(n:Int)+1:=by omega
    subst hmn
    have hgd:I.getD (((n:Int)+1).toNat - 1) ([],[])=I[n]'(by omega):=by
      rw [show ((n:Int)+1).toNat - 1=n from by omega,List.getD_eq_getElem?_getD,List.getElem?_eq_getElem (by omega),Option.getD_some]
    rw [hgd] at HBAD
    obtain ⟨b,o,hAb,n0,n1⟩:=ItIn.at HI0.out n (by omega)
    subst hAb
    obtain ⟨⟨kx,vx⟩,hkx⟩:∃ y,I[n]'(by omega)=y:=⟨_,rfl⟩
    rw [hkx] at n0 n1 HBAD
    dsimp only at n0 n1 HBAD
    obtain ⟨z,hz⟩:∃ z,Scn.behind kx=z:=⟨_,rfl⟩
    have HBH:Hid (∀ w',Below w0.heap.size w0 w'->Calls Tryz.prog 47 #[.string ⟨kx.toArray⟩] w' fun r w''=>r=.returned (.string ⟨z.toArray⟩)/\Below w0.heap.size w0 w''):=qh (fun w' h=>by
      have h1:=HBE.out kx w' h
      rw [hz] at h1
      exact h1)
    rw [hz] at HBAD
    have HS:Hid (∀ w',Below w0.heap.size w0 w'->Below w0.heap.size w0 w'/\w'.cell? ⟨q0,0,none⟩=some (.slice (some ⟨b,o,none⟩) I.length cap)/\w'.cell? ⟨q0,1,none⟩=some (.string ⟨x.toArray⟩)/\w'.cell? ⟨b,o+n * 2,none⟩=some (.string ⟨kx.toArray⟩)):=qh (fun w' h=>by
      obtain ⟨a1,a2,a3⟩:=(PageAt.below (HP0.out) h).cells
      exact ⟨h,a1,a2,(h.cell (World.block_lt_of_cell? _ _ n0)).trans n0⟩)
    have y0:(0:Int)<=(n:Int):=by omega
    have y2:(n:Int)<=100:=by have:=HM.out; omega
    have y3:IntKind.i64.wrap ((n:Int)+1 - 1)=(n:Int):=by unfold IntKind.wrap; simp [IntKind.bits,IntKind.signed]; omega
    have y4:IntKind.i64.wrap (n:Int)=(n:Int):=by unfold IntKind.wrap; simp [IntKind.bits,IntKind.signed]; omega
    have HNN:=qh hn
    have HLN:=qh hlen
    clear hgd n0 n1 hkx hz HBE
    have b1:((I.length:Int) != (n:Int)+1)=false:=by rw [bne_eq_false_iff_eq]; exact hlen
    have b2:((I.length:Int) == (n:Int)+1)=true:=by rw [beq_iff_eq]; exact hlen
    have y1:(n:Int) < (I.length:Int):=by omega
    clear hn hlen
    have HXE:Hid (bad=((z != x) || ((e != []) && !(decide (x < e))))):=qh (by
      rw [← HBAD.out]
      have h0:¬ ((I.length:Int) ≠ (n:Int)+1):=fun h=>h HLN.out
      by_cases c1:z=x <;> by_cases c2:e=[] <;> by_cases c3:x < e <;> simp [h0,c1,c2,c3])
    obtain ⟨c1,hc1⟩:∃ c,(z != x)=c:=⟨_,rfl⟩
    obtain ⟨c2,hc2⟩:∃ c,(e != [])=c:=⟨_,rfl⟩
    obtain ⟨c3,hc3⟩:∃ c,(!(decide (x < e)))=c:=⟨_,rfl⟩
    rw [hc1,hc2,hc3] at HXE
    have d1:(z == x)=!c1:=by rw [← hc1]; simp [bne]
    have d2:(e == [])=!c2:=by rw [← hc2]; simp [bne]
    have d3:e.isEmpty=!c2:=by rw [← hc2]; cases e <;> rfl
    have d4:Op.bytesLess x e=!c3:=by rw [← hc3,less_lt]; simp
    have hbb:=HXE.out
    clear HBAD hc3 HXE
    subst hbb
    refine region_inv (fun Lq aq w'=>∃ v29 v30 v31 v32 v33 v34 v35 v36 v37 v38 v39 v40 v41 v42 v43 v44 v45 v46 v47 v48 v49 v50 v51 v52 v53 v54 v55 v56:Value,aq=⟨#[Value.string { data:=List.toArray root },Value.string { data:=List.toArray f },Value.string { data:=List.toArray e },Value.int IntKind.i64 (↑n+1),Value.agg #[Value.slice (some { block:=b,off:=o }) (List.length I) cap,Value.string { data:=List.toArray x },Value.slice An L.length capn],undef,undef,undef,undef,Value.pointer (some { block:=q0,off:=0 }),Value.slice none 0 0,Value.string { data:=#[] },Value.int IntKind.i64 0,undef,undef,Value.int IntKind.i64 (↑n+1),Value.bool false,Value.bool false,Value.int IntKind.i64 (↑n+1),Value.bool false,Value.bool false,Value.pointer (some { block:=q0,off:=0 }),Value.slice (some { block:=b,off:=o }) (List.length I) cap,Value.int IntKind.i64 ↑(List.length I),Value.int IntKind.i64 (↑n+1),Value.bool false,Value.pointer (some { block:=q0,off:=1 }),Value.string { data:=List.toArray x },Value.bool true,v29,v30,v31,v32,v33,v34,v35,v36,v37,v38,v39,v40,v41,v42,v43,v44,v45,v46,v47,v48,v49,v50,v51,v52,v53,v54,v55,v56,undef,undef,undef,undef,undef,undef,undef,undef,undef,undef,undef,undef,undef,undef,undef,undef,undef,undef,undef,undef,undef,undef,undef,undef,undef,undef,undef,undef,undef,undef,undef,undef,undef,undef,undef,undef,undef,undef,undef,undef,undef,undef,undef,undef,undef,undef,undef,undef,undef,undef,undef,undef,undef,undef,undef,undef,undef,undef,undef,undef,undef,undef],[]⟩/\Below w0.heap.size w0 w'/\(Lq[0]?=some true->v29=.pointer (some ⟨q0,0,none⟩))/\(Lq[1]?=some true->v30=.slice (some ⟨b,o,none⟩) I.length cap)/\(Lq[2]?=some true->v31=.int .i64 (I.length:Int))/\(Lq[3]?=some true->v32=.int .i64 ((n:Int)+1))/\(Lq[4]?=some true->v33=.bool false)/\(Lq[5]?=some true->v34=.bool false)/\(Lq[6]?=some true->v35=.pointer (some ⟨q0,0,none⟩))/\(Lq[7]?=some true->v36=.slice (some ⟨b,o,none⟩) I.length cap)/\(Lq[8]?=some true->v37=.int .i64 ((n:Int)+1))/\(Lq[9]?=some true->v38=.int .i64 (n:Int))/\(Lq[10]?=some true->v39=.pointer (some ⟨b,o+n * 2,none⟩))/\(Lq[11]?=some true->v40=.pointer (some ⟨b,o+n * 2,none⟩))/\(Lq[12]?=some true->v41=.string ⟨kx.toArray⟩)/\(Lq[13]?=some true->v42=.string ⟨z.toArray⟩)/\(Lq[14]?=some true->v43=.pointer (some ⟨q0,1,none⟩))/\(Lq[15]?=some true->v44=.string ⟨x.toArray⟩)/\(Lq[16]?=some true->v45=.bool c1)/\(Lq[17]?=some true->v46=.bool c1)/\(Lq[18]?=some true->v47=.bool c1)/\(Lq[19]?=some true->v48=(bif c1 then undef else .string ⟨e.toArray⟩))/\(Lq[20]?=some true->v49=(bif c1 then undef else .bool c2))/\(Lq[21]?=some true->v50=(bif c1 then undef else .bool c2))/\(Lq[22]?=some true->v51=(bif c1 then undef else bif c2 then .pointer (some ⟨q0,1,none⟩) else undef))/\(Lq[23]?=some true->v52=(bif c1 then undef else bif c2 then .string ⟨x.toArray⟩ else undef))/\(Lq[24]?=some true->v53=(bif c1 then undef else bif c2 then .string ⟨e.toArray⟩ else undef))/\(Lq[25]?=some true->v54=(bif c1 then undef else bif c2 then .bool c3 else undef))/\(Lq[26]?=some true->v55=(bif c1 then undef else .bool (c2 && c3)))/\(Lq[27]?=some true->v56=.bool (c1 || (c2 && c3)))) (by rfl) ?_ ?_ ?_
    · exact ⟨_,_,_,_,_,_,_,_,_,_,_,_,_,_,_,_,_,_,_,_,_,_,_,_,_,_,_,_,rfl,BD,by simp,by simp,by simp,by simp,by simp,by simp,by simp,by simp,by simp,by simp,by simp,by simp,by simp,by simp,by simp,by simp,by simp,by simp,by simp,by simp,by simp,by simp,by simp,by simp,by simp,by simp,by simp,by simp⟩
    · intro Lq aq w1' hL hI j o ho hj K hK
      obtain ⟨v29,v30,v31,v32,v33,v34,v35,v36,v37,v38,v39,v40,v41,v42,v43,v44,v45,v46,v47,v48,v49,v50,v51,v52,v53,v54,v55,v56,rfl,hB,h0,h1,h2,h3,h4,h5,h6,h7,h8,h9,h10,h11,h12,h13,h14,h15,h16,h17,h18,h19,h20,h21,h22,h23,h24,h25,h26,h27⟩:=hI
      obtain ⟨b0,b1,b2,b3,b4,b5,b6,b7,b8,b9,b10,b11,b12,b13,b14,b15,b16,b17,b18,b19,b20,b21,b22,b23,b24,b25,b26,b27,rfl⟩:∃ b0 b1 b2 b3 b4 b5 b6 b7 b8 b9 b10 b11 b12 b13 b14 b15 b16 b17 b18 b19 b20 b21 b22 b23 b24 b25 b26 b27,Lq=[b0,b1,b2,b3,b4,b5,b6,b7,b8,b9,b10,b11,b12,b13,b14,b15,b16,b17,b18,b19,b20,b21,b22,b23,b24,b25,b26,b27]:=by
        match Lq,hL with
        | [b0,b1,b2,b3,b4,b5,b6,b7,b8,b9,b10,b11,b12,b13,b14,b15,b16,b17,b18,b19,b20,b21,b22,b23,b24,b25,b26,b27],_=>exact ⟨b0,b1,b2,b3,b4,b5,b6,b7,b8,b9,b10,b11,b12,b13,b14,b15,b16,b17,b18,b19,b20,b21,b22,b23,b24,b25,b26,b27,rfl⟩
      have hi2:=(List.mem_filter.1 hj).2
      clear hj hL
      obtain ⟨-,k0,k1,k2⟩:=HS.out _ hB
      rcases j with _ | _ | _ | _ | _ | _ | _ | _ | _ | _ | _ | _ | _ | _ | _ | _ | _ | _ | _ | _ | _ | _ | _ | _ | _ | _ | _ | _ | j
      · obtain rfl:=Option.some.inj ho
        clear ho hi2
        rw [if_pos (by rfl)]
        go_simp
        exact hK _ _ ⟨_,v30,v31,v32,v33,v34,v35,v36,v37,v38,v39,v40,v41,v42,v43,v44,v45,v46,v47,v48,v49,v50,v51,v52,v53,v54,v55,v56,rfl,hB,fun _=>rfl,h1,h2,h3,h4,h5,h6,h7,h8,h9,h10,h11,h12,h13,h14,h15,h16,h17,h18,h19,h20,h21,h22,h23,h24,h25,h26,h27⟩
      · obtain rfl:=Option.some.inj ho
        simp [Region.binds] at hi2
        obtain rfl:=h0 (by simp [hi2])
        clear ho hi2
        rw [if_pos (by rfl)]
        go_simp
        exact hK _ _ ⟨_,_,v31,v32,v33,v34,v35,v36,v37,v38,v39,v40,v41,v42,v43,v44,v45,v46,v47,v48,v49,v50,v51,v52,v53,v54,v55,v56,rfl,hB,fun _=>rfl,fun _=>rfl,h2,h3,h4,h5,h6,h7,h8,h9,h10,h11,h12,h13,h14,h15,h16,h17,h18,h19,h20,h21,h22,h23,h24,h25,h26,h27⟩
      · obtain rfl:=Option.some.inj ho
        simp [Region.binds] at hi2
        obtain rfl:=h1 (by simp [hi2])
        clear ho hi2
        rw [if_pos (by rfl)]
        go_simp
        exact hK _ _ ⟨v29,_,_,v32,v33,v34,v35,v36,v37,v38,v39,v40,v41,v42,v43,v44,v45,v46,v47,v48,v49,v50,v51,v52,v53,v54,v55,v56,rfl,hB,h0,fun _=>rfl,fun _=>rfl,h3,h4,h5,h6,h7,h8,h9,h10,h11,h12,h13,h14,h15,h16,h17,h18,h19,h20,h21,h22,h23,h24,h25,h26,h27⟩
      · obtain rfl:=Option.some.inj ho
        clear ho hi2
        rw [if_pos (by rfl)]
        go_simp
        exact hK _ _ ⟨v29,v30,v31,_,v33,v34,v35,v36,v37,v38,v39,v40,v41,v42,v43,v44,v45,v46,v47,v48,v49,v50,v51,v52,v53,v54,v55,v56,rfl,hB,h0,h1,h2,fun _=>rfl,h4,h5,h6,h7,h8,h9,h10,h11,h12,h13,h14,h15,h16,h17,h18,h19,h20,h21,h22,h23,h24,h25,h26,h27⟩
      · obtain rfl:=Option.some.inj ho
        simp [Region.binds] at hi2
        obtain rfl:=h2 (by simp [hi2])
        obtain rfl:=h3 (by simp [hi2])
        clear ho hi2
        rw [if_pos (by rfl)]
        go_simp
        exact hK _ _ ⟨v29,v30,_,_,_,v34,v35,v36,v37,v38,v39,v40,v41,v42,v43,v44,v45,v46,v47,v48,v49,v50,v51,v52,v53,v54,v55,v56,rfl,hB,h0,h1,fun _=>rfl,fun _=>rfl,fun _=>rfl,h5,h6,h7,h8,h9,h10,h11,h12,h13,h14,h15,h16,h17,h18,h19,h20,h21,h22,h23,h24,h25,h26,h27⟩
      · obtain rfl:=Option.some.inj ho
        simp [Region.binds] at hi2
        obtain rfl:=h4 (by simp [hi2])
        clear ho hi2
        rw [if_pos (by rfl)]
        go_simp
        exact hK _ _ ⟨v29,v30,v31,v32,_,_,v35,v36,v37,v38,v39,v40,v41,v42,v43,v44,v45,v46,v47,v48,v49,v50,v51,v52,v53,v54,v55,v56,rfl,hB,h0,h1,h2,h3,fun _=>rfl,fun _=>rfl,h6,h7,h8,h9,h10,h11,h12,h13,h14,h15,h16,h17,h18,h19,h20,h21,h22,h23,h24,h25,h26,h27⟩
      · obtain rfl:=Option.some.inj ho
        simp [Region.binds] at hi2
        obtain rfl:=h5 (by simp [hi2])
        clear ho hi2
        rw [if_pos (by rfl)]
        go_simp
        exact hK _ _ ⟨v29,v30,v31,v32,v33,_,_,v36,v37,v38,v39,v40,v41,v42,v43,v44,v45,v46,v47,v48,v49,v50,v51,v52,v53,v54,v55,v56,rfl,hB,h0,h1,h2,h3,h4,fun _=>rfl,fun _=>rfl,h7,h8,h9,h10,h11,h12,h13,h14,h15,h16,h17,h18,h19,h20,h21,h22,h23,h24,h25,h26,h27⟩
      · obtain rfl:=Option.some.inj ho
        simp [Region.binds] at hi2
        obtain rfl:=h6 (by simp [hi2])
        obtain rfl:=h5 (by simp [hi2])
        clear ho hi2
        rw [if_pos (by rfl)]
        go_simp
        exact hK _ _ ⟨v29,v30,v31,v32,v33,_,_,_,v37,v38,v39,v40,v41,v42,v43,v44,v45,v46,v47,v48,v49,v50,v51,v52,v53,v54,v55,v56,rfl,hB,h0,h1,h2,h3,h4,fun _=>rfl,fun _=>rfl,fun _=>rfl,h8,h9,h10,h11,h12,h13,h14,h15,h16,h17,h18,h19,h20,h21,h22,h23,h24,h25,h26,h27⟩
      · obtain rfl:=Option.some.inj ho
        simp [Region.binds] at hi2
        obtain rfl:=h5 (by simp [hi2])
        clear ho hi2
        rw [if_pos (by rfl)]
        go_simp
        exact hK _ _ ⟨v29,v30,v31,v32,v33,_,v35,v36,_,v38,v39,v40,v41,v42,v43,v44,v45,v46,v47,v48,v49,v50,v51,v52,v53,v54,v55,v56,rfl,hB,h0,h1,h2,h3,h4,fun _=>rfl,h6,h7,fun _=>rfl,h9,h10,h11,h12,h13,h14,h15,h16,h17,h18,h19,h20,h21,h22,h23,h24,h25,h26,h27⟩
      · obtain rfl:=Option.some.inj ho
        simp [Region.binds] at hi2
        obtain rfl:=h8 (by simp [hi2])
        obtain rfl:=h5 (by simp [hi2])
        clear ho hi2
        rw [if_pos (by rfl)]
        go_simp
        exact hK _ _ ⟨v29,v30,v31,v32,v33,_,v35,v36,_,_,v39,v40,v41,v42,v43,v44,v45,v46,v47,v48,v49,v50,v51,v52,v53,v54,v55,v56,rfl,hB,h0,h1,h2,h3,h4,fun _=>rfl,h6,h7,fun _=>rfl,fun _=>rfl,h10,h11,h12,h13,h14,h15,h16,h17,h18,h19,h20,h21,h22,h23,h24,h25,h26,h27⟩
      · obtain rfl:=Option.some.inj ho
        simp [Region.binds] at hi2
        obtain rfl:=h7 (by simp [hi2])
        obtain rfl:=h9 (by simp [hi2])
        obtain rfl:=h5 (by simp [hi2])
        clear ho hi2
        rw [if_pos (by rfl)]
        go_simp
        exact hK _ _ ⟨v29,v30,v31,v32,v33,_,v35,_,v37,_,_,v40,v41,v42,v43,v44,v45,v46,v47,v48,v49,v50,v51,v52,v53,v54,v55,v56,rfl,hB,h0,h1,h2,h3,h4,fun _=>rfl,h6,fun _=>rfl,h8,fun _=>rfl,fun _=>rfl,h11,h12,h13,h14,h15,h16,h17,h18,h19,h20,h21,h22,h23,h24,h25,h26,h27⟩
      · obtain rfl:=Option.some.inj ho
        simp [Region.binds] at hi2
        obtain rfl:=h10 (by simp [hi2])
        obtain rfl:=h5 (by simp [hi2])
        clear ho hi2
        rw [if_pos (by rfl)]
        go_simp
        exact hK _ _ ⟨v29,v30,v31,v32,v33,_,v35,v36,v37,v38,_,_,v41,v42,v43,v44,v45,v46,v47,v48,v49,v50,v51,v52,v53,v54,v55,v56,rfl,hB,h0,h1,h2,h3,h4,fun _=>rfl,h6,h7,h8,h9,fun _=>rfl,fun _=>rfl,h12,h13,h14,h15,h16,h17,h18,h19,h20,h21,h22,h23,h24,h25,h26,h27⟩
      · obtain rfl:=Option.some.inj ho
        simp [Region.binds] at hi2
        obtain rfl:=h11 (by simp [hi2])
        obtain rfl:=h5 (by simp [hi2])
        clear ho hi2
        rw [if_pos (by rfl)]
        go_simp
        exact hK _ _ ⟨v29,v30,v31,v32,v33,_,v35,v36,v37,v38,v39,_,_,v42,v43,v44,v45,v46,v47,v48,v49,v50,v51,v52,v53,v54,v55,v56,rfl,hB,h0,h1,h2,h3,h4,fun _=>rfl,h6,h7,h8,h9,h10,fun _=>rfl,fun _=>rfl,h13,h14,h15,h16,h17,h18,h19,h20,h21,h22,h23,h24,h25,h26,h27⟩
      · obtain rfl:=Option.some.inj ho
        simp [Region.binds] at hi2
        obtain rfl:=h12 (by simp [hi2])
        obtain rfl:=h5 (by simp [hi2])
        clear ho hi2
        rw [if_pos (by rfl)]
        go_simp
        refine (HBH.out _ hB).mono ?_
        rintro r w2 ⟨rfl,hB2⟩
        exact hK _ _ ⟨v29,v30,v31,v32,v33,_,v35,v36,v37,v38,v39,v40,_,_,v43,v44,v45,v46,v47,v48,v49,v50,v51,v52,v53,v54,v55,v56,rfl,hB2,h0,h1,h2,h3,h4,fun _=>rfl,h6,h7,h8,h9,h10,h11,fun _=>rfl,fun _=>rfl,h14,h15,h16,h17,h18,h19,h20,h21,h22,h23,h24,h25,h26,h27⟩
      · obtain rfl:=Option.some.inj ho
        simp [Region.binds] at hi2
        obtain rfl:=h5 (by simp [hi2])
        clear ho hi2
        rw [if_pos (by rfl)]
        go_simp
        exact hK _ _ ⟨v29,v30,v31,v32,v33,_,v35,v36,v37,v38,v39,v40,v41,v42,_,v44,v45,v46,v47,v48,v49,v50,v51,v52,v53,v54,v55,v56,rfl,hB,h0,h1,h2,h3,h4,fun _=>rfl,h6,h7,h8,h9,h10,h11,h12,h13,fun _=>rfl,h15,h16,h17,h18,h19,h20,h21,h22,h23,h24,h25,h26,h27⟩
      · obtain rfl:=Option.some.inj ho
        simp [Region.binds] at hi2
        obtain rfl:=h14 (by simp [hi2])
        obtain rfl:=h5 (by simp [hi2])
        clear ho hi2
        rw [if_pos (by rfl)]
        go_simp
        exact hK _ _ ⟨v29,v30,v31,v32,v33,_,v35,v36,v37,v38,v39,v40,v41,v42,_,_,v45,v46,v47,v48,v49,v50,v51,v52,v53,v54,v55,v56,rfl,hB,h0,h1,h2,h3,h4,fun _=>rfl,h6,h7,h8,h9,h10,h11,h12,h13,fun _=>rfl,fun _=>rfl,h16,h17,h18,h19,h20,h21,h22,h23,h24,h25,h26,h27⟩
      · obtain rfl:=Option.some.inj ho
        simp [Region.binds] at hi2
        obtain rfl:=h13 (by simp [hi2])
        obtain rfl:=h15 (by simp [hi2])
        obtain rfl:=h5 (by simp [hi2])
        clear ho hi2
        rw [if_pos (by rfl)]
        go_simp
        exact hK _ _ ⟨v29,v30,v31,v32,v33,_,v35,v36,v37,v38,v39,v40,v41,_,v43,_,_,v46,v47,v48,v49,v50,v51,v52,v53,v54,v55,v56,rfl,hB,h0,h1,h2,h3,h4,fun _=>rfl,h6,h7,h8,h9,h10,h11,h12,fun _=>rfl,h14,fun _=>rfl,fun _=>rfl,h17,h18,h19,h20,h21,h22,h23,h24,h25,h26,h27⟩
      · obtain rfl:=Option.some.inj ho
        simp [Region.binds] at hi2
        obtain rfl:=h5 (by simp [hi2])
        obtain rfl:=h16 (by simp [hi2])
        clear ho hi2
        rw [if_pos (by rfl)]
        go_simp
        exact hK _ _ ⟨v29,v30,v31,v32,v33,_,v35,v36,v37,v38,v39,v40,v41,v42,v43,v44,_,_,v47,v48,v49,v50,v51,v52,v53,v54,v55,v56,rfl,hB,h0,h1,h2,h3,h4,fun _=>rfl,h6,h7,h8,h9,h10,h11,h12,h13,h14,h15,fun _=>rfl,fun _=>rfl,h18,h19,h20,h21,h22,h23,h24,h25,h26,h27⟩
      · obtain rfl:=Option.some.inj ho
        simp [Region.binds] at hi2
        obtain rfl:=h17 (by simp [hi2])
        clear ho hi2
        rw [if_pos (by rfl)]
        go_simp
        exact hK _ _ ⟨v29,v30,v31,v32,v33,v34,v35,v36,v37,v38,v39,v40,v41,v42,v43,v44,v45,_,_,v48,v49,v50,v51,v52,v53,v54,v55,v56,rfl,hB,h0,h1,h2,h3,h4,h5,h6,h7,h8,h9,h10,h11,h12,h13,h14,h15,h16,fun _=>rfl,fun _=>rfl,h19,h20,h21,h22,h23,h24,h25,h26,h27⟩
      · obtain rfl:=Option.some.inj ho
        simp [Region.binds] at hi2
        obtain rfl:=h18 (by simp [hi2])
        clear ho hi2
        cases c1
        · rw [if_pos (by rfl)]
          go_simp
          exact hK _ _ ⟨v29,v30,v31,v32,v33,v34,v35,v36,v37,v38,v39,v40,v41,v42,v43,v44,v45,v46,_,_,v49,v50,v51,v52,v53,v54,v55,v56,rfl,hB,h0,h1,h2,h3,h4,h5,h6,h7,h8,h9,h10,h11,h12,h13,h14,h15,h16,h17,fun _=>rfl,fun _=>rfl,h20,h21,h22,h23,h24,h25,h26,h27⟩
        · rw [if_neg (by rw [show Region.wanted _ _=false from rfl]; decide)]
          exact hK _ _ ⟨v29,v30,v31,v32,v33,v34,v35,v36,v37,v38,v39,v40,v41,v42,v43,v44,v45,v46,_,_,v49,v50,v51,v52,v53,v54,v55,v56,rfl,hB,h0,h1,h2,h3,h4,h5,h6,h7,h8,h9,h10,h11,h12,h13,h14,h15,h16,h17,fun _=>rfl,fun _=>rfl,h20,h21,h22,h23,h24,h25,h26,h27⟩
      · obtain rfl:=Option.some.inj ho
        simp [Region.binds] at hi2
        obtain rfl:=h19 (by simp [hi2])
        obtain rfl:=h18 (by simp [hi2])
        clear ho hi2
        cases c1
        · rw [if_pos (by rfl)]
          go_simp
          exact hK _ _ ⟨v29,v30,v31,v32,v33,v34,v35,v36,v37,v38,v39,v40,v41,v42,v43,v44,v45,v46,_,_,_,v50,v51,v52,v53,v54,v55,v56,rfl,hB,h0,h1,h2,h3,h4,h5,h6,h7,h8,h9,h10,h11,h12,h13,h14,h15,h16,h17,fun _=>rfl,fun _=>rfl,fun _=>rfl,h21,h22,h23,h24,h25,h26,h27⟩
        · rw [if_neg (by rw [show Region.wanted _ _=false from rfl]; decide)]
          exact hK _ _ ⟨v29,v30,v31,v32,v33,v34,v35,v36,v37,v38,v39,v40,v41,v42,v43,v44,v45,v46,_,_,_,v50,v51,v52,v53,v54,v55,v56,rfl,hB,h0,h1,h2,h3,h4,h5,h6,h7,h8,h9,h10,h11,h12,h13,h14,h15,h16,h17,fun _=>rfl,fun _=>rfl,fun _=>rfl,h21,h22,h23,h24,h25,h26,h27⟩
      · obtain rfl:=Option.some.inj ho
        simp [Region.binds] at hi2
        obtain rfl:=h20 (by simp [hi2])
        obtain rfl:=h18 (by simp [hi2])
        clear ho hi2
        cases c1
        · rw [if_pos (by rfl)]
          go_simp
          exact hK _ _ ⟨v29,v30,v31,v32,v33,v34,v35,v36,v37,v38,v39,v40,v41,v42,v43,v44,v45,v46,_,v48,_,_,v51,v52,v53,v54,v55,v56,rfl,hB,h0,h1,h2,h3,h4,h5,h6,h7,h8,h9,h10,h11,h12,h13,h14,h15,h16,h17,fun _=>rfl,h19,fun _=>rfl,fun _=>rfl,h22,h23,h24,h25,h26,h27⟩
        · rw [if_neg (by rw [show Region.wanted _ _=false from rfl]; decide)]
          exact hK _ _ ⟨v29,v30,v31,v32,v33,v34,v35,v36,v37,v38,v39,v40,v41,v42,v43,v44,v45,v46,_,v48,_,_,v51,v52,v53,v54,v55,v56,rfl,hB,h0,h1,h2,h3,h4,h5,h6,h7,h8,h9,h10,h11,h12,h13,h14,h15,h16,h17,fun _=>rfl,h19,fun _=>rfl,fun _=>rfl,h22,h23,h24,h25,h26,h27⟩
      · obtain rfl:=Option.some.inj ho
        simp [Region.binds] at hi2
        obtain rfl:=h21 (by simp [hi2])
        clear ho hi2
        cases c1
        · cases c2
          · rw [if_neg (by rw [show Region.wanted _ _=false from rfl]; decide)]
            exact hK _ _ ⟨v29,v30,v31,v32,v33,v34,v35,v36,v37,v38,v39,v40,v41,v42,v43,v44,v45,v46,v47,v48,v49,_,_,v52,v53,v54,v55,v56,rfl,hB,h0,h1,h2,h3,h4,h5,h6,h7,h8,h9,h10,h11,h12,h13,h14,h15,h16,h17,h18,h19,h20,fun _=>rfl,fun _=>rfl,h23,h24,h25,h26,h27⟩
          · rw [if_pos (by rfl)]
            go_simp
            exact hK _ _ ⟨v29,v30,v31,v32,v33,v34,v35,v36,v37,v38,v39,v40,v41,v42,v43,v44,v45,v46,v47,v48,v49,_,_,v52,v53,v54,v55,v56,rfl,hB,h0,h1,h2,h3,h4,h5,h6,h7,h8,h9,h10,h11,h12,h13,h14,h15,h16,h17,h18,h19,h20,fun _=>rfl,fun _=>rfl,h23,h24,h25,h26,h27⟩
        · rw [if_neg (by rw [show Region.wanted _ _=false from rfl]; decide)]
          exact hK _ _ ⟨v29,v30,v31,v32,v33,v34,v35,v36,v37,v38,v39,v40,v41,v42,v43,v44,v45,v46,v47,v48,v49,_,_,v52,v53,v54,v55,v56,rfl,hB,h0,h1,h2,h3,h4,h5,h6,h7,h8,h9,h10,h11,h12,h13,h14,h15,h16,h17,h18,h19,h20,fun _=>rfl,fun _=>rfl,h23,h24,h25,h26,h27⟩
      · obtain rfl:=Option.some.inj ho
        simp [Region.binds] at hi2
        obtain rfl:=h22 (by simp [hi2])
        obtain rfl:=h21 (by simp [hi2])
        clear ho hi2
        cases c1
        · cases c2
          · rw [if_neg (by rw [show Region.wanted _ _=false from rfl]; decide)]
            exact hK _ _ ⟨v29,v30,v31,v32,v33,v34,v35,v36,v37,v38,v39,v40,v41,v42,v43,v44,v45,v46,v47,v48,v49,_,_,_,v53,v54,v55,v56,rfl,hB,h0,h1,h2,h3,h4,h5,h6,h7,h8,h9,h10,h11,h12,h13,h14,h15,h16,h17,h18,h19,h20,fun _=>rfl,fun _=>rfl,fun _=>rfl,h24,h25,h26,h27⟩
          · rw [if_pos (by rfl)]
            go_simp
            exact hK _ _ ⟨v29,v30,v31,v32,v33,v34,v35,v36,v37,v38,v39,v40,v41,v42,v43,v44,v45,v46,v47,v48,v49,_,_,_,v53,v54,v55,v56,rfl,hB,h0,h1,h2,h3,h4,h5,h6,h7,h8,h9,h10,h11,h12,h13,h14,h15,h16,h17,h18,h19,h20,fun _=>rfl,fun _=>rfl,fun _=>rfl,h24,h25,h26,h27⟩
        · rw [if_neg (by rw [show Region.wanted _ _=false from rfl]; decide)]
          exact hK _ _ ⟨v29,v30,v31,v32,v33,v34,v35,v36,v37,v38,v39,v40,v41,v42,v43,v44,v45,v46,v47,v48,v49,_,_,_,v53,v54,v55,v56,rfl,hB,h0,h1,h2,h3,h4,h5,h6,h7,h8,h9,h10,h11,h12,h13,h14,h15,h16,h17,h18,h19,h20,fun _=>rfl,fun _=>rfl,fun _=>rfl,h24,h25,h26,h27⟩
      · obtain rfl:=Option.some.inj ho
        simp [Region.binds] at hi2
        obtain rfl:=h21 (by simp [hi2])
        clear ho hi2
        cases c1
        · cases c2
          · rw [if_neg (by rw [show Region.wanted _ _=false from rfl]; decide)]
            exact hK _ _ ⟨v29,v30,v31,v32,v33,v34,v35,v36,v37,v38,v39,v40,v41,v42,v43,v44,v45,v46,v47,v48,v49,_,v51,v52,_,v54,v55,v56,rfl,hB,h0,h1,h2,h3,h4,h5,h6,h7,h8,h9,h10,h11,h12,h13,h14,h15,h16,h17,h18,h19,h20,fun _=>rfl,h22,h23,fun _=>rfl,h25,h26,h27⟩
          · rw [if_pos (by rfl)]
            go_simp
            exact hK _ _ ⟨v29,v30,v31,v32,v33,v34,v35,v36,v37,v38,v39,v40,v41,v42,v43,v44,v45,v46,v47,v48,v49,_,v51,v52,_,v54,v55,v56,rfl,hB,h0,h1,h2,h3,h4,h5,h6,h7,h8,h9,h10,h11,h12,h13,h14,h15,h16,h17,h18,h19,h20,fun _=>rfl,h22,h23,fun _=>rfl,h25,h26,h27⟩
        · rw [if_neg (by rw [show Region.wanted _ _=false from rfl]; decide)]
          exact hK _ _ ⟨v29,v30,v31,v32,v33,v34,v35,v36,v37,v38,v39,v40,v41,v42,v43,v44,v45,v46,v47,v48,v49,_,v51,v52,_,v54,v55,v56,rfl,hB,h0,h1,h2,h3,h4,h5,h6,h7,h8,h9,h10,h11,h12,h13,h14,h15,h16,h17,h18,h19,h20,fun _=>rfl,h22,h23,fun _=>rfl,h25,h26,h27⟩
      · obtain rfl:=Option.some.inj ho
        simp [Region.binds] at hi2
        obtain rfl:=h23 (by simp [hi2])
        obtain rfl:=h24 (by simp [hi2])
        obtain rfl:=h21 (by simp [hi2])
        clear ho hi2
        cases c1
        · cases c2
          · rw [if_neg (by rw [show Region.wanted _ _=false from rfl]; decide)]
            exact hK _ _ ⟨v29,v30,v31,v32,v33,v34,v35,v36,v37,v38,v39,v40,v41,v42,v43,v44,v45,v46,v47,v48,v49,_,v51,_,_,_,v55,v56,rfl,hB,h0,h1,h2,h3,h4,h5,h6,h7,h8,h9,h10,h11,h12,h13,h14,h15,h16,h17,h18,h19,h20,fun _=>rfl,h22,fun _=>rfl,fun _=>rfl,fun _=>rfl,h26,h27⟩
          · rw [if_pos (by rfl)]
            go_simp
            exact hK _ _ ⟨v29,v30,v31,v32,v33,v34,v35,v36,v37,v38,v39,v40,v41,v42,v43,v44,v45,v46,v47,v48,v49,_,v51,_,_,_,v55,v56,rfl,hB,h0,h1,h2,h3,h4,h5,h6,h7,h8,h9,h10,h11,h12,h13,h14,h15,h16,h17,h18,h19,h20,fun _=>rfl,h22,fun _=>rfl,fun _=>rfl,fun _=>rfl,h26,h27⟩
        · rw [if_neg (by rw [show Region.wanted _ _=false from rfl]; decide)]
          exact hK _ _ ⟨v29,v30,v31,v32,v33,v34,v35,v36,v37,v38,v39,v40,v41,v42,v43,v44,v45,v46,v47,v48,v49,_,v51,_,_,_,v55,v56,rfl,hB,h0,h1,h2,h3,h4,h5,h6,h7,h8,h9,h10,h11,h12,h13,h14,h15,h16,h17,h18,h19,h20,fun _=>rfl,h22,fun _=>rfl,fun _=>rfl,fun _=>rfl,h26,h27⟩
      · obtain rfl:=Option.some.inj ho
        simp [Region.binds] at hi2
        obtain rfl:=h21 (by simp [hi2])
        obtain rfl:=h25 (by simp [hi2])
        obtain rfl:=h18 (by simp [hi2])
        clear ho hi2
        cases c1
        · cases c2
          · rw [if_pos (by rfl)]
            go_simp
            exact hK _ _ ⟨v29,v30,v31,v32,v33,v34,v35,v36,v37,v38,v39,v40,v41,v42,v43,v44,v45,v46,_,v48,v49,_,v51,v52,v53,_,_,v56,rfl,hB,h0,h1,h2,h3,h4,h5,h6,h7,h8,h9,h10,h11,h12,h13,h14,h15,h16,h17,fun _=>rfl,h19,h20,fun _=>rfl,h22,h23,h24,fun _=>rfl,fun _=>rfl,h27⟩
          · rw [if_pos (by rfl)]
            go_simp
            exact hK _ _ ⟨v29,v30,v31,v32,v33,v34,v35,v36,v37,v38,v39,v40,v41,v42,v43,v44,v45,v46,_,v48,v49,_,v51,v52,v53,_,_,v56,rfl,hB,h0,h1,h2,h3,h4,h5,h6,h7,h8,h9,h10,h11,h12,h13,h14,h15,h16,h17,fun _=>rfl,h19,h20,fun _=>rfl,h22,h23,h24,fun _=>rfl,fun _=>rfl,h27⟩
        · rw [if_neg (by rw [show Region.wanted _ _=false from rfl]; decide)]
          exact hK _ _ ⟨v29,v30,v31,v32,v33,v34,v35,v36,v37,v38,v39,v40,v41,v42,v43,v44,v45,v46,_,v48,v49,_,v51,v52,v53,_,_,v56,rfl,hB,h0,h1,h2,h3,h4,h5,h6,h7,h8,h9,h10,h11,h12,h13,h14,h15,h16,h17,fun _=>rfl,h19,h20,fun _=>rfl,h22,h23,h24,fun _=>rfl,fun _=>rfl,h27⟩
      · obtain rfl:=Option.some.inj ho
        simp [Region.binds] at hi2
        obtain rfl:=h18 (by simp [hi2])
        obtain rfl:=h26 (by simp [hi2])
        clear ho hi2
        cases c1
        · rw [if_pos (by rfl)]
          go_simp
          exact hK _ _ ⟨v29,v30,v31,v32,v33,v34,v35,v36,v37,v38,v39,v40,v41,v42,v43,v44,v45,v46,_,v48,v49,v50,v51,v52,v53,v54,_,_,rfl,hB,h0,h1,h2,h3,h4,h5,h6,h7,h8,h9,h10,h11,h12,h13,h14,h15,h16,h17,fun _=>rfl,h19,h20,h21,h22,h23,h24,h25,fun _=>rfl,fun _=>rfl⟩
        · rw [if_pos (by rfl)]
          go_simp
          exact hK _ _ ⟨v29,v30,v31,v32,v33,v34,v35,v36,v37,v38,v39,v40,v41,v42,v43,v44,v45,v46,_,v48,v49,v50,v51,v52,v53,v54,_,_,rfl,hB,h0,h1,h2,h3,h4,h5,h6,h7,h8,h9,h10,h11,h12,h13,h14,h15,h16,h17,fun _=>rfl,h19,h20,h21,h22,h23,h24,h25,fun _=>rfl,fun _=>rfl⟩
      · simp at ho
    · intro Lq aq w2 hL hr hI
      obtain ⟨v29,v30,v31,v32,v33,v34,v35,v36,v37,v38,v39,v40,v41,v42,v43,v44,v45,v46,v47,v48,v49,v50,v51,v52,v53,v54,v55,v56,rfl,hB,h0,h1,h2,h3,h4,h5,h6,h7,h8,h9,h10,h11,h12,h13,h14,h15,h16,h17,h18,h19,h20,h21,h22,h23,h24,h25,h26,h27⟩:=hI
      obtain ⟨b0,b1,b2,b3,b4,b5,b6,b7,b8,b9,b10,b11,b12,b13,b14,b15,b16,b17,b18,b19,b20,b21,b22,b23,b24,b25,b26,b27,rfl⟩:∃ b0 b1 b2 b3 b4 b5 b6 b7 b8 b9 b10 b11 b12 b13 b14 b15 b16 b17 b18 b19 b20 b21 b22 b23 b24 b25 b26 b27,Lq=[b0,b1,b2,b3,b4,b5,b6,b7,b8,b9,b10,b11,b12,b13,b14,b15,b16,b17,b18,b19,b20,b21,b22,b23,b24,b25,b26,b27]:=by
        match Lq,hL with
        | [b0,b1,b2,b3,b4,b5,b6,b7,b8,b9,b10,b11,b12,b13,b14,b15,b16,b17,b18,b19,b20,b21,b22,b23,b24,b25,b26,b27],_=>exact ⟨b0,b1,b2,b3,b4,b5,b6,b7,b8,b9,b10,b11,b12,b13,b14,b15,b16,b17,b18,b19,b20,b21,b22,b23,b24,b25,b26,b27,rfl⟩
      have hr2:=List.filter_eq_nil_iff.1 hr
      clear hr hL
      have k0:=hr2 0 (by simp)
      have k1:=hr2 1 (by simp)
      have k2:=hr2 2 (by simp)
      have k3:=hr2 3 (by simp)
      have k4:=hr2 4 (by simp)
      have k5:=hr2 5 (by simp)
      have k6:=hr2 6 (by simp)
      have k7:=hr2 7 (by simp)
      have k8:=hr2 8 (by simp)
      have k9:=hr2 9 (by simp)
      have k10:=hr2 10 (by simp)
      have k11:=hr2 11 (by simp)
      have k12:=hr2 12 (by simp)
      have k13:=hr2 13 (by simp)
      have k14:=hr2 14 (by simp)
      have k15:=hr2 15 (by simp)
      have k16:=hr2 16 (by simp)
      have k17:=hr2 17 (by simp)
      have k18:=hr2 18 (by simp)
      have k19:=hr2 19 (by simp)
      have k20:=hr2 20 (by simp)
      have k21:=hr2 21 (by simp)
      have k22:=hr2 22 (by simp)
      have k23:=hr2 23 (by simp)
      have k24:=hr2 24 (by simp)
      have k25:=hr2 25 (by simp)
      have k26:=hr2 26 (by simp)
      have k27:=hr2 27 (by simp)
      clear hr2
      simp [Region.binds] at k0; subst k0
      simp [Region.binds] at k1; subst k1
      simp [Region.binds] at k2; subst k2
      simp [Region.binds] at k3; subst k3
      simp [Region.binds] at k4; subst k4
      simp [Region.binds] at k5; subst k5
      simp [Region.binds] at k6; subst k6
      simp [Region.binds] at k7; subst k7
      simp [Region.binds] at k8; subst k8
      simp [Region.binds] at k9; subst k9
      simp [Region.binds] at k10; subst k10
      simp [Region.binds] at k11; subst k11
      simp [Region.binds] at k12; subst k12
      simp [Region.binds] at k13; subst k13
      simp [Region.binds] at k14; subst k14
      simp [Region.binds] at k15; subst k15
      simp [Region.binds] at k16; subst k16
      simp [Region.binds] at k17; subst k17
      simp [Region.binds] at k18; subst k18
      simp [Region.binds] at k19; subst k19
      simp [Region.binds] at k20; subst k20
      simp [Region.binds] at k21; subst k21
      simp [Region.binds] at k22; subst k22
      simp [Region.binds] at k23; subst k23
      simp [Region.binds] at k24; subst k24
      simp [Region.binds] at k25; subst k25
      simp [Region.binds] at k26; subst k26
      simp [Region.binds] at k27; subst k27
      obtain rfl:=h0 rfl; obtain rfl:=h1 rfl; obtain rfl:=h2 rfl; obtain rfl:=h3 rfl; obtain rfl:=h4 rfl; obtain rfl:=h5 rfl; obtain rfl:=h6 rfl; obtain rfl:=h7 rfl; obtain rfl:=h8 rfl; obtain rfl:=h9 rfl; obtain rfl:=h10 rfl; obtain rfl:=h11 rfl; obtain rfl:=h12 rfl; obtain rfl:=h13 rfl; obtain rfl:=h14 rfl; obtain rfl:=h15 rfl; obtain rfl:=h16 rfl; obtain rfl:=h17 rfl; obtain rfl:=h18 rfl; obtain rfl:=h19 rfl; obtain rfl:=h20 rfl; obtain rfl:=h21 rfl; obtain rfl:=h22 rfl; obtain rfl:=h23 rfl; obtain rfl:=h24 rfl; obtain rfl:=h25 rfl; obtain rfl:=h26 rfl; obtain rfl:=h27 rfl
      have HBF:=qh hB
      go_wp2
      go_meet
      case rel=>exact ⟨rfl,HBF.out⟩
  case rest=>
    obtain ⟨rfl,hbx⟩:=hcut
    clear p1 p2 p3 p4 p5 HBE
    obtain ⟨wv,rfl⟩:∃ y,y=wc:=⟨_,rfl⟩
    have HB9:=qh (bchain HB0.out hbx)
    have HP9:Hid (PageAt wv q0 (.slice A I.length cap) x (.slice An L.length capn)):=qh ((HP0.out).below hbx)
    have HI9:=qh (RowsIn.below HI0.out hbx)
    have HL9:=qh ((HL0.out).below hbx)
    obtain ⟨s0,s1,s2⟩:=HP9.out.cells
    clear hbx
    cases bad with
    | true=>
      have HEV:Hid (Spn.verifyP root f e m I x L=([],[],130)):=qh (Spn.verifyP_x HM.out HNL.out HX0.out (of_decide_eq_true HBAD.out))
      go_wp2
      go_ret3
      exact RVPost.no HEV.out HB9.out
    | false=>
    have HX:Hid (¬ (x ≠ []/\((I.length:Int) ≠ m ∨ Scn.behind (I.getD (m.toNat - 1) ([],[])).1 ≠ x ∨ (e ≠ []/\¬ x < e)))):=qh (fun h=>of_decide_eq_false HBAD.out h.2)
    go_upto_region 8 with fail
    by_cases hr0:root=[]
    · have y1:(root == [])=true:=beq_iff_eq.2 hr0
      have y2:root.isEmpty=true:=by rw [hr0]; rfl
      have HEQ:Hid (Spn.verifyP root f e m I x L=if L ≠ [] ∨ I ≠ [] then ([],[],130) else ([],[],0)):=qh (by rw [Spn.verifyP_r HM.out HNL.out HX.out]; unfold Spn.restP; rw [if_pos hr0])
      clear hr0
      cases L with
      | cons y L'=>
        have HE2:=qh (HEQ.out.trans (if_pos (Or.inl (by simp))))
        have hl9:((0:Int) < ((L'.length:Int)+1)):=by omega
        clear HEQ
        go_wp2
        go_ret3
        exact RVPost.no HE2.out HB9.out
      | nil=>
        cases I with
        | cons y I'=>
          have HE2:=qh (HEQ.out.trans (if_pos (Or.inr (by simp))))
          have hl9:((0:Int) < ((I'.length:Int)+1)):=by omega
          clear HEQ
          go_wp2
          go_ret3
          exact RVPost.no HE2.out HB9.out
        | nil=>
          have HE2:=qh (HEQ.out.trans (if_neg (by simp)))
          clear HEQ
          go_wp2
          go_ret3
          exact RVPost.no HE2.out HB9.out
    have HEQ:Hid (Spn.verifyP root f e m I x L=match Spn.gather f (Spn.upTo x e) root [] ([],L) with | some (J,M)=>if M=[]/\J=I then (I,x,0) else ([],[],130) | none=>([],[],130)):=qh (by rw [Spn.verifyP_r HM.out HNL.out HX.out]; unfold Spn.restP; rw [if_neg hr0]; cases Spn.gather f (Spn.upTo x e) root [] ([],L) <;> rfl)
    have y1:(root == [])=false:=beq_eq_false_iff_ne.2 hr0
    have y2:root.isEmpty=false:=by cases root <;> simp_all
    clear hr0
    have HUP:Hid (∀ w',Calls Tryz.prog 41 #[.string ⟨x.toArray⟩,.string ⟨e.toArray⟩] w' fun r w''=>r=.returned (.string ⟨(Spn.upTo x e).toArray⟩)/\w''=w'):=qh (fun w'=>rupto_any x e w')
    have HUL:Hid ((Spn.upTo x e).length<=1000000):=qh (by unfold Spn.upTo; have h1:=HBD.out.2.2.2.2.1; have h2:=HBD.out.2.2.2.2.2; split <;> assumption)
    obtain ⟨u,hu⟩:∃ u,Spn.upTo x e=u:=⟨_,rfl⟩
    rw [hu] at HUP HUL HEQ
    clear hu
    obtain ⟨o,ho⟩:∃ o,Spn.gather f u root [] ([],L)=o:=⟨_,rfl⟩
    rw [ho] at HEQ
    go_upto_region 12 with fail
    clear y1 y2
    have HGA:Hid (∀ w',Below wv.heap.size wv w'->Calls Tryz.prog 48 #[.agg #[.slice none 0 0,.slice An L.length capn,.bool true],.string ⟨root.toArray⟩,.string ⟨#[]⟩,.string ⟨f.toArray⟩,.string ⟨u.toArray⟩] w' (RGP o wv w')):=qh (fun w' h=>by
      have h1:=rgather_any f u HBD.out.2.2.2.1 HUL.out wv L.length root [] [] L none 0 An capn w' rfl h (OwnI.nil w' w'.heap.size).at_ (HL9.out) HBD.out.1 (by have:=HBD.out.2.1; simp; omega) (by have:=HBD.out.2.1; simp; omega)
      rw [ho] at h1
      exact h1)
    have HOO:=qh ho
    clear ho
    have HZ:Hid (∀ w',Below (wv.alloc (.cells #[.slice none 0 0,.slice none 0 0,.bool false] 80)).heap.size (wv.alloc (.cells #[.slice none 0 0,.slice none 0 0,.bool false] 80)) w'->PartAt w' wv.heap.size (.slice none 0 0) (.slice none 0 0) (.bool false)):=qh (fun w' h=>PartAt.below (show PartAt _ _ _ _ _ from heap_alloc_new wv _) h)
    have BA:Below wv.heap.size wv (wv.alloc (.cells #[.slice none 0 0,.slice none 0 0,.bool false] 80)):=(Below.refl _ _).alloc (Nat.le_refl _) _
    have BD:Below wv.heap.size wv wv.drew:=(Below.refl _ _).drew
    have BAD:Below wv.heap.size wv (wv.alloc (.cells #[.slice none 0 0,.slice none 0 0,.bool false] 80)).drew:=BA.drew
    obtain ⟨c0,c1,c2⟩:=(HP9.out).cells
    have ca1:(wv.alloc (.cells #[.slice none 0 0,.slice none 0 0,.bool false] 80)).cell? ⟨q0,1,none⟩=some (.string ⟨x.toArray⟩):=(PageAt.below (HP9.out) BA).cells.2.1
    have ca2:(wv.alloc (.cells #[.slice none 0 0,.slice none 0 0,.bool false] 80)).cell? ⟨q0,2,none⟩=some (.slice An L.length capn):=(PageAt.below (HP9.out) BA).cells.2.2
    go_region_with (first | (go_at_call 41; refine (HUP.out _).mono ?_; rintro r wu ⟨rfl,rfl⟩) | (go_at_call 48; refine (HGA.out _ (by assumption)).mono ?_; rintro r w10 ⟨A1,n1,c1',A2,n2,c2',bo,rfl,hbo,hsu,hb10⟩; have HBO:=qh hbo; have HSU:=qh hsu; clear hbo hsu; have hb11:=hb10; try (replace hb11:=HZ.out _ (bchain (Below.refl _ _).drew hb10); obtain ⟨z0,z1,z2⟩:=hb11.cells; obtain ⟨f0,f1,f2⟩:=hb11.free)))
    all_goals
      first
        | (have hp:=HZ.out w10 (bchain (Below.refl _ _).drew hb10)
           obtain ⟨w13,hw13⟩:∃ w13,(((w10.setCell ⟨wv.heap.size,0,none⟩ (.slice A1 n1 c1')).setCell ⟨wv.heap.size,1,none⟩ (.slice A2 n2 c2')).setCell ⟨wv.heap.size,2,none⟩ (.bool bo))=w13:=⟨_,rfl⟩
           obtain ⟨q13,hq13⟩:∃ q13,wv.heap.size=q13:=⟨_,rfl⟩
           rw [hw13]
           have HP13:Hid (PartAt w13 q13 (.slice A1 n1 c1') (.slice A2 n2 c2') (.bool bo)):=qh (by rw [← hw13,← hq13]; exact hp.set _ _ _)
           have HB13:Hid (Below wv.heap.size wv w13):=qh (by rw [← hw13]; exact (((BAD.trans (hb10.mono BAD.size)).setCell (p:=⟨wv.heap.size,0,none⟩) (Nat.le_refl _) _).setCell (p:=⟨wv.heap.size,1,none⟩) (Nat.le_refl _) _).setCell (p:=⟨wv.heap.size,2,none⟩) (Nat.le_refl _) _)
           have HSU13:Hid (∀ u,o=some u->ItAt w13 (.slice A1 n1 c1') u.1/\StrsC wv (.slice A2 n2 c2') u.2):=qh (fun u hu=>⟨by rw [← hw13]; exact RowsAt.outF (F:=fun k=>k=wv.heap.size) (HSU.out u hu).1 (set3_out _ _ _) (fun k cs fl hk hh=>by subst hk; rw [hp] at hh; revert hh; simp),(HSU.out u hu).2⟩)
           rw [hq13]
           clear hw13 hq13 hp)
        | (obtain ⟨w13,hw13⟩:∃ w13,w10.alloc (.cells #[.slice A1 n1 c1',.slice A2 n2 c2',.bool bo] 80)=w13:=⟨_,rfl⟩
           obtain ⟨q13,hq13⟩:∃ q13,w10.heap.size=q13:=⟨_,rfl⟩
           rw [hw13]
           have hA:Below w10.heap.size w10 w13:=by rw [← hw13]; exact (Below.refl _ w10).alloc (Nat.le_refl _) _
           have HP13:Hid (PartAt w13 q13 (.slice A1 n1 c1') (.slice A2 n2 c2') (.bool bo)):=qh (by rw [← hw13,← hq13]; exact heap_alloc_new _ _)
           have HB13:Hid (Below wv.heap.size wv w13):=qh (bchain (BD.trans (hb10.mono BD.size)) hA)
           have HSU13:Hid (∀ u,o=some u->ItAt w13 (.slice A1 n1 c1') u.1/\StrsC wv (.slice A2 n2 c2') u.2):=qh (fun u hu=>⟨RowsAt.below (HSU.out u hu).1 hA,(HSU.out u hu).2⟩)
           rw [hq13]
           clear hw13 hq13 hA)
      clear hb10 hb11
      try clear z0 z1 z2 f0 f1 f2
      have HWF:=qh (bchain HB9.out HB13.out)
      obtain ⟨t0,t1,t2⟩:=HP13.out.cells
      obtain ⟨p0,p1,p2⟩:=(PageAt.below (HP9.out) HB13.out).cells
      cases o with
      | none=>
        obtain rfl:bo=false:=HBO.out
        have HE2:Hid (Spn.verifyP root f e m I x L=([],[],130)):=qh HEQ.out
        go_wp2
        go_ret3
        exact RVPost.no HE2.out HWF.out
      | some uu=>
        obtain rfl:bo=true:=HBO.out
        obtain ⟨J,M⟩:=uu
        have HE2:Hid (Spn.verifyP root f e m I x L=if M=[]/\J=I then (I,x,0) else ([],[],130)):=qh HEQ.out
        obtain ⟨hj13,hm13⟩:=HSU13.out _ rfl
        dsimp only at hj13 hm13
        obtain ⟨A1',c1'',hz1,hcap1,-⟩:=RowsAt.form hj13
        obtain ⟨rfl,rfl,rfl⟩:A1=A1'/\n1=J.length/\c1'=c1'':=by simpa using hz1
        obtain ⟨A2',c2'',hz2,-⟩:=hm13.form
        obtain ⟨rfl,rfl,rfl⟩:A2=A2'/\n2=M.length/\c2'=c2'':=by simpa using hz2
        have HJ13:=qh hj13
        clear hj13 hm13 hz1 hz2 HEQ HOO HSU HSU13 HGA HBO hcap1
        cases M with
        | cons y M'=>
          have HE3:Hid (Spn.verifyP root f e m I x L=([],[],130)):=qh (HE2.out.trans (if_neg (fun h=>by cases h.1)))
          have hl9:((0:Int) < ((M'.length:Int)+1)):=by omega
          clear HE2
          go_wp2
          go_ret3
          exact RVPost.no HE3.out HWF.out
        | nil=>
        by_cases hJI:J.length=I.length
        case neg=>
          have HE3:Hid (Spn.verifyP root f e m I x L=([],[],130)):=qh (HE2.out.trans (if_neg (fun h=>hJI (by rw [h.2]))))
          have hb9:((J.length:Int) != (I.length:Int))=true:=by rw [bne_iff_ne]; omega
          clear hJI HE2
          go_wp2
          go_ret3
          exact RVPost.no HE3.out HWF.out
        have HE3:Hid (Spn.verifyP root f e m I x L=if J=I then (I,x,0) else ([],[],130)):=qh (HE2.out.trans (by by_cases h:J=I <;> simp [h]))
        have HLEN:=qh hJI
        have hb9:((J.length:Int) != (I.length:Int))=false:=by rw [hJI,bne_self_eq_false]
        clear hJI HE2
        go_upto_region 15 with fail
        clear hb9 t0 t1 t2 p0 p1 p2
        go_wp2
        go_loopw [14] (fun iv wr=>∃ k:Nat,k<=I.length/\iv=.int .i64 k/\J.take k=I.take k/\Below w13.heap.size w13 wr) (fun iv _=>I.length - (intOf iv).toNat)
        case atStart=>exact ⟨0,Nat.zero_le _,rfl,rfl,Below.refl _ _⟩
        case round=>
          obtain ⟨k,hk,rfl,htk,hb⟩:=hrel
          obtain ⟨t0,t1,t2⟩:=(HP13.out.below hb).cells
          obtain ⟨p0,p1,p2⟩:=(PageAt.below (PageAt.below (HP9.out) HB13.out) hb).cells
          have HWR:=qh (bchain HWF.out hb)
          have HTK:=qh htk
          by_cases hlt:k < I.length
          · have h1:(k:Int) < (I.length:Int):=by omega
            have h2:(k:Int) < (J.length:Int):=by have:=HLEN.out; omega
            have h0:(0:Int)<=(k:Int):=by omega
            have hnb:(k:Int)<=100000:=by have:=HBD.out.2.2.1; omega
            obtain ⟨bj,oj,hAj,j0,j1⟩:=ItAt.at (RowsAt.below HJ13.out hb) k (by have:=HLEN.out; omega)
            subst hAj
            obtain ⟨bi,oi,hAi,i0,i1⟩:=ItIn.at (RowsIn.below (RowsIn.below (HI9.out) HB13.out) hb) k hlt
            subst hAi
            obtain ⟨⟨jk,jv⟩,hjx⟩:∃ y,J[k]'(by have:=HLEN.out; omega)=y:=⟨_,rfl⟩
            obtain ⟨⟨ik,iv⟩,hix⟩:∃ y,I[k]=y:=⟨_,rfl⟩
            have HST:Hid ((jk,jv)=(ik,iv)->J.take (k+1)=I.take (k+1)):=qh (fun h=>by
              rw [List.take_succ_eq_append_getElem hlt,List.take_succ_eq_append_getElem (by have:=HLEN.out; omega),hjx,hix,h,htk])
            have HNE:Hid ((jk,jv) ≠ (ik,iv)->J ≠ I):=qh (fun h he=>h (by subst he; rw [← hjx,← hix]))
            rw [hjx] at j0 j1
            rw [hix] at i0 i1
            dsimp only at j0 j1 i0 i1
            have HBW:=qh hb
            clear hjx hix htk hb
            by_cases hkk:jk=ik
            · by_cases hvv:jv=iv
              · have e1:(jk == ik)=true:=beq_iff_eq.2 hkk
                have e2:(jv == iv)=true:=beq_iff_eq.2 hvv
                have HS2:=qh (HST.out (by rw [hkk,hvv]))
                have HB2:=qh HBW.out.drew
                clear hkk hvv
                go_wp2
                go_quiet (fail)
                go_wp2
                go_roundw
                case rel=>exact ⟨k+1,by omega,by go_num,HS2.out,bel_drewN HBW.out _⟩
                case measure=>simp [intOf]; omega
              · have e1:(jk == ik)=true:=beq_iff_eq.2 hkk
                have e2:(jv == iv)=false:=beq_eq_false_iff_ne.2 hvv
                have HE4:Hid (Spn.verifyP root f e m I x L=([],[],130)):=qh (by rw [HE3.out,if_neg (HNE.out (fun h=>hvv (congrArg Prod.snd h)))])
                clear hkk hvv
                go_wp2
                go_quiet (fail)
                go_wp2
                try rw [Exit.noGoto_ret]
                go_ret3
                exact RVPost.no HE4.out (bel_drewN HWR.out _)
            · have e1:(jk == ik)=false:=beq_eq_false_iff_ne.2 hkk
              have HE4:Hid (Spn.verifyP root f e m I x L=([],[],130)):=qh (by rw [HE3.out,if_neg (HNE.out (fun h=>hkk (congrArg Prod.fst h)))])
              clear hkk
              go_wp2
              go_quiet (fail)
              go_wp2
              try rw [Exit.noGoto_ret]
              go_ret3
              exact RVPost.no HE4.out (bel_drewN HWR.out _)
          · obtain rfl:k=I.length:=by omega
            have h1:¬ ((I.length:Int) < (I.length:Int)):=by omega
            have HJI:Hid (J=I):=qh (by have h:=htk; rw [List.take_length,← HLEN.out,List.take_length] at h; exact h)
            have HE4:Hid (Spn.verifyP root f e m I x L=(J,x,0)):=qh (by rw [HE3.out,if_pos HJI.out,HJI.out])
            have HJR:Hid (∀ n,ItAt (wr.drewN n) (.slice A1 J.length c1') J):=qh (fun n=>RowsAt.below (RowsAt.below HJ13.out hb) (bel_drewN (Below.refl _ _) n))
            have HLI:Hid ((J.length:Int)=(I.length:Int)):=qh (by have:=HLEN.out; omega)
            clear htk hb hlt hk
            go_wp2
            go_quiet (fail)
            go_wp2
            go_ret3
            exact RVPost.yes HE4.out (HJR.out _) (bel_drewN HWR.out _)
end
section
open Go.RowKit
open Sto (T St)
theorem rspverify_ok:RVOk:=fun root f e m zi I x zn L w hi hv hL hl hil hf he hxl=>by
  by_cases hx:(1<=m/\m<=16)/\¬ m < (I.length:Int)/\x ≠ []
  · exact rspverify_X root f e m zi I x zn L w hi hv hL hl hil hf he hxl hx.1 hx.2.1 hx.2.2
  · exact rspverify_A root f e m zi I x zn L w hi hv hL hl hil hf he hxl hx
end
section
open Go.RowKit
open Sto (T St)
theorem spanVerifies_law (root:ByteArray) (f e:T) (m:Int) (zi:Value) (I:St) (x:T) (zn:Value) (L:List T) (w:World) (_:root.size<=maxLen) (_:(Lit.int .i64 m).wf=true) (hI:ItIn w zi I) (_:I.length<=maxLen) (hL:StrsC w zn L) (hm:L.length<=maxLen) (hT:Tab w):
    Calls Tryz.prog 4 #[.string root,.agg #[.string ⟨f.toArray⟩,.string ⟨e.toArray⟩,.int .i64 m],.agg #[zi,.string ⟨x.toArray⟩,zn]] w fun r w'=>r=.returned (.bool true)/\Below w.heap.size w w':=by
  obtain ⟨k,rfl⟩:=bytes_list root
  exact spanVerifies_walk rspverify_ok k f e m zi I x zn L w hI hL hm hT
end
section
open Go.ChangeShapes Go.WideShapes Go.ChangeAt Go.RowKit
theorem gK : Tryz.prog.globalNamed "pharos/sha.constants" = some 0 := by kernel_rfl
theorem tK:(Tryz.prog.globals[0]?).map (·.type)=some 224:=by kernel_rfl
theorem cK:Tryz.prog.cellsOf 224=64:=by kernel_rfl
theorem cW:Tryz.prog.cellsOf 172=1:=by kernel_rfl
def laidK : List (String × DataW Unit) := [("pharos/sha.constants", Rows.laid_pharos_sha_constants)]
theorem tab_of_laid {W:World} (h:laidMetH Tryz.prog laidK W):Tab W:=by
  rw [MakeChecks.laidMetH_plain _ _ _ (by kernel_rfl)] at h
  obtain ⟨g,t,cs,fuel,p,hg,hty,hvar,hd⟩:=Lib.laidMet.reads h (.head _)
  obtain rfl:=Option.some.inj (gK.symm.trans hg)
  obtain rfl:=Option.some.inj (tK.symm.trans hty)
  have hd':DataW.trod (fun _=>()) Tryz.prog W 0 (fun _=>true) false fuel 224 cs.toList=some (Lib.tabData .u32 Sha.kTab,p):=hd
  have hcs:=Lib.cells_of_tab Tryz.underlying224 Tryz.underlying172 cW cK hd'
  intro i hi
  have hk:i < Sha.kTab.length:=hi
  rw [World.var?_cell hg hvar i,← Array.getElem?_toList,hcs]
  simp [hk]
theorem door_met (os:Os) (args:Array Value):laidMetH Tryz.prog laidK ((World.doorLaid Tryz.prog 400 os).forCall (fun _ _=>0) ⟨#[],args,[]⟩).memory:=
  laidMetH_of_parts3 (fuel:=8) (laidMet_of_run' 8 (by kernel_rfl) (by kernel_rfl)) (by kernel_rfl) (by kernel_rfl)
end
end Go.Proofs.YtaficmboooaknaaGreatDoor
