import Derived.Test.YtaficmboooaknaaGreatDoorPp01
import Derived.Test.YtaficmboooaknaaGreatDoorPp17
import Derived.Test.YtaficmboooaknaaGreatDoorPp16
set_option maxRecDepth 100000
set_option maxHeartbeats 16000000
namespace Go.Proofs.YtaficmboooaknaaGreatDoor
section
open Go.RowKit
open Sto (T St)
theorem spgoes_A (zi:Value) (I:St) (x:T) (zn:Value) (e:T) (m:Int) (w:World) (hi:ItIn w zi I) (hm:1<=m/\m<=16) (hl:(I.length:Int)=m) (hx:x=Scn.behind (I.getD (m.toNat - 1) ([],[])).1) (he:e=[]):
    Calls Tryz.prog 43 #[.agg #[zi,.string ⟨x.toArray⟩,zn],.string ⟨e.toArray⟩,.int .i64 m] w fun r w'=>r=.returned (.bool (Spn.goesP I x e m))/\Below w.heap.size w w':=by
  obtain ⟨A,cap,rfl,-,-⟩:=hi.form
  obtain ⟨w0,hw0⟩:∃ w0,w.alloc (.cells #[.slice A I.length cap,.string ⟨x.toArray⟩,zn] 31)=w0:=⟨_,rfl⟩
  have hb0:Below w.heap.size w w0:=by rw [← hw0]; exact (Below.refl _ w).alloc (Nat.le_refl _) _
  have ra:w0.heap[w.heap.size]?=some (.cells #[.slice A I.length cap,.string ⟨x.toArray⟩,zn] 31 (0,0)):=by rw [← hw0]; exact heap_alloc_new w _
  have HP:Hid (∀ w',Below w0.heap.size w0 w'->w'.cell? ⟨w.heap.size,0,none⟩=some (.slice A I.length cap)/\w'.cell? ⟨w.heap.size,1,none⟩=some (.string ⟨x.toArray⟩)):=qh (fun w' h=>by
    have r:=(h.block _ (lt_of_heap ra)).trans ra
    exact ⟨by rw [cell_of_row _ _ 0 _ _ _ r]; rfl,by rw [cell_of_row _ _ 1 _ _ _ r]; rfl⟩)
  have HB:=qh hb0
  have hi0:=RowsIn.below hi hb0
  unfold Spn.goesP
  obtain ⟨n,hn⟩:∃ n,I.length=n+1:=⟨I.length - 1,by omega⟩
  have hmn:m=(n:Int)+1:=by omega
  subst hmn
  have hgd:I.getD (((n:Int)+1).toNat - 1) ([],[])=I[n]'(by omega):=by
    rw [show ((n:Int)+1).toNat - 1=n from by omega,List.getD_eq_getElem?_getD,List.getElem?_eq_getElem (by omega),Option.getD_some]
  rw [decide_eq_true hl,Bool.true_and,hgd]
  rw [hgd] at hx
  obtain ⟨b,o,rfl,n0,n1⟩:=ItIn.at hi0 n (by omega)
  obtain ⟨⟨kx,vx⟩,hkx⟩:∃ y,I[n]'(by omega)=y:=⟨_,rfl⟩
  rw [hkx] at n0 n1 hx ⊢
  dsimp only at n0 n1 hx ⊢
  have HIT:Hid (∀ w',Below w0.heap.size w0 w'->w'.cell? ⟨b,o+n * 2,none⟩=some (.string ⟨kx.toArray⟩)):=qh (fun w' h=>(h.cell (World.block_lt_of_cell? _ _ n0)).trans n0)
  obtain ⟨bk,hbk⟩:∃ bk,Scn.behind kx=bk:=⟨_,rfl⟩
  have HBH:Hid (∀ w',Below w0.heap.size w0 w'->Calls Tryz.prog 65 #[.string ⟨kx.toArray⟩] w' fun r w''=>r=.returned (.string ⟨bk.toArray⟩)/\Below w0.heap.size w0 w''):=qh (fun w' h=>by
    have h1:=behind_all kx w'
    rw [hbk] at h1
    exact h1.mono fun r w'' ⟨q1,q2⟩=>⟨q1,bchain h q2⟩)
  rw [hbk] at hx ⊢
  have HS:Hid (∀ w',Below w0.heap.size w0 w'->Below w0.heap.size w0 w'/\w'.cell? ⟨w.heap.size,0,none⟩=some (.slice (some ⟨b,o,none⟩) (n+1) cap)/\w'.cell? ⟨w.heap.size,1,none⟩=some (.string ⟨x.toArray⟩)/\w'.cell? ⟨b,o+n * 2,none⟩=some (.string ⟨kx.toArray⟩)):=qh (fun w' h=>
    ⟨h,by rw [← hn]; exact (HP.out w' h).1,(HP.out w' h).2,HIT.out w' h⟩)
  rw [hn] at hw0 ⊢
  have BD:Below w0.heap.size w0 w0.drew:=(Below.refl _ _).drew
  have y0:(0:Int)<=(n:Int):=by omega
  have y1:(n:Int) < (n:Int)+1:=by omega
  have y2:(n:Int)<=100:=by omega
  have y3:IntKind.i64.wrap ((n:Int)+1 - 1)=(n:Int):=by unfold IntKind.wrap; simp [IntKind.bits,IntKind.signed]; omega
  have y4:IntKind.i64.wrap (n:Int)=(n:Int):=by unfold IntKind.wrap; simp [IntKind.bits,IntKind.signed]; omega
  clear hl hi hb0 ra hi0 hgd n0 n1 hkx hbk hn hm HP HIT
  have q1:(x == bk)=true:=beq_iff_eq.2 hx
  rw [decide_eq_true hx,Bool.true_and]
  clear hx
  have q2:(e == [])=true:=beq_iff_eq.2 he
  have q3:e.isEmpty=true:=by rw [he]; rfl
  rw [decide_eq_true he,Bool.true_or]
  clear he
  go_enter Tryz.func43,Tryz.ntmps43
  go_upto_region 1 with fail
  clear hw0
  refine region_inv (fun L a w'=>∃ v7 v8 v9 v10 v11 v12 v13 v14 v15 v16 v17 v18 v19 v20 v21 v22 v23 v24 v25 v26 v27 v28 v29 v30 v31 v32 v33 v34 v6:Value,a=⟨#[.agg #[.slice (some ⟨b,o,none⟩) (n+1) cap,.string ⟨x.toArray⟩,zn],.string ⟨e.toArray⟩,.int .i64 ((n:Int)+1),.pointer (some ⟨w.heap.size,0,none⟩),undef,undef,v6,v7,v8,v9,v10,v11,v12,v13,v14,v15,v16,v17,v18,v19,v20,v21,v22,v23,v24,v25,v26,v27,v28,v29,v30,v31,v32,v33,v34],[]⟩/\Below w0.heap.size w0 w'/\(L[0]?=some true->v7=.pointer (some ⟨w.heap.size,0,none⟩))/\(L[1]?=some true->v8=.slice (some ⟨b,o,none⟩) (n+1) cap)/\(L[2]?=some true->v9=.int .i64 ((n:Int)+1))/\(L[3]?=some true->v10=.int .i64 ((n:Int)+1))/\(L[4]?=some true->v11=.bool true)/\(L[5]?=some true->v12=.bool true)/\(L[6]?=some true->v13=.pointer (some ⟨w.heap.size,1,none⟩))/\(L[7]?=some true->v14=.string ⟨x.toArray⟩)/\(L[8]?=some true->v15=.pointer (some ⟨w.heap.size,0,none⟩))/\(L[9]?=some true->v16=.slice (some ⟨b,o,none⟩) (n+1) cap)/\(L[10]?=some true->v17=.int .i64 ((n:Int)+1))/\(L[11]?=some true->v18=.int .i64 (n:Int))/\(L[12]?=some true->v19=.pointer (some ⟨b,o+n * 2,none⟩))/\(L[13]?=some true->v20=.pointer (some ⟨b,o+n * 2,none⟩))/\(L[14]?=some true->v21=.string ⟨kx.toArray⟩)/\(L[15]?=some true->v22=.string ⟨bk.toArray⟩)/\(L[16]?=some true->v23=.bool true)/\(L[17]?=some true->v24=.bool true)/\(L[18]?=some true->v25=.bool true)/\(L[19]?=some true->v26=.string ⟨e.toArray⟩)/\(L[20]?=some true->v27=.bool true)/\(L[21]?=some true->v28=.bool true)/\(L[22]?=some true->v29=undef)/\(L[23]?=some true->v30=undef)/\(L[24]?=some true->v31=undef)/\(L[25]?=some true->v32=undef)/\(L[26]?=some true->v33=.bool true)/\(L[27]?=some true->v34=.bool true)/\(L[28]?=some true->v6=.bool true)) (by rfl) ?_ ?_ ?_
  · exact ⟨_,_,_,_,_,_,_,_,_,_,_,_,_,_,_,_,_,_,_,_,_,_,_,_,_,_,_,_,_,rfl,BD,by simp,by simp,by simp,by simp,by simp,by simp,by simp,by simp,by simp,by simp,by simp,by simp,by simp,by simp,by simp,by simp,by simp,by simp,by simp,by simp,by simp,by simp,by simp,by simp,by simp,by simp,by simp,by simp,by simp⟩
  · intro L a w1' hL hI j o ho hj K hK
    obtain ⟨v7,v8,v9,v10,v11,v12,v13,v14,v15,v16,v17,v18,v19,v20,v21,v22,v23,v24,v25,v26,v27,v28,v29,v30,v31,v32,v33,v34,v6,rfl,hB,h0,h1,h2,h3,h4,h5,h6,h7,h8,h9,h10,h11,h12,h13,h14,h15,h16,h17,h18,h19,h20,h21,h22,h23,h24,h25,h26,h27,h28⟩:=hI
    obtain ⟨b0,b1,b2,b3,b4,b5,b6,b7,b8,b9,b10,b11,b12,b13,b14,b15,b16,b17,b18,b19,b20,b21,b22,b23,b24,b25,b26,b27,b28,rfl⟩:∃ b0 b1 b2 b3 b4 b5 b6 b7 b8 b9 b10 b11 b12 b13 b14 b15 b16 b17 b18 b19 b20 b21 b22 b23 b24 b25 b26 b27 b28,L=[b0,b1,b2,b3,b4,b5,b6,b7,b8,b9,b10,b11,b12,b13,b14,b15,b16,b17,b18,b19,b20,b21,b22,b23,b24,b25,b26,b27,b28]:=by
      match L,hL with
      | [b0,b1,b2,b3,b4,b5,b6,b7,b8,b9,b10,b11,b12,b13,b14,b15,b16,b17,b18,b19,b20,b21,b22,b23,b24,b25,b26,b27,b28],_=>exact ⟨b0,b1,b2,b3,b4,b5,b6,b7,b8,b9,b10,b11,b12,b13,b14,b15,b16,b17,b18,b19,b20,b21,b22,b23,b24,b25,b26,b27,b28,rfl⟩
    have hi2:=(List.mem_filter.1 hj).2
    clear hj hL
    obtain ⟨-,p0,p1,p2⟩:=HS.out _ hB
    rcases j with _ | _ | _ | _ | _ | _ | _ | _ | _ | _ | _ | _ | _ | _ | _ | _ | _ | _ | _ | _ | _ | _ | _ | _ | _ | _ | _ | _ | _ | j
    · obtain rfl:=Option.some.inj ho
      clear ho hi2
      rw [if_pos (by rfl)]
      go_simp
      exact hK _ _ ⟨_,v8,v9,v10,v11,v12,v13,v14,v15,v16,v17,v18,v19,v20,v21,v22,v23,v24,v25,v26,v27,v28,v29,v30,v31,v32,v33,v34,v6,rfl,hB,fun _=>rfl,h1,h2,h3,h4,h5,h6,h7,h8,h9,h10,h11,h12,h13,h14,h15,h16,h17,h18,h19,h20,h21,h22,h23,h24,h25,h26,h27,h28⟩
    · obtain rfl:=Option.some.inj ho
      simp [Region.binds] at hi2
      obtain rfl:=h0 (by simp [hi2])
      clear ho hi2
      rw [if_pos (by rfl)]
      go_simp
      exact hK _ _ ⟨_,_,v9,v10,v11,v12,v13,v14,v15,v16,v17,v18,v19,v20,v21,v22,v23,v24,v25,v26,v27,v28,v29,v30,v31,v32,v33,v34,v6,rfl,hB,fun _=>rfl,fun _=>rfl,h2,h3,h4,h5,h6,h7,h8,h9,h10,h11,h12,h13,h14,h15,h16,h17,h18,h19,h20,h21,h22,h23,h24,h25,h26,h27,h28⟩
    · obtain rfl:=Option.some.inj ho
      simp [Region.binds] at hi2
      obtain rfl:=h1 (by simp [hi2])
      clear ho hi2
      rw [if_pos (by rfl)]
      go_simp
      exact hK _ _ ⟨v7,_,_,v10,v11,v12,v13,v14,v15,v16,v17,v18,v19,v20,v21,v22,v23,v24,v25,v26,v27,v28,v29,v30,v31,v32,v33,v34,v6,rfl,hB,h0,fun _=>rfl,fun _=>rfl,h3,h4,h5,h6,h7,h8,h9,h10,h11,h12,h13,h14,h15,h16,h17,h18,h19,h20,h21,h22,h23,h24,h25,h26,h27,h28⟩
    · obtain rfl:=Option.some.inj ho
      clear ho hi2
      rw [if_pos (by rfl)]
      go_simp
      exact hK _ _ ⟨v7,v8,v9,_,v11,v12,v13,v14,v15,v16,v17,v18,v19,v20,v21,v22,v23,v24,v25,v26,v27,v28,v29,v30,v31,v32,v33,v34,v6,rfl,hB,h0,h1,h2,fun _=>rfl,h4,h5,h6,h7,h8,h9,h10,h11,h12,h13,h14,h15,h16,h17,h18,h19,h20,h21,h22,h23,h24,h25,h26,h27,h28⟩
    · obtain rfl:=Option.some.inj ho
      simp [Region.binds] at hi2
      obtain rfl:=h2 (by simp [hi2])
      obtain rfl:=h3 (by simp [hi2])
      clear ho hi2
      rw [if_pos (by rfl)]
      go_simp
      exact hK _ _ ⟨v7,v8,_,_,_,v12,v13,v14,v15,v16,v17,v18,v19,v20,v21,v22,v23,v24,v25,v26,v27,v28,v29,v30,v31,v32,v33,v34,v6,rfl,hB,h0,h1,fun _=>rfl,fun _=>rfl,fun _=>rfl,h5,h6,h7,h8,h9,h10,h11,h12,h13,h14,h15,h16,h17,h18,h19,h20,h21,h22,h23,h24,h25,h26,h27,h28⟩
    · obtain rfl:=Option.some.inj ho
      simp [Region.binds] at hi2
      obtain rfl:=h4 (by simp [hi2])
      clear ho hi2
      rw [if_pos (by rfl)]
      go_simp
      exact hK _ _ ⟨v7,v8,v9,v10,_,_,v13,v14,v15,v16,v17,v18,v19,v20,v21,v22,v23,v24,v25,v26,v27,v28,v29,v30,v31,v32,v33,v34,v6,rfl,hB,h0,h1,h2,h3,fun _=>rfl,fun _=>rfl,h6,h7,h8,h9,h10,h11,h12,h13,h14,h15,h16,h17,h18,h19,h20,h21,h22,h23,h24,h25,h26,h27,h28⟩
    · obtain rfl:=Option.some.inj ho
      simp [Region.binds] at hi2
      obtain rfl:=h5 (by simp [hi2])
      clear ho hi2
      rw [if_pos (by rfl)]
      go_simp
      exact hK _ _ ⟨v7,v8,v9,v10,v11,_,_,v14,v15,v16,v17,v18,v19,v20,v21,v22,v23,v24,v25,v26,v27,v28,v29,v30,v31,v32,v33,v34,v6,rfl,hB,h0,h1,h2,h3,h4,fun _=>rfl,fun _=>rfl,h7,h8,h9,h10,h11,h12,h13,h14,h15,h16,h17,h18,h19,h20,h21,h22,h23,h24,h25,h26,h27,h28⟩
    · obtain rfl:=Option.some.inj ho
      simp [Region.binds] at hi2
      obtain rfl:=h6 (by simp [hi2])
      obtain rfl:=h5 (by simp [hi2])
      clear ho hi2
      rw [if_pos (by rfl)]
      go_simp
      exact hK _ _ ⟨v7,v8,v9,v10,v11,_,_,_,v15,v16,v17,v18,v19,v20,v21,v22,v23,v24,v25,v26,v27,v28,v29,v30,v31,v32,v33,v34,v6,rfl,hB,h0,h1,h2,h3,h4,fun _=>rfl,fun _=>rfl,fun _=>rfl,h8,h9,h10,h11,h12,h13,h14,h15,h16,h17,h18,h19,h20,h21,h22,h23,h24,h25,h26,h27,h28⟩
    · obtain rfl:=Option.some.inj ho
      simp [Region.binds] at hi2
      obtain rfl:=h5 (by simp [hi2])
      clear ho hi2
      rw [if_pos (by rfl)]
      go_simp
      exact hK _ _ ⟨v7,v8,v9,v10,v11,_,v13,v14,_,v16,v17,v18,v19,v20,v21,v22,v23,v24,v25,v26,v27,v28,v29,v30,v31,v32,v33,v34,v6,rfl,hB,h0,h1,h2,h3,h4,fun _=>rfl,h6,h7,fun _=>rfl,h9,h10,h11,h12,h13,h14,h15,h16,h17,h18,h19,h20,h21,h22,h23,h24,h25,h26,h27,h28⟩
    · obtain rfl:=Option.some.inj ho
      simp [Region.binds] at hi2
      obtain rfl:=h8 (by simp [hi2])
      obtain rfl:=h5 (by simp [hi2])
      clear ho hi2
      rw [if_pos (by rfl)]
      go_simp
      exact hK _ _ ⟨v7,v8,v9,v10,v11,_,v13,v14,_,_,v17,v18,v19,v20,v21,v22,v23,v24,v25,v26,v27,v28,v29,v30,v31,v32,v33,v34,v6,rfl,hB,h0,h1,h2,h3,h4,fun _=>rfl,h6,h7,fun _=>rfl,fun _=>rfl,h10,h11,h12,h13,h14,h15,h16,h17,h18,h19,h20,h21,h22,h23,h24,h25,h26,h27,h28⟩
    · obtain rfl:=Option.some.inj ho
      simp [Region.binds] at hi2
      obtain rfl:=h5 (by simp [hi2])
      clear ho hi2
      rw [if_pos (by rfl)]
      go_simp
      exact hK _ _ ⟨v7,v8,v9,v10,v11,_,v13,v14,v15,v16,_,v18,v19,v20,v21,v22,v23,v24,v25,v26,v27,v28,v29,v30,v31,v32,v33,v34,v6,rfl,hB,h0,h1,h2,h3,h4,fun _=>rfl,h6,h7,h8,h9,fun _=>rfl,h11,h12,h13,h14,h15,h16,h17,h18,h19,h20,h21,h22,h23,h24,h25,h26,h27,h28⟩
    · obtain rfl:=Option.some.inj ho
      simp [Region.binds] at hi2
      obtain rfl:=h10 (by simp [hi2])
      obtain rfl:=h5 (by simp [hi2])
      clear ho hi2
      rw [if_pos (by rfl)]
      go_simp
      exact hK _ _ ⟨v7,v8,v9,v10,v11,_,v13,v14,v15,v16,_,_,v19,v20,v21,v22,v23,v24,v25,v26,v27,v28,v29,v30,v31,v32,v33,v34,v6,rfl,hB,h0,h1,h2,h3,h4,fun _=>rfl,h6,h7,h8,h9,fun _=>rfl,fun _=>rfl,h12,h13,h14,h15,h16,h17,h18,h19,h20,h21,h22,h23,h24,h25,h26,h27,h28⟩
    · obtain rfl:=Option.some.inj ho
      simp [Region.binds] at hi2
      obtain rfl:=h9 (by simp [hi2])
      obtain rfl:=h11 (by simp [hi2])
      obtain rfl:=h5 (by simp [hi2])
      clear ho hi2
      rw [if_pos (by rfl)]
      go_simp
      exact hK _ _ ⟨v7,v8,v9,v10,v11,_,v13,v14,v15,_,v17,_,_,v20,v21,v22,v23,v24,v25,v26,v27,v28,v29,v30,v31,v32,v33,v34,v6,rfl,hB,h0,h1,h2,h3,h4,fun _=>rfl,h6,h7,h8,fun _=>rfl,h10,fun _=>rfl,fun _=>rfl,h13,h14,h15,h16,h17,h18,h19,h20,h21,h22,h23,h24,h25,h26,h27,h28⟩
    · obtain rfl:=Option.some.inj ho
      simp [Region.binds] at hi2
      obtain rfl:=h12 (by simp [hi2])
      obtain rfl:=h5 (by simp [hi2])
      clear ho hi2
      rw [if_pos (by rfl)]
      go_simp
      exact hK _ _ ⟨v7,v8,v9,v10,v11,_,v13,v14,v15,v16,v17,v18,_,_,v21,v22,v23,v24,v25,v26,v27,v28,v29,v30,v31,v32,v33,v34,v6,rfl,hB,h0,h1,h2,h3,h4,fun _=>rfl,h6,h7,h8,h9,h10,h11,fun _=>rfl,fun _=>rfl,h14,h15,h16,h17,h18,h19,h20,h21,h22,h23,h24,h25,h26,h27,h28⟩
    · obtain rfl:=Option.some.inj ho
      simp [Region.binds] at hi2
      obtain rfl:=h13 (by simp [hi2])
      obtain rfl:=h5 (by simp [hi2])
      clear ho hi2
      rw [if_pos (by rfl)]
      go_simp
      exact hK _ _ ⟨v7,v8,v9,v10,v11,_,v13,v14,v15,v16,v17,v18,v19,_,_,v22,v23,v24,v25,v26,v27,v28,v29,v30,v31,v32,v33,v34,v6,rfl,hB,h0,h1,h2,h3,h4,fun _=>rfl,h6,h7,h8,h9,h10,h11,h12,fun _=>rfl,fun _=>rfl,h15,h16,h17,h18,h19,h20,h21,h22,h23,h24,h25,h26,h27,h28⟩
    · obtain rfl:=Option.some.inj ho
      simp [Region.binds] at hi2
      obtain rfl:=h14 (by simp [hi2])
      obtain rfl:=h5 (by simp [hi2])
      clear ho hi2
      rw [if_pos (by rfl)]
      go_simp
      refine (HBH.out _ hB).mono ?_
      rintro r w2 ⟨rfl,hB2⟩
      exact hK _ _ ⟨v7,v8,v9,v10,v11,_,v13,v14,v15,v16,v17,v18,v19,v20,_,_,v23,v24,v25,v26,v27,v28,v29,v30,v31,v32,v33,v34,v6,rfl,hB2,h0,h1,h2,h3,h4,fun _=>rfl,h6,h7,h8,h9,h10,h11,h12,h13,fun _=>rfl,fun _=>rfl,h16,h17,h18,h19,h20,h21,h22,h23,h24,h25,h26,h27,h28⟩
    · obtain rfl:=Option.some.inj ho
      simp [Region.binds] at hi2
      obtain rfl:=h7 (by simp [hi2])
      obtain rfl:=h15 (by simp [hi2])
      obtain rfl:=h5 (by simp [hi2])
      clear ho hi2
      rw [if_pos (by rfl)]
      go_simp
      exact hK _ _ ⟨v7,v8,v9,v10,v11,_,v13,_,v15,v16,v17,v18,v19,v20,v21,_,_,v24,v25,v26,v27,v28,v29,v30,v31,v32,v33,v34,v6,rfl,hB,h0,h1,h2,h3,h4,fun _=>rfl,h6,fun _=>rfl,h8,h9,h10,h11,h12,h13,h14,fun _=>rfl,fun _=>rfl,h17,h18,h19,h20,h21,h22,h23,h24,h25,h26,h27,h28⟩
    · obtain rfl:=Option.some.inj ho
      simp [Region.binds] at hi2
      obtain rfl:=h5 (by simp [hi2])
      obtain rfl:=h16 (by simp [hi2])
      clear ho hi2
      rw [if_pos (by rfl)]
      go_simp
      exact hK _ _ ⟨v7,v8,v9,v10,v11,_,v13,v14,v15,v16,v17,v18,v19,v20,v21,v22,_,_,v25,v26,v27,v28,v29,v30,v31,v32,v33,v34,v6,rfl,hB,h0,h1,h2,h3,h4,fun _=>rfl,h6,h7,h8,h9,h10,h11,h12,h13,h14,h15,fun _=>rfl,fun _=>rfl,h18,h19,h20,h21,h22,h23,h24,h25,h26,h27,h28⟩
    · obtain rfl:=Option.some.inj ho
      simp [Region.binds] at hi2
      obtain rfl:=h17 (by simp [hi2])
      clear ho hi2
      rw [if_pos (by rfl)]
      go_simp
      exact hK _ _ ⟨v7,v8,v9,v10,v11,v12,v13,v14,v15,v16,v17,v18,v19,v20,v21,v22,v23,_,_,v26,v27,v28,v29,v30,v31,v32,v33,v34,v6,rfl,hB,h0,h1,h2,h3,h4,h5,h6,h7,h8,h9,h10,h11,h12,h13,h14,h15,h16,fun _=>rfl,fun _=>rfl,h19,h20,h21,h22,h23,h24,h25,h26,h27,h28⟩
    · obtain rfl:=Option.some.inj ho
      simp [Region.binds] at hi2
      obtain rfl:=h18 (by simp [hi2])
      clear ho hi2
      rw [if_pos (by rfl)]
      go_simp
      exact hK _ _ ⟨v7,v8,v9,v10,v11,v12,v13,v14,v15,v16,v17,v18,v19,v20,v21,v22,v23,v24,_,_,v27,v28,v29,v30,v31,v32,v33,v34,v6,rfl,hB,h0,h1,h2,h3,h4,h5,h6,h7,h8,h9,h10,h11,h12,h13,h14,h15,h16,h17,fun _=>rfl,fun _=>rfl,h20,h21,h22,h23,h24,h25,h26,h27,h28⟩
    · obtain rfl:=Option.some.inj ho
      simp [Region.binds] at hi2
      obtain rfl:=h19 (by simp [hi2])
      obtain rfl:=h18 (by simp [hi2])
      clear ho hi2
      rw [if_pos (by rfl)]
      go_simp
      exact hK _ _ ⟨v7,v8,v9,v10,v11,v12,v13,v14,v15,v16,v17,v18,v19,v20,v21,v22,v23,v24,_,_,_,v28,v29,v30,v31,v32,v33,v34,v6,rfl,hB,h0,h1,h2,h3,h4,h5,h6,h7,h8,h9,h10,h11,h12,h13,h14,h15,h16,h17,fun _=>rfl,fun _=>rfl,fun _=>rfl,h21,h22,h23,h24,h25,h26,h27,h28⟩
    · obtain rfl:=Option.some.inj ho
      simp [Region.binds] at hi2
      obtain rfl:=h20 (by simp [hi2])
      obtain rfl:=h18 (by simp [hi2])
      clear ho hi2
      rw [if_pos (by rfl)]
      go_simp
      exact hK _ _ ⟨v7,v8,v9,v10,v11,v12,v13,v14,v15,v16,v17,v18,v19,v20,v21,v22,v23,v24,_,v26,_,_,v29,v30,v31,v32,v33,v34,v6,rfl,hB,h0,h1,h2,h3,h4,h5,h6,h7,h8,h9,h10,h11,h12,h13,h14,h15,h16,h17,fun _=>rfl,h19,fun _=>rfl,fun _=>rfl,h22,h23,h24,h25,h26,h27,h28⟩
    · obtain rfl:=Option.some.inj ho
      simp [Region.binds] at hi2
      obtain rfl:=h21 (by simp [hi2])
      clear ho hi2
      rw [if_neg (by rw [show Region.wanted _ _=false from rfl]; decide)]
      exact hK _ _ ⟨v7,v8,v9,v10,v11,v12,v13,v14,v15,v16,v17,v18,v19,v20,v21,v22,v23,v24,v25,v26,v27,_,_,v30,v31,v32,v33,v34,v6,rfl,hB,h0,h1,h2,h3,h4,h5,h6,h7,h8,h9,h10,h11,h12,h13,h14,h15,h16,h17,h18,h19,h20,fun _=>rfl,fun _=>rfl,h23,h24,h25,h26,h27,h28⟩
    · obtain rfl:=Option.some.inj ho
      simp [Region.binds] at hi2
      obtain rfl:=h21 (by simp [hi2])
      clear ho hi2
      rw [if_neg (by rw [show Region.wanted _ _=false from rfl]; decide)]
      exact hK _ _ ⟨v7,v8,v9,v10,v11,v12,v13,v14,v15,v16,v17,v18,v19,v20,v21,v22,v23,v24,v25,v26,v27,_,v29,_,v31,v32,v33,v34,v6,rfl,hB,h0,h1,h2,h3,h4,h5,h6,h7,h8,h9,h10,h11,h12,h13,h14,h15,h16,h17,h18,h19,h20,fun _=>rfl,h22,fun _=>rfl,h24,h25,h26,h27,h28⟩
    · obtain rfl:=Option.some.inj ho
      simp [Region.binds] at hi2
      obtain rfl:=h21 (by simp [hi2])
      clear ho hi2
      rw [if_neg (by rw [show Region.wanted _ _=false from rfl]; decide)]
      exact hK _ _ ⟨v7,v8,v9,v10,v11,v12,v13,v14,v15,v16,v17,v18,v19,v20,v21,v22,v23,v24,v25,v26,v27,_,v29,v30,_,v32,v33,v34,v6,rfl,hB,h0,h1,h2,h3,h4,h5,h6,h7,h8,h9,h10,h11,h12,h13,h14,h15,h16,h17,h18,h19,h20,fun _=>rfl,h22,h23,fun _=>rfl,h25,h26,h27,h28⟩
    · obtain rfl:=Option.some.inj ho
      simp [Region.binds] at hi2
      obtain rfl:=h21 (by simp [hi2])
      clear ho hi2
      rw [if_neg (by rw [show Region.wanted _ _=false from rfl]; decide)]
      exact hK _ _ ⟨v7,v8,v9,v10,v11,v12,v13,v14,v15,v16,v17,v18,v19,v20,v21,v22,v23,v24,v25,v26,v27,_,v29,v30,v31,_,v33,v34,v6,rfl,hB,h0,h1,h2,h3,h4,h5,h6,h7,h8,h9,h10,h11,h12,h13,h14,h15,h16,h17,h18,h19,h20,fun _=>rfl,h22,h23,h24,fun _=>rfl,h26,h27,h28⟩
    · obtain rfl:=Option.some.inj ho
      simp [Region.binds] at hi2
      obtain rfl:=h21 (by simp [hi2])
      obtain rfl:=h25 (by simp [hi2])
      obtain rfl:=h18 (by simp [hi2])
      clear ho hi2
      rw [if_pos (by rfl)]
      go_simp
      exact hK _ _ ⟨v7,v8,v9,v10,v11,v12,v13,v14,v15,v16,v17,v18,v19,v20,v21,v22,v23,v24,_,v26,v27,_,v29,v30,v31,_,_,v34,v6,rfl,hB,h0,h1,h2,h3,h4,h5,h6,h7,h8,h9,h10,h11,h12,h13,h14,h15,h16,h17,fun _=>rfl,h19,h20,fun _=>rfl,h22,h23,h24,fun _=>rfl,fun _=>rfl,h27,h28⟩
    · obtain rfl:=Option.some.inj ho
      simp [Region.binds] at hi2
      obtain rfl:=h18 (by simp [hi2])
      obtain rfl:=h26 (by simp [hi2])
      clear ho hi2
      rw [if_pos (by rfl)]
      go_simp
      exact hK _ _ ⟨v7,v8,v9,v10,v11,v12,v13,v14,v15,v16,v17,v18,v19,v20,v21,v22,v23,v24,_,v26,v27,v28,v29,v30,v31,v32,_,_,v6,rfl,hB,h0,h1,h2,h3,h4,h5,h6,h7,h8,h9,h10,h11,h12,h13,h14,h15,h16,h17,fun _=>rfl,h19,h20,h21,h22,h23,h24,h25,fun _=>rfl,fun _=>rfl,h28⟩
    · obtain rfl:=Option.some.inj ho
      simp [Region.binds] at hi2
      obtain rfl:=h27 (by simp [hi2])
      clear ho hi2
      rw [if_pos (by rfl)]
      go_simp
      exact hK _ _ ⟨v7,v8,v9,v10,v11,v12,v13,v14,v15,v16,v17,v18,v19,v20,v21,v22,v23,v24,v25,v26,v27,v28,v29,v30,v31,v32,v33,_,_,rfl,hB,h0,h1,h2,h3,h4,h5,h6,h7,h8,h9,h10,h11,h12,h13,h14,h15,h16,h17,h18,h19,h20,h21,h22,h23,h24,h25,h26,fun _=>rfl,fun _=>rfl⟩
    · simp at ho
  · intro L a w2 hL hr hI
    obtain ⟨v7,v8,v9,v10,v11,v12,v13,v14,v15,v16,v17,v18,v19,v20,v21,v22,v23,v24,v25,v26,v27,v28,v29,v30,v31,v32,v33,v34,v6,rfl,hB,h0,h1,h2,h3,h4,h5,h6,h7,h8,h9,h10,h11,h12,h13,h14,h15,h16,h17,h18,h19,h20,h21,h22,h23,h24,h25,h26,h27,h28⟩:=hI
    obtain ⟨b0,b1,b2,b3,b4,b5,b6,b7,b8,b9,b10,b11,b12,b13,b14,b15,b16,b17,b18,b19,b20,b21,b22,b23,b24,b25,b26,b27,b28,rfl⟩:∃ b0 b1 b2 b3 b4 b5 b6 b7 b8 b9 b10 b11 b12 b13 b14 b15 b16 b17 b18 b19 b20 b21 b22 b23 b24 b25 b26 b27 b28,L=[b0,b1,b2,b3,b4,b5,b6,b7,b8,b9,b10,b11,b12,b13,b14,b15,b16,b17,b18,b19,b20,b21,b22,b23,b24,b25,b26,b27,b28]:=by
      match L,hL with
      | [b0,b1,b2,b3,b4,b5,b6,b7,b8,b9,b10,b11,b12,b13,b14,b15,b16,b17,b18,b19,b20,b21,b22,b23,b24,b25,b26,b27,b28],_=>exact ⟨b0,b1,b2,b3,b4,b5,b6,b7,b8,b9,b10,b11,b12,b13,b14,b15,b16,b17,b18,b19,b20,b21,b22,b23,b24,b25,b26,b27,b28,rfl⟩
    have hr2:=List.filter_eq_nil_iff.1 hr
    clear hr hL
    have k0:=hr2 0 (by simp)
    have k1:=hr2 1 (by simp)
    have k2:=hr2 2 (by simp)
    have k3:=hr2 3 (by simp)
    have k4:=hr2 4 (by simp)
    have k5:=hr2 5 (by simp)
    have k6:=hr2 6 (by simp)
    have k7:=hr2 7 (by simp)
    have k8:=hr2 8 (by simp)
    have k9:=hr2 9 (by simp)
    have k10:=hr2 10 (by simp)
    have k11:=hr2 11 (by simp)
    have k12:=hr2 12 (by simp)
    have k13:=hr2 13 (by simp)
    have k14:=hr2 14 (by simp)
    have k15:=hr2 15 (by simp)
    have k16:=hr2 16 (by simp)
    have k17:=hr2 17 (by simp)
    have k18:=hr2 18 (by simp)
    have k19:=hr2 19 (by simp)
    have k20:=hr2 20 (by simp)
    have k21:=hr2 21 (by simp)
    have k22:=hr2 22 (by simp)
    have k23:=hr2 23 (by simp)
    have k24:=hr2 24 (by simp)
    have k25:=hr2 25 (by simp)
    have k26:=hr2 26 (by simp)
    have k27:=hr2 27 (by simp)
    have k28:=hr2 28 (by simp)
    clear hr2
    simp [Region.binds] at k0
    subst k0
    simp [Region.binds] at k1
    subst k1
    simp [Region.binds] at k2
    subst k2
    simp [Region.binds] at k3
    subst k3
    simp [Region.binds] at k4
    subst k4
    simp [Region.binds] at k5
    subst k5
    simp [Region.binds] at k6
    subst k6
    simp [Region.binds] at k7
    subst k7
    simp [Region.binds] at k8
    subst k8
    simp [Region.binds] at k9
    subst k9
    simp [Region.binds] at k10
    subst k10
    simp [Region.binds] at k11
    subst k11
    simp [Region.binds] at k12
    subst k12
    simp [Region.binds] at k13
    subst k13
    simp [Region.binds] at k14
    subst k14
    simp [Region.binds] at k15
    subst k15
    simp [Region.binds] at k16
    subst k16
    simp [Region.binds] at k17
    subst k17
    simp [Region.binds] at k18
    subst k18
    simp [Region.binds] at k19
    subst k19
    simp [Region.binds] at k20
    subst k20
    simp [Region.binds] at k21
    subst k21
    simp [Region.binds] at k22
    subst k22
    simp [Region.binds] at k23
    subst k23
    simp [Region.binds] at k24
    subst k24
    simp [Region.binds] at k25
    subst k25
    simp [Region.binds] at k26
    subst k26
    simp [Region.binds] at k27
    subst k27
    simp [Region.binds] at k28
    subst k28
    obtain rfl:=h0 rfl
    obtain rfl:=h1 rfl
    obtain rfl:=h2 rfl
    obtain rfl:=h3 rfl
    obtain rfl:=h4 rfl
    obtain rfl:=h5 rfl
    obtain rfl:=h6 rfl
    obtain rfl:=h7 rfl
    obtain rfl:=h8 rfl
    obtain rfl:=h9 rfl
    obtain rfl:=h10 rfl
    obtain rfl:=h11 rfl
    obtain rfl:=h12 rfl
    obtain rfl:=h13 rfl
    obtain rfl:=h14 rfl
    obtain rfl:=h15 rfl
    obtain rfl:=h16 rfl
    obtain rfl:=h17 rfl
    obtain rfl:=h18 rfl
    obtain rfl:=h19 rfl
    obtain rfl:=h20 rfl
    obtain rfl:=h21 rfl
    obtain rfl:=h22 rfl
    obtain rfl:=h23 rfl
    obtain rfl:=h24 rfl
    obtain rfl:=h25 rfl
    obtain rfl:=h26 rfl
    obtain rfl:=h27 rfl
    obtain rfl:=h28 rfl
    have HBF:=qh (bchain HB.out hB)
    go_wp2
    go_ret
    exact ⟨rfl,HBF.out⟩
end
section
open Go.RowKit
open Sto (T St)
theorem spgoes_B (zi:Value) (I:St) (x:T) (zn:Value) (e:T) (m:Int) (w:World) (hi:ItIn w zi I) (hm:1<=m/\m<=16) (hl:(I.length:Int)=m) (hx:x=Scn.behind (I.getD (m.toNat - 1) ([],[])).1) (he:¬ e=[]):
    Calls Tryz.prog 43 #[.agg #[zi,.string ⟨x.toArray⟩,zn],.string ⟨e.toArray⟩,.int .i64 m] w fun r w'=>r=.returned (.bool (Spn.goesP I x e m))/\Below w.heap.size w w':=by
  obtain ⟨A,cap,rfl,-,-⟩:=hi.form
  obtain ⟨w0,hw0⟩:∃ w0,w.alloc (.cells #[.slice A I.length cap,.string ⟨x.toArray⟩,zn] 31)=w0:=⟨_,rfl⟩
  have hb0:Below w.heap.size w w0:=by rw [← hw0]; exact (Below.refl _ w).alloc (Nat.le_refl _) _
  have ra:w0.heap[w.heap.size]?=some (.cells #[.slice A I.length cap,.string ⟨x.toArray⟩,zn] 31 (0,0)):=by rw [← hw0]; exact heap_alloc_new w _
  have HP:Hid (∀ w',Below w0.heap.size w0 w'->w'.cell? ⟨w.heap.size,0,none⟩=some (.slice A I.length cap)/\w'.cell? ⟨w.heap.size,1,none⟩=some (.string ⟨x.toArray⟩)):=qh (fun w' h=>by
    have r:=(h.block _ (lt_of_heap ra)).trans ra
    exact ⟨by rw [cell_of_row _ _ 0 _ _ _ r]; rfl,by rw [cell_of_row _ _ 1 _ _ _ r]; rfl⟩)
  have HB:=qh hb0
  have hi0:=RowsIn.below hi hb0
  unfold Spn.goesP
  obtain ⟨n,hn⟩:∃ n,I.length=n+1:=⟨I.length - 1,by omega⟩
  have hmn:m=(n:Int)+1:=by omega
  subst hmn
  have hgd:I.getD (((n:Int)+1).toNat - 1) ([],[])=I[n]'(by omega):=by
    rw [show ((n:Int)+1).toNat - 1=n from by omega,List.getD_eq_getElem?_getD,List.getElem?_eq_getElem (by omega),Option.getD_some]
  rw [decide_eq_true hl,Bool.true_and,hgd]
  rw [hgd] at hx
  obtain ⟨b,o,rfl,n0,n1⟩:=ItIn.at hi0 n (by omega)
  obtain ⟨⟨kx,vx⟩,hkx⟩:∃ y,I[n]'(by omega)=y:=⟨_,rfl⟩
  rw [hkx] at n0 n1 hx ⊢
  dsimp only at n0 n1 hx ⊢
  have HIT:Hid (∀ w',Below w0.heap.size w0 w'->w'.cell? ⟨b,o+n * 2,none⟩=some (.string ⟨kx.toArray⟩)):=qh (fun w' h=>(h.cell (World.block_lt_of_cell? _ _ n0)).trans n0)
  obtain ⟨bk,hbk⟩:∃ bk,Scn.behind kx=bk:=⟨_,rfl⟩
  have HBH:Hid (∀ w',Below w0.heap.size w0 w'->Calls Tryz.prog 65 #[.string ⟨kx.toArray⟩] w' fun r w''=>r=.returned (.string ⟨bk.toArray⟩)/\Below w0.heap.size w0 w''):=qh (fun w' h=>by
    have h1:=behind_all kx w'
    rw [hbk] at h1
    exact h1.mono fun r w'' ⟨q1,q2⟩=>⟨q1,bchain h q2⟩)
  rw [hbk] at hx ⊢
  have HS:Hid (∀ w',Below w0.heap.size w0 w'->Below w0.heap.size w0 w'/\w'.cell? ⟨w.heap.size,0,none⟩=some (.slice (some ⟨b,o,none⟩) (n+1) cap)/\w'.cell? ⟨w.heap.size,1,none⟩=some (.string ⟨x.toArray⟩)/\w'.cell? ⟨b,o+n * 2,none⟩=some (.string ⟨kx.toArray⟩)):=qh (fun w' h=>
    ⟨h,by rw [← hn]; exact (HP.out w' h).1,(HP.out w' h).2,HIT.out w' h⟩)
  rw [hn] at hw0 ⊢
  have BD:Below w0.heap.size w0 w0.drew:=(Below.refl _ _).drew
  have y0:(0:Int)<=(n:Int):=by omega
  have y1:(n:Int) < (n:Int)+1:=by omega
  have y2:(n:Int)<=100:=by omega
  have y3:IntKind.i64.wrap ((n:Int)+1 - 1)=(n:Int):=by unfold IntKind.wrap; simp [IntKind.bits,IntKind.signed]; omega
  have y4:IntKind.i64.wrap (n:Int)=(n:Int):=by unfold IntKind.wrap; simp [IntKind.bits,IntKind.signed]; omega
  clear hl hi hb0 ra hi0 hgd n0 n1 hkx hbk hn hm HP HIT
  have q1:(x == bk)=true:=beq_iff_eq.2 hx
  rw [decide_eq_true hx,Bool.true_and]
  clear hx
  have q2:(e == [])=false:=beq_eq_false_iff_ne.2 he
  have q3:e.isEmpty=false:=by cases e <;> simp_all
  obtain ⟨lt,hlt⟩:∃ lt,decide (x < e)=lt:=⟨_,rfl⟩
  have q4:Op.bytesLess x e=lt:=by rw [less_lt]; exact hlt
  rw [decide_eq_false he,Bool.false_or,hlt]
  clear he hlt
  go_enter Tryz.func43,Tryz.ntmps43
  go_upto_region 1 with fail
  clear hw0
  refine region_inv (fun L a w'=>∃ v7 v8 v9 v10 v11 v12 v13 v14 v15 v16 v17 v18 v19 v20 v21 v22 v23 v24 v25 v26 v27 v28 v29 v30 v31 v32 v33 v34 v6:Value,a=⟨#[.agg #[.slice (some ⟨b,o,none⟩) (n+1) cap,.string ⟨x.toArray⟩,zn],.string ⟨e.toArray⟩,.int .i64 ((n:Int)+1),.pointer (some ⟨w.heap.size,0,none⟩),undef,undef,v6,v7,v8,v9,v10,v11,v12,v13,v14,v15,v16,v17,v18,v19,v20,v21,v22,v23,v24,v25,v26,v27,v28,v29,v30,v31,v32,v33,v34],[]⟩/\Below w0.heap.size w0 w'/\(L[0]?=some true->v7=.pointer (some ⟨w.heap.size,0,none⟩))/\(L[1]?=some true->v8=.slice (some ⟨b,o,none⟩) (n+1) cap)/\(L[2]?=some true->v9=.int .i64 ((n:Int)+1))/\(L[3]?=some true->v10=.int .i64 ((n:Int)+1))/\(L[4]?=some true->v11=.bool true)/\(L[5]?=some true->v12=.bool true)/\(L[6]?=some true->v13=.pointer (some ⟨w.heap.size,1,none⟩))/\(L[7]?=some true->v14=.string ⟨x.toArray⟩)/\(L[8]?=some true->v15=.pointer (some ⟨w.heap.size,0,none⟩))/\(L[9]?=some true->v16=.slice (some ⟨b,o,none⟩) (n+1) cap)/\(L[10]?=some true->v17=.int .i64 ((n:Int)+1))/\(L[11]?=some true->v18=.int .i64 (n:Int))/\(L[12]?=some true->v19=.pointer (some ⟨b,o+n * 2,none⟩))/\(L[13]?=some true->v20=.pointer (some ⟨b,o+n * 2,none⟩))/\(L[14]?=some true->v21=.string ⟨kx.toArray⟩)/\(L[15]?=some true->v22=.string ⟨bk.toArray⟩)/\(L[16]?=some true->v23=.bool true)/\(L[17]?=some true->v24=.bool true)/\(L[18]?=some true->v25=.bool true)/\(L[19]?=some true->v26=.string ⟨e.toArray⟩)/\(L[20]?=some true->v27=.bool false)/\(L[21]?=some true->v28=.bool false)/\(L[22]?=some true->v29=.pointer (some ⟨w.heap.size,1,none⟩))/\(L[23]?=some true->v30=.string ⟨x.toArray⟩)/\(L[24]?=some true->v31=.string ⟨e.toArray⟩)/\(L[25]?=some true->v32=.bool lt)/\(L[26]?=some true->v33=.bool lt)/\(L[27]?=some true->v34=.bool lt)/\(L[28]?=some true->v6=.bool lt)) (by rfl) ?_ ?_ ?_
  · exact ⟨_,_,_,_,_,_,_,_,_,_,_,_,_,_,_,_,_,_,_,_,_,_,_,_,_,_,_,_,_,rfl,BD,by simp,by simp,by simp,by simp,by simp,by simp,by simp,by simp,by simp,by simp,by simp,by simp,by simp,by simp,by simp,by simp,by simp,by simp,by simp,by simp,by simp,by simp,by simp,by simp,by simp,by simp,by simp,by simp,by simp⟩
  · intro L a w1' hL hI j o ho hj K hK
    obtain ⟨v7,v8,v9,v10,v11,v12,v13,v14,v15,v16,v17,v18,v19,v20,v21,v22,v23,v24,v25,v26,v27,v28,v29,v30,v31,v32,v33,v34,v6,rfl,hB,h0,h1,h2,h3,h4,h5,h6,h7,h8,h9,h10,h11,h12,h13,h14,h15,h16,h17,h18,h19,h20,h21,h22,h23,h24,h25,h26,h27,h28⟩:=hI
    obtain ⟨b0,b1,b2,b3,b4,b5,b6,b7,b8,b9,b10,b11,b12,b13,b14,b15,b16,b17,b18,b19,b20,b21,b22,b23,b24,b25,b26,b27,b28,rfl⟩:∃ b0 b1 b2 b3 b4 b5 b6 b7 b8 b9 b10 b11 b12 b13 b14 b15 b16 b17 b18 b19 b20 b21 b22 b23 b24 b25 b26 b27 b28,L=[b0,b1,b2,b3,b4,b5,b6,b7,b8,b9,b10,b11,b12,b13,b14,b15,b16,b17,b18,b19,b20,b21,b22,b23,b24,b25,b26,b27,b28]:=by
      match L,hL with
      | [b0,b1,b2,b3,b4,b5,b6,b7,b8,b9,b10,b11,b12,b13,b14,b15,b16,b17,b18,b19,b20,b21,b22,b23,b24,b25,b26,b27,b28],_=>exact ⟨b0,b1,b2,b3,b4,b5,b6,b7,b8,b9,b10,b11,b12,b13,b14,b15,b16,b17,b18,b19,b20,b21,b22,b23,b24,b25,b26,b27,b28,rfl⟩
    have hi2:=(List.mem_filter.1 hj).2
    clear hj hL
    obtain ⟨-,p0,p1,p2⟩:=HS.out _ hB
    rcases j with _ | _ | _ | _ | _ | _ | _ | _ | _ | _ | _ | _ | _ | _ | _ | _ | _ | _ | _ | _ | _ | _ | _ | _ | _ | _ | _ | _ | _ | j
    · obtain rfl:=Option.some.inj ho
      clear ho hi2
      rw [if_pos (by rfl)]
      go_simp
      exact hK _ _ ⟨_,v8,v9,v10,v11,v12,v13,v14,v15,v16,v17,v18,v19,v20,v21,v22,v23,v24,v25,v26,v27,v28,v29,v30,v31,v32,v33,v34,v6,rfl,hB,fun _=>rfl,h1,h2,h3,h4,h5,h6,h7,h8,h9,h10,h11,h12,h13,h14,h15,h16,h17,h18,h19,h20,h21,h22,h23,h24,h25,h26,h27,h28⟩
    · obtain rfl:=Option.some.inj ho
      simp [Region.binds] at hi2
      obtain rfl:=h0 (by simp [hi2])
      clear ho hi2
      rw [if_pos (by rfl)]
      go_simp
      exact hK _ _ ⟨_,_,v9,v10,v11,v12,v13,v14,v15,v16,v17,v18,v19,v20,v21,v22,v23,v24,v25,v26,v27,v28,v29,v30,v31,v32,v33,v34,v6,rfl,hB,fun _=>rfl,fun _=>rfl,h2,h3,h4,h5,h6,h7,h8,h9,h10,h11,h12,h13,h14,h15,h16,h17,h18,h19,h20,h21,h22,h23,h24,h25,h26,h27,h28⟩
    · obtain rfl:=Option.some.inj ho
      simp [Region.binds] at hi2
      obtain rfl:=h1 (by simp [hi2])
      clear ho hi2
      rw [if_pos (by rfl)]
      go_simp
      exact hK _ _ ⟨v7,_,_,v10,v11,v12,v13,v14,v15,v16,v17,v18,v19,v20,v21,v22,v23,v24,v25,v26,v27,v28,v29,v30,v31,v32,v33,v34,v6,rfl,hB,h0,fun _=>rfl,fun _=>rfl,h3,h4,h5,h6,h7,h8,h9,h10,h11,h12,h13,h14,h15,h16,h17,h18,h19,h20,h21,h22,h23,h24,h25,h26,h27,h28⟩
    · obtain rfl:=Option.some.inj ho
      clear ho hi2
      rw [if_pos (by rfl)]
      go_simp
      exact hK _ _ ⟨v7,v8,v9,_,v11,v12,v13,v14,v15,v16,v17,v18,v19,v20,v21,v22,v23,v24,v25,v26,v27,v28,v29,v30,v31,v32,v33,v34,v6,rfl,hB,h0,h1,h2,fun _=>rfl,h4,h5,h6,h7,h8,h9,h10,h11,h12,h13,h14,h15,h16,h17,h18,h19,h20,h21,h22,h23,h24,h25,h26,h27,h28⟩
    · obtain rfl:=Option.some.inj ho
      simp [Region.binds] at hi2
      obtain rfl:=h2 (by simp [hi2])
      obtain rfl:=h3 (by simp [hi2])
      clear ho hi2
      rw [if_pos (by rfl)]
      go_simp
      exact hK _ _ ⟨v7,v8,_,_,_,v12,v13,v14,v15,v16,v17,v18,v19,v20,v21,v22,v23,v24,v25,v26,v27,v28,v29,v30,v31,v32,v33,v34,v6,rfl,hB,h0,h1,fun _=>rfl,fun _=>rfl,fun _=>rfl,h5,h6,h7,h8,h9,h10,h11,h12,h13,h14,h15,h16,h17,h18,h19,h20,h21,h22,h23,h24,h25,h26,h27,h28⟩
    · obtain rfl:=Option.some.inj ho
      simp [Region.binds] at hi2
      obtain rfl:=h4 (by simp [hi2])
      clear ho hi2
      rw [if_pos (by rfl)]
      go_simp
      exact hK _ _ ⟨v7,v8,v9,v10,_,_,v13,v14,v15,v16,v17,v18,v19,v20,v21,v22,v23,v24,v25,v26,v27,v28,v29,v30,v31,v32,v33,v34,v6,rfl,hB,h0,h1,h2,h3,fun _=>rfl,fun _=>rfl,h6,h7,h8,h9,h10,h11,h12,h13,h14,h15,h16,h17,h18,h19,h20,h21,h22,h23,h24,h25,h26,h27,h28⟩
    · obtain rfl:=Option.some.inj ho
      simp [Region.binds] at hi2
      obtain rfl:=h5 (by simp [hi2])
      clear ho hi2
      rw [if_pos (by rfl)]
      go_simp
      exact hK _ _ ⟨v7,v8,v9,v10,v11,_,_,v14,v15,v16,v17,v18,v19,v20,v21,v22,v23,v24,v25,v26,v27,v28,v29,v30,v31,v32,v33,v34,v6,rfl,hB,h0,h1,h2,h3,h4,fun _=>rfl,fun _=>rfl,h7,h8,h9,h10,h11,h12,h13,h14,h15,h16,h17,h18,h19,h20,h21,h22,h23,h24,h25,h26,h27,h28⟩
    · obtain rfl:=Option.some.inj ho
      simp [Region.binds] at hi2
      obtain rfl:=h6 (by simp [hi2])
      obtain rfl:=h5 (by simp [hi2])
      clear ho hi2
      rw [if_pos (by rfl)]
      go_simp
      exact hK _ _ ⟨v7,v8,v9,v10,v11,_,_,_,v15,v16,v17,v18,v19,v20,v21,v22,v23,v24,v25,v26,v27,v28,v29,v30,v31,v32,v33,v34,v6,rfl,hB,h0,h1,h2,h3,h4,fun _=>rfl,fun _=>rfl,fun _=>rfl,h8,h9,h10,h11,h12,h13,h14,h15,h16,h17,h18,h19,h20,h21,h22,h23,h24,h25,h26,h27,h28⟩
    · obtain rfl:=Option.some.inj ho
      simp [Region.binds] at hi2
      obtain rfl:=h5 (by simp [hi2])
      clear ho hi2
      rw [if_pos (by rfl)]
      go_simp
      exact hK _ _ ⟨v7,v8,v9,v10,v11,_,v13,v14,_,v16,v17,v18,v19,v20,v21,v22,v23,v24,v25,v26,v27,v28,v29,v30,v31,v32,v33,v34,v6,rfl,hB,h0,h1,h2,h3,h4,fun _=>rfl,h6,h7,fun _=>rfl,h9,h10,h11,h12,h13,h14,h15,h16,h17,h18,h19,h20,h21,h22,h23,h24,h25,h26,h27,h28⟩
    · obtain rfl:=Option.some.inj ho
      simp [Region.binds] at hi2
      obtain rfl:=h8 (by simp [hi2])
      obtain rfl:=h5 (by simp [hi2])
      clear ho hi2
      rw [if_pos (by rfl)]
      go_simp
      exact hK _ _ ⟨v7,v8,v9,v10,v11,_,v13,v14,_,_,v17,v18,v19,v20,v21,v22,v23,v24,v25,v26,v27,v28,v29,v30,v31,v32,v33,v34,v6,rfl,hB,h0,h1,h2,h3,h4,fun _=>rfl,h6,h7,fun _=>rfl,fun _=>rfl,h10,h11,h12,h13,h14,h15,h16,h17,h18,h19,h20,h21,h22,h23,h24,h25,h26,h27,h28⟩
    · obtain rfl:=Option.some.inj ho
      simp [Region.binds] at hi2
      obtain rfl:=h5 (by simp [hi2])
      clear ho hi2
      rw [if_pos (by rfl)]
      go_simp
      exact hK _ _ ⟨v7,v8,v9,v10,v11,_,v13,v14,v15,v16,_,v18,v19,v20,v21,v22,v23,v24,v25,v26,v27,v28,v29,v30,v31,v32,v33,v34,v6,rfl,hB,h0,h1,h2,h3,h4,fun _=>rfl,h6,h7,h8,h9,fun _=>rfl,h11,h12,h13,h14,h15,h16,h17,h18,h19,h20,h21,h22,h23,h24,h25,h26,h27,h28⟩
    · obtain rfl:=Option.some.inj ho
      simp [Region.binds] at hi2
      obtain rfl:=h10 (by simp [hi2])
      obtain rfl:=h5 (by simp [hi2])
      clear ho hi2
      rw [if_pos (by rfl)]
      go_simp
      exact hK _ _ ⟨v7,v8,v9,v10,v11,_,v13,v14,v15,v16,_,_,v19,v20,v21,v22,v23,v24,v25,v26,v27,v28,v29,v30,v31,v32,v33,v34,v6,rfl,hB,h0,h1,h2,h3,h4,fun _=>rfl,h6,h7,h8,h9,fun _=>rfl,fun _=>rfl,h12,h13,h14,h15,h16,h17,h18,h19,h20,h21,h22,h23,h24,h25,h26,h27,h28⟩
    · obtain rfl:=Option.some.inj ho
      simp [Region.binds] at hi2
      obtain rfl:=h9 (by simp [hi2])
      obtain rfl:=h11 (by simp [hi2])
      obtain rfl:=h5 (by simp [hi2])
      clear ho hi2
      rw [if_pos (by rfl)]
      go_simp
      exact hK _ _ ⟨v7,v8,v9,v10,v11,_,v13,v14,v15,_,v17,_,_,v20,v21,v22,v23,v24,v25,v26,v27,v28,v29,v30,v31,v32,v33,v34,v6,rfl,hB,h0,h1,h2,h3,h4,fun _=>rfl,h6,h7,h8,fun _=>rfl,h10,fun _=>rfl,fun _=>rfl,h13,h14,h15,h16,h17,h18,h19,h20,h21,h22,h23,h24,h25,h26,h27,h28⟩
    · obtain rfl:=Option.some.inj ho
      simp [Region.binds] at hi2
      obtain rfl:=h12 (by simp [hi2])
      obtain rfl:=h5 (by simp [hi2])
      clear ho hi2
      rw [if_pos (by rfl)]
      go_simp
      exact hK _ _ ⟨v7,v8,v9,v10,v11,_,v13,v14,v15,v16,v17,v18,_,_,v21,v22,v23,v24,v25,v26,v27,v28,v29,v30,v31,v32,v33,v34,v6,rfl,hB,h0,h1,h2,h3,h4,fun _=>rfl,h6,h7,h8,h9,h10,h11,fun _=>rfl,fun _=>rfl,h14,h15,h16,h17,h18,h19,h20,h21,h22,h23,h24,h25,h26,h27,h28⟩
    · obtain rfl:=Option.some.inj ho
      simp [Region.binds] at hi2
      obtain rfl:=h13 (by simp [hi2])
      obtain rfl:=h5 (by simp [hi2])
      clear ho hi2
      rw [if_pos (by rfl)]
      go_simp
      exact hK _ _ ⟨v7,v8,v9,v10,v11,_,v13,v14,v15,v16,v17,v18,v19,_,_,v22,v23,v24,v25,v26,v27,v28,v29,v30,v31,v32,v33,v34,v6,rfl,hB,h0,h1,h2,h3,h4,fun _=>rfl,h6,h7,h8,h9,h10,h11,h12,fun _=>rfl,fun _=>rfl,h15,h16,h17,h18,h19,h20,h21,h22,h23,h24,h25,h26,h27,h28⟩
    · obtain rfl:=Option.some.inj ho
      simp [Region.binds] at hi2
      obtain rfl:=h14 (by simp [hi2])
      obtain rfl:=h5 (by simp [hi2])
      clear ho hi2
      rw [if_pos (by rfl)]
      go_simp
      refine (HBH.out _ hB).mono ?_
      rintro r w2 ⟨rfl,hB2⟩
      exact hK _ _ ⟨v7,v8,v9,v10,v11,_,v13,v14,v15,v16,v17,v18,v19,v20,_,_,v23,v24,v25,v26,v27,v28,v29,v30,v31,v32,v33,v34,v6,rfl,hB2,h0,h1,h2,h3,h4,fun _=>rfl,h6,h7,h8,h9,h10,h11,h12,h13,fun _=>rfl,fun _=>rfl,h16,h17,h18,h19,h20,h21,h22,h23,h24,h25,h26,h27,h28⟩
    · obtain rfl:=Option.some.inj ho
      simp [Region.binds] at hi2
      obtain rfl:=h7 (by simp [hi2])
      obtain rfl:=h15 (by simp [hi2])
      obtain rfl:=h5 (by simp [hi2])
      clear ho hi2
      rw [if_pos (by rfl)]
      go_simp
      exact hK _ _ ⟨v7,v8,v9,v10,v11,_,v13,_,v15,v16,v17,v18,v19,v20,v21,_,_,v24,v25,v26,v27,v28,v29,v30,v31,v32,v33,v34,v6,rfl,hB,h0,h1,h2,h3,h4,fun _=>rfl,h6,fun _=>rfl,h8,h9,h10,h11,h12,h13,h14,fun _=>rfl,fun _=>rfl,h17,h18,h19,h20,h21,h22,h23,h24,h25,h26,h27,h28⟩
    · obtain rfl:=Option.some.inj ho
      simp [Region.binds] at hi2
      obtain rfl:=h5 (by simp [hi2])
      obtain rfl:=h16 (by simp [hi2])
      clear ho hi2
      rw [if_pos (by rfl)]
      go_simp
      exact hK _ _ ⟨v7,v8,v9,v10,v11,_,v13,v14,v15,v16,v17,v18,v19,v20,v21,v22,_,_,v25,v26,v27,v28,v29,v30,v31,v32,v33,v34,v6,rfl,hB,h0,h1,h2,h3,h4,fun _=>rfl,h6,h7,h8,h9,h10,h11,h12,h13,h14,h15,fun _=>rfl,fun _=>rfl,h18,h19,h20,h21,h22,h23,h24,h25,h26,h27,h28⟩
    · obtain rfl:=Option.some.inj ho
      simp [Region.binds] at hi2
      obtain rfl:=h17 (by simp [hi2])
      clear ho hi2
      rw [if_pos (by rfl)]
      go_simp
      exact hK _ _ ⟨v7,v8,v9,v10,v11,v12,v13,v14,v15,v16,v17,v18,v19,v20,v21,v22,v23,_,_,v26,v27,v28,v29,v30,v31,v32,v33,v34,v6,rfl,hB,h0,h1,h2,h3,h4,h5,h6,h7,h8,h9,h10,h11,h12,h13,h14,h15,h16,fun _=>rfl,fun _=>rfl,h19,h20,h21,h22,h23,h24,h25,h26,h27,h28⟩
    · obtain rfl:=Option.some.inj ho
      simp [Region.binds] at hi2
      obtain rfl:=h18 (by simp [hi2])
      clear ho hi2
      rw [if_pos (by rfl)]
      go_simp
      exact hK _ _ ⟨v7,v8,v9,v10,v11,v12,v13,v14,v15,v16,v17,v18,v19,v20,v21,v22,v23,v24,_,_,v27,v28,v29,v30,v31,v32,v33,v34,v6,rfl,hB,h0,h1,h2,h3,h4,h5,h6,h7,h8,h9,h10,h11,h12,h13,h14,h15,h16,h17,fun _=>rfl,fun _=>rfl,h20,h21,h22,h23,h24,h25,h26,h27,h28⟩
    · obtain rfl:=Option.some.inj ho
      simp [Region.binds] at hi2
      obtain rfl:=h19 (by simp [hi2])
      obtain rfl:=h18 (by simp [hi2])
      clear ho hi2
      rw [if_pos (by rfl)]
      go_simp
      exact hK _ _ ⟨v7,v8,v9,v10,v11,v12,v13,v14,v15,v16,v17,v18,v19,v20,v21,v22,v23,v24,_,_,_,v28,v29,v30,v31,v32,v33,v34,v6,rfl,hB,h0,h1,h2,h3,h4,h5,h6,h7,h8,h9,h10,h11,h12,h13,h14,h15,h16,h17,fun _=>rfl,fun _=>rfl,fun _=>rfl,h21,h22,h23,h24,h25,h26,h27,h28⟩
    · obtain rfl:=Option.some.inj ho
      simp [Region.binds] at hi2
      obtain rfl:=h20 (by simp [hi2])
      obtain rfl:=h18 (by simp [hi2])
      clear ho hi2
      rw [if_pos (by rfl)]
      go_simp
      exact hK _ _ ⟨v7,v8,v9,v10,v11,v12,v13,v14,v15,v16,v17,v18,v19,v20,v21,v22,v23,v24,_,v26,_,_,v29,v30,v31,v32,v33,v34,v6,rfl,hB,h0,h1,h2,h3,h4,h5,h6,h7,h8,h9,h10,h11,h12,h13,h14,h15,h16,h17,fun _=>rfl,h19,fun _=>rfl,fun _=>rfl,h22,h23,h24,h25,h26,h27,h28⟩
    · obtain rfl:=Option.some.inj ho
      simp [Region.binds] at hi2
      obtain rfl:=h21 (by simp [hi2])
      clear ho hi2
      rw [if_pos (by rfl)]
      go_simp
      exact hK _ _ ⟨v7,v8,v9,v10,v11,v12,v13,v14,v15,v16,v17,v18,v19,v20,v21,v22,v23,v24,v25,v26,v27,_,_,v30,v31,v32,v33,v34,v6,rfl,hB,h0,h1,h2,h3,h4,h5,h6,h7,h8,h9,h10,h11,h12,h13,h14,h15,h16,h17,h18,h19,h20,fun _=>rfl,fun _=>rfl,h23,h24,h25,h26,h27,h28⟩
    · obtain rfl:=Option.some.inj ho
      simp [Region.binds] at hi2
      obtain rfl:=h22 (by simp [hi2])
      obtain rfl:=h21 (by simp [hi2])
      clear ho hi2
      rw [if_pos (by rfl)]
      go_simp
      exact hK _ _ ⟨v7,v8,v9,v10,v11,v12,v13,v14,v15,v16,v17,v18,v19,v20,v21,v22,v23,v24,v25,v26,v27,_,_,_,v31,v32,v33,v34,v6,rfl,hB,h0,h1,h2,h3,h4,h5,h6,h7,h8,h9,h10,h11,h12,h13,h14,h15,h16,h17,h18,h19,h20,fun _=>rfl,fun _=>rfl,fun _=>rfl,h24,h25,h26,h27,h28⟩
    · obtain rfl:=Option.some.inj ho
      simp [Region.binds] at hi2
      obtain rfl:=h21 (by simp [hi2])
      clear ho hi2
      rw [if_pos (by rfl)]
      go_simp
      exact hK _ _ ⟨v7,v8,v9,v10,v11,v12,v13,v14,v15,v16,v17,v18,v19,v20,v21,v22,v23,v24,v25,v26,v27,_,v29,v30,_,v32,v33,v34,v6,rfl,hB,h0,h1,h2,h3,h4,h5,h6,h7,h8,h9,h10,h11,h12,h13,h14,h15,h16,h17,h18,h19,h20,fun _=>rfl,h22,h23,fun _=>rfl,h25,h26,h27,h28⟩
    · obtain rfl:=Option.some.inj ho
      simp [Region.binds] at hi2
      obtain rfl:=h23 (by simp [hi2])
      obtain rfl:=h24 (by simp [hi2])
      obtain rfl:=h21 (by simp [hi2])
      clear ho hi2
      rw [if_pos (by rfl)]
      go_simp
      exact hK _ _ ⟨v7,v8,v9,v10,v11,v12,v13,v14,v15,v16,v17,v18,v19,v20,v21,v22,v23,v24,v25,v26,v27,_,v29,_,_,_,v33,v34,v6,rfl,hB,h0,h1,h2,h3,h4,h5,h6,h7,h8,h9,h10,h11,h12,h13,h14,h15,h16,h17,h18,h19,h20,fun _=>rfl,h22,fun _=>rfl,fun _=>rfl,fun _=>rfl,h26,h27,h28⟩
    · obtain rfl:=Option.some.inj ho
      simp [Region.binds] at hi2
      obtain rfl:=h21 (by simp [hi2])
      obtain rfl:=h25 (by simp [hi2])
      obtain rfl:=h18 (by simp [hi2])
      clear ho hi2
      rw [if_pos (by rfl)]
      go_simp
      exact hK _ _ ⟨v7,v8,v9,v10,v11,v12,v13,v14,v15,v16,v17,v18,v19,v20,v21,v22,v23,v24,_,v26,v27,_,v29,v30,v31,_,_,v34,v6,rfl,hB,h0,h1,h2,h3,h4,h5,h6,h7,h8,h9,h10,h11,h12,h13,h14,h15,h16,h17,fun _=>rfl,h19,h20,fun _=>rfl,h22,h23,h24,fun _=>rfl,fun _=>rfl,h27,h28⟩
    · obtain rfl:=Option.some.inj ho
      simp [Region.binds] at hi2
      obtain rfl:=h18 (by simp [hi2])
      obtain rfl:=h26 (by simp [hi2])
      clear ho hi2
      rw [if_pos (by rfl)]
      go_simp
      exact hK _ _ ⟨v7,v8,v9,v10,v11,v12,v13,v14,v15,v16,v17,v18,v19,v20,v21,v22,v23,v24,_,v26,v27,v28,v29,v30,v31,v32,_,_,v6,rfl,hB,h0,h1,h2,h3,h4,h5,h6,h7,h8,h9,h10,h11,h12,h13,h14,h15,h16,h17,fun _=>rfl,h19,h20,h21,h22,h23,h24,h25,fun _=>rfl,fun _=>rfl,h28⟩
    · obtain rfl:=Option.some.inj ho
      simp [Region.binds] at hi2
      obtain rfl:=h27 (by simp [hi2])
      clear ho hi2
      rw [if_pos (by rfl)]
      go_simp
      exact hK _ _ ⟨v7,v8,v9,v10,v11,v12,v13,v14,v15,v16,v17,v18,v19,v20,v21,v22,v23,v24,v25,v26,v27,v28,v29,v30,v31,v32,v33,_,_,rfl,hB,h0,h1,h2,h3,h4,h5,h6,h7,h8,h9,h10,h11,h12,h13,h14,h15,h16,h17,h18,h19,h20,h21,h22,h23,h24,h25,h26,fun _=>rfl,fun _=>rfl⟩
    · simp at ho
  · intro L a w2 hL hr hI
    obtain ⟨v7,v8,v9,v10,v11,v12,v13,v14,v15,v16,v17,v18,v19,v20,v21,v22,v23,v24,v25,v26,v27,v28,v29,v30,v31,v32,v33,v34,v6,rfl,hB,h0,h1,h2,h3,h4,h5,h6,h7,h8,h9,h10,h11,h12,h13,h14,h15,h16,h17,h18,h19,h20,h21,h22,h23,h24,h25,h26,h27,h28⟩:=hI
    obtain ⟨b0,b1,b2,b3,b4,b5,b6,b7,b8,b9,b10,b11,b12,b13,b14,b15,b16,b17,b18,b19,b20,b21,b22,b23,b24,b25,b26,b27,b28,rfl⟩:∃ b0 b1 b2 b3 b4 b5 b6 b7 b8 b9 b10 b11 b12 b13 b14 b15 b16 b17 b18 b19 b20 b21 b22 b23 b24 b25 b26 b27 b28,L=[b0,b1,b2,b3,b4,b5,b6,b7,b8,b9,b10,b11,b12,b13,b14,b15,b16,b17,b18,b19,b20,b21,b22,b23,b24,b25,b26,b27,b28]:=by
      match L,hL with
      | [b0,b1,b2,b3,b4,b5,b6,b7,b8,b9,b10,b11,b12,b13,b14,b15,b16,b17,b18,b19,b20,b21,b22,b23,b24,b25,b26,b27,b28],_=>exact ⟨b0,b1,b2,b3,b4,b5,b6,b7,b8,b9,b10,b11,b12,b13,b14,b15,b16,b17,b18,b19,b20,b21,b22,b23,b24,b25,b26,b27,b28,rfl⟩
    have hr2:=List.filter_eq_nil_iff.1 hr
    clear hr hL
    have k0:=hr2 0 (by simp)
    have k1:=hr2 1 (by simp)
    have k2:=hr2 2 (by simp)
    have k3:=hr2 3 (by simp)
    have k4:=hr2 4 (by simp)
    have k5:=hr2 5 (by simp)
    have k6:=hr2 6 (by simp)
    have k7:=hr2 7 (by simp)
    have k8:=hr2 8 (by simp)
    have k9:=hr2 9 (by simp)
    have k10:=hr2 10 (by simp)
    have k11:=hr2 11 (by simp)
    have k12:=hr2 12 (by simp)
    have k13:=hr2 13 (by simp)
    have k14:=hr2 14 (by simp)
    have k15:=hr2 15 (by simp)
    have k16:=hr2 16 (by simp)
    have k17:=hr2 17 (by simp)
    have k18:=hr2 18 (by simp)
    have k19:=hr2 19 (by simp)
    have k20:=hr2 20 (by simp)
    have k21:=hr2 21 (by simp)
    have k22:=hr2 22 (by simp)
    have k23:=hr2 23 (by simp)
    have k24:=hr2 24 (by simp)
    have k25:=hr2 25 (by simp)
    have k26:=hr2 26 (by simp)
    have k27:=hr2 27 (by simp)
    have k28:=hr2 28 (by simp)
    clear hr2
    simp [Region.binds] at k0
    subst k0
    simp [Region.binds] at k1
    subst k1
    simp [Region.binds] at k2
    subst k2
    simp [Region.binds] at k3
    subst k3
    simp [Region.binds] at k4
    subst k4
    simp [Region.binds] at k5
    subst k5
    simp [Region.binds] at k6
    subst k6
    simp [Region.binds] at k7
    subst k7
    simp [Region.binds] at k8
    subst k8
    simp [Region.binds] at k9
    subst k9
    simp [Region.binds] at k10
    subst k10
    simp [Region.binds] at k11
    subst k11
    simp [Region.binds] at k12
    subst k12
    simp [Region.binds] at k13
    subst k13
    simp [Region.binds] at k14
    subst k14
    simp [Region.binds] at k15
    subst k15
    simp [Region.binds] at k16
    subst k16
    simp [Region.binds] at k17
    subst k17
    simp [Region.binds] at k18
    subst k18
    simp [Region.binds] at k19
    subst k19
    simp [Region.binds] at k20
    subst k20
    simp [Region.binds] at k21
    subst k21
    simp [Region.binds] at k22
    subst k22
    simp [Region.binds] at k23
    subst k23
    simp [Region.binds] at k24
    subst k24
    simp [Region.binds] at k25
    subst k25
    simp [Region.binds] at k26
    subst k26
    simp [Region.binds] at k27
    subst k27
    simp [Region.binds] at k28
    subst k28
    obtain rfl:=h0 rfl
    obtain rfl:=h1 rfl
    obtain rfl:=h2 rfl
    obtain rfl:=h3 rfl
    obtain rfl:=h4 rfl
    obtain rfl:=h5 rfl
    obtain rfl:=h6 rfl
    obtain rfl:=h7 rfl
    obtain rfl:=h8 rfl
    obtain rfl:=h9 rfl
    obtain rfl:=h10 rfl
    obtain rfl:=h11 rfl
    obtain rfl:=h12 rfl
    obtain rfl:=h13 rfl
    obtain rfl:=h14 rfl
    obtain rfl:=h15 rfl
    obtain rfl:=h16 rfl
    obtain rfl:=h17 rfl
    obtain rfl:=h18 rfl
    obtain rfl:=h19 rfl
    obtain rfl:=h20 rfl
    obtain rfl:=h21 rfl
    obtain rfl:=h22 rfl
    obtain rfl:=h23 rfl
    obtain rfl:=h24 rfl
    obtain rfl:=h25 rfl
    obtain rfl:=h26 rfl
    obtain rfl:=h27 rfl
    obtain rfl:=h28 rfl
    have HBF:=qh (bchain HB.out hB)
    go_wp2
    go_ret
    exact ⟨rfl,HBF.out⟩
end
end Go.Proofs.YtaficmboooaknaaGreatDoor
