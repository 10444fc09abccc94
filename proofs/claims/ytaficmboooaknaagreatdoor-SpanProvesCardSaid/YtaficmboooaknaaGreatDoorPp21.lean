import Derived.Test.YtaficmboooaknaaGreatDoorPp01
import Derived.Test.YtaficmboooaknaaGreatDoorPp20
import Derived.Test.YtaficmboooaknaaGreatDoorPp16
import Derived.BigQuiet
import Derived.Test.YtaficmboooaknaaGreatDoorPp14
set_option maxRecDepth 100000
set_option maxHeartbeats 16000000
namespace Go.Proofs.YtaficmboooaknaaGreatDoor
section
open Go.RowKit
open Sto (T St)
open Go.Proofs.YtaficmboooaknaaGreatDoor.Nd (N)
theorem spsum_any (x:T) (w:World) (hT:Tab w) (hx:x.length<=1000000):
    Calls Tryz.prog 74 #[.string ⟨x.toArray⟩] w fun e w'=>e=.returned (.string ⟨(Sto.sumOf x).toArray⟩)/\Below w.heap.size w w':=by
  have HD:=qh (dsum_any 1 x w hT (by omega))
  have e1:Dig.sumC 1=0:=rfl
  rw [e1,sum_one] at HD
  obtain ⟨S,hS⟩:∃ S,Sto.sumOf x=S:=⟨_,rfl⟩
  rw [hS] at HD ⊢
  clear hS hT hx e1
  go_enter Tryz.func74,Tryz.ntmps74
  go_wp2_with fail
  refine HD.out.mono ?_
  rintro e w1 ⟨rfl,hb⟩
  go_wp2
  go_ret
  exact ⟨rfl,hb⟩
def spld19 (v:Value):Sem Value:=Instr.loadAt 110 v
theorem spldAt19 (v:Value):Instr.loadAt 110 v=spld19 v:=rfl
def spst19 (p v:Value):Sem Unit:=Instr.storeAt 110 p v
theorem spstAt19 (p v:Value):Instr.storeAt 110 p v=spst19 p v:=rfl
attribute [local go_sem ↓] spldAt19 spstAt19
theorem run_spld19 {w:World} {g:Nat} {A:Array Value} (hg:w.heap[g]?=some (.cells A 110 (0,0))) (hi:(Tryz.prog.info? 110).map (·.size)=some A.size):(spld19 (.pointer (some ⟨g,0,none⟩))).run Tryz.prog w=.ok (.agg A) w:=by
  unfold spld19
  simp only [Instr.loadAt,Instr.sureAddr,Sem.run_bind,Sem.run_pure,Result.andThen_ok,run_loadVar_row w g 110 110 A (0,0) _ hg Tryz.underlying110 (by rfl) hi]
theorem run_spst19 {w:World} {g:Nat} {A Z:Array Value} (hg:w.heap[g]?=some (.cells Z 110 (0,0))) (hi:(Tryz.prog.info? 110).map (·.size)=some A.size) (hz:Z.size=A.size) (h1:A.all (·.oneCell')=true):(spst19 (.pointer (some ⟨g,0,none⟩)) (.agg A)).run Tryz.prog w=.ok () (w.setRow g A):=by
  unfold spst19
  simp only [Instr.storeAt,Instr.sureAddr,Sem.run_bind,Sem.run_pure,Result.andThen_ok,run_storeVar_row w g 110 110 Z A hg hi hz h1]
structure TkS (w:World) (gl q p:Nat) (zl:Value) (C:Array Value) (w':World):Prop where
  out:Out (fun k=>k=gl) w w'
  left:w'.heap[gl]?=some (.cells #[zl] 29 (0,0))
  node:w'.heap[q]?=some (.cells C 110 (0,0))
  there:∃ Z:Array Value,w'.heap[p]?=some (.cells Z 110 (0,0))/\Z.size=C.size
theorem TkS.below {w:World} {gl q p:Nat} {zl:Value} {C:Array Value} {a b:World} (h:TkS w gl q p zl C a) (hb:Below a.heap.size a b):TkS w gl q p zl C b:=by
  obtain ⟨Z,h1,h2⟩:=h.there
  exact ⟨h.out.trans (Out.of hb),(hb.block _ (lt_of_heap h.left)).trans h.left,(hb.block _ (lt_of_heap h.node)).trans h.node,Z,(hb.block _ (lt_of_heap h1)).trans h1,h2⟩
theorem TkS.drew {w:World} {gl q p:Nat} {zl:Value} {C:Array Value} {a:World} (h:TkS w gl q p zl C a):TkS w gl q p zl C a.drew:=h.below (Below.refl _ _).drew
theorem setRow_other (w:World) (g k:Nat) (cs:Array Value) (h:k ≠ g):(w.setRow g cs).heap[k]?=w.heap[k]?:=by
  simp [World.setRow,Array.getElem?_modify,Ne.symm h]
theorem TkS.store {w:World} {gl q p:Nat} {zl:Value} {C:Array Value} {a:World} (h:TkS w gl q p zl C a) (hp:w.heap.size<=p) (h1:gl ≠ p) (h2:q ≠ p):TkS w gl q p zl C (a.setRow p C):=by
  obtain ⟨Z,h3,h4⟩:=h.there
  refine ⟨?_,(setRow_other a p gl C h1).trans h.left,(setRow_other a p q C h2).trans h.node,C,setRow_heap _ _ _ _ _ _ h3,rfl⟩
  refine ⟨h.out.os,h.out.tape,h.out.output,by simp [World.setRow]; exact h.out.size,fun k hk hg=>?_⟩
  refine Eq.trans ?_ (h.out.block k hk hg)
  exact setRow_other a p k C (fun e=>Nat.lt_irrefl k (Nat.lt_of_lt_of_le hk (e ▸ hp)))
def TakePost (L:List T) (s:T) (gl:Nat) (wv w:World) (e:Ending) (w':World):Prop:=
  ∃ (n:N) (b:Bool),e=.returned (.tuple #[ndval n,.bool b])/\n.kids.length=16/\FirstIs L s n b/\Out (fun k=>k=gl) w w'/\
    ∃ z,w'.heap[gl]?=some (.cells #[z] 29 (0,0))/\StrsC wv z L.tail
theorem sptake_any (L:List T) (s:T) (gl:Nat) (z:Value) (wv w:World) (hbv:Below wv.heap.size wv w) (hg:w.heap[gl]?=some (.cells #[z] 29 (0,0))) (hv:StrsC wv z L) (hTg:∀ w',Out (fun k=>k=gl) w w'->Tab w') (hL:∀ x ∈ L,x.length<=1000000):
    Calls Tryz.prog 72 #[.string ⟨s.toArray⟩,.pointer (some ⟨gl,0,none⟩)] w (TakePost L s gl wv w):=by
  unfold TakePost
  have hlt:gl < w.heap.size:=lt_of_heap hg
  obtain ⟨w0,hw0⟩:∃ w0,w.alloc (.cells #[.int .i64 0,.string ⟨#[]⟩,.string ⟨#[]⟩,.string ⟨#[]⟩,.string ⟨#[]⟩,.string ⟨#[]⟩,.string ⟨#[]⟩,.string ⟨#[]⟩,.string ⟨#[]⟩,.string ⟨#[]⟩,.string ⟨#[]⟩,.string ⟨#[]⟩,.string ⟨#[]⟩,.string ⟨#[]⟩,.string ⟨#[]⟩,.string ⟨#[]⟩,.string ⟨#[]⟩,.string ⟨#[]⟩,.string ⟨#[]⟩] 110)=w0:=⟨_,rfl⟩
  have hb0:Below w.heap.size w w0:=by rw [← hw0]; exact (Below.refl _ w).alloc (Nat.le_refl _) _
  have HB0:=qh hb0
  have HZ0:Hid (w0.heap[w.heap.size]?=some (.cells (ncl Nd.zero).toArray 110 (0,0))):=qh (by rw [← hw0]; exact heap_new_at w _ _ rfl)
  have HI19:Hid ((Tryz.prog.info? 110).map (·.size)=some 19):=qh (by kernel_rfl)
  have HBZ:Hid (Tryz.prog.built 110 []=some (ncl Nd.zero).toArray):=qh (by rfl)
  have HOZ:=qh (ncl_one Nd.zero)
  have HSZ:Hid ((ncl Nd.zero).toArray.size=19):=qh rfl
  obtain ⟨Z,hZ⟩:∃ Z,(ncl Nd.zero).toArray=Z:=⟨_,rfl⟩
  have HZQ:=qh hZ
  rw [hZ] at HZ0 HBZ HOZ HSZ
  have HIZ:Hid ((Tryz.prog.info? 110).map (·.size)=some Z.size):=qh (by rw [HSZ.out]; exact HI19.out)
  have HZ16:Hid (Nd.zero.kids.length=16):=qh rfl
  have HG0:=qh ((hb0.block gl hlt).trans hg)
  have HLT:=qh hlt
  have cg:=cell_of_one HG0.out
  cases L with
  | nil=>
    have HV:=qh hv
    have HG:=qh hg
    obtain ⟨A,cap,rfl,-⟩:=hv.form
    clear hb0 hZ hv hTg hg hlt hbv
    go_enter Tryz.func72,Tryz.ntmps72
    go_upto_region 1 with fail
    clear hw0
    go_wp2_with (first | (refine wpList_build_some (by rfl) _ _ (by rfl) [] (by first | rfl | (simp [Act.eval]; done) | kernel_rfl) Z HBZ.out ?_) | (refine wpList_store_row (by rfl) _ _ _ (by rfl) w.heap.size Z (by rfl) (by rfl) _ _ HZ0.out HIZ.out rfl HOZ.out ?_))
    have HBE:=qh (below_setRow HB0.out (Nat.le_refl _) Z)
    refine bodyPost_ret (nresults_c1t rfl _ _ w.heap.size _ _ _ _ rfl (setRow_heap _ _ _ _ _ _ HZ0.out) Tryz.underlying110 rfl HIZ.out) rfl ⟨Nd.zero,false,by rw [← HZQ.out]; rfl,HZ16.out,rfl,Out.of HBE.out,_,(HBE.out.block gl HLT.out).trans HG.out,HV.out⟩
  | cons x r=>
    have hx:x.length<=1000000:=hL x (List.mem_cons_self ..)
    have HND:=qh (fun w=>ndecode_any x w hx)
    have HSU:=qh (fun w hT=>spsum_any x w hT hx)
    unfold NDecPost ndval at HND
    obtain ⟨⟨n,c⟩,hX⟩:∃ X,Nd.dec x=X:=⟨_,rfl⟩
    have hn16:n.kids.length=16:=by have:=dec_kids x; rw [hX] at this; exact this
    obtain ⟨S,hS⟩:∃ S,Sto.sumOf x=S:=⟨_,rfl⟩
    have HIS:Hid (FirstIs (x :: r) s n (decide (c=0) && decide (S=s))):=qh ⟨by unfold Prf.isN; rw [hX,← hS]; by_cases h1:c=0 <;> by_cases h2:Sto.sumOf x=s <;> simp [h1,h2],fun _=>by rw [hX]⟩
    rw [hX] at HND
    dsimp only at HND
    rw [hS] at HSU
    have HN16:=qh hn16
    have HON:=qh (ncl_one n)
    have HSN:Hid ((ncl n).toArray.size=19):=qh (by rw [List.size_toArray,ncl_length n hn16])
    have HNV:Hid (ndval n=.agg (ncl n).toArray):=qh rfl
    obtain ⟨C,hC⟩:∃ C,(ncl n).toArray=C:=⟨_,rfl⟩
    rw [hC] at HND HON HSN HNV
    have HI:Hid ((Tryz.prog.info? 110).map (·.size)=some C.size):=qh (by rw [HSN.out]; exact HI19.out)
    have HZC:Hid (Z.size=C.size):=qh (HSZ.out.trans HSN.out.symm)
    obtain ⟨A,cap,rfl,-⟩:=hv.form
    obtain ⟨a,rfl,hcell,-,-⟩:=(hv.below hbv).head
    obtain ⟨b,o,sp⟩:=a
    have hblt:=World.block_lt_of_cell? _ _ hcell
    have c0:w0.cell? ⟨b,o,sp⟩=some (.string ⟨x.toArray⟩):=(hb0.cell hblt).trans hcell
    obtain ⟨A',cap',hrun,hst⟩:=hv.tail
    have HST:=qh hst
    obtain ⟨nn,hnn⟩:∃ nn,(x :: r).length=nn:=⟨_,rfl⟩
    have hnn1:nn=r.length+1:=by rw [← hnn,List.length_cons]
    rw [hnn] at hrun cg
    have hq0:((nn:Int) == 0)=false:=by rw [beq_eq_false_iff_ne]; omega
    have hq3:(nn == 0)=false:=by rw [beq_eq_false_iff_ne]; omega
    have hq4:(0:Int) < (nn:Int):=by omega
    have hq5:0 < nn:=by omega
    have fg:=free_of_one HG0.out
    have HTG:=qh hTg
    have HO1:Hid (Out (fun k=>k=gl) w (w0.setCell ⟨gl,0,none⟩ (.slice A' r.length cap'))):=qh (Out.setCell (F:=fun k=>k=gl) (Out.of hb0) (p:=⟨gl,0,none⟩) rfl _)
    have HL1:Hid ((w0.setCell ⟨gl,0,none⟩ (.slice A' r.length cap')).heap[gl]?=some (.cells #[.slice A' r.length cap'] 29 (0,0))):=qh (one_setCell HG0.out)
    have hne:w.heap.size ≠ gl:=by omega
    have HZ1:Hid ((w0.setCell ⟨gl,0,none⟩ (.slice A' r.length cap')).heap[w.heap.size]?=some (.cells Z 110 (0,0))):=qh ((Below.heap_setCell w0 ⟨gl,0,none⟩ _ _ hne).trans HZ0.out)
    clear hb0 hZ hv hbv hTg hg hlt hL hx hX hn16 hS hC hcell hblt hst hne hnn hnn1
    go_enter Tryz.func72,Tryz.ntmps72
    go_upto_region 1 with fail
    clear hw0
    go_wp2_with fail
    generalize hw1:w0.setCell ⟨gl,0,none⟩ (.slice A' r.length cap')=w1 at *
    refine (HND.out _).mono ?_
    rintro e w2 ⟨rfl,hb2⟩
    have HO2:Hid (Out (fun k=>k=gl) w (w2.alloc (.cells C 110))):=qh ((HO1.out.trans (Out.of hb2)).alloc _)
    have hs2:w.heap.size < w2.heap.size:=Nat.lt_of_lt_of_le (lt_of_heap HZ1.out) hb2.size
    have hA:Below w2.heap.size w2 (w2.alloc (.cells C 110)):=(Below.refl _ w2).alloc (Nat.le_refl _) _
    have HK:Hid (TkS w gl w2.heap.size w.heap.size (.slice A' r.length cap') C (w2.alloc (.cells C 110))):=Lib.hid
      ⟨HO2.out,(hA.block _ (Nat.lt_trans HLT.out hs2)).trans ((hb2.block _ (lt_of_heap HL1.out)).trans HL1.out),heap_new_at w2 _ _ rfl,Z,(hA.block _ hs2).trans ((hb2.block _ (lt_of_heap HZ1.out)).trans HZ1.out),HZC.out⟩
    have HQ:Hid (w2.heap.size ≠ w.heap.size):=qh (by omega)
    have HGP:Hid (gl ≠ w.heap.size):=qh (by have:=HLT.out; omega)
    go_upto_region 6 with (refine wpList_store_fresh (by rfl) _ _ _ (by rfl) w2.heap.size rfl C (by rfl) (by rfl) _ _ HI.out HSN.out.symm HON.out ?_)
    obtain ⟨q,hq⟩:∃ q,w2.heap.size=q:=⟨_,rfl⟩
    obtain ⟨p,hp⟩:∃ p,w.heap.size=p:=⟨_,rfl⟩
    obtain ⟨w3,hw3⟩:∃ w3,w2.alloc (.cells C 110)=w3:=⟨_,rfl⟩
    have HPS:Hid (w.heap.size<=p):=qh (Nat.le_of_eq hp)
    rw [hq,hp,hw3] at HK
    rw [hq,hp] at HQ
    rw [hp] at HGP
    rw [hq,hw3,hp]
    have HSS:Hid (∀ w',TkS w gl q p (.slice A' r.length cap') C w'->TkS w gl q p (.slice A' r.length cap') C w'/\(spld19 (.pointer (some ⟨q,0,none⟩))).run Tryz.prog w'=.ok (.agg C) w'/\(spst19 (.pointer (some ⟨p,0,none⟩)) (.agg C)).run Tryz.prog w'=.ok () (w'.setRow p C)):=qh (fun w' h=>by
      obtain ⟨Z',h1,h2⟩:=h.there
      exact ⟨h,run_spld19 h.node HI.out,run_spst19 h1 HI.out h2 HON.out⟩)
    have HSE:Hid (∀ w',TkS w gl q p (.slice A' r.length cap') C w'->TkS w gl q p (.slice A' r.length cap') C (w'.setRow p C)):=qh (fun w' h=>h.store HPS.out HGP.out HQ.out)
    have HCL:Hid (∀ w',TkS w gl q p (.slice A' r.length cap') C w'->Calls Tryz.prog 74 #[.string ⟨x.toArray⟩] w' fun e w''=>e=.returned (.string ⟨S.toArray⟩)/\TkS w gl q p (.slice A' r.length cap') C w''/\Below w'.heap.size w' w''):=qh (fun w' h=>
      (HSU.out w' (HTG.out w' h.out)).mono fun e w'' ⟨q1,q2⟩=>⟨q1,h.below q2,q2⟩)
    have HEND:Hid (∀ w' b,TkS w gl q p (.slice A' r.length cap') C w'->b=(decide (c=0) && decide (S=s))->∃ (n:N) (b':Bool),Ending.returned (.tuple #[.agg C,.bool b])=.returned (.tuple #[ndval n,.bool b'])/\n.kids.length=16/\FirstIs (x :: r) s n b'/\Out (fun k=>k=gl) w w'/\∃ z,w'.heap[gl]?=some (.cells #[z] 29 (0,0))/\StrsC wv z (x :: r).tail):=qh (fun w' b h hb=>
      ⟨n,b,by rw [HNV.out],HN16.out,by rw [hb]; exact HIS.out,h.out,_,h.left,HST.out⟩)
    have BD:=HK.out.drew
    clear hq hp hw3 hb2 hs2 hA HO2 HND
    by_cases hc:c=0
    case neg=>
      have hc1:(c == 0)=false:=beq_eq_false_iff_ne.2 hc
      have hc2:((c:Int) == 0)=false:=by rw [beq_eq_false_iff_ne]; omega
      have hcd:Hid (decide (c=0)=false):=qh (decide_eq_false hc)
      clear hc
      refine region_inv (fun L a w'=>∃ v22 v23 v24 v25 v26 v27 v28 v29 v30:Value,a=⟨#[.string ⟨s.toArray⟩,.pointer (some ⟨gl,0,none⟩),undef,.pointer (some ⟨p,0,none⟩),.bool false,.string ⟨x.toArray⟩,.pointer (some ⟨q,0,none⟩),.int .i64 c,.slice (some ⟨b,o,sp⟩) nn cap,.int .i64 nn,.bool false,undef,.slice (some ⟨b,o,sp⟩) nn cap,.pointer (some ⟨b,o,sp⟩),.string ⟨x.toArray⟩,.slice (some ⟨b,o,sp⟩) nn cap,.slice A' r.length cap',.tuple #[.agg C,.int .i64 c],.string ⟨x.toArray⟩,.tuple #[.agg C,.int .i64 c],.agg C,.int .i64 c,v22,v23,v24,v25,v26,v27,v28,v29,v30],[]⟩/\
        TkS w gl q p (.slice A' r.length cap') C w'/\(L[0]?=some true->v22=.agg C)/\(L[1]?=some true->v23=.int .i64 c)/\(L[2]?=some true->v24=.bool false)/\(L[3]?=some true->v25=.bool false)/\(L[8]?=some true->v30=.bool false)/\(L[9]?=some true->w'.heap[p]?=some (.cells C 110 (0,0)))) (by rfl) ?_ ?_ ?_
      · exact ⟨_,_,_,_,_,_,_,_,_,rfl,BD,by simp,by simp,by simp,by simp,by simp,by simp⟩
      · intro L a w1 hL hI i o ho hi K hK
        obtain ⟨v22,v23,v24,v25,v26,v27,v28,v29,v30,rfl,hT,h0,h1,h2,h3,h8,h9⟩:=hI
        obtain ⟨b0,b1,b2,b3,b4,b5,b6,b7,b8,b9,b10,rfl⟩:∃ b0 b1 b2 b3 b4 b5 b6 b7 b8 b9 b10,L=[b0,b1,b2,b3,b4,b5,b6,b7,b8,b9,b10]:=by
          match L,hL with
          | [b0,b1,b2,b3,b4,b5,b6,b7,b8,b9,b10],_=>exact ⟨b0,b1,b2,b3,b4,b5,b6,b7,b8,b9,b10,rfl⟩
        have hi2:=(List.mem_filter.1 hi).2
        clear hi hL
        obtain ⟨-,l1,l2⟩:=HSS.out _ hT
        rcases i with _ | _ | _ | _ | _ | _ | _ | _ | _ | _ | _ | i
        · obtain rfl:=Option.some.inj ho
          clear ho hi2
          rw [if_pos (by rfl)]
          go_simp
          exact hK _ _ ⟨_,v23,v24,v25,v26,v27,v28,v29,v30,rfl,hT,fun _=>rfl,h1,h2,h3,h8,h9⟩
        · obtain rfl:=Option.some.inj ho
          clear ho hi2
          rw [if_pos (by rfl)]
          go_simp
          exact hK _ _ ⟨v22,_,v24,v25,v26,v27,v28,v29,v30,rfl,hT,h0,fun _=>rfl,h2,h3,h8,h9⟩
        · obtain rfl:=Option.some.inj ho
          simp [Region.binds] at hi2
          obtain rfl:=h1 (by simp [hi2])
          clear ho hi2
          rw [if_pos (by rfl)]
          go_simp
          exact hK _ _ ⟨v22,_,_,v25,v26,v27,v28,v29,v30,rfl,hT,h0,fun _=>rfl,fun _=>rfl,h3,h8,h9⟩
        · obtain rfl:=Option.some.inj ho
          simp [Region.binds] at hi2
          obtain rfl:=h2 (by simp [hi2])
          clear ho hi2
          rw [if_pos (by rfl)]
          go_simp
          exact hK _ _ ⟨v22,v23,_,_,v26,v27,v28,v29,v30,rfl,hT,h0,h1,fun _=>rfl,fun _=>rfl,h8,h9⟩
        · obtain rfl:=Option.some.inj ho
          simp [Region.binds] at hi2
          obtain rfl:=h3 (by simp [hi2])
          clear ho hi2
          rw [if_neg (by rw [show Region.wanted _ _=false from rfl]; decide)]
          exact hK _ _ ⟨v22,v23,v24,_,_,v27,v28,v29,v30,rfl,hT,h0,h1,h2,fun _=>rfl,h8,h9⟩
        · obtain rfl:=Option.some.inj ho
          simp [Region.binds] at hi2
          obtain rfl:=h3 (by simp [hi2])
          clear ho hi2
          rw [if_neg (by rw [show Region.wanted _ _=false from rfl]; decide)]
          exact hK _ _ ⟨v22,v23,v24,_,v26,_,v28,v29,v30,rfl,hT,h0,h1,h2,fun _=>rfl,h8,h9⟩
        · obtain rfl:=Option.some.inj ho
          simp [Region.binds] at hi2
          obtain rfl:=h3 (by simp [hi2])
          clear ho hi2
          rw [if_neg (by rw [show Region.wanted _ _=false from rfl]; decide)]
          exact hK _ _ ⟨v22,v23,v24,_,v26,v27,_,v29,v30,rfl,hT,h0,h1,h2,fun _=>rfl,h8,h9⟩
        · obtain rfl:=Option.some.inj ho
          simp [Region.binds] at hi2
          obtain rfl:=h3 (by simp [hi2])
          clear ho hi2
          rw [if_neg (by rw [show Region.wanted _ _=false from rfl]; decide)]
          exact hK _ _ ⟨v22,v23,v24,_,v26,v27,v28,_,v30,rfl,hT,h0,h1,h2,fun _=>rfl,h8,h9⟩
        · obtain rfl:=Option.some.inj ho
          simp [Region.binds] at hi2
          obtain rfl:=h3 (by simp [hi2])
          clear ho hi2
          rw [if_pos (by rfl)]
          go_simp
          exact hK _ _ ⟨v22,v23,v24,_,v26,v27,v28,v29,_,rfl,hT,h0,h1,h2,fun _=>rfl,fun _=>rfl,h9⟩
        · obtain rfl:=Option.some.inj ho
          simp [Region.binds] at hi2
          obtain rfl:=h0 (by simp [hi2])
          clear ho hi2
          obtain ⟨Z',h5,_⟩:=hT.there
          rw [if_pos (by rfl)]
          go_simp
          exact hK _ _ ⟨_,v23,v24,v25,v26,v27,v28,v29,v30,rfl,HSE.out _ hT,fun _=>rfl,h1,h2,h3,h8,fun _=>setRow_heap _ _ _ _ _ _ h5⟩
        · obtain rfl:=Option.some.inj ho
          simp [Region.binds] at hi2
          obtain rfl:=h8 (by simp [hi2])
          clear ho hi2
          rw [if_pos (by rfl)]
          go_simp
          exact hK _ _ ⟨v22,v23,v24,v25,v26,v27,v28,v29,_,rfl,hT,h0,h1,h2,h3,fun _=>rfl,h9⟩
        · simp at ho
      · intro L a w1 hL hr hI
        obtain ⟨v22,v23,v24,v25,v26,v27,v28,v29,v30,rfl,hT,h0,h1,h2,h3,h8,h9⟩:=hI
        obtain ⟨b0,b1,b2,b3,b4,b5,b6,b7,b8,b9,b10,rfl⟩:∃ b0 b1 b2 b3 b4 b5 b6 b7 b8 b9 b10,L=[b0,b1,b2,b3,b4,b5,b6,b7,b8,b9,b10]:=by
          match L,hL with
          | [b0,b1,b2,b3,b4,b5,b6,b7,b8,b9,b10],_=>exact ⟨b0,b1,b2,b3,b4,b5,b6,b7,b8,b9,b10,rfl⟩
        have hr2:=List.filter_eq_nil_iff.1 hr
        clear hr hL
        have k0:=hr2 0 (by simp)
        have k1:=hr2 1 (by simp)
        have k2:=hr2 2 (by simp)
        have k3:=hr2 3 (by simp)
        have k4:=hr2 4 (by simp)
        have k5:=hr2 5 (by simp)
        have k6:=hr2 6 (by simp)
        have k7:=hr2 7 (by simp)
        have k8:=hr2 8 (by simp)
        have k9:=hr2 9 (by simp)
        have k10:=hr2 10 (by simp)
        clear hr2
        simp [Region.binds] at k0
        subst k0
        simp [Region.binds] at k1
        subst k1
        simp [Region.binds] at k2
        subst k2
        simp [Region.binds] at k3
        subst k3
        simp [Region.binds] at k4
        subst k4
        simp [Region.binds] at k5
        subst k5
        simp [Region.binds] at k6
        subst k6
        simp [Region.binds] at k7
        subst k7
        simp [Region.binds] at k8
        subst k8
        simp [Region.binds] at k9
        subst k9
        have hp9:=h9 rfl
        clear h0 h1 h2 h3 h8 h9
        go_wp2_with fail
        refine bodyPost_ret (nresults_c1t rfl _ _ p _ _ _ _ rfl hp9 Tryz.underlying110 rfl HI.out) rfl ?_
        have he:=HEND.out _ false hT (by rw [hcd.out]; rfl)
        exact he
    subst hc
    go_region_held3 (fun w'=>TkS w gl q p (.slice A' r.length cap') C w'/\(spld19 (.pointer (some ⟨q,0,none⟩))).run Tryz.prog w'=.ok (.agg C) w'/\(spst19 (.pointer (some ⟨p,0,none⟩)) (.agg C)).run Tryz.prog w'=.ok () (w'.setRow p C))
        ((refine HSS.out _ ?_; first | (with_reducible assumption) | (refine HSE.out _ ?_; first | (with_reducible assumption) | exact (And.left (by with_reducible assumption)))))
        (first | (go_at_call 74; refine (HCL.out _ ?_).mono ?_; (first | (with_reducible assumption) | exact (And.left (by with_reducible assumption))); rintro e wa ⟨rfl,hta,hba⟩))
    all_goals
      obtain ⟨Z',h5,_⟩:=hta.there
      have hp9:=setRow_heap _ _ _ C _ _ h5
      go_wp2_with fail
      refine bodyPost_ret (nresults_c1t rfl _ _ p _ _ _ _ rfl hp9 Tryz.underlying110 rfl HI.out) rfl ?_
      have he:=HEND.out _ (S == s) (HSE.out _ hta) (Bool.eq_iff_iff.2 (by simp))
      exact he
end
section
open Go.RowKit
open Sto (T St)
open Go.Proofs.YtaficmboooaknaaGreatDoor.Nd (N)
theorem row_apart {G:Nat->Prop} {w w':World} {B:Nat} {e:TypeId} {z:Nat} {s:Value} {n:Nat} {xs:List Value} (h:w.ownsRow B e z s n xs) (ho:Out G w w') (hd:∀ k,s.ownBlock=some k->¬ G k):w'.ownsRow B e z s n xs:=by
  refine ⟨h.1,?_⟩
  rcases h.2 with hn | ⟨k,cap,cur,hv,hb,hk,hr⟩
  · exact Or.inl hn
  · exact Or.inr ⟨k,cap,cur,hv,hb,ho.heap hk (hd k (by rw [hv]; rfl)),hr⟩
theorem one_not_row {w:World} {b:Nat} {t e:TypeId} {v:Value} (h:w.heap[b]?=some (.cells #[v] t (0,0))) (hte:t ≠ e) {B z n:Nat} {s:Value} {xs:List Value} (hr:w.ownsRow B e z s n xs) (k:Nat) (hk:s.ownBlock=some k):k ≠ b:=by
  rintro rfl
  rcases hr.2 with ⟨rfl,_⟩ | ⟨g,cap,cur,hv,_,hh,_⟩
  · cases hk
  · rw [hv] at hk
    obtain rfl:g=k:=by simpa [Value.ownBlock] using hk
    rw [h] at hh
    exact hte (by injection hh with hh; injection hh)
structure Gth (w:World) (gl:Nat) (zs zi zl:Value) (M:List Spn.Sp) (I:St) (wr:World):Prop where
  sought:OwnQ wr w.heap.size zs M
  items:OwnI wr w.heap.size zi I
  left:wr.heap[gl]?=some (.cells #[zl] 29 (0,0))
  old:Below w.heap.size w wr
theorem Gth.below {w:World} {gl:Nat} {zs zi zl:Value} {M:List Spn.Sp} {I:St} {a b:World} (h:Gth w gl zs zi zl M I a) (hb:Below a.heap.size a b):Gth w gl zs zi zl M I b:=
  ⟨h.sought.below hb,h.items.below hb,(hb.block _ (lt_of_heap h.left)).trans h.left,bchain h.old hb⟩
theorem Gth.take {w:World} {gl:Nat} {zs zi zl zl':Value} {M:List Spn.Sp} {I:St} {a b:World} (h:Gth w gl zs zi zl M I a) (hg:w.heap.size<=gl) (ho:Out (fun k=>k=gl) a b) (hl:b.heap[gl]?=some (.cells #[zl'] 29 (0,0))):Gth w gl zs zi zl' M I b:=
  ⟨row_apart h.sought ho fun k hk e=>one_not_row h.left (by decide) h.sought k hk e,row_apart h.items ho fun k hk e=>one_not_row h.left (by decide) h.items k hk e,hl,h.old.trans (ho.below (fun k e=>e ▸ hg) h.old.size)⟩
theorem row_block_ne {w:World} {B:Nat} {t e:TypeId} {z n:Nat} {s:Value} {xs:List Value} {cs:Array Value} {fl:Nat × Nat} {b:Nat} (h:w.ownsRow B t z s n xs) (hte:t ≠ e) (hb:w.heap[b]?=some (.cells cs e fl)) (hs:s.ownBlock=some b):False:=by
  rcases h.2 with ⟨rfl,_⟩ | ⟨g,cap,cur,hv,_,hh,_⟩
  · cases hs
  · rw [hv] at hs
    obtain rfl:g=b:=by simpa [Value.ownBlock] using hs
    rw [hh] at hb
    exact hte (by injection hb with hb; injection hb)
theorem rows_ne {w:World} {B B':Nat} {t e:TypeId} {z z' n n':Nat} {s s':Value} {xs xs':List Value} (h:w.ownsRow B t z s n xs) (h':w.ownsRow B' e z' s' n' xs') (hte:t ≠ e) (k:Nat) (hk:s.ownBlock=some k):s'.ownBlock ≠ some k:=by
  intro hk'
  rcases h.2 with ⟨rfl,_⟩ | ⟨g,cap,cur,hv,_,hh,_⟩
  · cases hk
  rcases h'.2 with ⟨rfl,_⟩ | ⟨g',cap',cur',hv',_,hh',_⟩
  · cases hk'
  rw [hv] at hk
  rw [hv'] at hk'
  obtain rfl:g=k:=by simpa [Value.ownBlock] using hk
  obtain rfl:g'=g:=by simpa [Value.ownBlock] using hk'
  rw [hh] at hh'
  exact hte (by injection hh' with hh'; injection hh')
theorem Gth.more {w:World} {gl:Nat} {zs zi zl v':Value} {M N:List Spn.Sp} {I:St} {a b:World} (h:Gth w gl zs zi zl M I a) (hg:a.grownBy b zs.ownBlock) (ho:OwnQ b w.heap.size v' N):Gth w gl v' zi zl N I b:=by
  have hO:=Out.grown hg (F:=fun j=>zs.ownBlock=some j) (fun j e=>e)
  exact ⟨ho,row_apart h.items hO fun k hk e=>rows_ne h.items h.sought (by decide) k hk e,hO.heap h.left fun e=>one_not_row h.left (by decide) h.sought gl e rfl,h.old.trans (hO.below (fun j hj=>(OwnQ.lt h.sought j hj).1) h.old.size)⟩
theorem Gth.item {w:World} {gl:Nat} {zs zi zl v':Value} {M:List Spn.Sp} {I J:St} {a b:World} (h:Gth w gl zs zi zl M I a) (hg:a.grownBy b zi.ownBlock) (ho:OwnI b w.heap.size v' J):Gth w gl zs v' zl M J b:=by
  have hO:=Out.grown hg (F:=fun j=>zi.ownBlock=some j) (fun j e=>e)
  exact ⟨row_apart h.sought hO fun k hk e=>rows_ne h.sought h.items (by decide) k hk e,ho,hO.heap h.left fun e=>one_not_row h.left (by decide) h.items gl e rfl,h.old.trans (hO.below (fun j hj=>(OwnI.lt h.items j hj).1) h.old.size)⟩
theorem below_place (s:Spn.Sp) (n:N):∀ x ∈ Spn.belowP s n,x.place.length<=17:=by
  intro x hx
  obtain ⟨i,_,hi⟩:=List.mem_filterMap.1 hx
  split at hi
  · cases hi
  · split at hi
    · rw [← Option.some.inj hi]
      show ((s.place ++ Spn.stepP n i).take 17).length<=17
      simp
      omega
    · cases hi
theorem below_len (s:Spn.Sp) (n:N):(Spn.belowP s n).length<=16:=Nat.le_trans (List.length_filterMap_le ..) (by simp)
def leftN (gl:Nat) (w:World):Nat:=match w.cell? ⟨gl,0,none⟩ with
  | some (.slice _ n _)=>n+1
  | _=>0
theorem leftN_of {gl n cap:Nat} {A:Option Addr} {w:World} (h:w.heap[gl]?=some (.cells #[.slice A n cap] 29 (0,0))):leftN gl w=n+1:=by
  unfold leftN
  rw [cell_of_one h]
def GatherPost (o:Option St) (w:World) (e:Ending) (w':World):Prop:=
  ∃ (z:Value) (b:Bool),e=.returned (.tuple #[z,.bool b])/\b=o.isSome/\(∀ I,o=some I->OwnI w' w.heap.size z I)/\(∃ A n cap,z=.slice A n cap)/\Below w.heap.size w w'
theorem GatherPost.no {o:Option St} {w w':World} (h:o=none) (hb:Below w.heap.size w w'):GatherPost o w (.returned (.tuple #[.slice none 0 0,.bool false])) w':=by
  subst h
  exact ⟨_,false,rfl,rfl,(fun I e=>by cases e),⟨_,_,_,rfl⟩,hb⟩
theorem spgather_any (root f e:T) (v:Value) (L0:List T) (w:World) (hv:StrsC w v L0) (hT:Tab w) (hL:∀ x ∈ L0,x.length<=1000000) (hl:L0.length<=10000) (hf:f.length<=2000000) (he:e.length<=2000000):
    Calls Tryz.prog 44 #[.string ⟨root.toArray⟩,.string ⟨f.toArray⟩,.string ⟨e.toArray⟩,v] w (GatherPost (Spn.gathP root f e L0) w):=by
  have hmf:∀ (fn:Fn) (first cap:Array Value) (w:World),(Instr.makeFunc fn first cap).run Tryz.prog w=.ok (.func fn first cap) w:=fun _ _ _ _=>rfl
  obtain ⟨A,cap,hve,-⟩:=hv.form
  subst hve
  obtain ⟨w0,hw0⟩:∃ w0,w.alloc (.cells #[.slice A L0.length cap] 29)=w0:=⟨_,rfl⟩
  have hb0:Below w.heap.size w w0:=by rw [← hw0]; exact (Below.refl _ w).alloc (Nat.le_refl _) _
  have rl:w0.heap[w.heap.size]?=some (.cells #[.slice A L0.length cap] 29 (0,0)):=by rw [← hw0]; exact heap_alloc_new w _
  by_cases hr:root=[]
  · subst hr
    rw [Spn.gathP_none]
    have cl:=cell_of_one rl
    have HB:=qh hb0
    by_cases hn:L0=[]
    · subst hn
      rw [if_pos rfl]
      have hw1:w.alloc (.cells #[.slice A 0 cap] 29)=w0:=hw0
      have cl1:w0.cell? ⟨w.heap.size,0,none⟩=some (.slice A 0 cap):=cl
      clear hv hT hL hl hf he hb0 rl cl hw0
      go_enter Tryz.func44,Tryz.ntmps44
      go_upto_region 3 with fail
      try clear hw0
      go_wp2
      go_loopw [8,12] (fun a b wr=>a=.slice none 0 0/\b=.slice none 0 0/\wr=w0) (fun _ _ _=>0)
      case atStart=>exact ⟨rfl,rfl,rfl⟩
      case round=>
        obtain ⟨rfl,rfl,rfl⟩:=hrel
        go_wp2
        go_quiet (fail)
        have HBQ:=qh (bel_drewN HB.out nq)
        go_wp2
        go_ret2
        exact ⟨_,true,rfl,rfl,(fun I e=>by cases e; exact OwnI.nil _ _),⟨_,_,_,rfl⟩,HBQ.out⟩
    · have z0:((L0.length:Int) == 0)=false:=by rw [beq_eq_false_iff_ne]; have:=List.length_pos_iff.2 hn; omega
      have z1:(L0.length == 0)=false:=by rw [beq_eq_false_iff_ne]; have:=List.length_pos_iff.2 hn; omega
      have z2:¬ L0.length=0:=by have:=List.length_pos_iff.2 hn; omega
      rw [if_neg hn]
      clear hv hT hL hl hf he hn hb0 rl
      go_enter Tryz.func44,Tryz.ntmps44
      go_upto_region 3 with fail
      try clear hw0
      go_wp2
      go_loopw [8,12] (fun a b wr=>a=.slice none 0 0/\b=.slice none 0 0/\wr=w0) (fun _ _ _=>0)
      case atStart=>exact ⟨rfl,rfl,rfl⟩
      case round=>
        obtain ⟨rfl,rfl,rfl⟩:=hrel
        go_wp2
        go_quiet (fail)
        have HBQ:=qh (bel_drewN HB.out nq)
        go_wp2
        go_ret2
        exact GatherPost.no rfl HBQ.out
  · have HOF:Hid (∀ w',Calls Tryz.prog 59 #[.string ⟨f.toArray⟩] w' fun r w''=>r=.returned (.string ⟨(Nib.ofL f).toArray⟩)/\Below w'.heap.size w' w''):=qh (fun w'=>of_any f w' hf)
    have HOE:Hid (∀ w',Calls Tryz.prog 59 #[.string ⟨e.toArray⟩] w' fun r w''=>r=.returned (.string ⟨(Nib.ofL e).toArray⟩)/\Below w'.heap.size w' w''):=qh (fun w'=>of_any e w' he)
    obtain ⟨o,ho⟩:∃ o,Spn.gathP root f e L0=o:=⟨_,rfl⟩
    rw [ho]
    unfold Spn.gathP at ho
    rw [if_neg hr] at ho
    obtain ⟨F,hF⟩:∃ F,Nib.ofL f=F:=⟨_,rfl⟩
    obtain ⟨E,hE⟩:∃ E,Nib.ofL e=E:=⟨_,rfl⟩
    rw [hF] at HOF ho
    rw [hE] at HOE ho
    have HO:=qh ho
    have HL0:=qh (show L0.length<=10000/\∀ x ∈ L0,x.length<=1000000 from ⟨hl,hL⟩)
    have HV:=qh hv
    have HT:=qh hT
    have HB0:=qh hb0
    have HRL:=qh rl
    have q1:(root == [])=false:=beq_eq_false_iff_ne.2 hr
    have q2:root.isEmpty=false:=by cases root <;> simp_all
    clear hv hT hL hl hf he hb0 rl hr ho hF hE
    go_enter Tryz.func44,Tryz.ntmps44
    go_upto_region 3 with fail
    try clear hw0
    go_wp2_with fail
    refine (HOF.out _).mono ?_
    rintro e1 w1 ⟨rfl,hb1⟩
    go_wp2_with fail
    refine (HOE.out _).mono ?_
    rintro e2 w2 ⟨rfl,hb2⟩
    have hb12:=bchain hb1 hb2
    have HG2:Hid (Gth w w.heap.size (.slice (some ⟨w2.heap.size,0,none⟩) 1 1) (.slice none 0 0) (.slice A L0.length cap) [⟨root,[],F,E⟩] [] (w2.alloc (.cells #[.string ⟨root.toArray⟩,.string ⟨#[]⟩,.string ⟨F.toArray⟩,.string ⟨E.toArray⟩] 121))):=Lib.hid
      ⟨by
        refine (OwnQ.low (B:=w2.heap.size) ?_ (Nat.le_trans HB0.out.size hb12.size))
        exact ⟨rfl,Or.inr ⟨w2.heap.size,1,_,rfl,Nat.le_refl _,heap_alloc_new w2 _,by simp,by simp [maxLen],rfl,rfl⟩⟩,OwnI.nil _ _,((bel_al hb12 _).block _ (lt_of_heap HRL.out)).trans HRL.out,bchain HB0.out (bel_al hb12 _)⟩
    clear hb1 hb2 hb12
    go_wp2
    obtain ⟨gl,hgl⟩:∃ gl,w.heap.size=gl:=⟨_,rfl⟩
    have HGL:Hid (w.heap.size<=gl):=qh (Nat.le_of_eq hgl)
    rw [hgl] at HG2 ⊢
    clear hgl
    go_loopw [8,12] (fun iv sv wr=>∃ (ss:List Spn.Sp) (I:St) (L:List T) (zi zs zl:Value),zi=iv/\zs=sv/\Gth w gl zs zi zl ss.reverse I wr/\StrsC w zl L/\Spn.loopP L ss I=o/\(∀ s ∈ ss,s.place.length<=17)/\ss.length+16 * L.length<=200000/\I.length+L.length<=10000/\(∀ x ∈ L,x.length<=1000000)) (fun _ _ wr=>leftN gl wr)
    case atStart=>exact ⟨[⟨root,[],F,E⟩],[],L0,_,_,_,rfl,rfl,HG2.out,HV.out,HO.out,by simp,by have:=HL0.out.1; simp; omega,by have:=HL0.out.1; simp; omega,HL0.out.2⟩
    case round=>
      obtain ⟨ss,I,L,zi,zs,zl,rfl,rfl,hg,hst,hlo,hpl,hn1,hn2,hL⟩:=hrel
      have cl:=cell_of_one hg.left
      have HG:=qh hg
      have HST:=qh hst
      have HLO:=qh hlo
      have HPL:=qh hpl
      have HN:=qh (show ss.length+16 * L.length<=200000/\I.length+L.length<=10000 from ⟨hn1,hn2⟩)
      have HL:=qh hL
      obtain ⟨A2,cap2,rfl,-⟩:=hst.form
      cases ss with
      | nil=>
        obtain ⟨A3,cap3,hzs,-⟩:=hg.sought.at_.form
        have hzs2:zs=.slice A3 0 cap3:=hzs
        subst hzs2
        obtain ⟨A4,cap4,rfl,-⟩:=hg.items.at_.form
        clear hg hst hlo hpl hn1 hn2 hL hzs
        by_cases hn:L=[]
        · subst hn
          have hoo:o=some I:=by rw [← HLO.out,Spn.loopP.eq_def]; rfl
          have HOO:=qh hoo
          have cl2:wr.cell? ⟨gl,0,none⟩=some (.slice A2 0 cap2):=cl
          clear hoo cl
          go_wp2
          go_quiet (fail)
          have HGQ:=qh (HG.out.below (bel_drewN (Below.refl _ _) nq))
          go_wp2
          go_ret2
          exact ⟨_,true,rfl,by rw [HOO.out]; rfl,(fun J hJ=>by rw [HOO.out] at hJ; cases hJ; exact HGQ.out.items),⟨_,_,_,rfl⟩,HGQ.out.old⟩
        · have hoo:o=none:=by rw [← HLO.out,Spn.loopP.eq_def]; simp [hn]
          have HOO:=qh hoo
          have z0:((L.length:Int) == 0)=false:=by rw [beq_eq_false_iff_ne]; have:=List.length_pos_iff.2 hn; omega
          have z1:(L.length == 0)=false:=by rw [beq_eq_false_iff_ne]; have:=List.length_pos_iff.2 hn; omega
          have z2:¬ L.length=0:=by have:=List.length_pos_iff.2 hn; omega
          clear hoo hn
          go_wp2
          go_quiet (fail)
          have HGQ:=qh (HG.out.below (bel_drewN (Below.refl _ _) nq))
          go_wp2
          go_ret2
          exact ⟨_,false,rfl,by rw [HOO.out]; rfl,(fun J hJ=>by rw [HOO.out] at hJ; cases hJ),⟨_,_,_,rfl⟩,HGQ.out.old⟩
      | cons s ss=>
        have hso:=hg.sought
        rw [List.reverse_cons] at hso
        obtain ⟨g,cp,rfl,hBg,hgw,hcap,hso2,⟨cs,hcs⟩,hcell⟩:=hso.last
        obtain ⟨k,hk⟩:∃ k,ss.reverse.length=k:=⟨_,rfl⟩
        rw [hk] at hcell hcap hso2
        have c0:=hcell 0 _ rfl
        have c1:=hcell 1 _ rfl
        have c2:=hcell 2 _ rfl
        have c3:=hcell 3 _ rfl
        simp only [Nat.add_zero] at c0
        have hcut:=cut_run (some ⟨g,0,none⟩) (k+1) cp k (by omega) (Or.inr ⟨g,rfl⟩)
        have y0:(0:Int)<=(k:Int):=by omega
        have y1:(k:Int) < (k:Int)+1:=by omega
        have y2:(k:Int)<=1000000:=by
          have:=HN.out.1
          simp only [List.length_reverse] at hk
          simp only [List.length_cons] at this
          omega
        rw [hk]
        have hA:Below wr.heap.size wr (wr.alloc (.cells #[.string ⟨s.sum.toArray⟩,.string ⟨s.place.toArray⟩,.string ⟨s.lf.toArray⟩,.string ⟨s.le.toArray⟩] 121)):=(Below.refl _ wr).alloc (Nat.le_refl _) _
        have HGA:Hid (Gth w gl (.slice (some ⟨g,0,none⟩) k cp) zi (.slice A2 L.length cap2) ss.reverse I (wr.alloc (.cells #[.string ⟨s.sum.toArray⟩,.string ⟨s.place.toArray⟩,.string ⟨s.lf.toArray⟩,.string ⟨s.le.toArray⟩] 121))):=Lib.hid
          ((Gth.mk (by rw [← hk] at hso2 ⊢; exact hso2) hg.items hg.left hg.old:Gth w gl (.slice (some ⟨g,0,none⟩) k cp) zi (.slice A2 L.length cap2) ss.reverse I wr).below hA)
        have HBX:Hid ((wr.alloc (.cells #[.string ⟨s.sum.toArray⟩,.string ⟨s.place.toArray⟩,.string ⟨s.lf.toArray⟩,.string ⟨s.le.toArray⟩] 121)).heap[wr.heap.size]?=some (.cells #[.string ⟨s.sum.toArray⟩,.string ⟨s.place.toArray⟩,.string ⟨s.lf.toArray⟩,.string ⟨s.le.toArray⟩] 121 (0,0))):=qh (heap_alloc_new wr _)
        have HGR:Hid (gl < wr.heap.size):=qh (lt_of_heap hg.left)
        clear hso hg hst hlo hpl hn1 hn2 hL hcell hcs hA
        go_wp2_with fail
        obtain ⟨wa,hwa⟩:∃ wa,wr.alloc (.cells #[.string ⟨s.sum.toArray⟩,.string ⟨s.place.toArray⟩,.string ⟨s.lf.toArray⟩,.string ⟨s.le.toArray⟩] 121)=wa:=⟨_,rfl⟩
        rw [hwa] at HGA HBX ⊢
        obtain ⟨qs,hqs⟩:∃ qs,wr.heap.size=qs:=⟨_,rfl⟩
        rw [hqs] at HBX HGR ⊢
        have HTK:=qh (sptake_any L s.sum gl _ w wa HGA.out.old HGA.out.left HST.out (fun w' ho=>HT.out.below (HGA.out.old.trans (ho.below (fun k e=>e ▸ HGL.out) HGA.out.old.size))) HL.out)
        unfold TakePost ndval at HTK
        refine HTK.out.mono ?_
        rintro e3 w3 ⟨n,b,rfl,hn16,hfi,hout,zl',hl3,hst3⟩
        have hg3:=HGA.out.take HGL.out hout hl3
        have hbx3:w3.heap[qs]?=some (.cells #[.string ⟨s.sum.toArray⟩,.string ⟨s.place.toArray⟩,.string ⟨s.lf.toArray⟩,.string ⟨s.le.toArray⟩] 121 (0,0)):=hout.heap HBX.out (fun e=>by have:=HGR.out; omega)
        have hA3:Below w3.heap.size w3 (w3.alloc (.cells (ncl n).toArray 110)):=(Below.refl _ w3).alloc (Nat.le_refl _) _
        have HG3:=qh (hg3.below hA3)
        have HX3:=qh ((hA3.block _ (lt_of_heap hbx3)).trans hbx3)
        have HN3:Hid ((w3.alloc (.cells (ncl n).toArray 110)).heap[w3.heap.size]?=some (.cells (ncl n).toArray 110 (0,0))):=qh (heap_new_at w3 _ _ rfl)
        have HNA:Hid (NodeAt (w3.alloc (.cells (ncl n).toArray 110)) w3.heap.size n):=qh (heap_new_at w3 _ _ rfl)
        have HST3:=qh hst3
        have HFI:=qh hfi
        have HN16:=qh hn16
        have HON:=qh (ncl_one n)
        have HSN:Hid ((ncl n).toArray.size=19):=qh (by rw [List.size_toArray,ncl_length n hn16])
        have HIT:=qh (fun w hp hq=>spitem_any s n w hn16 hp hq)
        have HBL:=qh (fun w hp hq=>spbelow_any s n w hn16 hp hq)
        unfold ItemPost ndval spl at HIT
        unfold BelowPost ndval spl at HBL
        obtain ⟨C,hC⟩:∃ C,(ncl n).toArray=C:=⟨_,rfl⟩
        rw [hC] at HG3 HX3 HN3 HON HSN HIT HBL HNA ⊢
        have HI:Hid ((Tryz.prog.info? 110).map (·.size)=some C.size):=qh (by rw [HSN.out]; kernel_rfl)
        clear hwa hqs HTK hn16 hfi hout hl3 hst3 hg3 hbx3 hA3 hC
        cases b with
        | false=>
          have hoo:o=none:=by
            rw [← HLO.out]
            cases L with
            | nil=>rfl
            | cons x r=>
              have h1:Prf.isN s.sum x=false:=HFI.out.1.symm
              rw [Spn.loopP,if_neg (by rw [h1]; decide)]
          have HOO:=qh hoo
          clear hoo
          go_wp2_with (refine wpList_store_fresh (by rfl) _ _ _ (by rfl) w3.heap.size rfl C (by rfl) (by rfl) _ _ HI.out HSN.out.symm HON.out ?_)
          try rw [Exit.noGoto_ret]
          go_ret2
          exact GatherPost.no HOO.out HG3.out.old
        | true=>
          cases L with
          | nil=>exact absurd HFI.out (by simp [FirstIs])
          | cons x r=>
          have hN:Prf.isN s.sum x=true:=HFI.out.1.symm
          have hX:(Nd.dec x).1=n:=HFI.out.2 rfl
          have hto:Prf.Told n:=by rw [← hX]; exact Prf.Told.of (of_decide_eq_true hN).2
          have hlo2:(match Spn.ownP s n I with | none=>none | some J=>Spn.loopP r (Spn.belowP s n ++ ss) J)=o:=by
            rw [← HLO.out,Spn.loopP,if_pos hN,hX]
            cases Spn.ownP s n I <;> rfl
          have HLO2:=qh hlo2
          have HPA:Hid (n.path.length<=900):=qh (by have:=hto.path; omega)
          have HPS:Hid (s.place.length<=1000):=qh (by have:=HPL.out s (List.mem_cons_self ..); omega)
          have cl0:=qh (leftN_of HG.out.left)
          obtain ⟨A5,cap5,hz5,-⟩:=HST3.out.form
          have hz5':zl'=.slice A5 r.length cap5:=hz5
          subst hz5'
          have HNB:Hid ((Spn.belowP s n ++ ss).length+16 * r.length<=200000/\I.length+1+r.length<=10000/\r.length+1 < (x :: r).length+1/\ss.reverse.length+(Spn.belowP s n).reverse.length<=1000000):=qh (by
            have h1:=HN.out.1
            have h2:=HN.out.2
            have h3:=below_len s n
            rw [List.length_cons,List.length_cons] at h1
            rw [List.length_cons] at h2
            rw [List.length_append,List.length_cons,List.length_reverse,List.length_reverse]
            omega)
          clear hN hX hto hlo2 cl hz5
          obtain ⟨A4,cap4,hzi,-,-⟩:=HG3.out.items.at_.form
          subst hzi
          have d1:=HNA.out.path
          have d2:=HNA.out.val
          go_upto_region 12 with (refine wpList_store_fresh (by rfl) _ _ _ (by rfl) w3.heap.size rfl C (by rfl) (by rfl) _ _ HI.out HSN.out.symm HON.out ?_)
          obtain ⟨q4,hq4⟩:∃ q4,w3.heap.size=q4:=⟨_,rfl⟩
          obtain ⟨w4,hw4⟩:∃ w4,w3.alloc (.cells C 110)=w4:=⟨_,rfl⟩
          rw [hq4] at HN3 HNA d1 d2 ⊢
          rw [hw4] at HG3 HX3 HN3 HNA d1 d2 ⊢
          clear hq4 hw4
          by_cases hv0:n.val=[]
          · have HLN:Hid (Spn.loopP r (Spn.belowP s n ++ ss) I=o):=qh (by
              have h1:=HLO2.out
              unfold Spn.ownP at h1
              rw [if_pos hv0] at h1
              exact h1)
            have q3:(n.val == [])=true:=beq_iff_eq.2 hv0
            have q4':n.val.isEmpty=true:=by rw [hv0]; rfl
            have HG5:=HG3
            have HX5:=HX3
            have HN5:=HN3
            clear hv0
            have x0:w4.cell? ⟨qs,0,none⟩=some (.string ⟨s.sum.toArray⟩):=by rw [cell_of_row _ _ 0 _ _ _ HX5.out]; rfl
            have x1:w4.cell? ⟨qs,1,none⟩=some (.string ⟨s.place.toArray⟩):=by rw [cell_of_row _ _ 1 _ _ _ HX5.out]; rfl
            have x2:w4.cell? ⟨qs,2,none⟩=some (.string ⟨s.lf.toArray⟩):=by rw [cell_of_row _ _ 2 _ _ _ HX5.out]; rfl
            have x3:w4.cell? ⟨qs,3,none⟩=some (.string ⟨s.le.toArray⟩):=by rw [cell_of_row _ _ 3 _ _ _ HX5.out]; rfl
            go_wp2_with (refine wpList_load_row (by rfl) _ _ (by rfl) q4 (by rfl) _ C _ _ HN5.out Tryz.underlying110 (by rfl) HI.out ?_)
            refine (HBL.out _ HPS.out HPA.out).mono ?_
            rintro e6 w6 ⟨zb,rfl,hzb,hb6⟩
            obtain ⟨v7,w7,hrun,how,hgr,-⟩:=app_q (HG5.out.below hb6).sought hzb.at_ HNB.out.2.2.2 (HG5.out.below hb6).old.size
            rw [← List.reverse_append] at how
            have HRUN:=qh hrun
            have HG7:=qh ((HG5.out.below hb6).more hgr how)
            obtain ⟨Ab,nb,capb,rfl⟩:∃ Ab nb capb,zb=.slice Ab nb capb:=by
              obtain ⟨Ab,capb,h,-,-⟩:=hzb.at_.form
              exact ⟨Ab,_,capb,h⟩
            clear hrun how hgr hzb hb6
            go_wp2_with (at_builtin; refine wpList_append_run rfl _ _ _ rfl (.slice (some ⟨g,0,none⟩) k cp) (.slice Ab nb capb) _ (by rfl) (by rfl) HRUN.out ?_)
            refine ⟨⟨Spn.belowP s n ++ ss,I,r,_,v7,_,rfl,rfl,HG7.out,HST3.out,HLN.out,fun y hy=>?_,HNB.out.1,(by have:=HNB.out.2.1; omega),fun y hy=>HL.out y (List.mem_cons_of_mem _ hy)⟩,?_⟩
            · rcases List.mem_append.1 hy with hy | hy
              · exact below_place s n y hy
              · exact HPL.out y (List.mem_cons_of_mem _ hy)
            · rw [leftN_of HG7.out.left,cl0.out]
              exact HNB.out.2.2.1
          · have q3:(n.val == [])=false:=beq_eq_false_iff_ne.2 hv0
            have q4':n.val.isEmpty=false:=by cases h:n.val <;> simp_all
            have HV0:=qh hv0
            have HITC:=qh (HIT.out w4 HPS.out (Nat.le_trans HPA.out (by decide)))
            obtain ⟨ko,hko⟩:∃ ko,Spn.keyP (s.place ++ n.path)=ko:=⟨_,rfl⟩
            rw [hko] at HITC
            have HKO:=qh hko
            clear hv0 hko HIT
            have x0:w4.cell? ⟨qs,0,none⟩=some (.string ⟨s.sum.toArray⟩):=by rw [cell_of_row _ _ 0 _ _ _ HX3.out]; rfl
            have x1:w4.cell? ⟨qs,1,none⟩=some (.string ⟨s.place.toArray⟩):=by rw [cell_of_row _ _ 1 _ _ _ HX3.out]; rfl
            have x2:w4.cell? ⟨qs,2,none⟩=some (.string ⟨s.lf.toArray⟩):=by rw [cell_of_row _ _ 2 _ _ _ HX3.out]; rfl
            have x3:w4.cell? ⟨qs,3,none⟩=some (.string ⟨s.le.toArray⟩):=by rw [cell_of_row _ _ 3 _ _ _ HX3.out]; rfl
            go_wp2_with (refine wpList_load_row (by rfl) _ _ (by rfl) q4 (by rfl) _ C _ _ HN3.out Tryz.underlying110 (by rfl) HI.out ?_)
            refine HITC.out.mono ?_
            rintro e5 w5 ⟨k',rfl,hk',hb5⟩
            have HKJ:=qh hk'
            have hA5:Below w5.heap.size w5 (w5.alloc (.cells #[.string ⟨k'.toArray⟩,.string ⟨n.val.toArray⟩] 60)):=(Below.refl _ w5).alloc (Nat.le_refl _) _
            have HB5:=qh (bchain hb5 hA5)
            have HRI:Hid ((w5.alloc (.cells #[.string ⟨k'.toArray⟩,.string ⟨n.val.toArray⟩] 60)).heap[w5.heap.size]?=some (.cells #[.string ⟨k'.toArray⟩,.string ⟨n.val.toArray⟩] 60 (0,0))):=qh (heap_alloc_new w5 _)
            clear x0 x1 x2 x3 d1 d2 hb5 hA5 hk'
            cases ko with
            | none=>
              have hoo:o=none:=by
                have h1:=HLO2.out
                unfold Spn.ownP at h1
                rw [if_neg HV0.out,HKO.out] at h1
                exact h1.symm
              have HOO:=qh hoo
              clear hoo
              go_wp2
              try rw [Exit.noGoto_ret]
              go_ret2
              exact GatherPost.no HOO.out (bchain HG3.out.old HB5.out)
            | some j=>
              obtain rfl:k'=j:=HKJ.out j rfl
              have hlo3:Spn.loopP r (Spn.belowP s n ++ ss) (if Spn.hasP s.lf s.le n.path then I ++ [(k',n.val)] else I)=o:=by
                have h1:=HLO2.out
                unfold Spn.ownP at h1
                rw [if_neg HV0.out,HKO.out] at h1
                exact h1
              obtain ⟨hb,hhb⟩:∃ hb,Spn.hasP s.lf s.le n.path=hb:=⟨_,rfl⟩
              have HHAS:=qh (fun w=>sphas_any s.lf s.le n.path w)
              rw [hhb] at HHAS hlo3
              have HLO3:=qh hlo3
              clear hlo3 hhb
              obtain ⟨w6,hw6⟩:∃ w6,w5.alloc (.cells #[.string ⟨k'.toArray⟩,.string ⟨n.val.toArray⟩] 60)=w6:=⟨_,rfl⟩
              rw [hw6] at HB5 HRI
              have HX6:=qh ((HB5.out.block _ (lt_of_heap HX3.out)).trans HX3.out)
              have x2:w6.cell? ⟨qs,2,none⟩=some (.string ⟨s.lf.toArray⟩):=by rw [cell_of_row _ _ 2 _ _ _ HX6.out]; rfl
              have x3:w6.cell? ⟨qs,3,none⟩=some (.string ⟨s.le.toArray⟩):=by rw [cell_of_row _ _ 3 _ _ _ HX6.out]; rfl
              have d1:=(HNA.out.below HB5.out).path
              go_wp2_with fail
              refine (HHAS.out _).mono ?_
              rintro e7 w7 ⟨rfl,hb7⟩
              clear hw6
              have HG7a:=qh ((HG3.out.below HB5.out).below hb7)
              have HX7:=qh ((hb7.block _ (lt_of_heap HX6.out)).trans HX6.out)
              have hn6:=(HB5.out.block _ (lt_of_heap HN3.out)).trans HN3.out
              have HN7:=qh ((hb7.block _ (lt_of_heap hn6)).trans hn6)
              have HRI7:=qh ((hb7.block _ (lt_of_heap HRI.out)).trans HRI.out)
              clear hb7 x2 x3 d1 hn6
              cases hb with
              | false=>
                have HLN:Hid (Spn.loopP r (Spn.belowP s n ++ ss) I=o):=HLO3
                have HG5:=HG7a
                have HX5:=HX7
                have HN5:=HN7
                have x0:w7.cell? ⟨qs,0,none⟩=some (.string ⟨s.sum.toArray⟩):=by rw [cell_of_row _ _ 0 _ _ _ HX5.out]; rfl
                have x1:w7.cell? ⟨qs,1,none⟩=some (.string ⟨s.place.toArray⟩):=by rw [cell_of_row _ _ 1 _ _ _ HX5.out]; rfl
                have x2:w7.cell? ⟨qs,2,none⟩=some (.string ⟨s.lf.toArray⟩):=by rw [cell_of_row _ _ 2 _ _ _ HX5.out]; rfl
                have x3:w7.cell? ⟨qs,3,none⟩=some (.string ⟨s.le.toArray⟩):=by rw [cell_of_row _ _ 3 _ _ _ HX5.out]; rfl
                go_wp2_with (refine wpList_load_row (by rfl) _ _ (by rfl) q4 (by rfl) _ C _ _ HN5.out Tryz.underlying110 (by rfl) HI.out ?_)
                refine (HBL.out _ HPS.out HPA.out).mono ?_
                rintro e6 w6 ⟨zb,rfl,hzb,hb6⟩
                obtain ⟨v7,w7,hrun,how,hgr,-⟩:=app_q (HG5.out.below hb6).sought hzb.at_ HNB.out.2.2.2 (HG5.out.below hb6).old.size
                rw [← List.reverse_append] at how
                have HRUN:=qh hrun
                have HG7:=qh ((HG5.out.below hb6).more hgr how)
                obtain ⟨Ab,nb,capb,rfl⟩:∃ Ab nb capb,zb=.slice Ab nb capb:=by
                  obtain ⟨Ab,capb,h,-,-⟩:=hzb.at_.form
                  exact ⟨Ab,_,capb,h⟩
                clear hrun how hgr hzb hb6
                go_wp2_with (at_builtin; refine wpList_append_run rfl _ _ _ rfl (.slice (some ⟨g,0,none⟩) k cp) (.slice Ab nb capb) _ (by rfl) (by rfl) HRUN.out ?_)
                refine ⟨⟨Spn.belowP s n ++ ss,I,r,_,v7,_,rfl,rfl,HG7.out,HST3.out,HLN.out,fun y hy=>?_,HNB.out.1,(by have:=HNB.out.2.1; omega),fun y hy=>HL.out y (List.mem_cons_of_mem _ hy)⟩,?_⟩
                · rcases List.mem_append.1 hy with hy | hy
                  · exact below_place s n y hy
                  · exact HPL.out y (List.mem_cons_of_mem _ hy)
                · rw [leftN_of HG7.out.left,cl0.out]
                  exact HNB.out.2.2.1
              | true=>
                have HLN:Hid (Spn.loopP r (Spn.belowP s n ++ ss) (I ++ [(k',n.val)])=o):=HLO3
                have m0:w7.cell? ⟨w5.heap.size,0,none⟩=some (.string ⟨k'.toArray⟩):=by rw [cell_of_row _ _ 0 _ _ _ HRI7.out]; rfl
                have m1:w7.cell? ⟨w5.heap.size,1,none⟩=some (.string ⟨n.val.toArray⟩):=by rw [cell_of_row _ _ 1 _ _ _ HRI7.out]; rfl
                have hA7:Below w7.heap.size w7 (w7.alloc (.cells #[.string ⟨k'.toArray⟩,.string ⟨n.val.toArray⟩] 60)):=(Below.refl _ w7).alloc (Nat.le_refl _) _
                have hiv:ItAt (w7.alloc (.cells #[.string ⟨k'.toArray⟩,.string ⟨n.val.toArray⟩] 60)) (.slice (some ⟨w7.heap.size,0,none⟩) 1 1) [(k',n.val)]:=
                  OwnI.at_ (B:=w7.heap.size) ⟨rfl,Or.inr ⟨w7.heap.size,1,_,rfl,Nat.le_refl _,heap_alloc_new w7 _,by simp,by simp [maxLen],rfl,rfl⟩⟩
                obtain ⟨v8,w8,hrun8,how8,hgr8,-⟩:=append_it hiv (HG7a.out.below hA7).items (by have:=HNB.out.2.1; simp; omega) (HG7a.out.below hA7).old.size
                have how8':OwnI w8 w.heap.size v8 (I ++ [(k',n.val)]):=by
                  unfold OwnI
                  rw [List.length_append,rowsL_append]
                  exact how8
                have hg8:=(HG7a.out.below hA7).item hgr8 how8'
                have hO8:=Out.grown hgr8 (F:=fun j=>(Value.slice A4 I.length cap4).ownBlock=some j) (fun j e=>e)
                have hx7:=(hA7.block _ (lt_of_heap HX7.out)).trans HX7.out
                have hn7:=(hA7.block _ (lt_of_heap HN7.out)).trans HN7.out
                have HG5:=qh hg8
                have HX5:=qh (hO8.heap hx7 (fun e=>row_block_ne (HG7a.out.below hA7).items (by decide) hx7 e))
                have HN5:=qh (hO8.heap hn7 (fun e=>row_block_ne (HG7a.out.below hA7).items (by decide) hn7 e))
                have HRUN8:=qh hrun8
                clear hA7 hiv hrun8 how8 hgr8 how8' hg8 hO8 hx7 hn7
                go_upto_region 18 with (at_builtin; refine wpList_append_run rfl _ _ _ rfl (.slice A4 I.length cap4) (.slice (some ⟨w7.heap.size,0,none⟩) 1 1) _ (by rfl) (by rfl) HRUN8.out ?_)
                have x0:w8.cell? ⟨qs,0,none⟩=some (.string ⟨s.sum.toArray⟩):=by rw [cell_of_row _ _ 0 _ _ _ HX5.out]; rfl
                have x1:w8.cell? ⟨qs,1,none⟩=some (.string ⟨s.place.toArray⟩):=by rw [cell_of_row _ _ 1 _ _ _ HX5.out]; rfl
                have x2:w8.cell? ⟨qs,2,none⟩=some (.string ⟨s.lf.toArray⟩):=by rw [cell_of_row _ _ 2 _ _ _ HX5.out]; rfl
                have x3:w8.cell? ⟨qs,3,none⟩=some (.string ⟨s.le.toArray⟩):=by rw [cell_of_row _ _ 3 _ _ _ HX5.out]; rfl
                go_wp2_with (refine wpList_load_row (by rfl) _ _ (by rfl) q4 (by rfl) _ C _ _ HN5.out Tryz.underlying110 (by rfl) HI.out ?_)
                refine (HBL.out _ HPS.out HPA.out).mono ?_
                rintro e6 w6 ⟨zb,rfl,hzb,hb6⟩
                obtain ⟨v7,w7,hrun,how,hgr,-⟩:=app_q (HG5.out.below hb6).sought hzb.at_ HNB.out.2.2.2 (HG5.out.below hb6).old.size
                rw [← List.reverse_append] at how
                have HRUN:=qh hrun
                have HG7:=qh ((HG5.out.below hb6).more hgr how)
                obtain ⟨Ab,nb,capb,rfl⟩:∃ Ab nb capb,zb=.slice Ab nb capb:=by
                  obtain ⟨Ab,capb,h,-,-⟩:=hzb.at_.form
                  exact ⟨Ab,_,capb,h⟩
                clear hrun how hgr hzb hb6
                go_wp2_with (at_builtin; refine wpList_append_run rfl _ _ _ rfl (.slice (some ⟨g,0,none⟩) k cp) (.slice Ab nb capb) _ (by rfl) (by rfl) HRUN.out ?_)
                refine ⟨⟨Spn.belowP s n ++ ss,I ++ [(k',n.val)],r,_,v7,_,rfl,rfl,HG7.out,HST3.out,HLN.out,fun y hy=>?_,HNB.out.1,(by have:=HNB.out.2.1; simp; omega),fun y hy=>HL.out y (List.mem_cons_of_mem _ hy)⟩,?_⟩
                · rcases List.mem_append.1 hy with hy | hy
                  · exact below_place s n y hy
                  · exact HPL.out y (List.mem_cons_of_mem _ hy)
                · rw [leftN_of HG7.out.left,cl0.out]
                  exact HNB.out.2.2.1
end
end Go.Proofs.YtaficmboooaknaaGreatDoor
