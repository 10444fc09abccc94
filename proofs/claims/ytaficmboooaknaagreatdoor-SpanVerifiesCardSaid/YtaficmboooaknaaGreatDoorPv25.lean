import Derived.Test.YtaficmboooaknaaGreatDoorPv01
import Derived.Test.YtaficmboooaknaaGreatDoorPv24
set_option maxRecDepth 100000
set_option maxHeartbeats 16000000
namespace Go.Proofs.YtaficmboooaknaaGreatDoor
section
open Go.RowKit
open Sto (T St)
open Go.Proofs.YtaficmboooaknaaGreatDoor.Nd (N)
def RGP (o:Option (St × List T)) (wv w:World) (e:Ending) (w':World):Prop:=
  ∃ (A1:Option Addr) (n1 c1:Nat) (A2:Option Addr) (n2 c2:Nat) (b:Bool),e=.returned (.agg #[.slice A1 n1 c1,.slice A2 n2 c2,.bool b])/\b=o.isSome/\(∀ u,o=some u->ItAt w' (.slice A1 n1 c1) u.1/\StrsC wv (.slice A2 n2 c2) u.2)/\Below w.heap.size w w'
theorem RGP.no {o:Option (St × List T)} {A1 A2:Option Addr} {n1 c1 n2 c2:Nat} {wv w w':World} (h:o=none) (hb:Below w.heap.size w w'):RGP o wv w (.returned (.agg #[.slice A1 n1 c1,.slice A2 n2 c2,.bool false])) w':=by
  subst h
  exact ⟨A1,n1,c1,A2,n2,c2,false,rfl,rfl,(fun u e=>by cases e),hb⟩
theorem RGP.yes {o:Option (St × List T)} {J:St} {L:List T} {A1 A2:Option Addr} {n1 c1 n2 c2:Nat} {wv w w':World} (h:o=some (J,L)) (hb:Below w.heap.size w w') (hI:ItAt w' (.slice A1 n1 c1) J) (hL:StrsC wv (.slice A2 n2 c2) L):RGP o wv w (.returned (.agg #[.slice A1 n1 c1,.slice A2 n2 c2,.bool true])) w':=by
  subst h
  exact ⟨A1,n1,c1,A2,n2,c2,true,rfl,rfl,(fun u e=>by cases e; exact ⟨hI,hL⟩),hb⟩
theorem cells_set' {w:World} {p:Nat} {cs:Array Value} {t:TypeId} (h:w.heap[p]?=some (.cells cs t (0,0))) (i:Nat) (v:Value):(w.setCell ⟨p,i,none⟩ v).heap[p]?=some (.cells (cs.setIfInBounds i v) t (0,0)):=by
  rw [setCell_eq_setRow w p i cs t (0,0) v h]
  exact setRow_heap _ _ _ _ _ _ h
def PartAt (w:World) (q:Nat) (a b c:Value):Prop:=w.heap[q]?=some (.cells #[a,b,c] 80 (0,0))
theorem PartAt.below {w w':World} {q:Nat} {a b c:Value} (h:PartAt w q a b c) (hb:Below w.heap.size w w'):PartAt w' q a b c:=(hb.block q (lt_of_heap h)).trans h
theorem PartAt.cells {w:World} {q:Nat} {a b c:Value} (h:PartAt w q a b c):w.cell? ⟨q,0,none⟩=some a/\w.cell? ⟨q,1,none⟩=some b/\w.cell? ⟨q,2,none⟩=some c:=
  ⟨by rw [cell_of_row _ _ 0 _ _ _ h]; rfl,by rw [cell_of_row _ _ 1 _ _ _ h]; rfl,by rw [cell_of_row _ _ 2 _ _ _ h]; rfl⟩
theorem PartAt.free {w:World} {q:Nat} {a b c:Value} (h:PartAt w q a b c):w.frozen? ⟨q,0,none⟩=false/\w.frozen? ⟨q,1,none⟩=false/\w.frozen? ⟨q,2,none⟩=false:=⟨frozen_of_row _ _ 0 _ _ h,frozen_of_row _ _ 1 _ _ h,frozen_of_row _ _ 2 _ _ h⟩
theorem PartAt.set {w:World} {q:Nat} {a b c:Value} (h:PartAt w q a b c) (x y z:Value):PartAt (((w.setCell ⟨q,0,none⟩ x).setCell ⟨q,1,none⟩ y).setCell ⟨q,2,none⟩ z) q x y z:=cells_set' (cells_set' (cells_set' h 0 x) 1 y) 2 z
theorem set3_out {w:World} {q:Nat} (x y z:Value):Out (fun k=>k=q) w (((w.setCell ⟨q,0,none⟩ x).setCell ⟨q,1,none⟩ y).setCell ⟨q,2,none⟩ z):=
  Out.setCell (F:=fun k=>k=q) (Out.setCell (F:=fun k=>k=q) (Out.setCell (F:=fun k=>k=q) (Out.refl _ _) (p:=⟨q,0,none⟩) rfl x) (p:=⟨q,1,none⟩) rfl y) (p:=⟨q,2,none⟩) rfl z
theorem PartAt.result {w:World} {q:Nat} {a b c:Value} (h:PartAt w q a b c):w.heap[q]?=some (.cells #[a,b,c] 80 (0,0)):=h
def Spn.kidsO (f e:T) (n:N) (p:T) (R:List Nat):Option (St × List T)->Option (St × List T)
  | none=>none
  | some u=>Spn.kidsF (Spn.gather f e) n p R u
def Spn.nextO (f e:T) (n:N) (p:T) (k:Nat) (kd:T):Option (St × List T)->Option (St × List T)
  | none=>none
  | some u=>Spn.gather f e kd (Spn.kidP n p k) u
theorem Spn.kidsO_step (f e:T) (n:N) (p:T) (k:Nat) (hk:k < 16) (st:Option (St × List T)):Spn.kidsO f e n p ((List.range 16).drop k) st=if n.kids.getD k []=[] then Spn.kidsO f e n p ((List.range 16).drop (k+1)) st else Spn.kidsO f e n p ((List.range 16).drop (k+1)) (Spn.nextO f e n p k (n.kids.getD k []) st):=by
  rw [List.drop_eq_getElem_cons (by simpa using hk),List.getElem_range]
  cases st with
  | none=>split <;> rfl
  | some u=>
    unfold Spn.kidsO Spn.nextO
    dsimp only
    rw [Spn.kidsF]
    split
    · rfl
    · cases Spn.gather f e (n.kids.getD k []) (Spn.kidP n p k) u <;> rfl
def GathOk (f e:T) (wv:World) (m:Nat):Prop:=∀ (s p:T) (J:St) (L:List T) (A1:Option Addr) (c1:Nat) (A2:Option Addr) (c2:Nat) (w:World),L.length=m->Below wv.heap.size wv w->ItAt w (.slice A1 J.length c1) J->StrsC wv (.slice A2 L.length c2) L->(∀ x ∈ L,x.length<=999)->p.length+20 * L.length<=10000->J.length+L.length<=10000->
    Calls Tryz.prog 48 #[.agg #[.slice A1 J.length c1,.slice A2 L.length c2,.bool true],.string ⟨s.toArray⟩,.string ⟨p.toArray⟩,.string ⟨f.toArray⟩,.string ⟨e.toArray⟩] w (RGP (Spn.gather f e s p (J,L)) wv w)
end
section
open Go.RowKit
open Sto (T St)
open Go.Proofs.YtaficmboooaknaaGreatDoor.Nd (N)
theorem rgather_A (f e:T) (hf:f.length<=1000000) (he:e.length<=1000000) (wv:World) (s p:T) (J:St) (L:List T) (A1:Option Addr) (c1:Nat) (A2:Option Addr) (c2:Nat) (w:World) (hcase:∀ x r,L=x :: r->(Nd.dec x).1.val=[]) (ih:∀ m < L.length,GathOk f e wv m) (hwv:Below wv.heap.size wv w) (hI:ItAt w (.slice A1 J.length c1) J) (hL:StrsC wv (.slice A2 L.length c2) L) (hLs:∀ x ∈ L,x.length<=999) (hp:p.length+20 * L.length<=10000) (hJ:J.length+L.length<=10000):
    Calls Tryz.prog 48 #[.agg #[.slice A1 J.length c1,.slice A2 L.length c2,.bool true],.string ⟨s.toArray⟩,.string ⟨p.toArray⟩,.string ⟨f.toArray⟩,.string ⟨e.toArray⟩] w (RGP (Spn.gather f e s p (J,L)) wv w):=by
  obtain ⟨k,hk⟩:∃ k,L.length=k:=⟨_,rfl⟩
  rw [hk] at ih
  have HIN:=qh (fun w=>rtIn_any p f e w hf he)
  obtain ⟨w0,hw0⟩:∃ w0,(w.alloc (.cells #[.slice A1 J.length c1,.slice A2 L.length c2,.bool true] 80)).alloc (.cells #[.slice none 0 0,.slice none 0 0,.bool false] 80)=w0:=⟨_,rfl⟩
  have ha:Below w.heap.size w (w.alloc (.cells #[.slice A1 J.length c1,.slice A2 L.length c2,.bool true] 80)):=(Below.refl _ w).alloc (Nat.le_refl _) _
  have hb0:Below w.heap.size w w0:=by rw [← hw0]; exact ha.alloc ha.size _
  have r5:PartAt w0 w.heap.size (.slice A1 J.length c1) (.slice A2 L.length c2) (.bool true):=by
    rw [← hw0]
    have h1:=heap_alloc_new w (.cells #[.slice A1 J.length c1,.slice A2 L.length c2,.bool true] 80)
    exact (Below.heap_alloc _ _ _ (lt_of_heap h1)).trans h1
  have r10:PartAt w0 (w.heap.size+1) (.slice none 0 0) (.slice none 0 0) (.bool false):=by
    unfold PartAt
    rw [← hw0,← World.size_alloc w (.cells #[.slice A1 J.length c1,.slice A2 L.length c2,.bool true] 80)]
    exact heap_alloc_new _ _
  have HB0:=qh hb0
  have HR5:=qh r5
  have HR10:=qh r10
  have HNX:Hid (w.heap.size<=w.heap.size+1):=qh (Nat.le_succ _)
  obtain ⟨p0,p1,p2⟩:=r5.cells
  cases hin:Tri.inL p f e with
  | false=>
    rw [Spn.gather_out hin]
    rw [hin] at HIN
    have HI0:=qh hI
    have HL0:=qh hL
    clear hcase ih hk hwv hI hL hLs hp hJ hb0 r5 r10 ha hin
    go_enter Tryz.func48,Tryz.ntmps48
    go_upto_region 1 with fail
    clear hw0
    go_wp2_with fail
    refine (HIN.out _).mono ?_
    rintro e1 w1 ⟨rfl,hb1⟩
    have HB1:=qh hb1
    obtain ⟨p0,p1,p2⟩:=(HR5.out.below hb1).cells
    obtain ⟨u0,u1,u2⟩:=(HR10.out.below hb1).cells
    obtain ⟨f0,f1,f2⟩:=(HR10.out.below hb1).free
    clear hb1
    go_wp2_with fail
    have hfin:=(HR10.out.below HB1.out).set (.slice A1 J.length c1) (.slice A2 L.length c2) (.bool true)
    refine bodyPost_ret (nresults_c1 rfl _ _ (w.heap.size+1) _ _ _ _ rfl hfin Tryz.underlying80 rfl (by kernel_rfl)) rfl ?_
    have hbb:=bchain HB0.out HB1.out
    refine RGP.yes rfl (((hbb.setCell (p:=⟨_,0,none⟩) HNX.out _).setCell (p:=⟨_,1,none⟩) HNX.out _).setCell (p:=⟨_,2,none⟩) HNX.out _) ?_ HL0.out
    exact RowsAt.outF (F:=fun k=>k=w.heap.size+1) (RowsAt.below HI0.out hbb) (set3_out _ _ _) (fun k cs fl hk hh=>by subst hk; have h2:=HR10.out.below HB1.out; rw [h2.result] at hh; revert hh; simp)
  | true=>
    rw [hin] at HIN
    have HI0:=qh hI
    have HL0:=qh hL
    have HWV:=qh hwv
    have HZ:Hid (∀ w1,Below w0.heap.size w0 w1->PartAt (w1.alloc (.cells #[.slice none 0 0,.slice none 0 0,.bool false] 80)) w1.heap.size (.slice none 0 0) (.slice none 0 0) (.bool false)/\Below w0.heap.size w0 (w1.alloc (.cells #[.slice none 0 0,.slice none 0 0,.bool false] 80))):=qh (fun w1 h=>⟨heap_alloc_new w1 _,h.alloc h.size _⟩)
    cases L with
    | nil=>
      have hno:=Spn.gather_none (f:=f) (e:=e) (s:=s) (p:=p) (I:=J) hin
      have HNO:=qh hno
      have hw1:(w.alloc (.cells #[.slice A1 J.length c1,.slice A2 0 c2,.bool true] 80)).alloc (.cells #[.slice none 0 0,.slice none 0 0,.bool false] 80)=w0:=hw0
      have p1':w0.cell? ⟨w.heap.size,1,none⟩=some (.slice A2 0 c2):=p1
      clear hcase ih hk hwv hI hL hLs hp hJ hb0 r5 r10 ha hin hno hw0 p1
      go_enter Tryz.func48,Tryz.ntmps48
      go_upto_region 1 with fail
      try clear hw1
      go_wp2_with fail
      refine (HIN.out _).mono ?_
      rintro e1 w1 ⟨rfl,hb1⟩
      have HB1:=qh hb1
      clear hb1 p0 p1' p2
      go_upto_region 4 with fail
      obtain ⟨hq,hbq⟩:=HZ.out w1 HB1.out
      have HQ:=qh hq
      have HBQ:=qh hbq
      obtain ⟨w2,hw2⟩:∃ w2,w1.alloc (.cells #[.slice none 0 0,.slice none 0 0,.bool false] 80)=w2:=⟨_,rfl⟩
      rw [hw2] at HQ HBQ ⊢
      obtain ⟨p0,p1,p2⟩:=(HR5.out.below HBQ.out).cells
      clear hq hbq hw2
      obtain ⟨g0,g1,g2⟩:=(HQ.out).cells
      obtain ⟨u0,u1,u2⟩:=(HR10.out.below HBQ.out).cells
      obtain ⟨f0,f1,f2⟩:=(HR10.out.below HBQ.out).free
      go_wp2_with fail
      have hfin:=(HR10.out.below HBQ.out).set (.slice none 0 0) (.slice none 0 0) (.bool false)
      refine bodyPost_ret (nresults_c1 rfl _ _ (w.heap.size+1) _ _ _ _ rfl hfin Tryz.underlying80 rfl (by kernel_rfl)) rfl ?_
      exact RGP.no HNO.out (((Below.setCell (p:=⟨_,0,none⟩) (bchain HB0.out HBQ.out) HNX.out _).setCell (p:=⟨_,1,none⟩) HNX.out _).setCell (p:=⟨_,2,none⟩) HNX.out _)
    | cons x r=>
      have HCS:=qh (hcase x r rfl)
      have hx:x.length<=999:=hLs x (List.mem_cons_self ..)
      have HTG:Hid (∀ w',Calls Tryz.prog 50 #[.int .i64 1,.string ⟨x.toArray⟩] w' fun e w''=>e=.returned (.string ⟨(Sto.sumOf x).toArray⟩)/\Below w'.heap.size w' w''):=qh (fun w'=>by
        have:=rTagged_any 1 x w' hx
        unfold Sto.sumOf Dig.sum
        rw [if_pos (by decide)]
        exact this)
      have HND:=qh (fun w=>rndecode_any x w (by omega))
      have hG:=Spn.gather_cons (f:=f) (e:=e) (s:=s) (p:=p) (x:=x) (I:=J) (r:=r) hin
      obtain ⟨o,ho⟩:∃ o,Spn.gather f e s p (J,x :: r)=o:=⟨_,rfl⟩
      rw [ho] at hG ⊢
      have HGO:=qh hG
      obtain ⟨a,ha',hcell,-,hcap⟩:=(hL.below hwv).head
      subst ha'
      obtain ⟨ab,ao,asp⟩:=a
      have hblt:=World.block_lt_of_cell? _ _ hcell
      have HCX:Hid (∀ w',Below w0.heap.size w0 w'->w'.cell? ⟨ab,ao,asp⟩=some (.string ⟨x.toArray⟩)):=qh (fun w' h=>((hb0.trans (h.mono hb0.size)).cell hblt).trans hcell)
      obtain ⟨A',cap',hrun,hst⟩:=hL.tail
      have HST:=qh hst
      obtain ⟨X,hX⟩:∃ X,Sto.sumOf x=X:=⟨_,rfl⟩
      have HXE:=qh hX
      rw [hX] at HTG
      have HLS:=qh (fun y (hy:y ∈ r)=>hLs y (List.mem_cons_of_mem _ hy))
      have HPB:Hid (p.length+20+20 * r.length<=10000/\J.length+1+r.length<=10000):=qh (by rw [List.length_cons] at hp hJ; omega)
      have HIH:=qh (fun (s p:T) (J':St) (L':List T) (A1:Option Addr) (c1:Nat) (A2:Option Addr) (c2:Nat) (w:World) (h:L'.length<=r.length)=>ih L'.length (by rw [← hk,List.length_cons]; omega) s p J' L' A1 c1 A2 c2 w rfl)
      obtain ⟨nn,hnn⟩:∃ nn,(x :: r).length=nn:=⟨_,rfl⟩
      have hnn1:nn=r.length+1:=by rw [← hnn,List.length_cons]
      rw [hnn] at hrun p1 HR5 hw0 ⊢
      have z0:((nn:Int) == 0)=false:=by rw [beq_eq_false_iff_ne]; omega
      have z1:(nn == 0)=false:=by rw [beq_eq_false_iff_ne]; omega
      have z2:(0:Int) < (nn:Int):=by omega
      have z3:0 < nn:=by omega
      clear hcase ih hk hwv hI hL hLs hp hJ hb0 r5 r10 ha hin ho hG hcell hblt hst hX hnn hnn1 hx hcap
      go_enter Tryz.func48,Tryz.ntmps48
      go_upto_region 1 with fail
      try clear hw0
      go_wp2_with fail
      refine (HIN.out _).mono ?_
      rintro e1 w1 ⟨rfl,hb1⟩
      have HB1:=qh hb1
      clear hb1 p0 p1 p2
      go_upto_region 4 with fail
      obtain ⟨hq,hbq⟩:=HZ.out w1 HB1.out
      have HQ:=qh hq
      have HBQ:=qh hbq
      obtain ⟨w2,hw2⟩:∃ w2,w1.alloc (.cells #[.slice none 0 0,.slice none 0 0,.bool false] 80)=w2:=⟨_,rfl⟩
      obtain ⟨q11,hq11⟩:∃ q11,w1.heap.size=q11:=⟨_,rfl⟩
      rw [hw2,hq11] at HQ
      rw [hw2] at HBQ
      rw [hw2,hq11]
      obtain ⟨p0,p1,p2⟩:=(HR5.out.below HBQ.out).cells
      have cx:=HCX.out _ HBQ.out
      clear hq hbq hw2 hq11
      go_wp2_with fail
      refine (HTG.out _).mono ?_
      rintro e3 w3 ⟨rfl,hb3⟩
      have HQ3:=qh (HQ.out.below hb3)
      have HB3:=qh (bchain HBQ.out hb3)
      clear hb3 p0 p1 p2 cx
      by_cases hxs:X=s
      case neg=>
        have y1:(X == s)=false:=beq_eq_false_iff_ne.2 hxs
        have y2:(X != s)=true:=by rw [bne_iff_ne]; exact hxs
        have HNO:Hid (o=none):=qh (by rw [HGO.out,if_neg (fun h=>hxs (by have:=of_decide_eq_true h; exact HXE.out.symm.trans this.1))])
        clear hxs
        obtain ⟨g0,g1,g2⟩:=(HQ3.out).cells
        obtain ⟨u0,u1,u2⟩:=(HR10.out.below HB3.out).cells
        obtain ⟨f0,f1,f2⟩:=(HR10.out.below HB3.out).free
        go_wp2_with fail
        have hfin:=(HR10.out.below HB3.out).set (.slice none 0 0) (.slice none 0 0) (.bool false)
        refine bodyPost_ret (nresults_c1 rfl _ _ (w.heap.size+1) _ _ _ _ rfl hfin Tryz.underlying80 rfl (by kernel_rfl)) rfl ?_
        exact RGP.no HNO.out (((Below.setCell (p:=⟨_,0,none⟩) (bchain HB0.out HB3.out) HNX.out _).setCell (p:=⟨_,1,none⟩) HNX.out _).setCell (p:=⟨_,2,none⟩) HNX.out _)
      subst hxs
      have y1:(X == X)=true:=beq_self_eq_true _
      have y2:(X != X)=false:=by simp
      unfold NDecPost ndval at HND
      have hn16:=Prf.dec16 x
      have HTO:=qh (fun h=>Prf.Told.of (x:=x) h)
      have HT2:=qh (fun h=>Spn.Told2.of (x:=x) h)
      obtain ⟨⟨n,cd⟩,hD⟩:∃ X,Nd.dec x=X:=⟨_,rfl⟩
      have HDX:=qh hD
      rw [hD] at HND HTO HT2 hn16
      dsimp only at HND HTO HT2 hn16
      have HN16:=qh hn16
      have HNV:Hid (∀ w2:World,NodeAt (w2.alloc (.cells (ncl n).toArray 110)) w2.heap.size n):=qh (fun w2=>heap_new_at w2 _ _ rfl)
      have HON:=qh (ncl_one n)
      have HSZ:Hid ((ncl n).toArray.size=19):=qh (by rw [List.size_toArray,ncl_length n hn16])
      obtain ⟨C,hC⟩:∃ C,(ncl n).toArray=C:=⟨_,rfl⟩
      rw [hC] at HND HNV HON HSZ
      have HI:Hid ((Tryz.prog.info? 110).map (·.size)=some C.size):=qh (by rw [HSZ.out]; kernel_rfl)
      obtain ⟨p0,p1,p2⟩:=(HR5.out.below HB3.out).cells
      have cx:=HCX.out _ HB3.out
      clear hC hD hn16
      go_wp2_with fail
      refine (HND.out _).mono ?_
      rintro e4 w4 ⟨rfl,hb4⟩
      have hA4:Below w4.heap.size w4 (w4.alloc (.cells C 110)):=(Below.refl _ w4).alloc (Nat.le_refl _) _
      have HQ5:=qh ((HQ3.out.below hb4).below hA4)
      have HB5:=qh (bchain (bchain HB3.out hb4) hA4)
      have HNA:=qh (HNV.out w4)
      clear hb4 hA4 p0 p1 p2 cx HND HNV
      by_cases hcd:cd=0
      case neg=>
        have hc1:(cd != 0)=true:=by rw [bne_iff_ne]; exact hcd
        have hc2:(cd == 0)=false:=beq_eq_false_iff_ne.2 hcd
        have hc3:((cd:Int) == 0)=false:=by rw [beq_eq_false_iff_ne]; omega
        have HNO:Hid (o=none):=qh (by rw [HGO.out,if_neg (fun h=>hcd (by have:=(of_decide_eq_true h).2; rw [HDX.out] at this; exact this))])
        clear hcd
        go_upto_region 8 with (refine wpList_store_fresh (by rfl) _ _ _ (by rfl) w4.heap.size rfl C (by rfl) (by rfl) _ _ HI.out HSZ.out.symm HON.out ?_)
        obtain ⟨w5,hw5⟩:∃ w5,w4.alloc (.cells C 110)=w5:=⟨_,rfl⟩
        rw [hw5] at HQ5 HB5 ⊢
        clear hw5
        obtain ⟨g0,g1,g2⟩:=(HQ5.out).cells
        obtain ⟨u0,u1,u2⟩:=(HR10.out.below HB5.out).cells
        obtain ⟨f0,f1,f2⟩:=(HR10.out.below HB5.out).free
        go_wp2_with fail
        have hfin:=(HR10.out.below HB5.out).set (.slice none 0 0) (.slice none 0 0) (.bool false)
        refine bodyPost_ret (nresults_c1 rfl _ _ (w.heap.size+1) _ _ _ _ rfl hfin Tryz.underlying80 rfl (by kernel_rfl)) rfl ?_
        exact RGP.no HNO.out (((Below.setCell (p:=⟨_,0,none⟩) (bchain HB0.out HB5.out) HNX.out _).setCell (p:=⟨_,1,none⟩) HNX.out _).setCell (p:=⟨_,2,none⟩) HNX.out _)
      subst hcd
      have hN:Prf.isN X x=true:=decide_eq_true ⟨HXE.out,by rw [HDX.out]⟩
      have hgo:=HGO.out
      rw [if_pos hN,HDX.out] at hgo
      dsimp only at hgo
      have HGO2:=qh hgo
      have HPA:Hid (n.path.length<=16):=qh ((HTO.out rfl).path)
      clear hN hgo
      go_upto_region 10 with (refine wpList_store_fresh (by rfl) _ _ _ (by rfl) w4.heap.size rfl C (by rfl) (by rfl) _ _ HI.out HSZ.out.symm HON.out ?_)
      obtain ⟨w5,hw5⟩:∃ w5,w4.alloc (.cells C 110)=w5:=⟨_,rfl⟩
      obtain ⟨q4,hq4⟩:∃ q4,w4.heap.size=q4:=⟨_,rfl⟩
      rw [hw5] at HQ5 HB5
      rw [hw5,hq4] at HNA
      rw [hw5,hq4]
      clear hw5 hq4
      have HBW5:=qh (bchain HB0.out HB5.out)
      obtain ⟨p0,p1,p2⟩:=(HR5.out.below HB5.out).cells
      obtain ⟨v6,w6,hrun6,hown6,hgr6,-⟩:=append_it (B:=w5.heap.size) (n:=0) (xs:=[]) (RowsAt.below HI0.out HBW5.out) (show w5.ownsRow w5.heap.size 60 2 (.slice none 0 0) 0 [] from ⟨rfl,Or.inl ⟨rfl,rfl⟩⟩) (by have:=HPB.out.2; omega) (Nat.le_refl _)
      have ho6:OwnI w6 w5.heap.size v6 J:=by
        unfold OwnI
        rw [Nat.zero_add,List.nil_append] at hown6
        exact hown6
      have hb6:Below w5.heap.size w5 w6:=(Out.grown hgr6 (F:=fun j=>(Value.slice none 0 0).ownBlock=some j) (fun j e=>e)).below (fun j hj=>by cases hj) (Nat.le_refl _)
      have HRUN6:=qh hrun6
      have HO6:=qh ho6
      have HB6:=qh (bchain HB5.out hb6)
      have HS56:Hid (w5.heap.size<=w6.heap.size):=qh hb6.size
      have HNA6:=qh (HNA.out.below hb6)
      have HQ6:=qh (HQ5.out.below hb6)
      have d1:=HNA6.out.path
      have d2:=HNA6.out.val
      have d0:=HNA6.out.kind
      clear hrun6 hown6 hgr6 ho6 hb6
      go_upto_region 11 with (at_builtin; refine wpList_append_run rfl _ _ _ rfl (.slice none 0 0) (.slice A1 J.length c1) _ (by rfl) (by rfl) HRUN6.out ?_)
      clear p0 p1 p2
      have hcs:=HCS.out
      rw [HDX.out] at hcs
      dsimp only at hcs
      have hv0:n.val=[]:=hcs
      clear hcs
      · have y6:(n.val == [])=true:=beq_iff_eq.2 hv0
        have y7:n.val.isEmpty=true:=by rw [hv0]; rfl
        have HGS0:Hid (Spn.kidsF (Spn.gather f e) n p (List.range 16) (J,r)=o):=qh (by
          have h1:=HGO2.out
          unfold Spn.takeI at h1
          rw [if_pos hv0] at h1
          exact h1.symm)
        clear hv0
        have HGS:Hid (Spn.kidsF (Spn.gather f e) n p (List.range 16) (J,r)=o):=qh HGS0.out
        obtain ⟨A7,c7,hz7,-,-⟩:=RowsAt.form (HO6.out.at_)
        have HIT7:=qh (HO6.out.at_)
        rw [hz7] at HIT7 ⊢
        clear hz7
        obtain ⟨p0,p1,p2⟩:=(HR5.out.below HB6.out).cells
        have HB7:=qh (bchain HB0.out HB6.out)
        have HNA7:=qh (HNA6.out)
        have HQX:=qh (HR10.out.below HB6.out)
        go_upto_region 18 with fail
        have hP8:PartAt (w6.alloc (.cells #[.slice A7 (J).length c7,.slice A' r.length cap',.bool true] 80)) w6.heap.size (.slice A7 (J).length c7) (.slice A' r.length cap') (.bool true):=heap_alloc_new _ _
        have hA8:Below w6.heap.size w6 (w6.alloc (.cells #[.slice A7 (J).length c7,.slice A' r.length cap',.bool true] 80)):=(Below.refl _ _).alloc (Nat.le_refl _) _
        have HW8:Hid (w.heap.size<=w6.heap.size):=qh HB7.out.size
        have HQL:Hid (w.heap.size+1 < w6.heap.size/\q4 < w6.heap.size):=qh ⟨lt_of_heap HQX.out.result,lt_of_heap HNA7.out⟩
        try simp only [List.length_append,List.length_cons,List.length_nil,Nat.zero_add] at hP8 hA8
        obtain ⟨w8,hw8⟩:∃ w8,w6.alloc (.cells #[.slice A7 J.length c7,.slice A' r.length cap',.bool true] 80)=w8:=⟨_,rfl⟩
        obtain ⟨q17,hq17⟩:∃ q17,w6.heap.size=q17:=⟨_,rfl⟩
        have HP8:=qh hP8
        have HB8:=qh (bchain HB7.out hA8)
        have HIT8:=qh (RowsAt.below HIT7.out hA8)
        have HNA8:=qh (HNA7.out.below hA8)
        have HQ8:=qh (HQX.out.below hA8)
        rw [hw8,hq17] at HP8
        rw [hw8] at HB8 HIT8 HNA8 HQ8
        rw [hq17] at HW8 HQL
        rw [hw8,hq17]
        clear hP8 hA8 hw8 hq17 p0 p1 p2
        go_wp2
        go_loopw [18] (fun iv wr=>∃ (k:Nat) (st:Option (St × List T)) (B1:Option Addr) (m1 d1:Nat) (B2:Option Addr) (m2 d2:Nat) (b:Bool),k<=16/\iv=.int .i64 k/\PartAt wr q17 (.slice B1 m1 d1) (.slice B2 m2 d2) (.bool b)/\b=st.isSome/\(∀ u,st=some u->ItAt wr (.slice B1 m1 d1) u.1/\StrsC wv (.slice B2 m2 d2) u.2/\u.2.length<=r.length/\(∀ y ∈ u.2,y.length<=999)/\u.1.length+u.2.length<=10000)/\Spn.kidsO f e n p ((List.range 16).drop k) st=o/\Out (fun k=>k=q17) w8 wr) (fun iv _=>16 - (intOf iv).toNat)
        case atStart=>exact ⟨0,some (J,r),_,_,_,_,_,_,true,Nat.zero_le _,rfl,HP8.out,rfl,(fun u hu=>by cases hu; exact ⟨HIT8.out,HST.out,Nat.le_refl _,HLS.out,(by dsimp only; have:=HPB.out.2; omega)⟩),HGS.out,Out.refl _ _⟩
        case round=>
          obtain ⟨k,st,B1,m1,d1',B2,m2,d2',b,hk16,rfl,hpt,hbs,hst2,hko,hout⟩:=hrel
          have HPT:=qh hpt
          have HBS:=qh hbs
          have HS2:=qh hst2
          have HKO:=qh hko
          have HBR:Hid (Below w.heap.size w wr):=qh (HB8.out.trans (hout.below (fun k e=>e ▸ HW8.out) HB8.out.size))
          have HNR:=qh (show NodeAt wr q4 n from hout.heap HNA8.out (fun e=>Nat.lt_irrefl _ (e ▸ HQL.out.2)))
          have HQR:=qh (show PartAt wr (w.heap.size+1) _ _ _ from hout.heap HQ8.out.result (fun e=>Nat.lt_irrefl _ (e ▸ HQL.out.1)))
          have HOUT:=qh hout
          obtain ⟨t0,t1,t2⟩:=hpt.cells
          clear hpt hbs hst2 hko hout
          by_cases hlt:k < 16
          case neg=>
            obtain rfl:k=16:=by omega
            have h1:¬ (((16:Nat):Int) < 16):=by omega
            have hso:st=o:=by
              rw [← HKO.out]
              cases st <;> rfl
            have HSO:=qh hso
            obtain ⟨u0,u1,u2⟩:=HQR.out.cells
            obtain ⟨f0,f1,f2⟩:=HQR.out.free
            clear hso hlt
            go_wp2_with fail
            have hfin:=HQR.out.set (.slice B1 m1 d1') (.slice B2 m2 d2') (.bool b)
            refine bodyPost_ret (nresults_c1 rfl _ _ (w.heap.size+1) _ _ _ _ rfl hfin Tryz.underlying80 rfl (by kernel_rfl)) rfl ?_
            refine ⟨B1,m1,d1',B2,m2,d2',b,rfl,by rw [HBS.out,HSO.out],(fun u hu=>?_),(((HBR.out.setCell (p:=⟨_,0,none⟩) HNX.out _).setCell (p:=⟨_,1,none⟩) HNX.out _).setCell (p:=⟨_,2,none⟩) HNX.out _)⟩
            obtain ⟨s1,s2,-⟩:=HS2.out u (HSO.out.trans hu)
            exact ⟨RowsAt.outF (F:=fun k=>k=w.heap.size+1) s1 (set3_out _ _ _) (fun k cs fl hk hh=>by subst hk; rw [HQR.out.result] at hh; revert hh; simp),s2⟩
          have y0:(0:Int)<=(k:Int):=by omega
          have y3:(k:Int) < 16:=by omega
          have hkc:=HNR.out.kid k (by rw [HN16.out]; exact hlt)
          have hgd:n.kids.getD k []=n.kids[k]'(by rw [HN16.out]; exact hlt):=by
            rw [List.getD_eq_getElem?_getD,List.getElem?_eq_getElem (by rw [HN16.out]; exact hlt)]
            rfl
          have hstp:=Spn.kidsO_step f e n p k hlt st
          rw [hgd] at hstp
          obtain ⟨kd,hkd⟩:∃ kd,n.kids[k]'(by rw [HN16.out]; exact hlt)=kd:=⟨_,rfl⟩
          rw [hkd] at hkc hstp
          have HKD:=qh hkd
          have HSTP:=qh hstp
          clear hgd hkd hstp
          by_cases hk0:kd=[]
          · have HO2:Hid (Spn.kidsO f e n p ((List.range 16).drop (k+1)) st=o):=qh (by rw [← HKO.out,HSTP.out,if_pos hk0])
            have y4:(kd == [])=true:=beq_iff_eq.2 hk0
            have y5:kd.isEmpty=true:=by rw [hk0]; rfl
            clear hk0
            go_wp2
            exact ⟨⟨k+1,st,_,_,_,_,_,_,b,by omega,by go_num,HPT.out,HBS.out,HS2.out,HO2.out,HOUT.out⟩,by simp [intOf]; omega⟩
          have HO2:Hid (Spn.kidsO f e n p ((List.range 16).drop (k+1)) (Spn.nextO f e n p k kd st)=o):=qh (by rw [← HKO.out,HSTP.out,if_neg hk0])
          have y4:(kd == [])=false:=beq_eq_false_iff_ne.2 hk0
          have y5:kd.isEmpty=false:=by cases kd <;> simp_all
          have hu:((UInt8.ofNat k).toNat:Int)=(k:Int):=by simp [UInt8.toNat_ofNat']; omega
          have hcv:=conv_one' wr (UInt8.ofNat k) (k:Int) hu.symm _ rfl
          have hwk:IntKind.u8.wrap (k:Int)=(k:Int):=by unfold IntKind.wrap; simp [IntKind.bits,IntKind.signed]; omega
          have hc1:=cat_mk p [UInt8.ofNat k]
          have hc2:=cat_mk p n.path
          have hpl:p.length<=10000:=by have:=HPB.out.1; omega
          have hql:n.path.length<=16:=HPA.out
          have hA9:Below wr.heap.size wr (wr.alloc (.cells #[.int .i64 0] 5)):=(Below.refl _ wr).alloc (Nat.le_refl _) _
          clear hk0 hu hA9
          have HPL:=qh hpl
          have HQL2:=qh hql
          have HCALL:Hid (∀ w',Below wr.heap.size wr w'->Calls Tryz.prog 48 #[.agg #[.slice B1 m1 d1',.slice B2 m2 d2',.bool b],.string ⟨kd.toArray⟩,.string ⟨(Spn.kidP n p k).toArray⟩,.string ⟨f.toArray⟩,.string ⟨e.toArray⟩] w' fun r' w''=>∃ (A1:Option Addr) (n1 c1:Nat) (A2:Option Addr) (n2 c2:Nat) (b2:Bool),r'=.returned (.agg #[.slice A1 n1 c1,.slice A2 n2 c2,.bool b2])/\b2=(Spn.nextO f e n p k kd st).isSome/\(∀ u,Spn.nextO f e n p k kd st=some u->ItAt w'' (.slice A1 n1 c1) u.1/\StrsC wv (.slice A2 n2 c2) u.2/\u.2.length<=r.length/\(∀ y ∈ u.2,y.length<=999)/\u.1.length+u.2.length<=10000)/\Below wr.heap.size wr w''):=qh (fun w' hb=>by
            have hbs:=HBS.out
            cases st with
            | none=>
              obtain rfl:b=false:=hbs
              exact (rgather_bad B1 B2 m1 d1' m2 d2' kd _ f e w').mono fun r' w'' ⟨e1,e2⟩=>⟨B1,m1,d1',B2,m2,d2',false,e1,rfl,(fun u hu=>by cases hu),bchain hb e2⟩
            | some u=>
              obtain rfl:b=true:=hbs
              obtain ⟨s1,s2,s3,s4,s5⟩:=HS2.out u rfl
              obtain ⟨J',L'⟩:=u
              dsimp only at s1 s2 s3 s4 s5
              obtain ⟨B1',d1'',hz1,-,-⟩:=RowsAt.form s1
              obtain ⟨rfl,rfl,rfl⟩:B1=B1'/\m1=J'.length/\d1'=d1'':=by simpa using hz1
              obtain ⟨B2',d2'',hz2,-⟩:=s2.form
              obtain ⟨rfl,rfl,rfl⟩:B2=B2'/\m2=L'.length/\d2'=d2'':=by simpa using hz2
              have hkp:(Spn.kidP n p k).length<=p.length+20:=by
                unfold Spn.kidP
                have:=HPA.out
                split <;> simp <;> omega
              refine (HIH.out kd (Spn.kidP n p k) J' L' B1 d1' B2 d2' w' s3 ((HWV.out.trans ((HBR.out).mono HWV.out.size)).trans (hb.mono (Nat.le_trans HWV.out.size HBR.out.size))) (RowsAt.below s1 hb) s2 s4 (by have:=HPB.out.1; omega) s5).mono fun r' w'' hh=>?_
              obtain ⟨A1,n1,c1,A2,n2,c2,b2,e1,e2,e3,e4⟩:=hh
              refine ⟨A1,n1,c1,A2,n2,c2,b2,e1,e2,fun u hu=>?_,bchain hb e4⟩
              obtain ⟨t1,t2⟩:=e3 u hu
              have hu':Spn.gather f e kd (Spn.kidP n p k) (J',L')=some u:=hu
              have hle:=Spn.gather_le hu'
              have hct:=Spn.gather_count hu'
              dsimp only at hle hct
              exact ⟨t1,t2,Nat.le_trans hle s3,fun y hy=>by
                  have h1:=Spn.gather_sub (J:=u.1) (M:=u.2) (E:=L') hu' (fun z hz=>hz) y hy
                  exact s4 y h1,by omega⟩)
          have hkp3:n.kind ≠ 2->Spn.kidP n p k=p ++ [UInt8.ofNat k]:=fun h=>by unfold Spn.kidP; rw [if_neg h]
          have hkp2:n.kind=2->Spn.kidP n p k=p ++ n.path:=fun h=>by unfold Spn.kidP; rw [if_pos h]
          have HKP3:=qh hkp3
          have HKP2:=qh hkp2
          obtain ⟨KP,hKP⟩:∃ KP,Spn.kidP n p k=KP:=⟨_,rfl⟩
          rw [hKP] at HCALL HKP3 HKP2
          have hA9:Below wr.heap.size wr (wr.alloc (.cells #[.int .u8 (k:Int)] 5)):=(Below.refl _ wr).alloc (Nat.le_refl _) _
          have HB9:=qh hA9
          clear hkp3 hkp2 hKP hA9
          go_upto_region 23 with fail
          obtain ⟨w9,hw9⟩:∃ w9,wr.alloc (.cells #[.int .u8 (k:Int)] 5)=w9:=⟨_,rfl⟩
          rw [hw9] at HB9 ⊢
          have d0:=(HNR.out.below HB9.out).kind
          have d1:=(HNR.out.below HB9.out).path
          clear hw9 hcv t0 t1 t2 hkc
          have HPT9:=qh (HPT.out.below HB9.out)
          have hkc:=(HNR.out.below HB9.out).kid k (by rw [HN16.out]; exact hlt)
          rw [HKD.out] at hkc
          obtain ⟨t0,t1,t2⟩:=HPT9.out.cells
          have BD9:Hid (Below wr.heap.size wr w9.drew):=qh HB9.out.drew
          by_cases hkd2:n.kind=2
          · rw [HKP2.out hkd2] at HCALL
            have y8:(n.kind == 2)=true:=beq_iff_eq.2 hkd2
            rw [hkd2] at d0
            clear hkd2
            go_upto_region 25 with fail
            go_region_with (first | (go_at_call 48; refine (HCALL.out _ BD9.out).mono ?_; rintro r' w10 ⟨A1',n1',c1',A2',n2',c2',b2,rfl,hb2,hs2',hb10⟩; have hpt10:=HPT.out.below hb10; obtain ⟨t0',t1',t2'⟩:=hpt10.cells; obtain ⟨f0',f1',f2'⟩:=hpt10.free; have HB2:=qh hb2; have HS2X:=qh hs2'; clear hb2 hs2'))
            all_goals
              have HP10:=qh (hpt10.set (.slice A1' n1' c1') (.slice A2' n2' c2') (.bool b2))
              have HO10:=qh ((HOUT.out.trans (Out.of hb10)).trans (set3_out (q:=q17) (.slice A1' n1' c1') (.slice A2' n2' c2') (.bool b2)))
              have HS10:Hid (∀ u,Spn.nextO f e n p k kd st=some u->ItAt (((w10.setCell ⟨q17,0,none⟩ (.slice A1' n1' c1')).setCell ⟨q17,1,none⟩ (.slice A2' n2' c2')).setCell ⟨q17,2,none⟩ (.bool b2)) (.slice A1' n1' c1') u.1/\StrsC wv (.slice A2' n2' c2') u.2/\u.2.length<=r.length/\(∀ y ∈ u.2,y.length<=999)/\u.1.length+u.2.length<=10000):=qh (fun u hu=>by
                obtain ⟨a1,a2⟩:=HS2X.out u hu
                exact ⟨RowsAt.outF (F:=fun k=>k=q17) a1 (set3_out _ _ _) (fun k cs fl hk hh=>by subst hk; rw [hpt10.result] at hh; revert hh; simp),a2⟩)
              clear hpt10 hb10
              go_wp2
              exact ⟨⟨k+1,Spn.nextO f e n p k kd st,A1',n1',c1',A2',n2',c2',b2,by omega,by go_num,HP10.out,HB2.out,HS10.out,HO2.out,HO10.out⟩,by simp [intOf]; omega⟩
          · rw [HKP3.out hkd2] at HCALL
            have y8:(n.kind == 2)=false:=beq_eq_false_iff_ne.2 hkd2
            clear hkd2
            go_upto_region 25 with fail
            go_region_with (first | (go_at_call 48; refine (HCALL.out _ BD9.out).mono ?_; rintro r' w10 ⟨A1',n1',c1',A2',n2',c2',b2,rfl,hb2,hs2',hb10⟩; have hpt10:=HPT.out.below hb10; obtain ⟨t0',t1',t2'⟩:=hpt10.cells; obtain ⟨f0',f1',f2'⟩:=hpt10.free; have HB2:=qh hb2; have HS2X:=qh hs2'; clear hb2 hs2'))
            all_goals
              have HP10:=qh (hpt10.set (.slice A1' n1' c1') (.slice A2' n2' c2') (.bool b2))
              have HO10:=qh ((HOUT.out.trans (Out.of hb10)).trans (set3_out (q:=q17) (.slice A1' n1' c1') (.slice A2' n2' c2') (.bool b2)))
              have HS10:Hid (∀ u,Spn.nextO f e n p k kd st=some u->ItAt (((w10.setCell ⟨q17,0,none⟩ (.slice A1' n1' c1')).setCell ⟨q17,1,none⟩ (.slice A2' n2' c2')).setCell ⟨q17,2,none⟩ (.bool b2)) (.slice A1' n1' c1') u.1/\StrsC wv (.slice A2' n2' c2') u.2/\u.2.length<=r.length/\(∀ y ∈ u.2,y.length<=999)/\u.1.length+u.2.length<=10000):=qh (fun u hu=>by
                obtain ⟨a1,a2⟩:=HS2X.out u hu
                exact ⟨RowsAt.outF (F:=fun k=>k=q17) a1 (set3_out _ _ _) (fun k cs fl hk hh=>by subst hk; rw [hpt10.result] at hh; revert hh; simp),a2⟩)
              clear hpt10 hb10
              go_wp2
              exact ⟨⟨k+1,Spn.nextO f e n p k kd st,A1',n1',c1',A2',n2',c2',b2,by omega,by go_num,HP10.out,HB2.out,HS10.out,HO2.out,HO10.out⟩,by simp [intOf]; omega⟩
end
end Go.Proofs.YtaficmboooaknaaGreatDoor
