import Derived.Test.YtaficmboooaknaaGreatDoorPt10
import Derived.Maps.OwnSet
import Derived.Maps.RangeRun
import Derived.Maps.Range
import Derived.Shelf.Sort.Plain
import Derived.Shelf.Slices.In.SortNone
import Derived.Shelf.SlIter.Sorted
import Derived.Shelf.SlMaps.Clone
import Derived.Maps.AppendAt
import Derived.Deep.Slices
import Derived.DataReads
import Derived.Lib.LaidU8
set_option maxRecDepth 100000
set_option maxHeartbeats 16000000
namespace Go.Proofs.YtaficmboooaknaaGreatDoor
section
open Go.RowKit
open Sto (T)
open Tri (Tr Ok upd ix hb lay splitT)
def noK:Ks:=fun _=>nilp
theorem RowP.new {w:World} {k:Nat} {p x s:T} {K:Ks} {C:Array Value} (h:C=(pcl k p x K s).toArray):RowP (w.alloc (.cells C 87)) w.heap.size k p x K s:=by
  subst h; exact heap_new_at w _ _ rfl
theorem PAt.new {w':World} {F:Fm} {g:Nat} {t:Tr} {K:Ks} (hn:¬ t.isNil) (hB:F false g) (hr:RowP w' g t.kind t.pth t.vl K []) (hk:∀ i,PAt w' F false (t.kid i) (K i)):PAt w' F false t (ptr g):=
  (PAt.iff hn).2 ⟨g,false,K,rfl,(fun h=>by cases h),hB,hr,hk⟩
def Fm.fresh (F:Fm) (w:World):Prop:=∀ g,w.heap.size<=g->F false g
theorem Fm.fresh.size {F:Fm} {w w':World} (h:F.fresh w) (hs:w.heap.size<=w'.heap.size):F.fresh w':=fun g hg=>h g (Nat.le_trans hs hg)
theorem Fm.fresh.off {F:Fm} {w:World} (h:F.fresh w) {q:Nat} (hq:q<w.heap.size):(F.off q).fresh w:=fun g hg=>⟨h g hg,by omega⟩
def MadeT (w:World) (F:Fm) (t:Tr) (e:Ending) (w':World):Prop:=∃ v,e=.returned v/\PAt w' F false t v/\Below w.heap.size w w'
theorem leaf_any (p x:T) (w:World) (F:Fm) (hB:F.fresh w):
    Calls Tryz.prog 136 #[.string ⟨p.toArray⟩,.string ⟨x.toArray⟩] w (MadeT w F (.leaf p x)):=by
  unfold MadeT
  go_enter Tryz.func136,Tryz.ntmps136
  go_wp2
  go_ret
  refine ⟨_,rfl,PAt.new (K:=noK) id (hB _ (Nat.le_refl _)) (RowP.new rfl) (fun i=>rfl),(Below.refl _ w).alloc (Nat.le_refl _) _⟩
theorem half_any (i:Fin 16) (w:World):
    Calls Tryz.prog 155 #[.int .i64 i.val] w fun e w'=>e=.returned (.string ⟨[hb i].toArray⟩)/\Below w.heap.size w w':=by
  have hi:=i.isLt
  have e1:(i.val:Int) % 256=(i.val:Int):=by omega
  have hc:=conv_one' w (hb i) (i.val:Int) (by rw [Tri.hb_toNat]) w.heap.size rfl
  have h0:(0:Int)<=(i.val:Int):=by omega
  have h1:(i.val:Int)<=255:=by omega
  go_enter Tryz.func155,Tryz.ntmps155
  go_wp2
  go_ret
  exact ⟨rfl,(Below.refl _ w).alloc (Nat.le_refl _) _⟩
def placeT (k:Nat) (e:T) (i:Fin 16):T:=if k=3 then e++[hb i] else e
theorem place_any (k:Nat) (e:T) (i:Fin 16) (w:World) (he:e.length<=1000) (hk:k<=3):
    Calls Tryz.prog 124 #[.int .i64 k,.string ⟨e.toArray⟩,.int .i64 i.val] w fun r w'=>r=.returned (.string ⟨(placeT k e i).toArray⟩)/\Below w.heap.size w w':=by
  unfold placeT
  by_cases h:k=3
  · subst h
    rw [if_pos rfl]
    have HH:=qh (fun w=>half_any i w)
    have hcm:=cat_mk e [hb i]
    go_enter Tryz.func124,Tryz.ntmps124
    go_wp2_with fail
    refine (HH.out _).mono ?_
    rintro r w1 ⟨rfl,hb1⟩
    go_wp2
    go_ret
    exact ⟨rfl,hb1⟩
  · rw [if_neg h]
    have h1:¬ ((k:Int)=3):=by omega
    have h2:((k:Int) == 3)=false:=by rw [beq_eq_false_iff_ne]; exact h1
    go_enter Tryz.func124,Tryz.ntmps124
    go_wp2
    go_ret
    exact ⟨rfl,Below.refl _ _⟩
theorem pcl_load (k:Nat) (p x s:T) (K:Ks):(Tryz.prog.info? 87).map (·.size)=some (pcl k p x K s).toArray.size:=by
  rw [List.size_toArray,pcl_length]; kernel_rfl
theorem pcl_one (k:Nat) (p x s:T) (K:Ks) (hK:∀ i,(K i).oneCell'=true):(pcl k p x K s).toArray.all (·.oneCell')=true:=by
  rw [← Array.all_toList,List.all_eq_true]
  intro v hv
  simp only [pcl,List.mem_cons,List.mem_append,List.mem_ofFn,List.not_mem_nil,or_false] at hv
  rcases hv with rfl | rfl | rfl | ⟨i,rfl⟩ | rfl
  · rfl
  · rfl
  · rfl
  · exact hK i
  · rfl
theorem open_any {g k:Nat} {p x s:T} {K:Ks} (w:World) (h:RowP w g k p x K s) (hK:∀ i,(K i).oneCell'=true):
    Calls Tryz.prog 137 #[ptr g] w fun r w'=>r=.returned (ptr w.heap.size)/\RowP w' w.heap.size k p x K []/\Below w.heap.size w w':=by
  have hi:=pcl_load k p x s K
  have ho:=pcl_one k p x s K hK
  have hset:=pcl_set k p x K s []
  have hl:(pcl k p x K s).toArray.size=20:=by rw [List.size_toArray,pcl_length]
  have hc:(pcl k p x K s).toArray[19]?=some (.string ⟨s.toArray⟩):=by
    have h1:RowP w g k p x K s:=h
    have h2:=h1.sum
    rw [cell_of_row w g 19 _ _ _ h] at h2
    exact h2
  unfold RowP at h ⊢
  unfold ptr
  generalize (pcl k p x K []).toArray=D at hset ⊢
  generalize (pcl k p x K s).toArray=C at h hi ho hset hl hc
  have hat:(w.alloc (.cells C 87)).heap[w.heap.size]?=some (.cells C 87 (0,0)):=heap_alloc_new w _
  have hcell:(w.alloc (.cells C 87)).cell? ⟨w.heap.size,19,none⟩=some (.string ⟨s.toArray⟩):=by rw [cell_of_row _ _ 19 _ _ _ hat]; exact hc
  have hfr:(w.alloc (.cells C 87)).frozen? ⟨w.heap.size,19,none⟩=false:=frozen_of_row _ _ _ _ _ hat
  have HR:=qh h
  have HI:=qh hi
  have HO:=qh ho
  have HL:=qh hl
  have HS:=qh hset
  clear h hi ho hset hl hc hat
  go_enter Tryz.func137,Tryz.ntmps137
  go_wp2_with (first | (refine wpList_load_row (by rfl) _ _ (by rfl) g (by rfl) _ C _ _ HR.out Tryz.underlying87 (by rfl) HI.out ?_) | (refine wpList_store_fresh (by rfl) _ _ _ (by rfl) w.heap.size rfl C (by rfl) (by rfl) _ _ HI.out HL.out.symm HO.out ?_))
  go_ret
  exact ⟨rfl,by rw [HS.out]; exact heap_alloc_new w _,(Below.refl _ w).alloc (Nat.le_refl _) _⟩
theorem PAt.cellK {w:World} {F:Fm} {s:Bool} {t:Tr} {v:Value} (h:PAt w F s t v):v=nilp∨∃ g,v=ptr g:=by
  by_cases hn:t.isNil
  · rw [Tri.isNil_eq hn] at h; exact Or.inl h
  · obtain ⟨g,_,_,e,_⟩:=h.row hn; exact Or.inr ⟨g,e⟩
theorem PAt.oneCell {w:World} {F:Fm} {s:Bool} {t:Tr} {v:Value} (h:PAt w F s t v):v.oneCell'=true:=by
  rcases h.cellK with rfl | ⟨g,rfl⟩ <;> rfl
def oneK (a:Value):Ks:=fun i=>if i=0 then a else nilp
theorem pcl_path (k:Nat) (p p' x:T) (K:Ks) (s:T):(pcl k p x K s).toArray.setIfInBounds 1 (.string ⟨p'.toArray⟩)=(pcl k p' x K s).toArray:=by
  rw [List.setIfInBounds_toArray]; rfl
theorem RowP.setPath {w:World} {g k:Nat} {p x s:T} {K:Ks} (h:RowP w g k p x K s) (p':T):RowP (w.setCell ⟨g,1,none⟩ (.string ⟨p'.toArray⟩)) g k p' x K s:=by
  have:=heap_setCell_same _ _ 1 _ _ (.string ⟨p'.toArray⟩) h
  rw [pcl_path] at this
  exact this
theorem RowP.free {w:World} {g k:Nat} {p x s:T} {K:Ks} (h:RowP w g k p x K s) (i:Nat):w.frozen? ⟨g,i,none⟩=false:=frozen_of_row _ _ _ _ _ h
theorem lay_parts (p:T) {t:Tr} (hn:¬ t.isNil) (h3:t.kind≠3):(lay p t).kind=t.kind/\(lay p t).pth=p++t.pth/\(lay p t).vl=t.vl/\∀ i,(lay p t).kid i=t.kid i:=by
  cases t with
  | nil=>exact absurd trivial hn
  | leaf q x=>exact ⟨rfl,rfl,rfl,fun _=>rfl⟩
  | ext q u=>exact ⟨rfl,rfl,rfl,fun _=>rfl⟩
  | br x k=>exact absurd rfl h3
theorem behind_any {t:Tr} {v:Value} (p:T) (w:World) (F:Fm) (hB:F.fresh w) (h:PAt w F false t v) (hp:p=[]∨¬ t.isNil) (hpl:p.length<=1000) (hql:t.pth.length<=1000):
    Calls Tryz.prog 140 #[v,.string ⟨p.toArray⟩] w (MadeT w F (lay p t)):=by
  unfold MadeT
  by_cases hp0:p=[]
  · subst hp0
    rw [Tri.lay_nil]
    have HP:=qh h
    clear h hp
    go_enter Tryz.func140,Tryz.ntmps140
    go_wp2
    go_ret
    exact ⟨v,rfl,HP.out,Below.refl _ _⟩
  · have hn:=hp.resolve_left hp0
    obtain ⟨g,s',K,rfl,-,h2,hr,hk⟩:=h.row hn
    have hpe:(p == [])=false:=by rw [beq_eq_false_iff_ne]; exact hp0
    have HP:=qh h
    have n0:=hr.kind
    by_cases h3:t.kind=3
    · have e3:((t.kind:Int) == 3)=true:=by rw [h3]; rfl
      rw [h3] at n0
      have HL:Hid (lay p t=.ext p t):=qh (by
        cases t with
        | br x k=>simp [lay,Tri.above,hp0]
        | _=>cases h3)
      unfold ptr
      clear h hp hr hk
      go_enter Tryz.func140,Tryz.ntmps140
      go_wp2
      go_ret
      rw [HL.out]
      refine ⟨_,rfl,?_,(Below.refl _ w).alloc (Nat.le_refl _) _⟩
      refine PAt.new (K:=oneK (ptr g)) id (hB _ (Nat.le_refl _)) (RowP.new rfl) fun i=>?_
      simp only [Tri.Tr.kid,oneK]
      split
      · exact HP.out.below ((Below.refl _ w).alloc (Nat.le_refl _) _)
      · rfl
    · have e3:((t.kind:Int) == 3)=false:=by rw [beq_eq_false_iff_ne]; omega
      have HO:=qh (open_any w hr (fun i=>(hk i).oneCell))
      have n1:=hr.path
      have HL:=qh (lay_parts p hn h3)
      have HKK:=qh hk
      have HN:=qh (Tri.lay_nn (p:=p) hn)
      have HR:=qh hr
      unfold ptr at HO ⊢
      obtain ⟨q,hq⟩:∃ q,t.pth=q:=⟨_,rfl⟩
      rw [hq] at n1 hql
      have HQ:=qh hq
      have hcm:=cat_mk p q
      obtain ⟨kd,hkd⟩:∃ kd,t.kind=kd:=⟨_,rfl⟩
      rw [hkd] at n0 e3
      have HKD:=qh hkd
      clear h hp hr hk hq h2 hkd h3
      go_enter Tryz.func140,Tryz.ntmps140
      go_wp2_with fail
      refine HO.out.mono ?_
      rintro r w1 ⟨rfl,hr1,hb1⟩
      have m1:=hr1.path
      have m2:=hr1.free 1
      have m3:=HR.out.below hb1
      have m4:=m3.path
      rw [HQ.out] at m1 m4
      go_wp2
      go_ret
      obtain ⟨l1,l2,l3,l4⟩:=HL.out
      have hb2:=hb1.setCell (p:=⟨w.heap.size,1,none⟩) (Nat.le_refl _) (.string ⟨(p++q).toArray⟩)
      refine ⟨_,rfl,PAt.new (K:=K) HN.out (hB _ (Nat.le_refl _)) ?_ (fun i=>?_),hb2⟩
      · rw [l1,l2,l3,HQ.out]
        exact hr1.setPath _
      · rw [l4]
        exact ((HKK.out i).weak).below hb2
end
namespace Sto
def On (m:List Bool) (j:Nat):Prop:=m[j]?=some true
instance (m:List Bool) (j:Nat):Decidable (On m j):=inferInstanceAs (Decidable (m[j]?=some true))
def mark (m:List Bool) (ks:List Nat):List Bool:=ks.foldl (fun m k=>m.set k true) m
def pass1 (K:Nat->List Nat) (m:List Bool) (i:Nat):List Bool:=if On m i then mark m (K i) else m
def pass (K:Nat->List Nat) (l:List Nat) (m:List Bool):List Bool:=l.foldl (pass1 K) m
def rounds (K:Nat->List Nat) (l:List Nat):Nat->List Bool->List Bool
  | 0,m=>m
  | t+1,m=>rounds K l t (pass K l m)
inductive Rch (K:Nat->List Nat) (p:Nat->Prop):Nat->Prop
  | here {i}:p i->Rch K p i
  | step {i k}:Rch K p i->k∈K i->Rch K p k
theorem On.lt {m:List Bool} {j:Nat} (h:On m j):j<m.length:=by
  unfold On at h
  exact (List.getElem?_eq_some_iff.1 h).1
theorem set_on (m:List Bool) (k j:Nat):On (m.set k true) j↔On m j∨(j=k/\j<m.length):=by
  unfold On
  rw [List.getElem?_set]
  by_cases h:k=j
  · subst h
    by_cases hl:k<m.length
    · simp [hl]
    · simp [hl]
  · have:¬ j=k:=fun e=>h e.symm
    simp [h,this]
theorem mark_len (ks:List Nat):∀ m:List Bool,(mark m ks).length=m.length:=by
  induction ks with
  | nil=>intro m; rfl
  | cons k r ih=>intro m; show (mark (m.set k true) r).length=_; rw [ih]; simp
theorem mark_on (ks:List Nat):∀ (m:List Bool) (j:Nat),On (mark m ks) j↔On m j∨(j∈ks/\j<m.length):=by
  induction ks with
  | nil=>intro m j; simp [mark]
  | cons k r ih=>
    intro m j
    show On (mark (m.set k true) r) j↔_
    rw [ih,set_on,List.length_set,List.mem_cons]
    constructor
    · rintro ((h | ⟨h,hl⟩) | ⟨h,hl⟩)
      · exact .inl h
      · exact .inr ⟨.inl h,hl⟩
      · exact .inr ⟨.inr h,hl⟩
    · rintro (h | ⟨h | h,hl⟩)
      · exact .inl (.inl h)
      · exact .inl (.inr ⟨h,hl⟩)
      · exact .inr ⟨h,hl⟩
def Le (m m':List Bool):Prop:=m.length=m'.length/\∀ j,On m j->On m' j
theorem Le.refl (m:List Bool):Le m m:=⟨rfl,fun _ h=>h⟩
theorem Le.trans {a b c:List Bool} (h:Le a b) (g:Le b c):Le a c:=⟨h.1.trans g.1,fun j x=>g.2 j (h.2 j x)⟩
theorem pass1_le (K:Nat->List Nat) (m:List Bool) (i:Nat):Le m (pass1 K m i):=by
  unfold pass1
  split
  · exact ⟨(mark_len _ _).symm,fun j h=>(mark_on _ _ _).2 (.inl h)⟩
  · exact Le.refl m
theorem pass_le (K:Nat->List Nat) (l:List Nat):∀ m,Le m (pass K l m):=by
  induction l with
  | nil=>intro m; exact Le.refl m
  | cons i r ih=>intro m; exact (pass1_le K m i).trans (ih _)
theorem rounds_le (K:Nat->List Nat) (l:List Nat):∀ t m,Le m (rounds K l t m):=by
  intro t
  induction t with
  | zero=>intro m; exact Le.refl m
  | succ t ih=>intro m; exact (pass_le K l m).trans (ih _)
theorem pass1_sound (K:Nat->List Nat) (p:Nat->Prop) (m:List Bool) (i:Nat) (h:∀ j,On m j->Rch K p j):∀ j,On (pass1 K m i) j->Rch K p j:=by
  intro j hj
  unfold pass1 at hj
  split at hj
  · rcases (mark_on _ _ _).1 hj with hj | ⟨hj,-⟩
    · exact h j hj
    · exact .step (h i ‹_›) hj
  · exact h j hj
theorem pass_sound (K:Nat->List Nat) (p:Nat->Prop) (l:List Nat):∀ m:List Bool,(∀ j,On m j->Rch K p j)->∀ j,On (pass K l m) j->Rch K p j:=by
  induction l with
  | nil=>intro m h; exact h
  | cons i r ih=>intro m h; exact ih _ (pass1_sound K p m i h)
theorem rounds_sound (K:Nat->List Nat) (p:Nat->Prop) (l:List Nat):∀ (t:Nat) (m:List Bool),(∀ j,On m j->Rch K p j)->∀ j,On (rounds K l t m) j->Rch K p j:=by
  intro t
  induction t with
  | zero=>intro m h; exact h
  | succ t ih=>intro m h; exact ih _ (pass_sound K p l m h)
def Closed (K:Nat->List Nat) (l:List Nat) (m:List Bool):Prop:=∀ i∈l,On m i->∀ k∈K i,k<m.length->On m k
theorem pass_closed (K:Nat->List Nat) (l:List Nat):∀ m:List Bool,Closed K l m->Le (pass K l m) m:=by
  induction l with
  | nil=>intro m _; exact Le.refl m
  | cons i r ih=>
    intro m h
    have e:Le (pass1 K m i) m:=by
      unfold pass1
      split
      · rename_i hi
        refine ⟨mark_len _ _,fun j hj=>?_⟩
        rcases (mark_on _ _ _).1 hj with hj | ⟨hj,hl⟩
        · exact hj
        · exact h i (by simp) hi j hj hl
      · exact Le.refl m
    have c:Closed K r (pass1 K m i):=fun a ha hon k hk hl=>by
      have:=h a (by simp [ha]) (e.2 a hon) k hk (by rw [← e.1]; exact hl)
      exact (pass1_le K m i).2 k this
    exact (ih _ c).trans e
theorem closed_of_pass (K:Nat->List Nat) (l:List Nat):∀ m m0:List Bool,Le m0 m->Le (pass K l m) m0->Closed K l m0:=by
  induction l with
  | nil=>intro m m0 _ _ i hi; simp at hi
  | cons a r ih=>
    intro m m0 h0 h i hi hon k hk hl
    rcases List.mem_cons.1 hi with rfl | hi
    · have hp:On (pass1 K m i) k:=by
        unfold pass1
        rw [if_pos (h0.2 i hon)]
        exact (mark_on _ _ _).2 (.inr ⟨hk,by rw [← h0.1]; exact hl⟩)
      exact h.2 k ((pass_le K r (pass1 K m i)).2 k hp)
    · exact ih (pass1 K m a) m0 (h0.trans (pass1_le K m a)) h i hi hon k hk hl
def ons (m:List Bool):Nat:=m.countP id
theorem ons_le_of:∀ m m':List Bool,Le m m'->ons m<=ons m':=by
  intro m
  induction m with
  | nil=>intro m' h; simp [ons]
  | cons a r ih=>
    intro m' h
    cases m' with
    | nil=>simp [Le] at h
    | cons b q=>
      have hr:Le r q:=⟨by have:=h.1; simpa using this,fun j hj=>by have:=h.2 (j+1); simpa [On] using this (by simpa [On] using hj)⟩
      have:=ih q hr
      have hab:a=true->b=true:=fun e=>by have:=h.2 0; simpa [On,e] using this
      cases a <;> cases b <;> simp [ons] at * <;> omega
theorem le_of_ons:∀ m m':List Bool,Le m m'->ons m'<=ons m->Le m' m:=by
  intro m
  induction m with
  | nil=>intro m' h _; cases m' with
    | nil=>exact Le.refl _
    | cons b q=>simp [Le] at h
  | cons a r ih=>
    intro m' h hc
    cases m' with
    | nil=>simp [Le] at h
    | cons b q=>
      have hr:Le r q:=⟨by have:=h.1; simpa using this,fun j hj=>by have:=h.2 (j+1); simpa [On] using this (by simpa [On] using hj)⟩
      have hle:=ons_le_of r q hr
      have hab:a=true->b=true:=fun e=>by have:=h.2 0; simpa [On,e] using this
      have key:b=a/\ons q<=ons r:=by
        cases a <;> cases b <;> simp [ons] at * <;> omega
      obtain ⟨rfl,hq⟩:=key
      have hb:=ih q hr hq
      refine ⟨h.1.symm,fun j hj=>?_⟩
      cases j with
      | zero=>simpa [On] using hj
      | succ j=>have:=hb.2 j; simpa [On] using this (by simpa [On] using hj)
theorem ons_le_len (m:List Bool):ons m<=m.length:=List.countP_le_length
theorem all_on (m:List Bool) (h:m.length<=ons m) (j:Nat) (hj:j<m.length):On m j:=by
  have e:ons m=m.length:=Nat.le_antisymm (ons_le_len m) h
  have:=(List.countP_eq_length.1 e) m[j] (List.getElem_mem hj)
  unfold On
  rw [List.getElem?_eq_getElem hj]
  simpa using this
theorem rounds_closed (K:Nat->List Nat) (l:List Nat):∀ (t:Nat) (m:List Bool),m.length<=ons m+t->Closed K l (rounds K l t m):=by
  intro t
  induction t with
  | zero=>intro m h i _ _ k _ hl; exact all_on m h k hl
  | succ t ih=>
    intro m h
    by_cases hc:ons m<ons (pass K l m)
    · refine ih _ ?_
      rw [← (pass_le K l m).1]
      omega
    · have hback:=le_of_ons m _ (pass_le K l m) (by omega)
      have hcl:Closed K l m:=closed_of_pass K l m m (Le.refl m) hback
      have stay:∀ t (m':List Bool),Le m m'->Le m' m->Le (rounds K l t m') m:=by
        intro t
        induction t with
        | zero=>intro m' _ h'; exact h'
        | succ t iht=>
          intro m' h1 h2
          have c':Closed K l m':=fun a ha hon k hk hl'=>h1.2 k (hcl a ha (h2.2 a hon) k hk (by rw [h1.1]; exact hl'))
          exact iht _ (h1.trans (pass_le K l m')) ((pass_closed K l m' c').trans h2)
      have hs:=stay (t+1) m (Le.refl m) (Le.refl m)
      have hle:=rounds_le K l (t+1) m
      intro a ha hon k hk hl'
      exact hle.2 k (hcl a ha (hs.2 a hon) k hk (by rw [hle.1]; exact hl'))
theorem rounds_reach (K:Nat->List Nat) (n:Nat) (m:List Bool) (hm:m.length=n) (hK:∀ i k,k∈K i->k<n) (j:Nat):
    On (rounds K (List.range n) n m) j↔Rch K (On m) j:=by
  have hlen:(rounds K (List.range n) n m).length=n:=by rw [← (rounds_le K (List.range n) n m).1,hm]
  constructor
  · exact rounds_sound K (On m) _ n m (fun j h=>.here h) j
  · intro h
    induction h with
    | here h=>exact (rounds_le K _ n m).2 _ h
    | step _ hk ih=>
      refine rounds_closed K (List.range n) n m (by omega) _ (List.mem_range.2 ?_) ih _ hk (by rw [hlen]; exact hK _ _ hk)
      have:=ih.lt
      omega
end Sto
namespace Sto
/-! ### what is reached -/
def kidsT (t:T):List T:=Nd.kidsL (Nd.dec t).1.kids
inductive Reach (S:St) (l:List T):T->Prop
  | here {x}:x∈l->x∈keys S->Reach S l x
  | step {x t k}:Reach S l x->look S x=some t->k∈kidsT t->k∈keys S->Reach S l k
theorem Reach.key {S:St} {l:List T} {x:T} (h:Reach S l x):x∈keys S:=by
  cases h <;> assumption
def idx (S:St) (x:T):Option Nat:=S.findIdx? fun a=>decide (a.1=x)
theorem idx_some {S:St} {x:T} {k:Nat} (h:idx S x=some k):∃ hk:k<S.length,S[k].1=x:=by
  obtain ⟨h1,h2,_⟩:=List.findIdx?_eq_some_iff_getElem.1 h
  exact ⟨h1,by simpa using h2⟩
theorem idx_of_key {S:St} {x:T} (h:x∈keys S):∃ k,idx S x=some k:=by
  cases hi:idx S x with
  | some k=>exact ⟨k,rfl⟩
  | none=>
    obtain ⟨a,ha,e⟩:=List.mem_map.1 h
    have:=List.findIdx?_eq_none_iff.1 hi a ha
    simp [e] at this
theorem idx_at {S:St} (hS:Rising S) (i:Nat) (hi:i<S.length):idx S S[i].1=some i:=by
  obtain ⟨k,hk⟩:=idx_of_key (S:=S) (x:=S[i].1) (List.mem_map.2 ⟨_,List.getElem_mem hi,rfl⟩)
  obtain ⟨h1,h2⟩:=idx_some hk
  have:k=i:=by
    rcases Nat.lt_trichotomy k i with h | h | h
    · exact absurd h2 (lt_ne (List.pairwise_iff_getElem.1 hS k i h1 hi h))
    · exact h
    · exact absurd h2.symm (lt_ne (List.pairwise_iff_getElem.1 hS i k hi h1 h))
  rw [hk,this]
def kidI (S:St) (i:Nat):List Nat:=match S[i]? with | some a=>(kidsT a.2).filterMap (idx S) | none=>[]
theorem kidI_at (S:St) (i:Nat) (hi:i<S.length):kidI S i=(kidsT S[i].2).filterMap (idx S):=by
  unfold kidI
  rw [List.getElem?_eq_getElem hi]
theorem kidI_lt (S:St) (i k:Nat) (h:k∈kidI S i):k<S.length:=by
  unfold kidI at h
  split at h
  · obtain ⟨x,_,hx⟩:=List.mem_filterMap.1 h
    exact (idx_some hx).1
  · cases h
def marks0 (S:St) (l:List T):List Bool:=S.map fun a=>decide (a.1∈l)
def marks (S:St) (l:List T):List Bool:=rounds (kidI S) (List.range S.length) S.length (marks0 S l)
theorem marks0_len (S:St) (l:List T):(marks0 S l).length=S.length:=by simp [marks0]
theorem marks_len (S:St) (l:List T):(marks S l).length=S.length:=by
  rw [marks,← (rounds_le _ _ _ _).1,marks0_len]
def pick (S:St) (m:List Bool):List T:=((S.zip m).filter (·.2)).map (·.1.1)
def reachL (S:St) (l:List T):List T:=pick S (marks S l)
theorem pick_sub (S:St) (m:List Bool) (h:m.length=S.length):(pick S m).Sublist (keys S):=by
  have h1:((S.zip m).map (·.1.1))=keys S:=by
    rw [keys,show (fun x:(T × T) × Bool=>x.1.1)=(fun a:T × T=>a.1) ∘ Prod.fst from rfl,← List.map_map,List.map_fst_zip (by omega)]
  rw [← h1]
  exact (List.filter_sublist).map _
theorem pick_mem (S:St) (m:List Bool) (h:m.length=S.length) (x:T):x∈pick S m↔∃ i,∃ hi:i<S.length,S[i].1=x/\On m i:=by
  unfold pick
  rw [List.mem_map]
  constructor
  · rintro ⟨⟨a,b⟩,hm,rfl⟩
    obtain ⟨h1,h2⟩:=List.mem_filter.1 hm
    obtain ⟨i,hi,e⟩:=List.mem_iff_getElem.1 h1
    simp only [List.length_zip] at hi
    rw [List.getElem_zip] at e
    obtain ⟨e1,e2⟩:=Prod.mk.inj e
    refine ⟨i,by omega,by rw [e1],?_⟩
    unfold On
    rw [List.getElem?_eq_getElem (by omega),e2]
    simpa using h2
  · rintro ⟨i,hi,rfl,hon⟩
    have hl:=hon.lt
    unfold On at hon
    rw [List.getElem?_eq_getElem hl] at hon
    refine ⟨(S[i],m[i]),List.mem_filter.2 ⟨?_,by simpa using hon⟩,rfl⟩
    exact List.mem_iff_getElem.2 ⟨i,by simp; omega,by rw [List.getElem_zip]⟩
theorem on_marks0 (S:St) (l:List T) (i:Nat):On (marks0 S l) i↔∃ hi:i<S.length,S[i].1∈l:=by
  unfold On marks0
  rw [List.getElem?_map]
  by_cases hi:i<S.length
  · rw [List.getElem?_eq_getElem hi]
    simp [hi]
  · rw [List.getElem?_eq_none (by omega)]
    simp [hi]
theorem on_marks {S:St} (hS:Rising S) (l:List T) (i:Nat):On (marks S l) i↔∃ hi:i<S.length,Reach S l S[i].1:=by
  unfold marks
  rw [rounds_reach (kidI S) S.length (marks0 S l) (marks0_len S l) (fun i k h=>kidI_lt S i k h)]
  constructor
  · intro h
    induction h with
    | here h=>
      obtain ⟨hi,hm⟩:=(on_marks0 S l _).1 h
      exact ⟨hi,.here hm (List.mem_map.2 ⟨_,List.getElem_mem hi,rfl⟩)⟩
    | @step i k _ hk ih=>
      obtain ⟨hi,hr⟩:=ih
      rw [kidI_at S i hi] at hk
      obtain ⟨x,hx,hxi⟩:=List.mem_filterMap.1 hk
      obtain ⟨hk',e⟩:=idx_some hxi
      refine ⟨hk',.step hr (look_at hS i hi) (by rw [e]; exact hx) (List.mem_map.2 ⟨_,List.getElem_mem hk',rfl⟩)⟩
  · rintro ⟨hi,h⟩
    have key:∀ x,Reach S l x->∀ j,idx S x=some j->Rch (kidI S) (On (marks0 S l)) j:=by
      intro x h
      induction h with
      | @here x h1 h2=>
        intro j hj
        obtain ⟨hl,e⟩:=idx_some hj
        exact .here ((on_marks0 S l j).2 ⟨hl,by rw [e]; exact h1⟩)
      | @step x t k h1 h2 h3 h4 ih=>
        intro j hj
        obtain ⟨a,ha⟩:=idx_of_key h1.key
        obtain ⟨hal,e⟩:=idx_some ha
        have e2:=look_at hS a hal
        rw [e,h2] at e2
        refine .step (ih a ha) ?_
        rw [kidI_at S a hal,← Option.some.inj e2]
        exact List.mem_filterMap.2 ⟨k,h3,hj⟩
    exact key _ h i (idx_at hS i hi)
theorem reachL_mem {S:St} (hS:Rising S) (l:List T) (x:T):x∈reachL S l↔Reach S l x:=by
  unfold reachL
  rw [pick_mem S _ (marks_len S l)]
  constructor
  · rintro ⟨i,hi,rfl,hon⟩
    exact ((on_marks hS l i).1 hon).2
  · intro h
    obtain ⟨i,hi⟩:=idx_of_key h.key
    obtain ⟨hl,e⟩:=idx_some hi
    exact ⟨i,hl,e,(on_marks hS l i).2 ⟨hl,by rw [e]; exact h⟩⟩
theorem reachL_rise {S:St} (hS:Rising S) (l:List T):(reachL S l).Pairwise (·<·):=(keys_rise hS).sublist (pick_sub S _ (marks_len S l))
def keepL (S:St) (l:List T):St:=S.filter fun a=>decide (a.1∈reachL S l)
theorem keepL_rising {S:St} (hS:Rising S) (l:List T):Rising (keepL S l):=List.Pairwise.sublist List.filter_sublist hS
theorem keepL_sub (S:St) (l:List T) {p:T × T} (h:p∈keepL S l):p∈S:=(List.mem_filter.1 h).1
theorem keepL_keys {S:St} (hS:Rising S) (l:List T):keys (keepL S l)=reachL S l:=by
  refine rise_unique (keys_rise (keepL_rising hS l)) (reachL_rise hS l) fun x=>?_
  unfold keys keepL
  rw [List.mem_map]
  constructor
  · rintro ⟨a,ha,rfl⟩
    simpa using (List.mem_filter.1 ha).2
  · intro h
    obtain ⟨a,ha,rfl⟩:=List.mem_map.1 ((reachL_mem hS l x).1 h).key
    exact ⟨a,List.mem_filter.2 ⟨ha,by simpa using h⟩,rfl⟩
theorem look_keepL {S:St} (hS:Rising S) (l:List T) (x:T):look (keepL S l) x=if x∈reachL S l then look S x else none:=by
  by_cases h:x∈reachL S l
  · rw [if_pos h]
    have hk:=h
    rw [← keepL_keys hS l] at hk
    obtain ⟨t,ht⟩:=Option.isSome_iff_exists.1 ((look_isSome _ _).2 hk)
    rw [ht]
    exact ((look_mem hS x t).2 (keepL_sub S l ((look_mem (keepL_rising hS l) x t).1 ht))).symm
  · rw [if_neg h,look_none,keepL_keys hS l]
    exact h
end Sto
section
open Go.RowKit Go.MapKept
open Go.ChangeMaps (setBlock heap_setBlock_same heap_setBlock_other)
open Go.Maps (Keyed)
structure MapLaw (P:Program) (k:TypeId) (κ α:Type) where
  enc:κ->Value
  val:α->Value
  ok:κ->Prop
  keyed:Keyed P k
  key:∀ s,ok s->∃ l,keyOf P k (enc s)=some l
  inj:∀ a b,enc a=enc b->a=b
variable {P:Program} {k t e:TypeId} {κ α:Type}
def updF [DecidableEq κ] (f:κ->Option α) (s:κ) (o:Option α):κ->Option α:=fun x=>if x=s then o else f x
theorem updF_same [DecidableEq κ] (f:κ->Option α) (s:κ) (o:Option α):updF f s o s=o:=if_pos rfl
theorem updF_other [DecidableEq κ] (f:κ->Option α) (s x:κ) (o:Option α) (h:x≠s):updF f s o x=f x:=if_neg h
def FnAt (M:MapLaw P k κ α) (w:World) (b:Nat) (f:κ->Option α):Prop:=
  ∃ es clock,w.heap[b]?=some (.map es clock)/\(∀ x∈es.toList,∃ s a,x.key=M.enc s/\x.val=M.val a/\M.ok s/\f s=some a)/\(∀ s a,f s=some a->∃ x∈es.toList,x.key=M.enc s)/\Stamped es clock
theorem FnAt.lt {M:MapLaw P k κ α} {w:World} {b:Nat} {f:κ->Option α} (h:FnAt M w b f):b<w.heap.size:=by
  obtain ⟨_,_,h1,_⟩:=h; exact lt_of_heap h1
theorem FnAt.no_cells {M:MapLaw P k κ α} {w:World} {b:Nat} {f:κ->Option α} (h:FnAt M w b f) (j:Nat) (cs:Array Value) (t:TypeId) (fr:Nat × Nat) (hk:j=b):w.heap[j]?≠some (.cells cs t fr):=by
  subst hk
  obtain ⟨es,c,he,_⟩:=h
  rw [he]; simp
theorem FnAt.made (M:MapLaw P k κ α) (w:World) (b:Nat) (h:b=w.heap.size):FnAt M (w.alloc (.map #[] 0)) b (fun _=>none):=
  ⟨#[],0,heap_new_at w _ _ h,fun x hx=>by simp at hx,fun s a h=>by simp at h,stamped_empty 0⟩
theorem FnAt.out {M:MapLaw P k κ α} {F:Nat->Prop} {w w':World} {b:Nat} {f:κ->Option α} (h:FnAt M w b f) (ho:Out F w w') (hF:¬ F b):FnAt M w' b f:=by
  obtain ⟨es,clock,h1,h2⟩:=h
  exact ⟨es,clock,ho.heap h1 hF,h2⟩
theorem FnAt.below {M:MapLaw P k κ α} {w w':World} {b:Nat} {f:κ->Option α} (h:FnAt M w b f) (ho:Below w.heap.size w w'):FnAt M w' b f:=h.out (F:=fun _=>False) (Out.of ho) id
theorem FnAt.congr {M:MapLaw P k κ α} {w:World} {b:Nat} {f g:κ->Option α} (h:FnAt M w b f) (e:∀ s,f s=g s):FnAt M w b g:=by
  obtain rfl:f=g:=funext e
  exact h
theorem FnAt.keys {M:MapLaw P k κ α} {es:Array MapEntry} {f:κ->Option α} (h2:∀ x∈es.toList,∃ s a,x.key=M.enc s/\x.val=M.val a/\M.ok s/\f s=some a):∀ x∈es.toList,∃ l,keyOf P k x.key=some l:=by
  intro x hx
  obtain ⟨s,a,e1,_,ho,_⟩:=h2 x hx
  rw [e1]; exact M.key s ho
theorem FnAt.look {M:MapLaw P k κ α} {w:World} {b:Nat} {f:κ->Option α} (h:FnAt M w b f) (ht:P.underlying t=some (.map k e)) {s:κ} (hs:M.ok s) (c:Bool) {z:Value} (hz:(zeroValue e).run P w=.ok z w):
    (Instr.lookup t (.map (some b)) (M.enc s) c).run P w=.ok (if c then .tuple #[((f s).map M.val).getD z,.bool (f s).isSome] else ((f s).map M.val).getD z) w:=by
  obtain ⟨es,clock,hb,h2,h3,h4⟩:=h
  obtain ⟨kl,hkey⟩:=M.key s hs
  rcases M.keyed.find w hkey es.toList (FnAt.keys h2) with ⟨h5,h6⟩ | ⟨j,e0,h5,h6,h7⟩
  · have hn:f s=none:=by
      cases hf:f s with
      | none=>rfl
      | some a=>
        obtain ⟨x,hx,hxe⟩:=h3 s a hf
        exact absurd hxe (h6 x hx)
    rw [hn]
    simp [Instr.lookup,run_underlying ht,MapKept.run_getObj_map hb,M.keyed.check w _ hkey,h5,hz,Result.andThen]
  · obtain ⟨s',a,e1,e2,ho,hf⟩:=h2 e0 (List.mem_of_getElem? h6)
    obtain rfl:s'=s:=M.inj _ _ (e1.symm.trans h7)
    rw [hf]
    simp [Instr.lookup,run_underlying ht,MapKept.run_getObj_map hb,M.keyed.check w _ hkey,h5,e2,Result.andThen]
theorem FnAt.put [DecidableEq κ] {M:MapLaw P k κ α} {w:World} {b:Nat} {f:κ->Option α} (h:FnAt M w b f) (ht:P.underlying t=some (.map k e)) {s:κ} (hs:M.ok s) (a:α):
    ∃ w',(Instr.mapUpdate t (.map (some b)) (M.enc s) (M.val a)).run P w=.ok () w'/\FnAt M w' b (updF f s (some a))/\Out (fun i=>i=b) w w'/\w'.heap.size=w.heap.size:=by
  obtain ⟨es,clock,hb,h2,h3,h4⟩:=h
  obtain ⟨kl,hkey⟩:=M.key s hs
  rcases M.keyed.find w hkey es.toList (FnAt.keys h2) with ⟨h5,h6⟩ | ⟨j,e0,h5,h6,h7⟩
  · refine ⟨setBlock w b (.map (es.push ⟨M.enc s,M.val a,clock⟩) (clock+1)),?_,⟨_,_,heap_setBlock_same hb _,?_,?_,?_⟩,⟨rfl,rfl,rfl,by simp [setBlock],fun i _ hi=>heap_setBlock_other hb _ hi⟩,by simp [setBlock]⟩
    · simp [Instr.mapUpdate,run_underlying ht,MapKept.run_getObj_map hb,M.keyed.check w false hkey,h5,MapKept.run_setObj_map _ hb,Result.andThen,setBlock]
    · intro x hx
      simp only [Array.toList_push,List.mem_append,List.mem_singleton] at hx
      rcases hx with hx | rfl
      · obtain ⟨s',a',e1,e2,ho,hf⟩:=h2 x hx
        have hne:s'≠s:=fun e=>h6 x hx (by rw [e1,e])
        exact ⟨s',a',e1,e2,ho,by rw [updF_other _ _ _ _ hne]; exact hf⟩
      · exact ⟨s,a,rfl,rfl,hs,updF_same _ _ _⟩
    · intro s' a' hf
      simp only [Array.toList_push,List.mem_append,List.mem_singleton]
      by_cases hne:s'=s
      · exact ⟨_,Or.inr rfl,by rw [hne]⟩
      · rw [updF_other _ _ _ _ hne] at hf
        obtain ⟨x,hx,hxe⟩:=h3 s' a' hf
        exact ⟨x,Or.inl hx,hxe⟩
    · exact stamped_push h4 h6
  · have hjl:j<es.toList.length:=(List.getElem?_eq_some_iff.1 h6).1
    have hjs:j<es.size:=by simpa using hjl
    have he0:es.toList[j]=e0:=(List.getElem?_eq_some_iff.1 h6).2
    have hj':es[j]?=some e0:=by rw [← Array.getElem?_toList]; exact h6
    have hml:(es.modify j fun x=>{ x with key:=M.enc s,val:=M.val a }).toList=es.toList.set j { e0 with key:=M.enc s,val:=M.val a }:=by
      apply List.ext_getElem?
      intro i
      rw [Array.getElem?_toList,Array.getElem?_modify,List.getElem?_set]
      by_cases hi:j=i
      · subst hi
        have hb0:es[j].born=e0.born:=by rw [← he0]; simp
        simp [hjs,hb0]
      · simp [hi]
    obtain ⟨s0,a0,q1,q2,q3,q4⟩:=h2 e0 (List.mem_of_getElem? h6)
    obtain rfl:s0=s:=M.inj _ _ (q1.symm.trans h7)
    have hkeys:(es.toList.set j { e0 with key:=M.enc s0,val:=M.val a }).map (·.key)=es.toList.map (·.key):=by
      rw [List.map_set]
      apply List.ext_getElem?
      intro i
      rw [List.getElem?_set]
      by_cases hi:j=i
      · subst hi
        have hk0:M.enc s0=es[j].key:=by rw [← h7,← he0]; simp
        simp [hjs,hk0]
      · simp [hi]
    refine ⟨setBlock w b (.map (es.modify j fun x=>{ x with key:=M.enc s0,val:=M.val a }) clock),?_,⟨_,_,heap_setBlock_same hb _,?_,?_,?_⟩,⟨rfl,rfl,rfl,by simp [setBlock],fun i _ hi=>heap_setBlock_other hb _ hi⟩,by simp [setBlock]⟩
    · simp [Instr.mapUpdate,run_underlying ht,MapKept.run_getObj_map hb,M.keyed.check w false hkey,h5,hj',h7,M.keyed.stays w hkey,MapKept.run_setObj_map _ hb,Result.andThen,setBlock]
    · rw [hml]
      intro x hx
      rcases List.mem_or_eq_of_mem_set hx with hx' | rfl
      · obtain ⟨s',a',e1,e2,ho,hf⟩:=h2 x hx'
        by_cases hne:s'=s0
        · subst hne
          obtain ⟨i,hi,rfl⟩:=List.mem_iff_getElem.1 hx
          have hil:i<es.toList.length:=by simpa using hi
          have hkk:=congrArg (fun l=>l[i]?) hkeys
          simp only [List.getElem?_map] at hkk
          rw [List.getElem?_eq_getElem hi,List.getElem?_eq_getElem hil] at hkk
          have hkk':(es.toList[i]).key=M.enc s':=by simpa [e1] using hkk.symm
          have hij:i=j:=by
            have hn:=List.pairwise_iff_getElem.1 h4.2.2
            have lm:(es.toList.map (·.key)).length=es.toList.length:=by simp
            rcases Nat.lt_trichotomy i j with hlt | rfl | hlt
            · have:=hn i j (by omega) (by omega) hlt
              rw [List.getElem_map,List.getElem_map,hkk',he0,h7] at this
              exact absurd rfl this
            · rfl
            · have:=hn j i (by omega) (by omega) hlt
              rw [List.getElem_map,List.getElem_map,hkk',he0,h7] at this
              exact absurd rfl this
          subst hij
          refine ⟨s',a,e1,?_,ho,updF_same _ _ _⟩
          simp
        · exact ⟨s',a',e1,e2,ho,by rw [updF_other _ _ _ _ hne]; exact hf⟩
      · exact ⟨s0,a,rfl,rfl,hs,updF_same _ _ _⟩
    · rw [hml]
      intro s' a' hf
      by_cases hne:s'=s0
      · subst hne
        exact ⟨_,List.mem_iff_getElem.2 ⟨j,by simpa using hjs,List.getElem_set_self _⟩,rfl⟩
      · rw [updF_other _ _ _ _ hne] at hf
        obtain ⟨x,hx,hxe⟩:=h3 s' a' hf
        obtain ⟨i,hi,rfl⟩:=List.mem_iff_getElem.1 hx
        have hij:j≠i:=by
          rintro rfl
          rw [he0,h7] at hxe
          exact hne (M.inj _ _ hxe.symm)
        exact ⟨_,List.mem_iff_getElem.2 ⟨i,by simpa using hi,rfl⟩,by rw [List.getElem_set_ne hij]; exact hxe⟩
    · exact stamped_modify h4 j _ (fun e _=>rfl) (fun e _ he=>by rw [hj'] at he; cases he; exact h7.symm)
variable {P:Program} {k t e:TypeId} {κ α:Type}
end
section
open Go.Shelf Go.RowKit
end
section
open Go.Shelf Go.RowKit Go.Maps Go.Sort
open Go.Proofs (encStr)
end
section
open Go.RowKit Go.Maps Go.WideShapes
open Go.WideElems (Fit rd rg rd_mk rg_of)
open Sto (St)
open Go.Proofs (encStr)
def storeMap:MapLaw Tryz.prog 9 (List UInt8) (List UInt8):=⟨fun s=>.string ⟨s.toArray⟩,fun t=>.agg #[.string ⟨t.toArray⟩],fun s=>s.length<=140737488351232,lawS,keyS,fun _ _ h=>str_inj h⟩
theorem zeroEntry (w:World):(zeroValue 210).run Tryz.prog w=.ok (.agg #[.string ⟨#[]⟩]) w:=by kernel_rfl
structure StoreAt (w:World) (g m:Nat) (S:St):Prop where
  head:w.heap[g]?=some (.cells #[.map (some m)] 181 (0,0))
  map:FnAt storeMap w m (Sto.look S)
  rise:Sto.Rising S
  short:∀ p∈S,p.1.length<=32/\p.2.length<=1000
theorem StoreAt.cell {w:World} {g m:Nat} {S:St} (h:StoreAt w g m S):w.cell? ⟨g,0,none⟩=some (.map (some m)):=cell_of_row _ _ _ _ _ _ h.head
theorem StoreAt.out {F:Nat->Prop} {w w':World} {g m:Nat} {S:St} (h:StoreAt w g m S) (ho:Out F w w') (hg:¬ F g) (hm:¬ F m):StoreAt w' g m S:=⟨ho.heap h.head hg,h.map.out ho hm,h.rise,h.short⟩
theorem StoreAt.below {w w':World} {g m:Nat} {S:St} (h:StoreAt w g m S) (hb:Below w.heap.size w w'):StoreAt w' g m S:=h.out (F:=fun _=>False) (Out.of hb) id id
theorem StoreAt.ne {w:World} {g m g' m':Nat} {S T:St} (h:StoreAt w g m S) (k:StoreAt w g' m' T):g≠m':=by
  rintro rfl
  exact k.map.no_cells _ _ _ _ rfl h.head
theorem StoreAt.mlt {w:World} {g m:Nat} {S:St} (h:StoreAt w g m S):m<w.heap.size:=h.map.lt
theorem Sto.short_look {S:St} (hS:Sto.Rising S) (h:∀ p∈S,p.1.length<=32/\p.2.length<=1000) {x t:List UInt8} (hl:Sto.look S x=some t):x.length<=32/\t.length<=1000:=h _ ((Sto.look_mem hS x t).1 hl)
end
section
open Go.RowKit
theorem wpList_append_run {P:Program} {w w':World} {ops:Array Oper} {rest:List Oper} {o:Oper} {a:Act} {Q:Exit->Act->World->Prop} (hg:o.guard=none) (s x:Operand) (t:TypeId) (hop:o.op=Op.call { callee:=Callee.builtin Builtin.append,args:=#[s,x],argTypes:=#[t,t] })
    (sv xv r:Value) (hs:a.eval s=sv) (hx:a.eval x=xv) (hrun:(Builtin.append_ #[t,t] o.type #[sv,xv]).run P w=.ok r w') (hK:wpList P ops Q rest (a.put o.dst r) w'):
    wpList P ops Q (o::rest) a w:=by
  refine wpList_plain hg fun K' hK'=>?_
  unfold Oper.wp
  simp [execOp,hop,resolve,invoke,builtin,hs,hx,hrun,Result.andThen]
  exact hK' _ _ hK
def rowsL {α:Type} (f:α->List Value) (L:List α):List Value:=L.flatMap f
theorem rowsL_length {α:Type} {f:α->List Value} {c:Nat} (hf:∀ a,(f a).length=c) (L:List α):(rowsL f L).length=L.length*c:=by
  induction L with
  | nil=>simp [rowsL]
  | cons a L ih=>
    have e:rowsL f (a::L)=f a++rowsL f L:=by simp [rowsL]
    rw [e,List.length_append,ih,hf,List.length_cons,Nat.succ_mul,Nat.add_comm]
theorem rowsL_append {α:Type} (f:α->List Value) (S T:List α):rowsL f (S++T)=rowsL f S++rowsL f T:=by simp [rowsL]
theorem rowsL_at {α:Type} {f:α->List Value} {c:Nat} (hf:∀ a,(f a).length=c) (S:List α) (i j:Nat) (hi:i<S.length) (hj:j<c):(rowsL f S)[i*c+j]?=(f S[i])[j]?:=by
  induction S generalizing i with
  | nil=>simp at hi
  | cons a L ih=>
    have e:rowsL f (a::L)=f a++rowsL f L:=by simp [rowsL]
    rw [e]
    cases i with
    | zero=>
      rw [List.getElem?_append_left (by rw [hf]; omega)]
      simp
    | succ i=>
      rw [List.getElem?_append_right (by rw [hf,Nat.succ_mul]; omega)]
      have:(i+1)*c+j - (f a).length=i*c+j:=by rw [hf,Nat.succ_mul]; omega
      rw [this,ih i (by simpa using hi)]
      simp
theorem rowsL_one {α:Type} {f:α->List Value} (h:∀ a,∀ u∈f a,u.oneCell'=true) (S:List α):∀ u∈rowsL f S,u.oneCell'=true:=by
  intro u hu
  obtain ⟨n,_,hn⟩:=List.mem_flatMap.1 hu
  exact h n u hn
def RowsAt {α:Type} (ty:TypeId) (c:Nat) (f:α->List Value) (w:World) (v:Value) (S:List α):Prop:=
  ∃ (A:Option Addr) (cap:Nat),v=.slice A S.length cap/\S.length<=cap/\(S=[]->A=none/\cap=0∨∃ b o,A=some ⟨b,o,none⟩)/\(0<S.length->∃ b o,A=some ⟨b,o,none⟩/\(∃ cs fl,w.heap[b]?=some (.cells cs ty fl))/\∀ i (h:i<S.length) j u,(f S[i])[j]?=some u->w.cell? ⟨b,o+i*c+j,none⟩=some u)
theorem RowsAt.nil {α:Type} (ty:TypeId) (c:Nat) (f:α->List Value) (w:World):RowsAt ty c f w (.slice none 0 0) []:=⟨none,0,rfl,Nat.le_refl _,fun _=>Or.inl ⟨rfl,rfl⟩,fun h=>absurd h (by simp)⟩
theorem RowsAt.form {α:Type} {ty:TypeId} {c:Nat} {f:α->List Value} {w:World} {v:Value} {S:List α} (h:RowsAt ty c f w v S):∃ A cap,v=.slice A S.length cap/\S.length<=cap/\((S=[]/\A=none/\cap=0)∨∃ b o,A=some ⟨b,o,none⟩):=by
  obtain ⟨A,cap,rfl,hc,h0,h1⟩:=h
  refine ⟨A,cap,rfl,hc,?_⟩
  by_cases hs:S=[]
  · exact (h0 hs).imp (fun h=>⟨hs,h⟩) id
  · obtain ⟨b,o,rfl,_⟩:=h1 (List.length_pos_iff.2 hs)
    exact Or.inr ⟨b,o,rfl⟩
theorem RowsAt.outF {α:Type} {ty:TypeId} {c:Nat} {f:α->List Value} {F:Nat->Prop} {w w':World} {v:Value} {S:List α} (h:RowsAt ty c f w v S) (ho:Out F w w') (hF:∀ k cs fl,F k->w.heap[k]?≠some (.cells cs ty fl)):RowsAt ty c f w' v S:=by
  obtain ⟨A,cap,rfl,hc,h0,h1⟩:=h
  refine ⟨A,cap,rfl,hc,h0,fun hp=>?_⟩
  obtain ⟨b,o,rfl,⟨cs,fl,hh⟩,hcell⟩:=h1 hp
  have hb:¬ F b:=fun hf=>hF b cs fl hf hh
  exact ⟨b,o,rfl,⟨cs,fl,ho.heap hh hb⟩,fun i hi j u hu=>ho.cell (hcell i hi j u hu) hb⟩
theorem RowsAt.below {α:Type} {ty:TypeId} {c:Nat} {f:α->List Value} {w w':World} {v:Value} {S:List α} (h:RowsAt ty c f w v S) (hb:Below w.heap.size w w'):RowsAt ty c f w' v S:=h.outF (F:=fun _=>False) (Out.of hb) fun _ _ _ hf=>hf.elim
theorem RowsAt.at {α:Type} {ty:TypeId} {c:Nat} {f:α->List Value} {w:World} {A:Option Addr} {n cap:Nat} {S:List α} (h:RowsAt ty c f w (.slice A n cap) S) (k:Nat) (hk:k<S.length):
    ∃ b o,A=some ⟨b,o,none⟩/\∀ j u,(f S[k])[j]?=some u->w.cell? ⟨b,o+k*c+j,none⟩=some u:=by
  obtain ⟨A',cap',hv,_,_,h1⟩:=h
  obtain ⟨rfl,_⟩:A=A'/\_:=by simpa using hv
  obtain ⟨b,o,rfl,_,hcell⟩:=h1 (by omega)
  exact ⟨b,o,rfl,hcell k hk⟩
theorem RowsAt.own {α:Type} {ty:TypeId} {c:Nat} {f:α->List Value} (hf:∀ a,(f a).length=c) {w:World} {B:Nat} {v:Value} {S:List α} (h:w.ownsRow B ty c v S.length (rowsL f S)):RowsAt ty c f w v S:=by
  rcases h.2 with ⟨rfl,h0⟩ | ⟨g,cap,cur,rfl,hB,hh,hn,_⟩
  · obtain rfl:S=[]:=List.eq_nil_of_length_eq_zero h0
    exact RowsAt.nil ty c f w
  · refine ⟨_,cap,rfl,hn,fun _=>Or.inr ⟨_,_,rfl⟩,fun h0=>⟨g,0,rfl,⟨_,_,hh⟩,fun i hi j u hu=>?_⟩⟩
    have hj:j<c:=by rw [← hf S[i]]; exact (List.getElem?_eq_some_iff.1 hu).1
    have:=h.cells (g:=g) rfl (i*c+j) u (by rw [rowsL_at hf S i j hi hj]; exact hu)
    rw [Addr.add_mid] at this; rw [Nat.zero_add]; simpa using this
def RowsIn {α:Type} (c:Nat) (f:α->List Value) (w:World) (v:Value) (S:List α):Prop:=
  ∃ (A:Option Addr) (cap:Nat),v=.slice A S.length cap/\S.length<=cap/\(S=[]->A=none/\cap=0∨∃ b o,A=some ⟨b,o,none⟩)/\(0<S.length->∃ b o,A=some ⟨b,o,none⟩/\b<w.heap.size/\∀ i (h:i<S.length) j u,(f S[i])[j]?=some u->w.cell? ⟨b,o+i*c+j,none⟩=some u)
theorem RowsAt.inn {α:Type} {ty:TypeId} {c:Nat} {f:α->List Value} {w:World} {v:Value} {S:List α} (h:RowsAt ty c f w v S):RowsIn c f w v S:=by
  obtain ⟨A,cap,rfl,hc,h0,h1⟩:=h
  refine ⟨A,cap,rfl,hc,h0,fun hp=>?_⟩
  obtain ⟨b,o,rfl,⟨cs,fl,hh⟩,hcell⟩:=h1 hp
  exact ⟨b,o,rfl,lt_of_heap hh,hcell⟩
theorem RowsIn.form {α:Type} {c:Nat} {f:α->List Value} {w:World} {v:Value} {S:List α} (h:RowsIn c f w v S):∃ A cap,v=.slice A S.length cap/\S.length<=cap/\((S=[]/\A=none/\cap=0)∨∃ b o,A=some ⟨b,o,none⟩):=by
  obtain ⟨A,cap,rfl,hc,h0,h1⟩:=h
  refine ⟨A,cap,rfl,hc,?_⟩
  by_cases hs:S=[]
  · exact (h0 hs).imp (fun h=>⟨hs,h⟩) id
  · obtain ⟨b,o,rfl,_⟩:=h1 (List.length_pos_iff.2 hs)
    exact Or.inr ⟨b,o,rfl⟩
theorem RowsIn.below {α:Type} {c:Nat} {f:α->List Value} {w w':World} {v:Value} {S:List α} (h:RowsIn c f w v S) (hb:Below w.heap.size w w'):RowsIn c f w' v S:=by
  obtain ⟨A,cap,rfl,hc,h0,h1⟩:=h
  refine ⟨A,cap,rfl,hc,h0,fun hp=>?_⟩
  obtain ⟨b,o,rfl,hlt,hcell⟩:=h1 hp
  exact ⟨b,o,rfl,Nat.lt_of_lt_of_le hlt hb.size,fun i hi j u hu=>(hb.cell hlt).trans (hcell i hi j u hu)⟩
theorem RowsIn.at {α:Type} {c:Nat} {f:α->List Value} {w:World} {A:Option Addr} {n cap:Nat} {S:List α} (h:RowsIn c f w (.slice A n cap) S) (k:Nat) (hk:k<S.length):
    ∃ b o,A=some ⟨b,o,none⟩/\∀ j u,(f S[k])[j]?=some u->w.cell? ⟨b,o+k*c+j,none⟩=some u:=by
  obtain ⟨A',cap',hv,_,_,h1⟩:=h
  obtain ⟨rfl,_⟩:A=A'/\_:=by simpa using hv
  obtain ⟨b,o,rfl,_,hcell⟩:=h1 (by omega)
  exact ⟨b,o,rfl,hcell k hk⟩
theorem run_append_nothing_rows {c:Nat} (sty ty:TypeId) (hu:Tryz.prog.underlying sty=some (.slice ty)) (hsz:∀ w,(sizeOf ty).run Tryz.prog w=.ok c w) (w:World) (v:Value) (n k B:Nat) (xs:List Value) (h:w.ownsRow B ty c v n xs) (tt:TypeId):(Builtin.append_ #[sty,sty] tt #[v,.slice none 0 k]).run Tryz.prog w=.ok v w:=by
  rcases h.2 with ⟨rfl,rfl⟩ | ⟨g,cap,cur,rfl,hB,hh,hn,_⟩
  · simp [Builtin.append_,run_underlying hu,hsz,Builtin.lenOf,Builtin.firstCells,Result.andThen]
  · simp [Builtin.append_,run_underlying hu,hsz,Builtin.lenOf,Builtin.firstCells,Result.andThen,hn,storeCells]
theorem append_rowsIn {α:Type} {f:α->List Value} {c:Nat} {w:World} {v s:Value} {S:List α} {B n:Nat} {xs:List Value} (sty ty:TypeId) (i0:TypeInfo) (z:Value) (by_:Nat)
    (hu:Tryz.prog.underlying sty=some (.slice ty)) (hsz:∀ w,(sizeOf ty).run Tryz.prog w=.ok c w)
    (hi:Tryz.prog.info? ty=some i0) (hz0:i0.zero=some z) (hz1:i0.size=c) (hz2:i0.bytes=by_) (hz:z.cells.size=c) (hc0:0<c) (hby:by_<=1000)
    (hf:∀ a,(f a).length=c) (h1:∀ a,∀ u∈f a,u.oneCell'=true)
    (hv:RowsIn c f w v S) (hs:w.ownsRow B ty c s n xs) (hl:n+S.length<=1000000) (hB:B<=w.heap.size):
    ∃ v' w',(Builtin.append_ #[sty,sty] sty #[s,v]).run Tryz.prog w=.ok v' w'/\w'.ownsRow B ty c v' (n+S.length) (xs++rowsL f S)/\w.grownBy w' s.ownBlock/\(v'.ownBlock=s.ownBlock∨v'.ownBlock=some w.heap.size):=by
  obtain ⟨A,cap,rfl,-,-,hc⟩:=hv
  cases A with
  | none=>
    have h0:S.length=0:=by
      by_cases h:S.length=0
      · exact h
      · obtain ⟨b,o,ha,_⟩:=hc (by omega)
        cases ha
    obtain rfl:S=[]:=List.eq_nil_of_length_eq_zero h0
    exact ⟨s,w,run_append_nothing_rows sty ty hu hsz w s n cap B xs hs _,by simpa [rowsL] using hs,⟨rfl,rfl,rfl,Nat.le_refl _,fun _ _ _=>rfl⟩,Or.inl rfl⟩
  | some a=>
    have hbytes:(n+S.length)*by_<=140737488355328:=Nat.le_trans (Nat.mul_le_mul hl hby) (by omega)
    obtain ⟨v',w',h1,h2,h3,_,h5⟩:=run_append_own_at (P:=Tryz.prog) w B sty sty ty i0 z c by_ hu hi hz0 hz1 hz2 hz hc0 s n xs hs a S.length cap (rowsL f S) (rowsL_length hf S)
      (fun j u hu=>by
        have hj:j<S.length*c:=by
          have:=(List.getElem?_eq_some_iff.1 hu).1
          rwa [rowsL_length hf] at this
        have hS:0<S.length:=Nat.pos_of_ne_zero fun e=>by rw [e,Nat.zero_mul] at hj; omega
        obtain ⟨b,o,hb,_,hcell⟩:=hc hS
        cases hb
        have hi':j / c<S.length:=(Nat.div_lt_iff_lt_mul hc0).2 hj
        have hr:j % c<c:=Nat.mod_lt _ hc0
        have hjj:j / c*c+j % c=j:=by rw [Nat.mul_comm]; exact Nat.div_add_mod j c
        have e:=rowsL_at hf S (j / c) (j % c) hi' hr
        rw [hjj,hu] at e
        have:=hcell (j / c) hi' (j % c) u e.symm
        rw [Addr.add_mid]
        rw [Nat.add_assoc,hjj] at this
        exact this) (rowsL_one h1 S) (by unfold maxLen; omega) hbytes hB
    exact ⟨v',w',h1,h2,h3,h5⟩
theorem append_rows {α:Type} {f:α->List Value} {c:Nat} {w:World} {v s:Value} {S:List α} {B n:Nat} {xs:List Value} (sty ty:TypeId) (i0:TypeInfo) (z:Value) (by_:Nat)
    (hu:Tryz.prog.underlying sty=some (.slice ty)) (hsz:∀ w,(sizeOf ty).run Tryz.prog w=.ok c w)
    (hi:Tryz.prog.info? ty=some i0) (hz0:i0.zero=some z) (hz1:i0.size=c) (hz2:i0.bytes=by_) (hz:z.cells.size=c) (hc0:0<c) (hby:by_<=1000)
    (hf:∀ a,(f a).length=c) (h1:∀ a,∀ u∈f a,u.oneCell'=true)
    (hv:RowsAt ty c f w v S) (hs:w.ownsRow B ty c s n xs) (hl:n+S.length<=1000000) (hB:B<=w.heap.size):
    ∃ v' w',(Builtin.append_ #[sty,sty] sty #[s,v]).run Tryz.prog w=.ok v' w'/\w'.ownsRow B ty c v' (n+S.length) (xs++rowsL f S)/\w.grownBy w' s.ownBlock/\(v'.ownBlock=s.ownBlock∨v'.ownBlock=some w.heap.size):=
  append_rowsIn sty ty i0 z by_ hu hsz hi hz0 hz1 hz2 hz hc0 hby hf h1 hv.inn hs hl hB
end
namespace Pw
abbrev S:=List UInt8
structure M where
  name:S
  power:Int
instance:Inhabited M:=⟨⟨[],0⟩⟩
theorem M.ext' {a b:M} (h:a.name=b.name) (k:a.power=b.power):a=b:=by cases a; cases b; simp_all
instance:DecidableEq M:=fun a b=>
  if h:a.name=b.name/\a.power=b.power then isTrue (M.ext' h.1 h.2) else isFalse (fun e=>h (by subst e; exact ⟨rfl,rfl⟩))
def okM (p:S) (m:M):Bool:=decide (p<m.name)&&decide (m.name.length<=6)&&decide (1<=m.power)&&decide (m.power<=1000)
def okFrom:S->List M->Bool
  | _,[]=>true
  | p,m::t=>okM p m&&okFrom m.name t
def okL (L:List M):Bool:=decide (1<=L.length)&&decide (L.length<=7)&&okFrom [] L
theorem lt_nil (s:S):([]<s)↔s≠[]:=by cases s <;> simp
theorem okFrom_mem {p:S} {L:List M} (h:okFrom p L=true):∀ m∈L,p<m.name/\m.name.length<=6/\1<=m.power/\m.power<=1000:=by
  induction L generalizing p with
  | nil=>simp
  | cons a L ih=>
    simp only [okFrom,okM,Bool.and_eq_true,decide_eq_true_eq] at h
    intro m hm
    rcases List.mem_cons.1 hm with rfl | hm
    · exact ⟨h.1.1.1.1,h.1.1.1.2,h.1.1.2,h.1.2⟩
    · have:=ih h.2 m hm
      exact ⟨List.lt_trans h.1.1.1.1 this.1,this.2⟩
theorem okFrom_pair {p:S} {L:List M} (h:okFrom p L=true):L.Pairwise (fun a b=>a.name<b.name):=by
  induction L generalizing p with
  | nil=>exact .nil
  | cons a L ih=>
    simp only [okFrom,Bool.and_eq_true] at h
    exact .cons (fun b hb=>(okFrom_mem h.2 b hb).1) (ih h.2)
theorem okL_mem {L:List M} (h:okL L=true):∀ m∈L,m.name≠[]/\m.name.length<=6/\1<=m.power/\m.power<=1000:=by
  simp only [okL,Bool.and_eq_true] at h
  intro m hm
  have:=okFrom_mem h.2 m hm
  exact ⟨(lt_nil _).1 this.1,this.2⟩
theorem okL_pair {L:List M} (h:okL L=true):L.Pairwise (fun a b=>a.name<b.name):=by
  simp only [okL,Bool.and_eq_true] at h
  exact okFrom_pair h.2
theorem okL_len {L:List M} (h:okL L=true):1<=L.length/\L.length<=7:=by
  simp only [okL,Bool.and_eq_true,decide_eq_true_eq] at h
  exact h.1
def sumP (L:List M):Int:=L.foldr (fun m n=>m.power+n) 0
theorem sumP_range {L:List M} (h:∀ m∈L,1<=m.power/\m.power<=1000):(L.length:Int)<=sumP L/\sumP L<=1000*L.length:=by
  induction L with
  | nil=>simp [sumP]
  | cons m L ih=>
    have h1:=ih (fun x hx=>h x (List.mem_cons_of_mem _ hx))
    have h2:=h m (List.mem_cons_self ..)
    simp only [sumP,List.foldr_cons,List.length_cons] at h1 ⊢
    omega
def tot (L:List M):Nat:=if okL L then (sumP L).toNat else 0
def quo (L:List M):Nat:=if tot L=0 then 0 else 2*tot L / 3+1
def mos (L:List M):Nat:=(tot L - 1) / 3
theorem tot_range (L:List M):tot L<=7000/\(okL L=true->1<=tot L/\(tot L:Int)=sumP L)/\(okL L=false->tot L=0):=by
  unfold tot
  cases h:okL L with
  | false=>simp
  | true=>
    have h1:=sumP_range (L:=L) (fun m hm=>(okL_mem h m hm).2.2)
    have h2:=okL_len h
    simp
    omega
/-! ### those who are named -/
def pick (L:List M) (names:List S):List M:=L.filter fun m=>decide (m.name∈names)
def ofL (L:List M) (names:List S):Nat:=if okL L then (sumP (pick L names)).toNat else 0
theorem sumP_filter_split (L:List M) (p:M->Bool):sumP L=sumP (L.filter p)+sumP (L.filter fun m=>!p m):=by
  induction L with
  | nil=>rfl
  | cons m L ih=>
    simp only [List.filter_cons]
    cases p m <;> simp [sumP] at ih ⊢ <;> omega
theorem sumP_nonneg {L:List M} (h:∀ m∈L,0<=m.power):0<=sumP L:=by
  induction L with
  | nil=>simp [sumP]
  | cons m L ih=>
    have h1:=ih (fun x hx=>h x (List.mem_cons_of_mem _ hx))
    have h2:=h m (List.mem_cons_self ..)
    simp only [sumP,List.foldr_cons] at h1 ⊢
    omega
theorem sumP_filter_le {L:List M} (p q:M->Bool) (h:∀ m∈L,0<=m.power) (hpq:∀ m∈L,p m=true->q m=true):sumP (L.filter p)<=sumP (L.filter q):=by
  induction L with
  | nil=>exact Int.le_refl _
  | cons m L ih=>
    have h1:=ih (fun x hx=>h x (List.mem_cons_of_mem _ hx)) (fun x hx=>hpq x (List.mem_cons_of_mem _ hx))
    have h2:=h m (List.mem_cons_self ..)
    have h3:=hpq m (List.mem_cons_self ..)
    simp only [List.filter_cons]
    cases hp:p m <;> cases hq:q m <;> simp [sumP,hp,hq] at h1 h3 ⊢ <;> omega
theorem pick_range {L:List M} (h:okL L=true) (names:List S):0<=sumP (pick L names)/\sumP (pick L names)<=sumP L/\sumP L<=7000:=by
  have hnn:∀ m∈L,0<=m.power:=fun m hm=>by have:=(okL_mem h m hm).2.2; omega
  have h1:=sumP_nonneg (L:=pick L names) (fun m hm=>hnn m (List.mem_filter.1 hm).1)
  have h2:=sumP_filter_split L (fun m=>decide (m.name∈names))
  have h3:=sumP_nonneg (L:=L.filter fun m=>!decide (m.name∈names)) (fun m hm=>hnn m (List.mem_filter.1 hm).1)
  have h4:=sumP_range (L:=L) (fun m hm=>(okL_mem h m hm).2.2)
  have h5:=(okL_len h).2
  refine ⟨h1,?_,by omega⟩
  unfold pick
  omega
theorem pick_no (L:List M) (names:List S) (s:S) (h:∀ m∈L,m.name=s->s∈names):pick L (names++[s])=pick L names:=by
  unfold pick
  apply List.filter_congr
  intro m hm
  have:(m.name∈names++[s])↔m.name∈names:=by
    simp only [List.mem_append,List.mem_singleton]
    exact ⟨fun hh=>hh.elim id (fun e=>e ▸ h m hm e),Or.inl⟩
  simp [this]
def keepI (b:List S) (out:List S) (s:S):List S:=if s∈b/\s∉out then out++[s] else out
def uniq (a b:List S):List S:=a.foldl (keepI b) []
theorem snocInd {α:Type} {p:List α->Prop} (h0:p []) (h1:∀ l d,p l->p (l++[d])) (l:List α):p l:=by
  have h:∀ r:List α,p r.reverse:=by
    intro r
    induction r with
    | nil=>exact h0
    | cons d r ih=>rw [List.reverse_cons]; exact h1 _ _ ih
  have:=h l.reverse
  rwa [List.reverse_reverse] at this
theorem uniq_snoc (a b:List S) (s:S):uniq (a++[s]) b=keepI b (uniq a b) s:=by simp [uniq]
theorem uniq_mem (a b:List S) (s:S):s∈uniq a b↔s∈a/\s∈b:=by
  induction a using snocInd with
  | h0=>simp [uniq]
  | h1 a d ih=>
    rw [uniq_snoc,keepI]
    split
    · simp only [List.mem_append,List.mem_singleton,ih]
      constructor
      · rintro (h | rfl)
        · exact ⟨Or.inl h.1,h.2⟩
        · rename_i h; exact ⟨Or.inr rfl,h.1⟩
      · rintro ⟨h | rfl,hb⟩
        · exact Or.inl ⟨h,hb⟩
        · exact Or.inr rfl
    · rename_i h
      simp only [List.mem_append,List.mem_singleton,ih]
      constructor
      · rintro h; exact ⟨Or.inl h.1,h.2⟩
      · rintro ⟨h' | rfl,hb⟩
        · exact ⟨h',hb⟩
        · by_cases hu:s∈uniq a b
          · exact ih.1 hu
          · exact absurd ⟨hb,hu⟩ h
def both (a b:List S):List S:=(uniq a b).mergeSort fun x y=>decide (x<=y)
theorem both_perm (a b:List S):(both a b).Perm (uniq a b):=List.mergeSort_perm _ _
theorem both_mem (a b:List S) (s:S):s∈both a b↔s∈a/\s∈b:=by rw [(both_perm a b).mem_iff,uniq_mem]
end Pw
section
open Go.RowKit Go.ChangeShapes Go.WideShapes
open Pw (M)
theorem Tryz.infoStr:(Tryz.prog.info? 9).map (fun i=>(i.zero,i.size,i.bytes))=some (some (.string ⟨#[]⟩),1,16):=by kernel_rfl
end
end Go.Proofs.YtaficmboooaknaaGreatDoor
