/- TriParts, StoreMath, StorePlain, MapFn, MapRange, SortShelf -/
import Derived.Test.YtjfefphgikncnaaGreatDoorPk10
import Derived.Test.YtjfefphgikncnaaGreatDoorPk02
import Derived.Deep.RegionHeld3
import Derived.Test.YtjfefphgikncnaaGreatDoorPk01
import Derived.Test.YtjfefphgikncnaaGreatDoorPk03
import Derived.Maps.OwnSet
import Derived.Maps.RangeRun
import Derived.Maps.Range
import Derived.Shelf.Strconv.Itoa0
import Derived.Shelf.LaysM
import Derived.Shelf.Strconv.Clone
import Derived.Shelf.Sort.Plain
import Derived.Shelf.Slices.In.SortNone
import Derived.Test.YtjfefphgikncnaaGreatDoorChecked
namespace Go.Proofs.YtjfefphgikncnaaGreatDoor
open Go.RowKit
open Sto (T)
open Tri (Tr Ok upd ix hb lay splitT)

def noK : Ks := fun _ => nilp
theorem RowP.new {w : World} {k : Nat} {p x s : T} {K : Ks} {C : Array Value} (h : C = (pcl k p x K s).toArray) : RowP (w.alloc (.cells C 99)) w.heap.size k p x K s := by
  subst h; exact heap_new_at w _ _ rfl
/-- A new part, as it may stand in a tree. -/
theorem PAt.new {w' : World} {F : Fm} {g : Nat} {t : Tr} {K : Ks} (hn : ¬ t.isNil) (hB : F false g) (hr : RowP w' g t.kind t.pth t.vl K []) (hk : ∀ i, PAt w' F false (t.kid i) (K i)) : PAt w' F false t (ptr g) :=
  (PAt.iff hn).2 ⟨g, false, K, rfl, (fun h => by cases h), hB, hr, hk⟩
/-- Any new block may be of a tree. -/
def Fm.fresh (F : Fm) (w : World) : Prop := ∀ g, w.heap.size ≤ g → F false g
theorem Fm.fresh.size {F : Fm} {w w' : World} (h : F.fresh w) (hs : w.heap.size ≤ w'.heap.size) : F.fresh w' := fun g hg => h g (Nat.le_trans hs hg)
theorem Fm.fresh.off {F : Fm} {w : World} (h : F.fresh w) {q : Nat} (hq : q < w.heap.size) : (F.off q).fresh w := fun g hg => ⟨h g hg, by omega⟩
/-- What a call answers: a tree, its new parts without sums. -/
def MadeT (w : World) (F : Fm) (t : Tr) (e : Ending) (w' : World) : Prop := ∃ v, e = .returned v ∧ PAt w' F false t v ∧ Below w.heap.size w w'

set_option maxRecDepth 100000 in
theorem leaf_any (p x : T) (w : World) (F : Fm) (hB : F.fresh w) :
    Calls Tryz.prog 126 #[.string ⟨p.toArray⟩, .string ⟨x.toArray⟩] w (MadeT w F (.leaf p x)) := by
  unfold MadeT
  go_enter Tryz.func126, Tryz.ntmps126
  go_wp2
  go_ret
  refine ⟨_, rfl, PAt.new (K := noK) id (hB _ (Nat.le_refl _)) (RowP.new rfl) (fun i => rfl), (Below.refl _ w).alloc (Nat.le_refl _) _⟩

set_option maxRecDepth 100000 in
theorem half_any (i : Fin 16) (w : World) :
    Calls Tryz.prog 111 #[.int .i64 i.val] w fun e w' => e = .returned (.string ⟨[hb i].toArray⟩) ∧ Below w.heap.size w w' := by
  have hi := i.isLt
  have e1 : (i.val : Int) % 256 = (i.val : Int) := by omega
  have hc := conv_one' w (hb i) (i.val : Int) (by rw [Tri.hb_toNat]) w.heap.size rfl
  have h0 : (0 : Int) ≤ (i.val : Int) := by omega
  have h1 : (i.val : Int) ≤ 255 := by omega
  go_enter Tryz.func111, Tryz.ntmps111
  go_wp2
  go_ret
  exact ⟨rfl, (Below.refl _ w).alloc (Nat.le_refl _) _⟩
/-- The place of a kid. -/
def placeT (k : Nat) (e : T) (i : Fin 16) : T := if k = 3 then e ++ [hb i] else e
set_option maxRecDepth 100000 in
theorem place_any (k : Nat) (e : T) (i : Fin 16) (w : World) (he : e.length ≤ 1000) (hk : k ≤ 3) :
    Calls Tryz.prog 81 #[.int .i64 k, .string ⟨e.toArray⟩, .int .i64 i.val] w fun r w' => r = .returned (.string ⟨(placeT k e i).toArray⟩) ∧ Below w.heap.size w w' := by
  unfold placeT
  by_cases h : k = 3
  · subst h
    rw [if_pos rfl]
    have HH := Lib.hid (fun w => half_any i w)
    have hcm := cat_mk e [hb i]
    go_enter Tryz.func81, Tryz.ntmps81
    go_wp2_with fail
    refine (HH.out _).mono ?_
    rintro r w1 ⟨rfl, hb1⟩
    go_wp2
    go_ret
    exact ⟨rfl, hb1⟩
  · rw [if_neg h]
    have h1 : ¬ ((k : Int) = 3) := by omega
    have h2 : ((k : Int) == 3) = false := by rw [beq_eq_false_iff_ne]; exact h1
    go_enter Tryz.func81, Tryz.ntmps81
    go_wp2
    go_ret
    exact ⟨rfl, Below.refl _ _⟩
theorem pcl_load (k : Nat) (p x s : T) (K : Ks) : (Tryz.prog.info? 99).map (·.size) = some (pcl k p x K s).toArray.size := by
  rw [List.size_toArray, pcl_length]; kernel_rfl
theorem pcl_one (k : Nat) (p x s : T) (K : Ks) (hK : ∀ i, (K i).oneCell' = true) : (pcl k p x K s).toArray.all (·.oneCell') = true := by
  rw [← Array.all_toList, List.all_eq_true]
  intro v hv
  simp only [pcl, List.mem_cons, List.mem_append, List.mem_ofFn, List.not_mem_nil, or_false] at hv
  rcases hv with rfl | rfl | rfl | ⟨i, rfl⟩ | rfl
  · rfl
  · rfl
  · rfl
  · exact hK i
  · rfl
set_option maxRecDepth 100000 in
set_option maxHeartbeats 1000000 in
theorem open_any {g k : Nat} {p x s : T} {K : Ks} (w : World) (h : RowP w g k p x K s) (hK : ∀ i, (K i).oneCell' = true) :
    Calls Tryz.prog 97 #[ptr g] w fun r w' => r = .returned (ptr w.heap.size) ∧ RowP w' w.heap.size k p x K [] ∧ Below w.heap.size w w' := by
  have hi := pcl_load k p x s K
  have ho := pcl_one k p x s K hK
  have hset := pcl_set k p x K s []
  have hl : (pcl k p x K s).toArray.size = 20 := by rw [List.size_toArray, pcl_length]
  have hc : (pcl k p x K s).toArray[19]? = some (.string ⟨s.toArray⟩) := by
    have h1 : RowP w g k p x K s := h
    have h2 := h1.sum
    rw [cell_of_row w g 19 _ _ _ h] at h2
    exact h2
  unfold RowP at h ⊢
  unfold ptr
  generalize (pcl k p x K []).toArray = D at hset ⊢
  generalize (pcl k p x K s).toArray = C at h hi ho hset hl hc
  have hat : (w.alloc (.cells C 99)).heap[w.heap.size]? = some (.cells C 99 (0, 0)) := heap_alloc_new w _
  have hcell : (w.alloc (.cells C 99)).cell? ⟨w.heap.size, 19, none⟩ = some (.string ⟨s.toArray⟩) := by rw [cell_of_row _ _ 19 _ _ _ hat]; exact hc
  have hfr : (w.alloc (.cells C 99)).frozen? ⟨w.heap.size, 19, none⟩ = false := frozen_of_row _ _ _ _ _ hat
  have HR := Lib.hid h
  have HI := Lib.hid hi
  have HO := Lib.hid ho
  have HL := Lib.hid hl
  have HS := Lib.hid hset
  clear h hi ho hset hl hc hat
  go_enter Tryz.func97, Tryz.ntmps97
  go_wp2_with (first | (refine wpList_load_row (by rfl) _ _ (by rfl) g (by rfl) _ C _ _ HR.out Tryz.underlying99 (by rfl) HI.out ?_) | (refine wpList_store_fresh (by rfl) _ _ _ (by rfl) w.heap.size rfl C (by rfl) (by rfl) _ _ HI.out HL.out.symm HO.out ?_))
  go_ret
  exact ⟨rfl, by rw [HS.out]; exact heap_alloc_new w _, (Below.refl _ w).alloc (Nat.le_refl _) _⟩
theorem PAt.cellK {w : World} {F : Fm} {s : Bool} {t : Tr} {v : Value} (h : PAt w F s t v) : v = nilp ∨ ∃ g, v = ptr g := by
  by_cases hn : t.isNil
  · rw [Tri.isNil_eq hn] at h; exact Or.inl h
  · obtain ⟨g, _, _, e, _⟩ := h.row hn; exact Or.inr ⟨g, e⟩
theorem PAt.oneCell {w : World} {F : Fm} {s : Bool} {t : Tr} {v : Value} (h : PAt w F s t v) : v.oneCell' = true := by
  rcases h.cellK with rfl | ⟨g, rfl⟩ <;> rfl
def oneK (a : Value) : Ks := fun i => if i = 0 then a else nilp
theorem pcl_path (k : Nat) (p p' x : T) (K : Ks) (s : T) : (pcl k p x K s).toArray.setIfInBounds 1 (.string ⟨p'.toArray⟩) = (pcl k p' x K s).toArray := by
  rw [List.setIfInBounds_toArray]; rfl
theorem RowP.setPath {w : World} {g k : Nat} {p x s : T} {K : Ks} (h : RowP w g k p x K s) (p' : T) : RowP (w.setCell ⟨g, 1, none⟩ (.string ⟨p'.toArray⟩)) g k p' x K s := by
  have := heap_setCell_same _ _ 1 _ _ (.string ⟨p'.toArray⟩) h
  rw [pcl_path] at this
  exact this
theorem RowP.free {w : World} {g k : Nat} {p x s : T} {K : Ks} (h : RowP w g k p x K s) (i : Nat) : w.frozen? ⟨g, i, none⟩ = false := frozen_of_row _ _ _ _ _ h
theorem lay_parts (p : T) {t : Tr} (hn : ¬ t.isNil) (h3 : t.kind ≠ 3) : (lay p t).kind = t.kind ∧ (lay p t).pth = p ++ t.pth ∧ (lay p t).vl = t.vl ∧ ∀ i, (lay p t).kid i = t.kid i := by
  cases t with
  | nil => exact absurd trivial hn
  | leaf q x => exact ⟨rfl, rfl, rfl, fun _ => rfl⟩
  | ext q u => exact ⟨rfl, rfl, rfl, fun _ => rfl⟩
  | br x k => exact absurd rfl h3
set_option maxRecDepth 100000 in
set_option maxHeartbeats 1000000 in
/-- A path laid above a tree. -/
theorem behind_any {t : Tr} {v : Value} (p : T) (w : World) (F : Fm) (hB : F.fresh w) (h : PAt w F false t v) (hp : p = [] ∨ ¬ t.isNil) (hpl : p.length ≤ 1000) (hql : t.pth.length ≤ 1000) :
    Calls Tryz.prog 96 #[v, .string ⟨p.toArray⟩] w (MadeT w F (lay p t)) := by
  unfold MadeT
  by_cases hp0 : p = []
  · subst hp0
    rw [Tri.lay_nil]
    have HP := Lib.hid h
    clear h hp
    go_enter Tryz.func96, Tryz.ntmps96
    go_wp2
    go_ret
    exact ⟨v, rfl, HP.out, Below.refl _ _⟩
  · have hn := hp.resolve_left hp0
    obtain ⟨g, s', K, rfl, -, h2, hr, hk⟩ := h.row hn
    have hpe : (p == []) = false := by rw [beq_eq_false_iff_ne]; exact hp0
    have HP := Lib.hid h
    have n0 := hr.kind
    by_cases h3 : t.kind = 3
    · have e3 : ((t.kind : Int) == 3) = true := by rw [h3]; rfl
      rw [h3] at n0
      have HL : Hid (lay p t = .ext p t) := Lib.hid (by
        cases t with
        | br x k => simp [lay, Tri.above, hp0]
        | _ => cases h3)
      unfold ptr
      clear h hp hr hk
      go_enter Tryz.func96, Tryz.ntmps96
      go_wp2
      go_ret
      rw [HL.out]
      refine ⟨_, rfl, ?_, (Below.refl _ w).alloc (Nat.le_refl _) _⟩
      refine PAt.new (K := oneK (ptr g)) id (hB _ (Nat.le_refl _)) (RowP.new rfl) fun i => ?_
      simp only [Tri.Tr.kid, oneK]
      split
      · exact HP.out.below ((Below.refl _ w).alloc (Nat.le_refl _) _)
      · rfl
    · have e3 : ((t.kind : Int) == 3) = false := by rw [beq_eq_false_iff_ne]; omega
      have HO := Lib.hid (open_any w hr (fun i => (hk i).oneCell))
      have n1 := hr.path
      have HL := Lib.hid (lay_parts p hn h3)
      have HKK := Lib.hid hk
      have HN := Lib.hid (Tri.lay_nn (p := p) hn)
      have HR := Lib.hid hr
      unfold ptr at HO ⊢
      obtain ⟨q, hq⟩ : ∃ q, t.pth = q := ⟨_, rfl⟩
      rw [hq] at n1 hql
      have HQ := Lib.hid hq
      have hcm := cat_mk p q
      obtain ⟨kd, hkd⟩ : ∃ kd, t.kind = kd := ⟨_, rfl⟩
      rw [hkd] at n0 e3
      have HKD := Lib.hid hkd
      clear h hp hr hk hq h2 hkd h3
      go_enter Tryz.func96, Tryz.ntmps96
      go_wp2_with fail
      refine HO.out.mono ?_
      rintro r w1 ⟨rfl, hr1, hb1⟩
      have m1 := hr1.path
      have m2 := hr1.free 1
      have m3 := HR.out.below hb1
      have m4 := m3.path
      rw [HQ.out] at m1 m4
      go_wp2
      go_ret
      obtain ⟨l1, l2, l3, l4⟩ := HL.out
      have hb2 := hb1.setCell (p := ⟨w.heap.size, 1, none⟩) (Nat.le_refl _) (.string ⟨(p ++ q).toArray⟩)
      refine ⟨_, rfl, PAt.new (K := K) HN.out (hB _ (Nat.le_refl _)) ?_ (fun i => ?_), hb2⟩
      · rw [l1, l2, l3, HQ.out]
        exact hr1.setPath _
      · rw [l4]
        exact ((HKK.out i).weak).below hb2
end Go.Proofs.YtjfefphgikncnaaGreatDoor
namespace Go.Proofs.YtjfefphgikncnaaGreatDoor.Sto
def On (m : List Bool) (j : Nat) : Prop := m[j]? = some true
instance (m : List Bool) (j : Nat) : Decidable (On m j) := inferInstanceAs (Decidable (m[j]? = some true))
def mark (m : List Bool) (ks : List Nat) : List Bool := ks.foldl (fun m k => m.set k true) m
def pass1 (K : Nat → List Nat) (m : List Bool) (i : Nat) : List Bool := if On m i then mark m (K i) else m
def pass (K : Nat → List Nat) (l : List Nat) (m : List Bool) : List Bool := l.foldl (pass1 K) m
def rounds (K : Nat → List Nat) (l : List Nat) : Nat → List Bool → List Bool
  | 0, m => m
  | t + 1, m => rounds K l t (pass K l m)
inductive Rch (K : Nat → List Nat) (p : Nat → Prop) : Nat → Prop
  | here {i} : p i → Rch K p i
  | step {i k} : Rch K p i → k ∈ K i → Rch K p k

theorem On.lt {m : List Bool} {j : Nat} (h : On m j) : j < m.length := by
  unfold On at h
  exact (List.getElem?_eq_some_iff.1 h).1
theorem set_on (m : List Bool) (k j : Nat) : On (m.set k true) j ↔ On m j ∨ (j = k ∧ j < m.length) := by
  unfold On
  rw [List.getElem?_set]
  by_cases h : k = j
  · subst h
    by_cases hl : k < m.length
    · simp [hl]
    · simp [hl]
  · have : ¬ j = k := fun e => h e.symm
    simp [h, this]
theorem mark_len (ks : List Nat) : ∀ m : List Bool, (mark m ks).length = m.length := by
  induction ks with
  | nil => intro m; rfl
  | cons k r ih => intro m; show (mark (m.set k true) r).length = _; rw [ih]; simp
theorem mark_on (ks : List Nat) : ∀ (m : List Bool) (j : Nat), On (mark m ks) j ↔ On m j ∨ (j ∈ ks ∧ j < m.length) := by
  induction ks with
  | nil => intro m j; simp [mark]
  | cons k r ih =>
    intro m j
    show On (mark (m.set k true) r) j ↔ _
    rw [ih, set_on, List.length_set, List.mem_cons]
    constructor
    · rintro ((h | ⟨h, hl⟩) | ⟨h, hl⟩)
      · exact .inl h
      · exact .inr ⟨.inl h, hl⟩
      · exact .inr ⟨.inr h, hl⟩
    · rintro (h | ⟨h | h, hl⟩)
      · exact .inl (.inl h)
      · exact .inl (.inr ⟨h, hl⟩)
      · exact .inr ⟨h, hl⟩
def Le (m m' : List Bool) : Prop := m.length = m'.length ∧ ∀ j, On m j → On m' j
theorem Le.refl (m : List Bool) : Le m m := ⟨rfl, fun _ h => h⟩
theorem Le.trans {a b c : List Bool} (h : Le a b) (g : Le b c) : Le a c := ⟨h.1.trans g.1, fun j x => g.2 j (h.2 j x)⟩
theorem pass1_le (K : Nat → List Nat) (m : List Bool) (i : Nat) : Le m (pass1 K m i) := by
  unfold pass1
  split
  · exact ⟨(mark_len _ _).symm, fun j h => (mark_on _ _ _).2 (.inl h)⟩
  · exact Le.refl m
theorem pass_le (K : Nat → List Nat) (l : List Nat) : ∀ m, Le m (pass K l m) := by
  induction l with
  | nil => intro m; exact Le.refl m
  | cons i r ih => intro m; exact (pass1_le K m i).trans (ih _)
theorem rounds_le (K : Nat → List Nat) (l : List Nat) : ∀ t m, Le m (rounds K l t m) := by
  intro t
  induction t with
  | zero => intro m; exact Le.refl m
  | succ t ih => intro m; exact (pass_le K l m).trans (ih _)
theorem pass1_sound (K : Nat → List Nat) (p : Nat → Prop) (m : List Bool) (i : Nat) (h : ∀ j, On m j → Rch K p j) : ∀ j, On (pass1 K m i) j → Rch K p j := by
  intro j hj
  unfold pass1 at hj
  split at hj
  · rcases (mark_on _ _ _).1 hj with hj | ⟨hj, -⟩
    · exact h j hj
    · exact .step (h i ‹_›) hj
  · exact h j hj
theorem pass_sound (K : Nat → List Nat) (p : Nat → Prop) (l : List Nat) : ∀ m : List Bool, (∀ j, On m j → Rch K p j) → ∀ j, On (pass K l m) j → Rch K p j := by
  induction l with
  | nil => intro m h; exact h
  | cons i r ih => intro m h; exact ih _ (pass1_sound K p m i h)
theorem rounds_sound (K : Nat → List Nat) (p : Nat → Prop) (l : List Nat) : ∀ (t : Nat) (m : List Bool), (∀ j, On m j → Rch K p j) → ∀ j, On (rounds K l t m) j → Rch K p j := by
  intro t
  induction t with
  | zero => intro m h; exact h
  | succ t ih => intro m h; exact ih _ (pass_sound K p l m h)
/-- What a pass leaves as it was is closed. -/
def Closed (K : Nat → List Nat) (l : List Nat) (m : List Bool) : Prop := ∀ i ∈ l, On m i → ∀ k ∈ K i, k < m.length → On m k
theorem pass_closed (K : Nat → List Nat) (l : List Nat) : ∀ m : List Bool, Closed K l m → Le (pass K l m) m := by
  induction l with
  | nil => intro m _; exact Le.refl m
  | cons i r ih =>
    intro m h
    have e : Le (pass1 K m i) m := by
      unfold pass1
      split
      · rename_i hi
        refine ⟨mark_len _ _, fun j hj => ?_⟩
        rcases (mark_on _ _ _).1 hj with hj | ⟨hj, hl⟩
        · exact hj
        · exact h i (by simp) hi j hj hl
      · exact Le.refl m
    have c : Closed K r (pass1 K m i) := fun a ha hon k hk hl => by
      have := h a (by simp [ha]) (e.2 a hon) k hk (by rw [← e.1]; exact hl)
      exact (pass1_le K m i).2 k this
    exact (ih _ c).trans e
theorem closed_of_pass (K : Nat → List Nat) (l : List Nat) : ∀ m m0 : List Bool, Le m0 m → Le (pass K l m) m0 → Closed K l m0 := by
  induction l with
  | nil => intro m m0 _ _ i hi; simp at hi
  | cons a r ih =>
    intro m m0 h0 h i hi hon k hk hl
    rcases List.mem_cons.1 hi with rfl | hi
    · have hp : On (pass1 K m i) k := by
        unfold pass1
        rw [if_pos (h0.2 i hon)]
        exact (mark_on _ _ _).2 (.inr ⟨hk, by rw [← h0.1]; exact hl⟩)
      exact h.2 k ((pass_le K r (pass1 K m i)).2 k hp)
    · exact ih (pass1 K m a) m0 (h0.trans (pass1_le K m a)) h i hi hon k hk hl
def ons (m : List Bool) : Nat := m.countP id
theorem ons_le_of : ∀ m m' : List Bool, Le m m' → ons m ≤ ons m' := by
  intro m
  induction m with
  | nil => intro m' h; simp [ons]
  | cons a r ih =>
    intro m' h
    cases m' with
    | nil => simp [Le] at h
    | cons b q =>
      have hr : Le r q := ⟨by have := h.1; simpa using this, fun j hj => by have := h.2 (j + 1); simpa [On] using this (by simpa [On] using hj)⟩
      have := ih q hr
      have hab : a = true → b = true := fun e => by have := h.2 0; simpa [On, e] using this
      cases a <;> cases b <;> simp [ons] at * <;> omega
theorem le_of_ons : ∀ m m' : List Bool, Le m m' → ons m' ≤ ons m → Le m' m := by
  intro m
  induction m with
  | nil => intro m' h _; cases m' with
    | nil => exact Le.refl _
    | cons b q => simp [Le] at h
  | cons a r ih =>
    intro m' h hc
    cases m' with
    | nil => simp [Le] at h
    | cons b q =>
      have hr : Le r q := ⟨by have := h.1; simpa using this, fun j hj => by have := h.2 (j + 1); simpa [On] using this (by simpa [On] using hj)⟩
      have hle := ons_le_of r q hr
      have hab : a = true → b = true := fun e => by have := h.2 0; simpa [On, e] using this
      have key : b = a ∧ ons q ≤ ons r := by
        cases a <;> cases b <;> simp [ons] at * <;> omega
      obtain ⟨rfl, hq⟩ := key
      have hb := ih q hr hq
      refine ⟨h.1.symm, fun j hj => ?_⟩
      cases j with
      | zero => simpa [On] using hj
      | succ j => have := hb.2 j; simpa [On] using this (by simpa [On] using hj)
theorem ons_le_len (m : List Bool) : ons m ≤ m.length := List.countP_le_length
theorem all_on (m : List Bool) (h : m.length ≤ ons m) (j : Nat) (hj : j < m.length) : On m j := by
  have e : ons m = m.length := Nat.le_antisymm (ons_le_len m) h
  have := (List.countP_eq_length.1 e) m[j] (List.getElem_mem hj)
  unfold On
  rw [List.getElem?_eq_getElem hj]
  simpa using this
theorem rounds_closed (K : Nat → List Nat) (l : List Nat) : ∀ (t : Nat) (m : List Bool), m.length ≤ ons m + t → Closed K l (rounds K l t m) := by
  intro t
  induction t with
  | zero => intro m h i _ _ k _ hl; exact all_on m h k hl
  | succ t ih =>
    intro m h
    by_cases hc : ons m < ons (pass K l m)
    · refine ih _ ?_
      rw [← (pass_le K l m).1]
      omega
    · have hback := le_of_ons m _ (pass_le K l m) (by omega)
      have hcl : Closed K l m := closed_of_pass K l m m (Le.refl m) hback
      -- closed stays
      have stay : ∀ t (m' : List Bool), Le m m' → Le m' m → Le (rounds K l t m') m := by
        intro t
        induction t with
        | zero => intro m' _ h'; exact h'
        | succ t iht =>
          intro m' h1 h2
          have c' : Closed K l m' := fun a ha hon k hk hl' => h1.2 k (hcl a ha (h2.2 a hon) k hk (by rw [h1.1]; exact hl'))
          exact iht _ (h1.trans (pass_le K l m')) ((pass_closed K l m' c').trans h2)
      have hs := stay (t + 1) m (Le.refl m) (Le.refl m)
      have hle := rounds_le K l (t + 1) m
      intro a ha hon k hk hl'
      exact hle.2 k (hcl a ha (hs.2 a hon) k hk (by rw [hle.1]; exact hl'))
/-- As many rounds as there are places: just what is reached is marked. -/
theorem rounds_reach (K : Nat → List Nat) (n : Nat) (m : List Bool) (hm : m.length = n) (hK : ∀ i k, k ∈ K i → k < n) (j : Nat) :
    On (rounds K (List.range n) n m) j ↔ Rch K (On m) j := by
  have hlen : (rounds K (List.range n) n m).length = n := by rw [← (rounds_le K (List.range n) n m).1, hm]
  constructor
  · exact rounds_sound K (On m) _ n m (fun j h => .here h) j
  · intro h
    induction h with
    | here h => exact (rounds_le K _ n m).2 _ h
    | step _ hk ih =>
      refine rounds_closed K (List.range n) n m (by omega) _ (List.mem_range.2 ?_) ih _ hk (by rw [hlen]; exact hK _ _ hk)
      have := ih.lt
      omega
end Go.Proofs.YtjfefphgikncnaaGreatDoor.Sto
namespace Go.Proofs.YtjfefphgikncnaaGreatDoor.Sto
/-! ### what is reached -/
/-- The sums that a text names, if it is a node. -/
def kidsT (t : T) : List T := Nd.kidsL (Nd.dec t).1.kids
inductive Reach (S : St) (l : List T) : T → Prop
  | here {x} : x ∈ l → x ∈ keys S → Reach S l x
  | step {x t k} : Reach S l x → look S x = some t → k ∈ kidsT t → k ∈ keys S → Reach S l k
theorem Reach.key {S : St} {l : List T} {x : T} (h : Reach S l x) : x ∈ keys S := by
  cases h <;> assumption
def idx (S : St) (x : T) : Option Nat := S.findIdx? fun a => decide (a.1 = x)
theorem idx_some {S : St} {x : T} {k : Nat} (h : idx S x = some k) : ∃ hk : k < S.length, S[k].1 = x := by
  obtain ⟨h1, h2, _⟩ := List.findIdx?_eq_some_iff_getElem.1 h
  exact ⟨h1, by simpa using h2⟩
theorem idx_of_key {S : St} {x : T} (h : x ∈ keys S) : ∃ k, idx S x = some k := by
  cases hi : idx S x with
  | some k => exact ⟨k, rfl⟩
  | none =>
    obtain ⟨a, ha, e⟩ := List.mem_map.1 h
    have := List.findIdx?_eq_none_iff.1 hi a ha
    simp [e] at this
theorem idx_at {S : St} (hS : Rising S) (i : Nat) (hi : i < S.length) : idx S S[i].1 = some i := by
  obtain ⟨k, hk⟩ := idx_of_key (S := S) (x := S[i].1) (List.mem_map.2 ⟨_, List.getElem_mem hi, rfl⟩)
  obtain ⟨h1, h2⟩ := idx_some hk
  have : k = i := by
    rcases Nat.lt_trichotomy k i with h | h | h
    · exact absurd h2 (lt_ne (List.pairwise_iff_getElem.1 hS k i h1 hi h))
    · exact h
    · exact absurd h2.symm (lt_ne (List.pairwise_iff_getElem.1 hS i k hi h1 h))
  rw [hk, this]
def kidI (S : St) (i : Nat) : List Nat := match S[i]? with | some a => (kidsT a.2).filterMap (idx S) | none => []
theorem kidI_at (S : St) (i : Nat) (hi : i < S.length) : kidI S i = (kidsT S[i].2).filterMap (idx S) := by
  unfold kidI
  rw [List.getElem?_eq_getElem hi]
theorem kidI_lt (S : St) (i k : Nat) (h : k ∈ kidI S i) : k < S.length := by
  unfold kidI at h
  split at h
  · obtain ⟨x, _, hx⟩ := List.mem_filterMap.1 h
    exact (idx_some hx).1
  · cases h
def marks0 (S : St) (l : List T) : List Bool := S.map fun a => decide (a.1 ∈ l)
def marks (S : St) (l : List T) : List Bool := rounds (kidI S) (List.range S.length) S.length (marks0 S l)
theorem marks0_len (S : St) (l : List T) : (marks0 S l).length = S.length := by simp [marks0]
theorem marks_len (S : St) (l : List T) : (marks S l).length = S.length := by
  rw [marks, ← (rounds_le _ _ _ _).1, marks0_len]
def pick (S : St) (m : List Bool) : List T := ((S.zip m).filter (·.2)).map (·.1.1)
def reachL (S : St) (l : List T) : List T := pick S (marks S l)
theorem pick_sub (S : St) (m : List Bool) (h : m.length = S.length) : (pick S m).Sublist (keys S) := by
  have h1 : ((S.zip m).map (·.1.1)) = keys S := by
    rw [keys, show (fun x : (T × T) × Bool => x.1.1) = (fun a : T × T => a.1) ∘ Prod.fst from rfl, ← List.map_map, List.map_fst_zip (by omega)]
  rw [← h1]
  exact (List.filter_sublist).map _
theorem pick_mem (S : St) (m : List Bool) (h : m.length = S.length) (x : T) : x ∈ pick S m ↔ ∃ i, ∃ hi : i < S.length, S[i].1 = x ∧ On m i := by
  unfold pick
  rw [List.mem_map]
  constructor
  · rintro ⟨⟨a, b⟩, hm, rfl⟩
    obtain ⟨h1, h2⟩ := List.mem_filter.1 hm
    obtain ⟨i, hi, e⟩ := List.mem_iff_getElem.1 h1
    simp only [List.length_zip] at hi
    rw [List.getElem_zip] at e
    obtain ⟨e1, e2⟩ := Prod.mk.inj e
    refine ⟨i, by omega, by rw [e1], ?_⟩
    unfold On
    rw [List.getElem?_eq_getElem (by omega), e2]
    simpa using h2
  · rintro ⟨i, hi, rfl, hon⟩
    have hl := hon.lt
    unfold On at hon
    rw [List.getElem?_eq_getElem hl] at hon
    refine ⟨(S[i], m[i]), List.mem_filter.2 ⟨?_, by simpa using hon⟩, rfl⟩
    exact List.mem_iff_getElem.2 ⟨i, by simp; omega, by rw [List.getElem_zip]⟩
theorem on_marks0 (S : St) (l : List T) (i : Nat) : On (marks0 S l) i ↔ ∃ hi : i < S.length, S[i].1 ∈ l := by
  unfold On marks0
  rw [List.getElem?_map]
  by_cases hi : i < S.length
  · rw [List.getElem?_eq_getElem hi]
    simp [hi]
  · rw [List.getElem?_eq_none (by omega)]
    simp [hi]
theorem on_marks {S : St} (hS : Rising S) (l : List T) (i : Nat) : On (marks S l) i ↔ ∃ hi : i < S.length, Reach S l S[i].1 := by
  unfold marks
  rw [rounds_reach (kidI S) S.length (marks0 S l) (marks0_len S l) (fun i k h => kidI_lt S i k h)]
  constructor
  · intro h
    induction h with
    | here h =>
      obtain ⟨hi, hm⟩ := (on_marks0 S l _).1 h
      exact ⟨hi, .here hm (List.mem_map.2 ⟨_, List.getElem_mem hi, rfl⟩)⟩
    | @step i k _ hk ih =>
      obtain ⟨hi, hr⟩ := ih
      rw [kidI_at S i hi] at hk
      obtain ⟨x, hx, hxi⟩ := List.mem_filterMap.1 hk
      obtain ⟨hk', e⟩ := idx_some hxi
      refine ⟨hk', .step hr (look_at hS i hi) (by rw [e]; exact hx) (List.mem_map.2 ⟨_, List.getElem_mem hk', rfl⟩)⟩
  · rintro ⟨hi, h⟩
    have key : ∀ x, Reach S l x → ∀ j, idx S x = some j → Rch (kidI S) (On (marks0 S l)) j := by
      intro x h
      induction h with
      | @here x h1 h2 =>
        intro j hj
        obtain ⟨hl, e⟩ := idx_some hj
        exact .here ((on_marks0 S l j).2 ⟨hl, by rw [e]; exact h1⟩)
      | @step x t k h1 h2 h3 h4 ih =>
        intro j hj
        obtain ⟨a, ha⟩ := idx_of_key h1.key
        obtain ⟨hal, e⟩ := idx_some ha
        have e2 := look_at hS a hal
        rw [e, h2] at e2
        refine .step (ih a ha) ?_
        rw [kidI_at S a hal, ← Option.some.inj e2]
        exact List.mem_filterMap.2 ⟨k, h3, hj⟩
    exact key _ h i (idx_at hS i hi)
theorem reachL_mem {S : St} (hS : Rising S) (l : List T) (x : T) : x ∈ reachL S l ↔ Reach S l x := by
  unfold reachL
  rw [pick_mem S _ (marks_len S l)]
  constructor
  · rintro ⟨i, hi, rfl, hon⟩
    exact ((on_marks hS l i).1 hon).2
  · intro h
    obtain ⟨i, hi⟩ := idx_of_key h.key
    obtain ⟨hl, e⟩ := idx_some hi
    exact ⟨i, hl, e, (on_marks hS l i).2 ⟨hl, by rw [e]; exact h⟩⟩
theorem reachL_rise {S : St} (hS : Rising S) (l : List T) : (reachL S l).Pairwise (· < ·) := (keys_rise hS).sublist (pick_sub S _ (marks_len S l))
def keepL (S : St) (l : List T) : St := S.filter fun a => decide (a.1 ∈ reachL S l)
theorem keepL_rising {S : St} (hS : Rising S) (l : List T) : Rising (keepL S l) := List.Pairwise.sublist List.filter_sublist hS
theorem keepL_sub (S : St) (l : List T) {p : T × T} (h : p ∈ keepL S l) : p ∈ S := (List.mem_filter.1 h).1
theorem keepL_keys {S : St} (hS : Rising S) (l : List T) : keys (keepL S l) = reachL S l := by
  refine rise_unique (keys_rise (keepL_rising hS l)) (reachL_rise hS l) fun x => ?_
  unfold keys keepL
  rw [List.mem_map]
  constructor
  · rintro ⟨a, ha, rfl⟩
    simpa using (List.mem_filter.1 ha).2
  · intro h
    obtain ⟨a, ha, rfl⟩ := List.mem_map.1 ((reachL_mem hS l x).1 h).key
    exact ⟨a, List.mem_filter.2 ⟨ha, by simpa using h⟩, rfl⟩
theorem look_keepL {S : St} (hS : Rising S) (l : List T) (x : T) : look (keepL S l) x = if x ∈ reachL S l then look S x else none := by
  by_cases h : x ∈ reachL S l
  · rw [if_pos h]
    have hk := h
    rw [← keepL_keys hS l] at hk
    obtain ⟨t, ht⟩ := Option.isSome_iff_exists.1 ((look_isSome _ _).2 hk)
    rw [ht]
    exact ((look_mem hS x t).2 (keepL_sub S l ((look_mem (keepL_rising hS l) x t).1 ht))).symm
  · rw [if_neg h, look_none, keepL_keys hS l]
    exact h
/-- What has been reached so far (V), what is still to be looked at (O). -/
structure Work (S : St) (l V O : List T) : Prop where
  nd : V.Nodup
  sub : ∀ x ∈ V, Reach S l x
  opn : ∀ x ∈ O, x ∈ keys S → Reach S l x
  start : ∀ x ∈ l, x ∈ keys S → x ∈ V ∨ x ∈ O
  kids : ∀ x ∈ V, ∀ t, look S x = some t → ∀ k ∈ kidsT t, k ∈ keys S → k ∈ V ∨ k ∈ O
theorem Work.begin (S : St) (l : List T) : Work S l [] l :=
  ⟨List.nodup_nil, fun x h => (by cases h), fun x h hk => .here h hk, fun x h _ => Or.inr h, fun x h => (by cases h)⟩
theorem Work.skip {S : St} {l V O : List T} {x : T} (h : Work S l V (O ++ [x])) (hx : x ∈ V ∨ x ∉ keys S) : Work S l V O := by
  refine ⟨h.nd, h.sub, fun y hy => h.opn y (List.mem_append_left _ hy), fun y hy hk => ?_, fun y hy t ht k hk hkk => ?_⟩
  · rcases h.start y hy hk with h1 | h1
    · exact Or.inl h1
    · rcases List.mem_append.1 h1 with h1 | h1
      · exact Or.inr h1
      · obtain rfl : y = x := by simpa using h1
        exact Or.inl (hx.resolve_right (fun q => q hk))
  · rcases h.kids y hy t ht k hk hkk with h1 | h1
    · exact Or.inl h1
    · rcases List.mem_append.1 h1 with h1 | h1
      · exact Or.inr h1
      · obtain rfl : k = x := by simpa using h1
        exact Or.inl (hx.resolve_right (fun q => q hkk))
theorem Work.take {S : St} {l V O : List T} {x t : T} (h : Work S l V (O ++ [x])) (hx : x ∉ V) (ht : look S x = some t) : Work S l (V ++ [x]) (O ++ kidsT t) := by
  have hkx : x ∈ keys S := (look_isSome S x).1 (by rw [ht]; rfl)
  have hr : Reach S l x := h.opn x (by simp) hkx
  refine ⟨?_, ?_, ?_, ?_, ?_⟩
  · rw [List.nodup_append]
    exact ⟨h.nd, by simp, fun a ha b hb e => hx (by obtain rfl : b = x := (by simpa using hb); rw [← e]; exact ha)⟩
  · intro y hy
    rcases List.mem_append.1 hy with hy | hy
    · exact h.sub y hy
    · obtain rfl : y = x := by simpa using hy
      exact hr
  · intro y hy hk
    rcases List.mem_append.1 hy with hy | hy
    · exact h.opn y (List.mem_append_left _ hy) hk
    · exact .step hr ht hy hk
  · intro y hy hk
    rcases h.start y hy hk with h1 | h1
    · exact Or.inl (List.mem_append_left _ h1)
    · rcases List.mem_append.1 h1 with h1 | h1
      · exact Or.inr (List.mem_append_left _ h1)
      · exact Or.inl (List.mem_append_right _ h1)
  · intro y hy u hu k hk hkk
    rcases List.mem_append.1 hy with hy | hy
    · rcases h.kids y hy u hu k hk hkk with h1 | h1
      · exact Or.inl (List.mem_append_left _ h1)
      · rcases List.mem_append.1 h1 with h1 | h1
        · exact Or.inr (List.mem_append_left _ h1)
        · exact Or.inl (List.mem_append_right _ h1)
    · obtain rfl : y = x := by simpa using hy
      rw [ht] at hu
      obtain rfl := Option.some.inj hu
      exact Or.inr (List.mem_append_right _ hk)
theorem Work.done {S : St} {l V : List T} (h : Work S l V []) (x : T) : x ∈ V ↔ Reach S l x := by
  constructor
  · exact h.sub x
  · intro hr
    induction hr with
    | here h1 h2 => exact (h.start _ h1 h2).resolve_right (by simp)
    | step h1 h2 h3 h4 ih => exact (h.kids _ ih _ h2 _ h3 h4).resolve_right (by simp)
theorem le_of_sub {α : Type} [BEq α] [LawfulBEq α] : ∀ {l M : List α}, l.Nodup → (∀ x ∈ l, x ∈ M) → l.length ≤ M.length
  | [], _, _, _ => Nat.zero_le _
  | a :: r, M, hn, hs => by
    obtain ⟨h1, h2⟩ := List.nodup_cons.1 hn
    have ha := hs a (List.mem_cons_self ..)
    have := le_of_sub (M := M.erase a) h2 fun x hx => (List.mem_erase_of_ne (fun e => h1 (by rw [← e]; exact hx))).2 (hs x (List.mem_cons_of_mem _ hx))
    rw [List.length_erase_of_mem ha] at this
    have hpos : 0 < M.length := List.length_pos_of_mem ha
    simp only [List.length_cons]
    omega
theorem Work.len {S : St} {l V O : List T} (h : Work S l V O) : V.length ≤ S.length := by
  have := le_of_sub (M := keys S) h.nd fun x hx => (h.sub x hx).key
  simpa [keys] using this
theorem kidsT_len (t : T) : (kidsT t).length ≤ 16 := by
  have h16 : (Nd.dec t).1.kids.length = 16 := by
    rcases Nd.dec_is t with ⟨_, _, h, _⟩ | ⟨_, h, _⟩
    · exact h
    · rw [h]; rfl
  unfold kidsT Nd.kidsL
  exact Nat.le_trans (List.length_filter_le _ _) (Nat.le_of_eq h16)
end Go.Proofs.YtjfefphgikncnaaGreatDoor.Sto
namespace Go.Proofs.YtjfefphgikncnaaGreatDoor
open Go.RowKit Go.MapKept
open Go.ChangeMaps (setBlock heap_setBlock_same heap_setBlock_other)
open Go.Maps (Keyed)

/-- How keys and elements lie in the map: the key's value and its law, the element's value. -/
structure MapLaw (P : Program) (k : TypeId) (κ α : Type) where
  enc : κ → Value
  val : α → Value
  ok : κ → Prop
  keyed : Keyed P k
  key : ∀ s, ok s → ∃ l, keyOf P k (enc s) = some l
  inj : ∀ a b, enc a = enc b → a = b

variable {P : Program} {k t e : TypeId} {κ α : Type}

/-- f, but o at s. -/
def updF [DecidableEq κ] (f : κ → Option α) (s : κ) (o : Option α) : κ → Option α := fun x => if x = s then o else f x
theorem updF_same [DecidableEq κ] (f : κ → Option α) (s : κ) (o : Option α) : updF f s o s = o := if_pos rfl
theorem updF_other [DecidableEq κ] (f : κ → Option α) (s x : κ) (o : Option α) (h : x ≠ s) : updF f s o x = f x := if_neg h
/-- Block b is a map that has f's elements at f's keys, and no other. -/
def FnAt (M : MapLaw P k κ α) (w : World) (b : Nat) (f : κ → Option α) : Prop :=
  ∃ es clock, w.heap[b]? = some (.map es clock) ∧ (∀ x ∈ es.toList, ∃ s a, x.key = M.enc s ∧ x.val = M.val a ∧ M.ok s ∧ f s = some a) ∧ (∀ s a, f s = some a → ∃ x ∈ es.toList, x.key = M.enc s) ∧ Stamped es clock

theorem FnAt.lt {M : MapLaw P k κ α} {w : World} {b : Nat} {f : κ → Option α} (h : FnAt M w b f) : b < w.heap.size := by
  obtain ⟨_, _, h1, _⟩ := h; exact lt_of_heap h1
theorem FnAt.no_cells {M : MapLaw P k κ α} {w : World} {b : Nat} {f : κ → Option α} (h : FnAt M w b f) (j : Nat) (cs : Array Value) (t : TypeId) (fr : Nat × Nat) (hk : j = b) : w.heap[j]? ≠ some (.cells cs t fr) := by
  subst hk
  obtain ⟨es, c, he, _⟩ := h
  rw [he]; simp
theorem FnAt.made (M : MapLaw P k κ α) (w : World) (b : Nat) (h : b = w.heap.size) : FnAt M (w.alloc (.map #[] 0)) b (fun _ => none) :=
  ⟨#[], 0, heap_new_at w _ _ h, fun x hx => by simp at hx, fun s a h => by simp at h, stamped_empty 0⟩
theorem FnAt.out {M : MapLaw P k κ α} {F : Nat → Prop} {w w' : World} {b : Nat} {f : κ → Option α} (h : FnAt M w b f) (ho : Out F w w') (hF : ¬ F b) : FnAt M w' b f := by
  obtain ⟨es, clock, h1, h2⟩ := h
  exact ⟨es, clock, ho.heap h1 hF, h2⟩
theorem FnAt.below {M : MapLaw P k κ α} {w w' : World} {b : Nat} {f : κ → Option α} (h : FnAt M w b f) (ho : Below w.heap.size w w') : FnAt M w' b f := h.out (F := fun _ => False) (Out.of ho) id
theorem FnAt.drew {M : MapLaw P k κ α} {w : World} {b : Nat} {f : κ → Option α} (h : FnAt M w b f) : FnAt M w.drew b f := h
theorem FnAt.congr {M : MapLaw P k κ α} {w : World} {b : Nat} {f g : κ → Option α} (h : FnAt M w b f) (e : ∀ s, f s = g s) : FnAt M w b g := by
  obtain rfl : f = g := funext e
  exact h

theorem FnAt.keys {M : MapLaw P k κ α} {es : Array MapEntry} {f : κ → Option α} (h2 : ∀ x ∈ es.toList, ∃ s a, x.key = M.enc s ∧ x.val = M.val a ∧ M.ok s ∧ f s = some a) : ∀ x ∈ es.toList, ∃ l, keyOf P k x.key = some l := by
  intro x hx
  obtain ⟨s, a, e1, _, ho, _⟩ := h2 x hx
  rw [e1]; exact M.key s ho

theorem FnAt.look {M : MapLaw P k κ α} {w : World} {b : Nat} {f : κ → Option α} (h : FnAt M w b f) (ht : P.underlying t = some (.map k e)) {s : κ} (hs : M.ok s) (c : Bool) {z : Value} (hz : (zeroValue e).run P w = .ok z w) :
    (Instr.lookup t (.map (some b)) (M.enc s) c).run P w = .ok (if c then .tuple #[((f s).map M.val).getD z, .bool (f s).isSome] else ((f s).map M.val).getD z) w := by
  obtain ⟨es, clock, hb, h2, h3, h4⟩ := h
  obtain ⟨kl, hkey⟩ := M.key s hs
  rcases M.keyed.find w hkey es.toList (FnAt.keys h2) with ⟨h5, h6⟩ | ⟨j, e0, h5, h6, h7⟩
  · have hn : f s = none := by
      cases hf : f s with
      | none => rfl
      | some a =>
        obtain ⟨x, hx, hxe⟩ := h3 s a hf
        exact absurd hxe (h6 x hx)
    rw [hn]
    simp [Instr.lookup, run_underlying ht, MapKept.run_getObj_map hb, M.keyed.check w _ hkey, h5, hz, Result.andThen]
  · obtain ⟨s', a, e1, e2, ho, hf⟩ := h2 e0 (List.mem_of_getElem? h6)
    obtain rfl : s' = s := M.inj _ _ (e1.symm.trans h7)
    rw [hf]
    simp [Instr.lookup, run_underlying ht, MapKept.run_getObj_map hb, M.keyed.check w _ hkey, h5, e2, Result.andThen]

theorem FnAt.put [DecidableEq κ] {M : MapLaw P k κ α} {w : World} {b : Nat} {f : κ → Option α} (h : FnAt M w b f) (ht : P.underlying t = some (.map k e)) {s : κ} (hs : M.ok s) (a : α) :
    ∃ w', (Instr.mapUpdate t (.map (some b)) (M.enc s) (M.val a)).run P w = .ok () w' ∧ FnAt M w' b (updF f s (some a)) ∧ Out (fun i => i = b) w w' ∧ w'.heap.size = w.heap.size := by
  obtain ⟨es, clock, hb, h2, h3, h4⟩ := h
  obtain ⟨kl, hkey⟩ := M.key s hs
  rcases M.keyed.find w hkey es.toList (FnAt.keys h2) with ⟨h5, h6⟩ | ⟨j, e0, h5, h6, h7⟩
  · refine ⟨setBlock w b (.map (es.push ⟨M.enc s, M.val a, clock⟩) (clock + 1)), ?_, ⟨_, _, heap_setBlock_same hb _, ?_, ?_, ?_⟩, ⟨rfl, rfl, rfl, by simp [setBlock], fun i _ hi => heap_setBlock_other hb _ hi⟩, by simp [setBlock]⟩
    · simp [Instr.mapUpdate, run_underlying ht, MapKept.run_getObj_map hb, M.keyed.check w false hkey, h5, MapKept.run_setObj_map _ hb, Result.andThen, setBlock]
    · intro x hx
      simp only [Array.toList_push, List.mem_append, List.mem_singleton] at hx
      rcases hx with hx | rfl
      · obtain ⟨s', a', e1, e2, ho, hf⟩ := h2 x hx
        have hne : s' ≠ s := fun e => h6 x hx (by rw [e1, e])
        exact ⟨s', a', e1, e2, ho, by rw [updF_other _ _ _ _ hne]; exact hf⟩
      · exact ⟨s, a, rfl, rfl, hs, updF_same _ _ _⟩
    · intro s' a' hf
      simp only [Array.toList_push, List.mem_append, List.mem_singleton]
      by_cases hne : s' = s
      · exact ⟨_, Or.inr rfl, by rw [hne]⟩
      · rw [updF_other _ _ _ _ hne] at hf
        obtain ⟨x, hx, hxe⟩ := h3 s' a' hf
        exact ⟨x, Or.inl hx, hxe⟩
    · exact stamped_push h4 h6
  · have hjl : j < es.toList.length := (List.getElem?_eq_some_iff.1 h6).1
    have hjs : j < es.size := by simpa using hjl
    have he0 : es.toList[j] = e0 := (List.getElem?_eq_some_iff.1 h6).2
    have hj' : es[j]? = some e0 := by rw [← Array.getElem?_toList]; exact h6
    have hml : (es.modify j fun x => { x with key := M.enc s, val := M.val a }).toList = es.toList.set j { e0 with key := M.enc s, val := M.val a } := by
      apply List.ext_getElem?
      intro i
      rw [Array.getElem?_toList, Array.getElem?_modify, List.getElem?_set]
      by_cases hi : j = i
      · subst hi
        have hb0 : es[j].born = e0.born := by rw [← he0]; simp
        simp [hjs, hb0]
      · simp [hi]
    obtain ⟨s0, a0, q1, q2, q3, q4⟩ := h2 e0 (List.mem_of_getElem? h6)
    obtain rfl : s0 = s := M.inj _ _ (q1.symm.trans h7)
    have hkeys : (es.toList.set j { e0 with key := M.enc s0, val := M.val a }).map (·.key) = es.toList.map (·.key) := by
      rw [List.map_set]
      apply List.ext_getElem?
      intro i
      rw [List.getElem?_set]
      by_cases hi : j = i
      · subst hi
        have hk0 : M.enc s0 = es[j].key := by rw [← h7, ← he0]; simp
        simp [hjs, hk0]
      · simp [hi]
    refine ⟨setBlock w b (.map (es.modify j fun x => { x with key := M.enc s0, val := M.val a }) clock), ?_, ⟨_, _, heap_setBlock_same hb _, ?_, ?_, ?_⟩, ⟨rfl, rfl, rfl, by simp [setBlock], fun i _ hi => heap_setBlock_other hb _ hi⟩, by simp [setBlock]⟩
    · simp [Instr.mapUpdate, run_underlying ht, MapKept.run_getObj_map hb, M.keyed.check w false hkey, h5, hj', h7, M.keyed.stays w hkey, MapKept.run_setObj_map _ hb, Result.andThen, setBlock]
    · rw [hml]
      intro x hx
      rcases List.mem_or_eq_of_mem_set hx with hx' | rfl
      · obtain ⟨s', a', e1, e2, ho, hf⟩ := h2 x hx'
        by_cases hne : s' = s0
        · subst hne
          obtain ⟨i, hi, rfl⟩ := List.mem_iff_getElem.1 hx
          have hil : i < es.toList.length := by simpa using hi
          have hkk := congrArg (fun l => l[i]?) hkeys
          simp only [List.getElem?_map] at hkk
          rw [List.getElem?_eq_getElem hi, List.getElem?_eq_getElem hil] at hkk
          have hkk' : (es.toList[i]).key = M.enc s' := by simpa [e1] using hkk.symm
          have hij : i = j := by
            have hn := List.pairwise_iff_getElem.1 h4.2.2
            have lm : (es.toList.map (·.key)).length = es.toList.length := by simp
            rcases Nat.lt_trichotomy i j with hlt | rfl | hlt
            · have := hn i j (by omega) (by omega) hlt
              rw [List.getElem_map, List.getElem_map, hkk', he0, h7] at this
              exact absurd rfl this
            · rfl
            · have := hn j i (by omega) (by omega) hlt
              rw [List.getElem_map, List.getElem_map, hkk', he0, h7] at this
              exact absurd rfl this
          subst hij
          refine ⟨s', a, e1, ?_, ho, updF_same _ _ _⟩
          simp
        · exact ⟨s', a', e1, e2, ho, by rw [updF_other _ _ _ _ hne]; exact hf⟩
      · exact ⟨s0, a, rfl, rfl, hs, updF_same _ _ _⟩
    · rw [hml]
      intro s' a' hf
      by_cases hne : s' = s0
      · subst hne
        exact ⟨_, List.mem_iff_getElem.2 ⟨j, by simpa using hjs, List.getElem_set_self _⟩, rfl⟩
      · rw [updF_other _ _ _ _ hne] at hf
        obtain ⟨x, hx, hxe⟩ := h3 s' a' hf
        obtain ⟨i, hi, rfl⟩ := List.mem_iff_getElem.1 hx
        have hij : j ≠ i := by
          rintro rfl
          rw [he0, h7] at hxe
          exact hne (M.inj _ _ hxe.symm)
        exact ⟨_, List.mem_iff_getElem.2 ⟨i, by simpa using hi, rfl⟩, by rw [List.getElem_set_ne hij]; exact hxe⟩
    · exact stamped_modify h4 j _ (fun e _ => rfl) (fun e _ he => by rw [hj'] at he; cases he; exact h7.symm)

theorem FnAt.drop [DecidableEq κ] {M : MapLaw P k κ α} {w : World} {b : Nat} {f : κ → Option α} (h : FnAt M w b f) (ht : P.underlying t = some (.map k e)) {s : κ} (hs : M.ok s) :
    ∃ w', (∀ ty, (Builtin.delete_ #[t, k] ty #[.map (some b), M.enc s]).run P w = .ok (.tuple #[]) w') ∧ FnAt M w' b (updF f s none) ∧ Out (fun i => i = b) w w' ∧ w'.heap.size = w.heap.size := by
  obtain ⟨es, clock, hb, h2, h3, h4⟩ := h
  obtain ⟨kl, hkey⟩ := M.key s hs
  rcases M.keyed.find w hkey es.toList (FnAt.keys h2) with ⟨h5, h6⟩ | ⟨j, e0, h5, h6, h7⟩
  · refine ⟨setBlock w b (.map es clock), ?_, ⟨_, _, heap_setBlock_same hb _, ?_, ?_, h4⟩, ⟨rfl, rfl, rfl, by simp [setBlock], fun i _ hi => heap_setBlock_other hb _ hi⟩, by simp [setBlock]⟩
    · intro ty
      simp [Builtin.delete_, run_underlying ht, MapKept.run_getObj_map hb, M.keyed.check w _ hkey, h5, MapKept.run_setObj_map _ hb, Result.andThen, setBlock]
    · intro x hx
      obtain ⟨s', a', e1, e2, ho, hf⟩ := h2 x hx
      have hne : s' ≠ s := fun e => h6 x hx (by rw [e1, e])
      exact ⟨s', a', e1, e2, ho, by rw [updF_other _ _ _ _ hne]; exact hf⟩
    · intro s' a' hf
      by_cases hne : s' = s
      · rw [hne, updF_same] at hf; cases hf
      · rw [updF_other _ _ _ _ hne] at hf; exact h3 s' a' hf
  · have hjl : j < es.toList.length := (List.getElem?_eq_some_iff.1 h6).1
    have hjs : j < es.size := by simpa using hjl
    have he0 : es.toList[j] = e0 := (List.getElem?_eq_some_iff.1 h6).2
    have hsub : (es.eraseIdxIfInBounds j).toList = es.toList.eraseIdx j := by
      unfold Array.eraseIdxIfInBounds
      rw [dif_pos hjs]
      simp
    have hn := List.pairwise_iff_getElem.1 h4.2.2
    have lm : (es.toList.map (·.key)).length = es.toList.length := by simp
    have hother : ∀ i (hi : i < es.toList.length), i ≠ j → (es.toList[i]).key ≠ M.enc s := by
      intro i hi hij e
      rcases Nat.lt_or_gt_of_ne hij with hlt | hlt
      · have := hn i j (by omega) (by omega) hlt
        rw [List.getElem_map, List.getElem_map, e, he0, h7] at this
        exact this rfl
      · have := hn j i (by omega) (by omega) hlt
        rw [List.getElem_map, List.getElem_map, e, he0, h7] at this
        exact this rfl
    refine ⟨setBlock w b (.map (es.eraseIdxIfInBounds j) clock), ?_, ⟨_, _, heap_setBlock_same hb _, ?_, ?_, ?_⟩, ⟨rfl, rfl, rfl, by simp [setBlock], fun i _ hi => heap_setBlock_other hb _ hi⟩, by simp [setBlock]⟩
    · intro ty
      simp [Builtin.delete_, run_underlying ht, MapKept.run_getObj_map hb, M.keyed.check w _ hkey, h5, MapKept.run_setObj_map _ hb, Result.andThen, setBlock]
    · rw [hsub]
      intro x hx
      obtain ⟨i, hij, hi⟩ := List.mem_eraseIdx_iff_getElem?.1 hx
      obtain ⟨hil, hie⟩ := List.getElem?_eq_some_iff.1 hi
      obtain ⟨s', a', e1, e2, ho, hf⟩ := h2 x (List.mem_of_getElem? hi)
      have hne : s' ≠ s := fun e => hother i hil hij (by rw [hie, e1, e])
      exact ⟨s', a', e1, e2, ho, by rw [updF_other _ _ _ _ hne]; exact hf⟩
    · rw [hsub]
      intro s' a' hf
      by_cases hne : s' = s
      · rw [hne, updF_same] at hf; cases hf
      · rw [updF_other _ _ _ _ hne] at hf
        obtain ⟨x, hx, hxe⟩ := h3 s' a' hf
        obtain ⟨i, hi, rfl⟩ := List.mem_iff_getElem.1 hx
        have hij : i ≠ j := by
          rintro rfl
          rw [he0, h7] at hxe
          exact hne (M.inj _ _ hxe.symm)
        exact ⟨_, List.mem_eraseIdx_iff_getElem?.2 ⟨i, hij, List.getElem?_eq_getElem hi⟩, hxe⟩
    · exact stamped_erase h4 j

/-- 'delete(m, k)', by an equation of the run. -/
theorem wpList_delete_run {w w' : World} {ops : Array Oper} {rest : List Oper} {o : Oper} {a : Act} {Q : Exit → Act → World → Prop} (hg : o.guard = none) (m x : Operand) (t k : TypeId) (hop : o.op = Op.call { callee := Callee.builtin Builtin.delete, args := #[m, x], argTypes := #[t, k] })
    (mv xv : Value) (hm : a.eval m = mv) (hx : a.eval x = xv) (hrun : ∀ ty, (Builtin.delete_ #[t, k] ty #[mv, xv]).run P w = .ok (.tuple #[]) w') (hK : wpList P ops Q rest (a.put o.dst (.tuple #[])) w') :
    wpList P ops Q (o :: rest) a w := by
  refine wpList_plain hg fun K' hK' => ?_
  unfold Oper.wp
  simp [execOp, hop, resolve, invoke, builtin, hm, hx, hrun, Result.andThen]
  exact hK' _ _ hK

end Go.Proofs.YtjfefphgikncnaaGreatDoor
namespace Go.Proofs.YtjfefphgikncnaaGreatDoor
open Go.RowKit Go.MapKept
open Go.ChangeMaps (setBlock heap_setBlock_same heap_setBlock_other)
open Go.Maps (Keyed)
variable {P : Program} {k t e : TypeId} {κ α : Type}

/-- The map in block b is ranged over by the iterator in block r; the keys in 'done' have come; cnt are still to come. -/
def FnRange (M : MapLaw P k κ α) (w : World) (b r : Nat) (f : κ → Option α) (done : List κ) (cnt : Nat) : Prop :=
  ∃ es clock since seen c0, w.heap[b]? = some (.map es clock) ∧ (∀ x ∈ es.toList, ∃ s a, x.key = M.enc s ∧ x.val = M.val a ∧ M.ok s ∧ f s = some a) ∧ (∀ s a, f s = some a → ∃ x ∈ es.toList, x.key = M.enc s) ∧ Stamped es clock ∧
    w.heap[r]? = some (.mapIter (some b) since seen c0) ∧ (∀ x ∈ es.toList, x.born < since) ∧ since ≤ c0 ∧ since ≤ clock ∧ (leftOf es seen).size = cnt ∧ done.Nodup ∧ (∀ x ∈ es.toList, seen.contains x.born = true ↔ ∃ s ∈ done, x.key = M.enc s) ∧ ∀ s ∈ done, f s ≠ none

theorem FnRange.map {M : MapLaw P k κ α} {w : World} {b r : Nat} {f : κ → Option α} {done : List κ} {cnt : Nat} (h : FnRange M w b r f done cnt) : FnAt M w b f := by
  obtain ⟨es, clock, _, _, _, hb, h2, h3, h4, _⟩ := h
  exact ⟨es, clock, hb, h2, h3, h4⟩
theorem FnRange.left_eq {M : MapLaw P k κ α} {w : World} {b r : Nat} {f : κ → Option α} {done : List κ} {cnt : Nat} (h : FnRange M w b r f done cnt) : w.rangeLeft b r = cnt := by
  obtain ⟨es, clock, since, seen, c0, hb, _, _, _, hr, _, _, _, hc, _⟩ := h
  simp only [World.rangeLeft, hb, hr]
  exact hc
theorem FnRange.lt {M : MapLaw P k κ α} {w : World} {b r : Nat} {f : κ → Option α} {done : List κ} {cnt : Nat} (h : FnRange M w b r f done cnt) : r < w.heap.size := by
  obtain ⟨es, clock, since, seen, c0, hb, _, _, _, hr, _⟩ := h
  exact lt_of_heap hr
theorem FnRange.ne {M : MapLaw P k κ α} {w : World} {b r : Nat} {f : κ → Option α} {done : List κ} {cnt : Nat} (h : FnRange M w b r f done cnt) : r ≠ b := by
  obtain ⟨es, clock, since, seen, c0, hb, _, _, _, hr, _⟩ := h
  rintro rfl
  rw [hb] at hr; cases hr
theorem FnRange.no_cells {M : MapLaw P k κ α} {w : World} {b r : Nat} {f : κ → Option α} {done : List κ} {cnt : Nat} (h : FnRange M w b r f done cnt) (j : Nat) (cs : Array Value) (t : TypeId) (fr : Nat × Nat) (hk : j = r) : w.heap[j]? ≠ some (.cells cs t fr) := by
  subst hk
  obtain ⟨es, clock, since, seen, c0, hb, _, _, _, hr, _⟩ := h
  rw [hr]; simp
theorem FnRange.out {M : MapLaw P k κ α} {F : Nat → Prop} {w w' : World} {b r : Nat} {f : κ → Option α} {done : List κ} {cnt : Nat} (h : FnRange M w b r f done cnt) (ho : Out F w w') (hb : ¬ F b) (hr : ¬ F r) : FnRange M w' b r f done cnt := by
  obtain ⟨es, clock, since, seen, c0, h1, h2, h3, h4, h5, h6⟩ := h
  exact ⟨es, clock, since, seen, c0, ho.heap h1 hb, h2, h3, h4, ho.heap h5 hr, h6⟩
theorem FnRange.below {M : MapLaw P k κ α} {w w' : World} {b r : Nat} {f : κ → Option α} {done : List κ} {cnt : Nat} (h : FnRange M w b r f done cnt) (ho : Below w.heap.size w w') : FnRange M w' b r f done cnt := h.out (F := fun _ => False) (Out.of ho) id id

theorem FnAt.range {M : MapLaw P k κ α} {w : World} {b : Nat} {f : κ → Option α} (h : FnAt M w b f) (ht : P.underlying t = some (.map k e)) :
    ∃ w' cnt, (Instr.range t (.map (some b))).run P w = .ok (.pointer (some ⟨w.heap.size, 0, none⟩)) w' ∧ FnRange M w' b w.heap.size f [] cnt ∧ Below w.heap.size w w' ∧ w'.heap.size = w.heap.size + 1 := by
  obtain ⟨es, clock, hb, h2, h3, h4⟩ := h
  refine ⟨_, _, run_range_map w t k e b es clock ht hb, ⟨es, clock, clock, #[], clock, heap_old_at _ hb, h2, h3, h4, heap_new_at w _ _ rfl, h4.1, Nat.le_refl _, Nat.le_refl _, rfl, List.nodup_nil, fun x _ => by simp, fun s hs => by cases hs⟩, (Below.refl _ w).alloc (Nat.le_refl _) _, by simp⟩

theorem FnRange.next {M : MapLaw P k κ α} {w : World} {b r : Nat} {f : κ → Option α} {done : List κ} {cnt : Nat} (h : FnRange M w b r f done cnt) (ty : TypeId) :
    ((∀ s, f s ≠ none → s ∈ done) ∧ (Instr.next (.pointer (some ⟨r, 0, none⟩)) false ty).run P w = .ok (.tuple #[.bool false]) w) ∨
    ∃ s a w' cnt', f s = some a ∧ M.ok s ∧ s ∉ done ∧ (Instr.next (.pointer (some ⟨r, 0, none⟩)) false ty).run P w = .ok (.tuple #[.bool true, M.enc s, M.val a]) w' ∧ FnRange M w' b r f (done ++ [s]) cnt' ∧ cnt' < cnt ∧
      Out (fun i => i = r) w w' ∧ w'.heap.size = w.heap.size ∧ (Instr.entry (.pointer (some ⟨r, 0, none⟩))).run P w' = .ok (.tuple #[M.enc s, M.val a]) w' := by
  have hne := h.ne
  obtain ⟨es, clock, since, seen, c0, hb, h2, h3, h4, hr, hold, hsc, hsk, rfl, hnd, hseen, hdone⟩ := h
  rcases run_next_at (P := P) w ty r b since c0 seen es clock hr hb hold hsc with ⟨h0, hrun⟩ | ⟨x, hx, w1, hal, hrun⟩
  · refine Or.inl ⟨fun s hs => ?_, hrun⟩
    cases hf : f s with
    | none => exact absurd hf hs
    | some a =>
      obtain ⟨x, hx, hxe⟩ := h3 s a hf
      obtain ⟨s', hs', e⟩ := (hseen x hx).1 (all_seen es seen h0 x hx)
      rw [M.inj _ _ (hxe.symm.trans e)]; exact hs'
  · obtain ⟨hxm, hxs⟩ := mem_left hx
    obtain ⟨s, a, e1, e2, hok, hf⟩ := h2 x hxm
    have hr1 : w1.heap[r]? = some (.mapIter (some b) since seen c0) := by rcases hal with rfl | rfl <;> exact hr
    have hb1 : w1.heap[b]? = some (.map es clock) := by rcases hal with rfl | rfl <;> exact hb
    have hset := heap_set (o' := .mapIter (some b) since (seen.push x.born) clock) hr1
    have hb' : (setBlock w1 r (.mapIter (some b) since (seen.push x.born) clock)).heap[b]? = some (.map es clock) := (hset.2 b (fun e1 => hne e1.symm)).trans hb1
    have hnot : s ∉ done := fun hs => by
      have := (hseen x hxm).2 ⟨s, hs, e1⟩
      rw [hxs] at this; cases this
    rw [e1, e2] at hrun
    have hent := run_entry_at (P := P) (setBlock w1 r (.mapIter (some b) since (seen.push x.born) clock)) r b since seen es clock x hset.1 hb' hxm h4.2.1
    rw [e1, e2] at hent
    refine Or.inr ⟨s, a, _, _, hf, hok, hnot, hrun, ⟨es, clock, since, seen.push x.born, clock, hb', h2, h3, h4, hset.1, hold, hsk, hsk, rfl, ?_, ?_, ?_⟩, left_shrinks es seen x hx, ?_, ?_, hent⟩
    · rw [List.nodup_append]
      exact ⟨hnd, by simp, fun y hy z hz e => hnot (by simp at hz; rw [← hz, ← e]; exact hy)⟩
    · intro y hy
      rw [contains_push]
      constructor
      · intro hc
        simp only [Bool.or_eq_true, beq_iff_eq] at hc
        rcases hc with hc | hc
        · obtain ⟨s', hs', e⟩ := (hseen y hy).1 hc
          exact ⟨s', List.mem_append_left _ hs', e⟩
        · obtain rfl := born_inj h4.2.1 hy hxm hc
          exact ⟨s, by simp, e1⟩
      · rintro ⟨s', hs', e⟩
        simp only [Bool.or_eq_true, beq_iff_eq]
        rcases List.mem_append.1 hs' with hs' | hs'
        · exact Or.inl ((hseen y hy).2 ⟨s', hs', e⟩)
        · obtain rfl : s' = s := by simpa using hs'
          refine Or.inr ?_
          obtain rfl := entry_eq_of_key ((stamped_iff es clock).1 h4).2.2 hy hxm (e.trans e1.symm)
          rfl
    · intro s' hs'
      rcases List.mem_append.1 hs' with hs' | hs'
      · exact hdone s' hs'
      · obtain rfl : s' = s := by simpa using hs'
        rw [hf]; simp
    · rcases hal with rfl | rfl <;> exact ⟨rfl, rfl, rfl, by simp [setBlock], fun i _ hi => hset.2 i hi⟩
    · rcases hal with rfl | rfl <;> simp [setBlock]

/-- The keys, in some order: as many as the map is long. -/
theorem FnAt.len {M : MapLaw P k κ α} {w : World} {b : Nat} {f : κ → Option α} (h : FnAt M w b f) (ht : P.underlying t = some (.map k e)) :
    ∃ ks : List κ, ks.Nodup ∧ (∀ s, s ∈ ks ↔ f s ≠ none) ∧ ∀ ty, (Builtin.len_ #[t] ty #[.map (some b)]).run P w = .ok (.int .i64 (ks.length : Nat)) w := by
  obtain ⟨es, clock, hb, h2, h3, h4⟩ := h
  have hex : ∀ l : List MapEntry, (∀ x ∈ l, ∃ s a, x.key = M.enc s ∧ x.val = M.val a ∧ M.ok s ∧ f s = some a) → ∃ ks : List κ, l.map (·.key) = ks.map M.enc ∧ ∀ s ∈ ks, f s ≠ none := by
    intro l
    induction l with
    | nil => exact fun _ => ⟨[], rfl, fun s hs => by cases hs⟩
    | cons x r ih =>
      intro hl
      obtain ⟨ks, e1, e2⟩ := ih fun y hy => hl y (List.mem_cons_of_mem _ hy)
      obtain ⟨s, a, q1, _, _, q2⟩ := hl x (List.mem_cons_self ..)
      refine ⟨s :: ks, by simp [e1, q1], fun s' hs' => ?_⟩
      rcases List.mem_cons.1 hs' with rfl | hs'
      · rw [q2]; simp
      · exact e2 s' hs'
  obtain ⟨ks, e1, e2⟩ := hex es.toList h2
  have hlen : ks.length = es.size := by
    have := congrArg List.length e1
    simpa using this.symm
  refine ⟨ks, ?_, fun s => ⟨e2 s, fun hs => ?_⟩, fun ty => ?_⟩
  · have h5 := h4.2.2
    rw [e1] at h5
    exact List.Pairwise.imp (fun {a b} hab => fun (e : a = b) => hab (by rw [e])) (List.pairwise_map.1 h5)
  · cases hf : f s with
    | none => exact absurd hf hs
    | some a =>
      obtain ⟨x, hx, hxe⟩ := h3 s a hf
      have : x.key ∈ ks.map M.enc := e1 ▸ List.mem_map.2 ⟨x, hx, rfl⟩
      obtain ⟨s', hs', e⟩ := List.mem_map.1 this
      rw [M.inj _ _ (hxe.symm.trans e.symm)]; exact hs'
  · rw [hlen]
    simp [Builtin.len_, run_underlying ht, MapKept.run_getObj_map hb, goInt, Result.andThen]

/-- What a copy has. -/
theorem FnAt.copy {M : MapLaw P k κ α} {w : World} {b : Nat} {f : κ → Option α} (h : FnAt M w b f) : ∃ es clock, w.heap[b]? = some (.map es clock) ∧ FnAt M (w.alloc (.map es clock)) w.heap.size f := by
  obtain ⟨es, clock, hb, h2, h3, h4⟩ := h
  exact ⟨es, clock, hb, es, clock, heap_new_at w _ _ rfl, h2, h3, h4⟩

end Go.Proofs.YtjfefphgikncnaaGreatDoor
namespace Go.Proofs.YtjfefphgikncnaaGreatDoor
open Go.Shelf Go.RowKit
def lays190_ren : Go.Shelf.Ren := ⟨fun | 190 => 164 | 125 => 108 | 258 => 188 | 128 => 147 | 129 => 148 | 302 => 200 | 303 => 201 | 304 => 202 | 305 => 203 | 306 => 204 | 307 => 205 | 308 => 206 | 309 => 207 | 310 => 208 | 333 => 213 | 329 => 177 | 330 => 178 | 334 => 214 | 335 => 215 | 336 => 216 | 344 => 218 | n => n, fun | 31 => 28 | 9 => 9 | 3 => 3 | 46 => 163 | 0 => 0 | 51 => 167 | 53 => 196 | 4 => 4 | 183 => 188 | 182 => 187 | 131 => 131 | 5 => 5 | 218 => 219 | 222 => 223 | 228 => 236 | 229 => 237 | n => n, fun | n => n⟩
theorem lays190 : Go.Proofs.Lays.n190 Tryz.prog lays190_ren := {
  mixed := by kernel_rfl
  f125 := Tryz.func108.trans (congrArg some (by kernel_rfl))
  f128 := Tryz.func147.trans (congrArg some (by kernel_rfl))
  f129 := Tryz.func148.trans (congrArg some (by kernel_rfl))
  f190 := Tryz.func164.trans (congrArg some (by kernel_rfl))
  f258 := Tryz.func188.trans (congrArg some (by kernel_rfl))
  f302 := Tryz.func200.trans (congrArg some (by kernel_rfl))
  f303 := Tryz.func201.trans (congrArg some (by kernel_rfl))
  f304 := Tryz.func202.trans (congrArg some (by kernel_rfl))
  f305 := Tryz.func203.trans (congrArg some (by kernel_rfl))
  f306 := Tryz.func204.trans (congrArg some (by kernel_rfl))
  f307 := Tryz.func205.trans (congrArg some (by kernel_rfl))
  f308 := Tryz.func206.trans (congrArg some (by kernel_rfl))
  f309 := Tryz.func207.trans (congrArg some (by kernel_rfl))
  f310 := Tryz.func208.trans (congrArg some (by kernel_rfl))
  f329 := Tryz.func177.trans (congrArg some (by kernel_rfl))
  f330 := Tryz.func178.trans (congrArg some (by kernel_rfl))
  f333 := Tryz.func213.trans (congrArg some (by kernel_rfl))
  f334 := Tryz.func214.trans (congrArg some (by kernel_rfl))
  f335 := Tryz.func215.trans (congrArg some (by kernel_rfl))
  f336 := Tryz.func216.trans (congrArg some (by kernel_rfl))
  f344 := Tryz.func218.trans (congrArg some (by kernel_rfl))
  t0 := Tryz.underlying0
  a0 := Tryz.isAgg0
  z0 := Tryz.sizeOf0
  v0 := Tryz.zeroValue0
  t3 := Tryz.underlying3
  a3 := Tryz.isAgg3
  z3 := Tryz.sizeOf3
  v3 := Tryz.zeroValue3
  t4 := Tryz.underlying4
  a4 := Tryz.isAgg4
  z4 := Tryz.sizeOf4
  v4 := Tryz.zeroValue4
  t5 := Tryz.underlying5
  a5 := Tryz.isAgg5
  z5 := Tryz.sizeOf5
  v5 := Tryz.zeroValue5
  t9 := Tryz.underlying9
  a9 := Tryz.isAgg9
  z9 := Tryz.sizeOf9
  v9 := Tryz.zeroValue9
  t31 := Tryz.underlying28
  a31 := Tryz.isAgg28
  z31 := Tryz.sizeOf28
  v31 := Tryz.zeroValue28
  t46 := Tryz.underlying163
  a46 := Tryz.isAgg163
  z46 := Tryz.sizeOf163
  v46 := Tryz.zeroValue163
  t51 := Tryz.underlying167
  a51 := Tryz.isAgg167
  z51 := Tryz.sizeOf167
  v51 := Tryz.zeroValue167
  t53 := Tryz.underlying196
  a53 := Tryz.isAgg196
  z53 := Tryz.sizeOf196
  v53 := Tryz.zeroValue196
  t131 := Tryz.underlying131
  a131 := Tryz.isAgg131
  z131 := Tryz.sizeOf131
  v131 := Tryz.zeroValue131
  t182 := Tryz.underlying187
  a182 := Tryz.isAgg187
  z182 := Tryz.sizeOf187
  v182 := Tryz.zeroValue187
  t183 := Tryz.underlying188
  a183 := Tryz.isAgg188
  z183 := Tryz.sizeOf188
  v183 := Tryz.zeroValue188
  t218 := Tryz.underlying219
  a218 := Tryz.isAgg219
  z218 := Tryz.sizeOf219
  v218 := Tryz.zeroValue219
  t222 := Tryz.underlying223
  a222 := Tryz.isAgg223
  z222 := Tryz.sizeOf223
  v222 := Tryz.zeroValue223
  t228 := Tryz.underlying236
  a228 := Tryz.isAgg236
  z228 := Tryz.sizeOf236
  v228 := Tryz.zeroValue236
  t229 := Tryz.underlying237
  a229 := Tryz.isAgg237
  z229 := Tryz.sizeOf237
  v229 := Tryz.zeroValue237 }
open Go.Sort Go.RowKit in
theorem shelf_slices_Sort_string (blk off cap : Nat) (ss : List (List UInt8)) (w : World) (hH : Holds encStr w blk off ss.toArray) (hblk : blk < w.heap.size) (hsz : ss.length < 4611686018427387904) :
    Calls Tryz.prog 164 #[.slice (some ⟨blk, off, none⟩) ss.length cap] w fun e w' =>
      e = .returned (.tuple #[]) ∧ ∃ n os, w' = grow (putRow encStr (Sort.ahead w n) blk off (ss.mergeSort fun x y => decide (x ≤ y)).toArray) os := Any.slices_Sort_string lays190 blk off cap ss w hH hblk hsz
open Go.RowKit Go.Sort in
/-- .. and plain. (LAID: no walk: one application.) -/
theorem shelf_slices_Sort_string_none (p : Option Addr) (cap : Nat) (w : World) :
    Calls Tryz.prog 164 #[.slice p 0 cap] w fun e w' => e = .returned (.tuple #[]) ∧ w' = w := Any.slices_Sort_string_none lays190 p cap w
end Go.Proofs.YtjfefphgikncnaaGreatDoor
