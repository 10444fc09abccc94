/- TriParts, StoreMath, StorePlain, MapFn, MapRange, SortShelf, StoreShelf, StoreBase, RowList, PowMath -/
import Derived.Test.YtaficmboooaknaaGreatDoorPk10
import Derived.Test.YtaficmboooaknaaGreatDoorPk02
import Derived.Deep.RegionHeld3
import Derived.Test.YtaficmboooaknaaGreatDoorPk01
import Derived.Test.YtaficmboooaknaaGreatDoorPk03
import Derived.Maps.OwnSet
import Derived.Maps.RangeRun
import Derived.Maps.Range
import Derived.Shelf.Strconv.Itoa0
import Derived.Shelf.LaysM
import Derived.Shelf.Strconv.Clone
import Derived.Shelf.Sort.Plain
import Derived.Shelf.Slices.In.SortNone
import Derived.Test.YtaficmboooaknaaGreatDoorChecked
import Derived.Shelf.SlIter.Sorted
import Derived.Shelf.SlMaps.Clone
import Derived.Test.YtaficmboooaknaaGreatDoorPk04
import Derived.Maps.AppendAt
import Derived.WalkSpells
import Derived.WalkLawsBesides
import Derived.Lib.Strings
namespace Go.Proofs.YtaficmboooaknaaGreatDoor
open Go.RowKit
open Sto (T)
open Tri (Tr Ok upd ix hb lay splitT)

def noK : Ks := fun _ => nilp
theorem RowP.new {w : World} {k : Nat} {p x s : T} {K : Ks} {C : Array Value} (h : C = (pcl k p x K s).toArray) : RowP (w.alloc (.cells C 87)) w.heap.size k p x K s := by
  subst h; exact heap_new_at w _ _ rfl
/-- A new part, as it may stand in a tree. -/
theorem PAt.new {w' : World} {F : Fm} {g : Nat} {t : Tr} {K : Ks} (hn : ¬ t.isNil) (hB : F false g) (hr : RowP w' g t.kind t.pth t.vl K []) (hk : ∀ i, PAt w' F false (t.kid i) (K i)) : PAt w' F false t (ptr g) :=
  (PAt.iff hn).2 ⟨g, false, K, rfl, (fun h => by cases h), hB, hr, hk⟩
/-- Any new block may be of a tree. -/
def Fm.fresh (F : Fm) (w : World) : Prop := ∀ g, w.heap.size ≤ g → F false g
theorem Fm.fresh.size {F : Fm} {w w' : World} (h : F.fresh w) (hs : w.heap.size ≤ w'.heap.size) : F.fresh w' := fun g hg => h g (Nat.le_trans hs hg)
theorem Fm.fresh.off {F : Fm} {w : World} (h : F.fresh w) {q : Nat} (hq : q < w.heap.size) : (F.off q).fresh w := fun g hg => ⟨h g hg, by omega⟩
/-- What a call answers: a tree, its new parts without sums. -/
def MadeT (w : World) (F : Fm) (t : Tr) (e : Ending) (w' : World) : Prop := ∃ v, e = .returned v ∧ PAt w' F false t v ∧ Below w.heap.size w w'

set_option maxRecDepth 100000 in
theorem leaf_any (p x : T) (w : World) (F : Fm) (hB : F.fresh w) :
    Calls Tryz.prog 136 #[.string ⟨p.toArray⟩, .string ⟨x.toArray⟩] w (MadeT w F (.leaf p x)) := by
  unfold MadeT
  go_enter Tryz.func136, Tryz.ntmps136
  go_wp2
  go_ret
  refine ⟨_, rfl, PAt.new (K := noK) id (hB _ (Nat.le_refl _)) (RowP.new rfl) (fun i => rfl), (Below.refl _ w).alloc (Nat.le_refl _) _⟩

set_option maxRecDepth 100000 in
theorem half_any (i : Fin 16) (w : World) :
    Calls Tryz.prog 155 #[.int .i64 i.val] w fun e w' => e = .returned (.string ⟨[hb i].toArray⟩) ∧ Below w.heap.size w w' := by
  have hi := i.isLt
  have e1 : (i.val : Int) % 256 = (i.val : Int) := by omega
  have hc := conv_one' w (hb i) (i.val : Int) (by rw [Tri.hb_toNat]) w.heap.size rfl
  have h0 : (0 : Int) ≤ (i.val : Int) := by omega
  have h1 : (i.val : Int) ≤ 255 := by omega
  go_enter Tryz.func155, Tryz.ntmps155
  go_wp2
  go_ret
  exact ⟨rfl, (Below.refl _ w).alloc (Nat.le_refl _) _⟩
/-- The place of a kid. -/
def placeT (k : Nat) (e : T) (i : Fin 16) : T := if k = 3 then e ++ [hb i] else e
set_option maxRecDepth 100000 in
theorem place_any (k : Nat) (e : T) (i : Fin 16) (w : World) (he : e.length ≤ 1000) (hk : k ≤ 3) :
    Calls Tryz.prog 124 #[.int .i64 k, .string ⟨e.toArray⟩, .int .i64 i.val] w fun r w' => r = .returned (.string ⟨(placeT k e i).toArray⟩) ∧ Below w.heap.size w w' := by
  unfold placeT
  by_cases h : k = 3
  · subst h
    rw [if_pos rfl]
    have HH := Lib.hid (fun w => half_any i w)
    have hcm := cat_mk e [hb i]
    go_enter Tryz.func124, Tryz.ntmps124
    go_wp2_with fail
    refine (HH.out _).mono ?_
    rintro r w1 ⟨rfl, hb1⟩
    go_wp2
    go_ret
    exact ⟨rfl, hb1⟩
  · rw [if_neg h]
    have h1 : ¬ ((k : Int) = 3) := by omega
    have h2 : ((k : Int) == 3) = false := by rw [beq_eq_false_iff_ne]; exact h1
    go_enter Tryz.func124, Tryz.ntmps124
    go_wp2
    go_ret
    exact ⟨rfl, Below.refl _ _⟩
theorem pcl_load (k : Nat) (p x s : T) (K : Ks) : (Tryz.prog.info? 87).map (·.size) = some (pcl k p x K s).toArray.size := by
  rw [List.size_toArray, pcl_length]; kernel_rfl
theorem pcl_one (k : Nat) (p x s : T) (K : Ks) (hK : ∀ i, (K i).oneCell' = true) : (pcl k p x K s).toArray.all (·.oneCell') = true := by
  rw [← Array.all_toList, List.all_eq_true]
  intro v hv
  simp only [pcl, List.mem_cons, List.mem_append, List.mem_ofFn, List.not_mem_nil, or_false] at hv
  rcases hv with rfl | rfl | rfl | ⟨i, rfl⟩ | rfl
  · rfl
  · rfl
  · rfl
  · exact hK i
  · rfl
set_option maxRecDepth 100000 in
set_option maxHeartbeats 1000000 in
theorem open_any {g k : Nat} {p x s : T} {K : Ks} (w : World) (h : RowP w g k p x K s) (hK : ∀ i, (K i).oneCell' = true) :
    Calls Tryz.prog 137 #[ptr g] w fun r w' => r = .returned (ptr w.heap.size) ∧ RowP w' w.heap.size k p x K [] ∧ Below w.heap.size w w' := by
  have hi := pcl_load k p x s K
  have ho := pcl_one k p x s K hK
  have hset := pcl_set k p x K s []
  have hl : (pcl k p x K s).toArray.size = 20 := by rw [List.size_toArray, pcl_length]
  have hc : (pcl k p x K s).toArray[19]? = some (.string ⟨s.toArray⟩) := by
    have h1 : RowP w g k p x K s := h
    have h2 := h1.sum
    rw [cell_of_row w g 19 _ _ _ h] at h2
    exact h2
  unfold RowP at h ⊢
  unfold ptr
  generalize (pcl k p x K []).toArray = D at hset ⊢
  generalize (pcl k p x K s).toArray = C at h hi ho hset hl hc
  have hat : (w.alloc (.cells C 87)).heap[w.heap.size]? = some (.cells C 87 (0, 0)) := heap_alloc_new w _
  have hcell : (w.alloc (.cells C 87)).cell? ⟨w.heap.size, 19, none⟩ = some (.string ⟨s.toArray⟩) := by rw [cell_of_row _ _ 19 _ _ _ hat]; exact hc
  have hfr : (w.alloc (.cells C 87)).frozen? ⟨w.heap.size, 19, none⟩ = false := frozen_of_row _ _ _ _ _ hat
  have HR := Lib.hid h
  have HI := Lib.hid hi
  have HO := Lib.hid ho
  have HL := Lib.hid hl
  have HS := Lib.hid hset
  clear h hi ho hset hl hc hat
  go_enter Tryz.func137, Tryz.ntmps137
  go_wp2_with (first | (refine wpList_load_row (by rfl) _ _ (by rfl) g (by rfl) _ C _ _ HR.out Tryz.underlying87 (by rfl) HI.out ?_) | (refine wpList_store_fresh (by rfl) _ _ _ (by rfl) w.heap.size rfl C (by rfl) (by rfl) _ _ HI.out HL.out.symm HO.out ?_))
  go_ret
  exact ⟨rfl, by rw [HS.out]; exact heap_alloc_new w _, (Below.refl _ w).alloc (Nat.le_refl _) _⟩
theorem PAt.cellK {w : World} {F : Fm} {s : Bool} {t : Tr} {v : Value} (h : PAt w F s t v) : v = nilp ∨ ∃ g, v = ptr g := by
  by_cases hn : t.isNil
  · rw [Tri.isNil_eq hn] at h; exact Or.inl h
  · obtain ⟨g, _, _, e, _⟩ := h.row hn; exact Or.inr ⟨g, e⟩
theorem PAt.oneCell {w : World} {F : Fm} {s : Bool} {t : Tr} {v : Value} (h : PAt w F s t v) : v.oneCell' = true := by
  rcases h.cellK with rfl | ⟨g, rfl⟩ <;> rfl
def oneK (a : Value) : Ks := fun i => if i = 0 then a else nilp
theorem pcl_path (k : Nat) (p p' x : T) (K : Ks) (s : T) : (pcl k p x K s).toArray.setIfInBounds 1 (.string ⟨p'.toArray⟩) = (pcl k p' x K s).toArray := by
  rw [List.setIfInBounds_toArray]; rfl
theorem RowP.setPath {w : World} {g k : Nat} {p x s : T} {K : Ks} (h : RowP w g k p x K s) (p' : T) : RowP (w.setCell ⟨g, 1, none⟩ (.string ⟨p'.toArray⟩)) g k p' x K s := by
  have := heap_setCell_same _ _ 1 _ _ (.string ⟨p'.toArray⟩) h
  rw [pcl_path] at this
  exact this
theorem RowP.free {w : World} {g k : Nat} {p x s : T} {K : Ks} (h : RowP w g k p x K s) (i : Nat) : w.frozen? ⟨g, i, none⟩ = false := frozen_of_row _ _ _ _ _ h
theorem PAt.past {w w' : World} {F : Fm} {b : Nat} {s : Bool} {t : Tr} {v : Value} (h : PAt w F s t v) (hb : Below b w w') (hs : w.heap.size ≤ b) : PAt w' F s t v := h.below (hb.mono hs)
theorem lay_parts (p : T) {t : Tr} (hn : ¬ t.isNil) (h3 : t.kind ≠ 3) : (lay p t).kind = t.kind ∧ (lay p t).pth = p ++ t.pth ∧ (lay p t).vl = t.vl ∧ ∀ i, (lay p t).kid i = t.kid i := by
  cases t with
  | nil => exact absurd trivial hn
  | leaf q x => exact ⟨rfl, rfl, rfl, fun _ => rfl⟩
  | ext q u => exact ⟨rfl, rfl, rfl, fun _ => rfl⟩
  | br x k => exact absurd rfl h3
set_option maxRecDepth 100000 in
set_option maxHeartbeats 1000000 in
/-- A path laid above a tree. -/
theorem behind_any {t : Tr} {v : Value} (p : T) (w : World) (F : Fm) (hB : F.fresh w) (h : PAt w F false t v) (hp : p = [] ∨ ¬ t.isNil) (hpl : p.length ≤ 1000) (hql : t.pth.length ≤ 1000) :
    Calls Tryz.prog 140 #[v, .string ⟨p.toArray⟩] w (MadeT w F (lay p t)) := by
  unfold MadeT
  by_cases hp0 : p = []
  · subst hp0
    rw [Tri.lay_nil]
    have HP := Lib.hid h
    clear h hp
    go_enter Tryz.func140, Tryz.ntmps140
    go_wp2
    go_ret
    exact ⟨v, rfl, HP.out, Below.refl _ _⟩
  · have hn := hp.resolve_left hp0
    obtain ⟨g, s', K, rfl, -, h2, hr, hk⟩ := h.row hn
    have hpe : (p == []) = false := by rw [beq_eq_false_iff_ne]; exact hp0
    have HP := Lib.hid h
    have n0 := hr.kind
    by_cases h3 : t.kind = 3
    · have e3 : ((t.kind : Int) == 3) = true := by rw [h3]; rfl
      rw [h3] at n0
      have HL : Hid (lay p t = .ext p t) := Lib.hid (by
        cases t with
        | br x k => simp [lay, Tri.above, hp0]
        | _ => cases h3)
      unfold ptr
      clear h hp hr hk
      go_enter Tryz.func140, Tryz.ntmps140
      go_wp2
      go_ret
      rw [HL.out]
      refine ⟨_, rfl, ?_, (Below.refl _ w).alloc (Nat.le_refl _) _⟩
      refine PAt.new (K := oneK (ptr g)) id (hB _ (Nat.le_refl _)) (RowP.new rfl) fun i => ?_
      simp only [Tri.Tr.kid, oneK]
      split
      · exact HP.out.below ((Below.refl _ w).alloc (Nat.le_refl _) _)
      · rfl
    · have e3 : ((t.kind : Int) == 3) = false := by rw [beq_eq_false_iff_ne]; omega
      have HO := Lib.hid (open_any w hr (fun i => (hk i).oneCell))
      have n1 := hr.path
      have HL := Lib.hid (lay_parts p hn h3)
      have HKK := Lib.hid hk
      have HN := Lib.hid (Tri.lay_nn (p := p) hn)
      have HR := Lib.hid hr
      unfold ptr at HO ⊢
      obtain ⟨q, hq⟩ : ∃ q, t.pth = q := ⟨_, rfl⟩
      rw [hq] at n1 hql
      have HQ := Lib.hid hq
      have hcm := cat_mk p q
      obtain ⟨kd, hkd⟩ : ∃ kd, t.kind = kd := ⟨_, rfl⟩
      rw [hkd] at n0 e3
      have HKD := Lib.hid hkd
      clear h hp hr hk hq h2 hkd h3
      go_enter Tryz.func140, Tryz.ntmps140
      go_wp2_with fail
      refine HO.out.mono ?_
      rintro r w1 ⟨rfl, hr1, hb1⟩
      have m1 := hr1.path
      have m2 := hr1.free 1
      have m3 := HR.out.below hb1
      have m4 := m3.path
      rw [HQ.out] at m1 m4
      go_wp2
      go_ret
      obtain ⟨l1, l2, l3, l4⟩ := HL.out
      have hb2 := hb1.setCell (p := ⟨w.heap.size, 1, none⟩) (Nat.le_refl _) (.string ⟨(p ++ q).toArray⟩)
      refine ⟨_, rfl, PAt.new (K := K) HN.out (hB _ (Nat.le_refl _)) ?_ (fun i => ?_), hb2⟩
      · rw [l1, l2, l3, HQ.out]
        exact hr1.setPath _
      · rw [l4]
        exact ((HKK.out i).weak).below hb2
end Go.Proofs.YtaficmboooaknaaGreatDoor
namespace Go.Proofs.YtaficmboooaknaaGreatDoor.Sto
def On (m : List Bool) (j : Nat) : Prop := m[j]? = some true
instance (m : List Bool) (j : Nat) : Decidable (On m j) := inferInstanceAs (Decidable (m[j]? = some true))
def mark (m : List Bool) (ks : List Nat) : List Bool := ks.foldl (fun m k => m.set k true) m
def pass1 (K : Nat → List Nat) (m : List Bool) (i : Nat) : List Bool := if On m i then mark m (K i) else m
def pass (K : Nat → List Nat) (l : List Nat) (m : List Bool) : List Bool := l.foldl (pass1 K) m
def rounds (K : Nat → List Nat) (l : List Nat) : Nat → List Bool → List Bool
  | 0, m => m
  | t + 1, m => rounds K l t (pass K l m)
theorem On.lt {m : List Bool} {j : Nat} (h : On m j) : j < m.length := by
  unfold On at h
  exact (List.getElem?_eq_some_iff.1 h).1
def Le (m m' : List Bool) : Prop := m.length = m'.length ∧ ∀ j, On m j → On m' j
theorem Le.refl (m : List Bool) : Le m m := ⟨rfl, fun _ h => h⟩
theorem Le.trans {a b c : List Bool} (h : Le a b) (g : Le b c) : Le a c := ⟨h.1.trans g.1, fun j x => g.2 j (h.2 j x)⟩
end Go.Proofs.YtaficmboooaknaaGreatDoor.Sto
namespace Go.Proofs.YtaficmboooaknaaGreatDoor.Sto
/-! ### what is reached -/
/-- The sums that a text names, if it is a node. -/
def kidsT (t : T) : List T := Nd.kidsL (Nd.dec t).1.kids
inductive Reach (S : St) (l : List T) : T → Prop
  | here {x} : x ∈ l → x ∈ keys S → Reach S l x
  | step {x t k} : Reach S l x → look S x = some t → k ∈ kidsT t → k ∈ keys S → Reach S l k
theorem Reach.key {S : St} {l : List T} {x : T} (h : Reach S l x) : x ∈ keys S := by
  cases h <;> assumption
def pick (S : St) (m : List Bool) : List T := ((S.zip m).filter (·.2)).map (·.1.1)
/-- What has been reached so far (V), what is still to be looked at (O). -/
structure Work (S : St) (l V O : List T) : Prop where
  nd : V.Nodup
  sub : ∀ x ∈ V, Reach S l x
  opn : ∀ x ∈ O, x ∈ keys S → Reach S l x
  start : ∀ x ∈ l, x ∈ keys S → x ∈ V ∨ x ∈ O
  kids : ∀ x ∈ V, ∀ t, look S x = some t → ∀ k ∈ kidsT t, k ∈ keys S → k ∈ V ∨ k ∈ O
theorem Work.begin (S : St) (l : List T) : Work S l [] l :=
  ⟨List.nodup_nil, fun x h => (by cases h), fun x h hk => .here h hk, fun x h _ => Or.inr h, fun x h => (by cases h)⟩
theorem Work.skip {S : St} {l V O : List T} {x : T} (h : Work S l V (O ++ [x])) (hx : x ∈ V ∨ x ∉ keys S) : Work S l V O := by
  refine ⟨h.nd, h.sub, fun y hy => h.opn y (List.mem_append_left _ hy), fun y hy hk => ?_, fun y hy t ht k hk hkk => ?_⟩
  · rcases h.start y hy hk with h1 | h1
    · exact Or.inl h1
    · rcases List.mem_append.1 h1 with h1 | h1
      · exact Or.inr h1
      · obtain rfl : y = x := by simpa using h1
        exact Or.inl (hx.resolve_right (fun q => q hk))
  · rcases h.kids y hy t ht k hk hkk with h1 | h1
    · exact Or.inl h1
    · rcases List.mem_append.1 h1 with h1 | h1
      · exact Or.inr h1
      · obtain rfl : k = x := by simpa using h1
        exact Or.inl (hx.resolve_right (fun q => q hkk))
theorem Work.take {S : St} {l V O : List T} {x t : T} (h : Work S l V (O ++ [x])) (hx : x ∉ V) (ht : look S x = some t) : Work S l (V ++ [x]) (O ++ kidsT t) := by
  have hkx : x ∈ keys S := (look_isSome S x).1 (by rw [ht]; rfl)
  have hr : Reach S l x := h.opn x (by simp) hkx
  refine ⟨?_, ?_, ?_, ?_, ?_⟩
  · rw [List.nodup_append]
    exact ⟨h.nd, by simp, fun a ha b hb e => hx (by obtain rfl : b = x := (by simpa using hb); rw [← e]; exact ha)⟩
  · intro y hy
    rcases List.mem_append.1 hy with hy | hy
    · exact h.sub y hy
    · obtain rfl : y = x := by simpa using hy
      exact hr
  · intro y hy hk
    rcases List.mem_append.1 hy with hy | hy
    · exact h.opn y (List.mem_append_left _ hy) hk
    · exact .step hr ht hy hk
  · intro y hy hk
    rcases h.start y hy hk with h1 | h1
    · exact Or.inl (List.mem_append_left _ h1)
    · rcases List.mem_append.1 h1 with h1 | h1
      · exact Or.inr (List.mem_append_left _ h1)
      · exact Or.inl (List.mem_append_right _ h1)
  · intro y hy u hu k hk hkk
    rcases List.mem_append.1 hy with hy | hy
    · rcases h.kids y hy u hu k hk hkk with h1 | h1
      · exact Or.inl (List.mem_append_left _ h1)
      · rcases List.mem_append.1 h1 with h1 | h1
        · exact Or.inr (List.mem_append_left _ h1)
        · exact Or.inl (List.mem_append_right _ h1)
    · obtain rfl : y = x := by simpa using hy
      rw [ht] at hu
      obtain rfl := Option.some.inj hu
      exact Or.inr (List.mem_append_right _ hk)
theorem Work.done {S : St} {l V : List T} (h : Work S l V []) (x : T) : x ∈ V ↔ Reach S l x := by
  constructor
  · exact h.sub x
  · intro hr
    induction hr with
    | here h1 h2 => exact (h.start _ h1 h2).resolve_right (by simp)
    | step h1 h2 h3 h4 ih => exact (h.kids _ ih _ h2 _ h3 h4).resolve_right (by simp)
theorem le_of_sub {α : Type} [BEq α] [LawfulBEq α] : ∀ {l M : List α}, l.Nodup → (∀ x ∈ l, x ∈ M) → l.length ≤ M.length
  | [], _, _, _ => Nat.zero_le _
  | a :: r, M, hn, hs => by
    obtain ⟨h1, h2⟩ := List.nodup_cons.1 hn
    have ha := hs a (List.mem_cons_self ..)
    have := le_of_sub (M := M.erase a) h2 fun x hx => (List.mem_erase_of_ne (fun e => h1 (by rw [← e]; exact hx))).2 (hs x (List.mem_cons_of_mem _ hx))
    rw [List.length_erase_of_mem ha] at this
    have hpos : 0 < M.length := List.length_pos_of_mem ha
    simp only [List.length_cons]
    omega
theorem Work.len {S : St} {l V O : List T} (h : Work S l V O) : V.length ≤ S.length := by
  have := le_of_sub (M := keys S) h.nd fun x hx => (h.sub x hx).key
  simpa [keys] using this
end Go.Proofs.YtaficmboooaknaaGreatDoor.Sto
namespace Go.Proofs.YtaficmboooaknaaGreatDoor
open Go.RowKit Go.MapKept
open Go.ChangeMaps (setBlock heap_setBlock_same heap_setBlock_other)
open Go.Maps (Keyed)

/-- How keys and elements lie in the map: the key's value and its law, the element's value. -/
structure MapLaw (P : Program) (k : TypeId) (κ α : Type) where
  enc : κ → Value
  val : α → Value
  ok : κ → Prop
  keyed : Keyed P k
  key : ∀ s, ok s → ∃ l, keyOf P k (enc s) = some l
  inj : ∀ a b, enc a = enc b → a = b

variable {P : Program} {k t e : TypeId} {κ α : Type}

/-- f, but o at s. -/
def updF [DecidableEq κ] (f : κ → Option α) (s : κ) (o : Option α) : κ → Option α := fun x => if x = s then o else f x
theorem updF_same [DecidableEq κ] (f : κ → Option α) (s : κ) (o : Option α) : updF f s o s = o := if_pos rfl
theorem updF_other [DecidableEq κ] (f : κ → Option α) (s x : κ) (o : Option α) (h : x ≠ s) : updF f s o x = f x := if_neg h
/-- Block b is a map that has f's elements at f's keys, and no other. -/
def FnAt (M : MapLaw P k κ α) (w : World) (b : Nat) (f : κ → Option α) : Prop :=
  ∃ es clock, w.heap[b]? = some (.map es clock) ∧ (∀ x ∈ es.toList, ∃ s a, x.key = M.enc s ∧ x.val = M.val a ∧ M.ok s ∧ f s = some a) ∧ (∀ s a, f s = some a → ∃ x ∈ es.toList, x.key = M.enc s) ∧ Stamped es clock

theorem FnAt.lt {M : MapLaw P k κ α} {w : World} {b : Nat} {f : κ → Option α} (h : FnAt M w b f) : b < w.heap.size := by
  obtain ⟨_, _, h1, _⟩ := h; exact lt_of_heap h1
theorem FnAt.no_cells {M : MapLaw P k κ α} {w : World} {b : Nat} {f : κ → Option α} (h : FnAt M w b f) (j : Nat) (cs : Array Value) (t : TypeId) (fr : Nat × Nat) (hk : j = b) : w.heap[j]? ≠ some (.cells cs t fr) := by
  subst hk
  obtain ⟨es, c, he, _⟩ := h
  rw [he]; simp
theorem FnAt.made (M : MapLaw P k κ α) (w : World) (b : Nat) (h : b = w.heap.size) : FnAt M (w.alloc (.map #[] 0)) b (fun _ => none) :=
  ⟨#[], 0, heap_new_at w _ _ h, fun x hx => by simp at hx, fun s a h => by simp at h, stamped_empty 0⟩
theorem FnAt.out {M : MapLaw P k κ α} {F : Nat → Prop} {w w' : World} {b : Nat} {f : κ → Option α} (h : FnAt M w b f) (ho : Out F w w') (hF : ¬ F b) : FnAt M w' b f := by
  obtain ⟨es, clock, h1, h2⟩ := h
  exact ⟨es, clock, ho.heap h1 hF, h2⟩
theorem FnAt.below {M : MapLaw P k κ α} {w w' : World} {b : Nat} {f : κ → Option α} (h : FnAt M w b f) (ho : Below w.heap.size w w') : FnAt M w' b f := h.out (F := fun _ => False) (Out.of ho) id
theorem FnAt.drew {M : MapLaw P k κ α} {w : World} {b : Nat} {f : κ → Option α} (h : FnAt M w b f) : FnAt M w.drew b f := h
theorem FnAt.congr {M : MapLaw P k κ α} {w : World} {b : Nat} {f g : κ → Option α} (h : FnAt M w b f) (e : ∀ s, f s = g s) : FnAt M w b g := by
  obtain rfl : f = g := funext e
  exact h

theorem FnAt.keys {M : MapLaw P k κ α} {es : Array MapEntry} {f : κ → Option α} (h2 : ∀ x ∈ es.toList, ∃ s a, x.key = M.enc s ∧ x.val = M.val a ∧ M.ok s ∧ f s = some a) : ∀ x ∈ es.toList, ∃ l, keyOf P k x.key = some l := by
  intro x hx
  obtain ⟨s, a, e1, _, ho, _⟩ := h2 x hx
  rw [e1]; exact M.key s ho

theorem FnAt.look {M : MapLaw P k κ α} {w : World} {b : Nat} {f : κ → Option α} (h : FnAt M w b f) (ht : P.underlying t = some (.map k e)) {s : κ} (hs : M.ok s) (c : Bool) {z : Value} (hz : (zeroValue e).run P w = .ok z w) :
    (Instr.lookup t (.map (some b)) (M.enc s) c).run P w = .ok (if c then .tuple #[((f s).map M.val).getD z, .bool (f s).isSome] else ((f s).map M.val).getD z) w := by
  obtain ⟨es, clock, hb, h2, h3, h4⟩ := h
  obtain ⟨kl, hkey⟩ := M.key s hs
  rcases M.keyed.find w hkey es.toList (FnAt.keys h2) with ⟨h5, h6⟩ | ⟨j, e0, h5, h6, h7⟩
  · have hn : f s = none := by
      cases hf : f s with
      | none => rfl
      | some a =>
        obtain ⟨x, hx, hxe⟩ := h3 s a hf
        exact absurd hxe (h6 x hx)
    rw [hn]
    simp [Instr.lookup, run_underlying ht, MapKept.run_getObj_map hb, M.keyed.check w _ hkey, h5, hz, Result.andThen]
  · obtain ⟨s', a, e1, e2, ho, hf⟩ := h2 e0 (List.mem_of_getElem? h6)
    obtain rfl : s' = s := M.inj _ _ (e1.symm.trans h7)
    rw [hf]
    simp [Instr.lookup, run_underlying ht, MapKept.run_getObj_map hb, M.keyed.check w _ hkey, h5, e2, Result.andThen]

theorem FnAt.put [DecidableEq κ] {M : MapLaw P k κ α} {w : World} {b : Nat} {f : κ → Option α} (h : FnAt M w b f) (ht : P.underlying t = some (.map k e)) {s : κ} (hs : M.ok s) (a : α) :
    ∃ w', (Instr.mapUpdate t (.map (some b)) (M.enc s) (M.val a)).run P w = .ok () w' ∧ FnAt M w' b (updF f s (some a)) ∧ Out (fun i => i = b) w w' ∧ w'.heap.size = w.heap.size := by
  obtain ⟨es, clock, hb, h2, h3, h4⟩ := h
  obtain ⟨kl, hkey⟩ := M.key s hs
  rcases M.keyed.find w hkey es.toList (FnAt.keys h2) with ⟨h5, h6⟩ | ⟨j, e0, h5, h6, h7⟩
  · refine ⟨setBlock w b (.map (es.push ⟨M.enc s, M.val a, clock⟩) (clock + 1)), ?_, ⟨_, _, heap_setBlock_same hb _, ?_, ?_, ?_⟩, ⟨rfl, rfl, rfl, by simp [setBlock], fun i _ hi => heap_setBlock_other hb _ hi⟩, by simp [setBlock]⟩
    · simp [Instr.mapUpdate, run_underlying ht, MapKept.run_getObj_map hb, M.keyed.check w false hkey, h5, MapKept.run_setObj_map _ hb, Result.andThen, setBlock]
    · intro x hx
      simp only [Array.toList_push, List.mem_append, List.mem_singleton] at hx
      rcases hx with hx | rfl
      · obtain ⟨s', a', e1, e2, ho, hf⟩ := h2 x hx
        have hne : s' ≠ s := fun e => h6 x hx (by rw [e1, e])
        exact ⟨s', a', e1, e2, ho, by rw [updF_other _ _ _ _ hne]; exact hf⟩
      · exact ⟨s, a, rfl, rfl, hs, updF_same _ _ _⟩
    · intro s' a' hf
      simp only [Array.toList_push, List.mem_append, List.mem_singleton]
      by_cases hne : s' = s
      · exact ⟨_, Or.inr rfl, by rw [hne]⟩
      · rw [updF_other _ _ _ _ hne] at hf
        obtain ⟨x, hx, hxe⟩ := h3 s' a' hf
        exact ⟨x, Or.inl hx, hxe⟩
    · exact stamped_push h4 h6
  · have hjl : j < es.toList.length := (List.getElem?_eq_some_iff.1 h6).1
    have hjs : j < es.size := by simpa using hjl
    have he0 : es.toList[j] = e0 := (List.getElem?_eq_some_iff.1 h6).2
    have hj' : es[j]? = some e0 := by rw [← Array.getElem?_toList]; exact h6
    have hml : (es.modify j fun x => { x with key := M.enc s, val := M.val a }).toList = es.toList.set j { e0 with key := M.enc s, val := M.val a } := by
      apply List.ext_getElem?
      intro i
      rw [Array.getElem?_toList, Array.getElem?_modify, List.getElem?_set]
      by_cases hi : j = i
      · subst hi
        have hb0 : es[j].born = e0.born := by rw [← he0]; simp
        simp [hjs, hb0]
      · simp [hi]
    obtain ⟨s0, a0, q1, q2, q3, q4⟩ := h2 e0 (List.mem_of_getElem? h6)
    obtain rfl : s0 = s := M.inj _ _ (q1.symm.trans h7)
    have hkeys : (es.toList.set j { e0 with key := M.enc s0, val := M.val a }).map (·.key) = es.toList.map (·.key) := by
      rw [List.map_set]
      apply List.ext_getElem?
      intro i
      rw [List.getElem?_set]
      by_cases hi : j = i
      · subst hi
        have hk0 : M.enc s0 = es[j].key := by rw [← h7, ← he0]; simp
        simp [hjs, hk0]
      · simp [hi]
    refine ⟨setBlock w b (.map (es.modify j fun x => { x with key := M.enc s0, val := M.val a }) clock), ?_, ⟨_, _, heap_setBlock_same hb _, ?_, ?_, ?_⟩, ⟨rfl, rfl, rfl, by simp [setBlock], fun i _ hi => heap_setBlock_other hb _ hi⟩, by simp [setBlock]⟩
    · simp [Instr.mapUpdate, run_underlying ht, MapKept.run_getObj_map hb, M.keyed.check w false hkey, h5, hj', h7, M.keyed.stays w hkey, MapKept.run_setObj_map _ hb, Result.andThen, setBlock]
    · rw [hml]
      intro x hx
      rcases List.mem_or_eq_of_mem_set hx with hx' | rfl
      · obtain ⟨s', a', e1, e2, ho, hf⟩ := h2 x hx'
        by_cases hne : s' = s0
        · subst hne
          obtain ⟨i, hi, rfl⟩ := List.mem_iff_getElem.1 hx
          have hil : i < es.toList.length := by simpa using hi
          have hkk := congrArg (fun l => l[i]?) hkeys
          simp only [List.getElem?_map] at hkk
          rw [List.getElem?_eq_getElem hi, List.getElem?_eq_getElem hil] at hkk
          have hkk' : (es.toList[i]).key = M.enc s' := by simpa [e1] using hkk.symm
          have hij : i = j := by
            have hn := List.pairwise_iff_getElem.1 h4.2.2
            have lm : (es.toList.map (·.key)).length = es.toList.length := by simp
            rcases Nat.lt_trichotomy i j with hlt | rfl | hlt
            · have := hn i j (by omega) (by omega) hlt
              rw [List.getElem_map, List.getElem_map, hkk', he0, h7] at this
              exact absurd rfl this
            · rfl
            · have := hn j i (by omega) (by omega) hlt
              rw [List.getElem_map, List.getElem_map, hkk', he0, h7] at this
              exact absurd rfl this
          subst hij
          refine ⟨s', a, e1, ?_, ho, updF_same _ _ _⟩
          simp
        · exact ⟨s', a', e1, e2, ho, by rw [updF_other _ _ _ _ hne]; exact hf⟩
      · exact ⟨s0, a, rfl, rfl, hs, updF_same _ _ _⟩
    · rw [hml]
      intro s' a' hf
      by_cases hne : s' = s0
      · subst hne
        exact ⟨_, List.mem_iff_getElem.2 ⟨j, by simpa using hjs, List.getElem_set_self _⟩, rfl⟩
      · rw [updF_other _ _ _ _ hne] at hf
        obtain ⟨x, hx, hxe⟩ := h3 s' a' hf
        obtain ⟨i, hi, rfl⟩ := List.mem_iff_getElem.1 hx
        have hij : j ≠ i := by
          rintro rfl
          rw [he0, h7] at hxe
          exact hne (M.inj _ _ hxe.symm)
        exact ⟨_, List.mem_iff_getElem.2 ⟨i, by simpa using hi, rfl⟩, by rw [List.getElem_set_ne hij]; exact hxe⟩
    · exact stamped_modify h4 j _ (fun e _ => rfl) (fun e _ he => by rw [hj'] at he; cases he; exact h7.symm)

theorem FnAt.drop [DecidableEq κ] {M : MapLaw P k κ α} {w : World} {b : Nat} {f : κ → Option α} (h : FnAt M w b f) (ht : P.underlying t = some (.map k e)) {s : κ} (hs : M.ok s) :
    ∃ w', (∀ ty, (Builtin.delete_ #[t, k] ty #[.map (some b), M.enc s]).run P w = .ok (.tuple #[]) w') ∧ FnAt M w' b (updF f s none) ∧ Out (fun i => i = b) w w' ∧ w'.heap.size = w.heap.size := by
  obtain ⟨es, clock, hb, h2, h3, h4⟩ := h
  obtain ⟨kl, hkey⟩ := M.key s hs
  rcases M.keyed.find w hkey es.toList (FnAt.keys h2) with ⟨h5, h6⟩ | ⟨j, e0, h5, h6, h7⟩
  · refine ⟨setBlock w b (.map es clock), ?_, ⟨_, _, heap_setBlock_same hb _, ?_, ?_, h4⟩, ⟨rfl, rfl, rfl, by simp [setBlock], fun i _ hi => heap_setBlock_other hb _ hi⟩, by simp [setBlock]⟩
    · intro ty
      simp [Builtin.delete_, run_underlying ht, MapKept.run_getObj_map hb, M.keyed.check w _ hkey, h5, MapKept.run_setObj_map _ hb, Result.andThen, setBlock]
    · intro x hx
      obtain ⟨s', a', e1, e2, ho, hf⟩ := h2 x hx
      have hne : s' ≠ s := fun e => h6 x hx (by rw [e1, e])
      exact ⟨s', a', e1, e2, ho, by rw [updF_other _ _ _ _ hne]; exact hf⟩
    · intro s' a' hf
      by_cases hne : s' = s
      · rw [hne, updF_same] at hf; cases hf
      · rw [updF_other _ _ _ _ hne] at hf; exact h3 s' a' hf
  · have hjl : j < es.toList.length := (List.getElem?_eq_some_iff.1 h6).1
    have hjs : j < es.size := by simpa using hjl
    have he0 : es.toList[j] = e0 := (List.getElem?_eq_some_iff.1 h6).2
    have hsub : (es.eraseIdxIfInBounds j).toList = es.toList.eraseIdx j := by
      unfold Array.eraseIdxIfInBounds
      rw [dif_pos hjs]
      simp
    have hn := List.pairwise_iff_getElem.1 h4.2.2
    have lm : (es.toList.map (·.key)).length = es.toList.length := by simp
    have hother : ∀ i (hi : i < es.toList.length), i ≠ j → (es.toList[i]).key ≠ M.enc s := by
      intro i hi hij e
      rcases Nat.lt_or_gt_of_ne hij with hlt | hlt
      · have := hn i j (by omega) (by omega) hlt
        rw [List.getElem_map, List.getElem_map, e, he0, h7] at this
        exact this rfl
      · have := hn j i (by omega) (by omega) hlt
        rw [List.getElem_map, List.getElem_map, e, he0, h7] at this
        exact this rfl
    refine ⟨setBlock w b (.map (es.eraseIdxIfInBounds j) clock), ?_, ⟨_, _, heap_setBlock_same hb _, ?_, ?_, ?_⟩, ⟨rfl, rfl, rfl, by simp [setBlock], fun i _ hi => heap_setBlock_other hb _ hi⟩, by simp [setBlock]⟩
    · intro ty
      simp [Builtin.delete_, run_underlying ht, MapKept.run_getObj_map hb, M.keyed.check w _ hkey, h5, MapKept.run_setObj_map _ hb, Result.andThen, setBlock]
    · rw [hsub]
      intro x hx
      obtain ⟨i, hij, hi⟩ := List.mem_eraseIdx_iff_getElem?.1 hx
      obtain ⟨hil, hie⟩ := List.getElem?_eq_some_iff.1 hi
      obtain ⟨s', a', e1, e2, ho, hf⟩ := h2 x (List.mem_of_getElem? hi)
      have hne : s' ≠ s := fun e => hother i hil hij (by rw [hie, e1, e])
      exact ⟨s', a', e1, e2, ho, by rw [updF_other _ _ _ _ hne]; exact hf⟩
    · rw [hsub]
      intro s' a' hf
      by_cases hne : s' = s
      · rw [hne, updF_same] at hf; cases hf
      · rw [updF_other _ _ _ _ hne] at hf
        obtain ⟨x, hx, hxe⟩ := h3 s' a' hf
        obtain ⟨i, hi, rfl⟩ := List.mem_iff_getElem.1 hx
        have hij : i ≠ j := by
          rintro rfl
          rw [he0, h7] at hxe
          exact hne (M.inj _ _ hxe.symm)
        exact ⟨_, List.mem_eraseIdx_iff_getElem?.2 ⟨i, hij, List.getElem?_eq_getElem hi⟩, hxe⟩
    · exact stamped_erase h4 j

end Go.Proofs.YtaficmboooaknaaGreatDoor
namespace Go.Proofs.YtaficmboooaknaaGreatDoor
open Go.RowKit Go.MapKept
open Go.ChangeMaps (setBlock heap_setBlock_same heap_setBlock_other)
open Go.Maps (Keyed)
variable {P : Program} {k t e : TypeId} {κ α : Type}

/-- The map in block b is ranged over by the iterator in block r; the keys in 'done' have come; cnt are still to come. -/
def FnRange (M : MapLaw P k κ α) (w : World) (b r : Nat) (f : κ → Option α) (done : List κ) (cnt : Nat) : Prop :=
  ∃ es clock since seen c0, w.heap[b]? = some (.map es clock) ∧ (∀ x ∈ es.toList, ∃ s a, x.key = M.enc s ∧ x.val = M.val a ∧ M.ok s ∧ f s = some a) ∧ (∀ s a, f s = some a → ∃ x ∈ es.toList, x.key = M.enc s) ∧ Stamped es clock ∧
    w.heap[r]? = some (.mapIter (some b) since seen c0) ∧ (∀ x ∈ es.toList, x.born < since) ∧ since ≤ c0 ∧ since ≤ clock ∧ (leftOf es seen).size = cnt ∧ done.Nodup ∧ (∀ x ∈ es.toList, seen.contains x.born = true ↔ ∃ s ∈ done, x.key = M.enc s) ∧ ∀ s ∈ done, f s ≠ none

theorem FnRange.map {M : MapLaw P k κ α} {w : World} {b r : Nat} {f : κ → Option α} {done : List κ} {cnt : Nat} (h : FnRange M w b r f done cnt) : FnAt M w b f := by
  obtain ⟨es, clock, _, _, _, hb, h2, h3, h4, _⟩ := h
  exact ⟨es, clock, hb, h2, h3, h4⟩
theorem FnRange.lt {M : MapLaw P k κ α} {w : World} {b r : Nat} {f : κ → Option α} {done : List κ} {cnt : Nat} (h : FnRange M w b r f done cnt) : r < w.heap.size := by
  obtain ⟨es, clock, since, seen, c0, hb, _, _, _, hr, _⟩ := h
  exact lt_of_heap hr
theorem FnRange.ne {M : MapLaw P k κ α} {w : World} {b r : Nat} {f : κ → Option α} {done : List κ} {cnt : Nat} (h : FnRange M w b r f done cnt) : r ≠ b := by
  obtain ⟨es, clock, since, seen, c0, hb, _, _, _, hr, _⟩ := h
  rintro rfl
  rw [hb] at hr; cases hr
theorem FnRange.no_cells {M : MapLaw P k κ α} {w : World} {b r : Nat} {f : κ → Option α} {done : List κ} {cnt : Nat} (h : FnRange M w b r f done cnt) (j : Nat) (cs : Array Value) (t : TypeId) (fr : Nat × Nat) (hk : j = r) : w.heap[j]? ≠ some (.cells cs t fr) := by
  subst hk
  obtain ⟨es, clock, since, seen, c0, hb, _, _, _, hr, _⟩ := h
  rw [hr]; simp
theorem FnRange.out {M : MapLaw P k κ α} {F : Nat → Prop} {w w' : World} {b r : Nat} {f : κ → Option α} {done : List κ} {cnt : Nat} (h : FnRange M w b r f done cnt) (ho : Out F w w') (hb : ¬ F b) (hr : ¬ F r) : FnRange M w' b r f done cnt := by
  obtain ⟨es, clock, since, seen, c0, h1, h2, h3, h4, h5, h6⟩ := h
  exact ⟨es, clock, since, seen, c0, ho.heap h1 hb, h2, h3, h4, ho.heap h5 hr, h6⟩
theorem FnRange.below {M : MapLaw P k κ α} {w w' : World} {b r : Nat} {f : κ → Option α} {done : List κ} {cnt : Nat} (h : FnRange M w b r f done cnt) (ho : Below w.heap.size w w') : FnRange M w' b r f done cnt := h.out (F := fun _ => False) (Out.of ho) id id

theorem FnAt.range {M : MapLaw P k κ α} {w : World} {b : Nat} {f : κ → Option α} (h : FnAt M w b f) (ht : P.underlying t = some (.map k e)) :
    ∃ w' cnt, (Instr.range t (.map (some b))).run P w = .ok (.pointer (some ⟨w.heap.size, 0, none⟩)) w' ∧ FnRange M w' b w.heap.size f [] cnt ∧ Below w.heap.size w w' ∧ w'.heap.size = w.heap.size + 1 := by
  obtain ⟨es, clock, hb, h2, h3, h4⟩ := h
  refine ⟨_, _, run_range_map w t k e b es clock ht hb, ⟨es, clock, clock, #[], clock, heap_old_at _ hb, h2, h3, h4, heap_new_at w _ _ rfl, h4.1, Nat.le_refl _, Nat.le_refl _, rfl, List.nodup_nil, fun x _ => by simp, fun s hs => by cases hs⟩, (Below.refl _ w).alloc (Nat.le_refl _) _, by simp⟩

theorem FnRange.next {M : MapLaw P k κ α} {w : World} {b r : Nat} {f : κ → Option α} {done : List κ} {cnt : Nat} (h : FnRange M w b r f done cnt) (ty : TypeId) :
    ((∀ s, f s ≠ none → s ∈ done) ∧ (Instr.next (.pointer (some ⟨r, 0, none⟩)) false ty).run P w = .ok (.tuple #[.bool false]) w) ∨
    ∃ s a w' cnt', f s = some a ∧ M.ok s ∧ s ∉ done ∧ (Instr.next (.pointer (some ⟨r, 0, none⟩)) false ty).run P w = .ok (.tuple #[.bool true, M.enc s, M.val a]) w' ∧ FnRange M w' b r f (done ++ [s]) cnt' ∧ cnt' < cnt ∧
      Out (fun i => i = r) w w' ∧ w'.heap.size = w.heap.size ∧ (Instr.entry (.pointer (some ⟨r, 0, none⟩))).run P w' = .ok (.tuple #[M.enc s, M.val a]) w' := by
  have hne := h.ne
  obtain ⟨es, clock, since, seen, c0, hb, h2, h3, h4, hr, hold, hsc, hsk, rfl, hnd, hseen, hdone⟩ := h
  rcases run_next_at (P := P) w ty r b since c0 seen es clock hr hb hold hsc with ⟨h0, hrun⟩ | ⟨x, hx, w1, hal, hrun⟩
  · refine Or.inl ⟨fun s hs => ?_, hrun⟩
    cases hf : f s with
    | none => exact absurd hf hs
    | some a =>
      obtain ⟨x, hx, hxe⟩ := h3 s a hf
      obtain ⟨s', hs', e⟩ := (hseen x hx).1 (all_seen es seen h0 x hx)
      rw [M.inj _ _ (hxe.symm.trans e)]; exact hs'
  · obtain ⟨hxm, hxs⟩ := mem_left hx
    obtain ⟨s, a, e1, e2, hok, hf⟩ := h2 x hxm
    have hr1 : w1.heap[r]? = some (.mapIter (some b) since seen c0) := by rcases hal with rfl | rfl <;> exact hr
    have hb1 : w1.heap[b]? = some (.map es clock) := by rcases hal with rfl | rfl <;> exact hb
    have hset := heap_set (o' := .mapIter (some b) since (seen.push x.born) clock) hr1
    have hb' : (setBlock w1 r (.mapIter (some b) since (seen.push x.born) clock)).heap[b]? = some (.map es clock) := (hset.2 b (fun e1 => hne e1.symm)).trans hb1
    have hnot : s ∉ done := fun hs => by
      have := (hseen x hxm).2 ⟨s, hs, e1⟩
      rw [hxs] at this; cases this
    rw [e1, e2] at hrun
    have hent := run_entry_at (P := P) (setBlock w1 r (.mapIter (some b) since (seen.push x.born) clock)) r b since seen es clock x hset.1 hb' hxm h4.2.1
    rw [e1, e2] at hent
    refine Or.inr ⟨s, a, _, _, hf, hok, hnot, hrun, ⟨es, clock, since, seen.push x.born, clock, hb', h2, h3, h4, hset.1, hold, hsk, hsk, rfl, ?_, ?_, ?_⟩, left_shrinks es seen x hx, ?_, ?_, hent⟩
    · rw [List.nodup_append]
      exact ⟨hnd, by simp, fun y hy z hz e => hnot (by simp at hz; rw [← hz, ← e]; exact hy)⟩
    · intro y hy
      rw [contains_push]
      constructor
      · intro hc
        simp only [Bool.or_eq_true, beq_iff_eq] at hc
        rcases hc with hc | hc
        · obtain ⟨s', hs', e⟩ := (hseen y hy).1 hc
          exact ⟨s', List.mem_append_left _ hs', e⟩
        · obtain rfl := born_inj h4.2.1 hy hxm hc
          exact ⟨s, by simp, e1⟩
      · rintro ⟨s', hs', e⟩
        simp only [Bool.or_eq_true, beq_iff_eq]
        rcases List.mem_append.1 hs' with hs' | hs'
        · exact Or.inl ((hseen y hy).2 ⟨s', hs', e⟩)
        · obtain rfl : s' = s := by simpa using hs'
          refine Or.inr ?_
          obtain rfl := entry_eq_of_key ((stamped_iff es clock).1 h4).2.2 hy hxm (e.trans e1.symm)
          rfl
    · intro s' hs'
      rcases List.mem_append.1 hs' with hs' | hs'
      · exact hdone s' hs'
      · obtain rfl : s' = s := by simpa using hs'
        rw [hf]; simp
    · rcases hal with rfl | rfl <;> exact ⟨rfl, rfl, rfl, by simp [setBlock], fun i _ hi => hset.2 i hi⟩
    · rcases hal with rfl | rfl <;> simp [setBlock]

/-- The keys, in some order: as many as the map is long. -/
theorem FnAt.len {M : MapLaw P k κ α} {w : World} {b : Nat} {f : κ → Option α} (h : FnAt M w b f) (ht : P.underlying t = some (.map k e)) :
    ∃ ks : List κ, ks.Nodup ∧ (∀ s, s ∈ ks ↔ f s ≠ none) ∧ ∀ ty, (Builtin.len_ #[t] ty #[.map (some b)]).run P w = .ok (.int .i64 (ks.length : Nat)) w := by
  obtain ⟨es, clock, hb, h2, h3, h4⟩ := h
  have hex : ∀ l : List MapEntry, (∀ x ∈ l, ∃ s a, x.key = M.enc s ∧ x.val = M.val a ∧ M.ok s ∧ f s = some a) → ∃ ks : List κ, l.map (·.key) = ks.map M.enc ∧ ∀ s ∈ ks, f s ≠ none := by
    intro l
    induction l with
    | nil => exact fun _ => ⟨[], rfl, fun s hs => by cases hs⟩
    | cons x r ih =>
      intro hl
      obtain ⟨ks, e1, e2⟩ := ih fun y hy => hl y (List.mem_cons_of_mem _ hy)
      obtain ⟨s, a, q1, _, _, q2⟩ := hl x (List.mem_cons_self ..)
      refine ⟨s :: ks, by simp [e1, q1], fun s' hs' => ?_⟩
      rcases List.mem_cons.1 hs' with rfl | hs'
      · rw [q2]; simp
      · exact e2 s' hs'
  obtain ⟨ks, e1, e2⟩ := hex es.toList h2
  have hlen : ks.length = es.size := by
    have := congrArg List.length e1
    simpa using this.symm
  refine ⟨ks, ?_, fun s => ⟨e2 s, fun hs => ?_⟩, fun ty => ?_⟩
  · have h5 := h4.2.2
    rw [e1] at h5
    exact List.Pairwise.imp (fun {a b} hab => fun (e : a = b) => hab (by rw [e])) (List.pairwise_map.1 h5)
  · cases hf : f s with
    | none => exact absurd hf hs
    | some a =>
      obtain ⟨x, hx, hxe⟩ := h3 s a hf
      have : x.key ∈ ks.map M.enc := e1 ▸ List.mem_map.2 ⟨x, hx, rfl⟩
      obtain ⟨s', hs', e⟩ := List.mem_map.1 this
      rw [M.inj _ _ (hxe.symm.trans e.symm)]; exact hs'
  · rw [hlen]
    simp [Builtin.len_, run_underlying ht, MapKept.run_getObj_map hb, goInt, Result.andThen]

/-- What a copy has. -/
theorem FnAt.copy {M : MapLaw P k κ α} {w : World} {b : Nat} {f : κ → Option α} (h : FnAt M w b f) : ∃ es clock, w.heap[b]? = some (.map es clock) ∧ FnAt M (w.alloc (.map es clock)) w.heap.size f := by
  obtain ⟨es, clock, hb, h2, h3, h4⟩ := h
  exact ⟨es, clock, hb, es, clock, heap_new_at w _ _ rfl, h2, h3, h4⟩

end Go.Proofs.YtaficmboooaknaaGreatDoor
namespace Go.Proofs.YtaficmboooaknaaGreatDoor
open Go.Shelf Go.RowKit
end Go.Proofs.YtaficmboooaknaaGreatDoor
namespace Go.Proofs.YtaficmboooaknaaGreatDoor
open Go.Shelf Go.RowKit Go.Maps Go.Sort
open Go.Proofs (encStr)
end Go.Proofs.YtaficmboooaknaaGreatDoor
namespace Go.Proofs.YtaficmboooaknaaGreatDoor
open Go.RowKit Go.Maps Go.WideShapes
open Go.WideElems (Fit rd rg rd_mk rg_of)
open Go.Proofs.YtaficmboooaknaaGreatDoor.Sto (St)
open Go.Proofs (encStr)

def storeMap : MapLaw Tryz.prog 9 (List UInt8) (List UInt8) := ⟨fun s => .string ⟨s.toArray⟩, fun t => .agg #[.string ⟨t.toArray⟩], fun s => s.length ≤ 140737488351232, lawS, keyS, fun _ _ h => str_inj h⟩
/-- The store in block g, its map in block m, has the texts S. -/
structure StoreAt (w : World) (g m : Nat) (S : St) : Prop where
  head : w.heap[g]? = some (.cells #[.map (some m)] 181 (0, 0))
  map : FnAt storeMap w m (Sto.look S)
  rise : Sto.Rising S
  short : ∀ p ∈ S, p.1.length ≤ 32 ∧ p.2.length ≤ 1000
theorem StoreAt.cell {w : World} {g m : Nat} {S : St} (h : StoreAt w g m S) : w.cell? ⟨g, 0, none⟩ = some (.map (some m)) := cell_of_row _ _ _ _ _ _ h.head
theorem StoreAt.out {F : Nat → Prop} {w w' : World} {g m : Nat} {S : St} (h : StoreAt w g m S) (ho : Out F w w') (hg : ¬ F g) (hm : ¬ F m) : StoreAt w' g m S := ⟨ho.heap h.head hg, h.map.out ho hm, h.rise, h.short⟩
theorem StoreAt.below {w w' : World} {g m : Nat} {S : St} (h : StoreAt w g m S) (hb : Below w.heap.size w w') : StoreAt w' g m S := h.out (F := fun _ => False) (Out.of hb) id id
theorem StoreAt.ne {w : World} {g m g' m' : Nat} {S T : St} (h : StoreAt w g m S) (k : StoreAt w g' m' T) : g ≠ m' := by
  rintro rfl
  exact k.map.no_cells _ _ _ _ rfl h.head
/-- A map of strings, in the kit's word: what its keys are, in whatever order. -/
theorem FnAt.owns {α : Type} (M : MapLaw Tryz.prog 9 (List UInt8) α) (hM : ∀ s, M.enc s = .string ⟨s.toArray⟩) {w : World} {b : Nat} {f : List UInt8 → Option α} (h : FnAt M w b f) (L : List (List UInt8)) (hL : ∀ x, f x ≠ none → x ∈ L) (hl : L.length ≤ 1000000) :
    ∃ D : DataW Unit, w.ownsMap Tryz.prog 9 (fun _ => some (.lit (.bool true), [])) b 1000000 D ∧ Maps.size D ≤ 1000000 ∧ ∀ ss : List (List UInt8), ss.Perm (strKeys D) → ss.Nodup ∧ ∀ x, x ∈ ss ↔ f x ≠ none := by
  obtain ⟨es, clock, hb, h2, h3, h4⟩ := h
  have hex : ∀ l : List MapEntry, (∀ x ∈ l, ∃ s a, x.key = M.enc s ∧ x.val = M.val a ∧ M.ok s ∧ f s = some a) → ∃ ks : List (List UInt8), l.map (·.key) = ks.map M.enc ∧ (∀ s ∈ ks, f s ≠ none) ∧ (l.map (rg (H := Unit) Tryz.prog 9 (fun _ => some (.lit (.bool true), [])))).map (fun p => strOf p.1) = ks ∧ ∀ x ∈ l, ∃ y, rd (H := Unit) Tryz.prog 9 (fun _ => some (.lit (.bool true), [])) x = some y := by
    intro l
    induction l with
    | nil => exact fun _ => ⟨[], rfl, fun s hs => (by cases hs), rfl, fun x hx => (by cases hx)⟩
    | cons x r ih =>
      intro hl
      obtain ⟨ks, e1, e2, e3, e4⟩ := ih fun y hy => hl y (List.mem_cons_of_mem _ hy)
      obtain ⟨s, a, q1, _, q3, q2⟩ := hl x (List.mem_cons_self ..)
      obtain ⟨kl, hk⟩ := M.key s q3
      have hk' := hk
      rw [hM s] at hk'
      obtain ⟨y, ey, rfl, _⟩ := Maps.keyOf_str Tryz.underlying9 hk'
      obtain rfl : s = y := str_inj ey
      have hr : rd (H := Unit) Tryz.prog 9 (fun _ => some (.lit (.bool true), [])) x = some (.string s, .lit (.bool true)) := by
        obtain ⟨xk, xv, xb⟩ := x
        dsimp only at q1
        subst q1
        exact rd_mk (R := fun _ => some (DataW.lit (.bool true), [])) (yv := (DataW.lit (.bool true), [])) hk rfl
      refine ⟨s :: ks, by simp [e1, q1], fun s' hs' => ?_, ?_, fun z hz => ?_⟩
      · rcases List.mem_cons.1 hs' with rfl | hs'
        · rw [q2]; simp
        · exact e2 s' hs'
      · rw [List.map_cons, List.map_cons, e3, rg_of hr]
        rfl
      · rcases List.mem_cons.1 hz with rfl | hz
        · exact ⟨_, hr⟩
        · exact e4 z hz
  obtain ⟨ks, e1, e2, e3, e4⟩ := hex es.toList h2
  have hlen : ks.length = es.size := by
    have := congrArg List.length e1
    simpa using this.symm
  have hnd : ks.Nodup := by
    have h5 := h4.2.2
    rw [e1] at h5
    exact List.Pairwise.imp (fun {a b} hab => fun (e : a = b) => hab (by rw [e])) (List.pairwise_map.1 h5)
  have hall : ∀ s, s ∈ ks ↔ f s ≠ none := fun s => ⟨e2 s, fun hs => by
    cases hf : f s with
    | none => exact absurd hf hs
    | some a =>
      obtain ⟨x, hx, hxe⟩ := h3 s a hf
      have : x.key ∈ ks.map M.enc := e1 ▸ List.mem_map.2 ⟨x, hx, rfl⟩
      obtain ⟨s', hs', e⟩ := List.mem_map.1 this
      rw [M.inj _ _ (hxe.symm.trans e.symm)]; exact hs'⟩
  have hsz : es.size ≤ 1000000 := by
    have := Sto.le_of_sub (M := L) hnd fun x hx => hL x ((hall x).1 hx)
    omega
  refine ⟨_, ⟨es, clock, hb, ⟨by unfold maxLen; omega, h4, e4⟩, hsz, rfl⟩, ?_, fun ss hp => ?_⟩
  · simp only [Maps.size, length_sorted]
    simpa using hsz
  · have hp2 : ss.Perm ks := by
      refine hp.trans ?_
      rw [← e3]
      exact (sorted_perm _).map _
    exact ⟨hp2.nodup_iff.2 hnd, fun x => by rw [hp2.mem_iff, hall]⟩
end Go.Proofs.YtaficmboooaknaaGreatDoor
namespace Go.Proofs.YtaficmboooaknaaGreatDoor
open Go.RowKit

theorem wpList_append_run {P : Program} {w w' : World} {ops : Array Oper} {rest : List Oper} {o : Oper} {a : Act} {Q : Exit → Act → World → Prop} (hg : o.guard = none) (s x : Operand) (t : TypeId) (hop : o.op = Op.call { callee := Callee.builtin Builtin.append, args := #[s, x], argTypes := #[t, t] })
    (sv xv r : Value) (hs : a.eval s = sv) (hx : a.eval x = xv) (hrun : (Builtin.append_ #[t, t] o.type #[sv, xv]).run P w = .ok r w') (hK : wpList P ops Q rest (a.put o.dst r) w') :
    wpList P ops Q (o :: rest) a w := by
  refine wpList_plain hg fun K' hK' => ?_
  unfold Oper.wp
  simp [execOp, hop, resolve, invoke, builtin, hs, hx, hrun, Result.andThen]
  exact hK' _ _ hK

def rowsL {α : Type} (f : α → List Value) (L : List α) : List Value := L.flatMap f
theorem rowsL_length {α : Type} {f : α → List Value} {c : Nat} (hf : ∀ a, (f a).length = c) (L : List α) : (rowsL f L).length = L.length * c := by
  induction L with
  | nil => simp [rowsL]
  | cons a L ih =>
    have e : rowsL f (a :: L) = f a ++ rowsL f L := by simp [rowsL]
    rw [e, List.length_append, ih, hf, List.length_cons, Nat.succ_mul, Nat.add_comm]
theorem rowsL_append {α : Type} (f : α → List Value) (S T : List α) : rowsL f (S ++ T) = rowsL f S ++ rowsL f T := by simp [rowsL]
theorem rowsL_at {α : Type} {f : α → List Value} {c : Nat} (hf : ∀ a, (f a).length = c) (S : List α) (i j : Nat) (hi : i < S.length) (hj : j < c) : (rowsL f S)[i * c + j]? = (f S[i])[j]? := by
  induction S generalizing i with
  | nil => simp at hi
  | cons a L ih =>
    have e : rowsL f (a :: L) = f a ++ rowsL f L := by simp [rowsL]
    rw [e]
    cases i with
    | zero =>
      rw [List.getElem?_append_left (by rw [hf]; omega)]
      simp
    | succ i =>
      rw [List.getElem?_append_right (by rw [hf, Nat.succ_mul]; omega)]
      have : (i + 1) * c + j - (f a).length = i * c + j := by rw [hf, Nat.succ_mul]; omega
      rw [this, ih i (by simpa using hi)]
      simp
theorem rowsL_one {α : Type} {f : α → List Value} (h : ∀ a, ∀ u ∈ f a, u.oneCell' = true) (S : List α) : ∀ u ∈ rowsL f S, u.oneCell' = true := by
  intro u hu
  obtain ⟨n, _, hn⟩ := List.mem_flatMap.1 hu
  exact h n u hn
/-- A slice that has the things S. -/
def RowsAt {α : Type} (ty : TypeId) (c : Nat) (f : α → List Value) (w : World) (v : Value) (S : List α) : Prop :=
  ∃ (A : Option Addr) (cap : Nat), v = .slice A S.length cap ∧ S.length ≤ cap ∧ (S = [] → A = none ∧ cap = 0 ∨ ∃ b o, A = some ⟨b, o, none⟩) ∧ (0 < S.length → ∃ b o, A = some ⟨b, o, none⟩ ∧ (∃ cs fl, w.heap[b]? = some (.cells cs ty fl)) ∧ ∀ i (h : i < S.length) j u, (f S[i])[j]? = some u → w.cell? ⟨b, o + i * c + j, none⟩ = some u)
theorem RowsAt.nil {α : Type} (ty : TypeId) (c : Nat) (f : α → List Value) (w : World) : RowsAt ty c f w (.slice none 0 0) [] := ⟨none, 0, rfl, Nat.le_refl _, fun _ => Or.inl ⟨rfl, rfl⟩, fun h => absurd h (by simp)⟩
theorem RowsAt.form {α : Type} {ty : TypeId} {c : Nat} {f : α → List Value} {w : World} {v : Value} {S : List α} (h : RowsAt ty c f w v S) : ∃ A cap, v = .slice A S.length cap ∧ S.length ≤ cap ∧ ((S = [] ∧ A = none ∧ cap = 0) ∨ ∃ b o, A = some ⟨b, o, none⟩) := by
  obtain ⟨A, cap, rfl, hc, h0, h1⟩ := h
  refine ⟨A, cap, rfl, hc, ?_⟩
  by_cases hs : S = []
  · exact (h0 hs).imp (fun h => ⟨hs, h⟩) id
  · obtain ⟨b, o, rfl, _⟩ := h1 (List.length_pos_iff.2 hs)
    exact Or.inr ⟨b, o, rfl⟩
theorem RowsAt.outF {α : Type} {ty : TypeId} {c : Nat} {f : α → List Value} {F : Nat → Prop} {w w' : World} {v : Value} {S : List α} (h : RowsAt ty c f w v S) (ho : Out F w w') (hF : ∀ k cs fl, F k → w.heap[k]? ≠ some (.cells cs ty fl)) : RowsAt ty c f w' v S := by
  obtain ⟨A, cap, rfl, hc, h0, h1⟩ := h
  refine ⟨A, cap, rfl, hc, h0, fun hp => ?_⟩
  obtain ⟨b, o, rfl, ⟨cs, fl, hh⟩, hcell⟩ := h1 hp
  have hb : ¬ F b := fun hf => hF b cs fl hf hh
  exact ⟨b, o, rfl, ⟨cs, fl, ho.heap hh hb⟩, fun i hi j u hu => ho.cell (hcell i hi j u hu) hb⟩
theorem RowsAt.below {α : Type} {ty : TypeId} {c : Nat} {f : α → List Value} {w w' : World} {v : Value} {S : List α} (h : RowsAt ty c f w v S) (hb : Below w.heap.size w w') : RowsAt ty c f w' v S := h.outF (F := fun _ => False) (Out.of hb) fun _ _ _ hf => hf.elim
theorem RowsAt.at {α : Type} {ty : TypeId} {c : Nat} {f : α → List Value} {w : World} {A : Option Addr} {n cap : Nat} {S : List α} (h : RowsAt ty c f w (.slice A n cap) S) (k : Nat) (hk : k < S.length) :
    ∃ b o, A = some ⟨b, o, none⟩ ∧ ∀ j u, (f S[k])[j]? = some u → w.cell? ⟨b, o + k * c + j, none⟩ = some u := by
  obtain ⟨A', cap', hv, _, _, h1⟩ := h
  obtain ⟨rfl, _⟩ : A = A' ∧ _ := by simpa using hv
  obtain ⟨b, o, rfl, _, hcell⟩ := h1 (by omega)
  exact ⟨b, o, rfl, hcell k hk⟩
theorem RowsAt.own {α : Type} {ty : TypeId} {c : Nat} {f : α → List Value} (hf : ∀ a, (f a).length = c) {w : World} {B : Nat} {v : Value} {S : List α} (h : w.ownsRow B ty c v S.length (rowsL f S)) : RowsAt ty c f w v S := by
  rcases h.2 with ⟨rfl, h0⟩ | ⟨g, cap, cur, rfl, hB, hh, hn, _⟩
  · obtain rfl : S = [] := List.eq_nil_of_length_eq_zero h0
    exact RowsAt.nil ty c f w
  · refine ⟨_, cap, rfl, hn, fun _ => Or.inr ⟨_, _, rfl⟩, fun h0 => ⟨g, 0, rfl, ⟨_, _, hh⟩, fun i hi j u hu => ?_⟩⟩
    have hj : j < c := by rw [← hf S[i]]; exact (List.getElem?_eq_some_iff.1 hu).1
    have := h.cells (g := g) rfl (i * c + j) u (by rw [rowsL_at hf S i j hi hj]; exact hu)
    rw [Addr.add_mid] at this; rw [Nat.zero_add]; simpa using this
theorem RowsAt.take {α : Type} {ty : TypeId} {c : Nat} {f : α → List Value} {w : World} {A : Option Addr} {n cap : Nat} {S : List α} (h : RowsAt ty c f w (.slice A n cap) S) (k : Nat) (hk : k ≤ S.length) : RowsAt ty c f w (.slice A k cap) (S.take k) := by
  obtain ⟨A', cap', hv, hcap, h0, h1⟩ := h
  obtain ⟨rfl, rfl, rfl⟩ : A = A' ∧ n = S.length ∧ cap = cap' := by simpa using hv
  have hl : (S.take k).length = k := by simp; omega
  refine ⟨A, cap, by rw [hl], by omega, fun _ => ?_, fun hp => ?_⟩
  · by_cases hs : S = []
    · exact h0 hs
    · obtain ⟨b, o, rfl, _⟩ := h1 (List.length_pos_iff.2 hs)
      exact Or.inr ⟨b, o, rfl⟩
  · obtain ⟨b, o, rfl, hlt, hcell⟩ := h1 (by omega)
    refine ⟨b, o, rfl, hlt, fun i hi j u hu => ?_⟩
    rw [hl] at hi
    exact hcell i (by omega) j u (by simpa using hu)
theorem RowsAt.drop {α : Type} {ty : TypeId} {c : Nat} {f : α → List Value} {w : World} {b o n cap : Nat} {S : List α} (h : RowsAt ty c f w (.slice (some ⟨b, o, none⟩) n cap) S) (k : Nat) (hk : k ≤ S.length) (b' o' : Nat) (hbo : k < S.length → b' = b ∧ o' = o + k * c) : RowsAt ty c f w (.slice (some ⟨b', o', none⟩) (n - k) (cap - k)) (S.drop k) := by
  obtain ⟨A', cap', hv, hcap, h0, h1⟩ := h
  obtain ⟨rfl, rfl, rfl⟩ : some ⟨b, o, none⟩ = A' ∧ n = S.length ∧ cap = cap' := by simpa using hv
  have hl : (S.drop k).length = S.length - k := by simp
  refine ⟨_, _, by rw [hl], by omega, fun _ => Or.inr ⟨_, _, rfl⟩, fun hp => ?_⟩
  rw [hl] at hp
  have hp1 : k < S.length := by omega
  have hp2 : 0 < S.length := by omega
  obtain ⟨rfl, rfl⟩ := hbo hp1
  obtain ⟨b2, o2, he, hlt, hcell⟩ := h1 hp2
  cases he
  refine ⟨_, _, rfl, hlt, fun i hi j u hu => ?_⟩
  have hki : k + i < S.length := by rw [hl] at hi; clear hcell hlt h1 h0; omega
  have := hcell (k + i) hki j u (by simpa using hu)
  rw [Nat.add_mul, ← Nat.add_assoc] at this
  exact this
/-- A slice that has the things S, in a block of any type. -/
def RowsIn {α : Type} (c : Nat) (f : α → List Value) (w : World) (v : Value) (S : List α) : Prop :=
  ∃ (A : Option Addr) (cap : Nat), v = .slice A S.length cap ∧ S.length ≤ cap ∧ (S = [] → A = none ∧ cap = 0 ∨ ∃ b o, A = some ⟨b, o, none⟩) ∧ (0 < S.length → ∃ b o, A = some ⟨b, o, none⟩ ∧ b < w.heap.size ∧ ∀ i (h : i < S.length) j u, (f S[i])[j]? = some u → w.cell? ⟨b, o + i * c + j, none⟩ = some u)
theorem RowsAt.inn {α : Type} {ty : TypeId} {c : Nat} {f : α → List Value} {w : World} {v : Value} {S : List α} (h : RowsAt ty c f w v S) : RowsIn c f w v S := by
  obtain ⟨A, cap, rfl, hc, h0, h1⟩ := h
  refine ⟨A, cap, rfl, hc, h0, fun hp => ?_⟩
  obtain ⟨b, o, rfl, ⟨cs, fl, hh⟩, hcell⟩ := h1 hp
  exact ⟨b, o, rfl, lt_of_heap hh, hcell⟩
theorem RowsIn.form {α : Type} {c : Nat} {f : α → List Value} {w : World} {v : Value} {S : List α} (h : RowsIn c f w v S) : ∃ A cap, v = .slice A S.length cap ∧ S.length ≤ cap ∧ ((S = [] ∧ A = none ∧ cap = 0) ∨ ∃ b o, A = some ⟨b, o, none⟩) := by
  obtain ⟨A, cap, rfl, hc, h0, h1⟩ := h
  refine ⟨A, cap, rfl, hc, ?_⟩
  by_cases hs : S = []
  · exact (h0 hs).imp (fun h => ⟨hs, h⟩) id
  · obtain ⟨b, o, rfl, _⟩ := h1 (List.length_pos_iff.2 hs)
    exact Or.inr ⟨b, o, rfl⟩
theorem RowsIn.below {α : Type} {c : Nat} {f : α → List Value} {w w' : World} {v : Value} {S : List α} (h : RowsIn c f w v S) (hb : Below w.heap.size w w') : RowsIn c f w' v S := by
  obtain ⟨A, cap, rfl, hc, h0, h1⟩ := h
  refine ⟨A, cap, rfl, hc, h0, fun hp => ?_⟩
  obtain ⟨b, o, rfl, hlt, hcell⟩ := h1 hp
  exact ⟨b, o, rfl, Nat.lt_of_lt_of_le hlt hb.size, fun i hi j u hu => (hb.cell hlt).trans (hcell i hi j u hu)⟩
theorem RowsIn.at {α : Type} {c : Nat} {f : α → List Value} {w : World} {A : Option Addr} {n cap : Nat} {S : List α} (h : RowsIn c f w (.slice A n cap) S) (k : Nat) (hk : k < S.length) :
    ∃ b o, A = some ⟨b, o, none⟩ ∧ ∀ j u, (f S[k])[j]? = some u → w.cell? ⟨b, o + k * c + j, none⟩ = some u := by
  obtain ⟨A', cap', hv, _, _, h1⟩ := h
  obtain ⟨rfl, _⟩ : A = A' ∧ _ := by simpa using hv
  obtain ⟨b, o, rfl, _, hcell⟩ := h1 (by omega)
  exact ⟨b, o, rfl, hcell k hk⟩
theorem run_append_nothing_rows {c : Nat} (sty ty : TypeId) (hu : Tryz.prog.underlying sty = some (.slice ty)) (hsz : ∀ w, (sizeOf ty).run Tryz.prog w = .ok c w) (w : World) (v : Value) (n k B : Nat) (xs : List Value) (h : w.ownsRow B ty c v n xs) (tt : TypeId) : (Builtin.append_ #[sty, sty] tt #[v, .slice none 0 k]).run Tryz.prog w = .ok v w := by
  rcases h.2 with ⟨rfl, rfl⟩ | ⟨g, cap, cur, rfl, hB, hh, hn, _⟩
  · simp [Builtin.append_, run_underlying hu, hsz, Builtin.lenOf, Builtin.firstCells, Result.andThen]
  · simp [Builtin.append_, run_underlying hu, hsz, Builtin.lenOf, Builtin.firstCells, Result.andThen, hn, storeCells]
/-- All of a slice behind a row of the call's own. -/
theorem append_rowsIn {α : Type} {f : α → List Value} {c : Nat} {w : World} {v s : Value} {S : List α} {B n : Nat} {xs : List Value} (sty ty : TypeId) (i0 : TypeInfo) (z : Value) (by_ : Nat)
    (hu : Tryz.prog.underlying sty = some (.slice ty)) (hsz : ∀ w, (sizeOf ty).run Tryz.prog w = .ok c w)
    (hi : Tryz.prog.info? ty = some i0) (hz0 : i0.zero = some z) (hz1 : i0.size = c) (hz2 : i0.bytes = by_) (hz : z.cells.size = c) (hc0 : 0 < c) (hby : by_ ≤ 1000)
    (hf : ∀ a, (f a).length = c) (h1 : ∀ a, ∀ u ∈ f a, u.oneCell' = true)
    (hv : RowsIn c f w v S) (hs : w.ownsRow B ty c s n xs) (hl : n + S.length ≤ 1000000) (hB : B ≤ w.heap.size) :
    ∃ v' w', (Builtin.append_ #[sty, sty] sty #[s, v]).run Tryz.prog w = .ok v' w' ∧ w'.ownsRow B ty c v' (n + S.length) (xs ++ rowsL f S) ∧ w.grownBy w' s.ownBlock ∧ (v'.ownBlock = s.ownBlock ∨ v'.ownBlock = some w.heap.size) := by
  obtain ⟨A, cap, rfl, -, -, hc⟩ := hv
  cases A with
  | none =>
    have h0 : S.length = 0 := by
      by_cases h : S.length = 0
      · exact h
      · obtain ⟨b, o, ha, _⟩ := hc (by omega)
        cases ha
    obtain rfl : S = [] := List.eq_nil_of_length_eq_zero h0
    exact ⟨s, w, run_append_nothing_rows sty ty hu hsz w s n cap B xs hs _, by simpa [rowsL] using hs, ⟨rfl, rfl, rfl, Nat.le_refl _, fun _ _ _ => rfl⟩, Or.inl rfl⟩
  | some a =>
    have hbytes : (n + S.length) * by_ ≤ 140737488355328 := Nat.le_trans (Nat.mul_le_mul hl hby) (by omega)
    obtain ⟨v', w', h1, h2, h3, _, h5⟩ := run_append_own_at (P := Tryz.prog) w B sty sty ty i0 z c by_ hu hi hz0 hz1 hz2 hz hc0 s n xs hs a S.length cap (rowsL f S) (rowsL_length hf S)
      (fun j u hu => by
        have hj : j < S.length * c := by
          have := (List.getElem?_eq_some_iff.1 hu).1
          rwa [rowsL_length hf] at this
        have hS : 0 < S.length := Nat.pos_of_ne_zero fun e => by rw [e, Nat.zero_mul] at hj; omega
        obtain ⟨b, o, hb, _, hcell⟩ := hc hS
        cases hb
        have hi' : j / c < S.length := (Nat.div_lt_iff_lt_mul hc0).2 hj
        have hr : j % c < c := Nat.mod_lt _ hc0
        have hjj : j / c * c + j % c = j := by rw [Nat.mul_comm]; exact Nat.div_add_mod j c
        have e := rowsL_at hf S (j / c) (j % c) hi' hr
        rw [hjj, hu] at e
        have := hcell (j / c) hi' (j % c) u e.symm
        rw [Addr.add_mid]
        rw [Nat.add_assoc, hjj] at this
        exact this) (rowsL_one h1 S) (by unfold maxLen; omega) hbytes hB
    exact ⟨v', w', h1, h2, h3, h5⟩
theorem append_rows {α : Type} {f : α → List Value} {c : Nat} {w : World} {v s : Value} {S : List α} {B n : Nat} {xs : List Value} (sty ty : TypeId) (i0 : TypeInfo) (z : Value) (by_ : Nat)
    (hu : Tryz.prog.underlying sty = some (.slice ty)) (hsz : ∀ w, (sizeOf ty).run Tryz.prog w = .ok c w)
    (hi : Tryz.prog.info? ty = some i0) (hz0 : i0.zero = some z) (hz1 : i0.size = c) (hz2 : i0.bytes = by_) (hz : z.cells.size = c) (hc0 : 0 < c) (hby : by_ ≤ 1000)
    (hf : ∀ a, (f a).length = c) (h1 : ∀ a, ∀ u ∈ f a, u.oneCell' = true)
    (hv : RowsAt ty c f w v S) (hs : w.ownsRow B ty c s n xs) (hl : n + S.length ≤ 1000000) (hB : B ≤ w.heap.size) :
    ∃ v' w', (Builtin.append_ #[sty, sty] sty #[s, v]).run Tryz.prog w = .ok v' w' ∧ w'.ownsRow B ty c v' (n + S.length) (xs ++ rowsL f S) ∧ w.grownBy w' s.ownBlock ∧ (v'.ownBlock = s.ownBlock ∨ v'.ownBlock = some w.heap.size) :=
  append_rowsIn sty ty i0 z by_ hu hsz hi hz0 hz1 hz2 hz hc0 hby hf h1 hv.inn hs hl hB
end Go.Proofs.YtaficmboooaknaaGreatDoor
namespace Go.Proofs.YtaficmboooaknaaGreatDoor.Pw

abbrev S := List UInt8
structure M where
  name : S
  power : Int
instance : Inhabited M := ⟨⟨[], 0⟩⟩
theorem M.ext' {a b : M} (h : a.name = b.name) (k : a.power = b.power) : a = b := by cases a; cases b; simp_all
instance : DecidableEq M := fun a b =>
  if h : a.name = b.name ∧ a.power = b.power then isTrue (M.ext' h.1 h.2) else isFalse (fun e => h (by subst e; exact ⟨rfl, rfl⟩))

def okM (p : S) (m : M) : Bool := decide (p < m.name) && decide (m.name.length ≤ 6) && decide (1 ≤ m.power) && decide (m.power ≤ 1000)
def okFrom : S → List M → Bool
  | _, [] => true
  | p, m :: t => okM p m && okFrom m.name t
def okL (L : List M) : Bool := decide (1 ≤ L.length) && decide (L.length ≤ 7) && okFrom [] L
theorem not_lt_nil (s : S) : ¬ s < [] := by cases s <;> simp

def sumP (L : List M) : Int := L.foldr (fun m n => m.power + n) 0
def pick (L : List M) (names : List S) : List M := L.filter fun m => decide (m.name ∈ names)
def ofL (L : List M) (names : List S) : Nat := if okL L then (sumP (pick L names)).toNat else 0
theorem snocInd {α : Type} {p : List α → Prop} (h0 : p []) (h1 : ∀ l d, p l → p (l ++ [d])) (l : List α) : p l := by
  have h : ∀ r : List α, p r.reverse := by
    intro r
    induction r with
    | nil => exact h0
    | cons d r ih => rw [List.reverse_cons]; exact h1 _ _ ih
  have := h l.reverse
  rwa [List.reverse_reverse] at this
end Go.Proofs.YtaficmboooaknaaGreatDoor.Pw
