/- Rise, TriList, ScanMath, NibMath, NibBase, Only, MapBase, CodeMath, ArgStrs, OwnStr -/
import GoSem.Op.String
import Derived.Test.YtkdecmijnojhoaaDoorChecked
import Derived.WalkKit
import Derived.WalkSmall
import Derived.ShutString
import Derived.Laws.IdiomStrings
import Derived.Laws.BytesArg
import Derived.Lib.Hide
import Derived.Lib.Strings
import Derived.Maps.Keyed
import Derived.SizedLaws
import Derived.DeepKeys4
import Derived.Deep.AppendLies
import Derived.Deep.QuietTactic
import Derived.BigQuiet
import Derived.Deep.WholeRow
import Derived.Deep.MidRow
import Derived.Laws.CopyOwn
import Derived.Deep.RegionHeld3
import Derived.Deep.DrawnRows
import Derived.Deep.Cut
import Derived.Deep.CutRange
import Derived.SliceStrings
import Derived.OpenShut
namespace Go.Proofs.YtkdecmijnojhoaaDoor.Sto
abbrev T := List UInt8
abbrev St := List (T × T)
def Rising (S : St) : Prop := S.Pairwise fun a b => a.1 < b.1
def look : St → T → Option T
  | [], _ => none
  | a :: r, x => if x = a.1 then some a.2 else look r x
def put : St → T → T → St
  | [], k, t => [(k, t)]
  | a :: r, k, t => if k = a.1 then a :: r else if k < a.1 then (k, t) :: a :: r else a :: put r k t
def keys (S : St) : List T := S.map (·.1)

theorem tri (x y : T) : x < y ∨ x = y ∨ y < x := by
  by_cases h : x < y
  · exact Or.inl h
  · rcases List.le_iff_lt_or_eq.1 (List.not_lt.1 h) with h | h
    · exact Or.inr (Or.inr h)
    · exact Or.inr (Or.inl h.symm)
theorem lt_ne {x y : T} (h : x < y) : x ≠ y := fun e => by subst e; exact List.lt_irrefl _ h
theorem look_isSome (S : St) (x : T) : (look S x).isSome = true ↔ x ∈ keys S := by
  induction S with
  | nil => simp [look, keys]
  | cons a r ih =>
    rw [look]
    by_cases e : x = a.1
    · rw [if_pos e]; simp [keys, e]
    · rw [if_neg e, ih]
      simp only [keys, List.map_cons, List.mem_cons]
      exact ⟨Or.inr, fun h => h.resolve_left e⟩
theorem look_none (S : St) (x : T) : look S x = none ↔ x ∉ keys S := by
  rw [← look_isSome]; cases look S x <;> simp
theorem look_mem {S : St} (hS : Rising S) (x t : T) : look S x = some t ↔ (x, t) ∈ S := by
  induction S with
  | nil => simp [look]
  | cons a r ih =>
    obtain ⟨h1, h2⟩ := List.pairwise_cons.1 hS
    rw [look]
    by_cases e : x = a.1
    · rw [if_pos e]
      constructor
      · intro h
        simp only [Option.some.injEq] at h
        exact List.mem_cons.2 (Or.inl (Prod.ext e h.symm))
      · intro h
        rcases List.mem_cons.1 h with h | h
        · rw [← h]
        · exact absurd e.symm (lt_ne (h1 _ h))
    · rw [if_neg e, ih h2]
      constructor
      · exact fun h => List.mem_cons_of_mem _ h
      · intro h
        rcases List.mem_cons.1 h with h | h
        · exact absurd (by rw [← h]) e
        · exact h
theorem look_at {S : St} (hS : Rising S) (i : Nat) (hi : i < S.length) : look S S[i].1 = some S[i].2 := (look_mem hS _ _).2 (List.getElem_mem hi)
theorem put_mem {S : St} {k t : T} {p : T × T} (h : p ∈ put S k t) : p ∈ S ∨ p = (k, t) := by
  induction S with
  | nil => simp [put] at h; exact Or.inr h
  | cons a r ih =>
    rw [put] at h
    split at h
    · exact Or.inl h
    · split at h
      · rcases List.mem_cons.1 h with h | h
        · exact Or.inr h
        · exact Or.inl h
      · rcases List.mem_cons.1 h with h | h
        · exact Or.inl (by rw [h]; exact List.mem_cons_self ..)
        · exact (ih h).imp (List.mem_cons_of_mem _) id
theorem put_rising {S : St} (hS : Rising S) (k t : T) : Rising (put S k t) := by
  induction S with
  | nil => simp [put, Rising]
  | cons a r ih =>
    obtain ⟨h1, h2⟩ := List.pairwise_cons.1 hS
    rw [put]
    split
    · exact hS
    · rename_i e
      split
      · rename_i l
        refine List.pairwise_cons.2 ⟨fun b hb => ?_, hS⟩
        rcases List.mem_cons.1 hb with rfl | hb
        · exact l
        · exact List.lt_trans l (h1 b hb)
      · rename_i l
        refine List.pairwise_cons.2 ⟨fun b hb => ?_, ih h2⟩
        rcases put_mem hb with hb | rfl
        · exact h1 b hb
        · exact ((tri k a.1).resolve_left l).resolve_left e
theorem look_put {S : St} (hS : Rising S) (k t x : T) : look (put S k t) x = if x = k then some ((look S k).getD t) else look S x := by
  induction S with
  | nil => simp only [put, look, Option.getD]
  | cons a r ih =>
    obtain ⟨h1, h2⟩ := List.pairwise_cons.1 hS
    rw [put]
    by_cases e : k = a.1
    · rw [if_pos e]
      by_cases ex : x = k
      · rw [if_pos ex, ex]
        simp only [look]
        rw [if_pos e]
        rfl
      · rw [if_neg ex]
    · rw [if_neg e]
      by_cases l : k < a.1
      · rw [if_pos l]
        have hn : look (a :: r) k = none := (look_none _ _).2 fun h => by
          obtain ⟨b, hb, e1⟩ := List.mem_map.1 h
          rcases List.mem_cons.1 hb with rfl | hb
          · exact e e1.symm
          · exact lt_ne (List.lt_trans l (h1 b hb)) e1.symm
        rw [hn]
        simp only [look, Option.getD]
      · rw [if_neg l]
        simp only [look]
        by_cases ex : x = a.1
        · have : x ≠ k := fun q => e (q.symm.trans ex)
          rw [if_pos ex, if_neg this, if_pos ex]
        · rw [if_neg ex, ih h2, if_neg e, if_neg ex]
theorem put_len (S : St) (k t : T) : (put S k t).length ≤ S.length + 1 := by
  induction S with
  | nil => simp [put]
  | cons a r ih =>
    rw [put]
    split
    · simp
    · split
      · simp
      · simp only [List.length_cons]; omega
end Go.Proofs.YtkdecmijnojhoaaDoor.Sto
namespace Go.Proofs.YtkdecmijnojhoaaDoor
theorem less_lt : ∀ (x y : List UInt8), Op.bytesLess x y = decide (x < y)
  | [], [] => by simp [Op.bytesLess]
  | _ :: _, [] => by simp [Op.bytesLess]
  | [], _ :: _ => by simp [Op.bytesLess]
  | a :: x, b :: y => by
    rw [Op.bytesLess, less_lt x y, Bool.eq_iff_iff]
    simp only [Bool.or_eq_true, Bool.and_eq_true, decide_eq_true_eq, beq_iff_eq, List.cons_lt_cons_iff]
end Go.Proofs.YtkdecmijnojhoaaDoor
namespace Go.Proofs.YtkdecmijnojhoaaDoor.Tri
open Sto (T St Rising keys)

def put : St → T → T → St
  | [], k, v => [(k, v)]
  | a :: r, k, v => if a.1 < k then a :: put r k v else if a.1 = k then (k, v) :: r else (k, v) :: a :: r
def del : St → T → St
  | [], _ => []
  | a :: r, k => if a.1 = k then r else a :: del r k
/-- The place of a key, or of the first one behind it. -/
def pos : St → T → Nat
  | [], _ => 0
  | a :: r, k => if a.1 < k then pos r k + 1 else 0

theorem pos_le (S : St) (k : T) : pos S k ≤ S.length := by
  induction S with
  | nil => simp [pos]
  | cons a r ih => rw [pos]; split <;> simp <;> omega
theorem pos_of (S : St) (k : T) (i : Nat) (hi : i ≤ S.length) (hlo : ∀ j (h : j < i), (S[j]'(by omega)).1 < k) (hhi : ∀ h : i < S.length, ¬ S[i].1 < k) : pos S k = i := by
  induction S generalizing i with
  | nil => simp at hi; simp [pos, hi]
  | cons a r ih =>
    cases i with
    | zero =>
      have := hhi (by simp)
      rw [pos, if_neg (by simpa using this)]
    | succ i =>
      have := hlo 0 (by omega)
      rw [pos, if_pos (by simpa using this), ih i (by simpa using hi) (fun j h => by simpa using hlo (j + 1) (by omega)) (fun h => by have h2 := hhi (by simpa using h); rw [List.getElem_cons_succ] at h2; exact h2)]
/-- Is the key at its place? -/
def at_ (S : St) (k : T) : Bool := (S[pos S k]?.map (·.1)) == some k
theorem at_cons (a : T × T) (r : St) (k : T) : at_ (a :: r) k = if a.1 < k then at_ r k else decide (a.1 = k) := by
  unfold at_
  rw [pos]
  split
  · simp
  · rw [Bool.eq_iff_iff]; simp
theorem at_look {S : St} (hS : Rising S) (k : T) : at_ S k = (Sto.look S k).isSome := by
  induction S with
  | nil => simp [at_, Sto.look]
  | cons a r ih =>
    obtain ⟨h1, h2⟩ := List.pairwise_cons.1 hS
    rw [at_cons, Sto.look, ih h2]
    by_cases e : a.1 < k
    · rw [if_pos e, if_neg (fun h => Sto.lt_ne e h.symm)]
    · rw [if_neg e]
      by_cases e2 : k = a.1
      · simp [e2]
      · rw [if_neg e2]
        have : k < a.1 := ((Sto.tri k a.1).resolve_right (fun h => h.elim e2 e))
        rw [show Sto.look r k = none from (Sto.look_none r k).2 fun hm => by
          obtain ⟨b, hb, rfl⟩ := List.mem_map.1 hm
          exact List.lt_irrefl _ (List.lt_trans this (h1 b hb))]
        simp; exact fun h => e2 h.symm
theorem look_pos {S : St} (hS : Rising S) (k : T) (h : at_ S k = true) : ∃ hp : pos S k < S.length, S[pos S k].1 = k ∧ Sto.look S k = some S[pos S k].2 := by
  unfold at_ at h
  have hp : pos S k < S.length := by
    rcases Nat.lt_or_ge (pos S k) S.length with h2 | h2
    · exact h2
    · rw [List.getElem?_eq_none h2] at h; simp at h
  rw [List.getElem?_eq_getElem hp] at h
  have e : S[pos S k].1 = k := by simpa using h
  exact ⟨hp, e, by
    have := Sto.look_at hS _ hp
    rw [e] at this; exact this⟩
theorem put_eq (S : St) (k v : T) : put S k v = S.take (pos S k) ++ (k, v) :: S.drop (pos S k + if at_ S k then 1 else 0) := by
  induction S with
  | nil => simp [put, pos, at_]
  | cons a r ih =>
    rw [put, at_cons, pos]
    by_cases e : a.1 < k
    · rw [if_pos e, if_pos e, if_pos e, ih, show pos r k + 1 + (if at_ r k = true then 1 else 0) = pos r k + (if at_ r k = true then 1 else 0) + 1 by omega]; simp
    · rw [if_neg e, if_neg e, if_neg e]
      by_cases e2 : a.1 = k
      · simp [e2]
      · simp [e2]
theorem del_eq {S : St} (hS : Rising S) (k : T) (h : at_ S k = true) : del S k = S.take (pos S k) ++ S.drop (pos S k + 1) := by
  induction S with
  | nil => simp [at_, pos] at h
  | cons a r ih =>
    obtain ⟨h1, h2⟩ := List.pairwise_cons.1 hS
    rw [at_cons] at h
    rw [del, pos]
    by_cases e : a.1 < k
    · rw [if_pos e] at h
      rw [if_pos e, if_neg (Sto.lt_ne e), ih h2 h]; simp
    · rw [if_neg e] at h
      rw [if_neg e, if_pos (by simpa using h)]; simp
theorem put_mem {S : St} {k v : T} {p : T × T} (h : p ∈ put S k v) : p ∈ S ∨ p = (k, v) := by
  induction S with
  | nil => simp [put] at h; exact Or.inr h
  | cons a r ih =>
    rw [put] at h
    split at h
    · rcases List.mem_cons.1 h with h | h
      · exact Or.inl (by rw [h]; exact List.mem_cons_self ..)
      · exact (ih h).imp (List.mem_cons_of_mem _) id
    · split at h
      · rcases List.mem_cons.1 h with h | h
        · exact Or.inr h
        · exact Or.inl (List.mem_cons_of_mem _ h)
      · rcases List.mem_cons.1 h with h | h
        · exact Or.inr h
        · exact Or.inl h
theorem put_rising {S : St} (hS : Rising S) (k v : T) : Rising (put S k v) := by
  induction S with
  | nil => simp [put, Rising]
  | cons a r ih =>
    obtain ⟨h1, h2⟩ := List.pairwise_cons.1 hS
    rw [put]
    split
    · rename_i l
      refine List.pairwise_cons.2 ⟨fun b hb => ?_, ih h2⟩
      rcases put_mem hb with hb | rfl
      · exact h1 b hb
      · exact l
    · rename_i l
      split
      · rename_i e
        subst e
        exact List.pairwise_cons.2 ⟨fun b hb => h1 b hb, h2⟩
      · rename_i e
        have l2 : k < a.1 := ((Sto.tri k a.1).resolve_right (fun h => h.elim (fun h => e h.symm) l))
        refine List.pairwise_cons.2 ⟨fun b hb => ?_, hS⟩
        rcases List.mem_cons.1 hb with rfl | hb
        · exact l2
        · exact List.lt_trans l2 (h1 b hb)
theorem look_put (S : St) (k v x : T) : Rising S → Sto.look (put S k v) x = if x = k then some v else Sto.look S x := by
  intro hS
  induction S with
  | nil => simp [put, Sto.look]
  | cons a r ih =>
    obtain ⟨h1, h2⟩ := List.pairwise_cons.1 hS
    rw [put]
    by_cases e : a.1 < k
    · rw [if_pos e, Sto.look, ih h2, Sto.look]
      by_cases ex : x = a.1
      · rw [if_pos ex, if_pos ex, if_neg (fun h => Sto.lt_ne e (ex.symm.trans h))]
      · rw [if_neg ex, if_neg ex]
    · rw [if_neg e]
      by_cases e2 : a.1 = k
      · rw [if_pos e2, Sto.look, Sto.look, e2]
        by_cases ex : x = k <;> simp [ex]
      · rw [if_neg e2, Sto.look, Sto.look]
theorem del_mem {S : St} {k : T} {p : T × T} (h : p ∈ del S k) : p ∈ S := by
  induction S with
  | nil => simp [del] at h
  | cons a r ih =>
    rw [del] at h
    split at h
    · exact List.mem_cons_of_mem _ h
    · rcases List.mem_cons.1 h with h | h
      · rw [h]; exact List.mem_cons_self ..
      · exact List.mem_cons_of_mem _ (ih h)
theorem del_rising {S : St} (hS : Rising S) (k : T) : Rising (del S k) := by
  induction S with
  | nil => simp [del, Rising]
  | cons a r ih =>
    obtain ⟨h1, h2⟩ := List.pairwise_cons.1 hS
    rw [del]
    split
    · exact h2
    · exact List.pairwise_cons.2 ⟨fun b hb => h1 b (del_mem hb), ih h2⟩
theorem look_del {S : St} (hS : Rising S) (k x : T) : Sto.look (del S k) x = if x = k then none else Sto.look S x := by
  induction S with
  | nil => simp [del, Sto.look]
  | cons a r ih =>
    obtain ⟨h1, h2⟩ := List.pairwise_cons.1 hS
    rw [del]
    by_cases e : a.1 = k
    · rw [if_pos e, Sto.look]
      by_cases ex : x = k
      · rw [if_pos ex, ex]
        exact (Sto.look_none r k).2 fun hm => by
          obtain ⟨b, hb, hk⟩ := List.mem_map.1 hm
          exact Sto.lt_ne (h1 b hb) (e.trans hk.symm)
      · rw [if_neg ex, if_neg (fun h => ex (h.trans e))]
    · rw [if_neg e, Sto.look, ih h2, Sto.look]
      by_cases ex : x = a.1
      · rw [if_pos ex, if_pos ex, if_neg (fun h => e (ex.symm.trans h))]
      · rw [if_neg ex, if_neg ex]
/-- A list that rises is told by what it has. -/
theorem look_ext {S R : St} (hS : Rising S) (hR : Rising R) (h : ∀ x, Sto.look S x = Sto.look R x) : S = R := by
  have hm : ∀ p : T × T, p ∈ S ↔ p ∈ R := fun p => by rw [← Sto.look_mem hS p.1 p.2, ← Sto.look_mem hR p.1 p.2, h]
  have nS : S.Nodup := List.Pairwise.imp (R := fun (a b : T × T) => a.1 < b.1) (fun {a b} h e => Sto.lt_ne h (congrArg Prod.fst e)) hS
  have nR : R.Nodup := List.Pairwise.imp (R := fun (a b : T × T) => a.1 < b.1) (fun {a b} h e => Sto.lt_ne h (congrArg Prod.fst e)) hR
  have hp : S.Perm R := (List.perm_ext_iff_of_nodup nS nR).2 hm
  refine hp.eq_of_pairwise (le := fun a b => a.1 ≤ b.1) (fun x y hx hy h1 h2 => ?_) (hS.imp fun h => List.le_of_lt h) (hR.imp fun h => List.le_of_lt h)
  have e : x.1 = y.1 := List.le_antisymm h1 h2
  have a1 := (Sto.look_mem hS x.1 x.2).2 hx
  have a2 := (Sto.look_mem hS y.1 y.2).2 ((hm y).2 hy)
  rw [e, a2] at a1
  exact Prod.ext e (Option.some.inj a1).symm
theorem put_len (S : St) (k v : T) : (put S k v).length = S.length + if at_ S k then 0 else 1 := by
  rw [put_eq]
  have := pos_le S k
  by_cases h : at_ S k
  · have hp : pos S k < S.length := by
      unfold at_ at h
      rcases Nat.lt_or_ge (pos S k) S.length with h2 | h2
      · exact h2
      · rw [List.getElem?_eq_none h2] at h; simp at h
    simp [h]; omega
  · simp [h]; omega
end Go.Proofs.YtkdecmijnojhoaaDoor.Tri
namespace Go.Proofs.YtkdecmijnojhoaaDoor.Scn
open Sto (T St Rising keys)

/-- A key of the most bytes, one more at its last byte that is not 255. -/
def bump : T → T
  | [] => []
  | a :: r => if bump r ≠ [] then a :: bump r else if a = 255 then [] else [a + 1]
def behind (x : T) : T := if 8 < x.length then [] else if x.length < 8 then x ++ [0] else bump x
theorem bump_len (x : T) : (bump x).length ≤ x.length := by
  induction x with
  | nil => simp [bump]
  | cons a r ih =>
    rw [bump]
    split
    · simpa using ih
    · split <;> simp
theorem byte_succ {x y : UInt8} (h : x ≠ 255) : x < y ↔ x + 1 ≤ y := by
  have h1 : x.toNat ≠ 255 := fun e => h (by rw [← UInt8.toNat_inj]; exact e)
  have h2 := x.toNat_lt
  rw [UInt8.lt_iff_toNat_lt, UInt8.le_iff_toNat_le, UInt8.toNat_add]
  have : (1 : UInt8).toNat = 1 := rfl
  rw [this]
  omega
theorem cons_le {a b : UInt8} {s t : T} : a :: s ≤ b :: t ↔ a < b ∨ a = b ∧ s ≤ t := by
  rw [List.le_iff_lt_or_eq, List.cons_lt_cons_iff, List.le_iff_lt_or_eq]
  constructor
  · rintro ((h | ⟨h, k⟩) | h)
    · exact Or.inl h
    · exact Or.inr ⟨h, Or.inl k⟩
    · obtain ⟨h1, h2⟩ := List.cons.inj h
      exact Or.inr ⟨h1, Or.inr h2⟩
  · rintro (h | ⟨h, k | k⟩)
    · exact Or.inl (Or.inl h)
    · exact Or.inl (Or.inr ⟨h, k⟩)
    · exact Or.inr (by rw [h, k])
theorem nil_le (s : T) : ([] : T) ≤ s := by
  cases s with
  | nil => exact List.le_refl _
  | cons a s => exact List.le_of_lt (List.nil_lt_cons _ _)
/-- Nothing of at most as many bytes is above, or what is above begins at bump. -/
theorem bump_least (a : T) : ∀ b : T, b.length ≤ a.length → (bump a = [] → b ≤ a) ∧ (bump a ≠ [] → a < bump a ∧ (a < b ↔ bump a ≤ b)) := by
  induction a with
  | nil =>
    intro b hb
    obtain rfl : b = [] := List.eq_nil_of_length_eq_zero (by simpa using hb)
    exact ⟨fun _ => List.le_refl _, fun h => absurd rfl h⟩
  | cons x r ih =>
    intro b hb
    rw [bump]
    by_cases hr : bump r ≠ []
    · rw [if_pos hr]
      refine ⟨fun h => by simp at h, fun _ => ?_⟩
      have hlt := ((ih [] (by simp)).2 hr).1
      refine ⟨List.cons_lt_cons_iff.2 (Or.inr ⟨rfl, hlt⟩), ?_⟩
      cases b with
      | nil =>
        constructor
        · intro h; exact absurd h (List.not_lt_nil _)
        · intro h
          exact absurd (List.nil_lt_cons x (bump r)) (List.not_lt.2 h)
      | cons y s =>
        have := ((ih s (by simpa using hb)).2 hr).2
        rw [List.cons_lt_cons_iff, cons_le, this]
    · rw [if_neg hr]
      have hr : bump r = [] := Classical.byContradiction hr
      by_cases hx : x = 255
      · rw [if_pos hx]
        refine ⟨fun _ => ?_, fun h => absurd rfl h⟩
        cases b with
        | nil => exact nil_le _
        | cons y s =>
          have h1 := (ih s (by simpa using hb)).1 hr
          rw [cons_le]
          by_cases hy : y = 255
          · exact Or.inr ⟨by rw [hx, hy], h1⟩
          · left
            rw [hx, UInt8.lt_iff_toNat_lt]
            have h2 : y.toNat ≠ 255 := fun e => hy (by rw [← UInt8.toNat_inj]; exact e)
            have := y.toNat_lt
            have : (255 : UInt8).toNat = 255 := rfl
            omega
      · rw [if_neg hx]
        refine ⟨fun h => by simp at h, fun _ => ?_⟩
        refine ⟨List.cons_lt_cons_iff.2 (Or.inl ((byte_succ hx).2 (UInt8.le_refl _))), ?_⟩
        cases b with
        | nil =>
          constructor
          · intro h; exact absurd h (List.not_lt_nil _)
          · intro h; exact absurd (List.nil_lt_cons (x + 1) []) (List.not_lt.2 h)
        | cons y s =>
          have h1 := (ih s (by simpa using hb)).1 hr
          rw [List.cons_lt_cons_iff, cons_le]
          constructor
          · rintro (h | ⟨_, h⟩)
            · have h2 := (byte_succ hx).1 h
              by_cases e : x + 1 = y
              · exact Or.inr ⟨e, nil_le _⟩
              · left
                rw [UInt8.lt_iff_toNat_lt]
                rw [UInt8.le_iff_toNat_le] at h2
                have : (x + 1).toNat ≠ y.toNat := fun e2 => e (UInt8.toNat_inj.1 e2)
                omega
            · exact absurd h (List.not_lt.2 h1)
          · rintro (h | ⟨h, _⟩)
            · exact Or.inl ((byte_succ hx).2 (UInt8.le_of_lt h))
            · exact Or.inl ((byte_succ hx).2 (by rw [h]; exact UInt8.le_refl _))
theorem zero_least (a b : T) : a < b ↔ a ++ [0] ≤ b := by
  induction a generalizing b with
  | nil =>
    cases b with
    | nil => simp [List.not_lt_nil]
    | cons y s =>
      rw [List.nil_append, cons_le]
      refine ⟨fun _ => ?_, fun _ => List.nil_lt_cons _ _⟩
      by_cases e : (0 : UInt8) = y
      · exact Or.inr ⟨e, nil_le _⟩
      · left
        rw [UInt8.lt_iff_toNat_lt]
        have : y.toNat ≠ 0 := fun h => e (by rw [← UInt8.toNat_inj]; exact h.symm)
        have : (0 : UInt8).toNat = 0 := rfl
        omega
  | cons x r ih =>
    cases b with
    | nil => simp [List.not_lt_nil, List.cons_append, ← List.not_lt]
    | cons y s => rw [List.cons_append, List.cons_lt_cons_iff, cons_le, ih]
theorem above_zero (a : T) : a < a ++ [0] := (zero_least a _).2 (List.le_refl _)
/-- What is behind a key is the least above it. -/
theorem behind_least {a b : T} (ha : a.length ≤ 8) (hb : b.length ≤ 8) : (behind a = [] → b ≤ a) ∧ (behind a ≠ [] → a < behind a ∧ (behind a).length ≤ 8 ∧ (a < b ↔ behind a ≤ b)) := by
  unfold behind
  rw [if_neg (by omega)]
  by_cases h : a.length < 8
  · rw [if_pos h]
    exact ⟨fun e => by simp at e, fun _ => ⟨above_zero a, by simp; omega, zero_least a b⟩⟩
  · rw [if_neg h]
    obtain ⟨h1, h2⟩ := bump_least a b (by omega)
    exact ⟨h1, fun e => ⟨(h2 e).1, Nat.le_trans (bump_len a) ha, (h2 e).2⟩⟩
theorem behind_long {a : T} (h : 8 < a.length) : behind a = [] := if_pos h
/-! ### ranges -/
def inR (f e k : T) : Bool := decide (f ≤ k) && (decide (e = []) || decide (k < e))
def allR (S : St) (f e : T) : St := S.filter fun x => inR f e x.1
/-- A page: its items, where it goes on, the code. -/
def pageR (S : St) (f e : T) (m : Int) : St × T × Nat :=
  if 1 ≤ m ∧ m ≤ 16 then (if (allR S f e).length ≤ m.toNat then (allR S f e, [], 0) else ((allR S f e).take m.toNat, behind ((allR S f e).getD (m.toNat - 1) ([], [])).1, 0)) else ([], [], 1)
theorem allR_rise {S : St} (h : Rising S) (f e : T) : Rising (allR S f e) := List.Pairwise.sublist List.filter_sublist h
theorem allR_len (S : St) (f e : T) : (allR S f e).length ≤ S.length := List.length_filter_le _ _
theorem allR_take (S : St) (f e : T) (k : Nat) (hk : k < S.length) : allR (S.take (k + 1)) f e = allR (S.take k) f e ++ (if inR f e S[k].1 then [S[k]] else []) := by
  rw [List.take_succ_eq_append_getElem hk, allR, allR, List.filter_append]
  by_cases h : inR f e S[k].1 = true
  · simp [h]
  · simp [h]
/-- Where a page goes on, the rest begins. -/
theorem allR_next {S : St} (hS : Rising S) (h8 : ∀ x ∈ S, x.1.length ≤ 8) (f e : T) (m : Nat) (h1 : 1 ≤ m) (hm : m < (allR S f e).length) :
    behind ((allR S f e)[m - 1]'(by omega)).1 ≠ [] ∧ allR S (behind ((allR S f e)[m - 1]'(by omega)).1) e = (allR S f e).drop m := by
  obtain ⟨A, hA⟩ : ∃ A, allR S f e = A := ⟨_, rfl⟩
  have hAr : Rising A := by rw [← hA]; exact allR_rise hS f e
  have hAS : ∀ x ∈ A, x ∈ S ∧ inR f e x.1 = true := fun x hx => by rw [← hA] at hx; exact List.mem_filter.1 hx
  simp only [hA] at hm ⊢
  obtain ⟨a, ha⟩ : ∃ a, A[m - 1]'(by omega) = a := ⟨_, rfl⟩
  rw [ha]
  have haA : a ∈ A := by rw [← ha]; exact List.getElem_mem _
  have ha8 := h8 a (hAS a haA).1
  have hlt : a.1 < (A[m]).1 := by
    rw [← ha]
    exact List.pairwise_iff_getElem.1 hAr (m - 1) m (by omega) hm (by omega)
  have hb8 := h8 A[m] (hAS _ (List.getElem_mem hm)).1
  have hne : behind a.1 ≠ [] := fun e0 => absurd hlt (List.not_lt.2 ((behind_least ha8 hb8).1 e0))
  refine ⟨hne, ?_⟩
  have hiff : ∀ x ∈ S, (inR (behind a.1) e x.1 = true ↔ (inR f e x.1 = true ∧ a.1 < x.1)) := fun x hx => by
    have h2 := ((behind_least ha8 (h8 x hx)).2 hne).2.2
    have hfa : f ≤ a.1 := by
      have := (hAS a haA).2
      simp only [inR, Bool.and_eq_true, decide_eq_true_eq] at this
      exact this.1
    simp only [inR, Bool.and_eq_true, Bool.or_eq_true, decide_eq_true_eq]
    constructor
    · rintro ⟨h3, h4⟩
      have h5 := h2.2 h3
      exact ⟨⟨List.le_trans hfa (List.le_of_lt h5), h4⟩, h5⟩
    · rintro ⟨⟨_, h4⟩, h5⟩
      exact ⟨h2.1 h5, h4⟩
  have e1 : allR S (behind a.1) e = A.filter fun x => decide (a.1 < x.1) := by
    rw [← hA]
    unfold allR
    rw [List.filter_filter]
    refine List.filter_congr fun x hx => ?_
    have := hiff x hx
    by_cases h : inR (behind a.1) e x.1 = true
    · rw [h]; obtain ⟨q1, q2⟩ := this.1 h; simp [q1, q2]
    · have h' : inR (behind a.1) e x.1 = false := by simpa using h
      rw [h']
      symm
      rw [Bool.and_eq_false_iff]
      by_cases hq : inR f e x.1 = true
      · left
        exact decide_eq_false (fun h3 => h (this.2 ⟨hq, h3⟩))
      · right; simpa using hq
  rw [e1]
  conv => lhs; rw [← List.take_append_drop m A]
  rw [List.filter_append]
  have f1 : (A.take m).filter (fun x => decide (a.1 < x.1)) = [] := by
    rw [List.filter_eq_nil_iff]
    intro x hx
    obtain ⟨i, hi, rfl⟩ := List.mem_take_iff_getElem.1 hx
    simp only [decide_eq_true_eq]
    intro h
    have him : i < m := by omega
    rcases Nat.lt_or_ge i (m - 1) with h3 | h3
    · have := List.pairwise_iff_getElem.1 hAr i (m - 1) (by omega) (by omega) h3
      rw [ha] at this
      exact List.lt_irrefl _ (List.lt_trans h this)
    · obtain rfl : i = m - 1 := by omega
      rw [ha] at h
      exact List.lt_irrefl _ h
  have f2 : (A.drop m).filter (fun x => decide (a.1 < x.1)) = A.drop m := by
    rw [List.filter_eq_self]
    intro x hx
    obtain ⟨i, hi, rfl⟩ := List.mem_drop_iff_getElem.1 hx
    rw [decide_eq_true_eq, ← ha]
    exact List.pairwise_iff_getElem.1 hAr (m - 1) (m + i) (by omega) (by omega) (by omega)
  rw [f1, f2, List.nil_append]
/-! ### a range cut in two -/
theorem filter_cut {S : St} (hS : Rising S) (q : T × T → Bool) (c : T) : S.filter q = S.filter (fun x => q x && decide (x.1 < c)) ++ S.filter (fun x => q x && !decide (x.1 < c)) := by
  induction S with
  | nil => rfl
  | cons a r ih =>
    obtain ⟨h1, h2⟩ := List.pairwise_cons.1 hS
    have e := ih h2
    by_cases hc : a.1 < c
    · by_cases hq : q a = true
      · simp [hq, hc, e]
      · simp [hq, e]
    · have hn : r.filter (fun x => q x && decide (x.1 < c)) = [] := by
        rw [List.filter_eq_nil_iff]
        intro x hx
        simp only [Bool.and_eq_true, decide_eq_true_eq, not_and]
        exact fun _ h => hc (List.lt_trans (h1 x hx) h)
      rw [hn, List.nil_append] at e
      by_cases hq : q a = true
      · simp [hq, hc, hn, e]
      · simp [hq, hn, e]
theorem allR_cut {S : St} (hS : Rising S) {f m e : T} (h1 : f ≤ m) (h2 : e = [] ∨ m ≤ e) (hm : m ≠ []) : allR S f e = allR S f m ++ allR S m e := by
  unfold allR
  rw [filter_cut hS _ m]
  congr 1
  · refine List.filter_congr fun x _ => ?_
    rw [Bool.eq_iff_iff]
    simp only [inR, Bool.and_eq_true, Bool.or_eq_true, decide_eq_true_eq]
    constructor
    · rintro ⟨⟨h3, _⟩, h4⟩
      exact ⟨h3, Or.inr h4⟩
    · rintro ⟨h3, h4⟩
      have h5 : x.1 < m := h4.resolve_left hm
      refine ⟨⟨h3, ?_⟩, h5⟩
      rcases h2 with h2 | h2
      · exact Or.inl h2
      · right
        rcases List.le_iff_lt_or_eq.1 h2 with h6 | h6
        · exact List.lt_trans h5 h6
        · rw [← h6]; exact h5
  · refine List.filter_congr fun x _ => ?_
    rw [Bool.eq_iff_iff]
    simp only [inR, Bool.and_eq_true, Bool.or_eq_true, decide_eq_true_eq, Bool.not_eq_true', decide_eq_false_iff_not]
    constructor
    · rintro ⟨⟨_, h4⟩, h5⟩
      exact ⟨List.not_lt.1 h5, h4⟩
    · rintro ⟨h3, h4⟩
      exact ⟨⟨List.le_trans h1 h3, h4⟩, List.not_lt.2 h3⟩
theorem page_items {S : St} {f e : T} {m : Int} (h : 1 ≤ m ∧ m ≤ 16) : (pageR S f e m).1 = (allR S f e).take m.toNat ∧ (pageR S f e m).2.2 = 0 := by
  unfold pageR
  rw [if_pos h]
  split
  · rw [List.take_of_length_le (by assumption)]; exact ⟨rfl, rfl⟩
  · exact ⟨rfl, rfl⟩
/-- What a page of a first part is of a page of the whole. -/
theorem page_cut {S : St} (hS : Rising S) {f m e : T} (h1 : f ≤ m) (h2 : e = [] ∨ m ≤ e) (hm : m ≠ []) (n : Nat) :
    (allR S f m).length + (allR S m e).length = (allR S f e).length ∧ ((allR S f m).take n).length ≤ ((allR S f e).take n).length ∧ (allR S f m).take n = ((allR S f e).take n).take ((allR S f m).take n).length := by
  rw [allR_cut hS h1 h2 hm]
  refine ⟨by rw [List.length_append], ?_, ?_⟩
  · simp only [List.length_take, List.length_append]; omega
  · rw [List.take_take, List.length_take, List.take_append_of_le_length (by omega)]
    rcases Nat.le_total n (allR S f m).length with h | h
    · rw [show min (min n (allR S f m).length) n = n from by omega]
    · rw [show min (min n (allR S f m).length) n = (allR S f m).length from by omega, List.take_of_length_le h, List.take_length]
end Go.Proofs.YtkdecmijnojhoaaDoor.Scn
namespace Go.Proofs.YtkdecmijnojhoaaDoor.Nib

def fitL (l : List UInt8) : Bool := l.all fun b => decide (b.toNat ≤ 15)
def ofL (l : List UInt8) : List UInt8 := l.flatMap fun (b : UInt8) => [b / 16, b % 16]
def joinL : List UInt8 → List UInt8
  | a :: b :: t => (a * 16 + b) :: joinL t
  | _ => []
def commonL : List UInt8 → List UInt8 → Nat
  | a :: s, b :: t => if a = b then commonL s t + 1 else 0
  | _, _ => 0

theorem take_snoc {α : Type} (l : List α) (k : Nat) (h : k < l.length) : l.take (k + 1) = l.take k ++ [l[k]] := List.take_succ_eq_append_getElem h

theorem fitL_take_succ (l : List UInt8) (k : Nat) (h : k < l.length) : fitL (l.take (k + 1)) = (fitL (l.take k) && decide (l[k].toNat ≤ 15)) := by
  unfold fitL; rw [take_snoc l k h, List.all_append]; simp
theorem fitL_false (l : List UInt8) (k : Nat) (h : k < l.length) (hb : 15 < l[k].toNat) : fitL l = false := by
  unfold fitL
  rw [List.all_eq_false]
  exact ⟨l[k], List.getElem_mem h, by simp; omega⟩

theorem commonL_le (a b : List UInt8) : commonL a b ≤ a.length ∧ commonL a b ≤ b.length := by
  induction a generalizing b with
  | nil => simp [commonL]
  | cons x s ih =>
    cases b with
    | nil => simp [commonL]
    | cons y t =>
      unfold commonL
      split
      · have := ih t; simp; omega
      · simp
theorem commonL_of_diff (a b : List UInt8) (k : Nat) (ha : k < a.length) (hb : k < b.length) (h : a.take k = b.take k) (hd : a[k] ≠ b[k]) : commonL a b = k := by
  induction k generalizing a b with
  | zero =>
    cases a with
    | nil => simp at ha
    | cons x s =>
      cases b with
      | nil => simp at hb
      | cons y t => simp at hd; simp [commonL, hd]
  | succ k ih =>
    cases a with
    | nil => simp at ha
    | cons x s =>
      cases b with
      | nil => simp at hb
      | cons y t =>
        simp at h hd
        obtain ⟨rfl, h⟩ := h
        simp [commonL, ih s t (by simpa using ha) (by simpa using hb) h hd]
theorem commonL_of_end (a b : List UInt8) (k : Nat) (hk : k = min a.length b.length) (h : a.take k = b.take k) : commonL a b = k := by
  induction k generalizing a b with
  | zero =>
    cases a with
    | nil => simp [commonL]
    | cons x s =>
      cases b with
      | nil => simp [commonL]
      | cons y t => simp at hk
  | succ k ih =>
    cases a with
    | nil => simp at hk
    | cons x s =>
      cases b with
      | nil => simp at hk
      | cons y t =>
        simp at h
        obtain ⟨rfl, h⟩ := h
        have : k = min s.length t.length := by simp at hk; omega
        simp [commonL, ih s t this h]
theorem take_eq_succ (a b : List UInt8) (k : Nat) (ha : k < a.length) (hb : k < b.length) (h : a.take k = b.take k) (he : a[k] = b[k]) : a.take (k + 1) = b.take (k + 1) := by
  rw [take_snoc a k ha, take_snoc b k hb, h, he]

theorem byte_ne {x y : UInt8} (h : ((x.toNat : Int) != (y.toNat : Int)) = true) : x ≠ y := by rintro rfl; simp at h
theorem byte_eq {x y : UInt8} (h : ((x.toNat : Int) != (y.toNat : Int)) = false) : x = y := by
  simp at h; exact UInt8.toNat_inj.1 (by omega)
theorem ofL_length (l : List UInt8) : (ofL l).length = 2 * l.length := by
  induction l with
  | nil => rfl
  | cons b t ih =>
    have : ofL (b :: t) = b / 16 :: b % 16 :: ofL t := by simp [ofL]
    rw [this]; simp [ih]; omega
theorem ofL_snoc (l : List UInt8) (k : Nat) (h : k < l.length) : ofL (l.take (k + 1)) = ofL (l.take k) ++ [l[k] / 16, l[k] % 16] := by
  rw [take_snoc l k h]; unfold ofL; rw [List.flatMap_append]; simp

theorem toNat_div16 (b : UInt8) : (((b / 16).toNat : Nat) : Int) = (b.toNat : Int) / 16 := by simp
theorem toNat_mod16 (b : UInt8) : (((b % 16).toNat : Nat) : Int) = (b.toNat : Int) % 16 := by simp

theorem fitL_get (l : List UInt8) (h : fitL l = true) (k : Nat) (hk : k < l.length) : l[k].toNat ≤ 15 := by
  unfold fitL at h; rw [List.all_eq_true] at h; simpa using h l[k] (List.getElem_mem hk)
theorem fitL_tail (a : UInt8) (t : List UInt8) (h : fitL (a :: t) = true) : fitL t = true := by
  simp [fitL] at h ⊢; exact h.2
theorem joinL_two (a b : UInt8) (t : List UInt8) : joinL (a :: b :: t) = (a * 16 + b) :: joinL t := rfl
theorem joinL_snoc (l : List UInt8) (k : Nat) (h : 2 * k + 1 < l.length) : joinL (l.take (2 * (k + 1))) = joinL (l.take (2 * k)) ++ [l[2 * k] * 16 + l[2 * k + 1]] := by
  induction k generalizing l with
  | zero =>
    match l, h with
    | a :: b :: t, _ => rfl
  | succ k ih =>
    match l, h with
    | a :: b :: t, h =>
      have h' : 2 * k + 1 < t.length := by simp at h; omega
      have e1 : 2 * (k + 1 + 1) = 2 * (k + 1) + 2 := by omega
      have e2 : 2 * (k + 1) = 2 * k + 2 := by omega
      have e3 : 2 * (k + 1) + 1 = 2 * k + 1 + 2 := by omega
      have r1 : joinL ((a :: b :: t).take (2 * (k + 1 + 1))) = (a * 16 + b) :: joinL (t.take (2 * (k + 1))) := by
        rw [e1, List.take_succ_cons, List.take_succ_cons]; rfl
      have r2 : joinL ((a :: b :: t).take (2 * (k + 1))) = (a * 16 + b) :: joinL (t.take (2 * k)) := by
        rw [e2, List.take_succ_cons, List.take_succ_cons]; rfl
      rw [r1, r2, ih t h']
      simp [e2]
theorem joinL_length (l : List UInt8) : (joinL l).length = l.length / 2 := by
  match l with
  | [] => rfl
  | [_] => simp [joinL]
  | a :: b :: t => simp [joinL_two, joinL_length t]; omega
theorem joinL_take_end (l : List UInt8) (k : Nat) (h : k = l.length / 2) : joinL (l.take (2 * k)) = joinL l := by
  induction k generalizing l with
  | zero =>
    match l, h with
    | [], _ => rfl
    | [_], _ => simp [joinL]
    | a :: b :: t, h => simp at h; omega
  | succ k ih =>
    match l, h with
    | [], h => simp at h
    | [_], h => simp at h
    | a :: b :: t, h =>
      have e1 : 2 * (k + 1) = 2 * k + 2 := by omega
      rw [e1, List.take_succ_cons, List.take_succ_cons, joinL_two, joinL_two, ih t (by simp at h; omega)]
theorem or_join (a b : Nat) (hb : b < 16) : (a * 16) ||| b = a * 16 + b := by
  have := Nat.two_pow_add_eq_or_of_lt (i := 4) (b := b) (by simpa using hb) a
  simp at this; rw [Nat.mul_comm a 16]; omega

def kindL (n : Nat) (leaf : Bool) : UInt8 := (if n % 2 = 1 then 1 else 0) + (if leaf then 2 else 0)
def headL (p : List UInt8) (leaf : Bool) : List UInt8 := if p.length % 2 = 1 then [kindL p.length leaf] else [kindL p.length leaf, 0]
def packL (p : List UInt8) (leaf : Bool) : List UInt8 := joinL (headL p leaf ++ p)
theorem packL_odd (a : UInt8) (t : List UInt8) (leaf : Bool) (h : t.length % 2 = 0) : packL (a :: t) leaf = ((if leaf then 48 else 16) + a) :: joinL t := by
  have : (t.length + 1) % 2 = 1 := by omega
  cases leaf <;> simp [packL, headL, kindL, this, joinL_two]
theorem packL_even (p : List UInt8) (leaf : Bool) (h : p.length % 2 = 0) : packL p leaf = (if leaf then 32 else 0) :: joinL p := by
  have : ¬ p.length % 2 = 1 := by omega
  cases leaf <;> simp [packL, headL, kindL, this, joinL_two]

end Go.Proofs.YtkdecmijnojhoaaDoor.Nib
namespace Go.Proofs.YtkdecmijnojhoaaDoor
open Go.RowKit

def cellsL (l : List UInt8) : List Value := l.map fun b => .int .u8 (b.toNat : Int)
theorem cellsL_append (a b : List UInt8) : cellsL (a ++ b) = cellsL a ++ cellsL b := by simp [cellsL]
theorem cellsL_length (a : List UInt8) : (cellsL a).length = a.length := by simp [cellsL]
theorem Tryd.infoByte : (Tryd.prog.info? 5).map (fun i => (i.zero, i.size, i.bytes)) = some (some (.int .u8 0), 1, 1) := by kernel_rfl
theorem byte_lt (b : UInt8) : (b.toNat : Int) < 256 := by have := b.toNat_lt; simp at this; omega
theorem byte_and15 (b : UInt8) : bits .and .u8 (b.toNat : Int) 15 = (((b % 16).toNat : Nat) : Int) := by
  rw [Nib.toNat_mod16]; exact u8_and15 (x := (b.toNat : Int)) (Int.natCast_nonneg _) (byte_lt b)
theorem byte_join (a b : UInt8) (ha : a.toNat ≤ 15) (hb : b.toNat ≤ 15) : bits .or .u8 ((a.toNat : Int) * 16 % 256) (b.toNat : Int) = (((a * 16 + b).toNat : Nat) : Int) := by
  have e : ((a.toNat : Int) * 16 % 256) = ((a.toNat * 16 : Nat) : Int) := by omega
  rw [e, u8_or_nat _ _ (by omega) (by omega), Nib.or_join _ _ (by omega)]
  simp [UInt8.toNat_add, UInt8.toNat_mul]
  omega
set_option maxRecDepth 100000 in
theorem conv_own {w : World} {B : Nat} {v : Value} {ys : List UInt8} (h : w.ownsRow B 5 1 v ys.length (cellsL ys)) : (convert 53 9 v).run Tryd.prog w = .ok (.string ⟨ys.toArray⟩) w := by
  rcases h.2 with ⟨rfl, h0⟩ | ⟨g, cap, cur, rfl, _⟩
  · obtain rfl : ys = [] := List.eq_nil_of_length_eq_zero h0
    rfl
  · refine run_convert_bytes_back w 53 9 5 ⟨g, 0, none⟩ cap ys Tryd.underlying53 Tryd.underlying5 Tryd.underlying9 ?_
    intro j hj
    exact h.cells (g := g) rfl j _ (by simp [cellsL, hj])
theorem ownsNil (w : World) (B : Nat) : w.ownsRow B 5 1 (.slice none 0 0) ([] : List UInt8).length (cellsL []) := ⟨rfl, Or.inl ⟨rfl, rfl⟩⟩
theorem ownsOne (w : World) (B : Nat) (hB : B ≤ w.heap.size) (b : UInt8) (z : Int) (hz : z = (b.toNat : Int)) : (w.alloc (.cells #[.int .u8 z] 5)).ownsRow B 5 1 (.slice (some ⟨w.heap.size, 0, none⟩) 1 1) [b].length (cellsL [b]) := by
  subst hz
  exact ⟨rfl, Or.inr ⟨w.heap.size, 1, #[.int .u8 (b.toNat : Int)], rfl, hB, heap_alloc_new w _, Nat.le_refl _, by unfold maxLen; omega, rfl, rfl⟩⟩
theorem or_16 (a : UInt8) (ha : a.toNat ≤ 15) : bits .or .u8 16 (a.toNat : Int) = ((16 + a.toNat : Nat) : Int) := by
  have := u8_or_nat 16 a.toNat (by omega) (by omega)
  have e := Nib.or_join 1 a.toNat (by omega)
  rw [show (16 : Int) = ((16 : Nat) : Int) from rfl, this]
  simp at e; omega
theorem or_head0 (a : UInt8) (ha : a.toNat ≤ 15) : bits .or .u8 0 (bits .or .u8 16 (a.toNat : Int)) = (((16 + a).toNat : Nat) : Int) := by
  rw [or_16 a ha, show (0 : Int) = ((0 : Nat) : Int) from rfl, u8_or_nat _ _ (by omega) (by omega)]
  simp [UInt8.toNat_add]; omega
theorem or_head2 (a : UInt8) (ha : a.toNat ≤ 15) : bits .or .u8 (bits .or .u8 0 32) (bits .or .u8 16 (a.toNat : Int)) = (((48 + a).toNat : Nat) : Int) := by
  have e0 : bits .or .u8 0 32 = ((32 : Nat) : Int) := by decide +kernel
  have e := Nat.two_pow_add_eq_or_of_lt (i := 5) (b := 16 + a.toNat) (by omega) 1
  rw [or_16 a ha, e0, u8_or_nat _ _ (by omega) (by omega)]
  simp [UInt8.toNat_add]; simp at e; omega
theorem or_0_32 : bits .or .u8 0 32 = (((32 : UInt8).toNat : Nat) : Int) := by decide +kernel
theorem bytes_list (a : ByteArray) : ∃ l : List UInt8, a = ⟨l.toArray⟩ := ⟨a.data.toList, by simp⟩
theorem ownsTwo (w : World) (B : Nat) (hB : B ≤ w.heap.size) (a b : UInt8) (x y : Int) (hx : x = (a.toNat : Int)) (hy : y = (b.toNat : Int)) : (w.alloc (.cells #[.int .u8 x, .int .u8 y] 5)).ownsRow B 5 1 (.slice (some ⟨w.heap.size, 0, none⟩) 2 2) [a, b].length (cellsL [a, b]) := by
  subst hx; subst hy
  exact ⟨rfl, Or.inr ⟨w.heap.size, 2, #[.int .u8 (a.toNat : Int), .int .u8 (b.toNat : Int)], rfl, hB, heap_alloc_new w _, Nat.le_refl _, by unfold maxLen; omega, rfl, rfl⟩⟩
theorem conv_one (w : World) (a : UInt8) (x : Int) (hx : x = (a.toNat : Int)) :
    (convert 53 9 (.slice (some ⟨w.heap.size, 0, none⟩) 1 1)).run Tryd.prog (w.alloc (.cells #[.int .u8 x] 5)).drew = .ok (.string ⟨[a].toArray⟩) (w.alloc (.cells #[.int .u8 x] 5)).drew :=
  conv_own ((ownsOne w w.heap.size (Nat.le_refl _) a x hx).drew)
theorem conv_two' (w : World) (a b : UInt8) (x y : Int) (hx : x = (a.toNat : Int)) (hy : y = (b.toNat : Int)) :
    (convert 53 9 (.slice (some ⟨w.heap.size, 0, none⟩) 2 2)).run Tryd.prog (w.alloc (.cells #[.int .u8 x, .int .u8 y] 5)) = .ok (.string ⟨[a, b].toArray⟩) (w.alloc (.cells #[.int .u8 x, .int .u8 y] 5)) :=
  conv_own (ownsTwo w w.heap.size (Nat.le_refl _) a b x y hx hy)
theorem conv_one' (w : World) (a : UInt8) (x : Int) (hx : x = (a.toNat : Int)) (n : Nat) (hn : n = w.heap.size) :
    (convert 53 9 (.slice (some ⟨n, 0, none⟩) 1 1)).run Tryd.prog (w.alloc (.cells #[.int .u8 x] 5)) = .ok (.string ⟨[a].toArray⟩) (w.alloc (.cells #[.int .u8 x] 5)) := by
  subst hn
  exact conv_own (ownsOne w w.heap.size (Nat.le_refl _) a x hx)
theorem cat_mk (p x : List UInt8) : ((⟨p.toArray⟩ : ByteArray) ++ (⟨x.toArray⟩ : ByteArray)) = ⟨(p ++ x).toArray⟩ := by
  apply ByteArray.ext; simp
theorem bchain {w w1 w2 : World} (h : Below w.heap.size w w1) (k : Below w1.heap.size w1 w2) : Below w.heap.size w w2 := h.trans (k.mono h.size)
theorem ret_i64 {a b : Int} (h : a = b) : Ending.returned (.int .i64 a) = .returned (.int .i64 b) := by rw [h]
theorem bel_drewN {B : Nat} {a w : World} (h : Below B a w) (n : Nat) : Below B a (w.drewN n) := h.trans ⟨rfl, rfl, rfl, Nat.le_refl _, fun _ _ => rfl⟩
end Go.Proofs.YtkdecmijnojhoaaDoor
namespace Go.Proofs.YtkdecmijnojhoaaDoor
open Go.RowKit

theorem lt_of_heap {w : World} {g : Nat} {o : Obj} (h : w.heap[g]? = some o) : g < w.heap.size := by
  rcases Nat.lt_or_ge g w.heap.size with hlt | hge
  · exact hlt
  · rw [Array.getElem?_eq_none hge] at h; cases h
theorem heap_new_at (w : World) (o : Obj) (i : Nat) (h : i = w.heap.size) : (w.alloc o).heap[i]? = some o := by subst h; exact heap_alloc_new w o
theorem heap_old_at {w : World} {i : Nat} {x : Obj} (o : Obj) (h : w.heap[i]? = some x) : (w.alloc o).heap[i]? = some x := (Below.heap_alloc w o i (lt_of_heap h)).trans h

theorem keep_cell {w : World} {p q : Addr} {u v : Value} (h : w.cell? q = some v) (hn : q.block ≠ p.block) : (w.setCell p u).cell? q = some v :=
  (World.cell?_setCell_other w p q u (fun e => hn (by rw [e]))).trans h
theorem keep_cell' {w : World} {p q : Addr} {u v : Value} (h : w.cell? q = some v) (hn : q.block ≠ p.block) : (w.setCell p u).drew.cell? q = some v := keep_cell h hn
theorem keep_off {w : World} {p q : Addr} {u v : Value} (h : w.cell? q = some v) (hn : q ≠ p) : (w.setCell p u).cell? q = some v :=
  (World.cell?_setCell_other w p q u (Ne.symm hn)).trans h
theorem keep_offN {w : World} {n : Nat} {p q : Addr} {u v : Value} (h : w.cell? q = some v) (hn : q ≠ p) : ((w.drewN n).setCell p u).cell? q = some v := keep_off (w := w.drewN n) h hn
/-- The world but for block g. -/
structure Only (g : Nat) (w w' : World) : Prop where
  os : w'.os = w.os
  tape : w'.tape = w.tape
  output : w'.output = w.output
  size : w.heap.size ≤ w'.heap.size
  block : ∀ k, k < w.heap.size → k ≠ g → w'.heap[k]? = w.heap[k]?
theorem Only.refl (g : Nat) (w : World) : Only g w w := ⟨rfl, rfl, rfl, Nat.le_refl _, fun _ _ _ => rfl⟩
theorem Only.trans {g : Nat} {a b c : World} (h : Only g a b) (k : Only g b c) : Only g a c :=
  ⟨k.os.trans h.os, k.tape.trans h.tape, k.output.trans h.output, Nat.le_trans h.size k.size, fun i hi hg => (k.block i (Nat.lt_of_lt_of_le hi h.size) hg).trans (h.block i hi hg)⟩
theorem Only.of {g : Nat} {a b : World} (h : Below a.heap.size a b) : Only g a b := ⟨h.os, h.tape, h.output, h.size, fun i hi _ => h.block i hi⟩
theorem Only.below {B g : Nat} {a b : World} (h : Only g a b) (hB : B ≤ g) (hs : B ≤ a.heap.size) : Below B a b := ⟨h.os, h.tape, h.output, h.size, fun i hi => h.block i (by omega) (by omega)⟩
theorem Only.setCell {g : Nat} {a w : World} (h : Only g a w) {p : Addr} (hp : p.block = g) (u : Value) : Only g a (w.setCell p u) :=
  ⟨h.os, h.tape, h.output, by have := h.size; simpa [World.setCell] using this, fun i hi hg => (Below.heap_setCell w p u i (by rw [hp]; exact hg)).trans (h.block i hi hg)⟩
theorem Only.drew {g : Nat} {a w : World} (h : Only g a w) : Only g a w.drew := ⟨h.os, h.tape, h.output, h.size, h.block⟩
theorem Only.of_drew {g : Nat} {a w : World} (h : Only g a.drew w) : Only g a w := ⟨h.os, h.tape, h.output, h.size, h.block⟩
theorem Only.cell {g : Nat} {w w' : World} (h : Only g w w') {p : Addr} {v : Value} (hc : w.cell? p = some v) (hp : p.block ≠ g) : w'.cell? p = some v :=
  (World.cell?_of_block (w := w) (h.block p.block (World.block_lt_of_cell? _ _ hc) hp)).trans hc
theorem ext_drop (s : List UInt8) (k : Nat) : (⟨s.toArray⟩ : ByteArray).extract k s.length = ⟨(s.drop k).toArray⟩ := by
  rw [Lib.extract_eq]
  simp only
  rw [List.take_of_length_le (by simp)]
end Go.Proofs.YtkdecmijnojhoaaDoor
namespace Go.Proofs.YtkdecmijnojhoaaDoor
open Go.RowKit Go.MapKept
open Go.ChangeMaps (setBlock heap_setBlock_same heap_setBlock_other)
open Go.Maps (Keyed)

/-- The world but for the blocks of F. -/
structure Out (F : Nat → Prop) (w w' : World) : Prop where
  os : w'.os = w.os
  tape : w'.tape = w.tape
  output : w'.output = w.output
  size : w.heap.size ≤ w'.heap.size
  block : ∀ k, k < w.heap.size → ¬ F k → w'.heap[k]? = w.heap[k]?
theorem Out.refl (F : Nat → Prop) (w : World) : Out F w w := ⟨rfl, rfl, rfl, Nat.le_refl _, fun _ _ _ => rfl⟩
theorem Out.trans {F : Nat → Prop} {a b c : World} (h : Out F a b) (k : Out F b c) : Out F a c :=
  ⟨k.os.trans h.os, k.tape.trans h.tape, k.output.trans h.output, Nat.le_trans h.size k.size, fun i hi hg => (k.block i (Nat.lt_of_lt_of_le hi h.size) hg).trans (h.block i hi hg)⟩
theorem Out.mono {F G : Nat → Prop} {a b : World} (h : Out F a b) (hi : ∀ k, k < a.heap.size → F k → G k) : Out G a b :=
  ⟨h.os, h.tape, h.output, h.size, fun i hl hg => h.block i hl (fun hf => hg (hi i hl hf))⟩
theorem Out.of {F : Nat → Prop} {a b : World} (h : Below a.heap.size a b) : Out F a b := ⟨h.os, h.tape, h.output, h.size, fun i hi _ => h.block i hi⟩
theorem Out.below {B : Nat} {F : Nat → Prop} {a b : World} (h : Out F a b) (hB : ∀ k, F k → B ≤ k) (hs : B ≤ a.heap.size) : Below B a b :=
  ⟨h.os, h.tape, h.output, h.size, fun i hi => h.block i (by omega) (fun hf => absurd (hB i hf) (by omega))⟩
theorem Out.drew {F : Nat → Prop} {a w : World} (h : Out F a w) : Out F a w.drew := ⟨h.os, h.tape, h.output, h.size, h.block⟩
theorem Out.of_drew {F : Nat → Prop} {a w : World} (h : Out F a.drew w) : Out F a w := ⟨h.os, h.tape, h.output, h.size, h.block⟩
theorem Out.alloc {F : Nat → Prop} {a w : World} (h : Out F a w) (o : Obj) : Out F a (w.alloc o) := h.trans (Out.of ((Below.refl _ w).alloc (Nat.le_refl _) o))
theorem Out.setCell {F : Nat → Prop} {a w : World} (h : Out F a w) {p : Addr} (hp : F p.block) (u : Value) : Out F a (w.setCell p u) :=
  ⟨h.os, h.tape, h.output, by have := h.size; simpa [World.setCell] using this, fun i hi hg => (Below.heap_setCell w p u i (fun e => hg (e ▸ hp))).trans (h.block i hi hg)⟩
theorem Out.grown {F : Nat → Prop} {w w' : World} {row : Option Nat} (h : w.grownBy w' row) (hr : ∀ k, row = some k → F k) : Out F w w' :=
  ⟨h.os, h.tape, h.output, h.size, fun i hi hg => h.block i hi (fun e => hg (hr i e.symm))⟩
theorem Out.heap {F : Nat → Prop} {w w' : World} (h : Out F w w') {k : Nat} {o : Obj} (hk : w.heap[k]? = some o) (hF : ¬ F k) : w'.heap[k]? = some o := (h.block k (lt_of_heap hk) hF).trans hk
theorem Out.cell {F : Nat → Prop} {w w' : World} (h : Out F w w') {p : Addr} {v : Value} (hc : w.cell? p = some v) (hp : ¬ F p.block) : w'.cell? p = some v :=
  (World.cell?_of_block (w := w) (h.block p.block (World.block_lt_of_cell? _ _ hc) hp)).trans hc

/-- Block b is a map of these entries, in the order in which they came. -/
def MapIs (w : World) (b : Nat) (E : List (Value × Value)) : Prop :=
  ∃ es clock, w.heap[b]? = some (.map es clock) ∧ es.toList.map (fun e => (e.key, e.val)) = E
theorem MapIs.lt {w : World} {b : Nat} {E : List (Value × Value)} (h : MapIs w b E) : b < w.heap.size := by
  obtain ⟨_, _, h1, _⟩ := h; exact lt_of_heap h1
theorem MapIs.made (w : World) (b : Nat) (h : b = w.heap.size) : MapIs (w.alloc (.map #[] 0)) b [] := ⟨#[], 0, heap_new_at w _ _ h, rfl⟩
theorem MapIs.out {F : Nat → Prop} {w w' : World} {b : Nat} {E : List (Value × Value)} (h : MapIs w b E) (ho : Out F w w') (hF : ¬ F b) : MapIs w' b E := by
  obtain ⟨es, clock, h1, h2⟩ := h
  exact ⟨es, clock, ho.heap h1 hF, h2⟩
theorem MapIs.drew {w : World} {b : Nat} {E : List (Value × Value)} (h : MapIs w b E) : MapIs w.drew b E := h
theorem MapIs.alloc {w : World} {b : Nat} {E : List (Value × Value)} (h : MapIs w b E) (o : Obj) : MapIs (w.alloc o) b E := by
  obtain ⟨es, clock, h1, h2⟩ := h
  exact ⟨es, clock, heap_old_at o h1, h2⟩
theorem MapIs.look {P : Program} {w : World} {b : Nat} {E : List (Value × Value)} {k t e : TypeId} (h : MapIs w b E) (K : Keyed P k) (ht : P.underlying t = some (.map k e))
    (hks : ∀ p ∈ E, ∃ l, keyOf P k p.1 = some l) {key : Value} {kl : Lit} (hkey : keyOf P k key = some kl) (c : Bool) {z : Value} (hz : (zeroValue e).run P w = .ok z w) :
    ((Instr.lookup t (.map (some b)) key c).run P w = .ok (if c then .tuple #[z, .bool false] else z) w ∧ ∀ p ∈ E, p.1 ≠ key) ∨
    ∃ v, (key, v) ∈ E ∧ (Instr.lookup t (.map (some b)) key c).run P w = .ok (if c then .tuple #[v, .bool true] else v) w := by
  obtain ⟨es, clock, hb, rfl⟩ := h
  have hk' : ∀ x ∈ es.toList, ∃ l, keyOf P k x.key = some l := fun x hx => hks (x.key, x.val) (List.mem_map.2 ⟨x, hx, rfl⟩)
  rcases K.find w hkey es.toList hk' with ⟨h1, h2⟩ | ⟨j, e0, h1, h2, h3⟩
  · refine Or.inl ⟨by simp [Instr.lookup, run_underlying ht, MapKept.run_getObj_map hb, K.check w _ hkey, h1, hz, Result.andThen], ?_⟩
    intro p hp
    obtain ⟨x, hx, rfl⟩ := List.mem_map.1 hp
    exact h2 x hx
  · refine Or.inr ⟨e0.val, List.mem_map.2 ⟨e0, List.mem_of_getElem? h2, by rw [h3]⟩, ?_⟩
    simp [Instr.lookup, run_underlying ht, MapKept.run_getObj_map hb, K.check w _ hkey, h1, Result.andThen]
theorem MapIs.look_none {P : Program} {w : World} {b : Nat} {E : List (Value × Value)} {k t e : TypeId} (h : MapIs w b E) (K : Keyed P k) (ht : P.underlying t = some (.map k e))
    (hks : ∀ p ∈ E, ∃ l, keyOf P k p.1 = some l) {key : Value} {kl : Lit} (hkey : keyOf P k key = some kl) (c : Bool) {z : Value} (hz : (zeroValue e).run P w = .ok z w) (hno : ∀ p ∈ E, p.1 ≠ key) :
    (Instr.lookup t (.map (some b)) key c).run P w = .ok (if c then .tuple #[z, .bool false] else z) w := by
  rcases h.look K ht hks hkey c hz with ⟨h1, _⟩ | ⟨v, hv, _⟩
  · exact h1
  · exact absurd rfl (hno _ hv)
theorem MapIs.store {P : Program} {w : World} {b : Nat} {E : List (Value × Value)} {k t e : TypeId} (h : MapIs w b E) (K : Keyed P k) (ht : P.underlying t = some (.map k e))
    (hks : ∀ p ∈ E, ∃ l, keyOf P k p.1 = some l) {key : Value} {kl : Lit} (hkey : keyOf P k key = some kl) (hno : ∀ p ∈ E, p.1 ≠ key) (val : Value) :
    ∃ w', (Instr.mapUpdate t (.map (some b)) key val).run P w = .ok () w' ∧ MapIs w' b (E ++ [(key, val)]) ∧ Out (fun i => i = b) w w' ∧ w'.heap.size = w.heap.size := by
  obtain ⟨es, clock, hb, rfl⟩ := h
  have hk' : ∀ x ∈ es.toList, ∃ l, keyOf P k x.key = some l := fun x hx => hks (x.key, x.val) (List.mem_map.2 ⟨x, hx, rfl⟩)
  rcases K.find w hkey es.toList hk' with ⟨h1, h2⟩ | ⟨j, e0, h1, h2, h3⟩
  · refine ⟨setBlock w b (.map (es.push ⟨key, val, clock⟩) (clock + 1)), ?_, ⟨_, _, heap_setBlock_same hb _, by simp⟩, ⟨rfl, rfl, rfl, by simp [setBlock], fun i _ hi => heap_setBlock_other hb _ hi⟩, by simp [setBlock]⟩
    simp [Instr.mapUpdate, run_underlying ht, MapKept.run_getObj_map hb, K.check w false hkey, h1, MapKept.run_setObj_map _ hb, Result.andThen, setBlock]
  · exact absurd h3 (hno (e0.key, e0.val) (List.mem_map.2 ⟨e0, List.mem_of_getElem? h2, rfl⟩))

theorem str_inj {a b : List UInt8} (h : Value.string ⟨a.toArray⟩ = .string ⟨b.toArray⟩) : a = b := by
  injection h with h; injection h with h; exact List.toArray_inj h
theorem cellsS : Tryd.prog.cellsOf 9 = 1 := by kernel_rfl
theorem own_form {w : World} {B : Nat} {e : TypeId} {z : Nat} {s : Value} {n : Nat} {xs : List Value} (h : w.ownsRow B e z s n xs) : ∃ A cap, s = .slice A n cap := by
  rcases h.2 with ⟨rfl, rfl⟩ | ⟨k, cap, cur, rfl, _⟩
  · exact ⟨none, 0, rfl⟩
  · exact ⟨_, cap, rfl⟩
theorem row_out {G : Nat → Prop} {w w' : World} {B : Nat} {e : TypeId} {z : Nat} {s : Value} {n : Nat} {xs : List Value} (h : w.ownsRow B e z s n xs) (ho : Out G w w') (hd : ∀ k cs t f, G k → w.heap[k]? ≠ some (.cells cs t f)) : w'.ownsRow B e z s n xs := by
  refine ⟨h.1, ?_⟩
  rcases h.2 with hn | ⟨k, cap, cur, hv, hb, hk, hr⟩
  · exact Or.inl hn
  · exact Or.inr ⟨k, cap, cur, hv, hb, ho.heap hk (fun hg => hd k _ _ _ hg hk), hr⟩
end Go.Proofs.YtkdecmijnojhoaaDoor
namespace Go.Proofs.YtkdecmijnojhoaaDoor.Code

def sz (n : Nat) : Nat := if _h : n = 0 then 0 else sz (n / 256) + 1
def be : Nat → Nat → List UInt8
  | 0, _ => []
  | k + 1, n => be k (n / 256) ++ [UInt8.ofNat (n % 256)]
def numL (n : Nat) : List UInt8 := UInt8.ofNat (sz n) :: be (sz n) n
def textL (s : List UInt8) : List UInt8 := numL s.length ++ s
def val (l : List UInt8) : Nat := l.foldl (fun a d => a * 256 + d.toNat) 0
def lenN (n : Nat) : Nat := if n = 0 then 0 else n.log2 + 1

theorem sz_zero : sz 0 = 0 := by rw [sz]; simp
theorem sz_pos (n : Nat) (h : n ≠ 0) : sz n = sz (n / 256) + 1 := by rw [sz]; simp [h]
theorem be_length (k n : Nat) : (be k n).length = k := by
  induction k generalizing n with
  | zero => rfl
  | succ k ih => simp [be, ih]
theorem be_step (k i n : Nat) (h : i < k) : be i (n / 256 ^ (k - i)) ++ [UInt8.ofNat (n / 256 ^ (k - 1 - i) % 256)] = be (i + 1) (n / 256 ^ (k - (i + 1))) := by
  have e : k - i = (k - (i + 1)) + 1 := by omega
  have e2 : k - 1 - i = k - (i + 1) := by omega
  rw [be, e, e2, Nat.pow_succ, ← Nat.div_div_eq_div_mul]
theorem sz_iff (n : Nat) : ∀ k, (n < 256 ^ k ∧ (k ≠ 0 → 256 ^ (k - 1) ≤ n)) → sz n = k := by
  induction n using Nat.strongRecOn with
  | _ n ih =>
    intro k ⟨h1, h2⟩
    by_cases h : n = 0
    · subst h
      rw [sz_zero]
      by_cases hk : k = 0
      · exact hk.symm
      · have := h2 hk
        have p : 0 < 256 ^ (k - 1) := Nat.pow_pos (by omega)
        omega
    · rw [sz_pos n h]
      obtain ⟨j, rfl⟩ : ∃ j, k = j + 1 := by
        cases k with
        | zero => simp at h1; omega
        | succ j => exact ⟨j, rfl⟩
      have h3 := h2 (by omega)
      simp at h3
      rw [ih (n / 256) (by omega) j ⟨?_, ?_⟩]
      · rw [Nat.pow_succ] at h1; omega
      · intro hj
        obtain ⟨i, rfl⟩ : ∃ i, j = i + 1 := ⟨j - 1, by omega⟩
        rw [Nat.pow_succ] at h3
        simp
        omega
theorem sz_bounds (n : Nat) : n < 256 ^ sz n ∧ (sz n ≠ 0 → 256 ^ (sz n - 1) ≤ n) := by
  induction n using Nat.strongRecOn with
  | _ n ih =>
    by_cases h : n = 0
    · subst h; simp [sz_zero]
    · rw [sz_pos n h]
      obtain ⟨h1, h2⟩ := ih (n / 256) (by omega)
      refine ⟨?_, fun _ => ?_⟩
      · rw [Nat.pow_succ]; omega
      · simp
        by_cases h0 : sz (n / 256) = 0
        · rw [h0]; simp; omega
        · have h3 := h2 h0
          obtain ⟨i, hi⟩ : ∃ i, sz (n / 256) = i + 1 := ⟨sz (n / 256) - 1, by omega⟩
          rw [hi] at h3 ⊢
          simp at h3
          rw [Nat.pow_succ]; omega
theorem sz_le8 (n : Nat) (h : n < 2 ^ 64) : sz n ≤ 8 := by
  have ⟨_, h2⟩ := sz_bounds n
  by_cases hk : sz n ≤ 8
  · exact hk
  · have h3 := h2 (by omega)
    have := Nat.pow_le_pow_right (n := 256) (by omega) (show 8 ≤ sz n - 1 by omega)
    have e : (256 : Nat) ^ 8 = 2 ^ 64 := by decide
    omega
theorem len_bounds (n : Nat) : n < 2 ^ lenN n ∧ (lenN n ≠ 0 → 2 ^ (lenN n - 1) ≤ n) := by
  unfold lenN
  by_cases h : n = 0
  · simp [h]
  · simp only [h, if_false, Nat.add_sub_cancel]
    exact ⟨Nat.lt_log2_self, fun _ => Nat.log2_self_le h⟩
theorem len_sz (n : Nat) : (lenN n + 7) / 8 = sz n := by
  refine (sz_iff n _ ⟨?_, fun hk => ?_⟩).symm
  · refine Nat.lt_of_lt_of_le (len_bounds n).1 ?_
    rw [show (256 : Nat) = 2 ^ 8 by decide, ← Nat.pow_mul]
    exact Nat.pow_le_pow_right (by omega) (by omega)
  · refine Nat.le_trans ?_ ((len_bounds n).2 (by omega))
    rw [show (256 : Nat) = 2 ^ 8 by decide, ← Nat.pow_mul]
    exact Nat.pow_le_pow_right (by omega) (by omega)
theorem len_shift (n j : Nat) (h : 2 ^ j ≤ n) : lenN n = j + lenN (n / 2 ^ j) := by
  have p : 0 < 2 ^ j := Nat.pow_pos (by omega)
  have hq : n / 2 ^ j ≠ 0 := by have := Nat.div_pos h p; omega
  have hn : n ≠ 0 := by omega
  unfold lenN
  simp only [hn, hq, if_false]
  have a := Nat.log2_self_le hq
  have b := Nat.lt_log2_self (n := n / 2 ^ j)
  have e : n.log2 = j + (n / 2 ^ j).log2 := by
    rw [Nat.log2_eq_iff hn]
    rw [Nat.pow_add]
    refine ⟨?_, ?_⟩
    · have := (Nat.le_div_iff_mul_le p).1 a
      rw [Nat.mul_comm]; exact this
    · have := (Nat.div_lt_iff_lt_mul p).1 b
      rw [Nat.add_assoc, Nat.pow_add, Nat.mul_comm]; exact this
  omega
theorem ofNat_toNat (n : Nat) (h : n < 256) : (UInt8.ofNat n).toNat = n := by simp; omega
/-- What the program's lead tells of bytes: the number, how many bytes it takes, the code. -/
def bad (k : Nat) (d : List UInt8) : Bool := (decide (0 < k) && (d.headD 0).toNat == 0) || (k == 8 && decide (128 ≤ (d.headD 0).toNat))
theorem numL_length (n : Nat) : (numL n).length = 1 + sz n := by simp [numL, be_length]; omega
end Go.Proofs.YtkdecmijnojhoaaDoor.Code
namespace Go.Proofs.YtkdecmijnojhoaaDoor
open Go.RowKit

def Strs (w : World) (v : Value) (L : List (List UInt8)) : Prop :=
  ∃ (A : Option Addr) (cap : Nat), v = .slice A L.length cap ∧ ∀ i (h : i < L.length), ∃ a, A = some a ∧ w.cell? (a.add i) = some (.string ⟨L[i].toArray⟩)
theorem Strs.below {w w' : World} {v : Value} {L : List (List UInt8)} (h : Strs w v L) (hb : Below w.heap.size w w') : Strs w' v L := by
  obtain ⟨A, cap, rfl, hc⟩ := h
  refine ⟨A, cap, rfl, fun i hi => ?_⟩
  obtain ⟨a, ha, hcell⟩ := hc i hi
  exact ⟨a, ha, (hb.cell (World.block_lt_of_cell? _ _ hcell)).trans hcell⟩
theorem Strs.nil (w : World) : Strs w (.slice none 0 0) [] := ⟨none, 0, rfl, fun i h => absurd h (Nat.not_lt_zero i)⟩
end Go.Proofs.YtkdecmijnojhoaaDoor
namespace Go.Proofs.YtkdecmijnojhoaaDoor
open Go.RowKit Go.ChangeShapes Go.WideShapes

end Go.Proofs.YtkdecmijnojhoaaDoor
namespace Go.Proofs.YtkdecmijnojhoaaDoor
open Go.RowKit

def scells (L : List (List UInt8)) : List Value := L.map fun l => .string ⟨l.toArray⟩
theorem scells_length (L : List (List UInt8)) : (scells L).length = L.length := by simp [scells]
/-- A row of texts of the call's own, in a block from B on. -/
def Own (w : World) (B : Nat) (s : Value) (L : List (List UInt8)) : Prop := w.ownsRow B 9 1 s L.length (scells L)
theorem Own.nil (w : World) (B : Nat) : Own w B (.slice none 0 0) [] := ⟨rfl, Or.inl ⟨rfl, rfl⟩⟩
theorem Own.below {w w' : World} {B : Nat} {s : Value} {L : List (List UInt8)} (h : Own w B s L) (hb : Below w.heap.size w w') : Own w' B s L :=
  row_out (G := fun _ => False) h (Out.of hb) (fun _ _ _ _ hf => hf.elim)
theorem Own.lt {w : World} {B : Nat} {s : Value} {L : List (List UInt8)} (h : Own w B s L) (k : Nat) (hk : s.ownBlock = some k) : B ≤ k ∧ k < w.heap.size := World.ownsRow.lt h k hk
end Go.Proofs.YtkdecmijnojhoaaDoor
