/- ReadSt, ReadTm, PowMath, Rise, StrClone, PowBase, PowTotal, CodeText, DigMath, ShaSumMath, ShaRot, ShaBase -/
import Derived.Test.YtlckcfpdiigjiaaGreatDoorPk01
import Derived.Test.YtlckcfpdiigjiaaGreatDoorChecked
import GoSem.Op.String
import Derived.Deep.RegionWith
import Derived.Deep.Slices
import Derived.DataReads
import Derived.OpenShut
import Derived.SizedLaws
import Derived.Lib.LaidU8
import Derived.Deep.QuietTactic
import Derived.WalkSpells
import Derived.WalkLawsBesides
import Derived.Lib.Strings
import Derived.Lib.Hide
import Derived.Deep.RegionLaw
import Derived.Deep.AppendLies
import Derived.Lib.AppendStr
import Derived.WalkKit
import Derived.Test.YtlckcfpdiigjiaaGreatDoorProg
import Derived.BigQuiet
import Derived.Deep.WholeRow
import Derived.Deep.MidRow
import Derived.Laws.CopyOwn
import Derived.Deep.RegionHeld3
import Derived.Deep.DrawnRows
import Derived.Deep.Cut
import Derived.Deep.CutRange
namespace Go.Proofs.YtlckcfpdiigjiaaGreatDoor

abbrev Pw.St := List UInt8 × Int
def Pw.rdN (st : Pw.St) : Nat × Pw.St := if st.2 ≠ 0 then (0, st) else ((Code.countL 9223372036854775807 st.1).1, (Code.countL 9223372036854775807 st.1).2.1, (Code.countL 9223372036854775807 st.1).2.2)
def Pw.rdT (st : Pw.St) : List UInt8 × Pw.St := if st.2 ≠ 0 then ([], st) else ((Code.textR 6 st.1).1, (Code.textR 6 st.1).2.1, (Code.textR 6 st.1).2.2)
def Pw.endC (st : Pw.St) : Int := if st.2 = 0 ∧ st.1 ≠ [] then 3 else st.2
theorem Pw.rdN_le (st : Pw.St) : (Pw.rdN st).2.1.length ≤ st.1.length := by
  unfold Pw.rdN
  split
  · exact Nat.le_refl _
  · exact count_rest _ _
theorem Pw.rdN_num (n : Nat) (r : List UInt8) (h : n < 2 ^ 63) : Pw.rdN (Code.numL n ++ r, 0) = (n, r, 0) := by
  have h1 := Code.count_num 9223372036854775807 n r h (by omega)
  simp [Pw.rdN, h1]
end Go.Proofs.YtlckcfpdiigjiaaGreatDoor
namespace Go.Proofs.YtlckcfpdiigjiaaGreatDoor
open Go.RowKit

theorem Only.out {g : Nat} {w w' : World} (h : Only g w w') : Out (fun k => k = g) w w' := ⟨h.os, h.tape, h.output, h.size, h.block⟩
theorem rnum_st (st : Pw.St) (g : Nat) (w : World) (h : Rd w g st.1 st.2) (hl : st.1.length ≤ 100000000) :
    Calls Tryz.prog 44 #[.pointer (some ⟨g, 0, none⟩)] w fun e w' => e = .returned (.int .i64 ((Pw.rdN st).1 : Nat)) ∧ Rd w' g (Pw.rdN st).2.1 (Pw.rdN st).2.2 ∧ Only g w w' := by
  unfold Pw.rdN
  by_cases hc : st.2 = 0
  · rw [if_neg (by simpa using hc)]
    rw [hc] at h
    exact rnum_any st.1 g w h hl
  · rw [if_pos hc]
    go_enter Tryz.func44, Tryz.ntmps44
    go_wp2_with fail
    refine (count_stuck 9223372036854775807 st.1 st.2 g w h hc).mono ?_
    rintro e w1 ⟨rfl, rfl⟩
    go_wp2
    go_ret
    exact ⟨rfl, h, Only.refl _ _⟩
theorem rend_st (st : Pw.St) (g : Nat) (w : World) (h : Rd w g st.1 st.2) :
    Calls Tryz.prog 45 #[.pointer (some ⟨g, 0, none⟩)] w fun e w' => e = .returned (.int .i64 (Pw.endC st)) ∧ Only g w w' := by
  obtain ⟨s, c⟩ := st
  dsimp only at h
  have h0 := h.left
  have h1 := h.code
  have hf1 := h.free1
  unfold Pw.endC
  dsimp only
  by_cases hc : c = 0
  · subst hc
    cases s with
    | nil =>
      rw [if_neg (by simp)]
      go_enter Tryz.func45, Tryz.ntmps45
      go_wp2
      go_ret
      exact ⟨rfl, Only.refl _ _⟩
    | cons a s =>
      rw [if_pos (by simp)]
      have hrd := (h.setCode 3).code
      go_enter Tryz.func45, Tryz.ntmps45
      go_wp2
      go_ret
      exact ⟨rfl, (Only.refl g _).setCell rfl _⟩
  · rw [if_neg (fun h => hc h.1)]
    have hc1 : (c == 0) = false := by rw [beq_eq_false_iff_ne]; exact hc
    go_enter Tryz.func45, Tryz.ntmps45
    go_wp2
    go_ret
    exact ⟨rfl, Only.refl _ _⟩
theorem row_keep {G : Nat → Prop} {w w' : World} {B : Nat} {e : TypeId} {z : Nat} {s : Value} {n : Nat} {xs : List Value} (h : w.ownsRow B e z s n xs) (ho : Out G w w') (hd : ∀ k, s.ownBlock = some k → ¬ G k) : w'.ownsRow B e z s n xs := by
  refine ⟨h.1, ?_⟩
  rcases h.2 with hn | ⟨k, cap, cur, hv, hb, hk, hr⟩
  · exact Or.inl hn
  · exact Or.inr ⟨k, cap, cur, hv, hb, ho.heap hk (hd k (by rw [hv]; rfl)), hr⟩
end Go.Proofs.YtlckcfpdiigjiaaGreatDoor
namespace Go.Proofs.YtlckcfpdiigjiaaGreatDoor

def Tm.rdT (most : Int) (st : Pw.St) : List UInt8 × Pw.St := if st.2 ≠ 0 then ([], st) else ((Code.textR most st.1).1, (Code.textR most st.1).2.1, (Code.textR most st.1).2.2)
end Go.Proofs.YtlckcfpdiigjiaaGreatDoor
namespace Go.Proofs.YtlckcfpdiigjiaaGreatDoor.Pw

abbrev S := List UInt8
structure M where
  name : S
  power : Int
instance : Inhabited M := ⟨⟨[], 0⟩⟩
theorem M.ext' {a b : M} (h : a.name = b.name) (k : a.power = b.power) : a = b := by cases a; cases b; simp_all
instance : DecidableEq M := fun a b =>
  if h : a.name = b.name ∧ a.power = b.power then isTrue (M.ext' h.1 h.2) else isFalse (fun e => h (by subst e; exact ⟨rfl, rfl⟩))

def okM (p : S) (m : M) : Bool := decide (p < m.name) && decide (m.name.length ≤ 6) && decide (1 ≤ m.power) && decide (m.power ≤ 1000)
def okFrom : S → List M → Bool
  | _, [] => true
  | p, m :: t => okM p m && okFrom m.name t
def okL (L : List M) : Bool := decide (1 ≤ L.length) && decide (L.length ≤ 7) && okFrom [] L
def checkC (L : List M) : Int := if okL L then 0 else 50
def lastOf (p : S) (L : List M) : S := L.foldl (fun _ m => m.name) p
theorem lastOf_snoc (p : S) (L : List M) (m : M) : lastOf p (L ++ [m]) = m.name := by simp [lastOf]
theorem okFrom_append (p : S) (A B : List M) : okFrom p (A ++ B) = (okFrom p A && okFrom (lastOf p A) B) := by
  induction A generalizing p with
  | nil => rfl
  | cons m A ih => simp only [List.cons_append, okFrom, ih, Bool.and_assoc, lastOf, List.foldl_cons]
theorem okFrom_take (L : List M) (k : Nat) (h : k < L.length) : okFrom [] (L.take (k + 1)) = (okFrom [] (L.take k) && okM (lastOf [] (L.take k)) L[k]) := by
  rw [List.take_succ_eq_append_getElem h, okFrom_append]
  simp [okFrom]
theorem okFrom_bad (L : List M) (k : Nat) (h : k < L.length) (hb : okM (lastOf [] (L.take k)) L[k] = false) : okFrom [] L = false := by
  rw [← List.take_append_drop k L, okFrom_append, List.drop_eq_getElem_cons h]
  simp [okFrom, hb]
theorem lastOf_take (L : List M) (k : Nat) (h : k < L.length) : lastOf [] (L.take (k + 1)) = L[k].name := by
  rw [List.take_succ_eq_append_getElem h, lastOf_snoc]
theorem lt_nil (s : S) : ([] < s) ↔ s ≠ [] := by cases s <;> simp
/-- What a set that may be is. -/
theorem okFrom_mem {p : S} {L : List M} (h : okFrom p L = true) : ∀ m ∈ L, p < m.name ∧ m.name.length ≤ 6 ∧ 1 ≤ m.power ∧ m.power ≤ 1000 := by
  induction L generalizing p with
  | nil => simp
  | cons a L ih =>
    simp only [okFrom, okM, Bool.and_eq_true, decide_eq_true_eq] at h
    intro m hm
    rcases List.mem_cons.1 hm with rfl | hm
    · exact ⟨h.1.1.1.1, h.1.1.1.2, h.1.1.2, h.1.2⟩
    · have := ih h.2 m hm
      exact ⟨List.lt_trans h.1.1.1.1 this.1, this.2⟩
theorem okL_mem {L : List M} (h : okL L = true) : ∀ m ∈ L, m.name ≠ [] ∧ m.name.length ≤ 6 ∧ 1 ≤ m.power ∧ m.power ≤ 1000 := by
  simp only [okL, Bool.and_eq_true] at h
  intro m hm
  have := okFrom_mem h.2 m hm
  exact ⟨(lt_nil _).1 this.1, this.2⟩
theorem okL_len {L : List M} (h : okL L = true) : 1 ≤ L.length ∧ L.length ≤ 7 := by
  simp only [okL, Bool.and_eq_true, decide_eq_true_eq] at h
  exact h.1
def sumP (L : List M) : Int := L.foldr (fun m n => m.power + n) 0
def pick (L : List M) (names : List S) : List M := L.filter fun m => decide (m.name ∈ names)
def ofL (L : List M) (names : List S) : Nat := if okL L then (sumP (pick L names)).toNat else 0
def keepI (b : List S) (out : List S) (s : S) : List S := if s ∈ b ∧ s ∉ out then out ++ [s] else out
def uniq (a b : List S) : List S := a.foldl (keepI b) []
theorem snocInd {α : Type} {p : List α → Prop} (h0 : p []) (h1 : ∀ l d, p l → p (l ++ [d])) (l : List α) : p l := by
  have h : ∀ r : List α, p r.reverse := by
    intro r
    induction r with
    | nil => exact h0
    | cons d r ih => rw [List.reverse_cons]; exact h1 _ _ ih
  have := h l.reverse
  rwa [List.reverse_reverse] at this
def both (a b : List S) : List S := (uniq a b).mergeSort fun x y => decide (x ≤ y)
end Go.Proofs.YtlckcfpdiigjiaaGreatDoor.Pw
namespace Go.Proofs.YtlckcfpdiigjiaaGreatDoor.Sto
abbrev T := List UInt8
abbrev St := List (T × T)
def Rising (S : St) : Prop := S.Pairwise fun a b => a.1 < b.1
def look : St → T → Option T
  | [], _ => none
  | a :: r, x => if x = a.1 then some a.2 else look r x
def put : St → T → T → St
  | [], k, t => [(k, t)]
  | a :: r, k, t => if k = a.1 then a :: r else if k < a.1 then (k, t) :: a :: r else a :: put r k t
def keys (S : St) : List T := S.map (·.1)

theorem tri (x y : T) : x < y ∨ x = y ∨ y < x := by
  by_cases h : x < y
  · exact Or.inl h
  · rcases List.le_iff_lt_or_eq.1 (List.not_lt.1 h) with h | h
    · exact Or.inr (Or.inr h)
    · exact Or.inr (Or.inl h.symm)
theorem lt_ne {x y : T} (h : x < y) : x ≠ y := fun e => by subst e; exact List.lt_irrefl _ h
theorem look_isSome (S : St) (x : T) : (look S x).isSome = true ↔ x ∈ keys S := by
  induction S with
  | nil => simp [look, keys]
  | cons a r ih =>
    rw [look]
    by_cases e : x = a.1
    · rw [if_pos e]; simp [keys, e]
    · rw [if_neg e, ih]
      simp only [keys, List.map_cons, List.mem_cons]
      exact ⟨Or.inr, fun h => h.resolve_left e⟩
theorem look_none (S : St) (x : T) : look S x = none ↔ x ∉ keys S := by
  rw [← look_isSome]; cases look S x <;> simp
theorem look_mem {S : St} (hS : Rising S) (x t : T) : look S x = some t ↔ (x, t) ∈ S := by
  induction S with
  | nil => simp [look]
  | cons a r ih =>
    obtain ⟨h1, h2⟩ := List.pairwise_cons.1 hS
    rw [look]
    by_cases e : x = a.1
    · rw [if_pos e]
      constructor
      · intro h
        simp only [Option.some.injEq] at h
        exact List.mem_cons.2 (Or.inl (Prod.ext e h.symm))
      · intro h
        rcases List.mem_cons.1 h with h | h
        · rw [← h]
        · exact absurd e.symm (lt_ne (h1 _ h))
    · rw [if_neg e, ih h2]
      constructor
      · exact fun h => List.mem_cons_of_mem _ h
      · intro h
        rcases List.mem_cons.1 h with h | h
        · exact absurd (by rw [← h]) e
        · exact h
theorem look_at {S : St} (hS : Rising S) (i : Nat) (hi : i < S.length) : look S S[i].1 = some S[i].2 := (look_mem hS _ _).2 (List.getElem_mem hi)
theorem put_mem {S : St} {k t : T} {p : T × T} (h : p ∈ put S k t) : p ∈ S ∨ p = (k, t) := by
  induction S with
  | nil => simp [put] at h; exact Or.inr h
  | cons a r ih =>
    rw [put] at h
    split at h
    · exact Or.inl h
    · split at h
      · rcases List.mem_cons.1 h with h | h
        · exact Or.inr h
        · exact Or.inl h
      · rcases List.mem_cons.1 h with h | h
        · exact Or.inl (by rw [h]; exact List.mem_cons_self ..)
        · exact (ih h).imp (List.mem_cons_of_mem _) id
theorem put_rising {S : St} (hS : Rising S) (k t : T) : Rising (put S k t) := by
  induction S with
  | nil => simp [put, Rising]
  | cons a r ih =>
    obtain ⟨h1, h2⟩ := List.pairwise_cons.1 hS
    rw [put]
    split
    · exact hS
    · rename_i e
      split
      · rename_i l
        refine List.pairwise_cons.2 ⟨fun b hb => ?_, hS⟩
        rcases List.mem_cons.1 hb with rfl | hb
        · exact l
        · exact List.lt_trans l (h1 b hb)
      · rename_i l
        refine List.pairwise_cons.2 ⟨fun b hb => ?_, ih h2⟩
        rcases put_mem hb with hb | rfl
        · exact h1 b hb
        · exact ((tri k a.1).resolve_left l).resolve_left e
theorem look_put {S : St} (hS : Rising S) (k t x : T) : look (put S k t) x = if x = k then some ((look S k).getD t) else look S x := by
  induction S with
  | nil => simp only [put, look, Option.getD]
  | cons a r ih =>
    obtain ⟨h1, h2⟩ := List.pairwise_cons.1 hS
    rw [put]
    by_cases e : k = a.1
    · rw [if_pos e]
      by_cases ex : x = k
      · rw [if_pos ex, ex]
        simp only [look]
        rw [if_pos e]
        rfl
      · rw [if_neg ex]
    · rw [if_neg e]
      by_cases l : k < a.1
      · rw [if_pos l]
        have hn : look (a :: r) k = none := (look_none _ _).2 fun h => by
          obtain ⟨b, hb, e1⟩ := List.mem_map.1 h
          rcases List.mem_cons.1 hb with rfl | hb
          · exact e e1.symm
          · exact lt_ne (List.lt_trans l (h1 b hb)) e1.symm
        rw [hn]
        simp only [look, Option.getD]
      · rw [if_neg l]
        simp only [look]
        by_cases ex : x = a.1
        · have : x ≠ k := fun q => e (q.symm.trans ex)
          rw [if_pos ex, if_neg this, if_pos ex]
        · rw [if_neg ex, ih h2, if_neg e, if_neg ex]
theorem put_len (S : St) (k t : T) : (put S k t).length ≤ S.length + 1 := by
  induction S with
  | nil => simp [put]
  | cons a r ih =>
    rw [put]
    split
    · simp
    · split
      · simp
      · simp only [List.length_cons]; omega
end Go.Proofs.YtlckcfpdiigjiaaGreatDoor.Sto
namespace Go.Proofs.YtlckcfpdiigjiaaGreatDoor
theorem less_lt : ∀ (x y : List UInt8), Op.bytesLess x y = decide (x < y)
  | [], [] => by simp [Op.bytesLess]
  | _ :: _, [] => by simp [Op.bytesLess]
  | [], _ :: _ => by simp [Op.bytesLess]
  | a :: x, b :: y => by
    rw [Op.bytesLess, less_lt x y, Bool.eq_iff_iff]
    simp only [Bool.or_eq_true, Bool.and_eq_true, decide_eq_true_eq, beq_iff_eq, List.cons_lt_cons_iff]
end Go.Proofs.YtlckcfpdiigjiaaGreatDoor
namespace Go.Proofs.YtlckcfpdiigjiaaGreatDoor
open Go.RowKit

theorem size_list (s : List UInt8) : (⟨s.toArray⟩ : ByteArray).size = s.length := by simp [ByteArray.size]
theorem dclone_any (s : List UInt8) (w : World) (hl : s.length ≤ 140737488351232) :
    Calls Tryz.prog 31 #[.string ⟨s.toArray⟩] w fun e w' => e = .returned (.string ⟨s.toArray⟩) ∧ Below w.heap.size w w' := by
  go_enter Tryz.func31, Tryz.ntmps31
  go_wp2_with fail
  refine (shelf_clone ⟨s.toArray⟩ w (by rw [size_list]; omega)).mono ?_
  rintro e w1 ⟨rfl, hb⟩
  go_wp2
  go_ret
  exact ⟨rfl, hb⟩
end Go.Proofs.YtlckcfpdiigjiaaGreatDoor
namespace Go.Proofs.YtlckcfpdiigjiaaGreatDoor
open Go.RowKit Go.ChangeShapes Go.WideShapes
open Go.Proofs.YtlckcfpdiigjiaaGreatDoor.Pw (M)

def mcells (m : M) : List Value := [.string ⟨m.name.toArray⟩, .int .i64 m.power]
def mrows (L : List M) : List Value := L.flatMap mcells
theorem mrows_length (L : List M) : (mrows L).length = L.length * 2 := by
  induction L with
  | nil => rfl
  | cons a L ih => simp [mrows, mcells] at ih ⊢; omega
theorem mrows_append (L K : List M) : mrows (L ++ K) = mrows L ++ mrows K := by simp [mrows]
theorem mrows_cons (a : M) (L : List M) : mrows (a :: L) = .string ⟨a.name.toArray⟩ :: .int .i64 a.power :: mrows L := by simp [mrows, mcells]
theorem mrows_at (L : List M) (i j : Nat) (hi : i < L.length) (hj : j < 2) : (mrows L)[i * 2 + j]? = (mcells L[i])[j]? := by
  induction L generalizing i with
  | nil => simp at hi
  | cons a L ih =>
    have e : mrows (a :: L) = mcells a ++ mrows L := by simp [mrows]
    rw [e]
    cases i with
    | zero =>
      rw [List.getElem?_append_left (by simp [mcells]; omega)]
      simp
    | succ i =>
      rw [List.getElem?_append_right (by simp [mcells]; omega)]
      have : (i + 1) * 2 + j - (mcells a).length = i * 2 + j := by simp [mcells]; omega
      rw [this, ih i (by simpa using hi)]
      simp
theorem mrows_set (L : List M) (k : Nat) (m : M) (hk : k < L.length) :
    ((mrows L).set (k * 2) (.string ⟨m.name.toArray⟩)).set (k * 2 + 1) (.int .i64 m.power) = mrows (L.set k m) := by
  induction L generalizing k with
  | nil => simp at hk
  | cons a L ih =>
    rw [mrows_cons]
    cases k with
    | zero => simp [mrows_cons]
    | succ k =>
      have := ih k (by simpa using hk)
      rw [show (k + 1) * 2 = k * 2 + 2 by omega]
      simp only [List.set_cons_succ, mrows_cons]
      rw [this]
theorem cellsM : Tryz.prog.cellsOf 71 = 2 := by kernel_rfl
theorem Tryz.infoMember : (Tryz.prog.info? 71).map (fun i => (i.zero, i.size, i.bytes)) = some (some (.agg #[.string ⟨#[]⟩, .int .i64 0]), 2, 24) := by kernel_rfl
/-- A slice that has these members. -/
def Mems (w : World) (v : Value) (L : List M) : Prop :=
  ∃ (A : Option Addr) (cap : Nat), v = .slice A L.length cap ∧ (0 < L.length → ∃ b o, A = some ⟨b, o, none⟩ ∧ b < w.heap.size ∧ ∀ i (h : i < L.length),
    w.cell? ⟨b, o + i * 2, none⟩ = some (.string ⟨L[i].name.toArray⟩) ∧ w.cell? ⟨b, o + i * 2 + 1, none⟩ = some (.int .i64 L[i].power))
theorem Mems.nil (w : World) : Mems w (.slice none 0 0) [] := ⟨none, 0, rfl, fun h => absurd h (by simp)⟩
theorem Mems.below {w w' : World} {v : Value} {L : List M} (h : Mems w v L) (hb : Below w.heap.size w w') : Mems w' v L := by
  obtain ⟨A, cap, rfl, hc⟩ := h
  refine ⟨A, cap, rfl, fun h0 => ?_⟩
  obtain ⟨b, o, rfl, hlt, hcell⟩ := hc h0
  refine ⟨b, o, rfl, Nat.lt_of_lt_of_le hlt hb.size, fun i hi => ?_⟩
  obtain ⟨h1, h2⟩ := hcell i hi
  exact ⟨(hb.cell hlt).trans h1, (hb.cell hlt).trans h2⟩
theorem Mems.drew {w : World} {v : Value} {L : List M} (h : Mems w v L) : Mems w.drew v L := h.below (Below.refl _ w).drew
/-- One member's cells. -/
theorem Mems.at {w w' : World} {A : Option Addr} {n cap : Nat} {L : List M} (h : Mems w (.slice A n cap) L) (hb : Below w.heap.size w w') (k : Nat) (hk : k < L.length) :
    ∃ b o, A = some ⟨b, o, none⟩ ∧ w'.cell? ⟨b, o + k * 2, none⟩ = some (.string ⟨L[k].name.toArray⟩) ∧ w'.cell? ⟨b, o + k * 2 + 1, none⟩ = some (.int .i64 L[k].power) := by
  obtain ⟨A', cap', hv, hc⟩ := h.below hb
  obtain ⟨rfl, rfl, rfl⟩ : A = A' ∧ n = L.length ∧ cap = cap' := by simpa using hv
  obtain ⟨b, o, rfl, _, hcell⟩ := hc (by omega)
  exact ⟨b, o, rfl, hcell k hk⟩
theorem Mems.len {w : World} {A : Option Addr} {n cap : Nat} {L : List M} (h : Mems w (.slice A n cap) L) : n = L.length := by
  obtain ⟨A', cap', hv, _⟩ := h
  simp at hv
  exact hv.2.1
theorem Mems.form {w : World} {v : Value} {L : List M} (h : Mems w v L) : ∃ A cap, v = .slice A L.length cap := by
  obtain ⟨A, cap, rfl, _⟩ := h
  exact ⟨A, cap, rfl⟩
theorem mrow_cells {w : World} {B : Nat} {s : Value} {L : List M} (h : w.ownsRow B 71 2 s L.length (mrows L)) (k : Nat) (hk : k < L.length) :
    ∃ b cap, s = .slice (some ⟨b, 0, none⟩) L.length cap ∧ B ≤ b ∧ b < w.heap.size ∧ w.cell? ⟨b, k * 2, none⟩ = some (.string ⟨L[k].name.toArray⟩) ∧ w.cell? ⟨b, k * 2 + 1, none⟩ = some (.int .i64 L[k].power) := by
  obtain ⟨b, cap, hv, hB, hlt⟩ := h.form (by omega)
  have hc := h.cells (g := b) (by rw [hv]; rfl)
  refine ⟨b, cap, hv, hB, hlt, ?_, ?_⟩
  · have := hc (k * 2 + 0) _ (by rw [mrows_at L k 0 hk (by omega)]; rfl)
    rw [Addr.add_mid] at this; simpa using this
  · have := hc (k * 2 + 1) _ (by rw [mrows_at L k 1 hk (by omega)]; rfl)
    rw [Addr.add_mid] at this; simpa using this
theorem Mems.own {w : World} {B : Nat} {s : Value} {L : List M} (h : w.ownsRow B 71 2 s L.length (mrows L)) : Mems w s L := by
  obtain ⟨A, cap, rfl⟩ := own_form h
  refine ⟨A, cap, rfl, fun h0 => ?_⟩
  obtain ⟨b, cap', hv, _, hlt, _⟩ := mrow_cells h 0 h0
  obtain ⟨rfl, rfl⟩ : A = some ⟨b, 0, none⟩ ∧ cap = cap' := by simpa using hv
  refine ⟨b, 0, rfl, hlt, fun i hi => ?_⟩
  obtain ⟨b', cap', hv', _, _, h1, h2⟩ := mrow_cells h i hi
  obtain ⟨rfl, rfl⟩ : b = b' ∧ cap = cap' := by simpa using hv'
  rw [Nat.zero_add]
  exact ⟨h1, h2⟩

/-- A member that fits. -/
structure OkMem (m : M) : Prop where
  power : (Lit.int .i64 m.power).wf = true
  name : m.name.length ≤ 140737488351232
end Go.Proofs.YtlckcfpdiigjiaaGreatDoor
namespace Go.Proofs.YtlckcfpdiigjiaaGreatDoor
open Go.RowKit
open Go.Proofs.YtlckcfpdiigjiaaGreatDoor.Pw (M)

set_option maxRecDepth 8000 in
set_option maxHeartbeats 1000000 in
theorem check_any (L : List M) (v : Value) (w : World) (hv : Mems w v L) :
    Calls Tryz.prog 55 #[v] w fun e w' => e = .returned (.int .i64 (Pw.checkC L)) ∧ Below w.heap.size w w' := by
  have HV := Lib.hid hv
  obtain ⟨A, cap, rfl, -⟩ := hv
  obtain ⟨C, hC⟩ : ∃ C, Pw.checkC L = C := ⟨_, rfl⟩
  rw [hC]
  have HC := Lib.hid hC
  clear hC
  by_cases h0 : L.length = 0
  · obtain rfl : C = 50 := by rw [← HC.out]; simp [Pw.checkC, Pw.okL, h0]
    rw [h0]
    go_enter Tryz.func55, Tryz.ntmps55
    go_wp2
    go_ret
    exact ⟨rfl, Below.refl _ _⟩
  by_cases h7 : 7 < L.length
  · obtain rfl : C = 50 := by rw [← HC.out]; simp [Pw.checkC, Pw.okL]; intros; omega
    have h0' : ((L.length : Int) == 0) = false := by rw [beq_eq_false_iff_ne]; omega
    have h7' : (7 : Int) < (L.length : Int) := by omega
    go_enter Tryz.func55, Tryz.ntmps55
    go_wp2
    go_ret
    exact ⟨rfl, Below.refl _ _⟩
  have h0' : ((L.length : Int) == 0) = false := by rw [beq_eq_false_iff_ne]; omega
  have h7' : ¬ ((7 : Int) < (L.length : Int)) := by omega
  have HL : Hid (1 ≤ L.length ∧ L.length ≤ 7) := Lib.hid (by omega)
  clear h0 h7
  go_enter Tryz.func55, Tryz.ntmps55
  go_wp2
  go_loopw [3, 16] (fun s i wr => ∃ k : Nat, k ≤ L.length ∧ i = .int .i64 k ∧ s = .string ⟨(Pw.lastOf [] (L.take k)).toArray⟩ ∧ Pw.okFrom [] (L.take k) = true ∧ Below w.heap.size w wr) (fun _ i _ => L.length - (intOf i).toNat)
  case atStart => exact ⟨0, Nat.zero_le _, rfl, rfl, rfl, Below.refl _ _⟩
  case round =>
    obtain ⟨k, hk, rfl, rfl, hok, hb⟩ := hrel
    have HB := Lib.hid hb
    have HOK := Lib.hid hok
    clear hok hb
    by_cases hlt : k < L.length
    · have h1 : (k : Int) < (L.length : Int) := by omega
      have h0 : (0 : Int) ≤ (k : Int) := by omega
      obtain ⟨b, o, rfl, n0, n1⟩ := HV.out.at HB.out k hlt
      have HT := Lib.hid (Pw.okFrom_take L k hlt)
      have HBAD := Lib.hid (Pw.okFrom_bad L k hlt)
      have HLA := Lib.hid (Pw.lastOf_take L k hlt)
      obtain ⟨p, hp⟩ : ∃ p, Pw.lastOf [] (L.take k) = p := ⟨_, rfl⟩
      obtain ⟨⟨x, q⟩, hm⟩ : ∃ m, L[k] = m := ⟨_, rfl⟩
      rw [hp, hm] at HT HBAD
      rw [hp]
      rw [hm] at n0 n1 HLA
      clear hp hm
      dsimp only at n0 n1
      have HBN := Lib.hid (HB.out.alloc HB.out.size (.cells #[.string ⟨x.toArray⟩, .int .i64 q] 71))
      have HFAIL : Hid (Pw.okM p ⟨x, q⟩ = false → C = 50) := Lib.hid (fun h => by rw [← HC.out]; simp [Pw.checkC, Pw.okL, HBAD.out h])
      by_cases hA : p < x
      · have e1 : Op.bytesLess x p = false := by rw [less_lt]; simpa using List.le_of_lt hA
        have e2 : (x == p) = false := by rw [beq_eq_false_iff_ne]; rintro rfl; exact absurd hA (List.lt_irrefl _)
        have e2' : ¬ (x = p) := by rintro rfl; exact absurd hA (List.lt_irrefl _)
        have HA := Lib.hid hA
        clear hA
        by_cases h6 : 6 < x.length
        · obtain rfl : C = 50 := HFAIL.out (by simp [Pw.okM, HA.out]; omega)
          have h6' : (6 : Int) < (x.length : Int) := by omega
          go_wp2
          go_ret
          exact ⟨rfl, HBN.out⟩
        have h6' : ¬ ((6 : Int) < (x.length : Int)) := by omega
        by_cases hq1 : q < 1
        · obtain rfl : C = 50 := HFAIL.out (by simp [Pw.okM, HA.out]; omega)
          go_wp2
          go_ret
          exact ⟨rfl, HBN.out⟩
        by_cases hq2 : 1000 < q
        · obtain rfl : C = 50 := HFAIL.out (by simp [Pw.okM, HA.out]; omega)
          go_wp2
          go_ret
          exact ⟨rfl, HBN.out⟩
        have hM : Hid (Pw.okM p ⟨x, q⟩ = true) := Lib.hid (by simp [Pw.okM, HA.out]; omega)
        go_wp2
        refine ⟨⟨k + 1, by omega, by go_num, by rw [HLA.out], by rw [HT.out, HOK.out, hM.out]; rfl, HBN.out⟩, by simp [intOf]; omega⟩
      · obtain rfl : C = 50 := HFAIL.out (by simp [Pw.okM, hA])
        have hle : x ≤ p := List.not_lt.1 hA
        clear hA
        rcases List.le_iff_lt_or_eq.1 hle with hA | rfl
        · have e1 : Op.bytesLess x p = true := by rw [less_lt]; simpa using hA
          clear hA hle
          go_wp2
          go_ret
          exact ⟨rfl, HBN.out⟩
        · have e1 : Op.bytesLess x x = false := by rw [less_lt]; simp
          clear hle
          go_wp2
          go_ret
          exact ⟨rfl, HBN.out⟩
    · have h1 : ¬ ((k : Int) < (L.length : Int)) := by omega
      obtain rfl : k = L.length := by omega
      obtain rfl : C = 0 := by
        rw [← HC.out]
        have := HOK.out
        rw [List.take_length] at this
        have hL := HL.out
        simp [Pw.checkC, Pw.okL, this]
        omega
      go_wp2
      go_ret
      exact ⟨rfl, HB.out⟩
end Go.Proofs.YtlckcfpdiigjiaaGreatDoor
namespace Go.Proofs.YtlckcfpdiigjiaaGreatDoor
open Go.RowKit
open Go.Proofs.YtlckcfpdiigjiaaGreatDoor.Pw (M)

theorem Pw.checkC_ok {L : List M} (h : Pw.okL L = true) : Pw.checkC L = 0 := by simp [Pw.checkC, h]
theorem Pw.checkC_bad {L : List M} (h : Pw.okL L = false) : Pw.checkC L = 50 := by simp [Pw.checkC, h]

end Go.Proofs.YtlckcfpdiigjiaaGreatDoor
namespace Go.Proofs.YtlckcfpdiigjiaaGreatDoor
open Go.RowKit

theorem bitLenAux_eq (f n : Nat) (h : n < 2 ^ f) : Lib.bitLenAux f n = Code.lenN n := by
  induction f generalizing n with
  | zero => simp at h; subst h; rfl
  | succ f ih =>
    simp only [Lib.bitLenAux]
    by_cases h0 : n = 0
    · simp [h0, Code.lenN]
    · rw [if_neg h0, ih (n / 2) (by rw [Nat.pow_succ] at h; omega)]
      by_cases h1 : 2 ≤ n
      · rw [Code.len_shift n 1 (by simpa using h1)]
      · have e : n = 1 := by omega
        subst e
        decide
theorem len64_any (n : Nat) (w : World) (hn : n < 2 ^ 63) :
    Calls Tryz.prog 117 #[.int .u64 (n : Int)] w fun e w' => e = .returned (.int .i64 (Code.lenN n : Nat)) ∧ w' = w := by
  have h := shelf_len64 (n : Int) w (by omega) (by omega)
  rw [Int.toNat_natCast, Lib.bitLen, bitLenAux_eq 64 n (by omega)] at h
  exact h

end Go.Proofs.YtlckcfpdiigjiaaGreatDoor
namespace Go.Proofs.YtlckcfpdiigjiaaGreatDoor
open Go.RowKit

theorem shr_byte (n k j : Nat) : (n : Int) / 2 ^ (8 * (k - 1 - j)) % 256 = ((UInt8.ofNat (n / 256 ^ (k - 1 - j) % 256)).toNat : Nat) := by
  have e : (2 : Nat) ^ (8 * (k - 1 - j)) = 256 ^ (k - 1 - j) := by rw [Nat.pow_mul]
  have e2 : (2 : Int) ^ (8 * (k - 1 - j)) = ((256 ^ (k - 1 - j) : Nat) : Int) := by rw [← e]; simp
  rw [Code.ofNat_toNat _ (by omega), e2]
  simp

set_option maxHeartbeats 400000 in
theorem addNum_any (n : Nat) (hn : n < 2 ^ 63) (B : Nat) (v : Value) (xs : List UInt8) (w : World) (hB : B ≤ w.heap.size) (hx : xs.length ≤ 100000000)
    (hown : w.ownsRow B 5 1 v xs.length (cellsL xs)) :
    Calls Tryz.prog 106 #[v, .int .i64 n] w fun e w' => ∃ v', e = .returned v' ∧ w'.ownsRow B 5 1 v' (xs ++ Code.numL n).length (cellsL (xs ++ Code.numL n)) ∧ Below B w w' := by
  obtain ⟨i0, hi, hz0, hz1, hz2⟩ := info_parts Tryz.infoByte
  obtain ⟨L, hL⟩ : ∃ L, Code.lenN n = L := ⟨_, rfl⟩
  have hs := Code.len_sz n
  have h8 := Code.sz_le8 n (by omega)
  obtain ⟨k, hk⟩ : ∃ k, Code.sz n = k := ⟨_, rfl⟩
  rw [hL, hk] at hs
  have hL8 : L ≤ 64 := by omega
  have hsi : ((L : Int) + 7) / 8 = (k : Int) := by omega
  clear hs
  rw [hk] at h8
  have HL := Lib.hid hL
  have HK := Lib.hid hk
  clear hL hk
  go_enter Tryz.func106, Tryz.ntmps106
  go_wp2_with fail
  refine (len64_any n w hn).mono ?_
  rintro e w1 ⟨rfl, rfl⟩
  rw [HL.out]
  go_wp2_with ((at_builtin; refine wpList_append_own _ rfl _ _ 110 rfl B 5 i0 (.int .u8 0) 1 1 Tryz.underlying110 hi hz0 hz1 hz2 rfl (by decide) v xs.length (cellsL xs) rfl (hown.alloc _) ⟨w1.heap.size, 0, none⟩ 1 1 [.int .u8 (k : Int)] rfl rfl ?c1 ?c2 ?c3 ?c4 ?c5 ?_))
  case c1 => exact cell_one_new _ _ _
  case c2 => simp [Value.oneCell']
  case c3 => unfold maxLen; omega
  case c4 => omega
  case c5 => simp; omega
  intro v1 w2 hown1 hgrow1 _
  have hrow1 : w2.ownsRow B 5 1 v1 (xs ++ [UInt8.ofNat k] ++ Code.be 0 (n / 256 ^ (k - 0))).length (cellsL (xs ++ [UInt8.ofNat k] ++ Code.be 0 (n / 256 ^ (k - 0)))) := by
    have e := Code.ofNat_toNat k (by omega)
    simpa [cellsL, Code.be, Nat.mod_eq_of_lt (show k < 256 by omega)] using hown1
  have hbel1 : Below B w1 w2 := ((Below.refl B w1).alloc (by omega) _).grown hgrow1 (by simp; omega) (fun g hg => (hown.lt g hg).1)
  clear hown1 hgrow1 hown
  go_wp2
  go_loopw [0, 18] (fun u i wr => ∃ j : Nat, j ≤ k ∧ i = .int .i64 j ∧ wr.ownsRow B 5 1 u (xs ++ [UInt8.ofNat k] ++ Code.be j (n / 256 ^ (k - j))).length (cellsL (xs ++ [UInt8.ofNat k] ++ Code.be j (n / 256 ^ (k - j)))) ∧ Below B w1 wr) (fun _ i _ => k - (intOf i).toNat)
  case atStart => exact ⟨0, Nat.zero_le _, rfl, hrow1, hbel1⟩
  case round =>
    obtain ⟨j, hj, rfl, hrow, hbel⟩ := hrel
    by_cases hlt : j < k
    · have h1 : (j : Int) < (k : Int) := by omega
      have hsn := Lib.hid (Code.be_step k j n hlt)
      have hlen := Code.be_length j (n / 256 ^ (k - j))
      have hb := hbel.size
      obtain ⟨ys, hys⟩ : ∃ ys, xs ++ [UInt8.ofNat k] ++ Code.be j (n / 256 ^ (k - j)) = ys := ⟨_, rfl⟩
      have hyl : ys.length ≤ 200000000 := by rw [← hys]; simp [hlen]; omega
      rw [hys] at hrow
      have HY := Lib.hid hys
      clear hys hlen
      go_wp2_with ((at_builtin; refine wpList_append_own _ rfl _ _ 110 rfl B 5 i0 (.int .u8 0) 1 1 Tryz.underlying110 hi hz0 hz1 hz2 rfl (by decide) u0 ys.length (cellsL ys) rfl (hrow.alloc _) ⟨wr.heap.size, 0, none⟩ 1 1 [.int .u8 ((n : Int) / 2 ^ (8 * (k - 1 - j)) % 256)] rfl rfl ?c1 ?c2 ?c3 ?c4 ?c5 ?_))
      case c1 => exact cell_one_new _ _ _
      case c2 => simp [Value.oneCell']
      case c3 => unfold maxLen; omega
      case c4 => omega
      case c5 => simp; omega
      intro v2 w3 hown2 hgrow2 _
      rw [shr_byte] at hown2
      have hrow2 : w3.ownsRow B 5 1 v2 (xs ++ [UInt8.ofNat k] ++ Code.be (j + 1) (n / 256 ^ (k - (j + 1)))).length (cellsL (xs ++ [UInt8.ofNat k] ++ Code.be (j + 1) (n / 256 ^ (k - (j + 1))))) := by
        rw [← hsn.out, ← List.append_assoc, HY.out, cellsL_append, List.length_append]
        exact hown2
      have hbel2 : Below B w1 w3 := (hbel.alloc (by omega) _).grown hgrow2 (by simp; omega) (fun g hg => (hrow.lt g hg).1)
      clear hown2 hgrow2 hrow
      go_wp2
      go_roundw
      case rel => exact ⟨j + 1, by omega, by go_num, hrow2, hbel2⟩
      case measure => simp [intOf]; omega
    · go_wp2
      go_ret
      have e : j = k := by omega
      subst e
      rw [Nat.sub_self, Nat.pow_zero, Nat.div_one, List.append_assoc, List.singleton_append] at hrow
      refine ⟨_, rfl, ?_, hbel⟩
      rw [Code.numL, HK.out]
      exact hrow

theorem num_any (n : Nat) (hn : n < 2 ^ 63) (w : World) :
    Calls Tryz.prog 90 #[.int .i64 n] w fun e w' => e = .returned (.tuple #[.string ⟨(Code.numL n).toArray⟩, .int .i64 0]) ∧ Below w.heap.size w w' := by
  have h0 : ((n : Int) < 0) = False := by simp
  go_enter Tryz.func90, Tryz.ntmps90
  go_wp2_with fail
  refine (addNum_any n hn w.heap.size _ [] w (Nat.le_refl _) (by simp) (ownsNil w _)).mono ?_
  rintro e w1 ⟨v', rfl, hown, hbel⟩
  have hc := conv_own hown
  go_wp2
  go_ret2
  exact ⟨rfl, hbel⟩
end Go.Proofs.YtlckcfpdiigjiaaGreatDoor
namespace Go.Proofs.YtlckcfpdiigjiaaGreatDoor
open Go.RowKit

theorem strCells_mk (l : List UInt8) : Lib.strCells ⟨l.toArray⟩ = cellsL l := by simp [Lib.strCells, cellsL]

set_option maxHeartbeats 400000 in
theorem addText_any (s : List UInt8) (B : Nat) (v : Value) (xs : List UInt8) (w : World) (hB : B ≤ w.heap.size) (hx : xs.length ≤ 100000000) (hl : s.length ≤ 100000000)
    (hown : w.ownsRow B 5 1 v xs.length (cellsL xs)) :
    Calls Tryz.prog 107 #[v, .string ⟨s.toArray⟩] w fun e w' => ∃ v', e = .returned v' ∧ w'.ownsRow B 5 1 v' (xs ++ Code.textL s).length (cellsL (xs ++ Code.textL s)) ∧ Below B w w' := by
  obtain ⟨i0, hi, hz0, hz1, hz2⟩ := info_parts Tryz.infoByte
  go_enter Tryz.func107, Tryz.ntmps107
  go_wp2_with fail
  refine (addNum_any s.length (by omega) B v xs w hB hx hown).mono ?_
  rintro e w1 ⟨v', rfl, hown1, hbel⟩
  have hb := hbel.size
  have hlen : (xs ++ Code.numL s.length).length ≤ 100000010 := by
    have := Code.sz_le8 s.length (by omega)
    have := Code.numL_length s.length
    rw [List.length_append]; omega
  obtain ⟨ys, hys⟩ : ∃ ys, xs ++ Code.numL s.length = ys := ⟨_, rfl⟩
  rw [hys] at hown1 hlen
  have HY := Lib.hid hys
  clear hys hown
  go_wp2_with ((at_builtin; refine Lib.wpList_append_own_string _ rfl _ _ 110 9 rfl B 5 i0 Tryz.underlying110 Tryz.underlying9 hi hz0 hz1 hz2 v' ys.length (cellsL ys) rfl hown1 ⟨s.toArray⟩ rfl ?c3 ?c4 ?c5 ?_))
  case c3 => rw [size_of_list]; unfold maxLen; omega
  case c4 => rw [size_of_list]; omega
  case c5 => omega
  intro v2 w2 hown2 hgrow2 _
  rw [strCells_mk] at hown2
  have hrow : w2.ownsRow B 5 1 v2 (xs ++ Code.textL s).length (cellsL (xs ++ Code.textL s)) := by
    rw [Code.textL, ← List.append_assoc, HY.out, List.length_append, cellsL_append]
    exact hown2
  have hbel2 : Below B w w2 := hbel.grown hgrow2 (by omega) (fun g hg => (hown1.lt g hg).1)
  clear hown2 hgrow2
  go_wp2
  go_ret
  exact ⟨_, rfl, hrow, hbel2⟩

theorem text_any (s : List UInt8) (w : World) (hl : s.length ≤ 100000000) :
    Calls Tryz.prog 92 #[.string ⟨s.toArray⟩] w fun e w' => e = .returned (.string ⟨(Code.textL s).toArray⟩) ∧ Below w.heap.size w w' := by
  go_enter Tryz.func92, Tryz.ntmps92
  go_wp2_with fail
  refine (addText_any s w.heap.size _ [] w (Nat.le_refl _) (by simp) hl (ownsNil w _)).mono ?_
  rintro e w1 ⟨v', rfl, hown, hbel⟩
  have hc := conv_own hown
  go_wp2
  go_ret
  exact ⟨rfl, hbel⟩

end Go.Proofs.YtlckcfpdiigjiaaGreatDoor
namespace Go.Proofs.YtlckcfpdiigjiaaGreatDoor.Dig

/-- A thing that is noted. -/
structure N where
  tag : Int
  text : List UInt8
  dig : List UInt8
theorem N.ext' {a b : N} (h1 : a.tag = b.tag) (h2 : a.text = b.text) (h3 : a.dig = b.dig) : a = b := by
  cases a; cases b; simp_all
instance : DecidableEq N := fun a b =>
  if h : a.tag = b.tag ∧ a.text = b.text ∧ a.dig = b.dig then isTrue (N.ext' h.1 h.2.1 h.2.2) else isFalse (fun e => h (by subst e; exact ⟨rfl, rfl, rfl⟩))
def zero : N := ⟨0, [], []⟩
def isTag (t : Int) : Bool := decide (1 ≤ t) && decide (t ≤ 255)
def putC (L : List N) (n : N) : Int :=
  if isTag n.tag = false then 1 else if n.dig.length ≠ 32 then 3 else if n ∈ L then 0 else if 1024 ≤ L.length then 2 else 0
def taken (L : List N) (n : N) : Prop := isTag n.tag = true ∧ n.dig.length = 32 ∧ n ∉ L ∧ L.length < 1024
instance (L : List N) (n : N) : Decidable (taken L n) := by unfold taken; exact inferInstance
def putL (L : List N) (n : N) : List N := if taken L n then L ++ [n] else L
def find (L : List N) (d : List UInt8) : Option N := L.find? (fun n => decide (n.dig = d))
/-- By a sum the first of the things that has it. -/
structure Firsts (M L : List N) : Prop where
  here : ∀ n ∈ M, find L n.dig = some n
  all : ∀ n ∈ L, ∃ m ∈ M, m.dig = n.dig
theorem find_none {L : List N} {d : List UInt8} : find L d = none ↔ ∀ n ∈ L, n.dig ≠ d := by
  simp [find]
theorem find_snoc (L : List N) (n : N) (d : List UInt8) : find (L ++ [n]) d = (find L d).or (if n.dig = d then some n else none) := by
  simp only [find, List.find?_append, List.find?_cons, List.find?_nil]
  by_cases h : n.dig = d <;> simp [h]
theorem Firsts.nil : Firsts [] [] := ⟨fun _ h => by simp at h, fun _ h => by simp at h⟩
theorem Firsts.lost {M L : List N} (h : Firsts M L) {d : List UInt8} (hn : ∀ m ∈ M, m.dig ≠ d) : find L d = none := by
  rw [find_none]
  intro n hnL e
  obtain ⟨m, hm, hmd⟩ := h.all n hnL
  exact hn m hm (hmd.trans e)
theorem Firsts.new {M L : List N} (h : Firsts M L) {n : N} (hn : ∀ m ∈ M, m.dig ≠ n.dig) : Firsts (M ++ [n]) (L ++ [n]) := by
  have hl := h.lost hn
  constructor
  · intro m hm
    rw [find_snoc]
    rcases List.mem_append.1 hm with hm | hm
    · rw [h.here m hm]; rfl
    · obtain rfl : m = n := by simpa using hm
      rw [hl]; simp
  · intro k hk
    rcases List.mem_append.1 hk with hk | hk
    · obtain ⟨m, hm, e⟩ := h.all k hk
      exact ⟨m, List.mem_append_left _ hm, e⟩
    · exact ⟨n, List.mem_append_right _ (by simp), by obtain rfl : k = n := (by simpa using hk); rfl⟩
theorem Firsts.old {M L : List N} (h : Firsts M L) {n m : N} (hm : m ∈ M) (e : m.dig = n.dig) : Firsts M (L ++ [n]) := by
  constructor
  · intro k hk
    rw [find_snoc, h.here k hk]; rfl
  · intro k hk
    rcases List.mem_append.1 hk with hk | hk
    · exact h.all k hk
    · exact ⟨m, hm, by obtain rfl : k = n := (by simpa using hk); exact e⟩
end Go.Proofs.YtlckcfpdiigjiaaGreatDoor.Dig
namespace Go.Proofs.YtlckcfpdiigjiaaGreatDoor.Sha
open Go

/-- x turned down by n bits. -/
def rotI (x n : Int) : Int := bits .or .u32 (x * 2 ^ (32 - n).toNat % 4294967296) (x / 2 ^ n.toNat)
/-- The 64 constants. -/
def kTab : List Int := [1116352408, 1899447441, 3049323471, 3921009573, 961987163, 1508970993, 2453635748, 2870763221, 3624381080, 310598401, 607225278, 1426881987, 1925078388, 2162078206, 2614888103, 3248222580, 3835390401, 4022224774, 264347078, 604807628, 770255983, 1249150122, 1555081692, 1996064986, 2554220882, 2821834349, 2952996808, 3210313671, 3336571891, 3584528711, 113926993, 338241895, 666307205, 773529912, 1294757372, 1396182291, 1695183700, 1986661051, 2177026350, 2456956037, 2730485921, 2820302411, 3259730800, 3345764771, 3516065817, 3600352804, 4094571909, 275423344, 430227734, 506948616, 659060556, 883997877, 958139571, 1322822218, 1537002063, 1747873779, 1955562222, 2024104815, 2227730452, 2361852424, 2428436474, 2756734187, 3204031479, 3329325298]
structure St where
  a : Int
  b : Int
  c : Int
  d : Int
  e : Int
  f : Int
  g : Int
  h : Int
def notI (x : Int) : Int := bits .xor .u32 IntKind.u32.max x
def uP (s : St) (k w : Int) : Int :=
  (s.h + bits .xor .u32 (bits .xor .u32 (rotI s.e 6) (rotI s.e 11)) (rotI s.e 25) + bits .xor .u32 (bits .and .u32 s.e s.f) (bits .and .u32 (notI s.e) s.g) + k + w) % 4294967296
def vP (s : St) : Int :=
  (bits .xor .u32 (bits .xor .u32 (rotI s.a 2) (rotI s.a 13)) (rotI s.a 22) + bits .xor .u32 (bits .xor .u32 (bits .and .u32 s.a s.b) (bits .and .u32 s.a s.c)) (bits .and .u32 s.b s.c)) % 4294967296
def step (s : St) (k w : Int) : St := ⟨(uP s k w + vP s) % 4294967296, s.a, s.b, s.c, (s.d + uP s k w) % 4294967296, s.e, s.f, s.g⟩
def rounds (s : St) (W : List Int) : Nat → St
  | 0 => s
  | i + 1 => step (rounds s W i) (kTab.getD i 0) (W.getD i 0)
def St.list (s : St) : List Int := [s.a, s.b, s.c, s.d, s.e, s.f, s.g, s.h]
/-- What the eight words are behind all 64 of W. -/
def turnP (s : St) (W : List Int) : St := rounds s W 64
/-- The word of four bytes, the highest first. -/
def word4 (a b c d : UInt8) : Int := bits .or .u32 (bits .or .u32 (bits .or .u32 ((a.toNat : Int) * 16777216) ((b.toNat : Int) * 65536)) ((c.toNat : Int) * 256)) (d.toNat : Int)
/-- The block's words, 16 of them, as they are laid one by one. -/
def fill (b : List UInt8) : Nat → List Int
  | 0 => List.replicate 64 0
  | k + 1 => (fill b k).set k (word4 (b.getD (4 * k) 0) (b.getD (4 * k + 1) 0) (b.getD (4 * k + 2) 0) (b.getD (4 * k + 3) 0))
def sP (x : Int) : Int := bits .xor .u32 (bits .xor .u32 (rotI x 7) (rotI x 18)) (x / 8)
def tP (y : Int) : Int := bits .xor .u32 (bits .xor .u32 (rotI y 17) (rotI y 19)) (y / 1024)
def more (L : List Int) (n : Nat) : Int := (L.getD (n - 16) 0 + sP (L.getD (n - 15) 0) + L.getD (n - 7) 0 + tP (L.getD (n - 2) 0)) % 4294967296
/-- The further words, up to w(63). -/
def ext (L : List Int) : Nat → List Int
  | 0 => L
  | k + 1 => (ext L k).set (16 + k) (more (ext L k) (16 + k))
def widenP (b : List UInt8) : List Int := ext (fill b 16) 48
def addTo (H T : List Int) : Nat → List Int
  | 0 => H
  | k + 1 => (addTo H T k).set k (((addTo H T k).getD k 0 + T.getD k 0) % 4294967296)
def addP (s t : St) : St := ⟨(s.a + t.a) % 4294967296, (s.b + t.b) % 4294967296, (s.c + t.c) % 4294967296, (s.d + t.d) % 4294967296, (s.e + t.e) % 4294967296, (s.f + t.f) % 4294967296, (s.g + t.g) % 4294967296, (s.h + t.h) % 4294967296⟩
/-- What the words s are behind the block b. -/
def blockP (s : St) (b : List UInt8) : St := addP s (turnP s (widenP b))
theorem addTo_length (H T : List Int) (k : Nat) : (addTo H T k).length = H.length := by
  induction k with
  | zero => rfl
  | succ k ih => simp [addTo, ih]
/-- The first words. -/
def first : St := ⟨1779033703, 3144134277, 1013904242, 2773480762, 1359893119, 2600822924, 528734635, 1541459225⟩
/-- The byte of a number. -/
def byteOf (z : Int) : UInt8 := UInt8.ofNat (z % 256).toNat
theorem byteOf_toNat (z : Int) : ((byteOf z).toNat : Int) = z % 256 := by
  have h0 := Int.emod_nonneg z (show (256 : Int) ≠ 0 by decide)
  have h1 := Int.emod_lt_of_pos z (show (0 : Int) < 256 by decide)
  simp only [byteOf, UInt8.toNat_ofNat']
  omega
/-- The words' bytes, as they are laid four at a time. -/
def joinFill (L : List Int) : Nat → List UInt8
  | 0 => List.replicate 32 0
  | k + 1 => ((((joinFill L k).set (4 * k) (byteOf (L.getD k 0 / 16777216))).set (4 * k + 1) (byteOf (L.getD k 0 / 65536))).set (4 * k + 2) (byteOf (L.getD k 0 / 256))).set (4 * k + 3) (byteOf (L.getD k 0))
theorem joinFill_length (L : List Int) (k : Nat) : (joinFill L k).length = 32 := by
  induction k with
  | zero => simp [joinFill]
  | succ k ih => simp [joinFill, ih]
def joinP (s : St) : List UInt8 := joinFill s.list 8
/-- How many bytes stand before the length in what fills a text of n bytes. -/
def padN (n : Nat) : Nat := 1 + (119 - n % 64) % 64
def tailFill (n : Nat) : Nat → List UInt8
  | 0 => (List.replicate 72 0).set 0 128
  | k + 1 => (tailFill n k).set (padN n + k) (byteOf ((n : Int) * 8 / 2 ^ (8 * (7 - k))))
theorem tailFill_length (n k : Nat) : (tailFill n k).length = 72 := by
  induction k with
  | zero => simp [tailFill]
  | succ k ih => simp [tailFill, ih]
/-- What fills a text of n bytes up to whole blocks. -/
def tailP (n : Nat) : List UInt8 := (tailFill n 8).take (padN n + 8)
theorem tailP_length (n : Nat) : (tailP n).length = padN n + 8 := by
  simp only [tailP, List.length_take, tailFill_length, padN]
  omega
/-- The words behind the first k blocks of the text t. -/
def absorb (t : List UInt8) : Nat → St
  | 0 => first
  | k + 1 => blockP (absorb t k) ((t.drop (64 * k)).take 64)
theorem absorb_append (t u : List UInt8) (k : Nat) (h : 64 * k ≤ t.length) : absorb (t ++ u) k = absorb t k := by
  induction k with
  | zero => rfl
  | succ k ih =>
    simp only [absorb]
    rw [ih (by omega), List.drop_append_of_le_length (by omega), List.take_append_of_le_length (by rw [List.length_drop]; omega)]
/-- The words behind all whole blocks of the text, and what is no whole block. -/
def wordsP (t : List UInt8) : St := absorb t (t.length / 64)
def restP (t : List UInt8) : List UInt8 := t.drop (64 * (t.length / 64))
theorem words_same (t u : List UInt8) (h : t.length % 64 + u.length < 64) : wordsP (t ++ u) = wordsP t ∧ restP (t ++ u) = restP t ++ u := by
  have e : (t ++ u).length / 64 = t.length / 64 := by rw [List.length_append]; omega
  refine ⟨?_, ?_⟩
  · unfold wordsP
    rw [e, absorb_append t u _ (by omega)]
  · unfold restP
    rw [e, List.drop_append_of_le_length (by omega)]
theorem words_next (t u : List UInt8) (h : t.length % 64 + u.length = 64) : wordsP (t ++ u) = blockP (wordsP t) (restP t ++ u) ∧ restP (t ++ u) = [] := by
  have e : (t ++ u).length / 64 = t.length / 64 + 1 := by rw [List.length_append]; omega
  refine ⟨?_, ?_⟩
  · unfold wordsP restP
    rw [e, absorb, absorb_append t u _ (by omega), List.drop_append_of_le_length (by omega), List.take_of_length_le (by rw [List.length_append, List.length_drop]; omega)]
  · unfold restP
    rw [e]
    exact List.drop_eq_nil_of_le (by rw [List.length_append]; omega)
/-- The text's sum. -/
def sumP (t : List UInt8) : List UInt8 := joinP (wordsP (t ++ tailP t.length))
theorem sumP_length (t : List UInt8) : (sumP t).length = 32 := joinFill_length _ _
end Go.Proofs.YtlckcfpdiigjiaaGreatDoor.Sha
namespace Go.Proofs.YtlckcfpdiigjiaaGreatDoor.Sha
open Go

theorem bits_or_comm (k : IntKind) (x y : Int) : bits .or k x y = bits .or k y x := by
  unfold bits
  simp only [BitVec.or_comm]
theorem wrap_u32_nat (n : Nat) (h : n < 4294967296) : IntKind.u32.wrap (n : Int) = (n : Int) := by
  simp [IntKind.wrap, IntKind.signed, IntKind.bits]
  omega
theorem u32_or_nat (a b : Nat) (ha : a < 4294967296) (hb : b < 4294967296) : bits .or .u32 (a : Int) (b : Int) = ((a ||| b : Nat) : Int) := by
  unfold bits
  have e : ((BitVec.ofInt IntKind.u32.bits (a : Int) ||| BitVec.ofInt IntKind.u32.bits (b : Int)).toNat) = a ||| b := by
    simp only [BitVec.toNat_or, BitVec.ofInt_natCast, BitVec.toNat_ofNat]
    rw [Nat.mod_eq_of_lt (by simpa [IntKind.bits] using ha), Nat.mod_eq_of_lt (by simpa [IntKind.bits] using hb)]
  simp only [e]
  exact wrap_u32_nat _ (Nat.or_lt_two_pow (n := 32) ha hb)
/-- Four bytes, the highest first: by or, or by sums. -/
theorem word4_sum (a b c d : UInt8) : word4 a b c d = ((((a.toNat * 256 + b.toNat) * 256 + c.toNat) * 256 + d.toNat : Nat) : Int) := by
  have ha := a.toNat_lt
  have hb := b.toNat_lt
  have hc := c.toNat_lt
  have hd := d.toNat_lt
  have e1 := Nat.two_pow_add_eq_or_of_lt (i := 24) (b := b.toNat * 65536) (by omega) a.toNat
  have e2 := Nat.two_pow_add_eq_or_of_lt (i := 16) (b := c.toNat * 256) (by omega) (a.toNat * 256 + b.toNat)
  have e3 := Nat.two_pow_add_eq_or_of_lt (i := 8) (b := d.toNat) (by omega) ((a.toNat * 256 + b.toNat) * 256 + c.toNat)
  unfold word4
  rw [show (a.toNat : Int) * 16777216 = ((2 ^ 24 * a.toNat : Nat) : Int) by omega, show (b.toNat : Int) * 65536 = ((b.toNat * 65536 : Nat) : Int) by omega,
    show (c.toNat : Int) * 256 = ((c.toNat * 256 : Nat) : Int) by omega, u32_or_nat _ _ (by omega) (by omega), ← e1,
    show 2 ^ 24 * a.toNat + b.toNat * 65536 = 2 ^ 16 * (a.toNat * 256 + b.toNat) by omega, u32_or_nat _ _ (by omega) (by omega), ← e2,
    show 2 ^ 16 * (a.toNat * 256 + b.toNat) + c.toNat * 256 = 2 ^ 8 * ((a.toNat * 256 + b.toNat) * 256 + c.toNat) by omega, u32_or_nat _ _ (by omega) (by omega), ← e3]
  omega

/-- The first 16 words, a byte at a time. -/
def fillR (b : List UInt8) : Nat → List Int
  | 0 => List.replicate 16 0
  | k + 1 => (fillR b k).set (k / 4) (((fillR b k).getD (k / 4) 0 * 256 + ((b.getD k 0).toNat : Int)) % 4294967296)
theorem fillR_length (b : List UInt8) (k : Nat) : (fillR b k).length = 16 := by
  induction k with
  | zero => simp [fillR]
  | succ k ih => simp [fillR, ih]
/-- The window that moves on. -/
def winNext (V : List Int) (i : Nat) : List Int :=
  if 16 ≤ i then V.set (i % 16) ((V.getD (i % 16) 0 + sP (V.getD ((i + 1) % 16) 0) + V.getD ((i + 9) % 16) 0 + tP (V.getD ((i + 14) % 16) 0)) % 4294967296) else V
def win (V : List Int) : Nat → List Int
  | 0 => V
  | i + 1 => winNext (win V i) i
theorem win_length (V : List Int) (i : Nat) : (win V i).length = V.length := by
  induction i with
  | zero => rfl
  | succ i ih =>
    simp only [win, winNext]
    split <;> simp [ih]
def roundsR (s : St) (V : List Int) : Nat → St
  | 0 => s
  | i + 1 => step (roundsR s V i) (kTab.getD i 0) ((win V (i + 1)).getD (i % 16) 0)
def blockR (s : St) (b : List UInt8) : St := addP s (roundsR s (fillR b 64) 64)

theorem getD_set (l : List Int) (i j : Nat) (v : Int) (hi : i < l.length) : (l.set i v).getD j 0 = if i = j then v else l.getD j 0 := by
  by_cases h : i = j
  · subst h
    simp [hi]
  · simp [h]
theorem fillR_early (b : List UInt8) (j : Nat) (hj : j < 16) : ∀ k, k ≤ 4 * j → (fillR b k).getD j 0 = 0
  | 0, _ => by
    unfold fillR
    simp only [List.getD_eq_getElem?_getD, List.getElem?_replicate, hj, if_true, Option.getD_some]
  | k + 1, h => by
    rw [fillR, getD_set _ _ _ _ (by rw [fillR_length]; omega), if_neg (by omega)]
    exact fillR_early b j hj k (by omega)
theorem fillR_late (b : List UInt8) (j : Nat) : ∀ n, 4 * j + 4 + n ≤ 64 → (fillR b (4 * j + 4 + n)).getD j 0 = (fillR b (4 * j + 4)).getD j 0
  | 0, _ => rfl
  | n + 1, h => by
    rw [← Nat.add_assoc, fillR, getD_set _ _ _ _ (by rw [fillR_length]; omega), if_neg (by omega)]
    exact fillR_late b j n (by omega)
theorem fillR_at (b : List UInt8) (j : Nat) (hj : j < 16) : (fillR b 64).getD j 0 = word4 (b.getD (4 * j) 0) (b.getD (4 * j + 1) 0) (b.getD (4 * j + 2) 0) (b.getD (4 * j + 3) 0) := by
  have h := fillR_late b j (60 - 4 * j) (by omega)
  rw [show 4 * j + 4 + (60 - 4 * j) = 64 by omega] at h
  have s0 := fillR_early b j hj (4 * j) (Nat.le_refl _)
  have st : ∀ k, 4 * j ≤ k → k < 4 * j + 4 → (fillR b (k + 1)).getD j 0 = ((fillR b k).getD j 0 * 256 + ((b.getD k 0).toNat : Int)) % 4294967296 := fun k h1 h2 => by
    have e : k / 4 = j := by omega
    rw [fillR, getD_set _ _ _ _ (by rw [fillR_length]; omega), e, if_pos rfl]
  have s1 := st (4 * j) (by omega) (by omega)
  have s2 := st (4 * j + 1) (by omega) (by omega)
  have s3 := st (4 * j + 2) (by omega) (by omega)
  have s4 := st (4 * j + 3) (by omega) (by omega)
  rw [h, s4, s3, s2, s1, s0, word4_sum]
  have h0 := (b.getD (4 * j) 0).toNat_lt
  have h1 := (b.getD (4 * j + 1) 0).toNat_lt
  have h2 := (b.getD (4 * j + 2) 0).toNat_lt
  have h3 := (b.getD (4 * j + 3) 0).toNat_lt
  generalize (b.getD (4 * j) 0).toNat = x0 at *
  generalize (b.getD (4 * j + 1) 0).toNat = x1 at *
  generalize (b.getD (4 * j + 2) 0).toNat = x2 at *
  generalize (b.getD (4 * j + 3) 0).toNat = x3 at *
  omega

theorem fill_len (b : List UInt8) (k : Nat) : (fill b k).length = 64 := by
  induction k with
  | zero => simp [fill]
  | succ k ih => simp [fill, ih]
theorem ext_len (L : List Int) (k : Nat) : (ext L k).length = L.length := by
  induction k with
  | zero => rfl
  | succ k ih => simp [ext, ih]
theorem fill_late (b : List UInt8) (j : Nat) : ∀ n, j + 1 + n ≤ 64 → (fill b (j + 1 + n)).getD j 0 = (fill b (j + 1)).getD j 0
  | 0, _ => rfl
  | n + 1, h => by
    rw [← Nat.add_assoc, fill, getD_set _ _ _ _ (by rw [fill_len]; omega), if_neg (by omega)]
    exact fill_late b j n (by omega)
theorem fill_at (b : List UInt8) (j : Nat) (hj : j < 16) : (fill b 16).getD j 0 = word4 (b.getD (4 * j) 0) (b.getD (4 * j + 1) 0) (b.getD (4 * j + 2) 0) (b.getD (4 * j + 3) 0) := by
  have h := fill_late b j (15 - j) (by omega)
  rw [show j + 1 + (15 - j) = 16 by omega] at h
  rw [h, fill, getD_set _ _ _ _ (by rw [fill_len]; omega), if_pos rfl]
theorem ext_keep (L : List Int) (hL : L.length = 64) (j : Nat) : ∀ k n, j < 16 + k → k + n ≤ 48 → (ext L (k + n)).getD j 0 = (ext L k).getD j 0
  | _, 0, _, _ => rfl
  | k, n + 1, h, hk => by
    rw [← Nat.add_assoc, ext, getD_set _ _ _ _ (by rw [ext_len]; omega), if_neg (by omega)]
    exact ext_keep L hL j k n h (by omega)
theorem ext_low (L : List Int) (hL : L.length = 64) (j : Nat) (hj : j < 16) : (ext L 48).getD j 0 = L.getD j 0 := by
  have := ext_keep L hL j 0 48 (by omega) (by omega)
  simpa [ext] using this
theorem ext_next (L : List Int) (hL : L.length = 64) (i : Nat) (h0 : 16 ≤ i) (h1 : i < 64) : (ext L 48).getD i 0 = more (ext L 48) i := by
  have e1 := ext_keep L hL i (i - 16 + 1) (64 - 1 - i) (by omega) (by omega)
  rw [show i - 16 + 1 + (64 - 1 - i) = 48 by omega] at e1
  rw [e1, ext, getD_set _ _ _ _ (by rw [ext_len]; omega), if_pos (by omega), show 16 + (i - 16) = i by omega]
  have keep : ∀ j, j < i → (ext L (i - 16)).getD j 0 = (ext L 48).getD j 0 := fun j hj => by
    have := ext_keep L hL j (i - 16) (64 - i) (by omega) (by omega)
    rw [show i - 16 + (64 - i) = 48 by omega] at this
    exact this.symm
  unfold more
  rw [keep (i - 16) (by omega), keep (i - 15) (by omega), keep (i - 7) (by omega), keep (i - 2) (by omega)]
/-- The window holds the last 16 words. -/
theorem win_is (b : List UInt8) (i : Nat) (hi : i ≤ 64) : ∀ m, m < 64 → (m < i ∨ m < 16) → (i ≤ m + 16) → (win (fillR b 64) i).getD (m % 16) 0 = (widenP b).getD m 0 := by
  have hfl : (fill b 16).length = 64 := fill_len b 16
  induction i with
  | zero =>
    intro m hm h1 _
    have hm16 : m < 16 := by omega
    rw [win, Nat.mod_eq_of_lt hm16, fillR_at b m hm16, widenP, ext_low _ hfl m hm16, fill_at b m hm16]
  | succ i ih =>
    intro m hm h1 h2
    have ih' := ih (by omega)
    rw [win, winNext]
    by_cases h16 : 16 ≤ i
    · rw [if_pos h16, getD_set _ _ _ _ (by rw [win_length, fillR_length]; omega)]
      by_cases hmi : m = i
      · subst hmi
        rw [if_pos rfl, widenP, ext_next _ hfl m h16 hm, ← widenP]
        unfold more
        rw [← ih' (m - 16) (by omega) (by omega) (by omega), ← ih' (m - 15) (by omega) (by omega) (by omega), ← ih' (m - 7) (by omega) (by omega) (by omega), ← ih' (m - 2) (by omega) (by omega) (by omega),
          show (m - 16) % 16 = m % 16 by omega, show (m - 15) % 16 = (m + 1) % 16 by omega, show (m - 7) % 16 = (m + 9) % 16 by omega, show (m - 2) % 16 = (m + 14) % 16 by omega]
      · rw [if_neg (by omega)]
        exact ih' m hm (by omega) (by omega)
    · rw [if_neg h16]
      exact ih' m hm (by omega) (by omega)
theorem roundsR_is (s : St) (b : List UInt8) (i : Nat) (hi : i ≤ 64) : roundsR s (fillR b 64) i = rounds s (widenP b) i := by
  induction i with
  | zero => rfl
  | succ i ih => rw [roundsR, rounds, ih (by omega), win_is b (i + 1) hi i (by omega) (by omega) (by omega)]
theorem blockR_is (s : St) (b : List UInt8) : blockR s b = blockP s b := by
  unfold blockR blockP turnP
  rw [roundsR_is s b 64 (by omega)]
end Go.Proofs.YtlckcfpdiigjiaaGreatDoor.Sha
namespace Go.Proofs.YtlckcfpdiigjiaaGreatDoor.Sha
open Go

/-- A number's last k bytes, the highest first. -/
def endR (N : Nat) : Nat → List UInt8
  | 0 => []
  | k + 1 => byteOf ((N / 256 ^ k : Nat) : Int) :: endR N k
theorem endR_length (N k : Nat) : (endR N k).length = k := by
  induction k with
  | zero => rfl
  | succ k ih => simp [endR, ih]
theorem set8 (A B : List UInt8) (b0 b1 b2 b3 b4 b5 b6 b7 : UInt8) (n : Nat) (hA : A.length = n) :
    ((((((((A ++ 0 :: 0 :: 0 :: 0 :: 0 :: 0 :: 0 :: 0 :: B).set (n + 0) b0).set (n + 1) b1).set (n + 2) b2).set (n + 3) b3).set (n + 4) b4).set (n + 5) b5).set (n + 6) b6).set (n + 7) b7 = (A ++ [b0, b1, b2, b3, b4, b5, b6, b7]) ++ B := by
  subst hA
  simp
theorem tail_base (z : Nat) (hz : z ≤ 63) : (List.replicate 72 (0 : UInt8)).set 0 128 = (128 :: List.replicate z 0) ++ 0 :: 0 :: 0 :: 0 :: 0 :: 0 :: 0 :: 0 :: List.replicate (63 - z) 0 := by
  have e : (List.replicate 72 (0 : UInt8)) = 0 :: (List.replicate z 0 ++ 0 :: 0 :: 0 :: 0 :: 0 :: 0 :: 0 :: 0 :: List.replicate (63 - z) 0) := by
    apply List.ext_getElem
    · simp; omega
    · intro i h1 h2
      rw [List.getElem_replicate]
      have : ∀ x ∈ (0 : UInt8) :: (List.replicate z 0 ++ 0 :: 0 :: 0 :: 0 :: 0 :: 0 :: 0 :: 0 :: List.replicate (63 - z) 0), x = 0 := by
        intro x hx
        simp [List.mem_replicate] at hx
        rcases hx with h | h | h | h <;> simp_all
      exact (this _ (List.getElem_mem h2)).symm
  rw [e]
  rfl
theorem tailP_is (n z : Nat) (hz : z = (119 - n % 64) % 64) : tailP n = (128 :: List.replicate z 0) ++ endR (n * 8) 8 := by
  have hp : padN n = 1 + z := by rw [hz]; rfl
  have hA : ((128 : UInt8) :: List.replicate z 0).length = 1 + z := by simp; omega
  have h8 := set8 (128 :: List.replicate z 0) (List.replicate (63 - z) 0) (byteOf ((n : Int) * 8 / 2 ^ (8 * (7 - 0)))) (byteOf ((n : Int) * 8 / 2 ^ (8 * (7 - 1)))) (byteOf ((n : Int) * 8 / 2 ^ (8 * (7 - 2)))) (byteOf ((n : Int) * 8 / 2 ^ (8 * (7 - 3)))) (byteOf ((n : Int) * 8 / 2 ^ (8 * (7 - 4)))) (byteOf ((n : Int) * 8 / 2 ^ (8 * (7 - 5)))) (byteOf ((n : Int) * 8 / 2 ^ (8 * (7 - 6)))) (byteOf ((n : Int) * 8 / 2 ^ (8 * (7 - 7)))) (1 + z) hA
  have ht : tailFill n 8 = ((128 :: List.replicate z 0) ++ [byteOf ((n : Int) * 8 / 2 ^ (8 * (7 - 0))), byteOf ((n : Int) * 8 / 2 ^ (8 * (7 - 1))), byteOf ((n : Int) * 8 / 2 ^ (8 * (7 - 2))), byteOf ((n : Int) * 8 / 2 ^ (8 * (7 - 3))), byteOf ((n : Int) * 8 / 2 ^ (8 * (7 - 4))), byteOf ((n : Int) * 8 / 2 ^ (8 * (7 - 5))), byteOf ((n : Int) * 8 / 2 ^ (8 * (7 - 6))), byteOf ((n : Int) * 8 / 2 ^ (8 * (7 - 7)))]) ++ List.replicate (63 - z) 0 := by
    rw [← h8, ← tail_base z (by omega)]
    simp only [tailFill, hp]
  rw [tailP, ht, hp, List.take_append_of_le_length (by simp; omega), List.take_of_length_le (by simp; omega)]
  congr 1
/-- A block, byte by byte. -/
def copyR (X : List UInt8) : Nat → List UInt8
  | 0 => List.replicate 64 0
  | j + 1 => (copyR X j).set j (X.getD j 0)
theorem copyR_length (X : List UInt8) (j : Nat) : (copyR X j).length = 64 := by
  induction j with
  | zero => simp [copyR]
  | succ j ih => simp [copyR, ih]
theorem copyR_is (X : List UInt8) (hX : X.length = 64) (j : Nat) (hj : j ≤ 64) : copyR X j = X.take j ++ List.replicate (64 - j) 0 := by
  induction j with
  | zero => simp [copyR]
  | succ j ih =>
    rw [copyR, ih (by omega), show 64 - j = (64 - (j + 1)) + 1 by omega, List.replicate_succ, List.set_append_right _ _ (by simp; omega),
      List.take_succ_eq_append_getElem (by omega)]
    have e : j - (X.take j).length = 0 := by simp; omega
    rw [e, List.set_cons_zero, List.getD_eq_getElem?_getD, List.getElem?_eq_getElem (by omega), Option.getD_some, List.append_assoc]
    rfl
theorem copyR_all (X : List UInt8) (hX : X.length = 64) : copyR X 64 = X := by
  rw [copyR_is X hX 64 (by omega), List.take_of_length_le (by omega)]
  simp
end Go.Proofs.YtlckcfpdiigjiaaGreatDoor.Sha
namespace Go.Proofs.YtlckcfpdiigjiaaGreatDoor
open Go.RowKit

theorem and31_fin : ∀ n : Fin 32, 0 < n.val → bits .and .u64 (IntKind.u64.wrap (-(n.val : Int))) 31 = 32 - (n.val : Int) := by decide +kernel
theorem and31 (n : Int) (h0 : 1 ≤ n) (h1 : n ≤ 31) : bits .and .u64 (IntKind.u64.wrap (-n)) 31 = 32 - n := by
  have := and31_fin ⟨n.toNat, by omega⟩ (by simp; omega)
  simpa [Int.toNat_of_nonneg (show 0 ≤ n by omega)] using this
set_option maxHeartbeats 400000 in
theorem rotl_any (x n : Int) (w : World) (h0 : 1 ≤ n) (h1 : n ≤ 31) :
    Calls Tryz.prog 137 #[.int .u32 x, .int .i64 (-n)] w fun e w' => e = .returned (.int .u32 (Sha.rotI x n)) ∧ w' = w := by
  have hk := and31 n h0 h1
  have e : (32 - (32 - n)).toNat = n.toNat := by omega
  go_enter Tryz.func137, Tryz.ntmps137
  go_wp2
  go_ret
  refine ⟨?_, rfl⟩
  simp [Sha.rotI]
set_option maxHeartbeats 400000 in
theorem rot_any (x n : Int) (w : World) (h0 : 1 ≤ n) (h1 : n ≤ 31) :
    Calls Tryz.prog 134 #[.int .u32 x, .int .i64 n] w fun e w' => e = .returned (.int .u32 (Sha.rotI x n)) ∧ w' = w := by
  go_enter Tryz.func134, Tryz.ntmps134
  go_wp2_with fail
  refine (rotl_any x n _ h0 h1).mono ?_
  rintro e w1 ⟨rfl, rfl⟩
  go_wp2
  go_ret
  exact ⟨rfl, rfl⟩
end Go.Proofs.YtlckcfpdiigjiaaGreatDoor
namespace Go.Proofs.YtlckcfpdiigjiaaGreatDoor
open Go.RowKit

/-- The words as cells. -/
def u32s (l : List Int) : Array Value := (l.map fun x => Value.int .u32 x).toArray
theorem u32s_at (l : List Int) (j : Nat) (hj : j < l.length) : (u32s l)[j]? = some (.int .u32 (l.getD j 0)) := by
  simp [u32s, hj]
theorem u32s_size (l : List Int) : (u32s l).size = l.length := by simp [u32s]
theorem u32s_one (l : List Int) : (u32s l).all (·.oneCell') = true := by
  simp only [u32s, List.all_toArray, List.all_map, List.all_eq_true]
  intro x _
  rfl
theorem u32s_set (l : List Int) (j : Nat) (x : Int) : (u32s l).setIfInBounds j (.int .u32 x) = u32s (l.set j x) := by
  simp [u32s, List.map_set]
/-- The bytes as cells. -/
def u8s (l : List UInt8) : Array Value := (cellsL l).toArray
theorem u8s_at (l : List UInt8) (j : Nat) (hj : j < l.length) : (u8s l)[j]? = some (.int .u8 ((l.getD j 0).toNat : Int)) := by
  simp [u8s, cellsL, hj]
theorem u8s_size (l : List UInt8) : (u8s l).size = l.length := by simp [u8s, cellsL]
theorem u8s_set (l : List UInt8) (j : Nat) (x : UInt8) : (u8s l).setIfInBounds j (.int .u8 (x.toNat : Int)) = u8s (l.set j x) := by
  simp [u8s, cellsL, List.map_set]
/-- The table of constants lies where the program has it. -/
def Tab (w : World) : Prop := ∀ i : Nat, i < 64 → w.cell? ⟨0, i, none⟩ = some (.int .u32 (Sha.kTab.getD i 0))
theorem Tab.below {w w' : World} (h : Tab w) (hb : Below w.heap.size w w') : Tab w' := fun i hi => (hb.cell (block_lt_of_cell (h i hi))).trans (h i hi)
theorem Tab.pos {w : World} (h : Tab w) : 0 < w.heap.size := block_lt_of_cell (h 0 (by omega))
theorem wrap_small (n : Int) (h0 : 0 ≤ n) (h1 : n ≤ 1000000) : IntKind.i64.wrap n = n := by
  unfold IntKind.wrap
  simp [IntKind.signed, IntKind.bits]
  omega

end Go.Proofs.YtlckcfpdiigjiaaGreatDoor
