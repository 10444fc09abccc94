/- Members in memory: as values, as cells, in a slice that came in or was made. -/
import Derived.Test.YteolephlajhghaaPowMath
import Derived.Test.YteolephlajhghaaArgStrs
import Derived.Test.YteolephlajhghaaStrClone
import Derived.Deep.Slices
import Derived.DataReads
import Derived.OpenShut
import Derived.SizedLaws
import Derived.Lib.LaidU8
namespace Go.Proofs.Yteolephlajhghaa
open Go.RowKit Go.ChangeShapes Go.WideShapes
open Go.Proofs.Yteolephlajhghaa.Pw (M)

theorem less_lt : ∀ (x y : List UInt8), Op.bytesLess x y = decide (x < y)
  | [], [] => by simp [Op.bytesLess]
  | _ :: _, [] => by simp [Op.bytesLess]
  | [], _ :: _ => by simp [Op.bytesLess]
  | a :: x, b :: y => by
    rw [Op.bytesLess, less_lt x y, Bool.eq_iff_iff]
    simp only [Bool.or_eq_true, Bool.and_eq_true, decide_eq_true_eq, beq_iff_eq, List.cons_lt_cons_iff]
theorem leq_le (x y : List UInt8) : (Op.bytesLess x y || x == y) = decide (x ≤ y) := by
  rw [less_lt, Bool.eq_iff_iff]
  simp only [Bool.or_eq_true, decide_eq_true_eq, beq_iff_eq]
  exact List.le_iff_lt_or_eq.symm

def mval (m : M) : Value := .agg #[.string ⟨m.name.toArray⟩, .int .i64 m.power]
def mcells (m : M) : List Value := [.string ⟨m.name.toArray⟩, .int .i64 m.power]
def mrows (L : List M) : List Value := L.flatMap mcells
theorem mrows_length (L : List M) : (mrows L).length = L.length * 2 := by
  induction L with
  | nil => rfl
  | cons a L ih => simp [mrows, mcells] at ih ⊢; omega
theorem mrows_append (L K : List M) : mrows (L ++ K) = mrows L ++ mrows K := by simp [mrows]
theorem mrows_cons (a : M) (L : List M) : mrows (a :: L) = .string ⟨a.name.toArray⟩ :: .int .i64 a.power :: mrows L := by simp [mrows, mcells]
theorem mrows_at (L : List M) (i j : Nat) (hi : i < L.length) (hj : j < 2) : (mrows L)[i * 2 + j]? = (mcells L[i])[j]? := by
  induction L generalizing i with
  | nil => simp at hi
  | cons a L ih =>
    have e : mrows (a :: L) = mcells a ++ mrows L := by simp [mrows]
    rw [e]
    cases i with
    | zero =>
      rw [List.getElem?_append_left (by simp [mcells]; omega)]
      simp
    | succ i =>
      rw [List.getElem?_append_right (by simp [mcells]; omega)]
      have : (i + 1) * 2 + j - (mcells a).length = i * 2 + j := by simp [mcells]; omega
      rw [this, ih i (by simpa using hi)]
      simp
theorem mrows_set (L : List M) (k : Nat) (m : M) (hk : k < L.length) :
    ((mrows L).set (k * 2) (.string ⟨m.name.toArray⟩)).set (k * 2 + 1) (.int .i64 m.power) = mrows (L.set k m) := by
  induction L generalizing k with
  | nil => simp at hk
  | cons a L ih =>
    rw [mrows_cons]
    cases k with
    | zero => simp [mrows_cons]
    | succ k =>
      have := ih k (by simpa using hk)
      rw [show (k + 1) * 2 = k * 2 + 2 by omega]
      simp only [List.set_cons_succ, mrows_cons]
      rw [this]
theorem Try.infoStr : (Try.prog.info? 9).map (fun i => (i.zero, i.size, i.bytes)) = some (some (.string ⟨#[]⟩), 1, 16) := by kernel_rfl

/-- A slice that has these members. -/
def Mems (w : World) (v : Value) (L : List M) : Prop :=
  ∃ (A : Option Addr) (cap : Nat), v = .slice A L.length cap ∧ (0 < L.length → ∃ b o, A = some ⟨b, o, none⟩ ∧ b < w.heap.size ∧ ∀ i (h : i < L.length),
    w.cell? ⟨b, o + i * 2, none⟩ = some (.string ⟨L[i].name.toArray⟩) ∧ w.cell? ⟨b, o + i * 2 + 1, none⟩ = some (.int .i64 L[i].power))
theorem Mems.nil (w : World) : Mems w (.slice none 0 0) [] := ⟨none, 0, rfl, fun h => absurd h (by simp)⟩
theorem Mems.below {w w' : World} {v : Value} {L : List M} (h : Mems w v L) (hb : Below w.heap.size w w') : Mems w' v L := by
  obtain ⟨A, cap, rfl, hc⟩ := h
  refine ⟨A, cap, rfl, fun h0 => ?_⟩
  obtain ⟨b, o, rfl, hlt, hcell⟩ := hc h0
  refine ⟨b, o, rfl, Nat.lt_of_lt_of_le hlt hb.size, fun i hi => ?_⟩
  obtain ⟨h1, h2⟩ := hcell i hi
  exact ⟨(hb.cell hlt).trans h1, (hb.cell hlt).trans h2⟩
theorem Mems.drew {w : World} {v : Value} {L : List M} (h : Mems w v L) : Mems w.drew v L := h.below (Below.refl _ w).drew
/-- One member's cells. -/
theorem Mems.at {w w' : World} {A : Option Addr} {n cap : Nat} {L : List M} (h : Mems w (.slice A n cap) L) (hb : Below w.heap.size w w') (k : Nat) (hk : k < L.length) :
    ∃ b o, A = some ⟨b, o, none⟩ ∧ w'.cell? ⟨b, o + k * 2, none⟩ = some (.string ⟨L[k].name.toArray⟩) ∧ w'.cell? ⟨b, o + k * 2 + 1, none⟩ = some (.int .i64 L[k].power) := by
  obtain ⟨A', cap', hv, hc⟩ := h.below hb
  obtain ⟨rfl, rfl, rfl⟩ : A = A' ∧ n = L.length ∧ cap = cap' := by simpa using hv
  obtain ⟨b, o, rfl, _, hcell⟩ := hc (by omega)
  exact ⟨b, o, rfl, hcell k hk⟩
theorem Mems.len {w : World} {A : Option Addr} {n cap : Nat} {L : List M} (h : Mems w (.slice A n cap) L) : n = L.length := by
  obtain ⟨A', cap', hv, _⟩ := h
  simp at hv
  exact hv.2.1
theorem Mems.form {w : World} {v : Value} {L : List M} (h : Mems w v L) : ∃ A cap, v = .slice A L.length cap := by
  obtain ⟨A, cap, rfl, _⟩ := h
  exact ⟨A, cap, rfl⟩
/-- A member that fits. -/
structure OkMem (m : M) : Prop where
  power : (Lit.int .i64 m.power).wf = true
  name : m.name.length ≤ 140737488351232
theorem weights_of_mem {H : Type} {P : Program} {e : TypeId} : ∀ {l : List (DataW H)} {d : DataW H}, d ∈ l → ∀ n ∈ d.weights P e, n ∈ DataW.weightsAll P e l
  | a :: r, d, hd, n, hn => by
    rw [DataW.weightsAll, List.mem_append]
    cases List.mem_cons.1 hd with
    | inl h => exact Or.inl (h ▸ hn)
    | inr h => exact Or.inr (weights_of_mem h n hn)

end Go.Proofs.Yteolephlajhghaa
