/- Keys stand to one another as their paths do: plain facts on lists of bytes. -/
import Derived.Test.YtglhjalmebdbcaaNibLess
namespace Go.Proofs.Ytglhjalmebdbcaa.Nib

theorem ofL_cons (b : UInt8) (t : List UInt8) : ofL (b :: t) = b / 16 :: b % 16 :: ofL t := by simp [ofL]
theorem ofL_nil : ofL [] = [] := rfl
theorem split_lt (a b : UInt8) (r : Bool) : (decide (a / 16 < b / 16) || (a / 16 == b / 16 && (decide (a % 16 < b % 16) || (a % 16 == b % 16 && r)))) = (decide (a < b) || (a == b && r)) := by
  have e1 : (a / 16 < b / 16) ↔ a.toNat / 16 < b.toNat / 16 := by rw [UInt8.lt_iff_toNat_lt]; simp
  have e2 : (a % 16 < b % 16) ↔ a.toNat % 16 < b.toNat % 16 := by rw [UInt8.lt_iff_toNat_lt]; simp
  have e3 : (a < b) ↔ a.toNat < b.toNat := UInt8.lt_iff_toNat_lt
  have e4 : (a / 16 = b / 16) ↔ a.toNat / 16 = b.toNat / 16 := by rw [← UInt8.toNat_inj]; simp
  have e5 : (a % 16 = b % 16) ↔ a.toNat % 16 = b.toNat % 16 := by rw [← UInt8.toNat_inj]; simp
  have e6 : (a = b) ↔ a.toNat = b.toNat := UInt8.toNat_inj.symm
  rw [Bool.eq_iff_iff]
  simp only [Bool.or_eq_true, Bool.and_eq_true, decide_eq_true_eq, beq_iff_eq, e1, e2, e3, e4, e5, e6]
  constructor
  · rintro (h | ⟨h1, h | ⟨h2, h3⟩⟩)
    · exact Or.inl (by omega)
    · exact Or.inl (by omega)
    · exact Or.inr ⟨by omega, h3⟩
  · rintro (h | ⟨h1, h2⟩)
    · by_cases h' : a.toNat / 16 < b.toNat / 16
      · exact Or.inl h'
      · exact Or.inr ⟨by omega, Or.inl (by omega)⟩
    · exact Or.inr ⟨by omega, Or.inr ⟨by omega, h2⟩⟩
theorem less_of (a b : List UInt8) : Op.bytesLess (ofL a) (ofL b) = Op.bytesLess a b := by
  induction a generalizing b with
  | nil => cases b with
    | nil => rfl
    | cons y t => rw [ofL_cons]; rfl
  | cons x s ih => cases b with
    | nil => rw [ofL_nil, less_nil, less_nil]
    | cons y t => rw [ofL_cons, ofL_cons, less_cons, less_cons, less_cons, ih t, split_lt]
theorem byte_halves {a b : UInt8} (h1 : a / 16 = b / 16) (h2 : a % 16 = b % 16) : a = b := by
  rw [← UInt8.toNat_inj] at *
  simp at h1 h2
  omega
theorem ofL_inj (a b : List UInt8) : (ofL a == ofL b) = (a == b) := by
  rw [Bool.eq_iff_iff]
  simp only [beq_iff_eq]
  refine ⟨?_, fun h => by rw [h]⟩
  induction a generalizing b with
  | nil => cases b with
    | nil => simp
    | cons y t => rw [ofL_cons, ofL_nil]; simp
  | cons x s ih => cases b with
    | nil => rw [ofL_cons, ofL_nil]; simp
    | cons y t =>
      rw [ofL_cons, ofL_cons]
      intro h
      simp only [List.cons.injEq] at h
      rw [byte_halves h.1 h.2.1, ih t h.2.2]
theorem common_of (a b : List UInt8) : commonL (ofL a) (ofL b) / 2 = commonL a b := by
  induction a generalizing b with
  | nil => simp [ofL, commonL]
  | cons x s ih => cases b with
    | nil => simp [ofL, commonL]
    | cons y t =>
      rw [ofL_cons, ofL_cons]
      have := ih t
      unfold commonL
      by_cases h : x = y
      · subst h
        simp only [if_true, commonL]
        omega
      · rw [if_neg h]
        by_cases h1 : x / 16 = y / 16
        · rw [if_pos h1]
          unfold commonL
          rw [if_neg (fun h2 => h (byte_halves h1 h2))]
        · rw [if_neg h1]
theorem common_full (a b : List UInt8) : (commonL (ofL a) (ofL b) = (ofL a).length) ↔ (commonL a b = a.length) := by
  induction a generalizing b with
  | nil => simp [ofL, commonL]
  | cons x s ih => cases b with
    | nil => simp [ofL, commonL]
    | cons y t =>
      rw [ofL_cons, ofL_cons]
      have := ih t
      unfold commonL
      by_cases h : x = y
      · subst h
        simp only [if_true, commonL, List.length_cons]
        omega
      · rw [if_neg h]
        by_cases h1 : x / 16 = y / 16
        · rw [if_pos h1]
          unfold commonL
          rw [if_neg (fun h2 => h (byte_halves h1 h2))]
          simp
        · rw [if_neg h1]; simp
theorem common_symm (a b : List UInt8) : commonL b a = commonL a b := by
  induction a generalizing b with
  | nil => cases b <;> simp [commonL]
  | cons x s ih => cases b with
    | nil => simp [commonL]
    | cons y t =>
      unfold commonL
      by_cases h : x = y
      · subst h; simp [ih t]
      · rw [if_neg h, if_neg (fun e => h e.symm)]

end Go.Proofs.Ytglhjalmebdbcaa.Nib
