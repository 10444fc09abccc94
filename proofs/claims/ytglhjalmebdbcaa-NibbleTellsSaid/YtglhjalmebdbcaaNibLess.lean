/- What follows for the order of texts byte by byte, and for Side as a plain function. -/
import GoSem.Op.String
import Derived.Test.YtglhjalmebdbcaaNibMath
namespace Go.Proofs.Ytglhjalmebdbcaa.Nib

def sideL (p m : List UInt8) : Int := if Op.bytesLess p m = false then 1 else if m.take p.length = p then 0 else -1

theorem less_nil (a : List UInt8) : Op.bytesLess a [] = false := by cases a <;> rfl
theorem less_cons (a b : UInt8) (x y : List UInt8) : Op.bytesLess (a :: x) (b :: y) = (decide (a < b) || (a == b && Op.bytesLess x y)) := rfl
theorem less_append_false (p x m : List UInt8) (h : Op.bytesLess p m = false) : Op.bytesLess (p ++ x) m = false := by
  induction p generalizing m with
  | nil => cases m with
    | nil => exact less_nil _
    | cons b y => simp [Op.bytesLess] at h
  | cons a p ih => cases m with
    | nil => exact less_nil _
    | cons b y =>
      rw [List.cons_append, less_cons]
      rw [less_cons] at h
      simp only [Bool.or_eq_false_iff, Bool.and_eq_false_iff] at h ⊢
      exact ⟨h.1, h.2.imp id (ih y)⟩
theorem less_append_true (p x m : List UInt8) (h : Op.bytesLess p m = true) (hn : m.take p.length ≠ p) : Op.bytesLess (p ++ x) m = true := by
  induction p generalizing m with
  | nil => simp at hn
  | cons a p ih => cases m with
    | nil => rw [less_nil] at h; cases h
    | cons b y =>
      rw [List.cons_append, less_cons]
      rw [less_cons] at h
      simp only [Bool.or_eq_true, Bool.and_eq_true] at h ⊢
      rcases h with h | ⟨h1, h2⟩
      · exact Or.inl h
      · have e : a = b := by simpa using h1
        subst e
        exact Or.inr ⟨h1, ih y h2 (by simpa using hn)⟩
theorem less_prefix_lt (p m : List UInt8) (h : Op.bytesLess p m = true) (hn : m.take p.length = p) : p.length < m.length := by
  induction p generalizing m with
  | nil => cases m with
    | nil => simp [Op.bytesLess] at h
    | cons b y => simp
  | cons a p ih => cases m with
    | nil => simp at hn
    | cons b y =>
      rw [less_cons] at h
      simp at hn
      obtain ⟨rfl, hn⟩ := hn
      have h2 : Op.bytesLess p y = true := by simpa using h
      have := ih y h2 hn
      simp; omega

end Go.Proofs.Ytglhjalmebdbcaa.Nib
