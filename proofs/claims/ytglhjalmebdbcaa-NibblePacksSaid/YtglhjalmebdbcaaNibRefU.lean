/- The document's Pack of any path and Unpack of any text, each in one contract a result. -/
import Derived.Test.YtglhjalmebdbcaaNibRefPack
import Derived.Test.YtglhjalmebdbcaaNibRefUnpack
namespace Go.Proofs.Ytglhjalmebdbcaa
open Go.RowKit

theorem rpack_good (l : List UInt8) (leaf : Bool) (w : World) (hl : l.length ≤ 100000) (hf : Nib.fitL l = true) :
    Calls Try.prog 20 #[.string ⟨l.toArray⟩, .bool leaf] w fun e w' => e = .returned (.tuple #[.string ⟨(Nib.packL l leaf).toArray⟩, .int .i64 0]) ∧ Below w.heap.size w w' := by
  rcases Nat.mod_two_eq_zero_or_one l.length with h | h
  · exact rpack_even l leaf w hl hf h
  · exact rpack_odd l leaf w hl hf h
theorem runpack_none (s : List UInt8) (w : World) (hl : s.length ≤ 100000) (h : Nib.unpackL s = none) :
    Calls Try.prog 22 #[.string ⟨s.toArray⟩] w fun e w' => e = .returned (.tuple #[.string ⟨#[]⟩, .bool false, .int .i64 3]) ∧ Below w.heap.size w w' := by
  match s, hl, h with
  | [], _, _ => exact runpack_nil w
  | b :: t, hl, h =>
    have hm : Nib.mayL b = false := by
      rcases hm : Nib.mayL b with _ | _
      · rfl
      · rcases Nat.mod_two_eq_zero_or_one (b.toNat / 16) with h1 | h1
        · rw [Nib.unpackL_even b t hm h1] at h; cases h
        · rw [Nib.unpackL_odd b t hm h1] at h; cases h
    exact runpack_bad b t w (by simp at hl; omega) hm
theorem runpack_some (s p : List UInt8) (is : Bool) (w : World) (hl : s.length ≤ 100000) (h : Nib.unpackL s = some (p, is)) :
    Calls Try.prog 22 #[.string ⟨s.toArray⟩] w fun e w' => e = .returned (.tuple #[.string ⟨p.toArray⟩, .bool is, .int .i64 0]) ∧ Below w.heap.size w w' := by
  match s, hl, h with
  | b :: t, hl, h =>
    have hm := Nib.unpackL_may b t p is h
    rcases Nat.mod_two_eq_zero_or_one (b.toNat / 16) with h1 | h1
    · rw [Nib.unpackL_even b t hm h1] at h
      simp only [Option.some.injEq, Prod.mk.injEq] at h
      obtain ⟨rfl, rfl⟩ := h
      exact runpack_even b t w (by simp at hl; omega) hm h1
    · rw [Nib.unpackL_odd b t hm h1] at h
      simp only [Option.some.injEq, Prod.mk.injEq] at h
      obtain ⟨rfl, rfl⟩ := h
      exact runpack_odd b t w (by simp at hl; omega) hm h1

end Go.Proofs.Ytglhjalmebdbcaa
