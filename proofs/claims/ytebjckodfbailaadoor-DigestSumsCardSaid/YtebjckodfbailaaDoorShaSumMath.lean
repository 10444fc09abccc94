/- What fills a text, as the document says it. -/
import Derived.Test.YtebjckodfbailaaDoorShaMath
namespace Go.Proofs.YtebjckodfbailaaDoor.Sha
open Go

/-- A number's last k bytes, the highest first. -/
def endR (N : Nat) : Nat → List UInt8
  | 0 => []
  | k + 1 => byteOf ((N / 256 ^ k : Nat) : Int) :: endR N k
theorem endR_length (N k : Nat) : (endR N k).length = k := by
  induction k with
  | zero => rfl
  | succ k ih => simp [endR, ih]
theorem set8 (A B : List UInt8) (b0 b1 b2 b3 b4 b5 b6 b7 : UInt8) (n : Nat) (hA : A.length = n) :
    ((((((((A ++ 0 :: 0 :: 0 :: 0 :: 0 :: 0 :: 0 :: 0 :: B).set (n + 0) b0).set (n + 1) b1).set (n + 2) b2).set (n + 3) b3).set (n + 4) b4).set (n + 5) b5).set (n + 6) b6).set (n + 7) b7 = (A ++ [b0, b1, b2, b3, b4, b5, b6, b7]) ++ B := by
  subst hA
  simp
theorem tail_base (z : Nat) (hz : z ≤ 63) : (List.replicate 72 (0 : UInt8)).set 0 128 = (128 :: List.replicate z 0) ++ 0 :: 0 :: 0 :: 0 :: 0 :: 0 :: 0 :: 0 :: List.replicate (63 - z) 0 := by
  have e : (List.replicate 72 (0 : UInt8)) = 0 :: (List.replicate z 0 ++ 0 :: 0 :: 0 :: 0 :: 0 :: 0 :: 0 :: 0 :: List.replicate (63 - z) 0) := by
    apply List.ext_getElem
    · simp; omega
    · intro i h1 h2
      rw [List.getElem_replicate]
      have : ∀ x ∈ (0 : UInt8) :: (List.replicate z 0 ++ 0 :: 0 :: 0 :: 0 :: 0 :: 0 :: 0 :: 0 :: List.replicate (63 - z) 0), x = 0 := by
        intro x hx
        simp [List.mem_replicate] at hx
        rcases hx with h | h | h | h <;> simp_all
      exact (this _ (List.getElem_mem h2)).symm
  rw [e]
  rfl
theorem tailP_is (n z : Nat) (hz : z = (119 - n % 64) % 64) : tailP n = (128 :: List.replicate z 0) ++ endR (n * 8) 8 := by
  have hp : padN n = 1 + z := by rw [hz]; rfl
  have hA : ((128 : UInt8) :: List.replicate z 0).length = 1 + z := by simp; omega
  have h8 := set8 (128 :: List.replicate z 0) (List.replicate (63 - z) 0) (byteOf ((n : Int) * 8 / 2 ^ (8 * (7 - 0)))) (byteOf ((n : Int) * 8 / 2 ^ (8 * (7 - 1)))) (byteOf ((n : Int) * 8 / 2 ^ (8 * (7 - 2)))) (byteOf ((n : Int) * 8 / 2 ^ (8 * (7 - 3)))) (byteOf ((n : Int) * 8 / 2 ^ (8 * (7 - 4)))) (byteOf ((n : Int) * 8 / 2 ^ (8 * (7 - 5)))) (byteOf ((n : Int) * 8 / 2 ^ (8 * (7 - 6)))) (byteOf ((n : Int) * 8 / 2 ^ (8 * (7 - 7)))) (1 + z) hA
  have ht : tailFill n 8 = ((128 :: List.replicate z 0) ++ [byteOf ((n : Int) * 8 / 2 ^ (8 * (7 - 0))), byteOf ((n : Int) * 8 / 2 ^ (8 * (7 - 1))), byteOf ((n : Int) * 8 / 2 ^ (8 * (7 - 2))), byteOf ((n : Int) * 8 / 2 ^ (8 * (7 - 3))), byteOf ((n : Int) * 8 / 2 ^ (8 * (7 - 4))), byteOf ((n : Int) * 8 / 2 ^ (8 * (7 - 5))), byteOf ((n : Int) * 8 / 2 ^ (8 * (7 - 6))), byteOf ((n : Int) * 8 / 2 ^ (8 * (7 - 7)))]) ++ List.replicate (63 - z) 0 := by
    rw [← h8, ← tail_base z (by omega)]
    simp only [tailFill, hp]
  rw [tailP, ht, hp, List.take_append_of_le_length (by simp; omega), List.take_of_length_le (by simp; omega)]
  congr 1
/-- A block, byte by byte. -/
def copyR (X : List UInt8) : Nat → List UInt8
  | 0 => List.replicate 64 0
  | j + 1 => (copyR X j).set j (X.getD j 0)
theorem copyR_length (X : List UInt8) (j : Nat) : (copyR X j).length = 64 := by
  induction j with
  | zero => simp [copyR]
  | succ j ih => simp [copyR, ih]
theorem copyR_is (X : List UInt8) (hX : X.length = 64) (j : Nat) (hj : j ≤ 64) : copyR X j = X.take j ++ List.replicate (64 - j) 0 := by
  induction j with
  | zero => simp [copyR]
  | succ j ih =>
    rw [copyR, ih (by omega), show 64 - j = (64 - (j + 1)) + 1 by omega, List.replicate_succ, List.set_append_right _ _ (by simp; omega),
      List.take_succ_eq_append_getElem (by omega)]
    have e : j - (X.take j).length = 0 := by simp; omega
    rw [e, List.set_cons_zero, List.getD_eq_getElem?_getD, List.getElem?_eq_getElem (by omega), Option.getD_some, List.append_assoc]
    rfl
theorem copyR_all (X : List UInt8) (hX : X.length = 64) : copyR X 64 = X := by
  rw [copyR_is X hX 64 (by omega), List.take_of_length_le (by omega)]
  simp
end Go.Proofs.YtebjckodfbailaaDoor.Sha
