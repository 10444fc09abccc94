/- The blocks that end a text. -/
import Derived.Test.YtohefeekjncaeaaDoorShaMath
import Derived.KernelRfl
namespace Go.Proofs.YtohefeekjncaeaaDoor.Sha
open Go

/-- The block behind k whole blocks. -/
def endB (k : Nat) : List UInt8 := 128 :: (List.replicate 61 0 ++ [byteOf (512 * (k : Int) / 256), byteOf (512 * (k : Int))])
theorem endB_fin : ∀ k : Fin 7, tailP (64 * k.val) = endB k.val := by decide +kernel
theorem endB_is (k : Nat) (h : k ≤ 6) : tailP (64 * k) = endB k := endB_fin ⟨k, by omega⟩
/-- What stands behind a text of n bytes in its one block. -/
def oneT (n : Nat) : List UInt8 := (((List.replicate (64 - n) (0 : UInt8)).set 0 128).set (62 - n) (byteOf ((n : Int) / 32))).set (63 - n) (byteOf ((n : Int) * 8))
theorem oneT_fin : ∀ n : Fin 56, tailP n.val = oneT n.val := by decide +kernel
theorem oneT_is (n : Nat) (h : n ≤ 55) : tailP n = oneT n := oneT_fin ⟨n, by omega⟩
theorem one_is (s : List UInt8) (h : s.length ≤ 55) : (((s ++ List.replicate (64 - s.length) 0).set s.length 128).set 62 (byteOf ((s.length : Int) / 32))).set 63 (byteOf ((s.length : Int) * 8)) = s ++ tailP s.length := by
  rw [oneT_is _ h, oneT, List.set_append_right _ _ (Nat.le_refl _), Nat.sub_self, List.set_append_right _ _ (by omega), List.set_append_right _ _ (by omega)]
theorem sum_one (s : List UInt8) (h : s.length ≤ 55) : sumP s = joinP (blockP first (s ++ tailP s.length)) := by
  have hl : (s ++ tailP s.length).length = 64 := by rw [List.length_append, tailP_length, padN]; omega
  unfold sumP wordsP
  rw [hl]
  show joinP (absorb (s ++ tailP s.length) 1) = _
  simp only [absorb]
  rw [Nat.mul_zero, List.drop_zero, List.take_of_length_le (by omega)]
theorem sum_blocks (all : List UInt8) (k : Nat) (hk : k ≤ 6) (h : all.length = 64 * k) : sumP all = joinP (blockP (absorb all k) (endB k)) := by
  have ht : (tailP (64 * k)).length = 64 := by rw [tailP_length, padN]; omega
  have hl : (all ++ tailP (64 * k)).length = 64 * (k + 1) := by rw [List.length_append, ht]; omega
  unfold sumP wordsP
  rw [h, hl, Nat.mul_div_cancel_left _ (by omega), absorb, absorb_append _ _ _ (by omega), ← h, List.drop_append_of_le_length (Nat.le_refl _), List.drop_length, List.nil_append, h, List.take_of_length_le (by omega), endB_is k hk]
theorem absorb_flat (L : List (List UInt8)) (h64 : ∀ x ∈ L, x.length = 64) (k : Nat) (hk : k < L.length) : absorb ((L.take (k + 1)).flatten) (k + 1) = blockP (absorb ((L.take k).flatten) k) L[k] := by
  have hl : ∀ M : List (List UInt8), (∀ x ∈ M, x.length = 64) → M.flatten.length = 64 * M.length := by
    intro M
    induction M with
    | nil => simp
    | cons a M ih =>
      intro hM
      rw [List.flatten_cons, List.length_append, hM a (by simp), ih (fun x hx => hM x (by simp [hx])), List.length_cons]
      omega
  have h1 : ((L.take k).flatten).length = 64 * k := by
    rw [hl _ (fun x hx => h64 x (List.mem_of_mem_take hx)), List.length_take]
    congr 1
    omega
  have h2 : L[k].length = 64 := h64 _ (List.getElem_mem hk)
  rw [List.take_succ_eq_append_getElem hk, List.flatten_append]
  simp only [List.flatten_cons, List.flatten_nil, List.append_nil]
  rw [absorb, absorb_append _ _ _ (by omega), ← h1, List.drop_append_of_le_length (Nat.le_refl _), List.drop_length, List.nil_append, List.take_of_length_le (Nat.le_of_eq h2)]
theorem flat_len (L : List (List UInt8)) (h64 : ∀ x ∈ L, x.length = 64) (k : Nat) (hk : k ≤ L.length) : ((L.take k).flatten).length = 64 * k := by
  have hl : ∀ M : List (List UInt8), (∀ x ∈ M, x.length = 64) → M.flatten.length = 64 * M.length := by
    intro M
    induction M with
    | nil => simp
    | cons a M ih =>
      intro hM
      rw [List.flatten_cons, List.length_append, hM a (by simp), ih (fun x hx => hM x (by simp [hx])), List.length_cons]
      omega
  rw [hl _ (fun x hx => h64 x (List.mem_of_mem_take hx)), List.length_take]
  congr 1
  omega
end Go.Proofs.YtohefeekjncaeaaDoor.Sha
