/- In which order the steps come is the same. -/
import Derived.Test.YteolephlajhghaaOraMath
namespace Go.Proofs.Yteolephlajhghaa
namespace Ora

theorem told_rev (l : List St) (k : K) : toldOf (l.reverse ++ l.reverse) k = toldOf l k := by
  unfold toldOf
  simp only [List.any_append, List.any_reverse, List.all_append, List.all_reverse, Bool.or_self, Bool.and_self]
theorem fill_rev (l : List St) (hl : l.length ≤ 100) : fillP (l.reverse ++ l.reverse) = fillP l := by
  refine rising_ext (fill_rising _) (fill_rising _) fun k => ?_
  rw [fill_look _ (by simp; omega), fill_look _ (by omega), told_rev]
/-- Steps taken from the end on. -/
theorem back_step (l : List St) (S : List Sig) (k : Nat) (hk : k < l.length) : (l.reverse.take (l.length - k)).foldl step S = step ((l.reverse.take (l.length - (k + 1))).foldl step S) l[k] := by
  have h1 : l.length - (k + 1) < l.reverse.length := by simp; omega
  have e : l.length - k = l.length - (k + 1) + 1 := by omega
  rw [e, List.take_succ_eq_append_getElem h1, List.foldl_append]
  simp only [List.foldl_cons, List.foldl_nil]
  congr 1
  rw [List.getElem_reverse]
  congr 1
  omega
theorem back_all (l : List St) : fillP (l.reverse ++ l.reverse) = (l.reverse.foldl step (l.reverse.foldl step [])) := by
  unfold fillP
  rw [List.foldl_append]
/-- The steps from the end on, so many times. -/
def backs (l : List St) : Nat → List Sig
  | 0 => []
  | r + 1 => l.reverse.foldl step (backs l r)
theorem backs_two (l : List St) (hl : l.length ≤ 100) : backs l 2 = fillP l := by
  rw [← fill_rev l hl, back_all]; rfl
theorem backs_length (l : List St) : ∀ r, (backs l r).length ≤ r * l.length
  | 0 => by simp [backs]
  | r + 1 => by
    have h1 := backs_length l r
    have h2 := fold_length l.reverse (backs l r)
    rw [List.length_reverse] at h2
    rw [Nat.add_mul]
    simp only [backs]
    omega
end Ora
end Go.Proofs.Yteolephlajhghaa
