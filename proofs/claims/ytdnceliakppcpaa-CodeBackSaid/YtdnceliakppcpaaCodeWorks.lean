/- The chapter's examples (pharoslaw02.works): they hold. -/
import Derived.Test.YtdnceliakppcpaaCodeText
import Derived.Test.YtdnceliakppcpaaCodeCount
namespace Go.Proofs.Ytdnceliakppcpaa
open Go.RowKit

theorem numL_300 : Code.numL 300 = [2, 1, 44] := by
  rw [Code.numL, Code.sz_iff 300 2 (by decide)]; decide
theorem listL_ab : Code.listL [[97, 98], []] = [1, 2, 1, 2, 97, 98, 0] := by
  have h0 := Code.sz_zero
  have h2 := Code.sz_iff 2 1 (by decide)
  simp only [Code.listL, Code.textsL, Code.textL, Code.numL, List.flatMap_cons, List.flatMap_nil, List.length_cons, List.length_nil, Nat.zero_add, Nat.reduceAdd, h0, h2]
  decide
theorem count_10 : Code.countL 9223372036854775807 [1, 0] = (0, [1, 0], 3) := by decide
theorem strs_two (w : World) (a b : List UInt8) : Strs (w.alloc (.cells #[.string ⟨a.toArray⟩, .string ⟨b.toArray⟩] 9)) (.slice (some ⟨w.heap.size, 0, none⟩) 2 2) [a, b] := by
  refine ⟨some ⟨w.heap.size, 0, none⟩, 2, rfl, fun i hi => ⟨_, rfl, ?_⟩⟩
  have h := cell_two_new w (.string ⟨a.toArray⟩) (.string ⟨b.toArray⟩) 9
  match i, hi with
  | 0, _ => exact h 0 _ rfl
  | 1, _ => exact h 1 _ rfl

set_option maxHeartbeats 1000000 in
theorem works_any (w : World) : Calls Try.prog 8 #[] w fun e w' => e = .returned (.bool true) ∧ Below w.heap.size w w' := by
  go_enter Try.func8, Try.ntmps8
  go_wp2_with fail
  refine (num_any 300 (by decide) w).mono ?_
  rintro e w1 ⟨rfl, hb1⟩
  rw [numL_300]
  go_wp2_with fail
  refine (read_any [1, 0] w1).mono ?_
  rintro e w2 ⟨rfl, hr2, hb2⟩
  go_wp2_with fail
  refine (rnum_any [1, 0] _ w2 hr2 (by decide)).mono ?_
  rintro e w3 ⟨rfl, hr3, ho3⟩
  rw [count_10] at hr3 ⊢
  simp only at hr3
  have hb3 := bchain hb1 (hb2.trans (ho3.below (Nat.le_refl _) hb2.size))
  go_wp2_with fail
  refine (code_any _ 3 _ w3 hr3).mono ?_
  rintro e w4 ⟨rfl, rfl⟩
  go_wp2_with fail
  refine (list_any [[97, 98], []] _ _ (strs_two _ _ _) (by decide) (Nat.le_trans (Code.texts_bound _ 2 (by decide) (by decide)) (by decide))).mono ?_
  rintro e w5 ⟨rfl, hb5⟩
  rw [listL_ab]
  go_wp2
  go_ret
  exact ⟨rfl, bchain hb3 (((Below.refl _ _).alloc (Nat.le_refl _) _).trans (hb5.mono (by simp)))⟩

end Go.Proofs.Ytdnceliakppcpaa
