/- The walk of the chapter's examples ('works'): it answers true; nothing that was in memory is changed. -/
import Derived.Test.YtglhjalmebdbcaaNibPack
import Derived.Test.YtglhjalmebdbcaaNibSide
namespace Go.Proofs.Ytglhjalmebdbcaa
open Go.RowKit

theorem ex_of : Nib.ofL [65, 49] = [4, 1, 3, 1] := by decide +kernel
theorem ex_pack1 : Nib.packL [4, 1, 3, 1] true = [32, 65, 49] := by decide +kernel
theorem ex_pack2 : Nib.packL [5, 10, 11] false = [21, 171] := by decide +kernel
theorem ex_side : Nib.sideL [4, 1] [4, 2] = -1 := by decide +kernel

set_option maxHeartbeats 400000 in
theorem works_any (w : World) : Calls Try.prog 8 #[] w fun e w' => e = .returned (.bool true) ∧ Below w.heap.size w w' := by
  go_enter Try.func8, Try.ntmps8
  go_wp2_with fail
  refine (of_any [65, 49] w (by simp)).mono ?_
  rintro e w1 ⟨rfl, hb1⟩
  rw [ex_of]
  go_wp2_with fail
  refine (pack_even [4, 1, 3, 1] true w1 (by simp) (by decide +kernel) (by simp)).mono ?_
  rintro e w2 ⟨rfl, hb2⟩
  rw [ex_pack1]
  go_wp2_with fail
  refine (pack_odd 5 [10, 11] false w2 (by simp) (by decide +kernel) (by simp)).mono ?_
  rintro e w3 ⟨rfl, hb3⟩
  rw [ex_pack2]
  go_wp2_with fail
  refine (of_any [65, 49] w3 (by simp)).mono ?_
  rintro e w4 ⟨rfl, hb4⟩
  rw [ex_of]
  go_wp2_with fail
  refine (side_any [4, 1] [4, 2] w4).mono ?_
  rintro e w5 ⟨rfl, rfl⟩
  rw [ex_side]
  go_wp2
  go_ret
  have s1 := hb1.size
  have s2 := hb2.size
  have s3 := hb3.size
  exact ⟨rfl, ((hb1.trans (hb2.mono s1)).trans (hb3.mono (by omega))).trans (hb4.mono (by omega))⟩

end Go.Proofs.Ytglhjalmebdbcaa
