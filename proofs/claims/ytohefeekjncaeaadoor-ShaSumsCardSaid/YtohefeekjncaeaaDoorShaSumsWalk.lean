/- The law ShaSums, walked. -/
import Derived.Test.YtohefeekjncaeaaDoorShaRefSum
import Derived.Test.YtohefeekjncaeaaDoorShaWorks
namespace Go.Proofs.YtohefeekjncaeaaDoor
open Go.RowKit

set_option maxRecDepth 8000 in
set_option maxHeartbeats 1000000 in
theorem sums_walk (a : ByteArray) (w : World) (ha : a.size ≤ maxLen) (hT : Tab w) :
    Calls Tryd.prog 4 #[.string a] w fun e w' => e = .returned (.bool true) ∧ Below w.heap.size w w' := by
  obtain ⟨s, rfl⟩ := bytes_list a
  have HT := Lib.hid hT
  have hsz : s.length ≤ 9223372036854775807 := by
    have : (⟨s.toArray⟩ : ByteArray).size = s.length := by simp [ByteArray.size]
    unfold maxLen at ha
    omega
  clear hT ha
  by_cases hbig : s.length > 1000
  · have hb : (s.length : Int) > 1000 := by omega
    go_enter Tryd.func4, Tryd.ntmps4
    go_wp2_with fail
    refine (works_any w HT.out).mono ?_
    rintro e w1 ⟨rfl, hb1⟩
    go_wp2
    go_ret
    exact ⟨rfl, hb1⟩
  · have hb : ¬ ((s.length : Int) > 1000) := by omega
    have h1 := Lib.hid (sum_any s w HT.out (by omega))
    have h2 := Lib.hid (fun w' => rsum_any s w' (by omega))
    obtain ⟨R, hR⟩ : ∃ R, Sha.sumP s = R := ⟨_, rfl⟩
    rw [hR] at h1 h2
    clear hR
    go_enter Tryd.func4, Tryd.ntmps4
    go_wp2_with fail
    refine h1.out.mono ?_
    rintro e w1 ⟨rfl, hb1⟩
    go_wp2_with fail
    refine (h2.out _).mono ?_
    rintro e w2 ⟨rfl, hb2⟩
    have HB2 := Lib.hid (bchain hb1 hb2)
    clear hb1 hb2
    go_wp2_with fail
    refine (works_any _ (HT.out.below HB2.out)).mono ?_
    rintro e w3 ⟨rfl, hb3⟩
    go_wp2
    go_ret
    exact ⟨rfl, HB2.out.trans (hb3.mono HB2.out.size)⟩
end Go.Proofs.YtohefeekjncaeaaDoor
