/- The walks of nibble.Of and nibble.Key. -/
import Derived.Test.YtglhjalmebdbcaaNibSpread
import Derived.Test.YtglhjalmebdbcaaNibJoin
import Derived.Test.YtglhjalmebdbcaaNibFit
namespace Go.Proofs.Ytglhjalmebdbcaa
open Go.RowKit

set_option maxHeartbeats 400000 in
theorem of_any (l : List UInt8) (w : World) (hl : l.length ≤ 1000000) :
    Calls Try.prog 11 #[.string ⟨l.toArray⟩] w fun e w' => e = .returned (.string ⟨(Nib.ofL l).toArray⟩) ∧ Below w.heap.size w w' := by
  go_enter Try.func11, Try.ntmps11
  go_wp2_with fail
  refine (spread_any l w.heap.size _ [] w (Nat.le_refl _) hl (by simp) (ownsNil w _)).mono ?_
  rintro e w1 ⟨v', rfl, hown, hbel⟩
  have hc := conv_own hown
  go_wp2
  go_ret
  exact ⟨rfl, hbel⟩

set_option maxHeartbeats 400000 in
theorem key_bad (l : List UInt8) (w : World) (hl : l.length ≤ 1000000) (hf : Nib.fitL l = false) :
    Calls Try.prog 9 #[.string ⟨l.toArray⟩] w fun e w' => e = .returned (.tuple #[.string ⟨#[]⟩, .int .i64 3]) ∧ Below w.heap.size w w' := by
  have HF := Lib.hid hf; clear hf
  go_enter Try.func9, Try.ntmps9
  go_wp2_with fail
  refine (fit_any l w hl).mono ?_
  rintro e w1 ⟨rfl, rfl⟩
  rw [HF.out]
  go_wp2
  go_ret2
  exact ⟨rfl, Below.refl _ _⟩

set_option maxHeartbeats 400000 in
theorem key_odd (l : List UInt8) (w : World) (hl : l.length ≤ 1000000) (hf : Nib.fitL l = true) (ho : l.length % 2 = 1) :
    Calls Try.prog 9 #[.string ⟨l.toArray⟩] w fun e w' => e = .returned (.tuple #[.string ⟨#[]⟩, .int .i64 4]) ∧ Below w.heap.size w w' := by
  have HF := Lib.hid hf; clear hf
  have ho1 : ((l.length : Int) % 2 != 0) = true := by rw [bne_iff_ne]; omega
  clear ho
  go_enter Try.func9, Try.ntmps9
  go_wp2_with fail
  refine (fit_any l w hl).mono ?_
  rintro e w1 ⟨rfl, rfl⟩
  rw [HF.out]
  go_wp2
  go_ret2
  exact ⟨rfl, Below.refl _ _⟩

set_option maxHeartbeats 400000 in
theorem key_good (l : List UInt8) (w : World) (hl : l.length ≤ 1000000) (hf : Nib.fitL l = true) (ho : l.length % 2 = 0) :
    Calls Try.prog 9 #[.string ⟨l.toArray⟩] w fun e w' => e = .returned (.tuple #[.string ⟨(Nib.joinL l).toArray⟩, .int .i64 0]) ∧ Below w.heap.size w w' := by
  have HF := Lib.hid hf; clear hf
  have ho1 : ((l.length : Int) % 2 != 0) = false := by simp; omega
  clear ho
  go_enter Try.func9, Try.ntmps9
  go_wp2_with fail
  refine (fit_any l w hl).mono ?_
  rintro e w1 ⟨rfl, rfl⟩
  rw [HF.out]
  go_wp2_with fail
  refine (join_any l w.heap.size _ [] w (Nat.le_refl _) hl (by simp) HF.out (ownsNil w _)).mono ?_
  rintro e w1 ⟨v', rfl, hown, hbel⟩
  have hc := conv_own hown
  go_wp2
  go_ret2
  exact ⟨rfl, hbel⟩

end Go.Proofs.Ytglhjalmebdbcaa
