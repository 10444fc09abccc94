/- The walks of nibble.Side and of the document's Side: each answers 1, 0 or -1 as the plain function does, and leaves the world as it was. -/
import Derived.Test.YtglhjalmebdbcaaNibBase
import Derived.Test.YtglhjalmebdbcaaNibLess
import Derived.WalkSpells
import Derived.WalkLawsBesides
import Derived.Lib.Hide
import Derived.Lib.Strings
namespace Go.Proofs.Ytglhjalmebdbcaa
open Go.RowKit

theorem pre_yes {m p : List UInt8} (h : (((⟨m.toArray⟩ : ByteArray).extract 0 p.length).toList == p) = true) : m.take p.length = p := by
  rw [Lib.extract_eq] at h; simpa using h
theorem pre_no {m p : List UInt8} (h : (((⟨m.toArray⟩ : ByteArray).extract 0 p.length).toList == p) = false) : ¬ m.take p.length = p := by
  rw [Lib.extract_eq] at h; simpa using h
theorem side1 {p m : List UInt8} (h : (!Op.bytesLess p m) = true) : Nib.sideL p m = 1 := by
  unfold Nib.sideL; rw [if_pos (by simpa using h)]
theorem side0 {p m : List UInt8} (h : (!Op.bytesLess p m) = false) (h2 : m.take p.length = p) : Nib.sideL p m = 0 := by
  unfold Nib.sideL; rw [if_neg (by simpa using h), if_pos h2]
theorem sideM {p m : List UInt8} (h : (!Op.bytesLess p m) = false) (h2 : ¬ m.take p.length = p) : Nib.sideL p m = -1 := by
  unfold Nib.sideL; rw [if_neg (by simpa using h), if_neg h2]
theorem short_no {p m : List UInt8} (h : ¬ p.length ≤ m.length) : ¬ m.take p.length = p := by
  intro e; have := congrArg List.length e; simp at this; omega

set_option maxHeartbeats 400000 in
theorem side_any (p m : List UInt8) (w : World) :
    Calls Try.prog 17 #[.string ⟨p.toArray⟩, .string ⟨m.toArray⟩] w fun e w' => e = .returned (.int .i64 (Nib.sideL p m)) ∧ w = w' := by
  go_enter Try.func17, Try.ntmps17
  go_wp2
  · go_ret
    exact ⟨by rw [side1 ‹_›]; rfl, rfl⟩
  · go_ret
    exact ⟨by rw [side0 ‹_› (pre_yes ‹_›)]; rfl, rfl⟩
  · go_ret
    exact ⟨by rw [sideM ‹_› (pre_no ‹_›)]; rfl, rfl⟩
  · go_ret
    exact ⟨by rw [sideM ‹_› (short_no ‹_›)]; rfl, rfl⟩

set_option maxHeartbeats 400000 in
theorem rside_any (p m : List UInt8) (w : World) :
    Calls Try.prog 18 #[.string ⟨p.toArray⟩, .string ⟨m.toArray⟩] w fun e w' => e = .returned (.int .i64 (Nib.sideL p m)) ∧ w = w' := by
  go_enter Try.func18, Try.ntmps18
  go_wp2
  · go_ret
    exact ⟨by rw [side1 ‹_›]; rfl, rfl⟩
  · go_ret
    exact ⟨by rw [side0 ‹_› (pre_yes ‹_›)]; rfl, rfl⟩
  · go_ret
    exact ⟨by rw [sideM ‹_› (pre_no ‹_›)]; rfl, rfl⟩
  · go_ret
    exact ⟨by rw [sideM ‹_› (short_no ‹_›)]; rfl, rfl⟩

end Go.Proofs.Ytglhjalmebdbcaa
