/- The walks of nibble.Fit and of the document's Fit: each answers whether all bytes are at most 15, and leaves the world as it was. -/
import Derived.Test.YtglhjalmebdbcaaChecked
import Derived.Test.YtglhjalmebdbcaaNibMath
import Derived.WalkKit
import Derived.WalkSpells
import Derived.WalkLawsBesides
import Derived.ShutString
import Derived.Lib.Hide
namespace Go.Proofs.Ytglhjalmebdbcaa
open Go.RowKit

set_option maxHeartbeats 400000 in
theorem fit_any (l : List UInt8) (w : World) (hl : l.length ≤ 1000000) :
    Calls Try.prog 13 #[.string ⟨l.toArray⟩] w fun e w' => e = .returned (.bool (Nib.fitL l)) ∧ w = w' := by
  go_enter Try.func13, Try.ntmps13
  go_wp2
  go_loop [6] (fun i => ∃ k : Nat, k ≤ l.length ∧ Nib.fitL (l.take k) = true ∧ i = .int .i64 k) (fun i => l.length - (intOf i).toNat)
  case atStart => exact ⟨0, Nat.zero_le _, rfl, rfl⟩
  case round =>
    obtain ⟨k, hk, hf, rfl⟩ := hrel
    have HF := Lib.hid hf; clear hf
    by_cases hlt : k < l.length
    · go_wp2
      · go_ret
        have hb : (15 : Int) < ((l[k].toNat : Nat) : Int) := by assumption
        exact ⟨by rw [Nib.fitL_false l k hlt (by omega)]; rfl, rfl⟩
      · go_round
        case rel =>
          have hb : ((l[k].toNat : Nat) : Int) ≤ 15 := by assumption
          exact ⟨k + 1, by omega, by rw [Nib.fitL_take_succ l k hlt, HF.out]; simp; omega, by go_num⟩
        case measure => simp [intOf]; omega
    · go_wp2
      go_ret
      have := HF.out
      rw [List.take_of_length_le (by omega)] at this
      exact ⟨by rw [this]; rfl, rfl⟩

set_option maxHeartbeats 400000 in
theorem rfit_any (l : List UInt8) (w : World) (hl : l.length ≤ 1000000) :
    Calls Try.prog 14 #[.string ⟨l.toArray⟩] w fun e w' => e = .returned (.bool (Nib.fitL l)) ∧ w = w' := by
  go_enter Try.func14, Try.ntmps14
  go_wp2
  go_loop [3] (fun i => ∃ k : Nat, k ≤ l.length ∧ Nib.fitL (l.take k) = true ∧ i = .int .i64 k) (fun i => l.length - (intOf i).toNat)
  case atStart => exact ⟨0, Nat.zero_le _, rfl, rfl⟩
  case round =>
    obtain ⟨k, hk, hf, rfl⟩ := hrel
    have HF := Lib.hid hf; clear hf
    by_cases hlt : k < l.length
    · go_wp2
      · go_ret
        have hb : (15 : Int) < ((l[k].toNat : Nat) : Int) := by assumption
        exact ⟨by rw [Nib.fitL_false l k hlt (by omega)]; rfl, rfl⟩
      · go_round
        case rel =>
          have hb : ((l[k].toNat : Nat) : Int) ≤ 15 := by assumption
          exact ⟨k + 1, by omega, by rw [Nib.fitL_take_succ l k hlt, HF.out]; simp; omega, by go_num⟩
        case measure => simp [intOf]; omega
    · go_wp2
      go_ret
      have := HF.out
      rw [List.take_of_length_le (by omega)] at this
      exact ⟨by rw [this]; rfl, rfl⟩

end Go.Proofs.Ytglhjalmebdbcaa
