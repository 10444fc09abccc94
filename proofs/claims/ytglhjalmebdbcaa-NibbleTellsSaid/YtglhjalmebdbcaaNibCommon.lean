/- The walks of nibble.Common and of the document's Common: each answers with how many bytes, the same ones, both begin; nothing that was in memory is changed. -/
import Derived.Test.YtglhjalmebdbcaaChecked
import Derived.Test.YtglhjalmebdbcaaNibBase
import Derived.WalkKit
import Derived.WalkSpells
import Derived.WalkLawsBesides
import Derived.ShutString
import Derived.Lib.Hide
import Derived.Deep.QuietTactic
import Derived.BigQuiet
import Derived.WalkSmall
namespace Go.Proofs.Ytglhjalmebdbcaa
open Go.RowKit

set_option maxHeartbeats 400000 in
theorem common_any (a b : List UInt8) (w : World) (ha : a.length ≤ 1000000) (hb : b.length ≤ 1000000) :
    Calls Try.prog 15 #[.string ⟨a.toArray⟩, .string ⟨b.toArray⟩] w fun e w' => e = .returned (.int .i64 (Nib.commonL a b)) ∧ Below w.heap.size w w' := by
  rcases Nat.lt_or_ge b.length a.length with hm | hm
  all_goals
    go_enter Try.func15, Try.ntmps15
    go_wp2
    go_loopw [13] (fun i wr => ∃ k : Nat, k ≤ min a.length b.length ∧ a.take k = b.take k ∧ i = .int .i64 k ∧ Below w.heap.size w wr) (fun i _ => min a.length b.length - (intOf i).toNat)
    case atStart => exact ⟨0, Nat.zero_le _, by simp, rfl, Below.refl _ _⟩
    case round =>
      obtain ⟨k, hk, hf, rfl, hbel⟩ := hrel
      have HF := Lib.hid hf; clear hf
      by_cases hlt : k < min a.length b.length
      · have h1 : (k : Int) < (a.length : Int) := by omega
        have h2 : (k : Int) < (b.length : Int) := by omega
        go_wp2
        go_quiet (fail)
        go_wp2
        · go_ret
          have ht : (((a[k]'(by omega)).toNat : Int) != ((b[k]'(by omega)).toNat : Int)) = true := by assumption
          exact ⟨by rw [Nib.commonL_of_diff a b k (by omega) (by omega) HF.out (Nib.byte_ne ht)]; rfl, below_drewN hbel _⟩
        · go_roundw
          case rel =>
            have ht : (((a[k]'(by omega)).toNat : Int) != ((b[k]'(by omega)).toNat : Int)) = false := by assumption
            exact ⟨k + 1, by omega, Nib.take_eq_succ a b k (by omega) (by omega) HF.out (Nib.byte_eq ht), by go_num, below_drewN hbel _⟩
          case measure => simp [intOf]; omega
      · go_wp2
        go_ret
        have := HF.out
        exact ⟨by rw [Nib.commonL_of_end a b k (by omega) this]; exact ret_i64 (by omega), hbel⟩

set_option maxHeartbeats 400000 in
theorem rcommon_any (a b : List UInt8) (w : World) (ha : a.length ≤ 1000000) (_hb : b.length ≤ 1000000) :
    Calls Try.prog 16 #[.string ⟨a.toArray⟩, .string ⟨b.toArray⟩] w fun e w' => e = .returned (.int .i64 (Nib.commonL a b)) ∧ Below w.heap.size w w' := by
  go_enter Try.func16, Try.ntmps16
  go_wp2
  go_loopw [5] (fun i wr => ∃ k : Nat, k ≤ min a.length b.length ∧ a.take k = b.take k ∧ i = .int .i64 k ∧ Below w.heap.size w wr) (fun i _ => min a.length b.length - (intOf i).toNat)
  case atStart => exact ⟨0, Nat.zero_le _, by simp, rfl, Below.refl _ _⟩
  case round =>
    obtain ⟨k, hk, hf, rfl, hbel⟩ := hrel
    have HF := Lib.hid hf; clear hf
    by_cases hla : k < a.length
    · by_cases hlb : k < b.length
      · have h1 : (k : Int) < (a.length : Int) := by omega
        have h2 : (k : Int) < (b.length : Int) := by omega
        go_wp2
        go_quiet (fail)
        go_wp2
        · go_roundw
          case rel =>
            have ht : (((a[k]'(by omega)).toNat : Int) == ((b[k]'(by omega)).toNat : Int)) = true := by assumption
            exact ⟨k + 1, by omega, Nib.take_eq_succ a b k (by omega) (by omega) HF.out (Nib.byte_eq' ht), by go_num, below_drewN hbel _⟩
          case measure => simp [intOf]; omega
        · go_ret
          have ht : (((a[k]'(by omega)).toNat : Int) == ((b[k]'(by omega)).toNat : Int)) = false := by assumption
          exact ⟨by rw [Nib.commonL_of_diff a b k (by omega) (by omega) HF.out (Nib.byte_ne' ht)]; rfl, below_drewN hbel _⟩
      · have h1 : (k : Int) < (a.length : Int) := by omega
        have h2 : decide (k < b.length) = false := by simpa using hlb
        go_wp2
        go_quiet (fail)
        go_wp2
        go_ret
        exact ⟨by rw [Nib.commonL_of_end a b k (by omega) HF.out]; rfl, below_drewN hbel _⟩
    · have h1 : decide (k < a.length) = false := by simpa using hla
      go_wp2
      go_quiet (fail)
      go_wp2
      go_ret
      exact ⟨by rw [Nib.commonL_of_end a b k (by omega) HF.out]; rfl, below_drewN hbel _⟩

end Go.Proofs.Ytglhjalmebdbcaa
