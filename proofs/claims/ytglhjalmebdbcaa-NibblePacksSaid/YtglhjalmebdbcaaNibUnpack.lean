/- The walks of nibble.mayLead and nibble.Unpack: Unpack answers as the plain function unpackL does; nothing that was in memory is changed. -/
import Derived.Test.YtglhjalmebdbcaaNibOf
namespace Go.Proofs.Ytglhjalmebdbcaa
open Go.RowKit

theorem mod16_dec (b : UInt8) : (((b.toNat : Int) % 16 == 0)) = decide (b.toNat % 16 = 0) := by
  rw [Bool.eq_iff_iff]; simp; omega

set_option maxHeartbeats 400000 in
theorem may_any (b : UInt8) (w : World) : Calls Try.prog 26 #[.int .u8 (b.toNat : Int)] w fun e w' => e = .returned (.bool (Nib.mayL b)) ∧ w = w' := by
  have a1 := and16 b
  have a2 := and15 b
  by_cases h1 : b.toNat / 16 ≤ 3
  · by_cases h2 : b.toNat / 16 % 2 = 1
    · have e1 : (bits .and .u8 (b.toNat : Int) 16 != 0) = true := by rw [a1]; simpa using h2
      have HR : Hid (Nib.mayL b = true) := by simp [Hid, Nib.mayL, h1, h2]
      have h1' : (b.toNat : Int) ≤ 63 := by omega
      clear a1 a2 h1 h2
      go_enter Try.func26, Try.ntmps26
      go_wp2
      go_ret
      exact ⟨by rw [HR.out]; rfl, rfl⟩
    · have e1 : (bits .and .u8 (b.toNat : Int) 16 != 0) = false := by rw [a1]; simpa using h2
      have HR : Hid (Nib.mayL b = decide (b.toNat % 16 = 0)) := by simp [Hid, Nib.mayL, h1, h2]
      have h1' : (b.toNat : Int) ≤ 63 := by omega
      clear a1 a2 h1 h2
      go_enter Try.func26, Try.ntmps26
      go_wp2
      go_ret
      exact ⟨by rw [HR.out, ← mod16_dec]; rfl, rfl⟩
  · have HR : Hid (Nib.mayL b = false) := by simp [Hid, Nib.mayL, h1]
    have h1' : (63 : Int) < (b.toNat : Int) := by omega
    clear a1 a2 h1
    go_enter Try.func26, Try.ntmps26
    go_wp2
    go_ret
    exact ⟨by rw [HR.out]; rfl, rfl⟩

set_option maxHeartbeats 400000 in
theorem unpack_nil (w : World) : Calls Try.prog 21 #[.string ⟨#[]⟩] w fun e w' => e = .returned (.tuple #[.string ⟨#[]⟩, .bool false, .int .i64 3]) ∧ w = w' := by
  go_enter Try.func21, Try.ntmps21
  go_wp2
  go_ret3
  exact ⟨rfl, rfl⟩

set_option maxHeartbeats 400000 in
theorem unpack_bad (b : UInt8) (t : List UInt8) (w : World) (_hl : t.length ≤ 1000000) (h : Nib.mayL b = false) :
    Calls Try.prog 21 #[.string ⟨(b :: t).toArray⟩] w fun e w' => e = .returned (.tuple #[.string ⟨#[]⟩, .bool false, .int .i64 3]) ∧ w = w' := by
  have H := Lib.hid h; clear h
  go_enter Try.func21, Try.ntmps21
  go_wp2_with fail
  refine (may_any b w).mono ?_
  rintro e w1 ⟨rfl, rfl⟩
  rw [H.out]
  go_wp2
  go_ret3
  exact ⟨rfl, rfl⟩

set_option maxHeartbeats 400000 in
theorem unpack_odd (b : UInt8) (t : List UInt8) (w : World) (hl : t.length ≤ 1000000) (h : Nib.mayL b = true) (ho : b.toNat / 16 % 2 = 1) :
    Calls Try.prog 21 #[.string ⟨(b :: t).toArray⟩] w fun e w' => e = .returned (.tuple #[.string ⟨((b % 16) :: Nib.ofL t).toArray⟩, .bool (decide (2 ≤ b.toNat / 16)), .int .i64 0]) ∧ Below w.heap.size w w' := by
  have H := Lib.hid h
  have e1 : (bits .and .u8 (b.toNat : Int) 16 != 0) = true := by rw [and16]; simpa using ho
  have H2 := Lib.hid (and32 b (Nib.mayL_le b h).1)
  clear h ho
  have hidx : ∀ h, (⟨(b :: t).toArray⟩ : ByteArray)[0]'h = b := fun _ => rfl
  go_enter Try.func21, Try.ntmps21
  go_wp2_with fail
  refine (may_any b w).mono ?_
  rintro e w1 ⟨rfl, rfl⟩
  rw [H.out]
  go_wp2_with fail
  go_region_with ((go_at_call 24; rw [extract_mk_tail]; refine (spread_any t w.heap.size _ [b % 16] _ ?_ hl ?_ ?_).mono ?_; (simp); (simp); (exact ownsOne w _ (Nat.le_refl _) (b % 16) _ (byte_and15 b)); rintro e w1 ⟨v', rfl, hown, hbel⟩; have hc := conv_own hown))
  all_goals
    go_wp2
    go_ret3
    exact ⟨by rw [← H2.out]; rfl, (((Below.refl _ _).alloc (Nat.le_refl _) _).drew).trans hbel⟩

set_option maxHeartbeats 400000 in
theorem unpack_even (b : UInt8) (t : List UInt8) (w : World) (hl : t.length ≤ 1000000) (h : Nib.mayL b = true) (ho : b.toNat / 16 % 2 = 0) :
    Calls Try.prog 21 #[.string ⟨(b :: t).toArray⟩] w fun e w' => e = .returned (.tuple #[.string ⟨(Nib.ofL t).toArray⟩, .bool (decide (2 ≤ b.toNat / 16)), .int .i64 0]) ∧ Below w.heap.size w w' := by
  have H := Lib.hid h
  have e1 : (bits .and .u8 (b.toNat : Int) 16 != 0) = false := by rw [and16]; simp [ho]
  have H2 := Lib.hid (and32 b (Nib.mayL_le b h).1)
  clear h ho
  have hidx : ∀ h, (⟨(b :: t).toArray⟩ : ByteArray)[0]'h = b := fun _ => rfl
  go_enter Try.func21, Try.ntmps21
  go_wp2_with fail
  refine (may_any b w).mono ?_
  rintro e w1 ⟨rfl, rfl⟩
  rw [H.out]
  go_wp2_with fail
  go_region_with ((go_at_call 24; rw [extract_mk_tail]; refine (spread_any t w.heap.size _ [] _ ?_ hl ?_ ?_).mono ?_; (simp); (simp); (exact ownsNil _ _); rintro e w1 ⟨v', rfl, hown, hbel⟩; have hc := conv_own hown))
  all_goals
    go_wp2
    go_ret3
    exact ⟨by rw [← H2.out]; rfl, ((Below.refl _ _).drew).trans hbel⟩

end Go.Proofs.Ytglhjalmebdbcaa
