/- The walk of nibble.Pack. -/
import Derived.Test.YtglhjalmebdbcaaNibOf
namespace Go.Proofs.Ytglhjalmebdbcaa
open Go.RowKit

set_option maxHeartbeats 400000 in
theorem pack_bad (l : List UInt8) (leaf : Bool) (w : World) (hl : l.length ≤ 1000000) (hf : Nib.fitL l = false) :
    Calls Try.prog 19 #[.string ⟨l.toArray⟩, .bool leaf] w fun e w' => e = .returned (.tuple #[.string ⟨#[]⟩, .int .i64 3]) ∧ Below w.heap.size w w' := by
  have HF := Lib.hid hf; clear hf
  go_enter Try.func19, Try.ntmps19
  go_wp2_with fail
  refine (fit_any l w hl).mono ?_
  rintro e w1 ⟨rfl, rfl⟩
  rw [HF.out]
  go_wp2
  go_ret2
  exact ⟨rfl, Below.refl _ _⟩

set_option maxHeartbeats 400000 in
theorem pack_even (l : List UInt8) (leaf : Bool) (w : World) (hl : l.length ≤ 1000000) (hf : Nib.fitL l = true) (ho : l.length % 2 = 0) :
    Calls Try.prog 19 #[.string ⟨l.toArray⟩, .bool leaf] w fun e w' => e = .returned (.tuple #[.string ⟨(Nib.packL l leaf).toArray⟩, .int .i64 0]) ∧ Below w.heap.size w w' := by
  have HF := Lib.hid hf; clear hf
  have HP := Lib.hid (Nib.packL_even l leaf ho)
  have ho1 : ((l.length : Int) % 2 != 0) = false := by simp; omega
  clear ho
  cases leaf
  · go_enter Try.func19, Try.ntmps19
    go_wp2_with fail
    refine (fit_any l w hl).mono ?_
    rintro e w1 ⟨rfl, rfl⟩
    rw [HF.out]
    go_wp2_with fail
    refine (join_any l w.heap.size _ [0] _ (by simp) hl (by simp) HF.out (ownsOne w _ (Nat.le_refl _) 0 _ rfl)).mono ?_
    rintro e w1 ⟨v', rfl, hown, hbel⟩
    have hc := conv_own hown
    go_wp2
    go_ret2
    rw [HP.out]
    exact ⟨rfl, ((Below.refl _ _).alloc (Nat.le_refl _) _).trans hbel⟩
  · go_enter Try.func19, Try.ntmps19
    go_wp2_with fail
    refine (fit_any l w hl).mono ?_
    rintro e w1 ⟨rfl, rfl⟩
    rw [HF.out]
    go_wp2_with fail
    refine (join_any l w.heap.size _ [32] _ (by simp) hl (by simp) HF.out (ownsOne w _ (Nat.le_refl _) 32 _ or_0_32)).mono ?_
    rintro e w1 ⟨v', rfl, hown, hbel⟩
    have hc := conv_own hown
    go_wp2
    go_ret2
    rw [HP.out]
    exact ⟨rfl, ((Below.refl _ _).alloc (Nat.le_refl _) _).trans hbel⟩

set_option maxHeartbeats 400000 in
theorem pack_odd (a : UInt8) (t : List UInt8) (leaf : Bool) (w : World) (hl : (a :: t).length ≤ 1000000) (hf : Nib.fitL (a :: t) = true) (ho : t.length % 2 = 0) :
    Calls Try.prog 19 #[.string ⟨(a :: t).toArray⟩, .bool leaf] w fun e w' => e = .returned (.tuple #[.string ⟨(Nib.packL (a :: t) leaf).toArray⟩, .int .i64 0]) ∧ Below w.heap.size w w' := by
  have HF := Lib.hid hf; clear hf
  have HP := Lib.hid (Nib.packL_odd a t leaf ho)
  have ho1 : (((t.length : Int) + 1) % 2 != 0) = true := by rw [bne_iff_ne]; omega
  clear ho
  have HA := Lib.hid (Nib.fitL_get (a :: t) HF.out 0 (by simp))
  have HT := Lib.hid (Nib.fitL_tail a t HF.out)
  have hlt : t.length ≤ 1000000 := by simp at hl; omega
  cases leaf
  · go_enter Try.func19, Try.ntmps19
    go_wp2_with fail
    refine (fit_any (a :: t) w hl).mono ?_
    rintro e w1 ⟨rfl, rfl⟩
    rw [HF.out]
    go_wp2_with fail
    rw [extract_mk_tail]
    refine (join_any t w.heap.size _ [16 + a] _ (by simp) hlt (by simp) HT.out (ownsOne w _ (Nat.le_refl _) (16 + a) _ (or_head0 a HA.out))).mono ?_
    rintro e w1 ⟨v', rfl, hown, hbel⟩
    have hc := conv_own hown
    go_wp2
    go_ret2
    rw [HP.out]
    exact ⟨rfl, ((Below.refl _ _).alloc (Nat.le_refl _) _).trans hbel⟩
  · go_enter Try.func19, Try.ntmps19
    go_wp2_with fail
    refine (fit_any (a :: t) w hl).mono ?_
    rintro e w1 ⟨rfl, rfl⟩
    rw [HF.out]
    go_wp2_with fail
    rw [extract_mk_tail]
    refine (join_any t w.heap.size _ [48 + a] _ (by simp) hlt (by simp) HT.out (ownsOne w _ (Nat.le_refl _) (48 + a) _ (or_head2 a HA.out))).mono ?_
    rintro e w1 ⟨v', rfl, hown, hbel⟩
    have hc := conv_own hown
    go_wp2
    go_ret2
    rw [HP.out]
    exact ⟨rfl, ((Below.refl _ _).alloc (Nat.le_refl _) _).trans hbel⟩

end Go.Proofs.Ytglhjalmebdbcaa
