/- The walks of the document's own answers Pack and Unpack (pharosref01): each answers as the plain function does; nothing that was in memory is changed. -/
import Derived.Test.YtglhjalmebdbcaaNibRef
import Derived.Test.YtglhjalmebdbcaaNibBackMath
namespace Go.Proofs.Ytglhjalmebdbcaa
open Go.RowKit

set_option maxHeartbeats 400000 in
theorem rpack_bad (l : List UInt8) (leaf : Bool) (w : World) (hl : l.length ≤ 1000000) (hf : Nib.fitL l = false) :
    Calls Try.prog 20 #[.string ⟨l.toArray⟩, .bool leaf] w fun e w' => e = .returned (.tuple #[.string ⟨#[]⟩, .int .i64 3]) ∧ Below w.heap.size w w' := by
  have HF := Lib.hid hf; clear hf
  go_enter Try.func20, Try.ntmps20
  go_wp2_with fail
  refine (rfit_any l w (by omega)).mono ?_
  rintro e w1 ⟨rfl, rfl⟩
  rw [HF.out]
  go_wp2
  go_ret2
  exact ⟨rfl, Below.refl _ _⟩

theorem fit_head (a : UInt8) (ha : a.toNat ≤ 15) (l : List UInt8) (h : Nib.fitL l = true) : Nib.fitL (a :: l) = true := Nib.fit_cons a l ha h
theorem kinds (n : Nat) : (Nib.kindL n false).toNat = n % 2 ∧ (Nib.kindL n true).toNat = n % 2 + 2 := by
  unfold Nib.kindL
  rcases Nat.mod_two_eq_zero_or_one n with h | h <;> simp [h]

set_option maxHeartbeats 400000 in
theorem rpack_even (l : List UInt8) (leaf : Bool) (w : World) (hl : l.length ≤ 100000) (hf : Nib.fitL l = true) (ho : l.length % 2 = 0) :
    Calls Try.prog 20 #[.string ⟨l.toArray⟩, .bool leaf] w fun e w' => e = .returned (.tuple #[.string ⟨(Nib.packL l leaf).toArray⟩, .int .i64 0]) ∧ Below w.heap.size w w' := by
  have HF := Lib.hid hf; clear hf
  have HP : Hid (Nib.packL l leaf = Nib.joinL ([Nib.kindL l.length leaf, 0] ++ l)) := by
    unfold Hid Nib.packL Nib.headL; rw [if_neg (by omega)]
  have hm : (l.length : Int) % 2 = 0 := by omega
  have HK := Lib.hid (kinds l.length)
  have HO := Lib.hid ho
  clear ho
  cases leaf
  · have hcv := conv_two' w (Nib.kindL l.length false) 0 0 0 (by rw [HK.out.1, HO.out]; rfl) rfl
    go_enter Try.func20, Try.ntmps20
    go_wp2_with fail
    refine (rfit_any l w (by omega)).mono ?_
    rintro e w1 ⟨rfl, rfl⟩
    rw [HF.out]
    go_wp2_with fail
    rw [cat_mk]
    refine (rkey_good ([Nib.kindL l.length false, 0] ++ l) _ (by simp; omega) (fit_head _ (by rw [HK.out.1]; omega) _ (fit_head 0 (by simp) l HF.out)) (by have := HO.out; simp; omega)).mono ?_
    rintro e w1 ⟨rfl, hb⟩
    go_wp2
    go_ret2
    rw [HP.out]
    exact ⟨rfl, bchain ((Below.refl _ _).alloc (Nat.le_refl _) _) hb⟩
  · have hcv := conv_two' w (Nib.kindL l.length true) 0 2 0 (by rw [HK.out.2, HO.out]; rfl) rfl
    go_enter Try.func20, Try.ntmps20
    go_wp2_with fail
    refine (rfit_any l w (by omega)).mono ?_
    rintro e w1 ⟨rfl, rfl⟩
    rw [HF.out]
    go_wp2_with fail
    rw [cat_mk]
    refine (rkey_good ([Nib.kindL l.length true, 0] ++ l) _ (by simp; omega) (fit_head _ (by rw [HK.out.2]; omega) _ (fit_head 0 (by simp) l HF.out)) (by have := HO.out; simp; omega)).mono ?_
    rintro e w1 ⟨rfl, hb⟩
    go_wp2
    go_ret2
    rw [HP.out]
    exact ⟨rfl, bchain ((Below.refl _ _).alloc (Nat.le_refl _) _) hb⟩

set_option maxHeartbeats 400000 in
theorem rpack_odd (l : List UInt8) (leaf : Bool) (w : World) (hl : l.length ≤ 100000) (hf : Nib.fitL l = true) (ho : l.length % 2 = 1) :
    Calls Try.prog 20 #[.string ⟨l.toArray⟩, .bool leaf] w fun e w' => e = .returned (.tuple #[.string ⟨(Nib.packL l leaf).toArray⟩, .int .i64 0]) ∧ Below w.heap.size w w' := by
  have HF := Lib.hid hf; clear hf
  have HP : Hid (Nib.packL l leaf = Nib.joinL ([Nib.kindL l.length leaf] ++ l)) := by
    unfold Hid Nib.packL Nib.headL; rw [if_pos ho]
  have hm : (l.length : Int) % 2 = 1 := by omega
  have HK := Lib.hid (kinds l.length)
  have HO := Lib.hid ho
  clear ho
  cases leaf
  · have hcv := conv_two' w (Nib.kindL l.length false) 0 1 0 (by rw [HK.out.1, HO.out]; rfl) rfl
    have hcw := conv_one' (w.alloc (.cells #[.int .u8 1, .int .u8 0] 5)) (Nib.kindL l.length false) 1 (by rw [HK.out.1, HO.out]; rfl) (w.heap.size + 1) (by simp)
    go_enter Try.func20, Try.ntmps20
    go_wp2_with fail
    refine (rfit_any l w (by omega)).mono ?_
    rintro e w1 ⟨rfl, rfl⟩
    rw [HF.out]
    go_wp2_with fail
    rw [cat_mk]
    refine (rkey_good ([Nib.kindL l.length false] ++ l) _ (by simp; omega) (fit_head _ (by rw [HK.out.1]; omega) l HF.out) (by have := HO.out; simp; omega)).mono ?_
    rintro e w1 ⟨rfl, hb⟩
    go_wp2
    go_ret2
    rw [HP.out]
    exact ⟨rfl, bchain (((Below.refl _ _).alloc (Nat.le_refl _) _).alloc (by simp) _) hb⟩
  · have hcv := conv_two' w (Nib.kindL l.length true) 0 3 0 (by rw [HK.out.2, HO.out]; rfl) rfl
    have hcw := conv_one' (w.alloc (.cells #[.int .u8 3, .int .u8 0] 5)) (Nib.kindL l.length true) 3 (by rw [HK.out.2, HO.out]; rfl) (w.heap.size + 1) (by simp)
    go_enter Try.func20, Try.ntmps20
    go_wp2_with fail
    refine (rfit_any l w (by omega)).mono ?_
    rintro e w1 ⟨rfl, rfl⟩
    rw [HF.out]
    go_wp2_with fail
    rw [cat_mk]
    refine (rkey_good ([Nib.kindL l.length true] ++ l) _ (by simp; omega) (fit_head _ (by rw [HK.out.2]; omega) l HF.out) (by have := HO.out; simp; omega)).mono ?_
    rintro e w1 ⟨rfl, hb⟩
    go_wp2
    go_ret2
    rw [HP.out]
    exact ⟨rfl, bchain (((Below.refl _ _).alloc (Nat.le_refl _) _).alloc (by simp) _) hb⟩

end Go.Proofs.Ytglhjalmebdbcaa
