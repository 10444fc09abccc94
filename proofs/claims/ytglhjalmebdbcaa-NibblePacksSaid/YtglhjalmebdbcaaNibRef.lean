/- The walks of the document's own answers Of and Key (pharosref01): each answers as the plain function does; nothing that was in memory is changed. -/
import Derived.Test.YtglhjalmebdbcaaNibBase
import Derived.Test.YtglhjalmebdbcaaNibFit
import Derived.WalkSpells
import Derived.WalkLawsBesides
import Derived.Lib.Hide
namespace Go.Proofs.Ytglhjalmebdbcaa
open Go.RowKit

set_option maxHeartbeats 400000 in
theorem rof_any (l : List UInt8) (w : World) (hl : l.length ≤ 1000000) :
    Calls Try.prog 12 #[.string ⟨l.toArray⟩] w fun e w' => e = .returned (.string ⟨(Nib.ofL l).toArray⟩) ∧ Below w.heap.size w w' := by
  go_enter Try.func12, Try.ntmps12
  go_wp2
  go_loopw [3, 4] (fun s i wr => ∃ k : Nat, k ≤ l.length ∧ i = .int .i64 k ∧ s = .string ⟨(Nib.ofL (l.take k)).toArray⟩ ∧ Below w.heap.size w wr) (fun _ i _ => l.length - (intOf i).toNat)
  case atStart => exact ⟨0, Nat.zero_le _, rfl, rfl, Below.refl _ _⟩
  case round =>
    obtain ⟨k, hk, rfl, rfl, hbel⟩ := hrel
    by_cases hlt : k < l.length
    · have h1 : (k : Int) < (l.length : Int) := by omega
      have hsn := Lib.hid (Nib.ofL_snoc l k hlt)
      have hlen := Nib.ofL_length (l.take k)
      have hb := hbel.size
      obtain ⟨ys, hys⟩ : ∃ ys, Nib.ofL (l.take k) = ys := ⟨_, rfl⟩
      have hyl : ys.length ≤ 4000000 := by rw [← hys]; simp [hlen]; omega
      have HY := Lib.hid hys
      rw [hys]
      clear hys hlen
      obtain ⟨c, hc⟩ : ∃ c, l[k] = c := ⟨_, rfl⟩
      have hidx : ∀ h, (⟨l.toArray⟩ : ByteArray)[k]'h = c := fun _ => hc
      rw [hc] at hsn
      clear hc
      have hcv := conv_two wr (c / 16) (c % 16) ((c.toNat : Int) / 16 % 256) ((c.toNat : Int) % 16) (by rw [Nib.toNat_div16]; have := byte_lt c; omega) (by rw [Nib.toNat_mod16])
      go_wp2
      go_region
      go_wp2
      go_roundw
      case rel =>
        refine ⟨k + 1, by omega, by go_num, ?_, (hbel.alloc hb _).drew⟩
        rw [hsn.out, HY.out]
        exact congrArg Value.string (cat_mk ys [c / 16, c % 16])
      case measure => simp [intOf]; omega
    · go_wp2
      go_ret
      rw [List.take_of_length_le (by omega)]
      exact ⟨rfl, hbel⟩

set_option maxHeartbeats 400000 in
theorem rkey_bad (l : List UInt8) (w : World) (hl : l.length ≤ 1000000) (hf : Nib.fitL l = false) :
    Calls Try.prog 10 #[.string ⟨l.toArray⟩] w fun e w' => e = .returned (.tuple #[.string ⟨#[]⟩, .int .i64 3]) ∧ Below w.heap.size w w' := by
  have HF := Lib.hid hf; clear hf
  go_enter Try.func10, Try.ntmps10
  go_wp2_with fail
  refine (rfit_any l w hl).mono ?_
  rintro e w1 ⟨rfl, rfl⟩
  rw [HF.out]
  go_wp2
  go_ret2
  exact ⟨rfl, Below.refl _ _⟩

set_option maxHeartbeats 400000 in
theorem rkey_odd (l : List UInt8) (w : World) (hl : l.length ≤ 1000000) (hf : Nib.fitL l = true) (ho : l.length % 2 = 1) :
    Calls Try.prog 10 #[.string ⟨l.toArray⟩] w fun e w' => e = .returned (.tuple #[.string ⟨#[]⟩, .int .i64 4]) ∧ Below w.heap.size w w' := by
  have HF := Lib.hid hf; clear hf
  have ho1 : ((l.length : Int) % 2 != 0) = true := by rw [bne_iff_ne]; omega
  clear ho
  go_enter Try.func10, Try.ntmps10
  go_wp2_with fail
  refine (rfit_any l w hl).mono ?_
  rintro e w1 ⟨rfl, rfl⟩
  rw [HF.out]
  go_wp2
  go_ret2
  exact ⟨rfl, Below.refl _ _⟩

set_option maxHeartbeats 400000 in
theorem rkey_good (l : List UInt8) (w : World) (hl : l.length ≤ 1000000) (hf : Nib.fitL l = true) (ho : l.length % 2 = 0) :
    Calls Try.prog 10 #[.string ⟨l.toArray⟩] w fun e w' => e = .returned (.tuple #[.string ⟨(Nib.joinL l).toArray⟩, .int .i64 0]) ∧ Below w.heap.size w w' := by
  have HF := Lib.hid hf; clear hf
  have ho1 : ((l.length : Int) % 2 != 0) = false := by simp; omega
  have HO := Lib.hid ho
  clear ho
  go_enter Try.func10, Try.ntmps10
  go_wp2_with fail
  refine (rfit_any l w hl).mono ?_
  rintro e w1 ⟨rfl, rfl⟩
  rw [HF.out]
  go_wp2
  go_loopw [4, 5] (fun s i wr => ∃ k : Nat, 2 * k ≤ l.length ∧ i = .int .i64 (2 * (k : Int)) ∧ s = .string ⟨(Nib.joinL (l.take (2 * k))).toArray⟩ ∧ Below w.heap.size w wr) (fun _ i _ => l.length - (intOf i).toNat)
  case atStart => exact ⟨0, by omega, rfl, rfl, Below.refl _ _⟩
  case round =>
    obtain ⟨k, hk, rfl, rfl, hbel⟩ := hrel
    have hev := HO.out
    by_cases hlt : 2 * k < l.length
    · have h1 : (2 : Int) * (k : Int) < (l.length : Int) := by omega
      have h2 : (2 : Int) * (k : Int) + 1 < (l.length : Int) := by omega
      have hk2 : 2 * k + 1 < l.length := by omega
      have hsn := Lib.hid (Nib.joinL_snoc l k hk2)
      have hlen := Nib.joinL_length (l.take (2 * k))
      have HA := Nib.fitL_get l HF.out (2 * k) (by omega)
      have HC := Nib.fitL_get l HF.out (2 * k + 1) (by omega)
      have hb := hbel.size
      obtain ⟨ys, hys⟩ : ∃ ys, Nib.joinL (l.take (2 * k)) = ys := ⟨_, rfl⟩
      have hyl : ys.length ≤ 4000000 := by rw [← hys]; simp [hlen]; omega
      have HY := Lib.hid hys
      rw [hys]
      clear hys hlen hev
      obtain ⟨c, hc⟩ : ∃ c, l[2 * k] = c := ⟨_, rfl⟩
      obtain ⟨d, hd⟩ : ∃ d, l[2 * k + 1] = d := ⟨_, rfl⟩
      have hidx : ∀ h, (⟨l.toArray⟩ : ByteArray)[2 * k]'h = c := fun _ => hc
      have hidy : ∀ h, (⟨l.toArray⟩ : ByteArray)[2 * k + 1]'h = d := fun _ => hd
      rw [hc, hd] at hsn
      rw [hc] at HA
      rw [hd] at HC
      clear hc hd
      have e1 : IntKind.i64.wrap (2 * (k : Int) + 1) = 2 * (k : Int) + 1 := IntWalk.i64_in _ (by omega)
      have e3 : (0 : Int) ≤ 2 * (k : Int) := by omega
      have e4 : (0 : Int) ≤ 2 * (k : Int) + 1 := by omega
      have e5 : (2 * (k : Int)).toNat = 2 * k := by omega
      have e6 : (2 * (k : Int) + 1).toNat = 2 * k + 1 := by omega
      have hcv := conv_one wr (c * 16 + d) ((c.toNat : Int) * 16 + (d.toNat : Int)) (join_toNat c d HA HC)
      go_wp2
      go_region
      go_wp2
      go_roundw
      case rel =>
        refine ⟨k + 1, by omega, by go_num, ?_, (hbel.alloc hb _).drew⟩
        rw [hsn.out, HY.out]
        exact congrArg Value.string (cat_mk ys [c * 16 + d])
      case measure => simp [intOf]; omega
    · go_wp2
      go_ret2
      rw [Nib.joinL_take_end l k (by omega)]
      exact ⟨rfl, hbel⟩

end Go.Proofs.Ytglhjalmebdbcaa
