/- The walks of nibble.spread. -/
import Derived.Test.YtglhjalmebdbcaaChecked
import Derived.Test.YtglhjalmebdbcaaNibBase
import Derived.WalkKit
import Derived.WalkSpells
import Derived.WalkLawsBesides
import Derived.ShutString
import Derived.Lib.Hide
import Derived.Deep.RegionLaw
import Derived.Deep.AppendLies
import Derived.WalkSmall
namespace Go.Proofs.Ytglhjalmebdbcaa
open Go.RowKit

set_option maxHeartbeats 400000 in
theorem spread_any (l : List UInt8) (B : Nat) (v : Value) (xs : List UInt8) (w : World) (hB : B ≤ w.heap.size) (hl : l.length ≤ 1000000) (hx : xs.length ≤ 1000000)
    (hown : w.ownsRow B 5 1 v xs.length (cellsL xs)) :
    Calls Try.prog 24 #[v, .string ⟨l.toArray⟩] w fun e w' => ∃ v', e = .returned v' ∧ w'.ownsRow B 5 1 v' (xs ++ Nib.ofL l).length (cellsL (xs ++ Nib.ofL l)) ∧ Below B w w' := by
  obtain ⟨i0, hi, hz0, hz1, hz2⟩ := info_parts Try.infoByte
  go_enter Try.func24, Try.ntmps24
  go_wp2
  go_loopw [0, 8] (fun u i wr => ∃ k : Nat, k ≤ l.length ∧ i = .int .i64 k ∧ wr.ownsRow B 5 1 u (xs ++ Nib.ofL (l.take k)).length (cellsL (xs ++ Nib.ofL (l.take k))) ∧ Below B w wr) (fun _ i _ => l.length - (intOf i).toNat)
  case atStart => exact ⟨0, Nat.zero_le _, rfl, by simpa [Nib.ofL] using hown, Below.refl _ _⟩
  case round =>
    obtain ⟨k, hk, rfl, hrow, hbel⟩ := hrel
    by_cases hlt : k < l.length
    · have h1 : (k : Int) < (l.length : Int) := by omega
      have hsn := Lib.hid (Nib.ofL_snoc l k hlt)
      have hlen := Nib.ofL_length (l.take k)
      have hb := hbel.size
      obtain ⟨ys, hys⟩ : ∃ ys, xs ++ Nib.ofL (l.take k) = ys := ⟨_, rfl⟩
      have hyl : ys.length ≤ 4000000 := by rw [← hys]; simp [hlen]; omega
      rw [hys] at hrow
      have HY := Lib.hid hys
      clear hys hlen
      go_wp2
      go_region_law ((refine step_append_lies _ rfl (.tmp 11) (.tmp 20) 36 rfl B 5 i0 (.int .u8 0) 1 1 Try.underlying36 hi hz0 hz1 hz2 rfl (by decide) u0 ys.length (cellsL ys) (by simp [Act.eval]) ((hrow.alloc _).drew) ⟨wr.heap.size, 0, none⟩ 2 2 [.int .u8 (l[k].toNat / 16 : Int), .int .u8 (bits BinOp.and IntKind.u8 (l[k].toNat : Int) 15)] (by simp [Act.eval]) rfl (cell_two_new _ _ _ _) (by simp [Value.oneCell']) (by decide) (by unfold maxLen; omega) (by omega) (by simp; omega) _ rfl ?_; intro g cap w1 hown1 hgrow1 _ _))
      all_goals
        rw [byte_and15, ← Nib.toNat_div16] at hown1
        have hrow1 : w1.ownsRow B 5 1 (.slice (some ⟨g, 0, none⟩) (ys.length + 2) cap) (xs ++ Nib.ofL (l.take (k + 1))).length (cellsL (xs ++ Nib.ofL (l.take (k + 1)))) := by
          rw [hsn.out, ← List.append_assoc, HY.out]
          simpa [cellsL] using hown1
        have hbel1 : Below B w w1 := ((hbel.alloc (by omega) _).drew).grown hgrow1 (by simp; omega) (fun g hg => (hrow.lt g hg).1)
        clear hown1 hgrow1
        go_wp2
        go_roundw
        case rel => exact ⟨k + 1, by omega, by go_num, hrow1, hbel1⟩
        case measure => simp [intOf]; omega
    · go_wp2
      go_ret
      rw [List.take_of_length_le (by omega)] at hrow
      exact ⟨_, rfl, hrow, hbel⟩

end Go.Proofs.Ytglhjalmebdbcaa
