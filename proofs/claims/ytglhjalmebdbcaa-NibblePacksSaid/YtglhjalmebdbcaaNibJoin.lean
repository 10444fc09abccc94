/- The walk of nibble.join: behind a byte slice of the call's own it puts the half bytes of a path, two in a byte; nothing that was in memory ahead of the slice's own block is changed. -/
import Derived.Test.YtglhjalmebdbcaaNibBase
import Derived.WalkSpells
import Derived.WalkLawsBesides
import Derived.Lib.Hide
import Derived.Deep.RegionLaw
import Derived.Deep.AppendLies
namespace Go.Proofs.Ytglhjalmebdbcaa
open Go.RowKit

set_option maxHeartbeats 400000 in
theorem join_any (l : List UInt8) (B : Nat) (v : Value) (xs : List UInt8) (w : World) (hB : B ≤ w.heap.size) (hl : l.length ≤ 1000000) (hx : xs.length ≤ 1000000) (hfit : Nib.fitL l = true)
    (hown : w.ownsRow B 5 1 v xs.length (cellsL xs)) :
    Calls Try.prog 23 #[v, .string ⟨l.toArray⟩] w fun e w' => ∃ v', e = .returned v' ∧ w'.ownsRow B 5 1 v' (xs ++ Nib.joinL l).length (cellsL (xs ++ Nib.joinL l)) ∧ Below B w w' := by
  obtain ⟨i0, hi, hz0, hz1, hz2⟩ := info_parts Try.infoByte
  have HF := Lib.hid hfit; clear hfit
  go_enter Try.func23, Try.ntmps23
  go_wp2
  go_loopw [0, 9] (fun u i wr => ∃ k : Nat, 2 * k ≤ l.length ∧ i = .int .i64 k ∧ wr.ownsRow B 5 1 u (xs ++ Nib.joinL (l.take (2 * k))).length (cellsL (xs ++ Nib.joinL (l.take (2 * k)))) ∧ Below B w wr) (fun _ i _ => l.length / 2 - (intOf i).toNat)
  case atStart => exact ⟨0, by omega, rfl, by simpa [Nib.joinL] using hown, Below.refl _ _⟩
  case round =>
    obtain ⟨k, hk, rfl, hrow, hbel⟩ := hrel
    by_cases hlt : k < l.length / 2
    · have h1 : (2 : Int) * (k : Int) < (l.length : Int) := by omega
      have h2 : (2 : Int) * (k : Int) + 1 < (l.length : Int) := by omega
      have hsn := Lib.hid (Nib.joinL_snoc l k (by omega))
      have hlen := Nib.joinL_length (l.take (2 * k))
      have HA := Lib.hid (Nib.fitL_get l HF.out (2 * k) (by omega))
      have HC := Lib.hid (Nib.fitL_get l HF.out (2 * k + 1) (by omega))
      have hb := hbel.size
      obtain ⟨ys, hys⟩ : ∃ ys, xs ++ Nib.joinL (l.take (2 * k)) = ys := ⟨_, rfl⟩
      have hyl : ys.length ≤ 4000000 := by rw [← hys]; simp [hlen]; omega
      rw [hys] at hrow
      have HY := Lib.hid hys
      clear hys hlen
      go_wp2
      have e1 : IntKind.i64.wrap (2 * (k : Int)) = 2 * (k : Int) := IntWalk.i64_in _ (by omega)
      have e2 : IntKind.i64.wrap (2 * (k : Int) + 1) = 2 * (k : Int) + 1 := IntWalk.i64_in _ (by omega)
      have e3 : (0 : Int) ≤ 2 * (k : Int) := by omega
      have e4 : (0 : Int) ≤ 2 * (k : Int) + 1 := by omega
      have e5 : (2 * (k : Int)).toNat = 2 * k := by omega
      have e6 : (2 * (k : Int) + 1).toNat = 2 * k + 1 := by omega
      have s1 : ys.length + 1 ≤ maxLen := by unfold maxLen; omega
      have s2 : (ys.length + 1) * 1 ≤ 140737488355328 := by omega
      have s3 : B ≤ wr.heap.size + 1 := by omega
      go_region_law ((refine step_append_lies _ rfl (.tmp 12) (.tmp 24) 36 rfl B 5 i0 (.int .u8 0) 1 1 Try.underlying36 hi hz0 hz1 hz2 rfl (by decide) u0 ys.length (cellsL ys) (by simp [Act.eval]) ((hrow.alloc _).drew) ⟨wr.heap.size, 0, none⟩ 1 1 [.int .u8 (bits BinOp.or IntKind.u8 ((l[2 * k].toNat : Int) * 16 % 256) (l[2 * k + 1].toNat : Int))] (by simp [Act.eval]) rfl (cell_one_new _ _ _) (by simp [Value.oneCell']) (by decide) s1 s2 (by simpa using s3) _ rfl ?_; intro g cap w1 hown1 hgrow1 _ _))
      all_goals
        rw [byte_join _ _ HA.out HC.out] at hown1
        have hrow1 : w1.ownsRow B 5 1 (.slice (some ⟨g, 0, none⟩) (ys.length + 1) cap) (xs ++ Nib.joinL (l.take (2 * (k + 1)))).length (cellsL (xs ++ Nib.joinL (l.take (2 * (k + 1))))) := by
          rw [hsn.out, ← List.append_assoc, HY.out]
          simpa [cellsL] using hown1
        have hbel1 : Below B w w1 := ((hbel.alloc (by omega) _).drew).grown hgrow1 (by simp; omega) (fun g hg => (hrow.lt g hg).1)
        clear hown1 hgrow1
        go_wp2
        go_roundw
        case rel => exact ⟨k + 1, by omega, by go_num, hrow1, hbel1⟩
        case measure => simp [intOf]; omega
    · go_wp2
      go_ret
      have e : Nib.joinL (l.take (2 * k)) = Nib.joinL l := Nib.joinL_take_end l k (by omega)
      rw [e] at hrow
      exact ⟨_, rfl, hrow, hbel⟩

end Go.Proofs.Ytglhjalmebdbcaa
