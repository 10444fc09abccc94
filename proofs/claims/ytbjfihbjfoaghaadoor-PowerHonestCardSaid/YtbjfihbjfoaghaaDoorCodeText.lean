/- How many bits a number has (math/bits.Len64), by the shelf's contract; addNum; Num; The walks of addNum, Num; The walks of addText, Text, List, Flag. -/
import Derived.Test.YtbjfihbjfoaghaaDoorNibBase
import Derived.Test.YtbjfihbjfoaghaaDoorCodeMath
import Derived.Test.YtbjfihbjfoaghaaDoorCodeShelf
import Derived.Test.YtbjfihbjfoaghaaDoorArgStrs
import Derived.Lib.Hide
import Derived.WalkSpells
import Derived.WalkLawsBesides
import Derived.Deep.RegionLaw
import Derived.Deep.AppendLies
import Derived.Lib.AppendStr
namespace Go.Proofs.YtbjfihbjfoaghaaDoor
open Go.RowKit

theorem bitLenAux_eq (f n : Nat) (h : n < 2 ^ f) : Lib.bitLenAux f n = Code.lenN n := by
  induction f generalizing n with
  | zero => simp at h; subst h; rfl
  | succ f ih =>
    simp only [Lib.bitLenAux]
    by_cases h0 : n = 0
    · simp [h0, Code.lenN]
    · rw [if_neg h0, ih (n / 2) (by rw [Nat.pow_succ] at h; omega)]
      by_cases h1 : 2 ≤ n
      · rw [Code.len_shift n 1 (by simpa using h1)]
      · have e : n = 1 := by omega
        subst e
        decide
theorem len64_any (n : Nat) (w : World) (hn : n < 2 ^ 63) :
    Calls Tryd.prog 70 #[.int .u64 (n : Int)] w fun e w' => e = .returned (.int .i64 (Code.lenN n : Nat)) ∧ w' = w := by
  have h := shelf_len64 (n : Int) w (by omega) (by omega)
  rw [Int.toNat_natCast, Lib.bitLen, bitLenAux_eq 64 n (by omega)] at h
  exact h

end Go.Proofs.YtbjfihbjfoaghaaDoor
namespace Go.Proofs.YtbjfihbjfoaghaaDoor
open Go.RowKit

theorem shr_byte (n k j : Nat) : (n : Int) / 2 ^ (8 * (k - 1 - j)) % 256 = ((UInt8.ofNat (n / 256 ^ (k - 1 - j) % 256)).toNat : Nat) := by
  have e : (2 : Nat) ^ (8 * (k - 1 - j)) = 256 ^ (k - 1 - j) := by rw [Nat.pow_mul]
  have e2 : (2 : Int) ^ (8 * (k - 1 - j)) = ((256 ^ (k - 1 - j) : Nat) : Int) := by rw [← e]; simp
  rw [Code.ofNat_toNat _ (by omega), e2]
  simp

set_option maxHeartbeats 400000 in
theorem addNum_any (n : Nat) (hn : n < 2 ^ 63) (B : Nat) (v : Value) (xs : List UInt8) (w : World) (hB : B ≤ w.heap.size) (hx : xs.length ≤ 100000000)
    (hown : w.ownsRow B 5 1 v xs.length (cellsL xs)) :
    Calls Tryd.prog 71 #[v, .int .i64 n] w fun e w' => ∃ v', e = .returned v' ∧ w'.ownsRow B 5 1 v' (xs ++ Code.numL n).length (cellsL (xs ++ Code.numL n)) ∧ Below B w w' := by
  obtain ⟨i0, hi, hz0, hz1, hz2⟩ := info_parts Tryd.infoByte
  obtain ⟨L, hL⟩ : ∃ L, Code.lenN n = L := ⟨_, rfl⟩
  have hs := Code.len_sz n
  have h8 := Code.sz_le8 n (by omega)
  obtain ⟨k, hk⟩ : ∃ k, Code.sz n = k := ⟨_, rfl⟩
  rw [hL, hk] at hs
  have hL8 : L ≤ 64 := by omega
  have hsi : ((L : Int) + 7) / 8 = (k : Int) := by omega
  clear hs
  rw [hk] at h8
  have HL := Lib.hid hL
  have HK := Lib.hid hk
  clear hL hk
  go_enter Tryd.func71, Tryd.ntmps71
  go_wp2_with fail
  refine (len64_any n w hn).mono ?_
  rintro e w1 ⟨rfl, rfl⟩
  rw [HL.out]
  go_wp2_with ((at_builtin; refine wpList_append_own _ rfl _ _ 64 rfl B 5 i0 (.int .u8 0) 1 1 Tryd.underlying64 hi hz0 hz1 hz2 rfl (by decide) v xs.length (cellsL xs) rfl (hown.alloc _) ⟨w1.heap.size, 0, none⟩ 1 1 [.int .u8 (k : Int)] rfl rfl ?c1 ?c2 ?c3 ?c4 ?c5 ?_))
  case c1 => exact cell_one_new _ _ _
  case c2 => simp [Value.oneCell']
  case c3 => unfold maxLen; omega
  case c4 => omega
  case c5 => simp; omega
  intro v1 w2 hown1 hgrow1 _
  have hrow1 : w2.ownsRow B 5 1 v1 (xs ++ [UInt8.ofNat k] ++ Code.be 0 (n / 256 ^ (k - 0))).length (cellsL (xs ++ [UInt8.ofNat k] ++ Code.be 0 (n / 256 ^ (k - 0)))) := by
    have e := Code.ofNat_toNat k (by omega)
    simpa [cellsL, Code.be, Nat.mod_eq_of_lt (show k < 256 by omega)] using hown1
  have hbel1 : Below B w1 w2 := ((Below.refl B w1).alloc (by omega) _).grown hgrow1 (by simp; omega) (fun g hg => (hown.lt g hg).1)
  clear hown1 hgrow1 hown
  go_wp2
  go_loopw [0, 18] (fun u i wr => ∃ j : Nat, j ≤ k ∧ i = .int .i64 j ∧ wr.ownsRow B 5 1 u (xs ++ [UInt8.ofNat k] ++ Code.be j (n / 256 ^ (k - j))).length (cellsL (xs ++ [UInt8.ofNat k] ++ Code.be j (n / 256 ^ (k - j)))) ∧ Below B w1 wr) (fun _ i _ => k - (intOf i).toNat)
  case atStart => exact ⟨0, Nat.zero_le _, rfl, hrow1, hbel1⟩
  case round =>
    obtain ⟨j, hj, rfl, hrow, hbel⟩ := hrel
    by_cases hlt : j < k
    · have h1 : (j : Int) < (k : Int) := by omega
      have hsn := Lib.hid (Code.be_step k j n hlt)
      have hlen := Code.be_length j (n / 256 ^ (k - j))
      have hb := hbel.size
      obtain ⟨ys, hys⟩ : ∃ ys, xs ++ [UInt8.ofNat k] ++ Code.be j (n / 256 ^ (k - j)) = ys := ⟨_, rfl⟩
      have hyl : ys.length ≤ 200000000 := by rw [← hys]; simp [hlen]; omega
      rw [hys] at hrow
      have HY := Lib.hid hys
      clear hys hlen
      go_wp2_with ((at_builtin; refine wpList_append_own _ rfl _ _ 64 rfl B 5 i0 (.int .u8 0) 1 1 Tryd.underlying64 hi hz0 hz1 hz2 rfl (by decide) u0 ys.length (cellsL ys) rfl (hrow.alloc _) ⟨wr.heap.size, 0, none⟩ 1 1 [.int .u8 ((n : Int) / 2 ^ (8 * (k - 1 - j)) % 256)] rfl rfl ?c1 ?c2 ?c3 ?c4 ?c5 ?_))
      case c1 => exact cell_one_new _ _ _
      case c2 => simp [Value.oneCell']
      case c3 => unfold maxLen; omega
      case c4 => omega
      case c5 => simp; omega
      intro v2 w3 hown2 hgrow2 _
      rw [shr_byte] at hown2
      have hrow2 : w3.ownsRow B 5 1 v2 (xs ++ [UInt8.ofNat k] ++ Code.be (j + 1) (n / 256 ^ (k - (j + 1)))).length (cellsL (xs ++ [UInt8.ofNat k] ++ Code.be (j + 1) (n / 256 ^ (k - (j + 1))))) := by
        rw [← hsn.out, ← List.append_assoc, HY.out, cellsL_append, List.length_append]
        exact hown2
      have hbel2 : Below B w1 w3 := (hbel.alloc (by omega) _).grown hgrow2 (by simp; omega) (fun g hg => (hrow.lt g hg).1)
      clear hown2 hgrow2 hrow
      go_wp2
      go_roundw
      case rel => exact ⟨j + 1, by omega, by go_num, hrow2, hbel2⟩
      case measure => simp [intOf]; omega
    · go_wp2
      go_ret
      have e : j = k := by omega
      subst e
      rw [Nat.sub_self, Nat.pow_zero, Nat.div_one, List.append_assoc, List.singleton_append] at hrow
      refine ⟨_, rfl, ?_, hbel⟩
      rw [Code.numL, HK.out]
      exact hrow

theorem num_any (n : Nat) (hn : n < 2 ^ 63) (w : World) :
    Calls Tryd.prog 51 #[.int .i64 n] w fun e w' => e = .returned (.tuple #[.string ⟨(Code.numL n).toArray⟩, .int .i64 0]) ∧ Below w.heap.size w w' := by
  have h0 : ((n : Int) < 0) = False := by simp
  go_enter Tryd.func51, Tryd.ntmps51
  go_wp2_with fail
  refine (addNum_any n hn w.heap.size _ [] w (Nat.le_refl _) (by simp) (ownsNil w _)).mono ?_
  rintro e w1 ⟨v', rfl, hown, hbel⟩
  have hc := conv_own hown
  go_wp2
  go_ret2
  exact ⟨rfl, hbel⟩
theorem num_neg (z : Int) (hz : z < 0) (w : World) :
    Calls Tryd.prog 51 #[.int .i64 z] w fun e w' => e = .returned (.tuple #[.string ⟨#[]⟩, .int .i64 1]) ∧ w' = w := by
  go_enter Tryd.func51, Tryd.ntmps51
  go_wp2
  go_ret2
  exact ⟨rfl, rfl⟩

end Go.Proofs.YtbjfihbjfoaghaaDoor
namespace Go.Proofs.YtbjfihbjfoaghaaDoor
open Go.RowKit

theorem strCells_mk (l : List UInt8) : Lib.strCells ⟨l.toArray⟩ = cellsL l := by simp [Lib.strCells, cellsL]

set_option maxHeartbeats 400000 in
theorem addText_any (s : List UInt8) (B : Nat) (v : Value) (xs : List UInt8) (w : World) (hB : B ≤ w.heap.size) (hx : xs.length ≤ 100000000) (hl : s.length ≤ 100000000)
    (hown : w.ownsRow B 5 1 v xs.length (cellsL xs)) :
    Calls Tryd.prog 52 #[v, .string ⟨s.toArray⟩] w fun e w' => ∃ v', e = .returned v' ∧ w'.ownsRow B 5 1 v' (xs ++ Code.textL s).length (cellsL (xs ++ Code.textL s)) ∧ Below B w w' := by
  obtain ⟨i0, hi, hz0, hz1, hz2⟩ := info_parts Tryd.infoByte
  go_enter Tryd.func52, Tryd.ntmps52
  go_wp2_with fail
  refine (addNum_any s.length (by omega) B v xs w hB hx hown).mono ?_
  rintro e w1 ⟨v', rfl, hown1, hbel⟩
  have hb := hbel.size
  have hlen : (xs ++ Code.numL s.length).length ≤ 100000010 := by
    have := Code.sz_le8 s.length (by omega)
    have := Code.numL_length s.length
    rw [List.length_append]; omega
  obtain ⟨ys, hys⟩ : ∃ ys, xs ++ Code.numL s.length = ys := ⟨_, rfl⟩
  rw [hys] at hown1 hlen
  have HY := Lib.hid hys
  clear hys hown
  go_wp2_with ((at_builtin; refine Lib.wpList_append_own_string _ rfl _ _ 64 9 rfl B 5 i0 Tryd.underlying64 Tryd.underlying9 hi hz0 hz1 hz2 v' ys.length (cellsL ys) rfl hown1 ⟨s.toArray⟩ rfl ?c3 ?c4 ?c5 ?_))
  case c3 => rw [size_of_list]; unfold maxLen; omega
  case c4 => rw [size_of_list]; omega
  case c5 => omega
  intro v2 w2 hown2 hgrow2 _
  rw [strCells_mk] at hown2
  have hrow : w2.ownsRow B 5 1 v2 (xs ++ Code.textL s).length (cellsL (xs ++ Code.textL s)) := by
    rw [Code.textL, ← List.append_assoc, HY.out, List.length_append, cellsL_append]
    exact hown2
  have hbel2 : Below B w w2 := hbel.grown hgrow2 (by omega) (fun g hg => (hown1.lt g hg).1)
  clear hown2 hgrow2
  go_wp2
  go_ret
  exact ⟨_, rfl, hrow, hbel2⟩

theorem text_any (s : List UInt8) (w : World) (hl : s.length ≤ 100000000) :
    Calls Tryd.prog 37 #[.string ⟨s.toArray⟩] w fun e w' => e = .returned (.string ⟨(Code.textL s).toArray⟩) ∧ Below w.heap.size w w' := by
  go_enter Tryd.func37, Tryd.ntmps37
  go_wp2_with fail
  refine (addText_any s w.heap.size _ [] w (Nat.le_refl _) (by simp) hl (ownsNil w _)).mono ?_
  rintro e w1 ⟨v', rfl, hown, hbel⟩
  have hc := conv_own hown
  go_wp2
  go_ret
  exact ⟨rfl, hbel⟩

end Go.Proofs.YtbjfihbjfoaghaaDoor
