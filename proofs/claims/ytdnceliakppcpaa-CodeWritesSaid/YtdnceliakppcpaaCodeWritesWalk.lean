/- The walk of the law CodeWrites: it answers true, whatever it is given. -/
import Derived.Test.YtdnceliakppcpaaCodeWorks
import Derived.Test.YtdnceliakppcpaaCodeFew
import Derived.Test.YtdnceliakppcpaaCodeRef
import Derived.Deep.RegionWith
namespace Go.Proofs.Ytdnceliakppcpaa
open Go.RowKit

theorem bound64 {n : Int} (h : (Lit.int .i64 n).wf = true) : -9223372036854775808 ≤ n ∧ n ≤ 9223372036854775807 := by
  simpa [Lit.wf, IntKind.min, IntKind.max, IntKind.signed, IntKind.bits] using h

set_option maxHeartbeats 1000000 in
theorem writes_few (z : Int) (v : Value) (L : List (List UInt8)) (b : Bool) (w : World) (hs : Strs w v L) (hl : L.length ≤ maxLen) (hf : Code.few L 100 70000 = false) :
    Calls Try.prog 3 #[.int .i64 z, v, .bool b] w fun e w' => e = .returned (.bool true) ∧ Below w.heap.size w w' := by
  have HF := Lib.hid hf
  clear hf
  go_enter Try.func3, Try.ntmps3
  go_wp2_with fail
  refine (few_any L v 100 70000 w hs hl).mono ?_
  rintro e w1 ⟨rfl, rfl⟩
  rw [HF.out]
  go_wp2_with fail
  refine (works_any _).mono ?_
  rintro e w1 ⟨rfl, hb1⟩
  go_wp2
  go_ret
  exact ⟨rfl, hb1⟩

/-- What both calls of Num answer: the same two values. -/
theorem both_num (z : Int) (hz : (Lit.int .i64 z).wf = true) : ∃ (s : List UInt8) (c : Int), (∀ w, Calls Try.prog 9 #[.int .i64 z] w fun e w' => e = .returned (.tuple #[.string ⟨s.toArray⟩, .int .i64 c]) ∧ Below w.heap.size w w') ∧
    (∀ w, Calls Try.prog 10 #[.int .i64 z] w fun e w' => e = .returned (.tuple #[.string ⟨s.toArray⟩, .int .i64 c]) ∧ Below w.heap.size w w') := by
  have hb := bound64 hz
  by_cases h : z < 0
  · refine ⟨[], 1, fun w => (num_neg z h w).mono ?_, fun w => (rNum_neg z h w).mono ?_⟩
    all_goals
      rintro e w' ⟨rfl, rfl⟩
      exact ⟨rfl, Below.refl _ _⟩
  · obtain ⟨n, rfl⟩ := Int.eq_ofNat_of_zero_le (by omega : 0 ≤ z)
    exact ⟨Code.numL n, 0, fun w => num_any n (by omega) w, fun w => rNum_any n (by omega) w⟩

set_option maxHeartbeats 1000000 in
theorem writes_main (z : Int) (v : Value) (L : List (List UInt8)) (b : Bool) (w : World) (hz : (Lit.int .i64 z).wf = true) (hs : Strs w v L) (hl : L.length ≤ maxLen) (hf : Code.few L 100 70000 = true) :
    Calls Try.prog 3 #[.int .i64 z, v, .bool b] w fun e w' => e = .returned (.bool true) ∧ Below w.heap.size w w' := by
  obtain ⟨hL, hE⟩ := (Code.few_iff L 100 70000).1 hf
  have htx := Code.texts_bound L 70000 (by decide) hE
  have htx2 : (Code.textsL L).length ≤ 90000000 := Nat.le_trans htx (Nat.le_trans (Nat.mul_le_mul_right _ hL) (by decide))
  clear htx
  have hE' := Lib.hid hE
  clear hE
  have HF := Lib.hid hf
  clear hf
  obtain ⟨s, c, hn1, hn2⟩ := both_num z hz
  have HN1 := Lib.hid hn1
  have HN2 := Lib.hid hn2
  have HS := Lib.hid hs
  clear hn1 hn2
  obtain ⟨A, cap, rfl, hc⟩ := hs
  go_enter Try.func3, Try.ntmps3
  go_wp2_with fail
  refine (few_any L _ 100 70000 w HS.out hl).mono ?_
  rintro e w1 ⟨rfl, rfl⟩
  rw [HF.out]
  go_wp2_with fail
  refine (HN1.out _).mono ?_
  rintro e w2 ⟨rfl, hb2⟩
  go_wp2_with fail
  refine (HN2.out _).mono ?_
  rintro e w3 ⟨rfl, hb3⟩
  have hb4 := bchain hb2 hb3
  clear hb2 hb3
  go_wp2
  go_loopw [11] (fun i wr => ∃ k : Nat, k ≤ L.length ∧ i = .int .i64 k ∧ Below w1.heap.size w1 wr) (fun i _ => L.length - (intOf i).toNat)
  case atStart => exact ⟨0, Nat.zero_le _, rfl, hb4⟩
  case round =>
    obtain ⟨k, hk, rfl, hb⟩ := hrel
    by_cases hlt : k < L.length
    · have h1 : (k : Int) < (L.length : Int) := by omega
      obtain ⟨a, rfl, hcell⟩ := hc k hlt
      have hcell1 : wr.cell? (a.add k) = some (.string ⟨L[k].toArray⟩) := (hb.cell (World.block_lt_of_cell? _ _ hcell)).trans hcell
      have htl : L[k].length ≤ 100000000 := Nat.le_trans (hE'.out _ (List.getElem_mem hlt)) (by decide)
      clear hc hcell
      obtain ⟨t, ht⟩ : ∃ t, L[k] = t := ⟨_, rfl⟩
      rw [ht] at hcell1 htl
      clear ht
      go_wp2_with fail
      go_region_with (first | (go_at_call 11; refine (text_any t _ htl).mono ?_; rintro e wa ⟨rfl, hba⟩; have hca : wa.cell? (a.add k) = some (.string ⟨t.toArray⟩) := (hba.cell (World.block_lt_of_cell? _ _ hcell1)).trans hcell1) | (go_at_call 12; refine (rText_any t _ htl).mono ?_; rintro e wb ⟨rfl, hbb⟩))
      all_goals
        have hbn : Below w1.heap.size w1 wb := bchain hb (bchain (bchain ((Below.refl _ wr).drew) hba) hbb)
        clear hca hba hbb
        go_wp2
        go_roundw
        case rel => exact ⟨k + 1, by omega, by go_num, hbn⟩
        case measure => simp [intOf]; omega
    · have hs1 := HS.out.below hb
      clear hc
      go_wp2_with fail
      refine (list_any L _ _ hs1 (by omega) htx2).mono ?_
      rintro e w5 ⟨rfl, hb5⟩
      have hs2 := hs1.below hb5
      have hb6 := bchain hb hb5
      clear hb hb5 hs1
      go_wp2_with fail
      refine (rList_any L _ _ hs2 (by omega) htx2).mono ?_
      rintro e w6 ⟨rfl, hb7⟩
      have hb8 := bchain hb6 hb7
      clear hb6 hb7 hs2
      rcases b with _ | _
      all_goals
        go_wp2_with fail
        refine (flag_any _ _).mono ?_
        rintro e w7 ⟨rfl, rfl⟩
        go_wp2_with fail
        refine (rFlag_any _ _).mono ?_
        rintro e w8 ⟨rfl, rfl⟩
        go_wp2_with fail
        refine (works_any _).mono ?_
        rintro e w9 ⟨rfl, hb9⟩
        go_wp2
        go_ret
        exact ⟨rfl, bchain hb8 hb9⟩

theorem writes_walk (z : Int) (v : Value) (L : List (List UInt8)) (b : Bool) (w : World) (hz : (Lit.int .i64 z).wf = true) (hs : Strs w v L) (hl : L.length ≤ maxLen) (_ : ∀ s ∈ L, s.length ≤ maxLen) :
    Calls Try.prog 3 #[.int .i64 z, v, .bool b] w fun e w' => e = .returned (.bool true) ∧ Below w.heap.size w w' := by
  rcases hf : Code.few L 100 70000 with _ | _
  · exact writes_few z v L b w hs hl hf
  · exact writes_main z v L b w hz hs hl hf

end Go.Proofs.Ytdnceliakppcpaa
