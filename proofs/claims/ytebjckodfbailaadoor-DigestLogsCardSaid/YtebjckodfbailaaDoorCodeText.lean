/- The walks of addText, Text, List, Flag. -/
import Derived.Test.YtebjckodfbailaaDoorCodeAdd
import Derived.Test.YtebjckodfbailaaDoorCodeStrs
import Derived.Lib.AppendStr
namespace Go.Proofs.YtebjckodfbailaaDoor
open Go.RowKit

theorem strCells_mk (l : List UInt8) : Lib.strCells ⟨l.toArray⟩ = cellsL l := by simp [Lib.strCells, cellsL]

set_option maxHeartbeats 400000 in
theorem addText_any (s : List UInt8) (B : Nat) (v : Value) (xs : List UInt8) (w : World) (hB : B ≤ w.heap.size) (hx : xs.length ≤ 100000000) (hl : s.length ≤ 100000000)
    (hown : w.ownsRow B 5 1 v xs.length (cellsL xs)) :
    Calls Tryd.prog 37 #[v, .string ⟨s.toArray⟩] w fun e w' => ∃ v', e = .returned v' ∧ w'.ownsRow B 5 1 v' (xs ++ Code.textL s).length (cellsL (xs ++ Code.textL s)) ∧ Below B w w' := by
  obtain ⟨i0, hi, hz0, hz1, hz2⟩ := info_parts Tryd.infoByte
  go_enter Tryd.func37, Tryd.ntmps37
  go_wp2_with fail
  refine (addNum_any s.length (by omega) B v xs w hB hx hown).mono ?_
  rintro e w1 ⟨v', rfl, hown1, hbel⟩
  have hb := hbel.size
  have hlen : (xs ++ Code.numL s.length).length ≤ 100000010 := by
    have := Code.sz_le8 s.length (by omega)
    have := Code.numL_length s.length
    rw [List.length_append]; omega
  obtain ⟨ys, hys⟩ : ∃ ys, xs ++ Code.numL s.length = ys := ⟨_, rfl⟩
  rw [hys] at hown1 hlen
  have HY := Lib.hid hys
  clear hys hown
  go_wp2_with ((at_builtin; refine Lib.wpList_append_own_string _ rfl _ _ 50 9 rfl B 5 i0 Tryd.underlying50 Tryd.underlying9 hi hz0 hz1 hz2 v' ys.length (cellsL ys) rfl hown1 ⟨s.toArray⟩ rfl ?c3 ?c4 ?c5 ?_))
  case c3 => rw [size_of_list]; unfold maxLen; omega
  case c4 => rw [size_of_list]; omega
  case c5 => omega
  intro v2 w2 hown2 hgrow2 _
  rw [strCells_mk] at hown2
  have hrow : w2.ownsRow B 5 1 v2 (xs ++ Code.textL s).length (cellsL (xs ++ Code.textL s)) := by
    rw [Code.textL, ← List.append_assoc, HY.out, List.length_append, cellsL_append]
    exact hown2
  have hbel2 : Below B w w2 := hbel.grown hgrow2 (by omega) (fun g hg => (hown1.lt g hg).1)
  clear hown2 hgrow2
  go_wp2
  go_ret
  exact ⟨_, rfl, hrow, hbel2⟩

set_option maxHeartbeats 400000 in
theorem list_any (L : List (List UInt8)) (v : Value) (w : World) (hs : Strs w v L) (hl : L.length ≤ 100000000) (ht : (Code.textsL L).length ≤ 90000000) :
    Calls Tryd.prog 26 #[v] w fun e w' => e = .returned (.string ⟨(Code.listL L).toArray⟩) ∧ Below w.heap.size w w' := by
  obtain ⟨A, cap, rfl, hc⟩ := hs
  go_enter Tryd.func26, Tryd.ntmps26
  go_wp2_with fail
  refine (addNum_any L.length (by omega) w.heap.size _ [] w (Nat.le_refl _) (by simp) (ownsNil w _)).mono ?_
  rintro e w1 ⟨v', rfl, hown, hbel⟩
  rw [List.nil_append] at hown
  go_wp2
  go_loopw [3, 11] (fun u i wr => ∃ k : Nat, k ≤ L.length ∧ i = .int .i64 k ∧ wr.ownsRow w.heap.size 5 1 u (Code.numL L.length ++ Code.textsL (L.take k)).length (cellsL (Code.numL L.length ++ Code.textsL (L.take k))) ∧ Below w.heap.size w wr) (fun _ i _ => L.length - (intOf i).toNat)
  case atStart => exact ⟨0, Nat.zero_le _, rfl, by simpa [Code.textsL] using hown, hbel⟩
  case round =>
    obtain ⟨k, hk, rfl, hrow, hb⟩ := hrel
    by_cases hlt : k < L.length
    · have h1 : (k : Int) < (L.length : Int) := by omega
      obtain ⟨a, rfl, hcell⟩ := hc k hlt
      have hcell1 : wr.cell? (a.add k) = some (.string ⟨L[k].toArray⟩) := (hb.cell (World.block_lt_of_cell? _ _ hcell)).trans hcell
      have hsn := Lib.hid (Code.texts_snoc L k hlt)
      have hle := Code.texts_take_le L k
      have hle2 := Code.text_le_texts L k hlt
      have hsz := Code.sz_le8 L.length (by omega)
      have hnl := Code.numL_length L.length
      have hyl : (Code.numL L.length ++ Code.textsL (L.take k)).length ≤ 100000000 := by rw [List.length_append]; omega
      clear hle hsz hnl hc hcell
      obtain ⟨t, ht⟩ : ∃ t, L[k] = t := ⟨_, rfl⟩
      rw [ht] at hcell1 hsn hle2
      clear ht
      go_wp2_with fail
      refine (addText_any t w.heap.size _ _ wr hb.size hyl (by omega) hrow).mono ?_
      rintro e w2 ⟨v2, rfl, hown2, hbel2⟩
      rw [List.append_assoc, hsn.out] at hown2
      have hb2 := hb.trans hbel2
      go_wp2
      go_roundw
      case rel => exact ⟨k + 1, by omega, by go_num, hown2, hb2⟩
      case measure => simp [intOf]; omega
    · rw [List.take_of_length_le (by omega)] at hrow
      have hcv := conv_own hrow
      go_wp2
      go_ret
      exact ⟨rfl, hb⟩

end Go.Proofs.YtebjckodfbailaaDoor
