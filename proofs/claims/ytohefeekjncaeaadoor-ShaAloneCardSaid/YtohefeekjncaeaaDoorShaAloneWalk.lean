/- The law ShaAlone, walked: two hashes know nothing of each other. -/
import Derived.Test.YtohefeekjncaeaaDoorShaPiecesWalk
import Derived.Test.YtohefeekjncaeaaDoorArgBools
namespace Go.Proofs.YtohefeekjncaeaaDoor
open Go.RowKit

set_option maxRecDepth 8000 in
set_option maxHeartbeats 1000000 in
theorem alone_walk (v : Value) (L : List (List UInt8)) (u : Value) (Z : List Bool) (w : World) (hv : Strs w v L) (hL : L.length ≤ maxLen) (_hS : ∀ s ∈ L, s.length ≤ maxLen) (hu : Bools w u Z) (_hZ : Z.length ≤ maxLen) (hT : Tab w) :
    Calls Tryd.prog 7 #[v, u] w fun e w' => e = .returned (.bool true) ∧ Below w.heap.size w w' := by
  have HV := Lib.hid hv
  have HT := Lib.hid hT
  by_cases hfew : Code.few L 12 200 = true
  case neg =>
    have hf : Code.few L 12 200 = false := by simpa using hfew
    have HF := Lib.hid hf
    clear hv hT hf hfew hu
    go_enter Tryd.func7, Tryd.ntmps7
    go_wp2_with fail
    refine (works_any w HT.out).mono ?_
    rintro e w1 ⟨rfl, hb1⟩
    go_wp2_with fail
    refine (few_any L _ 12 200 w1 (HV.out.below hb1) hL).mono ?_
    rintro e w2 ⟨rfl, rfl⟩
    rw [HF.out]
    go_wp2
    go_ret
    exact ⟨rfl, hb1⟩
  case pos =>
    obtain ⟨h12, h200⟩ := (Code.few_iff L 12 200).1 hfew
    have HF := Lib.hid hfew
    have H200 := Lib.hid h200
    obtain ⟨A, cap, rfl, hc⟩ := hv
    obtain ⟨B, capB, rfl, hcb⟩ := hu
    have HC := Lib.hid hc
    have HCB := Lib.hid hcb
    clear hT hfew hc hcb h200
    go_enter Tryd.func7, Tryd.ntmps7
    go_wp2_with fail
    refine (works_any w HT.out).mono ?_
    rintro e w1 ⟨rfl, hb1⟩
    go_wp2_with fail
    refine (few_any L _ 12 200 w1 (HV.out.below hb1) hL).mono ?_
    rintro e w2 ⟨rfl, rfl⟩
    rw [HF.out]
    go_wp2_with fail
    refine (new_any _).mono ?_
    rintro e w3 ⟨g, rfl, hg3, hh3, hb3⟩
    go_wp2_with fail
    refine (new_any _).mono ?_
    rintro e w4 ⟨g', rfl, hg4, hh4, hb4⟩
    have hB3 := bchain hb1 hb3
    have HG3 : Hid (w.heap.size ≤ g) := Lib.hid (Nat.le_trans hb1.size hg3)
    have HG4 : Hid (w.heap.size ≤ g') := Lib.hid (Nat.le_trans hB3.size hg4)
    have hgp : 0 < g := Nat.lt_of_lt_of_le HT.out.pos HG3.out
    have hgp' : 0 < g' := Nat.lt_of_lt_of_le HT.out.pos HG4.out
    have HH3 := Lib.hid (HashIs.start hh3)
    have hne : g < g' := Nat.lt_of_lt_of_le HH3.out.lt hg4
    have HH3' := Lib.hid (HH3.out.below hb4)
    have HH4 := Lib.hid (HashIs.start hh4)
    have HB4 := Lib.hid (bchain hB3 hb4)
    unfold maxLen at hL
    clear hb1 hb3 hB3 hh3 hg3 hb4 hg4 hh4 HH3
    go_wp2
    go_loopw [7, 8, 20] (fun x y i wr => ∃ (k : Nat) (X Y : List UInt8), k ≤ L.length ∧ i = .int .i64 k ∧ x = .string ⟨X.toArray⟩ ∧ y = .string ⟨Y.toArray⟩ ∧ X.length ≤ 200 * k ∧ Y.length ≤ 200 * k ∧ HashIs wr g X ∧ HashIs wr g' Y ∧ Below w.heap.size w wr) (fun _ _ i _ => L.length - (intOf i).toNat)
    case atStart => exact ⟨0, [], [], Nat.zero_le _, rfl, rfl, rfl, by simp, by simp, HH3'.out, HH4.out, HB4.out⟩
    case round =>
      clear HH3' HH4 HB4
      obtain ⟨k, X, Y, hk, rfl, rfl, rfl, hXl, hYl, hh, hh', hb⟩ := hrel
      have hTr := HT.out.below hb
      have HB := Lib.hid hb
      have HH := Lib.hid hh
      have HH' := Lib.hid hh'
      by_cases hlt : k < L.length
      · have h1 : (k : Int) < (L.length : Int) := by omega
        obtain ⟨a, rfl, hcell⟩ := HC.out k hlt
        have hcell1 := (hb.cell (World.block_lt_of_cell? _ _ hcell)).trans hcell
        clear hcell
        have hs200 : L[k].length ≤ 200 := H200.out _ (List.getElem_mem hlt)
        generalize L[k] = s at hcell1 hs200
        have hcx := cat_mk X s
        have hcy := cat_mk Y s
        obtain ⟨X', hX'⟩ : ∃ X', X ++ s = X' := ⟨_, rfl⟩
        obtain ⟨Y', hY'⟩ : ∃ Y', Y ++ s = Y' := ⟨_, rfl⟩
        have hXl' : X'.length ≤ 200 * (k + 1) := by rw [← hX', List.length_append]; omega
        have hYl' : Y'.length ≤ 200 * (k + 1) := by rw [← hY', List.length_append]; omega
        have HW := Lib.hid (write_any X s g wr hh hTr hgp (by omega))
        have HW' := Lib.hid (write_any Y s g' wr hh' hTr hgp' (by omega))
        rw [hX'] at hcx HW
        rw [hY'] at hcy HW'
        have HXL := Lib.hid hXl'
        have HYL := Lib.hid hYl'
        clear hX' hY' hXl' hYl' hh hh' hTr
        by_cases hfl : k < Z.length
        · have h2 : (k : Int) < (Z.length : Int) := by omega
          have h2d : decide ((k : Int) < (Z.length : Int)) = true := decide_eq_true h2
          obtain ⟨b, rfl, hcellb⟩ := HCB.out k hfl
          have hcellb1 := (hb.cell (World.block_lt_of_cell? _ _ hcellb)).trans hcellb
          clear hcellb hb
          cases hbit : Z[k] with
          | true =>
            rw [hbit] at hcellb1
            clear hbit
            go_wp2_with fail
            refine HW.out.mono ?_
            rintro e w2 ⟨rfl, hh2, ho2⟩
            have HB2 := Lib.hid (HB.out.trans (ho2.below HG3.out HB.out.size))
            have HH2 := Lib.hid hh2
            have HH2' := Lib.hid (HH'.out.only ho2 (by omega))
            clear hh2 ho2
            go_wp2
            go_roundw
            case rel => exact ⟨k + 1, X', Y, by omega, by go_num, rfl, rfl, HXL.out, by omega, HH2.out, HH2'.out, HB2.out⟩
            case measure => simp [intOf]; omega
          | false =>
            rw [hbit] at hcellb1
            clear hbit
            go_wp2_with fail
            refine HW'.out.mono ?_
            rintro e w2 ⟨rfl, hh2, ho2⟩
            have HB2 := Lib.hid (HB.out.trans (ho2.below HG4.out HB.out.size))
            have HH2 := Lib.hid hh2
            have HH2' := Lib.hid (HH.out.only ho2 (by omega))
            clear hh2 ho2
            go_wp2
            go_roundw
            case rel => exact ⟨k + 1, X, Y', by omega, by go_num, rfl, rfl, by omega, HYL.out, HH2'.out, HH2.out, HB2.out⟩
            case measure => simp [intOf]; omega
        · have h2 : ¬ ((k : Int) < (Z.length : Int)) := by omega
          have h2d : decide ((k : Int) < (Z.length : Int)) = false := decide_eq_false h2
          clear hb
          go_wp2_with fail
          refine HW'.out.mono ?_
          rintro e w2 ⟨rfl, hh2, ho2⟩
          have HB2 := Lib.hid (HB.out.trans (ho2.below HG4.out HB.out.size))
          have HH2 := Lib.hid hh2
          have HH2' := Lib.hid (HH.out.only ho2 (by omega))
          clear hh2 ho2
          go_wp2
          go_roundw
          case rel => exact ⟨k + 1, X, Y', by omega, by go_num, rfl, rfl, by omega, HYL.out, HH2'.out, HH2.out, HB2.out⟩
          case measure => simp [intOf]; omega
      · obtain rfl : k = L.length := by omega
        have hno : ¬ ((L.length : Int) < (L.length : Int)) := by omega
        have HHS := Lib.hid (hsum_any X g wr hh hTr (by omega))
        have HSX := Lib.hid (fun w5 hT5 => sum_any X w5 hT5 (by omega))
        have HSY := Lib.hid (fun w5 hT5 => sum_any Y w5 hT5 (by omega))
        have HHY := Lib.hid (fun w5 hh5 hT5 => hsum_any Y g' w5 hh5 hT5 (by omega))
        obtain ⟨R, hR⟩ : ∃ R, Sha.sumP X = R := ⟨_, rfl⟩
        obtain ⟨R', hR'⟩ : ∃ R, Sha.sumP Y = R := ⟨_, rfl⟩
        rw [hR] at HHS HSX
        rw [hR'] at HSY HHY
        clear hR hR' hh hh' hTr hb hlt hk
        go_wp2_with fail
        refine HHS.out.mono ?_
        rintro e w4 ⟨rfl, hb4⟩
        have hB4 := HB.out.trans (hb4.mono HB.out.size)
        have HB4 := Lib.hid hB4
        have HS4 := Lib.hid (HSX.out w4 (HT.out.below hB4))
        have HH4 := Lib.hid (HH'.out.below hb4)
        clear hb4 hB4 HHS
        go_wp2_with fail
        refine HS4.out.mono ?_
        rintro e w5 ⟨rfl, hb5⟩
        have hB5 := HB4.out.trans (hb5.mono HB4.out.size)
        have HB5 := Lib.hid hB5
        have HS5 := Lib.hid (HHY.out w5 (HH4.out.below hb5) (HT.out.below hB5))
        clear hb5 hB5
        go_wp2_with fail
        refine HS5.out.mono ?_
        rintro e w6 ⟨rfl, hb6⟩
        have hB6 := HB5.out.trans (hb6.mono HB5.out.size)
        have HB6 := Lib.hid hB6
        have HS6 := Lib.hid (HSY.out w6 (HT.out.below hB6))
        clear hb6 hB6
        go_wp2_with fail
        refine HS6.out.mono ?_
        rintro e w7 ⟨rfl, hb7⟩
        go_wp2
        go_ret
        exact ⟨rfl, HB6.out.trans (hb7.mono HB6.out.size)⟩
end Go.Proofs.YtohefeekjncaeaaDoor
