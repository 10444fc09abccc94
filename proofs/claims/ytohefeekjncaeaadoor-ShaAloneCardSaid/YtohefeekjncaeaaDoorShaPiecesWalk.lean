/- The law ShaPieces, walked: a text that comes in pieces. -/
import Derived.Test.YtohefeekjncaeaaDoorShaWorks
import Derived.Test.YtohefeekjncaeaaDoorBookFew
namespace Go.Proofs.YtohefeekjncaeaaDoor
open Go.RowKit

theorem Sha.flat_snoc (L : List (List UInt8)) (k : Nat) (h : k < L.length) : (L.take k).flatten ++ L[k] = (L.take (k + 1)).flatten := by
  rw [List.take_succ_eq_append_getElem h, List.flatten_append]
  simp only [List.flatten_cons, List.flatten_nil, List.append_nil]
theorem Sha.flat_le (L : List (List UInt8)) (e : Nat) (h : ∀ s ∈ L, s.length ≤ e) (k : Nat) : (L.take k).flatten.length ≤ L.length * e := by
  have h1 : ∀ M : List (List UInt8), (∀ s ∈ M, s.length ≤ e) → M.flatten.length ≤ M.length * e := by
    intro M
    induction M with
    | nil => simp
    | cons a M ih =>
      intro hM
      have h2 := hM a (by simp)
      have h3 := ih (fun s hs => hM s (by simp [hs]))
      simp only [List.flatten_cons, List.length_append, List.length_cons, Nat.add_mul]
      omega
  have h4 := h1 (L.take k) (fun s hs => h s (List.mem_of_mem_take hs))
  have h5 : (L.take k).length ≤ L.length := by simp; omega
  exact Nat.le_trans h4 (Nat.mul_le_mul_right e h5)

set_option maxRecDepth 8000 in
set_option maxHeartbeats 1000000 in
theorem pieces_walk (v : Value) (L : List (List UInt8)) (w : World) (hv : Strs w v L) (hL : L.length ≤ maxLen) (_hS : ∀ s ∈ L, s.length ≤ maxLen) (hT : Tab w) :
    Calls Tryd.prog 5 #[v] w fun e w' => e = .returned (.bool true) ∧ Below w.heap.size w w' := by
  have HV := Lib.hid hv
  have HT := Lib.hid hT
  by_cases hfew : Code.few L 12 200 = true
  case neg =>
    have hf : Code.few L 12 200 = false := by simpa using hfew
    have HF := Lib.hid hf
    clear hv hT hf hfew
    go_enter Tryd.func5, Tryd.ntmps5
    go_wp2_with fail
    refine (works_any w HT.out).mono ?_
    rintro e w1 ⟨rfl, hb1⟩
    go_wp2_with fail
    refine (few_any L _ 12 200 w1 (HV.out.below hb1) hL).mono ?_
    rintro e w2 ⟨rfl, rfl⟩
    rw [HF.out]
    go_wp2
    go_ret
    exact ⟨rfl, hb1⟩
  case pos =>
    obtain ⟨h12, h200⟩ := (Code.few_iff L 12 200).1 hfew
    have HF := Lib.hid hfew
    have hfl := Sha.flat_le L 200 h200
    have HFL : Hid (∀ k, (L.take k).flatten.length ≤ 2400) := Lib.hid (fun k => Nat.le_trans (hfl k) (by omega))
    have H200 := Lib.hid h200
    obtain ⟨A, cap, rfl, hc⟩ := hv
    have HC := Lib.hid hc
    clear hT hfew hfl hc h200
    go_enter Tryd.func5, Tryd.ntmps5
    go_wp2_with fail
    refine (works_any w HT.out).mono ?_
    rintro e w1 ⟨rfl, hb1⟩
    go_wp2_with fail
    refine (few_any L _ 12 200 w1 (HV.out.below hb1) hL).mono ?_
    rintro e w2 ⟨rfl, rfl⟩
    rw [HF.out]
    go_wp2_with fail
    refine (new_any _).mono ?_
    rintro e w3 ⟨g, rfl, hg3, hh3, hb3⟩
    have hB3 := bchain hb1 hb3
    have HG3 : Hid (w.heap.size ≤ g) := Lib.hid (Nat.le_trans hb1.size hg3)
    have hgp : 0 < g := Nat.lt_of_lt_of_le HT.out.pos HG3.out
    have HH3 := Lib.hid (HashIs.start hh3)
    have HB3 := Lib.hid hB3
    unfold maxLen at hL
    clear hb1 hb3 hB3 hh3 hg3
    go_wp2
    go_loopw [4, 15] (fun s i wr => ∃ k : Nat, k ≤ L.length ∧ i = .int .i64 k ∧ s = .string ⟨(L.take k).flatten.toArray⟩ ∧ HashIs wr g (L.take k).flatten ∧ Below w.heap.size w wr) (fun _ i _ => L.length - (intOf i).toNat)
    case atStart => exact ⟨0, Nat.zero_le _, rfl, rfl, HH3.out, HB3.out⟩
    case round =>
      clear HH3 HB3
      obtain ⟨k, hk, rfl, rfl, hh, hb⟩ := hrel
      have hTr := HT.out.below hb
      by_cases hlt : k < L.length
      · have h1 : (k : Int) < (L.length : Int) := by omega
        obtain ⟨a, rfl, hcell⟩ := HC.out k hlt
        have hcell1 := (hb.cell (World.block_lt_of_cell? _ _ hcell)).trans hcell
        have hsn := Sha.flat_snoc L k hlt
        have hl1 := HFL.out k
        have hl2 := HFL.out (k + 1)
        clear hcell
        have hs200 : L[k].length ≤ 200 := H200.out _ (List.getElem_mem hlt)
        generalize L[k] = s at hcell1 hsn hs200
        obtain ⟨X, hX⟩ : ∃ X, (L.take k).flatten = X := ⟨_, rfl⟩
        obtain ⟨Y, hY⟩ : ∃ Y, (L.take (k + 1)).flatten = Y := ⟨_, rfl⟩
        rw [hX] at hsn hl1 hh ⊢
        rw [hY] at hsn hl2
        have hcm := cat_mk X s
        rw [hsn] at hcm
        have HW := Lib.hid (write_any X s g wr hh hTr hgp (by omega))
        rw [hsn] at HW
        have HY := Lib.hid hY
        have HB := Lib.hid hb
        clear hX hY hh hTr hb hsn
        go_wp2_with fail
        refine HW.out.mono ?_
        rintro e w2 ⟨rfl, hh2, ho2⟩
        have hB2 : Below w.heap.size w w2 := HB.out.trans (ho2.below HG3.out HB.out.size)
        have hT2 := HT.out.below hB2
        have HHS := Lib.hid (hsum_any Y g w2 hh2 hT2 (by omega))
        have HH2 := Lib.hid hh2
        have HB2 := Lib.hid hB2
        clear ho2 hh2 hB2 hT2 HW HB hcell1
        go_wp2_with fail
        refine HHS.out.mono ?_
        rintro e w4 ⟨rfl, hb4⟩
        have hB4 := HB2.out.trans (hb4.mono HB2.out.size)
        have HS := Lib.hid (sum_any Y w4 (HT.out.below hB4) (by omega))
        have HB4 := Lib.hid hB4
        have HH4 := Lib.hid (HH2.out.below hb4)
        clear hb4 hB4 HHS
        obtain ⟨R, hR⟩ : ∃ R, Sha.sumP Y = R := ⟨_, rfl⟩
        rw [hR] at HS ⊢
        clear hR
        go_wp2_with fail
        refine HS.out.mono ?_
        rintro e w5 ⟨rfl, hb5⟩
        have HB5 := Lib.hid (HB4.out.trans (hb5.mono HB4.out.size))
        have HH5 := Lib.hid (HH4.out.below hb5)
        clear hb5
        go_wp2
        go_roundw
        case rel => exact ⟨k + 1, by omega, by go_num, by rw [HY.out], by rw [HY.out]; exact HH5.out, HB5.out⟩
        case measure => simp [intOf]; omega
      · obtain rfl : k = L.length := by omega
        have hno : ¬ ((L.length : Int) < (L.length : Int)) := by omega
        have hl1 := HFL.out L.length
        obtain ⟨Y, hY⟩ : ∃ Y, (L.take L.length).flatten = Y := ⟨_, rfl⟩
        rw [hY] at hl1 hh ⊢
        have HHS := Lib.hid (hsum_any Y g wr hh hTr (by omega))
        have HH := Lib.hid hh
        have HB := Lib.hid hb
        have hrl := Sha.sumP_length Y
        clear hY hh hTr hb hlt hk
        go_wp2_with fail
        refine HHS.out.mono ?_
        rintro e w4 ⟨rfl, hb4⟩
        have hB4 := HB.out.trans (hb4.mono HB.out.size)
        have HS := Lib.hid (sum_any Y w4 (HT.out.below hB4) (by omega))
        have HB4 := Lib.hid hB4
        have HH4 := Lib.hid (HH.out.below hb4)
        clear hb4 hB4 HHS
        have HHA := Lib.hid (fun w5 hh5 hT5 => hsum_any Y g w5 hh5 hT5 (by omega))
        obtain ⟨R, hR⟩ : ∃ R, Sha.sumP Y = R := ⟨_, rfl⟩
        rw [hR] at HS hrl HHA ⊢
        clear hR
        go_wp2_with fail
        refine HS.out.mono ?_
        rintro e w5 ⟨rfl, hb5⟩
        have hB5 := HB4.out.trans (hb5.mono HB4.out.size)
        have HB5 := Lib.hid hB5
        have HS5 := Lib.hid (HHA.out w5 (HH4.out.below hb5) (HT.out.below hB5))
        clear hb5 hB5
        go_wp2_with fail
        refine HS5.out.mono ?_
        rintro e w6 ⟨rfl, hb6⟩
        go_wp2
        go_ret
        exact ⟨rfl, HB5.out.trans (hb6.mono HB5.out.size)⟩
end Go.Proofs.YtohefeekjncaeaaDoor
