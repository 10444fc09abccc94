/- The walk of the law there and back. -/
import Derived.Test.YtbjfihbjfoaghaaDoorPowDec
import Derived.Test.YtbjfihbjfoaghaaDoorPowWorks
import Derived.Test.YtbjfihbjfoaghaaDoorBookMems
namespace Go.Proofs.YtbjfihbjfoaghaaDoor
open Go.RowKit
open Go.Proofs.YtbjfihbjfoaghaaDoor.Pw (M)

set_option maxRecDepth 8000 in
set_option maxHeartbeats 2000000 in
theorem back_list (v : Value) (L : List M) (s : List UInt8) (w : World) (hL : Mems w v L) (hT : Tab w) (hl : L.length ≤ 1000) (hs : s.length ≤ 1000) :
    Calls Tryd.prog 7 #[v, .string ⟨s.toArray⟩] w fun e w' => e = .returned (.bool true) ∧ Below w.heap.size w w' := by
  have HL := Lib.hid hL
  have HT := Lib.hid hT
  have HW := Lib.hid (works_any w hT)
  have HD := Lib.hid (fun w => decode_any s w (by omega))
  have HDE : Hid (Pw.decC s = 0 → Pw.encL (Pw.decL s) = s ∧ Pw.checkC (Pw.decL s) = 0) := Lib.hid (fun h => by
    cases hk : Pw.decOK s with
    | true =>
      have h2 := Pw.dec_enc hk
      exact ⟨by simp only [Pw.encL, h2.1, if_true]; exact h2.2, Pw.checkC_ok h2.1⟩
    | false => simp [Pw.decC, hk] at h)
  have HDN : Hid (Pw.decC s ≠ 0 → Pw.decC s = 3 ∧ Pw.decL s = []) := Lib.hid (fun h => by
    cases hk : Pw.decOK s with
    | true => simp [Pw.decC, hk] at h
    | false => simp [Pw.decC, Pw.decL, hk])
  have H1 := Lib.hid (fun w h => encode_any L v w h)
  have H2 := Lib.hid (fun w h hT => digest_any L v w h hT)
  have H3 := Lib.hid (fun w h => check_any L v w h)
  have H4 := Lib.hid (fun w h => total_any L v w h)
  have H5 := Lib.hid (fun w => decode_any (Pw.encL L) w (by have := Pw.encL_le L; omega))
  have HOKT : Hid (Pw.okL L = true → Pw.checkC L = 0 ∧ Pw.decC (Pw.encL L) = 0 ∧ Pw.decL (Pw.encL L) = L ∧ (Pw.digL L).length = 32) := Lib.hid (fun h => by
    have e := Pw.enc_dec h
    have e2 : Pw.encL L = Pw.encB L := by simp [Pw.encL, h]
    rw [e2]
    refine ⟨Pw.checkC_ok h, by simp [Pw.decC, e.1], e.2, ?_⟩
    rw [Pw.digL_length, h]; rfl)
  have HOKF : Hid (Pw.okL L = false → Pw.checkC L = 50 ∧ Pw.encL L = [] ∧ Pw.digL L = [] ∧ Pw.tot L = 0) := Lib.hid (fun h =>
    ⟨Pw.checkC_bad h, by simp [Pw.encL, h], by simp [Pw.digL, h], (Pw.tot_range L).2.2 h⟩)
  unfold DecPost at HD H5
  obtain ⟨A, cap, rfl⟩ := hL.form
  obtain ⟨E, hE⟩ : ∃ E, Pw.encL L = E := ⟨_, rfl⟩
  obtain ⟨C, hC⟩ : ∃ C, Pw.checkC L = C := ⟨_, rfl⟩
  obtain ⟨Q, hQ⟩ : ∃ Q, Pw.decL s = Q := ⟨_, rfl⟩
  obtain ⟨F, hF⟩ : ∃ F, Pw.decC s = F := ⟨_, rfl⟩
  obtain ⟨D, hDg⟩ : ∃ D, Pw.digL L = D := ⟨_, rfl⟩
  obtain ⟨T, hTt⟩ : ∃ T, Pw.tot L = T := ⟨_, rfl⟩
  rw [hE, hC] at H1
  rw [hE, hC] at HOKT HOKF
  rw [hE] at H5
  rw [hQ, hF] at HD HDE HDN
  rw [hDg] at H2 HOKT HOKF
  rw [hC] at H3
  rw [hTt] at H4 HOKF
  have h1 : ¬ ((1000 : Int) < (L.length : Int)) := by omega
  have h2 : ¬ ((1000 : Int) < (s.length : Int)) := by omega
  have hll : L.length ≤ 1000000 := by omega
  clear hE hC hQ hF hDg hTt hL hT
  go_enter Tryd.func7, Tryd.ntmps7
  go_wp2_with fail
  refine HW.out.mono ?_
  rintro e w1 ⟨rfl, hb1⟩
  have HB1 := Lib.hid hb1
  clear hb1
  go_wp2_with fail
  refine (HD.out _).mono ?_
  rintro e w2 ⟨c, rfl, hc, hb2⟩
  have HB2 := Lib.hid (bchain HB1.out hb2)
  have HC2 := Lib.hid hc
  obtain ⟨Ac, capc, rfl⟩ := own_form hc
  clear hb2 hc
  by_cases hF0 : F = 0
  · subst hF0
    have HE := Lib.hid (HDE.out rfl)
    have HEQ := Lib.hid (encode_any Q _ w2 HC2.out.mems)
    rw [HE.out.1, HE.out.2] at HEQ
    go_wp2_with fail
    refine HEQ.out.mono ?_
    rintro e w3 ⟨rfl, hb3⟩
    have HB3 := Lib.hid (bchain HB2.out hb3)
    have HCQ := Lib.hid (check_any Q _ w3 (HC2.out.mems.below hb3))
    rw [HE.out.2] at HCQ
    clear hb3
    go_wp2_with fail
    refine HCQ.out.mono ?_
    rintro e w4 ⟨rfl, hb4⟩
    have HB4 := Lib.hid (bchain HB3.out hb4)
    clear hb4
    go_wp2_with fail
    refine (H1.out _ (HL.out.below HB4.out)).mono ?_
    rintro e w5 ⟨rfl, hb5⟩
    have HB5 := Lib.hid (bchain HB4.out hb5)
    clear hb5
    cases hok : Pw.okL L with
    | false =>
      obtain ⟨rfl, rfl, rfl, rfl⟩ := HOKF.out hok
      clear hok
      go_wp2_with fail
      refine (H2.out _ (HL.out.below HB5.out) (HT.out.below HB5.out)).mono ?_
      rintro e w6 ⟨rfl, hb6⟩
      have HB6 := Lib.hid (bchain HB5.out hb6)
      clear hb6
      go_wp2_with fail
      refine (H3.out _ (HL.out.below HB6.out)).mono ?_
      rintro e w7 ⟨rfl, hb7⟩
      have HB7 := Lib.hid (bchain HB6.out hb7)
      clear hb7
      go_wp2_with fail
      refine (H4.out _ (HL.out.below HB7.out)).mono ?_
      rintro e w8 ⟨rfl, hb8⟩
      have HB8 := Lib.hid (bchain HB7.out hb8)
      clear hb8
      go_wp2
      go_ret
      exact ⟨rfl, HB8.out⟩
    | true =>
      obtain ⟨rfl, e1, e2, hdl⟩ := HOKT.out hok
      rw [e1, e2] at H5
      clear hok e1 e2
      go_wp2_with fail
      refine (H5.out _).mono ?_
      rintro e w6 ⟨d, rfl, hd, hb6⟩
      have HB6 := Lib.hid (bchain HB5.out hb6)
      have HSM := Lib.hid (sameM_any L L _ _ w6 (HL.out.below HB6.out) hd.mems hll hll)
      rw [show decide (L = L) = true from decide_eq_true rfl] at HSM
      obtain ⟨Ad, capd, rfl⟩ := own_form hd
      clear hb6 hd
      go_wp2_with fail
      refine HSM.out.mono ?_
      rintro e w7 ⟨rfl, hb7⟩
      have HB7 := Lib.hid (bchain HB6.out hb7)
      clear hb7
      go_wp2_with fail
      refine (H2.out _ (HL.out.below HB7.out) (HT.out.below HB7.out)).mono ?_
      rintro e w8 ⟨rfl, hb8⟩
      have HB8 := Lib.hid (bchain HB7.out hb8)
      clear hb8
      go_wp2
      go_ret
      exact ⟨rfl, HB8.out⟩
  · obtain ⟨rfl, rfl⟩ := HDN.out hF0
    go_wp2_with fail
    refine (H1.out _ (HL.out.below HB2.out)).mono ?_
    rintro e w5 ⟨rfl, hb5⟩
    have HB5 := Lib.hid (bchain HB2.out hb5)
    clear hb5
    cases hok : Pw.okL L with
    | false =>
      obtain ⟨rfl, rfl, rfl, rfl⟩ := HOKF.out hok
      clear hok
      go_wp2_with fail
      refine (H2.out _ (HL.out.below HB5.out) (HT.out.below HB5.out)).mono ?_
      rintro e w6 ⟨rfl, hb6⟩
      have HB6 := Lib.hid (bchain HB5.out hb6)
      clear hb6
      go_wp2_with fail
      refine (H3.out _ (HL.out.below HB6.out)).mono ?_
      rintro e w7 ⟨rfl, hb7⟩
      have HB7 := Lib.hid (bchain HB6.out hb7)
      clear hb7
      go_wp2_with fail
      refine (H4.out _ (HL.out.below HB7.out)).mono ?_
      rintro e w8 ⟨rfl, hb8⟩
      have HB8 := Lib.hid (bchain HB7.out hb8)
      clear hb8
      go_wp2
      go_ret
      exact ⟨rfl, HB8.out⟩
    | true =>
      obtain ⟨rfl, e1, e2, hdl⟩ := HOKT.out hok
      rw [e1, e2] at H5
      clear hok e1 e2
      go_wp2_with fail
      refine (H5.out _).mono ?_
      rintro e w6 ⟨d, rfl, hd, hb6⟩
      have HB6 := Lib.hid (bchain HB5.out hb6)
      have HSM := Lib.hid (sameM_any L L _ _ w6 (HL.out.below HB6.out) hd.mems hll hll)
      rw [show decide (L = L) = true from decide_eq_true rfl] at HSM
      obtain ⟨Ad, capd, rfl⟩ := own_form hd
      clear hb6 hd
      go_wp2_with fail
      refine HSM.out.mono ?_
      rintro e w7 ⟨rfl, hb7⟩
      have HB7 := Lib.hid (bchain HB6.out hb7)
      clear hb7
      go_wp2_with fail
      refine (H2.out _ (HL.out.below HB7.out) (HT.out.below HB7.out)).mono ?_
      rintro e w8 ⟨rfl, hb8⟩
      have HB8 := Lib.hid (bchain HB7.out hb8)
      clear hb8
      go_wp2
      go_ret
      exact ⟨rfl, HB8.out⟩

set_option maxRecDepth 8000 in
theorem back_walk (v : Value) (L : List M) (a : ByteArray) (w : World) (hL : Mems w v L) (_ : L.length * 24 ≤ reachBytes) (_ : ∀ m ∈ L, OkMem m) (_ : a.size ≤ maxLen) (hT : Tab w) :
    Calls Tryd.prog 7 #[v, .string a] w fun e w' => e = .returned (.bool true) ∧ Below w.heap.size w w' := by
  obtain ⟨s, rfl⟩ := bytes_list a
  by_cases hl : L.length ≤ 1000
  · by_cases hs : s.length ≤ 1000
    · exact back_list v L s w hL hT hl hs
    · have h1 : ¬ ((1000 : Int) < (L.length : Int)) := by omega
      have h2 : (1000 : Int) < (s.length : Int) := by omega
      obtain ⟨A, cap, rfl⟩ := hL.form
      go_enter Tryd.func7, Tryd.ntmps7
      go_wp2_with fail
      refine (works_any _ hT).mono ?_
      rintro e w9 ⟨rfl, hb9⟩
      go_wp2
      go_ret
      exact ⟨rfl, hb9⟩
  · have h1 : (1000 : Int) < (L.length : Int) := by omega
    obtain ⟨A, cap, rfl⟩ := hL.form
    go_enter Tryd.func7, Tryd.ntmps7
    go_wp2_with fail
    refine (works_any _ hT).mono ?_
    rintro e w9 ⟨rfl, hb9⟩
    go_wp2
    go_ret
    exact ⟨rfl, hb9⟩
end Go.Proofs.YtbjfihbjfoaghaaDoor
