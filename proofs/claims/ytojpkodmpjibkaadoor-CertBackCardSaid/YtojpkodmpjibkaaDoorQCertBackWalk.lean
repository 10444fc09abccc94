/- The walk of the law CertBack: it answers true, whatever it is given. -/
import Derived.Test.YtojpkodmpjibkaaDoorPk11
import Derived.Test.YtojpkodmpjibkaaDoorPk12
namespace Go.Proofs.YtojpkodmpjibkaaDoor
open Go.RowKit Go.ChangeShapes Go.WideShapes
open Go.Proofs.YtojpkodmpjibkaaDoor.Ct (C)

theorem Ct.decV_len' (s : List UInt8) : (Ct.decV s).sig.length ≤ 7 := by
  unfold Ct.decV
  split
  · have := Code.listR_len 7 6 (s.drop 32) (by decide)
    exact Int.ofNat_le.1 this
  · simp
theorem Ct.encV_len (s : List UInt8) (h : Ct.decOK s = true) : Ct.encL (Ct.decV s) = s ∧ Ct.encC (Ct.decV s) = 0 := by
  obtain ⟨h1, h2⟩ := Ct.dec_enc h
  exact ⟨by rw [Ct.encL, if_pos h1, h2], by rw [Ct.encC, if_pos h1]⟩

set_option maxRecDepth 100000 in
set_option maxHeartbeats 4000000 in
theorem cback_walk (D : List UInt8) (u : Value) (N : List (List UInt8)) (s : ByteArray) (w : World) (hD : D.length ≤ maxLen) (hu : Strs w u N) (hN : N.length ≤ maxLen) (hs : s.size ≤ maxLen) (hT : Tab w) :
    Calls Tryd.prog 8 #[.agg #[.string ⟨D.toArray⟩, u], .string s] w fun e w' => e = .returned (.bool true) ∧ Below w.heap.size w w' := by
  obtain ⟨s, rfl⟩ := bytes_list s
  rw [size_list] at hs
  have hl63 : maxLen = 9223372036854775807 := rfl
  rw [hl63] at hD hs
  have HU := Lib.hid hu
  have HFW := Lib.hid (fun w' hs => few_any N u 50 100 w' hs hN)
  have hb0 : Below w.heap.size w (w.alloc (.cells #[.string ⟨D.toArray⟩, u] 28)) := (Below.refl _ w).alloc (Nat.le_refl _) _
  have hrow := heap_new_at w (.cells #[.string ⟨D.toArray⟩, u] 28) w.heap.size rfl
  have HTA : Hid (∀ w', Below w.heap.size w w' → Tab w') := Lib.hid (fun w' h => hT.below h)
  obtain ⟨A, cap, rfl, -⟩ := hu
  have HW := Lib.hid (fun w h => cworks_any w h)
  have HB0 := Lib.hid hb0
  have HROW : Hid (∀ w', Below (w.heap.size + 1) (w.alloc (.cells #[.string ⟨D.toArray⟩, .slice A N.length cap] 28)) w' → w'.heap[w.heap.size]? = some (.cells #[.string ⟨D.toArray⟩, .slice A N.length cap] 28 (0, 0))) := Lib.hid (fun w' h => (h.block w.heap.size (Nat.lt_succ_self _)).trans hrow)
  have HBA : Hid (∀ w', Below (w.heap.size + 1) (w.alloc (.cells #[.string ⟨D.toArray⟩, .slice A N.length cap] 28)) w' → Below w.heap.size w w' ∧ w.heap.size + 1 ≤ w'.heap.size) := Lib.hid (fun w' h => ⟨hb0.trans (h.mono (Nat.le_succ _)), by have := h.size; simp at this; omega⟩)
  have HBZ : Hid (Below (w.heap.size + 1) (w.alloc (.cells #[.string ⟨D.toArray⟩, .slice A N.length cap] 28)) (w.alloc (.cells #[.string ⟨D.toArray⟩, .slice A N.length cap] 28))) := Lib.hid (Below.refl _ _)
  have HE := Lib.hid (fun w hs => cencode_any ⟨D, N⟩ (.slice A N.length cap) w hs)
  dsimp only at HE
  clear hb0 hT hl63 hN hrow
  cases hf : Code.few N 50 100 with
  | false =>
    rw [hf] at HFW
    clear hf
    go_enter Tryd.func8, Tryd.ntmps8
    go_wp2_with fail
    refine (HW.out _ (HTA.out _ HB0.out)).mono ?_
    rintro e w1 ⟨rfl, hb⟩
    have HB1 := Lib.hid (HBZ.out.trans (hb.mono (HBA.out _ HBZ.out).2))
    obtain ⟨g0, g1, -, -⟩ := cells2 (HROW.out _ HB1.out)
    clear hb
    go_wp2_with fail
    refine (HFW.out _ (HU.out.below (HBA.out _ HB1.out).1)).mono ?_
    rintro e w2 ⟨rfl, rfl⟩
    go_wp2
    go_ret
    exact ⟨rfl, (HBA.out _ HB1.out).1⟩
  | true =>
  rw [hf] at HFW
  have HFF := Lib.hid ((Code.few_iff N 50 100).1 hf)
  clear hf
  by_cases h5 : 500 < s.length
  · have h5' : (500 : Int) < (s.length : Int) := by omega
    go_enter Tryd.func8, Tryd.ntmps8
    go_wp2_with fail
    refine (HW.out _ (HTA.out _ HB0.out)).mono ?_
    rintro e w1 ⟨rfl, hb⟩
    have HB1 := Lib.hid (HBZ.out.trans (hb.mono (HBA.out _ HBZ.out).2))
    obtain ⟨g0, g1, -, -⟩ := cells2 (HROW.out _ HB1.out)
    clear hb
    go_wp2_with fail
    refine (HFW.out _ (HU.out.below (HBA.out _ HB1.out).1)).mono ?_
    rintro e w2 ⟨rfl, rfl⟩
    go_wp2
    go_ret
    exact ⟨rfl, (HBA.out _ HB1.out).1⟩
  have h5' : ¬ ((500 : Int) < (s.length : Int)) := by omega
  by_cases hd : 100 < D.length
  · have hd' : (100 : Int) < (D.length : Int) := by omega
    go_enter Tryd.func8, Tryd.ntmps8
    go_wp2_with fail
    refine (HW.out _ (HTA.out _ HB0.out)).mono ?_
    rintro e w1 ⟨rfl, hb⟩
    have HB1 := Lib.hid (HBZ.out.trans (hb.mono (HBA.out _ HBZ.out).2))
    obtain ⟨g0, g1, -, -⟩ := cells2 (HROW.out _ HB1.out)
    clear hb
    go_wp2_with fail
    refine (HFW.out _ (HU.out.below (HBA.out _ HB1.out).1)).mono ?_
    rintro e w2 ⟨rfl, rfl⟩
    go_wp2
    go_ret
    exact ⟨rfl, (HBA.out _ HB1.out).1⟩
  have hd' : ¬ ((100 : Int) < (D.length : Int)) := by omega
  have HDC := Lib.hid (fun w => cdecode_any s w (by omega))
  unfold CDecPost at HDC
  have hvl := Ct.decV_len' s
  have HFIN : Hid (Ct.may ⟨D, N⟩ = true → (Ct.encB ⟨D, N⟩).length ≤ 500 ∧ Ct.decC (Ct.encB ⟨D, N⟩) = 0 ∧ Ct.decV (Ct.encB ⟨D, N⟩) = ⟨D, N⟩) := Lib.hid (fun h => ⟨Ct.enc_len h, by rw [Ct.decC, if_pos (Ct.enc_dec h).1], (Ct.enc_dec h).2⟩)
  have HEC := Lib.hid (fun h => Ct.encV_len s h)
  have HNO : Hid (Ct.decOK s = false → Ct.decV s = ⟨[], []⟩ ∧ Ct.decC s = 3) := Lib.hid (fun h => ⟨by rw [Ct.decV, h]; rfl, by rw [Ct.decC, h]; rfl⟩)
  have HYES : Hid (Ct.decOK s = true → Ct.decC s = 0) := Lib.hid (fun h => by rw [Ct.decC, if_pos h])
  obtain ⟨V, hV⟩ : ∃ V, Ct.decV s = V := ⟨_, rfl⟩
  obtain ⟨J, hJ⟩ : ∃ J, Ct.decC s = J := ⟨_, rfl⟩
  rw [hV, hJ] at HDC HNO
  rw [hV] at HEC hvl
  rw [hJ] at HYES
  clear hV hJ hd h5
  cases hok : Ct.decOK s with
  | false =>
    obtain ⟨rfl, rfl⟩ := HNO.out hok
    clear hok HEC HNO HYES
    go_enter Tryd.func8, Tryd.ntmps8
    go_wp2_with fail
    refine (HW.out _ (HTA.out _ HB0.out)).mono ?_
    rintro e w1 ⟨rfl, hb⟩
    have HB1 := Lib.hid (HBZ.out.trans (hb.mono (HBA.out _ HBZ.out).2))
    obtain ⟨g0, g1, -, -⟩ := cells2 (HROW.out _ HB1.out)
    clear hb
    go_wp2_with fail
    refine (HFW.out _ (HU.out.below (HBA.out _ HB1.out).1)).mono ?_
    rintro e w2 ⟨rfl, hw⟩
    obtain rfl : w1 = w2 := hw.symm
    go_wp2_with fail
    refine (HDC.out _).mono ?_
    rintro e w3 ⟨z, rfl, hown, hb⟩
    have HB3 := Lib.hid (HB1.out.trans (hb.mono (HBA.out _ HB1.out).2))
    obtain ⟨Az, cz, rfl⟩ := own_form hown
    have HBk : Hid (Below (w.heap.size + 1) (w.alloc (.cells #[.string ⟨D.toArray⟩, .slice A N.length cap] 28)) (w3.alloc (.cells #[.string ⟨([] : List UInt8).toArray⟩, .slice Az ([] : List (List UInt8)).length cz] 28))) := Lib.hid (HB3.out.alloc (HBA.out _ HB3.out).2 _)
    obtain ⟨c0, c1, -, -⟩ := cells2 (heap_new_at w3 (.cells #[.string ⟨([] : List UInt8).toArray⟩, .slice Az ([] : List (List UInt8)).length cz] 28) w3.heap.size rfl)
    clear hb hown g0 g1
    obtain ⟨g0, g1, -, -⟩ := cells2 (HROW.out _ HBk.out)
    dsimp only [List.length_nil] at c0 c1 g0 g1 HBk ⊢
    cases hm : Ct.may ⟨D, N⟩ with
    | false =>
      have e1 : Ct.encL ⟨D, N⟩ = [] := by rw [Ct.encL, hm]; rfl
      have e2 : Ct.encC ⟨D, N⟩ = 3 := by rw [Ct.encC, hm]; rfl
      rw [e1, e2] at HE
      clear hm HFIN e1 e2
      go_wp2_with fail
      refine (HE.out _ (HU.out.below (HBA.out _ HBk.out).1)).mono ?_
      rintro e w5 ⟨rfl, hb⟩
      have HB5 := Lib.hid (HBk.out.trans (hb.mono (HBA.out _ HBk.out).2))
      go_wp2
      go_ret
      exact ⟨rfl, (HBA.out _ HB5.out).1⟩
    | true =>
      have e1 : Ct.encL ⟨D, N⟩ = Ct.encB ⟨D, N⟩ := by rw [Ct.encL, if_pos hm]
      have e2 : Ct.encC ⟨D, N⟩ = 0 := by rw [Ct.encC, if_pos hm]
      rw [e1, e2] at HE
      obtain ⟨f1, f2, f3⟩ := HFIN.out hm
      have HD2 := Lib.hid (fun w => cdecode_any (Ct.encB ⟨D, N⟩) w (by omega))
      unfold CDecPost at HD2
      rw [f2, f3] at HD2
      dsimp only at HD2
      obtain ⟨E, hE⟩ : ∃ E, Ct.encB ⟨D, N⟩ = E := ⟨_, rfl⟩
      rw [hE] at HD2 HE
      clear hm HFIN e1 e2 f1 f2 f3 hE
      go_wp2_with fail
      refine (HE.out _ (HU.out.below (HBA.out _ HBk.out).1)).mono ?_
      rintro e w5 ⟨rfl, hb⟩
      have HB5 := Lib.hid (HBk.out.trans (hb.mono (HBA.out _ HBk.out).2))
      clear hb
      go_wp2_with fail
      refine (HD2.out _).mono ?_
      rintro e w6 ⟨z6, rfl, hown6, hb⟩
      have HB6 := Lib.hid (HB5.out.trans (hb.mono (HBA.out _ HB5.out).2))
      obtain ⟨Ax, cx, rfl⟩ := own_form hown6
      have hb7 : Below w6.heap.size w6 (w6.alloc (.cells #[.string ⟨D.toArray⟩, .slice Ax N.length cx] 28)) := (Below.refl _ w6).alloc (Nat.le_refl _) _
      have HB7 := Lib.hid (HB6.out.trans (hb7.mono (HBA.out _ HB6.out).2))
      have HS7 := Lib.hid (hown6.below hb7).strs
      have HSM := Lib.hid (samecert_any ⟨D, N⟩ ⟨D, N⟩ _ _ _ HS7.out (HU.out.below (HBA.out _ HB7.out).1) (by have := HFF.out.1; dsimp only; omega) (by have := HFF.out.1; dsimp only; unfold maxLen; omega))
      rw [decide_eq_true rfl] at HSM
      dsimp only at HSM
      obtain ⟨d0, d1, -, -⟩ := cells2 (heap_new_at w6 (.cells #[.string ⟨D.toArray⟩, .slice Ax N.length cx] 28) w6.heap.size rfl)
      clear hb hb7 hown6 g0 g1
      obtain ⟨g0, g1, -, -⟩ := cells2 (HROW.out _ HB7.out)
      go_wp2_with fail
      refine HSM.out.mono ?_
      rintro e w8 ⟨rfl, hb⟩
      have HB8 := Lib.hid (HB7.out.trans (hb.mono (HBA.out _ HB7.out).2))
      go_wp2
      go_ret
      exact ⟨rfl, (HBA.out _ HB8.out).1⟩
  | true =>
    obtain rfl := HYES.out hok
    obtain ⟨q1, q2⟩ := HEC.out hok
    have HE2 := Lib.hid (fun z w hs => cencode_any V z w hs)
    rw [q1, q2] at HE2
    clear hok HEC HNO HYES q1 q2
    go_enter Tryd.func8, Tryd.ntmps8
    go_wp2_with fail
    refine (HW.out _ (HTA.out _ HB0.out)).mono ?_
    rintro e w1 ⟨rfl, hb⟩
    have HB1 := Lib.hid (HBZ.out.trans (hb.mono (HBA.out _ HBZ.out).2))
    obtain ⟨g0, g1, -, -⟩ := cells2 (HROW.out _ HB1.out)
    clear hb
    go_wp2_with fail
    refine (HFW.out _ (HU.out.below (HBA.out _ HB1.out).1)).mono ?_
    rintro e w2 ⟨rfl, hw⟩
    obtain rfl : w1 = w2 := hw.symm
    go_wp2_with fail
    refine (HDC.out _).mono ?_
    rintro e w3 ⟨z, rfl, hown, hb⟩
    have HB3 := Lib.hid (HB1.out.trans (hb.mono (HBA.out _ HB1.out).2))
    obtain ⟨Az, cz, rfl⟩ := own_form hown
    have hb4 : Below w3.heap.size w3 (w3.alloc (.cells #[.string ⟨V.dig.toArray⟩, .slice Az V.sig.length cz] 28)) := (Below.refl _ w3).alloc (Nat.le_refl _) _
    have HB4 := Lib.hid (HB3.out.trans (hb4.mono (HBA.out _ HB3.out).2))
    have HS4 := Lib.hid (hown.below hb4).strs
    obtain ⟨c0, c1, -, -⟩ := cells2 (heap_new_at w3 (.cells #[.string ⟨V.dig.toArray⟩, .slice Az V.sig.length cz] 28) w3.heap.size rfl)
    clear hb hb4 hown g0 g1
    go_wp2_with fail
    refine (HE2.out _ _ HS4.out).mono ?_
    rintro e wk ⟨rfl, hb⟩
    have HBk := Lib.hid (HB4.out.trans (hb.mono (HBA.out _ HB4.out).2))
    clear hb
    obtain ⟨g0, g1, -, -⟩ := cells2 (HROW.out _ HBk.out)
    cases hm : Ct.may ⟨D, N⟩ with
    | false =>
      have e1 : Ct.encL ⟨D, N⟩ = [] := by rw [Ct.encL, hm]; rfl
      have e2 : Ct.encC ⟨D, N⟩ = 3 := by rw [Ct.encC, hm]; rfl
      rw [e1, e2] at HE
      clear hm HFIN e1 e2
      go_wp2_with fail
      refine (HE.out _ (HU.out.below (HBA.out _ HBk.out).1)).mono ?_
      rintro e w5 ⟨rfl, hb⟩
      have HB5 := Lib.hid (HBk.out.trans (hb.mono (HBA.out _ HBk.out).2))
      go_wp2
      go_ret
      exact ⟨rfl, (HBA.out _ HB5.out).1⟩
    | true =>
      have e1 : Ct.encL ⟨D, N⟩ = Ct.encB ⟨D, N⟩ := by rw [Ct.encL, if_pos hm]
      have e2 : Ct.encC ⟨D, N⟩ = 0 := by rw [Ct.encC, if_pos hm]
      rw [e1, e2] at HE
      obtain ⟨f1, f2, f3⟩ := HFIN.out hm
      have HD2 := Lib.hid (fun w => cdecode_any (Ct.encB ⟨D, N⟩) w (by omega))
      unfold CDecPost at HD2
      rw [f2, f3] at HD2
      dsimp only at HD2
      obtain ⟨E, hE⟩ : ∃ E, Ct.encB ⟨D, N⟩ = E := ⟨_, rfl⟩
      rw [hE] at HD2 HE
      clear hm HFIN e1 e2 f1 f2 f3 hE
      go_wp2_with fail
      refine (HE.out _ (HU.out.below (HBA.out _ HBk.out).1)).mono ?_
      rintro e w5 ⟨rfl, hb⟩
      have HB5 := Lib.hid (HBk.out.trans (hb.mono (HBA.out _ HBk.out).2))
      clear hb
      go_wp2_with fail
      refine (HD2.out _).mono ?_
      rintro e w6 ⟨z6, rfl, hown6, hb⟩
      have HB6 := Lib.hid (HB5.out.trans (hb.mono (HBA.out _ HB5.out).2))
      obtain ⟨Ax, cx, rfl⟩ := own_form hown6
      have hb7 : Below w6.heap.size w6 (w6.alloc (.cells #[.string ⟨D.toArray⟩, .slice Ax N.length cx] 28)) := (Below.refl _ w6).alloc (Nat.le_refl _) _
      have HB7 := Lib.hid (HB6.out.trans (hb7.mono (HBA.out _ HB6.out).2))
      have HS7 := Lib.hid (hown6.below hb7).strs
      have HSM := Lib.hid (samecert_any ⟨D, N⟩ ⟨D, N⟩ _ _ _ HS7.out (HU.out.below (HBA.out _ HB7.out).1) (by have := HFF.out.1; dsimp only; omega) (by have := HFF.out.1; dsimp only; unfold maxLen; omega))
      rw [decide_eq_true rfl] at HSM
      dsimp only at HSM
      obtain ⟨d0, d1, -, -⟩ := cells2 (heap_new_at w6 (.cells #[.string ⟨D.toArray⟩, .slice Ax N.length cx] 28) w6.heap.size rfl)
      clear hb hb7 hown6 g0 g1
      obtain ⟨g0, g1, -, -⟩ := cells2 (HROW.out _ HB7.out)
      go_wp2_with fail
      refine HSM.out.mono ?_
      rintro e w8 ⟨rfl, hb⟩
      have HB8 := Lib.hid (HB7.out.trans (hb.mono (HBA.out _ HB7.out).2))
      go_wp2
      go_ret
      exact ⟨rfl, (HBA.out _ HB8.out).1⟩
end Go.Proofs.YtojpkodmpjibkaaDoor
