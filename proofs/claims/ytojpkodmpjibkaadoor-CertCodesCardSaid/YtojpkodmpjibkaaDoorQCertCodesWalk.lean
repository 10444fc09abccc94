/- The walk of the law CertCodes: it answers true, whatever it is given. -/
import Derived.Test.YtojpkodmpjibkaaDoorPk11
import Derived.Test.YtojpkodmpjibkaaDoorPk12
namespace Go.Proofs.YtojpkodmpjibkaaDoor
open Go.RowKit Go.ChangeShapes Go.WideShapes
open Go.Proofs.YtojpkodmpjibkaaDoor.Ct (C)

theorem Ct.decV_len (s : List UInt8) : (Ct.decV s).sig.length ≤ 7 := by
  unfold Ct.decV
  split
  · have := Code.listR_len 7 6 (s.drop 32) (by decide)
    exact Int.ofNat_le.1 this
  · simp

set_option maxRecDepth 100000 in
set_option maxHeartbeats 2000000 in
theorem ccodes_walk (D : List UInt8) (u : Value) (N : List (List UInt8)) (s : ByteArray) (w : World) (hD : D.length ≤ maxLen) (hu : Strs w u N) (hN : N.length ≤ maxLen) (hs : s.size ≤ maxLen) (hT : Tab w) :
    Calls Tryd.prog 4 #[.agg #[.string ⟨D.toArray⟩, u], .string s] w fun e w' => e = .returned (.bool true) ∧ Below w.heap.size w w' := by
  obtain ⟨s, rfl⟩ := bytes_list s
  rw [size_list] at hs
  have hl63 : maxLen = 9223372036854775807 := rfl
  rw [hl63] at hD hs
  have HU := Lib.hid hu
  have HFW := Lib.hid (fun w' hs => few_any N u 50 100 w' hs hN)
  have hb0 : Below w.heap.size w (w.alloc (.cells #[.string ⟨D.toArray⟩, u] 28)) := (Below.refl _ w).alloc (Nat.le_refl _) _
  have hrow := heap_new_at w (.cells #[.string ⟨D.toArray⟩, u] 28) w.heap.size rfl
  have HU0 := Lib.hid (hu.below hb0)
  have HTA : Hid (∀ w', Below w.heap.size w w' → Tab w') := Lib.hid (fun w' h => hT.below h)
  obtain ⟨A, cap, rfl, -⟩ := hu
  obtain ⟨g0, g1, -, -⟩ := cells2 hrow
  have HW := Lib.hid (fun w h => cworks_any w h)
  have HB0 := Lib.hid hb0
  clear hb0 hT hl63 hN
  cases hf : Code.few N 50 100 with
  | false =>
    rw [hf] at HFW
    clear hf hrow
    go_enter Tryd.func4, Tryd.ntmps4
    go_wp2_with fail
    refine (HFW.out _ HU0.out).mono ?_
    rintro e w1 ⟨rfl, rfl⟩
    go_wp2_with fail
    refine (HW.out _ (HTA.out _ HB0.out)).mono ?_
    rintro e w2 ⟨rfl, hb⟩
    go_wp2
    go_ret
    exact ⟨rfl, bchain HB0.out hb⟩
  | true =>
    rw [hf] at HFW
    have HFF := Lib.hid ((Code.few_iff N 50 100).1 hf)
    clear hf
    by_cases hd : 100 < D.length
    · have hd' : (100 : Int) < (D.length : Int) := by omega
      clear hrow
      go_enter Tryd.func4, Tryd.ntmps4
      go_wp2_with fail
      refine (HFW.out _ HU0.out).mono ?_
      rintro e w1 ⟨rfl, rfl⟩
      go_wp2_with fail
      refine (HW.out _ (HTA.out _ HB0.out)).mono ?_
      rintro e w2 ⟨rfl, hb⟩
      go_wp2
      go_ret
      exact ⟨rfl, bchain HB0.out hb⟩
    have hd' : ¬ ((100 : Int) < (D.length : Int)) := by omega
    by_cases h5 : 500 < s.length
    · have h5' : (500 : Int) < (s.length : Int) := by omega
      clear hrow
      go_enter Tryd.func4, Tryd.ntmps4
      go_wp2_with fail
      refine (HFW.out _ HU0.out).mono ?_
      rintro e w1 ⟨rfl, rfl⟩
      go_wp2_with fail
      refine (HW.out _ (HTA.out _ HB0.out)).mono ?_
      rintro e w2 ⟨rfl, hb⟩
      go_wp2
      go_ret
      exact ⟨rfl, bchain HB0.out hb⟩
    have h5' : ¬ ((500 : Int) < (s.length : Int)) := by omega
    have HE := Lib.hid (fun w hs => cencode_any ⟨D, N⟩ (.slice A N.length cap) w hs)
    have HRE := Lib.hid (fun w hs => rEncodeC_any ⟨D, N⟩ (.slice A N.length cap) w hs (by have := HFF.out.1; dsimp only; omega))
    have HD := Lib.hid (fun w => cdecode_any s w (by omega))
    have HRD := Lib.hid (fun w => rDecodeC_any s w (by omega))
    unfold CDecPost at HD HRD
    dsimp only at HE HRE
    have hvl := Ct.decV_len s
    obtain ⟨E, hE⟩ : ∃ E, Ct.encL ⟨D, N⟩ = E := ⟨_, rfl⟩
    obtain ⟨K, hK⟩ : ∃ K, Ct.encC ⟨D, N⟩ = K := ⟨_, rfl⟩
    obtain ⟨V, hV⟩ : ∃ V, Ct.decV s = V := ⟨_, rfl⟩
    obtain ⟨J, hJ⟩ : ∃ J, Ct.decC s = J := ⟨_, rfl⟩
    rw [hE, hK] at HE HRE
    rw [hV, hJ] at HD HRD
    rw [hV] at hvl
    have HROW : Hid (∀ w', Below (w.heap.size + 1) (w.alloc (.cells #[.string ⟨D.toArray⟩, .slice A N.length cap] 28)) w' → w'.heap[w.heap.size]? = some (.cells #[.string ⟨D.toArray⟩, .slice A N.length cap] 28 (0, 0))) := Lib.hid (fun w' h => (h.block w.heap.size (Nat.lt_succ_self _)).trans hrow)
    have HBA : Hid (∀ w', Below (w.heap.size + 1) (w.alloc (.cells #[.string ⟨D.toArray⟩, .slice A N.length cap] 28)) w' → Below w.heap.size w w' ∧ w.heap.size + 1 ≤ w'.heap.size) := Lib.hid (fun w' h => ⟨HB0.out.trans (h.mono (Nat.le_succ _)), by have := h.size; simp at this; omega⟩)
    clear hE hK hV hJ hrow hd h5
    go_enter Tryd.func4, Tryd.ntmps4
    go_wp2_with fail
    refine (HFW.out _ HU0.out).mono ?_
    rintro e w1 ⟨rfl, rfl⟩
    go_wp2_with fail
    refine (HE.out _ HU0.out).mono ?_
    rintro e w2 ⟨rfl, hb⟩
    have HB2 : Hid (Below (w.heap.size + 1) (w.alloc (.cells #[.string ⟨D.toArray⟩, .slice A N.length cap] 28)) w2) := Lib.hid (hb.mono (by simp))
    clear hb g0 g1
    obtain ⟨g0, g1, -, -⟩ := cells2 (HROW.out _ HB2.out)
    go_wp2_with fail
    refine (HRE.out _ (HU.out.below (HBA.out _ HB2.out).1)).mono ?_
    rintro e w3 ⟨rfl, hb⟩
    have HB3 := Lib.hid (HB2.out.trans (hb.mono (HBA.out _ HB2.out).2))
    clear hb g0 g1
    go_wp2_with fail
    refine (HD.out _).mono ?_
    rintro e w4 ⟨z, rfl, hown, hb⟩
    have HB4 := Lib.hid (HB3.out.trans (hb.mono (HBA.out _ HB3.out).2))
    have HZ := Lib.hid hown.strs
    obtain ⟨Az, cz, rfl⟩ := own_form hown
    have HB5 : Hid (Below (w.heap.size + 1) (w.alloc (.cells #[.string ⟨D.toArray⟩, .slice A N.length cap] 28)) (w4.alloc (.cells #[.string ⟨V.dig.toArray⟩, .slice Az V.sig.length cz] 28))) := Lib.hid (HB4.out.alloc (HBA.out _ HB4.out).2 _)
    have HW5 : Hid (Below w4.heap.size w4 (w4.alloc (.cells #[.string ⟨V.dig.toArray⟩, .slice Az V.sig.length cz] 28))) := Lib.hid ((Below.refl _ w4).alloc (Nat.le_refl _) _)
    have HC5 := Lib.hid (heap_new_at w4 (.cells #[.string ⟨V.dig.toArray⟩, .slice Az V.sig.length cz] 28) w4.heap.size rfl)
    clear hb hown
    go_wp2_with fail
    refine (HRD.out _).mono ?_
    rintro e w6 ⟨z2, rfl, hown, hb⟩
    have HB6 := Lib.hid (HB5.out.trans (hb.mono (HBA.out _ HB5.out).2))
    obtain ⟨Ay, cy, rfl⟩ := own_form hown
    have hb7 : Below w6.heap.size w6 (w6.alloc (.cells #[.string ⟨V.dig.toArray⟩, .slice Ay V.sig.length cy] 28)) := (Below.refl _ w6).alloc (Nat.le_refl _) _
    have HB7 := Lib.hid (HB6.out.trans (hb7.mono (HBA.out _ HB6.out).2))
    have HY7 := Lib.hid (hown.below hb7).strs
    have HZ7 := Lib.hid (((HZ.out.below HW5.out).below hb).below hb7)
    obtain ⟨d0, d1, -, -⟩ := cells2 (heap_new_at w6 (.cells #[.string ⟨V.dig.toArray⟩, .slice Ay V.sig.length cy] 28) w6.heap.size rfl)
    obtain ⟨c0, c1, -, -⟩ := cells2 (heap_old_at (.cells #[.string ⟨V.dig.toArray⟩, .slice Ay V.sig.length cy] 28) ((hb.block _ (lt_of_heap HC5.out)).trans HC5.out))
    have HSM := Lib.hid (samecert_any V V _ _ _ HZ7.out HY7.out (by omega) (by unfold maxLen; omega))
    rw [decide_eq_true rfl] at HSM
    clear hb hb7 hown
    go_wp2_with fail
    refine HSM.out.mono ?_
    rintro e w8 ⟨rfl, hb⟩
    have HB8 := Lib.hid (HB7.out.trans (hb.mono (HBA.out _ HB7.out).2))
    clear hb
    go_wp2_with fail
    refine (HW.out _ (HTA.out _ (HBA.out _ HB8.out).1)).mono ?_
    rintro e w9 ⟨rfl, hb⟩
    go_wp2
    go_ret
    exact ⟨rfl, bchain (HBA.out _ HB8.out).1 hb⟩
end Go.Proofs.YtojpkodmpjibkaaDoor
