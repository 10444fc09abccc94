/- The law NodeBack, walked. -/
import Derived.Test.YtjbagjhadmbjnaaDoorPk05
import Derived.Test.YtjbagjhadmbjnaaDoorPk10
import Derived.Test.YtjbagjhadmbjnaaDoorPk09
namespace Go.Proofs.YtjbagjhadmbjnaaDoor
open Go.RowKit
open Go.Proofs.YtjbagjhadmbjnaaDoor.Nd (N)

theorem Nd.enc_of (n : N) : (Nd.encC n = 80 ∧ Nd.fine n = false ∧ Nd.encS n = []) ∨ (Nd.encC n = 0 ∧ Nd.fine n = true ∧ Nd.encS n = Nd.written n) := by
  unfold Nd.encC Nd.encS
  cases h : Nd.fine n with
  | false => exact Or.inl ⟨if_neg (by decide), rfl, if_neg (by decide)⟩
  | true => exact Or.inr ⟨if_pos rfl, rfl, if_pos rfl⟩
set_option maxRecDepth 100000 in
set_option maxHeartbeats 8000000 in
theorem nodeBack_walk (n : N) (s more : List UInt8) (w : World) (hn : n.kids.length = 16) (hTab : Tab w) :
    Calls Tryd.prog 4 #[nval n, .string ⟨s.toArray⟩, .string ⟨more.toArray⟩] w fun e w' => e = .returned (.bool true) ∧ Below w.heap.size w w' := by
  have HBn := Lib.hid (fun w => nbig_any n w hn)
  have HEn := Lib.hid (fun w => nencode_any n w hn)
  have HFn := Lib.hid (Nd.enc_of n)
  have HCn : Hid (∀ w, Nd.fine n = false → Calls Tryd.prog 11 #[nval n] w fun e w' => e = .returned (.int .i64 80) ∧ Below w.heap.size w w') := Lib.hid (fun w h => by have := ncheck_any n w hn; rw [h] at this; exact this)
  have HGn : Hid (∀ w, Tab w → Nd.fine n = false → Calls Tryd.prog 16 #[nval n] w fun e w' => e = .returned (.string ⟨#[]⟩) ∧ Below w.heap.size w w') := Lib.hid (fun w hT h => by have := ndigest_any n w hn hT; unfold Nd.sumS at this; rw [h] at this; exact this)
  have HDt : Hid (∀ w, Nd.fine n = true → Calls Tryd.prog 18 #[.string ⟨(Nd.written n).toArray⟩] w fun e w' => e = .returned (.tuple #[nval n, .int .i64 0]) ∧ Below w.heap.size w w') := Lib.hid (fun w h => by have := ndecode_any (Nd.written n) w (by have := Nd.written_most n hn h; omega); unfold NDecPost at this; rw [Nd.dec_written n hn h] at this; exact this)
  have HDc : Hid (∀ w, Nd.fine n = true → Calls Tryd.prog 18 #[.string ⟨((Nd.written n).take ((Nd.written n).length - 1)).toArray⟩] w fun e w' => e = .returned (.tuple #[nval Nd.zero, .int .i64 80]) ∧ Below w.heap.size w w') := Lib.hid (fun w h => by have := ndecode_any ((Nd.written n).take ((Nd.written n).length - 1)) w (by have := Nd.written_most n hn h; rw [List.length_take]; omega); unfold NDecPost at this; rw [Nd.dec_cut n hn h] at this; exact this)
  have HBZ : Hid (Tryd.prog.built 24 [] = some (ncl Nd.zero).toArray) := Lib.hid (by rfl)
  have heq : ∀ w, (Op.equalIn 10000 24 (nval n) (nval n)).run Tryd.prog w = .ok true w := fun w => by
    have := eq_nodes n n w hn hn
    rw [decide_eq_true (rfl : n = n)] at this
    exact this
  have heqz : ∀ w, (Op.equalIn 10000 24 (nval Nd.zero) (nval Nd.zero)).run Tryd.prog w = .ok true w := fun w => by
    have := eq_nodes Nd.zero Nd.zero w rfl rfl
    rw [decide_eq_true (rfl : Nd.zero = Nd.zero)] at this
    exact this
  obtain ⟨T, hT⟩ : ∃ T, Nd.encS n = T := ⟨_, rfl⟩
  obtain ⟨cn, hcn⟩ : ∃ c, Nd.encC n = c := ⟨_, rfl⟩
  rw [hT, hcn] at HEn HFn
  have hsn : (ncl n).toArray.size = 19 := by rw [List.size_toArray, ncl_length n hn]
  have HSn := Lib.hid hsn
  have HIn : Hid ((Tryd.prog.info? 24).map (·.size) = some (ncl n).toArray.size) := Lib.hid (by rw [hsn]; kernel_rfl)
  have HOn := Lib.hid (ncl_one n)
  have HSz : Hid ((ncl Nd.zero).toArray.size = 19) := Lib.hid rfl
  have HIz : Hid ((Tryd.prog.info? 24).map (·.size) = some (ncl Nd.zero).toArray.size) := Lib.hid (by kernel_rfl)
  have HOz := Lib.hid (ncl_one Nd.zero)
  have HD0 := Lib.hid (fun w h => ndecode_any s w h)
  unfold NDecPost at HD0
  have HIS := Lib.hid (Nd.dec_is s)
  have HDm : Hid (∀ w, Nd.fine n = true → more ≠ [] → more.length ≤ 100 → Calls Tryd.prog 18 #[.string ⟨(Nd.written n ++ more).toArray⟩] w fun e w' => e = .returned (.tuple #[nval Nd.zero, .int .i64 80]) ∧ Below w.heap.size w w') := Lib.hid (fun w h hmo hml => by have := ndecode_any (Nd.written n ++ more) w (by have := Nd.written_most n hn h; rw [List.length_append]; omega); unfold NDecPost at this; rw [Nd.dec_more n more hn h hmo] at this; exact this)
  have HEM := Lib.hid (fun (m : N) w (h : m.kids.length = 16) => nencode_any m w h)
  have HCM := Lib.hid (fun (m : N) w (h : m.kids.length = 16) => ncheck_any m w h)
  unfold nval at HBn HEn HCn HGn HDt HDc HDm heq heqz HD0 HEM HCM ⊢
  obtain ⟨Z, hZ⟩ : ∃ A, (ncl Nd.zero).toArray = A := ⟨_, rfl⟩
  have HZQ := Lib.hid hZ
  rw [hZ] at HDc HDm HBZ heqz HSz HIz HOz
  obtain ⟨A, hA⟩ : ∃ A, (ncl n).toArray = A := ⟨_, rfl⟩
  rw [hA] at HBn HEn HCn HGn HDt heq HSn HIn HOn ⊢
  have HRn : Hid (∀ w', Below (w.alloc (.cells A 24)).heap.size (w.alloc (.cells A 24)) w' → w'.heap[w.heap.size]? = some (.cells A 24 (0, 0)) ∧ Below w.heap.size w w' ∧ Tab w') := Lib.hid (fun w' h => by
    have h1 : (w.alloc (.cells A 24)).heap[w.heap.size]? = some (.cells A 24 (0, 0)) := heap_new_at w _ _ rfl
    have h3 : Below w.heap.size w (w.alloc (.cells A 24)) := (Below.refl _ w).alloc (Nat.le_refl _) _
    exact ⟨(h.block _ (lt_of_heap h1)).trans h1, bchain h3 h, hTab.below (bchain h3 h)⟩)
  clear hA hZ hsn hT hcn hTab
  go_enter Tryd.func4, Tryd.ntmps4
  go_wp2_with fail
  generalize (w.alloc (.cells A 24)) = w0 at *
  refine (nworks_any _).mono ?_
  rintro e w1 ⟨rfl, hb1⟩
  have HX1 := Lib.hid hb1
  have R1 := HRn.out _ hb1
  clear hb1
  go_wp2_with (refine wpList_load_row (by rfl) _ _ (by rfl) w.heap.size (by rfl) _ A _ _ R1.1 Tryd.underlying24 (by rfl) HIn.out ?_)
  refine (HBn.out _).mono ?_
  rintro e w2 ⟨rfl, hb2⟩
  have HX2 := Lib.hid (bchain HX1.out hb2)
  have R2 := HRn.out _ HX2.out
  clear hb2 R1
  cases hbn : Nd.bigB n with
  | true =>
    clear hbn
    go_wp2
    go_ret
    exact ⟨rfl, R2.2.1⟩
  | false =>
  clear hbn
  by_cases hs : s.length ≤ 2000
  case neg =>
    have hs1 : (2000 : Int) < (s.length : Int) := by omega
    clear hs
    go_wp2
    go_ret
    exact ⟨rfl, R2.2.1⟩
  have hs1 : ¬ ((2000 : Int) < (s.length : Int)) := by omega
  by_cases hml : more.length ≤ 100
  case neg =>
    have hm1 : (100 : Int) < (more.length : Int) := by omega
    clear hml hs
    go_wp2
    go_ret
    exact ⟨rfl, R2.2.1⟩
  have hm1 : ¬ ((100 : Int) < (more.length : Int)) := by omega
  have HDmm : Hid (∀ w, Nd.fine n = true → more ≠ [] → Calls Tryd.prog 18 #[.string ⟨(Nd.written n ++ more).toArray⟩] w fun e w' => e = .returned (.tuple #[.agg Z, .int .i64 80]) ∧ Below w.heap.size w w') := Lib.hid (fun w h hmo => HDm.out w h hmo hml)
  have HD00 := Lib.hid (fun w => HD0.out w (by omega))
  clear HDm HD0
  have HDm := HDmm
  clear HDmm
  obtain ⟨⟨m, c⟩, hmc⟩ : ∃ P, Nd.dec s = P := ⟨_, rfl⟩
  rw [hmc] at HD00 HIS
  dsimp only at HD00
  rcases HIS.out with ⟨rfl, hmf, hmk, hmw⟩ | ⟨rfl, rfl, -⟩
  · have HEm : Hid (∀ w, Calls Tryd.prog 8 #[.agg (ncl m).toArray] w fun e w' => e = .returned (.tuple #[.string ⟨s.toArray⟩, .int .i64 0]) ∧ Below w.heap.size w w') := Lib.hid (fun w => by
      have := HEM.out m w hmk
      rcases Nd.enc_of m with ⟨_, h, _⟩ | ⟨h1, _, h3⟩
      · rw [hmf] at h; cases h
      · simp only at hmw
        rw [h1, h3, hmw] at this
        exact this)
    have HCm : Hid (∀ w, Calls Tryd.prog 11 #[.agg (ncl m).toArray] w fun e w' => e = .returned (.int .i64 0) ∧ Below w.heap.size w w') := Lib.hid (fun w => by
      have := HCM.out m w hmk
      simp only at hmf
      rw [hmf] at this
      exact this)
    have hsm : (ncl m).toArray.size = 19 := by rw [List.size_toArray, ncl_length m hmk]
    have HSm := Lib.hid hsm
    have HIm : Hid ((Tryd.prog.info? 24).map (·.size) = some (ncl m).toArray.size) := Lib.hid (by rw [hsm]; kernel_rfl)
    have HOm := Lib.hid (ncl_one m)
    obtain ⟨M, hM⟩ : ∃ A, (ncl m).toArray = A := ⟨_, rfl⟩
    rw [hM] at HD00 HEm HCm HSm HIm HOm
    clear hM hsm hmf hmk hmw hmc HIS hs
    go_wp2_with fail
    refine (HD00.out _).mono ?_
    rintro e w4 ⟨rfl, hb4⟩
    have HXM : Hid (Below w0.heap.size w0 (w4.alloc (.cells M 24))) := Lib.hid (bchain (bchain HX2.out hb4) ((Below.refl _ w4).alloc (Nat.le_refl _) _))
    have HM1 : Hid (∀ w', Below (w4.alloc (.cells M 24)).heap.size (w4.alloc (.cells M 24)) w' → w'.heap[w4.heap.size]? = some (.cells M 24 (0, 0))) := Lib.hid (fun w' h => (h.block _ (by simp)).trans (heap_new_at w4 _ _ rfl))
    have HM0 := Lib.hid (HM1.out _ (Below.refl _ _))
    clear hb4 R2
    go_wp2_with (first | (refine wpList_store_fresh (by rfl) _ _ _ (by rfl) w4.heap.size rfl M (by rfl) (by rfl) _ _ HIm.out HSm.out.symm HOm.out ?_) | (refine wpList_load_row (by rfl) _ _ (by rfl) w4.heap.size (by rfl) _ M _ _ HM0.out Tryd.underlying24 (by rfl) HIm.out ?_))
    refine (HEm.out _).mono ?_
    rintro e w5 ⟨rfl, hb5⟩
    have HB5 := Lib.hid hb5
    have HM5 := Lib.hid (HM1.out _ hb5)
    clear hb5
    go_wp2_with (refine wpList_load_row_w (by rfl) _ _ (by rfl) w4.heap.size (by rfl) _ M _ _ HM5.out Tryd.underlying24 (by rfl) HIm.out ?_)
    refine (HCm.out _).mono ?_
    rintro e w6 ⟨rfl, hb6⟩
    have HX0 := Lib.hid (bchain (bchain HXM.out HB5.out) hb6)
    have R0 := HRn.out _ HX0.out
    clear hb6
    go_wp2_with (refine wpList_load_row (by rfl) _ _ (by rfl) w.heap.size (by rfl) _ A _ _ R0.1 Tryd.underlying24 (by rfl) HIn.out ?_)
    refine (HEn.out _).mono ?_
    rintro e w10 ⟨rfl, hb10⟩
    have HXA := Lib.hid (bchain HX0.out hb10)
    have RA := HRn.out _ HXA.out
    clear hb10 R0
    rcases HFn.out with ⟨rfl, hnf, rfl⟩ | ⟨rfl, hfn, hT⟩
    · have HCK := Lib.hid (fun w => HCn.out w hnf)
      have HDG := Lib.hid (fun w h => HGn.out w h hnf)
      clear hnf
      go_wp2_with (refine wpList_load_row_w (by rfl) _ _ (by rfl) w.heap.size (by rfl) _ A _ _ RA.1 Tryd.underlying24 (by rfl) HIn.out ?_)
      refine (HCK.out _).mono ?_
      rintro e w11 ⟨rfl, hb11⟩
      have HXB := Lib.hid (bchain HXA.out hb11)
      have RB := HRn.out _ HXB.out
      clear hb11 RA
      go_wp2_with (refine wpList_load_row_w (by rfl) _ _ (by rfl) w.heap.size (by rfl) _ A _ _ RB.1 Tryd.underlying24 (by rfl) HIn.out ?_)
      refine (HDG.out _ RB.2.2).mono ?_
      rintro e w12 ⟨rfl, hb12⟩
      have RC := HRn.out _ (bchain HXB.out hb12)
      go_wp2
      go_ret
      exact ⟨rfl, RC.2.1⟩
    have HD1 := Lib.hid (fun w => HDt.out w hfn)
    have HD2 := Lib.hid (fun w => HDc.out w hfn)
    have hl1 := Nd.written_most n hn hfn
    have hl0 := Nd.written_len n
    have hex := ext_take (Nd.written n) ((Nd.written n).length - 1)
    have hcat := cat_mk (Nd.written n) more
    have HDD3 := Lib.hid (fun w => HDm.out w hfn)
    rw [← hT] at HD1 HD2 HDD3 hl1 hl0 hex hcat
    have hl2 : (T.length : Int) ≤ 700 := by omega
    have hl3 : (1 : Int) ≤ (T.length : Int) := by omega
    have hl4 : (more.length : Int) ≤ 100 := by omega
    have hl5 : (T.length : Int) - 1 = ((T.length - 1 : Nat) : Int) := by omega
    have hl6 : ((T.length - 1 : Nat) : Int) ≤ (T.length : Int) := by omega
    have hcl : (T ++ more).length ≤ 800 := by rw [List.length_append]; omega
    clear hT hfn hl1 hl0 HFn HCn HGn HDt HDc HDm
    obtain ⟨U, hU⟩ : ∃ U, T.take (T.length - 1) = U := ⟨_, rfl⟩
    rw [hU] at HD2 hex
    obtain ⟨j, hj⟩ : ∃ j, T.length - 1 = j := ⟨_, rfl⟩
    rw [hj] at hex hl5 hl6
    clear hU hj
    go_wp2_with fail
    refine (HD1.out _).mono ?_
    rintro e w13 ⟨rfl, hb13⟩
    have HXB : Hid (Below w0.heap.size w0 (w13.alloc (.cells A 24))) := Lib.hid (bchain (bchain HXA.out hb13) ((Below.refl _ w13).alloc (Nat.le_refl _) _))
    have HN1 : Hid (∀ w', Below (w13.alloc (.cells A 24)).heap.size (w13.alloc (.cells A 24)) w' → w'.heap[w13.heap.size]? = some (.cells A 24 (0, 0))) := Lib.hid (fun w' h => (h.block _ (by simp)).trans (heap_new_at w13 _ _ rfl))
    clear hb13 RA
    go_wp2_with (refine wpList_store_fresh (by rfl) _ _ _ (by rfl) w13.heap.size rfl A (by rfl) (by rfl) _ _ HIn.out HSn.out.symm HOn.out ?_)
    refine (HD2.out _).mono ?_
    rintro e w14 ⟨rfl, hb14⟩
    have HB14 := Lib.hid hb14
    clear hb14
    by_cases hmo : more = []
    · subst hmo
      rw [List.append_nil] at hcat hcl
      have HD3 := HD1
      clear HDD3
      go_wp2_with (refine wpList_store_fresh (by rfl) _ _ _ (by rfl) w14.heap.size rfl Z (by rfl) (by rfl) _ _ HIz.out HSz.out.symm HOz.out ?_)
      refine (HD3.out _).mono ?_
      rintro e w15 ⟨rfl, hb15⟩
      have hbz : Below (w13.alloc (.cells A 24)).heap.size (w13.alloc (.cells A 24)) (w15.alloc (.cells A 24)) := bchain (bchain (HB14.out.alloc HB14.out.size (.cells Z 24)) hb15) ((Below.refl _ w15).alloc (Nat.le_refl _) _)
      have HNW := Lib.hid (HN1.out _ hbz)
      have RZ := HRn.out _ (bchain HXB.out hbz)
      clear hb15 hbz
      go_wp2_with (first | (refine wpList_store_fresh (by rfl) _ _ _ (by rfl) w15.heap.size rfl A (by rfl) (by rfl) _ _ HIn.out HSn.out.symm HOn.out ?_) | (refine wpList_load_row (by rfl) _ _ (by rfl) w13.heap.size (by rfl) _ A _ _ HNW.out Tryd.underlying24 (by rfl) HIn.out ?_) | (refine wpList_load_row (by rfl) _ _ (by rfl) w.heap.size (by rfl) _ A _ _ RZ.1 Tryd.underlying24 (by rfl) HIn.out ?_))
      go_ret
      exact ⟨rfl, RZ.2.1⟩
    · have HD3 := Lib.hid (fun w => HDD3.out w hmo)
      have hmo1 : (more == []) = false := by rw [beq_eq_false_iff_ne]; exact hmo
      obtain ⟨Y, hY⟩ : ∃ U, T ++ more = U := ⟨_, rfl⟩
      rw [hY] at HD3 hcat hcl
      clear HDD3 hY hmo
      go_wp2_with (refine wpList_store_fresh (by rfl) _ _ _ (by rfl) w14.heap.size rfl Z (by rfl) (by rfl) _ _ HIz.out HSz.out.symm HOz.out ?_)
      refine (HD3.out _).mono ?_
      rintro e w15 ⟨rfl, hb15⟩
      have hbz : Below (w13.alloc (.cells A 24)).heap.size (w13.alloc (.cells A 24)) (w15.alloc (.cells Z 24)) := bchain (bchain (HB14.out.alloc HB14.out.size (.cells Z 24)) hb15) ((Below.refl _ w15).alloc (Nat.le_refl _) _)
      have HNW := Lib.hid (HN1.out _ hbz)
      have RZ := HRn.out _ (bchain HXB.out hbz)
      clear hb15 hbz
      go_wp2_with (first | (refine wpList_store_fresh (by rfl) _ _ _ (by rfl) w15.heap.size rfl Z (by rfl) (by rfl) _ _ HIz.out HSz.out.symm HOz.out ?_) | (refine wpList_load_row (by rfl) _ _ (by rfl) w13.heap.size (by rfl) _ A _ _ HNW.out Tryd.underlying24 (by rfl) HIn.out ?_) | (refine wpList_load_row (by rfl) _ _ (by rfl) w.heap.size (by rfl) _ A _ _ RZ.1 Tryd.underlying24 (by rfl) HIn.out ?_))
      go_ret
      exact ⟨rfl, RZ.2.1⟩
  · rw [HZQ.out] at HD00
    clear hmc HIS hs
    go_wp2_with fail
    refine (HD00.out _).mono ?_
    rintro e w4 ⟨rfl, hb4⟩
    have HX0 : Hid (Below w0.heap.size w0 (w4.alloc (.cells Z 24))) := Lib.hid (bchain (bchain HX2.out hb4) ((Below.refl _ w4).alloc (Nat.le_refl _) _))
    have HM0 : Hid ((w4.alloc (.cells Z 24)).heap[w4.heap.size]? = some (.cells Z 24 (0, 0))) := Lib.hid (heap_new_at w4 _ _ rfl)
    have R0 := HRn.out _ HX0.out
    clear hb4 R2
    go_wp2_with (first | (refine wpList_store_fresh (by rfl) _ _ _ (by rfl) w4.heap.size rfl Z (by rfl) (by rfl) _ _ HIz.out HSz.out.symm HOz.out ?_) | (refine wpList_load_row_w (by rfl) _ _ (by rfl) w4.heap.size (by rfl) _ Z _ _ HM0.out Tryd.underlying24 (by rfl) HIz.out ?_) | (refine wpList_build_w (by rfl) _ _ (by rfl) [] (by first | rfl | (simp [Act.eval]; done) | kernel_rfl) Z HBZ.out ?_) | (refine wpList_load_row (by rfl) _ _ (by rfl) w.heap.size (by rfl) _ A _ _ R0.1 Tryd.underlying24 (by rfl) HIn.out ?_))
    refine (HEn.out _).mono ?_
    rintro e w10 ⟨rfl, hb10⟩
    have HXA := Lib.hid (bchain HX0.out hb10)
    have RA := HRn.out _ HXA.out
    clear hb10 R0
    rcases HFn.out with ⟨rfl, hnf, rfl⟩ | ⟨rfl, hfn, hT⟩
    · have HCK := Lib.hid (fun w => HCn.out w hnf)
      have HDG := Lib.hid (fun w h => HGn.out w h hnf)
      clear hnf
      go_wp2_with (refine wpList_load_row_w (by rfl) _ _ (by rfl) w.heap.size (by rfl) _ A _ _ RA.1 Tryd.underlying24 (by rfl) HIn.out ?_)
      refine (HCK.out _).mono ?_
      rintro e w11 ⟨rfl, hb11⟩
      have HXB := Lib.hid (bchain HXA.out hb11)
      have RB := HRn.out _ HXB.out
      clear hb11 RA
      go_wp2_with (refine wpList_load_row_w (by rfl) _ _ (by rfl) w.heap.size (by rfl) _ A _ _ RB.1 Tryd.underlying24 (by rfl) HIn.out ?_)
      refine (HDG.out _ RB.2.2).mono ?_
      rintro e w12 ⟨rfl, hb12⟩
      have RC := HRn.out _ (bchain HXB.out hb12)
      go_wp2
      go_ret
      exact ⟨rfl, RC.2.1⟩
    have HD1 := Lib.hid (fun w => HDt.out w hfn)
    have HD2 := Lib.hid (fun w => HDc.out w hfn)
    have hl1 := Nd.written_most n hn hfn
    have hl0 := Nd.written_len n
    have hex := ext_take (Nd.written n) ((Nd.written n).length - 1)
    have hcat := cat_mk (Nd.written n) more
    have HDD3 := Lib.hid (fun w => HDm.out w hfn)
    rw [← hT] at HD1 HD2 HDD3 hl1 hl0 hex hcat
    have hl2 : (T.length : Int) ≤ 700 := by omega
    have hl3 : (1 : Int) ≤ (T.length : Int) := by omega
    have hl4 : (more.length : Int) ≤ 100 := by omega
    have hl5 : (T.length : Int) - 1 = ((T.length - 1 : Nat) : Int) := by omega
    have hl6 : ((T.length - 1 : Nat) : Int) ≤ (T.length : Int) := by omega
    have hcl : (T ++ more).length ≤ 800 := by rw [List.length_append]; omega
    clear hT hfn hl1 hl0 HFn HCn HGn HDt HDc HDm
    obtain ⟨U, hU⟩ : ∃ U, T.take (T.length - 1) = U := ⟨_, rfl⟩
    rw [hU] at HD2 hex
    obtain ⟨j, hj⟩ : ∃ j, T.length - 1 = j := ⟨_, rfl⟩
    rw [hj] at hex hl5 hl6
    clear hU hj
    go_wp2_with fail
    refine (HD1.out _).mono ?_
    rintro e w13 ⟨rfl, hb13⟩
    have HXB : Hid (Below w0.heap.size w0 (w13.alloc (.cells A 24))) := Lib.hid (bchain (bchain HXA.out hb13) ((Below.refl _ w13).alloc (Nat.le_refl _) _))
    have HN1 : Hid (∀ w', Below (w13.alloc (.cells A 24)).heap.size (w13.alloc (.cells A 24)) w' → w'.heap[w13.heap.size]? = some (.cells A 24 (0, 0))) := Lib.hid (fun w' h => (h.block _ (by simp)).trans (heap_new_at w13 _ _ rfl))
    clear hb13 RA
    go_wp2_with (refine wpList_store_fresh (by rfl) _ _ _ (by rfl) w13.heap.size rfl A (by rfl) (by rfl) _ _ HIn.out HSn.out.symm HOn.out ?_)
    refine (HD2.out _).mono ?_
    rintro e w14 ⟨rfl, hb14⟩
    have HB14 := Lib.hid hb14
    clear hb14
    by_cases hmo : more = []
    · subst hmo
      rw [List.append_nil] at hcat hcl
      have HD3 := HD1
      clear HDD3
      go_wp2_with (refine wpList_store_fresh (by rfl) _ _ _ (by rfl) w14.heap.size rfl Z (by rfl) (by rfl) _ _ HIz.out HSz.out.symm HOz.out ?_)
      refine (HD3.out _).mono ?_
      rintro e w15 ⟨rfl, hb15⟩
      have hbz : Below (w13.alloc (.cells A 24)).heap.size (w13.alloc (.cells A 24)) (w15.alloc (.cells A 24)) := bchain (bchain (HB14.out.alloc HB14.out.size (.cells Z 24)) hb15) ((Below.refl _ w15).alloc (Nat.le_refl _) _)
      have HNW := Lib.hid (HN1.out _ hbz)
      have RZ := HRn.out _ (bchain HXB.out hbz)
      clear hb15 hbz
      go_wp2_with (first | (refine wpList_store_fresh (by rfl) _ _ _ (by rfl) w15.heap.size rfl A (by rfl) (by rfl) _ _ HIn.out HSn.out.symm HOn.out ?_) | (refine wpList_load_row (by rfl) _ _ (by rfl) w13.heap.size (by rfl) _ A _ _ HNW.out Tryd.underlying24 (by rfl) HIn.out ?_) | (refine wpList_load_row (by rfl) _ _ (by rfl) w.heap.size (by rfl) _ A _ _ RZ.1 Tryd.underlying24 (by rfl) HIn.out ?_))
      go_ret
      exact ⟨rfl, RZ.2.1⟩
    · have HD3 := Lib.hid (fun w => HDD3.out w hmo)
      have hmo1 : (more == []) = false := by rw [beq_eq_false_iff_ne]; exact hmo
      obtain ⟨Y, hY⟩ : ∃ U, T ++ more = U := ⟨_, rfl⟩
      rw [hY] at HD3 hcat hcl
      clear HDD3 hY hmo
      go_wp2_with (refine wpList_store_fresh (by rfl) _ _ _ (by rfl) w14.heap.size rfl Z (by rfl) (by rfl) _ _ HIz.out HSz.out.symm HOz.out ?_)
      refine (HD3.out _).mono ?_
      rintro e w15 ⟨rfl, hb15⟩
      have hbz : Below (w13.alloc (.cells A 24)).heap.size (w13.alloc (.cells A 24)) (w15.alloc (.cells Z 24)) := bchain (bchain (HB14.out.alloc HB14.out.size (.cells Z 24)) hb15) ((Below.refl _ w15).alloc (Nat.le_refl _) _)
      have HNW := Lib.hid (HN1.out _ hbz)
      have RZ := HRn.out _ (bchain HXB.out hbz)
      clear hb15 hbz
      go_wp2_with (first | (refine wpList_store_fresh (by rfl) _ _ _ (by rfl) w15.heap.size rfl Z (by rfl) (by rfl) _ _ HIz.out HSz.out.symm HOz.out ?_) | (refine wpList_load_row (by rfl) _ _ (by rfl) w13.heap.size (by rfl) _ A _ _ HNW.out Tryd.underlying24 (by rfl) HIn.out ?_) | (refine wpList_load_row (by rfl) _ _ (by rfl) w.heap.size (by rfl) _ A _ _ RZ.1 Tryd.underlying24 (by rfl) HIn.out ?_))
      go_ret
      exact ⟨rfl, RZ.2.1⟩
theorem nodeBack_law (n : N) (a b : ByteArray) (w : World) (hn : n.kids.length = 16) (_ : a.size ≤ maxLen) (_ : b.size ≤ maxLen) (hT : Tab w) :
    Calls Tryd.prog 4 #[nval n, .string a, .string b] w fun e w' => e = .returned (.bool true) ∧ Below w.heap.size w w' := by
  obtain ⟨s, rfl⟩ := bytes_list a
  obtain ⟨t, rfl⟩ := bytes_list b
  exact nodeBack_walk n s t w hn hT
end Go.Proofs.YtjbagjhadmbjnaaDoor
