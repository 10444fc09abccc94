/- The walk of the law CertBoth: it answers true, whatever it is given. -/
import Derived.Test.YtojpkodmpjibkaaDoorPk12
import Derived.IntWalk
namespace Go.Proofs.YtojpkodmpjibkaaDoor
open Go.RowKit Go.ChangeShapes Go.WideShapes
open Go.Proofs.YtojpkodmpjibkaaDoor.Ct (C)
open Go.Proofs.YtojpkodmpjibkaaDoor.Pw (M)

theorem Ct.good_mark {t : Int} {L : List Pw.M} {c : Ct.C} {T : List Ora.Sig} (h : Ct.checkP t L c T = 0) : Ct.markC t c.dig = 0 ∧ Ct.markR t c.dig = Ct.markP t c.dig := by
  obtain ⟨h1, _, h3, _⟩ := Ct.check_good.1 h
  obtain ⟨m1, _, _⟩ := Ct.may_len h3
  have : Ct.markC t c.dig = 0 := by simp [Ct.markC, h1, m1]
  exact ⟨this, by simp [Ct.markR, this]⟩
theorem Ct.good_ok {t : Int} {L : List Pw.M} {c : Ct.C} {T : List Ora.Sig} (h : Ct.checkP t L c T = 0) : Pw.okL L = true := (Ct.check_good.1 h).2.1

set_option maxRecDepth 100000 in
set_option maxHeartbeats 4000000 in
theorem cboth_walk (t : Int) (u y : Value) (L : List M) (S : List Ct.St) (D : List UInt8) (s : Value) (N : List (List UInt8)) (E : List UInt8) (z : Value) (O : List (List UInt8)) (w : World) (_ : (Lit.int .i64 t).wf = true) (hu : Mems w u L) (_ : L.length * 24 ≤ reachBytes) (hy : Css w y S) (_ : S.length * 48 ≤ reachBytes) (hok : ∀ s ∈ S, OkCs s)
    (_ : D.length ≤ maxLen) (hs : Strs w s N) (hN : N.length ≤ maxLen) (_ : E.length ≤ maxLen) (hz : Strs w z O) (hO : O.length ≤ maxLen) (hT : Tab w) :
    Calls Tryd.prog 5 #[.agg #[.int .i64 t, u, y], .agg #[.string ⟨D.toArray⟩, s], .agg #[.string ⟨E.toArray⟩, z]] w fun e w' => e = .returned (.bool true) ∧ Below w.heap.size w w' := by
  have hl63 : maxLen = 9223372036854775807 := rfl
  rw [hl63] at hN hO
  have HU := Lib.hid hu
  have HY := Lib.hid hy
  have HS := Lib.hid hs
  have HQ := Lib.hid hz
  have HTA := Lib.hid hT
  have HOK := Lib.hid hok
  obtain ⟨A, cap, rfl⟩ := hu.form
  obtain ⟨A2, cap2, rfl⟩ := hy.form
  obtain ⟨A3, cap3, rfl, -⟩ := hs
  obtain ⟨A4, cap4, rfl, -⟩ := hz
  have HX := Lib.hid (boxed3 w (.cells #[.int .i64 t, .slice A L.length cap, .slice A2 S.length cap2] 25) (.cells #[.string ⟨D.toArray⟩, .slice A3 N.length cap3] 28) (.cells #[.string ⟨E.toArray⟩, .slice A4 O.length cap4] 28))
  obtain ⟨w2, hw2⟩ : ∃ x, (((w.alloc (.cells #[.int .i64 t, .slice A L.length cap, .slice A2 S.length cap2] 25)).alloc (.cells #[.string ⟨D.toArray⟩, .slice A3 N.length cap3] 28)).alloc (.cells #[.string ⟨E.toArray⟩, .slice A4 O.length cap4] 28)) = x := ⟨_, rfl⟩
  have hz : w2.heap.size = w.heap.size + 3 := by rw [← hw2]; simp
  rw [hw2] at HX
  have HZ := Lib.hid hz
  have HBZ : Hid (Below (w.heap.size + 3) w2 w2) := Lib.hid (Below.refl _ _)
  have HTR := Lib.hid (fun w' (h : Below (w.heap.size + 3) w2 w') => table_any S (.slice A2 S.length cap2) w' (HY.out.below (HX.out w' h).2.2.2.1) HOK.out)
  unfold TablePost at HTR
  obtain ⟨T, hTT⟩ : ∃ T, Ct.fillT (S.take 30) = T := ⟨_, rfl⟩
  rw [hTT] at HTR
  have HCA := Lib.hid (fun g m w' (h : Below (w.heap.size + 3) w2 w') ht => ccheck_any t L (.slice A L.length cap) ⟨D, N⟩ (.slice A3 N.length cap3) g m T w' (HU.out.below (HX.out w' h).2.2.2.1) (HS.out.below (HX.out w' h).2.2.2.1) ht (HTA.out.below (HX.out w' h).2.2.2.1))
  have HCB := Lib.hid (fun g m w' (h : Below (w.heap.size + 3) w2 w') ht => ccheck_any t L (.slice A L.length cap) ⟨E, O⟩ (.slice A4 O.length cap4) g m T w' (HU.out.below (HX.out w' h).2.2.2.1) (HQ.out.below (HX.out w' h).2.2.2.1) ht (HTA.out.below (HX.out w' h).2.2.2.1))
  have HMA := Lib.hid (fun w' (h : Below (w.heap.size + 3) w2 w') => cmark_any t D w' (HTA.out.below (HX.out w' h).2.2.2.1))
  have HMB := Lib.hid (fun w' (h : Below (w.heap.size + 3) w2 w') => cmark_any t E w' (HTA.out.below (HX.out w' h).2.2.2.1))
  have HTWO := Lib.hid (fun ha hb => Ct.two_good (t := t) (L := L) (a := ⟨D, N⟩) (b := ⟨E, O⟩) (T := T) ha hb)
  have HGA := Lib.hid (fun h => (⟨Ct.good_len (t := t) (L := L) (c := ⟨D, N⟩) (T := T) h, Ct.good_mark h, Ct.good_ok h⟩ : _ ∧ _ ∧ _))
  have HGB := Lib.hid (fun h => (⟨Ct.good_len (t := t) (L := L) (c := ⟨E, O⟩) (T := T) h, Ct.good_mark h, Ct.good_ok h⟩ : _ ∧ _ ∧ _))
  obtain ⟨R, hR⟩ : ∃ R, Ct.checkP t L ⟨D, N⟩ T = R := ⟨_, rfl⟩
  obtain ⟨R2, hR2⟩ : ∃ R, Ct.checkP t L ⟨E, O⟩ T = R := ⟨_, rfl⟩
  rw [hR] at HCA HTWO HGA
  rw [hR2] at HCB HTWO HGB
  dsimp only at HCA HCB HTWO HGA HGB
  clear hl63 hT hok hz hTT hR hR2
  go_enter Tryd.func5, Tryd.ntmps5
  go_wp2_with fail
  clear hw2
  refine (cworks_any _ (HTA.out.below (HX.out _ HBZ.out).2.2.2.1)).mono ?_
  rintro e w3 ⟨rfl, hb⟩
  have HB3 : Hid (Below (w.heap.size + 3) w2 w3) := Lib.hid (hb.mono (Nat.le_of_eq HZ.out.symm))
  obtain ⟨c0, c1, c2, -, -, -⟩ := cells3 (HX.out _ HB3.out).1
  clear hb
  go_wp2_with fail
  refine (HTR.out _ HB3.out).mono ?_
  rintro e w4 ⟨g, m, sl, rfl, hg, hm, ht, hos, hb⟩
  have HB4 := Lib.hid (HB3.out.trans (hb.mono (HX.out _ HB3.out).2.2.2.2))
  have HT4 := Lib.hid ht
  clear hb ht hos c0 c1 c2 hg hm
  obtain ⟨c0, c1, c2, -, -, -⟩ := cells3 (HX.out _ HB4.out).1
  obtain ⟨d0, d1, -, -⟩ := cells2 (HX.out _ HB4.out).2.1
  obtain ⟨e0, e1, -, -⟩ := cells2 (HX.out _ HB4.out).2.2.1
  by_cases hn : 50 < N.length
  · have hn' : (50 : Int) < (N.length : Int) := by omega
    clear hn
    go_wp2
    go_ret
    exact ⟨rfl, (HX.out _ HB4.out).2.2.2.1⟩
  have hn' : ¬ ((50 : Int) < (N.length : Int)) := by omega
  by_cases ho : 50 < O.length
  · have ho' : (50 : Int) < (O.length : Int) := by omega
    clear ho hn
    go_wp2
    go_ret
    exact ⟨rfl, (HX.out _ HB4.out).2.2.2.1⟩
  have ho' : ¬ ((50 : Int) < (O.length : Int)) := by omega
  clear ho hn
  by_cases hRa : R = 0
  case neg =>
    have hR1 : (R == 0) = false := by rw [beq_eq_false_iff_ne]; exact hRa
    have hR2 : (R != 0) = true := by rw [bne_iff_ne]; exact hRa
    clear hRa
    go_wp2_with fail
    refine (HCA.out g m _ HB4.out HT4.out).mono ?_
    rintro e w5 ⟨rfl, hb⟩
    have HB5 := Lib.hid (HB4.out.trans (hb.mono (HX.out _ HB4.out).2.2.2.2))
    go_wp2
    go_ret
    exact ⟨rfl, (HX.out _ HB5.out).2.2.2.1⟩
  subst hRa
  have HGA1 := Lib.hid (HGA.out rfl)
  have HTWO1 := Lib.hid (HTWO.out rfl)
  clear HGA HTWO
  go_wp2_with fail
  refine (HCA.out g m _ HB4.out HT4.out).mono ?_
  rintro e w5 ⟨rfl, hb⟩
  have HB5 := Lib.hid (HB4.out.trans (hb.mono (HX.out _ HB4.out).2.2.2.2))
  have HT5 := Lib.hid (HT4.out.below hb)
  clear hb c0 c1 c2 d0 d1 e0 e1
  obtain ⟨c0, c1, c2, -, -, -⟩ := cells3 (HX.out _ HB5.out).1
  obtain ⟨d0, d1, -, -⟩ := cells2 (HX.out _ HB5.out).2.1
  obtain ⟨e0, e1, -, -⟩ := cells2 (HX.out _ HB5.out).2.2.1
  by_cases hRb : R2 = 0
  case neg =>
    have hR1 : (R2 == 0) = false := by rw [beq_eq_false_iff_ne]; exact hRb
    have hR2 : (R2 != 0) = true := by rw [bne_iff_ne]; exact hRb
    clear hRb
    go_wp2_with fail
    refine (HCB.out g m _ HB5.out HT5.out).mono ?_
    rintro e w6 ⟨rfl, hb⟩
    have HB6 := Lib.hid (HB5.out.trans (hb.mono (HX.out _ HB5.out).2.2.2.2))
    go_wp2
    go_ret
    exact ⟨rfl, (HX.out _ HB6.out).2.2.2.1⟩
  subst hRb
  obtain ⟨⟨la, xa⟩, ⟨ma, na⟩, hokL⟩ := HGA1.out
  obtain ⟨⟨lb, xb⟩, ⟨mb, nb⟩, -⟩ := HGB.out rfl
  obtain ⟨q1, q2, q3⟩ := HTWO1.out rfl
  rw [ma, na] at HMA
  rw [mb, nb] at HMB
  have q4 : ∀ x ∈ Pw.both N O, (Ora.look T (x, Ct.markP t D)).isSome = true ∧ (Ora.look T (x, Ct.markP t E)).isSome = true := q3
  have hmA : (Ct.markP t D).length = 32 := Sha.sumP_length _
  have hmB : (Ct.markP t E).length = 32 := Sha.sumP_length _
  obtain ⟨mA, hma⟩ : ∃ X, Ct.markP t D = X := ⟨_, rfl⟩
  obtain ⟨mB, hmb⟩ : ∃ X, Ct.markP t E = X := ⟨_, rfl⟩
  rw [hma] at HMA hmA q4
  rw [hmb] at HMB hmB q4
  clear q3 na nb hma hmb
  have HXA := Lib.hid xa
  have HXB := Lib.hid xb
  have hXm : ∀ x ∈ Pw.both N O, x.length ≤ 140737488351232 := fun x hx => xa x ((Pw.both_mem _ _ _).1 hx).1
  have hXl : (Pw.both N O).length ≤ N.length := Pw.both_length N O
  have HOF := Lib.hid (fun (v : Value) w' hv hs => of_any L (.slice A L.length cap) (Pw.both N O) v w' hv hs hXm (by omega))
  have HMO := Lib.hid (fun w' hv => most_any L (.slice A L.length cap) w' hv)
  have HTO := Lib.hid (fun w' hv => total_any L (.slice A L.length cap) w' hv)
  have r1 := (Pw.tot_range L).1
  have r2 := Pw.pick_le_tot hokL (Pw.both N O)
  have HSG : Hid (∀ x ∈ Pw.both N O, ∀ g m w, TabAt w g m T → (Calls Tryd.prog 28 #[.pointer (some ⟨g, 0, none⟩), .string ⟨x.toArray⟩, .string ⟨mA.toArray⟩] w fun e w' => e = .returned (.bool true) ∧ Below w.heap.size w w') ∧
      (Calls Tryd.prog 28 #[.pointer (some ⟨g, 0, none⟩), .string ⟨x.toArray⟩, .string ⟨mB.toArray⟩] w fun e w' => e = .returned (.bool true) ∧ Below w.heap.size w w')) := Lib.hid (fun x hx g m w ht => by
    obtain ⟨k1, k2⟩ := q4 x hx
    have j1 := signed_any g m T (x, mA) w ht ⟨hXm x hx, by dsimp only; omega⟩
    have j2 := signed_any g m T (x, mB) w ht ⟨hXm x hx, by dsimp only; omega⟩
    rw [k1] at j1
    rw [k2] at j2
    exact ⟨j1, j2⟩)
  obtain ⟨X, hX⟩ : ∃ X, Pw.both N O = X := ⟨_, rfl⟩
  obtain ⟨aa, haa⟩ : ∃ x, Pw.ofL L (Pw.both N O) = x := ⟨_, rfl⟩
  obtain ⟨bb, hbb⟩ : ∃ x, Pw.mos L = x := ⟨_, rfl⟩
  obtain ⟨tt, htt⟩ : ∃ x, Pw.tot L = x := ⟨_, rfl⟩
  rw [haa] at HOF r2 q1 q2
  rw [hbb] at HMO q1
  rw [htt] at HTO r1 r2 q2
  rw [hX] at HOF HSG
  have hg1 : decide ((bb : Int) < (aa : Int)) = true := by simpa using (by omega : (bb : Int) < (aa : Int))
  have hg1' : (bb : Int) < (aa : Int) := by omega
  have HQ2 : Hid ((tt : Int) < 3 * (aa : Int) ∧ aa ≤ 7000) := Lib.hid (by omega)
  have HXL : Hid (X.length ≤ 7) := Lib.hid (by rw [← hX]; omega)
  have HXX := Lib.hid hX
  clear hX haa hbb htt hXm hXl q1 q2 q4 r1 r2 ma mb hmA hmB xa xb HGA1 HGB HTWO1 hokL
  go_wp2_with fail
  refine (HCB.out g m _ HB5.out HT5.out).mono ?_
  rintro e w6 ⟨rfl, hb⟩
  have HB6 := Lib.hid (HB5.out.trans (hb.mono (HX.out _ HB5.out).2.2.2.2))
  have HT6 := Lib.hid (HT5.out.below hb)
  clear hb c0 c1 c2 d0 d1 e0 e1
  obtain ⟨c0, c1, c2, -, -, -⟩ := cells3 (HX.out _ HB6.out).1
  obtain ⟨d0, d1, -, -⟩ := cells2 (HX.out _ HB6.out).2.1
  obtain ⟨e0, e1, -, -⟩ := cells2 (HX.out _ HB6.out).2.2.1
  have HBO := Lib.hid (both_any N O (.slice A3 N.length cap3) (.slice A4 O.length cap4) w6 (HS.out.below (HX.out _ HB6.out).2.2.2.1) (HQ.out.below (HX.out _ HB6.out).2.2.2.1) HXA.out HXB.out (by omega) (by omega))
  unfold BothPost at HBO
  rw [HXX.out] at HBO
  go_wp2_with fail
  refine HBO.out.mono ?_
  rintro e w7 ⟨z7, rfl, hown, hb⟩
  have HB7 := Lib.hid (HB6.out.trans (hb.mono (HX.out _ HB6.out).2.2.2.2))
  have HT7 := Lib.hid (HT6.out.below hb)
  have HZ7 := Lib.hid hown.strs
  obtain ⟨A7, cap7, rfl⟩ := own_form hown
  clear hb hown c0 c1 c2 d0 d1 e0 e1
  obtain ⟨c0, c1, c2, -, -, -⟩ := cells3 (HX.out _ HB7.out).1
  obtain ⟨d0, d1, -, -⟩ := cells2 (HX.out _ HB7.out).2.1
  go_wp2_with fail
  refine (HMA.out _ HB7.out).mono ?_
  rintro e w8 ⟨rfl, hb⟩
  have HB8 := Lib.hid (HB7.out.trans (hb.mono (HX.out _ HB7.out).2.2.2.2))
  have HT8 := Lib.hid (HT7.out.below hb)
  have HZ8 := Lib.hid (HZ7.out.below hb)
  clear hb c0 c1 c2 d0 d1
  obtain ⟨c0, c1, c2, -, -, -⟩ := cells3 (HX.out _ HB8.out).1
  obtain ⟨e0, e1, -, -⟩ := cells2 (HX.out _ HB8.out).2.2.1
  go_wp2_with fail
  refine (HMB.out _ HB8.out).mono ?_
  rintro e w9 ⟨rfl, hb⟩
  have HB9 := Lib.hid (HB8.out.trans (hb.mono (HX.out _ HB8.out).2.2.2.2))
  have HT9 := Lib.hid (HT8.out.below hb)
  have HZ9 := Lib.hid (HZ8.out.below hb)
  clear hb c0 c1 c2 e0 e1
  go_wp2
  go_loopw [83] (fun i wr => ∃ k : Nat, k ≤ X.length ∧ i = .int .i64 k ∧ Below w9.heap.size w9 wr) (fun i _ => X.length - (intOf i).toNat)
  case atStart => exact ⟨0, Nat.zero_le _, rfl, Below.refl _ _⟩
  case round =>
    obtain ⟨k, hk, rfl, hb⟩ := hrel
    have HBk := Lib.hid hb
    by_cases hlt : k < X.length
    · have h1 : (k : Int) < (X.length : Int) := by omega
      have h0 : (0 : Int) ≤ (k : Int) := by omega
      have h2 : (k : Int) ≤ 7 := by have := HXL.out; omega
      obtain ⟨A8, cap8, hv8, hc8⟩ := HZ9.out.below hb
      obtain ⟨rfl, rfl⟩ : A7 = A8 ∧ cap7 = cap8 := by simpa using hv8
      obtain ⟨q, rfl, n0⟩ := hc8 k hlt
      have HSX := Lib.hid (fun w ht => HSG.out X[k] (List.getElem_mem hlt) g m w ht)
      obtain ⟨x, hx⟩ : ∃ x, X[k] = x := ⟨_, rfl⟩
      rw [hx] at n0 HSX
      have HTk := Lib.hid (HT9.out.below hb)
      clear hx hv8 hc8 hb
      go_wp2_with fail
      refine (HSX.out _ HTk.out).1.mono ?_
      rintro e w10 ⟨rfl, hb⟩
      have HB10 := Lib.hid (HBk.out.trans (hb.mono HBk.out.size))
      have HT10 := Lib.hid (HTk.out.below hb)
      clear hb
      go_wp2_with fail
      refine (HSX.out _ HT10.out).2.mono ?_
      rintro e w11 ⟨rfl, hb⟩
      have HB11 := Lib.hid (HB10.out.trans (hb.mono HB10.out.size))
      go_wp2
      exact ⟨⟨k + 1, by omega, by go_num, HB11.out⟩, by simp [intOf]; omega⟩
    · have h1 : ¬ ((k : Int) < (X.length : Int)) := by omega
      obtain rfl : k = X.length := by omega
      have HBB : Hid (∀ w', Below w9.heap.size w9 w' → Below (w.heap.size + 3) w2 w') := Lib.hid (fun w' h => HB9.out.trans (h.mono (HX.out _ HB9.out).2.2.2.2))
      have HCE : Hid (∀ w', Below w9.heap.size w9 w' → w'.cell? ⟨w.heap.size, 1, none⟩ = some (.slice A L.length cap)) := Lib.hid (fun w' h => (cells3 (HX.out _ (HBB.out _ h)).1).2.1)
      have HO1 : Hid (∀ w', Below w9.heap.size w9 w' → Calls Tryd.prog 29 #[.slice A L.length cap, .slice A7 X.length cap7] w' fun e w'' => e = .returned (.int .i64 (aa : Nat)) ∧ Below w9.heap.size w9 w'') := Lib.hid (fun w' h => (HOF.out _ w' (HU.out.below (HX.out _ (HBB.out _ h)).2.2.2.1) (HZ9.out.below h)).mono fun e w'' ⟨he, hb⟩ => ⟨he, h.trans (hb.mono h.size)⟩)
      have HM1 : Hid (∀ w', Below w9.heap.size w9 w' → Calls Tryd.prog 30 #[.slice A L.length cap] w' fun e w'' => e = .returned (.int .i64 (bb : Nat)) ∧ Below w9.heap.size w9 w'') := Lib.hid (fun w' h => (HMO.out w' (HU.out.below (HX.out _ (HBB.out _ h)).2.2.2.1)).mono fun e w'' ⟨he, hb⟩ => ⟨he, h.trans (hb.mono h.size)⟩)
      have HT1 : Hid (∀ w', Below w9.heap.size w9 w' → Calls Tryd.prog 31 #[.slice A L.length cap] w' fun e w'' => e = .returned (.int .i64 (tt : Nat)) ∧ Below w9.heap.size w9 w'') := Lib.hid (fun w' h => (HTO.out w' (HU.out.below (HX.out _ (HBB.out _ h)).2.2.2.1)).mono fun e w'' ⟨he, hb⟩ => ⟨he, h.trans (hb.mono h.size)⟩)
      have hBD : Below w9.heap.size w9 wr.drew := hb.drew
      clear hk hlt hb
      go_wp2

      go_region_held3 (fun w' => w'.cell? ⟨w.heap.size, 1, none⟩ = some (.slice A L.length cap))
        ((refine HCE.out _ ?_; with_reducible (first | assumption | fail)))
        (first | (go_at_call 29; refine (HO1.out _ ?_).mono ?_; (with_reducible assumption); rintro e w10 ⟨rfl, hB10⟩) | (go_at_call 30; refine (HM1.out _ ?_).mono ?_; (with_reducible assumption); rintro e w11 ⟨rfl, hB11⟩) | (go_at_call 31; refine (HT1.out _ ?_).mono ?_; (with_reducible assumption); rintro e w12 ⟨rfl, hB12⟩))
      all_goals
        have hq := HQ2.out
        go_wp2
        go_ret
        refine ⟨?_, (HX.out _ (HBB.out _ ?_)).2.2.2.1⟩
        · show Ending.returned (.bool (decide ((tt : Int) < IntKind.i64.wrap (3 * (aa : Int))))) = _
          rw [IntWalk.i64_in (3 * (aa : Int)) (by omega), decide_eq_true hq.1]
        · with_reducible assumption
end Go.Proofs.YtojpkodmpjibkaaDoor
