/- The walk of the law CertGathers: it answers true, whatever it is given. -/
import Derived.Test.YtojpkodmpjibkaaDoorPk12
namespace Go.Proofs.YtojpkodmpjibkaaDoor
open Go.RowKit Go.ChangeShapes Go.WideShapes
open Go.Proofs.YtojpkodmpjibkaaDoor.Ct (C)
open Go.Proofs.YtojpkodmpjibkaaDoor.Pw (M)

set_option maxRecDepth 100000 in
set_option maxHeartbeats 4000000 in
theorem cgathers_walk (t : Int) (u y : Value) (L : List M) (S : List Ct.St) (D : List UInt8) (s : Value) (N : List (List UInt8)) (w : World) (_ : (Lit.int .i64 t).wf = true) (hu : Mems w u L) (_ : L.length * 24 ≤ reachBytes) (hy : Css w y S) (_ : S.length * 48 ≤ reachBytes) (hok : ∀ s ∈ S, OkCs s)
    (_ : D.length ≤ maxLen) (hs : Strs w s N) (hN : N.length ≤ maxLen) (hT : Tab w) :
    Calls Tryd.prog 6 #[.agg #[.int .i64 t, u, y], .agg #[.string ⟨D.toArray⟩, s]] w fun e w' => e = .returned (.bool true) ∧ Below w.heap.size w w' := by
  have hl63 : maxLen = 9223372036854775807 := rfl
  rw [hl63] at hN
  have HU := Lib.hid hu
  have HY := Lib.hid hy
  have HS := Lib.hid hs
  have HTA := Lib.hid hT
  have HOK := Lib.hid hok
  obtain ⟨A, cap, rfl⟩ := hu.form
  obtain ⟨A2, cap2, rfl⟩ := hy.form
  obtain ⟨A3, cap3, rfl, -⟩ := hs
  have HX := Lib.hid (boxed2 w (.cells #[.int .i64 t, .slice A L.length cap, .slice A2 S.length cap2] 25) (.cells #[.string ⟨D.toArray⟩, .slice A3 N.length cap3] 28))
  obtain ⟨w2, hw2⟩ : ∃ x, ((w.alloc (.cells #[.int .i64 t, .slice A L.length cap, .slice A2 S.length cap2] 25)).alloc (.cells #[.string ⟨D.toArray⟩, .slice A3 N.length cap3] 28)) = x := ⟨_, rfl⟩
  have hz : w2.heap.size = w.heap.size + 2 := by rw [← hw2]; simp
  rw [hw2] at HX
  have HZ := Lib.hid hz
  have HBZ : Hid (Below (w.heap.size + 2) w2 w2) := Lib.hid (Below.refl _ _)
  have HTR := Lib.hid (fun w' (h : Below (w.heap.size + 2) w2 w') => table_any S (.slice A2 S.length cap2) w' (HY.out.below (HX.out w' h).2.2.1) HOK.out)
  unfold TablePost at HTR
  obtain ⟨T, hTT⟩ : ∃ T, Ct.fillT (S.take 30) = T := ⟨_, rfl⟩
  rw [hTT] at HTR
  have HGA := Lib.hid (fun g m w' (h : Below (w.heap.size + 2) w2 w') ht => cgather_any t L (.slice A L.length cap) D g m T w' (HU.out.below (HX.out w' h).2.2.1) ht (HTA.out.below (HX.out w' h).2.2.1))
  unfold CGathPost at HGA
  have HCC := Lib.hid (fun g m w' (h : Below (w.heap.size + 2) w2 w') ht => ccheck_any t L (.slice A L.length cap) ⟨D, N⟩ (.slice A3 N.length cap3) g m T w' (HU.out.below (HX.out w' h).2.2.1) (HS.out.below (HX.out w' h).2.2.1) ht (HTA.out.below (HX.out w' h).2.2.1))
  have HCG := Lib.hid (fun z g m w' (h : Below (w.heap.size + 2) w2 w') hz ht => ccheck_any t L (.slice A L.length cap) (Ct.gatherP t L D T).1 z g m T w' (HU.out.below (HX.out w' h).2.2.1) hz ht (HTA.out.below (HX.out w' h).2.2.1))
  have HGOOD : Hid (Ct.checkP t L ⟨D, N⟩ T = 0 → (Ct.gatherP t L D T).2 = 0 ∧ (Pw.both (Ct.gatherP t L D T).1.sig N).length = N.length ∧ N.length ≤ 7 ∧ ∀ s ∈ N, s.length ≤ 140737488351232) := Lib.hid (fun h => by
    obtain ⟨h1, h2⟩ := Ct.good_gathers h
    obtain ⟨h3, h4⟩ := Ct.good_len h
    dsimp only at h1 h2 h3 h4
    rw [h1]
    exact ⟨rfl, h2, h3, h4⟩)
  have HGM := Lib.hid (fun h => Ct.gath_may (t := t) (L := L) (D := D) (T := T) h)
  obtain ⟨⟨G, K⟩, hG⟩ : ∃ G, Ct.gatherP t L D T = G := ⟨_, rfl⟩
  rw [hG] at HGA HCG HGOOD HGM
  dsimp only at HGA HCG HGOOD HGM HCC
  obtain ⟨R, hR⟩ : ∃ R, Ct.checkP t L ⟨D, N⟩ T = R := ⟨_, rfl⟩
  rw [hR] at HCC HGOOD
  clear hl63 hT hok hz hTT hG hR
  go_enter Tryd.func6, Tryd.ntmps6
  go_wp2_with fail
  clear hw2
  refine (cworks_any _ (HTA.out.below (HX.out _ HBZ.out).2.2.1)).mono ?_
  rintro e w3 ⟨rfl, hb⟩
  have HB3 : Hid (Below (w.heap.size + 2) w2 w3) := Lib.hid (hb.mono (Nat.le_of_eq HZ.out.symm))
  obtain ⟨c0, c1, c2, -, -, -⟩ := cells3 (HX.out _ HB3.out).1
  clear hb
  go_wp2_with fail
  refine (HTR.out _ HB3.out).mono ?_
  rintro e w4 ⟨g, m, sl, rfl, hg, hm, ht, hos, hb⟩
  have HB4 := Lib.hid (HB3.out.trans (hb.mono (HX.out _ HB3.out).2.2.2))
  have HT4 := Lib.hid ht
  clear hb ht hos c0 c1 c2 hg hm
  obtain ⟨c0, c1, c2, -, -, -⟩ := cells3 (HX.out _ HB4.out).1
  obtain ⟨d0, d1, -, -⟩ := cells2 (HX.out _ HB4.out).2.1
  go_wp2_with fail
  refine (HGA.out g m _ HB4.out HT4.out).mono ?_
  rintro e w5 ⟨z, rfl, hown, hb⟩
  have HB5 := Lib.hid (HB4.out.trans (hb.mono (HX.out _ HB4.out).2.2.2))
  have HT5 := Lib.hid (HT4.out.below hb)
  obtain ⟨Az, cz, rfl⟩ := own_form hown
  have hb6 : Below w5.heap.size w5 (w5.alloc (.cells #[.string ⟨G.dig.toArray⟩, .slice Az G.sig.length cz] 28)) := (Below.refl _ w5).alloc (Nat.le_refl _) _
  have HB6 := Lib.hid (HB5.out.trans (hb6.mono (HX.out _ HB5.out).2.2.2))
  have HT6 := Lib.hid (HT5.out.below hb6)
  have HS6 := Lib.hid (hown.below hb6).strs
  have HR6 := Lib.hid (heap_new_at w5 (.cells #[.string ⟨G.dig.toArray⟩, .slice Az G.sig.length cz] 28) w5.heap.size rfl)
  have HZ6 : Hid (w5.heap.size < (w5.alloc (.cells #[.string ⟨G.dig.toArray⟩, .slice Az G.sig.length cz] 28)).heap.size) := Lib.hid (lt_of_heap HR6.out)
  clear hb hb6 hown c0 c1 c2 d0 d1
  obtain ⟨c0, c1, c2, -, -, -⟩ := cells3 (HX.out _ HB6.out).1
  obtain ⟨d0, d1, -, -⟩ := cells2 (HX.out _ HB6.out).2.1
  obtain ⟨e0, e1, -, -⟩ := cells2 HR6.out
  by_cases hK : K = 0
  case neg =>
    have hK1 : (K == 0) = false := by rw [beq_eq_false_iff_ne]; exact hK
    have hR : R ≠ 0 := fun h => hK (HGOOD.out h).1
    have hR1 : (R == 0) = false := by rw [beq_eq_false_iff_ne]; exact hR
    have hR2 : (R != 0) = true := by rw [bne_iff_ne]; exact hR
    by_cases h50 : 50 < N.length
    · have h50' : (50 : Int) < (N.length : Int) := by omega
      clear h50 hK hR HGOOD HGM
      go_wp2
      go_ret
      exact ⟨rfl, (HX.out _ HB6.out).2.2.1⟩
    · have h50' : ¬ ((50 : Int) < (N.length : Int)) := by omega
      clear h50 hK hR HGOOD HGM
      go_wp2_with fail
      refine (HCC.out g m _ HB6.out HT6.out).mono ?_
      rintro e w7 ⟨rfl, hb⟩
      have HB7 := Lib.hid (HB6.out.trans (hb.mono (HX.out _ HB6.out).2.2.2))
      go_wp2
      go_ret
      exact ⟨rfl, (HX.out _ HB7.out).2.2.1⟩
  subst hK
  obtain ⟨hG1, hG2, hG3, hG4⟩ := HGM.out rfl
  generalize Ct.gatherS t L D T = GS at hG1 hG2 hG3 hG4
  subst hG1
  dsimp only at *
  rw [hG2] at HCG
  have HG3 := Lib.hid hG3
  have HG4 := Lib.hid hG4
  have hdd : (D == D) = true := by simp
  clear HGM hG2 hG3 hG4
  go_wp2_with fail
  refine (HCG.out _ g m _ HB6.out HS6.out HT6.out).mono ?_
  rintro e w7 ⟨rfl, hb⟩
  have HB7 := Lib.hid (HB6.out.trans (hb.mono (HX.out _ HB6.out).2.2.2))
  have HT7 := Lib.hid (HT6.out.below hb)
  have HS7 := Lib.hid (HS6.out.below hb)
  have HR7 := Lib.hid ((hb.block _ HZ6.out).trans HR6.out)
  have HZ7 : Hid (w5.heap.size < w7.heap.size) := Lib.hid (Nat.lt_of_lt_of_le HZ6.out hb.size)
  clear hb c0 c1 c2 d0 d1 e0 e1
  obtain ⟨c0, c1, c2, -, -, -⟩ := cells3 (HX.out _ HB7.out).1
  obtain ⟨d0, d1, -, -⟩ := cells2 (HX.out _ HB7.out).2.1
  obtain ⟨e0, e1, -, -⟩ := cells2 HR7.out
  by_cases h50 : 50 < N.length
  · have h50' : (50 : Int) < (N.length : Int) := by omega
    clear h50 HGOOD
    go_wp2
    go_ret
    exact ⟨rfl, (HX.out _ HB7.out).2.2.1⟩
  have h50' : ¬ ((50 : Int) < (N.length : Int)) := by omega
  by_cases hR : R = 0
  case neg =>
    have hR1 : (R == 0) = false := by rw [beq_eq_false_iff_ne]; exact hR
    have hR2 : (R != 0) = true := by rw [bne_iff_ne]; exact hR
    clear h50 hR HGOOD
    go_wp2_with fail
    refine (HCC.out g m _ HB7.out HT7.out).mono ?_
    rintro e w8 ⟨rfl, hb⟩
    have HB8 := Lib.hid (HB7.out.trans (hb.mono (HX.out _ HB7.out).2.2.2))
    go_wp2
    go_ret
    exact ⟨rfl, (HX.out _ HB8.out).2.2.1⟩
  subst hR
  obtain ⟨-, hb1, hb2, hb3⟩ := HGOOD.out rfl
  clear h50 HGOOD
  go_wp2_with fail
  refine (HCC.out g m _ HB7.out HT7.out).mono ?_
  rintro e w8 ⟨rfl, hb⟩
  have HB8 := Lib.hid (HB7.out.trans (hb.mono (HX.out _ HB7.out).2.2.2))
  have HR8 : Hid (∀ w', Below w8.heap.size w8 w' → w'.cell? ⟨w5.heap.size, 1, none⟩ = some (.slice Az GS.length cz) ∧ w'.cell? ⟨w.heap.size + 1, 1, none⟩ = some (.slice A3 N.length cap3)) := Lib.hid (fun w' h => by
    have h7 : Below w7.heap.size w7 w' := hb.trans (h.mono hb.size)
    exact ⟨(cells2 ((h7.block _ HZ7.out).trans HR7.out)).2.1, (cells2 (HX.out _ (HB7.out.trans (h7.mono (HX.out _ HB7.out).2.2.2))).2.1).2.1⟩)
  have HBO := Lib.hid (both_any GS N (.slice Az GS.length cz) (.slice A3 N.length cap3) w8.drew ((HS7.out.below hb).below (Below.refl _ _).drew) (HS.out.below (HX.out _ HB8.out.drew).2.2.1) HG4.out hb3 (by have := HG3.out; omega) (by omega))
  unfold BothPost at HBO
  obtain ⟨X, hX⟩ : ∃ X, Pw.both GS N = X := ⟨_, rfl⟩
  rw [hX] at HBO hb1
  have hlx : ((X.length : Int) == (N.length : Int)) = true := by rw [hb1]; simp
  have HBD : Hid (Below w8.heap.size w8 w8.drew) := Lib.hid (Below.refl _ _).drew
  clear hb c0 c1 c2 d0 d1 e0 e1 hb1 hb2 hb3 hX
  obtain ⟨e1, d1⟩ := HR8.out _ (Below.refl _ _)
  go_wp2
  go_region_held3 (fun w' => w'.cell? ⟨w5.heap.size, 1, none⟩ = some (.slice Az GS.length cz) ∧ w'.cell? ⟨w.heap.size + 1, 1, none⟩ = some (.slice A3 N.length cap3))
    ((refine HR8.out _ ?_; with_reducible (first | exact hB9 | exact HBD.out | fail)))
    ((go_at_call 27; refine HBO.out.mono ?_; rintro e w9 ⟨z9, rfl, hown9, hb9⟩; (have hB9 : Below w8.heap.size w8 w9 := HBD.out.trans (hb9.mono HBD.out.size)); (obtain ⟨A9, cap9, rfl⟩ := own_form hown9); clear hown9 hb9))
  all_goals
    go_wp2
    go_ret
    exact ⟨rfl, (HX.out _ (HB8.out.trans (hB9.mono (HX.out _ HB8.out).2.2.2))).2.2.1⟩
end Go.Proofs.YtojpkodmpjibkaaDoor
