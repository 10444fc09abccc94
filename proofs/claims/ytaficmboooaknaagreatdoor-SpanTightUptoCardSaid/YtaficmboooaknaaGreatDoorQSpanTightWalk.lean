/- The law SpanTight, walked. -/
import Derived.Test.YtaficmboooaknaaGreatDoorPk25
import Derived.Test.YtaficmboooaknaaGreatDoorPk24
import Derived.Test.YtaficmboooaknaaGreatDoorPk14
namespace Go.Proofs.YtaficmboooaknaaGreatDoor
open Go.RowKit
open Sto (T St)

set_option maxRecDepth 100000 in
set_option maxHeartbeats 8000000 in
theorem spanTight_walk (lv : Value) (L : St) (f e : T) (m at0 : Int) (w : World) (hi : ItIn w lv L) (hT : Tab w) (hf : f.length ≤ 2000000) (he : e.length ≤ 2000000) :
    Calls Tryz.prog 8 #[lv, .agg #[.string ⟨f.toArray⟩, .string ⟨e.toArray⟩, .int .i64 m], .int .i64 at0] w fun x w' => x = .returned (.bool true) ∧ Below w.heap.size w w' := by
  obtain ⟨w0, hw0⟩ : ∃ w0, w.alloc (.cells #[.string ⟨f.toArray⟩, .string ⟨e.toArray⟩, .int .i64 m] 24) = w0 := ⟨_, rfl⟩
  obtain ⟨q0, hq0⟩ : ∃ q0, w.heap.size = q0 := ⟨_, rfl⟩
  have hb0 : Below w.heap.size w w0 := by rw [← hw0]; exact (Below.refl _ w).alloc (Nat.le_refl _) _
  have ra : EndsAt w0 q0 f e m := by rw [← hw0, ← hq0]; exact heap_alloc_new w _
  have HB0 := Lib.hid hb0
  have HE0 := Lib.hid ra
  have HI := Lib.hid (RowsIn.below hi hb0)
  have HT := Lib.hid (hT.below hb0)
  have HWK := Lib.hid (spworks_any w0 HT.out)
  have HFE : Hid (f.length ≤ 2000000 ∧ e.length ≤ 2000000) := Lib.hid ⟨hf, he⟩
  obtain ⟨A0, cap0, rfl, -, -⟩ := hi.form
  clear ra hb0 hi hT hf he
  go_enter Tryz.func8, Tryz.ntmps8
  go_upto_region 1 with fail
  try rw [hq0]
  clear hw0 hq0
  go_wp2_with fail
  refine HWK.out.mono ?_
  rintro x w1 ⟨rfl, hb1⟩
  have HB1 := Lib.hid (bchain HB0.out hb1)
  have HE1 := Lib.hid (HE0.out.below hb1)
  have HSO := Lib.hid (ssome_any L _ w1 (RowsIn.below HI.out hb1) (HT.out.below hb1))
  have HT1 := Lib.hid (HT.out.below hb1)
  unfold SSomePost at HSO
  clear hb1 HWK
  go_wp2_with fail
  refine HSO.out.mono ?_
  rintro x w2 ⟨g, z, rfl, ht, hz, hb2⟩
  obtain ⟨Az, capz, rfl, -, -⟩ := hz.form
  have HB2 := Lib.hid (bchain HB1.out hb2)
  have HE2 := Lib.hid (HE1.out.below hb2)
  have HT2 := Lib.hid (HT1.out.below hb2)
  have HR2 := Lib.hid ht
  obtain ⟨S, hS⟩ : ∃ S, Spn.someS L = S := ⟨_, rfl⟩
  rw [hS] at HR2
  clear ht hz hb2 HSO
  obtain ⟨_, t, _, _, hts⟩ := id HR2.out
  have HTS := Lib.hid hts
  have HPR := Lib.hid (spprove_any f e m w2 HR2.out HFE.out.1 HFE.out.2)
  unfold SPPost ptr at HPR
  clear hts hS
  by_cases hm : 1 ≤ m ∧ m ≤ 16
  case neg =>
    rw [page_bad hm] at HPR
    obtain ⟨s0, s1, s2⟩ := HE2.out.cells
    clear hm
    go_wp2_with fail
    refine HPR.out.mono ?_
    rintro x w3 ⟨A1, n1, c1, A2, n2, c2, rfl, -, -, hb3⟩
    obtain ⟨w4, hw4⟩ : ∃ w4, w3.alloc (.cells #[.slice A1 n1 c1, .string ⟨#[]⟩, .slice A2 n2 c2] 31) = w4 := ⟨_, rfl⟩
    have hb4 : Below w3.heap.size w3 w4 := by rw [← hw4]; exact (Below.refl _ w3).alloc (Nat.le_refl _) _
    have HB4 := Lib.hid (bchain (bchain HB2.out hb3) hb4)
    have HE4 := Lib.hid ((HE2.out.below hb3).below hb4)
    clear s0 s1 s2 hb3 hb4
    go_upto_region 5 with fail
    try rw [hw4]
    clear hw4
    obtain ⟨s0, s1, s2⟩ := HE4.out.cells
    go_wp2
    go_ret
    exact ⟨rfl, HB4.out⟩
  have HM := Lib.hid hm
  have hm2 := (page_row (S := S) (f := f) (e := e) hm).2
  rw [hm2] at HPR
  have HVP := Lib.hid (verify_page HTS.out f e hm)
  have HPS := Lib.hid (pnodes_short HTS.out f e m)
  have HPL := Lib.hid (pnodes_len HTS.out f e m)
  have HPN : Hid (rootS S ≠ [] → pnodes S f e m ≠ []) := Lib.hid (fun hr => page_nodes_ne HTS.out hr f e hm)
  have HJB : Hid ((Scn.pageR S f e m).1.length ≤ 16) := Lib.hid (by rw [(page_row (S := S) (f := f) (e := e) hm).1, List.length_take]; omega)
  obtain ⟨P, hP⟩ : ∃ P, pnodes S f e m = P := ⟨_, rfl⟩
  rw [hP] at HPR HVP HPS HPL HPN
  obtain ⟨J, hJ⟩ : ∃ J, (Scn.pageR S f e m).1 = J := ⟨_, rfl⟩
  obtain ⟨x, hx⟩ : ∃ x, (Scn.pageR S f e m).2.1 = x := ⟨_, rfl⟩
  rw [hJ, hx] at HPR HVP
  rw [hJ] at HJB
  clear hm hm2 hP hJ hx
  obtain ⟨s0, s1, s2⟩ := HE2.out.cells
  go_wp2_with fail
  refine HPR.out.mono ?_
  rintro y w3 ⟨A1, n1, c1, A2, n2, c2, rfl, ho3, hn3, hb3⟩
  obtain rfl : n1 = J.length := ho3.len
  obtain rfl : n2 = P.length := hn3.len
  obtain ⟨w4, hw4⟩ : ∃ w4, w3.alloc (.cells #[.slice A1 J.length c1, .string ⟨x.toArray⟩, .slice A2 P.length c2] 31) = w4 := ⟨_, rfl⟩
  obtain ⟨q4, hq4⟩ : ∃ q4, w3.heap.size = q4 := ⟨_, rfl⟩
  have hb4 : Below w3.heap.size w3 w4 := by rw [← hw4]; exact (Below.refl _ w3).alloc (Nat.le_refl _) _
  have HB4 := Lib.hid (bchain (bchain HB2.out hb3) hb4)
  have HE4 := Lib.hid ((HE2.out.below hb3).below hb4)
  have HR4 := Lib.hid ((HR2.out.below hb3).below hb4)
  have HT4 := Lib.hid ((HT2.out.below hb3).below hb4)
  have HO4 := Lib.hid ((ho3.below hb4).at_)
  have HN4 := Lib.hid (StrsC.of_own (hn3.below hb4))
  have HP4 : Hid (PageAt w4 q4 (.slice A1 J.length c1) x (.slice A2 P.length c2)) := Lib.hid (by rw [← hw4, ← hq4]; exact heap_alloc_new w3 _)
  have HAF : Hid (A2 = none ∨ ∃ g, A2 = some ⟨g, 0, none⟩) := Lib.hid (by
    rcases hn3.2 with ⟨h0, _⟩ | ⟨g, cap, cur, hv, _⟩
    · injection h0 with h1; exact Or.inl h1
    · injection hv with h1; exact Or.inr ⟨g, h1⟩)
  have HPC : Hid (P.length ≤ c2) := Lib.hid (by obtain ⟨A', c', hz, hc⟩ := HN4.out.form; injection hz with _ _ h3; omega)
  clear s0 s1 s2 hb3 hb4 ho3 hn3 HPR
  go_upto_region 5 with fail
  try rw [hw4]
  try rw [hq4]
  clear hw4 hq4
  have HROOT : Hid (∀ w', Below w4.heap.size w4 w' → Calls Tryz.prog 23 #[.pointer (some ⟨g, 0, none⟩)] w' fun e w'' => e = .returned (.string ⟨(rootS S).toArray⟩) ∧ Below w'.heap.size w' w'') := Lib.hid (fun w' h => sroot_any w' (HR4.out.below h))
  obtain ⟨RT, hRT⟩ : ∃ RT, rootS S = RT := ⟨_, rfl⟩
  rw [hRT] at HROOT HPN HVP
  clear hRT
  by_cases hr0 : RT = []
  · have y1 : (RT == []) = true := beq_iff_eq.2 hr0
    have y2 : RT.isEmpty = true := by rw [hr0]; rfl
    clear hr0
    go_wp2_with fail
    refine (HROOT.out w4 (Below.refl _ _)).mono ?_
    rintro r w5 ⟨rfl, hb5⟩
    have HB5 := Lib.hid (bchain HB4.out hb5)
    clear hb5
    go_wp2
    go_ret
    exact ⟨rfl, HB5.out⟩
  have HPN' := Lib.hid (HPN.out hr0)
  have HVM : Hid (Spn.verifyP RT f e m J x (P ++ [[]]) = ([], [], 130)) := Lib.hid (Spn.verify_more hr0 (by simp) (by rw [HVP.out]))
  obtain ⟨k, hk⟩ : ∃ k, P.length = k + 1 := by
    cases hP : P with
    | nil => exact absurd hP HPN'.out
    | cons a r => exact ⟨r.length, rfl⟩
  have HK := Lib.hid hk
  have HVL : Hid (Spn.verifyP RT f e m J x (P.take k) = ([], [], 130)) := Lib.hid (by
    have hsp : P.take k ++ [P[k]'(by omega)] = P := by rw [← List.take_succ_eq_append_getElem (by omega), ← hk, List.take_length]
    exact Spn.verify_less hr0 (x := P[k]'(by omega)) (by rw [hsp, HVP.out]))
  have HVI : Hid (∀ I, I ≠ J → Spn.verifyP RT f e m I x P = ([], [], 130)) := Lib.hid (fun I h => Spn.verify_item hr0 (by rw [HVP.out]) h)
  have y1 : (RT == []) = false := beq_eq_false_iff_ne.2 hr0
  have y2 : RT.isEmpty = false := by cases RT <;> simp_all
  clear hr0 hk
  go_wp2_with fail
  refine (HROOT.out w4 (Below.refl _ _)).mono ?_
  rintro r w5 ⟨rfl, hb5⟩
  have HX5 := Lib.hid hb5
  obtain ⟨s3, s4, s5⟩ := (HP4.out.below hb5).cells
  clear hb5
  -- a node more
  go_upto_region 8 with fail
  clear y1 y2
  obtain ⟨w6, hw6⟩ : ∃ w6, w5.alloc (.cells #[.slice A1 J.length c1, .string ⟨x.toArray⟩, .slice A2 P.length c2] 31) = w6 := ⟨_, rfl⟩
  obtain ⟨q6, hq6⟩ : ∃ q6, w5.heap.size = q6 := ⟨_, rfl⟩
  have hb6 : Below w5.heap.size w5 w6 := by rw [← hw6]; exact (Below.refl _ w5).alloc (Nat.le_refl _) _
  have HX6 := Lib.hid (bchain HX5.out hb6)
  have HP6 : Hid (PageAt w6 q6 (.slice A1 J.length c1) x (.slice A2 P.length c2)) := Lib.hid (by rw [← hw6, ← hq6]; exact heap_alloc_new w5 _)
  have HQ6 : Hid (w4.heap.size ≤ q6) := Lib.hid (by rw [← hq6]; exact HX5.out.size)
  rw [hw6, hq6]
  clear hw6 hq6 hb6 s3 s4 s5
  obtain ⟨v1, wd, v2, wg, hr1, hr2, ho2, hb2⟩ := one_more (w := w6) (HN4.out.below HX6.out).strs (by have := HPL.out; omega)
  obtain ⟨Av, cv, rfl⟩ := own_form ho2
  rw [List.length_append, List.length_singleton] at *
  have hAE : Below w6.heap.size w6 (w6.alloc (.cells #[] 9)) := (Below.refl _ w6).alloc (Nat.le_refl _) _
  obtain ⟨s3, s4, s5⟩ := ((HP4.out.below HX6.out).below hAE).cells
  have HR1 := Lib.hid hr1
  have HR2' := Lib.hid hr2
  have HXG := Lib.hid (bchain HX6.out hb2)
  have hpg := HP6.out.below hb2
  obtain ⟨u3, u4, u5⟩ := hpg.cells
  have uf : wg.frozen? ⟨q6, 2, none⟩ = false := frozen_of_row _ _ 2 _ _ hpg
  obtain ⟨w9, hw9⟩ : ∃ w9, wg.setCell ⟨q6, 2, none⟩ (.slice Av (P.length + 1) cv) = w9 := ⟨_, rfl⟩
  have HP9 : Hid (PageAt w9 q6 (.slice A1 J.length c1) x (.slice Av (P.length + 1) cv)) := Lib.hid (by rw [← hw9]; exact cells_set hpg 2 _)
  have HX9 : Hid (Below w4.heap.size w4 w9) := Lib.hid (by rw [← hw9]; exact HXG.out.setCell (p := ⟨q6, 2, none⟩) HQ6.out _)
  have HO9 : Hid (Own w9 w6.heap.size (.slice Av (P.length + 1) cv) (P ++ [[]])) := Lib.hid (by
    rw [← hw9]
    refine keep_own ho2 (F := fun k => k = q6) (Out.setCell (F := fun k => k = q6) (Out.refl _ _) (p := ⟨q6, 2, none⟩) rfl _) ?_
    intro j hj hjq
    have h1 := (Own.lt ho2 j hj).1
    have h2 := lt_of_heap HP6.out
    omega)
  clear hAE hr1 hr2 ho2 hb2 hpg
  have HSB : Hid (∀ y ∈ P ++ [[]], y.length ≤ 1000000) := Lib.hid (fun y hy => by
    rcases List.mem_append.1 hy with h | h
    · exact Nat.le_trans (HPS.out y h) (by decide)
    · obtain rfl := List.mem_singleton.1 h; exact Nat.zero_le _)
  have HSL : Hid ((P ++ [[]]).length ≤ 10000) := Lib.hid (by have := HPL.out; simp; omega)
  have HSBP : Hid (∀ y ∈ P, y.length ≤ 1000000) := Lib.hid (fun y h => Nat.le_trans (HPS.out y h) (by decide))
  have HSLP : Hid (P.length ≤ 10000) := Lib.hid (by have := HPL.out; omega)
  have HSBK : Hid (∀ y ∈ P.take k, y.length ≤ 1000000) := Lib.hid (fun y h => HSBP.out y (List.mem_of_mem_take h))
  have HSLK : Hid ((P.take k).length ≤ 10000) := Lib.hid (by have := HPL.out; simp; omega)
  go_upto_region 9 with (first | (at_builtin; refine wpList_append_run rfl _ _ _ rfl (.slice (some ⟨w6.heap.size, 0, none⟩) 0 0) (.slice A2 P.length c2) _ (by rfl) (by rfl) HR1.out ?_) | (at_builtin; refine wpList_append_run rfl _ _ _ rfl v1 _ _ (by rfl) (by rfl) HR2'.out ?_))
  try rw [hw9]
  clear hw9 uf u3 u4 u5 s3 s4 s5
  have HI9 := Lib.hid (RowsAt.inn (RowsAt.below HO4.out HX9.out))
  have HL9 := Lib.hid (StrsC.of_own HO9.out)
  have HRTa : Hid (∀ w', Below w9.heap.size w9 w' → Calls Tryz.prog 23 #[.pointer (some ⟨g, 0, none⟩)] w' fun e w'' => e = .returned (.string ⟨RT.toArray⟩) ∧ Below w9.heap.size w9 w'') := Lib.hid (fun w' h => (HROOT.out w' (bchain HX9.out h)).mono fun e w'' ⟨a, b⟩ => ⟨a, bchain h b⟩)
  have HVEa : Hid (∀ w', Below w9.heap.size w9 w' → Calls Tryz.prog 19 #[.string ⟨RT.toArray⟩, .string ⟨f.toArray⟩, .string ⟨e.toArray⟩, .int .i64 m, .agg #[.slice A1 J.length c1, .string ⟨x.toArray⟩, .slice Av (P.length + 1) cv]] w' fun y w'' => ∃ (A : Option Addr) (n cap : Nat), y = .returned (.tuple #[.slice A n cap, .string ⟨#[]⟩, .int .i64 130]) ∧ Below w9.heap.size w9 w'') := Lib.hid (fun w' h => by
    have h1 := spverify_any RT f e m (.slice A1 J.length c1) J x (.slice Av (P.length + 1) cv) (P ++ [[]]) w' (RowsIn.below HI9.out h) (HL9.out.below h) (HT4.out.below (bchain HX9.out h)) HSB.out HSL.out HFE.out.1 HFE.out.2
    rw [HVM.out] at h1
    unfold SVPost at h1
    exact h1.mono fun e w'' ⟨A, n, c, p1, p2, p3⟩ => ⟨A, n, c, p1, bchain h p3⟩)
  have HSa : Hid (∀ w', Below w9.heap.size w9 w' → Below w9.heap.size w9 w' ∧ w'.cell? ⟨q0, 0, none⟩ = some (.string ⟨f.toArray⟩) ∧ w'.cell? ⟨q0, 1, none⟩ = some (.string ⟨e.toArray⟩) ∧ w'.cell? ⟨q0, 2, none⟩ = some (.int .i64 m) ∧ w'.cell? ⟨q6, 0, none⟩ = some (.slice A1 J.length c1) ∧ w'.cell? ⟨q6, 1, none⟩ = some (.string ⟨x.toArray⟩) ∧ w'.cell? ⟨q6, 2, none⟩ = some (.slice Av (P.length + 1) cv)) := Lib.hid (fun w' h => by
    obtain ⟨a1, a2, a3⟩ := (HE4.out.below (bchain HX9.out h)).cells
    obtain ⟨a4, a5, a6⟩ := (HP9.out.below h).cells
    exact ⟨h, a1, a2, a3, a4, a5, a6⟩)
  have BDa : Below w9.heap.size w9 w9.drew := (Below.refl _ _).drew
  go_region_held3 (fun w' => Below w9.heap.size w9 w' ∧ w'.cell? ⟨q0, 0, none⟩ = some (.string ⟨f.toArray⟩) ∧ w'.cell? ⟨q0, 1, none⟩ = some (.string ⟨e.toArray⟩) ∧ w'.cell? ⟨q0, 2, none⟩ = some (.int .i64 m) ∧ w'.cell? ⟨q6, 0, none⟩ = some (.slice A1 J.length c1) ∧ w'.cell? ⟨q6, 1, none⟩ = some (.string ⟨x.toArray⟩) ∧ w'.cell? ⟨q6, 2, none⟩ = some (.slice Av (P.length + 1) cv))
    ((refine HSa.out _ ?_; first | (with_reducible assumption) | exact And.left (by with_reducible assumption)))
    (first | (go_at_call 23; refine (HRTa.out _ ?_).mono ?_; (first | (with_reducible assumption) | exact And.left (by with_reducible assumption)); rintro y waa ⟨rfl, hbaa⟩) | (go_at_call 19; refine (HVEa.out _ ?_).mono ?_; (first | (with_reducible assumption) | exact And.left (by with_reducible assumption)); rintro y wba ⟨Aa, na, ca, rfl, hbba⟩))
  clear BDa
  all_goals
    have HX10 := Lib.hid (bchain HX9.out hbba)
    obtain ⟨s3, s4, s5⟩ := (HP4.out.below HX10.out).cells
    clear hbba
    -- the last node gone
    go_upto_region 11 with fail
    obtain ⟨w11, hw11⟩ : ∃ w11, wba.alloc (.cells #[.slice A1 J.length c1, .string ⟨x.toArray⟩, .slice A2 P.length c2] 31) = w11 := ⟨_, rfl⟩
    obtain ⟨q11, hq11⟩ : ∃ q11, wba.heap.size = q11 := ⟨_, rfl⟩
    have hb11 : Below wba.heap.size wba w11 := by rw [← hw11]; exact (Below.refl _ wba).alloc (Nat.le_refl _) _
    have HX11 := Lib.hid (bchain HX10.out hb11)
    have HP11 : Hid (PageAt w11 q11 (.slice A1 J.length c1) x (.slice A2 P.length c2)) := Lib.hid (by rw [← hw11, ← hq11]; exact heap_alloc_new wba _)
    have HQ11 : Hid (w4.heap.size ≤ q11) := Lib.hid (by rw [← hq11]; exact HX10.out.size)
    rw [hw11, hq11]
    clear hw11 hq11 hb11 s3 s4 s5
    obtain ⟨s3, s4, s5⟩ := (HP4.out.below HX11.out).cells
    have t5 : w11.cell? ⟨q11, 2, none⟩ = some (.slice A2 P.length c2) := HP11.out.cells.2.2
    have tf : w11.frozen? ⟨q11, 2, none⟩ = false := frozen_of_row _ _ 2 _ _ HP11.out
    have z0 : max (P.length : Int) 1 = ((k : Int) + 1) := by have := HK.out; omega
    have z1 : (0 : Int) ≤ (k : Int) := by omega
    have z2 : (k : Int) ≤ (c2 : Int) := by have := HK.out; have := HPC.out; omega
    have z3 : k ≤ c2 := by have := HK.out; have := HPC.out; omega
    have z4 : (k : Int) ≤ 10000 := by have := HK.out; have := HPL.out; omega
    have z5 : ((k : Int) + 1) - 1 = (k : Int) := by omega
    obtain ⟨w12, hw12⟩ : ∃ w12, w11.setCell ⟨q11, 2, none⟩ (.slice A2 k c2) = w12 := ⟨_, rfl⟩
    have HP12 : Hid (PageAt w12 q11 (.slice A1 J.length c1) x (.slice A2 k c2)) := Lib.hid (by rw [← hw12]; exact cells_set HP11.out 2 _)
    have HX12 : Hid (Below w4.heap.size w4 w12) := Lib.hid (by rw [← hw12]; exact HX11.out.setCell (p := ⟨q11, 2, none⟩) HQ11.out _)
    have HL12 : Hid (StrsC w12 (.slice A2 k c2) (P.take k)) := Lib.hid (StrsC.take (HN4.out.below HX12.out) k (by have := HK.out; omega))
    have HI12 := Lib.hid (RowsAt.inn (RowsAt.below HO4.out HX12.out))
    go_upto_region 12 with fail
    try rw [hw12]
    clear hw12 t5 tf z0 z1 z2 z3 z4 z5 s3 s4 s5
    have HRTb : Hid (∀ w', Below w12.heap.size w12 w' → Calls Tryz.prog 23 #[.pointer (some ⟨g, 0, none⟩)] w' fun e w'' => e = .returned (.string ⟨RT.toArray⟩) ∧ Below w12.heap.size w12 w'') := Lib.hid (fun w' h => (HROOT.out w' (bchain HX12.out h)).mono fun e w'' ⟨a, b⟩ => ⟨a, bchain h b⟩)
    have HVEb : Hid (∀ w', Below w12.heap.size w12 w' → Calls Tryz.prog 19 #[.string ⟨RT.toArray⟩, .string ⟨f.toArray⟩, .string ⟨e.toArray⟩, .int .i64 m, .agg #[.slice A1 J.length c1, .string ⟨x.toArray⟩, .slice A2 k c2]] w' fun y w'' => ∃ (A : Option Addr) (n cap : Nat), y = .returned (.tuple #[.slice A n cap, .string ⟨#[]⟩, .int .i64 130]) ∧ Below w12.heap.size w12 w'') := Lib.hid (fun w' h => by
      have h1 := spverify_any RT f e m (.slice A1 J.length c1) J x (.slice A2 k c2) (P.take k) w' (RowsIn.below HI12.out h) (HL12.out.below h) (HT4.out.below (bchain HX12.out h)) HSBK.out HSLK.out HFE.out.1 HFE.out.2
      rw [HVL.out] at h1
      unfold SVPost at h1
      exact h1.mono fun e w'' ⟨A, n, c, p1, p2, p3⟩ => ⟨A, n, c, p1, bchain h p3⟩)
    have HSb : Hid (∀ w', Below w12.heap.size w12 w' → Below w12.heap.size w12 w' ∧ w'.cell? ⟨q0, 0, none⟩ = some (.string ⟨f.toArray⟩) ∧ w'.cell? ⟨q0, 1, none⟩ = some (.string ⟨e.toArray⟩) ∧ w'.cell? ⟨q0, 2, none⟩ = some (.int .i64 m) ∧ w'.cell? ⟨q11, 0, none⟩ = some (.slice A1 J.length c1) ∧ w'.cell? ⟨q11, 1, none⟩ = some (.string ⟨x.toArray⟩) ∧ w'.cell? ⟨q11, 2, none⟩ = some (.slice A2 k c2)) := Lib.hid (fun w' h => by
      obtain ⟨a1, a2, a3⟩ := (HE4.out.below (bchain HX12.out h)).cells
      obtain ⟨a4, a5, a6⟩ := (HP12.out.below h).cells
      exact ⟨h, a1, a2, a3, a4, a5, a6⟩)
    have BDb : Below w12.heap.size w12 w12.drew := (Below.refl _ _).drew
    go_region_held3 (fun w' => Below w12.heap.size w12 w' ∧ w'.cell? ⟨q0, 0, none⟩ = some (.string ⟨f.toArray⟩) ∧ w'.cell? ⟨q0, 1, none⟩ = some (.string ⟨e.toArray⟩) ∧ w'.cell? ⟨q0, 2, none⟩ = some (.int .i64 m) ∧ w'.cell? ⟨q11, 0, none⟩ = some (.slice A1 J.length c1) ∧ w'.cell? ⟨q11, 1, none⟩ = some (.string ⟨x.toArray⟩) ∧ w'.cell? ⟨q11, 2, none⟩ = some (.slice A2 k c2))
      ((refine HSb.out _ ?_; first | (with_reducible assumption) | exact And.left (by with_reducible assumption)))
      (first | (go_at_call 23; refine (HRTb.out _ ?_).mono ?_; (first | (with_reducible assumption) | exact And.left (by with_reducible assumption)); rintro y wab ⟨rfl, hbab⟩) | (go_at_call 19; refine (HVEb.out _ ?_).mono ?_; (first | (with_reducible assumption) | exact And.left (by with_reducible assumption)); rintro y wbb ⟨Ab, nb, cb, rfl, hbbb⟩))
    clear BDb
    all_goals
      have HX13 := Lib.hid (bchain HX12.out hbbb)
      have HP13 := Lib.hid (HP12.out.below hbbb)
      obtain ⟨s3, s4, s5⟩ := (HP4.out.below HX13.out).cells
      have HB13 := Lib.hid (bchain HB4.out HX13.out)
      clear hbbb
      by_cases hj0 : J.length = 0
      · have y1 : ((J.length : Int) == 0) = true := by rw [hj0]; rfl
        clear hj0
        go_wp2
        go_ret
        exact ⟨rfl, HB13.out⟩
      have y1 : ((J.length : Int) == 0) = false := beq_eq_false_iff_ne.2 (by omega)
      have HJ0 : Hid (0 < J.length) := Lib.hid (by omega)
      obtain ⟨a, ha1, ha2⟩ := Bk.below_nat at0 J.length (by omega)
      have HBL : Hid (∀ w', Calls Tryz.prog 27 #[.int .i64 at0, .int .i64 J.length] w' fun e w'' => e = .returned (.int .i64 a) ∧ w'' = w') := Lib.hid (fun w' => by
        have h := below_any at0 J.length w' HJ0.out (by have := HJB.out; omega)
        rw [ha1] at h
        exact h)
      have HAJ := Lib.hid ha2
      clear ha1 ha2 hj0
      go_wp2_with fail
      refine (HBL.out _).mono ?_
      rintro r w14 ⟨rfl, rfl⟩
      have hp14 := HP13.out
      obtain ⟨w15, hw15⟩ : ∃ w15, (((w14.setCell ⟨q11, 0, none⟩ (.slice A1 J.length c1)).setCell ⟨q11, 1, none⟩ (.string ⟨x.toArray⟩)).setCell ⟨q11, 2, none⟩ (.slice A2 P.length c2)) = w15 := ⟨_, rfl⟩
      have HP15 : Hid (PageAt w15 q11 (.slice A1 J.length c1) x (.slice A2 P.length c2)) := Lib.hid (by rw [← hw15]; exact cells_set3 hp14 _ _ _)
      have HX15 : Hid (Below w4.heap.size w4 w15) := Lib.hid (by rw [← hw15]; exact ((HX13.out.setCell (p := ⟨q11, 0, none⟩) HQ11.out _).setCell (p := ⟨q11, 1, none⟩) HQ11.out _).setCell (p := ⟨q11, 2, none⟩) HQ11.out _)
      obtain ⟨u3, u4, u5⟩ := hp14.cells
      have f3 : w14.frozen? ⟨q11, 0, none⟩ = false := frozen_of_row _ _ 0 _ _ hp14
      have f4 : w14.frozen? ⟨q11, 1, none⟩ = false := frozen_of_row _ _ 1 _ _ hp14
      have f5 : w14.frozen? ⟨q11, 2, none⟩ = false := frozen_of_row _ _ 2 _ _ hp14
      clear hp14
      go_upto_region 19 with fail
      try rw [hw15]
      clear hw15 f3 f4 f5 u3 u4 u5 s3 s4 s5 y1
      have BD15 : Below w15.heap.size w15 w15.drew := (Below.refl _ _).drew
      have HJA := Lib.hid (RowsAt.below HO4.out HX15.out)
      obtain ⟨gj, oj, hA1⟩ : ∃ b o, A1 = some ⟨b, o, none⟩ := by obtain ⟨b, o, hA, _⟩ := ItAt.at HJA.out 0 HJ0.out; exact ⟨b, o, hA⟩
      subst hA1
      have HC1 : Hid (J.length ≤ c1) := Lib.hid (by obtain ⟨A', c', hz, hc, -⟩ := HJA.out.form; injection hz with _ _ h3; omega)
      obtain ⟨b1, hb1⟩ : ∃ b1, a + 1 = b1 := ⟨_, rfl⟩
      have h0 : (0 : Int) ≤ (a : Int) := by omega
      have hpc : (a : Int) ≤ (c1 : Int) := by have := HAJ.out; have := HC1.out; omega
      have hps : (a : Int) ≤ (J.length : Int) := by have := HAJ.out; omega
      have hP1 : (b1 : Int) ≤ (J.length : Int) := by have := HAJ.out; omega
      have hP2 : (b1 : Int) ≤ (c1 : Int) := by have := HAJ.out; have := HC1.out; omega
      have hP5 : b1 ≤ J.length := by have := HAJ.out; omega
      have hP6 : b1 ≤ c1 := by have := HC1.out; omega
      have hP0 : (0 : Int) ≤ (b1 : Int) := by omega
      have hwr : IntKind.i64.wrap ((a : Int) + 1) = (b1 : Int) := by
        have := HAJ.out; have := HJB.out
        rw [← hb1]
        unfold IntKind.wrap
        simp [IntKind.bits, IntKind.signed]
        omega
      have HB1E := Lib.hid hb1
      have hP4 : a ≤ c1 := by omega
      obtain ⟨I2, hI2⟩ : ∃ I2, J.take a ++ J.drop b1 = I2 := ⟨_, rfl⟩
      have HI2L : Hid (I2 ≠ J) := Lib.hid (fun h => by
        have h1 := congrArg List.length (hI2.trans h)
        rw [List.length_append, List.length_take, List.length_drop] at h1
        have := HAJ.out
        omega)
      have HVI2 := Lib.hid (HVI.out I2 HI2L.out)
      have HAP : Hid (∀ u2, ItAt w15 u2 (J.drop b1) → ∃ v1 w16 A17 n17 c17 w17, (Builtin.append_ #[22, 22] 22 #[.slice (some ⟨w15.heap.size, 0, none⟩) 0 0, .slice (some ⟨gj, oj, none⟩) a c1]).run Tryz.prog (w15.alloc (.cells #[] 60)).drew = .ok v1 w16 ∧
          (Builtin.append_ #[22, 22] 22 #[v1, u2]).run Tryz.prog w16 = .ok (.slice A17 n17 c17) w17 ∧ OwnI w17 w15.heap.size (.slice A17 n17 c17) I2 ∧ Below w15.heap.size w15 w16 ∧ Below w15.heap.size w15 w17) := Lib.hid (fun u2 h2 => by
        have hb := HJB.out
        obtain ⟨v1, w16, r1, o1, b1⟩ := own_items (w := w15.drew) (RowsAt.inn (RowsAt.below (RowsAt.take HJA.out a (Nat.le_of_lt HAJ.out)) BD15)) (by simp; omega)
        have b16 : Below w15.heap.size w15 w16 := BD15.trans b1
        obtain ⟨v2, w17, r2, o2, g2, -⟩ := append_it (RowsAt.below h2 b16) o1 (by simp; omega) b1.size
        have o3 : OwnI w17 w15.heap.size v2 I2 := by
          rw [← hI2]
          unfold OwnI
          rw [List.length_append, rowsL_append]
          exact o2
        have b17 : Below w15.heap.size w15 w17 := b16.trans ((Below.refl w15.heap.size w16).grown g2 b16.size (fun j hj => (OwnI.lt o1 j hj).1))
        obtain ⟨A17, c17, hv, -, -⟩ := o3.at_.form
        subst hv
        exact ⟨v1, w16, A17, _, c17, w17, r1, r2, o3, b16, b17⟩)
      have HDR : Hid (∀ b' o', (b1 < J.length → b' = gj ∧ o' = oj + b1 * 2) → ItAt w15 (.slice (some ⟨b', o', none⟩) (J.length - b1) (c1 - b1)) (J.drop b1)) := Lib.hid (fun b' o' h => RowsAt.drop HJA.out b1 (by have := HAJ.out; have := HB1E.out; omega) b' o' h)
      have HST : Hid (∀ A17 n17 c17 w17, OwnI w17 w15.heap.size (.slice A17 n17 c17) I2 → Below w15.heap.size w15 w17 → (w17.cell? ⟨q11, 0, none⟩ = some (.slice (some ⟨gj, oj, none⟩) J.length c1) ∧ w17.frozen? ⟨q11, 0, none⟩ = false) ∧ PageAt (w17.setCell ⟨q11, 0, none⟩ (.slice A17 n17 c17)) q11 (.slice A17 n17 c17) x (.slice A2 P.length c2) ∧ Below w4.heap.size w4 (w17.setCell ⟨q11, 0, none⟩ (.slice A17 n17 c17)) ∧ ItAt (w17.setCell ⟨q11, 0, none⟩ (.slice A17 n17 c17)) (.slice A17 n17 c17) I2) := Lib.hid (fun A17 n17 c17 w17 o3 b17 => by
        have hp := HP15.out.below b17
        refine ⟨⟨hp.cells.1, frozen_of_row _ _ 0 _ _ hp⟩, cells_set hp 0 _, (bchain HX15.out b17).setCell (p := ⟨q11, 0, none⟩) HQ11.out _, ?_⟩
        exact RowsAt.outF (F := fun k => k = q11) o3.at_ (Out.setCell (F := fun k => k = q11) (Out.refl _ _) (p := ⟨q11, 0, none⟩) rfl _) (fun k cs fl hk hh => by subst hk; rw [hp] at hh; revert hh; simp))
      have k0 : w15.cell? ⟨q4, 0, none⟩ = some (.slice (some ⟨gj, oj, none⟩) J.length c1) := (HP4.out.below HX15.out).cells.1
      have k1 : (w15.alloc (.cells #[] 60)).cell? ⟨q4, 0, none⟩ = some (.slice (some ⟨gj, oj, none⟩) J.length c1) := ((HP4.out.below HX15.out).below ((Below.refl _ _).alloc (Nat.le_refl _) _)).cells.1
      have k2 : ∀ w', Below w15.heap.size w15 w' → w'.cell? ⟨q4, 0, none⟩ = some (.slice (some ⟨gj, oj, none⟩) J.length c1) := fun w' h => ((HP4.out.below HX15.out).below h).cells.1
      clear hI2 hb1
      by_cases hPc : c1 = b1
      · have hSP : J.length = b1 := by have := HC1.out; omega
        have HD : Hid (ItAt w15 (.slice (some ⟨gj, oj, none⟩) (J.length - b1) 0) (J.drop b1)) := Lib.hid (by
          have h := HDR.out gj oj (fun h => by omega)
          have e2 : c1 - b1 = 0 := by omega
          rw [e2] at h
          exact h)
        clear hSP
        subst hPc
        obtain ⟨v1, w16, A17, n17, c17, w17, r1, r2, o3, b16, b17⟩ := HAP.out (_) HD.out
        have k3 := k2 w16 b16
        obtain ⟨⟨k4, f4⟩, hp17, hx17, hi17⟩ := HST.out A17 n17 c17 w17 o3 b17
        have HR1 := Lib.hid r1
        have HR2 := Lib.hid r2
        obtain ⟨w18, hw18⟩ : ∃ w18, w17.setCell ⟨q11, 0, none⟩ (.slice A17 n17 c17) = w18 := ⟨_, rfl⟩
        rw [hw18] at hp17 hx17 hi17
        have HP18 := Lib.hid hp17
        have HX18 := Lib.hid hx17
        have HI18 := Lib.hid (RowsAt.inn hi17)
        have HL18 := Lib.hid (HN4.out.below hx17)
        obtain rfl : n17 = I2.length := o3.len
        clear o3 b16 b17 hp17 hx17 hi17 r1 r2 k2
        have HG19 := Lib.hid hw18
        clear hw18
        go_region_law (first | (refine step_append_run rfl (.tmp 115) (.tmp 119) _ rfl _ _ _ ?_ ?_ HR1.out ?_; (first | rfl | (focus (simp [Act.eval]; done)) | fail); (first | rfl | (focus (simp [Act.eval]; done)) | fail)) | (refine step_append_run rfl (.tmp 120) (.tmp 125) _ rfl _ _ _ ?_ ?_ HR2.out ?_; (first | rfl | (focus (simp [Act.eval]; done)) | fail); (first | rfl | (focus (simp [Act.eval]; done)) | fail)))
        all_goals
          go_upto_region 20 with fail
          try rw [HG19.out]
          have HRTc : Hid (∀ w', Below w18.heap.size w18 w' → Calls Tryz.prog 23 #[.pointer (some ⟨g, 0, none⟩)] w' fun e w'' => e = .returned (.string ⟨RT.toArray⟩) ∧ Below w18.heap.size w18 w'') := Lib.hid (fun w' h => (HROOT.out w' (bchain HX18.out h)).mono fun e w'' ⟨a, b⟩ => ⟨a, bchain h b⟩)
          have HVEc : Hid (∀ w', Below w18.heap.size w18 w' → Calls Tryz.prog 19 #[.string ⟨RT.toArray⟩, .string ⟨f.toArray⟩, .string ⟨e.toArray⟩, .int .i64 m, .agg #[.slice A17 I2.length c17, .string ⟨x.toArray⟩, .slice A2 P.length c2]] w' fun y w'' => ∃ (A : Option Addr) (n cap : Nat), y = .returned (.tuple #[.slice A n cap, .string ⟨#[]⟩, .int .i64 130]) ∧ Below w18.heap.size w18 w'') := Lib.hid (fun w' h => by
            have h1 := spverify_any RT f e m (.slice A17 I2.length c17) I2 x (.slice A2 P.length c2) P w' (RowsIn.below HI18.out h) (HL18.out.below h) (HT4.out.below (bchain HX18.out h)) HSBP.out HSLP.out HFE.out.1 HFE.out.2
            rw [HVI2.out] at h1
            unfold SVPost at h1
            exact h1.mono fun e w'' ⟨A, n, c, p1, p2, p3⟩ => ⟨A, n, c, p1, bchain h p3⟩)
          have HSc : Hid (∀ w', Below w18.heap.size w18 w' → Below w18.heap.size w18 w' ∧ w'.cell? ⟨q0, 0, none⟩ = some (.string ⟨f.toArray⟩) ∧ w'.cell? ⟨q0, 1, none⟩ = some (.string ⟨e.toArray⟩) ∧ w'.cell? ⟨q0, 2, none⟩ = some (.int .i64 m) ∧ w'.cell? ⟨q11, 0, none⟩ = some (.slice A17 I2.length c17) ∧ w'.cell? ⟨q11, 1, none⟩ = some (.string ⟨x.toArray⟩) ∧ w'.cell? ⟨q11, 2, none⟩ = some (.slice A2 P.length c2)) := Lib.hid (fun w' h => by
            obtain ⟨a1, a2, a3⟩ := (HE4.out.below (bchain HX18.out h)).cells
            obtain ⟨a4, a5, a6⟩ := (HP18.out.below h).cells
            exact ⟨h, a1, a2, a3, a4, a5, a6⟩)
          have BDc : Below w18.heap.size w18 w18.drew := (Below.refl _ _).drew
          go_region_held3 (fun w' => Below w18.heap.size w18 w' ∧ w'.cell? ⟨q0, 0, none⟩ = some (.string ⟨f.toArray⟩) ∧ w'.cell? ⟨q0, 1, none⟩ = some (.string ⟨e.toArray⟩) ∧ w'.cell? ⟨q0, 2, none⟩ = some (.int .i64 m) ∧ w'.cell? ⟨q11, 0, none⟩ = some (.slice A17 I2.length c17) ∧ w'.cell? ⟨q11, 1, none⟩ = some (.string ⟨x.toArray⟩) ∧ w'.cell? ⟨q11, 2, none⟩ = some (.slice A2 P.length c2))
            ((refine HSc.out _ ?_; first | (with_reducible assumption) | exact And.left (by with_reducible assumption)))
            (first | (go_at_call 23; refine (HRTc.out _ ?_).mono ?_; (first | (with_reducible assumption) | exact And.left (by with_reducible assumption)); rintro y wac ⟨rfl, hbac⟩) | (go_at_call 19; refine (HVEc.out _ ?_).mono ?_; (first | (with_reducible assumption) | exact And.left (by with_reducible assumption)); rintro y wbc ⟨Ac, nc, cc, rfl, hbbc⟩))
          clear BDc
          all_goals
            have HFI := Lib.hid (bchain HB4.out (bchain HX18.out hbbc))
            clear hbbc
            go_wp2
            go_ret
            exact ⟨rfl, HFI.out⟩
      · skip
        have HD : Hid (ItAt w15 (.slice (some ⟨gj, oj + b1 * 2, none⟩) (J.length - b1) (c1 - b1)) (J.drop b1)) := Lib.hid (HDR.out gj _ (fun _ => ⟨rfl, rfl⟩))
        obtain ⟨v1, w16, A17, n17, c17, w17, r1, r2, o3, b16, b17⟩ := HAP.out (.slice (some ⟨gj, oj + b1 * 2, none⟩) (J.length - b1) (c1 - b1)) HD.out
        have k3 := k2 w16 b16
        obtain ⟨⟨k4, f4⟩, hp17, hx17, hi17⟩ := HST.out A17 n17 c17 w17 o3 b17
        have HR1 := Lib.hid r1
        have HR2 := Lib.hid r2
        obtain ⟨w18, hw18⟩ : ∃ w18, w17.setCell ⟨q11, 0, none⟩ (.slice A17 n17 c17) = w18 := ⟨_, rfl⟩
        rw [hw18] at hp17 hx17 hi17
        have HP18 := Lib.hid hp17
        have HX18 := Lib.hid hx17
        have HI18 := Lib.hid (RowsAt.inn hi17)
        have HL18 := Lib.hid (HN4.out.below hx17)
        obtain rfl : n17 = I2.length := o3.len
        clear o3 b16 b17 hp17 hx17 hi17 r1 r2 k2
        have HG19 := Lib.hid hw18
        clear hw18
        go_region_law (first | (refine step_append_run rfl (.tmp 115) (.tmp 119) _ rfl _ _ _ ?_ ?_ HR1.out ?_; (first | rfl | (focus (simp [Act.eval]; done)) | fail); (first | rfl | (focus (simp [Act.eval]; done)) | fail)) | (refine step_append_run rfl (.tmp 120) (.tmp 125) _ rfl _ _ _ ?_ ?_ HR2.out ?_; (first | rfl | (focus (simp [Act.eval]; done)) | fail); (first | rfl | (focus (simp [Act.eval]; done)) | fail)))
        all_goals
          go_upto_region 20 with fail
          try rw [HG19.out]
          have HRTc : Hid (∀ w', Below w18.heap.size w18 w' → Calls Tryz.prog 23 #[.pointer (some ⟨g, 0, none⟩)] w' fun e w'' => e = .returned (.string ⟨RT.toArray⟩) ∧ Below w18.heap.size w18 w'') := Lib.hid (fun w' h => (HROOT.out w' (bchain HX18.out h)).mono fun e w'' ⟨a, b⟩ => ⟨a, bchain h b⟩)
          have HVEc : Hid (∀ w', Below w18.heap.size w18 w' → Calls Tryz.prog 19 #[.string ⟨RT.toArray⟩, .string ⟨f.toArray⟩, .string ⟨e.toArray⟩, .int .i64 m, .agg #[.slice A17 I2.length c17, .string ⟨x.toArray⟩, .slice A2 P.length c2]] w' fun y w'' => ∃ (A : Option Addr) (n cap : Nat), y = .returned (.tuple #[.slice A n cap, .string ⟨#[]⟩, .int .i64 130]) ∧ Below w18.heap.size w18 w'') := Lib.hid (fun w' h => by
            have h1 := spverify_any RT f e m (.slice A17 I2.length c17) I2 x (.slice A2 P.length c2) P w' (RowsIn.below HI18.out h) (HL18.out.below h) (HT4.out.below (bchain HX18.out h)) HSBP.out HSLP.out HFE.out.1 HFE.out.2
            rw [HVI2.out] at h1
            unfold SVPost at h1
            exact h1.mono fun e w'' ⟨A, n, c, p1, p2, p3⟩ => ⟨A, n, c, p1, bchain h p3⟩)
          have HSc : Hid (∀ w', Below w18.heap.size w18 w' → Below w18.heap.size w18 w' ∧ w'.cell? ⟨q0, 0, none⟩ = some (.string ⟨f.toArray⟩) ∧ w'.cell? ⟨q0, 1, none⟩ = some (.string ⟨e.toArray⟩) ∧ w'.cell? ⟨q0, 2, none⟩ = some (.int .i64 m) ∧ w'.cell? ⟨q11, 0, none⟩ = some (.slice A17 I2.length c17) ∧ w'.cell? ⟨q11, 1, none⟩ = some (.string ⟨x.toArray⟩) ∧ w'.cell? ⟨q11, 2, none⟩ = some (.slice A2 P.length c2)) := Lib.hid (fun w' h => by
            obtain ⟨a1, a2, a3⟩ := (HE4.out.below (bchain HX18.out h)).cells
            obtain ⟨a4, a5, a6⟩ := (HP18.out.below h).cells
            exact ⟨h, a1, a2, a3, a4, a5, a6⟩)
          have BDc : Below w18.heap.size w18 w18.drew := (Below.refl _ _).drew
          go_region_held3 (fun w' => Below w18.heap.size w18 w' ∧ w'.cell? ⟨q0, 0, none⟩ = some (.string ⟨f.toArray⟩) ∧ w'.cell? ⟨q0, 1, none⟩ = some (.string ⟨e.toArray⟩) ∧ w'.cell? ⟨q0, 2, none⟩ = some (.int .i64 m) ∧ w'.cell? ⟨q11, 0, none⟩ = some (.slice A17 I2.length c17) ∧ w'.cell? ⟨q11, 1, none⟩ = some (.string ⟨x.toArray⟩) ∧ w'.cell? ⟨q11, 2, none⟩ = some (.slice A2 P.length c2))
            ((refine HSc.out _ ?_; first | (with_reducible assumption) | exact And.left (by with_reducible assumption)))
            (first | (go_at_call 23; refine (HRTc.out _ ?_).mono ?_; (first | (with_reducible assumption) | exact And.left (by with_reducible assumption)); rintro y wac ⟨rfl, hbac⟩) | (go_at_call 19; refine (HVEc.out _ ?_).mono ?_; (first | (with_reducible assumption) | exact And.left (by with_reducible assumption)); rintro y wbc ⟨Ac, nc, cc, rfl, hbbc⟩))
          clear BDc
          all_goals
            have HFI := Lib.hid (bchain HB4.out (bchain HX18.out hbbc))
            clear hbbc
            go_wp2
            go_ret
            exact ⟨rfl, HFI.out⟩
theorem spanTight_law (lv : Value) (L : St) (f e : T) (m at0 : Int) (w : World) (hi : ItIn w lv L) (_ : L.length * 32 ≤ reachBytes) (_ : (Lit.int .i64 m).wf = true) (_ : (Lit.int .i64 at0).wf = true) (hf : f.length ≤ 1048576) (he : e.length ≤ 1048576) (hT : Tab w) :
    Calls Tryz.prog 8 #[lv, .agg #[.string ⟨f.toArray⟩, .string ⟨e.toArray⟩, .int .i64 m], .int .i64 at0] w fun x w' => x = .returned (.bool true) ∧ Below w.heap.size w w' := spanTight_walk lv L f e m at0 w hi hT (Nat.le_trans hf (by decide)) (Nat.le_trans he (by decide))
end Go.Proofs.YtaficmboooaknaaGreatDoor
