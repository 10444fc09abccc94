/- The law SpanPages, walked. -/
import Derived.Test.YtaficmboooaknaaGreatDoorPk25
import Derived.Test.YtaficmboooaknaaGreatDoorPk14
namespace Go.Proofs.YtaficmboooaknaaGreatDoor
open Go.RowKit
open Sto (T St)

set_option maxRecDepth 100000 in
set_option maxHeartbeats 8000000 in
theorem spanPages_walk (lv : Value) (L : St) (f e : T) (m : Int) (w : World) (hi : ItIn w lv L) (hT : Tab w) (hf : f.length ≤ 2000000) (he : e.length ≤ 2000000) :
    Calls Tryz.prog 7 #[lv, .agg #[.string ⟨f.toArray⟩, .string ⟨e.toArray⟩, .int .i64 m]] w fun x w' => x = .returned (.bool true) ∧ Below w.heap.size w w' := by
  obtain ⟨w0, hw0⟩ : ∃ w0, w.alloc (.cells #[.string ⟨f.toArray⟩, .string ⟨e.toArray⟩, .int .i64 m] 24) = w0 := ⟨_, rfl⟩
  obtain ⟨q0, hq0⟩ : ∃ q0, w.heap.size = q0 := ⟨_, rfl⟩
  have hb0 : Below w.heap.size w w0 := by rw [← hw0]; exact (Below.refl _ w).alloc (Nat.le_refl _) _
  have ra : EndsAt w0 q0 f e m := by rw [← hw0, ← hq0]; exact heap_alloc_new w _
  have HB0 := Lib.hid hb0
  have HE0 := Lib.hid ra
  have HI := Lib.hid (RowsIn.below hi hb0)
  have HT := Lib.hid (hT.below hb0)
  have HWK := Lib.hid (spworks_any w0 HT.out)
  have HFE : Hid (f.length ≤ 2000000 ∧ e.length ≤ 2000000) := Lib.hid ⟨hf, he⟩
  obtain ⟨A0, cap0, rfl, -, -⟩ := hi.form
  clear ra hb0 hi hT hf he
  go_enter Tryz.func7, Tryz.ntmps7
  go_upto_region 1 with fail
  try rw [hq0]
  clear hw0 hq0
  go_wp2_with fail
  refine HWK.out.mono ?_
  rintro x w1 ⟨rfl, hb1⟩
  have HB1 := Lib.hid (bchain HB0.out hb1)
  have HE1 := Lib.hid (HE0.out.below hb1)
  have HSO := Lib.hid (ssome_any L _ w1 (RowsIn.below HI.out hb1) (HT.out.below hb1))
  have HT1 := Lib.hid (HT.out.below hb1)
  unfold SSomePost at HSO
  clear hb1 HWK
  go_wp2_with fail
  refine HSO.out.mono ?_
  rintro x w2 ⟨g, z, rfl, ht, hz, hb2⟩
  obtain ⟨Az, capz, rfl, -, -⟩ := hz.form
  have HB2 := Lib.hid (bchain HB1.out hb2)
  have HE2 := Lib.hid (HE1.out.below hb2)
  have HT2 := Lib.hid (HT1.out.below hb2)
  have HR2 := Lib.hid ht
  obtain ⟨S, hS⟩ : ∃ S, Spn.someS L = S := ⟨_, rfl⟩
  have HS30 : Hid (S.length ≤ 30) := Lib.hid (by rw [← hS]; exact Spn.someS_len L)
  rw [hS] at HR2
  clear ht hz hb2 HSO
  obtain ⟨_, t, _, _, hts⟩ := id HR2.out
  have HTS := Lib.hid hts
  clear hts hS
  obtain ⟨m1, hm1, hm2⟩ := Bk.below_nat m 16 (by decide)
  have HBL := Lib.hid (below_any m 16 w2 (by decide) (by decide))
  rw [hm1] at HBL
  have hmm : 1 ≤ (1 + (m1 : Int)) ∧ (1 + (m1 : Int)) ≤ 16 := by omega
  have HMM := Lib.hid hmm
  have hm3 : (m1 : Int) < 16 := by omega
  have hm4 : (0 : Int) ≤ (m1 : Int) := by omega
  clear hm1 hm2 hmm
  obtain ⟨s0, s1, s2⟩ := HE2.out.cells
  have HN2 := Lib.hid (OwnI.nil w2 w2.heap.size)
  unfold ptr at *
  go_wp2_with fail
  refine HBL.out.mono ?_
  rintro r w2' ⟨rfl, rfl⟩
  obtain ⟨w3, hw3⟩ : ∃ w3, w2' = w3 := ⟨_, rfl⟩
  subst hw3
  have HPG : Hid (∀ a, a.length ≤ 2000000 → ∀ w', Below w2'.heap.size w2' w' → Calls Tryz.prog 12 #[.pointer (some ⟨g, 0, none⟩), .string ⟨a.toArray⟩, .string ⟨e.toArray⟩, .int .i64 (1 + (m1 : Int))] w' (SPPost S a e (1 + (m1 : Int)) w')) := Lib.hid (fun a ha w' h => spprove_any a e (1 + (m1 : Int)) w' (HR2.out.below h) ha HFE.out.2)
  have HWI : Hid (∀ w', Below w2'.heap.size w2' w' → Calls Tryz.prog 24 #[.pointer (some ⟨g, 0, none⟩), .string ⟨f.toArray⟩, .string ⟨e.toArray⟩] w' fun x w'' => ∃ (A : Option Addr) (n c : Nat), x = .returned (.slice A n c) ∧ OwnI w'' w'.heap.size (.slice A n c) (Scn.allR S f e) ∧ Below w'.heap.size w' w'') := Lib.hid (fun w' h => spwithin_any f e w' (HR2.out.below h))
  have HAL : Hid (∀ a, (Scn.allR S a e).length ≤ 30) := Lib.hid (fun a => Nat.le_trans (Scn.allR_len S a e) HS30.out)
  go_upto_region 7 with fail
  go_wp2
  go_loopw [8, 9, 28] (fun gv fv iv wr => ∃ (i : Nat) (G : St) (a : T) (AG : Option Addr) (cG : Nat), gv = .slice AG G.length cG ∧ iv = .int .i64 i ∧ fv = .string ⟨a.toArray⟩ ∧ a.length ≤ 2000000 ∧ OwnI wr w2'.heap.size gv G ∧ G ++ Scn.allR S a e = Scn.allR S f e ∧ i + (Scn.allR S a e).length ≤ 30 ∧ Below w2'.heap.size w2' wr) (fun _ _ i _ => 50 - (intOf i).toNat)
  case atStart => exact ⟨0, [], f, none, 0, rfl, rfl, rfl, HFE.out.1, HN2.out, rfl, (by have := HAL.out f; omega), Below.refl _ _⟩
  case round =>
    obtain ⟨i, G, a, AG, cG, rfl, rfl, rfl, ha, hG, hGA, hi, hb⟩ := hrel
    have hi0 : (0 : Int) ≤ (i : Int) := by omega
    have hi40 : (i : Int) < 40 := by omega
    have HA := Lib.hid ha
    have HG := Lib.hid hG
    have HIL := Lib.hid hi
    have HB3 := Lib.hid (bchain HB2.out hb)
    have HBL2 := Lib.hid hb
    have HER := Lib.hid (HE2.out.below hb)
    have HRR := Lib.hid (HR2.out.below hb)
    have HTR := Lib.hid (HT2.out.below hb)
    have HPR := Lib.hid (HPG.out a ha wr hb)
    unfold SPPost at HPR
    have HON := Lib.hid (Spn.pages_on HTS.out HMM.out hGA)
    have HVP := Lib.hid (verify_page HTS.out a e HMM.out)
    have HRW := Lib.hid (page_row (S := S) (f := a) (e := e) HMM.out)
    have hc0 := HRW.out.2
    rw [hc0] at HPR
    have HXS := Lib.hid (page_next_short S a e (1 + (m1 : Int)))
    have HPS := Lib.hid (pnodes_short HTS.out a e (1 + (m1 : Int)))
    have HPL := Lib.hid (pnodes_len HTS.out a e (1 + (m1 : Int)))
    have HJL : Hid ((Scn.pageR S a e (1 + (m1 : Int))).1.length ≤ 30) := Lib.hid (by rw [HRW.out.1]; have := HAL.out a; simp; omega)
    have HGL : Hid (G.length ≤ 30) := Lib.hid (by have h1 := congrArg List.length hGA; rw [List.length_append] at h1; have := HAL.out f; omega)
    clear hc0 HRW
    obtain ⟨P, hP⟩ : ∃ P, pnodes S a e (1 + (m1 : Int)) = P := ⟨_, rfl⟩
    rw [hP] at HPR HVP HPS HPL
    obtain ⟨J, hJ⟩ : ∃ J, (Scn.pageR S a e (1 + (m1 : Int))).1 = J := ⟨_, rfl⟩
    obtain ⟨x, hx⟩ : ∃ x, (Scn.pageR S a e (1 + (m1 : Int))).2.1 = x := ⟨_, rfl⟩
    rw [hJ] at HPR HVP HJL HON
    rw [hx] at HPR HVP HXS HON
    clear hP hJ hx ha hG hGA hi hb
    obtain ⟨c0, c1, c2⟩ := HER.out.cells
    go_wp2_with fail
    refine HPR.out.mono ?_
    rintro y w3 ⟨A1, n1, c1', A2, n2, c2', rfl, ho3, hn3, hb3⟩
    obtain ⟨w4, hw4⟩ : ∃ w4, w3.alloc (.cells #[.slice A1 n1 c1', .string ⟨x.toArray⟩, .slice A2 n2 c2'] 31) = w4 := ⟨_, rfl⟩
    obtain ⟨q4, hq4⟩ : ∃ q4, w3.heap.size = q4 := ⟨_, rfl⟩
    have hb4 : Below w3.heap.size w3 w4 := by rw [← hw4]; exact (Below.refl _ w3).alloc (Nat.le_refl _) _
    have HB4 := Lib.hid (bchain (bchain HB3.out hb3) hb4)
    have HBL4 := Lib.hid (bchain (bchain HBL2.out hb3) hb4)
    have HE4 := Lib.hid ((HER.out.below hb3).below hb4)
    have HR4 := Lib.hid ((HRR.out.below hb3).below hb4)
    have HT4 := Lib.hid ((HTR.out.below hb3).below hb4)
    have HO4 := Lib.hid (ho3.below hb4)
    have HN4 := Lib.hid (hn3.below hb4)
    have HG4 := Lib.hid ((HG.out.below hb3).below hb4)
    have HP4 : Hid (PageAt w4 q4 (.slice A1 n1 c1') x (.slice A2 n2 c2')) := Lib.hid (by rw [← hw4, ← hq4]; exact heap_alloc_new w3 _)
    clear c0 c1 c2 hb3 hb4 ho3 hn3 HPR
    go_upto_region 10 with fail
    try rw [hw4]
    try rw [hq4]
    clear hw4 hq4
    have HRT : Hid (∀ w', Below w4.heap.size w4 w' → Calls Tryz.prog 23 #[.pointer (some ⟨g, 0, none⟩)] w' fun e w'' => e = .returned (.string ⟨(rootS S).toArray⟩) ∧ Below w4.heap.size w4 w'') := Lib.hid (fun w' h => (sroot_any w' (HR4.out.below h)).mono fun e w'' ⟨a, b⟩ => ⟨a, bchain h b⟩)
    have HVE : Hid (∀ w', Below w4.heap.size w4 w' → Calls Tryz.prog 19 #[.string ⟨(rootS S).toArray⟩, .string ⟨a.toArray⟩, .string ⟨e.toArray⟩, .int .i64 (1 + (m1 : Int)), .agg #[.slice A1 n1 c1', .string ⟨x.toArray⟩, .slice A2 n2 c2']] w' fun y w'' => ∃ (A : Option Addr) (n cap : Nat), y = .returned (.tuple #[.slice A n cap, .string ⟨x.toArray⟩, .int .i64 0]) ∧ ItAt w'' (.slice A n cap) J ∧ Below w4.heap.size w4 w'') := Lib.hid (fun w' h => by
      have h1 := spverify_any (rootS S) a e (1 + (m1 : Int)) (.slice A1 n1 c1') J x (.slice A2 n2 c2') P w' (RowsAt.inn (RowsAt.below HO4.out.at_ h)) ((StrsC.of_own HN4.out).below h) (HT4.out.below h) (fun y hy => Nat.le_trans (HPS.out y hy) (by decide)) (Nat.le_trans HPL.out (by decide)) HA.out HFE.out.2
      rw [HVP.out] at h1
      unfold SVPost at h1
      exact h1.mono fun e w'' ⟨A, n, c, p1, p2, p3⟩ => ⟨A, n, c, p1, p2.at_, bchain h p3⟩)
    obtain ⟨RT, hRT⟩ : ∃ RT, rootS S = RT := ⟨_, rfl⟩
    rw [hRT] at HRT HVE
    have HS : Hid (∀ w', Below w4.heap.size w4 w' → Below w4.heap.size w4 w' ∧ w'.cell? ⟨q0, 0, none⟩ = some (.string ⟨f.toArray⟩) ∧ w'.cell? ⟨q0, 1, none⟩ = some (.string ⟨e.toArray⟩) ∧ w'.cell? ⟨q4, 0, none⟩ = some (.slice A1 n1 c1') ∧ w'.cell? ⟨q4, 1, none⟩ = some (.string ⟨x.toArray⟩) ∧ w'.cell? ⟨q4, 2, none⟩ = some (.slice A2 n2 c2')) := Lib.hid (fun w' h => by
      obtain ⟨a1, a2, a3⟩ := (HE4.out.below h).cells
      obtain ⟨a4, a5, a6⟩ := (HP4.out.below h).cells
      exact ⟨h, a1, a2, a4, a5, a6⟩)
    have BD : Below w4.heap.size w4 w4.drew := (Below.refl _ _).drew
    clear hRT
    go_region_held3 (fun w' => Below w4.heap.size w4 w' ∧ w'.cell? ⟨q0, 0, none⟩ = some (.string ⟨f.toArray⟩) ∧ w'.cell? ⟨q0, 1, none⟩ = some (.string ⟨e.toArray⟩) ∧ w'.cell? ⟨q4, 0, none⟩ = some (.slice A1 n1 c1') ∧ w'.cell? ⟨q4, 1, none⟩ = some (.string ⟨x.toArray⟩) ∧ w'.cell? ⟨q4, 2, none⟩ = some (.slice A2 n2 c2'))
      ((refine HS.out _ ?_; first | (with_reducible assumption) | exact And.left (by with_reducible assumption)))
      (first | (go_at_call 23; refine (HRT.out _ ?_).mono ?_; (first | (with_reducible assumption) | exact And.left (by with_reducible assumption)); rintro y wa ⟨rfl, hba⟩) | (go_at_call 19; refine (HVE.out _ ?_).mono ?_; (first | (with_reducible assumption) | exact And.left (by with_reducible assumption)); rintro y wb ⟨A6, n6, c6, rfl, ho6, hbb⟩))
    all_goals
      have HB7 := Lib.hid (bchain HB4.out hbb)
      have HBL7 := Lib.hid (bchain HBL4.out hbb)
      have HE7 := Lib.hid (HE4.out.below hbb)
      have HG7 := Lib.hid (HG4.out.below hbb)
      have hn6 : n6 = J.length := by obtain ⟨A', c', hz, -, -⟩ := ho6.form; injection hz
      subst hn6
      obtain ⟨v8, w8, happ, hown, hgr, -⟩ := append_it ho6 HG7.out (by have := HGL.out; have := HJL.out; omega) HBL7.out.size
      have HBL8 : Hid (Below w2'.heap.size w2' w8) := Lib.hid (HBL7.out.trans ((Below.refl w2'.heap.size wb).grown hgr HBL7.out.size (fun j hj => (OwnI.lt HG7.out j hj).1)))
      have HO8 : Hid (OwnI w8 w2'.heap.size v8 (G ++ J)) := Lib.hid (by
        unfold OwnI
        rw [List.length_append, rowsL_append]
        exact hown)
      have HB8 := Lib.hid (bchain HB2.out HBL8.out)
      have HE8 := Lib.hid (HE2.out.below HBL8.out)
      have HAPP := Lib.hid happ
      obtain ⟨A8, n8, c8, hv8⟩ : ∃ A8 n8 c8, v8 = .slice A8 n8 c8 := by obtain ⟨A', c', hz, -, -⟩ := HO8.out.at_.form; exact ⟨A', _, c', hz⟩
      subst hv8
      clear hbb ho6 happ hown hgr
      obtain ⟨s0, s1, s2⟩ := HE8.out.cells
      by_cases hx : x = []
      · have x1 : (x == []) = true := beq_iff_eq.2 hx
        have x2 : x.isEmpty = true := by rw [hx]; rfl
        have HEQ := Lib.hid (HON.out.1 hx)
        rw [HEQ.out] at HO8
        obtain ⟨K, hK⟩ : ∃ K, Scn.allR S f e = K := ⟨_, rfl⟩
        have HKL : Hid (K.length ≤ 30) := Lib.hid (by rw [← hK]; exact HAL.out f)
        have HW8 := Lib.hid (HWI.out w8 HBL8.out)
        rw [hK] at HO8 HW8
        have HSI : Hid (∀ (u v : Value) (w' : World), ItAt w' u K → ItAt w' v K → Calls Tryz.prog 21 #[u, v] w' fun x w'' => x = .returned (.bool true) ∧ Below w'.heap.size w' w'') := Lib.hid (fun u v w' a b => by
          have h1 := sameI_any K K u v w' a b (by have := HKL.out; omega) (by have := HKL.out; omega)
          rw [decide_eq_true rfl] at h1
          exact h1)
        clear hx hK
        go_wp2_with (at_builtin; refine wpList_append_run rfl _ _ _ rfl _ _ _ (by rfl) (by rfl) HAPP.out ?_)
        refine HW8.out.mono ?_
        rintro y w9 ⟨A9, n9, c9, rfl, ho9, hb9⟩
        have HSJ := Lib.hid (HSI.out (.slice A8 n8 c8) (.slice A9 n9 c9) w9 (RowsAt.below HO8.out.at_ hb9) ho9.at_)
        have HB9 := Lib.hid (bchain HB8.out hb9)
        clear s0 s1 s2 hb9 ho9
        go_wp2_with fail
        refine HSJ.out.mono ?_
        rintro y wc ⟨rfl, hbc⟩
        have HBC := Lib.hid (bchain HB9.out hbc)
        clear hbc
        go_wp2
        go_ret
        exact ⟨rfl, HBC.out⟩
      · have x1 : (x == []) = false := beq_eq_false_iff_ne.2 hx
        have x2 : x.isEmpty = false := by cases x <;> simp_all
        have HEQ := Lib.hid (HON.out.2 hx)
        have HXS2 : Hid (x.length ≤ 2000000) := Lib.hid (Nat.le_trans HXS.out (by decide))
        clear hx
        go_wp2_with (at_builtin; refine wpList_append_run rfl _ _ _ rfl _ _ _ (by rfl) (by rfl) HAPP.out ?_)
        obtain rfl : n8 = (G ++ J).length := HO8.out.len
        exact ⟨⟨i + 1, G ++ J, x, A8, c8, by first | rfl | trivial, by go_num, by first | rfl | trivial, HXS2.out, HO8.out, HEQ.out.1, by have := HEQ.out.2; have := HIL.out; omega, HBL8.out⟩, by simp [intOf]; omega⟩
theorem spanPages_law (lv : Value) (L : St) (f e : T) (m : Int) (w : World) (hi : ItIn w lv L) (_ : L.length * 32 ≤ reachBytes) (_ : (Lit.int .i64 m).wf = true) (hf : f.length ≤ 1048576) (he : e.length ≤ 1048576) (hT : Tab w) :
    Calls Tryz.prog 7 #[lv, .agg #[.string ⟨f.toArray⟩, .string ⟨e.toArray⟩, .int .i64 m]] w fun x w' => x = .returned (.bool true) ∧ Below w.heap.size w w' := spanPages_walk lv L f e m w hi hT (Nat.le_trans hf (by decide)) (Nat.le_trans he (by decide))
end Go.Proofs.YtaficmboooaknaaGreatDoor
