/- The law SpanWhole, walked. -/
import Derived.Test.YtaficmboooaknaaGreatDoorPk25
namespace Go.Proofs.YtaficmboooaknaaGreatDoor
open Go.RowKit
open Sto (T St)

set_option maxRecDepth 100000 in
set_option maxHeartbeats 8000000 in
theorem spanWhole_walk (lv : Value) (L : St) (f e : T) (m : Int) (w : World) (hi : ItIn w lv L) (hT : Tab w) (hf : f.length ≤ 2000000) (he : e.length ≤ 2000000) :
    Calls Tryz.prog 5 #[lv, .agg #[.string ⟨f.toArray⟩, .string ⟨e.toArray⟩, .int .i64 m]] w fun x w' => x = .returned (.bool true) ∧ Below w.heap.size w w' := by
  obtain ⟨w0, hw0⟩ : ∃ w0, w.alloc (.cells #[.string ⟨f.toArray⟩, .string ⟨e.toArray⟩, .int .i64 m] 24) = w0 := ⟨_, rfl⟩
  obtain ⟨q0, hq0⟩ : ∃ q0, w.heap.size = q0 := ⟨_, rfl⟩
  have hb0 : Below w.heap.size w w0 := by rw [← hw0]; exact (Below.refl _ w).alloc (Nat.le_refl _) _
  have ra : EndsAt w0 q0 f e m := by rw [← hw0, ← hq0]; exact heap_alloc_new w _
  have HB0 := Lib.hid hb0
  have HE0 := Lib.hid ra
  have HI := Lib.hid (RowsIn.below hi hb0)
  have HT := Lib.hid (hT.below hb0)
  have HWK := Lib.hid (spworks_any w0 HT.out)
  have HFE : Hid (f.length ≤ 2000000 ∧ e.length ≤ 2000000) := Lib.hid ⟨hf, he⟩
  obtain ⟨A0, cap0, rfl, -, -⟩ := hi.form
  clear ra hb0 hi hT hf he
  go_enter Tryz.func5, Tryz.ntmps5
  go_upto_region 1 with fail
  try rw [hq0]
  clear hw0 hq0
  go_wp2_with fail
  refine HWK.out.mono ?_
  rintro x w1 ⟨rfl, hb1⟩
  have HB1 := Lib.hid (bchain HB0.out hb1)
  have HE1 := Lib.hid (HE0.out.below hb1)
  have HSO := Lib.hid (ssome_any L _ w1 (RowsIn.below HI.out hb1) (HT.out.below hb1))
  have HT1 := Lib.hid (HT.out.below hb1)
  unfold SSomePost at HSO
  clear hb1 HWK
  go_wp2_with fail
  refine HSO.out.mono ?_
  rintro x w2 ⟨g, z, rfl, ht, hz, hb2⟩
  obtain ⟨Az, capz, rfl, -, -⟩ := hz.form
  have HB2 := Lib.hid (bchain HB1.out hb2)
  have HE2 := Lib.hid (HE1.out.below hb2)
  have HT2 := Lib.hid (HT1.out.below hb2)
  have HR2 := Lib.hid ht
  obtain ⟨S, hS⟩ : ∃ S, Spn.someS L = S := ⟨_, rfl⟩
  rw [hS] at HR2
  clear ht hz hb2 HSO
  obtain ⟨_, t, _, _, hts⟩ := id HR2.out
  have HTS := Lib.hid hts
  have HPR := Lib.hid (spprove_any f e m w2 HR2.out HFE.out.1 HFE.out.2)
  unfold SPPost ptr at HPR
  clear hts hS
  by_cases hm : 1 ≤ m ∧ m ≤ 16
  case neg =>
    rw [page_bad hm] at HPR
    have hm1 : (decide (m < 1) || decide (16 < m)) = true := by
      by_cases h : m < 1
      · rw [decide_eq_true h]; rfl
      · rw [decide_eq_true (show 16 < m by omega)]; simp
    obtain ⟨p1, hp1⟩ : ∃ p, decide (m < 1) = p := ⟨_, rfl⟩
    obtain ⟨p2, hp2⟩ : ∃ p, decide (16 < m) = p := ⟨_, rfl⟩
    rw [hp1, hp2] at hm1
    obtain ⟨s0, s1, s2⟩ := HE2.out.cells
    clear hm
    go_wp2_with fail
    refine HPR.out.mono ?_
    rintro x w3 ⟨A1, n1, c1, A2, n2, c2, rfl, -, -, hb3⟩
    obtain ⟨w4, hw4⟩ : ∃ w4, w3.alloc (.cells #[.slice A1 n1 c1, .string ⟨#[]⟩, .slice A2 n2 c2] 31) = w4 := ⟨_, rfl⟩
    have hb4 : Below w3.heap.size w3 w4 := by rw [← hw4]; exact (Below.refl _ w3).alloc (Nat.le_refl _) _
    have HB4 := Lib.hid (bchain (bchain HB2.out hb3) hb4)
    have HE4 := Lib.hid ((HE2.out.below hb3).below hb4)
    clear s0 s1 s2 hb3 hb4
    go_upto_region 5 with fail
    try rw [hw4]
    clear hw4
    obtain ⟨s0, s1, s2⟩ := HE4.out.cells
    cases p1 with
    | true =>
      clear hm1
      go_wp2
      go_ret
      exact ⟨rfl, HB4.out⟩
    | false =>
      cases p2 with
      | false => cases hm1
      | true =>
        clear hm1
        go_wp2
        go_ret
        exact ⟨rfl, HB4.out⟩
  have HM := Lib.hid hm
  have hm2 := (page_row (S := S) (f := f) (e := e) hm).2
  rw [hm2] at HPR
  have HVP := Lib.hid (verify_page HTS.out f e hm)
  have HLN := Lib.hid (page_next HTS.out f e hm)
  have HTK := Lib.hid (page_row (S := S) (f := f) (e := e) hm).1
  have HPS := Lib.hid (pnodes_short HTS.out f e m)
  have HPL := Lib.hid (pnodes_len HTS.out f e m)
  obtain ⟨P, hP⟩ : ∃ P, pnodes S f e m = P := ⟨_, rfl⟩
  rw [hP] at HPR HVP HPS HPL
  obtain ⟨J, hJ⟩ : ∃ J, (Scn.pageR S f e m).1 = J := ⟨_, rfl⟩
  obtain ⟨x, hx⟩ : ∃ x, (Scn.pageR S f e m).2.1 = x := ⟨_, rfl⟩
  rw [hJ, hx] at HPR HVP
  rw [hJ] at HTK
  rw [hx] at HLN
  have HAL : Hid ((Scn.allR S f e).length ≤ S.length) := Lib.hid (Scn.allR_len S f e)
  have HFW := Lib.hid HR2.out.few
  have HWI : Hid (∀ w', TrAt w' g S → Calls Tryz.prog 24 #[.pointer (some ⟨g, 0, none⟩), .string ⟨f.toArray⟩, .string ⟨e.toArray⟩] w' fun x w'' => ∃ (A : Option Addr) (n c : Nat), x = .returned (.slice A n c) ∧ OwnI w'' w'.heap.size (.slice A n c) (Scn.allR S f e) ∧ Below w'.heap.size w' w'') := Lib.hid (fun w' h => spwithin_any f e w' h)
  obtain ⟨K, hK⟩ : ∃ K, Scn.allR S f e = K := ⟨_, rfl⟩
  rw [hK] at HTK HLN HAL HWI
  clear hm hm2 hP hJ hx hK
  obtain ⟨s0, s1, s2⟩ := HE2.out.cells
  go_wp2_with fail
  refine HPR.out.mono ?_
  rintro y w3 ⟨A1, n1, c1, A2, n2, c2, rfl, ho3, hn3, hb3⟩
  obtain ⟨w4, hw4⟩ : ∃ w4, w3.alloc (.cells #[.slice A1 n1 c1, .string ⟨x.toArray⟩, .slice A2 n2 c2] 31) = w4 := ⟨_, rfl⟩
  obtain ⟨q4, hq4⟩ : ∃ q4, w3.heap.size = q4 := ⟨_, rfl⟩
  have hb4 : Below w3.heap.size w3 w4 := by rw [← hw4]; exact (Below.refl _ w3).alloc (Nat.le_refl _) _
  have HB4 := Lib.hid (bchain (bchain HB2.out hb3) hb4)
  have HE4 := Lib.hid ((HE2.out.below hb3).below hb4)
  have HR4 := Lib.hid ((HR2.out.below hb3).below hb4)
  have HT4 := Lib.hid ((HT2.out.below hb3).below hb4)
  have HO4 := Lib.hid (ho3.below hb4)
  have HN4 := Lib.hid (hn3.below hb4)
  have HP4 : Hid (PageAt w4 q4 (.slice A1 n1 c1) x (.slice A2 n2 c2)) := Lib.hid (by rw [← hw4, ← hq4]; exact heap_alloc_new w3 _)
  clear s0 s1 s2 hb3 hb4 ho3 hn3 HPR
  go_upto_region 5 with fail
  try rw [hw4]
  try rw [hq4]
  clear hw4 hq4
  go_upto_region 7 with fail
  have HRT : Hid (∀ w', Below w4.heap.size w4 w' → Calls Tryz.prog 23 #[.pointer (some ⟨g, 0, none⟩)] w' fun e w'' => e = .returned (.string ⟨(rootS S).toArray⟩) ∧ Below w4.heap.size w4 w'') := Lib.hid (fun w' h => (sroot_any w' (HR4.out.below h)).mono fun e w'' ⟨a, b⟩ => ⟨a, bchain h b⟩)
  have HVE : Hid (∀ w', Below w4.heap.size w4 w' → Calls Tryz.prog 19 #[.string ⟨(rootS S).toArray⟩, .string ⟨f.toArray⟩, .string ⟨e.toArray⟩, .int .i64 m, .agg #[.slice A1 n1 c1, .string ⟨x.toArray⟩, .slice A2 n2 c2]] w' fun y w'' => ∃ (A : Option Addr) (n cap : Nat), y = .returned (.tuple #[.slice A n cap, .string ⟨x.toArray⟩, .int .i64 0]) ∧ ItAt w'' (.slice A n cap) J ∧ Below w4.heap.size w4 w'') := Lib.hid (fun w' h => by
    have h1 := spverify_any (rootS S) f e m (.slice A1 n1 c1) J x (.slice A2 n2 c2) P w' (RowsAt.inn (RowsAt.below HO4.out.at_ h)) ((StrsC.of_own HN4.out).below h) (HT4.out.below h) (fun y hy => Nat.le_trans (HPS.out y hy) (by decide)) (Nat.le_trans HPL.out (by decide)) HFE.out.1 HFE.out.2
    rw [HVP.out] at h1
    unfold SVPost at h1
    exact h1.mono fun e w'' ⟨A, n, c, p1, p2, p3⟩ => ⟨A, n, c, p1, p2.at_, bchain h p3⟩)
  obtain ⟨RT, hRT⟩ : ∃ RT, rootS S = RT := ⟨_, rfl⟩
  rw [hRT] at HRT HVE
  have HS : Hid (∀ w', Below w4.heap.size w4 w' → Below w4.heap.size w4 w' ∧ w'.cell? ⟨q0, 0, none⟩ = some (.string ⟨f.toArray⟩) ∧ w'.cell? ⟨q0, 1, none⟩ = some (.string ⟨e.toArray⟩) ∧ w'.cell? ⟨q0, 2, none⟩ = some (.int .i64 m) ∧ w'.cell? ⟨q4, 0, none⟩ = some (.slice A1 n1 c1) ∧ w'.cell? ⟨q4, 1, none⟩ = some (.string ⟨x.toArray⟩) ∧ w'.cell? ⟨q4, 2, none⟩ = some (.slice A2 n2 c2)) := Lib.hid (fun w' h => by
    obtain ⟨a1, a2, a3⟩ := (HE4.out.below h).cells
    obtain ⟨a4, a5, a6⟩ := (HP4.out.below h).cells
    exact ⟨h, a1, a2, a3, a4, a5, a6⟩)
  have BD : Below w4.heap.size w4 w4.drew := (Below.refl _ _).drew
  clear hRT
  go_region_held3 (fun w' => Below w4.heap.size w4 w' ∧ w'.cell? ⟨q0, 0, none⟩ = some (.string ⟨f.toArray⟩) ∧ w'.cell? ⟨q0, 1, none⟩ = some (.string ⟨e.toArray⟩) ∧ w'.cell? ⟨q0, 2, none⟩ = some (.int .i64 m) ∧ w'.cell? ⟨q4, 0, none⟩ = some (.slice A1 n1 c1) ∧ w'.cell? ⟨q4, 1, none⟩ = some (.string ⟨x.toArray⟩) ∧ w'.cell? ⟨q4, 2, none⟩ = some (.slice A2 n2 c2))
    ((refine HS.out _ ?_; first | (with_reducible assumption) | exact And.left (by with_reducible assumption)))
    (first | (go_at_call 23; refine (HRT.out _ ?_).mono ?_; (first | (with_reducible assumption) | exact And.left (by with_reducible assumption)); rintro y wa ⟨rfl, hba⟩) | (go_at_call 19; refine (HVE.out _ ?_).mono ?_; (first | (with_reducible assumption) | exact And.left (by with_reducible assumption)); rintro y wb ⟨A6, n6, c6, rfl, ho6, hbb⟩))
  all_goals
    obtain ⟨s0, s1, s2⟩ := (HE4.out.below hbb).cells
    have HB7 := Lib.hid (bchain HB4.out hbb)
    have HE7 := Lib.hid (HE4.out.below hbb)
    have HR7 := Lib.hid (HR4.out.below hbb)
    have HP7 := Lib.hid (HP4.out.below hbb)
    have HO7 := Lib.hid (RowsAt.below HO4.out.at_ hbb)
    have HJ7 := Lib.hid ho6
    have hn6 : n6 = J.length := by obtain ⟨A', c', hz, -, -⟩ := ho6.form; injection hz
    have hn1 : n1 = J.length := HO4.out.len
    subst hn6 hn1
    clear hbb ho6
    go_wp2_with fail
    refine (HWI.out wb HR7.out).mono ?_
    rintro y w8 ⟨A8, n8, c8, rfl, ho8, hb8⟩
    obtain rfl : n8 = K.length := ho8.len
    have HB8 := Lib.hid (bchain HB7.out hb8)
    have HJ8 := Lib.hid (RowsAt.below HJ7.out hb8)
    have HO8 := Lib.hid (RowsAt.below HO7.out hb8)
    have HE8 := Lib.hid (HE7.out.below hb8)
    have HP8 := Lib.hid (HP7.out.below hb8)
    have HK8 := Lib.hid ho8.at_
    clear s0 s1 s2 hb8 ho8
    obtain ⟨s3, s4, s5⟩ := HP8.out.cells
    have HSI : Hid (∀ (I' K' : St) (u v : Value) (w' : World), ItAt w' u I' → ItAt w' v K' → I'.length ≤ 1000000 → K'.length ≤ 1000000 → Calls Tryz.prog 21 #[u, v] w' fun x w'' => x = .returned (.bool (decide (I' = K'))) ∧ Below w'.heap.size w' w'') := Lib.hid (fun I' K' u v w' a b c d => sameI_any I' K' u v w' a b c d)
    have HJL : Hid (J.length ≤ 1000000) := Lib.hid (by rw [HTK.out]; have := HAL.out; have := HFW.out; simp; omega)
    have HKL : Hid (K.length ≤ 1000000) := Lib.hid (by have := HAL.out; have := HFW.out; omega)
    go_wp2_with fail
    refine (HSI.out J J _ _ w8 HJ8.out HO8.out HJL.out HJL.out).mono ?_
    rintro y w9 ⟨rfl, hb9⟩
    have HB9 := Lib.hid (bchain HB8.out hb9)
    have HJ9 := Lib.hid (RowsAt.below HJ8.out hb9)
    have HK9 := Lib.hid (RowsAt.below HK8.out hb9)
    obtain ⟨s6, s7, s8⟩ := (HP8.out.below hb9).cells
    obtain ⟨s0, s1, s2⟩ := (HE8.out.below hb9).cells
    have HE9 := Lib.hid (HE8.out.below hb9)
    have y1 : (decide (J = J)) = true := decide_eq_true rfl
    have y2 : (x == x) = true := beq_self_eq_true _
    clear hb9 s3 s4 s5
    obtain ⟨k, hk⟩ : ∃ k, min K.length m.toNat = k := ⟨_, rfl⟩
    have y3 : min (K.length : Int) m = (k : Int) := by have := HM.out; omega
    have HC8 : Hid (K.length ≤ c8) := Lib.hid (by obtain ⟨A', c', hz, hc, -⟩ := HK8.out.form; injection hz with _ _ hz3; omega)
    have z1 : (0 : Int) ≤ (k : Int) := by omega
    have z2 : (k : Int) ≤ (c8 : Int) := by have := HC8.out; omega
    have z3 : k ≤ c8 := by have := HC8.out; omega
    have HKT : Hid (ItAt w9 (.slice A8 k c8) (K.take k)) := Lib.hid (RowsAt.take HK9.out k (by omega))
    have HTE : Hid (K.take k = J) := Lib.hid (by
      rw [HTK.out, ← hk]
      rcases Nat.le_total K.length m.toNat with h | h
      · rw [Nat.min_eq_left h, List.take_of_length_le h, List.take_length]
      · rw [Nat.min_eq_right h])
    rw [HTE.out] at HKT
    have HXM : Hid (x = [] ↔ (K.length : Int) ≤ m) := Lib.hid (HLN.out.trans (by have := HM.out; omega))
    clear hk
    go_wp2_with fail
    refine (HSI.out J J _ _ w9 HJ9.out HKT.out HJL.out HJL.out).mono ?_
    rintro y wc ⟨rfl, hbc⟩
    have HBC := Lib.hid (bchain HB9.out hbc)
    obtain ⟨t0, t1, t2⟩ := (HE9.out.below hbc).cells
    clear hbc s0 s1 s2 s6 s7 s8 z1 z2 z3 y3
    by_cases hx : x = []
    · have x1 : (x == []) = true := beq_iff_eq.2 hx
      have x2 : x.isEmpty = true := by rw [hx]; rfl
      have x3 : decide (m < (K.length : Int)) = false := decide_eq_false (by have := HXM.out.1 hx; omega)
      clear hx
      go_wp2
      go_ret
      exact ⟨rfl, HBC.out⟩
    · have x1 : (x == []) = false := beq_eq_false_iff_ne.2 hx
      have x2 : x.isEmpty = false := by cases x <;> simp_all
      have x3 : decide (m < (K.length : Int)) = true := decide_eq_true (by have h : ¬ (K.length : Int) ≤ m := fun h => hx (HXM.out.2 h); omega)
      clear hx
      go_wp2
      go_ret
      exact ⟨rfl, HBC.out⟩
theorem spanWhole_law (lv : Value) (L : St) (f e : T) (m : Int) (w : World) (hi : ItIn w lv L) (_ : L.length * 32 ≤ reachBytes) (_ : (Lit.int .i64 m).wf = true) (hf : f.length ≤ 1048576) (he : e.length ≤ 1048576) (hT : Tab w) :
    Calls Tryz.prog 5 #[lv, .agg #[.string ⟨f.toArray⟩, .string ⟨e.toArray⟩, .int .i64 m]] w fun x w' => x = .returned (.bool true) ∧ Below w.heap.size w w' := spanWhole_walk lv L f e m w hi hT (Nat.le_trans hf (by decide)) (Nat.le_trans he (by decide))
end Go.Proofs.YtaficmboooaknaaGreatDoor
