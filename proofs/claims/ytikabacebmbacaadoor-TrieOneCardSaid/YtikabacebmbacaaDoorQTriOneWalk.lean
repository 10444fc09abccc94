/- The law TrieOne, walked. -/
import Derived.Test.YtikabacebmbacaaDoorPk12
namespace Go.Proofs.YtikabacebmbacaaDoor
open Go.RowKit
open Sto (T St)
open Tri (Tr)

set_option maxRecDepth 100000 in
set_option maxHeartbeats 8000000 in
theorem trieOne_walk (v : Value) (L : List ActT) (u : Value) (M : List ActT) (w : World) (hv : TActs w v L) (hu : TActs w u M) (hT : Tab w) :
    Calls Tryd.prog 5 #[v, u] w fun e w' => e = .returned (.bool true) ∧ Below w.heap.size w w' := by
  have HWK := Lib.hid (tworks_any w hT)
  have HLO := Lib.hid (fun w' (hb : Below w.heap.size w w') => long_any L 30 v w' (hv.below hb) (by omega))
  have HLO2 := Lib.hid (fun w' (hb : Below w.heap.size w w') => long_any M 30 u w' (hu.below hb) (by omega))
  have HMD := Lib.hid (fun (hl : L.length ≤ 30) w' (hb : Below w.heap.size w w') => made_any L v w' (hv.below hb) hl (hT.below hb))
  have HMD2 := Lib.hid (fun (hl : M.length ≤ 30) w' (hb : Below w.heap.size w w') => made_any M u w' (hu.below hb) hl (hT.below hb))
  have HTB := Lib.hid (fun w' (hb : Below w.heap.size w w') => hT.below hb)
  have HNO := Lib.hid (@long_no L 30)
  have HNO2 := Lib.hid (@long_no M 30)
  clear hv hu hT
  go_enter Tryd.func5, Tryd.ntmps5
  go_wp2_with fail
  refine HWK.out.mono ?_
  rintro e w1 ⟨rfl, hb1⟩
  have HB1 := Lib.hid hb1
  clear hb1
  go_wp2_with fail
  refine (HLO.out _ HB1.out).mono ?_
  rintro e w2 ⟨rfl, hb2⟩
  have HB2 := Lib.hid (bchain HB1.out hb2)
  clear hb2
  obtain ⟨lb, hlb⟩ : ∃ lb, longB L 30 = lb := ⟨_, rfl⟩
  rw [hlb]
  cases lb with
  | true =>
    clear hlb
    go_wp2
    go_ret
    exact ⟨rfl, HB2.out⟩
  | false =>
  have HLL := Lib.hid (HNO.out hlb).1
  clear hlb
  go_wp2_with fail
  refine (HLO2.out _ HB2.out).mono ?_
  rintro e w3 ⟨rfl, hb3⟩
  have HB3 := Lib.hid (bchain HB2.out hb3)
  clear hb3
  obtain ⟨lb, hlb⟩ : ∃ lb, longB M 30 = lb := ⟨_, rfl⟩
  rw [hlb]
  cases lb with
  | true =>
    clear hlb
    go_wp2
    go_ret
    exact ⟨rfl, HB3.out⟩
  | false =>
  have HML := Lib.hid (HNO2.out hlb).1
  clear hlb
  go_wp2_with fail
  refine (HMD.out HLL.out _ HB3.out).mono ?_
  rintro e w4 ⟨g, rfl, t4, hb4⟩
  have HB4 := Lib.hid (bchain HB3.out hb4)
  have HX := Lib.hid (fun w' (hb : Below w4.heap.size w4 w') => t4.below hb)
  have HK4 := Lib.hid (Below.refl w4.heap.size w4)
  obtain ⟨top4, tr4, -, -, s4⟩ := t4
  clear hb4
  unfold ptr
  go_wp2_with fail
  refine (HMD2.out HML.out _ HB4.out).mono ?_
  rintro e w5 ⟨h, rfl, t5, hb5⟩
  have HB5 := Lib.hid (bchain HB4.out hb5)
  have HK5 := Lib.hid hb5
  have HY := Lib.hid (fun w' (hb : Below w5.heap.size w5 w') => t5.below hb)
  obtain ⟨top5, tr5, -, -, s5⟩ := t5
  obtain ⟨S, hS⟩ : ∃ S, madeS L = S := ⟨_, rfl⟩
  obtain ⟨U, hU⟩ : ∃ U, madeS M = U := ⟨_, rfl⟩
  rw [hS] at HX s4
  rw [hU] at HY s5
  have HS4 := Lib.hid s4
  have HS5 := Lib.hid s5
  have HIN : Hid (decide (nodesS S = nodesS U) = decide (S = U)) := Lib.hid (by rw [decide_eq_decide]; exact ⟨nodesS_inj s4 s5, fun e => by rw [e]⟩)
  have HOF := Lib.hid (of_self s4)
  have HRN := Lib.hid (rootS_nil s4)
  have HFS := Lib.hid s4.few
  have HFU := Lib.hid s5.few
  clear hb5 s4 s5 hS hU HMD HMD2 HLO HLO2 HNO HNO2 HLL HML
  unfold ptr
  have HY5 := Lib.hid (Below.refl w5.heap.size w5)
  go_wp2_with fail
  refine (sitems_any _ (HX.out _ HK5.out)).mono ?_
  rintro e w6 ⟨z1, rfl, o1, hb6⟩
  have HB6 := Lib.hid (bchain HB5.out hb6)
  have HK6 := Lib.hid (bchain HK5.out hb6)
  have HY6 := Lib.hid (bchain HY5.out hb6)
  have HO1 := Lib.hid (fun w' (hb : Below w6.heap.size w6 w') => o1.below hb)
  clear o1
  clear hb6
  have HP6 := Lib.hid (Below.refl w6.heap.size w6)
  go_wp2_with fail
  refine (sitems_any _ (HY.out _ HY6.out)).mono ?_
  rintro e w7 ⟨z2, rfl, o2, hb7⟩
  have HB7 := Lib.hid (bchain HB6.out hb7)
  have HK7 := Lib.hid (bchain HK6.out hb7)
  have HY7 := Lib.hid (bchain HY6.out hb7)
  have HO2 := Lib.hid o2
  have HP7 := Lib.hid hb7
  clear o2
  clear hb7
  go_wp2_with fail
  refine (sameI_any S U _ _ _ (HO1.out _ HP7.out).at_ HO2.out.at_ (by have := HFS.out; omega) (by have := HFU.out; omega)).mono ?_
  rintro e w8 ⟨rfl, hb8⟩
  have HB8 := Lib.hid (bchain HB7.out hb8)
  have HK8 := Lib.hid (bchain HK7.out hb8)
  have HY8 := Lib.hid (bchain HY7.out hb8)
  clear hb8
  go_wp2_with fail
  refine (sitems_any _ (HX.out _ HK8.out)).mono ?_
  rintro e w9 ⟨z3, rfl, o3, hb9⟩
  have HB9 := Lib.hid (bchain HB8.out hb9)
  have HK9 := Lib.hid (bchain HK8.out hb9)
  have HY9 := Lib.hid (bchain HY8.out hb9)
  have HO3 := Lib.hid o3
  clear o3
  clear hb9
  go_wp2_with fail
  refine (tof_any S _ _ HO3.out.at_ (by have := HFS.out; omega) (HTB.out _ HB9.out)).mono ?_
  rintro e w10 ⟨zo, rfl, ho1, -, hb10⟩
  rw [HOF.out] at ho1 ⊢
  obtain ⟨gn, rfl, tn⟩ := ho1 rfl
  have HB10 := Lib.hid (bchain HB9.out hb10)
  have HK10 := Lib.hid (bchain HK9.out hb10)
  have HY10 := Lib.hid (bchain HY9.out hb10)
  have HA := Lib.hid (fun w' (hb : Below w10.heap.size w10 w') => tn.below hb)
  have HA10 := Lib.hid (Below.refl w10.heap.size w10)
  have HNL := Lib.hid tn.nodes_len
  clear ho1 tn hb10
  unfold ptr
  go_wp2_with fail
  refine (sroot_any _ (HA.out _ HA10.out)).mono ?_
  rintro e w11 ⟨rfl, hb11⟩
  have HB11 := Lib.hid (bchain HB10.out hb11)
  have HK11 := Lib.hid (bchain HK10.out hb11)
  have HY11 := Lib.hid (bchain HY10.out hb11)
  have HA11 := Lib.hid (bchain HA10.out hb11)
  clear hb11
  go_wp2_with fail
  refine (sroot_any _ (HX.out _ HK11.out)).mono ?_
  rintro e w12 ⟨rfl, hb12⟩
  have HB12 := Lib.hid (bchain HB11.out hb12)
  have HK12 := Lib.hid (bchain HK11.out hb12)
  have HY12 := Lib.hid (bchain HY11.out hb12)
  have HA12 := Lib.hid (bchain HA11.out hb12)
  have hre : (rootS S == rootS S) = true := beq_self_eq_true _
  obtain ⟨RR, hRR⟩ : ∃ RR, rootS S = RR := ⟨_, rfl⟩
  have HRR := Lib.hid hRR
  rw [hRR] at hre ⊢
  clear hRR
  clear hb12
  go_wp2_with fail
  refine (snodes_any _ (HA.out _ HA12.out)).mono ?_
  rintro e w13 ⟨z4, rfl, o4, hb13⟩
  have HB13 := Lib.hid (bchain HB12.out hb13)
  have HK13 := Lib.hid (bchain HK12.out hb13)
  have HY13 := Lib.hid (bchain HY12.out hb13)
  have HA13 := Lib.hid (bchain HA12.out hb13)
  have HO4 := Lib.hid o4
  clear o4
  clear hb13
  go_wp2_with fail
  refine (snodes_any _ (HX.out _ HK13.out)).mono ?_
  rintro e w14 ⟨z5, rfl, o5, hb14⟩
  have HB14 := Lib.hid (bchain HB13.out hb14)
  have HK14 := Lib.hid (bchain HK13.out hb14)
  have HY14 := Lib.hid (bchain HY13.out hb14)
  have HA14 := Lib.hid (bchain HA13.out hb14)
  have HO4' := Lib.hid (HO4.out.below hb14)
  have HO5 := Lib.hid o5
  clear o5
  clear hb14
  go_wp2_with fail
  refine (same_any (nodesS S) (nodesS S) _ _ _ HO4'.out.strs HO5.out.strs (by have := HNL.out; omega) (by have := HNL.out; unfold maxLen; omega)).mono ?_
  rintro e w15 ⟨rfl, hb15⟩
  have HB15 := Lib.hid (bchain HB14.out hb15)
  have HK15 := Lib.hid (bchain HK14.out hb15)
  have HY15 := Lib.hid (bchain HY14.out hb15)
  have HA15 := Lib.hid (bchain HA14.out hb15)
  have hde : decide (nodesS S = nodesS S) = true := decide_eq_true rfl
  rw [hde]
  clear hde
  clear hb15
  go_wp2_with fail
  refine (snodes_any _ (HX.out _ HK15.out)).mono ?_
  rintro e w16 ⟨z6, rfl, o6, hb16⟩
  have HB16 := Lib.hid (bchain HB15.out hb16)
  have HK16 := Lib.hid (bchain HK15.out hb16)
  have HY16 := Lib.hid (bchain HY15.out hb16)
  have HA16 := Lib.hid (bchain HA15.out hb16)
  have HO6 := Lib.hid o6
  clear o6
  clear hb16
  go_wp2_with fail
  refine (snodes_any _ (HY.out _ HY16.out)).mono ?_
  rintro e w17 ⟨z7, rfl, o7, hb17⟩
  have HB17 := Lib.hid (bchain HB16.out hb17)
  have HK17 := Lib.hid (bchain HK16.out hb17)
  have HY17 := Lib.hid (bchain HY16.out hb17)
  have HA17 := Lib.hid (bchain HA16.out hb17)
  have HO6' := Lib.hid (HO6.out.below hb17)
  have HO7 := Lib.hid o7
  have HNU := Lib.hid (HY.out _ (bchain HY16.out hb17)).nodes_len
  clear o7
  clear hb17
  go_wp2_with fail
  refine (same_any (nodesS S) (nodesS U) _ _ _ HO6'.out.strs HO7.out.strs (by have := HNL.out; omega) (by have := HNU.out; unfold maxLen; omega)).mono ?_
  rintro e w18 ⟨rfl, hb18⟩
  have HB18 := Lib.hid (bchain HB17.out hb18)
  have HK18 := Lib.hid (bchain HK17.out hb18)
  have HY18 := Lib.hid (bchain HY17.out hb18)
  have HA18 := Lib.hid (bchain HA17.out hb18)
  clear hb18
  rw [HIN.out]
  by_cases hSU : S = U
  · have hde : decide (S = U) = true := decide_eq_true hSU
    rw [hde]
    have HSU := Lib.hid hSU
    clear hSU hde
    have hbb : (true == true) = true := rfl
    go_wp2_with fail
    refine (sroot_any _ (HX.out _ HK18.out)).mono ?_
    rintro e w19 ⟨rfl, hb19⟩
    have HB19 := Lib.hid (bchain HB18.out hb19)
    have HK19 := Lib.hid (bchain HK18.out hb19)
    have HY19 := Lib.hid (bchain HY18.out hb19)
    have HA19 := Lib.hid (bchain HA18.out hb19)
    rw [HRR.out]
    clear hb19
    go_wp2_with fail
    refine (sroot_any _ (HY.out _ HY19.out)).mono ?_
    rintro e w20 ⟨rfl, hb20⟩
    have HB20 := Lib.hid (bchain HB19.out hb20)
    have HK20 := Lib.hid (bchain HK19.out hb20)
    have HY20 := Lib.hid (bchain HY19.out hb20)
    have HA20 := Lib.hid (bchain HA19.out hb20)
    rw [← HSU.out, HRR.out]
    clear hb20
    go_wp2_with fail
    refine (sroot_any _ (HX.out _ HK20.out)).mono ?_
    rintro e w21 ⟨rfl, hb21⟩
    have HB21 := Lib.hid (bchain HB20.out hb21)
    have HK21 := Lib.hid (bchain HK20.out hb21)
    have HY21 := Lib.hid (bchain HY20.out hb21)
    have HA21 := Lib.hid (bchain HA20.out hb21)
    rw [HRR.out]
    clear hb21
    go_wp2_with fail
    refine (tlen_any _ (HX.out _ HK21.out)).mono ?_
    rintro e w22 ⟨rfl, rfl⟩
    have hfin : ((RR == []) == ((S.length : Int) == 0)) = true := by
      have h1 := HRN.out
      rw [HRR.out] at h1
      by_cases hn : S = []
      · rw [h1.2 hn, hn]; rfl
      · have h2 : ¬ RR = [] := fun e => hn (h1.1 e)
        have h3 : (RR == []) = false := by rw [beq_eq_false_iff_ne]; exact h2
        have h4 : ((S.length : Int) == 0) = false := by
          rw [beq_eq_false_iff_ne]
          intro e
          exact hn (List.eq_nil_of_length_eq_zero (by omega))
        rw [h3, h4]; rfl
    obtain ⟨q1, hq1⟩ : ∃ q, (RR == []) = q := ⟨_, rfl⟩
    obtain ⟨q2, hq2⟩ : ∃ q, ((S.length : Int) == 0) = q := ⟨_, rfl⟩
    rw [hq1, hq2] at hfin
    have hRE : RR.isEmpty = q1 := by rw [← hq1]; cases RR <;> rfl
    cases q1
    all_goals cases q2
    all_goals first | (exfalso; revert hfin; decide) | skip
    all_goals go_wp2
    all_goals go_ret
    all_goals exact ⟨rfl, HB21.out⟩
  · have hde : decide (S = U) = false := decide_eq_false hSU
    rw [hde]
    clear hSU hde
    have hbb : (false == false) = true := rfl
    go_wp2_with fail
    refine (sroot_any _ (HX.out _ HK18.out)).mono ?_
    rintro e w19 ⟨rfl, hb19⟩
    have HB19 := Lib.hid (bchain HB18.out hb19)
    have HK19 := Lib.hid (bchain HK18.out hb19)
    have HY19 := Lib.hid (bchain HY18.out hb19)
    have HA19 := Lib.hid (bchain HA18.out hb19)
    rw [HRR.out]
    clear hb19
    go_wp2_with fail
    refine (tlen_any _ (HX.out _ HK19.out)).mono ?_
    rintro e w20 ⟨rfl, rfl⟩
    have hfin : ((RR == []) == ((S.length : Int) == 0)) = true := by
      have h1 := HRN.out
      rw [HRR.out] at h1
      by_cases hn : S = []
      · rw [h1.2 hn, hn]; rfl
      · have h2 : ¬ RR = [] := fun e => hn (h1.1 e)
        have h3 : (RR == []) = false := by rw [beq_eq_false_iff_ne]; exact h2
        have h4 : ((S.length : Int) == 0) = false := by
          rw [beq_eq_false_iff_ne]
          intro e
          exact hn (List.eq_nil_of_length_eq_zero (by omega))
        rw [h3, h4]; rfl
    obtain ⟨q1, hq1⟩ : ∃ q, (RR == []) = q := ⟨_, rfl⟩
    obtain ⟨q2, hq2⟩ : ∃ q, ((S.length : Int) == 0) = q := ⟨_, rfl⟩
    rw [hq1, hq2] at hfin
    have hRE : RR.isEmpty = q1 := by rw [← hq1]; cases RR <;> rfl
    cases q1
    all_goals cases q2
    all_goals first | (exfalso; revert hfin; decide) | skip
    all_goals go_wp2
    all_goals go_ret
    all_goals exact ⟨rfl, HB19.out⟩
theorem trieOne_law (v : Value) (L : List ActT) (u : Value) (M : List ActT) (w : World) (hv : TActs w v L) (_ : L.length * 40 ≤ reachBytes) (_ : ∀ s ∈ L, OkTAct s) (hu : TActs w u M) (_ : M.length * 40 ≤ reachBytes) (_ : ∀ s ∈ M, OkTAct s) (hT : Tab w) :
    Calls Tryd.prog 5 #[v, u] w fun e w' => e = .returned (.bool true) ∧ Below w.heap.size w w' := trieOne_walk v L u M w hv hu hT
end Go.Proofs.YtikabacebmbacaaDoor
