/- The law TrieSaved, walked. -/
import Derived.Test.YtbkanebkobjnnaaGreatDoorPk17
import Derived.Test.YtbkanebkobjnnaaGreatDoorPk19
import Derived.Test.YtbkanebkobjnnaaGreatDoorPk18
import Derived.Test.YtbkanebkobjnnaaGreatDoorPk12
namespace Go.Proofs.YtbkanebkobjnnaaGreatDoor
open Go.RowKit
open Sto (T St)
open Tri (Tr Ok hb)

theorem paths_inj {S U : St} (h : Tri.paths S = Tri.paths U) : S = U := by
  unfold Tri.paths at h
  refine (List.map_inj_right fun x y e => ?_).1 h
  have e1 := congrArg Prod.fst e
  have e2 := congrArg Prod.snd e
  exact Prod.ext ((Tri.ofL_eq _ _).1 e1) e2
theorem TrS.one {S U : St} {t : Tr} (h : TrS S t) (k : TrS U t) : S = U := paths_inj (h.tree.2.2.symm.trans k.tree.2.2)
/-- Of tries whose nodes are in one store, those of one sum have the same items. -/
theorem TrS.same {S U st : St} {t u : Tr} (h : TrS S t) (k : TrS U u) (ht : t.inS st) (hu : u.inS st) (e : t.sum Nd.sumS = u.sum Nd.sumS) : S = U := by
  by_cases n1 : t.isNil
  · by_cases n2 : u.isNil
    · rw [Tri.nil_of_isNil n1] at h; rw [Tri.nil_of_isNil n2] at k
      exact h.one k
    · rw [Tri.nil_of_isNil n1] at e
      exact absurd e.symm (k.ok.sum_ne n2)
  · by_cases n2 : u.isNil
    · rw [Tri.nil_of_isNil n2] at e
      exact absurd e (h.ok.sum_ne n1)
    · have := inS_one h.ok k.ok n1 n2 ht hu e
      subst this
      exact h.one k
/-- The store behind both saves. -/
def bothS (S U : St) : St := putAll (putAll [] (nodesS U)) (nodesS S)
theorem both_own (S U : St) : OwnSums (bothS S U) := (putAll_own _ (putAll_own _ Sto.rising_nil OwnSums.nil).2 (putAll_own _ Sto.rising_nil OwnSums.nil).1).1
theorem both_in {S U : St} {t u : Tr} (h : TrS S t) (k : TrS U u) (hn : ¬ Clash (nodesS S ++ nodesS U)) : t.inS (bothS S U) ∧ u.inS (bothS S U) := by
  obtain ⟨a1, a2, _⟩ := putAll_keep hn (nodesS U) (OfTexts.nil _) (fun t ht => List.mem_append_right _ ht)
  obtain ⟨b1, b2, b3⟩ := putAll_keep hn (nodesS S) a1 (fun t ht => List.mem_append_left _ ht)
  refine ⟨inS_of h.ok fun n hn' => ?_, inS_of k.ok fun n hn' => ?_⟩
  · exact b2 _ (by rw [nodesS_nodes h]; exact List.mem_map.2 ⟨n, hn', rfl⟩)
  · exact b3 _ _ (a2 _ (by rw [nodesS_nodes k]; exact List.mem_map.2 ⟨n, hn', rfl⟩))
theorem rootS_tree {S : St} {t : Tr} (h : TrS S t) : rootS S = t.sum Nd.sumS := by
  unfold rootS
  rw [treeS_of h]
theorem nodesS_few {S : St} {t : Tr} (h : TrS S t) : (nodesS S).length ≤ 3072 := by
  rw [nodesS_nodes h, List.length_map, ← Tri.spots_nodes Nd.sumS t [], List.length_map]
  have h1 := Tri.spots_few Nd.sumS h.tree.1 []
  rw [h.tree.2.2] at h1
  simp [Tri.paths] at h1
  have h2 := h.few
  omega
theorem root_short {S : St} {t : Tr} (h : TrS S t) : (rootS S).length ≤ 32 := by
  rw [rootS_tree h]
  by_cases hn : t.isNil
  · rw [Tri.nil_of_isNil hn]; simp [Tri.Tr.sum]
  · rw [h.ok.sum_len hn]; omega
set_option maxRecDepth 100000 in
set_option maxHeartbeats 8000000 in
theorem trieSaved_walk (v : Value) (L : List ActT) (u : Value) (M : List ActT) (w : World) (hv : TActs w v L) (hu : TActs w u M) (hT : Tab w) :
    Calls Tryz.prog 4 #[v, u] w fun e w' => e = .returned (.bool true) ∧ Below w.heap.size w w' := by
  have HWK := Lib.hid (tworks_any w hT)
  have HLO := Lib.hid (fun w' (hb : Below w.heap.size w w') => long_any L 30 v w' (hv.below hb) (by omega))
  have HLO2 := Lib.hid (fun w' (hb : Below w.heap.size w w') => long_any M 30 u w' (hu.below hb) (by omega))
  have HMD := Lib.hid (fun (hl : L.length ≤ 30) w' (hb : Below w.heap.size w w') => made_any L v w' (hv.below hb) hl (hT.below hb))
  have HMD2 := Lib.hid (fun (hl : M.length ≤ 30) w' (hb : Below w.heap.size w w') => made_any M u w' (hu.below hb) hl (hT.below hb))
  have HTB := Lib.hid (fun w' (hb : Below w.heap.size w w') => hT.below hb)
  have HNO := Lib.hid (@long_no L 30)
  have HNO2 := Lib.hid (@long_no M 30)
  clear hv hu hT
  go_enter Tryz.func4, Tryz.ntmps4
  go_wp2_with fail
  refine HWK.out.mono ?_
  rintro e w1 ⟨rfl, hb1⟩
  have HB1 := Lib.hid hb1
  clear hb1
  go_wp2_with fail
  refine (HLO.out _ HB1.out).mono ?_
  rintro e w2 ⟨rfl, hb2⟩
  have HB2 := Lib.hid (bchain HB1.out hb2)
  clear hb2
  obtain ⟨lb, hlb⟩ : ∃ lb, longB L 30 = lb := ⟨_, rfl⟩
  rw [hlb]
  cases lb with
  | true =>
    clear hlb
    go_wp2
    go_ret
    exact ⟨rfl, HB2.out⟩
  | false =>
  have HLL := Lib.hid (HNO.out hlb).1
  clear hlb
  go_wp2_with fail
  refine (HLO2.out _ HB2.out).mono ?_
  rintro e w3 ⟨rfl, hb3⟩
  have HB3 := Lib.hid (bchain HB2.out hb3)
  clear hb3
  obtain ⟨lb, hlb⟩ : ∃ lb, longB M 30 = lb := ⟨_, rfl⟩
  rw [hlb]
  cases lb with
  | true =>
    clear hlb
    go_wp2
    go_ret
    exact ⟨rfl, HB3.out⟩
  | false =>
  have HML := Lib.hid (HNO2.out hlb).1
  clear hlb
  go_wp2_with fail
  refine (stnew_any w3).mono ?_
  rintro e w4 ⟨gs, ms, rfl, -, hms, hst4, hb4⟩
  have HMS : Hid (w.heap.size ≤ ms) := Lib.hid (Nat.le_trans HB3.out.size hms)
  have HB4 := Lib.hid (bchain HB3.out hb4)
  have HST4 := Lib.hid (fun w' (h : Below w4.heap.size w4 w') => hst4.below h)
  clear hst4 hb4 hms
  go_wp2_with fail
  refine (HMD.out HLL.out _ HB4.out).mono ?_
  rintro e w5 ⟨gx, rfl, tx, hb5⟩
  have HB5 := Lib.hid (bchain HB4.out hb5)
  have HK5 := Lib.hid hb5
  have HX5 := Lib.hid (fun w' (h : Below w5.heap.size w5 w') => tx.below h)
  clear tx hb5
  unfold ptr
  go_wp2_with fail
  refine (HMD2.out HML.out _ HB5.out).mono ?_
  rintro e w6 ⟨gy, rfl, ty, hb6⟩
  have HB6 := Lib.hid (bchain HB5.out hb6)
  have HST6 := Lib.hid (HST4.out _ (bchain HK5.out hb6))
  have HX6 := Lib.hid (HX5.out _ hb6)
  have HY6 := Lib.hid ty
  obtain ⟨S, hS⟩ : ∃ S, madeS L = S := ⟨_, rfl⟩
  obtain ⟨U, hU⟩ : ∃ U, madeS M = U := ⟨_, rfl⟩
  rw [hS] at HX6
  rw [hU] at HY6
  clear ty hb6 hS hU HMD HMD2 HLO HLO2 HNO HNO2 HLL HML HX5 HK5 HST4 HWK
  unfold ptr
  have HNM6 : Hid (∀ cs t f, w6.heap[ms]? ≠ some (.cells cs t f)) := Lib.hid (fun cs t f => HST6.out.map.no_cells ms cs t f rfl)
  go_wp2_with fail
  refine (tsave_any w6 HY6.out HST6.out (HTB.out _ HB6.out)).mono ?_
  rintro e w7 ⟨rfl, hst7, ho7⟩
  have HST7 := Lib.hid hst7
  have HX7 := Lib.hid (HX6.out.out ho7 HNM6.out)
  have HY7 := Lib.hid (HY6.out.out ho7 HNM6.out)
  have HT7 := Lib.hid (tab_out (HTB.out _ HB6.out) HST6.out.map ho7)
  have HO7 := Lib.hid ho7
  have HNM7 : Hid (∀ cs t f, w7.heap[ms]? ≠ some (.cells cs t f)) := Lib.hid (fun cs t f => hst7.map.no_cells ms cs t f rfl)
  clear hst7 ho7
  go_wp2_with fail
  refine (tsave_any w7 HX7.out HST7.out HT7.out).mono ?_
  rintro e w8 ⟨rfl, hst8, ho8⟩
  have HST8 : Hid (StoreAt w8 gs ms (bothS S U)) := Lib.hid hst8
  have HX8 := Lib.hid (fun w' (h : Below w8.heap.size w8 w') => (HX7.out.out ho8 HNM7.out).below h)
  have HY8 := Lib.hid (fun w' (h : Below w8.heap.size w8 w') => (HY7.out.out ho8 HNM7.out).below h)
  have HB8 : Hid (Below w.heap.size w w8) := Lib.hid (HB6.out.trans (((HO7.out.trans ho8).below (fun k e => by rw [e]; exact HMS.out) HB6.out.size)))
  have HST := Lib.hid (fun w' (h : Below w8.heap.size w8 w') => HST8.out.below h)
  clear hst8 ho8 HX6 HY6 HST6 HNM6 HST7 HX7 HY7 HT7 HO7 HNM7 HTB HMS
  obtain ⟨topx, tx, -, -, sx⟩ := HX8.out w8 (Below.refl _ _)
  obtain ⟨topy, ty, -, -, sy⟩ := HY8.out w8 (Below.refl _ _)
  have HSX := Lib.hid sx
  have HSY := Lib.hid sy
  have HIN : Hid (¬ Clash (nodesS S ++ nodesS U) → tx.inS (bothS S U) ∧ ty.inS (bothS S U)) := Lib.hid (both_in sx sy)
  have HL1 := Lib.hid (fun w' (h : Below w8.heap.size w8 w') => tload_any (rootS S) w' (HST.out w' h) (both_own S U) (root_short sx))
  have HL2 := Lib.hid (fun w' (h : Below w8.heap.size w8 w') => tload_any (rootS U) w' (HST.out w' h) (both_own S U) (root_short sy))
  have HRX := Lib.hid (rootS_tree sx)
  have HRY := Lib.hid (rootS_tree sy)
  have HFS := Lib.hid sx.few
  have HFU := Lib.hid sy.few
  have HNX := Lib.hid (nodesS_few sx)
  have HNY := Lib.hid (nodesS_few sy)
  have HSHX := Lib.hid (nodesS_short sx)
  have HSHY := Lib.hid (nodesS_short sy)
  clear sx sy
  go_wp2_with fail
  refine (HL1.out _ (Below.refl _ _)).mono ?_
  rintro e w9 ⟨z1, c1, rfl, hb9, hcase1⟩
  have HK9 := Lib.hid hb9
  go_wp2_with fail
  refine (HL2.out _ HK9.out).mono ?_
  rintro e w10 ⟨z2, c2, rfl, hb10, hcase2⟩
  have HK10 : Hid (Below w8.heap.size w8 w10) := Lib.hid (bchain HK9.out hb10)
  have HC1 : Hid ((c1 = 0 ∧ ∃ g S1 t1, z1 = ptr g ∧ (∀ w', Below w10.heap.size w10 w' → TrAt w' g S1) ∧ S1.length ≤ 1024 ∧ (¬ Clash (nodesS S ++ nodesS U) → S1 = S) ∧ TrS S1 t1) ∨ (c1 ≠ 0 ∧ z1 = nilp ∧ Clash (nodesS S ++ nodesS U))) := Lib.hid (by
    rcases hcase1 with ⟨e1, g, S1, t1, e2, h1, h2, h3, h4⟩ | ⟨e1, e2, h1⟩
    · refine Or.inl ⟨e1, g, S1, t1, e2, fun w' hw => (h1.below hb10).below hw, h2.few, fun hn => ?_, h2⟩
      exact h2.same HSX.out h4 (HIN.out hn).1 (h3.trans HRX.out)
    · refine Or.inr ⟨e1, e2, Classical.byContradiction fun hn => ?_⟩
      exact h1 S tx HSX.out (HIN.out hn).1 HRX.out.symm)
  have HC2 : Hid ((c2 = 0 ∧ ∃ g S1 t1, z2 = ptr g ∧ (∀ w', Below w10.heap.size w10 w' → TrAt w' g S1) ∧ S1.length ≤ 1024 ∧ (¬ Clash (nodesS S ++ nodesS U) → S1 = U) ∧ TrS S1 t1) ∨ (c2 ≠ 0 ∧ z2 = nilp ∧ Clash (nodesS S ++ nodesS U))) := Lib.hid (by
    rcases hcase2 with ⟨e1, g, S1, t1, e2, h1, h2, h3, h4⟩ | ⟨e1, e2, h1⟩
    · refine Or.inl ⟨e1, g, S1, t1, e2, fun w' hw => h1.below hw, h2.few, fun hn => ?_, h2⟩
      exact h2.same HSY.out h4 (HIN.out hn).2 (h3.trans HRY.out)
    · refine Or.inr ⟨e1, e2, Classical.byContradiction fun hn => ?_⟩
      exact h1 U ty HSY.out (HIN.out hn).2 HRY.out.symm)
  clear hcase1 hcase2 hb9 hb10 HIN HL1 HL2 HSX HSY HST HST8 HRX HRY
  have HX := Lib.hid (fun w' (h : Below w10.heap.size w10 w') => HX8.out w' (bchain HK10.out h))
  have HY := Lib.hid (fun w' (h : Below w10.heap.size w10 w') => HY8.out w' (bchain HK10.out h))
  have HB10 := Lib.hid (bchain HB8.out HK10.out)
  clear HX8 HY8 HK9
  obtain ⟨RU, hRU⟩ : ∃ RU, rootS U = RU := ⟨_, rfl⟩
  obtain ⟨RS, hRS⟩ : ∃ RS, rootS S = RS := ⟨_, rfl⟩
  have HRU := Lib.hid hRU
  have HRS := Lib.hid hRS
  rw [hRU, hRS]
  clear hRU hRS
  have hnu : (RU != RU) = false := by simp
  have hns : (RS != RS) = false := by simp
  have heu : (RU == RU) = true := beq_self_eq_true _
  have hes : (RS == RS) = true := beq_self_eq_true _
  obtain ⟨C, hC⟩ : ∃ C, nodesS S ++ nodesS U = C := ⟨_, rfl⟩
  rw [hC] at HC1 HC2
  have HCC := Lib.hid hC
  clear hC
  go_wp2_with fail
  refine (sroot_any w10 (HY.out _ (Below.refl _ _))).mono ?_
  rintro e w11 ⟨rfl, hb11⟩
  have HK11 := Lib.hid hb11
  rw [HRU.out]
  clear hb11
  go_wp2_with fail
  refine (sroot_any w11 (HX.out _ HK11.out)).mono ?_
  rintro e w12 ⟨rfl, hb12⟩
  have HK12 : Hid (Below w10.heap.size w10 w12) := Lib.hid (bchain HK11.out hb12)
  rw [HRS.out]
  clear hb12
  go_upto_region 12 with fail
  go_cut [81] from 55 to 81 (fun b wx => ∃ bb : Bool, b = .bool bb ∧ (bb = false → Clash C) ∧ Below w10.heap.size w10 wx)
  case first =>
    rcases HC1.out with ⟨rfl, g1, S1, t1, rfl, htr1, hf1, hsame1, -⟩ | ⟨hc0, rfl, hcl⟩
    case inr =>
      have k1 : (c1 == 0) = false := by rw [beq_eq_false_iff_ne]; exact hc0
      have HCL := Lib.hid hcl
      clear hc0 hcl
      go_wp2
      go_meet
      case rel => exact ⟨false, rfl, fun _ => HCL.out, HK12.out⟩
    have HT1 := Lib.hid htr1
    have HF1 := Lib.hid hf1
    have HSA1 := Lib.hid hsame1
    clear htr1 hf1 hsame1
    rcases HC2.out with ⟨rfl, g2, S2, t2, rfl, htr2, hf2, hsame2, -⟩ | ⟨hc0, rfl, hcl⟩
    case inr =>
      have k1 : (c2 == 0) = false := by rw [beq_eq_false_iff_ne]; exact hc0
      have HCL := Lib.hid hcl
      clear hc0 hcl
      go_wp2
      go_meet
      case rel => exact ⟨false, rfl, fun _ => HCL.out, HK12.out⟩
    have HT2 := Lib.hid htr2
    have HF2 := Lib.hid hf2
    have HSA2 := Lib.hid hsame2
    clear htr2 hf2 hsame2
    unfold ptr
    go_wp2_with fail
    refine (sitems_any w12 (HT1.out _ HK12.out)).mono ?_
    rintro e w13 ⟨z13, rfl, o13, hb13⟩
    have HK13 : Hid (Below w10.heap.size w10 w13) := Lib.hid (bchain HK12.out hb13)
    have HO13 := Lib.hid (fun w' (h : Below w13.heap.size w13 w') => OwnI.at_ (o13.below h))
    clear o13 hb13
    go_wp2_with fail
    refine (sitems_any w13 (HX.out _ HK13.out)).mono ?_
    rintro e w14 ⟨z14, rfl, o14, hb14⟩
    have HK14 : Hid (Below w10.heap.size w10 w14) := Lib.hid (bchain HK13.out hb14)
    have HR14 := Lib.hid hb14
    have HO14 := Lib.hid o14
    clear o14 hb14
    go_wp2_with fail
    refine (sameI_any S1 S _ _ w14 (HO13.out _ HR14.out) HO14.out.at_ (by have := HF1.out; omega) (by have := HFS.out; omega)).mono ?_
    rintro e w15 ⟨rfl, hb15⟩
    have HK15 : Hid (Below w10.heap.size w10 w15) := Lib.hid (bchain HK14.out hb15)
    clear hb15 HO13 HO14 HR14
    by_cases hs1 : S1 = S
    case neg =>
      have hde : decide (S1 = S) = false := decide_eq_false hs1
      rw [hde]
      have HCL : Hid (Clash C) := Lib.hid (Classical.byContradiction fun hn => hs1 (HSA1.out hn))
      clear hs1 hde
      go_wp2
      go_meet
      case rel => exact ⟨false, rfl, fun _ => HCL.out, HK15.out⟩
    have hde : decide (S1 = S) = true := decide_eq_true hs1
    rw [hde]
    subst hs1
    clear hde
    go_wp2_with fail
    refine (snodes_any w15 (HT1.out _ HK15.out)).mono ?_
    rintro e w16 ⟨z16, rfl, o16, hb16⟩
    have HK16 : Hid (Below w10.heap.size w10 w16) := Lib.hid (bchain HK15.out hb16)
    have HO16 := Lib.hid (fun w' (h : Below w16.heap.size w16 w') => (o16.below h).strs)
    clear o16 hb16
    go_wp2_with fail
    refine (snodes_any w16 (HX.out _ HK16.out)).mono ?_
    rintro e w17 ⟨z17, rfl, o17, hb17⟩
    have HK17 : Hid (Below w10.heap.size w10 w17) := Lib.hid (bchain HK16.out hb17)
    have HR17 := Lib.hid hb17
    have HO17 := Lib.hid o17
    clear o17 hb17
    go_wp2_with fail
    refine (same_any _ _ _ _ w17 (HO16.out _ HR17.out) HO17.out.strs (by have := HNX.out; omega) (by have := HNX.out; unfold maxLen; omega)).mono ?_
    rintro e w18 ⟨rfl, hb18⟩
    have HK18 : Hid (Below w10.heap.size w10 w18) := Lib.hid (bchain HK17.out hb18)
    rw [decide_eq_true rfl]
    clear hb18 HO16 HO17 HR17
    go_wp2_with fail
    refine (sitems_any w18 (HT2.out _ HK18.out)).mono ?_
    rintro e w19 ⟨z19, rfl, o19, hb19⟩
    have HK19 : Hid (Below w10.heap.size w10 w19) := Lib.hid (bchain HK18.out hb19)
    have HO19 := Lib.hid (fun w' (h : Below w19.heap.size w19 w') => OwnI.at_ (o19.below h))
    clear o19 hb19
    go_wp2_with fail
    refine (sitems_any w19 (HY.out _ HK19.out)).mono ?_
    rintro e w20 ⟨z20, rfl, o20, hb20⟩
    have HK20 : Hid (Below w10.heap.size w10 w20) := Lib.hid (bchain HK19.out hb20)
    have HR20 := Lib.hid hb20
    have HO20 := Lib.hid o20
    clear o20 hb20
    go_wp2_with fail
    refine (sameI_any S2 U _ _ w20 (HO19.out _ HR20.out) HO20.out.at_ (by have := HF2.out; omega) (by have := HFU.out; omega)).mono ?_
    rintro e w21 ⟨rfl, hb21⟩
    have HK21 : Hid (Below w10.heap.size w10 w21) := Lib.hid (bchain HK20.out hb21)
    have HCL : Hid (decide (S2 = U) = false → Clash C) := Lib.hid (fun h => Classical.byContradiction fun hn => (of_decide_eq_false h) (HSA2.out hn))
    obtain ⟨bb, hbb⟩ : ∃ bb, decide (S2 = U) = bb := ⟨_, rfl⟩
    rw [hbb] at HCL ⊢
    clear hb21 HO19 HO20 HR20 hbb
    go_wp2
    go_meet
    case rel => exact ⟨bb, rfl, HCL.out, HK21.out⟩
  case rest =>
    obtain ⟨bb, rfl, hbcl, hbx⟩ := hcut
    obtain ⟨wx, rfl⟩ : ∃ y, y = wc := ⟨_, rfl⟩
    have HKX := Lib.hid hbx
    cases bb with
    | true =>
      clear hbcl hbx
      go_wp2
      go_ret
      exact ⟨rfl, bchain HB10.out HKX.out⟩
    | false =>
    have HCL := Lib.hid (hbcl rfl)
    clear hbcl hbx
    go_wp2_with fail
    refine (snodes_any wx (HX.out _ HKX.out)).mono ?_
    rintro e w22 ⟨z22, rfl, o22, hb22⟩
    have HK22 : Hid (Below w10.heap.size w10 w22) := Lib.hid (bchain HKX.out hb22)
    have HO22 := Lib.hid (fun w' (h : Below w22.heap.size w22 w') => o22.below h)
    have HSZ := Lib.hid hb22.size
    have HR22 := Lib.hid hb22
    clear o22 hb22
    go_wp2_with fail
    refine (snodes_any w22 (HY.out _ HK22.out)).mono ?_
    rintro e w23 ⟨z23, rfl, o23, hb23⟩
    have HK23 : Hid (Below w10.heap.size w10 w23) := Lib.hid (bchain HK22.out hb23)
    obtain ⟨v24, w24, r24, o24, g24, -⟩ := append_strs o23.strs (HO22.out _ hb23) (by have := HNX.out; have := HNY.out; omega) (Nat.le_trans HSZ.out hb23.size)
    have HR24 := Lib.hid r24
    have HO24 : Hid (Own w24 wx.heap.size v24 C) := Lib.hid (by
      unfold Own
      rw [← HCC.out, scells_append, List.length_append]
      exact o24)
    have HB24 : Hid (Below wx.heap.size wx w24) := Lib.hid ((bchain HR22.out hb23).trans ((Out.grown g24 (F := fun j => z22.ownBlock = some j) (fun j e => e)).below (fun j hj => ((HO22.out _ hb23).lt j hj).1) (Nat.le_trans HSZ.out hb23.size)))
    have HUN := Lib.hid (runlike_any C v24 w24 HO24.out.strs (by rw [← HCC.out, List.length_append]; have := HNX.out; have := HNY.out; omega) (by
      rw [← HCC.out]
      intro x hx
      rcases List.mem_append.1 hx with hx | hx
      · exact HSHX.out x hx
      · exact HSHY.out x hx))
    unfold UnlikePost at HUN
    obtain ⟨A22, cap22, rfl⟩ := own_form (HO22.out _ hb23)
    obtain ⟨A23, cap23, rfl⟩ := own_form o23
    clear o23 hb23 r24 o24 g24
    go_wp2_with (at_builtin; refine wpList_append_run rfl _ _ _ rfl (.slice A22 _ cap22) (.slice A23 _ cap23) _ (by rfl) (by rfl) HR24.out ?_)
    refine HUN.out.mono ?_
    rintro e w25 ⟨b, rfl, hb, hb25⟩
    obtain rfl := hb HCL.out
    have HB25 : Hid (Below w10.heap.size w10 w25) := Lib.hid (bchain HKX.out (bchain HB24.out hb25))
    clear hb hb25
    go_wp2
    go_ret
    exact ⟨rfl, bchain HB10.out HB25.out⟩
theorem trieSaved_law (v : Value) (L : List ActT) (u : Value) (M : List ActT) (w : World) (hv : TActs w v L) (_ : L.length * 40 ≤ reachBytes) (_ : ∀ s ∈ L, OkTAct s) (hu : TActs w u M) (_ : M.length * 40 ≤ reachBytes) (_ : ∀ s ∈ M, OkTAct s) (hT : Tab w) :
    Calls Tryz.prog 4 #[v, u] w fun e w' => e = .returned (.bool true) ∧ Below w.heap.size w w' := trieSaved_walk v L u M w hv hu hT
end Go.Proofs.YtbkanebkobjnnaaGreatDoor
