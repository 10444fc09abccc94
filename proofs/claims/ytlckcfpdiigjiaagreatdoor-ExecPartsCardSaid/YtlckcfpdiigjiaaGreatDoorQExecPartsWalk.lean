/- The law ExecParts, walked. -/
import Derived.Test.YtlckcfpdiigjiaaGreatDoorPk23
import Derived.Test.YtlckcfpdiigjiaaGreatDoorPk22
import Derived.Test.YtlckcfpdiigjiaaGreatDoorPk07
namespace Go.Proofs.YtlckcfpdiigjiaaGreatDoor
open Go.RowKit
open Sto (T St)
open Go.Proofs.YtlckcfpdiigjiaaGreatDoor.Pw (M)
open Go.Proofs.YtlckcfpdiigjiaaGreatDoor.Txn (X)
open Go.Proofs.YtlckcfpdiigjiaaGreatDoor.Exc (A)
theorem Exc.allC_parts {L : List X} (h : Exc.allC L = 0) (k : Nat) : Txn.fines L = true ∧ Exc.allC (L.take k) = 0 ∧ Exc.allC (L.drop k) = 0 := by
  have h8 : L.length ≤ 8 := by
    unfold Exc.allC at h
    split at h
    · cases h
    · omega
  have hf : Txn.fines L = true := by
    unfold Exc.allC at h
    rw [if_neg (by omega)] at h
    cases hh : Txn.fines L with
    | true => rfl
    | false => rw [hh, if_pos rfl] at h; cases h
  have hs : ∀ K : List X, (∀ x ∈ K, x ∈ L) → Txn.fines K = true := fun K hK => List.all_eq_true.2 fun x hx => List.all_eq_true.1 hf x (hK x hx)
  exact ⟨hf, Exc.allE_ok (by rw [List.length_take]; omega) (hs _ fun x hx => List.mem_of_mem_take hx), Exc.allE_ok (by rw [List.length_drop]; omega) (hs _ fun x hx => List.mem_of_mem_drop hx)⟩
theorem Exc.allC_two {L : List X} (h : L.length ≤ 8) : Exc.allC L = 0 ∨ Exc.allC L = 150 := by
  unfold Exc.allC
  rw [if_neg (by omega)]
  split
  · exact Or.inr rfl
  · exact Or.inl rfl
set_option maxRecDepth 100000 in
set_option maxHeartbeats 16000000 in
theorem execParts_walk (C : List A) (N : List M) (I : St) (za zm zi : Value) (L : List X) (v : Value) (a : Int) (w : World) (ha : AccIn w za C) (hm : Mems w zm N) (hi : ItIn w zi I) (lC : C.length ≤ maxLen) (lN : N.length ≤ maxLen) (lI : I.length ≤ maxLen) (hu : Txs w v L) (hcap : ∃ A cap, v = .slice A L.length cap ∧ L.length ≤ cap) (lL : L.length ≤ maxLen) (hT : Tab w) :
    Calls Tryz.prog 5 #[.agg #[za, zm, zi], v, .int .i64 a] w fun r w' => r = .returned (.bool true) ∧ Below w.heap.size w w' := by
  obtain ⟨w0, hw0, hb0, rs⟩ := start_box za zm zi w
  have HB0 := Lib.hid hb0
  have HTB := Lib.hid hT
  obtain ⟨q0, hq0⟩ : ∃ q, w.heap.size = q := ⟨_, rfl⟩
  rw [hq0] at rs
  have HQ0 := Lib.hid hq0
  have HW0 := Lib.hid hw0
  have HS0 := Lib.hid rs
  have HWK := Lib.hid (eworks_any w0 (hT.below hb0))
  have HGE : Hid (∀ w', Below w.heap.size w w' → Calls Tryz.prog 23 #[.agg #[za, zm, zi]] w' (GPost C N w')) := Lib.hid (fun w' h => egen_any C N za zm zi w' (RowsIn.below ha h) (hm.below h) (hT.below h))
  have HBG : Hid (∀ w', Below w.heap.size w w' → Calls Tryz.prog 6 #[.agg #[za, zm, zi], v] w' (EBigPost w' C N I L)) := Lib.hid (fun w' h => ebig_any C N I L za zm zi v w' (RowsIn.below ha h) (hm.below h) (RowsIn.below hi h) (hu.below h) lC lN lI lL)
  have HUU : Hid (∀ w', Below w.heap.size w w' → Txs w' v L) := Lib.hid (fun w' h => hu.below h)
  have HGG := Lib.hid (fun h => Exc.genP_good (L := C) (set := N) h)
  unfold GPost at HGE
  unfold EBigPost at HBG
  obtain ⟨⟨S, c⟩, hS⟩ : ∃ p, Exc.genP C N = p := ⟨_, rfl⟩
  rw [hS] at HGE HGG
  dsimp only at HGE HGG
  obtain ⟨A1, cap1, rfl, -, -⟩ := RowsIn.form ha
  obtain ⟨A2, cap2, rfl⟩ := hm.form
  obtain ⟨A3, cap3, rfl, -, -⟩ := RowsIn.form hi
  obtain ⟨Au, capu, rfl⟩ := hu.form
  obtain ⟨A', cap', he, hcl⟩ := hcap
  obtain ⟨-, rfl⟩ : Au = A' ∧ capu = cap' := by simpa using he
  have HCAP : Hid (L.length ≤ capu) := Lib.hid hcl
  clear ha hm hi lC lN lI hu lL hT he hcl hb0 rs hq0 hw0 hS
  go_enter Tryz.func5, Tryz.ntmps5
  go_upto_region 1 with fail
  try rw [HW0.out]
  try rw [HQ0.out]
  go_wp2_with fail
  refine HWK.out.mono ?_
  rintro r w1 ⟨rfl, hb⟩
  have HB1 := Lib.hid (bchain HB0.out hb)
  have HS1 := Lib.hid (HS0.out.below hb)
  clear hb
  obtain ⟨p0, p1, p2⟩ := HS1.out.cells
  go_wp2_with fail
  refine (HGE.out _ HB1.out).mono ?_
  rintro r w2 ⟨z, rfl, h1, h2, hb⟩
  obtain ⟨pz, rfl⟩ := tri_form h1 h2
  have HZ1 := Lib.hid h1
  have HZ2 : Hid (c ≠ 0 → pz = none) := Lib.hid (fun h => by have := h2 h; unfold nilp at this; injection this)
  clear h1 h2 p0 p1 p2
  have HB2 := Lib.hid (bchain HB1.out hb)
  have HS2 := Lib.hid (HS1.out.below hb)
  clear hb
  obtain ⟨p0, p1, p2⟩ := HS2.out.cells
  go_wp2_with fail
  refine (HBG.out _ HB2.out).mono ?_
  rintro r w3 ⟨bb, rfl, hfit, hb⟩
  have HFIT := Lib.hid hfit
  have HZ3 : Hid (c = 0 → ∃ g, Value.pointer pz = ptr g ∧ TrAt w3 g S) := Lib.hid (fun h => by obtain ⟨g, e, h2⟩ := HZ1.out h; exact ⟨g, e, h2.below hb⟩)
  clear hfit HZ1 p0 p1 p2
  have HB3 := Lib.hid (bchain HB2.out hb)
  have HS3 := Lib.hid (HS2.out.below hb)
  clear hb
  cases bb with
  | true =>
    go_wp2
    go_ret
    exact ⟨rfl, HB3.out⟩
  | false =>
  have HFI := Lib.hid (HFIT.out rfl)
  clear HFIT
  by_cases hc : c = 0
  case neg =>
    obtain rfl := HZ2.out hc
    clear hc
    go_wp2
    go_ret
    exact ⟨rfl, HB3.out⟩
  subst hc
  obtain ⟨g, hg, ht⟩ := HZ3.out rfl
  have HT3 := Lib.hid ht
  obtain ⟨hri, hgd, hln⟩ := HGG.out rfl
  have HRI := Lib.hid hri
  have HGD := Lib.hid hgd
  have HLN := Lib.hid hln
  unfold ptr at hg
  rw [hg]
  clear hg ht hri hgd hln HZ2 HZ3 HGG HGE HBG
  have hp8 : ∀ b : Bool, decide ((8 : Int) < (L.length : Int)) = b → decide ((8 : Int) < (L.length : Int)) = b := fun _ h => h
  clear hp8
  by_cases h8 : 8 < L.length
  · have s1 : decide ((8 : Int) < (L.length : Int)) = true := decide_eq_true (by omega)
    clear h8
    go_wp2
    go_ret
    exact ⟨rfl, HB3.out⟩
  have s1 : decide ((8 : Int) < (L.length : Int)) = false := decide_eq_false (by omega)
  have H8 : Hid (L.length ≤ 8) := Lib.hid (by omega)
  clear h8
  obtain ⟨v1, v2⟩ := wrap_i (n := (L.length : Int) + 1) (by omega) (by have := H8.out; omega)
  have HBL := Lib.hid (fun w' => below_any a (L.length + 1) w' (by omega) (by have := H8.out; omega))
  obtain ⟨k, hk, hkl⟩ := Bk.below_nat a (L.length + 1) (by omega)
  rw [hk, show ((L.length + 1 : Nat) : Int) = (L.length : Int) + 1 by omega] at HBL
  have HKL : Hid (k ≤ L.length) := Lib.hid (by omega)
  clear hk hkl
  have hsl1 := txs_take Au L.length capu k (by have := HKL.out; have := HCAP.out; omega)
  have hsl2 := txs_drop Au L.length capu k HKL.out
  have HU2 : Hid (∀ w', Below w.heap.size w w' → Txs w' (.slice Au k capu) (L.take k)) := Lib.hid (fun w' h => (HUU.out w' h).take k HKL.out)
  have HU3 : Hid (∀ w', Below w.heap.size w w' → Txs w' (.slice (if capu = k then Au else Au.map (·.add (k * 8))) (L.length - k) (capu - k)) (L.drop k)) := Lib.hid (fun w' h => (HUU.out w' h).drop k HKL.out HCAP.out)
  obtain ⟨Ad, hAd⟩ : ∃ A, (if capu = k then Au else Au.map (·.add (k * 8))) = A := ⟨_, rfl⟩
  obtain ⟨nd, hnd⟩ : ∃ n, L.length - k = n := ⟨_, rfl⟩
  obtain ⟨cd, hcd⟩ : ∃ n, capu - k = n := ⟨_, rfl⟩
  rw [hAd, hnd, hcd] at HU3
  simp only [hAd, hnd, hcd] at hsl2
  clear hAd hnd hcd
  have HAL1 := Lib.hid (fun w' h h2 h3 => eall_any (g := g) S (.slice Au L.length capu) L w' h h2 h3)
  have HAL2 := Lib.hid (fun w' h h2 h3 => eall_any (g := g) S (.slice Au k capu) (L.take k) w' h h2 h3)
  have HAL3 := Lib.hid (fun g2 w' h h2 h3 => eall_any (g := g2) (Exc.runA ⟨S, [], []⟩ (L.take k)).st (.slice Ad nd cd) (L.drop k) w' h h2 h3)
  unfold EAllPost ptr at HAL1 HAL2 HAL3
  have HC2 := Lib.hid (Exc.allC_two H8.out)
  have HCP := Lib.hid (fun h => Exc.allC_parts (L := L) h k)
  have HPA := Lib.hid (fun h => Exc.run_parts S L k h)
  have HM1 := Lib.hid (fun h => Exc.run_mem S L h)
  have HM2 := Lib.hid (fun h => Exc.run_mem S (L.take k) h)
  have HM3 := Lib.hid (fun h => Exc.run_mem (Exc.runA ⟨S, [], []⟩ (L.take k)).st (L.drop k) h)
  have HR2 := Lib.hid (Exc.run_rc ⟨S, [], []⟩ (L.take k))
  have HR3 := Lib.hid (Exc.run_rc ⟨(Exc.runA ⟨S, [], []⟩ (L.take k)).st, [], []⟩ (L.drop k))
  have HR1 := Lib.hid (Exc.run_rc ⟨S, [], []⟩ L)
  have HFS : Hid (Txn.fines L = true → Txn.fines (L.take k) = true ∧ Txn.fines (L.drop k) = true) := Lib.hid (fun h => ⟨List.all_eq_true.2 fun x hx => List.all_eq_true.1 h x (List.mem_of_mem_take hx), List.all_eq_true.2 fun x hx => List.all_eq_true.1 h x (List.mem_of_mem_drop hx)⟩)
  obtain ⟨D2, hD2⟩ : ∃ D, Exc.runA ⟨S, [], []⟩ (L.take k) = D := ⟨_, rfl⟩
  rw [hD2] at HAL2 HAL3 HPA HM2 HM3 HR2 HR3
  obtain ⟨D1, hD1⟩ : ∃ D, Exc.runA ⟨S, [], []⟩ L = D := ⟨_, rfl⟩
  rw [hD1] at HAL1 HPA HM1 HR1
  obtain ⟨D3, hD3⟩ : ∃ D, Exc.runA ⟨D2.st, [], []⟩ (L.drop k) = D := ⟨_, rfl⟩
  rw [hD3] at HAL3 HPA HM3 HR3
  obtain ⟨e, he⟩ : ∃ e, Exc.allC L = e := ⟨_, rfl⟩
  rw [he] at HAL1 HC2 HCP
  obtain ⟨e2, he2⟩ : ∃ e, Exc.allC (L.take k) = e := ⟨_, rfl⟩
  rw [he2] at HAL2 HCP
  obtain ⟨e3, he3⟩ : ∃ e, Exc.allC (L.drop k) = e := ⟨_, rfl⟩
  rw [he3] at HAL3 HCP
  clear hD1 hD2 hD3 he he2 he3
  go_wp2_with fail
  refine (HBL.out _).mono ?_
  rintro r w4 ⟨rfl, hw4⟩
  obtain rfl := hw4.symm
  go_wp2_with fail
  refine (HAL1.out _ HT3.out (HTB.out.below HB3.out) (HUU.out _ HB3.out)).mono ?_
  rintro r w5 ⟨zs1, zr1, zn1, rfl, h1, -, hb⟩
  have HE1 := Lib.hid h1
  clear h1
  have HB5 := Lib.hid (bchain HB3.out hb)
  have HT5 := Lib.hid (HT3.out.below hb)
  clear hb
  go_wp2_with fail
  refine (HAL2.out _ HT5.out (HTB.out.below HB5.out) (HU2.out _ HB5.out)).mono ?_
  rintro r w6 ⟨zs2, zr2, zn2, rfl, h1, -, hb⟩
  have HE2 := Lib.hid h1
  have HE1' : Hid (e = 0 → ∃ g, zs1 = .pointer (some ⟨g, 0, none⟩) ∧ TrAt w6 g D1.st ∧ OwnR w6 w3.heap.size zr1 D1.rc ∧ OwnM w6 w3.heap.size zn1 D1.nx) := Lib.hid (fun h => by obtain ⟨g, e, q1, q2, q3⟩ := HE1.out h; exact ⟨g, e, q1.below hb, q2.below hb, q3.below hb⟩)
  clear h1 HE1
  have HB6 := Lib.hid (bchain HB5.out hb)
  clear hb
  by_cases he : e = 0
  case neg =>
    rcases HC2.out with rfl | rfl
    · exact absurd rfl he
    · clear he
      go_wp2
      go_ret
      exact ⟨rfl, HB6.out⟩
  subst he
  obtain ⟨hfin, rfl, rfl⟩ := HCP.out rfl
  have HFIN := Lib.hid hfin
  obtain ⟨p1, p2, p3⟩ := HPA.out hfin
  have HP1 := Lib.hid p1
  have HP2 := Lib.hid p2
  have HP3 := Lib.hid p3
  clear hfin p1 p2 p3 HPA HCP HC2
  obtain ⟨g1, rfl, ht1, hr1, hn1⟩ := HE1'.out rfl
  obtain ⟨g2, rfl, ht2, hr2, hn2⟩ := HE2.out rfl
  clear HE1' HE2
  have HTa := Lib.hid ht1
  have HTb := Lib.hid ht2
  have HRa := Lib.hid hr1
  have HRb := Lib.hid hr2
  have HNa := Lib.hid hn1
  have HNb := Lib.hid hn2
  obtain ⟨Ar1, cr1, hz⟩ := own_form hr1
  subst hz
  obtain ⟨Ar2, cr2, hz⟩ := own_form hr2
  subst hz
  obtain ⟨An1, cn1, hz⟩ := hn1.mems.form
  subst hz
  obtain ⟨An2, cn2, hz⟩ := hn2.mems.form
  subst hz
  clear ht1 ht2 hr1 hr2 hn1 hn2
  go_wp2_with fail
  refine (HAL3.out g2 _ HTb.out (HTB.out.below HB6.out) (HU3.out _ HB6.out)).mono ?_
  rintro r w7 ⟨zs3, zr3, zn3, rfl, h1, -, hb⟩
  obtain ⟨g3, rfl, ht3, hr3, hn3⟩ := h1 (by first | rfl | trivial)
  have HTc := Lib.hid ht3
  have HRc := Lib.hid hr3
  have HNc := Lib.hid hn3
  obtain ⟨Ar3, cr3, hz⟩ := own_form hr3
  subst hz
  obtain ⟨An3, cn3, hz⟩ := hn3.mems.form
  subst hz
  have HB7 := Lib.hid (bchain HB6.out hb)
  have HTa7 := Lib.hid (HTa.out.below hb)
  have HRa7 := Lib.hid (HRa.out.below hb)
  have HRb7 := Lib.hid (HRb.out.below hb)
  have HNa7 := Lib.hid (HNa.out.below hb)
  have HNb7 := Lib.hid (HNb.out.below hb)
  clear h1 ht3 hr3 hn3 hb hsl1 hsl2 HTa HRa HRb HNa HNb HTb
  have HL1 : Hid (D1.nx.length ≤ 1000000 ∧ D2.nx.length ≤ 1000000 ∧ D3.nx.length ≤ 1000000) := Lib.hid (by have h1 := HM1.out HFIN.out; have h2 := HM2.out (HFS.out HFIN.out).1; have h3 := HM3.out (HFS.out HFIN.out).2; omega)
  have HLR : Hid (D1.rc.length ≤ 1000 ∧ D2.rc.length ≤ 1000 ∧ D3.rc.length ≤ 1000) := Lib.hid (by have h1 := HR1.out; have h2 := HR2.out; have h3 := HR3.out; have := H8.out; simp at h1 h2 h3; omega)
  have HFa : Hid (D1.st.length ≤ 1024) := Lib.hid HTa7.out.few
  by_cases hn0 : D3.nx.length = 0
  case pos =>
    have s6 : ((D3.nx.length : Int) == 0) = true := by rw [beq_iff_eq]; omega
    have HN0 : Hid (D3.nx = []) := Lib.hid (List.eq_nil_of_length_eq_zero hn0)
    clear hn0
    have HTc8 := Lib.hid (show TrAt w7 g3 D1.st from by rw [HP1.out]; exact HTc.out)
    have HRA := Lib.hid (fun w' h => sroot_any (g := g1) (S := D1.st) w' h)
    have HRC := Lib.hid (fun w' h => sroot_any (g := g3) (S := D1.st) w' h)
    have HIA := Lib.hid (fun w' h => sitems_any (g := g1) (S := D1.st) w' h)
    have HIC := Lib.hid (fun w' h => sitems_any (g := g3) (S := D1.st) w' h)
    unfold ptr at HRA HRC HIA HIC
    unfold ItemsPost at HIA HIC
    obtain ⟨Z, hZ⟩ : ∃ Z, rootS D1.st = Z := ⟨_, rfl⟩
    rw [hZ] at HRA HRC
    clear hZ
    have s7 : (Z == Z) = true := beq_self_eq_true _
    go_wp2_with fail
    refine (HRC.out _ HTc8.out).mono ?_
    rintro r w8 ⟨rfl, hb⟩
    have hb78 := hb
    have HB8 := Lib.hid (bchain HB7.out hb)
    have HTa8 := Lib.hid (HTa7.out.below hb)
    have HTc9 := Lib.hid (HTc8.out.below hb)
    clear hb
    go_wp2_with fail
    refine (HRA.out _ HTa8.out).mono ?_
    rintro r w9 ⟨rfl, hb⟩
    have hb79 := bchain hb78 hb
    have HTa9 := Lib.hid (HTa8.out.below hb)
    have HTc10 := Lib.hid (HTc9.out.below hb)
    clear hb hb78
    go_wp2_with fail
    refine (HIC.out _ HTc10.out).mono ?_
    rintro r wa ⟨z6, rfl, ho6, hb⟩
    have hb7a := bchain hb79 hb
    have HTa10 := Lib.hid (HTa9.out.below hb)
    have HO6 := Lib.hid ho6
    clear hb hb79 ho6
    go_wp2_with fail
    refine (HIA.out _ HTa10.out).mono ?_
    rintro r wb ⟨z7, rfl, ho7, hb⟩
    have hb7b := bchain hb7a hb
    have HSI := Lib.hid (sameI_in D1.st D1.st z6 z7 wb (ItAt.inn (OwnI.at_ (HO6.out.below hb))) (ItAt.inn (OwnI.at_ ho7)) (by have := HFa.out; omega) (by have := HFa.out; omega))
    rw [show decide (D1.st = D1.st) = true from decide_eq_true rfl] at HSI
    clear hb hb7a ho7
    go_wp2_with fail
    refine HSI.out.mono ?_
    rintro r wc ⟨rfl, hb⟩
    have hb7c := bchain hb7b hb
    clear hb hb7b
    obtain ⟨y1, wd, r1, o1, b1⟩ := own_rcs (OwnR.rc (HRb7.out.below hb7c)).inn HLR.out.2.1
    have hb7d := bchain hb7c b1
    obtain ⟨y2, we, r2, o2, b2, -⟩ := app_rcs o1 (OwnR.rc (HRc.out.below hb7d)).inn (by have := HLR.out; omega) b1.size
    have hbce : Below wc.heap.size wc we := b1.trans b2
    have hb7e := bchain hb7c hbce
    obtain ⟨Ay, cy, hz⟩ := own_form o1
    subst hz
    have HSR := Lib.hid (sameRc_in (D2.rc ++ D3.rc) D1.rc y2 (.slice Ar1 D1.rc.length cr1) we (OwnR.rc o2).inn (OwnR.rc (HRa7.out.below hb7e)).inn (by rw [List.length_append]; have := HLR.out; omega) (by have := HLR.out; omega))
    rw [show decide (D2.rc ++ D3.rc = D1.rc) = true from decide_eq_true HP2.out.symm] at HSR
    have HNE : Hid (D1.nx = D2.nx) := Lib.hid (by rw [HP3.out, if_pos HN0.out])
    have HR1_ := Lib.hid r1
    have HR2_ := Lib.hid r2
    have HBE := Lib.hid hb7e
    clear r1 r2 o1 o2 b1 b2 hb7c hb7d hbce hb7e
    go_wp2_with (first | (at_builtin; refine wpList_append_want (by rfl) _ _ _ rfl (.slice (some ⟨wc.heap.size, 0, none⟩) 0 0) (.slice Ar2 D2.rc.length cr2) _ (by rfl) (by rfl) HR1_.out ?_) | (at_builtin; refine wpList_append_want (by rfl) _ _ _ rfl (.slice Ay D2.rc.length cy) (.slice Ar3 D3.rc.length cr3) _ (by rfl) (by rfl) HR2_.out ?_))
    refine HSR.out.mono ?_
    rintro r wf ⟨rfl, hb⟩
    have hb7f := bchain HBE.out hb
    clear hb
    have HSN := Lib.hid (sameM_any D1.nx D2.nx (.slice An1 D1.nx.length cn1) (.slice An2 D2.nx.length cn2) wf (HNa7.out.below hb7f).mems (HNb7.out.below hb7f).mems HL1.out.1 (by have := HL1.out; omega))
    rw [show decide (D1.nx = D2.nx) = true from decide_eq_true HNE.out] at HSN
    go_wp2_with fail
    refine HSN.out.mono ?_
    rintro r wg ⟨rfl, hb⟩
    have HBF := Lib.hid (bchain HB7.out (bchain hb7f hb))
    clear hb hb7f
    go_wp2
    go_ret
    exact ⟨rfl, HBF.out⟩
  have s6 : ((D3.nx.length : Int) == 0) = false := by rw [beq_eq_false_iff_ne]; omega
  have HN0 : Hid (D3.nx ≠ []) := Lib.hid (fun h => hn0 (by rw [h]; rfl))
  clear hn0
  have HTc8 := Lib.hid (show TrAt w7 g3 D1.st from by rw [HP1.out]; exact HTc.out)
  have HRA := Lib.hid (fun w' h => sroot_any (g := g1) (S := D1.st) w' h)
  have HRC := Lib.hid (fun w' h => sroot_any (g := g3) (S := D1.st) w' h)
  have HIA := Lib.hid (fun w' h => sitems_any (g := g1) (S := D1.st) w' h)
  have HIC := Lib.hid (fun w' h => sitems_any (g := g3) (S := D1.st) w' h)
  unfold ptr at HRA HRC HIA HIC
  unfold ItemsPost at HIA HIC
  obtain ⟨Z, hZ⟩ : ∃ Z, rootS D1.st = Z := ⟨_, rfl⟩
  rw [hZ] at HRA HRC
  clear hZ
  have s7 : (Z == Z) = true := beq_self_eq_true _
  go_wp2_with fail
  refine (HRC.out _ HTc8.out).mono ?_
  rintro r w8 ⟨rfl, hb⟩
  have hb78 := hb
  have HB8 := Lib.hid (bchain HB7.out hb)
  have HTa8 := Lib.hid (HTa7.out.below hb)
  have HTc9 := Lib.hid (HTc8.out.below hb)
  clear hb
  go_wp2_with fail
  refine (HRA.out _ HTa8.out).mono ?_
  rintro r w9 ⟨rfl, hb⟩
  have hb79 := bchain hb78 hb
  have HTa9 := Lib.hid (HTa8.out.below hb)
  have HTc10 := Lib.hid (HTc9.out.below hb)
  clear hb hb78
  go_wp2_with fail
  refine (HIC.out _ HTc10.out).mono ?_
  rintro r wa ⟨z6, rfl, ho6, hb⟩
  have hb7a := bchain hb79 hb
  have HTa10 := Lib.hid (HTa9.out.below hb)
  have HO6 := Lib.hid ho6
  clear hb hb79 ho6
  go_wp2_with fail
  refine (HIA.out _ HTa10.out).mono ?_
  rintro r wb ⟨z7, rfl, ho7, hb⟩
  have hb7b := bchain hb7a hb
  have HSI := Lib.hid (sameI_in D1.st D1.st z6 z7 wb (ItAt.inn (OwnI.at_ (HO6.out.below hb))) (ItAt.inn (OwnI.at_ ho7)) (by have := HFa.out; omega) (by have := HFa.out; omega))
  rw [show decide (D1.st = D1.st) = true from decide_eq_true rfl] at HSI
  clear hb hb7a ho7
  go_wp2_with fail
  refine HSI.out.mono ?_
  rintro r wc ⟨rfl, hb⟩
  have hb7c := bchain hb7b hb
  clear hb hb7b
  obtain ⟨y1, wd, r1, o1, b1⟩ := own_rcs (OwnR.rc (HRb7.out.below hb7c)).inn HLR.out.2.1
  have hb7d := bchain hb7c b1
  obtain ⟨y2, we, r2, o2, b2, -⟩ := app_rcs o1 (OwnR.rc (HRc.out.below hb7d)).inn (by have := HLR.out; omega) b1.size
  have hbce : Below wc.heap.size wc we := b1.trans b2
  have hb7e := bchain hb7c hbce
  obtain ⟨Ay, cy, hz⟩ := own_form o1
  subst hz
  have HSR := Lib.hid (sameRc_in (D2.rc ++ D3.rc) D1.rc y2 (.slice Ar1 D1.rc.length cr1) we (OwnR.rc o2).inn (OwnR.rc (HRa7.out.below hb7e)).inn (by rw [List.length_append]; have := HLR.out; omega) (by have := HLR.out; omega))
  rw [show decide (D2.rc ++ D3.rc = D1.rc) = true from decide_eq_true HP2.out.symm] at HSR
  have HNE : Hid (D1.nx = D3.nx) := Lib.hid (by rw [HP3.out, if_neg HN0.out])
  have HR1_ := Lib.hid r1
  have HR2_ := Lib.hid r2
  have HBE := Lib.hid hb7e
  clear r1 r2 o1 o2 b1 b2 hb7c hb7d hbce hb7e
  go_wp2_with (first | (at_builtin; refine wpList_append_want (by rfl) _ _ _ rfl (.slice (some ⟨wc.heap.size, 0, none⟩) 0 0) (.slice Ar2 D2.rc.length cr2) _ (by rfl) (by rfl) HR1_.out ?_) | (at_builtin; refine wpList_append_want (by rfl) _ _ _ rfl (.slice Ay D2.rc.length cy) (.slice Ar3 D3.rc.length cr3) _ (by rfl) (by rfl) HR2_.out ?_))
  refine HSR.out.mono ?_
  rintro r wf ⟨rfl, hb⟩
  have hb7f := bchain HBE.out hb
  clear hb
  have HSN := Lib.hid (sameM_any D1.nx D3.nx (.slice An1 D1.nx.length cn1) (.slice An3 D3.nx.length cn3) wf (HNa7.out.below hb7f).mems (HNc.out.below hb7f).mems HL1.out.1 (by have := HL1.out; omega))
  rw [show decide (D1.nx = D3.nx) = true from decide_eq_true HNE.out] at HSN
  go_wp2_with fail
  refine HSN.out.mono ?_
  rintro r wg ⟨rfl, hb⟩
  have HBF := Lib.hid (bchain HB7.out (bchain hb7f hb))
  clear hb hb7f
  go_wp2
  go_ret
  exact ⟨rfl, HBF.out⟩
theorem execParts_law (za : Value) (C : List A) (zm : Value) (N : List M) (zi : Value) (I : St) (v : Value) (L : List X) (a : Int) (w : World) (ha : AccIn w za C) (hC : C.length ≤ maxLen ∧ ∀ a ∈ C, (Lit.int .i64 a.amt).wf = true ∧ (Lit.int .i64 a.seq).wf = true) (hm : Mems w zm N) (hN : N.length * 24 ≤ reachBytes) (hi : ItIn w zi I) (hI : I.length ≤ maxLen) (hu : TxsC w v L) (hL : L.length ≤ maxLen) (_ : ∀ x ∈ L, OkX x) (_ : (Lit.int .i64 a).wf = true) (hT : Tab w) :
    Calls Tryz.prog 5 #[.agg #[za, zm, zi], v, .int .i64 a] w fun r w' => r = .returned (.bool true) ∧ Below w.heap.size w w' :=
  execParts_walk C N I za zm zi L v a w ha hm hi hC.1 (by unfold maxLen; unfold reachBytes at hN; omega) hI hu.1 hu.2 hL hT
end Go.Proofs.YtlckcfpdiigjiaaGreatDoor
