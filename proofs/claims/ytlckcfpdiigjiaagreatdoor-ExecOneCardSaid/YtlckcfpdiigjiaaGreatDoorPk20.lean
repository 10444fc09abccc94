/- ExecRefDo1, ExecRefDo3, ExecRefDo4, ExecRefDoAll, ExecSmall -/
import Derived.Test.YtlckcfpdiigjiaaGreatDoorPk19
import Derived.Test.YtlckcfpdiigjiaaGreatDoorPk06
namespace Go.Proofs.YtlckcfpdiigjiaaGreatDoor
open Go.RowKit
open Sto (T St)
open Go.Proofs.YtlckcfpdiigjiaaGreatDoor.Pw (M)
open Go.Proofs.YtlckcfpdiigjiaaGreatDoor.Txn (X)
open Go.Proofs.YtlckcfpdiigjiaaGreatDoor.Exc (A)
set_option maxRecDepth 100000 in
set_option maxHeartbeats 8000000 in
theorem rdo_1 (S : St) (v : Value) (x : X) (z : Value) (w : World) (hv : ItAt w v S) (hl : S.length ≤ 9000) (hS : Sto.Rising S) (hfv : ∀ p ∈ S, p.2.length ≤ 1000000) (hz : Mems w z x.mem) (hf : Txn.fine x = true) (hk : x.kind = 1) :
    Calls Tryz.prog 18 #[v, xval x z] w (RDoPost S x w) := by
  obtain ⟨w0, hw0, hb0, ra⟩ := tx_box x z w
  have HB0 := Lib.hid hb0
  obtain ⟨q0, hq0⟩ : ∃ q0, w.heap.size = q0 := ⟨_, rfl⟩
  rw [hq0] at ra
  have HQ0 := Lib.hid hq0
  have HX0 := Lib.hid ra
  have HV0 := Lib.hid (RowsAt.below hv hb0)
  have HFI := Lib.hid (rFine_any x z w0 (hz.below hb0))
  rw [hf] at HFI
  have HF := Lib.hid hf
  have HK := Lib.hid hk
  have HS := Lib.hid hS
  have HL := Lib.hid hl
  have HMM : Hid (∀ w', Below w.heap.size w w' → Mems w' z x.mem) := Lib.hid (fun w' h => hz.below h)
  have HCC := Lib.hid (fun n w' h => raccount_any S v n w' h (by omega) hS hfv)
  have HKO := Lib.hid (Txn.kind_of (Txn.fine_of hf).2.2.2.2)
  have hn0 : Txn.nameB x.frm = true := by obtain ⟨g1, g2, -⟩ := Txn.fine_of hf; simp [Txn.nameB, g1, g2]
  have HN0 := Lib.hid hn0
  have hs0 := (Txn.fine_of hf).2.2
  have HS0 := Lib.hid (show 0 ≤ x.seq ∧ x.seq ≤ 1099511627776 from ⟨hs0.1, hs0.2.1⟩)
  obtain ⟨Az, capz, rfl⟩ := hz.form
  obtain ⟨Av, capv, rfl, -, -⟩ := hv.form
  obtain ⟨a0, a1, a2, a3, a4, a5, a6, a7⟩ := ra.cells
  have HNM := Lib.hid (fun (h : (Exc.acc S x.frm).2 = 0) => Exc.acc_name h)
  have HDO3 := Lib.hid (fun h2 => Exc.do3 (S := S) (x := x) hf h2)
  have HDO160 := Lib.hid (fun h2 h3 => Exc.do160 (S := S) (x := x) hf h2 h3)
  have HDOL := Lib.hid (fun h2 h3 => Exc.doLast (S := S) (x := x) hf h2 h3)
  have HA1 := Lib.hid (fun w' h => HCC.out x.frm w' h)
  obtain ⟨⟨⟨fn, fa, fs⟩, e⟩, hfe⟩ : ∃ p, Exc.acc S x.frm = p := ⟨_, rfl⟩
  rw [hfe] at HA1 HNM HDO3 HDO160 HDOL
  dsimp only at HA1 HNM HDO3 HDO160 HDOL
  unfold accval at HA1
  dsimp only at HA1
  unfold xval at HFI ⊢
  clear hb0 ra hz hq0 hf hk hv hl hS hfv hfe hn0 hs0
  go_enter Tryz.func18, Tryz.ntmps18
  go_upto_region 1 with fail
  try rw [hw0]
  try rw [HQ0.out]
  clear hw0
  go_wp2_with fail
  refine HFI.out.mono ?_
  rintro r w1 ⟨rfl, hb⟩
  have HB1 := Lib.hid (bchain HB0.out hb)
  have HX1 := Lib.hid (HX0.out.below hb)
  have HV1 := Lib.hid (RowsAt.below HV0.out hb)
  clear hb
  clear a0 a1 a2 a3 a4 a5 a6 a7
  obtain ⟨a0, a1, a2, a3, a4, a5, a6, a7⟩ := HX1.out.cells
  go_wp2_with fail
  refine (HA1.out _ HV1.out).mono ?_
  rintro r w2 ⟨rfl, hb⟩
  have HB2 := Lib.hid (bchain HB1.out hb)
  have HX2 := Lib.hid (HX1.out.below hb)
  have HV2 := Lib.hid (RowsAt.below HV1.out hb)
  clear hb
  obtain ⟨w3, hw3, hb, rb⟩ := acc_box (⟨fn, fa, fs⟩ : A) w2
  obtain ⟨q6, hq⟩ : ∃ q, w2.heap.size = q := ⟨_, rfl⟩
  rw [hq] at rb
  have Hq6 := Lib.hid hq
  have HG3 := Lib.hid rb
  have HLq6 : Hid (w.heap.size ≤ q6) := Lib.hid (by rw [← hq]; exact HB2.out.size)
  have HB3 := Lib.hid (bchain HB2.out hb)
  have HX3 := Lib.hid (HX2.out.below hb)
  have HV3 := Lib.hid (RowsAt.below HV2.out hb)
  clear hb
  clear rb hq
  clear a0 a1 a2 a3 a4 a5 a6 a7
  go_upto_region 4 with fail
  try rw [hw3]
  try rw [Hq6.out]
  clear hw3
  obtain ⟨gg0, gg1, gg2⟩ := HG3.out.cells
  dsimp only at gg0 gg1 gg2
  obtain ⟨w4, hw4, hb, rb⟩ := acc_box (⟨fn, fa, fs⟩ : A) w3
  obtain ⟨q8, hq⟩ : ∃ q, w3.heap.size = q := ⟨_, rfl⟩
  rw [hq] at rb
  have Hq8 := Lib.hid hq
  have HT4 := Lib.hid rb
  have HLq8 : Hid (w.heap.size ≤ q8) := Lib.hid (by rw [← hq]; exact HB3.out.size)
  have HB4 := Lib.hid (bchain HB3.out hb)
  have HX4 := Lib.hid (HX3.out.below hb)
  have HV4 := Lib.hid (RowsAt.below HV3.out hb)
  have HG4 := Lib.hid (HG3.out.below hb)
  clear hb
  clear rb hq
  have HNE : Hid (q6 ≠ q8) := Lib.hid (by have := Hq8.out; have := lt_of_heap HG3.out; omega)
  have HNX : Hid (q0 ≠ q8 ∧ q0 ≠ q6) := Lib.hid ⟨by have := Hq8.out; have := lt_of_heap HX3.out; omega, by have := Hq6.out; have := lt_of_heap HX2.out; omega⟩
  go_upto_region 5 with fail
  try rw [hw4]
  try rw [Hq8.out]
  clear hw4 gg0 gg1 gg2
  have x0 := HX4.out.cells.1
  have x3 := HX4.out.cells.2.2.2.1
  have r1 : (x.kind == 1) = true := beq_iff_eq.2 HK.out
  have HA2 := Lib.hid (fun w' h => HCC.out x.dst w' h)
  have HNT := Lib.hid (fun (h : (Exc.acc S x.dst).2 = 0) => Exc.acc_name h)
  obtain ⟨⟨⟨tn, ta, ts⟩, f⟩, htf⟩ : ∃ p, Exc.acc S x.dst = p := ⟨_, rfl⟩
  rw [htf] at HA2 HNT HDO3 HDO160 HDOL
  dsimp only at HA2 HNT HDO3 HDO160 HDOL
  unfold accval at HA2
  dsimp only at HA2
  clear htf
  go_wp2_with fail
  refine (HA2.out _ HV4.out).mono ?_
  rintro r w5 ⟨rfl, hb⟩
  have HB5 := Lib.hid (bchain HB4.out hb)
  have HX5 := Lib.hid (HX4.out.below hb)
  have HV5 := Lib.hid (RowsAt.below HV4.out hb)
  have HG5 := Lib.hid (HG4.out.below hb)
  have HT5 := Lib.hid (HT4.out.below hb)
  clear hb
  clear x0 x3
  obtain ⟨t0, t1, t2⟩ := HT5.out.cells
  have u0 := HT5.out.free 0
  have u1 := HT5.out.free 1
  have u2 := HT5.out.free 2
  dsimp only at t0 t1 t2
  go_upto_region 7 with fail
  obtain ⟨w6, hw6⟩ : ∃ w6, putAcc w5 q8 (⟨tn, ta, ts⟩ : A) = w6 := ⟨_, rfl⟩
  have HT6 := Lib.hid (HT5.out.put (⟨tn, ta, ts⟩ : A))
  have HO6 := putAcc_only w5 q8 (⟨tn, ta, ts⟩ : A)
  rw [hw6] at HT6 HO6
  have HB6 : Hid (Below w.heap.size w w6) := Lib.hid (HB5.out.trans (HO6.below HLq8.out HB5.out.size))
  have HX6 : Hid (TxAt w6 q0 x (.slice Az x.mem.length capz)) := Lib.hid ((HO6.block q0 (lt_of_heap HX5.out) HNX.out.1).trans HX5.out)
  have HG6 : Hid (AccAt w6 q6 (⟨fn, fa, fs⟩ : A)) := Lib.hid ((HO6.block q6 (lt_of_heap HG5.out) HNE.out).trans HG5.out)
  have HV6 : Hid (ItAt w6 (.slice Av S.length capv) S) := Lib.hid (RowsAt.outF HV5.out (F := fun k => k = q8) HO6.out (fun k cs fl hk e => by rw [hk] at e; exact typ_no HT5.out (by decide) e))
  unfold putAcc at hw6
  dsimp only at hw6
  try rw [hw6]
  clear hw6 HO6 t0 t1 t2 u0 u1 u2
  by_cases he : e = 0
  case neg =>
    have s1 : (e != 0) = true := by rw [bne_iff_ne]; exact he
    have HE := Lib.hid (HDO3.out (Or.inl he))
    clear he
    go_wp2
    go_ret2
    exact rdoPost_bad HE.out HB6.out
  subst he
  obtain ⟨nm, nb, na, ns⟩ := HNM.out rfl
  have HNF := Lib.hid nm
  have HWA := Lib.hid na
  have HWS := Lib.hid ns
  clear nm nb na ns
  by_cases he : f = 0
  case neg =>
    have s1 : (f != 0) = true := by rw [bne_iff_ne]; exact he
    have HE := Lib.hid (HDO3.out (Or.inr ⟨HK.out, he⟩))
    clear he
    go_wp2
    go_ret2
    exact rdoPost_bad HE.out HB6.out
  subst he
  obtain ⟨nm, nb, na, ns⟩ := HNT.out rfl
  have HNG := Lib.hid nm
  have HWTA := Lib.hid na
  have HWTS := Lib.hid ns
  have HNB := Lib.hid nb
  clear nm nb na ns
  have g2 := HG6.out.cells.2.2
  have x2 := HX6.out.cells.2.2.1
  dsimp only at g2
  have HN3 := Lib.hid (show ¬ ((0 : Int) ≠ 0 ∨ (x.kind = 1 ∧ (0 : Int) ≠ 0)) from by rintro (h | ⟨_, h⟩) <;> exact h rfl)
  by_cases hq : fs = x.seq
  case neg =>
    have s2 : (fs != x.seq) = true := by rw [bne_iff_ne]; exact hq
    have HE := Lib.hid (HDO160.out HN3.out (Or.inl hq))
    clear hq
    go_wp2
    go_ret2
    exact rdoPost_bad HE.out HB6.out
  have s2 : (fs != x.seq) = false := by rw [hq]; exact bne_self_eq_false _
  have HQS := Lib.hid hq
  clear hq
  by_cases hq : fs = 1099511627776
  · have s3 : (fs == 1099511627776) = true := beq_iff_eq.2 hq
    have HE := Lib.hid (HDO160.out HN3.out (Or.inr hq))
    clear hq
    go_wp2
    go_ret2
    exact rdoPost_bad HE.out HB6.out
  have s3 : (fs == 1099511627776) = false := beq_eq_false_iff_ne.2 hq
  have HDL := Lib.hid (HDOL.out HN3.out (fun h => h.elim (fun h => h HQS.out) hq))
  have HSQ := Lib.hid (show Exc.wi (fs + 1) = true from by have h := Exc.wi_of HWS.out; unfold Exc.wi Exc.most; rw [decide_eq_true (by omega), decide_eq_true (by omega)]; rfl)
  have HSW := Lib.hid (wrap_two (n := fs + 1) (by have h := Exc.wi_of HWS.out; omega) (by have h := Exc.wi_of HWS.out; omega))
  clear hq
  have x0 := HX6.out.cells.1
  have HAM : Hid (1 ≤ x.amt ∧ x.amt ≤ 1099511627776) := Lib.hid (by have := HK.out; rcases HKO.out with ⟨h, _, _, q, q2, _⟩ | ⟨h, _⟩ | ⟨h, _⟩ | ⟨h, _⟩; exact ⟨q, q2⟩; all_goals omega)
  have HK1 : Hid (fa < x.amt → Exc.kindP S x (⟨fn, fa, fs⟩ : A) (⟨tn, ta, ts⟩ : A) = ([], 161, 0)) := Lib.hid (fun h => by unfold Exc.kindP; rw [if_pos HK.out, if_pos h])
  have HK2 : Hid (¬ fa < x.amt → x.dst = x.frm → Exc.kindP S x (⟨fn, fa, fs⟩ : A) (⟨tn, ta, ts⟩ : A) = (S, 0, fa)) := Lib.hid (fun h h2 => by unfold Exc.kindP; rw [if_pos HK.out, if_neg h, if_pos h2])
  have HK3 : Hid (¬ fa < x.amt → ¬ x.dst = x.frm → 1099511627776 < ta + x.amt → Exc.kindP S x (⟨fn, fa, fs⟩ : A) (⟨tn, ta, ts⟩ : A) = ([], 1, 0)) := Lib.hid (fun h h2 h3 => by unfold Exc.kindP; rw [if_pos HK.out, if_neg h, if_neg h2, if_pos (show Exc.most < ta + x.amt from h3)])
  have HK4 : Hid (¬ fa < x.amt → ¬ x.dst = x.frm → ¬ 1099511627776 < ta + x.amt → Exc.kindP S x (⟨fn, fa, fs⟩ : A) (⟨tn, ta, ts⟩ : A) = (Tri.put S (Exc.aK x.dst) (Exc.valS (ta + x.amt) ts), ((Tri.putC S (Exc.aK x.dst) (Exc.valS (ta + x.amt) ts) : Nat) : Int), fa - x.amt)) := Lib.hid (fun h h2 h3 => by unfold Exc.kindP; rw [if_pos HK.out, if_neg h, if_neg h2, if_neg (show ¬ Exc.most < ta + x.amt from h3)])
  have x4 := HX6.out.cells.2.2.2.2.1
  have x3 := HX6.out.cells.2.2.2.1
  have x1 := HX6.out.cells.2.1
  have g1 := HG6.out.cells.2.1
  have t1 := HT6.out.cells.2.1
  dsimp only at g1 t1
  by_cases h1 : fa < x.amt
  case pos =>
    have s4 : decide (fa < x.amt) = true := decide_eq_true h1
    have HE := Lib.hid (show Exc.doP S x = (([] : St), (161 : Int)) from HDL.out.trans (by rw [HK1.out h1]; exact Exc.last_bad (show (161 : Int) ≠ 0 by decide)))
    go_wp2
    go_ret2
    exact rdoPost_bad HE.out HB6.out
  have s4 : decide (fa < x.amt) = false := decide_eq_false h1
  have HH1 := Lib.hid h1
  by_cases h2 : x.dst = x.frm
  case pos =>
    have s5 : (!x.dst == x.frm) = false := by rw [Bool.not_eq_false', beq_iff_eq]; exact h2
    have HKK := Lib.hid (HK2.out h1 h2)
    clear h2
    have HDN := Lib.hid (show Exc.doP S x = Exc.lastP x.frm fs (S, 0, fa) from HDL.out.trans (by rw [HKK.out]))
    have HWV := Lib.hid (HWA.out)
    have HVAL := Lib.hid (fun w' => rvalue_any (⟨fn, fa, fs + 1⟩ : A) w' HWV.out HSQ.out)
    unfold accval at HVAL
    have hnl : x.frm.length ≤ 6 := by have := HN0.out; simp only [Txn.nameB, Bool.and_eq_true, decide_eq_true_eq] at this; exact this.2
    have e9 := cat_mk [97, 58] x.frm
    rw [show [97, 58] ++ x.frm = Exc.aK x.frm from rfl] at e9
    have hg9 : ¬ (9223372036854775807 < 2 + x.frm.length) := by omega
    clear hnl
    have g2 := HG6.out.cells.2.2
    have gf := HG6.out.free 2
    dsimp only at g2
    obtain ⟨sw1, sw2⟩ := HSW.out
    have HGz := Lib.hid (HG6.out.setSeq (fs + 1))
    have HBz : Hid (Below w.heap.size w (w6.setCell ⟨q6, 2, none⟩ (.int .i64 (fs + 1)))) := Lib.hid (HB6.out.trans (((Only.refl q6 w6).setCell (p := ⟨q6, 2, none⟩) rfl _).below HLq6.out HB6.out.size))
    have HXz : Hid (TxAt (w6.setCell ⟨q6, 2, none⟩ (.int .i64 (fs + 1))) q0 x (.slice Az x.mem.length capz)) := Lib.hid ((((Only.refl q6 w6).setCell (p := ⟨q6, 2, none⟩) rfl (.int .i64 (fs + 1))).block q0 (lt_of_heap HX6.out) HNX.out.2).trans HX6.out)
    have HRz : Hid (ItAt (w6.setCell ⟨q6, 2, none⟩ (.int .i64 (fs + 1))) (.slice Av S.length capv) (S)) := Lib.hid (RowsAt.outF HV6.out (F := fun k => k = q6) (((Only.refl q6 w6).setCell (p := ⟨q6, 2, none⟩) rfl _).out) (fun k cs fl hk e => by rw [hk] at e; exact typ_no HG6.out (by decide) e))
    obtain ⟨wz, hwz⟩ : ∃ wz, w6.setCell ⟨q6, 2, none⟩ (.int .i64 (fs + 1)) = wz := ⟨_, rfl⟩
    rw [hwz] at HGz HBz HXz HRz
    have HPU : Hid (∀ w', Below wz.heap.size wz w' → Calls Tryz.prog 29 #[.slice Av S.length capv, .string ⟨(Exc.aK x.frm).toArray⟩, .string ⟨(Exc.valS fa (fs + 1)).toArray⟩] w' fun e w'' => ∃ v', e = .returned (.tuple #[v', .int .i64 (Tri.putC (S) (Exc.aK x.frm) (Exc.valS fa (fs + 1)) : Nat)]) ∧ ItAt w'' v' (Tri.putL (S) (Exc.aK x.frm) (Exc.valS fa (fs + 1))) ∧ Below wz.heap.size wz w'') := Lib.hid (fun w' h => by
      have h2 := rtPut_all (S) (.slice Av S.length capv) (Exc.aK x.frm) (Exc.valS fa (fs + 1)) w' (RowsAt.below HRz.out h) (by have := HL.out; omega)
      unfold RtPutPost at h2
      exact h2.mono fun e w'' ⟨v', p, q, r⟩ => ⟨v', p, q, bchain h r⟩)
    obtain ⟨Y, hY⟩ : ∃ Y, Exc.valS fa (fs + 1) = Y := ⟨_, rfl⟩
    obtain ⟨K, hK⟩ : ∃ K, Exc.aK x.frm = K := ⟨_, rfl⟩
    have HYE := Lib.hid hY
    have HKE := Lib.hid hK
    rw [hY] at HVAL HPU
    rw [hK] at HPU e9
    clear hY hK
    have HVA : Hid (∀ w', Below wz.heap.size wz w' → Calls Tryz.prog 38 #[.agg #[.string ⟨fn.toArray⟩, .int .i64 fa, .int .i64 (fs + 1)]] w' fun e w'' => e = .returned (.string ⟨Y.toArray⟩) ∧ Below wz.heap.size wz w'') := Lib.hid (fun w' h => (HVAL.out w').mono fun e w'' ⟨p, q⟩ => ⟨p, bchain h q⟩)
    have HCE : Hid (∀ w', Below wz.heap.size wz w' → w'.cell? ⟨q0, 1, none⟩ = some (.string ⟨x.frm.toArray⟩) ∧ w'.cell? ⟨q6, 0, none⟩ = some (.string ⟨fn.toArray⟩) ∧ w'.cell? ⟨q6, 1, none⟩ = some (.int .i64 (fa)) ∧ w'.cell? ⟨q6, 2, none⟩ = some (.int .i64 (fs + 1))) := Lib.hid (fun w' h => ⟨(HXz.out.below h).cells.2.1, (HGz.out.below h).cells⟩)
    have BD : Below wz.heap.size wz wz.drew := (Below.refl _ _).drew
    obtain ⟨d0, d1, d2, d3⟩ := HCE.out _ (Below.refl _ _)
    go_upto_region 33 with fail
    go_region_with (first | (go_at_call 38; refine (HVA.out _ (by with_reducible assumption)).mono ?_; rintro r wa ⟨rfl, hba⟩; obtain ⟨j0, j1, j2, j3⟩ := HCE.out _ hba) | (go_at_call 29; refine (HPU.out _ (by with_reducible assumption)).mono ?_; rintro r wb ⟨zb, rfl, hib, hbb⟩))
    all_goals
      have HBB := Lib.hid (bchain HBz.out hbb)
      have HIB := Lib.hid hib
      clear hbb hib
      rw [← HYE.out, ← HKE.out] at HIB
      rw [← HYE.out, ← HKE.out]
      go_wp2
      go_ret2
      exact rdoPost_last HDN.out HIB.out HBB.out
  have s5 : (!x.dst == x.frm) = true := by rw [Bool.not_eq_true', beq_eq_false_iff_ne]; exact h2
  have HH2 := Lib.hid h2
  obtain ⟨sw3, sw4⟩ := wrap_two (n := ta + x.amt) (by have h := Exc.wi_of HWTA.out; have := HAM.out; omega) (by have h := Exc.wi_of HWTA.out; have := HAM.out; have h9 : Exc.most = 1099511627776 := rfl; omega)
  by_cases h3 : 1099511627776 < ta + x.amt
  case pos =>
    have s6 : decide (1099511627776 < ta + x.amt) = true := decide_eq_true h3
    have HE := Lib.hid (show Exc.doP S x = (([] : St), (1 : Int)) from HDL.out.trans (by rw [HK3.out h1 h2 h3]; exact Exc.last_bad (show (1 : Int) ≠ 0 by decide)))
    clear h1 h2 h3
    go_wp2
    go_ret2
    exact rdoPost_bad HE.out HB6.out
  have s6 : decide (1099511627776 < ta + x.amt) = false := decide_eq_false h3
  have HKK := Lib.hid (HK4.out h1 h2 h3)
  have HH3 := Lib.hid h3
  clear h1 h2 h3
  have v1 := HT6.out.free 1
  go_upto_region 24 with fail
  obtain ⟨w7, hw7⟩ : ∃ w7, w6.setCell ⟨q8, 1, none⟩ (.int .i64 (ta + x.amt)) = w7 := ⟨_, rfl⟩
  have HT7 := Lib.hid (HT6.out.setAmt (ta + x.amt))
  have HO7 := (Only.refl q8 w6).setCell (p := ⟨q8, 1, none⟩) rfl (.int .i64 (ta + x.amt))
  rw [hw7] at HT7 HO7
  dsimp only at HT7
  have HB7 : Hid (Below w.heap.size w w7) := Lib.hid (HB6.out.trans (HO7.below HLq8.out HB6.out.size))
  have HX7 : Hid (TxAt w7 q0 x (.slice Az x.mem.length capz)) := Lib.hid ((HO7.block q0 (lt_of_heap HX6.out) HNX.out.1).trans HX6.out)
  have HG7 : Hid (AccAt w7 q6 (⟨fn, fa, fs⟩ : A)) := Lib.hid ((HO7.block q6 (lt_of_heap HG6.out) HNE.out).trans HG6.out)
  have HV7 : Hid (ItAt w7 (.slice Av S.length capv) S) := Lib.hid (RowsAt.outF HV6.out (F := fun k => k = q8) HO7.out (fun k cs fl hk e => by rw [hk] at e; exact typ_no HT6.out (by decide) e))
  try rw [hw7]
  clear hw7 HO7 x4 x3 x1 g1 t1 v1 sw3 sw4
  have x4 := HX7.out.cells.2.2.2.2.1
  have g1 := HG7.out.cells.2.1
  have v1 := HG7.out.free 1
  dsimp only at g1
  obtain ⟨sw3, sw4⟩ := wrap_two (n := fa - x.amt) (by have h := Exc.wi_of HWA.out; have := HAM.out; omega) (by have h := Exc.wi_of HWA.out; have := HAM.out; have h9 : Exc.most = 1099511627776 := rfl; omega)
  go_upto_region 25 with fail
  obtain ⟨w8, hw8⟩ : ∃ w8, w7.setCell ⟨q6, 1, none⟩ (.int .i64 (fa - x.amt)) = w8 := ⟨_, rfl⟩
  have HG8 := Lib.hid (HG7.out.setAmt (fa - x.amt))
  have HO8 := (Only.refl q6 w7).setCell (p := ⟨q6, 1, none⟩) rfl (.int .i64 (fa - x.amt))
  rw [hw8] at HG8 HO8
  dsimp only at HG8
  have HB8 : Hid (Below w.heap.size w w8) := Lib.hid (HB7.out.trans (HO8.below HLq6.out HB7.out.size))
  have HX8 : Hid (TxAt w8 q0 x (.slice Az x.mem.length capz)) := Lib.hid ((HO8.block q0 (lt_of_heap HX7.out) HNX.out.2).trans HX7.out)
  have HT8 : Hid (AccAt w8 q8 (⟨tn, ta + x.amt, ts⟩ : A)) := Lib.hid ((HO8.block q8 (lt_of_heap HT7.out) (fun h => HNE.out h.symm)).trans HT7.out)
  have HV8 : Hid (ItAt w8 (.slice Av S.length capv) S) := Lib.hid (RowsAt.outF HV7.out (F := fun k => k = q6) HO8.out (fun k cs fl hk e => by rw [hk] at e; exact typ_no HG7.out (by decide) e))
  try rw [hw8]
  clear hw8 HO8 x4 g1 v1 sw3 sw4
  have HWU : Hid (Exc.wi (ta + x.amt) = true) := Lib.hid (by have h := Exc.wi_of HWTA.out; have := HAM.out; have := HH3.out; unfold Exc.wi Exc.most; rw [decide_eq_true (by omega), decide_eq_true (by omega)]; rfl)
  have HVAL := Lib.hid (fun w' => rvalue_any (⟨tn, ta + x.amt, ts⟩ : A) w' HWU.out HWTS.out)
  unfold accval at HVAL
  have hnl : x.dst.length ≤ 6 := by have := HNB.out; simp only [Txn.nameB, Bool.and_eq_true, decide_eq_true_eq] at this; exact this.2
  have e9 := cat_mk [97, 58] x.dst
  rw [show [97, 58] ++ x.dst = Exc.aK x.dst from rfl] at e9
  have hg9 : ¬ (9223372036854775807 < 2 + x.dst.length) := by omega
  clear hnl
  have HPU : Hid (∀ w', Below w8.heap.size w8 w' → Calls Tryz.prog 29 #[.slice Av S.length capv, .string ⟨(Exc.aK x.dst).toArray⟩, .string ⟨(Exc.valS (ta + x.amt) ts).toArray⟩] w' fun e w'' => ∃ v', e = .returned (.tuple #[v', .int .i64 (Tri.putC S (Exc.aK x.dst) (Exc.valS (ta + x.amt) ts) : Nat)]) ∧ ItAt w'' v' (Tri.putL S (Exc.aK x.dst) (Exc.valS (ta + x.amt) ts)) ∧ Below w8.heap.size w8 w'') := Lib.hid (fun w' h => by
    have h2 := rtPut_all S (.slice Av S.length capv) (Exc.aK x.dst) (Exc.valS (ta + x.amt) ts) w' (RowsAt.below HV8.out h) (by have := HL.out; omega)
    unfold RtPutPost at h2
    exact h2.mono fun e w'' ⟨v', p, q, r⟩ => ⟨v', p, q, bchain h r⟩)
  have HPL : Hid (Tri.putL S (Exc.aK x.dst) (Exc.valS (ta + x.amt) ts) = if Tri.putC S (Exc.aK x.dst) (Exc.valS (ta + x.amt) ts) = 0 then Tri.put S (Exc.aK x.dst) (Exc.valS (ta + x.amt) ts) else []) := Lib.hid rfl
  have HRL : Hid ((Tri.put S (Exc.aK x.dst) (Exc.valS (ta + x.amt) ts)).length ≤ 10000) := Lib.hid (by rw [Tri.put_len]; have := HL.out; split <;> omega)
  obtain ⟨c, hc⟩ : ∃ c, Tri.putC S (Exc.aK x.dst) (Exc.valS (ta + x.amt) ts) = c := ⟨_, rfl⟩
  obtain ⟨R, hR⟩ : ∃ R, Tri.put S (Exc.aK x.dst) (Exc.valS (ta + x.amt) ts) = R := ⟨_, rfl⟩
  obtain ⟨Y, hY⟩ : ∃ Y, Exc.valS (ta + x.amt) ts = Y := ⟨_, rfl⟩
  obtain ⟨K, hK⟩ : ∃ K, Exc.aK x.dst = K := ⟨_, rfl⟩
  rw [hc] at HPU HKK HPL
  rw [hR] at HKK HPL HRL
  rw [hY] at HVAL HPU HPL
  rw [hK] at HPU HPL e9
  clear hc hR hY hK
  have HVA : Hid (∀ w', Below w8.heap.size w8 w' → Calls Tryz.prog 38 #[.agg #[.string ⟨tn.toArray⟩, .int .i64 (ta + x.amt), .int .i64 ts]] w' fun e w'' => e = .returned (.string ⟨Y.toArray⟩) ∧ Below w8.heap.size w8 w'') := Lib.hid (fun w' h => (HVAL.out w').mono fun e w'' ⟨p, q⟩ => ⟨p, bchain h q⟩)
  have HCE : Hid (∀ w', Below w8.heap.size w8 w' → w'.cell? ⟨q0, 3, none⟩ = some (.string ⟨x.dst.toArray⟩) ∧ w'.cell? ⟨q8, 0, none⟩ = some (.string ⟨tn.toArray⟩) ∧ w'.cell? ⟨q8, 1, none⟩ = some (.int .i64 (ta + x.amt)) ∧ w'.cell? ⟨q8, 2, none⟩ = some (.int .i64 ts)) := Lib.hid (fun w' h => ⟨(HX8.out.below h).cells.2.2.2.1, (HT8.out.below h).cells⟩)
  have BD : Below w8.heap.size w8 w8.drew := (Below.refl _ _).drew
  obtain ⟨d0, d1, d2, d3⟩ := HCE.out _ (Below.refl _ _)
  go_region_with (first | (go_at_call 38; refine (HVA.out _ (by with_reducible assumption)).mono ?_; rintro r wa ⟨rfl, hba⟩; obtain ⟨j0, j1, j2, j3⟩ := HCE.out _ hba) | (go_at_call 29; refine (HPU.out _ (by with_reducible assumption)).mono ?_; rintro r w9 ⟨zr, rfl, hir, hb⟩))
  all_goals clear HCE HVA HPU HVAL
  all_goals
    have HIR := Lib.hid hir
    clear hir
    have HB9 := Lib.hid (bchain HB8.out hb)
    have HX9 := Lib.hid (HX8.out.below hb)
    have HG9 := Lib.hid (HG8.out.below hb)
    clear hb
    try clear d0 d1 d2 d3 BD
    try clear j0 j1 j2 j3
    try clear hba
    by_cases hc0 : c = 0
    case neg =>
      have s7 : ((c : Int) != 0) = true := by rw [bne_iff_ne]; omega
      have HE := Lib.hid (show Exc.doP S x = (([] : St), ((c : Nat) : Int)) from HDL.out.trans (by rw [HKK.out]; exact Exc.last_bad (show ((c : Nat) : Int) ≠ 0 by omega)))
      clear hc0
      go_wp2
      go_ret2
      exact rdoPost_bad HE.out HB9.out
    subst hc0
    rw [HPL.out, if_pos rfl] at HIR
    obtain ⟨Ar, capr, rfl, -, -⟩ := RowsAt.form HIR.out
    try clear s2 s3 s4 s5 s6
    try clear x0 g2
    try clear x2
    try clear e9 hg9
    try clear r1
    have HDN := Lib.hid (show Exc.doP S x = Exc.lastP x.frm fs (R, 0, (fa - x.amt)) from HDL.out.trans (by rw [HKK.out]; rfl))
    have HWV := Lib.hid ((by have h := Exc.wi_of HWA.out; have := HAM.out; have := HH1.out; unfold Exc.wi Exc.most; rw [decide_eq_true (by omega), decide_eq_true (by have h9 : Exc.most = 1099511627776 := rfl; omega)]; rfl : Exc.wi (fa - x.amt) = true))
    have HVAL := Lib.hid (fun w' => rvalue_any (⟨fn, (fa - x.amt), fs + 1⟩ : A) w' HWV.out HSQ.out)
    unfold accval at HVAL
    have hnl : x.frm.length ≤ 6 := by have := HN0.out; simp only [Txn.nameB, Bool.and_eq_true, decide_eq_true_eq] at this; exact this.2
    have e9 := cat_mk [97, 58] x.frm
    rw [show [97, 58] ++ x.frm = Exc.aK x.frm from rfl] at e9
    have hg9 : ¬ (9223372036854775807 < 2 + x.frm.length) := by omega
    clear hnl
    have g2 := HG9.out.cells.2.2
    have gf := HG9.out.free 2
    dsimp only at g2
    obtain ⟨sw1, sw2⟩ := HSW.out
    have HGz := Lib.hid (HG9.out.setSeq (fs + 1))
    have HBz : Hid (Below w.heap.size w (w9.setCell ⟨q6, 2, none⟩ (.int .i64 (fs + 1)))) := Lib.hid (HB9.out.trans (((Only.refl q6 w9).setCell (p := ⟨q6, 2, none⟩) rfl _).below HLq6.out HB9.out.size))
    have HXz : Hid (TxAt (w9.setCell ⟨q6, 2, none⟩ (.int .i64 (fs + 1))) q0 x (.slice Az x.mem.length capz)) := Lib.hid ((((Only.refl q6 w9).setCell (p := ⟨q6, 2, none⟩) rfl (.int .i64 (fs + 1))).block q0 (lt_of_heap HX9.out) HNX.out.2).trans HX9.out)
    have HRz : Hid (ItAt (w9.setCell ⟨q6, 2, none⟩ (.int .i64 (fs + 1))) (.slice Ar R.length capr) (R)) := Lib.hid (RowsAt.outF HIR.out (F := fun k => k = q6) (((Only.refl q6 w9).setCell (p := ⟨q6, 2, none⟩) rfl _).out) (fun k cs fl hk e => by rw [hk] at e; exact typ_no HG9.out (by decide) e))
    obtain ⟨wz, hwz⟩ : ∃ wz, w9.setCell ⟨q6, 2, none⟩ (.int .i64 (fs + 1)) = wz := ⟨_, rfl⟩
    rw [hwz] at HGz HBz HXz HRz
    have HPU : Hid (∀ w', Below wz.heap.size wz w' → Calls Tryz.prog 29 #[.slice Ar R.length capr, .string ⟨(Exc.aK x.frm).toArray⟩, .string ⟨(Exc.valS (fa - x.amt) (fs + 1)).toArray⟩] w' fun e w'' => ∃ v', e = .returned (.tuple #[v', .int .i64 (Tri.putC (R) (Exc.aK x.frm) (Exc.valS (fa - x.amt) (fs + 1)) : Nat)]) ∧ ItAt w'' v' (Tri.putL (R) (Exc.aK x.frm) (Exc.valS (fa - x.amt) (fs + 1))) ∧ Below wz.heap.size wz w'') := Lib.hid (fun w' h => by
      have h2 := rtPut_all (R) (.slice Ar R.length capr) (Exc.aK x.frm) (Exc.valS (fa - x.amt) (fs + 1)) w' (RowsAt.below HRz.out h) (HRL.out)
      unfold RtPutPost at h2
      exact h2.mono fun e w'' ⟨v', p, q, r⟩ => ⟨v', p, q, bchain h r⟩)
    obtain ⟨Y, hY⟩ : ∃ Y, Exc.valS (fa - x.amt) (fs + 1) = Y := ⟨_, rfl⟩
    obtain ⟨K, hK⟩ : ∃ K, Exc.aK x.frm = K := ⟨_, rfl⟩
    have HYE := Lib.hid hY
    have HKE := Lib.hid hK
    rw [hY] at HVAL HPU
    rw [hK] at HPU e9
    clear hY hK
    have HVA : Hid (∀ w', Below wz.heap.size wz w' → Calls Tryz.prog 38 #[.agg #[.string ⟨fn.toArray⟩, .int .i64 (fa - x.amt), .int .i64 (fs + 1)]] w' fun e w'' => e = .returned (.string ⟨Y.toArray⟩) ∧ Below wz.heap.size wz w'') := Lib.hid (fun w' h => (HVAL.out w').mono fun e w'' ⟨p, q⟩ => ⟨p, bchain h q⟩)
    have HCE : Hid (∀ w', Below wz.heap.size wz w' → w'.cell? ⟨q0, 1, none⟩ = some (.string ⟨x.frm.toArray⟩) ∧ w'.cell? ⟨q6, 0, none⟩ = some (.string ⟨fn.toArray⟩) ∧ w'.cell? ⟨q6, 1, none⟩ = some (.int .i64 ((fa - x.amt))) ∧ w'.cell? ⟨q6, 2, none⟩ = some (.int .i64 (fs + 1))) := Lib.hid (fun w' h => ⟨(HXz.out.below h).cells.2.1, (HGz.out.below h).cells⟩)
    have BD : Below wz.heap.size wz wz.drew := (Below.refl _ _).drew
    obtain ⟨d0, d1, d2, d3⟩ := HCE.out _ (Below.refl _ _)
    go_upto_region 33 with fail
    go_region_with (first | (go_at_call 38; refine (HVA.out _ (by with_reducible assumption)).mono ?_; rintro r wa ⟨rfl, hba⟩; obtain ⟨j0, j1, j2, j3⟩ := HCE.out _ hba) | (go_at_call 29; refine (HPU.out _ (by with_reducible assumption)).mono ?_; rintro r wb ⟨zb, rfl, hib, hbb⟩))
    all_goals
      have HBB := Lib.hid (bchain HBz.out hbb)
      have HIB := Lib.hid hib
      clear hbb hib
      rw [← HYE.out, ← HKE.out] at HIB
      rw [← HYE.out, ← HKE.out]
      go_wp2
      go_ret2
      exact rdoPost_last HDN.out HIB.out HBB.out
end Go.Proofs.YtlckcfpdiigjiaaGreatDoor
namespace Go.Proofs.YtlckcfpdiigjiaaGreatDoor
open Go.RowKit
open Sto (T St)
open Go.Proofs.YtlckcfpdiigjiaaGreatDoor.Pw (M)
open Go.Proofs.YtlckcfpdiigjiaaGreatDoor.Txn (X)
open Go.Proofs.YtlckcfpdiigjiaaGreatDoor.Exc (A)
theorem del_le (S : St) (k : T) : (Tri.del S k).length ≤ S.length := by
  induction S with
  | nil => exact Nat.le_refl _
  | cons a r ih => rw [Tri.del]; split
                   · simp
                   · simp only [List.length_cons]; omega
set_option maxRecDepth 100000 in
set_option maxHeartbeats 8000000 in
theorem rdo_3 (S : St) (v : Value) (x : X) (z : Value) (w : World) (hv : ItAt w v S) (hl : S.length ≤ 9000) (hS : Sto.Rising S) (hfv : ∀ p ∈ S, p.2.length ≤ 1000000) (hz : Mems w z x.mem) (hf : Txn.fine x = true) (hk : x.kind = 3) :
    Calls Tryz.prog 18 #[v, xval x z] w (RDoPost S x w) := by
  obtain ⟨w0, hw0, hb0, ra⟩ := tx_box x z w
  have HB0 := Lib.hid hb0
  obtain ⟨q0, hq0⟩ : ∃ q0, w.heap.size = q0 := ⟨_, rfl⟩
  rw [hq0] at ra
  have HQ0 := Lib.hid hq0
  have HX0 := Lib.hid ra
  have HV0 := Lib.hid (RowsAt.below hv hb0)
  have HFI := Lib.hid (rFine_any x z w0 (hz.below hb0))
  rw [hf] at HFI
  have HF := Lib.hid hf
  have HK := Lib.hid hk
  have HS := Lib.hid hS
  have HL := Lib.hid hl
  have HMM : Hid (∀ w', Below w.heap.size w w' → Mems w' z x.mem) := Lib.hid (fun w' h => hz.below h)
  have HCC := Lib.hid (fun n w' h => raccount_any S v n w' h (by omega) hS hfv)
  have HKO := Lib.hid (Txn.kind_of (Txn.fine_of hf).2.2.2.2)
  have hn0 : Txn.nameB x.frm = true := by obtain ⟨g1, g2, -⟩ := Txn.fine_of hf; simp [Txn.nameB, g1, g2]
  have HN0 := Lib.hid hn0
  have hs0 := (Txn.fine_of hf).2.2
  have HS0 := Lib.hid (show 0 ≤ x.seq ∧ x.seq ≤ 1099511627776 from ⟨hs0.1, hs0.2.1⟩)
  obtain ⟨Az, capz, rfl⟩ := hz.form
  obtain ⟨Av, capv, rfl, -, -⟩ := hv.form
  obtain ⟨a0, a1, a2, a3, a4, a5, a6, a7⟩ := ra.cells
  have HNM := Lib.hid (fun (h : (Exc.acc S x.frm).2 = 0) => Exc.acc_name h)
  have HDO3 := Lib.hid (fun h2 => Exc.do3 (S := S) (x := x) hf h2)
  have HDO160 := Lib.hid (fun h2 h3 => Exc.do160 (S := S) (x := x) hf h2 h3)
  have HDOL := Lib.hid (fun h2 h3 => Exc.doLast (S := S) (x := x) hf h2 h3)
  have HA1 := Lib.hid (fun w' h => HCC.out x.frm w' h)
  obtain ⟨⟨⟨fn, fa, fs⟩, e⟩, hfe⟩ : ∃ p, Exc.acc S x.frm = p := ⟨_, rfl⟩
  rw [hfe] at HA1 HNM HDO3 HDO160 HDOL
  dsimp only at HA1 HNM HDO3 HDO160 HDOL
  unfold accval at HA1
  dsimp only at HA1
  unfold xval at HFI ⊢
  clear hb0 ra hz hq0 hf hk hv hl hS hfv hfe hn0 hs0
  go_enter Tryz.func18, Tryz.ntmps18
  go_upto_region 1 with fail
  try rw [hw0]
  try rw [HQ0.out]
  clear hw0
  go_wp2_with fail
  refine HFI.out.mono ?_
  rintro r w1 ⟨rfl, hb⟩
  have HB1 := Lib.hid (bchain HB0.out hb)
  have HX1 := Lib.hid (HX0.out.below hb)
  have HV1 := Lib.hid (RowsAt.below HV0.out hb)
  clear hb
  clear a0 a1 a2 a3 a4 a5 a6 a7
  obtain ⟨a0, a1, a2, a3, a4, a5, a6, a7⟩ := HX1.out.cells
  go_wp2_with fail
  refine (HA1.out _ HV1.out).mono ?_
  rintro r w2 ⟨rfl, hb⟩
  have HB2 := Lib.hid (bchain HB1.out hb)
  have HX2 := Lib.hid (HX1.out.below hb)
  have HV2 := Lib.hid (RowsAt.below HV1.out hb)
  clear hb
  obtain ⟨w3, hw3, hb, rb⟩ := acc_box (⟨fn, fa, fs⟩ : A) w2
  obtain ⟨q6, hq⟩ : ∃ q, w2.heap.size = q := ⟨_, rfl⟩
  rw [hq] at rb
  have Hq6 := Lib.hid hq
  have HG3 := Lib.hid rb
  have HLq6 : Hid (w.heap.size ≤ q6) := Lib.hid (by rw [← hq]; exact HB2.out.size)
  have HB3 := Lib.hid (bchain HB2.out hb)
  have HX3 := Lib.hid (HX2.out.below hb)
  have HV3 := Lib.hid (RowsAt.below HV2.out hb)
  clear hb
  clear rb hq
  clear a0 a1 a2 a3 a4 a5 a6 a7
  go_upto_region 4 with fail
  try rw [hw3]
  try rw [Hq6.out]
  clear hw3
  obtain ⟨gg0, gg1, gg2⟩ := HG3.out.cells
  dsimp only at gg0 gg1 gg2
  obtain ⟨w4, hw4, hb, rb⟩ := acc_box (⟨fn, fa, fs⟩ : A) w3
  obtain ⟨q8, hq⟩ : ∃ q, w3.heap.size = q := ⟨_, rfl⟩
  rw [hq] at rb
  have Hq8 := Lib.hid hq
  have HT4 := Lib.hid rb
  have HLq8 : Hid (w.heap.size ≤ q8) := Lib.hid (by rw [← hq]; exact HB3.out.size)
  have HB4 := Lib.hid (bchain HB3.out hb)
  have HX4 := Lib.hid (HX3.out.below hb)
  have HV4 := Lib.hid (RowsAt.below HV3.out hb)
  have HG4 := Lib.hid (HG3.out.below hb)
  clear hb
  clear rb hq
  have HNE : Hid (q6 ≠ q8) := Lib.hid (by have := Hq8.out; have := lt_of_heap HG3.out; omega)
  have HNX : Hid (q0 ≠ q8 ∧ q0 ≠ q6) := Lib.hid ⟨by have := Hq8.out; have := lt_of_heap HX3.out; omega, by have := Hq6.out; have := lt_of_heap HX2.out; omega⟩
  go_upto_region 5 with fail
  try rw [hw4]
  try rw [Hq8.out]
  clear hw4 gg0 gg1 gg2
  have r1 : (x.kind == 1) = false := beq_eq_false_iff_ne.2 (by have := HK.out; omega)
  have r2 : (x.kind == 2) = false := beq_eq_false_iff_ne.2 (by have := HK.out; omega)
  have r3 : (x.kind == 3) = true := beq_iff_eq.2 HK.out
  have x0 := HX4.out.cells.1
  by_cases he : e = 0
  case neg =>
    have s1 : (e != 0) = true := by rw [bne_iff_ne]; exact he
    have HE := Lib.hid (HDO3.out (Or.inl he))
    clear he
    go_wp2
    go_ret2
    exact rdoPost_bad HE.out HB4.out
  subst he
  obtain ⟨nm, nb, na, ns⟩ := HNM.out rfl
  have HNF := Lib.hid nm
  have HWA := Lib.hid na
  have HWS := Lib.hid ns
  clear nm nb na ns
  have g2 := HG4.out.cells.2.2
  have x2 := HX4.out.cells.2.2.1
  dsimp only at g2
  have HN3 := Lib.hid (show ¬ ((0 : Int) ≠ 0 ∨ (x.kind = 1 ∧ (Exc.acc S x.dst).2 ≠ 0)) from by rintro (h | h); exact h rfl; have := HK.out; omega)
  by_cases hq : fs = x.seq
  case neg =>
    have s2 : (fs != x.seq) = true := by rw [bne_iff_ne]; exact hq
    have HE := Lib.hid (HDO160.out HN3.out (Or.inl hq))
    clear hq
    go_wp2
    go_ret2
    exact rdoPost_bad HE.out HB4.out
  have s2 : (fs != x.seq) = false := by rw [hq]; exact bne_self_eq_false _
  have HQS := Lib.hid hq
  clear hq
  by_cases hq : fs = 1099511627776
  · have s3 : (fs == 1099511627776) = true := beq_iff_eq.2 hq
    have HE := Lib.hid (HDO160.out HN3.out (Or.inr hq))
    clear hq
    go_wp2
    go_ret2
    exact rdoPost_bad HE.out HB4.out
  have s3 : (fs == 1099511627776) = false := beq_eq_false_iff_ne.2 hq
  have HDL := Lib.hid (HDOL.out HN3.out (fun h => h.elim (fun h => h HQS.out) hq))
  have HSQ := Lib.hid (show Exc.wi (fs + 1) = true from by have h := Exc.wi_of HWS.out; unfold Exc.wi Exc.most; rw [decide_eq_true (by omega), decide_eq_true (by omega)]; rfl)
  have HSW := Lib.hid (wrap_two (n := fs + 1) (by have h := Exc.wi_of HWS.out; omega) (by have h := Exc.wi_of HWS.out; omega))
  clear hq
  have x0 := HX4.out.cells.1
  have e1 := cat_mk [100, 58] x.key
  rw [show [100, 58] ++ x.key = Exc.dK x.key from rfl] at e1
  have hg : ¬ (9223372036854775807 < 2 + x.key.length) := by have := HK.out; rcases HKO.out with ⟨h, _⟩ | ⟨h, _⟩ | ⟨h, q⟩ | ⟨h, _⟩ <;> omega
  have HPK := Lib.hid (rtDel_any S (.slice Av S.length capv) (Exc.dK x.key) w4 HV4.out (by have := HL.out; omega) HS.out (by simp only [Exc.dK, List.length_cons]; have := HK.out; rcases HKO.out with ⟨h, _⟩ | ⟨h, _⟩ | ⟨h, q⟩ | ⟨h, _⟩ <;> omega))
  unfold RtDelPost at HPK
  have HKP : Hid (Exc.kindP S x (⟨fn, fa, fs⟩ : A) (Exc.acc S x.dst).1 = (Tri.del S (Exc.dK x.key), (((Tri.getC S (Exc.dK x.key)).2 : Nat) : Int), fa)) := Lib.hid (by unfold Exc.kindP; rw [if_neg (by have := HK.out; omega), if_neg (by have := HK.out; omega), if_pos HK.out])
  have HPL : Hid (Tri.delL S (Exc.dK x.key) = if (Tri.getC S (Exc.dK x.key)).2 = 0 then Tri.del S (Exc.dK x.key) else []) := Lib.hid rfl
  have HRL : Hid ((Tri.del S (Exc.dK x.key)).length ≤ 10000) := Lib.hid (by have := HL.out; have := del_le S (Exc.dK x.key); omega)
  obtain ⟨c, hc⟩ : ∃ c, (Tri.getC S (Exc.dK x.key)).2 = c := ⟨_, rfl⟩
  obtain ⟨R, hR⟩ : ∃ R, Tri.del S (Exc.dK x.key) = R := ⟨_, rfl⟩
  obtain ⟨K1, hK1⟩ : ∃ K, Exc.dK x.key = K := ⟨_, rfl⟩
  rw [hc] at HPK HKP HPL
  rw [hR] at HKP HPL HRL
  rw [hK1] at HPK HPL e1
  clear hc hR hK1
  have x5 := HX4.out.cells.2.2.2.2.2.1
  go_wp2_with fail
  refine HPK.out.mono ?_
  rintro r w5 ⟨zr, rfl, hir, hb⟩
  have HIR := Lib.hid hir
  clear hir
  have HB5 := Lib.hid (bchain HB4.out hb)
  have HX5 := Lib.hid (HX4.out.below hb)
  have HG5 := Lib.hid (HG4.out.below hb)
  clear hb
  by_cases hc0 : c = 0
  case neg =>
    have s4 : ((c : Int) != 0) = true := by rw [bne_iff_ne]; omega
    have HE := Lib.hid (show Exc.doP S x = (([] : St), ((c : Nat) : Int)) from HDL.out.trans (by rw [HKP.out]; exact Exc.last_bad (show ((c : Nat) : Int) ≠ 0 by omega)))
    clear hc0
    go_wp2
    go_ret2
    exact rdoPost_bad HE.out HB5.out
  subst hc0
  rw [HPL.out, if_pos rfl] at HIR
  obtain ⟨Ar, capr, rfl, -, -⟩ := RowsAt.form HIR.out
  clear s2 s3 e1 hg x0 x2 x5 g2
  have HDN := Lib.hid (show Exc.doP S x = Exc.lastP x.frm fs (R, 0, fa) from HDL.out.trans (by rw [HKP.out]; rfl))
  have HWV := Lib.hid (HWA.out)
  have HVAL := Lib.hid (fun w' => rvalue_any (⟨fn, fa, fs + 1⟩ : A) w' HWV.out HSQ.out)
  unfold accval at HVAL
  have hnl : x.frm.length ≤ 6 := by have := HN0.out; simp only [Txn.nameB, Bool.and_eq_true, decide_eq_true_eq] at this; exact this.2
  have e9 := cat_mk [97, 58] x.frm
  rw [show [97, 58] ++ x.frm = Exc.aK x.frm from rfl] at e9
  have hg9 : ¬ (9223372036854775807 < 2 + x.frm.length) := by omega
  clear hnl
  have g2 := HG5.out.cells.2.2
  have gf := HG5.out.free 2
  dsimp only at g2
  obtain ⟨sw1, sw2⟩ := HSW.out
  have HGz := Lib.hid (HG5.out.setSeq (fs + 1))
  have HBz : Hid (Below w.heap.size w (w5.setCell ⟨q6, 2, none⟩ (.int .i64 (fs + 1)))) := Lib.hid (HB5.out.trans (((Only.refl q6 w5).setCell (p := ⟨q6, 2, none⟩) rfl _).below HLq6.out HB5.out.size))
  have HXz : Hid (TxAt (w5.setCell ⟨q6, 2, none⟩ (.int .i64 (fs + 1))) q0 x (.slice Az x.mem.length capz)) := Lib.hid ((((Only.refl q6 w5).setCell (p := ⟨q6, 2, none⟩) rfl (.int .i64 (fs + 1))).block q0 (lt_of_heap HX5.out) HNX.out.2).trans HX5.out)
  have HRz : Hid (ItAt (w5.setCell ⟨q6, 2, none⟩ (.int .i64 (fs + 1))) (.slice Ar R.length capr) (R)) := Lib.hid (RowsAt.outF HIR.out (F := fun k => k = q6) (((Only.refl q6 w5).setCell (p := ⟨q6, 2, none⟩) rfl _).out) (fun k cs fl hk e => by rw [hk] at e; exact typ_no HG5.out (by decide) e))
  obtain ⟨wz, hwz⟩ : ∃ wz, w5.setCell ⟨q6, 2, none⟩ (.int .i64 (fs + 1)) = wz := ⟨_, rfl⟩
  rw [hwz] at HGz HBz HXz HRz
  have HPU : Hid (∀ w', Below wz.heap.size wz w' → Calls Tryz.prog 29 #[.slice Ar R.length capr, .string ⟨(Exc.aK x.frm).toArray⟩, .string ⟨(Exc.valS fa (fs + 1)).toArray⟩] w' fun e w'' => ∃ v', e = .returned (.tuple #[v', .int .i64 (Tri.putC (R) (Exc.aK x.frm) (Exc.valS fa (fs + 1)) : Nat)]) ∧ ItAt w'' v' (Tri.putL (R) (Exc.aK x.frm) (Exc.valS fa (fs + 1))) ∧ Below wz.heap.size wz w'') := Lib.hid (fun w' h => by
    have h2 := rtPut_all (R) (.slice Ar R.length capr) (Exc.aK x.frm) (Exc.valS fa (fs + 1)) w' (RowsAt.below HRz.out h) (HRL.out)
    unfold RtPutPost at h2
    exact h2.mono fun e w'' ⟨v', p, q, r⟩ => ⟨v', p, q, bchain h r⟩)
  obtain ⟨Y, hY⟩ : ∃ Y, Exc.valS fa (fs + 1) = Y := ⟨_, rfl⟩
  obtain ⟨K, hK⟩ : ∃ K, Exc.aK x.frm = K := ⟨_, rfl⟩
  have HYE := Lib.hid hY
  have HKE := Lib.hid hK
  rw [hY] at HVAL HPU
  rw [hK] at HPU e9
  clear hY hK
  have HVA : Hid (∀ w', Below wz.heap.size wz w' → Calls Tryz.prog 38 #[.agg #[.string ⟨fn.toArray⟩, .int .i64 fa, .int .i64 (fs + 1)]] w' fun e w'' => e = .returned (.string ⟨Y.toArray⟩) ∧ Below wz.heap.size wz w'') := Lib.hid (fun w' h => (HVAL.out w').mono fun e w'' ⟨p, q⟩ => ⟨p, bchain h q⟩)
  have HCE : Hid (∀ w', Below wz.heap.size wz w' → w'.cell? ⟨q0, 1, none⟩ = some (.string ⟨x.frm.toArray⟩) ∧ w'.cell? ⟨q6, 0, none⟩ = some (.string ⟨fn.toArray⟩) ∧ w'.cell? ⟨q6, 1, none⟩ = some (.int .i64 (fa)) ∧ w'.cell? ⟨q6, 2, none⟩ = some (.int .i64 (fs + 1))) := Lib.hid (fun w' h => ⟨(HXz.out.below h).cells.2.1, (HGz.out.below h).cells⟩)
  have BD : Below wz.heap.size wz wz.drew := (Below.refl _ _).drew
  obtain ⟨d0, d1, d2, d3⟩ := HCE.out _ (Below.refl _ _)
  go_upto_region 33 with fail
  go_region_with (first | (go_at_call 38; refine (HVA.out _ (by with_reducible assumption)).mono ?_; rintro r wa ⟨rfl, hba⟩; obtain ⟨j0, j1, j2, j3⟩ := HCE.out _ hba) | (go_at_call 29; refine (HPU.out _ (by with_reducible assumption)).mono ?_; rintro r wb ⟨zb, rfl, hib, hbb⟩))
  all_goals
    have HBB := Lib.hid (bchain HBz.out hbb)
    have HIB := Lib.hid hib
    clear hbb hib
    rw [← HYE.out, ← HKE.out] at HIB
    rw [← HYE.out, ← HKE.out]
    go_wp2
    go_ret2
    exact rdoPost_last HDN.out HIB.out HBB.out
end Go.Proofs.YtlckcfpdiigjiaaGreatDoor
namespace Go.Proofs.YtlckcfpdiigjiaaGreatDoor
open Go.RowKit
open Sto (T St)
open Go.Proofs.YtlckcfpdiigjiaaGreatDoor.Pw (M)
open Go.Proofs.YtlckcfpdiigjiaaGreatDoor.Txn (X)
open Go.Proofs.YtlckcfpdiigjiaaGreatDoor.Exc (A)
set_option maxRecDepth 100000 in
set_option maxHeartbeats 8000000 in
theorem rdo_4 (S : St) (v : Value) (x : X) (z : Value) (w : World) (hv : ItAt w v S) (hl : S.length ≤ 9000) (hS : Sto.Rising S) (hfv : ∀ p ∈ S, p.2.length ≤ 1000000) (hz : Mems w z x.mem) (hf : Txn.fine x = true) (hk : x.kind = 4) :
    Calls Tryz.prog 18 #[v, xval x z] w (RDoPost S x w) := by
  obtain ⟨w0, hw0, hb0, ra⟩ := tx_box x z w
  have HB0 := Lib.hid hb0
  obtain ⟨q0, hq0⟩ : ∃ q0, w.heap.size = q0 := ⟨_, rfl⟩
  rw [hq0] at ra
  have HQ0 := Lib.hid hq0
  have HX0 := Lib.hid ra
  have HV0 := Lib.hid (RowsAt.below hv hb0)
  have HFI := Lib.hid (rFine_any x z w0 (hz.below hb0))
  rw [hf] at HFI
  have HF := Lib.hid hf
  have HK := Lib.hid hk
  have HS := Lib.hid hS
  have HL := Lib.hid hl
  have HMM : Hid (∀ w', Below w.heap.size w w' → Mems w' z x.mem) := Lib.hid (fun w' h => hz.below h)
  have HCC := Lib.hid (fun n w' h => raccount_any S v n w' h (by omega) hS hfv)
  have HKO := Lib.hid (Txn.kind_of (Txn.fine_of hf).2.2.2.2)
  have hn0 : Txn.nameB x.frm = true := by obtain ⟨g1, g2, -⟩ := Txn.fine_of hf; simp [Txn.nameB, g1, g2]
  have HN0 := Lib.hid hn0
  have hs0 := (Txn.fine_of hf).2.2
  have HS0 := Lib.hid (show 0 ≤ x.seq ∧ x.seq ≤ 1099511627776 from ⟨hs0.1, hs0.2.1⟩)
  obtain ⟨Az, capz, rfl⟩ := hz.form
  obtain ⟨Av, capv, rfl, -, -⟩ := hv.form
  obtain ⟨a0, a1, a2, a3, a4, a5, a6, a7⟩ := ra.cells
  have HNM := Lib.hid (fun (h : (Exc.acc S x.frm).2 = 0) => Exc.acc_name h)
  have HDO3 := Lib.hid (fun h2 => Exc.do3 (S := S) (x := x) hf h2)
  have HDO160 := Lib.hid (fun h2 h3 => Exc.do160 (S := S) (x := x) hf h2 h3)
  have HDOL := Lib.hid (fun h2 h3 => Exc.doLast (S := S) (x := x) hf h2 h3)
  have HA1 := Lib.hid (fun w' h => HCC.out x.frm w' h)
  obtain ⟨⟨⟨fn, fa, fs⟩, e⟩, hfe⟩ : ∃ p, Exc.acc S x.frm = p := ⟨_, rfl⟩
  rw [hfe] at HA1 HNM HDO3 HDO160 HDOL
  dsimp only at HA1 HNM HDO3 HDO160 HDOL
  unfold accval at HA1
  dsimp only at HA1
  unfold xval at HFI ⊢
  clear hb0 ra hz hq0 hf hk hv hl hS hfv hfe hn0 hs0
  go_enter Tryz.func18, Tryz.ntmps18
  go_upto_region 1 with fail
  try rw [hw0]
  try rw [HQ0.out]
  clear hw0
  go_wp2_with fail
  refine HFI.out.mono ?_
  rintro r w1 ⟨rfl, hb⟩
  have HB1 := Lib.hid (bchain HB0.out hb)
  have HX1 := Lib.hid (HX0.out.below hb)
  have HV1 := Lib.hid (RowsAt.below HV0.out hb)
  clear hb
  clear a0 a1 a2 a3 a4 a5 a6 a7
  obtain ⟨a0, a1, a2, a3, a4, a5, a6, a7⟩ := HX1.out.cells
  go_wp2_with fail
  refine (HA1.out _ HV1.out).mono ?_
  rintro r w2 ⟨rfl, hb⟩
  have HB2 := Lib.hid (bchain HB1.out hb)
  have HX2 := Lib.hid (HX1.out.below hb)
  have HV2 := Lib.hid (RowsAt.below HV1.out hb)
  clear hb
  obtain ⟨w3, hw3, hb, rb⟩ := acc_box (⟨fn, fa, fs⟩ : A) w2
  obtain ⟨q6, hq⟩ : ∃ q, w2.heap.size = q := ⟨_, rfl⟩
  rw [hq] at rb
  have Hq6 := Lib.hid hq
  have HG3 := Lib.hid rb
  have HLq6 : Hid (w.heap.size ≤ q6) := Lib.hid (by rw [← hq]; exact HB2.out.size)
  have HB3 := Lib.hid (bchain HB2.out hb)
  have HX3 := Lib.hid (HX2.out.below hb)
  have HV3 := Lib.hid (RowsAt.below HV2.out hb)
  clear hb
  clear rb hq
  clear a0 a1 a2 a3 a4 a5 a6 a7
  go_upto_region 4 with fail
  try rw [hw3]
  try rw [Hq6.out]
  clear hw3
  obtain ⟨gg0, gg1, gg2⟩ := HG3.out.cells
  dsimp only at gg0 gg1 gg2
  obtain ⟨w4, hw4, hb, rb⟩ := acc_box (⟨fn, fa, fs⟩ : A) w3
  obtain ⟨q8, hq⟩ : ∃ q, w3.heap.size = q := ⟨_, rfl⟩
  rw [hq] at rb
  have Hq8 := Lib.hid hq
  have HT4 := Lib.hid rb
  have HLq8 : Hid (w.heap.size ≤ q8) := Lib.hid (by rw [← hq]; exact HB3.out.size)
  have HB4 := Lib.hid (bchain HB3.out hb)
  have HX4 := Lib.hid (HX3.out.below hb)
  have HV4 := Lib.hid (RowsAt.below HV3.out hb)
  have HG4 := Lib.hid (HG3.out.below hb)
  clear hb
  clear rb hq
  have HNE : Hid (q6 ≠ q8) := Lib.hid (by have := Hq8.out; have := lt_of_heap HG3.out; omega)
  have HNX : Hid (q0 ≠ q8 ∧ q0 ≠ q6) := Lib.hid ⟨by have := Hq8.out; have := lt_of_heap HX3.out; omega, by have := Hq6.out; have := lt_of_heap HX2.out; omega⟩
  go_upto_region 5 with fail
  try rw [hw4]
  try rw [Hq8.out]
  clear hw4 gg0 gg1 gg2
  have r1 : (x.kind == 1) = false := beq_eq_false_iff_ne.2 (by have := HK.out; omega)
  have r2 : (x.kind == 2) = false := beq_eq_false_iff_ne.2 (by have := HK.out; omega)
  have r3 : (x.kind == 3) = false := beq_eq_false_iff_ne.2 (by have := HK.out; omega)
  have x0 := HX4.out.cells.1
  by_cases he : e = 0
  case neg =>
    have s1 : (e != 0) = true := by rw [bne_iff_ne]; exact he
    have HE := Lib.hid (HDO3.out (Or.inl he))
    clear he
    go_wp2
    go_ret2
    exact rdoPost_bad HE.out HB4.out
  subst he
  obtain ⟨nm, nb, na, ns⟩ := HNM.out rfl
  have HNF := Lib.hid nm
  have HWA := Lib.hid na
  have HWS := Lib.hid ns
  clear nm nb na ns
  have g2 := HG4.out.cells.2.2
  have x2 := HX4.out.cells.2.2.1
  dsimp only at g2
  have HN3 := Lib.hid (show ¬ ((0 : Int) ≠ 0 ∨ (x.kind = 1 ∧ (Exc.acc S x.dst).2 ≠ 0)) from by rintro (h | h); exact h rfl; have := HK.out; omega)
  by_cases hq : fs = x.seq
  case neg =>
    have s2 : (fs != x.seq) = true := by rw [bne_iff_ne]; exact hq
    have HE := Lib.hid (HDO160.out HN3.out (Or.inl hq))
    clear hq
    go_wp2
    go_ret2
    exact rdoPost_bad HE.out HB4.out
  have s2 : (fs != x.seq) = false := by rw [hq]; exact bne_self_eq_false _
  have HQS := Lib.hid hq
  clear hq
  by_cases hq : fs = 1099511627776
  · have s3 : (fs == 1099511627776) = true := beq_iff_eq.2 hq
    have HE := Lib.hid (HDO160.out HN3.out (Or.inr hq))
    clear hq
    go_wp2
    go_ret2
    exact rdoPost_bad HE.out HB4.out
  have s3 : (fs == 1099511627776) = false := beq_eq_false_iff_ne.2 hq
  have HDL := Lib.hid (HDOL.out HN3.out (fun h => h.elim (fun h => h HQS.out) hq))
  have HSQ := Lib.hid (show Exc.wi (fs + 1) = true from by have h := Exc.wi_of HWS.out; unfold Exc.wi Exc.most; rw [decide_eq_true (by omega), decide_eq_true (by omega)]; rfl)
  have HSW := Lib.hid (wrap_two (n := fs + 1) (by have h := Exc.wi_of HWS.out; omega) (by have h := Exc.wi_of HWS.out; omega))
  clear hq
  have x0 := HX4.out.cells.1
  have HDG : Hid (∀ w', Below w4.heap.size w4 w' → Calls Tryz.prog 40 #[.slice Az x.mem.length capz] w' fun e w'' => e = .returned (.string ⟨(Pw.digL x.mem).toArray⟩) ∧ Below w4.heap.size w4 w'') := Lib.hid (fun w' h => (rdigest_any x.mem _ w' (HMM.out w' (bchain HB4.out h))).mono fun e w'' ⟨p, q⟩ => ⟨p, bchain h q⟩)
  have HPK : Hid (∀ w', Below w4.heap.size w4 w' → Calls Tryz.prog 29 #[.slice Av S.length capv, .string ⟨(Exc.sK).toArray⟩, .string ⟨(Pw.digL x.mem).toArray⟩] w' fun e w'' => ∃ v', e = .returned (.tuple #[v', .int .i64 (Tri.putC S Exc.sK (Pw.digL x.mem) : Nat)]) ∧ ItAt w'' v' (Tri.putL S Exc.sK (Pw.digL x.mem)) ∧ Below w4.heap.size w4 w'') := Lib.hid (fun w' h => by
    have h2 := rtPut_all S (.slice Av S.length capv) Exc.sK (Pw.digL x.mem) w' (RowsAt.below HV4.out h) (by have := HL.out; omega)
    unfold RtPutPost at h2
    exact h2.mono fun e w'' ⟨v', p, q, r⟩ => ⟨v', p, q, bchain h r⟩)
  have HKB : Hid (x.frm ≠ Exc.root → Exc.kindP S x (⟨fn, fa, fs⟩ : A) (Exc.acc S x.dst).1 = ([], 162, 0)) := Lib.hid (fun h => by unfold Exc.kindP; rw [if_neg (by have := HK.out; omega), if_neg (by have := HK.out; omega), if_neg (by have := HK.out; omega), if_pos h])
  have HKP : Hid (x.frm = Exc.root → Exc.kindP S x (⟨fn, fa, fs⟩ : A) (Exc.acc S x.dst).1 = (Tri.put S Exc.sK (Pw.digL x.mem), ((Tri.putC S Exc.sK (Pw.digL x.mem) : Nat) : Int), fa)) := Lib.hid (fun h => by unfold Exc.kindP; rw [if_neg (by have := HK.out; omega), if_neg (by have := HK.out; omega), if_neg (by have := HK.out; omega), if_neg (fun g => g h)])
  have HPL : Hid (Tri.putL S Exc.sK (Pw.digL x.mem) = if Tri.putC S Exc.sK (Pw.digL x.mem) = 0 then Tri.put S Exc.sK (Pw.digL x.mem) else []) := Lib.hid rfl
  have HRL : Hid ((Tri.put S Exc.sK (Pw.digL x.mem)).length ≤ 10000) := Lib.hid (by rw [Tri.put_len]; have := HL.out; split <;> omega)
  obtain ⟨c, hc⟩ : ∃ c, Tri.putC S Exc.sK (Pw.digL x.mem) = c := ⟨_, rfl⟩
  obtain ⟨R, hR⟩ : ∃ R, Tri.put S Exc.sK (Pw.digL x.mem) = R := ⟨_, rfl⟩
  obtain ⟨D1, hD1⟩ : ∃ D, Pw.digL x.mem = D := ⟨_, rfl⟩
  rw [hc] at HPK HKP HPL
  rw [hR] at HKP HPL HRL
  rw [hD1] at HPK HPL HDG
  clear hc hR hD1
  have x7 := HX4.out.cells.2.2.2.2.2.2.2
  have x1 := HX4.out.cells.2.1
  by_cases hro : x.frm = Exc.root
  case neg =>
    have HE := Lib.hid (show Exc.doP S x = (([] : St), (162 : Int)) from HDL.out.trans (by rw [HKB.out hro]; exact Exc.last_bad (show (162 : Int) ≠ 0 by decide)))
    have s4 : (!x.frm == [114, 111, 111, 116]) = true := by rw [Bool.not_eq_true', beq_eq_false_iff_ne]; exact hro
    clear hro
    go_wp2
    go_ret2
    exact rdoPost_bad HE.out HB4.out
  have HKR := Lib.hid (HKP.out hro)
  have HRO := Lib.hid hro
  clear hro
  have s4 : (!x.frm == [114, 111, 111, 116]) = false := by rw [Bool.not_eq_false', beq_iff_eq]; exact HRO.out
  have BD : Below w4.heap.size w4 w4.drew := (Below.refl _ _).drew
  have HCE : Hid (∀ w', Below w4.heap.size w4 w' → w'.cell? ⟨q0, 7, none⟩ = some (.slice Az x.mem.length capz)) := Lib.hid (fun w' h => (HX4.out.below h).cells.2.2.2.2.2.2.2)
  clear x7 HCE BD
  have x7 := HX4.out.cells.2.2.2.2.2.2.2
  go_wp2_with fail
  refine (HDG.out _ (Below.refl _ _)).mono ?_
  rintro r wd ⟨rfl, hbd⟩
  go_wp2_with fail
  refine (HPK.out _ hbd).mono ?_
  rintro r w5 ⟨zr, rfl, hir, hb⟩
  have HIR := Lib.hid hir
  clear hir hbd
  have HB5 := Lib.hid (bchain HB4.out hb)
  have HX5 := Lib.hid (HX4.out.below hb)
  have HG5 := Lib.hid (HG4.out.below hb)
  clear hb
  by_cases hc0 : c = 0
  case neg =>
    have s4 : ((c : Int) != 0) = true := by rw [bne_iff_ne]; omega
    have HE := Lib.hid (show Exc.doP S x = (([] : St), ((c : Nat) : Int)) from HDL.out.trans (by rw [HKR.out]; exact Exc.last_bad (show ((c : Nat) : Int) ≠ 0 by omega)))
    clear hc0
    go_wp2
    go_ret2
    exact rdoPost_bad HE.out HB5.out
  subst hc0
  rw [HPL.out, if_pos rfl] at HIR
  obtain ⟨Ar, capr, rfl, -, -⟩ := RowsAt.form HIR.out
  clear s2 s3 s4 x0 x1 x7 g2
  have HDN := Lib.hid (show Exc.doP S x = Exc.lastP x.frm fs (R, 0, fa) from HDL.out.trans (by rw [HKR.out]; rfl))
  have HWV := Lib.hid (HWA.out)
  have HVAL := Lib.hid (fun w' => rvalue_any (⟨fn, fa, fs + 1⟩ : A) w' HWV.out HSQ.out)
  unfold accval at HVAL
  have hnl : x.frm.length ≤ 6 := by have := HN0.out; simp only [Txn.nameB, Bool.and_eq_true, decide_eq_true_eq] at this; exact this.2
  have e9 := cat_mk [97, 58] x.frm
  rw [show [97, 58] ++ x.frm = Exc.aK x.frm from rfl] at e9
  have hg9 : ¬ (9223372036854775807 < 2 + x.frm.length) := by omega
  clear hnl
  have g2 := HG5.out.cells.2.2
  have gf := HG5.out.free 2
  dsimp only at g2
  obtain ⟨sw1, sw2⟩ := HSW.out
  have HGz := Lib.hid (HG5.out.setSeq (fs + 1))
  have HBz : Hid (Below w.heap.size w (w5.setCell ⟨q6, 2, none⟩ (.int .i64 (fs + 1)))) := Lib.hid (HB5.out.trans (((Only.refl q6 w5).setCell (p := ⟨q6, 2, none⟩) rfl _).below HLq6.out HB5.out.size))
  have HXz : Hid (TxAt (w5.setCell ⟨q6, 2, none⟩ (.int .i64 (fs + 1))) q0 x (.slice Az x.mem.length capz)) := Lib.hid ((((Only.refl q6 w5).setCell (p := ⟨q6, 2, none⟩) rfl (.int .i64 (fs + 1))).block q0 (lt_of_heap HX5.out) HNX.out.2).trans HX5.out)
  have HRz : Hid (ItAt (w5.setCell ⟨q6, 2, none⟩ (.int .i64 (fs + 1))) (.slice Ar R.length capr) (R)) := Lib.hid (RowsAt.outF HIR.out (F := fun k => k = q6) (((Only.refl q6 w5).setCell (p := ⟨q6, 2, none⟩) rfl _).out) (fun k cs fl hk e => by rw [hk] at e; exact typ_no HG5.out (by decide) e))
  obtain ⟨wz, hwz⟩ : ∃ wz, w5.setCell ⟨q6, 2, none⟩ (.int .i64 (fs + 1)) = wz := ⟨_, rfl⟩
  rw [hwz] at HGz HBz HXz HRz
  have HPU : Hid (∀ w', Below wz.heap.size wz w' → Calls Tryz.prog 29 #[.slice Ar R.length capr, .string ⟨(Exc.aK x.frm).toArray⟩, .string ⟨(Exc.valS fa (fs + 1)).toArray⟩] w' fun e w'' => ∃ v', e = .returned (.tuple #[v', .int .i64 (Tri.putC (R) (Exc.aK x.frm) (Exc.valS fa (fs + 1)) : Nat)]) ∧ ItAt w'' v' (Tri.putL (R) (Exc.aK x.frm) (Exc.valS fa (fs + 1))) ∧ Below wz.heap.size wz w'') := Lib.hid (fun w' h => by
    have h2 := rtPut_all (R) (.slice Ar R.length capr) (Exc.aK x.frm) (Exc.valS fa (fs + 1)) w' (RowsAt.below HRz.out h) (HRL.out)
    unfold RtPutPost at h2
    exact h2.mono fun e w'' ⟨v', p, q, r⟩ => ⟨v', p, q, bchain h r⟩)
  obtain ⟨Y, hY⟩ : ∃ Y, Exc.valS fa (fs + 1) = Y := ⟨_, rfl⟩
  obtain ⟨K, hK⟩ : ∃ K, Exc.aK x.frm = K := ⟨_, rfl⟩
  have HYE := Lib.hid hY
  have HKE := Lib.hid hK
  rw [hY] at HVAL HPU
  rw [hK] at HPU e9
  clear hY hK
  have HVA : Hid (∀ w', Below wz.heap.size wz w' → Calls Tryz.prog 38 #[.agg #[.string ⟨fn.toArray⟩, .int .i64 fa, .int .i64 (fs + 1)]] w' fun e w'' => e = .returned (.string ⟨Y.toArray⟩) ∧ Below wz.heap.size wz w'') := Lib.hid (fun w' h => (HVAL.out w').mono fun e w'' ⟨p, q⟩ => ⟨p, bchain h q⟩)
  have HCE : Hid (∀ w', Below wz.heap.size wz w' → w'.cell? ⟨q0, 1, none⟩ = some (.string ⟨x.frm.toArray⟩) ∧ w'.cell? ⟨q6, 0, none⟩ = some (.string ⟨fn.toArray⟩) ∧ w'.cell? ⟨q6, 1, none⟩ = some (.int .i64 (fa)) ∧ w'.cell? ⟨q6, 2, none⟩ = some (.int .i64 (fs + 1))) := Lib.hid (fun w' h => ⟨(HXz.out.below h).cells.2.1, (HGz.out.below h).cells⟩)
  have BD : Below wz.heap.size wz wz.drew := (Below.refl _ _).drew
  obtain ⟨d0, d1, d2, d3⟩ := HCE.out _ (Below.refl _ _)
  go_upto_region 33 with fail
  go_region_with (first | (go_at_call 38; refine (HVA.out _ (by with_reducible assumption)).mono ?_; rintro r wa ⟨rfl, hba⟩; obtain ⟨j0, j1, j2, j3⟩ := HCE.out _ hba) | (go_at_call 29; refine (HPU.out _ (by with_reducible assumption)).mono ?_; rintro r wb ⟨zb, rfl, hib, hbb⟩))
  all_goals
    have HBB := Lib.hid (bchain HBz.out hbb)
    have HIB := Lib.hid hib
    clear hbb hib
    rw [← HYE.out, ← HKE.out] at HIB
    rw [← HYE.out, ← HKE.out]
    go_wp2
    go_ret2
    exact rdoPost_last HDN.out HIB.out HBB.out
end Go.Proofs.YtlckcfpdiigjiaaGreatDoor
namespace Go.Proofs.YtlckcfpdiigjiaaGreatDoor
open Go.RowKit
open Sto (T St)
open Go.Proofs.YtlckcfpdiigjiaaGreatDoor.Pw (M)
open Go.Proofs.YtlckcfpdiigjiaaGreatDoor.Txn (X)

theorem rdo_any (S : St) (v : Value) (x : X) (z : Value) (w : World) (hv : ItAt w v S) (hl : S.length ≤ 9000) (hS : Sto.Rising S) (hfv : ∀ p ∈ S, p.2.length ≤ 1000000) (hz : Mems w z x.mem) :
    Calls Tryz.prog 18 #[v, xval x z] w (RDoPost S x w) := by
  cases hf : Txn.fine x with
  | false => exact rdo_bad S v x z w hz hf
  | true =>
    rcases Txn.kind_of (Txn.fine_of hf).2.2.2.2 with ⟨h, _⟩ | ⟨h, _⟩ | ⟨h, _⟩ | ⟨h, _⟩
    · exact rdo_1 S v x z w hv hl hS hfv hz hf h
    · exact rdo_2 S v x z w hv hl hS hfv hz hf h
    · exact rdo_3 S v x z w hv hl hS hfv hz hf h
    · exact rdo_4 S v x z w hv hl hS hfv hz hf h
end Go.Proofs.YtlckcfpdiigjiaaGreatDoor
namespace Go.Proofs.YtlckcfpdiigjiaaGreatDoor.Exc
open Sto (T St Rising)
open Go.Proofs.YtlckcfpdiigjiaaGreatDoor.Pw (M)
open Go.Proofs.YtlckcfpdiigjiaaGreatDoor.Txn (X)

theorem put_le (S : St) (k v : T) : (Tri.put S k v).length ≤ S.length + 1 := by rw [Tri.put_len]; split <;> omega
theorem del_few (S : St) (k : T) : (Tri.del S k).length ≤ S.length := by
  induction S with
  | nil => exact Nat.le_refl _
  | cons a r ih =>
    rw [Tri.del]
    split
    · simp
    · simp only [List.length_cons]
      omega
theorem kind_le (S : St) (x : X) (f t : A) : (kindP S x f t).1.length ≤ S.length + 1 := by
  unfold kindP
  have h1 := put_le S
  have h2 := del_few S
  split
  · split
    · simp
    · split
      · simp
      · split
        · simp
        · exact h1 _ _
  · split
    · exact h1 _ _
    · split
      · exact Nat.le_succ_of_le (h2 _)
      · split
        · simp
        · exact h1 _ _
theorem last_le (n : T) (q : Int) (k : St × Int × Int) : (lastP n q k).1.length ≤ k.1.length + 1 := by
  unfold lastP
  split
  · simp
  · split
    · simp
    · exact put_le _ _ _
theorem do_len (S : St) (x : X) : (doP S x).1.length ≤ S.length + 2 := by
  unfold doP
  split
  · simp
  · split
    · simp
    · split
      · simp
      · have h1 := last_le x.frm (acc S x.frm).1.seq (kindP S x (acc S x.frm).1 (acc S x.dst).1)
        have h2 := kind_le S x (acc S x.frm).1 (acc S x.dst).1
        omega
/-- Each value has at most a million bytes. -/
def Small (S : St) : Prop := ∀ p ∈ S, p.2.length ≤ 1000000
theorem Small.nil : Small [] := fun _ h => absurd h List.not_mem_nil
theorem Small.put {S : St} (h : Small S) {k v : T} (hv : v.length ≤ 1000000) : Small (Tri.put S k v) := fun p hp => by
  rcases Tri.put_mem hp with h1 | rfl
  · exact h p h1
  · exact hv
theorem Small.del {S : St} (h : Small S) (k : T) : Small (Tri.del S k) := fun p hp => h p (Tri.del_mem hp)
theorem do_small {S : St} (hS : Rising S) (h : Small S) (x : X) : Small (stepA ⟨S, [], []⟩ x).st := by
  unfold stepA
  dsimp only
  split
  · rename_i h0
    have hd := do_done (Prod.ext rfl h0 : doP S x = ((doP S x).1, 0))
    obtain ⟨h1, h2, h3⟩ := hd.amt hS
    rw [hd.put]
    have hv : ∀ a s, wi a = true → wi s = true → (valS a s).length ≤ 1000000 := fun a s ha hs => by have := valS_len ha hs; omega
    refine Small.put ?_ (hv _ _ h2 h3)
    have hk := hd.kind
    obtain ⟨-, -, -, -, f5⟩ := Txn.fine_of hd.fine
    unfold kindP at hk ⊢
    rcases Txn.kind_of f5 with ⟨k1, q1, q2, q3, q4, -⟩ | ⟨k1, q1, q2, q3, q4, q5, q6, -⟩ | ⟨k1, -⟩ | ⟨k1, q1, q2, q3, q4, q5⟩
    · rw [if_pos k1] at hk ⊢
      by_cases c1 : (Exc.acc S x.frm).1.amt < x.amt
      · rw [if_pos c1] at hk; cases hk
      rw [if_neg c1] at hk ⊢
      by_cases c2 : x.dst = x.frm
      · rw [if_pos c2]; exact h
      rw [if_neg c2] at hk ⊢
      by_cases c3 : most < (Exc.acc S x.dst).1.amt + x.amt
      · rw [if_pos c3] at hk; cases hk
      rw [if_neg c3]
      obtain ⟨-, -, g1, g2⟩ := acc_name (hd.dst k1)
      refine h.put (hv _ _ ?_ g2)
      obtain ⟨g3, g4⟩ := wi_of g1
      have hm : most = 1099511627776 := rfl
      simp only [wi, Bool.and_eq_true, decide_eq_true_eq]
      omega
    · rw [if_neg (by omega), if_pos k1]; exact h.put (by omega)
    · rw [if_neg (by omega), if_neg (by omega), if_pos k1]; exact h.del _
    · rw [if_neg (by omega), if_neg (by omega), if_neg (by omega)] at hk ⊢
      by_cases c1 : x.frm ≠ root
      · rw [if_pos c1] at hk; cases hk
      rw [if_neg c1]
      exact h.put (by rw [digL_len q5]; decide)
  · exact h
theorem step_st (d : Al) (x : X) : (stepA d x).st = (stepA ⟨d.st, [], []⟩ x).st := rfl
theorem run_small {d : Al} (hS : Rising d.st) (h : Small d.st) (L : List X) : Small (runA d L).st := by
  induction L generalizing d with
  | nil => exact h
  | cons x L ih => exact ih (step_rise hS x) (by rw [step_st]; exact do_small hS h x)
theorem run_len (d : Al) (L : List X) : (runA d L).st.length ≤ d.st.length + 2 * L.length := by
  induction L generalizing d with
  | nil => exact Nat.le_refl _
  | cons x L ih =>
    have h1 := ih (d := stepA d x)
    have h2 : (stepA d x).st.length ≤ d.st.length + 2 := by
      unfold stepA
      dsimp only
      split
      · exact do_len _ _
      · omega
    show (runA (stepA d x) L).st.length ≤ _
    simp only [List.length_cons]
    omega
end Go.Proofs.YtlckcfpdiigjiaaGreatDoor.Exc
