/- The law TxBack, walked. -/
import Derived.Test.YtddjkiejekfekaaDoorPk14
namespace Go.Proofs.YtddjkiejekfekaaDoor
open Go.RowKit
open Go.Proofs.YtddjkiejekfekaaDoor.Pw (M)
open Go.Proofs.YtddjkiejekfekaaDoor.Txn (X)

theorem decTx_none {s : List UInt8} {w : World} (h : Txn.dec s = none) (hc : Calls Tryd.prog 12 #[.string ⟨s.toArray⟩] w (DecTx s w)) : Calls Tryd.prog 12 #[.string ⟨s.toArray⟩] w fun e w' => ∃ z, e = .returned (.tuple #[xval Txn.zero z, .int .i64 150]) ∧ OwnM w' w.heap.size z Txn.zero.mem ∧ Below w.heap.size w w' := by
  unfold DecTx at hc
  rw [(Txn.decX_none h).1, (Txn.decX_none h).2] at hc
  exact hc
theorem decTx_some {s : List UInt8} {x : X} {w : World} (h : Txn.dec s = some x) (hc : Calls Tryd.prog 12 #[.string ⟨s.toArray⟩] w (DecTx s w)) : Calls Tryd.prog 12 #[.string ⟨s.toArray⟩] w fun e w' => ∃ z, e = .returned (.tuple #[xval x z, .int .i64 0]) ∧ OwnM w' w.heap.size z x.mem ∧ Below w.heap.size w w' := by
  unfold DecTx at hc
  rw [(Txn.decX_some h).1, (Txn.decX_some h).2] at hc
  exact hc
set_option maxRecDepth 100000 in
set_option maxHeartbeats 8000000 in
theorem txBack_walk (x : X) (z : Value) (s : List UInt8) (w : World) (hz : Mems w z x.mem) (hT : Tab w) :
    Calls Tryd.prog 5 #[xval x z, .string ⟨s.toArray⟩] w fun r w' => r = .returned (.bool true) ∧ Below w.heap.size w w' := by
  obtain ⟨w0, hw0, hb0, ra⟩ := tx_box x z w
  have HB0 := Lib.hid hb0
  have HM0 := Lib.hid (hz.below hb0)
  have HT0 := Lib.hid (hT.below hb0)
  have HWK := Lib.hid (txworks_any w0 HT0.out)
  obtain ⟨q0, hq0⟩ : ∃ q0, w.heap.size = q0 := ⟨_, rfl⟩
  rw [hq0] at ra
  have HA0 := Lib.hid ra
  have HQ0 := Lib.hid hq0
  obtain ⟨Az, capz, rfl⟩ := hz.form
  have HBG := Lib.hid (fun w' h => bigTx_any x (.slice Az x.mem.length capz) w' h)
  have HEX := Lib.hid (fun w' h => xencode_any x (.slice Az x.mem.length capz) w' h)
  have HCX := Lib.hid (fun w' h => xcheck_any x (.slice Az x.mem.length capz) w' h)
  have HDD := Lib.hid (fun s w' h => xDecodeTx_any s w' h)
  unfold BigTx xval at HBG
  unfold xval
  clear hb0 ra hz hT hq0
  go_enter Tryd.func5, Tryd.ntmps5
  go_upto_region 1 with fail
  try rw [hw0]
  try rw [HQ0.out]
  clear hw0
  go_wp2_with fail
  refine HWK.out.mono ?_
  rintro r w1 ⟨rfl, hb⟩
  have HB1 := Lib.hid (bchain HB0.out hb)
  have HA1 := Lib.hid (HA0.out.below hb)
  have HM1 := Lib.hid (HM0.out.below hb)
  clear hb
  obtain ⟨a0, a1, a2, a3, a4, a5, a6, a7⟩ := HA1.out.cells
  go_wp2_with fail
  refine (HBG.out _ HM1.out).mono ?_
  rintro r w2 ⟨bb, rfl, hsh, -, hb⟩
  have HSH := Lib.hid hsh
  clear hsh
  have HB2 := Lib.hid (bchain HB1.out hb)
  have HA2 := Lib.hid (HA1.out.below hb)
  have HM2 := Lib.hid (HM1.out.below hb)
  clear hb
  clear a0 a1 a2 a3 a4 a5 a6 a7
  cases bb with
  | true =>
    go_wp2
    go_ret
    exact ⟨rfl, HB2.out⟩
  | false =>
  have HXL : Hid (x.mem.length ≤ 100) := Lib.hid (HSH.out rfl).2.2.2.2
  clear HSH
  by_cases hs : 500 < s.length
  · have p1 : decide ((500 : Int) < (s.length : Int)) = true := decide_eq_true (by omega)
    clear hs
    go_wp2
    go_ret
    exact ⟨rfl, HB2.out⟩
  have p1 : decide ((500 : Int) < (s.length : Int)) = false := decide_eq_false (by omega)
  have HSL : Hid (s.length ≤ 1000000) := Lib.hid (by omega)
  clear hs
  cases hd : Txn.dec s with
  | none =>
    have HD1 := Lib.hid (fun w' => decTx_none hd (HDD.out s w' HSL.out))
    clear hd
    obtain ⟨v0, hv0⟩ : ∃ v, Txn.zero = v := ⟨_, rfl⟩
    rw [hv0] at HD1
    have HV0 := Lib.hid hv0
    clear hv0
    go_wp2_with fail
    refine (HD1.out _).mono ?_
    rintro r wd ⟨zd, rfl, hmd, hbd⟩
    obtain ⟨A5, capA5, rfl⟩ := hmd.mems.form
    obtain ⟨w3, hw3, hbe, rb⟩ := tx_box v0 (.slice A5 v0.mem.length capA5) wd
    obtain ⟨q5, hq⟩ : ∃ q, wd.heap.size = q := ⟨_, rfl⟩
    rw [hq] at rb
    have Hq5 := Lib.hid hq
    have hb := bchain hbd hbe
    have HY3 := Lib.hid rb
    have HN3 := Lib.hid (hmd.mems.below hbe)
    have HB3 := Lib.hid (bchain HB2.out hb)
    have HA3 := Lib.hid (HA2.out.below hb)
    have HM3 := Lib.hid (HM2.out.below hb)
    clear hmd hbd hbe rb hq hb
    unfold xval
    go_upto_region 6 with fail
    try rw [hw3]
    try rw [Hq5.out]
    clear hw3
    have HSM : Hid (Calls Tryd.prog 14 #[.agg #[.int .i64 v0.kind, .string ⟨v0.frm.toArray⟩, .int .i64 v0.seq, .string ⟨v0.dst.toArray⟩, .int .i64 v0.amt, .string ⟨v0.key.toArray⟩, .string ⟨v0.val.toArray⟩, .slice A5 v0.mem.length capA5], .agg #[.int .i64 0, .string ⟨#[]⟩, .int .i64 0, .string ⟨#[]⟩, .int .i64 0, .string ⟨#[]⟩, .string ⟨#[]⟩, .slice none 0 0]] w3 fun r w' => r = .returned (.bool true) ∧ Below w3.heap.size w3 w') := Lib.hid (by
      have h := sameTx_any v0 Txn.zero (.slice A5 v0.mem.length capA5) (.slice none 0 0) w3 HN3.out (Mems.nil _) (by rw [← HV0.out]; decide) (by decide)
      rw [show decide (v0 = Txn.zero) = true from decide_eq_true HV0.out.symm] at h
      exact h)
    obtain ⟨b0, b1, b2, b3, b4, b5, b6, b7⟩ := HY3.out.cells
    go_wp2_with fail
    refine HSM.out.mono ?_
    rintro r w4 ⟨rfl, hb⟩
    have HB4 := Lib.hid (bchain HB3.out hb)
    have HA4 := Lib.hid (HA3.out.below hb)
    have HM4 := Lib.hid (HM3.out.below hb)
    clear hb
    clear b0 b1 b2 b3 b4 b5 b6 b7
    clear HD1 HSM
    obtain ⟨a0, a1, a2, a3, a4, a5, a6, a7⟩ := HA4.out.cells
    have HE2 := Lib.hid (HEX.out w4 HM4.out)
    unfold Txn.encS Txn.encC xval at HE2
    cases hf : Txn.fine x with
    | false =>
      rw [hf, if_neg (by decide), if_neg (by decide)] at HE2
      have HC2 := Lib.hid (fun w' h => HCX.out w' h)
      unfold xval at HC2
      rw [hf, if_neg (by decide)] at HC2
      clear hf
      go_wp2_with fail
      refine HE2.out.mono ?_
      rintro r wk ⟨rfl, hb⟩
      have HBk := Lib.hid (bchain HB4.out hb)
      have HAk := Lib.hid (HA4.out.below hb)
      have HMk := Lib.hid (HM4.out.below hb)
      clear hb
      clear a0 a1 a2 a3 a4 a5 a6 a7
      obtain ⟨a0, a1, a2, a3, a4, a5, a6, a7⟩ := HAk.out.cells
      go_wp2_with fail
      refine (HC2.out _ HMk.out).mono ?_
      rintro r wl ⟨rfl, hb⟩
      have HBl := Lib.hid (bchain HBk.out hb)
      clear hb
      go_wp2
      go_ret
      exact ⟨rfl, HBl.out⟩
    | true =>
    rw [hf, if_pos rfl, if_pos rfl] at HE2
    have hd1 := Txn.dec_written hf
    have hd2 := Txn.dec_more hf 0
    have hd3 := Txn.dec_less hf
    have hwl := Txn.written_len hf
    have hwp : 1 ≤ (Txn.written x).length := by unfold Txn.written; simp
    clear hf
    obtain ⟨Y, hY⟩ : ∃ Y, Txn.written x = Y := ⟨_, rfl⟩
    rw [hY] at HE2 hd1 hd2 hd3 hwl hwp
    clear hY
    obtain ⟨m, hm⟩ : ∃ m, Y.length = m + 1 := ⟨Y.length - 1, by omega⟩
    rw [hm, Nat.add_sub_cancel] at hd3
    have he1 := cat_mk Y [0]
    have he2 := ext_take Y m
    have hg1 : ¬ (9223372036854775807 < Y.length + 1) := by omega
    have hg2 : ¬ (9223372036854775807 < m + 1 + 1) := by omega
    have hm0 : (0 : Int) ≤ (m : Int) := by omega
    have hm1 : (m : Int) ≤ (Y.length : Int) := by omega
    have HD1 := Lib.hid (fun w' => decTx_some hd1 (HDD.out Y w' (by omega)))
    have HD2 := Lib.hid (fun w' => decTx_none hd2 (HDD.out (Y ++ [0]) w' (by simp; omega)))
    have HD3 := Lib.hid (fun w' => decTx_none hd3 (HDD.out (Y.take m) w' (by simp; omega)))
    obtain ⟨Y1, hY1⟩ : ∃ Y1, Y ++ [0] = Y1 := ⟨_, rfl⟩
    rw [hY1] at he1 HD2
    obtain ⟨Y2, hY2⟩ : ∃ Y2, Y.take m = Y2 := ⟨_, rfl⟩
    rw [hY2] at he2 HD3
    obtain ⟨v0, hv0⟩ : ∃ v, Txn.zero = v := ⟨_, rfl⟩
    rw [hv0] at HD2 HD3
    clear hd1 hd2 hd3 hwl hwp hY1 hY2 hv0
    go_wp2_with fail
    refine HE2.out.mono ?_
    rintro r wk ⟨rfl, hb⟩
    have HBk := Lib.hid (bchain HB4.out hb)
    have HAk := Lib.hid (HA4.out.below hb)
    have HMk := Lib.hid (HM4.out.below hb)
    clear hb
    clear a0 a1 a2 a3 a4 a5 a6 a7
    go_wp2_with fail
    refine (HD1.out _).mono ?_
    rintro r wd ⟨zd, rfl, hmd, hbd⟩
    obtain ⟨A1, capA1, rfl⟩ := hmd.mems.form
    obtain ⟨wm, hwm, hbe, rb⟩ := tx_box x (.slice A1 x.mem.length capA1) wd
    obtain ⟨qm, hq⟩ : ∃ q, wd.heap.size = q := ⟨_, rfl⟩
    rw [hq] at rb
    have Hqm := Lib.hid hq
    have hb := bchain hbd hbe
    have HYm := Lib.hid rb
    have HNm := Lib.hid (hmd.mems.below hbe)
    have HBm := Lib.hid (bchain HBk.out hb)
    have HAm := Lib.hid (HAk.out.below hb)
    have HMm := Lib.hid (HMk.out.below hb)
    clear hmd hbd hbe rb hq hb
    unfold xval
    go_upto_region 16 with fail
    try rw [hwm]
    try rw [Hqm.out]
    clear hwm
    go_wp2_with fail
    refine (HD2.out _).mono ?_
    rintro r wd ⟨zd, rfl, hmd, hbd⟩
    obtain ⟨A2, capA2, rfl⟩ := hmd.mems.form
    obtain ⟨wn, hwn, hbe, rb⟩ := tx_box v0 (.slice A2 v0.mem.length capA2) wd
    obtain ⟨qn, hq⟩ : ∃ q, wd.heap.size = q := ⟨_, rfl⟩
    rw [hq] at rb
    have Hqn := Lib.hid hq
    have hb := bchain hbd hbe
    have HYn_ := Lib.hid rb
    have HNn_ := Lib.hid (hmd.mems.below hbe)
    have HBn := Lib.hid (bchain HBm.out hb)
    have HAn := Lib.hid (HAm.out.below hb)
    have HMn := Lib.hid (HMm.out.below hb)
    have HYn := Lib.hid (HYm.out.below hb)
    have HNn := Lib.hid (HNm.out.below hb)
    clear hmd hbd hbe rb hq hb
    unfold xval
    go_upto_region 17 with fail
    try rw [hwn]
    try rw [Hqn.out]
    clear hwn
    go_wp2_with fail
    refine (HD3.out _).mono ?_
    rintro r wd ⟨zd, rfl, hmd, hbd⟩
    obtain ⟨A3, capA3, rfl⟩ := hmd.mems.form
    obtain ⟨wo, hwo, hbe, rb⟩ := tx_box v0 (.slice A3 v0.mem.length capA3) wd
    obtain ⟨qo, hq⟩ : ∃ q, wd.heap.size = q := ⟨_, rfl⟩
    rw [hq] at rb
    have Hqo := Lib.hid hq
    have hb := bchain hbd hbe
    have HYo_ := Lib.hid rb
    have HNo_ := Lib.hid (hmd.mems.below hbe)
    have HBo := Lib.hid (bchain HBn.out hb)
    have HAo := Lib.hid (HAn.out.below hb)
    have HMo := Lib.hid (HMn.out.below hb)
    have HYo := Lib.hid (HYn.out.below hb)
    have HNo := Lib.hid (HNn.out.below hb)
    clear hmd hbd hbe rb hq hb
    unfold xval
    go_upto_region 18 with fail
    try rw [hwo]
    try rw [Hqo.out]
    clear hwo
    have HSM := Lib.hid (sameTx_any x x (.slice Az x.mem.length capz) (.slice A1 x.mem.length capA1) wo HMo.out HNo.out (by have := HXL.out; omega) (by have := HXL.out; omega))
    rw [show decide (x = x) = true from decide_eq_true rfl] at HSM
    unfold xval at HSM
    obtain ⟨a0, a1, a2, a3, a4, a5, a6, a7⟩ := HAo.out.cells
    obtain ⟨b0, b1, b2, b3, b4, b5, b6, b7⟩ := HYo.out.cells
    go_wp2_with fail
    refine HSM.out.mono ?_
    rintro r wp ⟨rfl, hb⟩
    have HBp := Lib.hid (bchain HBo.out hb)
    clear hb
    go_wp2
    go_ret
    exact ⟨rfl, HBp.out⟩
  | some y =>
  have HD1 := Lib.hid (fun w' => decTx_some hd (HDD.out s w' HSL.out))
  obtain ⟨hfy, hwy⟩ := Txn.dec_ok hd
  have HEY := Lib.hid (fun z w' h => xencode_any y z w' h)
  unfold Txn.encS Txn.encC at HEY
  rw [hfy, if_pos rfl, if_pos rfl, hwy] at HEY
  have HCY := Lib.hid (fun z w' h => xcheck_any y z w' h)
  rw [hfy, if_pos rfl] at HCY
  clear hd hfy hwy
  unfold xval at HEY HCY
  go_wp2_with fail
  refine (HD1.out _).mono ?_
  rintro r wd ⟨zd, rfl, hmd, hbd⟩
  obtain ⟨A5, capA5, rfl⟩ := hmd.mems.form
  obtain ⟨w3, hw3, hbe, rb⟩ := tx_box y (.slice A5 y.mem.length capA5) wd
  obtain ⟨q5, hq⟩ : ∃ q, wd.heap.size = q := ⟨_, rfl⟩
  rw [hq] at rb
  have Hq5 := Lib.hid hq
  have hb := bchain hbd hbe
  have HY3 := Lib.hid rb
  have HN3 := Lib.hid (hmd.mems.below hbe)
  have HB3 := Lib.hid (bchain HB2.out hb)
  have HA3 := Lib.hid (HA2.out.below hb)
  have HM3 := Lib.hid (HM2.out.below hb)
  clear hmd hbd hbe rb hq hb
  unfold xval
  go_upto_region 6 with fail
  try rw [hw3]
  try rw [Hq5.out]
  clear hw3
  have s1 : (s != s) = false := bne_self_eq_false _
  obtain ⟨b0, b1, b2, b3, b4, b5, b6, b7⟩ := HY3.out.cells
  go_wp2_with fail
  refine (HEY.out _ _ HN3.out).mono ?_
  rintro r w4 ⟨rfl, hb⟩
  have HB4 := Lib.hid (bchain HB3.out hb)
  have HA4 := Lib.hid (HA3.out.below hb)
  have HM4 := Lib.hid (HM3.out.below hb)
  have HY4 := Lib.hid (HY3.out.below hb)
  have HN4 := Lib.hid (HN3.out.below hb)
  clear hb
  clear b0 b1 b2 b3 b4 b5 b6 b7
  obtain ⟨b0, b1, b2, b3, b4, b5, b6, b7⟩ := HY4.out.cells
  go_wp2_with fail
  refine (HCY.out _ _ HN4.out).mono ?_
  rintro r w5 ⟨rfl, hb⟩
  have HB5 := Lib.hid (bchain HB4.out hb)
  have HA5 := Lib.hid (HA4.out.below hb)
  have HM5 := Lib.hid (HM4.out.below hb)
  clear hb
  clear b0 b1 b2 b3 b4 b5 b6 b7
  clear HD1 HEY HCY s1
  obtain ⟨a0, a1, a2, a3, a4, a5, a6, a7⟩ := HA5.out.cells
  have HE2 := Lib.hid (HEX.out w5 HM5.out)
  unfold Txn.encS Txn.encC xval at HE2
  cases hf : Txn.fine x with
  | false =>
    rw [hf, if_neg (by decide), if_neg (by decide)] at HE2
    have HC2 := Lib.hid (fun w' h => HCX.out w' h)
    unfold xval at HC2
    rw [hf, if_neg (by decide)] at HC2
    clear hf
    go_wp2_with fail
    refine HE2.out.mono ?_
    rintro r wk ⟨rfl, hb⟩
    have HBk := Lib.hid (bchain HB5.out hb)
    have HAk := Lib.hid (HA5.out.below hb)
    have HMk := Lib.hid (HM5.out.below hb)
    clear hb
    clear a0 a1 a2 a3 a4 a5 a6 a7
    obtain ⟨a0, a1, a2, a3, a4, a5, a6, a7⟩ := HAk.out.cells
    go_wp2_with fail
    refine (HC2.out _ HMk.out).mono ?_
    rintro r wl ⟨rfl, hb⟩
    have HBl := Lib.hid (bchain HBk.out hb)
    clear hb
    go_wp2
    go_ret
    exact ⟨rfl, HBl.out⟩
  | true =>
  rw [hf, if_pos rfl, if_pos rfl] at HE2
  have hd1 := Txn.dec_written hf
  have hd2 := Txn.dec_more hf 0
  have hd3 := Txn.dec_less hf
  have hwl := Txn.written_len hf
  have hwp : 1 ≤ (Txn.written x).length := by unfold Txn.written; simp
  clear hf
  obtain ⟨Y, hY⟩ : ∃ Y, Txn.written x = Y := ⟨_, rfl⟩
  rw [hY] at HE2 hd1 hd2 hd3 hwl hwp
  clear hY
  obtain ⟨m, hm⟩ : ∃ m, Y.length = m + 1 := ⟨Y.length - 1, by omega⟩
  rw [hm, Nat.add_sub_cancel] at hd3
  have he1 := cat_mk Y [0]
  have he2 := ext_take Y m
  have hg1 : ¬ (9223372036854775807 < Y.length + 1) := by omega
  have hg2 : ¬ (9223372036854775807 < m + 1 + 1) := by omega
  have hm0 : (0 : Int) ≤ (m : Int) := by omega
  have hm1 : (m : Int) ≤ (Y.length : Int) := by omega
  have HD1 := Lib.hid (fun w' => decTx_some hd1 (HDD.out Y w' (by omega)))
  have HD2 := Lib.hid (fun w' => decTx_none hd2 (HDD.out (Y ++ [0]) w' (by simp; omega)))
  have HD3 := Lib.hid (fun w' => decTx_none hd3 (HDD.out (Y.take m) w' (by simp; omega)))
  obtain ⟨Y1, hY1⟩ : ∃ Y1, Y ++ [0] = Y1 := ⟨_, rfl⟩
  rw [hY1] at he1 HD2
  obtain ⟨Y2, hY2⟩ : ∃ Y2, Y.take m = Y2 := ⟨_, rfl⟩
  rw [hY2] at he2 HD3
  obtain ⟨v0, hv0⟩ : ∃ v, Txn.zero = v := ⟨_, rfl⟩
  rw [hv0] at HD2 HD3
  clear hd1 hd2 hd3 hwl hwp hY1 hY2 hv0
  go_wp2_with fail
  refine HE2.out.mono ?_
  rintro r wk ⟨rfl, hb⟩
  have HBk := Lib.hid (bchain HB5.out hb)
  have HAk := Lib.hid (HA5.out.below hb)
  have HMk := Lib.hid (HM5.out.below hb)
  clear hb
  clear a0 a1 a2 a3 a4 a5 a6 a7
  go_wp2_with fail
  refine (HD1.out _).mono ?_
  rintro r wd ⟨zd, rfl, hmd, hbd⟩
  obtain ⟨A1, capA1, rfl⟩ := hmd.mems.form
  obtain ⟨wm, hwm, hbe, rb⟩ := tx_box x (.slice A1 x.mem.length capA1) wd
  obtain ⟨qm, hq⟩ : ∃ q, wd.heap.size = q := ⟨_, rfl⟩
  rw [hq] at rb
  have Hqm := Lib.hid hq
  have hb := bchain hbd hbe
  have HYm := Lib.hid rb
  have HNm := Lib.hid (hmd.mems.below hbe)
  have HBm := Lib.hid (bchain HBk.out hb)
  have HAm := Lib.hid (HAk.out.below hb)
  have HMm := Lib.hid (HMk.out.below hb)
  clear hmd hbd hbe rb hq hb
  unfold xval
  go_upto_region 16 with fail
  try rw [hwm]
  try rw [Hqm.out]
  clear hwm
  go_wp2_with fail
  refine (HD2.out _).mono ?_
  rintro r wd ⟨zd, rfl, hmd, hbd⟩
  obtain ⟨A2, capA2, rfl⟩ := hmd.mems.form
  obtain ⟨wn, hwn, hbe, rb⟩ := tx_box v0 (.slice A2 v0.mem.length capA2) wd
  obtain ⟨qn, hq⟩ : ∃ q, wd.heap.size = q := ⟨_, rfl⟩
  rw [hq] at rb
  have Hqn := Lib.hid hq
  have hb := bchain hbd hbe
  have HYn_ := Lib.hid rb
  have HNn_ := Lib.hid (hmd.mems.below hbe)
  have HBn := Lib.hid (bchain HBm.out hb)
  have HAn := Lib.hid (HAm.out.below hb)
  have HMn := Lib.hid (HMm.out.below hb)
  have HYn := Lib.hid (HYm.out.below hb)
  have HNn := Lib.hid (HNm.out.below hb)
  clear hmd hbd hbe rb hq hb
  unfold xval
  go_upto_region 17 with fail
  try rw [hwn]
  try rw [Hqn.out]
  clear hwn
  go_wp2_with fail
  refine (HD3.out _).mono ?_
  rintro r wd ⟨zd, rfl, hmd, hbd⟩
  obtain ⟨A3, capA3, rfl⟩ := hmd.mems.form
  obtain ⟨wo, hwo, hbe, rb⟩ := tx_box v0 (.slice A3 v0.mem.length capA3) wd
  obtain ⟨qo, hq⟩ : ∃ q, wd.heap.size = q := ⟨_, rfl⟩
  rw [hq] at rb
  have Hqo := Lib.hid hq
  have hb := bchain hbd hbe
  have HYo_ := Lib.hid rb
  have HNo_ := Lib.hid (hmd.mems.below hbe)
  have HBo := Lib.hid (bchain HBn.out hb)
  have HAo := Lib.hid (HAn.out.below hb)
  have HMo := Lib.hid (HMn.out.below hb)
  have HYo := Lib.hid (HYn.out.below hb)
  have HNo := Lib.hid (HNn.out.below hb)
  clear hmd hbd hbe rb hq hb
  unfold xval
  go_upto_region 18 with fail
  try rw [hwo]
  try rw [Hqo.out]
  clear hwo
  have HSM := Lib.hid (sameTx_any x x (.slice Az x.mem.length capz) (.slice A1 x.mem.length capA1) wo HMo.out HNo.out (by have := HXL.out; omega) (by have := HXL.out; omega))
  rw [show decide (x = x) = true from decide_eq_true rfl] at HSM
  unfold xval at HSM
  obtain ⟨a0, a1, a2, a3, a4, a5, a6, a7⟩ := HAo.out.cells
  obtain ⟨b0, b1, b2, b3, b4, b5, b6, b7⟩ := HYo.out.cells
  go_wp2_with fail
  refine HSM.out.mono ?_
  rintro r wp ⟨rfl, hb⟩
  have HBp := Lib.hid (bchain HBo.out hb)
  clear hb
  go_wp2
  go_ret
  exact ⟨rfl, HBp.out⟩
theorem txBack_law (x : X) (z : Value) (s : ByteArray) (w : World) (_ : OkX x) (hz : Mems w z x.mem) (_ : s.size ≤ maxLen) (hT : Tab w) :
    Calls Tryd.prog 5 #[xval x z, .string s] w fun r w' => r = .returned (.bool true) ∧ Below w.heap.size w w' := by
  obtain ⟨l, rfl⟩ := bytes_list s
  exact txBack_walk x z l w hz hT
end Go.Proofs.YtddjkiejekfekaaDoor
