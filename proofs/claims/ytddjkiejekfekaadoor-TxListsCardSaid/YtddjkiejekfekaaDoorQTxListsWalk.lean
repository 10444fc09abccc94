/- The law TxLists, walked. -/
import Derived.Test.YtddjkiejekfekaaDoorPk14
namespace Go.Proofs.YtddjkiejekfekaaDoor
open Go.RowKit
open Go.Proofs.YtddjkiejekfekaaDoor.Pw (M)
open Go.Proofs.YtddjkiejekfekaaDoor.Txn (X)

theorem Txn.decAllX_few (s : List UInt8) : (Txn.decAllX s).length ≤ 100000 ∧ ∀ x ∈ Txn.decAllX s, x.mem.length ≤ 1000000 := by
  unfold Txn.decAllX
  cases h : Txn.decAll s with
  | none => exact ⟨by simp, fun x hx => by simp at hx⟩
  | some L =>
    obtain ⟨h1, h2, -⟩ := Txn.decAll_ok h
    exact ⟨by simp; omega, fun x hx => by have := Txn.fine_mem (List.all_eq_true.1 h2 x hx); omega⟩
set_option maxRecDepth 100000 in
set_option maxHeartbeats 8000000 in
theorem txLists_walk (v : Value) (L : List X) (s : List UInt8) (w : World) (hv : Txs w v L) (hm : L.length ≤ maxLen) (hT : Tab w) :
    Calls Tryd.prog 4 #[v, .string ⟨s.toArray⟩] w fun r w' => r = .returned (.bool true) ∧ Below w.heap.size w w' := by
  have HB0 : Hid (Below w.heap.size w w) := Lib.hid (Below.refl _ _)
  have HV0 := Lib.hid hv
  have HT0 := Lib.hid hT
  have HWK := Lib.hid (fun w' h => txworks_any w' h)
  have HBG := Lib.hid (bigTxs_any L v w hv hm)
  have HE1 := Lib.hid (fun w' h => xencodeAll_any L v w' h)
  have HE2 := Lib.hid (fun w' h => rencodeAll_any L v w' h)
  have HR1 := Lib.hid (fun w' h hT => xroot_any L v w' h hT)
  have HR2 := Lib.hid (fun w' h => rroot_tx L v w' h)
  have HD1 := Lib.hid (fun w' h => xdecodeAll_any s w' h)
  have HD2 := Lib.hid (fun w' h => rdecodeAll_any s w' h)
  have HFE := Lib.hid (Txn.decAllX_few s)
  unfold EncAllPost at HE1 HE2
  unfold DecAllTx at HD1 HD2
  unfold BigTxs at HBG
  obtain ⟨E, hE⟩ : ∃ E, (Txn.encAll L).1 = E := ⟨_, rfl⟩
  rw [hE] at HE1 HE2
  obtain ⟨C, hC⟩ : ∃ C, Txn.allC L = C := ⟨_, rfl⟩
  rw [hC] at HE1 HE2 HR1 HR2
  obtain ⟨R, hR⟩ : ∃ R, Txn.rootS L = R := ⟨_, rfl⟩
  rw [hR] at HR1 HR2
  obtain ⟨Y, hY⟩ : ∃ Y, Txn.decAllX s = Y := ⟨_, rfl⟩
  obtain ⟨D, hD⟩ : ∃ D, Txn.decAllC s = D := ⟨_, rfl⟩
  rw [hY, hD] at HD1 HD2
  rw [hY] at HFE
  obtain ⟨A, cap, rfl⟩ := hv.form
  clear hv hm hT hE hC hR hY hD
  go_enter Tryd.func4, Tryd.ntmps4
  go_wp2_with fail
  refine HBG.out.mono ?_
  rintro r w1 ⟨bb, rfl, -, hb⟩
  have HB1 := Lib.hid (bchain HB0.out hb)
  have HV1 := Lib.hid (HV0.out.below hb)
  have HT1 := Lib.hid (HT0.out.below hb)
  clear hb
  cases bb with
  | true =>
    go_wp2_with fail
    refine (HWK.out _ HT1.out).mono ?_
    rintro r w2 ⟨rfl, hb⟩
    have HB2 := Lib.hid (bchain HB1.out hb)
    clear hb
    go_wp2
    go_ret
    exact ⟨rfl, HB2.out⟩
  | false =>
  by_cases hs : 2000 < s.length
  · have p1 : decide ((2000 : Int) < (s.length : Int)) = true := decide_eq_true (by omega)
    clear hs
    go_wp2_with fail
    refine (HWK.out _ HT1.out).mono ?_
    rintro r w2 ⟨rfl, hb⟩
    have HB2 := Lib.hid (bchain HB1.out hb)
    clear hb
    go_wp2
    go_ret
    exact ⟨rfl, HB2.out⟩
  have p1 : decide ((2000 : Int) < (s.length : Int)) = false := decide_eq_false (by omega)
  have HSL : Hid (s.length ≤ 1000000) := Lib.hid (by omega)
  clear hs
  go_wp2_with fail
  refine (HE1.out _ HV1.out).mono ?_
  rintro r w2 ⟨rfl, hb⟩
  have HB2 := Lib.hid (bchain HB1.out hb)
  have HV2 := Lib.hid (HV1.out.below hb)
  have HT2 := Lib.hid (HT1.out.below hb)
  clear hb
  go_wp2_with fail
  refine (HE2.out _ HV2.out).mono ?_
  rintro r w3 ⟨rfl, hb⟩
  have HB3 := Lib.hid (bchain HB2.out hb)
  have HV3 := Lib.hid (HV2.out.below hb)
  have HT3 := Lib.hid (HT2.out.below hb)
  clear hb
  go_wp2_with fail
  refine (HD1.out _ HSL.out).mono ?_
  rintro r w4 ⟨z1, rfl, hx, hb⟩
  obtain ⟨A1, cap1, rfl⟩ := hx.form
  have HX4 := Lib.hid hx.txs
  clear hx
  have HB4 := Lib.hid (bchain HB3.out hb)
  have HV4 := Lib.hid (HV3.out.below hb)
  have HT4 := Lib.hid (HT3.out.below hb)
  clear hb
  go_wp2_with fail
  refine (HD2.out _ HSL.out).mono ?_
  rintro r w5 ⟨z2, rfl, hx, hb⟩
  obtain ⟨A2, cap2, rfl⟩ := hx.form
  have HZ5 := Lib.hid hx.txs
  clear hx
  have HB5 := Lib.hid (bchain HB4.out hb)
  have HV5 := Lib.hid (HV4.out.below hb)
  have HT5 := Lib.hid (HT4.out.below hb)
  have HX5 := Lib.hid (HX4.out.below hb)
  clear hb
  go_wp2_with fail
  refine (HR1.out _ HV5.out HT5.out).mono ?_
  rintro r w6 ⟨rfl, hb⟩
  have HB6 := Lib.hid (bchain HB5.out hb)
  have HV6 := Lib.hid (HV5.out.below hb)
  have HT6 := Lib.hid (HT5.out.below hb)
  have HX6 := Lib.hid (HX5.out.below hb)
  have HZ6 := Lib.hid (HZ5.out.below hb)
  clear hb
  go_wp2_with fail
  refine (HR2.out _ HV6.out).mono ?_
  rintro r w7 ⟨rfl, hb⟩
  have HB7 := Lib.hid (bchain HB6.out hb)
  have HT7 := Lib.hid (HT6.out.below hb)
  have HX7 := Lib.hid (HX6.out.below hb)
  have HZ7 := Lib.hid (HZ6.out.below hb)
  clear hb
  have HSM := Lib.hid (sameTxs_any Y Y (.slice A1 Y.length cap1) (.slice A2 Y.length cap2) w7 HX7.out HZ7.out HFE.out.1 HFE.out.2 HFE.out.2)
  rw [show decide (Y = Y) = true from decide_eq_true rfl] at HSM
  have s1 : (E == E) = true := beq_self_eq_true _
  have s2 : (C == C) = true := beq_self_eq_true _
  have s3 : (D == D) = true := beq_self_eq_true _
  have s4 : (R == R) = true := beq_self_eq_true _
  go_wp2_with fail
  refine HSM.out.mono ?_
  rintro r w8 ⟨rfl, hb⟩
  have HB8 := Lib.hid (bchain HB7.out hb)
  have HT8 := Lib.hid (HT7.out.below hb)
  clear hb
  go_wp2_with fail
  refine (HWK.out _ HT8.out).mono ?_
  rintro r w9 ⟨rfl, hb⟩
  have HB9 := Lib.hid (bchain HB8.out hb)
  clear hb
  go_wp2
  go_ret
  exact ⟨rfl, HB9.out⟩
theorem txLists_law (v : Value) (L : List X) (s : ByteArray) (w : World) (hv : Txs w v L) (hm : L.length ≤ maxLen) (_ : ∀ x ∈ L, OkX x) (_ : s.size ≤ maxLen) (hT : Tab w) :
    Calls Tryd.prog 4 #[v, .string s] w fun r w' => r = .returned (.bool true) ∧ Below w.heap.size w w' := by
  obtain ⟨l, rfl⟩ := bytes_list s
  exact txLists_walk v L l w hv hm hT
end Go.Proofs.YtddjkiejekfekaaDoor
