/- The law TxAll, walked. -/
import Derived.Test.YtddjkiejekfekaaDoorPk14
namespace Go.Proofs.YtddjkiejekfekaaDoor
open Go.RowKit
open Go.Proofs.YtddjkiejekfekaaDoor.Pw (M)
open Go.Proofs.YtddjkiejekfekaaDoor.Txn (X)

theorem Txn.all_cases (L : List X) : (8 < L.length ∧ Txn.encAll L = ([], 2)) ∨ (L.length ≤ 8 ∧ Txn.encAll L = ([], 150)) ∨ (L.length ≤ 8 ∧ Txn.fines L = true ∧ Txn.encAll L = (Code.listL (L.map Txn.written), 0)) := by
  by_cases h : 8 < L.length
  · exact Or.inl ⟨h, Txn.encAll_long h⟩
  · cases hf : Txn.fines L with
    | true => exact Or.inr (Or.inr ⟨by omega, rfl, Txn.encAll_ok (by omega) hf⟩)
    | false => exact Or.inr (Or.inl ⟨by omega, by unfold Txn.encAll; rw [if_neg h, hf, if_neg (by decide)]⟩)
set_option maxRecDepth 100000 in
set_option maxHeartbeats 8000000 in
theorem txAll_walk (u : Value) (L : List X) (v : Value) (K : List X) (w : World) (hu : Txs w u L) (hm : L.length ≤ maxLen) (hv : Txs w v K) (hn : K.length ≤ maxLen) (hT : Tab w) :
    Calls Tryd.prog 6 #[u, v] w fun r w' => r = .returned (.bool true) ∧ Below w.heap.size w w' := by
  have HB0 : Hid (Below w.heap.size w w) := Lib.hid (Below.refl _ _)
  have HU0 := Lib.hid hu
  have HV0 := Lib.hid hv
  have HT0 := Lib.hid hT
  have HWK := Lib.hid (txworks_any w hT)
  have HBU := Lib.hid (fun w' h => bigTxs_any L u w' h hm)
  have HBV := Lib.hid (fun w' h => bigTxs_any K v w' h hn)
  have HEU := Lib.hid (fun w' h => xencodeAll_any L u w' h)
  have HEV := Lib.hid (fun w' h => xencodeAll_any K v w' h)
  have HRU := Lib.hid (fun w' h hT => xroot_any L u w' h hT)
  have HRV := Lib.hid (fun w' h hT => xroot_any K v w' h hT)
  have HDD := Lib.hid (fun s w' h => xdecodeAll_any s w' h)
  unfold EncAllPost Txn.allC at HEU HEV
  unfold Txn.allC at HRU HRV
  unfold DecAllTx at HDD
  unfold BigTxs at HBU HBV
  obtain ⟨A, cap, rfl⟩ := hu.form
  obtain ⟨B, bap, rfl⟩ := hv.form
  clear hu hv hm hn hT
  go_enter Tryd.func6, Tryd.ntmps6
  go_wp2_with fail
  refine (HWK.out).mono ?_
  rintro r w1 ⟨rfl, hb⟩
  have HB1 := Lib.hid (bchain HB0.out hb)
  have HU1 := Lib.hid (HU0.out.below hb)
  have HV1 := Lib.hid (HV0.out.below hb)
  have HT1 := Lib.hid (HT0.out.below hb)
  clear hb
  go_wp2_with fail
  refine (HBU.out _ HU1.out).mono ?_
  rintro r w2 ⟨bb, rfl, hs1, hb⟩
  have HS1 := Lib.hid hs1
  clear hs1
  have HB2 := Lib.hid (bchain HB1.out hb)
  have HU2 := Lib.hid (HU1.out.below hb)
  have HV2 := Lib.hid (HV1.out.below hb)
  have HT2 := Lib.hid (HT1.out.below hb)
  clear hb
  cases bb with
  | true =>
    go_wp2
    go_ret
    exact ⟨rfl, HB2.out⟩
  | false =>
  have HSL := Lib.hid (HS1.out rfl)
  clear HS1
  go_wp2_with fail
  refine (HBV.out _ HV2.out).mono ?_
  rintro r w3 ⟨bb, rfl, hs1, hb⟩
  have HS1 := Lib.hid hs1
  clear hs1
  have HB3 := Lib.hid (bchain HB2.out hb)
  have HU3 := Lib.hid (HU2.out.below hb)
  have HV3 := Lib.hid (HV2.out.below hb)
  have HT3 := Lib.hid (HT2.out.below hb)
  clear hb
  cases bb with
  | true =>
    go_wp2
    go_ret
    exact ⟨rfl, HB3.out⟩
  | false =>
  have HSK := Lib.hid (HS1.out rfl)
  clear HS1
  rcases Txn.all_cases L with ⟨h8, he⟩ | ⟨h8, he⟩ | ⟨h8, hf, he⟩
  · skip
    rw [he] at HEU
    have p1 : decide ((8 : Int) < (L.length : Int)) = true := decide_eq_true (by omega)
    clear h8 he
    go_wp2_with fail
    refine (HEU.out _ HU3.out).mono ?_
    rintro r w4 ⟨rfl, hb⟩
    have HB4 := Lib.hid (bchain HB3.out hb)
    have HU4 := Lib.hid (HU3.out.below hb)
    have HV4 := Lib.hid (HV3.out.below hb)
    have HT4 := Lib.hid (HT3.out.below hb)
    clear hb
    rcases Txn.all_cases K with ⟨-, he⟩ | ⟨-, he⟩ | ⟨-, -, he⟩
    · rw [he] at HEV
      clear he
      go_wp2_with fail
      refine (HEV.out _ HV4.out).mono ?_
      rintro r w5 ⟨rfl, hb⟩
      have HB5 := Lib.hid (bchain HB4.out hb)
      clear hb
      go_wp2
      go_ret
      exact ⟨rfl, HB5.out⟩
    · rw [he] at HEV
      clear he
      go_wp2_with fail
      refine (HEV.out _ HV4.out).mono ?_
      rintro r w5 ⟨rfl, hb⟩
      have HB5 := Lib.hid (bchain HB4.out hb)
      clear hb
      go_wp2
      go_ret
      exact ⟨rfl, HB5.out⟩
    · rw [he] at HEV
      clear he
      obtain ⟨T, hT⟩ : ∃ T, Code.listL (K.map Txn.written) = T := ⟨_, rfl⟩
      rw [hT] at HEV
      clear hT
      go_wp2_with fail
      refine (HEV.out _ HV4.out).mono ?_
      rintro r w5 ⟨rfl, hb⟩
      have HB5 := Lib.hid (bchain HB4.out hb)
      clear hb
      go_wp2
      go_ret
      exact ⟨rfl, HB5.out⟩
  · skip
    rw [he] at HEU
    have p1 : decide ((8 : Int) < (L.length : Int)) = false := decide_eq_false (by omega)
    clear h8 he
    go_wp2_with fail
    refine (HEU.out _ HU3.out).mono ?_
    rintro r w4 ⟨rfl, hb⟩
    have HB4 := Lib.hid (bchain HB3.out hb)
    have HU4 := Lib.hid (HU3.out.below hb)
    have HV4 := Lib.hid (HV3.out.below hb)
    have HT4 := Lib.hid (HT3.out.below hb)
    clear hb
    rcases Txn.all_cases K with ⟨-, he⟩ | ⟨-, he⟩ | ⟨-, -, he⟩
    · rw [he] at HEV
      clear he
      go_wp2_with fail
      refine (HEV.out _ HV4.out).mono ?_
      rintro r w5 ⟨rfl, hb⟩
      have HB5 := Lib.hid (bchain HB4.out hb)
      clear hb
      go_wp2
      go_ret
      exact ⟨rfl, HB5.out⟩
    · rw [he] at HEV
      clear he
      go_wp2_with fail
      refine (HEV.out _ HV4.out).mono ?_
      rintro r w5 ⟨rfl, hb⟩
      have HB5 := Lib.hid (bchain HB4.out hb)
      clear hb
      go_wp2
      go_ret
      exact ⟨rfl, HB5.out⟩
    · rw [he] at HEV
      clear he
      obtain ⟨T, hT⟩ : ∃ T, Code.listL (K.map Txn.written) = T := ⟨_, rfl⟩
      rw [hT] at HEV
      clear hT
      go_wp2_with fail
      refine (HEV.out _ HV4.out).mono ?_
      rintro r w5 ⟨rfl, hb⟩
      have HB5 := Lib.hid (bchain HB4.out hb)
      clear hb
      go_wp2
      go_ret
      exact ⟨rfl, HB5.out⟩
  · skip
    have HGU : Hid ((Txn.encAll L).2 = 0) := Lib.hid (by rw [he])
    have HDL := Lib.hid (Txn.decAll_list h8 hf)
    have HFI := Lib.hid hf
    have HLL : Hid ((Code.listL (L.map Txn.written)).length ≤ 1000000) := Lib.hid (Nat.le_trans (Txn.all_le h8 hf).2 (by decide))
    have HE1 : Hid ((Txn.encAll L).1 = Code.listL (L.map Txn.written)) := Lib.hid (by rw [he])
    rw [he] at HEU HRU
    clear h8 he hf
    obtain ⟨S, hS⟩ : ∃ S, Code.listL (L.map Txn.written) = S := ⟨_, rfl⟩
    rw [hS] at HEU HDL HLL HE1
    clear hS
    go_wp2_with fail
    refine (HEU.out _ HU3.out).mono ?_
    rintro r w4 ⟨rfl, hb⟩
    have HB4 := Lib.hid (bchain HB3.out hb)
    have HU4 := Lib.hid (HU3.out.below hb)
    have HV4 := Lib.hid (HV3.out.below hb)
    have HT4 := Lib.hid (HT3.out.below hb)
    clear hb
    rcases Txn.all_cases K with ⟨-, he⟩ | ⟨-, he⟩ | ⟨h8, hf, he⟩
    · rw [he] at HEV
      clear he
      go_wp2_with fail
      refine (HEV.out _ HV4.out).mono ?_
      rintro r w5 ⟨rfl, hb⟩
      have HB5 := Lib.hid (bchain HB4.out hb)
      clear hb
      go_wp2
      go_ret
      exact ⟨rfl, HB5.out⟩
    · rw [he] at HEV
      clear he
      go_wp2_with fail
      refine (HEV.out _ HV4.out).mono ?_
      rintro r w5 ⟨rfl, hb⟩
      have HB5 := Lib.hid (bchain HB4.out hb)
      clear hb
      go_wp2
      go_ret
      exact ⟨rfl, HB5.out⟩
    have HIN := Lib.hid (Txn.encAll_inj HGU.out (show (Txn.encAll K).2 = 0 by rw [he]))
    have HRR : Hid ((Txn.encAll L).1 = (Txn.encAll K).1 → Txn.rootS L = Txn.rootS K) := Lib.hid (fun h => by unfold Txn.rootS; rw [HGU.out, show (Txn.encAll K).2 = 0 by rw [he], h])
    rw [show (Txn.encAll K).1 = Code.listL (K.map Txn.written) by rw [he], HE1.out] at HIN HRR
    rw [he] at HEV HRV
    clear h8 he hf HGU HE1
    obtain ⟨T, hT⟩ : ∃ T, Code.listL (K.map Txn.written) = T := ⟨_, rfl⟩
    rw [hT] at HEV HIN HRR
    clear hT
    obtain ⟨R1, hR1⟩ : ∃ R, Txn.rootS L = R := ⟨_, rfl⟩
    obtain ⟨R2, hR2⟩ : ∃ R, Txn.rootS K = R := ⟨_, rfl⟩
    rw [hR1] at HRU HRR
    rw [hR2] at HRV HRR
    clear hR1 hR2
    have HDS : Hid (∀ w', Calls Tryd.prog 20 #[.string ⟨S.toArray⟩] w' fun e w'' => ∃ z, e = .returned (.tuple #[z, .int .i64 0]) ∧ OwnX w'' w'.heap.size z L ∧ Below w'.heap.size w' w'') := Lib.hid (fun w' => by
      have h := HDD.out S w' HLL.out
      rw [show Txn.decAllX S = L by unfold Txn.decAllX; rw [HDL.out]; rfl, show Txn.decAllC S = 0 by unfold Txn.decAllC; rw [HDL.out]; rfl] at h
      exact h)
    have HS1 := Lib.hid (fun u v w' h1 h2 => sameTxs_any L L u v w' h1 h2 (by have := HSL.out.1; omega) (fun x hx => by have := (HSL.out.2 x hx).2.2.2.2; omega) (fun x hx => by have := (HSL.out.2 x hx).2.2.2.2; omega))
    rw [show decide (L = L) = true from decide_eq_true rfl] at HS1
    have HS2 := Lib.hid (fun u v w' h1 h2 => sameTxs_any L K u v w' h1 h2 (by have := HSL.out.1; omega) (fun x hx => by have := (HSL.out.2 x hx).2.2.2.2; omega) (fun x hx => by have := (HSK.out.2 x hx).2.2.2.2; omega))
    go_wp2_with fail
    refine (HEV.out _ HV4.out).mono ?_
    rintro r w5 ⟨rfl, hb⟩
    have HB5 := Lib.hid (bchain HB4.out hb)
    have HU5 := Lib.hid (HU4.out.below hb)
    have HV5 := Lib.hid (HV4.out.below hb)
    have HT5 := Lib.hid (HT4.out.below hb)
    clear hb
    go_wp2_with fail
    refine (HDS.out _).mono ?_
    rintro r w6 ⟨z1, rfl, hx, hb⟩
    obtain ⟨A1, cap1, rfl⟩ := hx.form
    have HX6 := Lib.hid hx.txs
    clear hx
    have HB6 := Lib.hid (bchain HB5.out hb)
    have HU6 := Lib.hid (HU5.out.below hb)
    have HV6 := Lib.hid (HV5.out.below hb)
    have HT6 := Lib.hid (HT5.out.below hb)
    clear hb
    go_wp2_with fail
    refine (HRU.out _ HU6.out HT6.out).mono ?_
    rintro r w7 ⟨rfl, hb⟩
    have HB7 := Lib.hid (bchain HB6.out hb)
    have HU7 := Lib.hid (HU6.out.below hb)
    have HV7 := Lib.hid (HV6.out.below hb)
    have HT7 := Lib.hid (HT6.out.below hb)
    have HX7 := Lib.hid (HX6.out.below hb)
    clear hb
    go_wp2_with fail
    refine (HRV.out _ HV7.out HT7.out).mono ?_
    rintro r w8 ⟨rfl, hb⟩
    have HB8 := Lib.hid (bchain HB7.out hb)
    have HU8 := Lib.hid (HU7.out.below hb)
    have HV8 := Lib.hid (HV7.out.below hb)
    have HT8 := Lib.hid (HT7.out.below hb)
    have HX8 := Lib.hid (HX7.out.below hb)
    clear hb
    go_wp2_with fail
    refine (HS1.out _ _ _ HX8.out HU8.out).mono ?_
    rintro r w9 ⟨rfl, hb⟩
    have HB9 := Lib.hid (bchain HB8.out hb)
    have HU9 := Lib.hid (HU8.out.below hb)
    have HV9 := Lib.hid (HV8.out.below hb)
    clear hb
    by_cases hq : L = K
    · have hst := HIN.out.2 hq
      have hrr := HRR.out hst
      rw [decide_eq_true hq] at HS2
      clear hq
      have s1 : (S == T) = true := beq_iff_eq.2 hst
      have s2 : (S != T) = false := by rw [hst]; exact bne_self_eq_false _
      have s3 : (R1 == R2) = true := beq_iff_eq.2 hrr
      clear hst hrr
      go_wp2_with fail
      refine (HS2.out _ _ _ HU9.out HV9.out).mono ?_
      rintro r wa ⟨rfl, hb⟩
      have HBa := Lib.hid (bchain HB9.out hb)
      clear hb
      go_wp2
      go_ret
      exact ⟨rfl, HBa.out⟩
    · have hst : S ≠ T := fun h => hq (HIN.out.1 h)
      rw [decide_eq_false hq] at HS2
      clear hq
      have s1 : (S == T) = false := beq_eq_false_iff_ne.2 hst
      have s2 : (S != T) = true := by rw [bne_iff_ne]; exact hst
      clear hst
      go_wp2_with fail
      refine (HS2.out _ _ _ HU9.out HV9.out).mono ?_
      rintro r wa ⟨rfl, hb⟩
      have HBa := Lib.hid (bchain HB9.out hb)
      clear hb
      go_wp2
      go_ret
      exact ⟨rfl, HBa.out⟩
theorem txAll_law (u : Value) (L : List X) (v : Value) (K : List X) (w : World) (hu : Txs w u L) (hm : L.length ≤ maxLen) (_ : ∀ x ∈ L, OkX x) (hv : Txs w v K) (hn : K.length ≤ maxLen) (_ : ∀ x ∈ K, OkX x) (hT : Tab w) :
    Calls Tryd.prog 6 #[u, v] w fun r w' => r = .returned (.bool true) ∧ Below w.heap.size w w' := txAll_walk u L v K w hu hm hv hn hT
end Go.Proofs.YtddjkiejekfekaaDoor
