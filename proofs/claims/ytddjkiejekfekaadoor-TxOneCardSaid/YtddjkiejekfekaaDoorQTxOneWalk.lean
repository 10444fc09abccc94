/- The law TxOne, walked. -/
import Derived.Test.YtddjkiejekfekaaDoorPk14
namespace Go.Proofs.YtddjkiejekfekaaDoor
open Go.RowKit
open Go.Proofs.YtddjkiejekfekaaDoor.Pw (M)
open Go.Proofs.YtddjkiejekfekaaDoor.Txn (X)

set_option maxRecDepth 100000 in
set_option maxHeartbeats 8000000 in
theorem txOne_walk (x : X) (z : Value) (which : Int) (w : World) (hz : Mems w z x.mem) (hT : Tab w) :
    Calls Tryd.prog 7 #[xval x z, .int .i64 which] w fun r w' => r = .returned (.bool true) ∧ Below w.heap.size w w' := by
  have HWK := Lib.hid (fun w' h => txworks_any w' h)
  obtain ⟨w0, hw0, hb0, ra⟩ := tx_box x z w
  have HB := Lib.hid hb0
  have HM := Lib.hid (hz.below hb0)
  have HT := Lib.hid (hT.below hb0)
  obtain ⟨q0, hq0⟩ : ∃ q0, w.heap.size = q0 := ⟨_, rfl⟩
  rw [hq0] at ra
  have HA := Lib.hid ra
  have HQ0 := Lib.hid hq0
  have HMZ := Lib.hid hz
  obtain ⟨Az, capz, rfl⟩ := hz.form
  have HMS : Hid (∀ w', Below w.heap.size w w' → Mems w' (.slice Az x.mem.length capz) x.mem) := Lib.hid (fun w' h => HMZ.out.below h)
  have HBG := Lib.hid (fun w' h => bigTx_any x (.slice Az x.mem.length capz) w' h)
  have HCK := Lib.hid (fun y u w' h => xcheck_any y u w' h)
  have HSP := Lib.hid (fun y h1 h2 => Txn.spoilt (x := x) (y := y) h1 h2)
  obtain ⟨k, hk, hk6⟩ := Bk.below_nat which 6 (by decide)
  have HBL : Hid (∀ w', Calls Tryd.prog 25 #[.int .i64 which, .int .i64 6] w' fun e w'' => e = .returned (.int .i64 k) ∧ w'' = w') := Lib.hid (fun w' => by
    have h := below_any which 6 w' (by decide) (by decide)
    rw [hk] at h
    exact h)
  have HK6 := Lib.hid hk6
  unfold BigTx xval at HBG
  unfold xval
  clear hb0 ra hz hT hk hk6 hq0
  go_enter Tryd.func7, Tryd.ntmps7
  go_upto_region 1 with fail
  try rw [hw0]
  try rw [HQ0.out]
  clear hw0
  go_wp2_with fail
  refine (HWK.out _ HT.out).mono ?_
  rintro r w1 ⟨rfl, hb1⟩
  have HB1 := Lib.hid (bchain HB.out hb1)
  have HA1 := Lib.hid (HA.out.below hb1)
  have HM1 := Lib.hid (HM.out.below hb1)
  clear hb1
  obtain ⟨a0, a1, a2, a3, a4, a5, a6, a7⟩ := HA1.out.cells
  go_wp2_with fail
  refine (HBG.out _ HM1.out).mono ?_
  rintro r w2 ⟨bb, rfl, -, -, hb2⟩
  have HB2 := Lib.hid (bchain HB1.out hb2)
  have HA2 := Lib.hid (HA1.out.below hb2)
  have HM2 := Lib.hid (HM1.out.below hb2)
  clear hb2 a0 a1 a2 a3 a4 a5 a6 a7
  cases bb with
  | true =>
    go_wp2
    go_ret
    exact ⟨rfl, HB2.out⟩
  | false =>
  obtain ⟨a0, a1, a2, a3, a4, a5, a6, a7⟩ := HA2.out.cells
  have HC2 := Lib.hid (HCK.out x (.slice Az x.mem.length capz) w2 HM2.out)
  unfold xval at HC2
  cases hf : Txn.fine x with
  | false =>
    rw [hf, if_neg (by decide)] at HC2
    clear hf
    go_wp2_with fail
    refine HC2.out.mono ?_
    rintro r w3 ⟨rfl, hb3⟩
    have HB3 := Lib.hid (bchain HB2.out hb3)
    clear hb3
    go_wp2
    go_ret
    exact ⟨rfl, HB3.out⟩
  | true =>
  rw [hf, if_pos rfl] at HC2
  have HS := Lib.hid (fun y h => HSP.out y hf h)
  clear hf
  go_wp2_with fail
  refine HC2.out.mono ?_
  rintro r w3 ⟨rfl, hb3⟩
  have HB3 := Lib.hid (bchain HB2.out hb3)
  have HA3 := Lib.hid (HA2.out.below hb3)
  have HM3 := Lib.hid (HM2.out.below hb3)
  clear hb3 a0 a1 a2 a3 a4 a5 a6 a7
  obtain ⟨a0, a1, a2, a3, a4, a5, a6, a7⟩ := HA3.out.cells
  obtain ⟨w4, hw4, hb4, rb⟩ := tx_box x (.slice Az x.mem.length capz) w3
  obtain ⟨q5, hq5⟩ : ∃ q5, w3.heap.size = q5 := ⟨_, rfl⟩
  rw [hq5] at rb
  have HQ5 := Lib.hid hq5
  have HY4 := Lib.hid rb
  have HB4 := Lib.hid (bchain HB3.out hb4)
  have HA4 := Lib.hid (HA3.out.below hb4)
  have HM4 := Lib.hid (HM3.out.below hb4)
  have HQL : Hid (w.heap.size ≤ q5) := Lib.hid (by rw [← hq5]; exact HB3.out.size)
  clear hb4 rb hq5
  go_upto_region 6 with fail
  try rw [hw4]
  try rw [HQ5.out]
  clear hw4 a0 a1 a2 a3 a4 a5 a6 a7
  have a0 := HA4.out.cells.1
  go_wp2_with fail
  refine (HBL.out _).mono ?_
  rintro r w5 ⟨rfl, hw5⟩
  obtain rfl := hw5.symm
  have HNE : Hid (∀ (k j : Nat), k ≠ j → ((k : Int) == (j : Int)) = false) := Lib.hid (fun k j h => by rw [beq_eq_false_iff_ne]; omega)
  have HQN : Hid (q0 ≠ q5) := Lib.hid (by have := HQ0.out; have := HQ5.out; have := lt_of_heap HA3.out; omega)
  rcases Nat.lt_or_ge k 1 with h | h
  · skip
    obtain rfl : k = 0 := by omega
    clear h HK6
    have r0 : (((0 : Nat) : Int) == 0) = true := rfl
    have b1_w4 := HY4.out.cells.2.1
    have v1_w4 := HY4.out.free 1
    have HY6 := Lib.hid (HY4.out.setFrm [])
    have HBw6 : Hid (Below w.heap.size w (w4.setCell ⟨q5, 1, none⟩ (.string ⟨#[]⟩))) := Lib.hid (HB4.out.trans (((Only.refl q5 w4).setCell (p := ⟨q5, 1, none⟩) rfl _).below HQL.out HB4.out.size))
    have HAw6 : Hid (TxAt (w4.setCell ⟨q5, 1, none⟩ (.string ⟨#[]⟩)) q0 x (.slice Az x.mem.length capz)) := Lib.hid ((((Only.refl q5 w4).setCell (p := ⟨q5, 1, none⟩) rfl (.string ⟨#[]⟩)).block q0 (lt_of_heap HA4.out) HQN.out).trans HA4.out)
    have HMw6 : Hid (Mems (w4.setCell ⟨q5, 1, none⟩ (.string ⟨#[]⟩)) (.slice Az x.mem.length capz) x.mem) := Lib.hid (HMS.out _ HBw6.out)
    obtain ⟨w6, hw6⟩ : ∃ w', w4.setCell ⟨q5, 1, none⟩ (.string ⟨#[]⟩) = w' := ⟨_, rfl⟩
    rw [hw6] at HY6 HBw6 HAw6 HMw6
    have HF : Hid (Txn.fine { x with frm := [] } = false) := Lib.hid (HS.out _ (Or.inl rfl))
    have HCF := Lib.hid (HCK.out { x with frm := [] } (.slice Az x.mem.length capz) w6 (HMw6.out))
    rw [HF.out, if_neg (by decide)] at HCF
    unfold xval at HCF
    obtain ⟨c0, c1, c2, c3, c4, c5, c6, c7⟩ := HY6.out.cells
    go_wp2_with fail
    refine HCF.out.mono ?_
    rintro r wz ⟨rfl, hbz⟩
    have HBZ := Lib.hid (bchain HBw6.out hbz)
    clear hbz
    go_wp2
    go_ret
    exact ⟨rfl, HBZ.out⟩
  rcases Nat.lt_or_ge k 2 with h | h
  · skip
    obtain rfl : k = 1 := by omega
    clear h HK6
    have r0 : (((1 : Nat) : Int) == 0) = false := rfl
    have r1 : (((1 : Nat) : Int) == 1) = true := rfl
    have b2_w4 := HY4.out.cells.2.2.1
    have v2_w4 := HY4.out.free 2
    have HY6 := Lib.hid (HY4.out.setSeq (-1))
    have HBw6 : Hid (Below w.heap.size w (w4.setCell ⟨q5, 2, none⟩ (.int .i64 (-1)))) := Lib.hid (HB4.out.trans (((Only.refl q5 w4).setCell (p := ⟨q5, 2, none⟩) rfl _).below HQL.out HB4.out.size))
    have HAw6 : Hid (TxAt (w4.setCell ⟨q5, 2, none⟩ (.int .i64 (-1))) q0 x (.slice Az x.mem.length capz)) := Lib.hid ((((Only.refl q5 w4).setCell (p := ⟨q5, 2, none⟩) rfl (.int .i64 (-1))).block q0 (lt_of_heap HA4.out) HQN.out).trans HA4.out)
    have HMw6 : Hid (Mems (w4.setCell ⟨q5, 2, none⟩ (.int .i64 (-1))) (.slice Az x.mem.length capz) x.mem) := Lib.hid (HMS.out _ HBw6.out)
    obtain ⟨w6, hw6⟩ : ∃ w', w4.setCell ⟨q5, 2, none⟩ (.int .i64 (-1)) = w' := ⟨_, rfl⟩
    rw [hw6] at HY6 HBw6 HAw6 HMw6
    have HF : Hid (Txn.fine { x with seq := -1 } = false) := Lib.hid (HS.out _ (Or.inr (Or.inl rfl)))
    have HCF := Lib.hid (HCK.out { x with seq := -1 } (.slice Az x.mem.length capz) w6 (HMw6.out))
    rw [HF.out, if_neg (by decide)] at HCF
    unfold xval at HCF
    obtain ⟨c0, c1, c2, c3, c4, c5, c6, c7⟩ := HY6.out.cells
    go_wp2_with fail
    refine HCF.out.mono ?_
    rintro r wz ⟨rfl, hbz⟩
    have HBZ := Lib.hid (bchain HBw6.out hbz)
    clear hbz
    go_wp2
    go_ret
    exact ⟨rfl, HBZ.out⟩
  rcases Nat.lt_or_ge k 3 with h | h
  · skip
    obtain rfl : k = 2 := by omega
    clear h HK6
    have r0 : (((2 : Nat) : Int) == 0) = false := rfl
    have r1 : (((2 : Nat) : Int) == 1) = false := rfl
    have r2 : (((2 : Nat) : Int) == 2) = true := rfl
    have b0_w4 := HY4.out.cells.1
    have v0_w4 := HY4.out.free 0
    have HY6 := Lib.hid (HY4.out.setKind 5)
    have HBw6 : Hid (Below w.heap.size w (w4.setCell ⟨q5, 0, none⟩ (.int .i64 5))) := Lib.hid (HB4.out.trans (((Only.refl q5 w4).setCell (p := ⟨q5, 0, none⟩) rfl _).below HQL.out HB4.out.size))
    have HAw6 : Hid (TxAt (w4.setCell ⟨q5, 0, none⟩ (.int .i64 5)) q0 x (.slice Az x.mem.length capz)) := Lib.hid ((((Only.refl q5 w4).setCell (p := ⟨q5, 0, none⟩) rfl (.int .i64 5)).block q0 (lt_of_heap HA4.out) HQN.out).trans HA4.out)
    have HMw6 : Hid (Mems (w4.setCell ⟨q5, 0, none⟩ (.int .i64 5)) (.slice Az x.mem.length capz) x.mem) := Lib.hid (HMS.out _ HBw6.out)
    obtain ⟨w6, hw6⟩ : ∃ w', w4.setCell ⟨q5, 0, none⟩ (.int .i64 5) = w' := ⟨_, rfl⟩
    rw [hw6] at HY6 HBw6 HAw6 HMw6
    have HF : Hid (Txn.fine { x with kind := 5 } = false) := Lib.hid (HS.out _ (Or.inr (Or.inr (Or.inl rfl))))
    have HCF := Lib.hid (HCK.out { x with kind := 5 } (.slice Az x.mem.length capz) w6 (HMw6.out))
    rw [HF.out, if_neg (by decide)] at HCF
    unfold xval at HCF
    obtain ⟨c0, c1, c2, c3, c4, c5, c6, c7⟩ := HY6.out.cells
    go_wp2_with fail
    refine HCF.out.mono ?_
    rintro r wz ⟨rfl, hbz⟩
    have HBZ := Lib.hid (bchain HBw6.out hbz)
    clear hbz
    go_wp2
    go_ret
    exact ⟨rfl, HBZ.out⟩
  rcases Nat.lt_or_ge k 4 with h | h
  · skip
    obtain rfl : k = 3 := by omega
    clear h HK6
    have r0 : (((3 : Nat) : Int) == 0) = false := rfl
    have r1 : (((3 : Nat) : Int) == 1) = false := rfl
    have r2 : (((3 : Nat) : Int) == 2) = false := rfl
    have r3 : (((3 : Nat) : Int) == 3) = true := rfl
    have b3_w4 := HY4.out.cells.2.2.2.1
    have v3_w4 := HY4.out.free 3
    have HY6 := Lib.hid (HY4.out.setDst [98])
    have HBw6 : Hid (Below w.heap.size w (w4.setCell ⟨q5, 3, none⟩ (.string ⟨#[98]⟩))) := Lib.hid (HB4.out.trans (((Only.refl q5 w4).setCell (p := ⟨q5, 3, none⟩) rfl _).below HQL.out HB4.out.size))
    have HAw6 : Hid (TxAt (w4.setCell ⟨q5, 3, none⟩ (.string ⟨#[98]⟩)) q0 x (.slice Az x.mem.length capz)) := Lib.hid ((((Only.refl q5 w4).setCell (p := ⟨q5, 3, none⟩) rfl (.string ⟨#[98]⟩)).block q0 (lt_of_heap HA4.out) HQN.out).trans HA4.out)
    have HMw6 : Hid (Mems (w4.setCell ⟨q5, 3, none⟩ (.string ⟨#[98]⟩)) (.slice Az x.mem.length capz) x.mem) := Lib.hid (HMS.out _ HBw6.out)
    obtain ⟨w6, hw6⟩ : ∃ w', w4.setCell ⟨q5, 3, none⟩ (.string ⟨#[98]⟩) = w' := ⟨_, rfl⟩
    rw [hw6] at HY6 HBw6 HAw6 HMw6
    have a0' := HAw6.out.cells.1
    by_cases hk : x.kind = 1
    · have s1 : (x.kind == 1) = true := beq_iff_eq.2 hk
      have HK := Lib.hid hk
      clear hk
      have b3_w6 := HY6.out.cells.2.2.2.1
      have v3_w6 := HY6.out.free 3
      have HY7 := Lib.hid (HY6.out.setDst [])
      have HBw7 : Hid (Below w.heap.size w (w6.setCell ⟨q5, 3, none⟩ (.string ⟨#[]⟩))) := Lib.hid (HBw6.out.trans (((Only.refl q5 w6).setCell (p := ⟨q5, 3, none⟩) rfl _).below HQL.out HBw6.out.size))
      have HAw7 : Hid (TxAt (w6.setCell ⟨q5, 3, none⟩ (.string ⟨#[]⟩)) q0 x (.slice Az x.mem.length capz)) := Lib.hid ((((Only.refl q5 w6).setCell (p := ⟨q5, 3, none⟩) rfl (.string ⟨#[]⟩)).block q0 (lt_of_heap HAw6.out) HQN.out).trans HAw6.out)
      have HMw7 : Hid (Mems (w6.setCell ⟨q5, 3, none⟩ (.string ⟨#[]⟩)) (.slice Az x.mem.length capz) x.mem) := Lib.hid (HMS.out _ HBw7.out)
      obtain ⟨w7, hw7⟩ : ∃ w', w6.setCell ⟨q5, 3, none⟩ (.string ⟨#[]⟩) = w' := ⟨_, rfl⟩
      rw [hw7] at HY7 HBw7 HAw7 HMw7
      have HF : Hid (Txn.fine { x with dst := [] } = false) := Lib.hid (HS.out _ (Or.inr (Or.inr (Or.inr (Or.inl (by rw [if_pos HK.out]))))))
      have HCF := Lib.hid (HCK.out { x with dst := [] } (.slice Az x.mem.length capz) w7 (HMw7.out))
      rw [HF.out, if_neg (by decide)] at HCF
      unfold xval at HCF
      obtain ⟨c0, c1, c2, c3, c4, c5, c6, c7⟩ := HY7.out.cells
      go_wp2_with fail
      refine HCF.out.mono ?_
      rintro r wz ⟨rfl, hbz⟩
      have HBZ := Lib.hid (bchain HBw7.out hbz)
      clear hbz
      go_wp2
      go_ret
      exact ⟨rfl, HBZ.out⟩
    · have s1 : (x.kind == 1) = false := beq_eq_false_iff_ne.2 hk
      have HK := Lib.hid hk
      clear hk
      have HF : Hid (Txn.fine { x with dst := [98] } = false) := Lib.hid (HS.out _ (Or.inr (Or.inr (Or.inr (Or.inl (by rw [if_neg HK.out]))))))
      have HCF := Lib.hid (HCK.out { x with dst := [98] } (.slice Az x.mem.length capz) w6 (HMw6.out))
      rw [HF.out, if_neg (by decide)] at HCF
      unfold xval at HCF
      obtain ⟨c0, c1, c2, c3, c4, c5, c6, c7⟩ := HY6.out.cells
      go_wp2_with fail
      refine HCF.out.mono ?_
      rintro r wz ⟨rfl, hbz⟩
      have HBZ := Lib.hid (bchain HBw6.out hbz)
      clear hbz
      go_wp2
      go_ret
      exact ⟨rfl, HBZ.out⟩
  rcases Nat.lt_or_ge k 5 with h | h
  · skip
    obtain rfl : k = 4 := by omega
    clear h HK6
    have r0 : (((4 : Nat) : Int) == 0) = false := rfl
    have r1 : (((4 : Nat) : Int) == 1) = false := rfl
    have r2 : (((4 : Nat) : Int) == 2) = false := rfl
    have r3 : (((4 : Nat) : Int) == 3) = false := rfl
    have r4 : (((4 : Nat) : Int) == 4) = true := rfl
    have b5_w4 := HY4.out.cells.2.2.2.2.2.1
    have v5_w4 := HY4.out.free 5
    have HY6 := Lib.hid (HY4.out.setKey [107])
    have HBw6 : Hid (Below w.heap.size w (w4.setCell ⟨q5, 5, none⟩ (.string ⟨#[107]⟩))) := Lib.hid (HB4.out.trans (((Only.refl q5 w4).setCell (p := ⟨q5, 5, none⟩) rfl _).below HQL.out HB4.out.size))
    have HAw6 : Hid (TxAt (w4.setCell ⟨q5, 5, none⟩ (.string ⟨#[107]⟩)) q0 x (.slice Az x.mem.length capz)) := Lib.hid ((((Only.refl q5 w4).setCell (p := ⟨q5, 5, none⟩) rfl (.string ⟨#[107]⟩)).block q0 (lt_of_heap HA4.out) HQN.out).trans HA4.out)
    have HMw6 : Hid (Mems (w4.setCell ⟨q5, 5, none⟩ (.string ⟨#[107]⟩)) (.slice Az x.mem.length capz) x.mem) := Lib.hid (HMS.out _ HBw6.out)
    obtain ⟨w6, hw6⟩ : ∃ w', w4.setCell ⟨q5, 5, none⟩ (.string ⟨#[107]⟩) = w' := ⟨_, rfl⟩
    rw [hw6] at HY6 HBw6 HAw6 HMw6
    have a0' := HAw6.out.cells.1
    by_cases hk : x.kind = 2 ∨ x.kind = 3
    · have HK := Lib.hid hk
      have b5_w6 := HY6.out.cells.2.2.2.2.2.1
      have v5_w6 := HY6.out.free 5
      have HY7 := Lib.hid (HY6.out.setKey [])
      have HBw7 : Hid (Below w.heap.size w (w6.setCell ⟨q5, 5, none⟩ (.string ⟨#[]⟩))) := Lib.hid (HBw6.out.trans (((Only.refl q5 w6).setCell (p := ⟨q5, 5, none⟩) rfl _).below HQL.out HBw6.out.size))
      have HAw7 : Hid (TxAt (w6.setCell ⟨q5, 5, none⟩ (.string ⟨#[]⟩)) q0 x (.slice Az x.mem.length capz)) := Lib.hid ((((Only.refl q5 w6).setCell (p := ⟨q5, 5, none⟩) rfl (.string ⟨#[]⟩)).block q0 (lt_of_heap HAw6.out) HQN.out).trans HAw6.out)
      have HMw7 : Hid (Mems (w6.setCell ⟨q5, 5, none⟩ (.string ⟨#[]⟩)) (.slice Az x.mem.length capz) x.mem) := Lib.hid (HMS.out _ HBw7.out)
      obtain ⟨w7, hw7⟩ : ∃ w', w6.setCell ⟨q5, 5, none⟩ (.string ⟨#[]⟩) = w' := ⟨_, rfl⟩
      rw [hw7] at HY7 HBw7 HAw7 HMw7
      rcases hk with hk | hk
      · have s1 : (x.kind == 2) = true := beq_iff_eq.2 hk
        clear hk
        have HF : Hid (Txn.fine { x with key := [] } = false) := Lib.hid (HS.out _ (Or.inr (Or.inr (Or.inr (Or.inr (Or.inl (by rw [if_pos HK.out])))))))
        have HCF := Lib.hid (HCK.out { x with key := [] } (.slice Az x.mem.length capz) w7 (HMw7.out))
        rw [HF.out, if_neg (by decide)] at HCF
        unfold xval at HCF
        obtain ⟨c0, c1, c2, c3, c4, c5, c6, c7⟩ := HY7.out.cells
        go_wp2_with fail
        refine HCF.out.mono ?_
        rintro r wz ⟨rfl, hbz⟩
        have HBZ := Lib.hid (bchain HBw7.out hbz)
        clear hbz
        go_wp2
        go_ret
        exact ⟨rfl, HBZ.out⟩
      · have s1 : (x.kind == 2) = false := beq_eq_false_iff_ne.2 (by omega)
        have s2 : (x.kind == 3) = true := beq_iff_eq.2 hk
        clear hk
        have HF : Hid (Txn.fine { x with key := [] } = false) := Lib.hid (HS.out _ (Or.inr (Or.inr (Or.inr (Or.inr (Or.inl (by rw [if_pos HK.out])))))))
        have HCF := Lib.hid (HCK.out { x with key := [] } (.slice Az x.mem.length capz) w7 (HMw7.out))
        rw [HF.out, if_neg (by decide)] at HCF
        unfold xval at HCF
        obtain ⟨c0, c1, c2, c3, c4, c5, c6, c7⟩ := HY7.out.cells
        go_wp2_with fail
        refine HCF.out.mono ?_
        rintro r wz ⟨rfl, hbz⟩
        have HBZ := Lib.hid (bchain HBw7.out hbz)
        clear hbz
        go_wp2
        go_ret
        exact ⟨rfl, HBZ.out⟩
    · have s1 : (x.kind == 2) = false := beq_eq_false_iff_ne.2 (fun h => hk (Or.inl h))
      have s2 : (x.kind == 3) = false := beq_eq_false_iff_ne.2 (fun h => hk (Or.inr h))
      have HK := Lib.hid hk
      clear hk
      have HF : Hid (Txn.fine { x with key := [107] } = false) := Lib.hid (HS.out _ (Or.inr (Or.inr (Or.inr (Or.inr (Or.inl (by rw [if_neg HK.out])))))))
      have HCF := Lib.hid (HCK.out { x with key := [107] } (.slice Az x.mem.length capz) w6 (HMw6.out))
      rw [HF.out, if_neg (by decide)] at HCF
      unfold xval at HCF
      obtain ⟨c0, c1, c2, c3, c4, c5, c6, c7⟩ := HY6.out.cells
      go_wp2_with fail
      refine HCF.out.mono ?_
      rintro r wz ⟨rfl, hbz⟩
      have HBZ := Lib.hid (bchain HBw6.out hbz)
      clear hbz
      go_wp2
      go_ret
      exact ⟨rfl, HBZ.out⟩
  obtain rfl : k = 5 := by have := HK6.out; omega
  clear h HK6
  have r0 : (((5 : Nat) : Int) == 0) = false := rfl
  have r1 : (((5 : Nat) : Int) == 1) = false := rfl
  have r2 : (((5 : Nat) : Int) == 2) = false := rfl
  have r3 : (((5 : Nat) : Int) == 3) = false := rfl
  have r4 : (((5 : Nat) : Int) == 4) = false := rfl
  have b7_w4 := HY4.out.cells.2.2.2.2.2.2.2
  have v7_w4 := HY4.out.free 7
  have HY6 := Lib.hid (HY4.out.setMem [] (.slice none 0 0))
  have HBw6 : Hid (Below w.heap.size w (w4.setCell ⟨q5, 7, none⟩ (.slice none 0 0))) := Lib.hid (HB4.out.trans (((Only.refl q5 w4).setCell (p := ⟨q5, 7, none⟩) rfl _).below HQL.out HB4.out.size))
  have HAw6 : Hid (TxAt (w4.setCell ⟨q5, 7, none⟩ (.slice none 0 0)) q0 x (.slice Az x.mem.length capz)) := Lib.hid ((((Only.refl q5 w4).setCell (p := ⟨q5, 7, none⟩) rfl (.slice none 0 0)).block q0 (lt_of_heap HA4.out) HQN.out).trans HA4.out)
  have HMw6 : Hid (Mems (w4.setCell ⟨q5, 7, none⟩ (.slice none 0 0)) (.slice Az x.mem.length capz) x.mem) := Lib.hid (HMS.out _ HBw6.out)
  obtain ⟨w6, hw6⟩ : ∃ w', w4.setCell ⟨q5, 7, none⟩ (.slice none 0 0) = w' := ⟨_, rfl⟩
  rw [hw6] at HY6 HBw6 HAw6 HMw6
  have a0' := HAw6.out.cells.1
  by_cases hk : x.kind = 4
  · have s1 : (x.kind == 4) = true := beq_iff_eq.2 hk
    have s2 : (x.kind != 4) = false := by rw [hk]; rfl
    have HK := Lib.hid hk
    clear hk
    have HF : Hid (Txn.fine { x with mem := [] } = false) := Lib.hid (HS.out _ (Or.inr (Or.inr (Or.inr (Or.inr (Or.inr (by rw [if_pos HK.out])))))))
    have HCF := Lib.hid (HCK.out { x with mem := [] } (.slice none 0 0) w6 (Mems.nil _))
    rw [HF.out, if_neg (by decide)] at HCF
    unfold xval at HCF
    obtain ⟨c0, c1, c2, c3, c4, c5, c6, c7⟩ := HY6.out.cells
    go_wp2_with fail
    refine HCF.out.mono ?_
    rintro r wz ⟨rfl, hbz⟩
    have HBZ := Lib.hid (bchain HBw6.out hbz)
    clear hbz
    go_wp2
    go_ret
    exact ⟨rfl, HBZ.out⟩
  · have s1 : (x.kind == 4) = false := beq_eq_false_iff_ne.2 hk
    have s2 : (x.kind != 4) = true := by rw [bne_iff_ne]; exact hk
    have HK := Lib.hid hk
    clear hk
    obtain ⟨w7, hw7⟩ : ∃ w7, w6.alloc (.cells #[.string ⟨#[97]⟩, .int .i64 1] 44) = w7 := ⟨_, rfl⟩
    have hown : w7.ownsRow w6.heap.size 44 2 (.slice (some ⟨w6.heap.size, 0, none⟩) 1 1) [(⟨[97], 1⟩ : M)].length (mrows [(⟨[97], 1⟩ : M)]) := by rw [← hw7]; exact ⟨rfl, Or.inr ⟨w6.heap.size, 1, _, rfl, Nat.le_refl _, heap_new_at _ _ _ rfl, Nat.le_refl _, by unfold maxLen; decide, rfl, rfl⟩⟩
    have hb7 : Below w6.heap.size w6 w7 := by rw [← hw7]; exact (Below.refl _ w6).alloc (Nat.le_refl _) _
    have HY7 := Lib.hid (HY6.out.below hb7)
    have HB7 := Lib.hid (bchain HBw6.out hb7)
    have b7' := HY7.out.cells.2.2.2.2.2.2.2
    have v7' := HY7.out.free 7
    have HY8 := Lib.hid (HY7.out.setMem [(⟨[97], 1⟩ : M)] (.slice (some ⟨w6.heap.size, 0, none⟩) 1 1))
    have HB8 : Hid (Below w.heap.size w (w7.setCell ⟨q5, 7, none⟩ (.slice (some ⟨w6.heap.size, 0, none⟩) 1 1))) := Lib.hid (HB7.out.trans (((Only.refl q5 w7).setCell (p := ⟨q5, 7, none⟩) rfl _).below HQL.out HB7.out.size))
    have HM8 : Hid (Mems (w7.setCell ⟨q5, 7, none⟩ (.slice (some ⟨w6.heap.size, 0, none⟩) 1 1)) (.slice (some ⟨w6.heap.size, 0, none⟩) 1 1) [(⟨[97], 1⟩ : M)]) := Lib.hid (OwnM.mems (OwnM.only hown ((Only.refl q5 w7).setCell (p := ⟨q5, 7, none⟩) rfl _) (typ_not HY7.out (by decide))))
    obtain ⟨w8, hw8⟩ : ∃ w', w7.setCell ⟨q5, 7, none⟩ (.slice (some ⟨w6.heap.size, 0, none⟩) 1 1) = w' := ⟨_, rfl⟩
    rw [hw8] at HY8 HB8 HM8
    clear hown hb7
    have HF : Hid (Txn.fine { x with mem := [(⟨[97], 1⟩ : M)] } = false) := Lib.hid (HS.out _ (Or.inr (Or.inr (Or.inr (Or.inr (Or.inr (by rw [if_neg HK.out])))))))
    have HCF := Lib.hid (HCK.out { x with mem := [(⟨[97], 1⟩ : M)] } (.slice (some ⟨w6.heap.size, 0, none⟩) 1 1) w8 (HM8.out))
    rw [HF.out, if_neg (by decide)] at HCF
    unfold xval at HCF
    obtain ⟨c0, c1, c2, c3, c4, c5, c6, c7⟩ := HY8.out.cells
    go_wp2_with fail
    refine HCF.out.mono ?_
    rintro r wz ⟨rfl, hbz⟩
    have HBZ := Lib.hid (bchain HB8.out hbz)
    clear hbz
    go_wp2
    go_ret
    exact ⟨rfl, HBZ.out⟩
theorem txOne_law (x : X) (z : Value) (which : Int) (w : World) (_ : OkX x) (hz : Mems w z x.mem) (_ : (Lit.int .i64 which).wf = true) (hT : Tab w) :
    Calls Tryd.prog 7 #[xval x z, .int .i64 which] w fun r w' => r = .returned (.bool true) ∧ Below w.heap.size w w' := txOne_walk x z which w hz hT
end Go.Proofs.YtddjkiejekfekaaDoor
