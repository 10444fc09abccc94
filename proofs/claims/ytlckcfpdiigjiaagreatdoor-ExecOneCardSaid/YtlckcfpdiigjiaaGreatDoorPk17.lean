/- TxCheck, ExecAct, ExecAct1 -/
import Derived.Test.YtlckcfpdiigjiaaGreatDoorPk07
import Derived.Test.YtlckcfpdiigjiaaGreatDoorPk02
import Derived.Test.YtlckcfpdiigjiaaGreatDoorPk16
import Derived.Test.YtlckcfpdiigjiaaGreatDoorPk04
import Derived.WalkMore
namespace Go.Proofs.YtlckcfpdiigjiaaGreatDoor
open Go.RowKit
open Go.Proofs.YtlckcfpdiigjiaaGreatDoor.Pw (M)
open Go.Proofs.YtlckcfpdiigjiaaGreatDoor.Txn (X)

theorem TxAt.free {w : World} {q : Nat} {x : X} {z : Value} (h : TxAt w q x z) (i : Nat) : w.frozen? ⟨q, i, none⟩ = false := frozen_of_row _ _ _ _ _ h
theorem TxAt.setDst {w : World} {q : Nat} {x : X} {z : Value} (h : TxAt w q x z) (t : List UInt8) : TxAt (w.setCell ⟨q, 3, none⟩ (.string ⟨t.toArray⟩)) q { x with dst := t } z := by
  have := heap_setCell_same _ _ 3 _ _ (.string ⟨t.toArray⟩) h
  simpa [TxAt] using this
theorem TxAt.setAmt {w : World} {q : Nat} {x : X} {z : Value} (h : TxAt w q x z) (n : Int) : TxAt (w.setCell ⟨q, 4, none⟩ (.int .i64 n)) q { x with amt := n } z := by
  have := heap_setCell_same _ _ 4 _ _ (.int .i64 n) h
  simpa [TxAt] using this
theorem TxAt.setKey {w : World} {q : Nat} {x : X} {z : Value} (h : TxAt w q x z) (t : List UInt8) : TxAt (w.setCell ⟨q, 5, none⟩ (.string ⟨t.toArray⟩)) q { x with key := t } z := by
  have := heap_setCell_same _ _ 5 _ _ (.string ⟨t.toArray⟩) h
  simpa [TxAt] using this
theorem TxAt.setVal {w : World} {q : Nat} {x : X} {z : Value} (h : TxAt w q x z) (t : List UInt8) : TxAt (w.setCell ⟨q, 6, none⟩ (.string ⟨t.toArray⟩)) q { x with val := t } z := by
  have := heap_setCell_same _ _ 6 _ _ (.string ⟨t.toArray⟩) h
  simpa [TxAt] using this
theorem TxAt.setMem {w : World} {q : Nat} {x : X} {z : Value} (h : TxAt w q x z) (l : List M) (u : Value) : TxAt (w.setCell ⟨q, 7, none⟩ u) q { x with mem := l } u := by
  have := heap_setCell_same _ _ 7 _ _ u h
  simpa [TxAt] using this
theorem TxAt.setSeq {w : World} {q : Nat} {x : X} {z : Value} (h : TxAt w q x z) (n : Int) : TxAt (w.setCell ⟨q, 2, none⟩ (.int .i64 n)) q { x with seq := n } z := by
  have := heap_setCell_same _ _ 2 _ _ (.int .i64 n) h
  simpa [TxAt] using this
def Txn.textB (n : Nat) (s : List UInt8) : Bool := decide (1 ≤ s.length) && decide (s.length ≤ n)
theorem xisText_any (s : List UInt8) (n : Nat) (w : World) : Calls Tryz.prog 61 #[.string ⟨s.toArray⟩, .int .i64 n] w fun r w' => r = .returned (.bool (Txn.textB n s)) ∧ w' = w := by
  have HN : Hid (Txn.textB n s = (!s.isEmpty && decide ((s.length : Int) ≤ (n : Int)))) := Lib.hid (by
    unfold Txn.textB
    rw [show decide (s.length ≤ n) = decide ((s.length : Int) ≤ (n : Int)) from decide_eq_decide.2 (by omega)]
    cases s <;> simp)
  obtain ⟨e1, he1⟩ : ∃ b, s.isEmpty = b := ⟨_, rfl⟩
  have f1 : (s == []) = e1 := by rw [← he1]; cases s <;> rfl
  have f2 : (s != []) = !e1 := by rw [← f1]; rfl
  obtain ⟨c2, h2⟩ : ∃ c, decide ((s.length : Int) ≤ (n : Int)) = c := ⟨_, rfl⟩
  have h3 : decide (s.length ≤ n) = c2 := by rw [← h2]; exact decide_eq_decide.2 (by omega)
  rw [he1, h2] at HN
  cases e1 <;> cases c2 <;>
  · go_enter Tryz.func61, Tryz.ntmps61
    go_wp2
    go_ret
    exact ⟨by rw [HN.out]; rfl, rfl⟩
def Txn.bareB (x : X) : Bool := x.dst.isEmpty && decide (x.amt = 0) && x.key.isEmpty && x.val.isEmpty && x.mem.isEmpty
theorem Txn.emp (s : List UInt8) (b : Bool) (h : s.isEmpty = b) : (s == []) = b := by rw [← h]; cases s <;> rfl
set_option maxRecDepth 100000 in
set_option maxHeartbeats 4000000 in
theorem xisBare_any (x : X) (z : Value) (w : World) (hz : Mems w z x.mem) :
    Calls Tryz.prog 82 #[xval x z] w fun r w' => r = .returned (.bool (Txn.bareB x)) ∧ Below w.heap.size w w' := by
  obtain ⟨w0, hw0, hb0, ra⟩ := tx_box x z w
  have HB := Lib.hid hb0
  obtain ⟨q0, hq0⟩ : ∃ q0, w.heap.size = q0 := ⟨_, rfl⟩
  rw [hq0] at ra
  obtain ⟨Az, capz, rfl⟩ := hz.form
  obtain ⟨a0, a1, a2, a3, a4, a5, a6, a7⟩ := ra.cells
  have HN : Hid (Txn.bareB x = (x.dst.isEmpty && decide (x.amt = 0) && x.key.isEmpty && x.val.isEmpty && x.mem.isEmpty)) := Lib.hid rfl
  obtain ⟨B, hB⟩ : ∃ B, Txn.bareB x = B := ⟨_, rfl⟩
  rw [hB] at HN ⊢
  unfold xval
  clear hb0 ra hz hB
  obtain ⟨k, f, s, d, m, y, v, M⟩ := x
  dsimp only at a0 a1 a2 a3 a4 a5 a6 a7 HN hw0 ⊢
  obtain ⟨e1, he1⟩ : ∃ b, d.isEmpty = b := ⟨_, rfl⟩
  obtain ⟨e2, he2⟩ : ∃ b, (m == 0) = b := ⟨_, rfl⟩
  obtain ⟨e3, he3⟩ : ∃ b, y.isEmpty = b := ⟨_, rfl⟩
  obtain ⟨e4, he4⟩ : ∃ b, v.isEmpty = b := ⟨_, rfl⟩
  obtain ⟨e5, he5⟩ : ∃ b, M.isEmpty = b := ⟨_, rfl⟩
  have f1 := Txn.emp _ _ he1
  have f3 := Txn.emp _ _ he3
  have f4 := Txn.emp _ _ he4
  have f5 : ((M.length : Int) == 0) = e5 := by rw [← he5]; cases M with | nil => rfl | cons a l => simp; omega
  have g2 : decide (m = 0) = e2 := by rw [← he2]; by_cases h : m = 0 <;> simp [h]
  rw [he1, g2, he3, he4, he5] at HN
  clear g2 he5
  go_enter Tryz.func82, Tryz.ntmps82
  go_upto_region 1 with fail
  try rw [hw0]
  try rw [hq0]
  clear hw0 hq0
  cases e1 with
  | false =>
    go_wp2
    go_ret
    exact ⟨by rw [HN.out]; rfl, HB.out⟩
  | true =>
  cases e2 with
  | false =>
    go_wp2
    go_ret
    exact ⟨by rw [HN.out]; rfl, HB.out⟩
  | true =>
  cases e3 with
  | false =>
    go_wp2
    go_ret
    exact ⟨by rw [HN.out]; rfl, HB.out⟩
  | true =>
  cases e4 with
  | false =>
    go_wp2
    go_ret
    exact ⟨by rw [HN.out]; rfl, HB.out⟩
  | true =>
  cases e5 with
  | false =>
    go_wp2
    go_ret
    exact ⟨by rw [HN.out]; rfl, HB.out⟩
  | true =>
  go_wp2
  go_ret
  exact ⟨by rw [HN.out]; rfl, HB.out⟩
set_option maxRecDepth 100000 in
set_option maxHeartbeats 4000000 in
theorem xfits1 (x : X) (z : Value) (w : World) (hz : Mems w z x.mem) (hk : x.kind = 1) :
    Calls Tryz.prog 62 #[xval x z] w fun r w' => r = .returned (.bool (Txn.kindB x)) ∧ Below w.heap.size w w' := by
  obtain ⟨w0, hw0, hb0, ra⟩ := tx_box x z w
  have HB := Lib.hid hb0
  obtain ⟨q0, hq0⟩ : ∃ q0, w.heap.size = q0 := ⟨_, rfl⟩
  rw [hq0] at ra
  have HA := Lib.hid ra
  have HQ := Lib.hid hq0
  have HZ := Lib.hid hz
  have HQL : Hid (q0 ≤ w0.heap.size) := Lib.hid (by rw [← hq0]; exact hb0.size)
  obtain ⟨Az, capz, rfl⟩ := hz.form
  obtain ⟨a0, a1, a2, a3, a4, a5, a6, a7⟩ := ra.cells
  have r1 : (x.kind == 1) = true := beq_iff_eq.2 hk
  have HK : Hid (Txn.kindB x = (Txn.textB 6 x.dst && decide (1 ≤ x.amt) && decide (x.amt ≤ 1099511627776) && Txn.bareB { x with dst := [], amt := 0 })) := Lib.hid (by
    rw [Txn.kind1 hk]
    unfold Txn.amtB Txn.bareB Txn.textB Txn.nameB
    simp only [List.isEmpty_nil, decide_true, Bool.true_and, Bool.and_assoc])
  have HTX := Lib.hid (fun w' => xisText_any x.dst 6 w')
  obtain ⟨B, hB⟩ : ∃ B, Txn.kindB x = B := ⟨_, rfl⟩
  rw [hB] at HK ⊢
  obtain ⟨c, hc⟩ : ∃ c, Txn.textB 6 x.dst = c := ⟨_, rfl⟩
  rw [hc] at HK HTX
  obtain ⟨b1, hb1⟩ : ∃ c, decide (1 ≤ x.amt) = c := ⟨_, rfl⟩
  obtain ⟨b2, hb2⟩ : ∃ c, decide (x.amt ≤ 1099511627776) = c := ⟨_, rfl⟩
  rw [hb1, hb2] at HK
  clear hc hB hk
  have f0' : w0.frozen? ⟨q0, 3, none⟩ = false := (HA.out).free 3
  have f1' : (w0.setCell ⟨q0, 3, none⟩ (.string ⟨#[]⟩)).frozen? ⟨q0, 4, none⟩ = false := ((HA.out).setDst []).free 4
  have HA7 := Lib.hid (((HA.out).setDst []).setAmt 0)
  have HO7 : Hid (Only q0 w0 ((w0.setCell ⟨q0, 3, none⟩ (.string ⟨#[]⟩)).setCell ⟨q0, 4, none⟩ (.int .i64 0))) := Lib.hid (((Only.refl q0 w0).setCell (p := ⟨q0, 3, none⟩) rfl (.string ⟨#[]⟩)).setCell (p := ⟨q0, 4, none⟩) rfl (.int .i64 0))
  obtain ⟨w7, hw7⟩ : ∃ w7, ((w0.setCell ⟨q0, 3, none⟩ (.string ⟨#[]⟩)).setCell ⟨q0, 4, none⟩ (.int .i64 0)) = w7 := ⟨_, rfl⟩
  rw [hw7] at HA7 HO7
  have HB7 : Hid (Below w.heap.size w w7) := Lib.hid (HB.out.trans (HO7.out.below (Nat.le_of_eq HQ.out) HB.out.size))
  obtain ⟨c0, c1, c2, c3, c4, c5, c6, c7⟩ := HA7.out.cells
  have HBR := Lib.hid (xisBare_any { x with dst := [], amt := 0 } _ w7 (HZ.out.below HB7.out))
  unfold xval at HBR
  obtain ⟨E, hE⟩ : ∃ E, Txn.bareB { x with dst := [], amt := 0 } = E := ⟨_, rfl⟩
  rw [hE] at HK HBR
  clear hE
  unfold xval
  clear hb0 ra hz
  go_enter Tryz.func62, Tryz.ntmps62
  go_upto_region 1 with fail
  try rw [hw0]
  try rw [hq0]
  clear hw0 hq0
  go_wp2_with fail
  refine (HTX.out _).mono ?_
  rintro r w1 ⟨rfl, hw1⟩
  obtain rfl := hw1.symm
  cases c with
  | false =>
    go_wp2
    go_ret
    exact ⟨by rw [HK.out]; rfl, HB7.out⟩
  | true =>
  cases b1 with
  | false =>
    go_wp2
    go_ret
    exact ⟨by rw [HK.out]; rfl, HB7.out⟩
  | true =>
  cases b2 with
  | false =>
    go_wp2
    go_ret
    exact ⟨by rw [HK.out]; rfl, HB7.out⟩
  | true =>
  go_wp2_with fail
  refine HBR.out.mono ?_
  rintro r w8 ⟨rfl, hb8⟩
  have HB8 := Lib.hid (bchain HB7.out hb8)
  clear hb8
  go_wp2
  go_ret
  exact ⟨by rw [HK.out]; rfl, HB8.out⟩
set_option maxRecDepth 100000 in
set_option maxHeartbeats 4000000 in
theorem xfits2 (x : X) (z : Value) (w : World) (hz : Mems w z x.mem) (hk : x.kind = 2) :
    Calls Tryz.prog 62 #[xval x z] w fun r w' => r = .returned (.bool (Txn.kindB x)) ∧ Below w.heap.size w w' := by
  obtain ⟨w0, hw0, hb0, ra⟩ := tx_box x z w
  have HB := Lib.hid hb0
  obtain ⟨q0, hq0⟩ : ∃ q0, w.heap.size = q0 := ⟨_, rfl⟩
  rw [hq0] at ra
  have HA := Lib.hid ra
  have HQ := Lib.hid hq0
  have HZ := Lib.hid hz
  have HQL : Hid (q0 ≤ w0.heap.size) := Lib.hid (by rw [← hq0]; exact hb0.size)
  obtain ⟨Az, capz, rfl⟩ := hz.form
  obtain ⟨a0, a1, a2, a3, a4, a5, a6, a7⟩ := ra.cells
  have r1 : (x.kind == 1) = false := beq_eq_false_iff_ne.2 (by omega)
  have r2 : (x.kind == 2) = true := beq_iff_eq.2 hk
  have HK : Hid (Txn.kindB x = (Txn.textB 32 x.val && Txn.textB 6 x.key && Txn.bareB { x with val := [], key := [] })) := Lib.hid (by
    rw [Txn.kind2 hk]
    unfold Txn.bareB Txn.textB Txn.keyB Txn.valB
    simp only [List.isEmpty_nil, Bool.true_and, Bool.and_assoc, Bool.and_comm, Bool.and_left_comm])
  have HTV := Lib.hid (fun w' => xisText_any x.val 32 w')
  have HTK := Lib.hid (fun w' => xisText_any x.key 6 w')
  obtain ⟨B, hB⟩ : ∃ B, Txn.kindB x = B := ⟨_, rfl⟩
  rw [hB] at HK ⊢
  obtain ⟨c, hc⟩ : ∃ c, Txn.textB 32 x.val = c := ⟨_, rfl⟩
  rw [hc] at HK HTV
  obtain ⟨b1, hb1⟩ : ∃ c, Txn.textB 6 x.key = c := ⟨_, rfl⟩
  rw [hb1] at HK HTK
  clear hc hb1 hB hk
  have f1' : w0.frozen? ⟨q0, 6, none⟩ = false := HA.out.free 6
  have HA6 := Lib.hid (HA.out.setVal [])
  have HO6 : Hid (Only q0 w0 (w0.setCell ⟨q0, 6, none⟩ (.string ⟨#[]⟩))) := Lib.hid ((Only.refl q0 w0).setCell (p := ⟨q0, 6, none⟩) rfl _)
  obtain ⟨w6, hw6⟩ : ∃ w6, w0.setCell ⟨q0, 6, none⟩ (.string ⟨#[]⟩) = w6 := ⟨_, rfl⟩
  rw [hw6] at HA6 HO6
  have f2' : w6.frozen? ⟨q0, 5, none⟩ = false := HA6.out.free 5
  have HA7 := Lib.hid (HA6.out.setKey [])
  have HO7 : Hid (Only q0 w0 (w6.setCell ⟨q0, 5, none⟩ (.string ⟨#[]⟩))) := Lib.hid (HO6.out.setCell (p := ⟨q0, 5, none⟩) rfl _)
  obtain ⟨w7, hw7⟩ : ∃ w7, w6.setCell ⟨q0, 5, none⟩ (.string ⟨#[]⟩) = w7 := ⟨_, rfl⟩
  rw [hw7] at HA7 HO7
  have HB7 : Hid (Below w.heap.size w w7) := Lib.hid (HB.out.trans (HO7.out.below (Nat.le_of_eq HQ.out) HB.out.size))
  obtain ⟨d0, d1, d2, d3, d4, d5, d6, d7⟩ := HA6.out.cells
  obtain ⟨c0, c1, c2, c3, c4, c5, c6, c7⟩ := HA7.out.cells
  have HBR := Lib.hid (xisBare_any { x with val := [], key := [] } _ w7 (HZ.out.below HB7.out))
  unfold xval at HBR
  obtain ⟨E, hE⟩ : ∃ E, Txn.bareB { x with val := [], key := [] } = E := ⟨_, rfl⟩
  rw [hE] at HK HBR
  clear hE
  unfold xval
  clear hb0 ra hz
  go_enter Tryz.func62, Tryz.ntmps62
  go_upto_region 1 with fail
  try rw [hw0]
  try rw [hq0]
  clear hw0 hq0
  go_wp2_with fail
  refine (HTV.out _).mono ?_
  rintro r w1 ⟨rfl, hw1⟩
  obtain rfl := hw1.symm
  cases c with
  | false =>
    go_wp2
    go_ret
    exact ⟨by rw [HK.out]; rfl, HB.out⟩
  | true =>
  go_wp2_with fail
  refine (HTK.out _).mono ?_
  rintro r w1 ⟨rfl, hw1⟩
  obtain rfl := hw1.symm
  cases b1 with
  | false =>
    go_wp2
    go_ret
    exact ⟨by rw [HK.out]; rfl, HB7.out⟩
  | true =>
  go_wp2_with fail
  refine HBR.out.mono ?_
  rintro r w8 ⟨rfl, hb8⟩
  have HB8 := Lib.hid (bchain HB7.out hb8)
  clear hb8
  go_wp2
  go_ret
  exact ⟨by rw [HK.out]; rfl, HB8.out⟩
set_option maxRecDepth 100000 in
set_option maxHeartbeats 4000000 in
theorem xfits3 (x : X) (z : Value) (w : World) (hz : Mems w z x.mem) (hk : x.kind = 3) :
    Calls Tryz.prog 62 #[xval x z] w fun r w' => r = .returned (.bool (Txn.kindB x)) ∧ Below w.heap.size w w' := by
  obtain ⟨w0, hw0, hb0, ra⟩ := tx_box x z w
  have HB := Lib.hid hb0
  obtain ⟨q0, hq0⟩ : ∃ q0, w.heap.size = q0 := ⟨_, rfl⟩
  rw [hq0] at ra
  have HA := Lib.hid ra
  have HQ := Lib.hid hq0
  have HZ := Lib.hid hz
  have HQL : Hid (q0 ≤ w0.heap.size) := Lib.hid (by rw [← hq0]; exact hb0.size)
  obtain ⟨Az, capz, rfl⟩ := hz.form
  obtain ⟨a0, a1, a2, a3, a4, a5, a6, a7⟩ := ra.cells
  have r1 : (x.kind == 1) = false := beq_eq_false_iff_ne.2 (by omega)
  have r2 : (x.kind == 2) = false := beq_eq_false_iff_ne.2 (by omega)
  have r3 : (x.kind == 3) = true := beq_iff_eq.2 hk
  have HK : Hid (Txn.kindB x = (Txn.textB 6 x.key && Txn.bareB { x with key := [] })) := Lib.hid (by
    rw [Txn.kind3 hk]
    unfold Txn.bareB Txn.textB Txn.keyB
    simp only [List.isEmpty_nil, Bool.true_and, Bool.and_assoc, Bool.and_comm, Bool.and_left_comm])
  have HTK := Lib.hid (fun w' => xisText_any x.key 6 w')
  obtain ⟨B, hB⟩ : ∃ B, Txn.kindB x = B := ⟨_, rfl⟩
  rw [hB] at HK ⊢
  obtain ⟨b1, hb1⟩ : ∃ c, Txn.textB 6 x.key = c := ⟨_, rfl⟩
  rw [hb1] at HK HTK
  clear hb1 hB hk
  have f1' : w0.frozen? ⟨q0, 5, none⟩ = false := HA.out.free 5
  have HA7 := Lib.hid (HA.out.setKey [])
  have HO7 : Hid (Only q0 w0 (w0.setCell ⟨q0, 5, none⟩ (.string ⟨#[]⟩))) := Lib.hid ((Only.refl q0 w0).setCell (p := ⟨q0, 5, none⟩) rfl _)
  obtain ⟨w7, hw7⟩ : ∃ w7, w0.setCell ⟨q0, 5, none⟩ (.string ⟨#[]⟩) = w7 := ⟨_, rfl⟩
  rw [hw7] at HA7 HO7
  have HB7 : Hid (Below w.heap.size w w7) := Lib.hid (HB.out.trans (HO7.out.below (Nat.le_of_eq HQ.out) HB.out.size))
  obtain ⟨c0, c1, c2, c3, c4, c5, c6, c7⟩ := HA7.out.cells
  have HBR := Lib.hid (xisBare_any { x with key := [] } _ w7 (HZ.out.below HB7.out))
  unfold xval at HBR
  obtain ⟨E, hE⟩ : ∃ E, Txn.bareB { x with key := [] } = E := ⟨_, rfl⟩
  rw [hE] at HK HBR
  clear hE
  unfold xval
  clear hb0 ra hz
  go_enter Tryz.func62, Tryz.ntmps62
  go_upto_region 1 with fail
  try rw [hw0]
  try rw [hq0]
  clear hw0 hq0
  go_wp2_with fail
  refine (HTK.out _).mono ?_
  rintro r w1 ⟨rfl, hw1⟩
  obtain rfl := hw1.symm
  cases b1 with
  | false =>
    go_wp2
    go_ret
    exact ⟨by rw [HK.out]; rfl, HB7.out⟩
  | true =>
  go_wp2_with fail
  refine HBR.out.mono ?_
  rintro r w8 ⟨rfl, hb8⟩
  have HB8 := Lib.hid (bchain HB7.out hb8)
  clear hb8
  go_wp2
  go_ret
  exact ⟨by rw [HK.out]; rfl, HB8.out⟩
set_option maxRecDepth 100000 in
set_option maxHeartbeats 4000000 in
theorem xfits4 (x : X) (z : Value) (w : World) (hz : Mems w z x.mem) (hk : x.kind = 4) :
    Calls Tryz.prog 62 #[xval x z] w fun r w' => r = .returned (.bool (Txn.kindB x)) ∧ Below w.heap.size w w' := by
  obtain ⟨w0, hw0, hb0, ra⟩ := tx_box x z w
  have HB := Lib.hid hb0
  obtain ⟨q0, hq0⟩ : ∃ q0, w.heap.size = q0 := ⟨_, rfl⟩
  rw [hq0] at ra
  have HA := Lib.hid ra
  have HQ := Lib.hid hq0
  have HZ := Lib.hid hz
  have HQL : Hid (q0 ≤ w0.heap.size) := Lib.hid (by rw [← hq0]; exact hb0.size)
  obtain ⟨Az, capz, rfl⟩ := hz.form
  obtain ⟨a0, a1, a2, a3, a4, a5, a6, a7⟩ := ra.cells
  have r1 : (x.kind == 1) = false := beq_eq_false_iff_ne.2 (by omega)
  have r2 : (x.kind == 2) = false := beq_eq_false_iff_ne.2 (by omega)
  have r3 : (x.kind == 3) = false := beq_eq_false_iff_ne.2 (by omega)
  have r4 : (x.kind == 4) = true := beq_iff_eq.2 hk
  have HK : Hid (Txn.kindB x = (Pw.okL x.mem && Txn.bareB { x with mem := [] })) := Lib.hid (by
    rw [Txn.kind4 hk]
    unfold Txn.bareB
    simp only [List.isEmpty_nil, Bool.true_and, Bool.and_assoc, Bool.and_comm, Bool.and_left_comm])
  have HCK := Lib.hid (check_any x.mem _ w0 (hz.below hb0))
  obtain ⟨B, hB⟩ : ∃ B, Txn.kindB x = B := ⟨_, rfl⟩
  rw [hB] at HK ⊢
  obtain ⟨b1, hb1⟩ : ∃ c, Pw.okL x.mem = c := ⟨_, rfl⟩
  have HC1 : Hid ((Pw.checkC x.mem == 0) = b1) := Lib.hid (by rw [← hb1]; unfold Pw.checkC; cases Pw.okL x.mem <;> rfl)
  obtain ⟨C, hC⟩ : ∃ C, Pw.checkC x.mem = C := ⟨_, rfl⟩
  rw [hC] at HCK HC1
  rw [hb1] at HK
  have hc1 := HC1.out
  clear hb1 hB hk hC
  unfold xval
  clear hb0 ra hz
  go_enter Tryz.func62, Tryz.ntmps62
  go_upto_region 1 with fail
  try rw [hw0]
  try rw [hq0]
  clear hw0 hq0
  go_wp2_with fail
  refine HCK.out.mono ?_
  rintro r w1 ⟨rfl, hb1⟩
  have HA1 := Lib.hid (HA.out.below hb1)
  have HB1 := Lib.hid (bchain HB.out hb1)
  clear hb1 a0 a1 a2 a3 a4 a5 a6 a7
  obtain ⟨a0, a1, a2, a3, a4, a5, a6, a7⟩ := HA1.out.cells
  have f1' : w1.frozen? ⟨q0, 7, none⟩ = false := HA1.out.free 7
  have HA7 := Lib.hid (HA1.out.setMem [] (.slice none 0 0))
  have HO7 : Hid (Only q0 w1 (w1.setCell ⟨q0, 7, none⟩ (.slice none 0 0))) := Lib.hid ((Only.refl q0 w1).setCell (p := ⟨q0, 7, none⟩) rfl _)
  obtain ⟨w7, hw7⟩ : ∃ w7, w1.setCell ⟨q0, 7, none⟩ (.slice none 0 0) = w7 := ⟨_, rfl⟩
  rw [hw7] at HA7 HO7
  have HB7 : Hid (Below w.heap.size w w7) := Lib.hid (HB1.out.trans (HO7.out.below (Nat.le_of_eq HQ.out) HB1.out.size))
  obtain ⟨c0, c1, c2, c3, c4, c5, c6, c7⟩ := HA7.out.cells
  have HBR := Lib.hid (xisBare_any { x with mem := [] } _ w7 (Mems.nil _))
  unfold xval at HBR
  obtain ⟨E, hE⟩ : ∃ E, Txn.bareB { x with mem := [] } = E := ⟨_, rfl⟩
  rw [hE] at HK HBR
  clear hE
  cases b1 with
  | false =>
    go_wp2
    go_ret
    exact ⟨by rw [HK.out]; rfl, HB7.out⟩
  | true =>
  go_wp2_with fail
  refine HBR.out.mono ?_
  rintro r w8 ⟨rfl, hb8⟩
  have HB8 := Lib.hid (bchain HB7.out hb8)
  clear hb8
  go_wp2
  go_ret
  exact ⟨by rw [HK.out]; rfl, HB8.out⟩
set_option maxRecDepth 100000 in
set_option maxHeartbeats 4000000 in
theorem xfits0 (x : X) (z : Value) (w : World) (hz : Mems w z x.mem) (h1 : x.kind ≠ 1) (h2 : x.kind ≠ 2) (h3 : x.kind ≠ 3) (h4 : x.kind ≠ 4) :
    Calls Tryz.prog 62 #[xval x z] w fun r w' => r = .returned (.bool (Txn.kindB x)) ∧ Below w.heap.size w w' := by
  obtain ⟨w0, hw0, hb0, ra⟩ := tx_box x z w
  have HB := Lib.hid hb0
  obtain ⟨q0, hq0⟩ : ∃ q0, w.heap.size = q0 := ⟨_, rfl⟩
  rw [hq0] at ra
  have HA := Lib.hid ra
  have HQ := Lib.hid hq0
  have HZ := Lib.hid hz
  have HQL : Hid (q0 ≤ w0.heap.size) := Lib.hid (by rw [← hq0]; exact hb0.size)
  obtain ⟨Az, capz, rfl⟩ := hz.form
  obtain ⟨a0, a1, a2, a3, a4, a5, a6, a7⟩ := ra.cells
  have r1 : (x.kind == 1) = false := beq_eq_false_iff_ne.2 h1
  have r2 : (x.kind == 2) = false := beq_eq_false_iff_ne.2 h2
  have r3 : (x.kind == 3) = false := beq_eq_false_iff_ne.2 h3
  have r4 : (x.kind == 4) = false := beq_eq_false_iff_ne.2 h4
  have HK : Hid (Txn.kindB x = false) := Lib.hid (Txn.kind0 h1 h2 h3 h4)
  obtain ⟨B, hB⟩ : ∃ B, Txn.kindB x = B := ⟨_, rfl⟩
  rw [hB] at HK ⊢
  clear hB h1 h2 h3 h4
  unfold xval
  clear hb0 ra hz
  go_enter Tryz.func62, Tryz.ntmps62
  go_upto_region 1 with fail
  try rw [hw0]
  try rw [hq0]
  clear hw0 hq0
  go_wp2
  go_ret
  exact ⟨by rw [HK.out]; rfl, HB.out⟩
theorem xfits_any (x : X) (z : Value) (w : World) (hz : Mems w z x.mem) :
    Calls Tryz.prog 62 #[xval x z] w fun r w' => r = .returned (.bool (Txn.kindB x)) ∧ Below w.heap.size w w' := by
  by_cases h1 : x.kind = 1
  · exact xfits1 x z w hz h1
  by_cases h2 : x.kind = 2
  · exact xfits2 x z w hz h2
  by_cases h3 : x.kind = 3
  · exact xfits3 x z w hz h3
  by_cases h4 : x.kind = 4
  · exact xfits4 x z w hz h4
  exact xfits0 x z w hz h1 h2 h3 h4
set_option maxRecDepth 100000 in
set_option maxHeartbeats 4000000 in
theorem xcheck_any (x : X) (z : Value) (w : World) (hz : Mems w z x.mem) :
    Calls Tryz.prog 30 #[xval x z] w fun r w' => r = .returned (.int .i64 (if Txn.fine x = true then 0 else 150)) ∧ Below w.heap.size w w' := by
  obtain ⟨w0, hw0, hb0, ra⟩ := tx_box x z w
  have HB := Lib.hid hb0
  obtain ⟨q0, hq0⟩ : ∃ q0, w.heap.size = q0 := ⟨_, rfl⟩
  rw [hq0] at ra
  have HFT := Lib.hid (xfits_any x z w0 (hz.below hb0))
  obtain ⟨Az, capz, rfl⟩ := hz.form
  obtain ⟨a0, a1, a2, a3, a4, a5, a6, a7⟩ := ra.cells
  have HK : Hid (Txn.fine x = (Txn.textB 6 x.frm && !decide (x.seq < 0) && !decide (1099511627776 < x.seq) && Txn.kindB x)) := Lib.hid (by
    unfold Txn.fine Txn.textB Txn.nameB
    rw [show (!decide (x.seq < 0)) = decide (0 ≤ x.seq) by rw [← decide_not]; exact decide_eq_decide.2 (by omega), show (!decide (1099511627776 < x.seq)) = decide (x.seq ≤ 1099511627776) by rw [← decide_not]; exact decide_eq_decide.2 (by omega)])
  have HTX := Lib.hid (fun w' => xisText_any x.frm 6 w')
  have HK : Hid ((if Txn.fine x = true then (0 : Int) else 150) = if (Txn.textB 6 x.frm && !decide (x.seq < 0) && !decide (1099511627776 < x.seq) && Txn.kindB x) = true then 0 else 150) := Lib.hid (by rw [HK.out])
  obtain ⟨B, hB⟩ : ∃ B, (if Txn.fine x = true then (0 : Int) else 150) = B := ⟨_, rfl⟩
  rw [hB] at HK ⊢
  obtain ⟨c, hc⟩ : ∃ c, Txn.textB 6 x.frm = c := ⟨_, rfl⟩
  rw [hc] at HK HTX
  obtain ⟨b1, hb1⟩ : ∃ c, decide (x.seq < 0) = c := ⟨_, rfl⟩
  obtain ⟨b2, hb2⟩ : ∃ c, decide (1099511627776 < x.seq) = c := ⟨_, rfl⟩
  obtain ⟨b3, hb3⟩ : ∃ c, Txn.kindB x = c := ⟨_, rfl⟩
  rw [hb1, hb2, hb3] at HK
  rw [hb3] at HFT
  unfold xval at HFT ⊢
  clear hc hB hb0 ra hz hb3
  go_enter Tryz.func30, Tryz.ntmps30
  go_upto_region 1 with fail
  try rw [hw0]
  try rw [hq0]
  clear hw0 hq0
  go_wp2_with fail
  refine (HTX.out _).mono ?_
  rintro r w1 ⟨rfl, hw1⟩
  obtain rfl := hw1.symm
  cases c with
  | false =>
    go_wp2
    go_ret
    exact ⟨by rw [HK.out]; rfl, HB.out⟩
  | true =>
  cases b1 with
  | true =>
    go_wp2
    go_ret
    exact ⟨by rw [HK.out]; rfl, HB.out⟩
  | false =>
  cases b2 with
  | true =>
    go_wp2
    go_ret
    exact ⟨by rw [HK.out]; rfl, HB.out⟩
  | false =>
  go_wp2_with fail
  refine HFT.out.mono ?_
  rintro r w2 ⟨rfl, hb2⟩
  have HB2 := Lib.hid (bchain HB.out hb2)
  clear hb2
  cases b3 with
  | false =>
    go_wp2
    go_ret
    exact ⟨by rw [HK.out]; rfl, HB2.out⟩
  | true =>
  go_wp2
  go_ret
  exact ⟨by rw [HK.out]; rfl, HB2.out⟩
end Go.Proofs.YtlckcfpdiigjiaaGreatDoor
namespace Go.Proofs.YtlckcfpdiigjiaaGreatDoor
open Go.RowKit
open Sto (T St)
open Go.Proofs.YtlckcfpdiigjiaaGreatDoor.Pw (M)
open Go.Proofs.YtlckcfpdiigjiaaGreatDoor.Txn (X)
open Go.Proofs.YtlckcfpdiigjiaaGreatDoor.Exc (A)
theorem act_box (x : X) (z : Value) (f t : A) (w : World) : ∃ w0, ((w.alloc (.cells #[.int .i64 x.kind, .string ⟨x.frm.toArray⟩, .int .i64 x.seq, .string ⟨x.dst.toArray⟩, .int .i64 x.amt, .string ⟨x.key.toArray⟩, .string ⟨x.val.toArray⟩, z] 46)).alloc (.cells #[.string ⟨f.name.toArray⟩, .int .i64 f.amt, .int .i64 f.seq] 55)).alloc (.cells #[.string ⟨t.name.toArray⟩, .int .i64 t.amt, .int .i64 t.seq] 55) = w0 ∧ Below w.heap.size w w0 ∧ TxAt w0 w.heap.size x z ∧ AccAt w0 (w.heap.size + 1) f ∧ AccAt w0 (w.heap.size + 1 + 1) t := by
  obtain ⟨w1, hw1, hb1, h1⟩ := tx_box x z w
  obtain ⟨w2, hw2, hb2, h2⟩ := acc_box f w1
  obtain ⟨w3, hw3, hb3, h3⟩ := acc_box t w2
  have e1 : w1.heap.size = w.heap.size + 1 := by rw [← hw1, World.size_alloc]
  have e2 : w2.heap.size = w.heap.size + 1 + 1 := by rw [← hw2, World.size_alloc, e1]
  rw [e1] at h2
  rw [e2] at h3
  exact ⟨w3, by rw [hw1, hw2, hw3], bchain (bchain hb1 hb2) hb3, (h1.below hb2).below hb3, h2.below hb3, h3⟩
theorem Exc.last_no {n : T} {q a c : Int} {R : St} (h : c ≠ 0) : Exc.lastP n q (R, c, a) = ([], c) := by unfold Exc.lastP; rw [if_pos h]
theorem Exc.last_yes {n : T} {q : Int} {R : St} {a : Int} : Exc.lastP n q (R, 0, a) = if Tri.putC R (Exc.aK n) (Exc.valS a (q + 1)) ≠ 0 then (([] : St), ((Tri.putC R (Exc.aK n) (Exc.valS a (q + 1)) : Nat) : Int)) else (Tri.put R (Exc.aK n) (Exc.valS a (q + 1)), (0 : Int)) := by unfold Exc.lastP; rw [if_neg (by simp)]
theorem eLast_bad {n : T} {q c a : Int} {R : St} {k : St × Int × Int} {w w' : World} (hk : k = (R, c, a)) (hc : c ≠ 0) (hb : Below w.heap.size w w') : TEnd (Exc.lastP n q k).2 (Exc.lastP n q k).1 w (.returned (.tuple #[.pointer none, .int .i64 c])) w' := by
  subst hk
  rw [Exc.last_no hc]
  exact TEnd.bad hc hb
theorem eLast_ok {n : T} {q a : Int} {R : St} {k : St × Int × Int} {w w' : World} {e : Ending} (hk : k = (R, 0, a)) (h : TEnd (Tri.putC R (Exc.aK n) (Exc.valS a (q + 1)) : Nat) (Tri.put R (Exc.aK n) (Exc.valS a (q + 1))) w e w') : TEnd (Exc.lastP n q k).2 (Exc.lastP n q k).1 w e w' := by
  subst hk
  rw [Exc.last_yes]
  by_cases hc : Tri.putC R (Exc.aK n) (Exc.valS a (q + 1)) = 0
  · rw [if_neg (by rw [hc]; decide)]
    rw [hc] at h
    exact h
  · rw [if_pos hc]
    obtain ⟨z, rfl, h1, h2, h3⟩ := h
    exact ⟨z, rfl, fun e => absurd e (by show ((Tri.putC R (Exc.aK n) (Exc.valS a (q + 1)) : Nat) : Int) ≠ 0; omega), h2, h3⟩
theorem tri_form {c : Int} {R : St} {w' : World} {z : Value} (h1 : c = 0 → ∃ g, z = ptr g ∧ TrAt w' g R) (h2 : c ≠ 0 → z = nilp) : ∃ p, z = .pointer p := by
  by_cases hc : c = 0
  · obtain ⟨g, rfl, _⟩ := h1 hc
    exact ⟨_, rfl⟩
  · exact ⟨_, h2 hc⟩
theorem wrap_i {n : Int} (h1 : -9223372036854775808 ≤ n) (h2 : n ≤ 9223372036854775807) : IntKind.i64.wrap n = n ∧ wrap64 n = n := by
  constructor
  · unfold IntKind.wrap
    simp [IntKind.signed, IntKind.bits]
    omega
  · unfold wrap64
    omega
set_option maxRecDepth 100000 in
set_option maxHeartbeats 8000000 in
theorem eact_2 {g : Nat} (S : St) (x : X) (z : Value) (f t : A) (w : World) (ht : TrAt w g S) (hT : Tab w) (hz : Mems w z x.mem) (hf : Txn.fine x = true) (hk : x.kind = 2) (hfn : f.name = x.frm) (hfa : Exc.wi f.amt = true) (hfs : Exc.wi f.seq = true) (hq : f.seq ≠ Exc.most) :
    Calls Tryz.prog 37 #[ptr g, xval x z, accval f, accval t] w (TEnd (Exc.lastP x.frm f.seq (Exc.kindP S x f t)).2 (Exc.lastP x.frm f.seq (Exc.kindP S x f t)).1 w) := by
  obtain ⟨fn, fa, fs⟩ := f
  obtain ⟨tn, ta, ts⟩ := t
  dsimp only at hfn hfa hfs hq
  subst hfn
  obtain ⟨w0, hw0, hb0, rx, rf, rt⟩ := act_box x z ⟨x.frm, fa, fs⟩ ⟨tn, ta, ts⟩ w
  have HB0 := Lib.hid hb0
  have HV0 := Lib.hid (ht.below hb0)
  have HTW := Lib.hid hT
  have HMM : Hid (∀ w', Below w.heap.size w w' → Mems w' z x.mem) := Lib.hid (fun w' h => hz.below h)
  obtain ⟨q0, hq0⟩ : ∃ q0, w.heap.size = q0 := ⟨_, rfl⟩
  rw [hq0] at rx rf rt
  have HQ0 := Lib.hid hq0
  have HX0 := Lib.hid rx
  have HF0 := Lib.hid rf
  have HG0 := Lib.hid rt
  have HK := Lib.hid hk
  have HKO := Lib.hid (Txn.kind_of (Txn.fine_of hf).2.2.2.2)
  have hn0 : Txn.nameB x.frm = true := by obtain ⟨g1, g2, -⟩ := Txn.fine_of hf; simp [Txn.nameB, g1, g2]
  have HN0 := Lib.hid hn0
  have HWA := Lib.hid hfa
  have HSW := Lib.hid (wrap_i (n := fs + 1) (by have h := Exc.wi_of hfs; omega) (by have h := Exc.wi_of hfs; omega))
  have HSQ := Lib.hid (show Exc.wi (fs + 1) = true from by have h := Exc.wi_of hfs; have h9 : Exc.most = 1099511627776 := rfl; unfold Exc.wi; rw [decide_eq_true (by omega), decide_eq_true (by omega)]; rfl)
  have HLQ : Hid (w.heap.size ≤ q0 + 1) := Lib.hid (by omega)
  obtain ⟨Az, capz, rfl⟩ := hz.form
  obtain ⟨a0, a1, a2, a3, a4, a5, a6, a7⟩ := rx.cells
  unfold xval accval ptr
  clear hb0 rx rf rt ht hT hz hf hk hfa hfs hq hq0 hn0
  go_enter Tryz.func37, Tryz.ntmps37
  go_upto_region 1 with fail
  try dsimp only at hw0
  try rw [hw0]
  try rw [HQ0.out]
  clear hw0
  have r1 : (x.kind == 1) = false := beq_eq_false_iff_ne.2 (by have := HK.out; omega)
  go_wp2_with fail
  go_step3
  go_wp2_with fail
  go_step3
  have r2 : (x.kind == 2) = true := beq_iff_eq.2 HK.out
  have x0 := HX0.out.cells.1
  have e1 := cat_mk [100, 58] x.key
  rw [show [100, 58] ++ x.key = Exc.dK x.key from rfl] at e1
  have hg : ¬ (9223372036854775807 < 2 + x.key.length) := by have := HK.out; rcases HKO.out with ⟨h, _⟩ | ⟨h, q⟩ | ⟨h, _⟩ | ⟨h, _⟩ <;> omega
  have HPK := Lib.hid ((tput_any (Exc.dK x.key) x.val w0 HV0.out (HTW.out.below HB0.out)).mono fun e w' h => TEnd.ofPut h)
  have HKP : Hid (Exc.kindP S x (⟨x.frm, fa, fs⟩ : A) (⟨tn, ta, ts⟩ : A) = (Tri.put S (Exc.dK x.key) x.val, ((Tri.putC S (Exc.dK x.key) x.val : Nat) : Int), fa)) := Lib.hid (by unfold Exc.kindP; rw [if_neg (by have := HK.out; omega), if_pos HK.out])
  obtain ⟨c, hc⟩ : ∃ c, ((Tri.putC S (Exc.dK x.key) x.val : Nat) : Int) = c := ⟨_, rfl⟩
  obtain ⟨R, hR⟩ : ∃ R, Tri.put S (Exc.dK x.key) x.val = R := ⟨_, rfl⟩
  obtain ⟨K, hK⟩ : ∃ K, Exc.dK x.key = K := ⟨_, rfl⟩
  rw [hc, hR] at HPK HKP
  rw [hK] at HPK e1
  unfold ptr at HPK
  clear hc hR hK
  go_wp2_with fail
  refine HPK.out.mono ?_
  rintro r w5 ⟨zr, rfl, hz1, hz2, hb⟩
  have HB5 := Lib.hid (bchain HB0.out hb)
  have HF5 := Lib.hid (HF0.out.below hb)
  obtain ⟨pr, rfl⟩ := tri_form hz1 hz2
  have HZ1 := Lib.hid hz1
  clear hz1 hz2 hb
  by_cases hc0 : c = 0
  case neg =>
    have s4 : (c != 0) = true := by rw [bne_iff_ne]; exact hc0
    have HE := Lib.hid (fun w' (h : Below w.heap.size w w') => eLast_bad (n := x.frm) (q := fs) HKP.out hc0 h)
    clear hc0
    go_wp2
    try rw [Exit.noGoto_ret]
    go_ret2
    exact HE.out _ HB5.out
  subst hc0
  obtain ⟨g5, hg5, hr5⟩ := HZ1.out rfl
  unfold ptr at hg5
  have HR5 := Lib.hid hr5
  rw [hg5]
  clear hr5 hg5 HZ1
  try clear e1 hg
  try clear x0
  have f2 := HF5.out.cells.2.2
  have ff := HF5.out.free 2
  try dsimp only at f2
  obtain ⟨sw1, sw2⟩ := HSW.out
  have ho := (Only.refl (q0 + 1) w5).setCell (p := ⟨q0 + 1, 2, none⟩) rfl (.int .i64 (fs + 1))
  have HFz := Lib.hid (HF5.out.setSeq (fs + 1))
  have HRz := Lib.hid (HR5.out.acc ho HF5.out)
  have HBz := Lib.hid (HB5.out.trans (ho.below HLQ.out HB5.out.size))
  go_upto_region 23 with fail
  obtain ⟨wz, hwz⟩ : ∃ wz, w5.setCell ⟨q0 + 1, 2, none⟩ (.int .i64 (fs + 1)) = wz := ⟨_, rfl⟩
  rw [hwz] at HFz HRz HBz
  try dsimp only at HFz
  try rw [hwz]
  clear ho hwz f2 ff sw1 sw2
  obtain ⟨f0, f1, f2⟩ := HFz.out.cells
  try dsimp only at f0 f1 f2
  have HPZ := Lib.hid (eput_any (g := g5) (S := R) ⟨x.frm, fa, fs + 1⟩ wz HRz.out (HTW.out.below HBz.out) HWA.out HSQ.out (by have := HN0.out; simp only [Txn.nameB, Bool.and_eq_true, decide_eq_true_eq] at this; dsimp only; omega))
  unfold accval ptr at HPZ
  try dsimp only at HPZ
  go_wp2_with fail
  refine HPZ.out.mono ?_
  rintro r wl hl
  have HZ := Lib.hid (eLast_ok HKP.out (hl.from HBz.out))
  obtain ⟨zl, rfl, -, -, -⟩ := hl
  clear HPZ
  go_wp2
  try rw [Exit.noGoto_ret]
  go_ret2
  exact HZ.out
set_option maxRecDepth 100000 in
set_option maxHeartbeats 8000000 in
theorem eact_3 {g : Nat} (S : St) (x : X) (z : Value) (f t : A) (w : World) (ht : TrAt w g S) (hT : Tab w) (hz : Mems w z x.mem) (hf : Txn.fine x = true) (hk : x.kind = 3) (hfn : f.name = x.frm) (hfa : Exc.wi f.amt = true) (hfs : Exc.wi f.seq = true) (hq : f.seq ≠ Exc.most) :
    Calls Tryz.prog 37 #[ptr g, xval x z, accval f, accval t] w (TEnd (Exc.lastP x.frm f.seq (Exc.kindP S x f t)).2 (Exc.lastP x.frm f.seq (Exc.kindP S x f t)).1 w) := by
  obtain ⟨fn, fa, fs⟩ := f
  obtain ⟨tn, ta, ts⟩ := t
  dsimp only at hfn hfa hfs hq
  subst hfn
  obtain ⟨w0, hw0, hb0, rx, rf, rt⟩ := act_box x z ⟨x.frm, fa, fs⟩ ⟨tn, ta, ts⟩ w
  have HB0 := Lib.hid hb0
  have HV0 := Lib.hid (ht.below hb0)
  have HTW := Lib.hid hT
  have HMM : Hid (∀ w', Below w.heap.size w w' → Mems w' z x.mem) := Lib.hid (fun w' h => hz.below h)
  obtain ⟨q0, hq0⟩ : ∃ q0, w.heap.size = q0 := ⟨_, rfl⟩
  rw [hq0] at rx rf rt
  have HQ0 := Lib.hid hq0
  have HX0 := Lib.hid rx
  have HF0 := Lib.hid rf
  have HG0 := Lib.hid rt
  have HK := Lib.hid hk
  have HKO := Lib.hid (Txn.kind_of (Txn.fine_of hf).2.2.2.2)
  have hn0 : Txn.nameB x.frm = true := by obtain ⟨g1, g2, -⟩ := Txn.fine_of hf; simp [Txn.nameB, g1, g2]
  have HN0 := Lib.hid hn0
  have HWA := Lib.hid hfa
  have HSW := Lib.hid (wrap_i (n := fs + 1) (by have h := Exc.wi_of hfs; omega) (by have h := Exc.wi_of hfs; omega))
  have HSQ := Lib.hid (show Exc.wi (fs + 1) = true from by have h := Exc.wi_of hfs; have h9 : Exc.most = 1099511627776 := rfl; unfold Exc.wi; rw [decide_eq_true (by omega), decide_eq_true (by omega)]; rfl)
  have HLQ : Hid (w.heap.size ≤ q0 + 1) := Lib.hid (by omega)
  obtain ⟨Az, capz, rfl⟩ := hz.form
  obtain ⟨a0, a1, a2, a3, a4, a5, a6, a7⟩ := rx.cells
  unfold xval accval ptr
  clear hb0 rx rf rt ht hT hz hf hk hfa hfs hq hq0 hn0
  go_enter Tryz.func37, Tryz.ntmps37
  go_upto_region 1 with fail
  try dsimp only at hw0
  try rw [hw0]
  try rw [HQ0.out]
  clear hw0
  have r1 : (x.kind == 1) = false := beq_eq_false_iff_ne.2 (by have := HK.out; omega)
  go_wp2_with fail
  go_step3
  go_wp2_with fail
  go_step3
  have r2 : (x.kind == 2) = false := beq_eq_false_iff_ne.2 (by have := HK.out; omega)
  have r3 : (x.kind == 3) = true := beq_iff_eq.2 HK.out
  have x0 := HX0.out.cells.1
  have e1 := cat_mk [100, 58] x.key
  rw [show [100, 58] ++ x.key = Exc.dK x.key from rfl] at e1
  have hg : ¬ (9223372036854775807 < 2 + x.key.length) := by have := HK.out; rcases HKO.out with ⟨h, _⟩ | ⟨h, q⟩ | ⟨h, q⟩ | ⟨h, _⟩ <;> omega
  have HPK := Lib.hid ((tdel_any (Exc.dK x.key) w0 HV0.out (HTW.out.below HB0.out)).mono fun e w' h => TEnd.ofDel h)
  have HKP : Hid (Exc.kindP S x (⟨x.frm, fa, fs⟩ : A) (⟨tn, ta, ts⟩ : A) = (Tri.del S (Exc.dK x.key), (((Tri.getC S (Exc.dK x.key)).2 : Nat) : Int), fa)) := Lib.hid (by unfold Exc.kindP; rw [if_neg (by have := HK.out; omega), if_neg (by have := HK.out; omega), if_pos HK.out])
  obtain ⟨c, hc⟩ : ∃ c, (((Tri.getC S (Exc.dK x.key)).2 : Nat) : Int) = c := ⟨_, rfl⟩
  obtain ⟨R, hR⟩ : ∃ R, Tri.del S (Exc.dK x.key) = R := ⟨_, rfl⟩
  obtain ⟨K, hK⟩ : ∃ K, Exc.dK x.key = K := ⟨_, rfl⟩
  rw [hc, hR] at HPK HKP
  rw [hK] at HPK e1
  unfold ptr at HPK
  clear hc hR hK
  go_wp2_with fail
  refine HPK.out.mono ?_
  rintro r w5 ⟨zr, rfl, hz1, hz2, hb⟩
  have HB5 := Lib.hid (bchain HB0.out hb)
  have HF5 := Lib.hid (HF0.out.below hb)
  obtain ⟨pr, rfl⟩ := tri_form hz1 hz2
  have HZ1 := Lib.hid hz1
  clear hz1 hz2 hb
  by_cases hc0 : c = 0
  case neg =>
    have s4 : (c != 0) = true := by rw [bne_iff_ne]; exact hc0
    have HE := Lib.hid (fun w' (h : Below w.heap.size w w') => eLast_bad (n := x.frm) (q := fs) HKP.out hc0 h)
    clear hc0
    go_wp2
    try rw [Exit.noGoto_ret]
    go_ret2
    exact HE.out _ HB5.out
  subst hc0
  obtain ⟨g5, hg5, hr5⟩ := HZ1.out rfl
  unfold ptr at hg5
  have HR5 := Lib.hid hr5
  rw [hg5]
  clear hr5 hg5 HZ1
  try clear e1 hg
  try clear x0
  have f2 := HF5.out.cells.2.2
  have ff := HF5.out.free 2
  try dsimp only at f2
  obtain ⟨sw1, sw2⟩ := HSW.out
  have ho := (Only.refl (q0 + 1) w5).setCell (p := ⟨q0 + 1, 2, none⟩) rfl (.int .i64 (fs + 1))
  have HFz := Lib.hid (HF5.out.setSeq (fs + 1))
  have HRz := Lib.hid (HR5.out.acc ho HF5.out)
  have HBz := Lib.hid (HB5.out.trans (ho.below HLQ.out HB5.out.size))
  go_upto_region 23 with fail
  obtain ⟨wz, hwz⟩ : ∃ wz, w5.setCell ⟨q0 + 1, 2, none⟩ (.int .i64 (fs + 1)) = wz := ⟨_, rfl⟩
  rw [hwz] at HFz HRz HBz
  try dsimp only at HFz
  try rw [hwz]
  clear ho hwz f2 ff sw1 sw2
  obtain ⟨f0, f1, f2⟩ := HFz.out.cells
  try dsimp only at f0 f1 f2
  have HPZ := Lib.hid (eput_any (g := g5) (S := R) ⟨x.frm, fa, fs + 1⟩ wz HRz.out (HTW.out.below HBz.out) HWA.out HSQ.out (by have := HN0.out; simp only [Txn.nameB, Bool.and_eq_true, decide_eq_true_eq] at this; dsimp only; omega))
  unfold accval ptr at HPZ
  try dsimp only at HPZ
  go_wp2_with fail
  refine HPZ.out.mono ?_
  rintro r wl hl
  have HZ := Lib.hid (eLast_ok HKP.out (hl.from HBz.out))
  obtain ⟨zl, rfl, -, -, -⟩ := hl
  clear HPZ
  go_wp2
  try rw [Exit.noGoto_ret]
  go_ret2
  exact HZ.out
set_option maxRecDepth 100000 in
set_option maxHeartbeats 8000000 in
theorem eact_4 {g : Nat} (S : St) (x : X) (z : Value) (f t : A) (w : World) (ht : TrAt w g S) (hT : Tab w) (hz : Mems w z x.mem) (hf : Txn.fine x = true) (hk : x.kind = 4) (hfn : f.name = x.frm) (hfa : Exc.wi f.amt = true) (hfs : Exc.wi f.seq = true) (hq : f.seq ≠ Exc.most) :
    Calls Tryz.prog 37 #[ptr g, xval x z, accval f, accval t] w (TEnd (Exc.lastP x.frm f.seq (Exc.kindP S x f t)).2 (Exc.lastP x.frm f.seq (Exc.kindP S x f t)).1 w) := by
  obtain ⟨fn, fa, fs⟩ := f
  obtain ⟨tn, ta, ts⟩ := t
  dsimp only at hfn hfa hfs hq
  subst hfn
  obtain ⟨w0, hw0, hb0, rx, rf, rt⟩ := act_box x z ⟨x.frm, fa, fs⟩ ⟨tn, ta, ts⟩ w
  have HB0 := Lib.hid hb0
  have HV0 := Lib.hid (ht.below hb0)
  have HTW := Lib.hid hT
  have HMM : Hid (∀ w', Below w.heap.size w w' → Mems w' z x.mem) := Lib.hid (fun w' h => hz.below h)
  obtain ⟨q0, hq0⟩ : ∃ q0, w.heap.size = q0 := ⟨_, rfl⟩
  rw [hq0] at rx rf rt
  have HQ0 := Lib.hid hq0
  have HX0 := Lib.hid rx
  have HF0 := Lib.hid rf
  have HG0 := Lib.hid rt
  have HK := Lib.hid hk
  have HKO := Lib.hid (Txn.kind_of (Txn.fine_of hf).2.2.2.2)
  have hn0 : Txn.nameB x.frm = true := by obtain ⟨g1, g2, -⟩ := Txn.fine_of hf; simp [Txn.nameB, g1, g2]
  have HN0 := Lib.hid hn0
  have HWA := Lib.hid hfa
  have HSW := Lib.hid (wrap_i (n := fs + 1) (by have h := Exc.wi_of hfs; omega) (by have h := Exc.wi_of hfs; omega))
  have HSQ := Lib.hid (show Exc.wi (fs + 1) = true from by have h := Exc.wi_of hfs; have h9 : Exc.most = 1099511627776 := rfl; unfold Exc.wi; rw [decide_eq_true (by omega), decide_eq_true (by omega)]; rfl)
  have HLQ : Hid (w.heap.size ≤ q0 + 1) := Lib.hid (by omega)
  obtain ⟨Az, capz, rfl⟩ := hz.form
  obtain ⟨a0, a1, a2, a3, a4, a5, a6, a7⟩ := rx.cells
  unfold xval accval ptr
  clear hb0 rx rf rt ht hT hz hf hk hfa hfs hq hq0 hn0
  go_enter Tryz.func37, Tryz.ntmps37
  go_upto_region 1 with fail
  try dsimp only at hw0
  try rw [hw0]
  try rw [HQ0.out]
  clear hw0
  have r1 : (x.kind == 1) = false := beq_eq_false_iff_ne.2 (by have := HK.out; omega)
  go_wp2_with fail
  go_step3
  go_wp2_with fail
  go_step3
  have r2 : (x.kind == 2) = false := beq_eq_false_iff_ne.2 (by have := HK.out; omega)
  have r3 : (x.kind == 3) = false := beq_eq_false_iff_ne.2 (by have := HK.out; omega)
  have r4 : (x.kind == 4) = true := beq_iff_eq.2 HK.out
  have x0 := HX0.out.cells.1
  by_cases ho : x.frm = Exc.root
  case neg =>
    have s5 : (!x.frm == [114, 111, 111, 116]) = true := by rw [Bool.not_eq_true', beq_eq_false_iff_ne]; exact ho
    have HE := Lib.hid (fun w' (h : Below w.heap.size w w') => eLast_bad (n := x.frm) (q := fs) (show Exc.kindP S x (⟨x.frm, fa, fs⟩ : A) (⟨tn, ta, ts⟩ : A) = ([], 162, 0) by unfold Exc.kindP; rw [if_neg (by have := HK.out; omega), if_neg (by have := HK.out; omega), if_neg (by have := HK.out; omega), if_pos ho]) (by decide) h)
    clear ho
    go_wp2
    try rw [Exit.noGoto_ret]
    go_ret2
    exact HE.out _ HB0.out
  have s5 : (!x.frm == [114, 111, 111, 116]) = false := by rw [Bool.not_eq_false', beq_iff_eq]; exact ho
  have HKP : Hid (Exc.kindP S x (⟨x.frm, fa, fs⟩ : A) (⟨tn, ta, ts⟩ : A) = (Tri.put S Exc.sK (Pw.digL x.mem), ((Tri.putC S Exc.sK (Pw.digL x.mem) : Nat) : Int), fa)) := Lib.hid (by unfold Exc.kindP; rw [if_neg (by have := HK.out; omega), if_neg (by have := HK.out; omega), if_neg (by have := HK.out; omega), if_neg (fun h => h ho)])
  have HDG := Lib.hid (digest_any x.mem (.slice Az x.mem.length capz) w0 (HMM.out _ HB0.out) (HTW.out.below HB0.out))
  have HPK : Hid (∀ w', Below w0.heap.size w0 w' → Calls Tryz.prog 28 #[ptr g, .string ⟨Exc.sK.toArray⟩, .string ⟨(Pw.digL x.mem).toArray⟩] w' (TEnd (Tri.putC S Exc.sK (Pw.digL x.mem) : Nat) (Tri.put S Exc.sK (Pw.digL x.mem)) w')) := Lib.hid (fun w' h => (tput_any Exc.sK (Pw.digL x.mem) w' (HV0.out.below h) (HTW.out.below (bchain HB0.out h))).mono fun e w'' h => TEnd.ofPut h)
  obtain ⟨c, hc⟩ : ∃ c, ((Tri.putC S Exc.sK (Pw.digL x.mem) : Nat) : Int) = c := ⟨_, rfl⟩
  obtain ⟨R, hR⟩ : ∃ R, Tri.put S Exc.sK (Pw.digL x.mem) = R := ⟨_, rfl⟩
  obtain ⟨D, hD⟩ : ∃ D, Pw.digL x.mem = D := ⟨_, rfl⟩
  rw [hc, hR] at HPK HKP
  rw [hD] at HPK HDG
  unfold ptr Exc.sK at HPK
  clear hc hR hD ho
  go_wp2_with fail
  refine HDG.out.mono ?_
  rintro r w4 ⟨rfl, hb4⟩
  have HP4 := Lib.hid (HPK.out _ hb4)
  have HB4 := Lib.hid (bchain HB0.out hb4)
  have HF4 := Lib.hid (HF0.out.below hb4)
  clear hb4 HDG HPK
  go_wp2_with fail
  refine HP4.out.mono ?_
  rintro r w5 ⟨zr, rfl, hz1, hz2, hb⟩
  have HB5 := Lib.hid (bchain HB4.out hb)
  have HF5 := Lib.hid (HF4.out.below hb)
  obtain ⟨pr, rfl⟩ := tri_form hz1 hz2
  have HZ1 := Lib.hid hz1
  clear hz1 hz2 hb
  by_cases hc0 : c = 0
  case neg =>
    have s4 : (c != 0) = true := by rw [bne_iff_ne]; exact hc0
    have HE := Lib.hid (fun w' (h : Below w.heap.size w w') => eLast_bad (n := x.frm) (q := fs) HKP.out hc0 h)
    clear hc0
    go_wp2
    try rw [Exit.noGoto_ret]
    go_ret2
    exact HE.out _ HB5.out
  subst hc0
  obtain ⟨g5, hg5, hr5⟩ := HZ1.out rfl
  unfold ptr at hg5
  have HR5 := Lib.hid hr5
  rw [hg5]
  clear hr5 hg5 HZ1
  try clear x0
  have f2 := HF5.out.cells.2.2
  have ff := HF5.out.free 2
  try dsimp only at f2
  obtain ⟨sw1, sw2⟩ := HSW.out
  have ho := (Only.refl (q0 + 1) w5).setCell (p := ⟨q0 + 1, 2, none⟩) rfl (.int .i64 (fs + 1))
  have HFz := Lib.hid (HF5.out.setSeq (fs + 1))
  have HRz := Lib.hid (HR5.out.acc ho HF5.out)
  have HBz := Lib.hid (HB5.out.trans (ho.below HLQ.out HB5.out.size))
  go_upto_region 23 with fail
  obtain ⟨wz, hwz⟩ : ∃ wz, w5.setCell ⟨q0 + 1, 2, none⟩ (.int .i64 (fs + 1)) = wz := ⟨_, rfl⟩
  rw [hwz] at HFz HRz HBz
  try dsimp only at HFz
  try rw [hwz]
  clear ho hwz f2 ff sw1 sw2
  obtain ⟨f0, f1, f2⟩ := HFz.out.cells
  try dsimp only at f0 f1 f2
  have HPZ := Lib.hid (eput_any (g := g5) (S := R) ⟨x.frm, fa, fs + 1⟩ wz HRz.out (HTW.out.below HBz.out) HWA.out HSQ.out (by have := HN0.out; simp only [Txn.nameB, Bool.and_eq_true, decide_eq_true_eq] at this; dsimp only; omega))
  unfold accval ptr at HPZ
  try dsimp only at HPZ
  go_wp2_with fail
  refine HPZ.out.mono ?_
  rintro r wl hl
  have HZ := Lib.hid (eLast_ok HKP.out (hl.from HBz.out))
  obtain ⟨zl, rfl, -, -, -⟩ := hl
  clear HPZ
  go_wp2
  try rw [Exit.noGoto_ret]
  go_ret2
  exact HZ.out
end Go.Proofs.YtlckcfpdiigjiaaGreatDoor
namespace Go.Proofs.YtlckcfpdiigjiaaGreatDoor
open Go.RowKit
open Sto (T St)
open Go.Proofs.YtlckcfpdiigjiaaGreatDoor.Pw (M)
open Go.Proofs.YtlckcfpdiigjiaaGreatDoor.Txn (X)
open Go.Proofs.YtlckcfpdiigjiaaGreatDoor.Exc (A)
set_option maxRecDepth 100000 in
set_option maxHeartbeats 8000000 in
theorem eact_1 {g : Nat} (S : St) (x : X) (z : Value) (f t : A) (w : World) (ht : TrAt w g S) (hT : Tab w) (hz : Mems w z x.mem) (hf : Txn.fine x = true) (hk : x.kind = 1) (hfn : f.name = x.frm) (hfa : Exc.wi f.amt = true) (hfs : Exc.wi f.seq = true) (hq : f.seq ≠ Exc.most) (htn : t.name = x.dst) (hta : Exc.wi t.amt = true) (hts : Exc.wi t.seq = true) (htd : Txn.nameB x.dst = true) :
    Calls Tryz.prog 37 #[ptr g, xval x z, accval f, accval t] w (TEnd (Exc.lastP x.frm f.seq (Exc.kindP S x f t)).2 (Exc.lastP x.frm f.seq (Exc.kindP S x f t)).1 w) := by
  obtain ⟨fn, fa, fs⟩ := f
  obtain ⟨tn, ta, ts⟩ := t
  dsimp only at hfn hfa hfs hq htn hta hts
  subst hfn
  obtain ⟨w0, hw0, hb0, rx, rf, rt⟩ := act_box x z ⟨x.frm, fa, fs⟩ ⟨tn, ta, ts⟩ w
  have HB0 := Lib.hid hb0
  have HV0 := Lib.hid (ht.below hb0)
  have HTW := Lib.hid hT
  have HMM : Hid (∀ w', Below w.heap.size w w' → Mems w' z x.mem) := Lib.hid (fun w' h => hz.below h)
  obtain ⟨q0, hq0⟩ : ∃ q0, w.heap.size = q0 := ⟨_, rfl⟩
  rw [hq0] at rx rf rt
  have HQ0 := Lib.hid hq0
  have HX0 := Lib.hid rx
  have HF0 := Lib.hid rf
  have HG0 := Lib.hid rt
  have HK := Lib.hid hk
  have HKO := Lib.hid (Txn.kind_of (Txn.fine_of hf).2.2.2.2)
  have hn0 : Txn.nameB x.frm = true := by obtain ⟨g1, g2, -⟩ := Txn.fine_of hf; simp [Txn.nameB, g1, g2]
  have HN0 := Lib.hid hn0
  have HWA := Lib.hid hfa
  have HSW := Lib.hid (wrap_i (n := fs + 1) (by have h := Exc.wi_of hfs; omega) (by have h := Exc.wi_of hfs; omega))
  have HSQ := Lib.hid (show Exc.wi (fs + 1) = true from by have h := Exc.wi_of hfs; have h9 : Exc.most = 1099511627776 := rfl; unfold Exc.wi; rw [decide_eq_true (by omega), decide_eq_true (by omega)]; rfl)
  subst htn
  have HWTA := Lib.hid hta
  have HWTS := Lib.hid hts
  have HNB := Lib.hid htd
  have HLQ : Hid (w.heap.size ≤ q0 + 1) := Lib.hid (by omega)
  obtain ⟨Az, capz, rfl⟩ := hz.form
  obtain ⟨a0, a1, a2, a3, a4, a5, a6, a7⟩ := rx.cells
  unfold xval accval ptr
  clear hb0 rx rf rt ht hT hz hf hk hfa hfs hq hq0 hn0 hta hts htd
  go_enter Tryz.func37, Tryz.ntmps37
  go_upto_region 1 with fail
  try dsimp only at hw0
  try rw [hw0]
  try rw [HQ0.out]
  clear hw0
  have r1 : (x.kind == 1) = true := beq_iff_eq.2 HK.out
  go_wp2_with fail
  go_step3
  go_wp2_with fail
  go_step3
  have HAM : Hid (1 ≤ x.amt ∧ x.amt ≤ 1099511627776) := Lib.hid (by have := HK.out; rcases HKO.out with ⟨h, _, _, q, q2, _⟩ | ⟨h, _⟩ | ⟨h, _⟩ | ⟨h, _⟩; exact ⟨q, q2⟩; all_goals omega)
  have HK1 : Hid (fa < x.amt → Exc.kindP S x (⟨x.frm, fa, fs⟩ : A) (⟨x.dst, ta, ts⟩ : A) = ([], 161, 0)) := Lib.hid (fun h => by unfold Exc.kindP; rw [if_pos HK.out, if_pos h])
  have HK2 : Hid (¬ fa < x.amt → x.dst = x.frm → Exc.kindP S x (⟨x.frm, fa, fs⟩ : A) (⟨x.dst, ta, ts⟩ : A) = (S, 0, fa)) := Lib.hid (fun h h2 => by unfold Exc.kindP; rw [if_pos HK.out, if_neg h, if_pos h2])
  have HK3 : Hid (¬ fa < x.amt → ¬ x.dst = x.frm → 1099511627776 < ta + x.amt → Exc.kindP S x (⟨x.frm, fa, fs⟩ : A) (⟨x.dst, ta, ts⟩ : A) = ([], 1, 0)) := Lib.hid (fun h h2 h3 => by unfold Exc.kindP; rw [if_pos HK.out, if_neg h, if_neg h2, if_pos (show Exc.most < ta + x.amt from h3)])
  have HK4 : Hid (¬ fa < x.amt → ¬ x.dst = x.frm → ¬ 1099511627776 < ta + x.amt → Exc.kindP S x (⟨x.frm, fa, fs⟩ : A) (⟨x.dst, ta, ts⟩ : A) = (Tri.put S (Exc.aK x.dst) (Exc.valS (ta + x.amt) ts), ((Tri.putC S (Exc.aK x.dst) (Exc.valS (ta + x.amt) ts) : Nat) : Int), fa - x.amt)) := Lib.hid (fun h h2 h3 => by unfold Exc.kindP; rw [if_pos HK.out, if_neg h, if_neg h2, if_neg (show ¬ Exc.most < ta + x.amt from h3)])
  have f1 := HF0.out.cells.2.1
  have t1 := HG0.out.cells.2.1
  try dsimp only at f1 t1
  by_cases h1 : fa < x.amt
  case pos =>
    have s4 : decide (fa < x.amt) = true := decide_eq_true h1
    have HE := Lib.hid (fun w' (h : Below w.heap.size w w') => eLast_bad (n := x.frm) (q := fs) (HK1.out h1) (by decide) h)
    go_wp2
    try rw [Exit.noGoto_ret]
    go_ret2
    exact HE.out _ HB0.out
  have s4 : decide (fa < x.amt) = false := decide_eq_false h1
  have HH1 := Lib.hid h1
  by_cases h2 : x.dst = x.frm
  case pos =>
    have s5 : (x.dst == x.frm) = true := beq_iff_eq.2 h2
    have HKP := Lib.hid (HK2.out h1 h2)
    have HR0 := HV0
    clear h1 h2
    clear f1 t1
    have f1 := HF0.out.cells.2.1
    try dsimp only at f1
    have f2 := HF0.out.cells.2.2
    have ff := HF0.out.free 2
    try dsimp only at f2
    obtain ⟨sw1, sw2⟩ := HSW.out
    have ho := (Only.refl (q0 + 1) w0).setCell (p := ⟨q0 + 1, 2, none⟩) rfl (.int .i64 (fs + 1))
    have HFz := Lib.hid (HF0.out.setSeq (fs + 1))
    have HRz := Lib.hid (HR0.out.acc ho HF0.out)
    have HBz := Lib.hid (HB0.out.trans (ho.below HLQ.out HB0.out.size))
    go_upto_region 23 with fail
    obtain ⟨wz, hwz⟩ : ∃ wz, w0.setCell ⟨q0 + 1, 2, none⟩ (.int .i64 (fs + 1)) = wz := ⟨_, rfl⟩
    rw [hwz] at HFz HRz HBz
    try dsimp only at HFz
    try rw [hwz]
    clear ho hwz f2 ff sw1 sw2
    obtain ⟨f0, f1, f2⟩ := HFz.out.cells
    try dsimp only at f0 f1 f2
    have HPZ := Lib.hid (eput_any (g := g) (S := S) ⟨x.frm, fa, fs + 1⟩ wz HRz.out (HTW.out.below HBz.out) HWA.out HSQ.out (by have := HN0.out; simp only [Txn.nameB, Bool.and_eq_true, decide_eq_true_eq] at this; dsimp only; omega))
    unfold accval ptr at HPZ
    try dsimp only at HPZ
    go_wp2_with fail
    refine HPZ.out.mono ?_
    rintro r wl hl
    have HZ := Lib.hid (eLast_ok HKP.out (hl.from HBz.out))
    obtain ⟨zl, rfl, -, -, -⟩ := hl
    clear HPZ
    go_wp2
    try rw [Exit.noGoto_ret]
    go_ret2
    exact HZ.out
  have s5 : (x.dst == x.frm) = false := beq_eq_false_iff_ne.2 h2
  have HH2 := Lib.hid h2
  obtain ⟨sw3, sw4⟩ := wrap_i (n := ta + x.amt) (by have h := Exc.wi_of HWTA.out; have := HAM.out; omega) (by have h := Exc.wi_of HWTA.out; have := HAM.out; omega)
  by_cases h3 : 1099511627776 < ta + x.amt
  case pos =>
    have s6 : decide (1099511627776 < ta + x.amt) = true := decide_eq_true h3
    have HE := Lib.hid (fun w' (h : Below w.heap.size w w') => eLast_bad (n := x.frm) (q := fs) (HK3.out h1 h2 h3) (by decide) h)
    clear h1 h2 h3
    go_wp2
    try rw [Exit.noGoto_ret]
    go_ret2
    exact HE.out _ HB0.out
  have s6 : decide (1099511627776 < ta + x.amt) = false := decide_eq_false h3
  have HKP := Lib.hid (HK4.out h1 h2 h3)
  have HH3 := Lib.hid h3
  obtain ⟨sw5, sw6⟩ := wrap_i (n := fa - x.amt) (by have h := Exc.wi_of HWA.out; have := HAM.out; omega) (by have h := Exc.wi_of HWA.out; have := HAM.out; omega)
  have ff := HF0.out.free 1
  clear h1 h2 h3
  go_upto_region 10 with fail
  have ho := (Only.refl (q0 + 1) w0).setCell (p := ⟨q0 + 1, 1, none⟩) rfl (.int .i64 (fa - x.amt))
  have HF1 := Lib.hid (HF0.out.setAmt (fa - x.amt))
  have HV1 := Lib.hid (HV0.out.acc ho HF0.out)
  have HB1 := Lib.hid (HB0.out.trans (ho.below HLQ.out HB0.out.size))
  have HX1 := Lib.hid ((ho.block q0 (lt_of_heap HX0.out) (by omega)).trans HX0.out)
  have HG1 := Lib.hid ((ho.block (q0 + 1 + 1) (lt_of_heap HG0.out) (by omega)).trans HG0.out)
  obtain ⟨w1, hw1⟩ : ∃ w1, w0.setCell ⟨q0 + 1, 1, none⟩ (.int .i64 (fa - x.amt)) = w1 := ⟨_, rfl⟩
  rw [hw1] at HF1 HV1 HB1 HX1 HG1
  try dsimp only at HF1
  try rw [hw1]
  have HX1 : Hid (TxAt w1 q0 x (.slice Az x.mem.length capz)) := HX1
  have HG1 : Hid (AccAt w1 (q0 + 1 + 1) ⟨x.dst, ta, ts⟩) := HG1
  clear ho hw1 f1 t1 ff a0 a1 a2 a3 a4 a5 a6 a7
  obtain ⟨a0, a1, a2, a3, a4, a5, a6, a7⟩ := HX1.out.cells
  have t1 := HG1.out.cells.2.1
  have tf := HG1.out.free 1
  try dsimp only at t1
  have HLG : Hid (w.heap.size ≤ q0 + 1 + 1) := Lib.hid (by have := HLQ.out; omega)
  go_upto_region 11 with fail
  have ho := (Only.refl (q0 + 1 + 1) w1).setCell (p := ⟨q0 + 1 + 1, 1, none⟩) rfl (.int .i64 (ta + x.amt))
  have HG2 := Lib.hid (HG1.out.setAmt (ta + x.amt))
  have HV2 := Lib.hid (HV1.out.acc ho HG1.out)
  have HB2 := Lib.hid (HB1.out.trans (ho.below HLG.out HB1.out.size))
  have HF2 := Lib.hid ((ho.block (q0 + 1) (lt_of_heap HF1.out) (by omega)).trans HF1.out)
  obtain ⟨w2, hw2⟩ : ∃ w2, w1.setCell ⟨q0 + 1 + 1, 1, none⟩ (.int .i64 (ta + x.amt)) = w2 := ⟨_, rfl⟩
  rw [hw2] at HG2 HV2 HB2 HF2
  try dsimp only at HG2
  try rw [hw2]
  have HF2 : Hid (AccAt w2 (q0 + 1) ⟨x.frm, fa - x.amt, fs⟩) := HF2
  clear ho hw2 t1 tf a0 a1 a2 a3 a4 a5 a6 a7 sw3 sw4 sw5 sw6
  obtain ⟨t0, t1, t2⟩ := HG2.out.cells
  try dsimp only at t0 t1 t2
  have HWU : Hid (Exc.wi (ta + x.amt) = true) := Lib.hid (by have h := Exc.wi_of HWTA.out; have := HAM.out; have := HH3.out; unfold Exc.wi Exc.most; rw [decide_eq_true (by omega), decide_eq_true (by omega)]; rfl)
  have HWD : Hid (Exc.wi (fa - x.amt) = true) := Lib.hid (by have h := Exc.wi_of HWA.out; have := HAM.out; have := HH1.out; unfold Exc.wi Exc.most; rw [decide_eq_true (by omega), decide_eq_true (by omega)]; rfl)
  have HPK := Lib.hid (eput_any (g := g) (S := S) ⟨x.dst, ta + x.amt, ts⟩ w2 HV2.out (HTW.out.below HB2.out) HWU.out HWTS.out (by have := HNB.out; simp only [Txn.nameB, Bool.and_eq_true, decide_eq_true_eq] at this; dsimp only; omega))
  unfold accval ptr at HPK
  try dsimp only at HPK
  obtain ⟨c, hc⟩ : ∃ c, ((Tri.putC S (Exc.aK x.dst) (Exc.valS (ta + x.amt) ts) : Nat) : Int) = c := ⟨_, rfl⟩
  obtain ⟨R, hR⟩ : ∃ R, Tri.put S (Exc.aK x.dst) (Exc.valS (ta + x.amt) ts) = R := ⟨_, rfl⟩
  rw [hc, hR] at HPK HKP
  clear hc hR
  go_wp2_with fail
  refine HPK.out.mono ?_
  rintro r w5 ⟨zr, rfl, hz1, hz2, hb⟩
  have HB5 := Lib.hid (bchain HB2.out hb)
  have HF5 := Lib.hid (HF2.out.below hb)
  obtain ⟨pr, rfl⟩ := tri_form hz1 hz2
  have HZ1 := Lib.hid hz1
  clear hz1 hz2 hb
  by_cases hc0 : c = 0
  case neg =>
    have s7 : (c != 0) = true := by rw [bne_iff_ne]; exact hc0
    have HE := Lib.hid (fun w' (h : Below w.heap.size w w') => eLast_bad (n := x.frm) (q := fs) HKP.out hc0 h)
    clear hc0
    go_wp2
    try rw [Exit.noGoto_ret]
    go_ret2
    exact HE.out _ HB5.out
  subst hc0
  obtain ⟨g5, hg5, hr5⟩ := HZ1.out rfl
  unfold ptr at hg5
  have HR5 := Lib.hid hr5
  rw [hg5]
  clear hr5 hg5 HZ1 t0 t1 t2
  have f2 := HF5.out.cells.2.2
  have ff := HF5.out.free 2
  try dsimp only at f2
  obtain ⟨sw1, sw2⟩ := HSW.out
  have ho := (Only.refl (q0 + 1) w5).setCell (p := ⟨q0 + 1, 2, none⟩) rfl (.int .i64 (fs + 1))
  have HFz := Lib.hid (HF5.out.setSeq (fs + 1))
  have HRz := Lib.hid (HR5.out.acc ho HF5.out)
  have HBz := Lib.hid (HB5.out.trans (ho.below HLQ.out HB5.out.size))
  go_upto_region 23 with fail
  obtain ⟨wz, hwz⟩ : ∃ wz, w5.setCell ⟨q0 + 1, 2, none⟩ (.int .i64 (fs + 1)) = wz := ⟨_, rfl⟩
  rw [hwz] at HFz HRz HBz
  try dsimp only at HFz
  try rw [hwz]
  clear ho hwz f2 ff sw1 sw2
  obtain ⟨f0, f1, f2⟩ := HFz.out.cells
  try dsimp only at f0 f1 f2
  have HPZ := Lib.hid (eput_any (g := g5) (S := R) ⟨x.frm, (fa - x.amt), fs + 1⟩ wz HRz.out (HTW.out.below HBz.out) HWD.out HSQ.out (by have := HN0.out; simp only [Txn.nameB, Bool.and_eq_true, decide_eq_true_eq] at this; dsimp only; omega))
  unfold accval ptr at HPZ
  try dsimp only at HPZ
  go_wp2_with fail
  refine HPZ.out.mono ?_
  rintro r wl hl
  have HZ := Lib.hid (eLast_ok HKP.out (hl.from HBz.out))
  obtain ⟨zl, rfl, -, -, -⟩ := hl
  clear HPZ
  go_wp2
  try rw [Exit.noGoto_ret]
  go_ret2
  exact HZ.out
end Go.Proofs.YtlckcfpdiigjiaaGreatDoor
