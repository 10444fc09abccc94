/- TxBig, TxCheck, CodeRef, PowRefRead -/
import Derived.Test.YtddjkiejekfekaaDoorPk06
import Derived.Test.YtddjkiejekfekaaDoorPk02
import Derived.Test.YtddjkiejekfekaaDoorPk01
import Derived.WalkSpells
import Derived.WalkLawsBesides
import Derived.Deep.RegionLaw
import Derived.Deep.QuietTactic
import Derived.BigQuiet
namespace Go.Proofs.YtddjkiejekfekaaDoor
open Go.RowKit
open Go.Proofs.YtddjkiejekfekaaDoor.Pw (M)
open Go.Proofs.YtddjkiejekfekaaDoor.Txn (X)

theorem tx_box (x : X) (z : Value) (w : World) : ∃ w0, w.alloc (.cells #[.int .i64 x.kind, .string ⟨x.frm.toArray⟩, .int .i64 x.seq, .string ⟨x.dst.toArray⟩, .int .i64 x.amt, .string ⟨x.key.toArray⟩, .string ⟨x.val.toArray⟩, z] 24) = w0 ∧ Below w.heap.size w w0 ∧ TxAt w0 w.heap.size x z :=
  ⟨_, rfl, (Below.refl _ w).alloc (Nat.le_refl _) _, heap_alloc_new w _⟩
set_option maxRecDepth 100000 in
set_option maxHeartbeats 4000000 in
theorem rCheckTx_any (x : X) (z : Value) (w : World) (hz : Mems w z x.mem) :
    Calls Tryd.prog 16 #[xval x z] w fun r w' => r = .returned (.int .i64 (if Txn.fine x = true then 0 else 150)) ∧ Below w.heap.size w w' := by
  obtain ⟨w0, hw0, hb0, ra⟩ := tx_box x z w
  have HB := Lib.hid hb0
  have HFI := Lib.hid (rFine_any x z w0 (hz.below hb0))
  obtain ⟨q0, hq0⟩ : ∃ q0, w.heap.size = q0 := ⟨_, rfl⟩
  rw [hq0] at ra
  obtain ⟨a0, a1, a2, a3, a4, a5, a6, a7⟩ := ra.cells
  obtain ⟨c, hc⟩ : ∃ c, Txn.fine x = c := ⟨_, rfl⟩
  rw [hc] at HFI ⊢
  unfold xval at HFI ⊢
  clear hb0 ra hz hc
  go_enter Tryd.func16, Tryd.ntmps16
  go_upto_region 1 with fail
  try rw [hw0]
  try rw [hq0]
  clear hw0 hq0
  go_wp2_with fail
  refine HFI.out.mono ?_
  rintro r w1 ⟨rfl, hb1⟩
  have HB1 := Lib.hid (bchain HB.out hb1)
  clear hb1
  cases c <;>
  · go_wp2
    go_ret
    exact ⟨rfl, HB1.out⟩
/-- A transaction that is not too long to be looked at. -/
def Txn.Short (x : X) : Prop := x.frm.length ≤ 100 ∧ x.dst.length ≤ 100 ∧ x.key.length ≤ 100 ∧ x.val.length ≤ 100 ∧ x.mem.length ≤ 100
def BigTx (x : X) (w : World) (r : Ending) (w' : World) : Prop := ∃ b : Bool, r = .returned (.bool b) ∧ (b = false → Txn.Short x) ∧ (Txn.Short x → b = false) ∧ Below w.heap.size w w'
theorem BigTx.yes {x : X} {w w' : World} (n : ¬ Txn.Short x) (h : Below w.heap.size w w') : BigTx x w (.returned (.bool true)) w' := ⟨true, rfl, (fun h => by cases h), (fun h => absurd h n), h⟩
theorem BigTx.no {x : X} {w w' : World} (n : Txn.Short x) (h : Below w.heap.size w w') : BigTx x w (.returned (.bool false)) w' := ⟨false, rfl, (fun _ => n), (fun _ => rfl), h⟩
set_option maxRecDepth 100000 in
set_option maxHeartbeats 4000000 in
theorem bigTx_any (x : X) (z : Value) (w : World) (hz : Mems w z x.mem) :
    Calls Tryd.prog 8 #[xval x z] w (BigTx x w) := by
  obtain ⟨w0, hw0, hb0, ra⟩ := tx_box x z w
  have HB := Lib.hid hb0
  obtain ⟨q0, hq0⟩ : ∃ q0, w.heap.size = q0 := ⟨_, rfl⟩
  rw [hq0] at ra
  obtain ⟨Az, capz, rfl⟩ := hz.form
  obtain ⟨a0, a1, a2, a3, a4, a5, a6, a7⟩ := ra.cells
  unfold xval
  clear hb0 ra hz
  go_enter Tryd.func8, Tryd.ntmps8
  go_upto_region 1 with fail
  try rw [hw0]
  try rw [hq0]
  clear hw0 hq0
  by_cases h0 : 100 < x.frm.length
  · have p0 : decide ((100 : Int) < (x.frm.length : Int)) = true := decide_eq_true (by omega)
    have HN : Hid (¬ Txn.Short x) := Lib.hid (fun h => by have := h.1; omega)
    clear h0
    go_wp2
    go_ret
    exact BigTx.yes HN.out HB.out
  have p0 : decide ((100 : Int) < (x.frm.length : Int)) = false := decide_eq_false (by omega)
  have H0 : Hid (x.frm.length ≤ 100) := Lib.hid (by omega)
  clear h0
  by_cases h1 : 100 < x.dst.length
  · have p1 : decide ((100 : Int) < (x.dst.length : Int)) = true := decide_eq_true (by omega)
    have HN : Hid (¬ Txn.Short x) := Lib.hid (fun h => by have := h.2.1; omega)
    clear h1
    go_wp2
    go_ret
    exact BigTx.yes HN.out HB.out
  have p1 : decide ((100 : Int) < (x.dst.length : Int)) = false := decide_eq_false (by omega)
  have H1 : Hid (x.dst.length ≤ 100) := Lib.hid (by omega)
  clear h1
  by_cases h2 : 100 < x.key.length
  · have p2 : decide ((100 : Int) < (x.key.length : Int)) = true := decide_eq_true (by omega)
    have HN : Hid (¬ Txn.Short x) := Lib.hid (fun h => by have := h.2.2.1; omega)
    clear h2
    go_wp2
    go_ret
    exact BigTx.yes HN.out HB.out
  have p2 : decide ((100 : Int) < (x.key.length : Int)) = false := decide_eq_false (by omega)
  have H2 : Hid (x.key.length ≤ 100) := Lib.hid (by omega)
  clear h2
  by_cases h3 : 100 < x.val.length
  · have p3 : decide ((100 : Int) < (x.val.length : Int)) = true := decide_eq_true (by omega)
    have HN : Hid (¬ Txn.Short x) := Lib.hid (fun h => by have := h.2.2.2.1; omega)
    clear h3
    go_wp2
    go_ret
    exact BigTx.yes HN.out HB.out
  have p3 : decide ((100 : Int) < (x.val.length : Int)) = false := decide_eq_false (by omega)
  have H3 : Hid (x.val.length ≤ 100) := Lib.hid (by omega)
  clear h3
  by_cases h4 : 100 < x.mem.length
  · have p4 : decide ((100 : Int) < (x.mem.length : Int)) = true := decide_eq_true (by omega)
    have HN : Hid (¬ Txn.Short x) := Lib.hid (fun h => by have := h.2.2.2.2; omega)
    clear h4
    go_wp2
    go_ret
    exact BigTx.yes HN.out HB.out
  have p4 : decide ((100 : Int) < (x.mem.length : Int)) = false := decide_eq_false (by omega)
  have H4 : Hid (x.mem.length ≤ 100) := Lib.hid (by omega)
  clear h4
  go_wp2
  go_ret
  exact BigTx.no ⟨H0.out, H1.out, H2.out, H3.out, H4.out⟩ HB.out
end Go.Proofs.YtddjkiejekfekaaDoor
namespace Go.Proofs.YtddjkiejekfekaaDoor
open Go.RowKit
open Go.Proofs.YtddjkiejekfekaaDoor.Pw (M)
open Go.Proofs.YtddjkiejekfekaaDoor.Txn (X)

theorem TxAt.free {w : World} {q : Nat} {x : X} {z : Value} (h : TxAt w q x z) (i : Nat) : w.frozen? ⟨q, i, none⟩ = false := frozen_of_row _ _ _ _ _ h
theorem TxAt.setDst {w : World} {q : Nat} {x : X} {z : Value} (h : TxAt w q x z) (t : List UInt8) : TxAt (w.setCell ⟨q, 3, none⟩ (.string ⟨t.toArray⟩)) q { x with dst := t } z := by
  have := heap_setCell_same _ _ 3 _ _ (.string ⟨t.toArray⟩) h
  simpa [TxAt] using this
theorem TxAt.setAmt {w : World} {q : Nat} {x : X} {z : Value} (h : TxAt w q x z) (n : Int) : TxAt (w.setCell ⟨q, 4, none⟩ (.int .i64 n)) q { x with amt := n } z := by
  have := heap_setCell_same _ _ 4 _ _ (.int .i64 n) h
  simpa [TxAt] using this
theorem TxAt.setKey {w : World} {q : Nat} {x : X} {z : Value} (h : TxAt w q x z) (t : List UInt8) : TxAt (w.setCell ⟨q, 5, none⟩ (.string ⟨t.toArray⟩)) q { x with key := t } z := by
  have := heap_setCell_same _ _ 5 _ _ (.string ⟨t.toArray⟩) h
  simpa [TxAt] using this
theorem TxAt.setVal {w : World} {q : Nat} {x : X} {z : Value} (h : TxAt w q x z) (t : List UInt8) : TxAt (w.setCell ⟨q, 6, none⟩ (.string ⟨t.toArray⟩)) q { x with val := t } z := by
  have := heap_setCell_same _ _ 6 _ _ (.string ⟨t.toArray⟩) h
  simpa [TxAt] using this
theorem TxAt.setMem {w : World} {q : Nat} {x : X} {z : Value} (h : TxAt w q x z) (l : List M) (u : Value) : TxAt (w.setCell ⟨q, 7, none⟩ u) q { x with mem := l } u := by
  have := heap_setCell_same _ _ 7 _ _ u h
  simpa [TxAt] using this
theorem TxAt.setFrm {w : World} {q : Nat} {x : X} {z : Value} (h : TxAt w q x z) (t : List UInt8) : TxAt (w.setCell ⟨q, 1, none⟩ (.string ⟨t.toArray⟩)) q { x with frm := t } z := by
  have := heap_setCell_same _ _ 1 _ _ (.string ⟨t.toArray⟩) h
  simpa [TxAt] using this
theorem TxAt.setSeq {w : World} {q : Nat} {x : X} {z : Value} (h : TxAt w q x z) (n : Int) : TxAt (w.setCell ⟨q, 2, none⟩ (.int .i64 n)) q { x with seq := n } z := by
  have := heap_setCell_same _ _ 2 _ _ (.int .i64 n) h
  simpa [TxAt] using this
theorem TxAt.setKind {w : World} {q : Nat} {x : X} {z : Value} (h : TxAt w q x z) (n : Int) : TxAt (w.setCell ⟨q, 0, none⟩ (.int .i64 n)) q { x with kind := n } z := by
  have := heap_setCell_same _ _ 0 _ _ (.int .i64 n) h
  simpa [TxAt] using this
def Txn.textB (n : Nat) (s : List UInt8) : Bool := decide (1 ≤ s.length) && decide (s.length ≤ n)
theorem xisText_any (s : List UInt8) (n : Nat) (w : World) : Calls Tryd.prog 41 #[.string ⟨s.toArray⟩, .int .i64 n] w fun r w' => r = .returned (.bool (Txn.textB n s)) ∧ w' = w := by
  have HN : Hid (Txn.textB n s = (!s.isEmpty && decide ((s.length : Int) ≤ (n : Int)))) := Lib.hid (by
    unfold Txn.textB
    rw [show decide (s.length ≤ n) = decide ((s.length : Int) ≤ (n : Int)) from decide_eq_decide.2 (by omega)]
    cases s <;> simp)
  obtain ⟨e1, he1⟩ : ∃ b, s.isEmpty = b := ⟨_, rfl⟩
  have f1 : (s == []) = e1 := by rw [← he1]; cases s <;> rfl
  have f2 : (s != []) = !e1 := by rw [← f1]; rfl
  obtain ⟨c2, h2⟩ : ∃ c, decide ((s.length : Int) ≤ (n : Int)) = c := ⟨_, rfl⟩
  have h3 : decide (s.length ≤ n) = c2 := by rw [← h2]; exact decide_eq_decide.2 (by omega)
  rw [he1, h2] at HN
  cases e1 <;> cases c2 <;>
  · go_enter Tryd.func41, Tryd.ntmps41
    go_wp2
    go_ret
    exact ⟨by rw [HN.out]; rfl, rfl⟩
def Txn.bareB (x : X) : Bool := x.dst.isEmpty && decide (x.amt = 0) && x.key.isEmpty && x.val.isEmpty && x.mem.isEmpty
theorem Txn.emp (s : List UInt8) (b : Bool) (h : s.isEmpty = b) : (s == []) = b := by rw [← h]; cases s <;> rfl
set_option maxRecDepth 100000 in
set_option maxHeartbeats 4000000 in
theorem xisBare_any (x : X) (z : Value) (w : World) (hz : Mems w z x.mem) :
    Calls Tryd.prog 63 #[xval x z] w fun r w' => r = .returned (.bool (Txn.bareB x)) ∧ Below w.heap.size w w' := by
  obtain ⟨w0, hw0, hb0, ra⟩ := tx_box x z w
  have HB := Lib.hid hb0
  obtain ⟨q0, hq0⟩ : ∃ q0, w.heap.size = q0 := ⟨_, rfl⟩
  rw [hq0] at ra
  obtain ⟨Az, capz, rfl⟩ := hz.form
  obtain ⟨a0, a1, a2, a3, a4, a5, a6, a7⟩ := ra.cells
  have HN : Hid (Txn.bareB x = (x.dst.isEmpty && decide (x.amt = 0) && x.key.isEmpty && x.val.isEmpty && x.mem.isEmpty)) := Lib.hid rfl
  obtain ⟨B, hB⟩ : ∃ B, Txn.bareB x = B := ⟨_, rfl⟩
  rw [hB] at HN ⊢
  unfold xval
  clear hb0 ra hz hB
  obtain ⟨k, f, s, d, m, y, v, M⟩ := x
  dsimp only at a0 a1 a2 a3 a4 a5 a6 a7 HN hw0 ⊢
  obtain ⟨e1, he1⟩ : ∃ b, d.isEmpty = b := ⟨_, rfl⟩
  obtain ⟨e2, he2⟩ : ∃ b, (m == 0) = b := ⟨_, rfl⟩
  obtain ⟨e3, he3⟩ : ∃ b, y.isEmpty = b := ⟨_, rfl⟩
  obtain ⟨e4, he4⟩ : ∃ b, v.isEmpty = b := ⟨_, rfl⟩
  obtain ⟨e5, he5⟩ : ∃ b, M.isEmpty = b := ⟨_, rfl⟩
  have f1 := Txn.emp _ _ he1
  have f3 := Txn.emp _ _ he3
  have f4 := Txn.emp _ _ he4
  have f5 : ((M.length : Int) == 0) = e5 := by rw [← he5]; cases M with | nil => rfl | cons a l => simp; omega
  have g2 : decide (m = 0) = e2 := by rw [← he2]; by_cases h : m = 0 <;> simp [h]
  rw [he1, g2, he3, he4, he5] at HN
  clear g2 he5
  go_enter Tryd.func63, Tryd.ntmps63
  go_upto_region 1 with fail
  try rw [hw0]
  try rw [hq0]
  clear hw0 hq0
  cases e1 with
  | false =>
    go_wp2
    go_ret
    exact ⟨by rw [HN.out]; rfl, HB.out⟩
  | true =>
  cases e2 with
  | false =>
    go_wp2
    go_ret
    exact ⟨by rw [HN.out]; rfl, HB.out⟩
  | true =>
  cases e3 with
  | false =>
    go_wp2
    go_ret
    exact ⟨by rw [HN.out]; rfl, HB.out⟩
  | true =>
  cases e4 with
  | false =>
    go_wp2
    go_ret
    exact ⟨by rw [HN.out]; rfl, HB.out⟩
  | true =>
  cases e5 with
  | false =>
    go_wp2
    go_ret
    exact ⟨by rw [HN.out]; rfl, HB.out⟩
  | true =>
  go_wp2
  go_ret
  exact ⟨by rw [HN.out]; rfl, HB.out⟩
set_option maxRecDepth 100000 in
set_option maxHeartbeats 4000000 in
theorem xfits1 (x : X) (z : Value) (w : World) (hz : Mems w z x.mem) (hk : x.kind = 1) :
    Calls Tryd.prog 42 #[xval x z] w fun r w' => r = .returned (.bool (Txn.kindB x)) ∧ Below w.heap.size w w' := by
  obtain ⟨w0, hw0, hb0, ra⟩ := tx_box x z w
  have HB := Lib.hid hb0
  obtain ⟨q0, hq0⟩ : ∃ q0, w.heap.size = q0 := ⟨_, rfl⟩
  rw [hq0] at ra
  have HA := Lib.hid ra
  have HQ := Lib.hid hq0
  have HZ := Lib.hid hz
  have HQL : Hid (q0 ≤ w0.heap.size) := Lib.hid (by rw [← hq0]; exact hb0.size)
  obtain ⟨Az, capz, rfl⟩ := hz.form
  obtain ⟨a0, a1, a2, a3, a4, a5, a6, a7⟩ := ra.cells
  have r1 : (x.kind == 1) = true := beq_iff_eq.2 hk
  have HK : Hid (Txn.kindB x = (Txn.textB 6 x.dst && decide (1 ≤ x.amt) && decide (x.amt ≤ 1099511627776) && Txn.bareB { x with dst := [], amt := 0 })) := Lib.hid (by
    rw [Txn.kind1 hk]
    unfold Txn.amtB Txn.bareB Txn.textB Txn.nameB
    simp only [List.isEmpty_nil, decide_true, Bool.true_and, Bool.and_assoc])
  have HTX := Lib.hid (fun w' => xisText_any x.dst 6 w')
  obtain ⟨B, hB⟩ : ∃ B, Txn.kindB x = B := ⟨_, rfl⟩
  rw [hB] at HK ⊢
  obtain ⟨c, hc⟩ : ∃ c, Txn.textB 6 x.dst = c := ⟨_, rfl⟩
  rw [hc] at HK HTX
  obtain ⟨b1, hb1⟩ : ∃ c, decide (1 ≤ x.amt) = c := ⟨_, rfl⟩
  obtain ⟨b2, hb2⟩ : ∃ c, decide (x.amt ≤ 1099511627776) = c := ⟨_, rfl⟩
  rw [hb1, hb2] at HK
  clear hc hB hk
  have f0' : w0.frozen? ⟨q0, 3, none⟩ = false := (HA.out).free 3
  have f1' : (w0.setCell ⟨q0, 3, none⟩ (.string ⟨#[]⟩)).frozen? ⟨q0, 4, none⟩ = false := ((HA.out).setDst []).free 4
  have HA7 := Lib.hid (((HA.out).setDst []).setAmt 0)
  have HO7 : Hid (Only q0 w0 ((w0.setCell ⟨q0, 3, none⟩ (.string ⟨#[]⟩)).setCell ⟨q0, 4, none⟩ (.int .i64 0))) := Lib.hid (((Only.refl q0 w0).setCell (p := ⟨q0, 3, none⟩) rfl (.string ⟨#[]⟩)).setCell (p := ⟨q0, 4, none⟩) rfl (.int .i64 0))
  obtain ⟨w7, hw7⟩ : ∃ w7, ((w0.setCell ⟨q0, 3, none⟩ (.string ⟨#[]⟩)).setCell ⟨q0, 4, none⟩ (.int .i64 0)) = w7 := ⟨_, rfl⟩
  rw [hw7] at HA7 HO7
  have HB7 : Hid (Below w.heap.size w w7) := Lib.hid (HB.out.trans (HO7.out.below (Nat.le_of_eq HQ.out) HB.out.size))
  obtain ⟨c0, c1, c2, c3, c4, c5, c6, c7⟩ := HA7.out.cells
  have HBR := Lib.hid (xisBare_any { x with dst := [], amt := 0 } _ w7 (HZ.out.below HB7.out))
  unfold xval at HBR
  obtain ⟨E, hE⟩ : ∃ E, Txn.bareB { x with dst := [], amt := 0 } = E := ⟨_, rfl⟩
  rw [hE] at HK HBR
  clear hE
  unfold xval
  clear hb0 ra hz
  go_enter Tryd.func42, Tryd.ntmps42
  go_upto_region 1 with fail
  try rw [hw0]
  try rw [hq0]
  clear hw0 hq0
  go_wp2_with fail
  refine (HTX.out _).mono ?_
  rintro r w1 ⟨rfl, hw1⟩
  obtain rfl := hw1.symm
  cases c with
  | false =>
    go_wp2
    go_ret
    exact ⟨by rw [HK.out]; rfl, HB7.out⟩
  | true =>
  cases b1 with
  | false =>
    go_wp2
    go_ret
    exact ⟨by rw [HK.out]; rfl, HB7.out⟩
  | true =>
  cases b2 with
  | false =>
    go_wp2
    go_ret
    exact ⟨by rw [HK.out]; rfl, HB7.out⟩
  | true =>
  go_wp2_with fail
  refine HBR.out.mono ?_
  rintro r w8 ⟨rfl, hb8⟩
  have HB8 := Lib.hid (bchain HB7.out hb8)
  clear hb8
  go_wp2
  go_ret
  exact ⟨by rw [HK.out]; rfl, HB8.out⟩
set_option maxRecDepth 100000 in
set_option maxHeartbeats 4000000 in
theorem xfits2 (x : X) (z : Value) (w : World) (hz : Mems w z x.mem) (hk : x.kind = 2) :
    Calls Tryd.prog 42 #[xval x z] w fun r w' => r = .returned (.bool (Txn.kindB x)) ∧ Below w.heap.size w w' := by
  obtain ⟨w0, hw0, hb0, ra⟩ := tx_box x z w
  have HB := Lib.hid hb0
  obtain ⟨q0, hq0⟩ : ∃ q0, w.heap.size = q0 := ⟨_, rfl⟩
  rw [hq0] at ra
  have HA := Lib.hid ra
  have HQ := Lib.hid hq0
  have HZ := Lib.hid hz
  have HQL : Hid (q0 ≤ w0.heap.size) := Lib.hid (by rw [← hq0]; exact hb0.size)
  obtain ⟨Az, capz, rfl⟩ := hz.form
  obtain ⟨a0, a1, a2, a3, a4, a5, a6, a7⟩ := ra.cells
  have r1 : (x.kind == 1) = false := beq_eq_false_iff_ne.2 (by omega)
  have r2 : (x.kind == 2) = true := beq_iff_eq.2 hk
  have HK : Hid (Txn.kindB x = (Txn.textB 32 x.val && Txn.textB 6 x.key && Txn.bareB { x with val := [], key := [] })) := Lib.hid (by
    rw [Txn.kind2 hk]
    unfold Txn.bareB Txn.textB Txn.keyB Txn.valB
    simp only [List.isEmpty_nil, Bool.true_and, Bool.and_assoc, Bool.and_comm, Bool.and_left_comm])
  have HTV := Lib.hid (fun w' => xisText_any x.val 32 w')
  have HTK := Lib.hid (fun w' => xisText_any x.key 6 w')
  obtain ⟨B, hB⟩ : ∃ B, Txn.kindB x = B := ⟨_, rfl⟩
  rw [hB] at HK ⊢
  obtain ⟨c, hc⟩ : ∃ c, Txn.textB 32 x.val = c := ⟨_, rfl⟩
  rw [hc] at HK HTV
  obtain ⟨b1, hb1⟩ : ∃ c, Txn.textB 6 x.key = c := ⟨_, rfl⟩
  rw [hb1] at HK HTK
  clear hc hb1 hB hk
  have f1' : w0.frozen? ⟨q0, 6, none⟩ = false := HA.out.free 6
  have HA6 := Lib.hid (HA.out.setVal [])
  have HO6 : Hid (Only q0 w0 (w0.setCell ⟨q0, 6, none⟩ (.string ⟨#[]⟩))) := Lib.hid ((Only.refl q0 w0).setCell (p := ⟨q0, 6, none⟩) rfl _)
  obtain ⟨w6, hw6⟩ : ∃ w6, w0.setCell ⟨q0, 6, none⟩ (.string ⟨#[]⟩) = w6 := ⟨_, rfl⟩
  rw [hw6] at HA6 HO6
  have f2' : w6.frozen? ⟨q0, 5, none⟩ = false := HA6.out.free 5
  have HA7 := Lib.hid (HA6.out.setKey [])
  have HO7 : Hid (Only q0 w0 (w6.setCell ⟨q0, 5, none⟩ (.string ⟨#[]⟩))) := Lib.hid (HO6.out.setCell (p := ⟨q0, 5, none⟩) rfl _)
  obtain ⟨w7, hw7⟩ : ∃ w7, w6.setCell ⟨q0, 5, none⟩ (.string ⟨#[]⟩) = w7 := ⟨_, rfl⟩
  rw [hw7] at HA7 HO7
  have HB7 : Hid (Below w.heap.size w w7) := Lib.hid (HB.out.trans (HO7.out.below (Nat.le_of_eq HQ.out) HB.out.size))
  obtain ⟨d0, d1, d2, d3, d4, d5, d6, d7⟩ := HA6.out.cells
  obtain ⟨c0, c1, c2, c3, c4, c5, c6, c7⟩ := HA7.out.cells
  have HBR := Lib.hid (xisBare_any { x with val := [], key := [] } _ w7 (HZ.out.below HB7.out))
  unfold xval at HBR
  obtain ⟨E, hE⟩ : ∃ E, Txn.bareB { x with val := [], key := [] } = E := ⟨_, rfl⟩
  rw [hE] at HK HBR
  clear hE
  unfold xval
  clear hb0 ra hz
  go_enter Tryd.func42, Tryd.ntmps42
  go_upto_region 1 with fail
  try rw [hw0]
  try rw [hq0]
  clear hw0 hq0
  go_wp2_with fail
  refine (HTV.out _).mono ?_
  rintro r w1 ⟨rfl, hw1⟩
  obtain rfl := hw1.symm
  cases c with
  | false =>
    go_wp2
    go_ret
    exact ⟨by rw [HK.out]; rfl, HB.out⟩
  | true =>
  go_wp2_with fail
  refine (HTK.out _).mono ?_
  rintro r w1 ⟨rfl, hw1⟩
  obtain rfl := hw1.symm
  cases b1 with
  | false =>
    go_wp2
    go_ret
    exact ⟨by rw [HK.out]; rfl, HB7.out⟩
  | true =>
  go_wp2_with fail
  refine HBR.out.mono ?_
  rintro r w8 ⟨rfl, hb8⟩
  have HB8 := Lib.hid (bchain HB7.out hb8)
  clear hb8
  go_wp2
  go_ret
  exact ⟨by rw [HK.out]; rfl, HB8.out⟩
set_option maxRecDepth 100000 in
set_option maxHeartbeats 4000000 in
theorem xfits3 (x : X) (z : Value) (w : World) (hz : Mems w z x.mem) (hk : x.kind = 3) :
    Calls Tryd.prog 42 #[xval x z] w fun r w' => r = .returned (.bool (Txn.kindB x)) ∧ Below w.heap.size w w' := by
  obtain ⟨w0, hw0, hb0, ra⟩ := tx_box x z w
  have HB := Lib.hid hb0
  obtain ⟨q0, hq0⟩ : ∃ q0, w.heap.size = q0 := ⟨_, rfl⟩
  rw [hq0] at ra
  have HA := Lib.hid ra
  have HQ := Lib.hid hq0
  have HZ := Lib.hid hz
  have HQL : Hid (q0 ≤ w0.heap.size) := Lib.hid (by rw [← hq0]; exact hb0.size)
  obtain ⟨Az, capz, rfl⟩ := hz.form
  obtain ⟨a0, a1, a2, a3, a4, a5, a6, a7⟩ := ra.cells
  have r1 : (x.kind == 1) = false := beq_eq_false_iff_ne.2 (by omega)
  have r2 : (x.kind == 2) = false := beq_eq_false_iff_ne.2 (by omega)
  have r3 : (x.kind == 3) = true := beq_iff_eq.2 hk
  have HK : Hid (Txn.kindB x = (Txn.textB 6 x.key && Txn.bareB { x with key := [] })) := Lib.hid (by
    rw [Txn.kind3 hk]
    unfold Txn.bareB Txn.textB Txn.keyB
    simp only [List.isEmpty_nil, Bool.true_and, Bool.and_assoc, Bool.and_comm, Bool.and_left_comm])
  have HTK := Lib.hid (fun w' => xisText_any x.key 6 w')
  obtain ⟨B, hB⟩ : ∃ B, Txn.kindB x = B := ⟨_, rfl⟩
  rw [hB] at HK ⊢
  obtain ⟨b1, hb1⟩ : ∃ c, Txn.textB 6 x.key = c := ⟨_, rfl⟩
  rw [hb1] at HK HTK
  clear hb1 hB hk
  have f1' : w0.frozen? ⟨q0, 5, none⟩ = false := HA.out.free 5
  have HA7 := Lib.hid (HA.out.setKey [])
  have HO7 : Hid (Only q0 w0 (w0.setCell ⟨q0, 5, none⟩ (.string ⟨#[]⟩))) := Lib.hid ((Only.refl q0 w0).setCell (p := ⟨q0, 5, none⟩) rfl _)
  obtain ⟨w7, hw7⟩ : ∃ w7, w0.setCell ⟨q0, 5, none⟩ (.string ⟨#[]⟩) = w7 := ⟨_, rfl⟩
  rw [hw7] at HA7 HO7
  have HB7 : Hid (Below w.heap.size w w7) := Lib.hid (HB.out.trans (HO7.out.below (Nat.le_of_eq HQ.out) HB.out.size))
  obtain ⟨c0, c1, c2, c3, c4, c5, c6, c7⟩ := HA7.out.cells
  have HBR := Lib.hid (xisBare_any { x with key := [] } _ w7 (HZ.out.below HB7.out))
  unfold xval at HBR
  obtain ⟨E, hE⟩ : ∃ E, Txn.bareB { x with key := [] } = E := ⟨_, rfl⟩
  rw [hE] at HK HBR
  clear hE
  unfold xval
  clear hb0 ra hz
  go_enter Tryd.func42, Tryd.ntmps42
  go_upto_region 1 with fail
  try rw [hw0]
  try rw [hq0]
  clear hw0 hq0
  go_wp2_with fail
  refine (HTK.out _).mono ?_
  rintro r w1 ⟨rfl, hw1⟩
  obtain rfl := hw1.symm
  cases b1 with
  | false =>
    go_wp2
    go_ret
    exact ⟨by rw [HK.out]; rfl, HB7.out⟩
  | true =>
  go_wp2_with fail
  refine HBR.out.mono ?_
  rintro r w8 ⟨rfl, hb8⟩
  have HB8 := Lib.hid (bchain HB7.out hb8)
  clear hb8
  go_wp2
  go_ret
  exact ⟨by rw [HK.out]; rfl, HB8.out⟩
set_option maxRecDepth 100000 in
set_option maxHeartbeats 4000000 in
theorem xfits4 (x : X) (z : Value) (w : World) (hz : Mems w z x.mem) (hk : x.kind = 4) :
    Calls Tryd.prog 42 #[xval x z] w fun r w' => r = .returned (.bool (Txn.kindB x)) ∧ Below w.heap.size w w' := by
  obtain ⟨w0, hw0, hb0, ra⟩ := tx_box x z w
  have HB := Lib.hid hb0
  obtain ⟨q0, hq0⟩ : ∃ q0, w.heap.size = q0 := ⟨_, rfl⟩
  rw [hq0] at ra
  have HA := Lib.hid ra
  have HQ := Lib.hid hq0
  have HZ := Lib.hid hz
  have HQL : Hid (q0 ≤ w0.heap.size) := Lib.hid (by rw [← hq0]; exact hb0.size)
  obtain ⟨Az, capz, rfl⟩ := hz.form
  obtain ⟨a0, a1, a2, a3, a4, a5, a6, a7⟩ := ra.cells
  have r1 : (x.kind == 1) = false := beq_eq_false_iff_ne.2 (by omega)
  have r2 : (x.kind == 2) = false := beq_eq_false_iff_ne.2 (by omega)
  have r3 : (x.kind == 3) = false := beq_eq_false_iff_ne.2 (by omega)
  have r4 : (x.kind == 4) = true := beq_iff_eq.2 hk
  have HK : Hid (Txn.kindB x = (Pw.okL x.mem && Txn.bareB { x with mem := [] })) := Lib.hid (by
    rw [Txn.kind4 hk]
    unfold Txn.bareB
    simp only [List.isEmpty_nil, Bool.true_and, Bool.and_assoc, Bool.and_comm, Bool.and_left_comm])
  have HCK := Lib.hid (check_any x.mem _ w0 (hz.below hb0))
  obtain ⟨B, hB⟩ : ∃ B, Txn.kindB x = B := ⟨_, rfl⟩
  rw [hB] at HK ⊢
  obtain ⟨b1, hb1⟩ : ∃ c, Pw.okL x.mem = c := ⟨_, rfl⟩
  have HC1 : Hid ((Pw.checkC x.mem == 0) = b1) := Lib.hid (by rw [← hb1]; unfold Pw.checkC; cases Pw.okL x.mem <;> rfl)
  obtain ⟨C, hC⟩ : ∃ C, Pw.checkC x.mem = C := ⟨_, rfl⟩
  rw [hC] at HCK HC1
  rw [hb1] at HK
  have hc1 := HC1.out
  clear hb1 hB hk hC
  unfold xval
  clear hb0 ra hz
  go_enter Tryd.func42, Tryd.ntmps42
  go_upto_region 1 with fail
  try rw [hw0]
  try rw [hq0]
  clear hw0 hq0
  go_wp2_with fail
  refine HCK.out.mono ?_
  rintro r w1 ⟨rfl, hb1⟩
  have HA1 := Lib.hid (HA.out.below hb1)
  have HB1 := Lib.hid (bchain HB.out hb1)
  clear hb1 a0 a1 a2 a3 a4 a5 a6 a7
  obtain ⟨a0, a1, a2, a3, a4, a5, a6, a7⟩ := HA1.out.cells
  have f1' : w1.frozen? ⟨q0, 7, none⟩ = false := HA1.out.free 7
  have HA7 := Lib.hid (HA1.out.setMem [] (.slice none 0 0))
  have HO7 : Hid (Only q0 w1 (w1.setCell ⟨q0, 7, none⟩ (.slice none 0 0))) := Lib.hid ((Only.refl q0 w1).setCell (p := ⟨q0, 7, none⟩) rfl _)
  obtain ⟨w7, hw7⟩ : ∃ w7, w1.setCell ⟨q0, 7, none⟩ (.slice none 0 0) = w7 := ⟨_, rfl⟩
  rw [hw7] at HA7 HO7
  have HB7 : Hid (Below w.heap.size w w7) := Lib.hid (HB1.out.trans (HO7.out.below (Nat.le_of_eq HQ.out) HB1.out.size))
  obtain ⟨c0, c1, c2, c3, c4, c5, c6, c7⟩ := HA7.out.cells
  have HBR := Lib.hid (xisBare_any { x with mem := [] } _ w7 (Mems.nil _))
  unfold xval at HBR
  obtain ⟨E, hE⟩ : ∃ E, Txn.bareB { x with mem := [] } = E := ⟨_, rfl⟩
  rw [hE] at HK HBR
  clear hE
  cases b1 with
  | false =>
    go_wp2
    go_ret
    exact ⟨by rw [HK.out]; rfl, HB7.out⟩
  | true =>
  go_wp2_with fail
  refine HBR.out.mono ?_
  rintro r w8 ⟨rfl, hb8⟩
  have HB8 := Lib.hid (bchain HB7.out hb8)
  clear hb8
  go_wp2
  go_ret
  exact ⟨by rw [HK.out]; rfl, HB8.out⟩
set_option maxRecDepth 100000 in
set_option maxHeartbeats 4000000 in
theorem xfits0 (x : X) (z : Value) (w : World) (hz : Mems w z x.mem) (h1 : x.kind ≠ 1) (h2 : x.kind ≠ 2) (h3 : x.kind ≠ 3) (h4 : x.kind ≠ 4) :
    Calls Tryd.prog 42 #[xval x z] w fun r w' => r = .returned (.bool (Txn.kindB x)) ∧ Below w.heap.size w w' := by
  obtain ⟨w0, hw0, hb0, ra⟩ := tx_box x z w
  have HB := Lib.hid hb0
  obtain ⟨q0, hq0⟩ : ∃ q0, w.heap.size = q0 := ⟨_, rfl⟩
  rw [hq0] at ra
  have HA := Lib.hid ra
  have HQ := Lib.hid hq0
  have HZ := Lib.hid hz
  have HQL : Hid (q0 ≤ w0.heap.size) := Lib.hid (by rw [← hq0]; exact hb0.size)
  obtain ⟨Az, capz, rfl⟩ := hz.form
  obtain ⟨a0, a1, a2, a3, a4, a5, a6, a7⟩ := ra.cells
  have r1 : (x.kind == 1) = false := beq_eq_false_iff_ne.2 h1
  have r2 : (x.kind == 2) = false := beq_eq_false_iff_ne.2 h2
  have r3 : (x.kind == 3) = false := beq_eq_false_iff_ne.2 h3
  have r4 : (x.kind == 4) = false := beq_eq_false_iff_ne.2 h4
  have HK : Hid (Txn.kindB x = false) := Lib.hid (Txn.kind0 h1 h2 h3 h4)
  obtain ⟨B, hB⟩ : ∃ B, Txn.kindB x = B := ⟨_, rfl⟩
  rw [hB] at HK ⊢
  clear hB h1 h2 h3 h4
  unfold xval
  clear hb0 ra hz
  go_enter Tryd.func42, Tryd.ntmps42
  go_upto_region 1 with fail
  try rw [hw0]
  try rw [hq0]
  clear hw0 hq0
  go_wp2
  go_ret
  exact ⟨by rw [HK.out]; rfl, HB.out⟩
theorem xfits_any (x : X) (z : Value) (w : World) (hz : Mems w z x.mem) :
    Calls Tryd.prog 42 #[xval x z] w fun r w' => r = .returned (.bool (Txn.kindB x)) ∧ Below w.heap.size w w' := by
  by_cases h1 : x.kind = 1
  · exact xfits1 x z w hz h1
  by_cases h2 : x.kind = 2
  · exact xfits2 x z w hz h2
  by_cases h3 : x.kind = 3
  · exact xfits3 x z w hz h3
  by_cases h4 : x.kind = 4
  · exact xfits4 x z w hz h4
  exact xfits0 x z w hz h1 h2 h3 h4
set_option maxRecDepth 100000 in
set_option maxHeartbeats 4000000 in
theorem xcheck_any (x : X) (z : Value) (w : World) (hz : Mems w z x.mem) :
    Calls Tryd.prog 15 #[xval x z] w fun r w' => r = .returned (.int .i64 (if Txn.fine x = true then 0 else 150)) ∧ Below w.heap.size w w' := by
  obtain ⟨w0, hw0, hb0, ra⟩ := tx_box x z w
  have HB := Lib.hid hb0
  obtain ⟨q0, hq0⟩ : ∃ q0, w.heap.size = q0 := ⟨_, rfl⟩
  rw [hq0] at ra
  have HFT := Lib.hid (xfits_any x z w0 (hz.below hb0))
  obtain ⟨Az, capz, rfl⟩ := hz.form
  obtain ⟨a0, a1, a2, a3, a4, a5, a6, a7⟩ := ra.cells
  have HK : Hid (Txn.fine x = (Txn.textB 6 x.frm && !decide (x.seq < 0) && !decide (1099511627776 < x.seq) && Txn.kindB x)) := Lib.hid (by
    unfold Txn.fine Txn.textB Txn.nameB
    rw [show (!decide (x.seq < 0)) = decide (0 ≤ x.seq) by rw [← decide_not]; exact decide_eq_decide.2 (by omega), show (!decide (1099511627776 < x.seq)) = decide (x.seq ≤ 1099511627776) by rw [← decide_not]; exact decide_eq_decide.2 (by omega)])
  have HTX := Lib.hid (fun w' => xisText_any x.frm 6 w')
  have HK : Hid ((if Txn.fine x = true then (0 : Int) else 150) = if (Txn.textB 6 x.frm && !decide (x.seq < 0) && !decide (1099511627776 < x.seq) && Txn.kindB x) = true then 0 else 150) := Lib.hid (by rw [HK.out])
  obtain ⟨B, hB⟩ : ∃ B, (if Txn.fine x = true then (0 : Int) else 150) = B := ⟨_, rfl⟩
  rw [hB] at HK ⊢
  obtain ⟨c, hc⟩ : ∃ c, Txn.textB 6 x.frm = c := ⟨_, rfl⟩
  rw [hc] at HK HTX
  obtain ⟨b1, hb1⟩ : ∃ c, decide (x.seq < 0) = c := ⟨_, rfl⟩
  obtain ⟨b2, hb2⟩ : ∃ c, decide (1099511627776 < x.seq) = c := ⟨_, rfl⟩
  obtain ⟨b3, hb3⟩ : ∃ c, Txn.kindB x = c := ⟨_, rfl⟩
  rw [hb1, hb2, hb3] at HK
  rw [hb3] at HFT
  unfold xval at HFT ⊢
  clear hc hB hb0 ra hz hb3
  go_enter Tryd.func15, Tryd.ntmps15
  go_upto_region 1 with fail
  try rw [hw0]
  try rw [hq0]
  clear hw0 hq0
  go_wp2_with fail
  refine (HTX.out _).mono ?_
  rintro r w1 ⟨rfl, hw1⟩
  obtain rfl := hw1.symm
  cases c with
  | false =>
    go_wp2
    go_ret
    exact ⟨by rw [HK.out]; rfl, HB.out⟩
  | true =>
  cases b1 with
  | true =>
    go_wp2
    go_ret
    exact ⟨by rw [HK.out]; rfl, HB.out⟩
  | false =>
  cases b2 with
  | true =>
    go_wp2
    go_ret
    exact ⟨by rw [HK.out]; rfl, HB.out⟩
  | false =>
  go_wp2_with fail
  refine HFT.out.mono ?_
  rintro r w2 ⟨rfl, hb2⟩
  have HB2 := Lib.hid (bchain HB.out hb2)
  clear hb2
  cases b3 with
  | false =>
    go_wp2
    go_ret
    exact ⟨by rw [HK.out]; rfl, HB2.out⟩
  | true =>
  go_wp2
  go_ret
  exact ⟨by rw [HK.out]; rfl, HB2.out⟩
end Go.Proofs.YtddjkiejekfekaaDoor
namespace Go.Proofs.YtddjkiejekfekaaDoor
open Go.RowKit

set_option maxRecDepth 100000 in
set_option maxHeartbeats 400000 in
theorem rNumber_any (n : Nat) (hn : n < 2 ^ 63) (w : World) :
    Calls Tryd.prog 56 #[.int .i64 n] w fun e w' => e = .returned (.string ⟨(Code.numL n).toArray⟩) ∧ Below w.heap.size w w' := by
  have hn1 : (n : Int) < 9223372036854775808 := by omega
  go_enter Tryd.func56, Tryd.ntmps56
  go_wp2
  go_loopw [0, 3] (fun m s wr => ∃ (a : Nat) (t : List UInt8), a ≤ n ∧ m = .int .i64 a ∧ s = .string ⟨t.toArray⟩ ∧ Code.be (Code.sz a) a ++ t = Code.be (Code.sz n) n ∧ Below w.heap.size w wr) (fun m _ _ => (intOf m).toNat)
  case atStart => exact ⟨n, [], Nat.le_refl _, rfl, rfl, by simp, Below.refl _ _⟩
  case round =>
    obtain ⟨a, t, ha, rfl, rfl, ht, hbel⟩ := hrel
    have HT := Lib.hid ht
    clear ht
    by_cases h0 : a = 0
    · subst h0
      have hz : t = Code.be (Code.sz n) n := by have := HT.out; rw [Code.sz_zero] at this; exact this
      have hl := Code.be_length (Code.sz n) n
      rw [← hz] at hl
      have h8 := Code.sz_le8 n (by omega)
      have hZ := Lib.hid hz
      have hcv := conv_one' wr (UInt8.ofNat (Code.sz n)) (t.length : Int) (by rw [Code.ofNat_toNat _ (by omega)]; omega) _ rfl
      have htl : (t.length : Int) < 256 := by omega
      have hcm : ((⟨[UInt8.ofNat (Code.sz n)].toArray⟩ : ByteArray) ++ (⟨t.toArray⟩ : ByteArray)) = ⟨(Code.numL n).toArray⟩ := by
        rw [cat_mk, Code.numL, hZ.out]; rfl
      have hbel2 := hbel.alloc hbel.size (.cells #[.int .u8 (t.length : Int)] 5)
      clear hz h8 hl
      generalize UInt8.ofNat (Code.sz n) = y at hcv hcm
      go_wp2
      go_ret
      exact ⟨rfl, hbel2⟩
    · have hst : Code.be (Code.sz (a / 256)) (a / 256) ++ (UInt8.ofNat (a % 256) :: t) = Code.be (Code.sz n) n := by
        have := HT.out
        rw [Code.sz_pos a h0, Code.be, List.append_assoc] at this
        exact this
      have hyn := Code.ofNat_toNat (a % 256) (by omega)
      obtain ⟨y, hy⟩ : ∃ y, UInt8.ofNat (a % 256) = y := ⟨_, rfl⟩
      rw [hy] at hst hyn
      have hcv := conv_one' wr y (y.toNat : Int) rfl _ rfl
      have hrem : (a : Int) % 256 = (y.toNat : Int) := by omega
      obtain ⟨q, hq⟩ : ∃ q, a / 256 = q := ⟨_, rfl⟩
      have hquo : (a : Int) / 256 = (q : Int) := by omega
      have hyb := y.toNat_lt
      have hcm := cat_mk [y] t
      rw [List.singleton_append] at hcm
      obtain ⟨u, hu⟩ : ∃ u, y :: t = u := ⟨_, rfl⟩
      rw [hu] at hcm hst
      rw [hq] at hst
      have hqa : q < a := by omega
      have hul : u.length = t.length + 1 := by rw [← hu]; rfl
      have htl : t.length ≤ 8 := by
        have h1 := congrArg List.length HT.out
        rw [List.length_append, Code.be_length, Code.be_length] at h1
        have := Code.sz_le8 n (by omega)
        omega
      have ha0 : (0 : Int) < a := by omega
      have hS := Lib.hid hst
      have hbel2 := hbel.alloc hbel.size (.cells #[.int .u8 (y.toNat : Int)] 5)
      have ha9 : (a : Int) ≤ 9223372036854775807 := by omega
      have hqa9 := Lib.hid hqa
      have ha8 := Lib.hid ha
      clear hst hy hyn hu hq hn1 hn ha h0 hqa
      go_wp2
      go_roundw
      case rel => exact ⟨q, u, by have := hqa9.out; have := ha8.out; omega, by go_num, rfl, hS.out, hbel2⟩
      case measure => simp [intOf]; omega

theorem rText_any (s : List UInt8) (w : World) (hl : s.length ≤ 100000000) :
    Calls Tryd.prog 55 #[.string ⟨s.toArray⟩] w fun e w' => e = .returned (.string ⟨(Code.textL s).toArray⟩) ∧ Below w.heap.size w w' := by
  have hcm : ((⟨(Code.numL s.length).toArray⟩ : ByteArray) ++ (⟨s.toArray⟩ : ByteArray)) = ⟨(Code.textL s).toArray⟩ := by rw [cat_mk]; rfl
  have hnl : (Code.numL s.length).length ≤ 9 := by
    have := Code.numL_length s.length
    have := Code.sz_le8 s.length (by omega)
    omega
  have HM := Lib.hid hcm
  clear hcm
  go_enter Tryd.func55, Tryd.ntmps55
  go_wp2_with fail
  refine (rNumber_any s.length (by omega) w).mono ?_
  rintro e w1 ⟨rfl, hb⟩
  have hcm := HM.out
  generalize Code.numL s.length = x at hcm hnl ⊢
  go_wp2
  go_ret
  exact ⟨rfl, hb⟩
set_option maxHeartbeats 400000 in
theorem rList_any (L : List (List UInt8)) (v : Value) (w : World) (hs : Strs w v L) (hl : L.length ≤ 100000000) (ht : (Code.textsL L).length ≤ 90000000) :
    Calls Tryd.prog 44 #[v] w fun e w' => e = .returned (.string ⟨(Code.listL L).toArray⟩) ∧ Below w.heap.size w w' := by
  obtain ⟨A, cap, rfl, hc⟩ := hs
  go_enter Tryd.func44, Tryd.ntmps44
  go_wp2_with fail
  refine (rNumber_any L.length (by omega) w).mono ?_
  rintro e w1 ⟨rfl, hbel⟩
  go_wp2
  go_loopw [3, 4] (fun u i wr => ∃ k : Nat, k ≤ L.length ∧ i = .int .i64 k ∧ u = .string ⟨(Code.numL L.length ++ Code.textsL (L.take k)).toArray⟩ ∧ Below w.heap.size w wr) (fun _ i _ => L.length - (intOf i).toNat)
  case atStart => exact ⟨0, Nat.zero_le _, rfl, by simp [Code.textsL], hbel⟩
  case round =>
    obtain ⟨k, hk, rfl, rfl, hb⟩ := hrel
    by_cases hlt : k < L.length
    · have h1 : (k : Int) < (L.length : Int) := by omega
      obtain ⟨a, rfl, hcell⟩ := hc k hlt
      have hcell1 : wr.cell? (a.add k) = some (.string ⟨L[k].toArray⟩) := (hb.cell (World.block_lt_of_cell? _ _ hcell)).trans hcell
      have hsn := Code.texts_snoc L k hlt
      have hle2 := Code.text_le_texts L k hlt
      clear hc hcell
      obtain ⟨t, hte⟩ : ∃ t, L[k] = t := ⟨_, rfl⟩
      rw [hte] at hcell1 hsn hle2
      clear hte
      have hcm := cat_mk (Code.numL L.length ++ Code.textsL (L.take k)) (Code.textL t)
      rw [List.append_assoc, hsn] at hcm
      clear hsn
      have htl : t.length ≤ 100000000 := by omega
      have hle := Code.texts_take_le L k
      have hxl : (Code.numL L.length ++ Code.textsL (L.take k)).length ≤ 100000000 := by
        have := Code.numL_length L.length
        have := Code.sz_le8 L.length (by omega)
        rw [List.length_append]; omega
      have htt : (Code.textL t).length ≤ 100000009 := by
        have := Code.textL_length t
        have := Code.sz_le8 t.length (by omega)
        omega
      clear hle
      have HM := Lib.hid hcm
      clear hcm
      generalize Code.numL L.length ++ Code.textsL (L.take k) = xs at HM hxl ⊢
      generalize hys : Code.numL L.length ++ Code.textsL (L.take (k + 1)) = ys at HM
      have HY := Lib.hid hys
      clear hys
      go_wp2_with fail
      refine (rText_any t wr htl).mono ?_
      rintro e w2 ⟨rfl, hbel2⟩
      have hb2 := hb.trans (hbel2.mono hb.size)
      have hcm := HM.out
      generalize Code.textL t = tt at hcm htt ⊢
      go_wp2
      go_roundw
      case rel => exact ⟨k + 1, by omega, by go_num, by rw [HY.out], hb2⟩
      case measure => simp [intOf]; omega
    · rw [List.take_of_length_le (by omega)]
      go_wp2
      go_ret
      exact ⟨rfl, hb⟩

end Go.Proofs.YtddjkiejekfekaaDoor
namespace Go.Proofs.YtddjkiejekfekaaDoor
open Go.RowKit

theorem bel_drewN' {B : Nat} {a w : World} (h : Below B a w) (n : Nat) : Below B a (w.drewN n) := h.trans ⟨rfl, rfl, rfl, Nat.le_refl _, fun _ _ => rfl⟩
def Pw.takeR (s : List UInt8) : Nat × List UInt8 × Int := if (Code.leadL s).2.2 ≠ 0 then (0, [], (Code.leadL s).2.2) else ((Code.leadL s).1, s.drop (Code.leadL s).2.1, 0)
theorem index_cons (c : UInt8) (d r2 : List UInt8) (j : Nat) (hj : j < d.length) : ∀ h, (⟨(c :: (d ++ r2)).toArray⟩ : ByteArray)[j + 1]'h = d[j] := by
  intro h
  have e : (c :: (d ++ r2))[j + 1]'(by simp; omega) = d[j] := by rw [List.getElem_cons_succ, List.getElem_append_left hj]
  exact e

set_option maxHeartbeats 400000 in
theorem rtake_nil (w : World) : Calls Tryd.prog 62 #[.string ⟨#[]⟩] w fun e w' => e = .returned (.tuple #[.int .i64 0, .string ⟨#[]⟩, .int .i64 20]) ∧ Below w.heap.size w w' := by
  go_enter Tryd.func62, Tryd.ntmps62
  go_wp2
  go_ret3
  exact ⟨rfl, Below.refl _ _⟩
set_option maxHeartbeats 400000 in
theorem rtake_big (c : UInt8) (r : List UInt8) (w : World) (hc : c.toNat > 8) : Calls Tryd.prog 62 #[.string ⟨(c :: r).toArray⟩] w fun e w' => e = .returned (.tuple #[.int .i64 0, .string ⟨#[]⟩, .int .i64 3]) ∧ Below w.heap.size w w' := by
  have hh : ∀ h, (⟨(c :: r).toArray⟩ : ByteArray)[0]'h = c := fun _ => rfl
  have hcb := c.toNat_lt
  have hc1 : (8 : Int) < (c.toNat : Int) := by omega
  go_enter Tryd.func62, Tryd.ntmps62
  go_wp2
  go_ret3
  exact ⟨rfl, Below.refl _ _⟩
set_option maxHeartbeats 400000 in
theorem rtake_short (c : UInt8) (r : List UInt8) (w : World) (hc : ¬ c.toNat > 8) (hr : r.length < c.toNat) : Calls Tryd.prog 62 #[.string ⟨(c :: r).toArray⟩] w fun e w' => e = .returned (.tuple #[.int .i64 0, .string ⟨#[]⟩, .int .i64 20]) ∧ Below w.heap.size w w' := by
  have hh : ∀ h, (⟨(c :: r).toArray⟩ : ByteArray)[0]'h = c := fun _ => rfl
  have hcb := c.toNat_lt
  have hc1 : ¬ ((8 : Int) < (c.toNat : Int)) := by omega
  have hlen : ((r.length : Int) + 1) < (c.toNat : Int) + 1 := by omega
  go_enter Tryd.func62, Tryd.ntmps62
  go_wp2
  go_ret3
  exact ⟨rfl, Below.refl _ _⟩
set_option maxHeartbeats 1000000 in
theorem rtake_zero (r : List UInt8) (w : World) : Calls Tryd.prog 62 #[.string ⟨((0 : UInt8) :: r).toArray⟩] w fun e w' => e = .returned (.tuple #[.int .i64 0, .string ⟨r.toArray⟩, .int .i64 0]) ∧ Below w.heap.size w w' := by
  have hh : ∀ h, (⟨((0 : UInt8) :: r).toArray⟩ : ByteArray)[0]'h = 0 := fun _ => rfl
  have he : (⟨((0 : UInt8) :: r).toArray⟩ : ByteArray).extract 1 (r.length + 1) = ⟨r.toArray⟩ := extract_mk_tail 0 r
  go_enter Tryd.func62, Tryd.ntmps62
  go_wp2
  go_loop [6, 7] (fun n i => n = .int .i64 0 ∧ i = .int .i64 1) (fun _ _ => 0)
  case atStart => exact ⟨rfl, rfl⟩
  case round =>
    obtain ⟨rfl, rfl⟩ := hrel
    go_wp2
    go_quiet (fail)
    go_wp2
    go_ret3
    exact ⟨rfl, (Below.refl _ w).trans ⟨rfl, rfl, rfl, Nat.le_refl _, fun _ _ => rfl⟩⟩
set_option maxHeartbeats 1000000 in
theorem rtake_bad (c x : UInt8) (d q r2 : List UInt8) (w : World) (hd : d = x :: q) (hc : c.toNat = d.length) (h8 : d.length ≤ 8) (hl : r2.length ≤ 100000000) (hb : x.toNat = 0 ∨ d.length = 8 ∧ 128 ≤ x.toNat) :
    Calls Tryd.prog 62 #[.string ⟨(c :: (d ++ r2)).toArray⟩] w fun e w' => e = .returned (.tuple #[.int .i64 0, .string ⟨#[]⟩, .int .i64 3]) ∧ Below w.heap.size w w' := by
  have hh : ∀ h, (⟨(c :: (d ++ r2)).toArray⟩ : ByteArray)[0]'h = c := fun _ => rfl
  have hx : ∀ h, (⟨(c :: (d ++ r2)).toArray⟩ : ByteArray)[1]'h = x := by subst hd; exact fun _ => rfl
  have hxb := x.toNat_lt
  have hpos : 0 < d.length := by subst hd; simp
  clear hd
  obtain ⟨s, hs⟩ : ∃ s, c :: (d ++ r2) = s := ⟨_, rfl⟩
  have hsl : s.length = d.length + 1 + r2.length := by rw [← hs]; simp; omega
  have hse : s.isEmpty = false := by rw [← hs]; rfl
  have hsn : ¬ (s.length = 0) := by omega
  rw [hs] at hh hx ⊢
  clear hs
  rcases hb with h0 | ⟨h80, h128⟩
  · go_enter Tryd.func62, Tryd.ntmps62
    go_wp2
    go_ret3
    exact ⟨rfl, Below.refl _ _⟩
  · rw [h80] at hc hsl
    have hd1 : (127 : Int) < (x.toNat : Int) := by omega
    have hd0 : ((x.toNat : Int) == 0) = false := by rw [beq_eq_false_iff_ne]; omega
    clear h8 hpos
    go_enter Tryd.func62, Tryd.ntmps62
    go_wp2
    go_ret3
    exact ⟨rfl, Below.refl _ _⟩
set_option maxRecDepth 100000 in
set_option maxHeartbeats 2000000 in
theorem rtake_good (c x : UInt8) (d q r2 : List UInt8) (w : World) (hd : d = x :: q) (hc : c.toNat = d.length) (h8 : d.length ≤ 8) (hl : r2.length ≤ 100000000) (h0 : x.toNat ≠ 0) (hb : d.length = 8 → x.toNat < 128) :
    Calls Tryd.prog 62 #[.string ⟨(c :: (d ++ r2)).toArray⟩] w fun e w' => e = .returned (.tuple #[.int .i64 (Code.val d : Nat), .string ⟨r2.toArray⟩, .int .i64 0]) ∧ Below w.heap.size w w' := by
  have hh : ∀ h, (⟨(c :: (d ++ r2)).toArray⟩ : ByteArray)[0]'h = c := fun _ => rfl
  have hx : ∀ h, (⟨(c :: (d ++ r2)).toArray⟩ : ByteArray)[1]'h = x := by subst hd; exact fun _ => rfl
  have HIX := Lib.hid (index_cons c d r2)
  have hxb := x.toNat_lt
  have HVL := Lib.hid (val_take_lt d h8 (by subst hd; exact hb))
  have hpos : 0 < d.length := by subst hd; simp
  have he := ext_drop (c :: (d ++ r2)) (d.length + 1)
  rw [show (c :: (d ++ r2)).drop (d.length + 1) = r2 by simp] at he
  clear hd
  obtain ⟨s, hs⟩ : ∃ s, c :: (d ++ r2) = s := ⟨_, rfl⟩
  have hsl : s.length = d.length + 1 + r2.length := by rw [← hs]; simp; omega
  have hse : s.isEmpty = false := by rw [← hs]; rfl
  rw [hs] at hh hx he HIX ⊢
  have hd0 : ((x.toNat : Int) == 0) = false := by rw [beq_eq_false_iff_ne]; omega
  obtain ⟨K, hK⟩ : ∃ K, d.length = K := ⟨_, rfl⟩
  have HK := Lib.hid hK
  rw [hK] at hc h8 hpos he hsl hb
  clear hs hK
  have hcp : (0 : Int) < (K : Int) := by omega
  rcases Nat.lt_or_ge K 8 with h7 | h7
  · have hne : ¬ ((K : Int) = 8) := by omega
    have he2 : (⟨s.toArray⟩ : ByteArray).extract (K + 1) (K + 1 + r2.length) = ⟨r2.toArray⟩ := by rw [← hsl]; exact he
    clear hb
    go_enter Tryd.func62, Tryd.ntmps62
    go_wp2
    go_loop [6, 7] (fun n i => ∃ k : Nat, k ≤ K ∧ n = .int .i64 (Code.val (d.take k) : Nat) ∧ i = .int .i64 ((k : Nat) + 1 : Int)) (fun _ i => K + 1 - (intOf i).toNat)
    case atStart => exact ⟨0, Nat.zero_le _, rfl, rfl⟩
    case round =>
      obtain ⟨k, hk, rfl, rfl⟩ := hrel
      by_cases hlt : k < K
      · have h1 : (k : Int) + 1 ≤ ((K : Nat) : Int) := by omega
        have h2 : (0 : Int) ≤ (k : Int) + 1 := by omega
        have h3 : (k : Int) + 1 < (s.length : Int) := by omega
        have hkd : k < d.length := by rw [HK.out]; exact hlt
        have HST := Lib.hid (val_step d k hkd)
        have hvk := HVL.out (k + 1)
        rw [HST.out] at hvk
        have hix := HIX.out k hkd
        obtain ⟨y, hy⟩ : ∃ y, d[k] = y := ⟨_, rfl⟩
        rw [hy] at HST hvk hix
        have hyb := y.toNat_lt
        obtain ⟨V, hV⟩ : ∃ V, Code.val (d.take k) = V := ⟨_, rfl⟩
        rw [hV] at HST hvk ⊢
        clear hy hV
        have hv1 : (V : Int) * 256 + (y.toNat : Int) ≤ 9223372036854775807 := by omega
        have hv2 : (V : Int) ≤ 36028797018963967 := by omega
        have hyb2 : (y.toNat : Int) < 256 := by omega
        clear hvk hyb
        go_wp2
        go_round
        case rel => exact ⟨k + 1, by omega, by rw [HST.out]; go_num, by go_num⟩
        case measure => simp [intOf]; omega
      · obtain rfl : k = K := by omega
        have h1 : ¬ (((k : Nat) : Int) + 1 ≤ ((k : Nat) : Int)) := by omega
        have HD : Hid (d.take k = d) := Lib.hid (by rw [← HK.out, List.take_length])
        rw [HD.out]
        go_wp2
        go_quiet (fail)
        go_wp2
        go_ret3
        exact ⟨rfl, (Below.refl _ w).trans ⟨rfl, rfl, rfl, Nat.le_refl _, fun _ _ => rfl⟩⟩
  · obtain rfl : K = 8 := by omega
    have he2 : (⟨s.toArray⟩ : ByteArray).extract 9 (9 + r2.length) = ⟨r2.toArray⟩ := by rw [show 9 + r2.length = s.length by omega]; exact he
    have hx1 : ¬ ((127 : Int) < (x.toNat : Int)) := by have := hb rfl; omega
    clear hb
    go_enter Tryd.func62, Tryd.ntmps62
    go_wp2
    go_loop [6, 7] (fun n i => ∃ k : Nat, k ≤ 8 ∧ n = .int .i64 (Code.val (d.take k) : Nat) ∧ i = .int .i64 ((k : Nat) + 1 : Int)) (fun _ i => 8 + 1 - (intOf i).toNat)
    case atStart => exact ⟨0, Nat.zero_le _, rfl, rfl⟩
    case round =>
      obtain ⟨k, hk, rfl, rfl⟩ := hrel
      by_cases hlt : k < 8
      · have h1 : (k : Int) + 1 ≤ ((8 : Nat) : Int) := by omega
        have h2 : (0 : Int) ≤ (k : Int) + 1 := by omega
        have h3 : (k : Int) + 1 < (s.length : Int) := by omega
        have hkd : k < d.length := by rw [HK.out]; exact hlt
        have HST := Lib.hid (val_step d k hkd)
        have hvk := HVL.out (k + 1)
        rw [HST.out] at hvk
        have hix := HIX.out k hkd
        obtain ⟨y, hy⟩ : ∃ y, d[k] = y := ⟨_, rfl⟩
        rw [hy] at HST hvk hix
        have hyb := y.toNat_lt
        obtain ⟨V, hV⟩ : ∃ V, Code.val (d.take k) = V := ⟨_, rfl⟩
        rw [hV] at HST hvk ⊢
        clear hy hV
        have hv1 : (V : Int) * 256 + (y.toNat : Int) ≤ 9223372036854775807 := by omega
        have hv2 : (V : Int) ≤ 36028797018963967 := by omega
        have hyb2 : (y.toNat : Int) < 256 := by omega
        clear hvk hyb
        go_wp2
        go_round
        case rel => exact ⟨k + 1, by omega, by rw [HST.out]; go_num, by go_num⟩
        case measure => simp [intOf]; omega
      · obtain rfl : k = 8 := by omega
        have HD : Hid (d.take 8 = d) := Lib.hid (by rw [← HK.out, List.take_length])
        rw [HD.out]
        go_wp2
        go_quiet (fail)
        go_wp2
        go_ret3
        exact ⟨rfl, (Below.refl _ w).trans ⟨rfl, rfl, rfl, Nat.le_refl _, fun _ _ => rfl⟩⟩
end Go.Proofs.YtddjkiejekfekaaDoor
namespace Go.Proofs.YtddjkiejekfekaaDoor
open Go.RowKit

theorem rtake_any (s : List UInt8) (w : World) (hl : s.length ≤ 100000000) :
    Calls Tryd.prog 62 #[.string ⟨s.toArray⟩] w fun e w' => e = .returned (.tuple #[.int .i64 ((Pw.takeR s).1 : Nat), .string ⟨(Pw.takeR s).2.1.toArray⟩, .int .i64 (Pw.takeR s).2.2]) ∧ Below w.heap.size w w' := by
  unfold Pw.takeR
  match s, hl with
  | [], _ => exact rtake_nil w
  | c :: r, hl =>
    simp only [List.length_cons] at hl
    by_cases h1 : c.toNat > 8
    · rw [Code.leadL, if_pos h1]
      exact rtake_big c r w h1
    · by_cases h2 : r.length < c.toNat
      · rw [Code.leadL, if_neg h1, if_pos h2]
        exact rtake_short c r w h1 h2
      · have hr : r = r.take c.toNat ++ r.drop c.toNat := (List.take_append_drop _ _).symm
        have hdl : (r.take c.toNat).length = c.toNat := by rw [List.length_take]; omega
        have hd2 : (r.drop c.toNat).length ≤ 100000000 := by rw [List.length_drop]; omega
        have hdr : (c :: r).drop (1 + c.toNat) = r.drop c.toNat := by rw [Nat.add_comm]; rfl
        rw [Code.leadL, if_neg h1, if_neg h2]
        by_cases h0 : c.toNat = 0
        · have hb : Code.bad c.toNat (r.take c.toNat) = false := by simp [Code.bad, h0]
          have hc0 : c = 0 := by
            have := UInt8.ofNat_toNat (x := c)
            rw [h0] at this
            exact this.symm
          subst hc0
          rw [hb]
          exact rtake_zero r w
        · match hd : r.take c.toNat with
          | [] => rw [hd] at hdl; simp at hdl; omega
          | x :: q =>
            rw [hd] at hr hdl
            rcases hb : Code.bad c.toNat (x :: q) with _ | _
            · simp only [Code.bad, List.headD_cons, Bool.or_eq_false_iff, Bool.and_eq_false_iff, decide_eq_false_iff_not, beq_eq_false_iff_ne] at hb
              have h := rtake_good c x (x :: q) q (r.drop c.toNat) w rfl hdl.symm (by omega) hd2 (by rcases hb.1 with a | a; omega; exact a) (fun h8 => by rcases hb.2 with a | a; omega; exact Nat.not_le.1 (of_decide_eq_false a))
              rw [← hr] at h
              rw [if_neg (by simp), if_neg (by simp)]
              dsimp only
              rw [hdr]
              exact h
            · simp only [Code.bad, List.headD_cons, Bool.or_eq_true, Bool.and_eq_true, decide_eq_true_eq, beq_iff_eq] at hb
              have h := rtake_bad c x (x :: q) q (r.drop c.toNat) w rfl hdl.symm (by omega) hd2 (by rcases hb with a | a; exact .inl a.2; exact .inr ⟨by omega, of_decide_eq_true a.2⟩)
              rw [← hr] at h
              exact h

def Pw.textP (s : List UInt8) : List UInt8 × List UInt8 × Int :=
  if (Pw.takeR s).2.2 ≠ 0 then ([], [], (Pw.takeR s).2.2) else if 6 < (Pw.takeR s).1 then ([], [], 2) else if (Pw.takeR s).2.1.length < (Pw.takeR s).1 then ([], [], 20) else ((Pw.takeR s).2.1.take (Pw.takeR s).1, (Pw.takeR s).2.1.drop (Pw.takeR s).1, 0)
theorem Pw.takeR_lt (s : List UInt8) : (Pw.takeR s).1 < 2 ^ 63 ∧ (Pw.takeR s).2.1.length ≤ s.length := by
  unfold Pw.takeR
  split
  · simp
  · exact ⟨(Code.lead_range s).1, by simp⟩
set_option maxRecDepth 8000 in
set_option maxHeartbeats 1000000 in
theorem rtext2_any (s : List UInt8) (w : World) (hl : s.length ≤ 100000000) :
    Calls Tryd.prog 61 #[.string ⟨s.toArray⟩, .int .i64 6] w fun e w' => e = .returned (.tuple #[.string ⟨(Pw.textP s).1.toArray⟩, .string ⟨(Pw.textP s).2.1.toArray⟩, .int .i64 (Pw.textP s).2.2]) ∧ Below w.heap.size w w' := by
  have HT := Lib.hid (rtake_any s w hl)
  have hr := Pw.takeR_lt s
  unfold Pw.textP
  obtain ⟨⟨n, r, e⟩, hp⟩ : ∃ p, Pw.takeR s = p := ⟨_, rfl⟩
  rw [hp] at HT hr ⊢
  dsimp only at HT hr ⊢
  have hrl : r.length ≤ 100000000 := by omega
  clear hp hl
  by_cases he : e = 0
  · subst he
    rw [if_neg (by simp)]
    by_cases h6 : 6 < n
    · rw [if_pos h6]
      have h6' : (6 : Int) < (n : Int) := by omega
      clear hr
      go_enter Tryd.func61, Tryd.ntmps61
      go_wp2_with fail
      refine HT.out.mono ?_
      rintro e w1 ⟨rfl, hb⟩
      go_wp2
      go_ret3
      exact ⟨rfl, hb⟩
    · rw [if_neg h6]
      have h6' : ¬ ((6 : Int) < (n : Int)) := by omega
      by_cases hlen : r.length < n
      · rw [if_pos hlen]
        have hlen' : (r.length : Int) < (n : Int) := by omega
        clear hr
        go_enter Tryd.func61, Tryd.ntmps61
        go_wp2_with fail
        refine HT.out.mono ?_
        rintro e w1 ⟨rfl, hb⟩
        go_wp2
        go_ret3
        exact ⟨rfl, hb⟩
      · rw [if_neg hlen]
        have hlen' : ¬ ((r.length : Int) < (n : Int)) := by omega
        have he1 := ext_take r n
        have he2 := ext_drop r n
        have hn0 : (0 : Int) ≤ (n : Int) := by omega
        have hn1 : (n : Int) ≤ (r.length : Int) := by omega
        clear hr
        go_enter Tryd.func61, Tryd.ntmps61
        go_wp2_with fail
        refine HT.out.mono ?_
        rintro e w1 ⟨rfl, hb⟩
        go_wp2
        go_quiet (fail)
        go_wp2
        go_ret3
        exact ⟨rfl, bel_drewN' hb _⟩
  · rw [if_pos he]
    have he' : (e != 0) = true := by rw [bne_iff_ne]; exact he
    clear hr
    go_enter Tryd.func61, Tryd.ntmps61
    go_wp2_with fail
    refine HT.out.mono ?_
    rintro e w1 ⟨rfl, hb⟩
    go_wp2
    go_ret3
    exact ⟨rfl, hb⟩

/-- The document's reader in memory. -/
def RRd (w : World) (g : Nat) (s : List UInt8) (c : Int) : Prop := w.heap[g]? = some (.cells #[.string ⟨s.toArray⟩, .int .i64 c] 58 (0, 0))
theorem RRd.lt {w : World} {g : Nat} {s : List UInt8} {c : Int} (h : RRd w g s c) : g < w.heap.size := lt_of_block h
theorem RRd.left {w : World} {g : Nat} {s : List UInt8} {c : Int} (h : RRd w g s c) : w.cell? ⟨g, 0, none⟩ = some (.string ⟨s.toArray⟩) := cell_of_row _ _ _ _ _ _ h
theorem RRd.code {w : World} {g : Nat} {s : List UInt8} {c : Int} (h : RRd w g s c) : w.cell? ⟨g, 1, none⟩ = some (.int .i64 c) := cell_of_row _ _ _ _ _ _ h
theorem RRd.free0 {w : World} {g : Nat} {s : List UInt8} {c : Int} (h : RRd w g s c) : w.frozen? ⟨g, 0, none⟩ = false := frozen_of_row _ _ _ _ _ h
theorem RRd.free1 {w : World} {g : Nat} {s : List UInt8} {c : Int} (h : RRd w g s c) : w.frozen? ⟨g, 1, none⟩ = false := frozen_of_row _ _ _ _ _ h
theorem RRd.setLeft {w : World} {g : Nat} {s : List UInt8} {c : Int} (h : RRd w g s c) (t : List UInt8) : RRd (w.setCell ⟨g, 0, none⟩ (.string ⟨t.toArray⟩)) g t c := by
  have := heap_setCell_same _ _ 0 _ _ (.string ⟨t.toArray⟩) h
  simpa [RRd] using this
theorem RRd.setCode {w : World} {g : Nat} {s : List UInt8} {c : Int} (h : RRd w g s c) (d : Int) : RRd (w.setCell ⟨g, 1, none⟩ (.int .i64 d)) g s d := by
  have := heap_setCell_same _ _ 1 _ _ (.int .i64 d) h
  simpa [RRd] using this
theorem RRd.below {w w' : World} {g : Nat} {s : List UInt8} {c : Int} (h : RRd w g s c) (hb : Below w.heap.size w w') : RRd w' g s c := (hb.block g h.lt).trans h

set_option maxRecDepth 8000 in
set_option maxHeartbeats 1000000 in
theorem rrnum_st (st : Pw.St) (g : Nat) (w : World) (h : RRd w g st.1 st.2) (hl : st.1.length ≤ 100000000) :
    Calls Tryd.prog 38 #[.pointer (some ⟨g, 0, none⟩)] w fun e w' => e = .returned (.int .i64 ((Pw.rdN st).1 : Nat)) ∧ RRd w' g (Pw.rdN st).2.1 (Pw.rdN st).2.2 ∧ Only g w w' := by
  obtain ⟨s, c⟩ := st
  dsimp only at h hl
  have h0 := h.left
  have h1 := h.code
  unfold Pw.rdN
  dsimp only
  by_cases hc : c = 0
  · subst hc
    rw [if_neg (by simp)]
    have HT := Lib.hid (rtake_any s w hl)
    have HLR := Lib.hid (Code.lead_range s)
    have HP : Hid (Code.countL 9223372036854775807 s = if (Pw.takeR s).2.2 ≠ 0 then (0, s, (Pw.takeR s).2.2) else ((Pw.takeR s).1, (Pw.takeR s).2.1, 0)) := Lib.hid (by
      have h63 := (Code.lead_range s).1
      unfold Code.countL Pw.takeR
      by_cases he : (Code.leadL s).2.2 = 0
      · have e1 : ¬ ((Code.leadL s).2.2 ≠ 0) := by simpa using he
        have e2 : ¬ (((Code.leadL s).1 : Int) > 9223372036854775807) := by omega
        simp only [if_neg e1, if_neg e2]
        rw [if_neg (by simp)]
      · simp only [if_pos he])
    obtain ⟨⟨n, r, e⟩, hp⟩ : ∃ p, Pw.takeR s = p := ⟨_, rfl⟩
    rw [hp] at HT HP
    dsimp only at HT HP
    rw [HP.out]
    have HR := Lib.hid h
    clear hp hl
    by_cases he : e = 0
    · subst he
      rw [if_neg (by simp)]
      dsimp only
      go_enter Tryd.func38, Tryd.ntmps38
      go_wp2_with fail
      refine HT.out.mono ?_
      rintro e w1 ⟨rfl, hb⟩
      have h2 := HR.out.below hb
      have h3 := h2.setCode 0
      have HO : Hid (Only g w w1) := Lib.hid (Only.of hb)
      have g1 := h2.code
      have g0 := h3.left
      have f1 := h2.free1
      have f0 := h3.free0
      have HR3 := Lib.hid h3
      clear h2 h3 hb h0 h1 h
      go_wp2
      go_ret
      exact ⟨rfl, HR3.out.setLeft r, (HO.out.setCell rfl _).setCell rfl _⟩
    · rw [if_pos he]
      dsimp only
      have he' : (e != 0) = true := by rw [bne_iff_ne]; exact he
      go_enter Tryd.func38, Tryd.ntmps38
      go_wp2_with fail
      refine HT.out.mono ?_
      rintro e w1 ⟨rfl, hb⟩
      have h2 := HR.out.below hb
      have HO : Hid (Only g w w1) := Lib.hid (Only.of hb)
      have g1 := h2.code
      have f1 := h2.free1
      have HR2 := Lib.hid h2
      clear h2 hb h0 h1 h
      go_wp2
      go_ret
      exact ⟨rfl, HR2.out.setCode _, HO.out.setCell rfl _⟩
  · rw [if_pos hc]
    have hc' : (c != 0) = true := by rw [bne_iff_ne]; exact hc
    go_enter Tryd.func38, Tryd.ntmps38
    go_wp2
    go_ret
    exact ⟨rfl, h, Only.refl _ _⟩

set_option maxRecDepth 8000 in
set_option maxHeartbeats 1000000 in
theorem rrtext_st (st : Pw.St) (g : Nat) (w : World) (h : RRd w g st.1 st.2) (hl : st.1.length ≤ 100000000) :
    Calls Tryd.prog 37 #[.pointer (some ⟨g, 0, none⟩), .int .i64 6] w fun e w' => e = .returned (.string ⟨(Pw.rdT st).1.toArray⟩) ∧ RRd w' g (Pw.rdT st).2.1 (Pw.rdT st).2.2 ∧ Only g w w' := by
  obtain ⟨s, c⟩ := st
  dsimp only at h hl
  have h0 := h.left
  have h1 := h.code
  unfold Pw.rdT
  dsimp only
  by_cases hc : c = 0
  · subst hc
    rw [if_neg (by simp)]
    have HT := Lib.hid (rtext2_any s w hl)
    have HP : Hid (Code.textR 6 s = if (Pw.textP s).2.2 ≠ 0 then ([], s, (Pw.textP s).2.2) else ((Pw.textP s).1, (Pw.textP s).2.1, 0)) := Lib.hid (by
      unfold Code.textR Code.countL Pw.textP Pw.takeR
      by_cases he : (Code.leadL s).2.2 = 0
      · have e1 : ¬ ((Code.leadL s).2.2 ≠ 0) := by simpa using he
        simp only [if_neg e1]
        by_cases h6 : 6 < (Code.leadL s).1
        · have h6' : ((Code.leadL s).1 : Int) > 6 := by omega
          simp [h6, h6']
        · have h6' : ¬ (((Code.leadL s).1 : Int) > 6) := by omega
          simp only [if_neg h6, if_neg h6']
          by_cases hlen : (s.drop (Code.leadL s).2.1).length < (Code.leadL s).1
          · simp only [if_pos hlen]
            simp
          · simp only [if_neg hlen]
            simp
      · simp [he])
    obtain ⟨⟨x, r, e⟩, hp⟩ : ∃ p, Pw.textP s = p := ⟨_, rfl⟩
    rw [hp] at HT HP
    dsimp only at HT HP
    rw [HP.out]
    have HR := Lib.hid h
    clear hp hl
    by_cases he : e = 0
    · subst he
      rw [if_neg (by simp)]
      dsimp only
      go_enter Tryd.func37, Tryd.ntmps37
      go_wp2_with fail
      refine HT.out.mono ?_
      rintro e w1 ⟨rfl, hb⟩
      have h2 := HR.out.below hb
      have h3 := h2.setCode 0
      have HO : Hid (Only g w w1) := Lib.hid (Only.of hb)
      have g1 := h2.code
      have g0 := h3.left
      have f1 := h2.free1
      have f0 := h3.free0
      have HR3 := Lib.hid h3
      clear h2 h3 hb h0 h1 h
      go_wp2
      go_ret
      exact ⟨rfl, HR3.out.setLeft r, (HO.out.setCell rfl _).setCell rfl _⟩
    · rw [if_pos he]
      dsimp only
      have he' : (e != 0) = true := by rw [bne_iff_ne]; exact he
      go_enter Tryd.func37, Tryd.ntmps37
      go_wp2_with fail
      refine HT.out.mono ?_
      rintro e w1 ⟨rfl, hb⟩
      have h2 := HR.out.below hb
      have HO : Hid (Only g w w1) := Lib.hid (Only.of hb)
      have g1 := h2.code
      have f1 := h2.free1
      have HR2 := Lib.hid h2
      clear h2 hb h0 h1 h
      go_wp2
      go_ret
      exact ⟨rfl, HR2.out.setCode _, HO.out.setCell rfl _⟩
  · rw [if_pos hc]
    have hc' : (c != 0) = true := by rw [bne_iff_ne]; exact hc
    go_enter Tryd.func37, Tryd.ntmps37
    go_wp2
    go_ret
    exact ⟨rfl, h, Only.refl _ _⟩
end Go.Proofs.YtddjkiejekfekaaDoor
