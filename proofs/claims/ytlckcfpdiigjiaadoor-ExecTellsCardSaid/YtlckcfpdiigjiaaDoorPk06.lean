/- ArgTx, PowRef, BookMems, BookTx, RegionInv, TxRefFine, TxBig, CodeRef, PowRefRead, CodeRefList, TxRdr, Results, ShaTold, ShaRef, ShaRefBlock, ShaRefSum, DigTag, PowRefDec, ExecRef, ExecPlain, TriTree -/
import Derived.Test.YtlckcfpdiigjiaaDoorPk05
import Derived.Test.YtlckcfpdiigjiaaDoorPk04
import Derived.Test.YtlckcfpdiigjiaaDoorPk02
import Derived.BigQuiet
import Derived.RegionTactic
import Derived.Deep.RegionHeld3
import Derived.Test.YtlckcfpdiigjiaaDoorPk01
import Derived.WalkSpells
import Derived.WalkLawsBesides
import Derived.Deep.RegionLaw
import Derived.Deep.QuietTactic
import Derived.Laws.ResultCell
import Derived.Test.YtlckcfpdiigjiaaDoorPk03
import Derived.Deep.OwnRows
import Derived.Deep.RegionWith
namespace Go.Proofs.YtlckcfpdiigjiaaDoor
open Go.RowKit Go.ChangeShapes Go.WideShapes
open Go.Proofs.YtlckcfpdiigjiaaDoor.Pw (M)
open Go.Proofs.YtlckcfpdiigjiaaDoor.Txn (X)

/-- A transaction as cells, as a value; its members lie in z. -/
def xcl (x : X) (z : Value) : List Value := [.int .i64 x.kind, .string ⟨x.frm.toArray⟩, .int .i64 x.seq, .string ⟨x.dst.toArray⟩, .int .i64 x.amt, .string ⟨x.key.toArray⟩, .string ⟨x.val.toArray⟩, z]
def xval (x : X) (z : Value) : Value := .agg #[.int .i64 x.kind, .string ⟨x.frm.toArray⟩, .int .i64 x.seq, .string ⟨x.dst.toArray⟩, .int .i64 x.amt, .string ⟨x.key.toArray⟩, .string ⟨x.val.toArray⟩, z]
/-- A transaction that fits. -/
structure OkX (x : X) : Prop where
  kind : (Lit.int .i64 x.kind).wf = true
  seq : (Lit.int .i64 x.seq).wf = true
  amt : (Lit.int .i64 x.amt).wf = true
  frm : x.frm.length ≤ maxLen
  dst : x.dst.length ≤ maxLen
  key : x.key.length ≤ maxLen
  val : x.val.length ≤ maxLen
  mems : x.mem.length * 24 ≤ reachBytes
  mem : ∀ m ∈ x.mem, OkMem m
set_option maxRecDepth 100000 in
theorem cellsTx : Tryd.prog.cellsOf 38 = 8 := by kernel_rfl
set_option maxRecDepth 100000 in
theorem tx_cells {H : Type} {enc : TypeId × Value → H} {W : World} {fuel : Nat} {cs : List Value} {y : DataW H × List MemPlace} (ht : DataW.trod enc Tryd.prog W 0 (fun _ => true) true fuel 38 cs = some y)
    (hz : ∀ n ∈ y.1.weights Tryd.prog 38, n ≤ reachBytes) :
    ∃ (x : X) (z : Value), cs = xcl x z ∧ OkX x ∧ Mems W z x.mem := by
  obtain ⟨ys, n', _, hy, hcl, hyl, hfs⟩ := DataW.trod_struct Tryd.underlying38 ht
  rw [cellsTx] at hcl
  match cs, hcl, ys, hyl with
  | [v0, v1, v2, v3, v4, v5, v6, v7], _, [y0, y1, y2, y3, y4, y5, y6, y7], _ =>
    have g0 := hfs 0 _ rfl
    have g1 := hfs 1 _ rfl
    have g2 := hfs 2 _ rfl
    have g3 := hfs 3 _ rfl
    have g4 := hfs 4 _ rfl
    have g5 := hfs 5 _ rfl
    have g6 := hfs 6 _ rfl
    have g7 := hfs 7 _ rfl
    simp [cellsIn, cellsS, cellsMl] at g0 g1 g2 g3 g4 g5 g6 g7
    obtain ⟨t0, e0, x0, w0⟩ := DataW.trod_int Tryd.underlying3 g0
    obtain ⟨s1, e1, x1, z1⟩ := DataW.trod_string Tryd.underlying9 g1
    obtain ⟨t2, e2, x2, w2⟩ := DataW.trod_int Tryd.underlying3 g2
    obtain ⟨s3, e3, x3, z3⟩ := DataW.trod_string Tryd.underlying9 g3
    obtain ⟨t4, e4, x4, w4⟩ := DataW.trod_int Tryd.underlying3 g4
    obtain ⟨s5, e5, x5, z5⟩ := DataW.trod_string Tryd.underlying9 g5
    obtain ⟨s6, e6, x6, z6⟩ := DataW.trod_string Tryd.underlying9 g6
    obtain rfl : v0 = .int .i64 t0 := by simpa using e0
    obtain rfl : v1 = .string s1 := by simpa using e1
    obtain rfl : v2 = .int .i64 t2 := by simpa using e2
    obtain rfl : v3 = .string s3 := by simpa using e3
    obtain rfl : v4 = .int .i64 t4 := by simpa using e4
    obtain rfl : v5 = .string s5 := by simpa using e5
    obtain rfl : v6 = .string s6 := by simpa using e6
    have hd : y.1 = .agg [y0.1, y1.1, y2.1, y3.1, y4.1, y5.1, y6.1, y7.1] := by simpa using congrArg Prod.fst hy
    have hz7 : ∀ n ∈ y7.1.weights Tryd.prog 23, n ≤ reachBytes := fun n hn => hz n (by
      rw [hd]; simp [DataW.weights, DataW.weightsEach, Tryd.underlying38, hn])
    obtain ⟨L, hL, hL2, hL3⟩ := mems_trod g7 hz7
    exact ⟨⟨t0, s1.data.toList, t2, s3.data.toList, t4, s5.data.toList, s6.data.toList, L⟩, v7, by simp [xcl], ⟨w0, w2, w4, by rw [Array.length_toList]; exact z1, by rw [Array.length_toList]; exact z3, by rw [Array.length_toList]; exact z5, by rw [Array.length_toList]; exact z6, hL2, hL3⟩, hL⟩
set_option maxRecDepth 100000 in
/-- A transaction that came in. -/
theorem tx_open {H : Type} {enc : TypeId × Value → H} {W : World} {r : Reach} {b0 : Nat} {v : Value} {d : DataW H} {p : List MemPlace}
    (hv : Value.okWide Tryd.prog W r b0 38 v) (h : DataW.Trod enc Tryd.prog W 0 (fun _ => true) true 38 v d p)
    (hz : ∀ n ∈ d.weights Tryd.prog 38, n ≤ reachBytes) :
    ∃ (x : X) (z : Value), v = xval x z ∧ OkX x ∧ Mems W z x.mem := by
  obtain ⟨cs, rfl, _⟩ := okWide_struct Tryd.underlying38 hv
  obtain ⟨fuel, hf⟩ := h
  obtain ⟨x, z, hc, h1, h2⟩ := tx_cells (y := (d, p)) hf hz
  refine ⟨x, z, ?_, h1, h2⟩
  simp only [Value.cells] at hc
  rw [xval]
  congr 1
  exact Array.ext' hc
/-- A slice of transactions. -/
def Txs (w : World) (v : Value) (L : List X) : Prop :=
  ∃ (A : Option Addr) (cap : Nat), v = .slice A L.length cap ∧ (0 < L.length → ∃ b o, A = some ⟨b, o, none⟩ ∧ b < w.heap.size ∧ ∀ i (h : i < L.length), ∃ z,
    (∀ j u, (xcl L[i] z)[j]? = some u → w.cell? ⟨b, o + i * 8 + j, none⟩ = some u) ∧ Mems w z L[i].mem)
theorem Txs.below {w w' : World} {v : Value} {L : List X} (h : Txs w v L) (hb : Below w.heap.size w w') : Txs w' v L := by
  obtain ⟨A, cap, rfl, hc⟩ := h
  refine ⟨A, cap, rfl, fun h0 => ?_⟩
  obtain ⟨b, o, rfl, hlt, hcell⟩ := hc h0
  refine ⟨b, o, rfl, Nat.lt_of_lt_of_le hlt hb.size, fun i hi => ?_⟩
  obtain ⟨z, h1, h2⟩ := hcell i hi
  exact ⟨z, fun j u hu => (hb.cell hlt).trans (h1 j u hu), h2.below hb⟩
theorem Txs.form {w : World} {v : Value} {L : List X} (h : Txs w v L) : ∃ A cap, v = .slice A L.length cap := by
  obtain ⟨A, cap, rfl, _⟩ := h
  exact ⟨A, cap, rfl⟩
theorem Txs.at {w : World} {A : Option Addr} {n cap : Nat} {L : List X} (h : Txs w (.slice A n cap) L) (k : Nat) (hk : k < L.length) :
    ∃ b o z, A = some ⟨b, o, none⟩ ∧ (∀ j u, (xcl L[k] z)[j]? = some u → w.cell? ⟨b, o + k * 8 + j, none⟩ = some u) ∧ Mems w z L[k].mem := by
  obtain ⟨A', cap', hv, h1⟩ := h
  obtain ⟨rfl, _⟩ : A = A' ∧ _ := by simpa using hv
  obtain ⟨b, o, rfl, _, hcell⟩ := h1 (by omega)
  obtain ⟨z, q1, q2⟩ := hcell k hk
  exact ⟨b, o, z, rfl, q1, q2⟩
set_option maxRecDepth 100000 in
theorem txs_open {H : Type} {enc : TypeId × Value → H} {W : World} {r : Reach} {b0 : Nat} {v : Value} {d : DataW H} {p : List MemPlace}
    (hv : Value.okWide Tryd.prog W r b0 27 v) (h : DataW.Trod enc Tryd.prog W 0 (fun _ => true) true 27 v d p)
    (hz : ∀ n ∈ d.weights Tryd.prog 27, n ≤ reachBytes) :
    ∃ L, Txs W v L ∧ L.length ≤ maxLen ∧ ∀ x ∈ L, OkX x := by
  obtain ⟨a0, len, cap, rfl⟩ := okWide_slice Tryd.underlying27 hv
  obtain ⟨fuel, hf⟩ := h
  rcases Go.Deep.open_slice Tryd.underlying27 hf with ⟨hcs, _⟩ | ⟨x, l, c, m, n, D, Pl, hcs, _, hl, hm, hmm, hx, hel⟩
  · simp [Value.cells] at hcs
    obtain ⟨rfl, rfl, rfl⟩ := hcs
    exact ⟨[], ⟨none, 0, rfl, fun h => absurd h (by simp)⟩, by simp, fun n hn => by simp at hn⟩
  · simp [Value.cells] at hcs
    obtain ⟨rfl, rfl, rfl⟩ := hcs
    simp only [if_true] at hmm
    subst hmm
    rw [cellsTx] at hel hx
    have hd : d = _ := congrArg Prod.fst hx
    have hw : ∀ i, i < len → ∀ k ∈ (D i).weights Tryd.prog 38, k ≤ reachBytes := fun i hi k hk => by
      refine hz k ?_
      rw [hd]
      simp only [DataW.weights, Tryd.underlying27, List.mem_cons, List.mem_append]
      exact Or.inr (Or.inl (weights_of_mem (List.mem_map.2 ⟨i, List.mem_range.2 hi, rfl⟩) k hk))
    have key : ∀ i, i < len → ∃ q : X × Value, OkX q.1 ∧ Mems W q.2 q.1.mem ∧ ∀ j u, (xcl q.1 q.2)[j]? = some u → W.cell? ((x.add (i * 8)).add j) = some u := fun i hi => by
      obtain ⟨cs', hc, ht⟩ := hel i (by omega)
      obtain ⟨_, _, hat⟩ := World.cells?_some hc
      obtain ⟨q, z, rfl, h1, h2⟩ := tx_cells ht (by simpa using hw i hi)
      refine ⟨(q, z), h1, h2, fun j u hu => ?_⟩
      have hj : j < 8 := by
        have := (List.getElem?_eq_some_iff.1 hu).1
        simpa [xcl] using this
      have h3 := hat j hj
      rw [hu] at h3
      exact h3
    obtain ⟨f, hf⟩ := Go.Deep.choose_lt (fun i hi => key i hi)
    have hlen : ((List.range len).map fun i => (f i).1).length = len := by simp
    refine ⟨(List.range len).map fun i => (f i).1, ⟨some x, _, by rw [hlen], fun h0 => ?_⟩, by rw [hlen]; omega, ?_⟩
    · rw [hlen] at h0
      obtain ⟨b, o, sp⟩ := x
      obtain ⟨-, -, q0⟩ := hf 0 h0
      have hcell' : W.cell? ⟨b, o, sp⟩ = some (.int .i64 (f 0).1.kind) := by simpa [Addr.add] using q0 0 _ rfl
      obtain rfl := cell_spot hcell'
      refine ⟨b, o, rfl, block_lt_of_cell hcell', fun i hi => ⟨(f i).2, fun j u hu => ?_, ?_⟩⟩
      · rw [hlen] at hi
        have q1 := (hf i hi).2.2 j u (by simpa using hu)
        rw [Addr.add_mid, Addr.add_mid] at q1
        exact q1
      · rw [hlen] at hi
        simpa using (hf i hi).2.1
    · intro y hy
      obtain ⟨i, hi, rfl⟩ := List.mem_map.1 hy
      exact (hf i (List.mem_range.1 hi)).1
end Go.Proofs.YtlckcfpdiigjiaaDoor
namespace Go.Proofs.YtlckcfpdiigjiaaDoor
open Go.RowKit
open Go.Proofs.YtlckcfpdiigjiaaDoor.Pw (M)

end Go.Proofs.YtlckcfpdiigjiaaDoor
namespace Go.Proofs.YtlckcfpdiigjiaaDoor
open Go.RowKit
open Go.Proofs.YtlckcfpdiigjiaaDoor.Pw (M)

/-- One member of a row of the call's own, set. -/
theorem OwnM.set {w : World} {B g n cap i : Nat} {L : List M} (h : OwnM w B (.slice (some ⟨g, 0, none⟩) n cap) L) (hi : i < L.length) (m : M) :
    OwnM ((w.setCell ⟨g, i * 2, none⟩ (.string ⟨m.name.toArray⟩)).setCell ⟨g, i * 2 + 1, none⟩ (.int .i64 m.power)) B (.slice (some ⟨g, 0, none⟩) n cap) (L.set i m) := by
  have hn : n = L.length := by
    obtain ⟨_, _, hv⟩ := own_form h
    simp at hv
    exact hv.2.1
  subst hn
  have h1 := (World.ownsRow.stored h (i * 2) (.string ⟨m.name.toArray⟩)).1
  have h2 := (World.ownsRow.stored h1 (i * 2 + 1) (.int .i64 m.power)).1
  unfold OwnM
  rw [List.length_set, ← mrows_set L i m hi]
  exact h2
end Go.Proofs.YtlckcfpdiigjiaaDoor
namespace Go.Proofs.YtlckcfpdiigjiaaDoor
open Go.RowKit
open Go.Proofs.YtlckcfpdiigjiaaDoor.Pw (M)
open Go.Proofs.YtlckcfpdiigjiaaDoor.Txn (X)

/-- A transaction in block q. -/
def TxAt (w : World) (q : Nat) (x : X) (z : Value) : Prop := w.heap[q]? = some (.cells #[.int .i64 x.kind, .string ⟨x.frm.toArray⟩, .int .i64 x.seq, .string ⟨x.dst.toArray⟩, .int .i64 x.amt, .string ⟨x.key.toArray⟩, .string ⟨x.val.toArray⟩, z] 38 (0, 0))
theorem TxAt.below {w w' : World} {q : Nat} {x : X} {z : Value} (h : TxAt w q x z) (hb : Below w.heap.size w w') : TxAt w' q x z := (hb.block q (lt_of_heap h)).trans h
theorem TxAt.cells {w : World} {q : Nat} {x : X} {z : Value} (h : TxAt w q x z) : w.cell? ⟨q, 0, none⟩ = some (.int .i64 x.kind) ∧ w.cell? ⟨q, 1, none⟩ = some (.string ⟨x.frm.toArray⟩) ∧ w.cell? ⟨q, 2, none⟩ = some (.int .i64 x.seq) ∧ w.cell? ⟨q, 3, none⟩ = some (.string ⟨x.dst.toArray⟩) ∧ w.cell? ⟨q, 4, none⟩ = some (.int .i64 x.amt) ∧ w.cell? ⟨q, 5, none⟩ = some (.string ⟨x.key.toArray⟩) ∧ w.cell? ⟨q, 6, none⟩ = some (.string ⟨x.val.toArray⟩) ∧ w.cell? ⟨q, 7, none⟩ = some z :=
  ⟨by rw [cell_of_row _ _ 0 _ _ _ h]; rfl, by rw [cell_of_row _ _ 1 _ _ _ h]; rfl, by rw [cell_of_row _ _ 2 _ _ _ h]; rfl, by rw [cell_of_row _ _ 3 _ _ _ h]; rfl, by rw [cell_of_row _ _ 4 _ _ _ h]; rfl, by rw [cell_of_row _ _ 5 _ _ _ h]; rfl, by rw [cell_of_row _ _ 6 _ _ _ h]; rfl, by rw [cell_of_row _ _ 7 _ _ _ h]; rfl⟩
end Go.Proofs.YtlckcfpdiigjiaaDoor
namespace Go.Proofs.YtlckcfpdiigjiaaDoor
open Go

end Go.Proofs.YtlckcfpdiigjiaaDoor
namespace Go.Proofs.YtlckcfpdiigjiaaDoor
open Go.RowKit
open Go.Proofs.YtlckcfpdiigjiaaDoor.Pw (M)
open Go.Proofs.YtlckcfpdiigjiaaDoor.Txn (X)

theorem Txn.kind1 {x : X} (h : x.kind = 1) : Txn.kindB x = (Txn.nameB x.dst && Txn.amtB x.amt && x.key.isEmpty && x.val.isEmpty && x.mem.isEmpty) := by unfold Txn.kindB; rw [if_pos h]
theorem Txn.kind2 {x : X} (h : x.kind = 2) : Txn.kindB x = (x.dst.isEmpty && decide (x.amt = 0) && Txn.keyB x.key && Txn.valB x.val && x.mem.isEmpty) := by unfold Txn.kindB; rw [if_neg (by omega), if_pos h]
theorem Txn.kind3 {x : X} (h : x.kind = 3) : Txn.kindB x = (x.dst.isEmpty && decide (x.amt = 0) && Txn.keyB x.key && x.val.isEmpty && x.mem.isEmpty) := by unfold Txn.kindB; rw [if_neg (by omega), if_neg (by omega), if_pos h]
theorem Txn.kind4 {x : X} (h : x.kind = 4) : Txn.kindB x = (x.dst.isEmpty && decide (x.amt = 0) && x.key.isEmpty && x.val.isEmpty && Pw.okL x.mem) := by unfold Txn.kindB; rw [if_neg (by omega), if_neg (by omega), if_neg (by omega), if_pos h]
theorem Txn.kind0 {x : X} (h1 : x.kind ≠ 1) (h2 : x.kind ≠ 2) (h3 : x.kind ≠ 3) (h4 : x.kind ≠ 4) : Txn.kindB x = false := by unfold Txn.kindB; rw [if_neg h1, if_neg h2, if_neg h3, if_neg h4]
end Go.Proofs.YtlckcfpdiigjiaaDoor
namespace Go.Proofs.YtlckcfpdiigjiaaDoor
open Go.RowKit
open Go.Proofs.YtlckcfpdiigjiaaDoor.Pw (M)
open Go.Proofs.YtlckcfpdiigjiaaDoor.Txn (X)

theorem tx_box (x : X) (z : Value) (w : World) : ∃ w0, w.alloc (.cells #[.int .i64 x.kind, .string ⟨x.frm.toArray⟩, .int .i64 x.seq, .string ⟨x.dst.toArray⟩, .int .i64 x.amt, .string ⟨x.key.toArray⟩, .string ⟨x.val.toArray⟩, z] 38) = w0 ∧ Below w.heap.size w w0 ∧ TxAt w0 w.heap.size x z :=
  ⟨_, rfl, (Below.refl _ w).alloc (Nat.le_refl _) _, heap_alloc_new w _⟩
/-- A transaction that is not too long to be looked at. -/
def Txn.Short (x : X) : Prop := x.frm.length ≤ 100 ∧ x.dst.length ≤ 100 ∧ x.key.length ≤ 100 ∧ x.val.length ≤ 100 ∧ x.mem.length ≤ 100
def BigTx (x : X) (w : World) (r : Ending) (w' : World) : Prop := ∃ b : Bool, r = .returned (.bool b) ∧ (b = false → Txn.Short x) ∧ (Txn.Short x → b = false) ∧ Below w.heap.size w w'
theorem BigTx.yes {x : X} {w w' : World} (n : ¬ Txn.Short x) (h : Below w.heap.size w w') : BigTx x w (.returned (.bool true)) w' := ⟨true, rfl, (fun h => by cases h), (fun h => absurd h n), h⟩
theorem BigTx.no {x : X} {w w' : World} (n : Txn.Short x) (h : Below w.heap.size w w') : BigTx x w (.returned (.bool false)) w' := ⟨false, rfl, (fun _ => n), (fun _ => rfl), h⟩
end Go.Proofs.YtlckcfpdiigjiaaDoor
namespace Go.Proofs.YtlckcfpdiigjiaaDoor
open Go.RowKit

end Go.Proofs.YtlckcfpdiigjiaaDoor
namespace Go.Proofs.YtlckcfpdiigjiaaDoor
open Go.RowKit

end Go.Proofs.YtlckcfpdiigjiaaDoor
namespace Go.Proofs.YtlckcfpdiigjiaaDoor
open Go.RowKit

end Go.Proofs.YtlckcfpdiigjiaaDoor
namespace Go.Proofs.YtlckcfpdiigjiaaDoor
open Go.RowKit

/-- What is left to be read behind k texts, against the whole. -/
def Code.Left (Q : List (List UInt8) × List UInt8 × Int) (n k : Nat) (each : Int) (r : List UInt8) (O : List (List UInt8)) (c : Int) : Prop :=
  (c = 0 ∧ Q.2.2 = (Code.readN (n - k) each r).2.2 ∧ (Q.2.2 = 0 → Q.1 = O ++ (Code.readN (n - k) each r).1 ∧ Q.2.1 = (Code.readN (n - k) each r).2.1)) ∨ (c ≠ 0 ∧ Q.2.2 = c)
theorem Code.Left.bad {Q : List (List UInt8) × List UInt8 × Int} {n k : Nat} {each : Int} {r : List UInt8} {O : List (List UInt8)} (h : Code.Left Q n k each r O 0) (hk : k < n) (he : (Code.textR each r).2.2 ≠ 0) (r' : List UInt8) (O' : List (List UInt8)) : Code.Left Q n (k + 1) each r' O' (Code.textR each r).2.2 := by
  rcases h with ⟨_, h1, h2⟩ | ⟨h, _⟩
  · refine Or.inr ⟨he, ?_⟩
    obtain ⟨m, hm⟩ : ∃ m, n - k = m + 1 := ⟨n - k - 1, by omega⟩
    rw [h1, hm, Code.readN, if_pos he]
  · exact absurd rfl h
theorem Code.Left.good {Q : List (List UInt8) × List UInt8 × Int} {n k : Nat} {each : Int} {r : List UInt8} {O : List (List UInt8)} (h : Code.Left Q n k each r O 0) (hk : k < n) (he : (Code.textR each r).2.2 = 0) : Code.Left Q n (k + 1) each (Code.textR each r).2.1 (O ++ [(Code.textR each r).1]) 0 := by
  rcases h with ⟨_, h1, h2⟩ | ⟨h, _⟩
  · refine Or.inl ⟨rfl, ?_⟩
    obtain ⟨m, hm⟩ : ∃ m, n - k = m + 1 := ⟨n - k - 1, by omega⟩
    have hm' : n - (k + 1) = m := by omega
    rw [hm, Code.readN, if_neg (by simpa using he)] at h1 h2
    rw [hm']
    refine ⟨h1, fun q => ?_⟩
    obtain ⟨h3, h4⟩ := h2 q
    exact ⟨by rw [h3]; simp, h4⟩
  · exact absurd rfl h

theorem Own.only {w w' : World} {B g : Nat} {v : Value} {L : List (List UInt8)} (h : Own w B v L) (ho : Only g w w') (hg : g < B) : Own w' B v L := by
  refine ⟨h.1, ?_⟩
  rcases h.2 with hn | ⟨k, cap, cur, hv, hb, hk, hr⟩
  · exact Or.inl hn
  · exact Or.inr ⟨k, cap, cur, hv, hb, (ho.block k (lt_of_heap hk) (by omega)).trans hk, hr⟩

end Go.Proofs.YtlckcfpdiigjiaaDoor
namespace Go.Proofs.YtlckcfpdiigjiaaDoor
open Go.RowKit

end Go.Proofs.YtlckcfpdiigjiaaDoor
namespace Go.Proofs.YtlckcfpdiigjiaaDoor
open Go.RowKit

theorem results_c1t {P : Program} {fn : Func} {p u : Tmp} {ty : TypeId} (h : fn.results = #[.cell p ty, .tmp u]) (tmps : Array Value) (w : World) (g : Nat) (t : TypeId) (cs : Array Value) (fr : Nat × Nat) (d : TypeDesc)
    (hp : tmps.getD p undef = .pointer (some ⟨g, 0, none⟩)) (hg : w.heap[g]? = some (.cells cs t fr))
    (hu : P.underlying ty = some d) (hd : (match d with | .struct _ | .array _ _ => true | _ => false) = true) (hi : (P.info? ty).map (·.size) = some cs.size) :
    (results fn tmps).run P w = .ok (.tuple #[.agg cs, tmps.getD u undef]) w := by
  have hp' : tmps[p]?.getD undef = .pointer (some ⟨g, 0, none⟩) := by simpa using hp
  simp [results, h, hp', asAddr, run_loadVar_row w g t ty cs fr d hg hu hd hi]
end Go.Proofs.YtlckcfpdiigjiaaDoor
namespace Go.Proofs.YtlckcfpdiigjiaaDoor
open Go.RowKit
attribute [local go_sem ↓] Go.wp_at_zero Go.wp_at_succ

namespace Sha
def tell4 (x : Int) : List UInt8 := [byteOf (x / 16777216), byteOf (x / 65536), byteOf (x / 256), byteOf x]
def tell (L : List Int) : Nat → List UInt8
  | 0 => []
  | k + 1 => tell L k ++ tell4 (L.getD k 0)
end Sha
end Go.Proofs.YtlckcfpdiigjiaaDoor
namespace Go.Proofs.YtlckcfpdiigjiaaDoor
open Go.RowKit

end Go.Proofs.YtlckcfpdiigjiaaDoor
namespace Go.Proofs.YtlckcfpdiigjiaaDoor
open Go.RowKit
attribute [local go_sem ↓] Go.wp_at_zero Go.wp_at_succ

end Go.Proofs.YtlckcfpdiigjiaaDoor
namespace Go.Proofs.YtlckcfpdiigjiaaDoor
open Go.RowKit

end Go.Proofs.YtlckcfpdiigjiaaDoor
namespace Go.Proofs.YtlckcfpdiigjiaaDoor
open Go.RowKit

end Go.Proofs.YtlckcfpdiigjiaaDoor
namespace Go.Proofs.YtlckcfpdiigjiaaDoor
open Go.RowKit
open Go.Proofs.YtlckcfpdiigjiaaDoor.Pw (M)

end Go.Proofs.YtlckcfpdiigjiaaDoor
namespace Go.Proofs.YtlckcfpdiigjiaaDoor
open Go.RowKit
open Sto (T St)
open Go.Proofs.YtlckcfpdiigjiaaDoor.Pw (M)
open Go.Proofs.YtlckcfpdiigjiaaDoor.Exc (A)

/-- An account as a value; in block q. -/
def accval (a : A) : Value := .agg #[.string ⟨a.name.toArray⟩, .int .i64 a.amt, .int .i64 a.seq]
def AccAt (w : World) (q : Nat) (a : A) : Prop := w.heap[q]? = some (.cells #[.string ⟨a.name.toArray⟩, .int .i64 a.amt, .int .i64 a.seq] 44 (0, 0))
theorem AccAt.below {w w' : World} {q : Nat} {a : A} (h : AccAt w q a) (hb : Below w.heap.size w w') : AccAt w' q a := (hb.block q (lt_of_heap h)).trans h
theorem AccAt.cells {w : World} {q : Nat} {a : A} (h : AccAt w q a) : w.cell? ⟨q, 0, none⟩ = some (.string ⟨a.name.toArray⟩) ∧ w.cell? ⟨q, 1, none⟩ = some (.int .i64 a.amt) ∧ w.cell? ⟨q, 2, none⟩ = some (.int .i64 a.seq) :=
  ⟨by rw [cell_of_row _ _ 0 _ _ _ h]; rfl, by rw [cell_of_row _ _ 1 _ _ _ h]; rfl, by rw [cell_of_row _ _ 2 _ _ _ h]; rfl⟩
theorem AccAt.free {w : World} {q : Nat} {a : A} (h : AccAt w q a) (i : Nat) : w.frozen? ⟨q, i, none⟩ = false := frozen_of_row _ _ _ _ _ h
theorem AccAt.setAmt {w : World} {q : Nat} {a : A} (h : AccAt w q a) (n : Int) : AccAt (w.setCell ⟨q, 1, none⟩ (.int .i64 n)) q { a with amt := n } := by
  have := heap_setCell_same _ _ 1 _ _ (.int .i64 n) h
  simpa [AccAt] using this
theorem AccAt.setSeq {w : World} {q : Nat} {a : A} (h : AccAt w q a) (n : Int) : AccAt (w.setCell ⟨q, 2, none⟩ (.int .i64 n)) q { a with seq := n } := by
  have := heap_setCell_same _ _ 2 _ _ (.int .i64 n) h
  simpa [AccAt] using this
def putAcc (w : World) (q : Nat) (a : A) : World := ((w.setCell ⟨q, 0, none⟩ (.string ⟨a.name.toArray⟩)).setCell ⟨q, 1, none⟩ (.int .i64 a.amt)).setCell ⟨q, 2, none⟩ (.int .i64 a.seq)
theorem AccAt.put {w : World} {q : Nat} {b : A} (a : A) (h : AccAt w q b) : AccAt (putAcc w q a) q a := by
  have h0 := heap_setCell_same _ _ 0 _ _ (.string ⟨a.name.toArray⟩) h
  have h1 := heap_setCell_same _ _ 1 _ _ (.int .i64 a.amt) h0
  have h2 := heap_setCell_same _ _ 2 _ _ (.int .i64 a.seq) h1
  simpa [AccAt, putAcc] using h2
theorem putAcc_only (w : World) (q : Nat) (a : A) : Only q w (putAcc w q a) :=
  (((Only.refl q w).setCell (p := ⟨q, 0, none⟩) rfl _).setCell (p := ⟨q, 1, none⟩) rfl _).setCell (p := ⟨q, 2, none⟩) rfl _
theorem acc_box (a : A) (w : World) : ∃ w0, w.alloc (.cells #[.string ⟨a.name.toArray⟩, .int .i64 a.amt, .int .i64 a.seq] 44) = w0 ∧ Below w.heap.size w w0 ∧ AccAt w0 w.heap.size a :=
  ⟨_, rfl, (Below.refl _ w).alloc (Nat.le_refl _) _, heap_alloc_new w _⟩
set_option maxRecDepth 100000 in
theorem sizeAcc : (Tryd.prog.info? 44).map (·.size) = some 3 := by kernel_rfl
theorem ret_acc {fn : Func} {p u : Tmp} (h : fn.results = #[.cell p 44, .tmp u]) (tmps : Array Value) (w : World) (q : Nat) (a : A) (hp : tmps.getD p undef = .pointer (some ⟨q, 0, none⟩)) (hx : AccAt w q a) :
    (results fn tmps).run Tryd.prog w = .ok (.tuple #[accval a, tmps.getD u undef]) w :=
  results_c1t h tmps w q _ _ (0, 0) _ hp hx Tryd.underlying44 rfl sizeAcc
theorem ret_putAcc {fn : Func} {p u : Tmp} (h : fn.results = #[.cell p 44, .tmp u]) (tmps : Array Value) (w : World) (q : Nat) (a : A) {b : A} (hp : tmps.getD p undef = .pointer (some ⟨q, 0, none⟩)) (hx : AccAt w q b) :
    (results fn tmps).run Tryd.prog (putAcc w q a) = .ok (.tuple #[accval a, tmps.getD u undef]) (putAcc w q a) := ret_acc h tmps _ q a hp (hx.put a)

end Go.Proofs.YtlckcfpdiigjiaaDoor
namespace Go.Proofs.YtlckcfpdiigjiaaDoor.Exc
open Sto (T St Rising)
open Go.Proofs.YtlckcfpdiigjiaaDoor.Pw (M)
open Go.Proofs.YtlckcfpdiigjiaaDoor.Txn (X)

theorem acc_code {S : St} {n : T} (hn : Txn.nameB n = true) (h : (acc S n).2 ≠ 0) : acc S n = (A.zero, 3) := by
  unfold acc at h ⊢
  rw [hn, if_neg (by decide)] at h ⊢
  cases hl : Sto.look S (aK n) with
  | none => rw [hl] at h; exact absurd rfl h
  | some v =>
    rw [hl] at h
    dsimp only at h ⊢
    cases ht : told v with
    | none => rfl
    | some p =>
      obtain ⟨a, s⟩ := p
      rw [ht] at h
      exact absurd rfl h
theorem acc_none {S : St} {n : T} (hn : Txn.nameB n = true) (h : Sto.look S (aK n) = none) : acc S n = (⟨n, 0, 0⟩, 0) := by
  unfold acc
  rw [hn, if_neg (by decide), h]

/-! ### the chapter's example -/
def wA : List A := [⟨[97], 9, 0⟩]
def wM : List M := [⟨[118], 1⟩]
def wX : X := ⟨1, [97], 0, [98], 5, [], [], []⟩
theorem work_gen : ∃ S, genP wA wM = (S, 0) ∧ acc S [97] = (⟨[97], 9, 0⟩, 0) ∧ acc S [98] = (⟨[98], 0, 0⟩, 0) ∧ Rising S ∧ S.length ≤ 2 := by
  have hm : Pw.okL wM = true := by decide
  refine ⟨Tri.put (Tri.put [] (aK [97]) (valS 9 0)) sK (Pw.digL wM), ?_, ?_, ?_, ?_, ?_⟩
  · have hg : genF [] wA = (Tri.put [] (aK [97]) (valS 9 0), 0) := by
      unfold wA
      rw [genF, if_neg (by decide), if_neg (by simp [Sto.look]), genF]
    unfold genP
    rw [if_neg (by decide), hg, if_neg (by simp), hm, if_neg (by decide)]
  · rw [acc_other (S := Tri.put [] (aK [97]) (valS 9 0)) _ (by rw [Tri.look_put _ _ _ _ (Tri.put_rising List.Pairwise.nil _ _), if_neg (aK_sK _)])]
    exact acc_put List.Pairwise.nil (by decide) (by decide) (by decide)
  · refine acc_none (by decide) ?_
    rw [Tri.look_put _ _ _ _ (Tri.put_rising List.Pairwise.nil _ _), if_neg (aK_sK _), Tri.look_put _ _ _ _ List.Pairwise.nil, if_neg (by decide)]
    rfl
  · exact Tri.put_rising (Tri.put_rising List.Pairwise.nil _ _) _ _
  · rw [Tri.put_len, Tri.put_len]
    split <;> split <;> simp
theorem work_do {S : St} (h1 : acc S [97] = (⟨[97], 9, 0⟩, 0)) (h2 : acc S [98] = (⟨[98], 0, 0⟩, 0)) (hS : Rising S) (hl : S.length ≤ 2) :
    ∃ R, doP S wX = (R, 0) ∧ acc R [97] = (⟨[97], 4, 1⟩, 0) ∧ acc R [98] = (⟨[98], 5, 0⟩, 0) ∧ doP R wX = ([], 160) := by
  have hf : Txn.fine wX = true := by decide
  have e : doP S wX = (Tri.put (Tri.put S (aK [98]) (valS 5 0)) (aK [97]) (valS 4 1), 0) := by
    unfold doP
    have k1 : wX.kind = 1 := rfl
    have k2 : wX.frm = [97] := rfl
    have k3 : wX.dst = [98] := rfl
    have k4 : wX.seq = 0 := rfl
    have k5 : wX.amt = 5 := rfl
    have hv1 := valS_len (a := 5) (s := 0) (by decide) (by decide)
    have hv2 := valS_len (a := 4) (s := 1) (by decide) (by decide)
    have c1 : Tri.putC S (aK [98]) (valS 5 0) = 0 := putC_few (keyed_aK (by decide)) hv1.1 (by omega) (by omega)
    have c2 : Tri.putC (Tri.put S (aK [98]) (valS 5 0)) (aK [97]) (valS 4 1) = 0 := putC_few (keyed_aK (by decide)) hv2.1 (by omega) (by rw [Tri.put_len]; split <;> omega)
    rw [hf, if_neg (by decide), k2, k3, h1, h2]
    rw [if_neg (by rintro (h | ⟨-, h⟩) <;> exact h rfl), k4, if_neg (by rintro (h | h) <;> revert h <;> decide)]
    have hk : kindP S wX ⟨[97], 9, 0⟩ ⟨[98], 0, 0⟩ = (Tri.put S (aK [98]) (valS 5 0), 0, 4) := by
      unfold kindP
      rw [k1, if_pos rfl, k5, if_neg (by decide), k2, k3, if_neg (by decide), if_neg (by decide)]
      show (Tri.put S (aK [98]) (valS 5 0), ((Tri.putC S (aK [98]) (valS 5 0) : Nat) : Int), (4 : Int)) = _
      rw [c1]
      rfl
    show lastP [97] 0 (kindP S wX ⟨[97], 9, 0⟩ ⟨[98], 0, 0⟩) = _
    rw [hk]
    unfold lastP
    rw [if_neg (by simp)]
    show (if Tri.putC (Tri.put S (aK [98]) (valS 5 0)) (aK [97]) (valS 4 1) ≠ 0 then _ else _) = _
    rw [if_neg (by rw [c2]; decide)]
    rfl
  refine ⟨_, e, ?_, ?_, ?_⟩
  · exact acc_put (Tri.put_rising hS _ _) (by decide) (by decide) (by decide)
  · rw [acc_other (S := Tri.put S (aK [98]) (valS 5 0)) _ (by rw [Tri.look_put _ _ _ _ (Tri.put_rising hS _ _), if_neg (by decide)])]
    exact acc_put hS (by decide) (by decide) (by decide)
  · exact (do_done e).again hS

/-! ### more on what is done -/
/-- What a transaction without an error leaves can't be done again; the code. -/
theorem do_again {S R : St} {x : X} (hS : Rising S) (h : doP S x = (R, 0)) : doP R x = ([], 160) := (do_done h).again hS
/-- From's Seq behind it. -/
theorem do_from {S R : St} {x : X} (hS : Rising S) (h : doP S x = (R, 0)) : (acc R x.frm).2 = 0 ∧ (acc R x.frm).1.seq = x.seq + 1 := by
  obtain ⟨a, ha⟩ := (do_done h).from_ hS
  rw [ha]
  exact ⟨rfl, rfl⟩
/-- The last step of one that is not refused. -/
theorem do_last {S : St} {x : X} (h : Txn.fine x = true) (h1 : (acc S x.frm).2 = 0) (h2 : x.kind = 1 → (acc S x.dst).2 = 0) (h3 : (acc S x.frm).1.seq = x.seq) (h4 : x.seq ≠ most) :
    doP S x = lastP x.frm x.seq (kindP S x (acc S x.frm).1 (acc S x.dst).1) := by
  unfold doP
  rw [h, if_neg (by decide), if_neg (by rintro (e | ⟨e, e2⟩); exact e h1; exact e2 (h2 e)), h3, if_neg (by rintro (e | e); exact e rfl; exact h4 e)]
/-! ### a state's other items -/
end Go.Proofs.YtlckcfpdiigjiaaDoor.Exc
namespace Go.Proofs.YtlckcfpdiigjiaaDoor.Tri
open Sto (T St Rising keys)

inductive Tr where
  | nil : Tr
  | leaf (p v : T) : Tr
  | ext (p : T) (t : Tr) : Tr
  | br (v : T) (k : Fin 16 → Tr) : Tr
def hb (i : Fin 16) : UInt8 := UInt8.ofNat i.val
theorem hb_toNat (i : Fin 16) : (hb i).toNat = i.val := by
  have := i.isLt
  simp [hb]; omega
theorem hb_inj {i j : Fin 16} (h : hb i = hb j) : i = j := Fin.ext (by rw [← hb_toNat, ← hb_toNat, h])
theorem hb_lt {i j : Fin 16} (h : i < j) : hb i < hb j := by rw [UInt8.lt_iff_toNat_lt, hb_toNat, hb_toNat]; exact h
/-- Items behind a path. -/
def behind (p : T) (l : St) : St := l.map fun x => (p ++ x.1, x.2)
def own (v : T) : St := if v = [] then [] else [([], v)]
def Tr.items : Tr → St
  | .nil => []
  | .leaf p v => [(p, v)]
  | .ext p t => behind p t.items
  | .br v k => own v ++ (List.finRange 16).flatMap fun i => behind [hb i] (k i).items
def Tr.isBr : Tr → Prop
  | .br _ _ => True
  | _ => False
def Tr.isNil : Tr → Prop
  | .nil => True
  | _ => False
def Tr.nilB : Tr → Bool
  | .nil => true
  | _ => false
theorem nilB_iff (t : Tr) : t.nilB = true ↔ t.isNil := by cases t <;> simp [Tr.nilB, Tr.isNil]
/-- What a branch has: two kids, or one and an item of its own. -/
def Two (v : T) (k : Fin 16 → Tr) : Prop := (∃ i j, i < j ∧ ¬ (k i).isNil ∧ ¬ (k j).isNil) ∨ (v ≠ [] ∧ ∃ i, ¬ (k i).isNil)
def Tr.canon : Tr → Prop
  | .nil => True
  | .leaf _ v => v ≠ []
  | .ext p t => p ≠ [] ∧ t.isBr ∧ t.canon
  | .br v k => (∀ i, (k i).canon) ∧ Two v k

theorem mem_behind {p : T} {l : St} {x : T × T} : x ∈ behind p l ↔ ∃ q, (q, x.2) ∈ l ∧ x.1 = p ++ q := by
  unfold behind
  rw [List.mem_map]
  constructor
  · rintro ⟨y, hy, rfl⟩; exact ⟨y.1, hy, rfl⟩
  · rintro ⟨q, hq, e⟩; exact ⟨(q, x.2), hq, Prod.ext e.symm rfl⟩
theorem mem_own {v : T} {x : T × T} : x ∈ own v ↔ x.1 = [] ∧ x.2 = v ∧ v ≠ [] := by
  unfold own
  by_cases h : v = []
  · simp [h]
  · rw [if_neg h, List.mem_singleton]
    exact ⟨fun e => by rw [e]; exact ⟨rfl, rfl, h⟩, fun ⟨a, b, _⟩ => Prod.ext a b⟩
theorem mem_br {v : T} {k : Fin 16 → Tr} {x : T × T} : x ∈ (Tr.br v k).items ↔ (x.1 = [] ∧ x.2 = v ∧ v ≠ []) ∨ ∃ i q, x.1 = hb i :: q ∧ (q, x.2) ∈ (k i).items := by
  rw [Tr.items, List.mem_append, mem_own, List.mem_flatMap]
  refine or_congr Iff.rfl ⟨?_, ?_⟩
  · rintro ⟨i, _, hx⟩
    obtain ⟨q, hq, e⟩ := mem_behind.1 hx
    exact ⟨i, q, by simpa using e, hq⟩
  · rintro ⟨i, q, e, hq⟩
    exact ⟨i, List.mem_finRange i, mem_behind.2 ⟨q, hq, by simpa using e⟩⟩
theorem append_lt (p a b : T) : p ++ a < p ++ b ↔ a < b := by
  induction p with
  | nil => rfl
  | cons x p ih => rw [List.cons_append, List.cons_append, List.cons_lt_cons_iff]; simp [ih]
theorem behind_rising (p : T) {l : St} : Rising (behind p l) ↔ Rising l := by
  unfold Rising behind
  rw [List.pairwise_map]
  simp only [append_lt]
theorem rising_append {a b : St} (ha : Rising a) (hb : Rising b) (h : ∀ x ∈ a, ∀ y ∈ b, x.1 < y.1) : Rising (a ++ b) := List.pairwise_append.2 ⟨ha, hb, h⟩
theorem flat_rising (f : Fin 16 → St) (hf : ∀ i, Rising (f i)) (hx : ∀ i j, i < j → ∀ x ∈ f i, ∀ y ∈ f j, x.1 < y.1) (l : List (Fin 16)) (hl : l.Pairwise (· < ·)) : Rising (l.flatMap f) := by
  induction l with
  | nil => exact List.Pairwise.nil
  | cons i l ih =>
    obtain ⟨h1, h2⟩ := List.pairwise_cons.1 hl
    rw [List.flatMap_cons]
    refine rising_append (hf i) (ih h2) fun x m y n => ?_
    obtain ⟨j, hj, hy⟩ := List.mem_flatMap.1 n
    exact hx i j (h1 j hj) x m y hy
theorem fin_rise : (List.finRange 16).Pairwise (· < ·) := by decide
theorem cons_lt {a b : UInt8} {s t : T} (h : a < b) : a :: s < b :: t := List.cons_lt_cons_iff.2 (Or.inl h)
/-- The items of a tree rise. -/
theorem items_rising (t : Tr) : Rising t.items := by
  induction t with
  | nil => exact List.Pairwise.nil
  | leaf p v => exact List.pairwise_singleton ..
  | ext p t ih => exact (behind_rising p).2 ih
  | br v k ih =>
    refine rising_append (by unfold own; split; exact List.Pairwise.nil; exact List.pairwise_singleton ..) (flat_rising _ (fun i => (behind_rising _).2 (ih i)) (fun i j hij x hx y hy => ?_) _ fin_rise) fun x hx y hy => ?_
    · obtain ⟨q, _, e⟩ := mem_behind.1 hx
      obtain ⟨r, _, e2⟩ := mem_behind.1 hy
      rw [e, e2]
      exact cons_lt (hb_lt hij)
    · obtain ⟨e, _, _⟩ := mem_own.1 hx
      obtain ⟨i, _, hi⟩ := List.mem_flatMap.1 hy
      obtain ⟨r, _, e2⟩ := mem_behind.1 hi
      rw [e, e2]
      exact List.nil_lt_cons _ _
theorem items_nil {t : Tr} (h : t.canon) : t.items = [] ↔ t.isNil := by
  induction t with
  | nil => simp [Tr.items, Tr.isNil]
  | leaf p v => simp [Tr.items, Tr.isNil]
  | ext p t ih =>
    obtain ⟨_, h2, h3⟩ := h
    simp only [Tr.items, Tr.isNil, iff_false, behind, List.map_eq_nil_iff]
    rw [ih h3]
    cases t <;> simp_all [Tr.isBr, Tr.isNil]
  | br v k ih =>
    obtain ⟨h1, h2⟩ := h
    simp only [Tr.isNil, iff_false]
    intro e
    have hk : ∀ i, (k i).isNil := fun i => (ih i (h1 i)).1 (List.eq_nil_iff_forall_not_mem.2 fun x hx => by
      have : (hb i :: x.1, x.2) ∈ (Tr.br v k).items := mem_br.2 (Or.inr ⟨i, x.1, rfl, hx⟩)
      rw [e] at this; cases this)
    rcases h2 with ⟨i, _, _, h, _⟩ | ⟨_, i, h⟩ <;> exact h (hk i)
/-- A branch's items do not all begin with one half byte. -/
theorem br_apart {v : T} {k : Fin 16 → Tr} (h : (Tr.br v k).canon) : (∃ x ∈ (Tr.br v k).items, x.1 = []) ∧ (∃ x ∈ (Tr.br v k).items, x.1 ≠ []) ∨ ∃ x ∈ (Tr.br v k).items, ∃ y ∈ (Tr.br v k).items, ∃ i j q r, i < j ∧ x.1 = hb i :: q ∧ y.1 = hb j :: r := by
  obtain ⟨h1, h2⟩ := h
  have some : ∀ i, ¬ (k i).isNil → ∃ x : T × T, x ∈ (k i).items := fun i hi => by
    cases hx : (k i).items with
    | nil => exact absurd ((items_nil (h1 i)).1 hx) hi
    | cons a l => exact ⟨a, List.mem_cons_self ..⟩
  rcases h2 with ⟨i, j, hij, hi, hj⟩ | ⟨hv, i, hi⟩
  · obtain ⟨x, hx⟩ := some i hi
    obtain ⟨y, hy⟩ := some j hj
    exact Or.inr ⟨(hb i :: x.1, x.2), mem_br.2 (Or.inr ⟨i, x.1, rfl, hx⟩), (hb j :: y.1, y.2), mem_br.2 (Or.inr ⟨j, y.1, rfl, hy⟩), i, j, x.1, y.1, hij, rfl, rfl⟩
  · obtain ⟨x, hx⟩ := some i hi
    exact Or.inl ⟨⟨([], v), mem_br.2 (Or.inl ⟨rfl, rfl, hv⟩), rfl⟩, ⟨(hb i :: x.1, x.2), mem_br.2 (Or.inr ⟨i, x.1, rfl, hx⟩), by simp⟩⟩
/-- No half byte begins all items of a branch. -/
theorem br_all {v : T} {k : Fin 16 → Tr} (h : (Tr.br v k).canon) (b : UInt8) : ¬ ∀ x ∈ (Tr.br v k).items, ∃ q, x.1 = b :: q := by
  intro ha
  rcases br_apart h with ⟨⟨x, hx, e⟩, _⟩ | ⟨x, hx, y, hy, i, j, q, r, hij, e1, e2⟩
  · obtain ⟨q, e2⟩ := ha x hx
    rw [e] at e2; cases e2
  · obtain ⟨q2, f1⟩ := ha x hx
    obtain ⟨r2, f2⟩ := ha y hy
    rw [e1] at f1; rw [e2] at f2
    have := hb_inj ((List.cons.inj f1).1.trans (List.cons.inj f2).1.symm)
    subst this; exact absurd hij (by simp)
theorem br_two {v : T} {k : Fin 16 → Tr} (h : (Tr.br v k).canon) : 2 ≤ (Tr.br v k).items.length := by
  cases hl : (Tr.br v k).items with
  | nil => exact absurd ((items_nil h).1 hl) (by simp [Tr.isNil])
  | cons a l =>
    cases l with
    | cons b l => simp
    | nil =>
      exfalso
      have hm : ∀ x ∈ (Tr.br v k).items, x = a := fun x hx => by rw [hl] at hx; simpa using hx
      rcases br_apart h with ⟨⟨x, hx, e⟩, ⟨y, hy, e2⟩⟩ | ⟨x, hx, y, hy, i, j, q, r, hij, e1, e2⟩
      · rw [hm x hx] at e; rw [hm y hy] at e2; exact e2 e
      · rw [hm x hx] at e1; rw [hm y hy, e1] at e2
        have := hb_inj (List.cons.inj e2).1
        subst this; exact absurd hij (by simp)
theorem ext_br {p : T} {t : Tr} (h : (Tr.ext p t).canon) : ∃ v k, t = .br v k ∧ (Tr.br v k).canon := by
  obtain ⟨_, h2, h3⟩ := h
  cases t with
  | br v k => exact ⟨v, k, rfl, h3⟩
  | nil => cases h2
  | leaf _ _ => cases h2
  | ext _ _ => cases h2
/-- The items of a kid. -/
def under (i : Fin 16) (l : St) : St := l.filterMap fun x => match x.1 with
  | [] => none
  | b :: q => if b = hb i then some (q, x.2) else none
theorem under_append (i : Fin 16) (a b : St) : under i (a ++ b) = under i a ++ under i b := by unfold under; rw [List.filterMap_append]
theorem under_own (i : Fin 16) (v : T) : under i (own v) = [] := by
  unfold own; split
  · rfl
  · rfl
theorem under_behind (i j : Fin 16) (l : St) : under i (behind [hb j] l) = if j = i then l else [] := by
  induction l with
  | nil => simp [behind, under]
  | cons a l ih =>
    have e : under i (behind [hb j] (a :: l)) = (if hb j = hb i then [(a.1, a.2)] else []) ++ under i (behind [hb j] l) := by
      unfold under behind
      rw [List.map_cons, List.filterMap_cons]
      by_cases h : hb j = hb i <;> simp [h]
    rw [e, ih]
    by_cases h : j = i
    · subst h; simp
    · rw [if_neg (fun h2 => h (hb_inj h2)), if_neg h, if_neg h]; rfl
theorem under_flat (i : Fin 16) (f : Fin 16 → St) (l : List (Fin 16)) (hl : l.Nodup) (hi : i ∈ l) : under i (l.flatMap fun j => behind [hb j] (f j)) = f i := by
  induction l with
  | nil => cases hi
  | cons j l ih =>
    obtain ⟨h1, h2⟩ := List.nodup_cons.1 hl
    rw [List.flatMap_cons, under_append, under_behind]
    by_cases e : j = i
    · subst e
      rw [if_pos rfl]
      have : ∀ l : List (Fin 16), j ∉ l → under j (l.flatMap fun k => behind [hb k] (f k)) = [] := by
        intro l
        induction l with
        | nil => intro _; rfl
        | cons k l ih =>
          intro hn
          rw [List.flatMap_cons, under_append, under_behind, if_neg (fun (e : k = j) => hn (by rw [e]; exact List.mem_cons_self ..)), ih (fun m => hn (List.mem_cons_of_mem _ m))]; rfl
      rw [this l h1, List.append_nil]
    · rw [if_neg e, List.nil_append]
      exact ih h2 ((List.mem_cons.1 hi).resolve_left (fun h => e h.symm))
theorem under_br (i : Fin 16) (v : T) (k : Fin 16 → Tr) : under i (Tr.br v k).items = (k i).items := by
  rw [Tr.items, under_append, under_own, List.nil_append]
  exact under_flat i (fun j => (k j).items) _ (List.nodup_finRange 16) (List.mem_finRange i)
theorem own_br {v w : T} {k m : Fin 16 → Tr} (h : (Tr.br v k).items = (Tr.br w m).items) : v = w := by
  have key : ∀ {v w : T} {k m : Fin 16 → Tr}, (Tr.br v k).items = (Tr.br w m).items → v ≠ [] → v = w := by
    intro v w k m h hv
    have : (([] : T), v) ∈ (Tr.br w m).items := h ▸ mem_br.2 (Or.inl ⟨rfl, rfl, hv⟩)
    rcases mem_br.1 this with ⟨_, e, _⟩ | ⟨i, q, e, _⟩
    · exact e
    · cases e
  by_cases hv : v = []
  · by_cases hw : w = []
    · rw [hv, hw]
    · exact (key h.symm hw).symm
  · exact key h hv
theorem behind_inj {p : T} {a b : St} (h : behind p a = behind p b) : a = b := by
  unfold behind at h
  refine (List.map_inj_right fun x y e => ?_).1 h
  have := congrArg Prod.fst e
  have e2 := congrArg Prod.snd e
  exact Prod.ext (List.append_cancel_left this) e2
theorem behind_append (p q : T) (l : St) : behind (p ++ q) l = behind p (behind q l) := by
  unfold behind; rw [List.map_map]; congr 1; funext x; simp
/-- A canonical tree hangs on its items alone. -/
theorem canon_one {t u : Tr} (ht : t.canon) (hu : u.canon) (h : t.items = u.items) : t = u := by
  induction t generalizing u with
  | nil =>
    have := (items_nil hu).1 h.symm
    cases u with
    | nil => rfl
    | _ => cases this
  | leaf p v =>
    cases u with
    | nil => cases h
    | leaf q w =>
      simp only [Tr.items, List.cons.injEq, Prod.mk.injEq, and_true] at h
      rw [h.1, h.2]
    | ext q u =>
      obtain ⟨w, m, rfl, hb⟩ := ext_br hu
      have := br_two hb
      have e := congrArg List.length h
      rw [Tr.items, Tr.items, behind, List.length_map] at e
      simp only [List.length_singleton] at e
      omega
    | br w m =>
      have := br_two hu
      rw [← h] at this; simp [Tr.items] at this
  | ext p t ih =>
    obtain ⟨v, k, rfl, hbr⟩ := ext_br ht
    cases u with
    | nil => have := br_two hbr; have e := congrArg List.length h; rw [Tr.items, Tr.items, behind, List.length_map] at e; simp only [List.length_nil] at e; omega
    | leaf q w => have := br_two hbr; have e := congrArg List.length h; rw [Tr.items, Tr.items, behind, List.length_map] at e; simp only [List.length_singleton] at e; omega
    | br w m =>
      exfalso
      obtain ⟨b, p', rfl⟩ := List.exists_cons_of_ne_nil ht.1
      refine br_all hu b fun x hx => ?_
      rw [← h, Tr.items] at hx
      obtain ⟨q, _, e⟩ := mem_behind.1 hx
      exact ⟨p' ++ q, by rw [e]; rfl⟩
    | ext q u =>
      obtain ⟨w, m, rfl, hbr2⟩ := ext_br hu
      have step : ∀ {p q : T} {v w : T} {k m : Fin 16 → Tr}, (Tr.br w m).canon → behind p (Tr.br v k).items = behind q (Tr.br w m).items → ∀ r b, p ≠ q ++ b :: r := by
        intro p q v w k m hc h r b e
        subst e
        rw [behind_append] at h
        have := behind_inj h
        refine br_all hc b fun x hx => ?_
        rw [← this] at hx
        obtain ⟨s, _, e⟩ := mem_behind.1 hx
        exact ⟨r ++ s, by rw [e]; rfl⟩
      have h : behind p (Tr.br v k).items = behind q (Tr.br w m).items := h
      have hpq : p = q := by
        obtain ⟨a, la, hla⟩ : ∃ a la, (Tr.br v k).items = a :: la := List.exists_cons_of_ne_nil (fun e => by have := br_two hbr; rw [e] at this; simp at this)
        have hm : (p ++ a.1, a.2) ∈ behind q (Tr.br w m).items := by
          rw [← h]; exact mem_behind.2 ⟨a.1, by rw [hla]; exact List.mem_cons_self .., rfl⟩
        obtain ⟨s, _, e⟩ := mem_behind.1 hm
        rcases List.append_eq_append_iff.1 e with ⟨r, e1, _⟩ | ⟨r, e1, _⟩
        · cases r with
          | nil => simpa using e1.symm
          | cons b r => exact absurd e1 (step hbr h.symm r b)
        · cases r with
          | nil => simpa using e1
          | cons b r => exact absurd e1 (step hbr2 h r b)
      subst hpq
      rw [ih hbr hbr2 (behind_inj h)]
  | br v k ih =>
    cases u with
    | nil => have := br_two ht; rw [h] at this; simp [Tr.items] at this
    | leaf q w => have := br_two ht; rw [h] at this; simp [Tr.items] at this
    | ext q u =>
      exfalso
      obtain ⟨b, q', rfl⟩ := List.exists_cons_of_ne_nil hu.1
      refine br_all ht b fun x hx => ?_
      rw [h, Tr.items] at hx
      obtain ⟨s, _, e⟩ := mem_behind.1 hx
      exact ⟨q' ++ s, by rw [e]; rfl⟩
    | br w m =>
      have hv := own_br h
      subst hv
      have hk : k = m := funext fun i => ih i (ht.1 i) (hu.1 i) (by rw [← under_br i v k, ← under_br i v m, h])
      rw [hk]
end Go.Proofs.YtlckcfpdiigjiaaDoor.Tri
