/- The reader in memory: a block of two cells; what a store into it leaves; the world but for it. -/
import Derived.Test.YtdnceliakppcpaaNibBase
import Derived.Test.YtdnceliakppcpaaCodeMath
import Derived.OneCell
import Derived.Lib.Hide
namespace Go.Proofs.Ytdnceliakppcpaa
open Go.RowKit

def Rd (w : World) (g : Nat) (s : List UInt8) (c : Int) : Prop := w.heap[g]? = some (.cells #[.string ⟨s.toArray⟩, .int .i64 c] 47 (0, 0))
theorem Rd.lt {w : World} {g : Nat} {s : List UInt8} {c : Int} (h : Rd w g s c) : g < w.heap.size := lt_of_block h
theorem Rd.left {w : World} {g : Nat} {s : List UInt8} {c : Int} (h : Rd w g s c) : w.cell? ⟨g, 0, none⟩ = some (.string ⟨s.toArray⟩) := by unfold Rd at h; simp [World.cell?, h]
theorem Rd.code {w : World} {g : Nat} {s : List UInt8} {c : Int} (h : Rd w g s c) : w.cell? ⟨g, 1, none⟩ = some (.int .i64 c) := by unfold Rd at h; simp [World.cell?, h]
theorem Rd.free0 {w : World} {g : Nat} {s : List UInt8} {c : Int} (h : Rd w g s c) : w.frozen? ⟨g, 0, none⟩ = false := by unfold Rd at h; simp [World.frozen?, h]
theorem Rd.free1 {w : World} {g : Nat} {s : List UInt8} {c : Int} (h : Rd w g s c) : w.frozen? ⟨g, 1, none⟩ = false := by unfold Rd at h; simp [World.frozen?, h]
theorem Rd.setLeft {w : World} {g : Nat} {s : List UInt8} {c : Int} (h : Rd w g s c) (t : List UInt8) : Rd (w.setCell ⟨g, 0, none⟩ (.string ⟨t.toArray⟩)) g t c := by
  have hlt := h.lt
  unfold Rd at h
  have h' : w.heap[g] = .cells #[.string ⟨s.toArray⟩, .int .i64 c] 47 (0, 0) := by simpa [Array.getElem?_eq_getElem hlt] using h
  show (w.heap.modify g _)[g]? = _
  rw [Array.getElem?_eq_getElem (by simpa using hlt), Array.getElem_modify_self, h']
  rfl
theorem Rd.setCode {w : World} {g : Nat} {s : List UInt8} {c : Int} (h : Rd w g s c) (d : Int) : Rd (w.setCell ⟨g, 1, none⟩ (.int .i64 d)) g s d := by
  have hlt := h.lt
  unfold Rd at h
  have h' : w.heap[g] = .cells #[.string ⟨s.toArray⟩, .int .i64 c] 47 (0, 0) := by simpa [Array.getElem?_eq_getElem hlt] using h
  show (w.heap.modify g _)[g]? = _
  rw [Array.getElem?_eq_getElem (by simpa using hlt), Array.getElem_modify_self, h']
  rfl
theorem Rd.new (w : World) (s : List UInt8) (c : Int) : Rd (w.alloc (.cells #[.string ⟨s.toArray⟩, .int .i64 c] 47)) w.heap.size s c := heap_alloc_new w _

/-- The world but for block g. -/
structure Only (g : Nat) (w w' : World) : Prop where
  os : w'.os = w.os
  tape : w'.tape = w.tape
  output : w'.output = w.output
  size : w.heap.size ≤ w'.heap.size
  block : ∀ k, k < w.heap.size → k ≠ g → w'.heap[k]? = w.heap[k]?
theorem Only.refl (g : Nat) (w : World) : Only g w w := ⟨rfl, rfl, rfl, Nat.le_refl _, fun _ _ _ => rfl⟩
theorem Only.trans {g : Nat} {a b c : World} (h : Only g a b) (k : Only g b c) : Only g a c :=
  ⟨k.os.trans h.os, k.tape.trans h.tape, k.output.trans h.output, Nat.le_trans h.size k.size, fun i hi hg => (k.block i (Nat.lt_of_lt_of_le hi h.size) hg).trans (h.block i hi hg)⟩
theorem Only.of {g : Nat} {a b : World} (h : Below a.heap.size a b) : Only g a b := ⟨h.os, h.tape, h.output, h.size, fun i hi _ => h.block i hi⟩
theorem Only.below {B g : Nat} {a b : World} (h : Only g a b) (hB : B ≤ g) (hs : B ≤ a.heap.size) : Below B a b := ⟨h.os, h.tape, h.output, h.size, fun i hi => h.block i (by omega) (by omega)⟩
theorem Only.setCell {g : Nat} {a w : World} (h : Only g a w) {p : Addr} (hp : p.block = g) (u : Value) : Only g a (w.setCell p u) :=
  ⟨h.os, h.tape, h.output, by have := h.size; simpa [World.setCell] using this, fun i hi hg => (Below.heap_setCell w p u i (by rw [hp]; exact hg)).trans (h.block i hi hg)⟩
theorem Only.cell {g : Nat} {w w' : World} (h : Only g w w') {p : Addr} {v : Value} (hc : w.cell? p = some v) (hp : p.block ≠ g) : w'.cell? p = some v :=
  (World.cell?_of_block (w := w) (h.block p.block (World.block_lt_of_cell? _ _ hc) hp)).trans hc
theorem Rd.below {w w' : World} {g : Nat} {s : List UInt8} {c : Int} (h : Rd w g s c) (hb : Below w.heap.size w w') : Rd w' g s c := (hb.block g h.lt).trans h

end Go.Proofs.Ytdnceliakppcpaa
