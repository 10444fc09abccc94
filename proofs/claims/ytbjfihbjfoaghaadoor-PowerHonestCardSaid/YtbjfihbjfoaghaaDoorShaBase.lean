/- What the walks over sums share: words as cells, the table of constants, new blocks. -/
import Derived.Test.YtbjfihbjfoaghaaDoorNibBase
import Derived.Test.YtbjfihbjfoaghaaDoorShaRot
import Derived.Lib.Hide
import Derived.Deep.QuietTactic
import Derived.BigQuiet
import Derived.Deep.WholeRow
import Derived.Deep.MidRow
import Derived.Laws.CopyOwn
import Derived.Deep.RegionHeld3
import Derived.Deep.DrawnRows
import Derived.Deep.Cut
import Derived.Deep.CutRange
namespace Go.Proofs.YtbjfihbjfoaghaaDoor
open Go.RowKit

/-- The words as cells. -/
def u32s (l : List Int) : Array Value := (l.map fun x => Value.int .u32 x).toArray
theorem u32s_at (l : List Int) (j : Nat) (hj : j < l.length) : (u32s l)[j]? = some (.int .u32 (l.getD j 0)) := by
  simp [u32s, hj]
theorem u32s_size (l : List Int) : (u32s l).size = l.length := by simp [u32s]
theorem u32s_one (l : List Int) : (u32s l).all (·.oneCell') = true := by
  simp only [u32s, List.all_toArray, List.all_map, List.all_eq_true]
  intro x _
  rfl
theorem u32s_set (l : List Int) (j : Nat) (x : Int) : (u32s l).setIfInBounds j (.int .u32 x) = u32s (l.set j x) := by
  simp [u32s, List.map_set]
/-- The bytes as cells. -/
def u8s (l : List UInt8) : Array Value := (cellsL l).toArray
theorem u8s_at (l : List UInt8) (j : Nat) (hj : j < l.length) : (u8s l)[j]? = some (.int .u8 ((l.getD j 0).toNat : Int)) := by
  simp [u8s, cellsL, hj]
theorem u8s_size (l : List UInt8) : (u8s l).size = l.length := by simp [u8s, cellsL]
theorem u8s_one (l : List UInt8) : (u8s l).all (·.oneCell') = true := by
  simp only [u8s, cellsL, List.all_toArray, List.all_map, List.all_eq_true]
  intro x _
  rfl
theorem u8s_set (l : List UInt8) (j : Nat) (x : UInt8) : (u8s l).setIfInBounds j (.int .u8 (x.toNat : Int)) = u8s (l.set j x) := by
  simp [u8s, cellsL, List.map_set]
/-- The table of constants lies where the program has it. -/
def Tab (w : World) : Prop := ∀ i : Nat, i < 64 → w.cell? ⟨0, i, none⟩ = some (.int .u32 (Sha.kTab.getD i 0))
theorem Tab.below {w w' : World} (h : Tab w) (hb : Below w.heap.size w w') : Tab w' := fun i hi => (hb.cell (block_lt_of_cell (h i hi))).trans (h i hi)
theorem Tab.pos {w : World} (h : Tab w) : 0 < w.heap.size := block_lt_of_cell (h 0 (by omega))
theorem lt_of_heap {w : World} {g : Nat} {o : Obj} (h : w.heap[g]? = some o) : g < w.heap.size := by
  rcases Nat.lt_or_ge g w.heap.size with hlt | hge
  · exact hlt
  · rw [Array.getElem?_eq_none hge] at h; cases h
theorem heap_new_at (w : World) (o : Obj) (i : Nat) (h : i = w.heap.size) : (w.alloc o).heap[i]? = some o := by subst h; exact heap_alloc_new w o
theorem heap_old_at {w : World} {i : Nat} {x : Obj} (o : Obj) (h : w.heap[i]? = some x) : (w.alloc o).heap[i]? = some x := (Below.heap_alloc w o i (lt_of_heap h)).trans h

theorem keep_cell {w : World} {p q : Addr} {u v : Value} (h : w.cell? q = some v) (hn : q.block ≠ p.block) : (w.setCell p u).cell? q = some v :=
  (World.cell?_setCell_other w p q u (fun e => hn (by rw [e]))).trans h
theorem keep_cell' {w : World} {p q : Addr} {u v : Value} (h : w.cell? q = some v) (hn : q.block ≠ p.block) : (w.setCell p u).drew.cell? q = some v := keep_cell h hn
theorem keep_off {w : World} {p q : Addr} {u v : Value} (h : w.cell? q = some v) (hn : q ≠ p) : (w.setCell p u).cell? q = some v :=
  (World.cell?_setCell_other w p q u (Ne.symm hn)).trans h
theorem keep_off' {w : World} {p q : Addr} {u v : Value} (h : w.cell? q = some v) (hn : q ≠ p) : (w.setCell p u).drew.cell? q = some v := keep_off h hn
theorem keep_offN {w : World} {n : Nat} {p q : Addr} {u v : Value} (h : w.cell? q = some v) (hn : q ≠ p) : ((w.drewN n).setCell p u).cell? q = some v := keep_off (w := w.drewN n) h hn
theorem keep_offN' {w : World} {n : Nat} {p q : Addr} {u v : Value} (h : w.cell? q = some v) (hn : q ≠ p) : ((w.drewN n).setCell p u).drew.cell? q = some v := keep_off (w := w.drewN n) h hn
theorem wrap_u32 (x : Int) : IntKind.u32.wrap x = x % 4294967296 := by simp [IntKind.wrap, IntKind.signed, IntKind.bits]
theorem wrap_small (n : Int) (h0 : 0 ≤ n) (h1 : n ≤ 1000000) : IntKind.i64.wrap n = n := by
  unfold IntKind.wrap
  simp [IntKind.signed, IntKind.bits]
  omega

end Go.Proofs.YtbjfihbjfoaghaaDoor
