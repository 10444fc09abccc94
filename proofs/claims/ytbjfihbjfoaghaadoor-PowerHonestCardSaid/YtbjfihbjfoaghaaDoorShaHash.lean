/- A hash as cells; the world but for one block; copy of a string into a row. -/
import Derived.Test.YtbjfihbjfoaghaaDoorShaBase
import Derived.Test.YtbjfihbjfoaghaaDoorOnly
namespace Go.Proofs.YtbjfihbjfoaghaaDoor
open Go.RowKit

def words8 (s : Sha.St) : List Value := [.int .u32 s.a, .int .u32 s.b, .int .u32 s.c, .int .u32 s.d, .int .u32 s.e, .int .u32 s.f, .int .u32 s.g, .int .u32 s.h]
/-- A hash's cells: the words, the open block, the count. -/
def hashL (s : Sha.St) (o : List UInt8) (n : Nat) : List Value := words8 s ++ (cellsL o ++ [.int .u64 (n : Int)])
theorem hashL_length (s : Sha.St) (o : List UInt8) (n : Nat) (h : o.length = 64) : (hashL s o n).length = 73 := by
  simp [hashL, words8, cellsL_length, h]
theorem hashL_count (s : Sha.St) (o : List UInt8) (n : Nat) (h : o.length = 64) : (hashL s o n).toArray[72]? = some (.int .u64 (n : Int)) := by
  rw [List.getElem?_toArray]
  unfold hashL
  rw [List.getElem?_append_right (by simp [words8]), List.getElem?_append_right (by simp [words8, cellsL_length, h])]
  simp [words8, cellsL_length, h]
theorem hashL_setCount (s : Sha.St) (o : List UInt8) (n m : Nat) (h : o.length = 64) : (hashL s o n).toArray.setIfInBounds 72 (.int .u64 (m : Int)) = (hashL s o m).toArray := by
  rw [List.setIfInBounds_toArray]
  unfold hashL
  rw [List.set_append_right _ _ (by simp [words8]), List.set_append_right _ _ (by simp [words8, cellsL_length, h])]
  simp [words8, cellsL_length, h]
theorem hashL_open (s : Sha.St) (o : List UInt8) (n j : Nat) (hj : j < o.length) : (hashL s o n).toArray[8 + j]? = some (.int .u8 ((o.getD j 0).toNat : Int)) := by
  rw [List.getElem?_toArray]
  unfold hashL
  rw [List.getElem?_append_right (by simp [words8]), List.getElem?_append_left (by simp [words8, cellsL_length, hj])]
  simp [words8, cellsL, hj]
theorem hashL_set8 (s t : Sha.St) (o : List UInt8) (n : Nat) :
    ((((((((hashL s o n).toArray.setIfInBounds 0 (.int .u32 t.a)).setIfInBounds 1 (.int .u32 t.b)).setIfInBounds 2 (.int .u32 t.c)).setIfInBounds 3 (.int .u32 t.d)).setIfInBounds 4 (.int .u32 t.e)).setIfInBounds 5 (.int .u32 t.f)).setIfInBounds 6 (.int .u32 t.g)).setIfInBounds 7 (.int .u32 t.h) = (hashL t o n).toArray := by
  simp [hashL, words8]
/-- Bytes laid over the open block. -/
theorem hashL_copy (s : Sha.St) (o x : List UInt8) (n m : Nat) (ho : o.length = 64) (hm : m + x.length ≤ 64) :
    (hashL s o n).take (8 + m) ++ cellsL x ++ (hashL s o n).drop (8 + m + x.length) = hashL s (o.take m ++ x ++ o.drop (m + x.length)) n := by
  have h8 : (words8 s).length = 8 := rfl
  have hc : (cellsL o).length = 64 := by rw [cellsL_length, ho]
  unfold hashL
  rw [List.take_append, List.drop_append, h8, List.take_of_length_le (by omega), List.drop_eq_nil_of_le (by omega), show 8 + m - 8 = m by omega, show 8 + m + x.length - 8 = m + x.length by omega,
    List.take_append_of_le_length (by omega), List.drop_append_of_le_length (by omega)]
  simp [cellsL]

theorem Only.setRow {g : Nat} {a w : World} (h : Only g a w) (cs : Array Value) : Only g a (w.setRow g cs) :=
  ⟨h.os, h.tape, h.output, by have := h.size; simpa using this, fun i hi hg => (setRow_other w g i cs hg).trans (h.block i hi hg)⟩
theorem Tab.only {w w' : World} {g : Nat} (h : Tab w) (ho : Only g w w') (hg : 0 < g) : Tab w' := fun i hi => ho.cell (h i hi) (by dsimp only; omega)

/-- The hash in block g has the text t. -/
def HashIs (w : World) (g : Nat) (t : List UInt8) : Prop :=
  ∃ o : List UInt8, o.length = 64 ∧ o.take (t.length % 64) = Sha.restP t ∧ w.heap[g]? = some (.cells (hashL (Sha.wordsP t) o t.length).toArray 95 (0, 0))
theorem HashIs.lt {w : World} {g : Nat} {t : List UInt8} (h : HashIs w g t) : g < w.heap.size := by
  obtain ⟨_, _, _, hg⟩ := h
  exact lt_of_heap hg
theorem HashIs.below {w w' : World} {g : Nat} {t : List UInt8} (h : HashIs w g t) (hb : Below w.heap.size w w') : HashIs w' g t := by
  have hlt := h.lt
  obtain ⟨o, h1, h2, hg⟩ := h
  exact ⟨o, h1, h2, (hb.block g hlt).trans hg⟩
theorem HashIs.only {w w' : World} {g g' : Nat} {t : List UInt8} (h : HashIs w g t) (hb : Only g' w w') (hn : g ≠ g') : HashIs w' g t := by
  have hlt := h.lt
  obtain ⟨o, h1, h2, hg⟩ := h
  exact ⟨o, h1, h2, (hb.block g hlt hn).trans hg⟩

/-- copy(dst, s), s a string, dst in row g from place o on: as many bytes as there are, or as fit. -/
theorem run_copy_part {P : Program} (w : World) (dT sT ty elem : TypeId) (g o dLen dCap n : Nat) (l : List UInt8) (cur : Array Value) (t : TypeId)
    (hu : P.underlying dT = some (.slice elem)) (hs : (P.info? elem).map (·.size) = some 1) (hg : w.heap[g]? = some (.cells cur t (0, 0))) (hn : n = Nat.min l.length dLen) (hfit : o + n ≤ cur.size) :
    (Builtin.copy_ #[dT, sT] ty #[.slice (some ⟨g, o, none⟩) dLen dCap, .string ⟨l.toArray⟩]).run P w =
      .ok (goInt n) (w.setRow g (cur.toList.take o ++ cellsL (l.take n) ++ cur.toList.drop (o + n)).toArray) := by
  have hnl : n ≤ l.length := by rw [hn]; exact Nat.min_le_left _ _
  have hlen : (cellsL (l.take n)).length = n := by rw [cellsL_length, List.length_take]; omega
  have hst := run_storeCells_at P g o t (cellsL (l.take n)) 0 cur w hg (by rw [hlen]; simpa using hfit) (by
    intro v hv
    simp only [cellsL, List.mem_map] at hv
    obtain ⟨x, _, rfl⟩ := hv
    rfl)
  rw [hlen] at hst
  simp only [Nat.add_zero] at hst
  have htk : List.take n (List.map (fun b : UInt8 => Value.int IntKind.u8 (b.toNat : Int)) l) = cellsL (l.take n) := by simp [cellsL, List.map_take]
  have hsz : (⟨l.toArray⟩ : ByteArray).size = l.length := by simp [ByteArray.size]
  cases hq : P.info? elem with
  | none => simp [hq] at hs
  | some i =>
    simp [Builtin.copy_, run_underlying hu, Builtin.lenOf, Builtin.firstCells, sizeOf, typeInfo, hq, hsz, ← hn]
    rw [htk, hst]
    simp [Result.andThen]
theorem step_copy_part {P : Program} {ops : Array Oper} {o : Oper} {a : Act} {w : World} {K : Act → World → Prop} {Q : Exit → Act → World → Prop} {E : Prop} (hgd : o.guard = none) (d s : Operand) (dT sT : TypeId)
    (ho : o.op = .call { callee := .builtin .copy, args := #[d, s], argTypes := #[dT, sT] }) (elem : TypeId) (hu : P.underlying dT = some (.slice elem)) (hsz : (P.info? elem).map (·.size) = some 1)
    (g off dLen dCap n : Nat) (l : List UInt8) (hd : a.eval d = .slice (some ⟨g, off, none⟩) dLen dCap) (hs : a.eval s = .string ⟨l.toArray⟩)
    (cur : Array Value) (t : TypeId) (hg : w.heap[g]? = some (.cells cur t (0, 0))) (hn : n = Nat.min l.length dLen) (hfit : off + n ≤ cur.size)
    (h : ∀ w', Hid (w'.heap[g]? = some (.cells (cur.toList.take off ++ cellsL (l.take n) ++ cur.toList.drop (off + n)).toArray t (0, 0))) → Hid (Only g w w') → K (a.put o.dst (goInt n)) w') :
    if Region.wanted o (yielded ops a.tmps) = true then Oper.wp P o a w K Q else E := by
  have hw : Region.wanted o (yielded ops a.tmps) = true := by simp [Region.wanted, hgd]
  rw [if_pos hw]
  have hrun := run_copy_part (P := P) w dT sT o.type elem g off dLen dCap n l cur t hu hsz hg hn hfit
  unfold Oper.wp
  simp [execOp, ho, resolve, invoke, builtin, hd, hs, hrun, Result.andThen]
  exact h _ (Lib.hid (by rw [List.append_assoc]; exact setRow_heap w g _ _ t _ hg)) (Lib.hid ((Only.refl g w).setRow _))
end Go.Proofs.YtbjfihbjfoaghaaDoor
