/- sha.First, sha.New; a hash as cells. -/
import Derived.Test.YtohefeekjncaeaaDoorShaHash
namespace Go.Proofs.YtohefeekjncaeaaDoor
open Go.RowKit

set_option maxRecDepth 8000 in
set_option maxHeartbeats 1000000 in
theorem first_any (w : World) :
    Calls Tryd.prog 8 #[] w fun e w' => e = .returned (.agg (u32s Sha.first.list)) ∧ Below w.heap.size w w' := by
  go_enter Tryd.func8, Tryd.ntmps8
  go_wp2
  refine bodyPost_ret (v := .agg (u32s Sha.first.list)) (results_cell_row rfl _ _ w.heap.size _ _ (0, 0) _ rfl (heap_new_at _ _ _ rfl) Tryd.underlying23 rfl (by kernel_rfl)) rfl ⟨rfl, (Below.refl _ w).alloc (Nat.le_refl _) _⟩

theorem built_hash : Tryd.prog.built 53 [(0, .agg (u32s Sha.first.list))] = some ((hashL Sha.first (List.replicate 64 0) 0).toArray) := by kernel_rfl

theorem wpList_build_to {P : Program} {ops : Array Oper} {rest : List Oper} {o : Oper} {a : Act} {w : World} {Q : Exit → Act → World → Prop} (hg : o.guard = none) (t : TypeId) (parts : Array (Nat × Operand)) (ho : o.op = .build t parts)
    (L : List (Nat × Value)) (hL : (parts.map fun (i, x) => (i, a.eval x)).toList = L) (C : Array Value) (hC : P.built t L = some C)
    (h : wpList P ops Q rest (a.put o.dst (.agg C)) w) : wpList P ops Q (o :: rest) a w :=
  wpList_build hg t parts ho (by rw [hL, hC]; rfl) (by rw [hL, hC]; exact h)

set_option maxRecDepth 8000 in
set_option maxHeartbeats 1000000 in
theorem new_any (w : World) :
    Calls Tryd.prog 16 #[] w fun e w' => ∃ g, e = .returned (.pointer (some ⟨g, 0, none⟩)) ∧ w.heap.size ≤ g ∧ w'.heap[g]? = some (.cells ((hashL Sha.first (List.replicate 64 0) 0).toArray) 53 (0, 0)) ∧ Below w.heap.size w w' := by
  obtain ⟨C, hC⟩ : ∃ C, (hashL Sha.first (List.replicate 64 0) 0).toArray = C := ⟨_, rfl⟩
  have hbu := built_hash
  rw [hC] at hbu ⊢
  have HBU := Lib.hid hbu
  clear hbu hC
  go_enter Tryd.func16, Tryd.ntmps16
  go_wp2_with fail
  refine (first_any _).mono ?_
  rintro e w1 ⟨rfl, hb⟩
  go_wp2_with (refine wpList_build_to (by rfl) _ _ (by rfl) [(0, .agg (u32s Sha.first.list))] (by first | rfl | (simp [Act.eval]; done) | kernel_rfl) C HBU.out ?_)
  go_ret
  exact ⟨w1.heap.size, rfl, hb.size, heap_new_at _ _ _ rfl, hb.alloc hb.size _⟩
end Go.Proofs.YtohefeekjncaeaaDoor
