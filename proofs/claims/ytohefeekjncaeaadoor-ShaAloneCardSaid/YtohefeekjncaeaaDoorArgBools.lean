/- A slice of bools that lies in memory; such a slice among a law's arguments, as the walks want it. -/
import Derived.Test.YtohefeekjncaeaaDoorNibBase
import Derived.OpenShut
import Derived.Deep.Grids
namespace Go.Proofs.YtohefeekjncaeaaDoor
open Go.RowKit Go.ChangeShapes Go.WideShapes

def Bools (w : World) (v : Value) (Z : List Bool) : Prop :=
  ∃ (A : Option Addr) (cap : Nat), v = .slice A Z.length cap ∧ ∀ i (h : i < Z.length), ∃ a, A = some a ∧ w.cell? (a.add i) = some (.bool Z[i])
theorem Bools.below {w w' : World} {v : Value} {Z : List Bool} (h : Bools w v Z) (hb : Below w.heap.size w w') : Bools w' v Z := by
  obtain ⟨A, cap, rfl, hc⟩ := h
  refine ⟨A, cap, rfl, fun i hi => ?_⟩
  obtain ⟨a, ha, hcell⟩ := hc i hi
  exact ⟨a, ha, (hb.cell (World.block_lt_of_cell? _ _ hcell)).trans hcell⟩
theorem Bools.nil (w : World) : Bools w (.slice none 0 0) [] := ⟨none, 0, rfl, fun i h => absurd h (Nat.not_lt_zero i)⟩
theorem bools_open {H : Type} {enc : TypeId × Value → H} {W : World} {r : Reach} {b0 : Nat} {v : Value} {d : DataW H} {p : List MemPlace}
    (hv : Value.okWide Tryd.prog W r b0 43 v) (h : DataW.Trod enc Tryd.prog W 0 (fun _ => true) true 43 v d p) :
    ∃ Z, Bools W v Z ∧ Z.length ≤ maxLen := by
  obtain ⟨a0, len, cap, rfl⟩ := okWide_slice Tryd.underlying43 hv
  obtain ⟨fuel, hf⟩ := h
  rcases Go.Deep.open_bools Tryd.underlying43 Tryd.underlying4 (by kernel_rfl) hf with ⟨hcs, _⟩ | ⟨x, l, c, B, hcs, _, hl, hm, _, hcell⟩
  · simp [Value.cells] at hcs
    obtain ⟨rfl, rfl, rfl⟩ := hcs
    exact ⟨[], Bools.nil W, Nat.zero_le _⟩
  · simp [Value.cells] at hcs
    obtain ⟨rfl, rfl, rfl⟩ := hcs
    have hlen : ((List.range len).map B).length = len := by simp
    refine ⟨(List.range len).map B, ⟨some x, cap, by rw [hlen], fun i hi => ⟨x, rfl, ?_⟩⟩, by omega⟩
    rw [hlen] at hi
    rw [hcell i (by omega)]
    simp

end Go.Proofs.YtohefeekjncaeaaDoor
