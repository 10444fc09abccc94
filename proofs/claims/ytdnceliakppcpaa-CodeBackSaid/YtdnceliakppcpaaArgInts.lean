/- A slice of ints that lies in memory; such a slice among a law's arguments, as the walks want it. -/
import Derived.Test.YtdnceliakppcpaaNibBase
import Derived.OpenShut
namespace Go.Proofs.Ytdnceliakppcpaa
open Go.RowKit Go.ChangeShapes Go.WideShapes

def Ints (w : World) (v : Value) (Z : List Int) : Prop :=
  ∃ (A : Option Addr) (cap : Nat), v = .slice A Z.length cap ∧ ∀ i (h : i < Z.length), ∃ a, A = some a ∧ w.cell? (a.add i) = some (.int .i64 Z[i])
theorem Ints.below {w w' : World} {v : Value} {Z : List Int} (h : Ints w v Z) (hb : Below w.heap.size w w') : Ints w' v Z := by
  obtain ⟨A, cap, rfl, hc⟩ := h
  refine ⟨A, cap, rfl, fun i hi => ?_⟩
  obtain ⟨a, ha, hcell⟩ := hc i hi
  exact ⟨a, ha, (hb.cell (World.block_lt_of_cell? _ _ hcell)).trans hcell⟩
theorem Ints.nil (w : World) : Ints w (.slice none 0 0) [] := ⟨none, 0, rfl, fun i h => absurd h (Nat.not_lt_zero i)⟩
theorem ints_open {H : Type} {enc : TypeId × Value → H} {W : World} {r : Reach} {b0 : Nat} {v : Value} {d : DataW H} {p : List MemPlace}
    (hv : Value.okWide Try.prog W r b0 32 v) (h : DataW.Trod enc Try.prog W 0 (fun _ => true) true 32 v d p) :
    ∃ Z, Ints W v Z ∧ Z.length ≤ maxLen ∧ ∀ z ∈ Z, (Lit.int .i64 z).wf = true := by
  obtain ⟨a0, len, cap, rfl⟩ := okWide_slice Try.underlying32 hv
  obtain ⟨fuel, hf⟩ := h
  rcases open_ints Try.underlying32 Try.underlying3 (by kernel_rfl) hf with ⟨hcs, _⟩ | ⟨x, l, c, zs, hcs, _, hl, hm, hz, _, hcell, hwz⟩
  · simp [Value.cells] at hcs
    obtain ⟨rfl, rfl, rfl⟩ := hcs
    exact ⟨[], Ints.nil W, Nat.zero_le _, fun s hs => by simp at hs⟩
  · simp [Value.cells] at hcs
    obtain ⟨rfl, rfl, rfl⟩ := hcs
    simp only [if_true] at hz
    have hlen : (zs.take len).length = len := by simp; omega
    refine ⟨zs.take len, ⟨some x, cap, by rw [hlen], fun i hi => ⟨x, rfl, ?_⟩⟩, by omega, fun z hz => hwz z (List.mem_of_mem_take hz)⟩
    rw [hlen] at hi
    rw [hcell i (by omega)]
    simp [List.getD, List.getElem?_eq_getElem (show i < zs.length by omega)]

end Go.Proofs.Ytdnceliakppcpaa
