/- A slice of strings among a law's arguments, as the walks want it. -/
import Derived.Test.YtebjckodfbailaaDoorCodeStrs
import Derived.SliceStrings
import Derived.OpenShut
namespace Go.Proofs.YtebjckodfbailaaDoor
open Go.RowKit Go.ChangeShapes Go.WideShapes

theorem strs_open {H : Type} {enc : TypeId × Value → H} {W : World} {r : Reach} {b0 : Nat} {v : Value} {d : DataW H} {p : List MemPlace}
    (hv : Value.okWide Tryd.prog W r b0 22 v) (h : DataW.Trod enc Tryd.prog W 0 (fun _ => true) true 22 v d p) :
    ∃ L, Strs W v L ∧ L.length ≤ maxLen ∧ ∀ s ∈ L, s.length ≤ maxLen := by
  obtain ⟨a0, len, cap, rfl⟩ := okWide_slice Tryd.underlying22 hv
  obtain ⟨fuel, hf⟩ := h
  rcases open_strings Tryd.underlying22 Tryd.underlying9 (by kernel_rfl) hf with ⟨hcs, _⟩ | ⟨x, l, c, ss, hcs, _, hl, hm, hz, _, hcell, hws⟩
  · simp [Value.cells] at hcs
    obtain ⟨rfl, rfl, rfl⟩ := hcs
    exact ⟨[], Strs.nil W, Nat.zero_le _, fun s hs => by simp at hs⟩
  · simp [Value.cells] at hcs
    obtain ⟨rfl, rfl, rfl⟩ := hcs
    simp only [if_true] at hz
    have hlen : ((ss.take len).map (·.data.toList)).length = len := by simp; omega
    refine ⟨(ss.take len).map (·.data.toList), ⟨some x, cap, by rw [hlen], fun i hi => ⟨x, rfl, ?_⟩⟩, by omega, ?_⟩
    · rw [hlen] at hi
      rw [hcell i (by omega)]
      simp [List.getD, List.getElem?_eq_getElem (show i < ss.length by omega)]
    · intro s hs
      obtain ⟨b, hb, rfl⟩ := List.mem_map.1 hs
      have := hws b (List.mem_of_mem_take hb)
      rw [Array.length_toList]
      exact this

end Go.Proofs.YtebjckodfbailaaDoor
