/- ArgTwoZ -/
import Derived.Test.YtlckcfpdiigjiaaDoorPk16
namespace Go.Proofs.YtlckcfpdiigjiaaDoor
open Go.RowKit Go.ChangeShapes Go.WideShapes

set_option maxRecDepth 100000 in
theorem twoS_sized {H : Type} {enc : TypeId × Value → H} {W : World} {r : Reach} {b0 : Nat} {v : Value} {d : DataW H} {p : List MemPlace}
    (hv : Value.okWide Tryd.prog W r b0 42 v) (h : DataW.Trod enc Tryd.prog W 0 (fun _ => true) true 42 v d p)
    (hz : ∀ n ∈ d.weights Tryd.prog 42, n ≤ reachBytes) : ∃ s : List UInt8 × List UInt8, v = .agg #[.string ⟨s.1.toArray⟩, .string ⟨s.2.toArray⟩] ∧ (s.1.length ≤ 140737488351232 ∧ s.2.length ≤ 140737488351232) := by
  simp only [Value.okWide, Tryd.underlying42] at hv
  obtain ⟨cs, rfl, _, _⟩ := hv
  obtain ⟨fuel, hf⟩ := h
  obtain ⟨xs, m, _, hx, hl, hxl, hel⟩ := DataW.trod_array Tryd.underlying42 hf
  rw [cellsTwoS] at hl
  obtain ⟨l⟩ := cs
  simp only [Value.cells] at hl hel
  match l, hl, xs, hxl with
  | [v0, v1], _, [y0, y1], _ =>
    have g0 := hel 0 (by omega)
    have g1 := hel 1 (by omega)
    simp [cellsTwoS1] at g0 g1
    obtain ⟨s0, e0, x0, z0⟩ := DataW.trod_string Tryd.underlying9 g0
    obtain ⟨s1, e1, x1, z1⟩ := DataW.trod_string Tryd.underlying9 g1
    obtain rfl : v0 = .string s0 := by simpa using e0
    obtain rfl : v1 = .string s1 := by simpa using e1
    have hd : d = .agg [y0.1, y1.1] := by simpa using congrArg Prod.fst hx
    have h0 : y0.1 = .lit (.string s0.data.toList) := by rw [x0]
    have h1 : y1.1 = .lit (.string s1.data.toList) := by rw [x1]
    have hr : reachBytes = 140737488351232 := rfl
    rw [hd, h0, h1] at hz
    simp [DataW.weights, DataW.weightsAll, Tryd.underlying42] at hz
    refine ⟨(s0.data.toList, s1.data.toList), by simp, ?_⟩
    dsimp only
    rw [Array.length_toList, Array.length_toList]
    have q0 : s0.size = s0.data.size := rfl
    have q1 : s1.size = s1.data.size := rfl
    omega
end Go.Proofs.YtlckcfpdiigjiaaDoor
