/- ArgThreeS -/
import Derived.Test.YtkdecmijnojhoaaDoorPk11
namespace Go.Proofs.YtkdecmijnojhoaaDoor
open Go.RowKit

theorem cellsThreeS1 : Tryd.prog.cellsOf 9 = 1 := by kernel_rfl
theorem cellsThreeS : Tryd.prog.cellsOf 45 = 3 := by kernel_rfl
set_option maxRecDepth 100000 in
/-- Three strings. -/
theorem threeS_open {H : Type} {enc : TypeId × Value → H} {W : World} {r : Reach} {b0 : Nat} {v : Value} {d : DataW H} {p : List MemPlace}
    (hv : Value.okWide Tryd.prog W r b0 45 v) (h : DataW.Trod enc Tryd.prog W 0 (fun _ => true) true 45 v d p) : ∃ s : List UInt8 × List UInt8 × List UInt8, v = .agg #[.string ⟨s.1.toArray⟩, .string ⟨s.2.1.toArray⟩, .string ⟨s.2.2.toArray⟩] := by
  simp only [Value.okWide, Tryd.underlying45] at hv
  obtain ⟨cs, rfl, _, _⟩ := hv
  obtain ⟨fuel, hf⟩ := h
  obtain ⟨zs, hl, hc⟩ := strs_of_array Tryd.underlying45 Tryd.underlying9 cellsThreeS1 cellsThreeS hf
  match zs, hl with
  | [a, b, c], _ =>
    refine ⟨(a, b, c), ?_⟩
    have hc' : cs.toList = [a, b, c].map (fun s => Value.string ⟨s.toArray⟩) := hc
    rw [← Array.toArray_toList (xs := cs), hc']
    rfl
end Go.Proofs.YtkdecmijnojhoaaDoor
