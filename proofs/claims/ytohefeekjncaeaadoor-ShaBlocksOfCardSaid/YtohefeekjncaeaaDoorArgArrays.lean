/- Arrays of words and of bytes among a law's arguments, as the walks want them. -/
import Derived.Test.YtohefeekjncaeaaDoorShaBase
import Derived.OpenShut
namespace Go.Proofs.YtohefeekjncaeaaDoor
open Go.RowKit Go.ChangeShapes Go.WideShapes

theorem ints_of_array {H : Type} {enc : TypeId × Value → H} {P : Program} {w : World} {base : Nat} {spare : Nat → Bool} {held : Bool} {fuel : Nat} {t e : TypeId} {n : Nat} {k : IntKind} {cs : List Value} {x : DataW H × List MemPlace}
    (ht : P.underlying t = some (.array n e)) (he : P.underlying e = some (.int k)) (hce : P.cellsOf e = 1) (hct : P.cellsOf t = n)
    (h : DataW.trod enc P w base spare held fuel t cs = some x) : ∃ zs : List Int, zs.length = n ∧ cs = zs.map (Value.int k) ∧ ∀ z ∈ zs, (Lit.int k z).wf = true := by
  obtain ⟨xs, m, _, _, hl, hxl, hel⟩ := DataW.trod_array ht h
  rw [hct] at hl
  have key : ∀ i, i < n → ∃ z, cs[i]? = some (.int k z) ∧ (Lit.int k z).wf = true := fun i hi => by
    have h1 := hel i hi
    rw [hce, Nat.mul_one, List.getElem?_eq_getElem (by omega)] at h1
    obtain ⟨z, e1, _, hw⟩ := DataW.trod_int he h1
    refine ⟨z, ?_, hw⟩
    have h2 := congrArg (·[0]?) e1
    simpa [List.getElem?_take, List.getElem?_drop] using h2
  refine ⟨cs.map (fun v => match v with | .int _ z => z | _ => 0), by rw [List.length_map, hl], ?_, ?_⟩
  · apply List.ext_getElem?
    intro i
    by_cases hi : i < n
    · obtain ⟨z, hz, _⟩ := key i hi
      simp [hz]
    · rw [List.getElem?_eq_none (by omega), List.getElem?_eq_none (by simp; omega)]
  · intro z hz
    obtain ⟨v, hv, rfl⟩ := List.mem_map.1 hz
    obtain ⟨i, hi, rfl⟩ := List.mem_iff_getElem.1 hv
    obtain ⟨z', hz', hw⟩ := key i (by omega)
    rw [List.getElem?_eq_getElem hi] at hz'
    rw [Option.some.inj hz']
    exact hw
theorem words_of_list (zs : List Int) (h : zs.length = 8) : ∃ s : Sha.St, zs = s.list := by
  match zs, h with
  | [a, b, c, d, e, f, g, h'], _ => exact ⟨⟨a, b, c, d, e, f, g, h'⟩, rfl⟩
theorem bytes_of_list (zs : List Int) (h : ∀ z ∈ zs, (Lit.int .u8 z).wf = true) : zs.map (Value.int .u8) = cellsL (zs.map Sha.byteOf) := by
  unfold cellsL
  rw [List.map_map]
  apply List.map_congr_left
  intro z hz
  have hb := bounds_u8 (h z hz)
  simp only [Function.comp, Sha.byteOf_toNat]
  rw [Int.emod_eq_of_lt hb.1 (by omega)]
theorem arr8_open {H : Type} {enc : TypeId × Value → H} {W : World} {r : Reach} {b0 : Nat} {v : Value} {d : DataW H} {p : List MemPlace}
    (hv : Value.okWide Tryd.prog W r b0 23 v) (h : DataW.Trod enc Tryd.prog W 0 (fun _ => true) true 23 v d p) : ∃ s : Sha.St, v = .agg (u32s s.list) := by
  simp only [Value.okWide, Tryd.underlying23] at hv
  obtain ⟨cs, rfl, _, _⟩ := hv
  obtain ⟨fuel, hf⟩ := h
  obtain ⟨zs, hl, hc, _⟩ := ints_of_array Tryd.underlying23 Tryd.underlying22 (by kernel_rfl) (by kernel_rfl) hf
  obtain ⟨s, rfl⟩ := words_of_list zs hl
  refine ⟨s, ?_⟩
  have hc' : cs.toList = s.list.map (Value.int .u32) := hc
  rw [← Array.toArray_toList (xs := cs), hc']
  rfl
theorem arr64_open {H : Type} {enc : TypeId × Value → H} {W : World} {r : Reach} {b0 : Nat} {v : Value} {d : DataW H} {p : List MemPlace}
    (hv : Value.okWide Tryd.prog W r b0 24 v) (h : DataW.Trod enc Tryd.prog W 0 (fun _ => true) true 24 v d p) : ∃ b : List UInt8, b.length = 64 ∧ v = .agg (u8s b) := by
  simp only [Value.okWide, Tryd.underlying24] at hv
  obtain ⟨cs, rfl, _, _⟩ := hv
  obtain ⟨fuel, hf⟩ := h
  obtain ⟨zs, hl, hc, hw⟩ := ints_of_array Tryd.underlying24 Tryd.underlying5 (by kernel_rfl) (by kernel_rfl) hf
  refine ⟨zs.map Sha.byteOf, by rw [List.length_map, hl], ?_⟩
  have hc' : cs.toList = zs.map (Value.int .u8) := hc
  rw [bytes_of_list zs hw] at hc'
  rw [← Array.toArray_toList (xs := cs), hc']
  rfl

end Go.Proofs.YtohefeekjncaeaaDoor
