/- A slice of strings among a law's arguments, with the bound of each string. -/
import Derived.Test.YtbjfihbjfoaghaaDoorPowBase
namespace Go.Proofs.YtbjfihbjfoaghaaDoor
open Go.RowKit Go.ChangeShapes Go.WideShapes

set_option maxRecDepth 100000 in
theorem texts_open {H : Type} {enc : TypeId × Value → H} {W : World} {r : Reach} {b0 : Nat} {v : Value} {d : DataW H} {p : List MemPlace}
    (hv : Value.okWide Tryd.prog W r b0 23 v) (h : DataW.Trod enc Tryd.prog W 0 (fun _ => true) true 23 v d p)
    (hz : ∀ n ∈ d.weights Tryd.prog 23, n ≤ reachBytes) :
    ∃ L, Strs W v L ∧ L.length * 16 ≤ reachBytes ∧ ∀ s ∈ L, s.length ≤ 140737488351232 := by
  obtain ⟨a0, len, cap, rfl⟩ := okWide_slice Tryd.underlying23 hv
  obtain ⟨fuel, hf⟩ := h
  rcases Go.Deep.open_slice Tryd.underlying23 hf with ⟨hcs, _⟩ | ⟨x, l, c, m, n, D, Pl, hcs, _, hl, hm, hmm, hx, hel⟩
  · simp [Value.cells] at hcs
    obtain ⟨rfl, rfl, rfl⟩ := hcs
    exact ⟨[], Strs.nil W, by simp, fun n hn => by simp at hn⟩
  · simp [Value.cells] at hcs
    obtain ⟨rfl, rfl, rfl⟩ := hcs
    simp only [if_true] at hmm
    subst hmm
    rw [cellsS] at hel hx
    obtain ⟨hd, -⟩ := Prod.mk.inj hx
    have hw : ∀ i, i < len → ∀ k ∈ (D i).weights Tryd.prog 9, k ≤ reachBytes := fun i hi k hk => by
      refine hz k ?_
      rw [hd]
      simp only [DataW.weights, Tryd.underlying23, List.mem_cons, List.mem_append]
      exact Or.inr (Or.inl (weights_of_mem (List.mem_map.2 ⟨i, List.mem_range.2 hi, rfl⟩) k hk))
    have hlen : len * 16 ≤ reachBytes := by
      have h1 := hz ((((List.range len).map D).length + ((List.range (m - len)).map fun j => D (len + j)).length) * Tryd.prog.bytesOf 9) (by
        rw [hd]; simp [DataW.weights, Tryd.underlying23])
      rw [show Tryd.prog.bytesOf 9 = 16 from by kernel_rfl] at h1
      simp only [List.length_map, List.length_range] at h1
      omega
    have key : ∀ i, i < len → ∃ q : List UInt8, q.length ≤ 140737488351232 ∧ W.cell? ((x.add (i * 1)).add 0) = some (.string ⟨q.toArray⟩) := fun i hi => by
      obtain ⟨cs', hc, ht⟩ := hel i (by omega)
      obtain ⟨_, _, hat⟩ := World.cells?_some hc
      obtain ⟨s0, e0, x0, z0⟩ := DataW.trod_string Tryd.underlying9 ht
      have hD : D i = .lit (.string s0.data.toList) := by
        have h0 : D i = .lit (.string s0.data.toList) ∧ Pl i = [] := by simpa using x0
        exact h0.1
      have hwi := hw i hi
      rw [hD] at hwi
      simp [DataW.weights] at hwi
      refine ⟨s0.data.toList, ?_, ?_⟩
      · have : reachBytes = 140737488351232 := rfl
        simp at hwi ⊢; omega
      · have h0 := hat 0 (by omega)
        simpa [e0] using h0
    obtain ⟨f, hf⟩ := Go.Deep.choose_lt (fun i hi => key i hi)
    have hlen' : ((List.range len).map f).length = len := by simp
    refine ⟨(List.range len).map f, ⟨some x, _, by rw [hlen'], fun i hi => ⟨x, rfl, ?_⟩⟩, by rw [hlen']; exact hlen, ?_⟩
    · rw [hlen'] at hi
      obtain ⟨_, q0⟩ := hf i hi
      rw [Nat.mul_one] at q0
      simpa [Addr.add] using q0
    · intro n hn
      obtain ⟨i, hi, rfl⟩ := List.mem_map.1 hn
      exact (hf i (List.mem_range.1 hi)).1
end Go.Proofs.YtbjfihbjfoaghaaDoor
