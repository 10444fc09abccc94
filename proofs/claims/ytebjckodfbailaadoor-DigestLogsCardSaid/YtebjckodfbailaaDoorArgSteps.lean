/- A slice of a log's steps among a law's arguments, as the walks want it. -/
import Derived.Test.YtebjckodfbailaaDoorArgNoteds
namespace Go.Proofs.YtebjckodfbailaaDoor
open Go.RowKit Go.ChangeShapes Go.WideShapes

/-- A step: something is noted as it stands, or with its own sum. -/
structure StepN where
  own : Bool
  note : Dig.N
instance : Inhabited StepN := ⟨⟨false, Dig.zero⟩⟩
def Steps (w : World) (v : Value) (L : List StepN) : Prop :=
  ∃ (A : Option Addr) (cap : Nat), v = .slice A L.length cap ∧ (0 < L.length → ∃ b o, A = some ⟨b, o, none⟩ ∧ b < w.heap.size ∧ ∀ i (h : i < L.length),
    w.cell? ⟨b, o + i * 4, none⟩ = some (.bool L[i].own) ∧ w.cell? ⟨b, o + i * 4 + 1, none⟩ = some (.int .i64 L[i].note.tag) ∧ w.cell? ⟨b, o + i * 4 + 2, none⟩ = some (.string ⟨L[i].note.text.toArray⟩) ∧ w.cell? ⟨b, o + i * 4 + 3, none⟩ = some (.string ⟨L[i].note.dig.toArray⟩))
theorem cellsStep : Tryd.prog.cellsOf 37 = 4 := by kernel_rfl
theorem cellsBool : Tryd.prog.cellsOf 4 = 1 := by kernel_rfl

theorem steps_open {H : Type} {enc : TypeId × Value → H} {W : World} {r : Reach} {b0 : Nat} {v : Value} {d : DataW H} {p : List MemPlace}
    (hv : Value.okWide Tryd.prog W r b0 30 v) (h : DataW.Trod enc Tryd.prog W 0 (fun _ => true) true 30 v d p)
    (hz : ∀ n ∈ d.weights Tryd.prog 30, n ≤ reachBytes) :
    ∃ L, Steps W v L ∧ L.length * 48 ≤ reachBytes ∧ ∀ n ∈ L, OkN n.note := by
  obtain ⟨a0, len, cap, rfl⟩ := okWide_slice Tryd.underlying30 hv
  obtain ⟨fuel, hf⟩ := h
  rcases Go.Deep.open_slice Tryd.underlying30 hf with ⟨hcs, _⟩ | ⟨x, l, c, m, n, D, Pl, hcs, _, hl, hm, hmm, hx, hel⟩
  · simp [Value.cells] at hcs
    obtain ⟨rfl, rfl, rfl⟩ := hcs
    exact ⟨[], ⟨none, 0, rfl, fun h => absurd h (by simp)⟩, by simp, fun n hn => by simp at hn⟩
  · simp [Value.cells] at hcs
    obtain ⟨rfl, rfl, rfl⟩ := hcs
    simp only [if_true] at hmm
    subst hmm
    rw [cellsStep] at hel hx
    obtain ⟨hd, -⟩ := Prod.mk.inj hx
    have hw : ∀ i, i < len → ∀ k ∈ (D i).weights Tryd.prog 37, k ≤ reachBytes := fun i hi k hk => by
      refine hz k ?_
      rw [hd]
      simp only [DataW.weights, Tryd.underlying30, List.mem_cons, List.mem_append]
      exact Or.inr (Or.inl (weights_of_mem (List.mem_map.2 ⟨i, List.mem_range.2 hi, rfl⟩) k hk))
    have hlen48 : len * 48 ≤ reachBytes := by
      have h1 := hz ((((List.range len).map D).length + ((List.range (m - len)).map fun j => D (len + j)).length) * Tryd.prog.bytesOf 37) (by
        rw [hd]; simp [DataW.weights, Tryd.underlying30])
      rw [show Tryd.prog.bytesOf 37 = 48 from by kernel_rfl] at h1
      simp only [List.length_map, List.length_range] at h1
      omega
    have key : ∀ i, i < len → ∃ q : StepN, OkN q.note ∧ W.cell? ((x.add (i * 4)).add 0) = some (.bool q.own) ∧ W.cell? ((x.add (i * 4)).add 1) = some (.int .i64 q.note.tag) ∧ W.cell? ((x.add (i * 4)).add 2) = some (.string ⟨q.note.text.toArray⟩) ∧ W.cell? ((x.add (i * 4)).add 3) = some (.string ⟨q.note.dig.toArray⟩) := fun i hi => by
      obtain ⟨cs', hc, ht⟩ := hel i (by omega)
      obtain ⟨ys, n', _, hy, hcl, hyl, hfs⟩ := DataW.trod_struct Tryd.underlying37 ht
      rw [cellsStep] at hcl
      obtain ⟨_, _, hat⟩ := World.cells?_some hc
      match cs', hcl, ys, hyl with
      | [u0, v0, v1, v2], _, [z0, z1], _ =>
        have f0 := hfs 0 _ rfl
        have f1 := hfs 1 _ rfl
        simp [cellsBool, cellsN] at f0 f1
        obtain ⟨bo, e3, x3⟩ := DataW.trod_bool Tryd.underlying4 f0
        obtain ⟨ys', n2, _, hy', hcl', hyl', hfs'⟩ := DataW.trod_struct Tryd.underlying35 f1
        match ys', hyl' with
        | [y0, y1, y2], _ =>
          have g0 := hfs' 0 _ rfl
          have g1 := hfs' 1 _ rfl
          have g2 := hfs' 2 _ rfl
          simp [cellsI, cellsS] at g0 g1 g2
          obtain ⟨t, e0, x0, wf⟩ := DataW.trod_int Tryd.underlying3 g0
          obtain ⟨s1, e1, x1, z1'⟩ := DataW.trod_string Tryd.underlying9 g1
          obtain ⟨s2, e2, x2, z2'⟩ := DataW.trod_string Tryd.underlying9 g2
          obtain rfl : u0 = .bool bo := by simpa using e3
          obtain rfl : v0 = .int .i64 t := by simpa using e0
          obtain rfl : v1 = .string s1 := by simpa using e1
          obtain rfl : v2 = .string s2 := by simpa using e2
          have hD : D i = .agg [.lit (.bool bo), .agg [.lit (.int .i64 t), .lit (.string s1.data.toList), .lit (.string s2.data.toList)]] := by
            have h1 := (Prod.mk.inj hy).1
            have h2 := (Prod.ext_iff.1 hy').1
            simp [x0, x1, x2] at h2
            simpa [x3, h2] using h1
          have hwi := hw i hi
          rw [hD] at hwi
          simp [DataW.weights, DataW.weightsEach, Tryd.underlying37, Tryd.underlying35] at hwi
          obtain ⟨b1, b2⟩ := hwi
          refine ⟨⟨bo, ⟨t, s1.data.toList, s2.data.toList⟩⟩, ⟨wf, ?_, ?_⟩, ?_, ?_, ?_, ?_⟩
          · have : reachBytes = 140737488351232 := rfl
            simp at b1 ⊢; omega
          · have : reachBytes = 140737488351232 := rfl
            simp at b2 ⊢; omega
          · simpa using hat 0 (by omega)
          · simpa using hat 1 (by omega)
          · simpa using hat 2 (by omega)
          · simpa using hat 3 (by omega)
    obtain ⟨f, hf⟩ := Go.Deep.choose_lt (fun i hi => key i hi)
    have hlen : ((List.range len).map f).length = len := by simp
    refine ⟨(List.range len).map f, ⟨some x, _, by rw [hlen], fun h0 => ?_⟩, by rw [hlen]; exact hlen48, ?_⟩
    · rw [hlen] at h0
      obtain ⟨b, o, sp⟩ := x
      obtain ⟨_, q0, _⟩ := hf 0 h0
      have hcell' : W.cell? ⟨b, o, sp⟩ = some (.bool (f 0).own) := by simpa [Addr.add] using q0
      obtain rfl := cell_spot hcell'
      refine ⟨b, o, rfl, block_lt_of_cell hcell', fun i hi => ?_⟩
      rw [hlen] at hi
      obtain ⟨_, q0, q1, q2, q3⟩ := hf i hi
      rw [Addr.add_mid, Addr.add_mid] at q0 q1 q2 q3
      simpa using ⟨q0, q1, q2, q3⟩
    · intro n hn
      obtain ⟨i, hi, rfl⟩ := List.mem_map.1 hn
      exact (hf i (List.mem_range.1 hi)).1
end Go.Proofs.YtebjckodfbailaaDoor
