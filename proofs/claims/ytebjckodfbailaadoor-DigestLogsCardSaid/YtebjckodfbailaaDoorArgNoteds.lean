/- A slice of things that are noted, among a law's arguments or made by the law, as the walks want it. -/
import Derived.Test.YtebjckodfbailaaDoorDigBase
import Derived.Deep.Slices
import Derived.DataReads
import Derived.OpenShut
import Derived.SizedLaws
import Derived.Lib.LaidU8
namespace Go.Proofs.YtebjckodfbailaaDoor
open Go.RowKit Go.ChangeShapes Go.WideShapes

instance : Inhabited Dig.N := ⟨Dig.zero⟩
def Noteds (w : World) (v : Value) (L : List Dig.N) : Prop :=
  ∃ (A : Option Addr) (cap : Nat), v = .slice A L.length cap ∧ (0 < L.length → ∃ b o, A = some ⟨b, o, none⟩ ∧ b < w.heap.size ∧ ∀ i (h : i < L.length),
    w.cell? ⟨b, o + i * 3, none⟩ = some (.int .i64 L[i].tag) ∧ w.cell? ⟨b, o + i * 3 + 1, none⟩ = some (.string ⟨L[i].text.toArray⟩) ∧ w.cell? ⟨b, o + i * 3 + 2, none⟩ = some (.string ⟨L[i].dig.toArray⟩))
theorem Noteds.nil (w : World) : Noteds w (.slice none 0 0) [] := ⟨none, 0, rfl, fun h => absurd h (by simp)⟩
theorem Noteds.below {w w' : World} {v : Value} {L : List Dig.N} (h : Noteds w v L) (hb : Below w.heap.size w w') : Noteds w' v L := by
  obtain ⟨A, cap, rfl, hc⟩ := h
  refine ⟨A, cap, rfl, fun h0 => ?_⟩
  obtain ⟨b, o, rfl, hlt, hcell⟩ := hc h0
  refine ⟨b, o, rfl, Nat.lt_of_lt_of_le hlt hb.size, fun i hi => ?_⟩
  obtain ⟨h1, h2, h3⟩ := hcell i hi
  exact ⟨(hb.cell hlt).trans h1, (hb.cell hlt).trans h2, (hb.cell hlt).trans h3⟩
theorem weights_of_mem {H : Type} {P : Program} {e : TypeId} : ∀ {l : List (DataW H)} {d : DataW H}, d ∈ l → ∀ n ∈ d.weights P e, n ∈ DataW.weightsAll P e l
  | a :: r, d, hd, n, hn => by
    rw [DataW.weightsAll, List.mem_append]
    cases List.mem_cons.1 hd with
    | inl h => exact Or.inl (h ▸ hn)
    | inr h => exact Or.inr (weights_of_mem h n hn)

theorem noteds_open {H : Type} {enc : TypeId × Value → H} {W : World} {r : Reach} {b0 : Nat} {v : Value} {d : DataW H} {p : List MemPlace}
    (hv : Value.okWide Tryd.prog W r b0 33 v) (h : DataW.Trod enc Tryd.prog W 0 (fun _ => true) true 33 v d p)
    (hz : ∀ n ∈ d.weights Tryd.prog 33, n ≤ reachBytes) :
    ∃ L, Noteds W v L ∧ L.length * 40 ≤ reachBytes ∧ ∀ n ∈ L, OkN n := by
  obtain ⟨a0, len, cap, rfl⟩ := okWide_slice Tryd.underlying33 hv
  obtain ⟨fuel, hf⟩ := h
  rcases Go.Deep.open_slice Tryd.underlying33 hf with ⟨hcs, _⟩ | ⟨x, l, c, m, n, D, Pl, hcs, _, hl, hm, hmm, hx, hel⟩
  · simp [Value.cells] at hcs
    obtain ⟨rfl, rfl, rfl⟩ := hcs
    exact ⟨[], Noteds.nil W, by simp, fun n hn => by simp at hn⟩
  · simp [Value.cells] at hcs
    obtain ⟨rfl, rfl, rfl⟩ := hcs
    simp only [if_true] at hmm
    subst hmm
    rw [cellsN] at hel hx
    obtain ⟨hd, -⟩ := Prod.mk.inj hx
    have hw : ∀ i, i < len → ∀ k ∈ (D i).weights Tryd.prog 35, k ≤ reachBytes := fun i hi k hk => by
      refine hz k ?_
      rw [hd]
      simp only [DataW.weights, Tryd.underlying33, List.mem_cons, List.mem_append]
      exact Or.inr (Or.inl (weights_of_mem (List.mem_map.2 ⟨i, List.mem_range.2 hi, rfl⟩) k hk))
    have hlen40 : len * 40 ≤ reachBytes := by
      have h1 := hz ((((List.range len).map D).length + ((List.range (m - len)).map fun j => D (len + j)).length) * Tryd.prog.bytesOf 35) (by
        rw [hd]; simp [DataW.weights, Tryd.underlying33])
      rw [show Tryd.prog.bytesOf 35 = 40 from by kernel_rfl] at h1
      simp only [List.length_map, List.length_range] at h1
      omega
    have key : ∀ i, i < len → ∃ q : Dig.N, OkN q ∧ W.cell? ((x.add (i * 3)).add 0) = some (.int .i64 q.tag) ∧ W.cell? ((x.add (i * 3)).add 1) = some (.string ⟨q.text.toArray⟩) ∧ W.cell? ((x.add (i * 3)).add 2) = some (.string ⟨q.dig.toArray⟩) := fun i hi => by
      obtain ⟨cs', hc, ht⟩ := hel i (by omega)
      obtain ⟨ys, n', _, hy, hcl, hyl, hfs⟩ := DataW.trod_struct Tryd.underlying35 ht
      rw [cellsN] at hcl
      obtain ⟨_, _, hat⟩ := World.cells?_some hc
      match cs', hcl, ys, hyl with
      | [v0, v1, v2], _, [y0, y1, y2], _ =>
        have g0 := hfs 0 _ rfl
        have g1 := hfs 1 _ rfl
        have g2 := hfs 2 _ rfl
        simp [cellsI, cellsS] at g0 g1 g2
        obtain ⟨t, e0, x0, wf⟩ := DataW.trod_int Tryd.underlying3 g0
        obtain ⟨s1, e1, x1, z1⟩ := DataW.trod_string Tryd.underlying9 g1
        obtain ⟨s2, e2, x2, z2⟩ := DataW.trod_string Tryd.underlying9 g2
        obtain rfl : v0 = .int .i64 t := by simpa using e0
        obtain rfl : v1 = .string s1 := by simpa using e1
        obtain rfl : v2 = .string s2 := by simpa using e2
        have hD : D i = .agg [.lit (.int .i64 t), .lit (.string s1.data.toList), .lit (.string s2.data.toList)] := by
          have := (Prod.mk.inj hy).1
          simpa [x0, x1, x2] using this
        have hwi := hw i hi
        rw [hD] at hwi
        simp [DataW.weights, DataW.weightsEach, Tryd.underlying35] at hwi
        obtain ⟨b1, b2⟩ := hwi
        refine ⟨⟨t, s1.data.toList, s2.data.toList⟩, ⟨wf, ?_, ?_⟩, ?_, ?_, ?_⟩
        · have : reachBytes = 140737488351232 := rfl
          simp at b1 ⊢; omega
        · have : reachBytes = 140737488351232 := rfl
          simp at b2 ⊢; omega
        · simpa using hat 0 (by omega)
        · simpa using hat 1 (by omega)
        · simpa using hat 2 (by omega)
    obtain ⟨f, hf⟩ := Go.Deep.choose_lt (fun i hi => key i hi)
    have hlen : ((List.range len).map f).length = len := by simp
    refine ⟨(List.range len).map f, ⟨some x, _, by rw [hlen], fun h0 => ?_⟩, by rw [hlen]; exact hlen40, ?_⟩
    · rw [hlen] at h0
      obtain ⟨b, o, sp⟩ := x
      obtain ⟨_, q0, _⟩ := hf 0 h0
      have hcell' : W.cell? ⟨b, o, sp⟩ = some (.int .i64 (f 0).tag) := by simpa [Addr.add] using q0
      obtain rfl := cell_spot hcell'
      refine ⟨b, o, rfl, block_lt_of_cell hcell', fun i hi => ?_⟩
      rw [hlen] at hi
      obtain ⟨_, q0, q1, q2⟩ := hf i hi
      rw [Addr.add_mid, Addr.add_mid] at q0 q1 q2
      simpa using ⟨q0, q1, q2⟩
    · intro n hn
      obtain ⟨i, hi, rfl⟩ := List.mem_map.1 hn
      exact (hf i (List.mem_range.1 hi)).1

end Go.Proofs.YtebjckodfbailaaDoor
