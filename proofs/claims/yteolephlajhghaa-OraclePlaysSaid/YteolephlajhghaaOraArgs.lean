/- Steps that sign among a law's arguments: a slice of them, one alone. -/
import Derived.Test.YteolephlajhghaaOraBase
namespace Go.Proofs.Yteolephlajhghaa
open Go.RowKit Go.ChangeShapes Go.WideShapes
open Go.Proofs.Yteolephlajhghaa.Ora (K Sig St)

def stcl (s : St) : List Value := [.string ⟨s.who.toArray⟩, .string ⟨s.mark.toArray⟩, .bool s.honest, .bool s.fork]
/-- A step that fits. -/
structure OkSt (s : St) : Prop where
  who : s.who.length ≤ 140737488351232
  mark : s.mark.length ≤ 140737488351232
theorem OkSt.key {s : St} (h : OkSt s) : OkK s.key := ⟨h.who, h.mark⟩
theorem cellsSt : Try.prog.cellsOf 27 = 4 := by kernel_rfl
theorem cellsB : Try.prog.cellsOf 4 = 1 := by kernel_rfl
def Sts (w : World) (v : Value) (L : List St) : Prop :=
  ∃ (A : Option Addr) (cap : Nat), v = .slice A L.length cap ∧ L.length ≤ cap ∧ (0 < L.length → ∃ b o, A = some ⟨b, o, none⟩ ∧ b < w.heap.size ∧ ∀ i (h : i < L.length),
    w.cell? ⟨b, o + i * 4, none⟩ = some (.string ⟨L[i].who.toArray⟩) ∧ w.cell? ⟨b, o + i * 4 + 1, none⟩ = some (.string ⟨L[i].mark.toArray⟩) ∧ w.cell? ⟨b, o + i * 4 + 2, none⟩ = some (.bool L[i].honest) ∧ w.cell? ⟨b, o + i * 4 + 3, none⟩ = some (.bool L[i].fork))
theorem Sts.below {w w' : World} {v : Value} {L : List St} (h : Sts w v L) (hb : Below w.heap.size w w') : Sts w' v L := by
  obtain ⟨A, cap, rfl, hcap, hc⟩ := h
  refine ⟨A, cap, rfl, hcap, fun h0 => ?_⟩
  obtain ⟨b, o, rfl, hlt, hcell⟩ := hc h0
  refine ⟨b, o, rfl, Nat.lt_of_lt_of_le hlt hb.size, fun i hi => ?_⟩
  obtain ⟨h1, h2, h3, h4⟩ := hcell i hi
  exact ⟨(hb.cell hlt).trans h1, (hb.cell hlt).trans h2, (hb.cell hlt).trans h3, (hb.cell hlt).trans h4⟩
theorem Sts.at {w w' : World} {A : Option Addr} {n cap : Nat} {L : List St} (h : Sts w (.slice A n cap) L) (hb : Below w.heap.size w w') (k : Nat) (hk : k < L.length) :
    ∃ b o, A = some ⟨b, o, none⟩ ∧ b < w.heap.size ∧ w'.cell? ⟨b, o + k * 4, none⟩ = some (.string ⟨L[k].who.toArray⟩) ∧ w'.cell? ⟨b, o + k * 4 + 1, none⟩ = some (.string ⟨L[k].mark.toArray⟩) ∧ w'.cell? ⟨b, o + k * 4 + 2, none⟩ = some (.bool L[k].honest) ∧ w'.cell? ⟨b, o + k * 4 + 3, none⟩ = some (.bool L[k].fork) := by
  obtain ⟨A0, cap0, hv0, _, hc0⟩ := h
  obtain ⟨rfl, rfl, rfl⟩ : A = A0 ∧ n = L.length ∧ cap = cap0 := by simpa using hv0
  obtain ⟨b, o, rfl, hlt, hcell⟩ := hc0 (by omega)
  obtain ⟨h1, h2, h3, h4⟩ := hcell k hk
  exact ⟨b, o, rfl, hlt, (hb.cell hlt).trans h1, (hb.cell hlt).trans h2, (hb.cell hlt).trans h3, (hb.cell hlt).trans h4⟩
theorem Sts.form {w : World} {v : Value} {L : List St} (h : Sts w v L) : ∃ A cap, v = .slice A L.length cap ∧ L.length ≤ cap := by
  obtain ⟨A, cap, rfl, hc, _⟩ := h
  exact ⟨A, cap, rfl, hc⟩
/-- The beginning of a slice of steps. -/
theorem Sts.take {w : World} {A : Option Addr} {n cap : Nat} {L : List St} (h : Sts w (.slice A n cap) L) (k : Nat) (hk : k ≤ L.length) : Sts w (.slice A k cap) (L.take k) := by
  obtain ⟨A0, cap0, hv0, hcap, hc0⟩ := h
  obtain ⟨rfl, rfl, rfl⟩ : A = A0 ∧ n = L.length ∧ cap = cap0 := by simpa using hv0
  have hl : (L.take k).length = k := by simp; omega
  refine ⟨A, cap, by rw [hl], by omega, fun h0 => ?_⟩
  obtain ⟨b, o, rfl, hlt, hcell⟩ := hc0 (by omega)
  refine ⟨b, o, rfl, hlt, fun i hi => ?_⟩
  rw [hl] at hi
  have := hcell i (by omega)
  simpa using this

theorem st_cells {H : Type} {enc : TypeId × Value → H} {W : World} {fuel : Nat} {cs : List Value} {x : DataW H × List MemPlace} (ht : DataW.trod enc Try.prog W 0 (fun _ => true) true fuel 27 cs = some x) :
    ∃ s : St, cs = stcl s ∧ x.1 = .agg [.lit (.string s.who), .lit (.string s.mark), .lit (.bool s.honest), .lit (.bool s.fork)] := by
  obtain ⟨ys, n', _, hy, hcl, hyl, hfs⟩ := DataW.trod_struct Try.underlying27 ht
  rw [cellsSt] at hcl
  match cs, hcl, ys, hyl with
  | [v0, v1, v2, v3], _, [y0, y1, y2, y3], _ =>
    have g0 := hfs 0 _ rfl
    have g1 := hfs 1 _ rfl
    have g2 := hfs 2 _ rfl
    have g3 := hfs 3 _ rfl
    simp [cellsB, cellsS] at g0 g1 g2 g3
    obtain ⟨s0, e0, x0, _⟩ := DataW.trod_string Try.underlying9 g0
    obtain ⟨s1, e1, x1, _⟩ := DataW.trod_string Try.underlying9 g1
    obtain ⟨b2, e2, x2⟩ := DataW.trod_bool Try.underlying4 g2
    obtain ⟨b3, e3, x3⟩ := DataW.trod_bool Try.underlying4 g3
    obtain rfl : v0 = .string s0 := by simpa using e0
    obtain rfl : v1 = .string s1 := by simpa using e1
    obtain rfl : v2 = .bool b2 := by simpa using e2
    obtain rfl : v3 = .bool b3 := by simpa using e3
    refine ⟨⟨s0.data.toList, s1.data.toList, b2, b3⟩, by simp [stcl], ?_⟩
    have := congrArg Prod.fst hy
    simpa [x0, x1, x2, x3] using this
theorem st_fits {H : Type} {s : St} (hw : ∀ k ∈ (DataW.agg [.lit (.string s.who), .lit (.string s.mark), .lit (.bool s.honest), .lit (.bool s.fork)] : DataW H).weights Try.prog 27, k ≤ reachBytes) : OkSt s := by
  simp [DataW.weights, DataW.weightsEach, Try.underlying27] at hw
  obtain ⟨b1, b2⟩ := hw
  have : reachBytes = 140737488351232 := rfl
  exact ⟨by omega, by omega⟩

set_option maxRecDepth 100000 in
theorem osteps_open {H : Type} {enc : TypeId × Value → H} {W : World} {r : Reach} {b0 : Nat} {v : Value} {d : DataW H} {p : List MemPlace}
    (hv : Value.okWide Try.prog W r b0 22 v) (h : DataW.Trod enc Try.prog W 0 (fun _ => true) true 22 v d p)
    (hz : ∀ n ∈ d.weights Try.prog 22, n ≤ reachBytes) :
    ∃ L, Sts W v L ∧ L.length * 40 ≤ reachBytes ∧ ∀ s ∈ L, OkSt s := by
  obtain ⟨a0, len, cap, rfl⟩ := okWide_slice Try.underlying22 hv
  obtain ⟨fuel, hf⟩ := h
  rcases Go.Deep.open_slice Try.underlying22 hf with ⟨hcs, _⟩ | ⟨x, l, c, m, n, D, Pl, hcs, _, hl, hm, hmm, hx, hel⟩
  · simp [Value.cells] at hcs
    obtain ⟨rfl, rfl, rfl⟩ := hcs
    exact ⟨[], ⟨none, 0, rfl, Nat.le_refl _, fun h => absurd h (by simp)⟩, by simp, fun n hn => by simp at hn⟩
  · simp [Value.cells] at hcs
    obtain ⟨rfl, rfl, rfl⟩ := hcs
    simp only [if_true] at hmm
    subst hmm
    rw [cellsSt] at hel hx
    obtain ⟨hd, -⟩ := Prod.mk.inj hx
    have hw : ∀ i, i < len → ∀ k ∈ (D i).weights Try.prog 27, k ≤ reachBytes := fun i hi k hk => by
      refine hz k ?_
      rw [hd]
      simp only [DataW.weights, Try.underlying22, List.mem_cons, List.mem_append]
      exact Or.inr (Or.inl (weights_of_mem (List.mem_map.2 ⟨i, List.mem_range.2 hi, rfl⟩) k hk))
    have hlen40 : len * 40 ≤ reachBytes := by
      have h1 := hz ((((List.range len).map D).length + ((List.range (m - len)).map fun j => D (len + j)).length) * Try.prog.bytesOf 27) (by
        rw [hd]; simp [DataW.weights, Try.underlying22])
      rw [show Try.prog.bytesOf 27 = 40 from by kernel_rfl] at h1
      simp only [List.length_map, List.length_range] at h1
      omega
    have key : ∀ i, i < len → ∃ q : St, OkSt q ∧ W.cell? ((x.add (i * 4)).add 0) = some (.string ⟨q.who.toArray⟩) ∧ W.cell? ((x.add (i * 4)).add 1) = some (.string ⟨q.mark.toArray⟩) ∧ W.cell? ((x.add (i * 4)).add 2) = some (.bool q.honest) ∧ W.cell? ((x.add (i * 4)).add 3) = some (.bool q.fork) := fun i hi => by
      obtain ⟨cs', hc, ht⟩ := hel i (by omega)
      obtain ⟨_, _, hat⟩ := World.cells?_some hc
      obtain ⟨q, rfl, hD⟩ := st_cells ht
      have hwi := hw i hi
      dsimp only at hD
      rw [hD] at hwi
      refine ⟨q, st_fits hwi, ?_, ?_, ?_, ?_⟩
      · simpa [stcl] using hat 0 (by omega)
      · simpa [stcl] using hat 1 (by omega)
      · simpa [stcl] using hat 2 (by omega)
      · simpa [stcl] using hat 3 (by omega)
    obtain ⟨f, hf⟩ := Go.Deep.choose_lt (fun i hi => key i hi)
    have hlen : ((List.range len).map f).length = len := by simp
    refine ⟨(List.range len).map f, ⟨some x, _, by rw [hlen], by rw [hlen]; omega, fun h0 => ?_⟩, by rw [hlen]; exact hlen40, ?_⟩
    · rw [hlen] at h0
      obtain ⟨b, o, sp⟩ := x
      obtain ⟨_, q0, _⟩ := hf 0 h0
      have hcell' : W.cell? ⟨b, o, sp⟩ = some (.string ⟨(f 0).who.toArray⟩) := by simpa [Addr.add] using q0
      obtain rfl := cell_spot hcell'
      refine ⟨b, o, rfl, block_lt_of_cell hcell', fun i hi => ?_⟩
      rw [hlen] at hi
      obtain ⟨_, q0, q1, q2, q3⟩ := hf i hi
      rw [Addr.add_mid, Addr.add_mid] at q0 q1 q2 q3
      simpa using ⟨q0, q1, q2, q3⟩
    · intro n hn
      obtain ⟨i, hi, rfl⟩ := List.mem_map.1 hn
      exact (hf i (List.mem_range.1 hi)).1

theorem ostep_open {H : Type} {enc : TypeId × Value → H} {W : World} {r : Reach} {b0 : Nat} {v : Value} {d : DataW H} {p : List MemPlace}
    (hv : Value.okWide Try.prog W r b0 27 v) (h : DataW.Trod enc Try.prog W 0 (fun _ => true) true 27 v d p)
    (hz : ∀ n ∈ d.weights Try.prog 27, n ≤ reachBytes) : ∃ s : St, v = .agg (stcl s).toArray ∧ OkSt s := by
  obtain ⟨cs, rfl, _⟩ := okWide_struct Try.underlying27 hv
  obtain ⟨fuel, hf⟩ := h
  obtain ⟨s, hc, hD⟩ := st_cells hf
  dsimp only at hD
  rw [hD] at hz
  have hc' : cs.toList = stcl s := hc
  refine ⟨s, ?_, st_fits hz⟩
  rw [← hc']
end Go.Proofs.Yteolephlajhghaa
