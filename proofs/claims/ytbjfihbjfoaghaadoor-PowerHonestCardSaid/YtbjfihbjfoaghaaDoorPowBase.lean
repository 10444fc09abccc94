/- Members in memory: as values, as cells, in a slice that came in or was made. -/
import Derived.Test.YtbjfihbjfoaghaaDoorPowMath
import Derived.Test.YtbjfihbjfoaghaaDoorArgStrs
import Derived.Test.YtbjfihbjfoaghaaDoorStrClone
import Derived.Deep.Slices
import Derived.DataReads
import Derived.OpenShut
import Derived.SizedLaws
import Derived.Lib.LaidU8
namespace Go.Proofs.YtbjfihbjfoaghaaDoor
open Go.RowKit Go.ChangeShapes Go.WideShapes
open Go.Proofs.YtbjfihbjfoaghaaDoor.Pw (M)

theorem less_lt : ∀ (x y : List UInt8), Op.bytesLess x y = decide (x < y)
  | [], [] => by simp [Op.bytesLess]
  | _ :: _, [] => by simp [Op.bytesLess]
  | [], _ :: _ => by simp [Op.bytesLess]
  | a :: x, b :: y => by
    rw [Op.bytesLess, less_lt x y, Bool.eq_iff_iff]
    simp only [Bool.or_eq_true, Bool.and_eq_true, decide_eq_true_eq, beq_iff_eq, List.cons_lt_cons_iff]
theorem leq_le (x y : List UInt8) : (Op.bytesLess x y || x == y) = decide (x ≤ y) := by
  rw [less_lt, Bool.eq_iff_iff]
  simp only [Bool.or_eq_true, decide_eq_true_eq, beq_iff_eq]
  exact List.le_iff_lt_or_eq.symm

def mval (m : M) : Value := .agg #[.string ⟨m.name.toArray⟩, .int .i64 m.power]
def mcells (m : M) : List Value := [.string ⟨m.name.toArray⟩, .int .i64 m.power]
def mrows (L : List M) : List Value := L.flatMap mcells
theorem mrows_length (L : List M) : (mrows L).length = L.length * 2 := by
  induction L with
  | nil => rfl
  | cons a L ih => simp [mrows, mcells] at ih ⊢; omega
theorem mrows_append (L K : List M) : mrows (L ++ K) = mrows L ++ mrows K := by simp [mrows]
theorem mrows_cons (a : M) (L : List M) : mrows (a :: L) = .string ⟨a.name.toArray⟩ :: .int .i64 a.power :: mrows L := by simp [mrows, mcells]
theorem mrows_at (L : List M) (i j : Nat) (hi : i < L.length) (hj : j < 2) : (mrows L)[i * 2 + j]? = (mcells L[i])[j]? := by
  induction L generalizing i with
  | nil => simp at hi
  | cons a L ih =>
    have e : mrows (a :: L) = mcells a ++ mrows L := by simp [mrows]
    rw [e]
    cases i with
    | zero =>
      rw [List.getElem?_append_left (by simp [mcells]; omega)]
      simp
    | succ i =>
      rw [List.getElem?_append_right (by simp [mcells]; omega)]
      have : (i + 1) * 2 + j - (mcells a).length = i * 2 + j := by simp [mcells]; omega
      rw [this, ih i (by simpa using hi)]
      simp
theorem mrows_set (L : List M) (k : Nat) (m : M) (hk : k < L.length) :
    ((mrows L).set (k * 2) (.string ⟨m.name.toArray⟩)).set (k * 2 + 1) (.int .i64 m.power) = mrows (L.set k m) := by
  induction L generalizing k with
  | nil => simp at hk
  | cons a L ih =>
    rw [mrows_cons]
    cases k with
    | zero => simp [mrows_cons]
    | succ k =>
      have := ih k (by simpa using hk)
      rw [show (k + 1) * 2 = k * 2 + 2 by omega]
      simp only [List.set_cons_succ, mrows_cons]
      rw [this]
theorem cellsM : Tryd.prog.cellsOf 43 = 2 := by kernel_rfl
theorem Tryd.infoMember : (Tryd.prog.info? 43).map (fun i => (i.zero, i.size, i.bytes)) = some (some (.agg #[.string ⟨#[]⟩, .int .i64 0]), 2, 24) := by kernel_rfl
theorem Tryd.infoStr : (Tryd.prog.info? 9).map (fun i => (i.zero, i.size, i.bytes)) = some (some (.string ⟨#[]⟩), 1, 16) := by kernel_rfl

/-- A slice that has these members. -/
def Mems (w : World) (v : Value) (L : List M) : Prop :=
  ∃ (A : Option Addr) (cap : Nat), v = .slice A L.length cap ∧ (0 < L.length → ∃ b o, A = some ⟨b, o, none⟩ ∧ b < w.heap.size ∧ ∀ i (h : i < L.length),
    w.cell? ⟨b, o + i * 2, none⟩ = some (.string ⟨L[i].name.toArray⟩) ∧ w.cell? ⟨b, o + i * 2 + 1, none⟩ = some (.int .i64 L[i].power))
theorem Mems.nil (w : World) : Mems w (.slice none 0 0) [] := ⟨none, 0, rfl, fun h => absurd h (by simp)⟩
theorem Mems.below {w w' : World} {v : Value} {L : List M} (h : Mems w v L) (hb : Below w.heap.size w w') : Mems w' v L := by
  obtain ⟨A, cap, rfl, hc⟩ := h
  refine ⟨A, cap, rfl, fun h0 => ?_⟩
  obtain ⟨b, o, rfl, hlt, hcell⟩ := hc h0
  refine ⟨b, o, rfl, Nat.lt_of_lt_of_le hlt hb.size, fun i hi => ?_⟩
  obtain ⟨h1, h2⟩ := hcell i hi
  exact ⟨(hb.cell hlt).trans h1, (hb.cell hlt).trans h2⟩
theorem Mems.drew {w : World} {v : Value} {L : List M} (h : Mems w v L) : Mems w.drew v L := h.below (Below.refl _ w).drew
/-- One member's cells. -/
theorem Mems.at {w w' : World} {A : Option Addr} {n cap : Nat} {L : List M} (h : Mems w (.slice A n cap) L) (hb : Below w.heap.size w w') (k : Nat) (hk : k < L.length) :
    ∃ b o, A = some ⟨b, o, none⟩ ∧ w'.cell? ⟨b, o + k * 2, none⟩ = some (.string ⟨L[k].name.toArray⟩) ∧ w'.cell? ⟨b, o + k * 2 + 1, none⟩ = some (.int .i64 L[k].power) := by
  obtain ⟨A', cap', hv, hc⟩ := h.below hb
  obtain ⟨rfl, rfl, rfl⟩ : A = A' ∧ n = L.length ∧ cap = cap' := by simpa using hv
  obtain ⟨b, o, rfl, _, hcell⟩ := hc (by omega)
  exact ⟨b, o, rfl, hcell k hk⟩
theorem Mems.len {w : World} {A : Option Addr} {n cap : Nat} {L : List M} (h : Mems w (.slice A n cap) L) : n = L.length := by
  obtain ⟨A', cap', hv, _⟩ := h
  simp at hv
  exact hv.2.1
theorem Mems.form {w : World} {v : Value} {L : List M} (h : Mems w v L) : ∃ A cap, v = .slice A L.length cap := by
  obtain ⟨A, cap, rfl, _⟩ := h
  exact ⟨A, cap, rfl⟩
theorem mrow_cells {w : World} {B : Nat} {s : Value} {L : List M} (h : w.ownsRow B 43 2 s L.length (mrows L)) (k : Nat) (hk : k < L.length) :
    ∃ b cap, s = .slice (some ⟨b, 0, none⟩) L.length cap ∧ B ≤ b ∧ b < w.heap.size ∧ w.cell? ⟨b, k * 2, none⟩ = some (.string ⟨L[k].name.toArray⟩) ∧ w.cell? ⟨b, k * 2 + 1, none⟩ = some (.int .i64 L[k].power) := by
  obtain ⟨b, cap, hv, hB, hlt⟩ := h.form (by omega)
  have hc := h.cells (g := b) (by rw [hv]; rfl)
  refine ⟨b, cap, hv, hB, hlt, ?_, ?_⟩
  · have := hc (k * 2 + 0) _ (by rw [mrows_at L k 0 hk (by omega)]; rfl)
    rw [Addr.add_mid] at this; simpa using this
  · have := hc (k * 2 + 1) _ (by rw [mrows_at L k 1 hk (by omega)]; rfl)
    rw [Addr.add_mid] at this; simpa using this
theorem Mems.own {w : World} {B : Nat} {s : Value} {L : List M} (h : w.ownsRow B 43 2 s L.length (mrows L)) : Mems w s L := by
  obtain ⟨A, cap, rfl⟩ := own_form h
  refine ⟨A, cap, rfl, fun h0 => ?_⟩
  obtain ⟨b, cap', hv, _, hlt, _⟩ := mrow_cells h 0 h0
  obtain ⟨rfl, rfl⟩ : A = some ⟨b, 0, none⟩ ∧ cap = cap' := by simpa using hv
  refine ⟨b, 0, rfl, hlt, fun i hi => ?_⟩
  obtain ⟨b', cap', hv', _, _, h1, h2⟩ := mrow_cells h i hi
  obtain ⟨rfl, rfl⟩ : b = b' ∧ cap = cap' := by simpa using hv'
  rw [Nat.zero_add]
  exact ⟨h1, h2⟩

/-- A member that fits. -/
structure OkMem (m : M) : Prop where
  power : (Lit.int .i64 m.power).wf = true
  name : m.name.length ≤ 140737488351232
theorem weights_of_mem {H : Type} {P : Program} {e : TypeId} : ∀ {l : List (DataW H)} {d : DataW H}, d ∈ l → ∀ n ∈ d.weights P e, n ∈ DataW.weightsAll P e l
  | a :: r, d, hd, n, hn => by
    rw [DataW.weightsAll, List.mem_append]
    cases List.mem_cons.1 hd with
    | inl h => exact Or.inl (h ▸ hn)
    | inr h => exact Or.inr (weights_of_mem h n hn)

set_option maxRecDepth 100000 in
theorem mems_open {H : Type} {enc : TypeId × Value → H} {W : World} {r : Reach} {b0 : Nat} {v : Value} {d : DataW H} {p : List MemPlace}
    (hv : Value.okWide Tryd.prog W r b0 22 v) (h : DataW.Trod enc Tryd.prog W 0 (fun _ => true) true 22 v d p)
    (hz : ∀ n ∈ d.weights Tryd.prog 22, n ≤ reachBytes) :
    ∃ L, Mems W v L ∧ L.length * 24 ≤ reachBytes ∧ ∀ m ∈ L, OkMem m := by
  obtain ⟨a0, len, cap, rfl⟩ := okWide_slice Tryd.underlying22 hv
  obtain ⟨fuel, hf⟩ := h
  rcases Go.Deep.open_slice Tryd.underlying22 hf with ⟨hcs, _⟩ | ⟨x, l, c, m, n, D, Pl, hcs, _, hl, hm, hmm, hx, hel⟩
  · simp [Value.cells] at hcs
    obtain ⟨rfl, rfl, rfl⟩ := hcs
    exact ⟨[], Mems.nil W, by simp, fun n hn => by simp at hn⟩
  · simp [Value.cells] at hcs
    obtain ⟨rfl, rfl, rfl⟩ := hcs
    simp only [if_true] at hmm
    subst hmm
    rw [cellsM] at hel hx
    obtain ⟨hd, -⟩ := Prod.mk.inj hx
    have hw : ∀ i, i < len → ∀ k ∈ (D i).weights Tryd.prog 43, k ≤ reachBytes := fun i hi k hk => by
      refine hz k ?_
      rw [hd]
      simp only [DataW.weights, Tryd.underlying22, List.mem_cons, List.mem_append]
      exact Or.inr (Or.inl (weights_of_mem (List.mem_map.2 ⟨i, List.mem_range.2 hi, rfl⟩) k hk))
    have hlen24 : len * 24 ≤ reachBytes := by
      have h1 := hz ((((List.range len).map D).length + ((List.range (m - len)).map fun j => D (len + j)).length) * Tryd.prog.bytesOf 43) (by
        rw [hd]; simp [DataW.weights, Tryd.underlying22])
      rw [show Tryd.prog.bytesOf 43 = 24 from by kernel_rfl] at h1
      simp only [List.length_map, List.length_range] at h1
      omega
    have key : ∀ i, i < len → ∃ q : M, OkMem q ∧ W.cell? ((x.add (i * 2)).add 0) = some (.string ⟨q.name.toArray⟩) ∧ W.cell? ((x.add (i * 2)).add 1) = some (.int .i64 q.power) := fun i hi => by
      obtain ⟨cs', hc, ht⟩ := hel i (by omega)
      obtain ⟨ys, n', _, hy, hcl, hyl, hfs⟩ := DataW.trod_struct Tryd.underlying43 ht
      rw [cellsM] at hcl
      obtain ⟨_, _, hat⟩ := World.cells?_some hc
      match cs', hcl, ys, hyl with
      | [v0, v1], _, [y0, y1], _ =>
        have g0 := hfs 0 _ rfl
        have g1 := hfs 1 _ rfl
        simp [cellsI, cellsS] at g0 g1
        obtain ⟨s0, e0, x0, z0⟩ := DataW.trod_string Tryd.underlying9 g0
        obtain ⟨t, e1, x1, wf⟩ := DataW.trod_int Tryd.underlying3 g1
        obtain rfl : v0 = .string s0 := by simpa using e0
        obtain rfl : v1 = .int .i64 t := by simpa using e1
        have hD : D i = .agg [.lit (.string s0.data.toList), .lit (.int .i64 t)] := by
          have := (Prod.mk.inj hy).1
          simpa [x0, x1] using this
        have hwi := hw i hi
        rw [hD] at hwi
        simp [DataW.weights, DataW.weightsEach, Tryd.underlying43] at hwi
        refine ⟨⟨s0.data.toList, t⟩, ⟨wf, ?_⟩, ?_, ?_⟩
        · have : reachBytes = 140737488351232 := rfl
          simp at hwi ⊢; omega
        · simpa using hat 0 (by omega)
        · simpa using hat 1 (by omega)
    obtain ⟨f, hf⟩ := Go.Deep.choose_lt (fun i hi => key i hi)
    have hlen : ((List.range len).map f).length = len := by simp
    refine ⟨(List.range len).map f, ⟨some x, _, by rw [hlen], fun h0 => ?_⟩, by rw [hlen]; exact hlen24, ?_⟩
    · rw [hlen] at h0
      obtain ⟨b, o, sp⟩ := x
      obtain ⟨_, q0, _⟩ := hf 0 h0
      have hcell' : W.cell? ⟨b, o, sp⟩ = some (.string ⟨(f 0).name.toArray⟩) := by simpa [Addr.add] using q0
      obtain rfl := cell_spot hcell'
      refine ⟨b, o, rfl, block_lt_of_cell hcell', fun i hi => ?_⟩
      rw [hlen] at hi
      obtain ⟨_, q0, q1⟩ := hf i hi
      rw [Addr.add_mid, Addr.add_mid] at q0 q1
      simpa using ⟨q0, q1⟩
    · intro n hn
      obtain ⟨i, hi, rfl⟩ := List.mem_map.1 hn
      exact (hf i (List.mem_range.1 hi)).1

end Go.Proofs.YtbjfihbjfoaghaaDoor
