/- A slice of blocks of 64 bytes among a law's arguments, as the walks want it. -/
import Derived.Test.YtohefeekjncaeaaDoorArgArrays
import Derived.Deep.Slices
import Derived.DataReads
import Derived.Lib.LaidU8
namespace Go.Proofs.YtohefeekjncaeaaDoor
open Go.RowKit Go.ChangeShapes Go.WideShapes

def Blks (w : World) (v : Value) (L : List (List UInt8)) : Prop :=
  ∃ (A : Option Addr) (cap : Nat), v = .slice A L.length cap ∧ (0 < L.length → ∃ b o, A = some ⟨b, o, none⟩ ∧ b < w.heap.size ∧ ∀ i (h : i < L.length), L[i].length = 64 ∧ w.rangeAt b (o + i * 64) (cellsL L[i]))
theorem rangeAt_below {w w' : World} {b o : Nat} {cs : List Value} (h : w.rangeAt b o cs) (hb : Below w.heap.size w w') (hlt : b < w.heap.size) : w'.rangeAt b o cs := fun j v hv => (hb.cell hlt).trans (h j v hv)
theorem blks_open {H : Type} {enc : TypeId × Value → H} {W : World} {r : Reach} {b0 : Nat} {v : Value} {d : DataW H} {p : List MemPlace}
    (hv : Value.okWide Tryd.prog W r b0 38 v) (h : DataW.Trod enc Tryd.prog W 0 (fun _ => true) true 38 v d p) :
    ∃ L, Blks W v L ∧ L.length ≤ maxLen := by
  obtain ⟨a0, len, cap, rfl⟩ := okWide_slice Tryd.underlying38 hv
  obtain ⟨fuel, hf⟩ := h
  have hce : Tryd.prog.cellsOf 24 = 64 := by kernel_rfl
  rcases Go.Deep.open_slice Tryd.underlying38 hf with ⟨hcs, _⟩ | ⟨x, l, c, m, n, D, Pl, hcs, _, hl, hm, hmm, _, hel⟩
  · simp [Value.cells] at hcs
    obtain ⟨rfl, rfl, rfl⟩ := hcs
    exact ⟨[], ⟨none, 0, rfl, fun h => absurd h (by simp)⟩, Nat.zero_le _⟩
  · simp [Value.cells] at hcs
    obtain ⟨rfl, rfl, rfl⟩ := hcs
    simp only [if_true] at hmm
    subst hmm
    have key : ∀ i, i < len → ∃ q : List UInt8, q.length = 64 ∧ ∀ j u, (cellsL q)[j]? = some u → W.cell? ((x.add (i * 64)).add j) = some u := fun i hi => by
      obtain ⟨cs', hc, ht⟩ := hel i (by omega)
      rw [hce] at hc
      obtain ⟨zs, hzl, hzc, hw⟩ := ints_of_array Tryd.underlying24 Tryd.underlying5 (by kernel_rfl) (by kernel_rfl) ht
      rw [bytes_of_list zs hw] at hzc
      refine ⟨zs.map Sha.byteOf, by rw [List.length_map, hzl], fun j u hu => ?_⟩
      have hs := World.cells?_some hc
      rw [← hzc] at hu
      have hj : j < cs'.length := (List.getElem?_eq_some_iff.1 hu).1
      rw [hs.2.2 j (by rw [← hs.2.1]; exact hj)]
      exact hu
    obtain ⟨f, hf⟩ := Go.Deep.choose_lt key
    have hlen : ((List.range len).map f).length = len := by simp
    refine ⟨(List.range len).map f, ⟨some x, _, by rw [hlen], fun h0 => ?_⟩, by omega⟩
    rw [hlen] at h0
    obtain ⟨b, o, sp⟩ := x
    obtain ⟨q64, q0⟩ := hf 0 h0
    have hcell := q0 0 (.int .u8 (((f 0).getD 0 0).toNat : Int)) (by simp [cellsL, show 0 < (f 0).length by omega])
    have hcell' : W.cell? ⟨b, o, sp⟩ = some (.int .u8 (((f 0).getD 0 0).toNat : Int)) := by simpa [Addr.add] using hcell
    obtain rfl := cell_spot hcell'
    refine ⟨b, o, rfl, block_lt_of_cell hcell', fun i hi => ?_⟩
    rw [hlen] at hi
    obtain ⟨h64, hc⟩ := hf i hi
    refine ⟨by simpa using h64, fun j u hu => ?_⟩
    have := hc j u (by simpa using hu)
    rw [Addr.add_mid, Addr.add_mid] at this
    exact this

end Go.Proofs.YtohefeekjncaeaaDoor
