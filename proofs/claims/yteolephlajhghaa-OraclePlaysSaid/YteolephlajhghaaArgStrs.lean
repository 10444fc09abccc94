/- A slice of strings that lies in memory; the plain functions' steps over a list of texts; A slice of strings among a law's arguments, as the walks want it. -/
import Derived.Test.YteolephlajhghaaNibBase
import Derived.Test.YteolephlajhghaaCodeMath
import Derived.Lib.Hide
import Derived.SliceStrings
import Derived.OpenShut
namespace Go.Proofs.Yteolephlajhghaa
open Go.RowKit

def Strs (w : World) (v : Value) (L : List (List UInt8)) : Prop :=
  ∃ (A : Option Addr) (cap : Nat), v = .slice A L.length cap ∧ ∀ i (h : i < L.length), ∃ a, A = some a ∧ w.cell? (a.add i) = some (.string ⟨L[i].toArray⟩)
theorem Strs.below {w w' : World} {v : Value} {L : List (List UInt8)} (h : Strs w v L) (hb : Below w.heap.size w w') : Strs w' v L := by
  obtain ⟨A, cap, rfl, hc⟩ := h
  refine ⟨A, cap, rfl, fun i hi => ?_⟩
  obtain ⟨a, ha, hcell⟩ := hc i hi
  exact ⟨a, ha, (hb.cell (World.block_lt_of_cell? _ _ hcell)).trans hcell⟩
theorem Strs.nil (w : World) : Strs w (.slice none 0 0) [] := ⟨none, 0, rfl, fun i h => absurd h (Nat.not_lt_zero i)⟩
theorem Code.texts_snoc (L : List (List UInt8)) (k : Nat) (h : k < L.length) : Code.textsL (L.take k) ++ Code.textL L[k] = Code.textsL (L.take (k + 1)) := by
  rw [List.take_succ_eq_append_getElem h, Code.textsL, Code.textsL, List.flatMap_append]
  simp only [List.flatMap_cons, List.flatMap_nil, List.append_nil]
theorem Code.texts_take_le (L : List (List UInt8)) (k : Nat) : (Code.textsL (L.take k)).length ≤ (Code.textsL L).length := by
  have h : (Code.textsL (L.take k) ++ Code.textsL (L.drop k)).length = (Code.textsL L).length := by
    rw [Code.textsL, Code.textsL, ← List.flatMap_append, List.take_append_drop, Code.textsL]
  rw [List.length_append] at h
  omega
theorem Code.textL_length (s : List UInt8) : (Code.textL s).length = 1 + Code.sz s.length + s.length := by simp [Code.textL, Code.numL_length]
theorem Code.text_le_texts (L : List (List UInt8)) (k : Nat) (h : k < L.length) : L[k].length ≤ (Code.textsL L).length := by
  have h1 := Code.texts_take_le L (k + 1)
  rw [← Code.texts_snoc L k h, List.length_append, Code.textL_length] at h1
  omega
theorem Code.texts_bound (L : List (List UInt8)) (e : Nat) (he : e < 2 ^ 60) (h : ∀ s ∈ L, s.length ≤ e) : (Code.textsL L).length ≤ L.length * (e + 9) := by
  induction L with
  | nil => simp [Code.textsL]
  | cons s L ih =>
    have h1 := ih (fun t ht => h t (List.mem_cons_of_mem _ ht))
    have h2 := h s (List.mem_cons_self ..)
    have h3 := Code.sz_le8 s.length (by omega)
    have h4 := Code.textL_length s
    have e1 : Code.textsL (s :: L) = Code.textL s ++ Code.textsL L := by simp [Code.textsL]
    rw [e1, List.length_append, List.length_cons, Nat.add_mul]
    omega

end Go.Proofs.Yteolephlajhghaa
namespace Go.Proofs.Yteolephlajhghaa
open Go.RowKit Go.ChangeShapes Go.WideShapes

end Go.Proofs.Yteolephlajhghaa
