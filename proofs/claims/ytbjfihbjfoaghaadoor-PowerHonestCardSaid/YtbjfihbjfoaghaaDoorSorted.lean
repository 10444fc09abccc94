/- A row of texts of the call's own; the library's sort of it. -/
import Derived.Test.YtbjfihbjfoaghaaDoorMapBase
import Derived.Test.YtbjfihbjfoaghaaDoorArgStrs
import Derived.Test.YtbjfihbjfoaghaaDoorSortShelf
namespace Go.Proofs.YtbjfihbjfoaghaaDoor
open Go.RowKit

def scells (L : List (List UInt8)) : List Value := L.map fun l => .string ⟨l.toArray⟩
theorem scells_length (L : List (List UInt8)) : (scells L).length = L.length := by simp [scells]
theorem scells_append (L K : List (List UInt8)) : scells (L ++ K) = scells L ++ scells K := by simp [scells]
/-- A row of texts of the call's own, in a block from B on. -/
def Own (w : World) (B : Nat) (s : Value) (L : List (List UInt8)) : Prop := w.ownsRow B 9 1 s L.length (scells L)
theorem Own.nil (w : World) (B : Nat) : Own w B (.slice none 0 0) [] := ⟨rfl, Or.inl ⟨rfl, rfl⟩⟩
theorem Own.strs {w : World} {B : Nat} {s : Value} {L : List (List UInt8)} (h : Own w B s L) : Strs w s L := by
  obtain ⟨A, cap, rfl⟩ := own_form h
  refine ⟨A, cap, rfl, fun i hi => ?_⟩
  obtain ⟨g, cap', hv, hB, hlt⟩ := World.ownsRow.form h (by omega)
  obtain ⟨rfl, rfl⟩ : A = some ⟨g, 0, none⟩ ∧ cap = cap' := by simpa using hv
  exact ⟨_, rfl, World.ownsRow.cells h rfl i _ (by simp [scells, hi])⟩
theorem Own.below {w w' : World} {B : Nat} {s : Value} {L : List (List UInt8)} (h : Own w B s L) (hb : Below w.heap.size w w') : Own w' B s L :=
  row_out (G := fun _ => False) h (Out.of hb) (fun _ _ _ _ hf => hf.elim)
theorem Own.lt {w : World} {B : Nat} {s : Value} {L : List (List UInt8)} (h : Own w B s L) (k : Nat) (hk : s.ownBlock = some k) : B ≤ k ∧ k < w.heap.size := World.ownsRow.lt h k hk
theorem Own.strs_at {w w' : World} {B : Nat} {A : Option Addr} {n cap : Nat} {L : List (List UInt8)} (h : Own w B (.slice A n cap) L) (hb : Below w.heap.size w w') (k : Nat) (hk : k < L.length) : ∃ a, A = some a ∧ w'.cell? (a.add k) = some (.string ⟨L[k].toArray⟩) := by
  obtain ⟨A', cap', hv, hc⟩ := (h.below hb).strs
  obtain ⟨rfl, _⟩ : A = A' ∧ _ := by simpa using hv
  exact hc k hk

theorem sort_any (L : List (List UInt8)) (s : Value) (B : Nat) (w : World) (h : Own w B s L) (hl : L.length ≤ 1000000) (hB : B ≤ w.heap.size) :
    Calls Tryd.prog 34 #[s] w fun e w' => e = .returned (.tuple #[]) ∧ Own w' B s (L.mergeSort fun x y => decide (x ≤ y)) ∧ Below B w w' := by
  rcases h.2 with ⟨rfl, h0⟩ | ⟨g, cap, cur, rfl, hg, hh, hn, hcap, hsz, htake⟩
  · obtain rfl : L = [] := List.eq_nil_of_length_eq_zero h0
    refine (shelf_slices_Sort_string_none none 0 w).mono ?_
    rintro e w' ⟨rfl, rfl⟩
    exact ⟨rfl, by simpa using Own.nil w' B, (Below.refl _ w').mono hB⟩
  · have hlt := lt_of_heap hh
    have hcell : ∀ j (hj : j < L.length), cur[j]? = some (.string ⟨L[j].toArray⟩) := fun j hj => by
      have e := congrArg (fun l => l[j]?) htake
      simp only [Nat.mul_one, scells, List.getElem?_map] at e
      rw [List.getElem?_take_of_lt hj, Array.getElem?_toList] at e
      rw [e, List.getElem?_eq_getElem hj]
      rfl
    have hH : Go.Sort.Holds encStr w g 0 L.toArray := by
      intro j hj
      simp only [List.size_toArray] at hj
      refine ⟨?_, frozen_of_row _ _ _ _ _ hh⟩
      rw [Nat.zero_add, cell_of_row w g j _ _ _ hh, hcell j hj]
      simp [hj]
    refine (shelf_slices_Sort_string g 0 cap L w hH hlt (by omega)).mono ?_
    rintro e w' ⟨rfl, n, os, rfl⟩
    obtain ⟨S, hS⟩ : ∃ S, (L.mergeSort fun x y => decide (x ≤ y)) = S := ⟨_, rfl⟩
    have hSl : S.length = L.length := by rw [← hS]; exact List.length_mergeSort L
    rw [hS]
    have hother : ∀ k, k < w.heap.size → k ≠ g → (Go.Sort.grow (Go.Sort.putRow encStr (Go.Sort.ahead w n) g 0 S.toArray) os).heap[k]? = w.heap[k]? := fun k hk hne => by
      simp only [Go.Sort.grow, Go.Sort.putRow, Go.Sort.mapBlock, Go.Sort.ahead]
      rw [Array.getElem?_append_left (by simpa using hk), Array.getElem?_modify, if_neg (fun e => hne e.symm)]
    have hthis : (Go.Sort.grow (Go.Sort.putRow encStr (Go.Sort.ahead w n) g 0 S.toArray) os).heap[g]? = some (.cells (Go.Sort.putCells encStr 0 S.toArray cur) 9 (0, 0)) := by
      simp only [Go.Sort.grow, Go.Sort.putRow, Go.Sort.mapBlock, Go.Sort.ahead]
      rw [Array.getElem?_append_left (by simpa using hlt), Array.getElem?_modify, if_pos rfl, hh]
      rfl
    refine ⟨rfl, ⟨by simp [scells], Or.inr ⟨g, cap, _, by rw [hSl], hg, hthis, by omega, hcap, by simp [Go.Sort.putCells, hsz], ?_⟩⟩, ⟨rfl, rfl, rfl, ?_, fun k hk => hother k (by omega) (by omega)⟩⟩
    · apply List.ext_getElem?
      intro j
      rw [Nat.mul_one]
      by_cases hj : j < S.length
      · rw [List.getElem?_take_of_lt hj, Array.getElem?_toList]
        have hjc : j < cur.size := by omega
        simp [Go.Sort.putCells, scells, hj, hjc]
      · rw [List.getElem?_eq_none (by simp; omega), List.getElem?_eq_none (by simp [scells]; omega)]
    · simp [Go.Sort.grow, Go.Sort.putRow, Go.Sort.mapBlock, Go.Sort.ahead]
end Go.Proofs.YtbjfihbjfoaghaaDoor
