/- The library's sort of a row of signatures. -/
import Derived.Test.YteolephlajhghaaOraOrder
namespace Go.Proofs.Yteolephlajhghaa
open Go.RowKit Go.Sort
open Go.Proofs.Yteolephlajhghaa.Ora (K Sig)

theorem flat_sgrows (L : List Sig) : flatK scl 3 L.toArray = (sgrows L).toArray := by
  apply Array.ext_getElem?
  intro j
  by_cases hj : j < L.length * 3
  · have h1 : j / 3 < L.length := by omega
    have e : j = j / 3 * 3 + j % 3 := by omega
    have h2 : (flatK scl 3 L.toArray)[j]? = some (flatK scl 3 L.toArray)[j]! := by
      rw [getElem!_pos _ j (by simpa using hj)]; exact Array.getElem?_eq_getElem _
    rw [h2, get_flatK _ _ _ _ (by simpa using hj), List.getElem?_toArray]
    have h3 : L.toArray[j / 3]! = L[j / 3] := by rw [getElem!_pos _ (j / 3) (by simpa using h1)]; simp
    rw [h3]
    have h4 := sgrows_at L (j / 3) (j % 3) h1 (by omega)
    rw [← e] at h4
    rw [h4]
    have h5 : j % 3 < (scl L[j / 3]).length := by simp [scl]; omega
    rw [List.getElem?_eq_getElem h5, getElem!_pos (scl L[j / 3]) (j % 3) h5]
  · rw [Array.getElem?_eq_none (by simp; omega), Array.getElem?_eq_none (by simp [sgrows_length]; omega)]

theorem cmpLays (blk off size : Nat) (w : World) : CmpLays Try.prog 23 #[] scl 3 (fun x y : Sig => cmpK x.1 y.1) blk off size w :=
  fun _ _ _ _ x y => order_any x y _

theorem sorts_any (L S : List Sig) (s : Value) (B : Nat) (w : World) (h : OwnS w B s L) (hS : Ora.Rising S) (hp : L.Perm S) (hl : L.length ≤ 1000000) (hB : B ≤ w.heap.size) :
    Calls Try.prog 22 #[s, .func (.func 23) #[] #[]] w fun e w' => e = .returned (.tuple #[]) ∧ OwnS w' B s S ∧ Below B w w' := by
  have hSl : S.length = L.length := hp.length_eq.symm
  rcases h.2 with ⟨rfl, h0⟩ | ⟨g, cap, cur, rfl, hg, hh, hn, hcap, hsz, htake⟩
  · obtain rfl : L = [] := List.eq_nil_of_length_eq_zero h0
    obtain rfl : S = [] := List.eq_nil_of_length_eq_zero hSl
    refine (shelf_slices_SortFunc_none none 0 _ w).mono ?_
    rintro e w' ⟨rfl, rfl⟩
    exact ⟨rfl, OwnS.nil w' B, (Below.refl _ w').mono hB⟩
  · have hlt := lt_of_heap hh
    have hcell : ∀ j (hj : j < L.length * 3), cur[j]? = (sgrows L)[j]? := fun j hj => by
      have e := congrArg (fun l => l[j]?) htake
      rw [List.getElem?_take_of_lt hj, Array.getElem?_toList] at e
      exact e
    have hH : HoldsK scl 3 w g 0 L.toArray := by
      unfold HoldsK
      rw [flat_sgrows]
      intro j hj
      simp only [List.size_toArray, sgrows_length] at hj
      refine ⟨?_, frozen_of_row _ _ _ _ _ hh⟩
      rw [Nat.zero_add, cell_of_row w g j _ _ _ hh, hcell j hj, List.getElem?_eq_getElem (by rw [sgrows_length]; exact hj)]
      rw [getElem!_pos _ j (by simpa [sgrows_length] using hj)]
      simp
    have eg : ∀ args w, (callFunc 23 args).run Try.prog w = .ok (.enter 23 args) w := enters_of Try.func23 (by kernel_rfl) rfl
    refine (shelf_slices_SortFunc scl (fun _ => rfl) (fun x v hv => by simp [scl] at hv; rcases hv with rfl | rfl | rfl <;> rfl) (fun x y : Sig => cmpK x.1 y.1) swoK 23 #[] g 0 cap L.toArray w eg (cmpLays g 0 _ w) hH hlt (by simp; omega)).mono ?_
    rintro e w' ⟨rfl, d', n, os, hperm, hsort, rfl⟩
    have hd : d'.toList = S := by
      obtain ⟨q1, _, q3⟩ := hperm
      have q1' : d'.size = L.length := by simpa using q1
      have ex : ∀ a : Array Sig, a.size = L.length → (a.extract 0 L.toArray.size).toList = a.toList := fun a ha => by
        have : L.toArray.size = a.size := by simp [ha]
        rw [this]; simp
      rw [ex d' q1', ex L.toArray (by simp)] at q3
      refine Ora.rising_of_perm hS (q3.trans (by simpa using hp)) ?_
      rw [List.pairwise_iff_getElem]
      intro i j hi hj hij
      have hs := hsort i j (Nat.zero_le _) hij (by simpa [q1'] using hj)
      rw [ltOf_kLt] at hs
      rw [getElem!_pos d' i (by simpa using hi), getElem!_pos d' j (by simpa using hj)] at hs
      simpa using hs
    obtain rfl : d' = S.toArray := by rw [← hd]
    clear hperm hsort hd
    unfold sortWorldK putRowK
    rw [flat_sgrows]
    have hother : ∀ k, k < w.heap.size → k ≠ g → (grow (putRow id (Sort.ahead w n) g 0 (sgrows S).toArray) os).heap[k]? = w.heap[k]? := fun k hk hne => by
      simp only [Go.Sort.grow, Go.Sort.putRow, Go.Sort.mapBlock, Go.Sort.ahead]
      rw [Array.getElem?_append_left (by simpa using hk), Array.getElem?_modify, if_neg (fun e => hne e.symm)]
    have hthis : (grow (putRow id (Sort.ahead w n) g 0 (sgrows S).toArray) os).heap[g]? = some (.cells (Go.Sort.putCells id 0 (sgrows S).toArray cur) 40 (0, 0)) := by
      simp only [Go.Sort.grow, Go.Sort.putRow, Go.Sort.mapBlock, Go.Sort.ahead]
      rw [Array.getElem?_append_left (by simpa using hlt), Array.getElem?_modify, if_pos rfl, hh]
      rfl
    refine ⟨rfl, ⟨by rw [sgrows_length], Or.inr ⟨g, cap, _, by rw [hSl], hg, hthis, by omega, hcap, by simp [Go.Sort.putCells, hsz], ?_⟩⟩, ⟨rfl, rfl, rfl, ?_, fun k hk => hother k (by omega) (by omega)⟩⟩
    · apply List.ext_getElem?
      intro j
      by_cases hj : j < S.length * 3
      · rw [List.getElem?_take_of_lt hj, Array.getElem?_toList]
        have hjc : j < cur.size := by omega
        have hjs : j < (sgrows S).length := by rw [sgrows_length]; exact hj
        simp [Go.Sort.putCells, hjs, hjc]
      · rw [List.getElem?_eq_none (by simp; omega), List.getElem?_eq_none (by rw [sgrows_length]; omega)]
    · simp [Go.Sort.grow, Go.Sort.putRow, Go.Sort.mapBlock, Go.Sort.ahead]
end Go.Proofs.Yteolephlajhghaa
