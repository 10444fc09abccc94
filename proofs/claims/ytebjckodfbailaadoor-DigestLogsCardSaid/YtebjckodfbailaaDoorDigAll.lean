/- Rows of things in a block of their own; (*digest.Log).All. -/
import Derived.Test.YtebjckodfbailaaDoorDigClash
import Derived.Laws.MakeOwn
namespace Go.Proofs.YtebjckodfbailaaDoor
open Go.RowKit

theorem rows_cons (a : Dig.N) (L : List Dig.N) : rows (a :: L) = .int .i64 a.tag :: .string ⟨a.text.toArray⟩ :: .string ⟨a.dig.toArray⟩ :: rows L := by simp [rows, ncells]
theorem rows_set (M : List Dig.N) (k : Nat) (n : Dig.N) (hk : k < M.length) :
    (((rows M).set (k * 3) (.int .i64 n.tag)).set (k * 3 + 1) (.string ⟨n.text.toArray⟩)).set (k * 3 + 2) (.string ⟨n.dig.toArray⟩) = rows (M.set k n) := by
  induction M generalizing k with
  | nil => simp at hk
  | cons a M ih =>
    rw [rows_cons]
    cases k with
    | zero => simp [rows_cons]
    | succ k =>
      have := ih k (by simpa using hk)
      rw [show (k + 1) * 3 = k * 3 + 3 by omega]
      simp only [List.set_cons_succ, rows_cons]
      rw [this]
theorem rows_zero (n : Nat) : madeCells #[.int .i64 0, .string ⟨#[]⟩, .string ⟨#[]⟩] (n * 3) = (rows (List.replicate n Dig.zero)).toArray := by
  apply Array.ext
  · simp [size_madeCells, rows_length]
  · intro i h1 h2
    have hi : i < n * 3 := by simpa [size_madeCells] using h1
    obtain ⟨q, r, hr, rfl⟩ : ∃ q r, r < 3 ∧ i = q * 3 + r := ⟨i / 3, i % 3, by omega, by omega⟩
    have e := rows_at (List.replicate n Dig.zero) q r (by simp; omega) hr
    have e2 : (q * 3 + r) % 3 = r := by omega
    rw [List.getElem?_eq_getElem (by simpa using h2)] at e
    have e3 : (madeCells #[Value.int .i64 0, .string ⟨#[]⟩, .string ⟨#[]⟩] (n * 3))[q * 3 + r] = (#[Value.int .i64 0, .string ⟨#[]⟩, .string ⟨#[]⟩] : Array Value)[r]! := by
      simp [madeCells, e2]
    rw [e3]
    have e4 : (rows (List.replicate n Dig.zero)).toArray[q * 3 + r] = (rows (List.replicate n Dig.zero))[q * 3 + r]'(by simpa using h2) := by simp
    rw [e4]
    apply Option.some.inj
    rw [e]
    have hc : r = 0 ∨ r = 1 ∨ r = 2 := by omega
    rcases hc with rfl | rfl | rfl <;> simp [ncells, Dig.zero]
theorem Tryd.makeNoted (w : World) (n : Nat) (hn : n ≤ 1000000) : (Instr.makeSlice 33 (.int .i64 (n : Int)) (.int .i64 (n : Int))).run Tryd.prog w = .ok (.slice (some ⟨w.heap.size, 0, none⟩) n n) (w.alloc (.cells (rows (List.replicate n Dig.zero)).toArray 35)) := by
  obtain ⟨i0, hi, hz0, hz1, hz2⟩ := info_parts Tryd.infoNoted
  have h := run_make (P := Tryd.prog) w 33 35 i0 _ Tryd.underlying33 hi hz0 .i64 .i64 (n : Int) (n : Int) (by omega) (Int.le_refl _) (by rw [hz2]; omega) (by omega)
  rw [hz1] at h
  simp only [Int.toNat_natCast, Value.cells, rows_zero] at h
  exact h

/-- Block b has these things, one behind the other. -/
def RowIs (w : World) (b : Nat) (M : List Dig.N) : Prop := w.heap[b]? = some (.cells (rows M).toArray 35 (0, 0))
theorem RowIs.at {w : World} {b : Nat} {M : List Dig.N} (h : RowIs w b M) (k : Nat) (hk : k < M.length) :
    w.cell? ⟨b, k * 3, none⟩ = some (.int .i64 M[k].tag) ∧ w.cell? ⟨b, k * 3 + 1, none⟩ = some (.string ⟨M[k].text.toArray⟩) ∧ w.cell? ⟨b, k * 3 + 2, none⟩ = some (.string ⟨M[k].dig.toArray⟩) ∧ w.frozen? ⟨b, k * 3, none⟩ = false ∧ w.frozen? ⟨b, k * 3 + 1, none⟩ = false ∧ w.frozen? ⟨b, k * 3 + 2, none⟩ = false := by
  have h0 := rows_at M k 0 hk (by omega)
  have h1 := rows_at M k 1 hk (by omega)
  have h2 := rows_at M k 2 hk (by omega)
  refine ⟨?_, ?_, ?_, frozen_of_row _ _ _ _ _ h, frozen_of_row _ _ _ _ _ h, frozen_of_row _ _ _ _ _ h⟩
  · rw [cell_of_row w b (k * 3) _ _ _ h]; simpa [ncells] using h0
  · rw [cell_of_row w b (k * 3 + 1) _ _ _ h]; simpa [ncells] using h1
  · rw [cell_of_row w b (k * 3 + 2) _ _ _ h]; simpa [ncells] using h2
theorem RowIs.set {w : World} {b : Nat} {M : List Dig.N} (h : RowIs w b M) (k : Nat) (hk : k < M.length) (n : Dig.N) :
    RowIs (((w.setCell ⟨b, k * 3, none⟩ (.int .i64 n.tag)).setCell ⟨b, k * 3 + 1, none⟩ (.string ⟨n.text.toArray⟩)).setCell ⟨b, k * 3 + 2, none⟩ (.string ⟨n.dig.toArray⟩)) b (M.set k n) := by
  have h3 := heap_setCell_same _ _ (k * 3 + 2) _ _ (.string ⟨n.dig.toArray⟩) (heap_setCell_same _ _ (k * 3 + 1) _ _ (.string ⟨n.text.toArray⟩) (heap_setCell_same _ _ (k * 3) _ _ (.int .i64 n.tag) h))
  unfold RowIs
  rw [h3, ← rows_set M k n hk]
  simp
theorem RowIs.below {w w' : World} {b B : Nat} {M : List Dig.N} (h : RowIs w b M) (hb : Below B w w') (hB : b < B) : RowIs w' b M := (hb.block b hB).trans h
theorem RowIs.lt {w : World} {b : Nat} {M : List Dig.N} (h : RowIs w b M) : b < w.heap.size := lt_of_heap h
theorem Dig.copy_step {L : List Dig.N} {k : Nat} (hk : k < L.length) : (L.take k ++ List.replicate (L.length - k) Dig.zero).set k L[k] = L.take (k + 1) ++ List.replicate (L.length - (k + 1)) Dig.zero := by
  have hl : (L.take k).length = k := by simp; omega
  rw [List.set_append_right _ _ (by omega), hl, Nat.sub_self]
  rw [show L.length - k = (L.length - (k + 1)) + 1 by omega, List.replicate_succ, List.set_cons_zero, List.take_succ_eq_append_getElem hk, List.append_assoc]
  rfl

set_option maxRecDepth 8000 in
set_option maxHeartbeats 1000000 in
theorem all_any (L : List Dig.N) (g : Nat) (F : Nat → Prop) (w : World) (hl : LogAt w g F L) :
    Calls Tryd.prog 21 #[.pointer (some ⟨g, 0, none⟩)] w fun e w' => e = .returned (.slice (some ⟨w.heap.size, 0, none⟩) L.length L.length) ∧ RowIs w' w.heap.size L ∧ Below w.heap.size w w' := by
  have HL := Lib.hid hl
  obtain ⟨s, m1, m2, M, hp⟩ := hl.parts
  have HP := Lib.hid hp
  have hgl := lt_of_heap hp.here
  obtain ⟨c0, c1, c2, -, -, -⟩ := cells3 hp.here
  obtain ⟨A, cap, rfl⟩ := own_form hp.row
  have hlen : L.length ≤ 1024 := hl.len
  have hmk := fun w => Tryd.makeNoted w L.length (by omega)
  have HZ : Hid (∀ (w : World) a, (rows (List.replicate L.length Dig.zero)).toArray = a → (w.alloc (.cells a 35)).heap[w.heap.size]? = some (.cells (rows (L.take 0 ++ List.replicate (L.length - 0) Dig.zero)).toArray 35 (0, 0))) := Lib.hid (fun w a ha => by
    rw [← ha]; exact heap_new_at _ _ _ rfl)
  obtain ⟨Z, hZ⟩ : ∃ Z, (rows (List.replicate L.length Dig.zero)).toArray = Z := ⟨_, rfl⟩
  rw [hZ] at hmk
  have HZZ := Lib.hid (HZ.out w Z hZ)
  clear hl hp hZ HZ
  go_enter Tryd.func21, Tryd.ntmps21
  go_wp2
  go_loopw [17] (fun i wr => ∃ k : Nat, k ≤ L.length ∧ i = .int .i64 k ∧ Below w.heap.size w wr ∧ RowIs wr w.heap.size (L.take k ++ List.replicate (L.length - k) Dig.zero)) (fun i _ => L.length - (intOf i).toNat)
  case atStart => exact ⟨0, Nat.zero_le _, rfl, (Below.refl _ w).alloc (Nat.le_refl _) _, HZZ.out⟩
  case round =>
    obtain ⟨k, hk, rfl, hb, hr⟩ := hrel
    clear c0 c1 c2 hmk HZZ
    have HB := Lib.hid hb
    have HR := Lib.hid hr
    have hp := HP.out.out (G := fun _ => False) (Out.of hb) (fun _ _ => id)
    by_cases hlt : k < L.length
    · have h1 : (k : Int) < (L.length : Int) := by omega
      have h0 : (0 : Int) ≤ (k : Int) := by omega
      obtain ⟨b, cap', hv, _, hbl, n0, n1, n2⟩ := row_cells hp.row k hlt
      obtain ⟨rfl, rfl⟩ : A = some ⟨b, 0, none⟩ ∧ cap = cap' := by simpa using hv
      have HC := Lib.hid (fun w => copied_any L[k] w (HL.out.ok _ (List.getElem_mem hlt)))
      unfold nval at HC
      obtain ⟨n, hn⟩ : ∃ n, L[k] = n := ⟨_, rfl⟩
      rw [hn] at n0 n1 n2 HC
      have HN := Lib.hid hn
      clear hv hn hp hb hr
      go_wp2_with fail
      refine (HC.out _).mono ?_
      rintro e w2 ⟨rfl, hb2⟩
      have hB2 := bchain (HB.out.alloc HB.out.size (.cells #[.int .i64 n.tag, .string ⟨n.text.toArray⟩, .string ⟨n.dig.toArray⟩] 35)) hb2
      have hr2 : RowIs w2 w.heap.size _ := HR.out.below (B := wr.heap.size) (((Below.refl _ wr).alloc (Nat.le_refl _) _).trans (hb2.mono (by simp))) HR.out.lt
      obtain ⟨d0, d1, d2, f0, f1, f2⟩ := hr2.at k (by simp; omega)
      have HB2 := Lib.hid hB2
      have HR2 := Lib.hid hr2
      clear hb2 hB2 hr2
      go_wp2
      refine ⟨⟨k + 1, by omega, by go_num, ?_, ?_⟩, by simp [intOf]; omega⟩
      · exact ((HB2.out.setCell (Nat.le_refl _) _).setCell (Nat.le_refl _) _).setCell (Nat.le_refl _) _
      · rw [← Dig.copy_step hlt, HN.out]
        exact HR2.out.set k (by simp; omega) n
    · have h1 : ¬ ((k : Int) < (L.length : Int)) := by omega
      obtain rfl : k = L.length := by omega
      clear hp hb hr
      go_wp2
      go_ret
      refine ⟨rfl, ?_, HB.out⟩
      have := HR.out
      simpa using this
end Go.Proofs.YtebjckodfbailaaDoor
