/- The law ShaBlocks, walked. -/
import Derived.Test.YtohefeekjncaeaaDoorShaRefBlock
import Derived.Test.YtohefeekjncaeaaDoorShaWorks
import Derived.Deep.RegionWith
namespace Go.Proofs.YtohefeekjncaeaaDoor
open Go.RowKit
attribute [local go_sem ↓] Go.wp_at_zero Go.wp_at_succ
attribute [local go_sem ↓] wp_load64
theorem run_l64 {w : World} {g o : Nat} {cs : List Value} (hc : w.rangeAt g o cs) (hl : cs.length = 64) : (load64 (.pointer (some ⟨g, o, none⟩))).run Tryd.prog w = .ok (.agg cs.toArray) w :=
  run_loadAt_mid (P := Tryd.prog) w g o 24 cs _ hc Tryd.underlying24 rfl (by rw [hl]; exact Tryd.info64b)

theorem eq8 (a b c d e f g h : Int) (w : World) : (Op.equalIn 10000 23 (.agg #[.int .u32 a, .int .u32 b, .int .u32 c, .int .u32 d, .int .u32 e, .int .u32 f, .int .u32 g, .int .u32 h]) (.agg #[.int .u32 a, .int .u32 b, .int .u32 c, .int .u32 d, .int .u32 e, .int .u32 f, .int .u32 g, .int .u32 h])).run Tryd.prog w = .ok true w := by
  have hu := Tryd.underlying23
  have hv := Tryd.underlying22
  unfold Op.equalIn
  go_simp
  simp only [List.range', Nat.reduceAdd, List.forIn_cons, List.forIn_nil, Sem.run_bind, List.getElem?_cons_zero, List.getElem?_cons_succ]
  go_simp

set_option maxRecDepth 8000 in
set_option maxHeartbeats 8000000 in
theorem blocks_walk (s : Sha.St) (b : List UInt8) (w : World) (hb : b.length = 64) (hT : Tab w) :
    Calls Tryd.prog 3 #[.agg (u32s s.list), .agg (u8s b)] w fun e w' => e = .returned (.bool true) ∧ Below w.heap.size w w' := by
  have hu := Tryd.underlying24
  have hi : (Tryd.prog.info? 24).map (·.size) = some (cellsL b).length := by rw [cellsL_length, hb]; exact Tryd.info64b
  have hone : ∀ v ∈ cellsL b, v.oneCell' = true := by
    intro v hv
    simp only [cellsL, List.mem_map] at hv
    obtain ⟨x, _, rfl⟩ := hv
    rfl
  have hlen : (cellsL b).length = 64 := by rw [cellsL_length, hb]
  have hbl := fun w' hw => block_any s b w' hb hw
  have hrb := fun w' => rblock_any s b w' hb
  have hfi := first_any
  have hrf := rfirst_any
  rw [Sha.blockR_is] at hrb
  obtain ⟨T, hTT⟩ : ∃ T, Sha.blockP s b = T := ⟨_, rfl⟩
  obtain ⟨cs, hcs⟩ : ∃ cs, cellsL b = cs := ⟨_, rfl⟩
  unfold u8s at hbl hrb ⊢
  rw [hTT, hcs] at hbl hrb
  rw [hcs] at hi hone hlen ⊢
  obtain ⟨a, b1, c, d, e, f, g, h⟩ := s
  obtain ⟨ta, tb, tc, td, te, tf, tg, th⟩ := T
  simp only [Sha.St.list, u32s, List.map_cons, List.map_nil, Sha.first] at hbl hrb hfi hrf ⊢
  have HBL := Boxed.mk hbl
  have HRB := Boxed.mk hrb
  have HFI := Boxed.mk hfi
  have HRF := Boxed.mk hrf
  have HT := Boxed.mk hT
  clear hb hT hbl hrb hfi hrf hTT hcs
  have q1 := eq8 1779033703 3144134277 1013904242 2773480762 1359893119 2600822924 528734635 1541459225
  have q2 := eq8 ta tb tc td te tf tg th
  go_enter Tryd.func3, Tryd.ntmps3
  go_wp2
  obtain ⟨w3, hw3⟩ : ∃ w3, (w.alloc (.cells #[.int .u32 a, .int .u32 b1, .int .u32 c, .int .u32 d, .int .u32 e, .int .u32 f, .int .u32 g, .int .u32 h] 23)).alloc (.cells cs.toArray 24) = w3 := ⟨_, rfl⟩
  have hg0 : w3.heap[w.heap.size]? = some (.cells (u32s [a, b1, c, d, e, f, g, h]) 23 (0, 0)) := by
    rw [← hw3]; exact heap_old_at _ (heap_new_at _ _ _ (by simp))
  have hg1 : w3.heap[w.heap.size + 1]? = some (.cells cs.toArray 24 (0, 0)) := by
    rw [← hw3]; exact heap_new_at _ _ _ (by simp)
  have hb3 : Below w.heap.size w w3 := by
    rw [← hw3]; exact ((Below.refl _ w).alloc (Nat.le_refl _) _).alloc (by simp) _
  rw [hw3]
  have hSS : ∀ w', Below w3.heap.size w3 w' → w'.cell? ⟨w.heap.size, 0, none⟩ = some (.int .u32 a) ∧ w'.cell? ⟨w.heap.size, 1, none⟩ = some (.int .u32 b1) ∧ w'.cell? ⟨w.heap.size, 2, none⟩ = some (.int .u32 c) ∧ w'.cell? ⟨w.heap.size, 3, none⟩ = some (.int .u32 d) ∧ w'.cell? ⟨w.heap.size, 4, none⟩ = some (.int .u32 e) ∧ w'.cell? ⟨w.heap.size, 5, none⟩ = some (.int .u32 f) ∧ w'.cell? ⟨w.heap.size, 6, none⟩ = some (.int .u32 g) ∧ w'.cell? ⟨w.heap.size, 7, none⟩ = some (.int .u32 h) ∧ Below w3.heap.size w3 w' ∧ w'.rangeAt (w.heap.size + 1) 0 cs := fun w' hw => by
    have hc : ∀ j, w'.cell? ⟨w.heap.size, j, none⟩ = (u32s [a, b1, c, d, e, f, g, h])[j]? := fun j => cell_of_row w' _ j _ _ _ ((hw.block _ (lt_of_heap hg0)).trans hg0)
    exact ⟨hc 0, hc 1, hc 2, hc 3, hc 4, hc 5, hc 6, hc 7, hw, fun j v hv => by rw [cell_of_row w' _ _ _ _ _ ((hw.block _ (lt_of_heap hg1)).trans hg1)]; simpa using hv⟩
  have HSS := Boxed.mk hSS
  have HTAB : Boxed (∀ X, Below w3.heap.size w3 X → Tab X) := Boxed.mk (fun X hX => (HT.out.below hb3).below hX)
  have HB3 := Boxed.mk hb3
  have HDR : Boxed (Below w3.heap.size w3 w3.drew) := Boxed.mk (Below.refl _ w3).drew
  clear hSS hb3 hg0 hg1 hw3 HT
  have HLEN := Boxed.mk hlen
  clear hlen hone hi hu
  go_region_with (first | (go_at_call 8; refine (HFI.out _).mono ?_; rintro e' w4 ⟨rfl, hb4⟩; (have hB4 : Below w3.heap.size w3 w4 := Below.trans HDR.out hb4)) | (go_at_call 9; refine (HRF.out _).mono ?_; rintro e' w5 ⟨rfl, hb5⟩; (have hB5 : Below w3.heap.size w3 w5 := Below.trans hB4 (hb5.mono hB4.size)); obtain ⟨x0, x1, x2, x3, x4, x5, x6, x7, -, xr⟩ := HSS.out _ hB5; have xl := run_l64 xr HLEN.out; clear xr) | (go_at_call 10; refine (HBL.out _ (HTAB.out _ hB5)).mono ?_; rintro e' w6 ⟨rfl, hb6⟩; (have hB6 : Below w3.heap.size w3 w6 := Below.trans hB5 (hb6.mono hB5.size)); clear x0 x1 x2 x3 x4 x5 x6 x7 xl; obtain ⟨x0, x1, x2, x3, x4, x5, x6, x7, -, xr⟩ := HSS.out _ hB6; have xl := run_l64 xr HLEN.out; clear xr) | (go_at_call 11; refine (HRB.out _).mono ?_; rintro e' w7 ⟨rfl, hb7⟩; (have hB7 : Below w3.heap.size w3 w7 := Below.trans hB6 (hb7.mono hB6.size))) | (go_at_call 12; refine (works_any _ (HTAB.out _ hB7)).mono ?_; rintro e' w8 ⟨rfl, hb8⟩; (have hB8 : Below w3.heap.size w3 w8 := Below.trans hB7 (hb8.mono hB7.size))))
  all_goals go_wp2
  all_goals go_ret
  all_goals exact ⟨rfl, HB3.out.trans (hB8.mono HB3.out.size)⟩
end Go.Proofs.YtohefeekjncaeaaDoor
