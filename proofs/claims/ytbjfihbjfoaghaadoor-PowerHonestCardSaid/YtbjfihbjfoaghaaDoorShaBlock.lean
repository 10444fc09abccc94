/- sha.Block: what eight words are behind a block. -/
import Derived.Test.YtbjfihbjfoaghaaDoorShaTurn
import Derived.Test.YtbjfihbjfoaghaaDoorShaWiden
namespace Go.Proofs.YtbjfihbjfoaghaaDoor
open Go.RowKit
attribute [local go_sem ↓] Go.wp_at_zero Go.wp_at_succ

theorem Tryd.info64b : (Tryd.prog.info? 93).map (·.size) = some 64 := by kernel_rfl

/-- Eight stores of one cell each. -/
theorem set8 {w : World} {g : Nat} {t : TypeId} (a b c d e f g' h : Int) (hg : w.heap[g]? = some (.cells (u32s (List.replicate 8 0)) t (0, 0))) :
    ((((((((w.setCell ⟨g, 0, none⟩ (.int .u32 a)).setCell ⟨g, 1, none⟩ (.int .u32 b)).setCell ⟨g, 2, none⟩ (.int .u32 c)).setCell ⟨g, 3, none⟩ (.int .u32 d)).setCell ⟨g, 4, none⟩ (.int .u32 e)).setCell ⟨g, 5, none⟩ (.int .u32 f)).setCell ⟨g, 6, none⟩ (.int .u32 g')).setCell ⟨g, 7, none⟩ (.int .u32 h)).heap[g]? = some (.cells (u32s [a, b, c, d, e, f, g', h]) t (0, 0)) := by
  have := heap_setCell_same _ _ 7 _ _ (.int .u32 h) (heap_setCell_same _ _ 6 _ _ (.int .u32 g') (heap_setCell_same _ _ 5 _ _ (.int .u32 f) (heap_setCell_same _ _ 4 _ _ (.int .u32 e) (heap_setCell_same _ _ 3 _ _ (.int .u32 d) (heap_setCell_same _ _ 2 _ _ (.int .u32 c) (heap_setCell_same _ _ 1 _ _ (.int .u32 b) (heap_setCell_same _ _ 0 _ _ (.int .u32 a) hg)))))))
  simpa [u32s_set, List.replicate] using this

theorem zero8 {w : World} {p : Nat} {t : TypeId} (hg : w.heap[p]? = some (.cells (u32s (List.replicate 8 0)) t (0, 0))) : w.cell? ⟨p, 0, none⟩ = some (.int .u32 0) ∧ w.cell? ⟨p, 1, none⟩ = some (.int .u32 0) ∧ w.cell? ⟨p, 2, none⟩ = some (.int .u32 0) ∧ w.cell? ⟨p, 3, none⟩ = some (.int .u32 0) ∧ w.cell? ⟨p, 4, none⟩ = some (.int .u32 0) ∧ w.cell? ⟨p, 5, none⟩ = some (.int .u32 0) ∧ w.cell? ⟨p, 6, none⟩ = some (.int .u32 0) ∧ w.cell? ⟨p, 7, none⟩ = some (.int .u32 0) ∧ w.frozen? ⟨p, 0, none⟩ = false ∧ w.frozen? ⟨p, 1, none⟩ = false ∧ w.frozen? ⟨p, 2, none⟩ = false ∧ w.frozen? ⟨p, 3, none⟩ = false ∧ w.frozen? ⟨p, 4, none⟩ = false ∧ w.frozen? ⟨p, 5, none⟩ = false ∧ w.frozen? ⟨p, 6, none⟩ = false ∧ w.frozen? ⟨p, 7, none⟩ = false :=
  ⟨cell_of_row w p 0 _ t _ hg, cell_of_row w p 1 _ t _ hg, cell_of_row w p 2 _ t _ hg, cell_of_row w p 3 _ t _ hg, cell_of_row w p 4 _ t _ hg, cell_of_row w p 5 _ t _ hg, cell_of_row w p 6 _ t _ hg, cell_of_row w p 7 _ t _ hg, frozen_of_row w p 0 _ t hg, frozen_of_row w p 1 _ t hg, frozen_of_row w p 2 _ t hg, frozen_of_row w p 3 _ t hg, frozen_of_row w p 4 _ t hg, frozen_of_row w p 5 _ t hg, frozen_of_row w p 6 _ t hg, frozen_of_row w p 7 _ t hg⟩

set_option maxRecDepth 8000 in
set_option maxHeartbeats 400000 in
theorem block_any (s : Sha.St) (b : List UInt8) (w : World) (hb : b.length = 64) (hK : Tab w) :
    Calls Tryd.prog 85 #[.agg (u32s s.list), .agg (u8s b)] w fun e w' => e = .returned (.agg (u32s (Sha.blockP s b).list)) ∧ Below w.heap.size w w' := by
  have HK := Lib.hid hK
  have hu := Tryd.underlying93
  have hi : (Tryd.prog.info? 93).map (·.size) = some (cellsL b).length := by rw [cellsL_length, hb]; exact Tryd.info64b
  have hone : ∀ v ∈ cellsL b, v.oneCell' = true := by
    intro v hv
    simp only [cellsL, List.mem_map] at hv
    obtain ⟨x, _, rfl⟩ := hv
    rfl
  have hlen : (cellsL b).length = 64 := by rw [cellsL_length, hb]
  have hwid := fun w' => widen_any b w' hb
  obtain ⟨W, hW⟩ : ∃ W, Sha.widenP b = W := ⟨_, rfl⟩
  have hWL : W.length = 64 := by rw [← hW]; simp [Sha.widenP, Sha.ext_length, Sha.fill_length]
  obtain ⟨ws, hws⟩ : ∃ ws, u32s W = ws := ⟨_, rfl⟩
  have htur := fun w' => turn_any s W w' hWL
  obtain ⟨T, hT⟩ : ∃ T, Sha.turnP s W = T := ⟨_, rfl⟩
  obtain ⟨cs, hcs⟩ : ∃ cs, cellsL b = cs := ⟨_, rfl⟩
  unfold u8s at hwid ⊢
  rw [hW, hws, hcs] at hwid
  rw [hT, hws] at htur
  rw [hcs] at hi hone hlen ⊢
  have HT := Lib.hid hT
  have HW := Lib.hid hW
  obtain ⟨s0, hs0⟩ : ∃ s0, s = s0 := ⟨_, rfl⟩
  obtain ⟨a, b1, c, d, e, f, g, h⟩ := s
  obtain ⟨ta, tb, tc, td, te, tf, tg, th⟩ := T
  have HS := Lib.hid hs0
  simp only [Sha.St.list, u32s, List.map_cons, List.map_nil] at htur ⊢
  have HWI := Lib.hid hwid
  have HTU := Lib.hid htur
  clear hK hb hwid hcs hs0 hT hW hws hWL htur
  go_enter Tryd.func85, Tryd.ntmps85
  go_wp2
  obtain ⟨w3, hw3⟩ : ∃ w3, ((w.alloc (.cells #[.int .u32 a, .int .u32 b1, .int .u32 c, .int .u32 d, .int .u32 e, .int .u32 f, .int .u32 g, .int .u32 h] 91)).alloc (.cells cs.toArray 93)).alloc (.cells #[.int .u32 0, .int .u32 0, .int .u32 0, .int .u32 0, .int .u32 0, .int .u32 0, .int .u32 0, .int .u32 0] 91) = w3 := ⟨_, rfl⟩
  have hg0 : w3.heap[w.heap.size]? = some (.cells (u32s [a, b1, c, d, e, f, g, h]) 91 (0, 0)) := by
    rw [← hw3]; exact heap_old_at _ (heap_old_at _ (heap_new_at _ _ _ (by simp)))
  have hg1 : w3.heap[w.heap.size + 1]? = some (.cells cs.toArray 93 (0, 0)) := by
    rw [← hw3]; exact heap_old_at _ (heap_new_at _ _ _ (by simp))
  have hg2 : w3.heap[w.heap.size + 1 + 1]? = some (.cells (u32s (List.replicate 8 0)) 91 (0, 0)) := by
    rw [← hw3]; exact heap_new_at _ _ _ (by simp)
  have hs3 : w3.heap.size = w.heap.size + 3 := by rw [← hw3]; simp
  have hb3 : Below w.heap.size w w3 := by
    rw [← hw3]; exact (((Below.refl _ w).alloc (Nat.le_refl _) _).alloc (by simp) _).alloc (by simp; omega) _
  rw [hw3]
  have HG0 := Lib.hid hg0
  have HG1 := Lib.hid hg1
  have HG2 := Lib.hid hg2
  have HS3 := Lib.hid hs3
  have HB3 := Lib.hid hb3
  clear hg0 hg1 hg2 hs3 hb3 hw3
  go_cut [5] from 7 to 10 (fun v wx => ∃ p : Nat, v = .pointer (some ⟨p, 0, none⟩) ∧ w3.heap.size ≤ p ∧ wx.heap[p]? = some (.cells (u32s [ta, tb, tc, td, te, tf, tg, th]) 91 (0, 0)) ∧ Below w3.heap.size w3 wx)
  case first =>
    have hSS : ∀ w', Below w3.heap.size w3 w' → w'.cell? ⟨w.heap.size, 0, none⟩ = some (.int .u32 a) ∧ w'.cell? ⟨w.heap.size, 1, none⟩ = some (.int .u32 b1) ∧ w'.cell? ⟨w.heap.size, 2, none⟩ = some (.int .u32 c) ∧ w'.cell? ⟨w.heap.size, 3, none⟩ = some (.int .u32 d) ∧ w'.cell? ⟨w.heap.size, 4, none⟩ = some (.int .u32 e) ∧ w'.cell? ⟨w.heap.size, 5, none⟩ = some (.int .u32 f) ∧ w'.cell? ⟨w.heap.size, 6, none⟩ = some (.int .u32 g) ∧ w'.cell? ⟨w.heap.size, 7, none⟩ = some (.int .u32 h) ∧ Below w3.heap.size w3 w' ∧ w'.rangeAt (w.heap.size + 1) 0 cs := fun w' hw => by
      have hc : ∀ j, w'.cell? ⟨w.heap.size, j, none⟩ = (u32s [a, b1, c, d, e, f, g, h])[j]? := fun j => cell_of_row w' _ j _ _ _ ((hw.block _ (by have := HS3.out; omega)).trans HG0.out)
      exact ⟨hc 0, hc 1, hc 2, hc 3, hc 4, hc 5, hc 6, hc 7, hw, fun j v hv => by rw [cell_of_row w' _ _ _ _ _ ((hw.block _ (by have := HS3.out; omega)).trans HG1.out)]; simpa using hv⟩
    have HSS := Lib.hid hSS
    have HTAB : Hid (∀ X, Below w3.heap.size w3 X → Tab X) := Lib.hid (fun X hX => (HK.out.below HB3.out).below hX)
    have hne : w.heap.size < w3.heap.size := by have := HS3.out; omega
    have HDA : Hid (∀ o, Below w3.heap.size w3 (w3.drew.alloc o)) := Lib.hid (fun o => (Below.refl w3.heap.size w3).drew.alloc (Nat.le_refl _) o)
    have HDB : Hid (∀ o, Below w3.heap.size w3 (w3.alloc o).drew) := Lib.hid (fun o => ((Below.refl w3.heap.size w3).alloc (Nat.le_refl _) o).drew)
    clear hSS HT HW HS HK
    go_region_held3 (fun w' => w'.cell? ⟨w.heap.size, 0, none⟩ = some (.int .u32 a) ∧ w'.cell? ⟨w.heap.size, 1, none⟩ = some (.int .u32 b1) ∧ w'.cell? ⟨w.heap.size, 2, none⟩ = some (.int .u32 c) ∧ w'.cell? ⟨w.heap.size, 3, none⟩ = some (.int .u32 d) ∧ w'.cell? ⟨w.heap.size, 4, none⟩ = some (.int .u32 e) ∧ w'.cell? ⟨w.heap.size, 5, none⟩ = some (.int .u32 f) ∧ w'.cell? ⟨w.heap.size, 6, none⟩ = some (.int .u32 g) ∧ w'.cell? ⟨w.heap.size, 7, none⟩ = some (.int .u32 h) ∧ Below w3.heap.size w3 w' ∧ w'.rangeAt (w.heap.size + 1) 0 cs)
      ((refine HSS.out _ ?_; with_reducible (first | exact (Below.refl _ _).drew | exact hB2 | exact hB1 | exact hB2.alloc hB2.size _ | exact hB1.alloc hB1.size _ | exact HDA.out _ | exact HDB.out _ | exact ((((((((hB2.setCell hB1.size _).setCell hB1.size _).setCell hB1.size _).setCell hB1.size _).setCell hB1.size _).setCell hB1.size _).setCell hB1.size _).setCell hB1.size _) | exact ((((((((hB2.setCell (Nat.le_refl _) _).setCell (Nat.le_refl _) _).setCell (Nat.le_refl _) _).setCell (Nat.le_refl _) _).setCell (Nat.le_refl _) _).setCell (Nat.le_refl _) _).setCell (Nat.le_refl _) _).setCell (Nat.le_refl _) _) | fail)))
      (first | (go_at_call 92; refine (HWI.out _).mono ?_; rintro e w1 ⟨rfl, hb1⟩; first | ((have hB1 : Below w3.heap.size w3 w1 := Below.trans (Below.refl w3.heap.size w3).drew hb1)) | ((have hB1 : Below w3.heap.size w3 w1 := Below.trans ((Below.refl w3.heap.size w3).drew.alloc (Nat.le_refl _) _) (hb1.mono (by simp))); (have hz : w1.heap[w3.heap.size]? = some (.cells (u32s (List.replicate 8 0)) 91 (0, 0)) := (hb1.block w3.heap.size (by simp)).trans (heap_new_at _ _ _ rfl)))) | (go_at_call 91; first | (refine (HTU.out _ (HTAB.out _ hB1)).mono ?_; rintro e w2 ⟨rfl, hb2⟩; (have hB2 : Below w3.heap.size w3 w2 := Below.trans hB1 (hb2.mono hB1.size)); try ((have hy8 := zero8 ((hb2.block w3.heap.size (lt_of_heap hz)).trans hz)); obtain ⟨z0, z1, z2, z3, z4, z5, z6, z7, y0, y1, y2, y3, y4, y5, y6, y7⟩ := hy8)) | (refine (HTU.out _ (HTAB.out _ (hB1.alloc hB1.size _))).mono ?_; rintro e w2 ⟨rfl, hb2⟩; (have hB2 : Below w3.heap.size w3 w2 := Below.trans (hB1.alloc hB1.size _) (hb2.mono (by simp; exact Nat.le_succ_of_le hB1.size))); (have hq : w2.heap[w1.heap.size]? = some (.cells (u32s (List.replicate 8 0)) 91 (0, 0)) := (hb2.block w1.heap.size (by simp)).trans (heap_new_at _ _ _ rfl)); obtain ⟨z0, z1, z2, z3, z4, z5, z6, z7, y0, y1, y2, y3, y4, y5, y6, y7⟩ := zero8 hq)))
    all_goals go_wp2_with fail
    · go_meet
      case rel => exact ⟨w2.heap.size, rfl, hB2.size, heap_new_at _ _ _ rfl, hB2.alloc hB2.size _⟩
    · go_meet
      case rel => exact ⟨w1.heap.size, rfl, hB1.size, set8 _ _ _ _ _ _ _ _ hq, ((((((((hB2.setCell hB1.size _).setCell hB1.size _).setCell hB1.size _).setCell hB1.size _).setCell hB1.size _).setCell hB1.size _).setCell hB1.size _).setCell hB1.size _)⟩
    · go_meet
      case rel => exact ⟨w3.heap.size, rfl, Nat.le_refl _, set8 _ _ _ _ _ _ _ _ ((hb2.block w3.heap.size (lt_of_heap hz)).trans hz), ((((((((hB2.setCell (Nat.le_refl _) _).setCell (Nat.le_refl _) _).setCell (Nat.le_refl _) _).setCell (Nat.le_refl _) _).setCell (Nat.le_refl _) _).setCell (Nat.le_refl _) _).setCell (Nat.le_refl _) _).setCell (Nat.le_refl _) _)⟩
  case rest =>
    obtain ⟨p, rfl, hp, hgp, hbx⟩ := hcut
    have hB : Below w.heap.size w wc := HB3.out.trans (hbx.mono HB3.out.size)
    have hg0 : wc.heap[w.heap.size]? = some (.cells (u32s [a, b1, c, d, e, f, g, h]) 91 (0, 0)) := (hbx.block _ (by have := HS3.out; omega)).trans HG0.out
    have hg2 : wc.heap[w.heap.size + 1 + 1]? = some (.cells (u32s (List.replicate 8 0)) 91 (0, 0)) := (hbx.block _ (by have := HS3.out; omega)).trans HG2.out
    have hpp : w.heap.size + 3 ≤ p := by have := HS3.out; omega
    have HGP := Lib.hid hgp
    have HBB := Lib.hid hB
    have HGG := Lib.hid hg0
    have HG22 := Lib.hid hg2
    clear hgp hB hg0 hg2 hbx hp HG0 HG1 HG2 HS3 HB3 hone hlen hi hu HWI HTU
    obtain ⟨H, hH⟩ : ∃ H, [a, b1, c, d, e, f, g, h] = H := ⟨_, rfl⟩
    obtain ⟨R, hR⟩ : ∃ R, [ta, tb, tc, td, te, tf, tg, th] = R := ⟨_, rfl⟩
    have hHl : H.length = 8 := by rw [← hH]; rfl
    have hRl : R.length = 8 := by rw [← hR]; rfl
    have hfin : Sha.addTo H R 8 = (Sha.blockP s0 b).list := by
      rw [← hH, ← hR]
      unfold Sha.blockP
      rw [HW.out, ← HS.out, HT.out]
      rfl
    rw [hH] at HGG
    rw [hR] at HGP
    have HHl := Lib.hid hHl
    have HRl := Lib.hid hRl
    have HFIN := Lib.hid hfin
    have HE : Hid (Sha.blockP ⟨a, b1, c, d, e, f, g, h⟩ b = Sha.blockP s0 b) := Lib.hid (by rw [HS.out])
    clear hH hR hHl hRl hfin HT HW HS HK
    go_wp2
    go_loopw [11] (fun i wr => ∃ k : Nat, k ≤ 8 ∧ i = .int .i64 k ∧ Below w.heap.size w wr ∧ wr.heap[w.heap.size]? = some (.cells (u32s (Sha.addTo H R k)) 91 (0, 0)) ∧ wr.heap[p]? = some (.cells (u32s R) 91 (0, 0)) ∧ wr.heap[w.heap.size + 1 + 1]? = some (.cells (u32s (List.replicate 8 0)) 91 (0, 0))) (fun i _ => 8 - (intOf i).toNat)
    case atStart => exact ⟨0, by omega, rfl, HBB.out, HGG.out, HGP.out, HG22.out⟩
    case round =>
      clear HBB HGG HGP HG22
      obtain ⟨k, hk, rfl, hb, hg0, hgp, hg2⟩ := hrel
      obtain ⟨L, hL⟩ : ∃ L, Sha.addTo H R k = L := ⟨_, rfl⟩
      have hLl : L.length = 8 := by rw [← hL, Sha.addTo_length]; exact HHl.out
      rw [hL] at hg0
      have HL := Lib.hid hL
      have HBB := Lib.hid hb
      have HGG := Lib.hid hg0
      have HGP := Lib.hid hgp
      have HG22 := Lib.hid hg2
      by_cases hlt : k < 8
      · have c0 : wr.cell? ⟨w.heap.size, k, none⟩ = some (.int .u32 (L.getD k 0)) := (cell_of_row wr _ k _ _ _ hg0).trans (u32s_at L k (by omega))
        have f0 := frozen_of_row wr _ k _ _ hg0
        have c1 : wr.cell? ⟨p, k, none⟩ = some (.int .u32 (R.getD k 0)) := (cell_of_row wr _ k _ _ _ hgp).trans (u32s_at R k (by rw [HRl.out]; omega))
        have hn : Sha.addTo H R (k + 1) = L.set k ((L.getD k 0 + R.getD k 0) % 4294967296) := by rw [← hL]; rfl
        obtain ⟨x, hx⟩ : ∃ x, L.getD k 0 = x := ⟨_, rfl⟩
        obtain ⟨y, hy⟩ : ∃ y, R.getD k 0 = y := ⟨_, rfl⟩
        rw [hx] at c0 hn
        rw [hy] at c1 hn
        have HN := Lib.hid hn
        have hk8 : (k : Int) < 8 := by omega
        have hk0 : 0 ≤ (k : Int) := by omega
        clear hb hg0 hgp hg2 hL hn hx hy
        go_wp2
        go_region
        go_wp2
        go_roundw
        case rel =>
          refine ⟨k + 1, by omega, by go_num, (HBB.out.setCell (Nat.le_refl _) _).drew, ?_, ?_, ?_⟩
          · rw [HN.out, ← u32s_set]
            exact heap_setCell_same _ _ _ _ _ _ HGG.out
          · exact (Below.heap_setCell _ _ _ _ (by dsimp only; omega)).trans HGP.out
          · exact (Below.heap_setCell _ _ _ _ (by dsimp only; omega)).trans HG22.out
        case measure => simp [intOf]; omega
      · obtain rfl : k = 8 := by omega
        have hno : ¬ ((8 : Nat) : Int) < 8 := by omega
        have hsz : (u32s L).size = 8 := by rw [u32s_size, hLl]
        have hi : (Tryd.prog.info? 91).map (·.size) = some (u32s L).size := by rw [hsz]; exact Tryd.info8
        have ho : (u32s (List.replicate 8 0)).size = (u32s L).size := by rw [hsz]; rfl
        have HI := Lib.hid hi
        have HO := Lib.hid ho
        have HT := Lib.hid (u32s_one L)
        have HR : Hid (u32s L = u32s (Sha.blockP ⟨a, b1, c, d, e, f, g, h⟩ b).list) := Lib.hid (by rw [← HL.out, HFIN.out, HE.out])
        clear hlt hk hb hg0 hgp hg2 hL hLl hsz hi ho
        obtain ⟨A, hA⟩ : ∃ A, u32s L = A := ⟨_, rfl⟩
        rw [hA] at HGG HI HO HT HR
        clear hA
        go_wp2_with (first | (refine wpList_load_row (by rfl) _ _ (by rfl) w.heap.size (by rfl) _ A _ _ HGG.out Tryd.underlying91 (by rfl) HI.out ?_) | (refine wpList_store_row (by rfl) _ _ _ (by rfl) (w.heap.size + 1 + 1) A (by rfl) (by rfl) _ _ HG22.out HI.out HO.out HT.out ?_))
        refine bodyPost_ret (v := .agg A) (results_cell_row rfl _ _ (w.heap.size + 1 + 1) _ _ _ _ rfl (setRow_heap _ _ _ _ _ _ HG22.out) Tryd.underlying91 rfl HI.out) rfl ⟨?_, below_setRow HBB.out (by omega) _⟩
        rw [HR.out]
        rfl
end Go.Proofs.YtbjfihbjfoaghaaDoor
