/- sha.widen: a block's 64 words. -/
import Derived.Test.YtbjfihbjfoaghaaDoorShaBase
namespace Go.Proofs.YtbjfihbjfoaghaaDoor
open Go.RowKit
attribute [local go_sem ↓] Go.wp_at_zero Go.wp_at_succ

theorem Tryd.info64 : (Tryd.prog.info? 116).map (·.size) = some 64 := by kernel_rfl
theorem Sha.fill_length (b : List UInt8) (k : Nat) : (Sha.fill b k).length = 64 := by
  induction k with
  | zero => simp [Sha.fill]
  | succ k ih => simp [Sha.fill, ih]

theorem Sha.ext_length (L : List Int) (k : Nat) : (Sha.ext L k).length = L.length := by
  induction k with
  | zero => rfl
  | succ k ih => simp [Sha.ext, ih]

set_option maxRecDepth 8000 in
set_option maxHeartbeats 4000000 in
theorem widen_any (b : List UInt8) (w : World) (hb : b.length = 64) :
    Calls Tryd.prog 92 #[.agg (u8s b)] w fun e w' => e = .returned (.agg (u32s (Sha.widenP b))) ∧ Below w.heap.size w w' := by
  obtain ⟨bs, hbs⟩ : ∃ bs, u8s b = bs := ⟨_, rfl⟩
  rw [hbs]
  have HBS := Lib.hid hbs
  have HLB := Lib.hid hb
  clear hbs hb
  go_enter Tryd.func92, Tryd.ntmps92
  go_wp2
  go_loopw [10] (fun i wr => ∃ k : Nat, k ≤ 16 ∧ i = .int .i64 k ∧
      Below w.heap.size w wr ∧ wr.heap[w.heap.size]? = some (.cells bs 93 (0, 0)) ∧ wr.heap[w.heap.size + 1]? = some (.cells (u32s (List.replicate 64 0)) 116 (0, 0)) ∧ wr.heap[w.heap.size + 1 + 1]? = some (.cells (u32s (Sha.fill b k)) 116 (0, 0))) (fun i _ => 16 - (intOf i).toNat)
  case atStart =>
    refine ⟨0, by omega, rfl, ?_, ?_, ?_, ?_⟩
    · exact (((Below.refl _ w).alloc (Nat.le_refl _) _).alloc (by simp) _).alloc (by simp; omega) _
    · exact heap_old_at _ (heap_old_at _ (heap_new_at _ _ _ (by simp)))
    · exact heap_old_at _ (heap_new_at _ _ _ (by simp))
    · exact heap_new_at _ _ _ (by simp)
  case round =>
    obtain ⟨k, hk, rfl, hbe, hg0, hg1, hg2⟩ := hrel
    have HBE := Lib.hid hbe
    have HG0 := Lib.hid hg0
    have HG1 := Lib.hid hg1
    have HG2 := Lib.hid hg2
    have hby : ∀ j, j < 64 → wr.cell? ⟨w.heap.size, j, none⟩ = some (.int .u8 ((b.getD j 0).toNat : Int)) := fun j hj => by
      rw [cell_of_row wr _ j bs _ _ hg0, ← HBS.out]; exact u8s_at b j (by rw [HLB.out]; exact hj)
    clear hbe hg0 hg1
    by_cases hlt : k < 16
    · have c0 := hby (4 * k) (by omega)
      have c1 := hby (4 * k + 1) (by omega)
      have c2 := hby (4 * k + 2) (by omega)
      have c3 := hby (4 * k + 3) (by omega)
      have cw := (cell_of_row wr _ k _ _ _ hg2).trans (u32s_at (Sha.fill b k) k (by rw [Sha.fill_length]; omega))
      have fw := frozen_of_row wr _ k _ _ hg2
      have e0 : (4 * (k : Int)).toNat = 4 * k := by omega
      have e1 : (4 * (k : Int) + 1).toNat = 4 * k + 1 := by omega
      have e2 : (4 * (k : Int) + 2).toNat = 4 * k + 2 := by omega
      have e3 : (4 * (k : Int) + 3).toNat = 4 * k + 3 := by omega
      obtain ⟨x0, h0⟩ : ∃ x, b.getD (4 * k) 0 = x := ⟨_, rfl⟩
      obtain ⟨x1, h1⟩ : ∃ x, b.getD (4 * k + 1) 0 = x := ⟨_, rfl⟩
      obtain ⟨x2, h2⟩ : ∃ x, b.getD (4 * k + 2) 0 = x := ⟨_, rfl⟩
      obtain ⟨x3, h3⟩ : ∃ x, b.getD (4 * k + 3) 0 = x := ⟨_, rfl⟩
      have hn : Sha.fill b (k + 1) = (Sha.fill b k).set k (Sha.word4 x0 x1 x2 x3) := by rw [← h0, ← h1, ← h2, ← h3]; rfl
      have HN := Lib.hid hn
      rw [h0] at c0
      rw [h1] at c1
      rw [h2] at c2
      rw [h3] at c3
      have b0 := byte_lt x0
      have b1 := byte_lt x1
      have b2 := byte_lt x2
      have b3 := byte_lt x3
      obtain ⟨old, ho⟩ : ∃ x, (Sha.fill b k).getD k 0 = x := ⟨_, rfl⟩
      rw [ho] at cw
      clear h0 h1 h2 h3 hn ho hby hg2
      have hki : (k : Int) < 16 := by omega
      have hk64 : (k : Int) < 64 := by omega
      have hk0 : 0 ≤ (k : Int) := by omega
      have l0 : 4 * (k : Int) < 64 := by omega
      have l1 : 4 * (k : Int) + 1 < 64 := by omega
      have l2 : 4 * (k : Int) + 2 < 64 := by omega
      have l3 : 4 * (k : Int) + 3 < 64 := by omega
      have p0 : 0 ≤ 4 * (k : Int) := by omega
      have p1 : 0 ≤ 4 * (k : Int) + 1 := by omega
      have p2 : 0 ≤ 4 * (k : Int) + 2 := by omega
      have p3 : 0 ≤ 4 * (k : Int) + 3 := by omega
      have q0 := wrap_small (4 * (k : Int)) (by omega) (by omega)
      have q1 := wrap_small (4 * (k : Int) + 1) (by omega) (by omega)
      have q2 := wrap_small (4 * (k : Int) + 2) (by omega) (by omega)
      have q3 := wrap_small (4 * (k : Int) + 3) (by omega) (by omega)
      go_wp2
      go_region_held3 (fun w' => w'.cell? ⟨w.heap.size, 4 * k, none⟩ = some (.int .u8 (x0.toNat : Int)) ∧ w'.cell? ⟨w.heap.size, 4 * k + 1, none⟩ = some (.int .u8 (x1.toNat : Int)) ∧ w'.cell? ⟨w.heap.size, 4 * k + 2, none⟩ = some (.int .u8 (x2.toNat : Int)) ∧ w'.cell? ⟨w.heap.size, 4 * k + 3, none⟩ = some (.int .u8 (x3.toNat : Int))) (first | (go_split_ands; refine ⟨?_, ?_, ?_, ?_⟩ <;> first | (refine keep_cell' (by assumption) ?_; dsimp only; omega) | (refine keep_cell (by assumption) ?_; dsimp only; omega)) | go_keep) (fail)
      go_wp2
      go_roundw
      case rel =>
        refine ⟨k + 1, by omega, by go_num, (HBE.out.setCell (by dsimp only; omega) _).drew, ?_, ?_, ?_⟩
        · exact (Below.heap_setCell _ _ _ _ (by dsimp only; omega)).trans HG0.out
        · exact (Below.heap_setCell _ _ _ _ (by dsimp only; omega)).trans HG1.out
        · rw [HN.out, ← u32s_set]
          refine (heap_setCell_same _ _ _ _ _ _ HG2.out).trans ?_
          rfl
      case measure => simp [intOf]; omega
    · obtain rfl : k = 16 := by omega
      have hno : ¬ ((16 : Nat) : Int) < 16 := by omega
      clear hlt hk hby hg2 HG0
      go_wp2
      obtain ⟨L, hL⟩ : ∃ L, Sha.fill b 16 = L := ⟨_, rfl⟩
      have hl : L.length = 64 := by rw [← hL, Sha.fill_length]
      have HL := Lib.hid hL
      have HLL := Lib.hid hl
      rw [hL] at HG2
      clear hL hl hno
      go_loopw [5] (fun i wr => ∃ n : Nat, 16 ≤ n ∧ n ≤ 64 ∧ i = .int .i64 n ∧
        Below w.heap.size w wr ∧ wr.heap[w.heap.size + 1]? = some (.cells (u32s (List.replicate 64 0)) 116 (0, 0)) ∧ wr.heap[w.heap.size + 1 + 1]? = some (.cells (u32s (Sha.ext L (n - 16))) 116 (0, 0))) (fun i _ => 64 - (intOf i).toNat)
      case atStart => exact ⟨16, by omega, by omega, rfl, HBE.out, HG1.out, HG2.out⟩
      case round =>
        clear HBE HG1 HG2
        obtain ⟨n, hn0, hn1, rfl, hbe, hg1, hg2⟩ := hrel
        have HBE := Lib.hid hbe
        have HG1 := Lib.hid hg1
        have HG2 := Lib.hid hg2
        obtain ⟨M, hM⟩ : ∃ M, Sha.ext L (n - 16) = M := ⟨_, rfl⟩
        have hML : M.length = 64 := by rw [← hM, Sha.ext_length]; exact HLL.out
        have HM := Lib.hid hM
        rw [hM] at hg2 HG2
        have hc : ∀ j, j < 64 → wr.cell? ⟨w.heap.size + 1 + 1, j, none⟩ = some (.int .u32 (M.getD j 0)) := fun j hj => (cell_of_row wr _ j _ _ _ hg2).trans (u32s_at M j (by omega))
        have hf : ∀ j, wr.frozen? ⟨w.heap.size + 1 + 1, j, none⟩ = false := fun j => frozen_of_row wr _ j _ _ hg2
        clear hbe hg1 hg2 hM
        by_cases hlt : n < 64
        · have c16 := hc (n - 16) (by omega)
          have c15 := hc (n - 15) (by omega)
          have c7 := hc (n - 7) (by omega)
          have c2 := hc (n - 2) (by omega)
          have cn := hc n hlt
          have fn := hf n
          have hmore : Sha.more M n = (M.getD (n - 16) 0 + Sha.sP (M.getD (n - 15) 0) + M.getD (n - 7) 0 + Sha.tP (M.getD (n - 2) 0)) % 4294967296 := rfl
          obtain ⟨a, ha⟩ : ∃ a, M.getD (n - 16) 0 = a := ⟨_, rfl⟩
          obtain ⟨x, hx⟩ : ∃ a, M.getD (n - 15) 0 = a := ⟨_, rfl⟩
          obtain ⟨c, hcc⟩ : ∃ a, M.getD (n - 7) 0 = a := ⟨_, rfl⟩
          obtain ⟨y, hy⟩ : ∃ a, M.getD (n - 2) 0 = a := ⟨_, rfl⟩
          obtain ⟨old, ho⟩ : ∃ a, M.getD n 0 = a := ⟨_, rfl⟩
          rw [ha] at c16 hmore
          rw [hx] at c15 hmore
          rw [hcc] at c7 hmore
          rw [hy] at c2 hmore
          rw [ho] at cn
          have HMO := Lib.hid hmore
          clear hmore ha hx hcc hy ho hc hf
          obtain ⟨j16, hj16⟩ : ∃ j, j + 16 = n := ⟨n - 16, by omega⟩
          rw [show n - 16 = j16 by omega] at c16
          have r16 : (n : Int) - 16 = (j16 : Int) := by omega
          have q16 := wrap_small (j16 : Int) (by omega) (by omega)
          have p16 : 0 ≤ (j16 : Int) := by omega
          have l16 : (j16 : Int) < 64 := by omega
          obtain ⟨j15, hj15⟩ : ∃ j, j + 15 = n := ⟨n - 15, by omega⟩
          rw [show n - 15 = j15 by omega] at c15
          have r15 : (n : Int) - 15 = (j15 : Int) := by omega
          have q15 := wrap_small (j15 : Int) (by omega) (by omega)
          have p15 : 0 ≤ (j15 : Int) := by omega
          have l15 : (j15 : Int) < 64 := by omega
          obtain ⟨j7, hj7⟩ : ∃ j, j + 7 = n := ⟨n - 7, by omega⟩
          rw [show n - 7 = j7 by omega] at c7
          have r7 : (n : Int) - 7 = (j7 : Int) := by omega
          have q7 := wrap_small (j7 : Int) (by omega) (by omega)
          have p7 : 0 ≤ (j7 : Int) := by omega
          have l7 : (j7 : Int) < 64 := by omega
          obtain ⟨j2, hj2⟩ : ∃ j, j + 2 = n := ⟨n - 2, by omega⟩
          rw [show n - 2 = j2 by omega] at c2
          have r2 : (n : Int) - 2 = (j2 : Int) := by omega
          have q2 := wrap_small (j2 : Int) (by omega) (by omega)
          have p2 : 0 ≤ (j2 : Int) := by omega
          have l2 : (j2 : Int) < 64 := by omega
          have hn64 : (n : Int) < 64 := by omega
          have p0 : 0 ≤ (n : Int) := by omega
          have d16 : j16 ≠ n := by omega
          have d7 : j7 ≠ n := by omega
          clear hj16 hj15 hj7 hj2
          go_wp2
          go_quiet (fail)
          go_wp2_with fail
          refine (rot_any x 7 _ (by omega) (by omega)).mono ?_
          rintro _ _ ⟨rfl, rfl⟩
          go_wp2_with fail
          refine (rot_any x 18 _ (by omega) (by omega)).mono ?_
          rintro _ _ ⟨rfl, rfl⟩
          go_wp2_with fail
          refine (rot_any y 17 _ (by omega) (by omega)).mono ?_
          rintro _ _ ⟨rfl, rfl⟩
          go_wp2_with fail
          refine (rot_any y 19 _ (by omega) (by omega)).mono ?_
          rintro _ _ ⟨rfl, rfl⟩
          go_wp2
          go_region_held3 (fun w' => w'.cell? ⟨w.heap.size + 1 + 1, j16, none⟩ = some (.int .u32 a) ∧ w'.cell? ⟨w.heap.size + 1 + 1, j7, none⟩ = some (.int .u32 c)) (first | (go_split_ands; refine ⟨keep_offN c16 (fun e => d16 (congrArg Addr.off e)), keep_offN c7 (fun e => d7 (congrArg Addr.off e))⟩) | go_keep) (fail)
          go_wp2
          go_roundw
          case rel =>
            refine ⟨n + 1, by omega, by omega, by go_num, (below_drewN HBE.out _).setCell (show w.heap.size ≤ w.heap.size + 1 + 1 by omega) _, ?_, ?_⟩
            · exact (Below.heap_setCell _ _ _ _ (by dsimp only; omega)).trans HG1.out
            · rw [show n + 1 - 16 = (n - 16) + 1 by omega, Sha.ext, HM.out, show 16 + (n - 16) = n by omega, ← u32s_set, HMO.out]
              refine (heap_setCell_same _ _ _ _ _ _ HG2.out).trans ?_
              simp only [Int.emod_add_emod]
              rfl
          case measure => simp [intOf]; omega
        · obtain rfl : n = 64 := by omega
          have hno : ¬ ((64 : Nat) : Int) < 64 := by omega
          clear hlt hn0 hn1 hc hf
          have hsz : (u32s M).size = 64 := by rw [u32s_size, hML]
          have hi : (Tryd.prog.info? 116).map (·.size) = some (u32s M).size := by rw [hsz]; exact Tryd.info64
          have ho : (u32s (List.replicate 64 0)).size = (u32s M).size := by rw [hsz]; rfl
          have HI := Lib.hid hi
          have HO := Lib.hid ho
          have HR : Hid (u32s M = u32s (Sha.widenP b)) := Lib.hid (by rw [← HM.out]; unfold Sha.widenP; rw [HL.out])
          have HT := Lib.hid (u32s_one M)
          clear hsz hi ho hML
          obtain ⟨R, hR⟩ : ∃ R, u32s M = R := ⟨_, rfl⟩
          rw [hR] at HG2 HI HO HR HT
          clear hR
          go_wp2_with (first | (refine wpList_load_row (by rfl) _ _ (by rfl) (w.heap.size + 1 + 1) (by rfl) _ R _ _ HG2.out Tryd.underlying116 (by rfl) HI.out ?_) | (refine wpList_store_row (by rfl) _ _ _ (by rfl) (w.heap.size + 1) R (by rfl) (by rfl) _ _ HG1.out HI.out HO.out HT.out ?_))
          refine bodyPost_ret (v := .agg R) (results_cell_row rfl _ _ (w.heap.size + 1) _ _ _ _ rfl (setRow_heap _ _ _ _ _ _ HG1.out) Tryd.underlying116 rfl HI.out) rfl ⟨?_, below_setRow HBE.out (by omega) _⟩
          rw [HR.out]
end Go.Proofs.YtbjfihbjfoaghaaDoor
