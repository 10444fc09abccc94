/- The document's Block. -/
import Derived.Test.YtbjfihbjfoaghaaDoorShaRef
namespace Go.Proofs.YtbjfihbjfoaghaaDoor
open Go.RowKit
attribute [local go_sem ↓] Go.wp_at_zero Go.wp_at_succ

theorem info8w : (Tryd.prog.info? 91).map (·.size) = some 8 := by kernel_rfl
/-- A fact that nothing unfolds. -/
structure Boxed (p : Prop) : Prop where
  out : p

set_option maxRecDepth 8000 in
set_option maxHeartbeats 4000000 in
theorem rblock_any (s : Sha.St) (b : List UInt8) (w : World) (hb : b.length = 64) :
    Calls Tryd.prog 77 #[.agg (u32s s.list), .agg (u8s b)] w fun e w' => e = .returned (.agg (u32s (Sha.blockR s b).list)) ∧ Below w.heap.size w w' := by
  obtain ⟨s0, hs0⟩ : ∃ s0, s = s0 := ⟨_, rfl⟩
  obtain ⟨a, b1, c, d, e, f, g, h⟩ := s
  obtain ⟨bs, hbs⟩ : ∃ bs, u8s b = bs := ⟨_, rfl⟩
  rw [hbs]
  have HS := Boxed.mk hs0
  have HBS := Boxed.mk hbs
  have HLB := Boxed.mk hb
  simp only [Sha.St.list, u32s, List.map_cons, List.map_nil]
  clear hbs hs0 hb
  go_enter Tryd.func77, Tryd.ntmps77
  go_wp2
  go_loopw [6] (fun i wr => ∃ k : Nat, k ≤ 64 ∧ i = .int .i64 k ∧ Below w.heap.size w wr ∧ wr.heap[w.heap.size]? = some (.cells (u32s [a, b1, c, d, e, f, g, h]) 91 (0, 0)) ∧ wr.heap[w.heap.size + 1]? = some (.cells bs 93 (0, 0)) ∧ wr.heap[w.heap.size + 1 + 1]? = some (.cells (u32s (List.replicate 8 0)) 91 (0, 0)) ∧ wr.heap[w.heap.size + 1 + 1 + 1]? = some (.cells (u32s (Sha.fillR b k)) 109 (0, 0))) (fun i _ => 64 - (intOf i).toNat)
  case atStart =>
    refine ⟨0, by omega, rfl, ?_, ?_, ?_, ?_, ?_⟩
    · exact ((((Below.refl _ w).alloc (Nat.le_refl _) _).alloc (by simp) _).alloc (by simp; omega) _).alloc (by simp; omega) _
    · exact heap_old_at _ (heap_old_at _ (heap_old_at _ (heap_new_at _ _ _ (by simp))))
    · exact heap_old_at _ (heap_old_at _ (heap_new_at _ _ _ (by simp)))
    · exact heap_old_at _ (heap_new_at _ _ _ (by simp))
    · exact heap_new_at _ _ _ (by simp)
  case round =>
    obtain ⟨k, hk, rfl, hbe, hg0, hg1, hg2, hg3⟩ := hrel
    obtain ⟨F, hF⟩ : ∃ F, Sha.fillR b k = F := ⟨_, rfl⟩
    have hFl : F.length = 16 := by rw [← hF, Sha.fillR_length]
    rw [hF] at hg3
    have HF := Boxed.mk hF
    have HBE := Boxed.mk hbe
    have HG0 := Boxed.mk hg0
    have HG1 := Boxed.mk hg1
    have HG2 := Boxed.mk hg2
    have HG3 := Boxed.mk hg3
    by_cases hlt : k < 64
    · obtain ⟨q, hq⟩ : ∃ q, k / 4 = q := ⟨_, rfl⟩
      have hq16 : q < 16 := by omega
      have cb : wr.cell? ⟨w.heap.size + 1, k, none⟩ = some (.int .u8 ((b.getD k 0).toNat : Int)) := by
        rw [cell_of_row wr _ k bs _ _ hg1, ← HBS.out]; exact u8s_at b k (by rw [HLB.out]; exact hlt)
      have cw : wr.cell? ⟨w.heap.size + 1 + 1 + 1, q, none⟩ = some (.int .u32 (F.getD q 0)) := (cell_of_row wr _ q _ _ _ hg3).trans (u32s_at F q (by omega))
      have fw := frozen_of_row wr _ q _ _ hg3
      have hn : Sha.fillR b (k + 1) = F.set q ((F.getD q 0 * 256 + ((b.getD k 0).toNat : Int)) % 4294967296) := by rw [← hF, ← hq]; rfl
      obtain ⟨x, hx⟩ : ∃ x, b.getD k 0 = x := ⟨_, rfl⟩
      obtain ⟨y, hy⟩ : ∃ y, F.getD q 0 = y := ⟨_, rfl⟩
      rw [hx] at cb hn
      rw [hy] at cw hn
      have HN := Boxed.mk hn
      have hxb := byte_lt x
      have hqt : (k : Int).tdiv 4 = (q : Int) := by rw [Int.tdiv_eq_ediv_of_nonneg (by omega)]; omega
      have hqd : (k : Int) / 4 = (q : Int) := by omega
      have hqI : (q : Int) < 16 := by omega
      have hq0 : (0 : Int) ≤ (q : Int) := by omega
      have hkI : (k : Int) < 64 := by omega
      have hk0 : (0 : Int) ≤ (k : Int) := by omega
      have wq := wrap_small (q : Int) (by omega) (by omega)
      clear hbe hg0 hg1 hg2 hg3 hF hFl hq hn hx hy
      go_wp2
      go_region
      go_wp2
      go_roundw
      case rel =>
        refine ⟨k + 1, by omega, by go_num, (HBE.out.setCell (by dsimp only; omega) _).drew, ?_, ?_, ?_, ?_⟩
        · exact (Below.heap_setCell _ _ _ _ (by dsimp only; omega)).trans HG0.out
        · exact (Below.heap_setCell _ _ _ _ (by dsimp only; omega)).trans HG1.out
        · exact (Below.heap_setCell _ _ _ _ (by dsimp only; omega)).trans HG2.out
        · rw [HN.out, ← u32s_set, show (y * 256 + (x.toNat : Int)) % 4294967296 = y * 256 % 4294967296 + (x.toNat : Int) by omega]
          exact heap_setCell_same _ _ _ _ _ _ HG3.out
      case measure => simp [intOf]; omega
    · obtain rfl : k = 64 := by omega
      have hno : ¬ ((64 : Nat) : Int) < 64 := by omega
      have hc : ∀ j, wr.cell? ⟨w.heap.size, j, none⟩ = (u32s [a, b1, c, d, e, f, g, h])[j]? := fun j => cell_of_row wr _ j _ _ _ hg0
      have k0 := hc 0
      have k1 := hc 1
      have k2 := hc 2
      have k3 := hc 3
      have k4 := hc 4
      have k5 := hc 5
      have k6 := hc 6
      have k7 := hc 7
      simp only [u32s, List.map_cons, List.map_nil, List.getElem?_toArray, List.getElem?_cons_zero, List.getElem?_cons_succ] at k0 k1 k2 k3 k4 k5 k6 k7
      clear hlt hk hbe hg0 hg1 hg2 hg3 hF hc
      obtain ⟨V, hV⟩ : ∃ V, F = V := ⟨_, rfl⟩
      subst hV
      obtain ⟨V, hV⟩ : ∃ V, V = F := ⟨_, rfl⟩
      subst hV
      go_wp2
      go_quiet (fail)
      go_wp2
      go_quiet (fail)
      go_wp2
      clear k0 k1 k2 k3 k4 k5 k6 k7
      go_loopw [7, 8, 9, 10, 11, 12, 13, 14, 15] (fun xa xb xc xd xe xf xg xh i wr => ∃ k : Nat, k ≤ 64 ∧ i = .int .i64 k ∧ xa = .int .u32 (Sha.roundsR s0 V k).a ∧ xb = .int .u32 (Sha.roundsR s0 V k).b ∧ xc = .int .u32 (Sha.roundsR s0 V k).c ∧ xd = .int .u32 (Sha.roundsR s0 V k).d ∧ xe = .int .u32 (Sha.roundsR s0 V k).e ∧ xf = .int .u32 (Sha.roundsR s0 V k).f ∧ xg = .int .u32 (Sha.roundsR s0 V k).g ∧ xh = .int .u32 (Sha.roundsR s0 V k).h ∧ Below w.heap.size w wr ∧ wr.heap[w.heap.size]? = some (.cells (u32s [a, b1, c, d, e, f, g, h]) 91 (0, 0)) ∧ wr.heap[w.heap.size + 1 + 1]? = some (.cells (u32s (List.replicate 8 0)) 91 (0, 0)) ∧ wr.heap[w.heap.size + 1 + 1 + 1]? = some (.cells (u32s (Sha.win V k)) 109 (0, 0))) (fun _ _ _ _ _ _ _ _ i _ => 64 - (intOf i).toNat)
      case atStart =>
        refine ⟨0, by omega, rfl, by rw [← HS.out]; rfl, by rw [← HS.out]; rfl, by rw [← HS.out]; rfl, by rw [← HS.out]; rfl, by rw [← HS.out]; rfl, by rw [← HS.out]; rfl, by rw [← HS.out]; rfl, by rw [← HS.out]; rfl, below_drewN (below_drewN HBE.out _) _, HG0.out, HG2.out, HG3.out⟩
      case round =>
        clear HBE HG0 HG1 HG2 HG3
        obtain ⟨k, hk, rfl, rfl, rfl, rfl, rfl, rfl, rfl, rfl, rfl, hbe, hg0, hg2, hg3⟩ := hrel
        by_cases hlt : k < 64
        · obtain ⟨U, hU⟩ : ∃ U, Sha.win V k = U := ⟨_, rfl⟩
          obtain ⟨U', hU'⟩ : ∃ U', Sha.win V (k + 1) = U' := ⟨_, rfl⟩
          have hUl : U.length = 16 := by rw [← hU, Sha.win_length, hFl]
          have hUl' : U'.length = 16 := by rw [← hU', Sha.win_length, hFl]
          have hnext : U' = Sha.winNext U k := by rw [← hU', ← hU]; rfl
          obtain ⟨T, hT⟩ : ∃ T, Sha.roundsR s0 V k = T := ⟨_, rfl⟩
          obtain ⟨r0, hr0⟩ : ∃ r, k % 16 = r := ⟨_, rfl⟩
          have hr16 : r0 < 16 := by omega
          have hstep : Sha.roundsR s0 V (k + 1) = Sha.step T (Sha.kTab.getD k 0) (U'.getD r0 0) := by rw [← hT, ← hU', ← hr0]; rfl
          obtain ⟨ww, hww⟩ : ∃ x, U'.getD r0 0 = x := ⟨_, rfl⟩
          rw [hww] at hstep
          have hkc := fun W => const_any k W hlt
          obtain ⟨kk, hkk⟩ : ∃ x, Sha.kTab.getD k 0 = x := ⟨_, rfl⟩
          rw [hkk] at hstep hkc
          have HKC := Boxed.mk hkc
          clear hkk hkc
          rw [hU] at hg3
          have HST := Boxed.mk hstep
          have HU := Boxed.mk hU'
          have HUL := Boxed.mk hUl'
          have HWW := Boxed.mk hww
          have hm0 : (k : Int).tmod 16 = (r0 : Int) := by rw [Int.tmod_eq_emod_of_nonneg (by omega)]; omega
          have hm0' : (k : Int) % 16 = (r0 : Int) := by omega
          have hrI : (r0 : Int) < 16 := by omega
          have hrp : (0 : Int) ≤ (r0 : Int) := by omega
          have hkI : (k : Int) < 64 := by omega
          rw [hT]
          obtain ⟨ra, rb, rc, rd, re, rf, rg, rh⟩ := T
          clear hU hU' hUl' hstep hww hT
          dsimp only
          by_cases h16 : 16 ≤ k
          · have h16n : (k : Int) ≥ 16 := by omega
            have hUU : U' = U.set r0 ((U.getD r0 0 + Sha.sP (U.getD ((k + 1) % 16) 0) + U.getD ((k + 9) % 16) 0 + Sha.tP (U.getD ((k + 14) % 16) 0)) % 4294967296) := by rw [hnext, Sha.winNext, if_pos h16, hr0]
            have hcw : ∀ j, j < 16 → wr.cell? ⟨w.heap.size + 1 + 1 + 1, j, none⟩ = some (.int .u32 (U.getD j 0)) := fun j hj => (cell_of_row wr _ j _ _ _ hg3).trans (u32s_at U j (by omega))
            obtain ⟨r1, hr1⟩ : ∃ r, (k + 1) % 16 = r := ⟨_, rfl⟩
            have hr1b : r1 < 16 := by omega
            rw [hr1] at hUU
            have hm1 : ((k : Int) + 1).tmod 16 = (r1 : Int) := by rw [Int.tmod_eq_emod_of_nonneg (by omega)]; omega
            have hm1' : ((k : Int) + 1) % 16 = (r1 : Int) := by omega
            have hr1I : (r1 : Int) < 16 := by omega
            have c1 := hcw r1 hr1b
            obtain ⟨v1, hu1⟩ : ∃ x, U.getD r1 0 = x := ⟨_, rfl⟩
            rw [hu1] at c1 hUU
            clear hr1 hu1
            obtain ⟨r9, hr9⟩ : ∃ r, (k + 9) % 16 = r := ⟨_, rfl⟩
            have hr9b : r9 < 16 := by omega
            rw [hr9] at hUU
            have hm9 : ((k : Int) + 9).tmod 16 = (r9 : Int) := by rw [Int.tmod_eq_emod_of_nonneg (by omega)]; omega
            have hm9' : ((k : Int) + 9) % 16 = (r9 : Int) := by omega
            have hr9I : (r9 : Int) < 16 := by omega
            have c9 := hcw r9 hr9b
            obtain ⟨v9, hu9⟩ : ∃ x, U.getD r9 0 = x := ⟨_, rfl⟩
            rw [hu9] at c9 hUU
            clear hr9 hu9
            obtain ⟨r14, hr14⟩ : ∃ r, (k + 14) % 16 = r := ⟨_, rfl⟩
            have hr14b : r14 < 16 := by omega
            rw [hr14] at hUU
            have hm14 : ((k : Int) + 14).tmod 16 = (r14 : Int) := by rw [Int.tmod_eq_emod_of_nonneg (by omega)]; omega
            have hm14' : ((k : Int) + 14) % 16 = (r14 : Int) := by omega
            have hr14I : (r14 : Int) < 16 := by omega
            have c14 := hcw r14 hr14b
            obtain ⟨v14, hu14⟩ : ∃ x, U.getD r14 0 = x := ⟨_, rfl⟩
            rw [hu14] at c14 hUU
            clear hr14 hu14
            have c0 := hcw r0 hr16
            have f0 := frozen_of_row wr _ r0 _ _ hg3
            obtain ⟨v0, hu0⟩ : ∃ x, U.getD r0 0 = x := ⟨_, rfl⟩
            rw [hu0] at c0 hUU
            have HUU := Boxed.mk hUU
            have HBE := Boxed.mk hbe
            have HG0 := Boxed.mk hg0
            have HG2 := Boxed.mk hg2
            have HG3 := Boxed.mk hg3
            clear hu0 hcw hUU hbe hg0 hg2 hg3 hnext hUl hr0
            go_wp2_with fail
            refine (turned_any v1 7 _ (by omega) (by omega)).mono ?_
            rintro _ _ ⟨rfl, rfl⟩
            go_wp2_with fail
            refine (turned_any v1 18 _ (by omega) (by omega)).mono ?_
            rintro _ _ ⟨rfl, rfl⟩
            go_wp2_with fail
            refine (turned_any v14 17 _ (by omega) (by omega)).mono ?_
            rintro _ _ ⟨rfl, rfl⟩
            go_wp2_with fail
            refine (turned_any v14 19 _ (by omega) (by omega)).mono ?_
            rintro _ _ ⟨rfl, rfl⟩
            go_wp2
            go_region
            go_wp2
            generalize hw5 : World.drew (World.setCell _ _ _) = w5
            have H53 : Boxed (w5.heap[w.heap.size + 1 + 1 + 1]? = some (.cells (u32s U') 109 (0, 0))) := Boxed.mk (by
              rw [← hw5, HUU.out, ← u32s_set]
              refine (heap_setCell_same _ _ _ _ _ _ HG3.out).trans ?_
              first | rfl | (simp only [Int.emod_add_emod]; rfl))
            have H50 : Boxed (w5.heap[w.heap.size]? = some (.cells (u32s [a, b1, c, d, e, f, g, h]) 91 (0, 0))) := Boxed.mk (by rw [← hw5]; exact (Below.heap_setCell _ _ _ _ (by dsimp only; omega)).trans HG0.out)
            have H52 : Boxed (w5.heap[w.heap.size + 1 + 1]? = some (.cells (u32s (List.replicate 8 0)) 91 (0, 0))) := Boxed.mk (by rw [← hw5]; exact (Below.heap_setCell _ _ _ _ (by dsimp only; omega)).trans HG2.out)
            have HB5 : Boxed (Below w.heap.size w w5) := Boxed.mk (by rw [← hw5]; exact (HBE.out.setCell (by dsimp only; omega) _).drew)
            clear hw5 c0 c1 c9 c14 f0 hm1 hm1' hm9 hm9' hm14 hm14'
            have hlt5 := lt_of_heap H53.out
            have hSS : ∀ w', Below w5.heap.size w5 w' → w'.cell? ⟨w.heap.size + 1 + 1 + 1, r0, none⟩ = some (.int .u32 ww) ∧ Below w5.heap.size w5 w' := fun w' hw => ⟨(cell_of_row w' _ r0 _ _ _ ((hw.block _ hlt5).trans H53.out)).trans (by rw [← HWW.out]; exact u32s_at U' r0 (by rw [HUL.out]; omega)), hw⟩
            have HSS := Boxed.mk hSS
            have HDR : Boxed (Below w5.heap.size w5 w5.drew) := Boxed.mk (Below.refl _ w5).drew
            clear hSS hlt5
            try go_wp2
            go_region_held3 (fun w' => w'.cell? ⟨w.heap.size + 1 + 1 + 1, r0, none⟩ = some (.int .u32 ww) ∧ Below w5.heap.size w5 w')
              ((refine HSS.out _ ?_; with_reducible (first | exact HDR.out | exact hB9 | fail)))
              (first | (go_at_call 88; refine (turned_any _ _ _ (by omega) (by omega)).mono ?_; rintro e' w' ⟨rfl, rfl⟩) | (go_at_call 89; refine (HKC.out _).mono ?_; rintro e' w9 ⟨rfl, hb9⟩; (have hB9 : Below w5.heap.size w5 w9 := Below.trans HDR.out hb9)))
            have HB9 := Boxed.mk hB9
            clear hB9 hb9
            go_wp2_with fail
            refine (turned_any ra 2 _ (by omega) (by omega)).mono ?_
            rintro _ _ ⟨rfl, rfl⟩
            go_wp2_with fail
            refine (turned_any ra 13 _ (by omega) (by omega)).mono ?_
            rintro _ _ ⟨rfl, rfl⟩
            go_wp2_with fail
            refine (turned_any ra 22 _ (by omega) (by omega)).mono ?_
            rintro _ _ ⟨rfl, rfl⟩
            go_wp2
            go_roundw
            case rel =>
              have hb9 := HB9.out
              have l0 := lt_of_heap H50.out
              have l2 := lt_of_heap H52.out
              have l3 := lt_of_heap H53.out
              refine ⟨k + 1, by omega, by go_num, ?_, ?_, ?_, ?_, ?_, ?_, ?_, ?_, HB5.out.trans (hb9.mono HB5.out.size), (hb9.block _ l0).trans H50.out, (hb9.block _ l2).trans H52.out, by rw [HU.out]; exact (hb9.block _ l3).trans H53.out⟩ <;> rw [HST.out] <;> simp only [Sha.step, Sha.uP, Sha.vP, Int.emod_add_emod] <;> rfl
            case measure => simp [intOf]; omega
          · have h16n : ¬ ((k : Int) ≥ 16) := by omega
            have hUU : U' = U := by rw [hnext, Sha.winNext, if_neg h16]
            rw [← hUU] at hg3
            obtain ⟨w5, hw5⟩ : ∃ w5, wr = w5 := ⟨_, rfl⟩
            have H53 : Boxed (w5.heap[w.heap.size + 1 + 1 + 1]? = some (.cells (u32s U') 109 (0, 0))) := Boxed.mk (by rw [← hw5]; exact hg3)
            have H50 : Boxed (w5.heap[w.heap.size]? = some (.cells (u32s [a, b1, c, d, e, f, g, h]) 91 (0, 0))) := Boxed.mk (by rw [← hw5]; exact hg0)
            have H52 : Boxed (w5.heap[w.heap.size + 1 + 1]? = some (.cells (u32s (List.replicate 8 0)) 91 (0, 0))) := Boxed.mk (by rw [← hw5]; exact hg2)
            have HB5 : Boxed (Below w.heap.size w w5) := Boxed.mk (by rw [← hw5]; exact hbe)
            rw [hw5]
            clear hw5 hbe hg0 hg2 hg3 hnext hUl hUU hr0
            have hlt5 := lt_of_heap H53.out
            have hSS : ∀ w', Below w5.heap.size w5 w' → w'.cell? ⟨w.heap.size + 1 + 1 + 1, r0, none⟩ = some (.int .u32 ww) ∧ Below w5.heap.size w5 w' := fun w' hw => ⟨(cell_of_row w' _ r0 _ _ _ ((hw.block _ hlt5).trans H53.out)).trans (by rw [← HWW.out]; exact u32s_at U' r0 (by rw [HUL.out]; omega)), hw⟩
            have HSS := Boxed.mk hSS
            have HDR : Boxed (Below w5.heap.size w5 w5.drew) := Boxed.mk (Below.refl _ w5).drew
            clear hSS hlt5
            try go_wp2
            go_region_held3 (fun w' => w'.cell? ⟨w.heap.size + 1 + 1 + 1, r0, none⟩ = some (.int .u32 ww) ∧ Below w5.heap.size w5 w')
              ((refine HSS.out _ ?_; with_reducible (first | exact HDR.out | exact hB9 | fail)))
              (first | (go_at_call 88; refine (turned_any _ _ _ (by omega) (by omega)).mono ?_; rintro e' w' ⟨rfl, rfl⟩) | (go_at_call 89; refine (HKC.out _).mono ?_; rintro e' w9 ⟨rfl, hb9⟩; (have hB9 : Below w5.heap.size w5 w9 := Below.trans HDR.out hb9)))
            have HB9 := Boxed.mk hB9
            clear hB9 hb9
            go_wp2_with fail
            refine (turned_any ra 2 _ (by omega) (by omega)).mono ?_
            rintro _ _ ⟨rfl, rfl⟩
            go_wp2_with fail
            refine (turned_any ra 13 _ (by omega) (by omega)).mono ?_
            rintro _ _ ⟨rfl, rfl⟩
            go_wp2_with fail
            refine (turned_any ra 22 _ (by omega) (by omega)).mono ?_
            rintro _ _ ⟨rfl, rfl⟩
            go_wp2
            go_roundw
            case rel =>
              have hb9 := HB9.out
              have l0 := lt_of_heap H50.out
              have l2 := lt_of_heap H52.out
              have l3 := lt_of_heap H53.out
              refine ⟨k + 1, by omega, by go_num, ?_, ?_, ?_, ?_, ?_, ?_, ?_, ?_, HB5.out.trans (hb9.mono HB5.out.size), (hb9.block _ l0).trans H50.out, (hb9.block _ l2).trans H52.out, by rw [HU.out]; exact (hb9.block _ l3).trans H53.out⟩ <;> rw [HST.out] <;> simp only [Sha.step, Sha.uP, Sha.vP, Int.emod_add_emod] <;> rfl
            case measure => simp [intOf]; omega
        · obtain rfl : k = 64 := by omega
          have hno : ¬ ((64 : Nat) : Int) < 64 := by omega
          have hc : ∀ j, wr.cell? ⟨w.heap.size, j, none⟩ = (u32s [a, b1, c, d, e, f, g, h])[j]? := fun j => cell_of_row wr _ j _ _ _ hg0
          have k0 := hc 0
          have k1 := hc 1
          have k2 := hc 2
          have k3 := hc 3
          have k4 := hc 4
          have k5 := hc 5
          have k6 := hc 6
          have k7 := hc 7
          simp only [u32s, List.map_cons, List.map_nil, List.getElem?_toArray, List.getElem?_cons_zero, List.getElem?_cons_succ] at k0 k1 k2 k3 k4 k5 k6 k7
          obtain ⟨T, hT⟩ : ∃ T, Sha.roundsR s0 V 64 = T := ⟨_, rfl⟩
          have HR : Boxed (Sha.blockR ⟨a, b1, c, d, e, f, g, h⟩ b = Sha.addP ⟨a, b1, c, d, e, f, g, h⟩ T) := Boxed.mk (by unfold Sha.blockR; rw [HS.out, HF.out, hT])
          rw [hT]
          obtain ⟨ra, rb, rc, rd, re, rf, rg, rh⟩ := T
          have HG2 := Boxed.mk hg2
          have HBE := Boxed.mk hbe
          clear hlt hk hbe hg0 hg2 hg3 hc hT
          dsimp only
          go_wp2_with (refine wpList_store_row (by rfl) _ _ _ (by rfl) (w.heap.size + 1 + 1) (u32s (Sha.addP ⟨a, b1, c, d, e, f, g, h⟩ ⟨ra, rb, rc, rd, re, rf, rg, rh⟩).list) (by rfl) (by rfl) _ _ HG2.out (by exact info8w) (by rfl) (u32s_one _) ?_)
          refine bodyPost_ret (v := .agg (u32s (Sha.addP ⟨a, b1, c, d, e, f, g, h⟩ ⟨ra, rb, rc, rd, re, rf, rg, rh⟩).list)) (results_cell_row rfl _ _ (w.heap.size + 1 + 1) _ _ _ _ rfl (setRow_heap _ _ _ _ _ _ HG2.out) Tryd.underlying91 rfl info8w) rfl ⟨?_, below_setRow HBE.out (by omega) _⟩
          rw [HR.out]
          rfl
end Go.Proofs.YtbjfihbjfoaghaaDoor
