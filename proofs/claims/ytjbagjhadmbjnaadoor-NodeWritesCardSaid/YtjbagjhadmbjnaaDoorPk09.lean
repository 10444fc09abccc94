/- ShaRef, ShaRefBlock, ShaRefSum, DigTag, NodeDig, NodeKids, CodeFew, PowMath, PowBase, AppendArg -/
import Derived.Test.YtjbagjhadmbjnaaDoorPk08
import Derived.Test.YtjbagjhadmbjnaaDoorPk07
import Derived.Deep.OwnRows
import Derived.Test.YtjbagjhadmbjnaaDoorPk05
import Derived.Test.YtjbagjhadmbjnaaDoorPk06
import Derived.Test.YtjbagjhadmbjnaaDoorPk02
import Derived.Test.YtjbagjhadmbjnaaDoorPk01
import Derived.WalkSpells
import Derived.WalkLawsBesides
import Derived.Deep.QuietTactic
import Derived.BigQuiet
import Derived.Test.YtjbagjhadmbjnaaDoorChecked
import Derived.Deep.Slices
import Derived.DataReads
import Derived.OpenShut
import Derived.SizedLaws
import Derived.Lib.LaidU8
import Derived.Maps.AppendAt
namespace Go.Proofs.YtjbagjhadmbjnaaDoor
open Go.RowKit

set_option maxHeartbeats 400000 in
theorem turned_any (x n : Int) (w : World) (h0 : 1 ≤ n) (h1 : n ≤ 31) :
    Calls Tryd.prog 75 #[.int .u32 x, .int .i64 n] w fun e w' => e = .returned (.int .u32 (Sha.rotI x n)) ∧ w' = w := by
  have hA : 0 ≤ 32 - n := by omega
  have hB : 32 - n ≤ 32 := by omega
  go_enter Tryd.func75, Tryd.ntmps75
  go_wp2
  go_ret
  refine ⟨?_, rfl⟩
  simp only [Sha.rotI]
  rw [Sha.bits_or_comm]
  rfl
set_option maxRecDepth 8000 in
set_option maxHeartbeats 1000000 in
theorem rfirst_any (w : World) :
    Calls Tryd.prog 63 #[] w fun e w' => e = .returned (.agg (u32s Sha.first.list)) ∧ Below w.heap.size w w' := by
  go_enter Tryd.func63, Tryd.ntmps63
  go_wp2
  refine bodyPost_ret (v := .agg (u32s Sha.first.list)) (results_cell_row rfl _ _ w.heap.size _ _ (0, 0) _ rfl (heap_new_at _ _ _ rfl) Tryd.underlying74 rfl (by kernel_rfl)) rfl ⟨rfl, (Below.refl _ w).alloc (Nat.le_refl _) _⟩
def constParts : List (Nat × Value) := Sha.kTab.zipIdx.map fun x => (x.2, .int .u32 x.1)
theorem built_consts : Tryd.prog.built 99 constParts = some (u32s Sha.kTab) := by kernel_rfl
theorem info64w : (Tryd.prog.info? 99).map (·.size) = some 64 := by kernel_rfl

set_option maxRecDepth 8000 in
set_option maxHeartbeats 1000000 in
theorem const_any (i : Nat) (w : World) (hi : i < 64) :
    Calls Tryd.prog 76 #[.int .i64 i] w fun e w' => e = .returned (.int .u32 (Sha.kTab.getD i 0)) ∧ Below w.heap.size w w' := by
  have h64 : (i : Int) < 64 := by omega
  have hat := u32s_at Sha.kTab i hi
  obtain ⟨K, hK⟩ : ∃ K, u32s Sha.kTab = K := ⟨_, rfl⟩
  rw [hK] at hat
  obtain ⟨x, hx⟩ : ∃ x, Sha.kTab.getD i 0 = x := ⟨_, rfl⟩
  rw [hx] at hat ⊢
  have hbu := built_consts
  rw [hK] at hbu
  have HBU := Lib.hid hbu
  have HI : Hid ((Tryd.prog.info? 99).map (·.size) = some K.size) := Lib.hid (by rw [← hK]; exact info64w)
  have HS : Hid (K.size = 64) := Lib.hid (by rw [← hK]; rfl)
  have H1 : Hid (K.all (·.oneCell') = true) := Lib.hid (by rw [← hK]; exact u32s_one _)
  clear hK hx hbu
  go_enter Tryd.func76, Tryd.ntmps76
  go_wp2_with (first | (refine wpList_build_to (by rfl) _ _ (by rfl) constParts (by first | kernel_rfl | rfl) K HBU.out ?_) | (refine wpList_store_new (by rfl) _ _ _ (by rfl) w.heap.size rfl K (by rfl) (by rfl) _ _ HI.out (by rw [HS.out]; rfl) H1.out ?_))
  go_ret
  exact ⟨rfl, (Below.refl _ w).alloc (Nat.le_refl _) _⟩
end Go.Proofs.YtjbagjhadmbjnaaDoor
namespace Go.Proofs.YtjbagjhadmbjnaaDoor
open Go.RowKit
attribute [local go_sem ↓] Go.wp_at_zero Go.wp_at_succ

theorem info8w : (Tryd.prog.info? 74).map (·.size) = some 8 := by kernel_rfl
/-- A fact that nothing unfolds. -/
structure Boxed (p : Prop) : Prop where
  out : p

set_option maxRecDepth 8000 in
set_option maxHeartbeats 4000000 in
theorem rblock_any (s : Sha.St) (b : List UInt8) (w : World) (hb : b.length = 64) :
    Calls Tryd.prog 64 #[.agg (u32s s.list), .agg (u8s b)] w fun e w' => e = .returned (.agg (u32s (Sha.blockR s b).list)) ∧ Below w.heap.size w w' := by
  obtain ⟨s0, hs0⟩ : ∃ s0, s = s0 := ⟨_, rfl⟩
  obtain ⟨a, b1, c, d, e, f, g, h⟩ := s
  obtain ⟨bs, hbs⟩ : ∃ bs, u8s b = bs := ⟨_, rfl⟩
  rw [hbs]
  have HS := Boxed.mk hs0
  have HBS := Boxed.mk hbs
  have HLB := Boxed.mk hb
  simp only [Sha.St.list, u32s, List.map_cons, List.map_nil]
  clear hbs hs0 hb
  go_enter Tryd.func64, Tryd.ntmps64
  go_wp2
  go_loopw [6] (fun i wr => ∃ k : Nat, k ≤ 64 ∧ i = .int .i64 k ∧ Below w.heap.size w wr ∧ wr.heap[w.heap.size]? = some (.cells (u32s [a, b1, c, d, e, f, g, h]) 74 (0, 0)) ∧ wr.heap[w.heap.size + 1]? = some (.cells bs 76 (0, 0)) ∧ wr.heap[w.heap.size + 1 + 1]? = some (.cells (u32s (List.replicate 8 0)) 74 (0, 0)) ∧ wr.heap[w.heap.size + 1 + 1 + 1]? = some (.cells (u32s (Sha.fillR b k)) 95 (0, 0))) (fun i _ => 64 - (intOf i).toNat)
  case atStart =>
    refine ⟨0, by omega, rfl, ?_, ?_, ?_, ?_, ?_⟩
    · exact ((((Below.refl _ w).alloc (Nat.le_refl _) _).alloc (by simp) _).alloc (by simp; omega) _).alloc (by simp; omega) _
    · exact heap_old_at _ (heap_old_at _ (heap_old_at _ (heap_new_at _ _ _ (by simp))))
    · exact heap_old_at _ (heap_old_at _ (heap_new_at _ _ _ (by simp)))
    · exact heap_old_at _ (heap_new_at _ _ _ (by simp))
    · exact heap_new_at _ _ _ (by simp)
  case round =>
    obtain ⟨k, hk, rfl, hbe, hg0, hg1, hg2, hg3⟩ := hrel
    obtain ⟨F, hF⟩ : ∃ F, Sha.fillR b k = F := ⟨_, rfl⟩
    have hFl : F.length = 16 := by rw [← hF, Sha.fillR_length]
    rw [hF] at hg3
    have HF := Boxed.mk hF
    have HBE := Boxed.mk hbe
    have HG0 := Boxed.mk hg0
    have HG1 := Boxed.mk hg1
    have HG2 := Boxed.mk hg2
    have HG3 := Boxed.mk hg3
    by_cases hlt : k < 64
    · obtain ⟨q, hq⟩ : ∃ q, k / 4 = q := ⟨_, rfl⟩
      have hq16 : q < 16 := by omega
      have cb : wr.cell? ⟨w.heap.size + 1, k, none⟩ = some (.int .u8 ((b.getD k 0).toNat : Int)) := by
        rw [cell_of_row wr _ k bs _ _ hg1, ← HBS.out]; exact u8s_at b k (by rw [HLB.out]; exact hlt)
      have cw : wr.cell? ⟨w.heap.size + 1 + 1 + 1, q, none⟩ = some (.int .u32 (F.getD q 0)) := (cell_of_row wr _ q _ _ _ hg3).trans (u32s_at F q (by omega))
      have fw := frozen_of_row wr _ q _ _ hg3
      have hn : Sha.fillR b (k + 1) = F.set q ((F.getD q 0 * 256 + ((b.getD k 0).toNat : Int)) % 4294967296) := by rw [← hF, ← hq]; rfl
      obtain ⟨x, hx⟩ : ∃ x, b.getD k 0 = x := ⟨_, rfl⟩
      obtain ⟨y, hy⟩ : ∃ y, F.getD q 0 = y := ⟨_, rfl⟩
      rw [hx] at cb hn
      rw [hy] at cw hn
      have HN := Boxed.mk hn
      have hxb := byte_lt x
      have hqt : (k : Int).tdiv 4 = (q : Int) := by rw [Int.tdiv_eq_ediv_of_nonneg (by omega)]; omega
      have hqd : (k : Int) / 4 = (q : Int) := by omega
      have hqI : (q : Int) < 16 := by omega
      have hq0 : (0 : Int) ≤ (q : Int) := by omega
      have hkI : (k : Int) < 64 := by omega
      have hk0 : (0 : Int) ≤ (k : Int) := by omega
      have wq := wrap_small (q : Int) (by omega) (by omega)
      clear hbe hg0 hg1 hg2 hg3 hF hFl hq hn hx hy
      go_wp2
      go_region
      go_wp2
      go_roundw
      case rel =>
        refine ⟨k + 1, by omega, by go_num, (HBE.out.setCell (by dsimp only; omega) _).drew, ?_, ?_, ?_, ?_⟩
        · exact (Below.heap_setCell _ _ _ _ (by dsimp only; omega)).trans HG0.out
        · exact (Below.heap_setCell _ _ _ _ (by dsimp only; omega)).trans HG1.out
        · exact (Below.heap_setCell _ _ _ _ (by dsimp only; omega)).trans HG2.out
        · rw [HN.out, ← u32s_set, show (y * 256 + (x.toNat : Int)) % 4294967296 = y * 256 % 4294967296 + (x.toNat : Int) by omega]
          exact heap_setCell_same _ _ _ _ _ _ HG3.out
      case measure => simp [intOf]; omega
    · obtain rfl : k = 64 := by omega
      have hno : ¬ ((64 : Nat) : Int) < 64 := by omega
      have hc : ∀ j, wr.cell? ⟨w.heap.size, j, none⟩ = (u32s [a, b1, c, d, e, f, g, h])[j]? := fun j => cell_of_row wr _ j _ _ _ hg0
      have k0 := hc 0
      have k1 := hc 1
      have k2 := hc 2
      have k3 := hc 3
      have k4 := hc 4
      have k5 := hc 5
      have k6 := hc 6
      have k7 := hc 7
      simp only [u32s, List.map_cons, List.map_nil, List.getElem?_toArray, List.getElem?_cons_zero, List.getElem?_cons_succ] at k0 k1 k2 k3 k4 k5 k6 k7
      clear hlt hk hbe hg0 hg1 hg2 hg3 hF hc
      obtain ⟨V, hV⟩ : ∃ V, F = V := ⟨_, rfl⟩
      subst hV
      obtain ⟨V, hV⟩ : ∃ V, V = F := ⟨_, rfl⟩
      subst hV
      go_wp2
      go_quiet (fail)
      go_wp2
      go_quiet (fail)
      go_wp2
      clear k0 k1 k2 k3 k4 k5 k6 k7
      go_loopw [7, 8, 9, 10, 11, 12, 13, 14, 15] (fun xa xb xc xd xe xf xg xh i wr => ∃ k : Nat, k ≤ 64 ∧ i = .int .i64 k ∧ xa = .int .u32 (Sha.roundsR s0 V k).a ∧ xb = .int .u32 (Sha.roundsR s0 V k).b ∧ xc = .int .u32 (Sha.roundsR s0 V k).c ∧ xd = .int .u32 (Sha.roundsR s0 V k).d ∧ xe = .int .u32 (Sha.roundsR s0 V k).e ∧ xf = .int .u32 (Sha.roundsR s0 V k).f ∧ xg = .int .u32 (Sha.roundsR s0 V k).g ∧ xh = .int .u32 (Sha.roundsR s0 V k).h ∧ Below w.heap.size w wr ∧ wr.heap[w.heap.size]? = some (.cells (u32s [a, b1, c, d, e, f, g, h]) 74 (0, 0)) ∧ wr.heap[w.heap.size + 1 + 1]? = some (.cells (u32s (List.replicate 8 0)) 74 (0, 0)) ∧ wr.heap[w.heap.size + 1 + 1 + 1]? = some (.cells (u32s (Sha.win V k)) 95 (0, 0))) (fun _ _ _ _ _ _ _ _ i _ => 64 - (intOf i).toNat)
      case atStart =>
        refine ⟨0, by omega, rfl, by rw [← HS.out]; rfl, by rw [← HS.out]; rfl, by rw [← HS.out]; rfl, by rw [← HS.out]; rfl, by rw [← HS.out]; rfl, by rw [← HS.out]; rfl, by rw [← HS.out]; rfl, by rw [← HS.out]; rfl, bel_drewN (bel_drewN HBE.out _) _, HG0.out, HG2.out, HG3.out⟩
      case round =>
        clear HBE HG0 HG1 HG2 HG3
        obtain ⟨k, hk, rfl, rfl, rfl, rfl, rfl, rfl, rfl, rfl, rfl, hbe, hg0, hg2, hg3⟩ := hrel
        by_cases hlt : k < 64
        · obtain ⟨U, hU⟩ : ∃ U, Sha.win V k = U := ⟨_, rfl⟩
          obtain ⟨U', hU'⟩ : ∃ U', Sha.win V (k + 1) = U' := ⟨_, rfl⟩
          have hUl : U.length = 16 := by rw [← hU, Sha.win_length, hFl]
          have hUl' : U'.length = 16 := by rw [← hU', Sha.win_length, hFl]
          have hnext : U' = Sha.winNext U k := by rw [← hU', ← hU]; rfl
          obtain ⟨T, hT⟩ : ∃ T, Sha.roundsR s0 V k = T := ⟨_, rfl⟩
          obtain ⟨r0, hr0⟩ : ∃ r, k % 16 = r := ⟨_, rfl⟩
          have hr16 : r0 < 16 := by omega
          have hstep : Sha.roundsR s0 V (k + 1) = Sha.step T (Sha.kTab.getD k 0) (U'.getD r0 0) := by rw [← hT, ← hU', ← hr0]; rfl
          obtain ⟨ww, hww⟩ : ∃ x, U'.getD r0 0 = x := ⟨_, rfl⟩
          rw [hww] at hstep
          have hkc := fun W => const_any k W hlt
          obtain ⟨kk, hkk⟩ : ∃ x, Sha.kTab.getD k 0 = x := ⟨_, rfl⟩
          rw [hkk] at hstep hkc
          have HKC := Boxed.mk hkc
          clear hkk hkc
          rw [hU] at hg3
          have HST := Boxed.mk hstep
          have HU := Boxed.mk hU'
          have HUL := Boxed.mk hUl'
          have HWW := Boxed.mk hww
          have hm0 : (k : Int).tmod 16 = (r0 : Int) := by rw [Int.tmod_eq_emod_of_nonneg (by omega)]; omega
          have hm0' : (k : Int) % 16 = (r0 : Int) := by omega
          have hrI : (r0 : Int) < 16 := by omega
          have hrp : (0 : Int) ≤ (r0 : Int) := by omega
          have hkI : (k : Int) < 64 := by omega
          rw [hT]
          obtain ⟨ra, rb, rc, rd, re, rf, rg, rh⟩ := T
          clear hU hU' hUl' hstep hww hT
          dsimp only
          by_cases h16 : 16 ≤ k
          · have h16n : (k : Int) ≥ 16 := by omega
            have hUU : U' = U.set r0 ((U.getD r0 0 + Sha.sP (U.getD ((k + 1) % 16) 0) + U.getD ((k + 9) % 16) 0 + Sha.tP (U.getD ((k + 14) % 16) 0)) % 4294967296) := by rw [hnext, Sha.winNext, if_pos h16, hr0]
            have hcw : ∀ j, j < 16 → wr.cell? ⟨w.heap.size + 1 + 1 + 1, j, none⟩ = some (.int .u32 (U.getD j 0)) := fun j hj => (cell_of_row wr _ j _ _ _ hg3).trans (u32s_at U j (by omega))
            obtain ⟨r1, hr1⟩ : ∃ r, (k + 1) % 16 = r := ⟨_, rfl⟩
            have hr1b : r1 < 16 := by omega
            rw [hr1] at hUU
            have hm1 : ((k : Int) + 1).tmod 16 = (r1 : Int) := by rw [Int.tmod_eq_emod_of_nonneg (by omega)]; omega
            have hm1' : ((k : Int) + 1) % 16 = (r1 : Int) := by omega
            have hr1I : (r1 : Int) < 16 := by omega
            have c1 := hcw r1 hr1b
            obtain ⟨v1, hu1⟩ : ∃ x, U.getD r1 0 = x := ⟨_, rfl⟩
            rw [hu1] at c1 hUU
            clear hr1 hu1
            obtain ⟨r9, hr9⟩ : ∃ r, (k + 9) % 16 = r := ⟨_, rfl⟩
            have hr9b : r9 < 16 := by omega
            rw [hr9] at hUU
            have hm9 : ((k : Int) + 9).tmod 16 = (r9 : Int) := by rw [Int.tmod_eq_emod_of_nonneg (by omega)]; omega
            have hm9' : ((k : Int) + 9) % 16 = (r9 : Int) := by omega
            have hr9I : (r9 : Int) < 16 := by omega
            have c9 := hcw r9 hr9b
            obtain ⟨v9, hu9⟩ : ∃ x, U.getD r9 0 = x := ⟨_, rfl⟩
            rw [hu9] at c9 hUU
            clear hr9 hu9
            obtain ⟨r14, hr14⟩ : ∃ r, (k + 14) % 16 = r := ⟨_, rfl⟩
            have hr14b : r14 < 16 := by omega
            rw [hr14] at hUU
            have hm14 : ((k : Int) + 14).tmod 16 = (r14 : Int) := by rw [Int.tmod_eq_emod_of_nonneg (by omega)]; omega
            have hm14' : ((k : Int) + 14) % 16 = (r14 : Int) := by omega
            have hr14I : (r14 : Int) < 16 := by omega
            have c14 := hcw r14 hr14b
            obtain ⟨v14, hu14⟩ : ∃ x, U.getD r14 0 = x := ⟨_, rfl⟩
            rw [hu14] at c14 hUU
            clear hr14 hu14
            have c0 := hcw r0 hr16
            have f0 := frozen_of_row wr _ r0 _ _ hg3
            obtain ⟨v0, hu0⟩ : ∃ x, U.getD r0 0 = x := ⟨_, rfl⟩
            rw [hu0] at c0 hUU
            have HUU := Boxed.mk hUU
            have HBE := Boxed.mk hbe
            have HG0 := Boxed.mk hg0
            have HG2 := Boxed.mk hg2
            have HG3 := Boxed.mk hg3
            clear hu0 hcw hUU hbe hg0 hg2 hg3 hnext hUl hr0
            go_wp2_with fail
            refine (turned_any v1 7 _ (by omega) (by omega)).mono ?_
            rintro _ _ ⟨rfl, rfl⟩
            go_wp2_with fail
            refine (turned_any v1 18 _ (by omega) (by omega)).mono ?_
            rintro _ _ ⟨rfl, rfl⟩
            go_wp2_with fail
            refine (turned_any v14 17 _ (by omega) (by omega)).mono ?_
            rintro _ _ ⟨rfl, rfl⟩
            go_wp2_with fail
            refine (turned_any v14 19 _ (by omega) (by omega)).mono ?_
            rintro _ _ ⟨rfl, rfl⟩
            go_wp2
            go_region
            go_wp2
            generalize hw5 : World.drew (World.setCell _ _ _) = w5
            have H53 : Boxed (w5.heap[w.heap.size + 1 + 1 + 1]? = some (.cells (u32s U') 95 (0, 0))) := Boxed.mk (by
              rw [← hw5, HUU.out, ← u32s_set]
              refine (heap_setCell_same _ _ _ _ _ _ HG3.out).trans ?_
              first | rfl | (simp only [Int.emod_add_emod]; rfl))
            have H50 : Boxed (w5.heap[w.heap.size]? = some (.cells (u32s [a, b1, c, d, e, f, g, h]) 74 (0, 0))) := Boxed.mk (by rw [← hw5]; exact (Below.heap_setCell _ _ _ _ (by dsimp only; omega)).trans HG0.out)
            have H52 : Boxed (w5.heap[w.heap.size + 1 + 1]? = some (.cells (u32s (List.replicate 8 0)) 74 (0, 0))) := Boxed.mk (by rw [← hw5]; exact (Below.heap_setCell _ _ _ _ (by dsimp only; omega)).trans HG2.out)
            have HB5 : Boxed (Below w.heap.size w w5) := Boxed.mk (by rw [← hw5]; exact (HBE.out.setCell (by dsimp only; omega) _).drew)
            clear hw5 c0 c1 c9 c14 f0 hm1 hm1' hm9 hm9' hm14 hm14'
            have hlt5 := lt_of_heap H53.out
            have hSS : ∀ w', Below w5.heap.size w5 w' → w'.cell? ⟨w.heap.size + 1 + 1 + 1, r0, none⟩ = some (.int .u32 ww) ∧ Below w5.heap.size w5 w' := fun w' hw => ⟨(cell_of_row w' _ r0 _ _ _ ((hw.block _ hlt5).trans H53.out)).trans (by rw [← HWW.out]; exact u32s_at U' r0 (by rw [HUL.out]; omega)), hw⟩
            have HSS := Boxed.mk hSS
            have HDR : Boxed (Below w5.heap.size w5 w5.drew) := Boxed.mk (Below.refl _ w5).drew
            clear hSS hlt5
            try go_wp2
            go_region_held3 (fun w' => w'.cell? ⟨w.heap.size + 1 + 1 + 1, r0, none⟩ = some (.int .u32 ww) ∧ Below w5.heap.size w5 w')
              ((refine HSS.out _ ?_; with_reducible (first | exact HDR.out | exact hB9 | fail)))
              (first | (go_at_call 75; refine (turned_any _ _ _ (by omega) (by omega)).mono ?_; rintro e' w' ⟨rfl, rfl⟩) | (go_at_call 76; refine (HKC.out _).mono ?_; rintro e' w9 ⟨rfl, hb9⟩; (have hB9 : Below w5.heap.size w5 w9 := Below.trans HDR.out hb9)))
            have HB9 := Boxed.mk hB9
            clear hB9 hb9
            go_wp2_with fail
            refine (turned_any ra 2 _ (by omega) (by omega)).mono ?_
            rintro _ _ ⟨rfl, rfl⟩
            go_wp2_with fail
            refine (turned_any ra 13 _ (by omega) (by omega)).mono ?_
            rintro _ _ ⟨rfl, rfl⟩
            go_wp2_with fail
            refine (turned_any ra 22 _ (by omega) (by omega)).mono ?_
            rintro _ _ ⟨rfl, rfl⟩
            go_wp2
            go_roundw
            case rel =>
              have hb9 := HB9.out
              have l0 := lt_of_heap H50.out
              have l2 := lt_of_heap H52.out
              have l3 := lt_of_heap H53.out
              refine ⟨k + 1, by omega, by go_num, ?_, ?_, ?_, ?_, ?_, ?_, ?_, ?_, HB5.out.trans (hb9.mono HB5.out.size), (hb9.block _ l0).trans H50.out, (hb9.block _ l2).trans H52.out, by rw [HU.out]; exact (hb9.block _ l3).trans H53.out⟩ <;> rw [HST.out] <;> simp only [Sha.step, Sha.uP, Sha.vP, Int.emod_add_emod] <;> rfl
            case measure => simp [intOf]; omega
          · have h16n : ¬ ((k : Int) ≥ 16) := by omega
            have hUU : U' = U := by rw [hnext, Sha.winNext, if_neg h16]
            rw [← hUU] at hg3
            obtain ⟨w5, hw5⟩ : ∃ w5, wr = w5 := ⟨_, rfl⟩
            have H53 : Boxed (w5.heap[w.heap.size + 1 + 1 + 1]? = some (.cells (u32s U') 95 (0, 0))) := Boxed.mk (by rw [← hw5]; exact hg3)
            have H50 : Boxed (w5.heap[w.heap.size]? = some (.cells (u32s [a, b1, c, d, e, f, g, h]) 74 (0, 0))) := Boxed.mk (by rw [← hw5]; exact hg0)
            have H52 : Boxed (w5.heap[w.heap.size + 1 + 1]? = some (.cells (u32s (List.replicate 8 0)) 74 (0, 0))) := Boxed.mk (by rw [← hw5]; exact hg2)
            have HB5 : Boxed (Below w.heap.size w w5) := Boxed.mk (by rw [← hw5]; exact hbe)
            rw [hw5]
            clear hw5 hbe hg0 hg2 hg3 hnext hUl hUU hr0
            have hlt5 := lt_of_heap H53.out
            have hSS : ∀ w', Below w5.heap.size w5 w' → w'.cell? ⟨w.heap.size + 1 + 1 + 1, r0, none⟩ = some (.int .u32 ww) ∧ Below w5.heap.size w5 w' := fun w' hw => ⟨(cell_of_row w' _ r0 _ _ _ ((hw.block _ hlt5).trans H53.out)).trans (by rw [← HWW.out]; exact u32s_at U' r0 (by rw [HUL.out]; omega)), hw⟩
            have HSS := Boxed.mk hSS
            have HDR : Boxed (Below w5.heap.size w5 w5.drew) := Boxed.mk (Below.refl _ w5).drew
            clear hSS hlt5
            try go_wp2
            go_region_held3 (fun w' => w'.cell? ⟨w.heap.size + 1 + 1 + 1, r0, none⟩ = some (.int .u32 ww) ∧ Below w5.heap.size w5 w')
              ((refine HSS.out _ ?_; with_reducible (first | exact HDR.out | exact hB9 | fail)))
              (first | (go_at_call 75; refine (turned_any _ _ _ (by omega) (by omega)).mono ?_; rintro e' w' ⟨rfl, rfl⟩) | (go_at_call 76; refine (HKC.out _).mono ?_; rintro e' w9 ⟨rfl, hb9⟩; (have hB9 : Below w5.heap.size w5 w9 := Below.trans HDR.out hb9)))
            have HB9 := Boxed.mk hB9
            clear hB9 hb9
            go_wp2_with fail
            refine (turned_any ra 2 _ (by omega) (by omega)).mono ?_
            rintro _ _ ⟨rfl, rfl⟩
            go_wp2_with fail
            refine (turned_any ra 13 _ (by omega) (by omega)).mono ?_
            rintro _ _ ⟨rfl, rfl⟩
            go_wp2_with fail
            refine (turned_any ra 22 _ (by omega) (by omega)).mono ?_
            rintro _ _ ⟨rfl, rfl⟩
            go_wp2
            go_roundw
            case rel =>
              have hb9 := HB9.out
              have l0 := lt_of_heap H50.out
              have l2 := lt_of_heap H52.out
              have l3 := lt_of_heap H53.out
              refine ⟨k + 1, by omega, by go_num, ?_, ?_, ?_, ?_, ?_, ?_, ?_, ?_, HB5.out.trans (hb9.mono HB5.out.size), (hb9.block _ l0).trans H50.out, (hb9.block _ l2).trans H52.out, by rw [HU.out]; exact (hb9.block _ l3).trans H53.out⟩ <;> rw [HST.out] <;> simp only [Sha.step, Sha.uP, Sha.vP, Int.emod_add_emod] <;> rfl
            case measure => simp [intOf]; omega
        · obtain rfl : k = 64 := by omega
          have hno : ¬ ((64 : Nat) : Int) < 64 := by omega
          have hc : ∀ j, wr.cell? ⟨w.heap.size, j, none⟩ = (u32s [a, b1, c, d, e, f, g, h])[j]? := fun j => cell_of_row wr _ j _ _ _ hg0
          have k0 := hc 0
          have k1 := hc 1
          have k2 := hc 2
          have k3 := hc 3
          have k4 := hc 4
          have k5 := hc 5
          have k6 := hc 6
          have k7 := hc 7
          simp only [u32s, List.map_cons, List.map_nil, List.getElem?_toArray, List.getElem?_cons_zero, List.getElem?_cons_succ] at k0 k1 k2 k3 k4 k5 k6 k7
          obtain ⟨T, hT⟩ : ∃ T, Sha.roundsR s0 V 64 = T := ⟨_, rfl⟩
          have HR : Boxed (Sha.blockR ⟨a, b1, c, d, e, f, g, h⟩ b = Sha.addP ⟨a, b1, c, d, e, f, g, h⟩ T) := Boxed.mk (by unfold Sha.blockR; rw [HS.out, HF.out, hT])
          rw [hT]
          obtain ⟨ra, rb, rc, rd, re, rf, rg, rh⟩ := T
          have HG2 := Boxed.mk hg2
          have HBE := Boxed.mk hbe
          clear hlt hk hbe hg0 hg2 hg3 hc hT
          dsimp only
          go_wp2_with (refine wpList_store_row (by rfl) _ _ _ (by rfl) (w.heap.size + 1 + 1) (u32s (Sha.addP ⟨a, b1, c, d, e, f, g, h⟩ ⟨ra, rb, rc, rd, re, rf, rg, rh⟩).list) (by rfl) (by rfl) _ _ HG2.out (by exact info8w) (by rfl) (u32s_one _) ?_)
          refine bodyPost_ret (v := .agg (u32s (Sha.addP ⟨a, b1, c, d, e, f, g, h⟩ ⟨ra, rb, rc, rd, re, rf, rg, rh⟩).list)) (results_cell_row rfl _ _ (w.heap.size + 1 + 1) _ _ _ _ rfl (setRow_heap _ _ _ _ _ _ HG2.out) Tryd.underlying74 rfl info8w) rfl ⟨?_, below_setRow HBE.out (by omega) _⟩
          rw [HR.out]
          rfl
end Go.Proofs.YtjbagjhadmbjnaaDoor
namespace Go.Proofs.YtjbagjhadmbjnaaDoor
open Go.RowKit

theorem conv_byte (w : World) (x : Int) : (convert 40 9 (.slice (some ⟨w.heap.size, 0, none⟩) 1 1)).run Tryd.prog (w.alloc (.cells #[.int .u8 (x % 256)] 5)) = .ok (.string ⟨[Sha.byteOf x].toArray⟩) (w.alloc (.cells #[.int .u8 (x % 256)] 5)) := by
  have hg := heap_alloc_new w (.cells #[.int .u8 (x % 256)] 5)
  refine run_convert_bytes_back (P := Tryd.prog) _ 40 9 5 ⟨w.heap.size, 0, none⟩ 1 [Sha.byteOf x] Tryd.underlying40 Tryd.underlying5 Tryd.underlying9 ?_
  intro j hj
  rw [Addr.add_mid, Nat.zero_add, cell_of_row _ _ j _ _ _ hg]
  match j, hj with
  | 0, _ => simp [Sha.byteOf_toNat]

theorem conv_zeros (w : World) (z : Nat) : (convert 40 9 (.slice (some ⟨w.heap.size, 0, none⟩) z z)).run Tryd.prog (w.alloc (.cells (madeCells #[.int .u8 0] z) 5)) = .ok (.string ⟨(List.replicate z (0 : UInt8)).toArray⟩) (w.alloc (.cells (madeCells #[.int .u8 0] z) 5)) := by
  obtain ⟨cs, h1, _, h3⟩ := World.rowIs_made w (.int .u8 0) z 5
  have hlz : (List.replicate z (0 : UInt8)).length = z := by simp
  have := run_convert_bytes_back (P := Tryd.prog) (w.alloc (.cells (madeCells #[.int .u8 0] z) 5)) 40 9 5 ⟨w.heap.size, 0, none⟩ z (List.replicate z 0) Tryd.underlying40 Tryd.underlying5 Tryd.underlying9 (by
    intro j hj
    rw [Addr.add_mid, Nat.zero_add, cell_of_row _ _ j _ _ _ h1, h3 j (by simpa using hj)]
    simp)
  rwa [hlz] at this

theorem info64y : (Tryd.prog.info? 76).map (·.size) = some 64 := by kernel_rfl

set_option maxRecDepth 8000 in
set_option maxHeartbeats 800000 in
theorem rsum_any (s : List UInt8) (w : World) (hn : s.length ≤ 1000) :
    Calls Tryd.prog 50 #[.string ⟨s.toArray⟩] w fun e w' => e = .returned (.string ⟨(Sha.sumP s).toArray⟩) ∧ Below w.heap.size w w' := by
  obtain ⟨n, hnn⟩ : ∃ n, s.length = n := ⟨_, rfl⟩
  have hn' : n ≤ 1000 := by omega
  obtain ⟨m, hm⟩ : ∃ m : Nat, n % 64 = m := ⟨_, rfl⟩
  obtain ⟨z, hz⟩ : ∃ z : Nat, z = (119 - n % 64) % 64 := ⟨_, rfl⟩
  have hzb : z ≤ 63 := by omega
  have m1 : (n : Int).tmod 64 = (m : Int) := by rw [Int.tmod_eq_emod_of_nonneg (by omega)]; omega
  have m2 : (n : Int) % 64 = (m : Int) := by omega
  have z1 : (119 - (m : Int)).tmod 64 = (z : Int) := by rw [Int.tmod_eq_emod_of_nonneg (by omega)]; omega
  have z2 : (119 - (m : Int)) % 64 = (z : Int) := by omega
  have htail := Sha.tailP_is n z hz
  have HT : Hid (Sha.sumP s = Sha.joinP (Sha.wordsP (s ++ Sha.tailP n))) := Lib.hid (by unfold Sha.sumP; rw [hnn])
  have HTA := Lib.hid htail
  have hsz : s.length = n := hnn
  have hmb : m < 64 := by omega
  clear htail hz hm hn hnn
  go_enter Tryd.func50, Tryd.ntmps50
  go_wp2
  go_loopw [4, 5, 6] (fun b t i wr => ∃ k : Nat, k ≤ 8 ∧ i = .int .i64 k ∧ b = .int .i64 ((n * 8 / 256 ^ k : Nat) : Int) ∧ t = .string ⟨(Sha.endR (n * 8) k).toArray⟩ ∧ Below w.heap.size w wr) (fun _ _ i _ => 8 - (intOf i).toNat)
  case atStart => exact ⟨0, by omega, rfl, by simp, rfl, Below.refl _ _⟩
  case round =>
    obtain ⟨k, hk, rfl, rfl, rfl, hb⟩ := hrel
    have HB := Lib.hid hb
    clear hb
    by_cases hlt : k < 8
    · have hk8 : (k : Int) < 8 := by omega
      have hnx : Sha.endR (n * 8) (k + 1) = Sha.byteOf ((n * 8 / 256 ^ k : Nat) : Int) :: Sha.endR (n * 8) k := rfl
      have hdv : n * 8 / 256 ^ (k + 1) = n * 8 / 256 ^ k / 256 := by rw [Nat.pow_succ, Nat.div_div_eq_div_mul]
      have hel := Sha.endR_length (n * 8) k
      have hble : n * 8 / 256 ^ k ≤ 8000 := Nat.le_trans (Nat.div_le_self _ _) (by omega)
      obtain ⟨b, hbb⟩ : ∃ b, n * 8 / 256 ^ k = b := ⟨_, rfl⟩
      obtain ⟨E, hE⟩ : ∃ E, Sha.endR (n * 8) k = E := ⟨_, rfl⟩
      obtain ⟨E', hE'⟩ : ∃ E', Sha.endR (n * 8) (k + 1) = E' := ⟨_, rfl⟩
      rw [hbb] at hnx hdv hble ⊢
      rw [hE] at hnx hel ⊢
      rw [hE'] at hnx
      have hcm := cat_mk [Sha.byteOf (b : Int)] E
      have hcons : [Sha.byteOf (b : Int)] ++ E = E' := hnx.symm
      rw [hcons] at hcm
      have kc := fun w => conv_byte w (b : Int)
      have hEl : E.length ≤ 8 := by omega
      have HD := Lib.hid hdv
      have HE := Lib.hid hE'
      have b1 : (b : Int).tmod 256 = (b : Int) % 256 := Int.tmod_eq_emod_of_nonneg (by omega)
      have b2 : (b : Int).tdiv 256 = (b : Int) / 256 := Int.tdiv_eq_ediv_of_nonneg (by omega)
      clear hnx hdv hel hbb hE hE' hcons
      go_wp2
      go_roundw
      case rel => exact ⟨k + 1, by omega, by go_num, by rw [HD.out]; simp, by rw [HE.out], HB.out.alloc HB.out.size _⟩
      case measure => simp [intOf]; omega
    · obtain rfl : k = 8 := by omega
      have hno : ¬ ((8 : Nat) : Int) < 8 := by omega
      have hel := Sha.endR_length (n * 8) 8
      obtain ⟨E, hE⟩ : ∃ E, Sha.endR (n * 8) 8 = E := ⟨_, rfl⟩
      rw [hE] at hel HTA ⊢
      obtain ⟨S1, hS1⟩ : ∃ S1, s ++ [128] = S1 := ⟨_, rfl⟩
      obtain ⟨S2, hS2⟩ : ∃ S2, S1 ++ List.replicate z 0 = S2 := ⟨_, rfl⟩
      obtain ⟨ALL, hALL⟩ : ∃ S3, S2 ++ E = S3 := ⟨_, rfl⟩
      have c1 := cat_mk s [128]
      have c2 := cat_mk S1 (List.replicate z 0)
      have c3 := cat_mk S2 E
      rw [hS1] at c1
      rw [hS2] at c2
      rw [hALL] at c3
      have l1 : S1.length = n + 1 := by rw [← hS1]; simp; omega
      have l2 : S2.length = n + 1 + z := by rw [← hS2]; simp; omega
      have l3 : ALL.length = n + 1 + z + 8 := by rw [← hALL]; simp; omega
      have HALL : Hid (ALL = s ++ Sha.tailP n) := Lib.hid (by rw [HTA.out, ← hALL, ← hS2, ← hS1]; simp)
      obtain ⟨Q, hQ⟩ : ∃ Q, ALL.length = 64 * Q := ⟨(n + 1 + z + 8) / 64, by omega⟩
      have hQb : Q ≤ 20 := by omega
      have hlz : (List.replicate z (0 : UInt8)).length = z := by simp
      have hmk := fun w => run_make_row' (P := Tryd.prog) 40 5 (.int .u8 0) 1 Tryd.underlying40 Tryd.infoByte rfl .i64 .i64 z (by omega) (by omega) w
      have hkz := fun w => conv_zeros w z
      obtain ⟨Zs, hZs⟩ : ∃ Zs, List.replicate z (0 : UInt8) = Zs := ⟨_, rfl⟩
      obtain ⟨MC, hMC⟩ : ∃ MC, madeCells #[.int .u8 0] z = MC := ⟨_, rfl⟩
      rw [hZs] at c2 hlz hkz
      rw [hMC] at hkz hmk
      have b1 : S1.length ≤ 2000 := by omega
      have b2 : S2.length ≤ 2000 := by omega
      have b3 : ALL.length ≤ 2000 := by omega
      have b4 : s.length ≤ 1000 := by omega
      have b5 : Zs.length ≤ 64 := by omega
      have b6 : E.length ≤ 8 := by omega
      have HQ := Lib.hid hQ
      have hf := rfirst_any
      simp only [Sha.St.list, u32s, List.map_cons, List.map_nil, Sha.first] at hf
      have HF := Lib.hid hf
      clear hE hS1 hS2 hALL hlt hk hZs hMC hQ l1 l2 l3 hlz hel hf
      go_wp2_with fail
      refine (HF.out _).mono ?_
      rintro e w2 ⟨rfl, hb2⟩
      have HB2 := Lib.hid ((HB.out.alloc HB.out.size (.cells MC 5)).trans (hb2.mono (HB.out.alloc HB.out.size (.cells MC 5)).size))
      clear hb2 hkz hmk c1 c2 c3 b1 b2 b5 b6
      go_wp2
      obtain ⟨g, hg⟩ : ∃ g, w2.heap.size = g := ⟨_, rfl⟩
      have HGG := Lib.hid hg
      have HGW : Hid (w.heap.size ≤ g) := Lib.hid (by rw [← hg]; exact HB2.out.size)
      rw [hg]
      clear hg
      go_loopw [9] (fun i wr => ∃ k : Nat, k ≤ Q ∧ i = .int .i64 ((64 * k : Nat) : Int) ∧ Below w.heap.size w wr ∧ wr.heap[g]? = some (.cells (u32s (Sha.absorb ALL k).list) 74 (0, 0))) (fun i _ => 64 * Q - (intOf i).toNat)
      case atStart =>
        refine ⟨0, Nat.zero_le _, rfl, HB2.out.alloc HB2.out.size _, ?_⟩
        exact heap_new_at _ _ _ HGG.out.symm
      case round =>
        obtain ⟨k, hk, rfl, hb, hgr⟩ := hrel
        obtain ⟨S, hS⟩ : ∃ S, Sha.absorb ALL k = S := ⟨_, rfl⟩
        obtain ⟨RS, hRS⟩ : ∃ R, u32s S.list = R := ⟨_, rfl⟩
        rw [hS, hRS] at hgr
        have HS := Lib.hid hS
        have HRS := Lib.hid hRS
        have HBR := Lib.hid hb
        have HGR := Lib.hid hgr
        have hRz : RS.size = 8 := by rw [← hRS]; rfl
        have HRI : Hid ((Tryd.prog.info? 74).map (·.size) = some RS.size) := Lib.hid (by rw [hRz]; exact info8w)
        by_cases hlt : k < Q
        · have hle : ((64 * k : Nat) : Int) + 64 ≤ (ALL.length : Int) := by have := HQ.out; omega
          obtain ⟨X, hX⟩ : ∃ X, (ALL.drop (64 * k)).take 64 = X := ⟨_, rfl⟩
          have hXl : X.length = 64 := by rw [← hX]; simp; have := HQ.out; omega
          have hXat : ∀ j, j < 64 → ALL.getD (64 * k + j) 0 = X.getD j 0 := fun j hj => by rw [← hX]; simp [hj]
          have hnx : Sha.absorb ALL (k + 1) = Sha.blockP S X := by rw [← hX, ← hS]; rfl
          have hblk := fun w' => rblock_any S X w' hXl
          rw [Sha.blockR_is] at hblk
          obtain ⟨T, hT⟩ : ∃ T, Sha.blockP S X = T := ⟨_, rfl⟩
          obtain ⟨RT, hRT⟩ : ∃ R, u32s T.list = R := ⟨_, rfl⟩
          rw [hT, hRT, hRS] at hblk
          rw [hT] at hnx
          obtain ⟨XB, hXB⟩ : ∃ X', u8s X = X' := ⟨_, rfl⟩
          rw [hXB] at hblk
          have HBLK := Lib.hid hblk
          have HNX := Lib.hid hnx
          have HRT := Lib.hid hRT
          have HXA := Lib.hid hXat
          have HXL := Lib.hid hXl
          have HXB := Lib.hid hXB
          have hTz : RT.size = 8 := by rw [← hRT]; rfl
          have HTI : Hid ((Tryd.prog.info? 74).map (·.size) = some RT.size) := Lib.hid (by rw [hTz]; exact info8w)
          have HT1 : Hid (RT.all (·.oneCell') = true) := Lib.hid (by rw [← hRT]; exact u32s_one _)
          have HRTz : Hid (RS.size = RT.size) := Lib.hid (by rw [hRz, hTz])
          obtain ⟨i0, hi0⟩ : ∃ i0, 64 * k = i0 := ⟨_, rfl⟩
          rw [hi0] at hle HXA ⊢
          have HI0 := Lib.hid hi0
          have hi2000 : i0 ≤ 2000 := by omega
          clear hS hRS hb hgr hRz hX hXl hXat hnx hblk hT hRT hTz hi0 hXB
          go_wp2
          obtain ⟨pb, hpb⟩ : ∃ pb, wr.heap.size = pb := ⟨_, rfl⟩
          have HGP : Hid (g < pb) := Lib.hid (by rw [← hpb]; exact lt_of_heap HGR.out)
          have HWP : Hid (w.heap.size ≤ pb) := Lib.hid (by rw [← hpb]; exact HBR.out.size)
          have HSt1 : Hid (Below w.heap.size w (wr.alloc (.cells (u8s (List.replicate 64 0)) 76))) := Lib.hid (HBR.out.alloc HBR.out.size _)
          have HSt2 : Hid ((wr.alloc (.cells (u8s (List.replicate 64 0)) 76)).heap[g]? = some (.cells RS 74 (0, 0))) := Lib.hid (heap_old_at _ HGR.out)
          have HSt3 : Hid ((wr.alloc (.cells (u8s (List.replicate 64 0)) 76)).heap[pb]? = some (.cells (u8s (Sha.copyR X 0)) 76 (0, 0))) := Lib.hid (heap_new_at _ _ _ hpb.symm)
          rw [hpb]
          clear hpb
          go_loopw [11] (fun i wr => ∃ j : Nat, j ≤ 64 ∧ i = .int .i64 j ∧ Below w.heap.size w wr ∧ wr.heap[g]? = some (.cells RS 74 (0, 0)) ∧ wr.heap[pb]? = some (.cells (u8s (Sha.copyR X j)) 76 (0, 0))) (fun i _ => 64 - (intOf i).toNat)
          case atStart => exact ⟨0, by omega, rfl, HSt1.out, HSt2.out, HSt3.out⟩
          case round =>
            clear HSt1 HSt2 HSt3 HBR HGR
            obtain ⟨j, hj, rfl, hb, hgr, hpr⟩ := hrel
            obtain ⟨F, hF⟩ : ∃ F, Sha.copyR X j = F := ⟨_, rfl⟩
            have hFl : F.length = 64 := by rw [← hF, Sha.copyR_length]
            rw [hF] at hpr
            have HF := Lib.hid hF
            have HBR := Lib.hid hb
            have HGR := Lib.hid hgr
            have HPR := Lib.hid hpr
            by_cases hj64 : j < 64
            · have hjI : (j : Int) < 64 := by omega
              have co : wr.cell? ⟨pb, j, none⟩ = some (.int .u8 ((F.getD j 0).toNat : Int)) := (cell_of_row wr _ j _ _ _ hpr).trans (u8s_at F j (by omega))
              obtain ⟨old, hold⟩ : ∃ o, ((F.getD j 0).toNat : Int) = o := ⟨_, rfl⟩
              rw [hold] at co
              have fo := frozen_of_row wr _ j _ _ hpr
              have hin : i0 + j < ALL.length := by omega
              have hat := HXA.out j hj64
              have hnn : Sha.copyR X (j + 1) = F.set j (X.getD j 0) := by rw [← hF]; rfl
              obtain ⟨c, hc⟩ : ∃ c, X.getD j 0 = c := ⟨_, rfl⟩
              rw [hc] at hat hnn
              have hix : ∀ h, (⟨ALL.toArray⟩ : ByteArray)[i0 + j]'h = c := fun h => by
                rw [← hat]
                simp [hin]
                rfl
              have e0 : ((i0 : Int) + (j : Int)).toNat = i0 + j := by omega
              have hinI : (i0 : Int) + (j : Int) < (ALL.length : Int) := by omega
              have HNN := Lib.hid hnn
              clear hb hgr hpr hF hFl hold hat hnn hc
              go_wp2
              go_roundw
              case rel =>
                have hgp := HGP.out
                refine ⟨j + 1, by omega, by go_num, HBR.out.setCell HWP.out _, (Below.heap_setCell _ _ _ _ (by dsimp only; omega)).trans HGR.out, ?_⟩
                rw [HNN.out, ← u8s_set]
                exact heap_setCell_same _ _ _ _ _ _ HPR.out
              case measure => simp [intOf]; omega
            · obtain rfl : j = 64 := by omega
              have hno64 : ¬ ((64 : Nat) : Int) < 64 := by omega
              have HXF : Hid (u8s F = XB) := Lib.hid (by rw [← HF.out, Sha.copyR_all X HXL.out, HXB.out])
              rw [HXF.out] at HPR
              have HXI : Hid ((Tryd.prog.info? 76).map (·.size) = some XB.size) := Lib.hid (by rw [← HXB.out, u8s_size, HXL.out]; exact info64y)
              clear hj64 hj hb hgr hpr hF hFl
              go_wp2_with (first | (refine wpList_load_row (by rfl) _ _ (by rfl) g (by rfl) _ RS _ _ HGR.out Tryd.underlying74 (by rfl) HRI.out ?_) | (refine wpList_load_row (by rfl) _ _ (by rfl) pb (by rfl) _ XB _ _ HPR.out Tryd.underlying76 (by rfl) HXI.out ?_))
              refine (HBLK.out _).mono ?_
              rintro e w6 ⟨rfl, hb6⟩
              have HG6 := Lib.hid ((hb6.block g (lt_of_heap HGR.out)).trans HGR.out)
              have HB6 := Lib.hid (HBR.out.trans (hb6.mono HBR.out.size))
              clear hb6
              go_wp2_with (refine wpList_store_row (by rfl) _ _ _ (by rfl) g RT (by rfl) (by rfl) _ _ HG6.out HTI.out HRTz.out HT1.out ?_)
              go_roundw
              case rel => exact ⟨k + 1, by omega, by rw [← HI0.out]; go_num, below_setRow HB6.out HGW.out _, by rw [HNX.out, HRT.out]; exact setRow_heap _ _ _ _ _ _ HG6.out⟩
              case measure => have := HQ.out; have := HI0.out; simp [intOf]; omega
        · obtain rfl : k = Q := by omega
          have hno : ¬ (((64 * k : Nat) : Int) + 64 ≤ (ALL.length : Int)) := by have := HQ.out; omega
          have HTO := Lib.hid (rtold_any S wr)
          rw [hRS] at HTO
          have HFI : Hid (Sha.sumP s = Sha.joinP S) := Lib.hid (by
            rw [HT.out, ← HALL.out, ← HS.out]
            unfold Sha.wordsP
            rw [HQ.out, Nat.mul_div_cancel_left _ (by omega)])
          obtain ⟨i0, hi0⟩ : ∃ i0, 64 * k = i0 := ⟨_, rfl⟩
          rw [hi0] at hno ⊢
          have hi2000 : i0 ≤ 2000 := by omega
          clear hS hRS hb hgr hRz hlt hk hi0
          go_wp2_with (refine wpList_load_row (by rfl) _ _ (by rfl) g (by rfl) _ RS _ _ HGR.out Tryd.underlying74 (by rfl) HRI.out ?_)
          refine HTO.out.mono ?_
          rintro e w6 ⟨rfl, hb6⟩
          go_wp2
          go_ret
          exact ⟨by rw [HFI.out]; rfl, HBR.out.trans (hb6.mono HBR.out.size)⟩
end Go.Proofs.YtjbagjhadmbjnaaDoor
namespace Go.Proofs.YtjbagjhadmbjnaaDoor
open Go.RowKit

set_option maxRecDepth 8000 in
theorem rTagged_any (t : Int) (s : List UInt8) (w : World) (hs : s.length ≤ 999) :
    Calls Tryd.prog 30 #[.int .i64 t, .string ⟨s.toArray⟩] w fun e w' => e = .returned (.string ⟨(Sha.sumP (Sha.byteOf t :: s)).toArray⟩) ∧ Below w.heap.size w w' := by
  have HS := Lib.hid (fun w => rsum_any (Sha.byteOf t :: s) w (by simp; omega))
  obtain ⟨R, hR⟩ : ∃ R, Sha.sumP (Sha.byteOf t :: s) = R := ⟨_, rfl⟩
  rw [hR] at HS ⊢
  have hcm := cat_mk [Sha.byteOf t] s
  have kc := fun w => conv_tag w t
  rw [List.singleton_append] at hcm
  clear hR
  go_enter Tryd.func30, Tryd.ntmps30
  go_wp2_with fail
  have hB1 : Below w.heap.size w (w.alloc (.cells #[.int .u8 (t % 256)] 5)) := (Below.refl _ w).alloc (Nat.le_refl _) _
  refine (HS.out _).mono ?_
  rintro e w2 ⟨rfl, hb2⟩
  go_wp2
  go_ret
  exact ⟨rfl, bchain hB1 hb2⟩

end Go.Proofs.YtjbagjhadmbjnaaDoor
namespace Go.Proofs.YtjbagjhadmbjnaaDoor
open Go.RowKit
open Go.Proofs.YtjbagjhadmbjnaaDoor.Nd (N)

def Nd.sumS (n : N) : List UInt8 := if Nd.fine n then Dig.sum 1 (Nd.written n) else []
set_option maxRecDepth 100000 in
set_option maxHeartbeats 1000000 in
theorem ndigest_any (n : N) (w : World) (hn : n.kids.length = 16) (hT : Tab w) :
    Calls Tryd.prog 16 #[nval n] w fun e w' => e = .returned (.string ⟨(Nd.sumS n).toArray⟩) ∧ Below w.heap.size w w' := by
  obtain ⟨C, hC, HB0, HCE, HI, HI2⟩ := nbox n w hn
  have HE := Lib.hid (fun w => nencode_any n w hn)
  have HTW := Lib.hid (fun w' (h : Below w.heap.size w w') => hT.below h)
  unfold Nd.sumS
  unfold Nd.encS Nd.encC nval at HE
  unfold nval
  rw [hC] at HE ⊢
  obtain ⟨-, -, -, -, -, cR⟩ := HCE.out _ (Below.refl _ _)
  have HRO := Lib.hid cR
  clear hC cR hT
  cases hf : Nd.fine n with
  | false =>
    rw [hf] at HE
    rw [if_neg (by decide)]
    rw [if_neg (by decide), if_neg (by decide)] at HE
    clear hf
    go_enter Tryd.func16, Tryd.ntmps16
    go_wp2_with (refine wpList_load_row (by rfl) _ _ (by rfl) w.heap.size (by rfl) _ C _ _ HRO.out Tryd.underlying24 (by rfl) HI.out ?_)
    refine (HE.out _).mono ?_
    rintro e w1 ⟨rfl, hb1⟩
    go_wp2
    go_ret
    exact ⟨rfl, bchain HB0.out hb1⟩
  | true =>
    have hl := Nd.written_most n hn hf
    rw [hf] at HE
    rw [if_pos rfl]
    rw [if_pos rfl, if_pos rfl] at HE
    obtain ⟨T, hT⟩ : ∃ T, Nd.written n = T := ⟨_, rfl⟩
    rw [hT] at HE hl ⊢
    have HL := Lib.hid hl
    obtain ⟨S, hS⟩ : ∃ S, Dig.sum 1 T = S := ⟨_, rfl⟩
    have HSU : Hid (∀ w', Tab w' → Calls Tryd.prog 19 #[.int .i64 1, .string ⟨T.toArray⟩] w' fun e w'' => e = .returned (.tuple #[.string ⟨S.toArray⟩, .int .i64 0]) ∧ Below w'.heap.size w' w'') := Lib.hid (fun w' h => by
      have := dsum_any 1 T w' h (by omega)
      rw [hS, show Dig.sumC 1 = 0 from by decide] at this
      exact this)
    rw [hS]
    clear hf hT hl hS
    go_enter Tryd.func16, Tryd.ntmps16
    go_wp2_with (refine wpList_load_row (by rfl) _ _ (by rfl) w.heap.size (by rfl) _ C _ _ HRO.out Tryd.underlying24 (by rfl) HI.out ?_)
    refine (HE.out _).mono ?_
    rintro e w1 ⟨rfl, hb1⟩
    have HB1 := Lib.hid (bchain HB0.out hb1)
    clear hb1
    go_wp2_with fail
    refine (HSU.out _ (HTW.out _ HB1.out)).mono ?_
    rintro e w2 ⟨rfl, hb2⟩
    go_wp2
    go_ret
    exact ⟨rfl, bchain HB1.out hb2⟩

set_option maxRecDepth 100000 in
set_option maxHeartbeats 1000000 in
theorem rncheck_any (n : N) (w : World) (hn : n.kids.length = 16) (hp : n.path.length ≤ 1000000) :
    Calls Tryd.prog 12 #[nval n] w fun e w' => e = .returned (.int .i64 (if Nd.fine n then 0 else 80)) ∧ Below w.heap.size w w' := by
  obtain ⟨C, hC, HB0, HCE, HI, HI2⟩ := nbox n w hn
  have HF := Lib.hid (fun w => rFine_any n w hn hp)
  unfold nval at HF ⊢
  rw [hC] at HF ⊢
  obtain ⟨-, -, -, -, -, cR⟩ := HCE.out _ (Below.refl _ _)
  have HRO := Lib.hid cR
  clear hC cR
  obtain ⟨b, hb⟩ : ∃ b, Nd.fine n = b := ⟨_, rfl⟩
  rw [hb] at HF ⊢
  clear hb
  go_enter Tryd.func12, Tryd.ntmps12
  go_wp2_with (refine wpList_load_row (by rfl) _ _ (by rfl) w.heap.size (by rfl) _ C _ _ HRO.out Tryd.underlying24 (by rfl) HI.out ?_)
  refine (HF.out _).mono ?_
  rintro e w1 ⟨rfl, hb1⟩
  have HB1 := Lib.hid (bchain HB0.out hb1)
  clear hb1
  cases b
  all_goals go_wp2
  all_goals go_ret
  all_goals exact ⟨rfl, HB1.out⟩
set_option maxRecDepth 100000 in
set_option maxHeartbeats 1000000 in
theorem rnencode_any (n : N) (w : World) (hn : n.kids.length = 16) (hp : n.path.length ≤ 1000000) :
    Calls Tryd.prog 9 #[nval n] w fun e w' => e = .returned (.tuple #[.string ⟨(Nd.encS n).toArray⟩, .int .i64 (Nd.encC n)]) ∧ Below w.heap.size w w' := by
  obtain ⟨C, hC, HB0, HCE, HI, HI2⟩ := nbox n w hn
  have HF := Lib.hid (fun w => rFine_any n w hn hp)
  have HW := Lib.hid (fun w h => rWritten_any n w hn h)
  unfold Nd.encS Nd.encC
  unfold nval at HF HW ⊢
  rw [hC] at HF HW ⊢
  have HRR : Hid (∀ w', Below (w.alloc (.cells C 24)).heap.size (w.alloc (.cells C 24)) w' → w'.heap[w.heap.size]? = some (.cells C 24 (0, 0))) := Lib.hid (fun w' h => (HCE.out w' h).2.2.2.2.2)
  have HRO := Lib.hid (HRR.out _ (Below.refl _ _))
  clear hC
  cases hf : Nd.fine n with
  | false =>
    rw [hf] at HF
    rw [if_neg (by decide), if_neg (by decide)]
    clear hf
    go_enter Tryd.func9, Tryd.ntmps9
    go_wp2_with (refine wpList_load_row (by rfl) _ _ (by rfl) w.heap.size (by rfl) _ C _ _ HRO.out Tryd.underlying24 (by rfl) HI.out ?_)
    refine (HF.out _).mono ?_
    rintro e w1 ⟨rfl, hb1⟩
    go_wp2
    go_ret2
    exact ⟨rfl, bchain HB0.out hb1⟩
  | true =>
    have HWW := Lib.hid (fun w => HW.out w hf)
    rw [hf] at HF
    rw [if_pos rfl, if_pos rfl]
    obtain ⟨T, hT⟩ : ∃ T, Nd.written n = T := ⟨_, rfl⟩
    rw [hT] at HWW ⊢
    clear hf hT
    go_enter Tryd.func9, Tryd.ntmps9
    go_wp2_with (refine wpList_load_row (by rfl) _ _ (by rfl) w.heap.size (by rfl) _ C _ _ HRO.out Tryd.underlying24 (by rfl) HI.out ?_)
    refine (HF.out _).mono ?_
    rintro e w1 ⟨rfl, hb1⟩
    have HR1 := Lib.hid (HRR.out _ hb1)
    have HB1 := Lib.hid (bchain HB0.out hb1)
    clear hb1
    go_wp2_with (refine wpList_load_row (by rfl) _ _ (by rfl) w.heap.size (by rfl) _ C _ _ HR1.out Tryd.underlying24 (by rfl) HI.out ?_)
    refine (HWW.out _).mono ?_
    rintro e w2 ⟨rfl, hb2⟩
    go_wp2
    go_ret2
    exact ⟨rfl, bchain HB1.out hb2⟩
set_option maxRecDepth 100000 in
set_option maxHeartbeats 1000000 in
theorem rndigest_any (n : N) (w : World) (hn : n.kids.length = 16) (hp : n.path.length ≤ 1000000) :
    Calls Tryd.prog 17 #[nval n] w fun e w' => e = .returned (.string ⟨(Nd.sumS n).toArray⟩) ∧ Below w.heap.size w w' := by
  obtain ⟨C, hC, HB0, HCE, HI, HI2⟩ := nbox n w hn
  have HF := Lib.hid (fun w => rFine_any n w hn hp)
  have HW := Lib.hid (fun w h => rWritten_any n w hn h)
  unfold Nd.sumS
  unfold nval at HF HW ⊢
  rw [hC] at HF HW ⊢
  have HRR : Hid (∀ w', Below (w.alloc (.cells C 24)).heap.size (w.alloc (.cells C 24)) w' → w'.heap[w.heap.size]? = some (.cells C 24 (0, 0))) := Lib.hid (fun w' h => (HCE.out w' h).2.2.2.2.2)
  have HRO := Lib.hid (HRR.out _ (Below.refl _ _))
  clear hC
  cases hf : Nd.fine n with
  | false =>
    rw [hf] at HF
    rw [if_neg (by decide)]
    clear hf
    go_enter Tryd.func17, Tryd.ntmps17
    go_wp2_with (refine wpList_load_row (by rfl) _ _ (by rfl) w.heap.size (by rfl) _ C _ _ HRO.out Tryd.underlying24 (by rfl) HI.out ?_)
    refine (HF.out _).mono ?_
    rintro e w1 ⟨rfl, hb1⟩
    go_wp2
    go_ret
    exact ⟨rfl, bchain HB0.out hb1⟩
  | true =>
    have HWW := Lib.hid (fun w => HW.out w hf)
    have hl := Nd.written_most n hn hf
    rw [hf] at HF
    rw [if_pos rfl]
    obtain ⟨T, hT⟩ : ∃ T, Nd.written n = T := ⟨_, rfl⟩
    rw [hT] at HWW hl ⊢
    obtain ⟨S, hS⟩ : ∃ S, Dig.sum 1 T = S := ⟨_, rfl⟩
    have HTG : Hid (∀ w', Calls Tryd.prog 30 #[.int .i64 1, .string ⟨T.toArray⟩] w' fun e w'' => e = .returned (.string ⟨S.toArray⟩) ∧ Below w'.heap.size w' w'') := Lib.hid (fun w' => by
      have := rTagged_any 1 T w' (by omega)
      rw [← hS]
      exact this)
    rw [hS]
    clear hf hT hl hS
    go_enter Tryd.func17, Tryd.ntmps17
    go_wp2_with (refine wpList_load_row (by rfl) _ _ (by rfl) w.heap.size (by rfl) _ C _ _ HRO.out Tryd.underlying24 (by rfl) HI.out ?_)
    refine (HF.out _).mono ?_
    rintro e w1 ⟨rfl, hb1⟩
    have HR1 := Lib.hid (HRR.out _ hb1)
    have HB1 := Lib.hid (bchain HB0.out hb1)
    clear hb1
    go_wp2_with (refine wpList_load_row (by rfl) _ _ (by rfl) w.heap.size (by rfl) _ C _ _ HR1.out Tryd.underlying24 (by rfl) HI.out ?_)
    refine (HWW.out _).mono ?_
    rintro e w2 ⟨rfl, hb2⟩
    have HB2 := Lib.hid (bchain HB1.out hb2)
    clear hb2
    go_wp2_with fail
    refine (HTG.out _).mono ?_
    rintro e w3 ⟨rfl, hb3⟩
    go_wp2
    go_ret
    exact ⟨rfl, bchain HB2.out hb3⟩
end Go.Proofs.YtjbagjhadmbjnaaDoor
namespace Go.Proofs.YtjbagjhadmbjnaaDoor
open Go.RowKit
open Go.Proofs.YtjbagjhadmbjnaaDoor.Nd (N)

set_option maxRecDepth 100000 in
set_option maxHeartbeats 1000000 in
theorem nkids_any (n : N) (w : World) (hn : n.kids.length = 16) (hk : ∀ x ∈ n.kids, x.length ≤ 140737488351232) :
    Calls Tryd.prog 10 #[nval n] w (KidsPost n w) := by
  unfold KidsPost
  obtain ⟨i0, hi, hz0, hz1, hz2⟩ := info_parts Tryd.infoStrN
  obtain ⟨C, hC, HB0, HCE, HI, HI2⟩ := nbox n w hn
  have HKE : Hid (∀ (k : Nat) (hk : k < 16), ∀ w, (Instr.index 22 (.agg (scells n.kids).toArray) (.int .i64 k)).run Tryd.prog w = .ok (.string ⟨(n.kids[k]'(by omega)).toArray⟩) w) := Lib.hid (fun k hk w => idx_strs n.kids hn k hk w)
  have HCL : Hid (∀ (k : Nat) (h : k < 16) w, Calls Tryd.prog 26 #[.string ⟨(n.kids[k]'(by omega)).toArray⟩] w fun e w' => e = .returned (.string ⟨(n.kids[k]'(by omega)).toArray⟩) ∧ Below w.heap.size w w') := Lib.hid (fun k h w => dclone_any _ w (hk _ (List.getElem_mem _)))
  obtain ⟨-, -, -, -, cR, -⟩ := HCE.out _ (Below.refl _ _)
  have HCR := Lib.hid cR
  have HN := Lib.hid hn
  unfold nval
  rw [hC]
  clear hC cR HI HCE hk
  go_enter Tryd.func10, Tryd.ntmps10
  go_wp2_with (refine wpList_load_mid (by rfl) _ _ (by rfl) w.heap.size 3 (by rfl) (scells n.kids) _ HCR.out Tryd.underlying22 (by rfl) HI2.out ?_)
  have HSZ : Hid (w.heap.size < (w.alloc (.cells C 24)).heap.size) := Lib.hid (by simp)
  generalize (w.alloc (.cells C 24)) = w0 at *
  obtain ⟨K, hK⟩ : ∃ K, scells n.kids = K := ⟨_, rfl⟩
  rw [hK] at HKE ⊢
  clear hK HCR HI2
  go_loopw [3, 8] (fun sl i wr => ∃ (k : Nat) (z : Value), z = sl ∧ k ≤ 16 ∧ i = .int .i64 k ∧ Own wr w0.heap.size z (Nd.kidsL (n.kids.take k)) ∧ Below w0.heap.size w0 wr) (fun _ i _ => 16 - (intOf i).toNat)
  case atStart => exact ⟨0, _, rfl, Nat.zero_le _, rfl, Own.nil _ _, Below.refl _ _⟩
  case round =>
    obtain ⟨k, z, rfl, hk, rfl, hown, hb⟩ := hrel
    have HBk := Lib.hid hb
    have HOW := Lib.hid hown
    by_cases hlt : k < 16
    · have h1 : (k : Int) < 16 := by omega
      have h0 : (0 : Int) ≤ (k : Int) := by omega
      have n0 := HKE.out k hlt
      have HCK := Lib.hid (HCL.out k hlt)
      have HST := Lib.hid (Nd.kids_take n.kids k (by omega))
      have hln : (Nd.kidsL (n.kids.take k)).length ≤ 16 := by
        unfold Nd.kidsL
        refine Nat.le_trans (List.length_filter_le _ _) ?_
        rw [List.length_take]
        omega
      obtain ⟨x, hx⟩ : ∃ x, n.kids[k]'(by omega) = x := ⟨_, rfl⟩
      rw [hx] at n0 HST HCK
      obtain ⟨O, hO⟩ : ∃ O, Nd.kidsL (n.kids.take k) = O := ⟨_, rfl⟩
      rw [hO] at HOW HST hln
      have HSZr : Hid (w0.heap.size ≤ wr.heap.size) := Lib.hid hb.size
      have HLN := Lib.hid hln
      clear hx hO hown hln hb
      by_cases he : x = []
      · subst he
        rw [if_pos rfl] at HST
        go_wp2
        exact ⟨⟨k + 1, z, rfl, by omega, by go_num, by rw [HST.out]; exact HOW.out, HBk.out⟩, by simp [intOf]; omega⟩
      · rw [if_neg he] at HST
        have hx1 : (x == []) = false := by rw [beq_eq_false_iff_ne]; exact he
        have hx2 : ¬ (x = []) := he
        go_wp2_with fail
        refine (HCK.out _).mono ?_
        rintro e w4 ⟨rfl, hb4⟩
        have HOW4 := Lib.hid (HOW.out.below hb4)
        have HB4 := Lib.hid (HBk.out.trans (hb4.mono HSZr.out))
        have HS4 : Hid (w0.heap.size ≤ w4.heap.size) := Lib.hid HB4.out.size
        clear hb4 HOW HBk HSZr
        go_wp2_with (at_builtin; refine wpList_append_lies _ rfl _ _ _ rfl w0.heap.size 9 i0 (.string ⟨#[]⟩) 1 16 Tryd.underlying30 hi hz0 hz1 hz2 rfl (by decide) z O.length (scells O) (by rfl) (World.ownsRow.alloc HOW4.out _) ⟨w4.heap.size, 0, none⟩ 1 1 (scells [x]) (by rfl) rfl (World.news_of_block (heap_new_at _ _ _ rfl)) (by simp [scells, Value.oneCell']) (by decide) (by have := HLN.out; unfold maxLen; omega) (by have := HLN.out; omega) (by have := HS4.out; simp; omega) (w4.heap.size + 1) (by simp) ?_; intro g' cap' w5 hown5 hgrow5 hat5 hlt5)
        have hB5 : Below w0.heap.size w0 w5 := HB4.out.trans (((Out.of ((Below.refl _ w4).alloc (Nat.le_refl _) _)).trans (Out.grown hgrow5 (F := fun j => z.ownBlock = some j) (fun j e => e))).below (fun j hj => (HOW4.out.lt j hj).1) HS4.out)
        refine ⟨⟨k + 1, _, rfl, by omega, by go_num, ?_, hB5⟩, by simp [intOf]; omega⟩
        rw [HST.out]
        unfold Own
        rw [scells_append, List.length_append]
        exact hown5
    · have h1 : ¬ ((k : Int) < 16) := by omega
      obtain rfl : k = 16 := by omega
      rw [List.take_of_length_le (by omega)] at HOW
      clear hown hb
      go_wp2
      go_ret
      exact ⟨z, rfl, (own_lowS HOW.out (Nat.le_of_lt HSZ.out)), HB0.out.trans (HBk.out.mono (Nat.le_of_lt HSZ.out))⟩
end Go.Proofs.YtjbagjhadmbjnaaDoor
namespace Go.Proofs.YtjbagjhadmbjnaaDoor
open Go.RowKit

theorem Code.take_snoc_eq {L M : List (List UInt8)} {k : Nat} (h1 : k < L.length) (h2 : k < M.length) : L.take (k + 1) = M.take (k + 1) ↔ L.take k = M.take k ∧ L[k] = M[k] := by
  rw [List.take_succ_eq_append_getElem h1, List.take_succ_eq_append_getElem h2]
  constructor
  · intro h
    have := List.append_inj' h rfl
    exact ⟨this.1, by simpa using this.2⟩
  · rintro ⟨a, b⟩
    rw [a, b]

set_option maxHeartbeats 400000 in
theorem same_any (L M : List (List UInt8)) (u v : Value) (w : World) (hu : Strs w u L) (hv : Strs w v M) (hl : L.length ≤ 100000000) (hm : M.length ≤ maxLen) :
    Calls Tryd.prog 13 #[u, v] w fun x w' => x = .returned (.bool (decide (L = M))) ∧ Below w.heap.size w w' := by
  obtain ⟨A, cap, rfl, hc⟩ := hu
  obtain ⟨B, cap2, rfl, hd⟩ := hv
  unfold maxLen at hm
  by_cases he : L.length = M.length
  · have h0 : ((L.length : Int) == (M.length : Int)) = true := by rw [beq_iff_eq]; omega
    have he' := Lib.hid he
    go_enter Tryd.func13, Tryd.ntmps13
    go_wp2
    go_loopw [5, 6] (fun s i wr => ∃ k : Nat, k ≤ L.length ∧ s = .bool (decide (L.take k = M.take k)) ∧ i = .int .i64 k ∧ Below w.heap.size w wr ∧ (L.take k ≠ M.take k → L ≠ M)) (fun _ i _ => L.length - (intOf i).toNat)
    case atStart => exact ⟨0, Nat.zero_le _, by simp, rfl, Below.refl _ _, by simp⟩
    case round =>
      obtain ⟨k, hk, rfl, rfl, hbel, hno⟩ := hrel
      have HN := Lib.hid hno
      clear hno
      rcases htk : decide (L.take k = M.take k) with _ | _
      · have HT := Lib.hid htk
        clear htk
        go_wp2
        go_ret
        refine ⟨?_, hbel⟩
        have h := HN.out (of_decide_eq_false HT.out)
        rw [decide_eq_false h]
        rfl
      · have HT := Lib.hid htk
        clear htk
        by_cases hlt : k < L.length
        · have h1 : (k : Int) < (L.length : Int) := by omega
          have h2 : (k : Int) < (M.length : Int) := by omega
          obtain ⟨a, rfl, hcell⟩ := hc k hlt
          obtain ⟨b, rfl, hdell⟩ := hd k (by omega)
          have hcell1 := (hbel.cell (World.block_lt_of_cell? _ _ hcell)).trans hcell
          have hdell1 := (hbel.cell (World.block_lt_of_cell? _ _ hdell)).trans hdell
          have hsn := Lib.hid (Code.take_snoc_eq hlt (show k < M.length by omega))
          clear hc hd hcell hdell
          obtain ⟨s, hs⟩ : ∃ s, L[k] = s := ⟨_, rfl⟩
          obtain ⟨t, ht⟩ : ∃ t, M[k] = t := ⟨_, rfl⟩
          rw [hs] at hcell1 hsn
          rw [ht] at hdell1 hsn
          clear hs ht
          go_wp2
          go_quiet (fail)
          go_wp2
          go_roundw
          case rel =>
            refine ⟨k + 1, by omega, ?_, by go_num, bel_drewN hbel _, ?_⟩
            · have e := hsn.out
              have e1 := of_decide_eq_true HT.out
              by_cases hst : s = t
              · rw [decide_eq_true (e.2 ⟨e1, hst⟩)]; simp [hst]
              · rw [decide_eq_false (fun h => hst (e.1 h).2)]; simp [hst]
            · intro h hLM
              subst hLM
              exact h rfl
          case measure => simp [intOf]; omega
        · go_wp2
          go_ret
          refine ⟨?_, hbel⟩
          have e := of_decide_eq_true HT.out
          have he2 := he'.out
          rw [List.take_of_length_le (by omega), List.take_of_length_le (by omega)] at e
          rw [decide_eq_true e]
          rfl
  · have h0 : ((L.length : Int) == (M.length : Int)) = false := by rw [beq_eq_false_iff_ne]; omega
    have hne : decide (L = M) = false := decide_eq_false (fun h => he (by rw [h]))
    rw [hne]
    clear he hc hd hne
    go_enter Tryd.func13, Tryd.ntmps13
    go_wp2
    go_loop [5, 6] (fun s i => s = .bool false ∧ i = .int .i64 0) (fun _ _ => 0)
    case atStart => exact ⟨rfl, rfl⟩
    case round =>
      obtain ⟨rfl, rfl⟩ := hrel
      go_wp2
      go_ret
      exact ⟨rfl, Below.refl _ _⟩

end Go.Proofs.YtjbagjhadmbjnaaDoor
namespace Go.Proofs.YtjbagjhadmbjnaaDoor.Pw

abbrev S := List UInt8
structure M where
  name : S
  power : Int
instance : Inhabited M := ⟨⟨[], 0⟩⟩
theorem M.ext' {a b : M} (h : a.name = b.name) (k : a.power = b.power) : a = b := by cases a; cases b; simp_all
instance : DecidableEq M := fun a b =>
  if h : a.name = b.name ∧ a.power = b.power then isTrue (M.ext' h.1 h.2) else isFalse (fun e => h (by subst e; exact ⟨rfl, rfl⟩))

def okM (p : S) (m : M) : Bool := decide (p < m.name) && decide (m.name.length ≤ 6) && decide (1 ≤ m.power) && decide (m.power ≤ 1000)
def okFrom : S → List M → Bool
  | _, [] => true
  | p, m :: t => okM p m && okFrom m.name t
def okL (L : List M) : Bool := decide (1 ≤ L.length) && decide (L.length ≤ 7) && okFrom [] L
def sumP (L : List M) : Int := L.foldr (fun m n => m.power + n) 0
def pick (L : List M) (names : List S) : List M := L.filter fun m => decide (m.name ∈ names)
def ofL (L : List M) (names : List S) : Nat := if okL L then (sumP (pick L names)).toNat else 0
theorem snocInd {α : Type} {p : List α → Prop} (h0 : p []) (h1 : ∀ l d, p l → p (l ++ [d])) (l : List α) : p l := by
  have h : ∀ r : List α, p r.reverse := by
    intro r
    induction r with
    | nil => exact h0
    | cons d r ih => rw [List.reverse_cons]; exact h1 _ _ ih
  have := h l.reverse
  rwa [List.reverse_reverse] at this
end Go.Proofs.YtjbagjhadmbjnaaDoor.Pw
namespace Go.Proofs.YtjbagjhadmbjnaaDoor
open Go.RowKit Go.ChangeShapes Go.WideShapes
open Go.Proofs.YtjbagjhadmbjnaaDoor.Pw (M)

/-- A slice that has these members. -/
def Mems (w : World) (v : Value) (L : List M) : Prop :=
  ∃ (A : Option Addr) (cap : Nat), v = .slice A L.length cap ∧ (0 < L.length → ∃ b o, A = some ⟨b, o, none⟩ ∧ b < w.heap.size ∧ ∀ i (h : i < L.length),
    w.cell? ⟨b, o + i * 2, none⟩ = some (.string ⟨L[i].name.toArray⟩) ∧ w.cell? ⟨b, o + i * 2 + 1, none⟩ = some (.int .i64 L[i].power))
theorem Mems.nil (w : World) : Mems w (.slice none 0 0) [] := ⟨none, 0, rfl, fun h => absurd h (by simp)⟩
theorem Mems.below {w w' : World} {v : Value} {L : List M} (h : Mems w v L) (hb : Below w.heap.size w w') : Mems w' v L := by
  obtain ⟨A, cap, rfl, hc⟩ := h
  refine ⟨A, cap, rfl, fun h0 => ?_⟩
  obtain ⟨b, o, rfl, hlt, hcell⟩ := hc h0
  refine ⟨b, o, rfl, Nat.lt_of_lt_of_le hlt hb.size, fun i hi => ?_⟩
  obtain ⟨h1, h2⟩ := hcell i hi
  exact ⟨(hb.cell hlt).trans h1, (hb.cell hlt).trans h2⟩
theorem Mems.drew {w : World} {v : Value} {L : List M} (h : Mems w v L) : Mems w.drew v L := h.below (Below.refl _ w).drew
/-- One member's cells. -/
theorem Mems.at {w w' : World} {A : Option Addr} {n cap : Nat} {L : List M} (h : Mems w (.slice A n cap) L) (hb : Below w.heap.size w w') (k : Nat) (hk : k < L.length) :
    ∃ b o, A = some ⟨b, o, none⟩ ∧ w'.cell? ⟨b, o + k * 2, none⟩ = some (.string ⟨L[k].name.toArray⟩) ∧ w'.cell? ⟨b, o + k * 2 + 1, none⟩ = some (.int .i64 L[k].power) := by
  obtain ⟨A', cap', hv, hc⟩ := h.below hb
  obtain ⟨rfl, rfl, rfl⟩ : A = A' ∧ n = L.length ∧ cap = cap' := by simpa using hv
  obtain ⟨b, o, rfl, _, hcell⟩ := hc (by omega)
  exact ⟨b, o, rfl, hcell k hk⟩
theorem Mems.form {w : World} {v : Value} {L : List M} (h : Mems w v L) : ∃ A cap, v = .slice A L.length cap := by
  obtain ⟨A, cap, rfl, _⟩ := h
  exact ⟨A, cap, rfl⟩
end Go.Proofs.YtjbagjhadmbjnaaDoor
namespace Go.Proofs.YtjbagjhadmbjnaaDoor
open Go.RowKit
open Go.Proofs.YtjbagjhadmbjnaaDoor.Pw (M)

end Go.Proofs.YtjbagjhadmbjnaaDoor
