/- ShaTold, ShaRef, ShaRefBlock, ShaRefSum, DigTag -/
import Derived.Test.YtddjkiejekfekaaDoorPk04
import Derived.Test.YtddjkiejekfekaaDoorPk03
import Derived.Deep.OwnRows
import Derived.Test.YtddjkiejekfekaaDoorPk05
namespace Go.Proofs.YtddjkiejekfekaaDoor
open Go.RowKit
attribute [local go_sem ↓] Go.wp_at_zero Go.wp_at_succ

namespace Sha
def tell4 (x : Int) : List UInt8 := [byteOf (x / 16777216), byteOf (x / 65536), byteOf (x / 256), byteOf x]
def tell (L : List Int) : Nat → List UInt8
  | 0 => []
  | k + 1 => tell L k ++ tell4 (L.getD k 0)
theorem tell_length (L : List Int) (k : Nat) : (tell L k).length = 4 * k := by
  induction k with
  | zero => rfl
  | succ k ih => simp [tell, ih, tell4]; omega
theorem set4 (A B : List UInt8) (x : Int) (n : Nat) (hA : A.length = n) : ((((A ++ 0 :: 0 :: 0 :: 0 :: B).set n (byteOf (x / 16777216))).set (n + 1) (byteOf (x / 65536))).set (n + 2) (byteOf (x / 256))).set (n + 3) (byteOf x) = (A ++ tell4 x) ++ B := by
  subst hA
  simp [tell4]
theorem joinFill_tell (L : List Int) (k : Nat) (hk : k ≤ 8) : joinFill L k = tell L k ++ List.replicate (32 - 4 * k) 0 := by
  induction k with
  | zero => rfl
  | succ k ih =>
    rw [joinFill, ih (by omega), show 32 - 4 * k = (32 - 4 * (k + 1)) + 1 + 1 + 1 + 1 by omega]
    simp only [List.replicate_succ]
    rw [set4 _ _ _ _ (tell_length L k)]
    rfl
theorem tell_is (s : St) : tell s.list 8 = joinP s := by
  rw [joinP, joinFill_tell _ 8 (by omega)]
  simp
end Sha
theorem conv_four2 (w : World) (x0 x1 x2 x3 : Int) : (convert 46 9 (.slice (some ⟨w.heap.size, 0, none⟩) 4 4)).run Tryd.prog (w.alloc (.cells #[.int .u8 (x0 % 256), .int .u8 (x1 % 256), .int .u8 (x2 % 256), .int .u8 (x3 % 256)] 5)).drew = .ok (.string ⟨[Sha.byteOf x0, Sha.byteOf x1, Sha.byteOf x2, Sha.byteOf x3].toArray⟩) (w.alloc (.cells #[.int .u8 (x0 % 256), .int .u8 (x1 % 256), .int .u8 (x2 % 256), .int .u8 (x3 % 256)] 5)).drew := by
  have hg : (w.alloc (.cells #[.int .u8 (x0 % 256), .int .u8 (x1 % 256), .int .u8 (x2 % 256), .int .u8 (x3 % 256)] 5)).drew.heap[w.heap.size]? = _ := heap_alloc_new w (.cells #[.int .u8 (x0 % 256), .int .u8 (x1 % 256), .int .u8 (x2 % 256), .int .u8 (x3 % 256)] 5)
  refine run_convert_bytes_back (P := Tryd.prog) _ 46 9 5 ⟨w.heap.size, 0, none⟩ 4 [Sha.byteOf x0, Sha.byteOf x1, Sha.byteOf x2, Sha.byteOf x3] Tryd.underlying46 Tryd.underlying5 Tryd.underlying9 ?_
  intro j hj
  rw [Addr.add_mid, Nat.zero_add, cell_of_row _ _ j _ _ _ hg]
  match j, hj with
  | 0, _ => simp [Sha.byteOf_toNat]
  | 1, _ => simp [Sha.byteOf_toNat]
  | 2, _ => simp [Sha.byteOf_toNat]
  | 3, _ => simp [Sha.byteOf_toNat]

set_option maxRecDepth 8000 in
set_option maxHeartbeats 1000000 in
theorem rtold_any (s : Sha.St) (w : World) :
    Calls Tryd.prog 77 #[.agg (u32s s.list)] w fun e w' => e = .returned (.string ⟨(Sha.joinP s).toArray⟩) ∧ Below w.heap.size w w' := by
  obtain ⟨L, hL⟩ : ∃ L, s.list = L := ⟨_, rfl⟩
  have hLl : L.length = 8 := by rw [← hL]; rfl
  have hj : Sha.tell L 8 = Sha.joinP s := by rw [← hL]; exact Sha.tell_is s
  rw [hL]
  have HJ := Lib.hid hj
  have HLL := Lib.hid hLl
  obtain ⟨A, hA⟩ : ∃ A, u32s L = A := ⟨_, rfl⟩
  have HA := Lib.hid hA
  rw [hA]
  clear hA hj hLl hL
  go_enter Tryd.func77, Tryd.ntmps77
  go_wp2
  go_loopw [3, 4] (fun t i wr => ∃ k : Nat, k ≤ 8 ∧ i = .int .i64 k ∧ t = .string ⟨(Sha.tell L k).toArray⟩ ∧ Below w.heap.size w wr ∧ wr.heap[w.heap.size]? = some (.cells A 85 (0, 0))) (fun _ i _ => 8 - (intOf i).toNat)
  case atStart => exact ⟨0, by omega, rfl, rfl, (Below.refl _ w).alloc (Nat.le_refl _) _, heap_new_at _ _ _ rfl⟩
  case round =>
    obtain ⟨k, hk, rfl, rfl, hb, hg⟩ := hrel
    have HB := Lib.hid hb
    have HG := Lib.hid hg
    by_cases hlt : k < 8
    · have c0 : wr.cell? ⟨w.heap.size, k, none⟩ = some (.int .u32 (L.getD k 0)) := by
        rw [cell_of_row wr _ k _ _ _ hg, ← HA.out]; exact u32s_at L k (by rw [HLL.out]; exact hlt)
      have hn : Sha.tell L (k + 1) = Sha.tell L k ++ Sha.tell4 (L.getD k 0) := rfl
      have hXl := Sha.tell_length L k
      obtain ⟨x, hx⟩ : ∃ x, L.getD k 0 = x := ⟨_, rfl⟩
      obtain ⟨X, hX⟩ : ∃ X, Sha.tell L k = X := ⟨_, rfl⟩
      obtain ⟨Y, hY⟩ : ∃ Y, Sha.tell L (k + 1) = Y := ⟨_, rfl⟩
      rw [hx] at c0 hn
      rw [hX] at hXl hn ⊢
      rw [hY] at hn
      have hcm := cat_mk X (Sha.tell4 x)
      rw [← hn] at hcm
      unfold Sha.tell4 at hcm
      have kc := fun w => conv_four2 w (x / 16777216) (x / 65536) (x / 256) x
      have hxl : X.length ≤ 32 := by omega
      have hx4 : ¬ (9223372036854775807 < X.length + 4) := by omega
      have HY := Lib.hid hY
      have hlw := lt_of_heap hg
      have hk8 : (k : Int) < 8 := by omega
      have hk0 : (0 : Int) ≤ (k : Int) := by omega
      clear hb hg hx hX hY hn hXl
      go_wp2
      go_region
      go_wp2
      go_roundw
      case rel => exact ⟨k + 1, by omega, by go_num, by rw [HY.out], (HB.out.alloc HB.out.size _).drew, heap_old_at _ HG.out⟩
      case measure => simp [intOf]; omega
    · obtain rfl : k = 8 := by omega
      have hno : ¬ ((8 : Nat) : Int) < 8 := by omega
      clear hlt hk hb hg
      go_wp2
      go_ret
      exact ⟨by rw [HJ.out]; rfl, HB.out⟩
end Go.Proofs.YtddjkiejekfekaaDoor
namespace Go.Proofs.YtddjkiejekfekaaDoor
open Go.RowKit

set_option maxHeartbeats 400000 in
theorem turned_any (x n : Int) (w : World) (h0 : 1 ≤ n) (h1 : n ≤ 31) :
    Calls Tryd.prog 81 #[.int .u32 x, .int .i64 n] w fun e w' => e = .returned (.int .u32 (Sha.rotI x n)) ∧ w' = w := by
  have hA : 0 ≤ 32 - n := by omega
  have hB : 32 - n ≤ 32 := by omega
  go_enter Tryd.func81, Tryd.ntmps81
  go_wp2
  go_ret
  refine ⟨?_, rfl⟩
  simp only [Sha.rotI]
  rw [Sha.bits_or_comm]
  rfl
set_option maxRecDepth 8000 in
set_option maxHeartbeats 1000000 in
theorem rfirst_any (w : World) :
    Calls Tryd.prog 75 #[] w fun e w' => e = .returned (.agg (u32s Sha.first.list)) ∧ Below w.heap.size w w' := by
  go_enter Tryd.func75, Tryd.ntmps75
  go_wp2
  refine bodyPost_ret (v := .agg (u32s Sha.first.list)) (results_cell_row rfl _ _ w.heap.size _ _ (0, 0) _ rfl (heap_new_at _ _ _ rfl) Tryd.underlying85 rfl (by kernel_rfl)) rfl ⟨rfl, (Below.refl _ w).alloc (Nat.le_refl _) _⟩
def constParts : List (Nat × Value) := Sha.kTab.zipIdx.map fun x => (x.2, .int .u32 x.1)
theorem built_consts : Tryd.prog.built 102 constParts = some (u32s Sha.kTab) := by kernel_rfl
theorem info64w : (Tryd.prog.info? 102).map (·.size) = some 64 := by kernel_rfl

set_option maxRecDepth 8000 in
set_option maxHeartbeats 1000000 in
theorem const_any (i : Nat) (w : World) (hi : i < 64) :
    Calls Tryd.prog 82 #[.int .i64 i] w fun e w' => e = .returned (.int .u32 (Sha.kTab.getD i 0)) ∧ Below w.heap.size w w' := by
  have h64 : (i : Int) < 64 := by omega
  have hat := u32s_at Sha.kTab i hi
  obtain ⟨K, hK⟩ : ∃ K, u32s Sha.kTab = K := ⟨_, rfl⟩
  rw [hK] at hat
  obtain ⟨x, hx⟩ : ∃ x, Sha.kTab.getD i 0 = x := ⟨_, rfl⟩
  rw [hx] at hat ⊢
  have hbu := built_consts
  rw [hK] at hbu
  have HBU := Lib.hid hbu
  have HI : Hid ((Tryd.prog.info? 102).map (·.size) = some K.size) := Lib.hid (by rw [← hK]; exact info64w)
  have HS : Hid (K.size = 64) := Lib.hid (by rw [← hK]; rfl)
  have H1 : Hid (K.all (·.oneCell') = true) := Lib.hid (by rw [← hK]; exact u32s_one _)
  clear hK hx hbu
  go_enter Tryd.func82, Tryd.ntmps82
  go_wp2_with (first | (refine wpList_build_to (by rfl) _ _ (by rfl) constParts (by first | kernel_rfl | rfl) K HBU.out ?_) | (refine wpList_store_new (by rfl) _ _ _ (by rfl) w.heap.size rfl K (by rfl) (by rfl) _ _ HI.out (by rw [HS.out]; rfl) H1.out ?_))
  go_ret
  exact ⟨rfl, (Below.refl _ w).alloc (Nat.le_refl _) _⟩
end Go.Proofs.YtddjkiejekfekaaDoor
namespace Go.Proofs.YtddjkiejekfekaaDoor
open Go.RowKit
attribute [local go_sem ↓] Go.wp_at_zero Go.wp_at_succ

theorem info8w : (Tryd.prog.info? 85).map (·.size) = some 8 := by kernel_rfl
/-- A fact that nothing unfolds. -/
structure Boxed (p : Prop) : Prop where
  out : p

set_option maxRecDepth 8000 in
set_option maxHeartbeats 4000000 in
theorem rblock_any (s : Sha.St) (b : List UInt8) (w : World) (hb : b.length = 64) :
    Calls Tryd.prog 76 #[.agg (u32s s.list), .agg (u8s b)] w fun e w' => e = .returned (.agg (u32s (Sha.blockR s b).list)) ∧ Below w.heap.size w w' := by
  obtain ⟨s0, hs0⟩ : ∃ s0, s = s0 := ⟨_, rfl⟩
  obtain ⟨a, b1, c, d, e, f, g, h⟩ := s
  obtain ⟨bs, hbs⟩ : ∃ bs, u8s b = bs := ⟨_, rfl⟩
  rw [hbs]
  have HS := Boxed.mk hs0
  have HBS := Boxed.mk hbs
  have HLB := Boxed.mk hb
  simp only [Sha.St.list, u32s, List.map_cons, List.map_nil]
  clear hbs hs0 hb
  go_enter Tryd.func76, Tryd.ntmps76
  go_wp2
  go_loopw [6] (fun i wr => ∃ k : Nat, k ≤ 64 ∧ i = .int .i64 k ∧ Below w.heap.size w wr ∧ wr.heap[w.heap.size]? = some (.cells (u32s [a, b1, c, d, e, f, g, h]) 85 (0, 0)) ∧ wr.heap[w.heap.size + 1]? = some (.cells bs 87 (0, 0)) ∧ wr.heap[w.heap.size + 1 + 1]? = some (.cells (u32s (List.replicate 8 0)) 85 (0, 0)) ∧ wr.heap[w.heap.size + 1 + 1 + 1]? = some (.cells (u32s (Sha.fillR b k)) 98 (0, 0))) (fun i _ => 64 - (intOf i).toNat)
  case atStart =>
    refine ⟨0, by omega, rfl, ?_, ?_, ?_, ?_, ?_⟩
    · exact ((((Below.refl _ w).alloc (Nat.le_refl _) _).alloc (by simp) _).alloc (by simp; omega) _).alloc (by simp; omega) _
    · exact heap_old_at _ (heap_old_at _ (heap_old_at _ (heap_new_at _ _ _ (by simp))))
    · exact heap_old_at _ (heap_old_at _ (heap_new_at _ _ _ (by simp)))
    · exact heap_old_at _ (heap_new_at _ _ _ (by simp))
    · exact heap_new_at _ _ _ (by simp)
  case round =>
    obtain ⟨k, hk, rfl, hbe, hg0, hg1, hg2, hg3⟩ := hrel
    obtain ⟨F, hF⟩ : ∃ F, Sha.fillR b k = F := ⟨_, rfl⟩
    have hFl : F.length = 16 := by rw [← hF, Sha.fillR_length]
    rw [hF] at hg3
    have HF := Boxed.mk hF
    have HBE := Boxed.mk hbe
    have HG0 := Boxed.mk hg0
    have HG1 := Boxed.mk hg1
    have HG2 := Boxed.mk hg2
    have HG3 := Boxed.mk hg3
    by_cases hlt : k < 64
    · obtain ⟨q, hq⟩ : ∃ q, k / 4 = q := ⟨_, rfl⟩
      have hq16 : q < 16 := by omega
      have cb : wr.cell? ⟨w.heap.size + 1, k, none⟩ = some (.int .u8 ((b.getD k 0).toNat : Int)) := by
        rw [cell_of_row wr _ k bs _ _ hg1, ← HBS.out]; exact u8s_at b k (by rw [HLB.out]; exact hlt)
      have cw : wr.cell? ⟨w.heap.size + 1 + 1 + 1, q, none⟩ = some (.int .u32 (F.getD q 0)) := (cell_of_row wr _ q _ _ _ hg3).trans (u32s_at F q (by omega))
      have fw := frozen_of_row wr _ q _ _ hg3
      have hn : Sha.fillR b (k + 1) = F.set q ((F.getD q 0 * 256 + ((b.getD k 0).toNat : Int)) % 4294967296) := by rw [← hF, ← hq]; rfl
      obtain ⟨x, hx⟩ : ∃ x, b.getD k 0 = x := ⟨_, rfl⟩
      obtain ⟨y, hy⟩ : ∃ y, F.getD q 0 = y := ⟨_, rfl⟩
      rw [hx] at cb hn
      rw [hy] at cw hn
      have HN := Boxed.mk hn
      have hxb := byte_lt x
      have hqt : (k : Int).tdiv 4 = (q : Int) := by rw [Int.tdiv_eq_ediv_of_nonneg (by omega)]; omega
      have hqd : (k : Int) / 4 = (q : Int) := by omega
      have hqI : (q : Int) < 16 := by omega
      have hq0 : (0 : Int) ≤ (q : Int) := by omega
      have hkI : (k : Int) < 64 := by omega
      have hk0 : (0 : Int) ≤ (k : Int) := by omega
      have wq := wrap_small (q : Int) (by omega) (by omega)
      clear hbe hg0 hg1 hg2 hg3 hF hFl hq hn hx hy
      go_wp2
      go_region
      go_wp2
      go_roundw
      case rel =>
        refine ⟨k + 1, by omega, by go_num, (HBE.out.setCell (by dsimp only; omega) _).drew, ?_, ?_, ?_, ?_⟩
        · exact (Below.heap_setCell _ _ _ _ (by dsimp only; omega)).trans HG0.out
        · exact (Below.heap_setCell _ _ _ _ (by dsimp only; omega)).trans HG1.out
        · exact (Below.heap_setCell _ _ _ _ (by dsimp only; omega)).trans HG2.out
        · rw [HN.out, ← u32s_set, show (y * 256 + (x.toNat : Int)) % 4294967296 = y * 256 % 4294967296 + (x.toNat : Int) by omega]
          exact heap_setCell_same _ _ _ _ _ _ HG3.out
      case measure => simp [intOf]; omega
    · obtain rfl : k = 64 := by omega
      have hno : ¬ ((64 : Nat) : Int) < 64 := by omega
      have hc : ∀ j, wr.cell? ⟨w.heap.size, j, none⟩ = (u32s [a, b1, c, d, e, f, g, h])[j]? := fun j => cell_of_row wr _ j _ _ _ hg0
      have k0 := hc 0
      have k1 := hc 1
      have k2 := hc 2
      have k3 := hc 3
      have k4 := hc 4
      have k5 := hc 5
      have k6 := hc 6
      have k7 := hc 7
      simp only [u32s, List.map_cons, List.map_nil, List.getElem?_toArray, List.getElem?_cons_zero, List.getElem?_cons_succ] at k0 k1 k2 k3 k4 k5 k6 k7
      clear hlt hk hbe hg0 hg1 hg2 hg3 hF hc
      obtain ⟨V, hV⟩ : ∃ V, F = V := ⟨_, rfl⟩
      subst hV
      obtain ⟨V, hV⟩ : ∃ V, V = F := ⟨_, rfl⟩
      subst hV
      go_wp2
      go_quiet (fail)
      go_wp2
      go_quiet (fail)
      go_wp2
      clear k0 k1 k2 k3 k4 k5 k6 k7
      go_loopw [7, 8, 9, 10, 11, 12, 13, 14, 15] (fun xa xb xc xd xe xf xg xh i wr => ∃ k : Nat, k ≤ 64 ∧ i = .int .i64 k ∧ xa = .int .u32 (Sha.roundsR s0 V k).a ∧ xb = .int .u32 (Sha.roundsR s0 V k).b ∧ xc = .int .u32 (Sha.roundsR s0 V k).c ∧ xd = .int .u32 (Sha.roundsR s0 V k).d ∧ xe = .int .u32 (Sha.roundsR s0 V k).e ∧ xf = .int .u32 (Sha.roundsR s0 V k).f ∧ xg = .int .u32 (Sha.roundsR s0 V k).g ∧ xh = .int .u32 (Sha.roundsR s0 V k).h ∧ Below w.heap.size w wr ∧ wr.heap[w.heap.size]? = some (.cells (u32s [a, b1, c, d, e, f, g, h]) 85 (0, 0)) ∧ wr.heap[w.heap.size + 1 + 1]? = some (.cells (u32s (List.replicate 8 0)) 85 (0, 0)) ∧ wr.heap[w.heap.size + 1 + 1 + 1]? = some (.cells (u32s (Sha.win V k)) 98 (0, 0))) (fun _ _ _ _ _ _ _ _ i _ => 64 - (intOf i).toNat)
      case atStart =>
        refine ⟨0, by omega, rfl, by rw [← HS.out]; rfl, by rw [← HS.out]; rfl, by rw [← HS.out]; rfl, by rw [← HS.out]; rfl, by rw [← HS.out]; rfl, by rw [← HS.out]; rfl, by rw [← HS.out]; rfl, by rw [← HS.out]; rfl, bel_drewN (bel_drewN HBE.out _) _, HG0.out, HG2.out, HG3.out⟩
      case round =>
        clear HBE HG0 HG1 HG2 HG3
        obtain ⟨k, hk, rfl, rfl, rfl, rfl, rfl, rfl, rfl, rfl, rfl, hbe, hg0, hg2, hg3⟩ := hrel
        by_cases hlt : k < 64
        · obtain ⟨U, hU⟩ : ∃ U, Sha.win V k = U := ⟨_, rfl⟩
          obtain ⟨U', hU'⟩ : ∃ U', Sha.win V (k + 1) = U' := ⟨_, rfl⟩
          have hUl : U.length = 16 := by rw [← hU, Sha.win_length, hFl]
          have hUl' : U'.length = 16 := by rw [← hU', Sha.win_length, hFl]
          have hnext : U' = Sha.winNext U k := by rw [← hU', ← hU]; rfl
          obtain ⟨T, hT⟩ : ∃ T, Sha.roundsR s0 V k = T := ⟨_, rfl⟩
          obtain ⟨r0, hr0⟩ : ∃ r, k % 16 = r := ⟨_, rfl⟩
          have hr16 : r0 < 16 := by omega
          have hstep : Sha.roundsR s0 V (k + 1) = Sha.step T (Sha.kTab.getD k 0) (U'.getD r0 0) := by rw [← hT, ← hU', ← hr0]; rfl
          obtain ⟨ww, hww⟩ : ∃ x, U'.getD r0 0 = x := ⟨_, rfl⟩
          rw [hww] at hstep
          have hkc := fun W => const_any k W hlt
          obtain ⟨kk, hkk⟩ : ∃ x, Sha.kTab.getD k 0 = x := ⟨_, rfl⟩
          rw [hkk] at hstep hkc
          have HKC := Boxed.mk hkc
          clear hkk hkc
          rw [hU] at hg3
          have HST := Boxed.mk hstep
          have HU := Boxed.mk hU'
          have HUL := Boxed.mk hUl'
          have HWW := Boxed.mk hww
          have hm0 : (k : Int).tmod 16 = (r0 : Int) := by rw [Int.tmod_eq_emod_of_nonneg (by omega)]; omega
          have hm0' : (k : Int) % 16 = (r0 : Int) := by omega
          have hrI : (r0 : Int) < 16 := by omega
          have hrp : (0 : Int) ≤ (r0 : Int) := by omega
          have hkI : (k : Int) < 64 := by omega
          rw [hT]
          obtain ⟨ra, rb, rc, rd, re, rf, rg, rh⟩ := T
          clear hU hU' hUl' hstep hww hT
          dsimp only
          by_cases h16 : 16 ≤ k
          · have h16n : (k : Int) ≥ 16 := by omega
            have hUU : U' = U.set r0 ((U.getD r0 0 + Sha.sP (U.getD ((k + 1) % 16) 0) + U.getD ((k + 9) % 16) 0 + Sha.tP (U.getD ((k + 14) % 16) 0)) % 4294967296) := by rw [hnext, Sha.winNext, if_pos h16, hr0]
            have hcw : ∀ j, j < 16 → wr.cell? ⟨w.heap.size + 1 + 1 + 1, j, none⟩ = some (.int .u32 (U.getD j 0)) := fun j hj => (cell_of_row wr _ j _ _ _ hg3).trans (u32s_at U j (by omega))
            obtain ⟨r1, hr1⟩ : ∃ r, (k + 1) % 16 = r := ⟨_, rfl⟩
            have hr1b : r1 < 16 := by omega
            rw [hr1] at hUU
            have hm1 : ((k : Int) + 1).tmod 16 = (r1 : Int) := by rw [Int.tmod_eq_emod_of_nonneg (by omega)]; omega
            have hm1' : ((k : Int) + 1) % 16 = (r1 : Int) := by omega
            have hr1I : (r1 : Int) < 16 := by omega
            have c1 := hcw r1 hr1b
            obtain ⟨v1, hu1⟩ : ∃ x, U.getD r1 0 = x := ⟨_, rfl⟩
            rw [hu1] at c1 hUU
            clear hr1 hu1
            obtain ⟨r9, hr9⟩ : ∃ r, (k + 9) % 16 = r := ⟨_, rfl⟩
            have hr9b : r9 < 16 := by omega
            rw [hr9] at hUU
            have hm9 : ((k : Int) + 9).tmod 16 = (r9 : Int) := by rw [Int.tmod_eq_emod_of_nonneg (by omega)]; omega
            have hm9' : ((k : Int) + 9) % 16 = (r9 : Int) := by omega
            have hr9I : (r9 : Int) < 16 := by omega
            have c9 := hcw r9 hr9b
            obtain ⟨v9, hu9⟩ : ∃ x, U.getD r9 0 = x := ⟨_, rfl⟩
            rw [hu9] at c9 hUU
            clear hr9 hu9
            obtain ⟨r14, hr14⟩ : ∃ r, (k + 14) % 16 = r := ⟨_, rfl⟩
            have hr14b : r14 < 16 := by omega
            rw [hr14] at hUU
            have hm14 : ((k : Int) + 14).tmod 16 = (r14 : Int) := by rw [Int.tmod_eq_emod_of_nonneg (by omega)]; omega
            have hm14' : ((k : Int) + 14) % 16 = (r14 : Int) := by omega
            have hr14I : (r14 : Int) < 16 := by omega
            have c14 := hcw r14 hr14b
            obtain ⟨v14, hu14⟩ : ∃ x, U.getD r14 0 = x := ⟨_, rfl⟩
            rw [hu14] at c14 hUU
            clear hr14 hu14
            have c0 := hcw r0 hr16
            have f0 := frozen_of_row wr _ r0 _ _ hg3
            obtain ⟨v0, hu0⟩ : ∃ x, U.getD r0 0 = x := ⟨_, rfl⟩
            rw [hu0] at c0 hUU
            have HUU := Boxed.mk hUU
            have HBE := Boxed.mk hbe
            have HG0 := Boxed.mk hg0
            have HG2 := Boxed.mk hg2
            have HG3 := Boxed.mk hg3
            clear hu0 hcw hUU hbe hg0 hg2 hg3 hnext hUl hr0
            go_wp2_with fail
            refine (turned_any v1 7 _ (by omega) (by omega)).mono ?_
            rintro _ _ ⟨rfl, rfl⟩
            go_wp2_with fail
            refine (turned_any v1 18 _ (by omega) (by omega)).mono ?_
            rintro _ _ ⟨rfl, rfl⟩
            go_wp2_with fail
            refine (turned_any v14 17 _ (by omega) (by omega)).mono ?_
            rintro _ _ ⟨rfl, rfl⟩
            go_wp2_with fail
            refine (turned_any v14 19 _ (by omega) (by omega)).mono ?_
            rintro _ _ ⟨rfl, rfl⟩
            go_wp2
            go_region
            go_wp2
            generalize hw5 : World.drew (World.setCell _ _ _) = w5
            have H53 : Boxed (w5.heap[w.heap.size + 1 + 1 + 1]? = some (.cells (u32s U') 98 (0, 0))) := Boxed.mk (by
              rw [← hw5, HUU.out, ← u32s_set]
              refine (heap_setCell_same _ _ _ _ _ _ HG3.out).trans ?_
              first | rfl | (simp only [Int.emod_add_emod]; rfl))
            have H50 : Boxed (w5.heap[w.heap.size]? = some (.cells (u32s [a, b1, c, d, e, f, g, h]) 85 (0, 0))) := Boxed.mk (by rw [← hw5]; exact (Below.heap_setCell _ _ _ _ (by dsimp only; omega)).trans HG0.out)
            have H52 : Boxed (w5.heap[w.heap.size + 1 + 1]? = some (.cells (u32s (List.replicate 8 0)) 85 (0, 0))) := Boxed.mk (by rw [← hw5]; exact (Below.heap_setCell _ _ _ _ (by dsimp only; omega)).trans HG2.out)
            have HB5 : Boxed (Below w.heap.size w w5) := Boxed.mk (by rw [← hw5]; exact (HBE.out.setCell (by dsimp only; omega) _).drew)
            clear hw5 c0 c1 c9 c14 f0 hm1 hm1' hm9 hm9' hm14 hm14'
            have hlt5 := lt_of_heap H53.out
            have hSS : ∀ w', Below w5.heap.size w5 w' → w'.cell? ⟨w.heap.size + 1 + 1 + 1, r0, none⟩ = some (.int .u32 ww) ∧ Below w5.heap.size w5 w' := fun w' hw => ⟨(cell_of_row w' _ r0 _ _ _ ((hw.block _ hlt5).trans H53.out)).trans (by rw [← HWW.out]; exact u32s_at U' r0 (by rw [HUL.out]; omega)), hw⟩
            have HSS := Boxed.mk hSS
            have HDR : Boxed (Below w5.heap.size w5 w5.drew) := Boxed.mk (Below.refl _ w5).drew
            clear hSS hlt5
            try go_wp2
            go_region_held3 (fun w' => w'.cell? ⟨w.heap.size + 1 + 1 + 1, r0, none⟩ = some (.int .u32 ww) ∧ Below w5.heap.size w5 w')
              ((refine HSS.out _ ?_; with_reducible (first | exact HDR.out | exact hB9 | fail)))
              (first | (go_at_call 81; refine (turned_any _ _ _ (by omega) (by omega)).mono ?_; rintro e' w' ⟨rfl, rfl⟩) | (go_at_call 82; refine (HKC.out _).mono ?_; rintro e' w9 ⟨rfl, hb9⟩; (have hB9 : Below w5.heap.size w5 w9 := Below.trans HDR.out hb9)))
            have HB9 := Boxed.mk hB9
            clear hB9 hb9
            go_wp2_with fail
            refine (turned_any ra 2 _ (by omega) (by omega)).mono ?_
            rintro _ _ ⟨rfl, rfl⟩
            go_wp2_with fail
            refine (turned_any ra 13 _ (by omega) (by omega)).mono ?_
            rintro _ _ ⟨rfl, rfl⟩
            go_wp2_with fail
            refine (turned_any ra 22 _ (by omega) (by omega)).mono ?_
            rintro _ _ ⟨rfl, rfl⟩
            go_wp2
            go_roundw
            case rel =>
              have hb9 := HB9.out
              have l0 := lt_of_heap H50.out
              have l2 := lt_of_heap H52.out
              have l3 := lt_of_heap H53.out
              refine ⟨k + 1, by omega, by go_num, ?_, ?_, ?_, ?_, ?_, ?_, ?_, ?_, HB5.out.trans (hb9.mono HB5.out.size), (hb9.block _ l0).trans H50.out, (hb9.block _ l2).trans H52.out, by rw [HU.out]; exact (hb9.block _ l3).trans H53.out⟩ <;> rw [HST.out] <;> simp only [Sha.step, Sha.uP, Sha.vP, Int.emod_add_emod] <;> rfl
            case measure => simp [intOf]; omega
          · have h16n : ¬ ((k : Int) ≥ 16) := by omega
            have hUU : U' = U := by rw [hnext, Sha.winNext, if_neg h16]
            rw [← hUU] at hg3
            obtain ⟨w5, hw5⟩ : ∃ w5, wr = w5 := ⟨_, rfl⟩
            have H53 : Boxed (w5.heap[w.heap.size + 1 + 1 + 1]? = some (.cells (u32s U') 98 (0, 0))) := Boxed.mk (by rw [← hw5]; exact hg3)
            have H50 : Boxed (w5.heap[w.heap.size]? = some (.cells (u32s [a, b1, c, d, e, f, g, h]) 85 (0, 0))) := Boxed.mk (by rw [← hw5]; exact hg0)
            have H52 : Boxed (w5.heap[w.heap.size + 1 + 1]? = some (.cells (u32s (List.replicate 8 0)) 85 (0, 0))) := Boxed.mk (by rw [← hw5]; exact hg2)
            have HB5 : Boxed (Below w.heap.size w w5) := Boxed.mk (by rw [← hw5]; exact hbe)
            rw [hw5]
            clear hw5 hbe hg0 hg2 hg3 hnext hUl hUU hr0
            have hlt5 := lt_of_heap H53.out
            have hSS : ∀ w', Below w5.heap.size w5 w' → w'.cell? ⟨w.heap.size + 1 + 1 + 1, r0, none⟩ = some (.int .u32 ww) ∧ Below w5.heap.size w5 w' := fun w' hw => ⟨(cell_of_row w' _ r0 _ _ _ ((hw.block _ hlt5).trans H53.out)).trans (by rw [← HWW.out]; exact u32s_at U' r0 (by rw [HUL.out]; omega)), hw⟩
            have HSS := Boxed.mk hSS
            have HDR : Boxed (Below w5.heap.size w5 w5.drew) := Boxed.mk (Below.refl _ w5).drew
            clear hSS hlt5
            try go_wp2
            go_region_held3 (fun w' => w'.cell? ⟨w.heap.size + 1 + 1 + 1, r0, none⟩ = some (.int .u32 ww) ∧ Below w5.heap.size w5 w')
              ((refine HSS.out _ ?_; with_reducible (first | exact HDR.out | exact hB9 | fail)))
              (first | (go_at_call 81; refine (turned_any _ _ _ (by omega) (by omega)).mono ?_; rintro e' w' ⟨rfl, rfl⟩) | (go_at_call 82; refine (HKC.out _).mono ?_; rintro e' w9 ⟨rfl, hb9⟩; (have hB9 : Below w5.heap.size w5 w9 := Below.trans HDR.out hb9)))
            have HB9 := Boxed.mk hB9
            clear hB9 hb9
            go_wp2_with fail
            refine (turned_any ra 2 _ (by omega) (by omega)).mono ?_
            rintro _ _ ⟨rfl, rfl⟩
            go_wp2_with fail
            refine (turned_any ra 13 _ (by omega) (by omega)).mono ?_
            rintro _ _ ⟨rfl, rfl⟩
            go_wp2_with fail
            refine (turned_any ra 22 _ (by omega) (by omega)).mono ?_
            rintro _ _ ⟨rfl, rfl⟩
            go_wp2
            go_roundw
            case rel =>
              have hb9 := HB9.out
              have l0 := lt_of_heap H50.out
              have l2 := lt_of_heap H52.out
              have l3 := lt_of_heap H53.out
              refine ⟨k + 1, by omega, by go_num, ?_, ?_, ?_, ?_, ?_, ?_, ?_, ?_, HB5.out.trans (hb9.mono HB5.out.size), (hb9.block _ l0).trans H50.out, (hb9.block _ l2).trans H52.out, by rw [HU.out]; exact (hb9.block _ l3).trans H53.out⟩ <;> rw [HST.out] <;> simp only [Sha.step, Sha.uP, Sha.vP, Int.emod_add_emod] <;> rfl
            case measure => simp [intOf]; omega
        · obtain rfl : k = 64 := by omega
          have hno : ¬ ((64 : Nat) : Int) < 64 := by omega
          have hc : ∀ j, wr.cell? ⟨w.heap.size, j, none⟩ = (u32s [a, b1, c, d, e, f, g, h])[j]? := fun j => cell_of_row wr _ j _ _ _ hg0
          have k0 := hc 0
          have k1 := hc 1
          have k2 := hc 2
          have k3 := hc 3
          have k4 := hc 4
          have k5 := hc 5
          have k6 := hc 6
          have k7 := hc 7
          simp only [u32s, List.map_cons, List.map_nil, List.getElem?_toArray, List.getElem?_cons_zero, List.getElem?_cons_succ] at k0 k1 k2 k3 k4 k5 k6 k7
          obtain ⟨T, hT⟩ : ∃ T, Sha.roundsR s0 V 64 = T := ⟨_, rfl⟩
          have HR : Boxed (Sha.blockR ⟨a, b1, c, d, e, f, g, h⟩ b = Sha.addP ⟨a, b1, c, d, e, f, g, h⟩ T) := Boxed.mk (by unfold Sha.blockR; rw [HS.out, HF.out, hT])
          rw [hT]
          obtain ⟨ra, rb, rc, rd, re, rf, rg, rh⟩ := T
          have HG2 := Boxed.mk hg2
          have HBE := Boxed.mk hbe
          clear hlt hk hbe hg0 hg2 hg3 hc hT
          dsimp only
          go_wp2_with (refine wpList_store_row (by rfl) _ _ _ (by rfl) (w.heap.size + 1 + 1) (u32s (Sha.addP ⟨a, b1, c, d, e, f, g, h⟩ ⟨ra, rb, rc, rd, re, rf, rg, rh⟩).list) (by rfl) (by rfl) _ _ HG2.out (by exact info8w) (by rfl) (u32s_one _) ?_)
          refine bodyPost_ret (v := .agg (u32s (Sha.addP ⟨a, b1, c, d, e, f, g, h⟩ ⟨ra, rb, rc, rd, re, rf, rg, rh⟩).list)) (results_cell_row rfl _ _ (w.heap.size + 1 + 1) _ _ _ _ rfl (setRow_heap _ _ _ _ _ _ HG2.out) Tryd.underlying85 rfl info8w) rfl ⟨?_, below_setRow HBE.out (by omega) _⟩
          rw [HR.out]
          rfl
end Go.Proofs.YtddjkiejekfekaaDoor
namespace Go.Proofs.YtddjkiejekfekaaDoor
open Go.RowKit

theorem conv_byte (w : World) (x : Int) : (convert 46 9 (.slice (some ⟨w.heap.size, 0, none⟩) 1 1)).run Tryd.prog (w.alloc (.cells #[.int .u8 (x % 256)] 5)) = .ok (.string ⟨[Sha.byteOf x].toArray⟩) (w.alloc (.cells #[.int .u8 (x % 256)] 5)) := by
  have hg := heap_alloc_new w (.cells #[.int .u8 (x % 256)] 5)
  refine run_convert_bytes_back (P := Tryd.prog) _ 46 9 5 ⟨w.heap.size, 0, none⟩ 1 [Sha.byteOf x] Tryd.underlying46 Tryd.underlying5 Tryd.underlying9 ?_
  intro j hj
  rw [Addr.add_mid, Nat.zero_add, cell_of_row _ _ j _ _ _ hg]
  match j, hj with
  | 0, _ => simp [Sha.byteOf_toNat]

theorem conv_zeros (w : World) (z : Nat) : (convert 46 9 (.slice (some ⟨w.heap.size, 0, none⟩) z z)).run Tryd.prog (w.alloc (.cells (madeCells #[.int .u8 0] z) 5)) = .ok (.string ⟨(List.replicate z (0 : UInt8)).toArray⟩) (w.alloc (.cells (madeCells #[.int .u8 0] z) 5)) := by
  obtain ⟨cs, h1, _, h3⟩ := World.rowIs_made w (.int .u8 0) z 5
  have hlz : (List.replicate z (0 : UInt8)).length = z := by simp
  have := run_convert_bytes_back (P := Tryd.prog) (w.alloc (.cells (madeCells #[.int .u8 0] z) 5)) 46 9 5 ⟨w.heap.size, 0, none⟩ z (List.replicate z 0) Tryd.underlying46 Tryd.underlying5 Tryd.underlying9 (by
    intro j hj
    rw [Addr.add_mid, Nat.zero_add, cell_of_row _ _ j _ _ _ h1, h3 j (by simpa using hj)]
    simp)
  rwa [hlz] at this

theorem info64y : (Tryd.prog.info? 87).map (·.size) = some 64 := by kernel_rfl

set_option maxRecDepth 8000 in
set_option maxHeartbeats 800000 in
theorem rsum_any (s : List UInt8) (w : World) (hn : s.length ≤ 100000) :
    Calls Tryd.prog 67 #[.string ⟨s.toArray⟩] w fun e w' => e = .returned (.string ⟨(Sha.sumP s).toArray⟩) ∧ Below w.heap.size w w' := by
  obtain ⟨n, hnn⟩ : ∃ n, s.length = n := ⟨_, rfl⟩
  have hn' : n ≤ 100000 := by omega
  obtain ⟨m, hm⟩ : ∃ m : Nat, n % 64 = m := ⟨_, rfl⟩
  obtain ⟨z, hz⟩ : ∃ z : Nat, z = (119 - n % 64) % 64 := ⟨_, rfl⟩
  have hzb : z ≤ 63 := by omega
  have m1 : (n : Int).tmod 64 = (m : Int) := by rw [Int.tmod_eq_emod_of_nonneg (by omega)]; omega
  have m2 : (n : Int) % 64 = (m : Int) := by omega
  have z1 : (119 - (m : Int)).tmod 64 = (z : Int) := by rw [Int.tmod_eq_emod_of_nonneg (by omega)]; omega
  have z2 : (119 - (m : Int)) % 64 = (z : Int) := by omega
  have htail := Sha.tailP_is n z hz
  have HT : Hid (Sha.sumP s = Sha.joinP (Sha.wordsP (s ++ Sha.tailP n))) := Lib.hid (by unfold Sha.sumP; rw [hnn])
  have HTA := Lib.hid htail
  have hsz : s.length = n := hnn
  have hmb : m < 64 := by omega
  clear htail hz hm hn hnn
  go_enter Tryd.func67, Tryd.ntmps67
  go_wp2
  go_loopw [4, 5, 6] (fun b t i wr => ∃ k : Nat, k ≤ 8 ∧ i = .int .i64 k ∧ b = .int .i64 ((n * 8 / 256 ^ k : Nat) : Int) ∧ t = .string ⟨(Sha.endR (n * 8) k).toArray⟩ ∧ Below w.heap.size w wr) (fun _ _ i _ => 8 - (intOf i).toNat)
  case atStart => exact ⟨0, by omega, rfl, by simp, rfl, Below.refl _ _⟩
  case round =>
    obtain ⟨k, hk, rfl, rfl, rfl, hb⟩ := hrel
    have HB := Lib.hid hb
    clear hb
    by_cases hlt : k < 8
    · have hk8 : (k : Int) < 8 := by omega
      have hnx : Sha.endR (n * 8) (k + 1) = Sha.byteOf ((n * 8 / 256 ^ k : Nat) : Int) :: Sha.endR (n * 8) k := rfl
      have hdv : n * 8 / 256 ^ (k + 1) = n * 8 / 256 ^ k / 256 := by rw [Nat.pow_succ, Nat.div_div_eq_div_mul]
      have hel := Sha.endR_length (n * 8) k
      have hble : n * 8 / 256 ^ k ≤ 800000 := Nat.le_trans (Nat.div_le_self _ _) (by omega)
      obtain ⟨b, hbb⟩ : ∃ b, n * 8 / 256 ^ k = b := ⟨_, rfl⟩
      obtain ⟨E, hE⟩ : ∃ E, Sha.endR (n * 8) k = E := ⟨_, rfl⟩
      obtain ⟨E', hE'⟩ : ∃ E', Sha.endR (n * 8) (k + 1) = E' := ⟨_, rfl⟩
      rw [hbb] at hnx hdv hble ⊢
      rw [hE] at hnx hel ⊢
      rw [hE'] at hnx
      have hcm := cat_mk [Sha.byteOf (b : Int)] E
      have hcons : [Sha.byteOf (b : Int)] ++ E = E' := hnx.symm
      rw [hcons] at hcm
      have kc := fun w => conv_byte w (b : Int)
      have hEl : E.length ≤ 8 := by omega
      have HD := Lib.hid hdv
      have HE := Lib.hid hE'
      have b1 : (b : Int).tmod 256 = (b : Int) % 256 := Int.tmod_eq_emod_of_nonneg (by omega)
      have b2 : (b : Int).tdiv 256 = (b : Int) / 256 := Int.tdiv_eq_ediv_of_nonneg (by omega)
      clear hnx hdv hel hbb hE hE' hcons
      go_wp2
      go_roundw
      case rel => exact ⟨k + 1, by omega, by go_num, by rw [HD.out]; simp, by rw [HE.out], HB.out.alloc HB.out.size _⟩
      case measure => simp [intOf]; omega
    · obtain rfl : k = 8 := by omega
      have hno : ¬ ((8 : Nat) : Int) < 8 := by omega
      have hel := Sha.endR_length (n * 8) 8
      obtain ⟨E, hE⟩ : ∃ E, Sha.endR (n * 8) 8 = E := ⟨_, rfl⟩
      rw [hE] at hel HTA ⊢
      obtain ⟨S1, hS1⟩ : ∃ S1, s ++ [128] = S1 := ⟨_, rfl⟩
      obtain ⟨S2, hS2⟩ : ∃ S2, S1 ++ List.replicate z 0 = S2 := ⟨_, rfl⟩
      obtain ⟨ALL, hALL⟩ : ∃ S3, S2 ++ E = S3 := ⟨_, rfl⟩
      have c1 := cat_mk s [128]
      have c2 := cat_mk S1 (List.replicate z 0)
      have c3 := cat_mk S2 E
      rw [hS1] at c1
      rw [hS2] at c2
      rw [hALL] at c3
      have l1 : S1.length = n + 1 := by rw [← hS1]; simp; omega
      have l2 : S2.length = n + 1 + z := by rw [← hS2]; simp; omega
      have l3 : ALL.length = n + 1 + z + 8 := by rw [← hALL]; simp; omega
      have HALL : Hid (ALL = s ++ Sha.tailP n) := Lib.hid (by rw [HTA.out, ← hALL, ← hS2, ← hS1]; simp)
      obtain ⟨Q, hQ⟩ : ∃ Q, ALL.length = 64 * Q := ⟨(n + 1 + z + 8) / 64, by omega⟩
      have hQb : Q ≤ 2000 := by omega
      have hlz : (List.replicate z (0 : UInt8)).length = z := by simp
      have hmk := fun w => run_make_row' (P := Tryd.prog) 46 5 (.int .u8 0) 1 Tryd.underlying46 Tryd.infoByte rfl .i64 .i64 z (by omega) (by omega) w
      have hkz := fun w => conv_zeros w z
      obtain ⟨Zs, hZs⟩ : ∃ Zs, List.replicate z (0 : UInt8) = Zs := ⟨_, rfl⟩
      obtain ⟨MC, hMC⟩ : ∃ MC, madeCells #[.int .u8 0] z = MC := ⟨_, rfl⟩
      rw [hZs] at c2 hlz hkz
      rw [hMC] at hkz hmk
      have b1 : S1.length ≤ 200000 := by omega
      have b2 : S2.length ≤ 200000 := by omega
      have b3 : ALL.length ≤ 200000 := by omega
      have b4 : s.length ≤ 100000 := by omega
      have b5 : Zs.length ≤ 64 := by omega
      have b6 : E.length ≤ 8 := by omega
      have HQ := Lib.hid hQ
      have hf := rfirst_any
      simp only [Sha.St.list, u32s, List.map_cons, List.map_nil, Sha.first] at hf
      have HF := Lib.hid hf
      clear hE hS1 hS2 hALL hlt hk hZs hMC hQ l1 l2 l3 hlz hel hf
      go_wp2_with fail
      refine (HF.out _).mono ?_
      rintro e w2 ⟨rfl, hb2⟩
      have HB2 := Lib.hid ((HB.out.alloc HB.out.size (.cells MC 5)).trans (hb2.mono (HB.out.alloc HB.out.size (.cells MC 5)).size))
      clear hb2 hkz hmk c1 c2 c3 b1 b2 b5 b6
      go_wp2
      obtain ⟨g, hg⟩ : ∃ g, w2.heap.size = g := ⟨_, rfl⟩
      have HGG := Lib.hid hg
      have HGW : Hid (w.heap.size ≤ g) := Lib.hid (by rw [← hg]; exact HB2.out.size)
      rw [hg]
      clear hg
      go_loopw [9] (fun i wr => ∃ k : Nat, k ≤ Q ∧ i = .int .i64 ((64 * k : Nat) : Int) ∧ Below w.heap.size w wr ∧ wr.heap[g]? = some (.cells (u32s (Sha.absorb ALL k).list) 85 (0, 0))) (fun i _ => 64 * Q - (intOf i).toNat)
      case atStart =>
        refine ⟨0, Nat.zero_le _, rfl, HB2.out.alloc HB2.out.size _, ?_⟩
        exact heap_new_at _ _ _ HGG.out.symm
      case round =>
        obtain ⟨k, hk, rfl, hb, hgr⟩ := hrel
        obtain ⟨S, hS⟩ : ∃ S, Sha.absorb ALL k = S := ⟨_, rfl⟩
        obtain ⟨RS, hRS⟩ : ∃ R, u32s S.list = R := ⟨_, rfl⟩
        rw [hS, hRS] at hgr
        have HS := Lib.hid hS
        have HRS := Lib.hid hRS
        have HBR := Lib.hid hb
        have HGR := Lib.hid hgr
        have hRz : RS.size = 8 := by rw [← hRS]; rfl
        have HRI : Hid ((Tryd.prog.info? 85).map (·.size) = some RS.size) := Lib.hid (by rw [hRz]; exact info8w)
        by_cases hlt : k < Q
        · have hle : ((64 * k : Nat) : Int) + 64 ≤ (ALL.length : Int) := by have := HQ.out; omega
          obtain ⟨X, hX⟩ : ∃ X, (ALL.drop (64 * k)).take 64 = X := ⟨_, rfl⟩
          have hXl : X.length = 64 := by rw [← hX]; simp; have := HQ.out; omega
          have hXat : ∀ j, j < 64 → ALL.getD (64 * k + j) 0 = X.getD j 0 := fun j hj => by rw [← hX]; simp [hj]
          have hnx : Sha.absorb ALL (k + 1) = Sha.blockP S X := by rw [← hX, ← hS]; rfl
          have hblk := fun w' => rblock_any S X w' hXl
          rw [Sha.blockR_is] at hblk
          obtain ⟨T, hT⟩ : ∃ T, Sha.blockP S X = T := ⟨_, rfl⟩
          obtain ⟨RT, hRT⟩ : ∃ R, u32s T.list = R := ⟨_, rfl⟩
          rw [hT, hRT, hRS] at hblk
          rw [hT] at hnx
          obtain ⟨XB, hXB⟩ : ∃ X', u8s X = X' := ⟨_, rfl⟩
          rw [hXB] at hblk
          have HBLK := Lib.hid hblk
          have HNX := Lib.hid hnx
          have HRT := Lib.hid hRT
          have HXA := Lib.hid hXat
          have HXL := Lib.hid hXl
          have HXB := Lib.hid hXB
          have hTz : RT.size = 8 := by rw [← hRT]; rfl
          have HTI : Hid ((Tryd.prog.info? 85).map (·.size) = some RT.size) := Lib.hid (by rw [hTz]; exact info8w)
          have HT1 : Hid (RT.all (·.oneCell') = true) := Lib.hid (by rw [← hRT]; exact u32s_one _)
          have HRTz : Hid (RS.size = RT.size) := Lib.hid (by rw [hRz, hTz])
          obtain ⟨i0, hi0⟩ : ∃ i0, 64 * k = i0 := ⟨_, rfl⟩
          rw [hi0] at hle HXA ⊢
          have HI0 := Lib.hid hi0
          have hi2000 : i0 ≤ 200000 := by omega
          clear hS hRS hb hgr hRz hX hXl hXat hnx hblk hT hRT hTz hi0 hXB
          go_wp2
          obtain ⟨pb, hpb⟩ : ∃ pb, wr.heap.size = pb := ⟨_, rfl⟩
          have HGP : Hid (g < pb) := Lib.hid (by rw [← hpb]; exact lt_of_heap HGR.out)
          have HWP : Hid (w.heap.size ≤ pb) := Lib.hid (by rw [← hpb]; exact HBR.out.size)
          have HSt1 : Hid (Below w.heap.size w (wr.alloc (.cells (u8s (List.replicate 64 0)) 87))) := Lib.hid (HBR.out.alloc HBR.out.size _)
          have HSt2 : Hid ((wr.alloc (.cells (u8s (List.replicate 64 0)) 87)).heap[g]? = some (.cells RS 85 (0, 0))) := Lib.hid (heap_old_at _ HGR.out)
          have HSt3 : Hid ((wr.alloc (.cells (u8s (List.replicate 64 0)) 87)).heap[pb]? = some (.cells (u8s (Sha.copyR X 0)) 87 (0, 0))) := Lib.hid (heap_new_at _ _ _ hpb.symm)
          rw [hpb]
          clear hpb
          go_loopw [11] (fun i wr => ∃ j : Nat, j ≤ 64 ∧ i = .int .i64 j ∧ Below w.heap.size w wr ∧ wr.heap[g]? = some (.cells RS 85 (0, 0)) ∧ wr.heap[pb]? = some (.cells (u8s (Sha.copyR X j)) 87 (0, 0))) (fun i _ => 64 - (intOf i).toNat)
          case atStart => exact ⟨0, by omega, rfl, HSt1.out, HSt2.out, HSt3.out⟩
          case round =>
            clear HSt1 HSt2 HSt3 HBR HGR
            obtain ⟨j, hj, rfl, hb, hgr, hpr⟩ := hrel
            obtain ⟨F, hF⟩ : ∃ F, Sha.copyR X j = F := ⟨_, rfl⟩
            have hFl : F.length = 64 := by rw [← hF, Sha.copyR_length]
            rw [hF] at hpr
            have HF := Lib.hid hF
            have HBR := Lib.hid hb
            have HGR := Lib.hid hgr
            have HPR := Lib.hid hpr
            by_cases hj64 : j < 64
            · have hjI : (j : Int) < 64 := by omega
              have co : wr.cell? ⟨pb, j, none⟩ = some (.int .u8 ((F.getD j 0).toNat : Int)) := (cell_of_row wr _ j _ _ _ hpr).trans (u8s_at F j (by omega))
              obtain ⟨old, hold⟩ : ∃ o, ((F.getD j 0).toNat : Int) = o := ⟨_, rfl⟩
              rw [hold] at co
              have fo := frozen_of_row wr _ j _ _ hpr
              have hin : i0 + j < ALL.length := by omega
              have hat := HXA.out j hj64
              have hnn : Sha.copyR X (j + 1) = F.set j (X.getD j 0) := by rw [← hF]; rfl
              obtain ⟨c, hc⟩ : ∃ c, X.getD j 0 = c := ⟨_, rfl⟩
              rw [hc] at hat hnn
              have hix : ∀ h, (⟨ALL.toArray⟩ : ByteArray)[i0 + j]'h = c := fun h => by
                rw [← hat]
                simp [hin]
                rfl
              have e0 : ((i0 : Int) + (j : Int)).toNat = i0 + j := by omega
              have hinI : (i0 : Int) + (j : Int) < (ALL.length : Int) := by omega
              have HNN := Lib.hid hnn
              clear hb hgr hpr hF hFl hold hat hnn hc
              go_wp2
              go_roundw
              case rel =>
                have hgp := HGP.out
                refine ⟨j + 1, by omega, by go_num, HBR.out.setCell HWP.out _, (Below.heap_setCell _ _ _ _ (by dsimp only; omega)).trans HGR.out, ?_⟩
                rw [HNN.out, ← u8s_set]
                exact heap_setCell_same _ _ _ _ _ _ HPR.out
              case measure => simp [intOf]; omega
            · obtain rfl : j = 64 := by omega
              have hno64 : ¬ ((64 : Nat) : Int) < 64 := by omega
              have HXF : Hid (u8s F = XB) := Lib.hid (by rw [← HF.out, Sha.copyR_all X HXL.out, HXB.out])
              rw [HXF.out] at HPR
              have HXI : Hid ((Tryd.prog.info? 87).map (·.size) = some XB.size) := Lib.hid (by rw [← HXB.out, u8s_size, HXL.out]; exact info64y)
              clear hj64 hj hb hgr hpr hF hFl
              go_wp2_with (first | (refine wpList_load_row (by rfl) _ _ (by rfl) g (by rfl) _ RS _ _ HGR.out Tryd.underlying85 (by rfl) HRI.out ?_) | (refine wpList_load_row (by rfl) _ _ (by rfl) pb (by rfl) _ XB _ _ HPR.out Tryd.underlying87 (by rfl) HXI.out ?_))
              refine (HBLK.out _).mono ?_
              rintro e w6 ⟨rfl, hb6⟩
              have HG6 := Lib.hid ((hb6.block g (lt_of_heap HGR.out)).trans HGR.out)
              have HB6 := Lib.hid (HBR.out.trans (hb6.mono HBR.out.size))
              clear hb6
              go_wp2_with (refine wpList_store_row (by rfl) _ _ _ (by rfl) g RT (by rfl) (by rfl) _ _ HG6.out HTI.out HRTz.out HT1.out ?_)
              go_roundw
              case rel => exact ⟨k + 1, by omega, by rw [← HI0.out]; go_num, below_setRow HB6.out HGW.out _, by rw [HNX.out, HRT.out]; exact setRow_heap _ _ _ _ _ _ HG6.out⟩
              case measure => have := HQ.out; have := HI0.out; simp [intOf]; omega
        · obtain rfl : k = Q := by omega
          have hno : ¬ (((64 * k : Nat) : Int) + 64 ≤ (ALL.length : Int)) := by have := HQ.out; omega
          have HTO := Lib.hid (rtold_any S wr)
          rw [hRS] at HTO
          have HFI : Hid (Sha.sumP s = Sha.joinP S) := Lib.hid (by
            rw [HT.out, ← HALL.out, ← HS.out]
            unfold Sha.wordsP
            rw [HQ.out, Nat.mul_div_cancel_left _ (by omega)])
          obtain ⟨i0, hi0⟩ : ∃ i0, 64 * k = i0 := ⟨_, rfl⟩
          rw [hi0] at hno ⊢
          have hi2000 : i0 ≤ 200000 := by omega
          clear hS hRS hb hgr hRz hlt hk hi0
          go_wp2_with (refine wpList_load_row (by rfl) _ _ (by rfl) g (by rfl) _ RS _ _ HGR.out Tryd.underlying85 (by rfl) HRI.out ?_)
          refine HTO.out.mono ?_
          rintro e w6 ⟨rfl, hb6⟩
          go_wp2
          go_ret
          exact ⟨by rw [HFI.out]; rfl, HBR.out.trans (hb6.mono HBR.out.size)⟩
end Go.Proofs.YtddjkiejekfekaaDoor
namespace Go.Proofs.YtddjkiejekfekaaDoor
open Go.RowKit

set_option maxRecDepth 8000 in
theorem rTagged_any (t : Int) (s : List UInt8) (w : World) (hs : s.length ≤ 99999) :
    Calls Tryd.prog 49 #[.int .i64 t, .string ⟨s.toArray⟩] w fun e w' => e = .returned (.string ⟨(Sha.sumP (Sha.byteOf t :: s)).toArray⟩) ∧ Below w.heap.size w w' := by
  have HS := Lib.hid (fun w => rsum_any (Sha.byteOf t :: s) w (by simp; omega))
  obtain ⟨R, hR⟩ : ∃ R, Sha.sumP (Sha.byteOf t :: s) = R := ⟨_, rfl⟩
  rw [hR] at HS ⊢
  have hcm := cat_mk [Sha.byteOf t] s
  have kc := fun w => conv_tag w t
  rw [List.singleton_append] at hcm
  clear hR
  go_enter Tryd.func49, Tryd.ntmps49
  go_wp2_with fail
  have hB1 : Below w.heap.size w (w.alloc (.cells #[.int .u8 (t % 256)] 5)) := (Below.refl _ w).alloc (Nat.le_refl _) _
  refine (HS.out _).mono ?_
  rintro e w2 ⟨rfl, hb2⟩
  go_wp2
  go_ret
  exact ⟨rfl, bchain hB1 hb2⟩

end Go.Proofs.YtddjkiejekfekaaDoor
