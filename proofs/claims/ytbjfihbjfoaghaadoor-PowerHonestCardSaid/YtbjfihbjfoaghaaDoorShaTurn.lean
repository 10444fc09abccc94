/- sha.turn: the 64 rounds. -/
import Derived.Test.YtbjfihbjfoaghaaDoorShaBase
namespace Go.Proofs.YtbjfihbjfoaghaaDoor
open Go.RowKit

theorem Tryd.info8 : (Tryd.prog.info? 91).map (·.size) = some 8 := by kernel_rfl

set_option maxRecDepth 8000 in
set_option maxHeartbeats 1000000 in
theorem turn_any (s : Sha.St) (W : List Int) (w : World) (hW : W.length = 64) (hK : Tab w) :
    Calls Tryd.prog 91 #[.agg (u32s s.list), .agg (u32s W)] w fun e w' => e = .returned (.agg (u32s (Sha.turnP s W).list)) ∧ Below w.heap.size w w' := by
  obtain ⟨s0, hs0⟩ : ∃ s0, s = s0 := ⟨_, rfl⟩
  obtain ⟨a, b, c, d, e, f, g, h⟩ := s
  obtain ⟨ws, hws⟩ : ∃ ws, u32s W = ws := ⟨_, rfl⟩
  rw [hws, hs0]
  have HS := Lib.hid hs0
  have HWS := Lib.hid hws
  have HK := Lib.hid hK
  have HLW := Lib.hid hW
  rw [← hs0]
  simp only [Sha.St.list, u32s, List.map_cons, List.map_nil]
  clear hws hK hs0 hW
  go_enter Tryd.func91, Tryd.ntmps91
  go_wp2
  go_quiet (fail)
  go_wp2
  go_quiet (fail)
  go_wp2
  go_loopw [5, 6, 7, 8, 9, 10, 11, 12, 32] (fun xa xb xc xd xe xf xg xh i wr => ∃ k : Nat, k ≤ 64 ∧ i = .int .i64 k ∧ xa = .int .u32 (Sha.rounds s0 W k).a ∧ xb = .int .u32 (Sha.rounds s0 W k).b ∧ xc = .int .u32 (Sha.rounds s0 W k).c ∧ xd = .int .u32 (Sha.rounds s0 W k).d ∧ xe = .int .u32 (Sha.rounds s0 W k).e ∧ xf = .int .u32 (Sha.rounds s0 W k).f ∧ xg = .int .u32 (Sha.rounds s0 W k).g ∧ xh = .int .u32 (Sha.rounds s0 W k).h ∧
      Below w.heap.size w wr ∧ wr.heap[w.heap.size + 1]? = some (.cells ws 116 (0, 0)) ∧ wr.heap[w.heap.size + 1 + 1]? = some (.cells (u32s (List.replicate 8 0)) 91 (0, 0))) (fun _ _ _ _ _ _ _ _ i _ => 64 - (intOf i).toNat)
  case atStart =>
    refine ⟨0, by omega, rfl, by rw [← HS.out]; rfl, by rw [← HS.out]; rfl, by rw [← HS.out]; rfl, by rw [← HS.out]; rfl, by rw [← HS.out]; rfl, by rw [← HS.out]; rfl, by rw [← HS.out]; rfl, by rw [← HS.out]; rfl, ?_, ?_, ?_⟩
    · exact below_drewN (below_drewN ((((Below.refl _ w).alloc (Nat.le_refl _) _).alloc (by simp) _).alloc (by simp; omega) _) _) _
    · exact heap_old_at _ (heap_new_at _ _ _ (by simp))
    · exact heap_new_at _ _ _ (by simp)
  case round =>
    obtain ⟨k, hk, rfl, rfl, rfl, rfl, rfl, rfl, rfl, rfl, rfl, hb, hg1, hg2⟩ := hrel
    have HG1 := Lib.hid hg1
    have HG2 := Lib.hid hg2
    have HBe := Lib.hid hb
    have hsz : w.heap.size + 1 < wr.heap.size := lt_of_heap hg1
    by_cases hlt : k < 64
    · obtain ⟨S, hS⟩ : ∃ S, Sha.rounds s0 W k = S := ⟨_, rfl⟩
      have hnext : Sha.rounds s0 W (k + 1) = Sha.step S (Sha.kTab.getD k 0) (W.getD k 0) := by rw [← hS]; rfl
      have hcK : wr.cell? ⟨0, k, none⟩ = some (.int .u32 (Sha.kTab.getD k 0)) := (HK.out.below hb) k hlt
      have hcW : wr.cell? ⟨w.heap.size + 1, k, none⟩ = some (.int .u32 (W.getD k 0)) := by
        rw [cell_of_row wr _ k ws _ _ hg1, ← HWS.out]; exact u32s_at W k (by rw [HLW.out]; exact hlt)
      obtain ⟨kk, hkk⟩ : ∃ kk, Sha.kTab.getD k 0 = kk := ⟨_, rfl⟩
      obtain ⟨ww, hww⟩ : ∃ ww, W.getD k 0 = ww := ⟨_, rfl⟩
      rw [hkk, hww] at hnext
      rw [hkk] at hcK
      rw [hww] at hcW
      rw [hS]
      have HN := Lib.hid hnext
      clear hnext hkk hww hS hb hg1 hg2
      obtain ⟨a, b, c, d, e, f, g, h⟩ := S
      have h1 : (k : Int) < 64 := by omega
      dsimp only
      go_wp2
      go_quiet ((go_at_call 93; exact Calls.quiet_of_same (rot_any _ _ _ (by omega) (by omega))))
      go_wp2_with fail
      refine (rot_any a 2 _ (by omega) (by omega)).mono ?_
      rintro _ _ ⟨rfl, rfl⟩
      go_wp2_with fail
      refine (rot_any a 13 _ (by omega) (by omega)).mono ?_
      rintro _ _ ⟨rfl, rfl⟩
      go_wp2_with fail
      refine (rot_any a 22 _ (by omega) (by omega)).mono ?_
      rintro _ _ ⟨rfl, rfl⟩
      go_wp2
      go_roundw
      case rel =>
        refine ⟨k + 1, by omega, by go_num, ?_, ?_, ?_, ?_, ?_, ?_, ?_, ?_, below_drewN HBe.out _, HG1.out, HG2.out⟩ <;> rw [HN.out] <;> simp only [Sha.step, Sha.uP, Sha.vP]
        all_goals rfl
      case measure => simp [intOf]; omega
    · obtain rfl : k = 64 := by omega
      have hno : ¬ ((64 : Nat) : Int) < 64 := by omega
      obtain ⟨S, hS⟩ : ∃ S, Sha.rounds s0 W 64 = S := ⟨_, rfl⟩
      have HS64 := Lib.hid hS
      rw [hS]
      clear hS hg1 hg2 hb
      obtain ⟨a, b, c, d, e, f, g, h⟩ := S
      dsimp only
      go_wp2_with (refine wpList_store_row (by rfl) _ _ _ (by rfl) (w.heap.size + 1 + 1) (u32s [a, b, c, d, e, f, g, h]) (by rfl) (by rfl) _ _ HG2.out Tryd.info8 (by rfl) (u32s_one _) ?_)
      refine bodyPost_ret (v := .agg (u32s [a, b, c, d, e, f, g, h])) (results_cell_row rfl _ _ (w.heap.size + 1 + 1) _ _ _ _ rfl (setRow_heap _ _ _ _ _ _ HG2.out) Tryd.underlying91 rfl Tryd.info8) rfl ⟨?_, below_setRow HBe.out (by omega) _⟩
      unfold Sha.turnP
      rw [HS.out, HS64.out]
      rfl
end Go.Proofs.YtbjfihbjfoaghaaDoor
