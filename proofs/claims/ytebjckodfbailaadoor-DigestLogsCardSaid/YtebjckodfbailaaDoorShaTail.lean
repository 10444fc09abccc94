/- sha.tail: what fills a text up to whole blocks. -/
import Derived.Test.YtebjckodfbailaaDoorShaBase
namespace Go.Proofs.YtebjckodfbailaaDoor
open Go.RowKit

theorem Tryd.zero72 : (Tryd.prog.info? 88).map (fun i => (i.zero, i.size)) = some (some (.agg (u8s (List.replicate 72 0))), 72) := by kernel_rfl

set_option maxRecDepth 8000 in
set_option maxHeartbeats 1000000 in
theorem tail_any (n : Nat) (w : World) (hn : n ≤ 1152921504606846975) :
    Calls Tryd.prog 42 #[.int .u64 n] w fun e w' => e = .returned (.string ⟨(Sha.tailP n).toArray⟩) ∧ Below w.heap.size w w' := by
  obtain ⟨m, hm⟩ : ∃ m : Nat, (n : Int) % 64 = (m : Int) := ⟨n % 64, by omega⟩
  have hm64 : m < 64 := by omega
  obtain ⟨q, hq⟩ : ∃ q : Nat, (119 - (m : Int)) % 64 = (q : Int) := ⟨(119 - m) % 64, by omega⟩
  have hq64 : q < 64 := by omega
  have HP : Hid (Sha.padN n = 1 + q) := Lib.hid (by unfold Sha.padN; omega)
  have hz := (zero_of_info Tryd.zero72).1
  obtain ⟨Z, hZ⟩ : ∃ Z, u8s (List.replicate 72 0) = Z := ⟨_, rfl⟩
  rw [hZ] at hz
  have c0 : Z[0]? = some (.int .u8 0) := by rw [← hZ]; rfl
  have HZ := Lib.hid hZ
  clear hZ
  go_enter Tryd.func42, Tryd.ntmps42
  go_wp2
  go_loopw [14] (fun i wr => ∃ k : Nat, k ≤ 8 ∧ i = .int .u64 k ∧ Below w.heap.size w wr ∧ wr.heap[w.heap.size]? = some (.cells (u8s (Sha.tailFill n k)) 88 (0, 0))) (fun i _ => 8 - (intOf i).toNat)
  case atStart =>
    refine ⟨0, by omega, rfl, (Below.refl _ w).alloc (Nat.le_refl _) _, ?_⟩
    rw [← HZ.out]
    exact heap_new_at _ _ _ rfl
  case round =>
    obtain ⟨k, hk, rfl, hb, hg⟩ := hrel
    obtain ⟨F, hF⟩ : ∃ F, Sha.tailFill n k = F := ⟨_, rfl⟩
    have hFl : F.length = 72 := by rw [← hF, Sha.tailFill_length]
    rw [hF] at hg
    have HB := Lib.hid hb
    have HG := Lib.hid hg
    have HF := Lib.hid hF
    by_cases hlt : k < 8
    · have hc : wr.cell? ⟨w.heap.size, 1 + q + k, none⟩ = some (.int .u8 ((F.getD (1 + q + k) 0).toNat : Int)) := (cell_of_row wr _ _ _ _ _ hg).trans (u8s_at F _ (by omega))
      obtain ⟨old, ho⟩ : ∃ z, ((F.getD (1 + q + k) 0).toNat : Int) = z := ⟨_, rfl⟩
      rw [ho] at hc
      have hf := frozen_of_row wr _ (1 + q + k) _ _ hg
      have hn1 : Sha.tailFill n (k + 1) = F.set (1 + q + k) (Sha.byteOf ((n : Int) * 8 / 2 ^ (8 * (7 - k)))) := by rw [← hF, ← HP.out]; rfl
      have HN := Lib.hid hn1
      have e0 : (1 + (q : Int) + (k : Int)).toNat = 1 + q + k := by omega
      have e1 : (8 * (7 - (k : Int))).toNat = 8 * (7 - k) := by omega
      have hk8 : (k : Int) < 8 := by omega
      clear hb hg hF hFl ho hn1
      go_wp2
      go_roundw
      case rel =>
        refine ⟨k + 1, by omega, by go_num, HB.out.setCell (Nat.le_refl _) _, ?_⟩
        rw [HN.out, ← u8s_set, Sha.byteOf_toNat]
        exact heap_setCell_same _ _ _ _ _ _ HG.out
      case measure => simp [intOf]; omega
    · obtain rfl : k = 8 := by omega
      have hno : ¬ ((8 : Nat) : Int) < 8 := by omega
      have hTl : (F.take (1 + q + 8)).length = 1 + q + 8 := by rw [List.length_take, hFl]; omega
      obtain ⟨G, hG⟩ : ∃ G, F.take (1 + q + 8) = G := ⟨_, rfl⟩
      have kc : (convert 50 9 (.slice (some ⟨w.heap.size, 0, none⟩) (1 + q + 8) 72)).run Tryd.prog wr = .ok (.string ⟨G.toArray⟩) wr := by
        have := run_convert_bytes_back (P := Tryd.prog) wr 50 9 5 ⟨w.heap.size, 0, none⟩ 72 (F.take (1 + q + 8)) Tryd.underlying50 Tryd.underlying5 Tryd.underlying9 (by
          intro j hj
          rw [hTl] at hj
          rw [Addr.add_mid, Nat.zero_add, cell_of_row wr _ j _ _ _ hg, u8s_at F j (by omega)]
          simp [List.getElem_take, show j < F.length by omega])
        rwa [hTl, hG] at this
      have HR : Hid (G = Sha.tailP n) := Lib.hid (by rw [← hG, ← HF.out]; unfold Sha.tailP; rw [HP.out])
      have e2 : (1 + (q : Int) + 8).toNat = 1 + q + 8 := by omega
      have e3 : (0 : Int) ≤ 1 + (q : Int) + 8 := by omega
      have e4 : 1 + (q : Int) + 8 ≤ 72 := by omega
      clear hlt hk hg hb hF hFl hTl hG
      go_wp2
      go_ret
      exact ⟨by rw [HR.out]; rfl, HB.out⟩
end Go.Proofs.YtebjckodfbailaaDoor
