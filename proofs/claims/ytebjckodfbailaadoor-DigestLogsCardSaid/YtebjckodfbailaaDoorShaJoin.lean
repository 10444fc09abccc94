/- sha.join: the words' bytes. -/
import Derived.Test.YtebjckodfbailaaDoorShaBase
namespace Go.Proofs.YtebjckodfbailaaDoor
open Go.RowKit

set_option maxRecDepth 8000 in
set_option maxHeartbeats 1000000 in
theorem join_any (s : Sha.St) (w : World) :
    Calls Tryd.prog 43 #[.agg (u32s s.list)] w fun e w' => e = .returned (.string ⟨(Sha.joinP s).toArray⟩) ∧ Below w.heap.size w w' := by
  obtain ⟨L, hL⟩ : ∃ L, s.list = L := ⟨_, rfl⟩
  have hLl : L.length = 8 := by rw [← hL]; rfl
  have hj : Sha.joinFill L 8 = Sha.joinP s := by rw [← hL]; rfl
  rw [hL]
  have HJ := Lib.hid hj
  have HLL := Lib.hid hLl
  have hix : ∀ (k : Nat), k < 8 → ∀ w, (Instr.index 69 (.agg (u32s L)) (.int .i64 k)).run Tryd.prog w = .ok (.int .u32 (L.getD k 0)) w := by
    intro k hk w
    have hu := Tryd.underlying69
    have hk0 : (0 : Int) ≤ (k : Int) := by omega
    have hk8 : (k : Int) < 8 := by omega
    have hat : (u32s L)[k]? = some (.int .u32 (L.getD k 0)) := u32s_at L k (by omega)
    unfold Instr.index
    go_simp
  have HIX := Lib.hid hix
  have hsz : (u32s L).size = 8 := by rw [u32s_size, hLl]
  have hi : (Tryd.prog.info? 69).map (·.size) = some (u32s L).size := by rw [hsz]; kernel_rfl
  have HI := Lib.hid hi
  obtain ⟨A, hA⟩ : ∃ A, u32s L = A := ⟨_, rfl⟩
  rw [hA] at HI HIX ⊢
  clear hA hsz hi hix hj hLl hL
  go_enter Tryd.func43, Tryd.ntmps43
  go_wp2_with (refine wpList_load_row (by rfl) _ _ (by rfl) w.heap.size (by rfl) _ A (0, 0) _ (heap_old_at _ (heap_new_at _ _ _ rfl)) Tryd.underlying69 (by rfl) HI.out ?_)
  go_loopw [7] (fun i wr => ∃ k : Nat, k ≤ 8 ∧ i = .int .i64 k ∧ Below w.heap.size w wr ∧ wr.heap[w.heap.size + 1]? = some (.cells (u8s (Sha.joinFill L k)) 89 (0, 0))) (fun i _ => 8 - (intOf i).toNat)
  case atStart => exact ⟨0, by omega, rfl, ((Below.refl _ w).alloc (Nat.le_refl _) _).alloc (by simp) _, heap_new_at _ _ _ (by simp)⟩
  case round =>
    obtain ⟨k, hk, rfl, hb, hg⟩ := hrel
    obtain ⟨F, hF⟩ : ∃ F, Sha.joinFill L k = F := ⟨_, rfl⟩
    have hFl : F.length = 32 := by rw [← hF, Sha.joinFill_length]
    rw [hF] at hg
    have HB := Lib.hid hb
    have HG := Lib.hid hg
    have HF := Lib.hid hF
    by_cases hlt : k < 8
    · have hx := HIX.out k hlt
      have hn : Sha.joinFill L (k + 1) = (((F.set (4 * k) (Sha.byteOf (L.getD k 0 / 16777216))).set (4 * k + 1) (Sha.byteOf (L.getD k 0 / 65536))).set (4 * k + 2) (Sha.byteOf (L.getD k 0 / 256))).set (4 * k + 3) (Sha.byteOf (L.getD k 0)) := by rw [← hF]; rfl
      obtain ⟨x, hxx⟩ : ∃ x, L.getD k 0 = x := ⟨_, rfl⟩
      rw [hxx] at hx hn
      have HN := Lib.hid hn
      have hcell : ∀ j, j < 32 → ∃ z, wr.cell? ⟨w.heap.size + 1, j, none⟩ = some (.int .u8 z) := fun j hj => ⟨_, (cell_of_row wr _ j _ _ _ hg).trans (u8s_at _ j (by omega))⟩
      have hfz : ∀ j, wr.frozen? ⟨w.heap.size + 1, j, none⟩ = false := fun j => frozen_of_row wr _ j _ _ hg
      obtain ⟨z0, c0⟩ := hcell (4 * k) (by omega)
      obtain ⟨z1, c1⟩ := hcell (4 * k + 1) (by omega)
      obtain ⟨z2, c2⟩ := hcell (4 * k + 2) (by omega)
      obtain ⟨z3, c3⟩ := hcell (4 * k + 3) (by omega)
      have f0 := hfz (4 * k)
      have f1 := hfz (4 * k + 1)
      have f2 := hfz (4 * k + 2)
      have f3 := hfz (4 * k + 3)
      have e0 : (4 * (k : Int)).toNat = 4 * k := by omega
      have e1 : (4 * (k : Int) + 1).toNat = 4 * k + 1 := by omega
      have e2 : (4 * (k : Int) + 2).toNat = 4 * k + 2 := by omega
      have e3 : (4 * (k : Int) + 3).toNat = 4 * k + 3 := by omega
      have hk8 : (k : Int) < 8 := by omega
      clear hb hg hF hFl hxx hn hcell hfz
      go_wp2
      go_roundw
      case rel =>
        have hle : w.heap.size ≤ w.heap.size + 1 := Nat.le_succ _
        refine ⟨k + 1, by omega, by go_num, (((HB.out.setCell hle _).setCell hle _).setCell hle _).setCell hle _, ?_⟩
        rw [HN.out, ← u8s_set, ← u8s_set, ← u8s_set, ← u8s_set, Sha.byteOf_toNat, Sha.byteOf_toNat, Sha.byteOf_toNat, Sha.byteOf_toNat]
        exact heap_setCell_same _ _ _ _ _ _ (heap_setCell_same _ _ _ _ _ _ (heap_setCell_same _ _ _ _ _ _ (heap_setCell_same _ _ _ _ _ _ HG.out)))
      case measure => simp [intOf]; omega
    · obtain rfl : k = 8 := by omega
      have hno : ¬ ((8 : Nat) : Int) < 8 := by omega
      have kc : (convert 50 9 (.slice (some ⟨w.heap.size + 1, 0, none⟩) 32 32)).run Tryd.prog wr = .ok (.string ⟨F.toArray⟩) wr := by
        have := run_convert_bytes_back (P := Tryd.prog) wr 50 9 5 ⟨w.heap.size + 1, 0, none⟩ 32 F Tryd.underlying50 Tryd.underlying5 Tryd.underlying9 (by
          intro j hj
          rw [Addr.add_mid, Nat.zero_add, cell_of_row wr _ j _ _ _ hg, u8s_at F j hj]
          simp [hj])
        rwa [hFl] at this
      have HR : Hid (F = Sha.joinP s) := Lib.hid (by rw [← HF.out, HJ.out])
      clear hlt hk hg hb hF hFl
      go_wp2
      go_ret
      exact ⟨by rw [HR.out]; rfl, HB.out⟩
end Go.Proofs.YtebjckodfbailaaDoor
