/- The document's turned, constant and First. -/
import Derived.Test.YtbjfihbjfoaghaaDoorShaSum
import Derived.Test.YtbjfihbjfoaghaaDoorShaSumMath
namespace Go.Proofs.YtbjfihbjfoaghaaDoor
open Go.RowKit

set_option maxHeartbeats 400000 in
theorem turned_any (x n : Int) (w : World) (h0 : 1 ≤ n) (h1 : n ≤ 31) :
    Calls Tryd.prog 88 #[.int .u32 x, .int .i64 n] w fun e w' => e = .returned (.int .u32 (Sha.rotI x n)) ∧ w' = w := by
  have hA : 0 ≤ 32 - n := by omega
  have hB : 32 - n ≤ 32 := by omega
  go_enter Tryd.func88, Tryd.ntmps88
  go_wp2
  go_ret
  refine ⟨?_, rfl⟩
  simp only [Sha.rotI]
  rw [Sha.bits_or_comm]
  rfl
set_option maxRecDepth 8000 in
set_option maxHeartbeats 1000000 in
theorem rfirst_any (w : World) :
    Calls Tryd.prog 76 #[] w fun e w' => e = .returned (.agg (u32s Sha.first.list)) ∧ Below w.heap.size w w' := by
  go_enter Tryd.func76, Tryd.ntmps76
  go_wp2
  refine bodyPost_ret (v := .agg (u32s Sha.first.list)) (results_cell_row rfl _ _ w.heap.size _ _ (0, 0) _ rfl (heap_new_at _ _ _ rfl) Tryd.underlying91 rfl (by kernel_rfl)) rfl ⟨rfl, (Below.refl _ w).alloc (Nat.le_refl _) _⟩
def constParts : List (Nat × Value) := Sha.kTab.zipIdx.map fun x => (x.2, .int .u32 x.1)
theorem built_consts : Tryd.prog.built 116 constParts = some (u32s Sha.kTab) := by kernel_rfl
theorem info64w : (Tryd.prog.info? 116).map (·.size) = some 64 := by kernel_rfl

set_option maxRecDepth 8000 in
set_option maxHeartbeats 1000000 in
theorem const_any (i : Nat) (w : World) (hi : i < 64) :
    Calls Tryd.prog 89 #[.int .i64 i] w fun e w' => e = .returned (.int .u32 (Sha.kTab.getD i 0)) ∧ Below w.heap.size w w' := by
  have h64 : (i : Int) < 64 := by omega
  have hat := u32s_at Sha.kTab i hi
  obtain ⟨K, hK⟩ : ∃ K, u32s Sha.kTab = K := ⟨_, rfl⟩
  rw [hK] at hat
  obtain ⟨x, hx⟩ : ∃ x, Sha.kTab.getD i 0 = x := ⟨_, rfl⟩
  rw [hx] at hat ⊢
  have hbu := built_consts
  rw [hK] at hbu
  have HBU := Lib.hid hbu
  have HI : Hid ((Tryd.prog.info? 116).map (·.size) = some K.size) := Lib.hid (by rw [← hK]; exact info64w)
  have HS : Hid (K.size = 64) := Lib.hid (by rw [← hK]; rfl)
  have H1 : Hid (K.all (·.oneCell') = true) := Lib.hid (by rw [← hK]; exact u32s_one _)
  clear hK hx hbu
  go_enter Tryd.func89, Tryd.ntmps89
  go_wp2_with (first | (refine wpList_build_to (by rfl) _ _ (by rfl) constParts (by first | kernel_rfl | rfl) K HBU.out ?_) | (refine wpList_store_new (by rfl) _ _ _ (by rfl) w.heap.size rfl K (by rfl) (by rfl) _ _ HI.out (by rw [HS.out]; rfl) H1.out ?_))
  go_ret
  exact ⟨rfl, (Below.refl _ w).alloc (Nat.le_refl _) _⟩
end Go.Proofs.YtbjfihbjfoaghaaDoor
