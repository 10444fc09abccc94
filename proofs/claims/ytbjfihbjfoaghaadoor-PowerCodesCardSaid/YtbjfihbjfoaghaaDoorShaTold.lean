/- Words as bytes, by four and four: the document's Told and the law's told. -/
import Derived.Test.YtbjfihbjfoaghaaDoorShaSum
import Derived.Test.YtbjfihbjfoaghaaDoorShaSumMath
namespace Go.Proofs.YtbjfihbjfoaghaaDoor
open Go.RowKit
attribute [local go_sem ↓] Go.wp_at_zero Go.wp_at_succ

namespace Sha
def tell4 (x : Int) : List UInt8 := [byteOf (x / 16777216), byteOf (x / 65536), byteOf (x / 256), byteOf x]
def tell (L : List Int) : Nat → List UInt8
  | 0 => []
  | k + 1 => tell L k ++ tell4 (L.getD k 0)
theorem tell_length (L : List Int) (k : Nat) : (tell L k).length = 4 * k := by
  induction k with
  | zero => rfl
  | succ k ih => simp [tell, ih, tell4]; omega
theorem set4 (A B : List UInt8) (x : Int) (n : Nat) (hA : A.length = n) : ((((A ++ 0 :: 0 :: 0 :: 0 :: B).set n (byteOf (x / 16777216))).set (n + 1) (byteOf (x / 65536))).set (n + 2) (byteOf (x / 256))).set (n + 3) (byteOf x) = (A ++ tell4 x) ++ B := by
  subst hA
  simp [tell4]
theorem joinFill_tell (L : List Int) (k : Nat) (hk : k ≤ 8) : joinFill L k = tell L k ++ List.replicate (32 - 4 * k) 0 := by
  induction k with
  | zero => rfl
  | succ k ih =>
    rw [joinFill, ih (by omega), show 32 - 4 * k = (32 - 4 * (k + 1)) + 1 + 1 + 1 + 1 by omega]
    simp only [List.replicate_succ]
    rw [set4 _ _ _ _ (tell_length L k)]
    rfl
theorem tell_is (s : St) : tell s.list 8 = joinP s := by
  rw [joinP, joinFill_tell _ 8 (by omega)]
  simp
end Sha
theorem conv_four2 (w : World) (x0 x1 x2 x3 : Int) : (convert 64 9 (.slice (some ⟨w.heap.size, 0, none⟩) 4 4)).run Tryd.prog (w.alloc (.cells #[.int .u8 (x0 % 256), .int .u8 (x1 % 256), .int .u8 (x2 % 256), .int .u8 (x3 % 256)] 5)).drew = .ok (.string ⟨[Sha.byteOf x0, Sha.byteOf x1, Sha.byteOf x2, Sha.byteOf x3].toArray⟩) (w.alloc (.cells #[.int .u8 (x0 % 256), .int .u8 (x1 % 256), .int .u8 (x2 % 256), .int .u8 (x3 % 256)] 5)).drew := by
  have hg : (w.alloc (.cells #[.int .u8 (x0 % 256), .int .u8 (x1 % 256), .int .u8 (x2 % 256), .int .u8 (x3 % 256)] 5)).drew.heap[w.heap.size]? = _ := heap_alloc_new w (.cells #[.int .u8 (x0 % 256), .int .u8 (x1 % 256), .int .u8 (x2 % 256), .int .u8 (x3 % 256)] 5)
  refine run_convert_bytes_back (P := Tryd.prog) _ 64 9 5 ⟨w.heap.size, 0, none⟩ 4 [Sha.byteOf x0, Sha.byteOf x1, Sha.byteOf x2, Sha.byteOf x3] Tryd.underlying64 Tryd.underlying5 Tryd.underlying9 ?_
  intro j hj
  rw [Addr.add_mid, Nat.zero_add, cell_of_row _ _ j _ _ _ hg]
  match j, hj with
  | 0, _ => simp [Sha.byteOf_toNat]
  | 1, _ => simp [Sha.byteOf_toNat]
  | 2, _ => simp [Sha.byteOf_toNat]
  | 3, _ => simp [Sha.byteOf_toNat]

set_option maxRecDepth 8000 in
set_option maxHeartbeats 1000000 in
theorem rtold_any (s : Sha.St) (w : World) :
    Calls Tryd.prog 78 #[.agg (u32s s.list)] w fun e w' => e = .returned (.string ⟨(Sha.joinP s).toArray⟩) ∧ Below w.heap.size w w' := by
  obtain ⟨L, hL⟩ : ∃ L, s.list = L := ⟨_, rfl⟩
  have hLl : L.length = 8 := by rw [← hL]; rfl
  have hj : Sha.tell L 8 = Sha.joinP s := by rw [← hL]; exact Sha.tell_is s
  rw [hL]
  have HJ := Lib.hid hj
  have HLL := Lib.hid hLl
  obtain ⟨A, hA⟩ : ∃ A, u32s L = A := ⟨_, rfl⟩
  have HA := Lib.hid hA
  rw [hA]
  clear hA hj hLl hL
  go_enter Tryd.func78, Tryd.ntmps78
  go_wp2
  go_loopw [3, 4] (fun t i wr => ∃ k : Nat, k ≤ 8 ∧ i = .int .i64 k ∧ t = .string ⟨(Sha.tell L k).toArray⟩ ∧ Below w.heap.size w wr ∧ wr.heap[w.heap.size]? = some (.cells A 91 (0, 0))) (fun _ i _ => 8 - (intOf i).toNat)
  case atStart => exact ⟨0, by omega, rfl, rfl, (Below.refl _ w).alloc (Nat.le_refl _) _, heap_new_at _ _ _ rfl⟩
  case round =>
    obtain ⟨k, hk, rfl, rfl, hb, hg⟩ := hrel
    have HB := Lib.hid hb
    have HG := Lib.hid hg
    by_cases hlt : k < 8
    · have c0 : wr.cell? ⟨w.heap.size, k, none⟩ = some (.int .u32 (L.getD k 0)) := by
        rw [cell_of_row wr _ k _ _ _ hg, ← HA.out]; exact u32s_at L k (by rw [HLL.out]; exact hlt)
      have hn : Sha.tell L (k + 1) = Sha.tell L k ++ Sha.tell4 (L.getD k 0) := rfl
      have hXl := Sha.tell_length L k
      obtain ⟨x, hx⟩ : ∃ x, L.getD k 0 = x := ⟨_, rfl⟩
      obtain ⟨X, hX⟩ : ∃ X, Sha.tell L k = X := ⟨_, rfl⟩
      obtain ⟨Y, hY⟩ : ∃ Y, Sha.tell L (k + 1) = Y := ⟨_, rfl⟩
      rw [hx] at c0 hn
      rw [hX] at hXl hn ⊢
      rw [hY] at hn
      have hcm := cat_mk X (Sha.tell4 x)
      rw [← hn] at hcm
      unfold Sha.tell4 at hcm
      have kc := fun w => conv_four2 w (x / 16777216) (x / 65536) (x / 256) x
      have hxl : X.length ≤ 32 := by omega
      have hx4 : ¬ (9223372036854775807 < X.length + 4) := by omega
      have HY := Lib.hid hY
      have hlw := lt_of_heap hg
      have hk8 : (k : Int) < 8 := by omega
      have hk0 : (0 : Int) ≤ (k : Int) := by omega
      clear hb hg hx hX hY hn hXl
      go_wp2
      go_region
      go_wp2
      go_roundw
      case rel => exact ⟨k + 1, by omega, by go_num, by rw [HY.out], (HB.out.alloc HB.out.size _).drew, heap_old_at _ HG.out⟩
      case measure => simp [intOf]; omega
    · obtain rfl : k = 8 := by omega
      have hno : ¬ ((8 : Nat) : Int) < 8 := by omega
      clear hlt hk hb hg
      go_wp2
      go_ret
      exact ⟨by rw [HJ.out]; rfl, HB.out⟩
end Go.Proofs.YtbjfihbjfoaghaaDoor
