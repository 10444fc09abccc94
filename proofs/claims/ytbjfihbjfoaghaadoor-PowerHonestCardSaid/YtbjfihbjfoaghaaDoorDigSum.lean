/- digest.Sum. -/
import Derived.Test.YtbjfihbjfoaghaaDoorDigMath
import Derived.Test.YtbjfihbjfoaghaaDoorStrClone
import Derived.Test.YtbjfihbjfoaghaaDoorShaWorks
namespace Go.Proofs.YtbjfihbjfoaghaaDoor
open Go.RowKit

theorem isTag_any (t : Int) (w : World) :
    Calls Tryd.prog 57 #[.int .i64 t] w fun e w' => e = .returned (.bool (Dig.isTag t)) ∧ w' = w := by
  unfold Dig.isTag
  by_cases h1 : 1 ≤ t
  · by_cases h2 : t ≤ 255
    · go_enter Tryd.func57, Tryd.ntmps57
      go_wp2
      go_ret
      simp [h1, h2]
    · go_enter Tryd.func57, Tryd.ntmps57
      go_wp2
      go_ret
      simp [h2]
  · go_enter Tryd.func57, Tryd.ntmps57
    go_wp2
    go_ret
    simp
    omega

/-- What Sum answers. -/
def Dig.sum (t : Int) (s : List UInt8) : List UInt8 := if Dig.isTag t then Sha.sumP (Sha.byteOf t :: s) else []
def Dig.sumC (t : Int) : Int := if Dig.isTag t then 0 else 1
theorem Dig.sum_length (t : Int) (s : List UInt8) : (Dig.sum t s).length ≤ 32 := by
  unfold Dig.sum; split
  · rw [Sha.sumP_length]; omega
  · simp
theorem conv_tag (w : World) (x : Int) : (convert 64 9 (.slice (some ⟨w.heap.size, 0, none⟩) 1 1)).run Tryd.prog (w.alloc (.cells #[.int .u8 (x % 256)] 5)) = .ok (.string ⟨[Sha.byteOf x].toArray⟩) (w.alloc (.cells #[.int .u8 (x % 256)] 5)) := by
  have hg := heap_alloc_new w (.cells #[.int .u8 (x % 256)] 5)
  refine run_convert_bytes_back (P := Tryd.prog) _ 64 9 5 ⟨w.heap.size, 0, none⟩ 1 [Sha.byteOf x] Tryd.underlying64 Tryd.underlying5 Tryd.underlying9 ?_
  intro j hj
  rw [Addr.add_mid, Nat.zero_add, cell_of_row _ _ j _ _ _ hg]
  match j, hj with
  | 0, _ => simp [Sha.byteOf_toNat]

set_option maxRecDepth 8000 in
set_option maxHeartbeats 1000000 in
theorem dsum_any (t : Int) (s : List UInt8) (w : World) (hT : Tab w) (hs : s.length ≤ 140737488351232) :
    Calls Tryd.prog 46 #[.int .i64 t, .string ⟨s.toArray⟩] w fun e w' => e = .returned (.tuple #[.string ⟨(Dig.sum t s).toArray⟩, .int .i64 (Dig.sumC t)]) ∧ Below w.heap.size w w' := by
  unfold Dig.sum Dig.sumC
  by_cases ht : Dig.isTag t = true
  · have HT := Lib.hid ht
    have HTB := Lib.hid hT
    rw [if_pos ht, if_pos ht]
    have HS := Lib.hid (fun w hw => sum_any (Sha.byteOf t :: s) w hw (by simp; omega))
    obtain ⟨R, hR⟩ : ∃ R, Sha.sumP (Sha.byteOf t :: s) = R := ⟨_, rfl⟩
    rw [hR] at HS ⊢
    have hcm := cat_mk [Sha.byteOf t] s
    have kc := fun w => conv_tag w t
    rw [List.singleton_append] at hcm
    clear ht hR hT
    go_enter Tryd.func46, Tryd.ntmps46
    go_wp2_with fail
    refine (isTag_any t _).mono ?_
    rintro e w1 ⟨rfl, rfl⟩
    rw [HT.out]
    have hB1 : Below w1.heap.size w1 (w1.alloc (.cells #[.int .u8 (t % 256)] 5)) := (Below.refl _ w1).alloc (Nat.le_refl _) _
    go_wp2_with fail
    refine (HS.out _ (HTB.out.below hB1)).mono ?_
    rintro e w2 ⟨rfl, hb2⟩
    go_wp2
    go_ret2
    exact ⟨rfl, bchain hB1 hb2⟩
  · have hf : Dig.isTag t = false := by simpa using ht
    have HF := Lib.hid hf
    rw [if_neg ht, if_neg ht]
    clear ht hf
    go_enter Tryd.func46, Tryd.ntmps46
    go_wp2_with fail
    refine (isTag_any t _).mono ?_
    rintro e w1 ⟨rfl, rfl⟩
    rw [HF.out]
    go_wp2
    go_ret2
    exact ⟨rfl, Below.refl _ _⟩
end Go.Proofs.YtbjfihbjfoaghaaDoor
