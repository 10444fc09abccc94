/- The document's Tagged. -/
import Derived.Test.YtbjfihbjfoaghaaDoorDigSum
import Derived.Test.YtbjfihbjfoaghaaDoorShaRefSum
namespace Go.Proofs.YtbjfihbjfoaghaaDoor
open Go.RowKit

set_option maxRecDepth 8000 in
theorem rTagged_any (t : Int) (s : List UInt8) (w : World) (hs : s.length ≤ 999) :
    Calls Tryd.prog 47 #[.int .i64 t, .string ⟨s.toArray⟩] w fun e w' => e = .returned (.string ⟨(Sha.sumP (Sha.byteOf t :: s)).toArray⟩) ∧ Below w.heap.size w w' := by
  have HS := Lib.hid (fun w => rsum_any (Sha.byteOf t :: s) w (by simp; omega))
  obtain ⟨R, hR⟩ : ∃ R, Sha.sumP (Sha.byteOf t :: s) = R := ⟨_, rfl⟩
  rw [hR] at HS ⊢
  have hcm := cat_mk [Sha.byteOf t] s
  have kc := fun w => conv_tag w t
  rw [List.singleton_append] at hcm
  clear hR
  go_enter Tryd.func47, Tryd.ntmps47
  go_wp2_with fail
  have hB1 : Below w.heap.size w (w.alloc (.cells #[.int .u8 (t % 256)] 5)) := (Below.refl _ w).alloc (Nat.le_refl _) _
  refine (HS.out _).mono ?_
  rintro e w2 ⟨rfl, hb2⟩
  go_wp2
  go_ret
  exact ⟨rfl, bchain hB1 hb2⟩

end Go.Proofs.YtbjfihbjfoaghaaDoor
