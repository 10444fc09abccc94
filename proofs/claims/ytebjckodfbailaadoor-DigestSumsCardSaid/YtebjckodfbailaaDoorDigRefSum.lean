/- The document's Tagged, Sum, Many. -/
import Derived.Test.YtebjckodfbailaaDoorDigNote
import Derived.Test.YtebjckodfbailaaDoorShaRefSum
import Derived.Test.YtebjckodfbailaaDoorCodeRef
namespace Go.Proofs.YtebjckodfbailaaDoor
open Go.RowKit

theorem Code.len_le_texts (L : List (List UInt8)) : L.length ≤ (Code.textsL L).length := by
  induction L with
  | nil => exact Nat.zero_le _
  | cons s L ih =>
    have h4 := Code.textL_length s
    have e1 : Code.textsL (s :: L) = Code.textL s ++ Code.textsL L := by simp [Code.textsL]
    rw [e1, List.length_append, List.length_cons]
    omega

set_option maxRecDepth 8000 in
theorem rTagged_any (t : Int) (s : List UInt8) (w : World) (hs : s.length ≤ 999) :
    Calls Tryd.prog 25 #[.int .i64 t, .string ⟨s.toArray⟩] w fun e w' => e = .returned (.string ⟨(Sha.sumP (Sha.byteOf t :: s)).toArray⟩) ∧ Below w.heap.size w w' := by
  have HS := Lib.hid (fun w => rsum_any (Sha.byteOf t :: s) w (by simp; omega))
  obtain ⟨R, hR⟩ : ∃ R, Sha.sumP (Sha.byteOf t :: s) = R := ⟨_, rfl⟩
  rw [hR] at HS ⊢
  have hcm := cat_mk [Sha.byteOf t] s
  have kc := fun w => conv_tag w t
  rw [List.singleton_append] at hcm
  clear hR
  go_enter Tryd.func25, Tryd.ntmps25
  go_wp2_with fail
  have hB1 : Below w.heap.size w (w.alloc (.cells #[.int .u8 (t % 256)] 5)) := (Below.refl _ w).alloc (Nat.le_refl _) _
  refine (HS.out _).mono ?_
  rintro e w2 ⟨rfl, hb2⟩
  go_wp2
  go_ret
  exact ⟨rfl, bchain hB1 hb2⟩

set_option maxRecDepth 8000 in
theorem rSum04_any (t : Int) (s : List UInt8) (w : World) (hs : s.length ≤ 999) :
    Calls Tryd.prog 11 #[.int .i64 t, .string ⟨s.toArray⟩] w fun e w' => e = .returned (.tuple #[.string ⟨(Dig.sum t s).toArray⟩, .int .i64 (Dig.sumC t)]) ∧ Below w.heap.size w w' := by
  unfold Dig.sum Dig.sumC
  have HS := Lib.hid (fun w => rTagged_any t s w hs)
  obtain ⟨R, hR⟩ : ∃ R, Sha.sumP (Sha.byteOf t :: s) = R := ⟨_, rfl⟩
  rw [hR] at HS ⊢
  clear hR
  by_cases h1 : t < 1
  · have hf : Dig.isTag t = false := by simp [Dig.isTag]; omega
    rw [hf]
    have h1d : decide (t < 1) = true := decide_eq_true h1
    clear hf
    go_enter Tryd.func11, Tryd.ntmps11
    go_wp2
    go_ret2
    exact ⟨rfl, Below.refl _ _⟩
  · have h1d : decide (t < 1) = false := decide_eq_false h1
    by_cases h2 : 255 < t
    · have hf : Dig.isTag t = false := by simp [Dig.isTag]; omega
      rw [hf]
      have h2d : decide (255 < t) = true := decide_eq_true h2
      clear hf
      go_enter Tryd.func11, Tryd.ntmps11
      go_wp2
      go_ret2
      exact ⟨rfl, Below.refl _ _⟩
    · have hf : Dig.isTag t = true := by simp [Dig.isTag]; omega
      rw [hf]
      have h2d : decide (255 < t) = false := decide_eq_false h2
      clear hf
      go_enter Tryd.func11, Tryd.ntmps11
      go_wp2_with fail
      refine (HS.out _).mono ?_
      rintro e w2 ⟨rfl, hb2⟩
      go_wp2
      go_ret2
      exact ⟨rfl, hb2⟩

set_option maxRecDepth 8000 in
theorem rMany04_any (t : Int) (L : List (List UInt8)) (v : Value) (w : World) (hs : Strs w v L) (hl : (Code.listL L).length ≤ 999) :
    Calls Tryd.prog 13 #[.int .i64 t, v] w fun e w' => e = .returned (.tuple #[.string ⟨(Dig.sum t (Code.listL L)).toArray⟩, .int .i64 (Dig.sumC t)]) ∧ Below w.heap.size w w' := by
  have HS := Lib.hid hs
  have htx : (Code.textsL L).length ≤ 999 := by simp only [Code.listL, List.length_append] at hl; omega
  have hll : L.length ≤ 999 := by
    have := Code.len_le_texts L
    omega
  have HD := Lib.hid (fun w => rSum04_any t (Code.listL L) w hl)
  obtain ⟨R, hR⟩ : ∃ R, Dig.sum t (Code.listL L) = R := ⟨_, rfl⟩
  obtain ⟨C, hC⟩ : ∃ C, Dig.sumC t = C := ⟨_, rfl⟩
  rw [hR, hC] at HD ⊢
  clear hs hR hC hl
  go_enter Tryd.func13, Tryd.ntmps13
  go_wp2_with fail
  refine (rList_any L _ w HS.out (by omega) (by omega)).mono ?_
  rintro e w1 ⟨rfl, hb1⟩
  go_wp2_with fail
  refine (HD.out _).mono ?_
  rintro e w2 ⟨rfl, hb2⟩
  go_wp2
  go_ret2
  exact ⟨rfl, bchain hb1 hb2⟩
end Go.Proofs.YtebjckodfbailaaDoor
