/- The chapter's example. -/
import Derived.Test.YteolephlajhghaaOraSign
import Derived.Test.YteolephlajhghaaOraAll
namespace Go.Proofs.Yteolephlajhghaa
open Go.RowKit
open Go.Proofs.Yteolephlajhghaa.Ora (K Sig)

/-- A step that signs, in a table of the call's own. -/
theorem bsign {B m : Nat} {w w1 w2 : World} (hb : Below B w w1) (hm : B ≤ m) (hB : B ≤ w.heap.size) (ho : Out (fun i => i = m) w1 w2) : Below B w w2 :=
  hb.trans (ho.below (fun _ hi => hi ▸ hm) (Nat.le_trans hB hb.size))
def oraMark : List UInt8 := [97, 32, 109, 97, 114, 107, 44, 32, 116, 104, 105, 114, 116, 121, 45, 116, 119, 111, 32, 98, 121, 116, 101, 115, 32, 111, 102, 32, 105, 116, 46, 46]
theorem works_p1 : Ora.signP [] ([97], oraMark) true = ([(([97], oraMark), true)], 0) := by decide +kernel
theorem works_p2 : Ora.signP [(([97], oraMark), true)] ([97], oraMark) false = ([(([97], oraMark), false)], 0) := by decide +kernel
theorem works_p3 : Ora.signP [(([97], oraMark), false)] ([], oraMark) true = ([(([97], oraMark), false)], 1) := by decide +kernel
theorem works_l1 : (Ora.look [(([97], oraMark), false)] ([97], oraMark)).isSome = true := by decide +kernel
theorem works_l2 : (Ora.look [(([97], oraMark), false)] ([98], oraMark)).isSome = false := by decide +kernel
theorem works_h1 : Ora.honP [(([97], oraMark), false)] [97] = false := by decide +kernel
theorem works_h2 : Ora.honP [(([97], oraMark), false)] [98] = true := by decide +kernel
theorem works_k (x : List UInt8) (h : x.length ≤ 6) : OkK (x, oraMark) := ⟨by dsimp only; omega, show oraMark.length ≤ 140737488351232 by decide +kernel⟩

set_option maxRecDepth 8000 in
set_option maxHeartbeats 1000000 in
theorem works_any (w : World) : Calls Try.prog 12 #[] w fun e w' => e = .returned (.bool true) ∧ Below w.heap.size w w' := by
  have p1 := fun g m w ht => sign_any g m [] ([97], oraMark) true w ht (works_k _ (by simp))
  have p2 := fun g m w ht => sign_any g m [(([97], oraMark), true)] ([97], oraMark) false w ht (works_k _ (by simp))
  have p3 := fun g m w ht => sign_any g m [(([97], oraMark), false)] ([], oraMark) true w ht (works_k _ (by simp))
  unfold SignPost at p1 p2 p3
  rw [works_p1] at p1
  rw [works_p2] at p2
  rw [works_p3] at p3
  dsimp only at p1 p2 p3
  have q1 := fun g m w ht => signed_any g m [(([97], oraMark), false)] ([97], oraMark) w ht (works_k _ (by simp))
  have q2 := fun g m w ht => signed_any g m [(([97], oraMark), false)] ([98], oraMark) w ht (works_k _ (by simp))
  rw [works_l1] at q1
  rw [works_l2] at q2
  have r1 := fun g m w ht => honest_any g m [(([97], oraMark), false)] [97] w ht
  have r2 := fun g m w ht => honest_any g m [(([97], oraMark), false)] [98] w ht
  rw [works_h1] at r1
  rw [works_h2] at r2
  have P1 := Lib.hid p1
  have P2 := Lib.hid p2
  have P3 := Lib.hid p3
  have Q1 := Lib.hid q1
  have Q2 := Lib.hid q2
  have R1 := Lib.hid r1
  have R2 := Lib.hid r2
  clear p1 p2 p3 q1 q2 r1 r2
  go_enter Try.func12, Try.ntmps12
  go_wp2_with fail
  refine (new_any _).mono ?_
  rintro e w1 ⟨g, m, rfl, hg, hm, ht, hb⟩
  have HT := Lib.hid ht
  have HB := Lib.hid hb
  have HM := Lib.hid hm
  clear ht hb hg hm
  go_wp2_with fail
  refine (P1.out g m _ HT.out).mono ?_
  rintro e w2 ⟨rfl, ht2, ho2⟩
  have HT2 := Lib.hid ht2
  have HB2 := Lib.hid (bsign HB.out HM.out (Nat.le_refl _) ho2)
  clear ht2 ho2
  go_wp2_with fail
  refine (P2.out g m _ HT2.out).mono ?_
  rintro e w3 ⟨rfl, ht3, ho3⟩
  have HT3 := Lib.hid ht3
  have HB3 := Lib.hid (bsign HB2.out HM.out (Nat.le_refl _) ho3)
  clear ht3 ho3
  go_wp2_with fail
  refine (Q1.out g m _ HT3.out).mono ?_
  rintro e w4 ⟨rfl, hb4⟩
  have HT4 := Lib.hid (HT3.out.below hb4)
  have HB4 := Lib.hid (HB3.out.trans (hb4.mono HB3.out.size))
  clear hb4
  go_wp2_with fail
  refine (Q2.out g m _ HT4.out).mono ?_
  rintro e w5 ⟨rfl, hb5⟩
  have HT5 := Lib.hid (HT4.out.below hb5)
  have HB5 := Lib.hid (HB4.out.trans (hb5.mono HB4.out.size))
  clear hb5
  go_wp2_with fail
  refine (R1.out g m _ HT5.out).mono ?_
  rintro e w6 ⟨rfl, hb6⟩
  have HT6 := Lib.hid (HT5.out.below hb6)
  have HB6 := Lib.hid (HB5.out.trans (hb6.mono HB5.out.size))
  clear hb6
  go_wp2_with fail
  refine (R2.out g m _ HT6.out).mono ?_
  rintro e w7 ⟨rfl, hb7⟩
  have HT7 := Lib.hid (HT6.out.below hb7)
  have HB7 := Lib.hid (HB6.out.trans (hb7.mono HB6.out.size))
  clear hb7
  go_wp2_with fail
  refine (all_any g m _ _ HT7.out (by simp)).mono ?_
  rintro e w8 ⟨s, rfl, hown, hb8⟩
  have HT8 := Lib.hid (HT7.out.below hb8)
  have HB8 := Lib.hid (HB7.out.trans (hb8.mono HB7.out.size))
  obtain ⟨A, cap, rfl⟩ := own_form hown
  clear hb8 hown
  go_wp2_with fail
  refine (P3.out g m _ HT8.out).mono ?_
  rintro e w9 ⟨rfl, ht9, ho9⟩
  have HB9 := Lib.hid (bsign HB8.out HM.out (Nat.le_refl _) ho9)
  clear ht9 ho9
  go_wp2
  go_ret
  exact ⟨rfl, HB9.out⟩
end Go.Proofs.Yteolephlajhghaa
