/- The chapter's examples. -/
import Derived.Test.YtbjfihbjfoaghaaDoorPowOf
import Derived.Test.YtbjfihbjfoaghaaDoorPowEnc
namespace Go.Proofs.YtbjfihbjfoaghaaDoor
open Go.RowKit
open Go.Proofs.YtbjfihbjfoaghaaDoor.Pw (M)

def Pw.four : List M := [⟨[97], 1⟩, ⟨[98], 1⟩, ⟨[99], 1⟩, ⟨[100], 1⟩]
theorem Pw.four_ok : Pw.okL Pw.four = true := by decide +kernel
theorem mems_four (w : World) : Mems (w.alloc (.cells #[.string ⟨#[97]⟩, .int .i64 1, .string ⟨#[98]⟩, .int .i64 1, .string ⟨#[99]⟩, .int .i64 1, .string ⟨#[100]⟩, .int .i64 1] 43)) (.slice (some ⟨w.heap.size, 0, none⟩) 4 4) Pw.four := by
  have h : (w.alloc (.cells #[.string ⟨#[97]⟩, .int .i64 1, .string ⟨#[98]⟩, .int .i64 1, .string ⟨#[99]⟩, .int .i64 1, .string ⟨#[100]⟩, .int .i64 1] 43)).ownsRow w.heap.size 43 2 (.slice (some ⟨w.heap.size, 0, none⟩) 4 4) 4 (mrows Pw.four) :=
    ⟨rfl, Or.inr ⟨w.heap.size, 4, _, rfl, Nat.le_refl _, heap_new_at _ _ _ rfl, Nat.le_refl _, by unfold maxLen; omega, rfl, rfl⟩⟩
  exact Mems.own (L := Pw.four) h
theorem strs_three (w : World) (n : Nat) (hn : n = w.heap.size) : Strs (w.alloc (.cells #[.string ⟨#[98]⟩, .string ⟨#[122]⟩, .string ⟨#[98]⟩] 9)) (.slice (some ⟨n, 0, none⟩) 3 3) [[98], [122], [98]] := by
  subst hn
  refine ⟨_, 3, rfl, fun i hi => ⟨_, rfl, ?_⟩⟩
  rw [Addr.add_mid, Nat.zero_add, cell_of_row _ _ _ _ _ _ (heap_new_at w _ _ rfl)]
  match i, hi with
  | 0, _ => rfl
  | 1, _ => rfl
  | 2, _ => rfl

set_option maxRecDepth 8000 in
set_option maxHeartbeats 2000000 in
theorem works_any (w : World) (hT : Tab w) : Calls Tryd.prog 8 #[] w fun e w' => e = .returned (.bool true) ∧ Below w.heap.size w w' := by
  have HT := Lib.hid hT
  have HM := Lib.hid (mems_four w)
  have HB0 : Hid (Below w.heap.size w (w.alloc (.cells #[.string ⟨#[97]⟩, .int .i64 1, .string ⟨#[98]⟩, .int .i64 1, .string ⟨#[99]⟩, .int .i64 1, .string ⟨#[100]⟩, .int .i64 1] 43))) := Lib.hid ((Below.refl _ w).alloc (Nat.le_refl _) _)
  have H1 := Lib.hid (fun v w h => check_any Pw.four v w h)
  have H2 := Lib.hid (fun v w h => total_any Pw.four v w h)
  have H3 := Lib.hid (fun v w h => quorum_any Pw.four v w h)
  have H4 := Lib.hid (fun v w h => most_any Pw.four v w h)
  have H5 := Lib.hid (fun v u w h hu => of_any Pw.four v [[98], [122], [98]] u w h hu (by intro s hs; simp at hs; rcases hs with rfl | rfl | rfl <;> simp) (by simp))
  have H6 := Lib.hid (fun v w h hT => digest_any Pw.four v w h hT)
  have hdl := Pw.digL_length Pw.four
  rw [Pw.four_ok, if_pos rfl] at hdl
  rw [show Pw.checkC Pw.four = 0 by rw [Pw.checkC_ok Pw.four_ok]] at H1
  rw [show Pw.tot Pw.four = 4 by decide +kernel] at H2
  rw [show Pw.quo Pw.four = 3 by decide +kernel] at H3
  rw [show Pw.mos Pw.four = 1 by decide +kernel] at H4
  rw [show Pw.ofL Pw.four [[98], [122], [98]] = 1 by decide +kernel] at H5
  obtain ⟨D, hD⟩ : ∃ D, Pw.digL Pw.four = D := ⟨_, rfl⟩
  rw [hD] at H6 hdl
  clear hT hD
  go_enter Tryd.func8, Tryd.ntmps8
  go_wp2_with fail
  refine (H1.out _ _ HM.out).mono ?_
  rintro e w1 ⟨rfl, hb1⟩
  have HM1 := Lib.hid (HM.out.below hb1)
  have HB1 := Lib.hid (bchain HB0.out hb1)
  clear hb1
  go_wp2_with fail
  refine (H2.out _ _ HM1.out).mono ?_
  rintro e w2 ⟨rfl, hb2⟩
  have HM2 := Lib.hid (HM1.out.below hb2)
  have HB2 := Lib.hid (bchain HB1.out hb2)
  clear hb2
  go_wp2_with fail
  refine (H3.out _ _ HM2.out).mono ?_
  rintro e w3 ⟨rfl, hb3⟩
  have HM3 := Lib.hid (HM2.out.below hb3)
  have HB3 := Lib.hid (bchain HB2.out hb3)
  clear hb3
  go_wp2_with fail
  refine (H4.out _ _ HM3.out).mono ?_
  rintro e w4 ⟨rfl, hb4⟩
  have HM4 := Lib.hid (HM3.out.below hb4)
  have HB4 := Lib.hid (bchain HB3.out hb4)
  clear hb4
  go_wp2_with fail
  have hb4a : Below w4.heap.size w4 (w4.alloc (.cells #[.string ⟨#[98]⟩, .string ⟨#[122]⟩, .string ⟨#[98]⟩] 9)) := (Below.refl _ w4).alloc (Nat.le_refl _) _
  refine (H5.out _ _ _ (HM4.out.below hb4a) (strs_three w4 _ rfl)).mono ?_
  rintro e w5 ⟨rfl, hb5⟩
  have HM5 := Lib.hid ((HM4.out.below hb4a).below hb5)
  have HB5 := Lib.hid (bchain (bchain HB4.out hb4a) hb5)
  clear hb5 hb4a
  go_wp2_with fail
  refine (H6.out _ _ HM5.out (HT.out.below HB5.out)).mono ?_
  rintro e w6 ⟨rfl, hb6⟩
  have HB6 := Lib.hid (bchain HB5.out hb6)
  clear hb6
  go_wp2
  go_ret
  exact ⟨rfl, HB6.out⟩
end Go.Proofs.YtbjfihbjfoaghaaDoor
