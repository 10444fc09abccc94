/- The chapter's examples. -/
import Derived.Test.YtebjckodfbailaaDoorDigAll
import Derived.Test.YtebjckodfbailaaDoorDigNote
namespace Go.Proofs.YtebjckodfbailaaDoor
open Go.RowKit

theorem Dig.works_put1 (S : List UInt8) (h : S.length = 32) : Dig.putC [] ⟨1, [120], S⟩ = 0 ∧ Dig.putL [] ⟨1, [120], S⟩ = [⟨1, [120], S⟩] := by
  simp [Dig.putC, Dig.putL, Dig.taken, Dig.isTag, h]
theorem Dig.works_put2 (S : List UInt8) (h : S.length = 32) : Dig.putC [⟨1, [120], S⟩] ⟨2, [120], S⟩ = 0 ∧ Dig.putL [⟨1, [120], S⟩] ⟨2, [120], S⟩ = [⟨1, [120], S⟩, ⟨2, [120], S⟩] := by
  simp [Dig.putC, Dig.putL, Dig.taken, Dig.isTag, h]
theorem Dig.works_clash (S : List UInt8) : Dig.clashA [⟨1, [120], S⟩, ⟨2, [120], S⟩] = ⟨1, [120], S⟩ ∧ Dig.clashB [⟨1, [120], S⟩, ⟨2, [120], S⟩] = ⟨2, [120], S⟩ ∧ (Dig.clash [⟨1, [120], S⟩, ⟨2, [120], S⟩]).isSome = true := by
  simp [Dig.clashA, Dig.clashB, Dig.clash, Dig.find]

set_option maxRecDepth 8000 in
set_option maxHeartbeats 1000000 in
theorem works_any (w : World) (hT : Tab w) :
    Calls Tryd.prog 9 #[] w fun e w' => e = .returned (.bool true) ∧ Below w.heap.size w w' := by
  have hs1 := fun w hw => dsum_any 1 [97, 98] w hw (by simp)
  have hs2 := fun w hw => dsum_any 0 [97, 98] w hw (by simp)
  have hs3 := fun w hw => sum_any [97, 110, 121] w hw (by simp)
  have hs4 := fun w hw => sum_any [1, 97, 98] w hw (by simp)
  have e1 : Dig.sum 1 [97, 98] = Sha.sumP [1, 97, 98] := by
    rw [Dig.sum, if_pos (by simp [Dig.isTag])]; rfl
  have e2 : Dig.sumC 1 = 0 := by simp [Dig.sumC, Dig.isTag]
  have e3 : Dig.sumC 0 = 1 := by simp [Dig.sumC, Dig.isTag]
  have l1 := Sha.sumP_length [97, 110, 121]
  have l2 := Sha.sumP_length [1, 97, 98]
  rw [e1, e2] at hs1
  rw [e3] at hs2
  obtain ⟨S, hS⟩ : ∃ S, Sha.sumP [97, 110, 121] = S := ⟨_, rfl⟩
  obtain ⟨R, hR⟩ : ∃ R, Sha.sumP [1, 97, 98] = R := ⟨_, rfl⟩
  obtain ⟨Z, hZ⟩ : ∃ Z, Dig.sum 0 [97, 98] = Z := ⟨_, rfl⟩
  rw [hS] at hs3 l1
  rw [hR] at hs1 hs4 l2
  rw [hZ] at hs2
  have p1 := Dig.works_put1 S l1
  have p2 := Dig.works_put2 S l1
  have p3 := Dig.works_clash S
  have o1 : OkN ⟨1, [120], S⟩ := ⟨by dsimp only; decide, by simp, by simp; omega⟩
  have o2 : OkN ⟨2, [120], S⟩ := ⟨by dsimp only; decide, by simp, by simp; omega⟩
  have q1 := fun g F w hl => put_any ⟨1, [120], S⟩ [] g F w hl o1
  have q2 := fun g F w hl => put_any ⟨2, [120], S⟩ [⟨1, [120], S⟩] g F w hl o2
  have q3 := fun g F w hl => clash_any [⟨1, [120], S⟩, ⟨2, [120], S⟩] g F w hl
  rw [p1.1, p1.2] at q1
  rw [p2.1, p2.2] at q2
  rw [p3.1, p3.2.1, p3.2.2] at q3
  unfold nval at q1 q2 q3
  dsimp only at q1 q2 q3
  have H1 := Lib.hid hs1
  have H2 := Lib.hid hs2
  have H3 := Lib.hid hs3
  have H4 := Lib.hid hs4
  have Q1 := Lib.hid q1
  have Q2 := Lib.hid q2
  have Q3 := Lib.hid q3
  have HT := Lib.hid hT
  have l2' : (R.length : Int) = 32 := by omega
  clear hs1 hs2 hs3 hs4 q1 q2 q3 hT e1 e2 e3 hS hR hZ p1 p2 p3 o1 o2 l1 l2
  go_enter Tryd.func9, Tryd.ntmps9
  go_wp2_with fail
  refine (H1.out _ HT.out).mono ?_
  rintro e w1 ⟨rfl, hb1⟩
  have HB1 := Lib.hid hb1
  clear hb1
  go_wp2_with fail
  refine (H2.out _ (HT.out.below HB1.out)).mono ?_
  rintro e w2 ⟨rfl, hb2⟩
  have HB2 := Lib.hid (bchain HB1.out hb2)
  clear hb2
  go_wp2_with fail
  refine (newLog_any _).mono ?_
  rintro e w3 ⟨g, F, rfl, hF, hl3, hb3⟩
  have HB3 := Lib.hid (bchain HB2.out hb3)
  have HF := Lib.hid (fun k hk => Nat.le_trans HB2.out.size (hF k hk))
  have HL3 := Lib.hid hl3
  clear hb3 hF hl3
  go_wp2_with fail
  refine (H3.out _ (HT.out.below HB3.out)).mono ?_
  rintro e w4 ⟨rfl, hb4⟩
  have HB4 := Lib.hid (bchain HB3.out hb4)
  have HL4 := Lib.hid (HL3.out.below hb4)
  clear hb4
  go_wp2_with fail
  refine (Q1.out g F _ HL4.out).mono ?_
  rintro e w5 ⟨rfl, F1, hF1, hl5, ho5⟩
  have HF1 := Lib.hid (fun k hk => (hF1 k hk).elim (HF.out k) (fun h => Nat.le_trans HB4.out.size h))
  have HB5 := Lib.hid (HB4.out.trans (ho5.below HF.out HB4.out.size))
  have HL5 := Lib.hid hl5
  clear hF1 ho5 hl5
  go_wp2_with fail
  refine (Q2.out g F1 _ HL5.out).mono ?_
  rintro e w6 ⟨rfl, F2, hF2, hl6, ho6⟩
  have HF2 := Lib.hid (fun k hk => (hF2 k hk).elim (HF1.out k) (fun h => Nat.le_trans HB5.out.size h))
  have HB6 := Lib.hid (HB5.out.trans (ho6.below HF1.out HB5.out.size))
  have HL6 := Lib.hid hl6
  clear hF2 ho6 hl6
  go_wp2_with fail
  refine (Q3.out g F2 _ HL6.out).mono ?_
  rintro e w7 ⟨rfl, hb7⟩
  have HB7 := Lib.hid (bchain HB6.out hb7)
  clear hb7
  go_wp2_with fail
  refine (H4.out _ (HT.out.below ((HB7.out.alloc HB7.out.size _).alloc (by have := HB7.out.size; simp; omega) _))).mono ?_
  rintro e w8 ⟨rfl, hb8⟩
  have g1 := (hb8.block w7.heap.size (by simp; omega)).trans (heap_old_at _ (heap_new_at w7 (.cells #[.int .i64 1, .string ⟨#[120]⟩, .string ⟨S.toArray⟩] 35) _ rfl))
  have g2 := (hb8.block (w7.heap.size + 1) (by simp)).trans (heap_new_at (w7.alloc (.cells #[.int .i64 1, .string ⟨#[120]⟩, .string ⟨S.toArray⟩] 35)) (.cells #[.int .i64 2, .string ⟨#[120]⟩, .string ⟨S.toArray⟩] 35) _ (by simp))
  obtain ⟨c0, c1, c2, -, -, -⟩ := cells3 g1
  obtain ⟨d0, d1, d2, -, -, -⟩ := cells3 g2
  have HB8 := Lib.hid (((HB7.out.alloc HB7.out.size (.cells #[.int .i64 1, .string ⟨#[120]⟩, .string ⟨S.toArray⟩] 35)).alloc (by have := HB7.out.size; simp; omega) (.cells #[.int .i64 2, .string ⟨#[120]⟩, .string ⟨S.toArray⟩] 35)).trans (hb8.mono (by have := HB7.out.size; simp; omega)))
  clear hb8 g1 g2
  go_wp2
  go_ret
  exact ⟨rfl, HB8.out⟩
end Go.Proofs.YtebjckodfbailaaDoor
