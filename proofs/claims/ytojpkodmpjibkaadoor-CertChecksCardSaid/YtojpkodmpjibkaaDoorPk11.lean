/- CertWorks, CodeRef, PowRefRead, CodeRefList -/
import Derived.Test.YtojpkodmpjibkaaDoorPk07
import Derived.Test.YtojpkodmpjibkaaDoorPk09
import Derived.Test.YtojpkodmpjibkaaDoorPk10
import Derived.KernelRfl
import Derived.Test.YtojpkodmpjibkaaDoorPk02
import Derived.WalkSpells
import Derived.WalkLawsBesides
import Derived.Deep.RegionLaw
import Derived.Deep.QuietTactic
import Derived.BigQuiet
namespace Go.Proofs.YtojpkodmpjibkaaDoor.Ct
open Go.Proofs.YtojpkodmpjibkaaDoor.Pw (S M)
open Go.Proofs.YtojpkodmpjibkaaDoor.Ora (Sig)
def wD : S := [97, 32, 100, 105, 103, 101, 115, 116, 44, 32, 116, 104, 105, 114, 116, 121, 45, 116, 119, 111, 32, 98, 121, 116, 101, 115, 32, 111, 102, 32, 105, 116]
def wS : List M := [⟨[97], 1⟩, ⟨[98], 1⟩, ⟨[99], 1⟩, ⟨[100], 1⟩]
set_option maxRecDepth 100000 in
theorem w_first : ((markP 5 wD).take 1 == (markP 6 wD).take 1) = false := by kernel_rfl
theorem w_ne : markP 6 wD ≠ markP 5 wD := by
  intro h
  have := w_first
  rw [h] at this
  simp at this
def wT1 (m : S) : List Sig := [(([97], m), true)]
def wT2 (m : S) : List Sig := [(([97], m), true), (([98], m), true)]
def wT3 (m : S) : List Sig := [(([97], m), true), (([98], m), true), (([100], m), true)]
theorem w_p1 (m : S) (h : m.length = 32) : Ora.signP [] ([97], m) true = (wT1 m, 0) := by
  simp [Ora.signP, Ora.look, Ora.put, wT1, h]
theorem w_p2 (m : S) (h : m.length = 32) : Ora.signP (wT1 m) ([98], m) true = (wT2 m, 0) := by
  have e : ([97] : List UInt8) ≤ [98] := by decide
  simp [Ora.signP, Ora.look, Ora.put, wT1, wT2, h, Ora.kLt, e]
theorem w_p3 (m : S) (h : m.length = 32) : Ora.signP (wT2 m) ([100], m) true = (wT3 m, 0) := by
  have e : ¬ (([100] : List UInt8) < [97]) := by decide
  have f : ¬ (([100] : List UInt8) < [98]) := by decide
  simp [Ora.signP, Ora.look, Ora.put, wT2, wT3, h, Ora.kLt, e, f]
theorem w_may2 : may ⟨wD, [[97], [98]]⟩ = true := by decide +kernel
theorem w_may3 : may ⟨wD, [[97], [98], [100]]⟩ = true := by decide +kernel
theorem w_ok : Pw.okL wS = true := by decide +kernel
theorem w_c1 : checkP 5 wS ⟨wD, [[97], [98]]⟩ (wT2 (markP 5 wD)) = 71 := by
  rw [check71 (by decide) w_ok w_may2 (by intro s hs; simp at hs; rcases hs with rfl | rfl <;> simp [names, wS]) (by intro s hs; simp at hs; rcases hs with rfl | rfl <;> simp [signedBy, wT2, Ora.look])]
  decide +kernel
theorem w_gs : gatherS 5 wS wD (wT3 (markP 5 wD)) = [[97], [98], [100]] := by
  simp [gatherS, names, wS, signedBy, wT3, Ora.look]
theorem w_g : gatherP 5 wS wD (wT3 (markP 5 wD)) = (⟨wD, [[97], [98], [100]]⟩, 0) := by
  have h : Ct.checkP 5 wS ⟨wD, gatherS 5 wS wD (wT3 (markP 5 wD))⟩ (wT3 (markP 5 wD)) = 0 := by
    rw [gather_check (by decide) w_ok (by decide), w_gs]
    decide +kernel
  rw [gather_ok (by decide) w_ok (by decide), if_pos h, w_gs]
theorem w_c2 : checkP 5 wS ⟨wD, [[97], [98], [100]]⟩ (wT3 (markP 5 wD)) = 0 := by
  rw [check71 (by decide) w_ok w_may3 (by intro s hs; simp at hs; rcases hs with rfl | rfl | rfl <;> simp [names, wS]) (by intro s hs; simp at hs; rcases hs with rfl | rfl | rfl <;> simp [signedBy, wT3, Ora.look])]
  decide +kernel
theorem w_c3 : checkP 6 wS ⟨wD, [[97], [98], [100]]⟩ (wT3 (markP 5 wD)) = 70 := by
  refine check70 (by decide) w_ok w_may3 (by intro s hs; simp at hs; rcases hs with rfl | rfl | rfl <;> simp [names, wS]) (s := [97]) (by simp) ?_
  have := w_ne
  simpa [signedBy, wT3, Ora.look] using this
end Go.Proofs.YtojpkodmpjibkaaDoor.Ct

namespace Go.Proofs.YtojpkodmpjibkaaDoor
open Go.RowKit
open Go.Proofs.YtojpkodmpjibkaaDoor.Pw (M)
open Go.Proofs.YtojpkodmpjibkaaDoor.Ora (Sig)

set_option maxRecDepth 100000 in
set_option maxHeartbeats 4000000 in
theorem cworks_any (w : World) (hTab : Tab w) : Calls Tryd.prog 10 #[] w fun e w' => e = .returned (.bool true) ∧ Below w.heap.size w w' := by
  have hml : (Ct.markP 5 Ct.wD).length = 32 := Sha.sumP_length _
  have hmk := fun w hT => cmark_any 5 Ct.wD w hT
  rw [show Ct.markC 5 Ct.wD = 0 by decide, show Ct.markR 5 Ct.wD = Ct.markP 5 Ct.wD by simp [Ct.markR, show Ct.markC 5 Ct.wD = 0 by decide]] at hmk
  have c1 := Ct.w_c1
  have c2 := Ct.w_c2
  have c3 := Ct.w_c3
  have cg := Ct.w_g
  obtain ⟨mk, hm⟩ : ∃ m, Ct.markP 5 Ct.wD = m := ⟨_, rfl⟩
  rw [hm] at hml hmk c1 c2 c3 cg
  have hk : ∀ x : List UInt8, x.length ≤ 6 → OkK (x, mk) := fun x h => ⟨by dsimp only; omega, by dsimp only; omega⟩
  have p1 := fun g m w ht => sign_any g m [] ([97], mk) true w ht (hk _ (by simp))
  have p2 := fun g m w ht => sign_any g m (Ct.wT1 mk) ([98], mk) true w ht (hk _ (by simp))
  have p3 := fun g m w ht => sign_any g m (Ct.wT2 mk) ([100], mk) true w ht (hk _ (by simp))
  unfold SignPost at p1 p2 p3
  rw [Ct.w_p1 mk hml] at p1
  rw [Ct.w_p2 mk hml] at p2
  rw [Ct.w_p3 mk hml] at p3
  dsimp only at p1 p2 p3
  have q1 := fun v s g m w hv hs hT hTab => ccheck_any 5 Ct.wS v ⟨Ct.wD, [[97], [98]]⟩ s g m (Ct.wT2 mk) w hv hs hT hTab
  have q2 := fun v s g m w hv hs hT hTab => ccheck_any 5 Ct.wS v ⟨Ct.wD, [[97], [98], [100]]⟩ s g m (Ct.wT3 mk) w hv hs hT hTab
  have q3 := fun v s g m w hv hs hT hTab => ccheck_any 6 Ct.wS v ⟨Ct.wD, [[97], [98], [100]]⟩ s g m (Ct.wT3 mk) w hv hs hT hTab
  have q4 := fun v g m w hv hT hTab => cgather_any 5 Ct.wS v Ct.wD g m (Ct.wT3 mk) w hv hT hTab
  unfold CGathPost at q4
  rw [c1] at q1
  rw [c2] at q2
  rw [c3] at q3
  rw [cg] at q4
  dsimp only at q1 q2 q3 q4
  have P1 := Lib.hid p1
  have P2 := Lib.hid p2
  have P3 := Lib.hid p3
  have Q1 := Lib.hid q1
  have Q2 := Lib.hid q2
  have Q3 := Lib.hid q3
  have Q4 := Lib.hid q4
  have HMK := Lib.hid hmk
  have HTA := Lib.hid hTab
  have hml' : (mk.length : Int) = 32 := by omega
  obtain ⟨T2, hT2⟩ : ∃ T, Ct.wT2 mk = T := ⟨_, rfl⟩
  obtain ⟨T1, hT1⟩ : ∃ T, Ct.wT1 mk = T := ⟨_, rfl⟩
  obtain ⟨T3, hT3⟩ : ∃ T, Ct.wT3 mk = T := ⟨_, rfl⟩
  rw [hT1] at P1 P2
  rw [hT2] at P2 P3 Q1
  rw [hT3] at P3 Q2 Q3 Q4
  clear hml hmk c1 c2 c3 cg hm hk p1 p2 p3 q1 q2 q3 q4 hTab hT1 hT2 hT3
  go_enter Tryd.func10, Tryd.ntmps10
  go_wp2_with fail
  have hown0 : OwnM (w.alloc (.cells #[.string ⟨#[97]⟩, .int .i64 1, .string ⟨#[98]⟩, .int .i64 1, .string ⟨#[99]⟩, .int .i64 1, .string ⟨#[100]⟩, .int .i64 1] 64)) w.heap.size (.slice (some ⟨w.heap.size, 0, none⟩) 4 4) Ct.wS := ⟨rfl, Or.inr ⟨w.heap.size, 4, #[.string ⟨#[97]⟩, .int .i64 1, .string ⟨#[98]⟩, .int .i64 1, .string ⟨#[99]⟩, .int .i64 1, .string ⟨#[100]⟩, .int .i64 1], rfl, Nat.le_refl _, heap_alloc_new w _, Nat.le_refl _, by unfold maxLen; omega, rfl, rfl⟩⟩
  have hb0 : Below w.heap.size w (w.alloc (.cells #[.string ⟨#[97]⟩, .int .i64 1, .string ⟨#[98]⟩, .int .i64 1, .string ⟨#[99]⟩, .int .i64 1, .string ⟨#[100]⟩, .int .i64 1] 64)) := (Below.refl _ w).alloc (Nat.le_refl _) _
  have HO0 := Lib.hid hown0
  have HB0 := Lib.hid hb0
  obtain ⟨p, hp⟩ : ∃ p, w.heap.size = p := ⟨_, rfl⟩
  have HP := Lib.hid hp
  rw [hp] at HO0 HB0 ⊢
  generalize (w.alloc (.cells #[.string ⟨#[97]⟩, .int .i64 1, .string ⟨#[98]⟩, .int .i64 1, .string ⟨#[99]⟩, .int .i64 1, .string ⟨#[100]⟩, .int .i64 1] 64)) = w0 at *
  clear hown0 hb0 hp
  have HF : Hid (∀ w', Below p w w' → Below w.heap.size w w') := Lib.hid (fun w' h => by rw [HP.out]; exact h)
  have HTB : Hid (∀ w', Below p w w' → Tab w') := Lib.hid (fun w' h => HTA.out.below (HF.out w' h))
  have HPS : Hid (∀ w', Below p w w' → p ≤ w'.heap.size) := Lib.hid (fun w' h => Nat.le_trans (Nat.le_of_eq HP.out.symm) h.size)
  refine (new_any _).mono ?_
  rintro e w1 ⟨g, m, rfl, hg, hm, ht, hb⟩
  have HT := Lib.hid ht
  have HB := Lib.hid (HB0.out.trans (hb.mono (HPS.out _ HB0.out)))
  have HM : Hid (p ≤ m) := Lib.hid (Nat.le_trans (HPS.out _ HB0.out) hm)
  have HO1 := Lib.hid (HO0.out.below hb)
  clear ht hb hg hm
  go_wp2_with fail
  refine (HMK.out _ (HTB.out _ HB.out)).mono ?_
  rintro e w2 ⟨rfl, hb⟩
  have HT2 := Lib.hid (HT.out.below hb)
  have HB2 := Lib.hid (HB.out.trans (hb.mono (HPS.out _ HB.out)))
  have HO2 := Lib.hid (HO1.out.below hb)
  clear hb
  go_wp2_with fail
  refine (P1.out g m _ HT2.out).mono ?_
  rintro e w3 ⟨rfl, ht, ho⟩
  have HT3 := Lib.hid ht
  have HO3 : Hid (OwnM w3 p (.slice (some ⟨p, 0, none⟩) 4 4) Ct.wS) := Lib.hid (row_out HO2.out ho (fun k cs t f e => HT2.out.map.no_cells k cs t f e))
  have HB3 := Lib.hid (HB2.out.trans (ho.below (fun _ hi => hi ▸ HM.out) (HPS.out _ HB2.out)))
  clear ht ho
  go_wp2_with fail
  refine (P2.out g m _ HT3.out).mono ?_
  rintro e w4 ⟨rfl, ht, ho⟩
  have HT4 := Lib.hid ht
  have HO4 : Hid (OwnM w4 p (.slice (some ⟨p, 0, none⟩) 4 4) Ct.wS) := Lib.hid (row_out HO3.out ho (fun k cs t f e => HT3.out.map.no_cells k cs t f e))
  have HB4 := Lib.hid (HB3.out.trans (ho.below (fun _ hi => hi ▸ HM.out) (HPS.out _ HB3.out)))
  clear ht ho
  have hb5 : Below w4.heap.size w4 (w4.alloc (.cells #[.string ⟨#[97]⟩, .string ⟨#[98]⟩] 9)) := (Below.refl _ w4).alloc (Nat.le_refl _) _
  have HB5 := Lib.hid (HB4.out.trans (hb5.mono (HPS.out _ HB4.out)))
  have HS5 : Hid (Strs (w4.alloc (.cells #[.string ⟨#[97]⟩, .string ⟨#[98]⟩] 9)) (.slice (some ⟨w4.heap.size, 0, none⟩) 2 2) [[97], [98]]) := Lib.hid (Own.strs (B := 0) ⟨rfl, Or.inr ⟨w4.heap.size, 2, #[.string ⟨#[97]⟩, .string ⟨#[98]⟩], rfl, Nat.zero_le _, heap_alloc_new w4 _, Nat.le_refl _, by unfold maxLen; omega, rfl, rfl⟩⟩)
  have HT5 := Lib.hid (HT4.out.below hb5)
  have HO5 := Lib.hid (HO4.out.below hb5)
  clear hb5
  go_wp2_with fail
  refine (Q1.out _ _ g m _ HO5.out.mems HS5.out HT5.out (HTB.out _ HB5.out)).mono ?_
  rintro e w6 ⟨rfl, hb⟩
  have HT6 := Lib.hid (HT5.out.below hb)
  have HB6 := Lib.hid (HB5.out.trans (hb.mono (HPS.out _ HB5.out)))
  have HO6 := Lib.hid (HO5.out.below hb)
  clear hb
  go_wp2_with fail
  refine (P3.out g m _ HT6.out).mono ?_
  rintro e w7 ⟨rfl, ht, ho⟩
  have HT7 := Lib.hid ht
  have HO7 : Hid (OwnM w7 p (.slice (some ⟨p, 0, none⟩) 4 4) Ct.wS) := Lib.hid (row_out HO6.out ho (fun k cs t f e => HT6.out.map.no_cells k cs t f e))
  have HB7 := Lib.hid (HB6.out.trans (ho.below (fun _ hi => hi ▸ HM.out) (HPS.out _ HB6.out)))
  clear ht ho
  go_wp2_with fail
  refine (Q4.out _ g m _ HO7.out.mems HT7.out (HTB.out _ HB7.out)).mono ?_
  rintro e w8 ⟨z, rfl, hown, hb⟩
  have HT8 := Lib.hid (HT7.out.below hb)
  have HB8 := Lib.hid (HB7.out.trans (hb.mono (HPS.out _ HB7.out)))
  have HO8 := Lib.hid (HO7.out.below hb)
  have HZ8 := Lib.hid hown
  obtain ⟨A, cap, rfl⟩ := own_form hown
  clear hb hown
  have hb9 : Below w8.heap.size w8 (w8.alloc (.cells #[.string ⟨Ct.wD.toArray⟩, .slice A 3 cap] 28)) := (Below.refl _ w8).alloc (Nat.le_refl _) _
  have hrow9 := heap_new_at w8 (.cells #[.string ⟨Ct.wD.toArray⟩, .slice A 3 cap] 28) w8.heap.size rfl
  have hb10 : Below (w8.heap.size + 1) (w8.alloc (.cells #[.string ⟨Ct.wD.toArray⟩, .slice A 3 cap] 28)) ((w8.alloc (.cells #[.string ⟨Ct.wD.toArray⟩, .slice A 3 cap] 28)).alloc (.cells #[.string ⟨#[97]⟩, .string ⟨#[98]⟩, .string ⟨#[100]⟩] 9)) := (Below.refl _ _).alloc (by simp) _
  have hS10 : Strs ((w8.alloc (.cells #[.string ⟨Ct.wD.toArray⟩, .slice A 3 cap] 28)).alloc (.cells #[.string ⟨#[97]⟩, .string ⟨#[98]⟩, .string ⟨#[100]⟩] 9)) (.slice (some ⟨w8.heap.size + 1, 0, none⟩) 3 3) [[97], [98], [100]] := Own.strs (B := 0) ⟨rfl, Or.inr ⟨w8.heap.size + 1, 3, #[.string ⟨#[97]⟩, .string ⟨#[98]⟩, .string ⟨#[100]⟩], rfl, Nat.zero_le _, heap_new_at _ _ _ (by simp), Nat.le_refl _, by unfold maxLen; omega, rfl, rfl⟩⟩
  have HRC : Hid (∀ w', Below (w8.heap.size + 1) (w8.alloc (.cells #[.string ⟨Ct.wD.toArray⟩, .slice A 3 cap] 28)) w' → w'.heap[w8.heap.size]? = some (.cells #[.string ⟨Ct.wD.toArray⟩, .slice A 3 cap] 28 (0, 0))) := Lib.hid (fun w' h => (h.block w8.heap.size (Nat.lt_succ_self _)).trans hrow9)
  have HBA : Hid (∀ w', Below (w8.heap.size + 1) (w8.alloc (.cells #[.string ⟨Ct.wD.toArray⟩, .slice A 3 cap] 28)) w' → Below p w w' ∧ Below w8.heap.size w8 w' ∧ w8.heap.size + 1 ≤ w'.heap.size) := Lib.hid (fun w' h => by
    have h8 : Below w8.heap.size w8 w' := hb9.trans (h.mono (Nat.le_succ _))
    exact ⟨HB8.out.trans (h8.mono (HPS.out _ HB8.out)), h8, by have := h.size; simp at this; omega⟩)
  have HB10 := Lib.hid hb10
  have HS10 := Lib.hid hS10
  clear hb9 hrow9 hb10 hS10
  obtain ⟨c0, c1, -, -⟩ := cells2 (HRC.out _ HB10.out)
  obtain ⟨d0, d1, -, -⟩ := cells2 (HRC.out _ (Below.refl _ _))
  have HZ10 := Lib.hid (HZ8.out.below (HBA.out _ HB10.out).2.1).strs
  have HSM := Lib.hid (same_any _ _ _ _ _ HZ10.out HS10.out (by simp) (by simp [maxLen]))
  rw [decide_eq_true rfl] at HSM
  go_wp2_with fail
  refine HSM.out.mono ?_
  rintro e w11 ⟨rfl, hb⟩
  have HB11 := Lib.hid (HB10.out.trans (hb.mono (HBA.out _ HB10.out).2.2))
  clear hb c0 c1
  obtain ⟨c0, c1, -, -⟩ := cells2 (HRC.out _ HB11.out)
  go_wp2_with fail
  refine (Q2.out _ _ g m _ (HO8.out.below (HBA.out _ HB11.out).2.1).mems (HZ8.out.below (HBA.out _ HB11.out).2.1).strs (HT8.out.below (HBA.out _ HB11.out).2.1) (HTB.out _ (HBA.out _ HB11.out).1)).mono ?_
  rintro e w12 ⟨rfl, hb⟩
  have HB12 := Lib.hid (HB11.out.trans (hb.mono (HBA.out _ HB11.out).2.2))
  clear hb c0 c1
  obtain ⟨c0, c1, -, -⟩ := cells2 (HRC.out _ HB12.out)
  go_wp2_with fail
  refine (Q3.out _ _ g m _ (HO8.out.below (HBA.out _ HB12.out).2.1).mems (HZ8.out.below (HBA.out _ HB12.out).2.1).strs (HT8.out.below (HBA.out _ HB12.out).2.1) (HTB.out _ (HBA.out _ HB12.out).1)).mono ?_
  rintro e w13 ⟨rfl, hb⟩
  have HB13 := Lib.hid (HB12.out.trans (hb.mono (HBA.out _ HB12.out).2.2))
  go_wp2
  go_ret
  exact ⟨rfl, HF.out _ (HBA.out _ HB13.out).1⟩
end Go.Proofs.YtojpkodmpjibkaaDoor
namespace Go.Proofs.YtojpkodmpjibkaaDoor
open Go.RowKit

set_option maxRecDepth 100000 in
set_option maxHeartbeats 400000 in
theorem rNumber_any (n : Nat) (hn : n < 2 ^ 63) (w : World) :
    Calls Tryd.prog 75 #[.int .i64 n] w fun e w' => e = .returned (.string ⟨(Code.numL n).toArray⟩) ∧ Below w.heap.size w w' := by
  have hn1 : (n : Int) < 9223372036854775808 := by omega
  go_enter Tryd.func75, Tryd.ntmps75
  go_wp2
  go_loopw [0, 3] (fun m s wr => ∃ (a : Nat) (t : List UInt8), a ≤ n ∧ m = .int .i64 a ∧ s = .string ⟨t.toArray⟩ ∧ Code.be (Code.sz a) a ++ t = Code.be (Code.sz n) n ∧ Below w.heap.size w wr) (fun m _ _ => (intOf m).toNat)
  case atStart => exact ⟨n, [], Nat.le_refl _, rfl, rfl, by simp, Below.refl _ _⟩
  case round =>
    obtain ⟨a, t, ha, rfl, rfl, ht, hbel⟩ := hrel
    have HT := Lib.hid ht
    clear ht
    by_cases h0 : a = 0
    · subst h0
      have hz : t = Code.be (Code.sz n) n := by have := HT.out; rw [Code.sz_zero] at this; exact this
      have hl := Code.be_length (Code.sz n) n
      rw [← hz] at hl
      have h8 := Code.sz_le8 n (by omega)
      have hZ := Lib.hid hz
      have hcv := conv_one' wr (UInt8.ofNat (Code.sz n)) (t.length : Int) (by rw [Code.ofNat_toNat _ (by omega)]; omega) _ rfl
      have htl : (t.length : Int) < 256 := by omega
      have hcm : ((⟨[UInt8.ofNat (Code.sz n)].toArray⟩ : ByteArray) ++ (⟨t.toArray⟩ : ByteArray)) = ⟨(Code.numL n).toArray⟩ := by
        rw [cat_mk, Code.numL, hZ.out]; rfl
      have hbel2 := hbel.alloc hbel.size (.cells #[.int .u8 (t.length : Int)] 5)
      clear hz h8 hl
      generalize UInt8.ofNat (Code.sz n) = y at hcv hcm
      go_wp2
      go_ret
      exact ⟨rfl, hbel2⟩
    · have hst : Code.be (Code.sz (a / 256)) (a / 256) ++ (UInt8.ofNat (a % 256) :: t) = Code.be (Code.sz n) n := by
        have := HT.out
        rw [Code.sz_pos a h0, Code.be, List.append_assoc] at this
        exact this
      have hyn := Code.ofNat_toNat (a % 256) (by omega)
      obtain ⟨y, hy⟩ : ∃ y, UInt8.ofNat (a % 256) = y := ⟨_, rfl⟩
      rw [hy] at hst hyn
      have hcv := conv_one' wr y (y.toNat : Int) rfl _ rfl
      have hrem : (a : Int) % 256 = (y.toNat : Int) := by omega
      obtain ⟨q, hq⟩ : ∃ q, a / 256 = q := ⟨_, rfl⟩
      have hquo : (a : Int) / 256 = (q : Int) := by omega
      have hyb := y.toNat_lt
      have hcm := cat_mk [y] t
      rw [List.singleton_append] at hcm
      obtain ⟨u, hu⟩ : ∃ u, y :: t = u := ⟨_, rfl⟩
      rw [hu] at hcm hst
      rw [hq] at hst
      have hqa : q < a := by omega
      have hul : u.length = t.length + 1 := by rw [← hu]; rfl
      have htl : t.length ≤ 8 := by
        have h1 := congrArg List.length HT.out
        rw [List.length_append, Code.be_length, Code.be_length] at h1
        have := Code.sz_le8 n (by omega)
        omega
      have ha0 : (0 : Int) < a := by omega
      have hS := Lib.hid hst
      have hbel2 := hbel.alloc hbel.size (.cells #[.int .u8 (y.toNat : Int)] 5)
      have ha9 : (a : Int) ≤ 9223372036854775807 := by omega
      have hqa9 := Lib.hid hqa
      have ha8 := Lib.hid ha
      clear hst hy hyn hu hq hn1 hn ha h0 hqa
      go_wp2
      go_roundw
      case rel => exact ⟨q, u, by have := hqa9.out; have := ha8.out; omega, by go_num, rfl, hS.out, hbel2⟩
      case measure => simp [intOf]; omega

theorem rText_any (s : List UInt8) (w : World) (hl : s.length ≤ 100000000) :
    Calls Tryd.prog 76 #[.string ⟨s.toArray⟩] w fun e w' => e = .returned (.string ⟨(Code.textL s).toArray⟩) ∧ Below w.heap.size w w' := by
  have hcm : ((⟨(Code.numL s.length).toArray⟩ : ByteArray) ++ (⟨s.toArray⟩ : ByteArray)) = ⟨(Code.textL s).toArray⟩ := by rw [cat_mk]; rfl
  have hnl : (Code.numL s.length).length ≤ 9 := by
    have := Code.numL_length s.length
    have := Code.sz_le8 s.length (by omega)
    omega
  have HM := Lib.hid hcm
  clear hcm
  go_enter Tryd.func76, Tryd.ntmps76
  go_wp2_with fail
  refine (rNumber_any s.length (by omega) w).mono ?_
  rintro e w1 ⟨rfl, hb⟩
  have hcm := HM.out
  generalize Code.numL s.length = x at hcm hnl ⊢
  go_wp2
  go_ret
  exact ⟨rfl, hb⟩
set_option maxHeartbeats 400000 in
theorem rList_any (L : List (List UInt8)) (v : Value) (w : World) (hs : Strs w v L) (hl : L.length ≤ 100000000) (ht : (Code.textsL L).length ≤ 90000000) :
    Calls Tryd.prog 55 #[v] w fun e w' => e = .returned (.string ⟨(Code.listL L).toArray⟩) ∧ Below w.heap.size w w' := by
  obtain ⟨A, cap, rfl, hc⟩ := hs
  go_enter Tryd.func55, Tryd.ntmps55
  go_wp2_with fail
  refine (rNumber_any L.length (by omega) w).mono ?_
  rintro e w1 ⟨rfl, hbel⟩
  go_wp2
  go_loopw [3, 4] (fun u i wr => ∃ k : Nat, k ≤ L.length ∧ i = .int .i64 k ∧ u = .string ⟨(Code.numL L.length ++ Code.textsL (L.take k)).toArray⟩ ∧ Below w.heap.size w wr) (fun _ i _ => L.length - (intOf i).toNat)
  case atStart => exact ⟨0, Nat.zero_le _, rfl, by simp [Code.textsL], hbel⟩
  case round =>
    obtain ⟨k, hk, rfl, rfl, hb⟩ := hrel
    by_cases hlt : k < L.length
    · have h1 : (k : Int) < (L.length : Int) := by omega
      obtain ⟨a, rfl, hcell⟩ := hc k hlt
      have hcell1 : wr.cell? (a.add k) = some (.string ⟨L[k].toArray⟩) := (hb.cell (World.block_lt_of_cell? _ _ hcell)).trans hcell
      have hsn := Code.texts_snoc L k hlt
      have hle2 := Code.text_le_texts L k hlt
      clear hc hcell
      obtain ⟨t, hte⟩ : ∃ t, L[k] = t := ⟨_, rfl⟩
      rw [hte] at hcell1 hsn hle2
      clear hte
      have hcm := cat_mk (Code.numL L.length ++ Code.textsL (L.take k)) (Code.textL t)
      rw [List.append_assoc, hsn] at hcm
      clear hsn
      have htl : t.length ≤ 100000000 := by omega
      have hle := Code.texts_take_le L k
      have hxl : (Code.numL L.length ++ Code.textsL (L.take k)).length ≤ 100000000 := by
        have := Code.numL_length L.length
        have := Code.sz_le8 L.length (by omega)
        rw [List.length_append]; omega
      have htt : (Code.textL t).length ≤ 100000009 := by
        have := Code.textL_length t
        have := Code.sz_le8 t.length (by omega)
        omega
      clear hle
      have HM := Lib.hid hcm
      clear hcm
      generalize Code.numL L.length ++ Code.textsL (L.take k) = xs at HM hxl ⊢
      generalize hys : Code.numL L.length ++ Code.textsL (L.take (k + 1)) = ys at HM
      have HY := Lib.hid hys
      clear hys
      go_wp2_with fail
      refine (rText_any t wr htl).mono ?_
      rintro e w2 ⟨rfl, hbel2⟩
      have hb2 := hb.trans (hbel2.mono hb.size)
      have hcm := HM.out
      generalize Code.textL t = tt at hcm htt ⊢
      go_wp2
      go_roundw
      case rel => exact ⟨k + 1, by omega, by go_num, by rw [HY.out], hb2⟩
      case measure => simp [intOf]; omega
    · rw [List.take_of_length_le (by omega)]
      go_wp2
      go_ret
      exact ⟨rfl, hb⟩

end Go.Proofs.YtojpkodmpjibkaaDoor
namespace Go.Proofs.YtojpkodmpjibkaaDoor
open Go.RowKit
open Go.Proofs.YtojpkodmpjibkaaDoor.Pw (M)

theorem bel_drewN' {B : Nat} {a w : World} (h : Below B a w) (n : Nat) : Below B a (w.drewN n) := h.trans ⟨rfl, rfl, rfl, Nat.le_refl _, fun _ _ => rfl⟩
def Pw.takeR (s : List UInt8) : Nat × List UInt8 × Int := if (Code.leadL s).2.2 ≠ 0 then (0, [], (Code.leadL s).2.2) else ((Code.leadL s).1, s.drop (Code.leadL s).2.1, 0)
theorem index_cons (c : UInt8) (d r2 : List UInt8) (j : Nat) (hj : j < d.length) : ∀ h, (⟨(c :: (d ++ r2)).toArray⟩ : ByteArray)[j + 1]'h = d[j] := by
  intro h
  have e : (c :: (d ++ r2))[j + 1]'(by simp; omega) = d[j] := by rw [List.getElem_cons_succ, List.getElem_append_left hj]
  exact e

set_option maxHeartbeats 400000 in
theorem rtake_nil (w : World) : Calls Tryd.prog 79 #[.string ⟨#[]⟩] w fun e w' => e = .returned (.tuple #[.int .i64 0, .string ⟨#[]⟩, .int .i64 20]) ∧ Below w.heap.size w w' := by
  go_enter Tryd.func79, Tryd.ntmps79
  go_wp2
  go_ret3
  exact ⟨rfl, Below.refl _ _⟩
set_option maxHeartbeats 400000 in
theorem rtake_big (c : UInt8) (r : List UInt8) (w : World) (hc : c.toNat > 8) : Calls Tryd.prog 79 #[.string ⟨(c :: r).toArray⟩] w fun e w' => e = .returned (.tuple #[.int .i64 0, .string ⟨#[]⟩, .int .i64 3]) ∧ Below w.heap.size w w' := by
  have hh : ∀ h, (⟨(c :: r).toArray⟩ : ByteArray)[0]'h = c := fun _ => rfl
  have hcb := c.toNat_lt
  have hc1 : (8 : Int) < (c.toNat : Int) := by omega
  go_enter Tryd.func79, Tryd.ntmps79
  go_wp2
  go_ret3
  exact ⟨rfl, Below.refl _ _⟩
set_option maxHeartbeats 400000 in
theorem rtake_short (c : UInt8) (r : List UInt8) (w : World) (hc : ¬ c.toNat > 8) (hr : r.length < c.toNat) : Calls Tryd.prog 79 #[.string ⟨(c :: r).toArray⟩] w fun e w' => e = .returned (.tuple #[.int .i64 0, .string ⟨#[]⟩, .int .i64 20]) ∧ Below w.heap.size w w' := by
  have hh : ∀ h, (⟨(c :: r).toArray⟩ : ByteArray)[0]'h = c := fun _ => rfl
  have hcb := c.toNat_lt
  have hc1 : ¬ ((8 : Int) < (c.toNat : Int)) := by omega
  have hlen : ((r.length : Int) + 1) < (c.toNat : Int) + 1 := by omega
  go_enter Tryd.func79, Tryd.ntmps79
  go_wp2
  go_ret3
  exact ⟨rfl, Below.refl _ _⟩
set_option maxHeartbeats 1000000 in
theorem rtake_zero (r : List UInt8) (w : World) : Calls Tryd.prog 79 #[.string ⟨((0 : UInt8) :: r).toArray⟩] w fun e w' => e = .returned (.tuple #[.int .i64 0, .string ⟨r.toArray⟩, .int .i64 0]) ∧ Below w.heap.size w w' := by
  have hh : ∀ h, (⟨((0 : UInt8) :: r).toArray⟩ : ByteArray)[0]'h = 0 := fun _ => rfl
  have he : (⟨((0 : UInt8) :: r).toArray⟩ : ByteArray).extract 1 (r.length + 1) = ⟨r.toArray⟩ := extract_mk_tail 0 r
  go_enter Tryd.func79, Tryd.ntmps79
  go_wp2
  go_loop [6, 7] (fun n i => n = .int .i64 0 ∧ i = .int .i64 1) (fun _ _ => 0)
  case atStart => exact ⟨rfl, rfl⟩
  case round =>
    obtain ⟨rfl, rfl⟩ := hrel
    go_wp2
    go_quiet (fail)
    go_wp2
    go_ret3
    exact ⟨rfl, (Below.refl _ w).trans ⟨rfl, rfl, rfl, Nat.le_refl _, fun _ _ => rfl⟩⟩
set_option maxHeartbeats 1000000 in
theorem rtake_bad (c x : UInt8) (d q r2 : List UInt8) (w : World) (hd : d = x :: q) (hc : c.toNat = d.length) (h8 : d.length ≤ 8) (hl : r2.length ≤ 100000000) (hb : x.toNat = 0 ∨ d.length = 8 ∧ 128 ≤ x.toNat) :
    Calls Tryd.prog 79 #[.string ⟨(c :: (d ++ r2)).toArray⟩] w fun e w' => e = .returned (.tuple #[.int .i64 0, .string ⟨#[]⟩, .int .i64 3]) ∧ Below w.heap.size w w' := by
  have hh : ∀ h, (⟨(c :: (d ++ r2)).toArray⟩ : ByteArray)[0]'h = c := fun _ => rfl
  have hx : ∀ h, (⟨(c :: (d ++ r2)).toArray⟩ : ByteArray)[1]'h = x := by subst hd; exact fun _ => rfl
  have hxb := x.toNat_lt
  have hpos : 0 < d.length := by subst hd; simp
  clear hd
  obtain ⟨s, hs⟩ : ∃ s, c :: (d ++ r2) = s := ⟨_, rfl⟩
  have hsl : s.length = d.length + 1 + r2.length := by rw [← hs]; simp; omega
  have hse : s.isEmpty = false := by rw [← hs]; rfl
  have hsn : ¬ (s.length = 0) := by omega
  rw [hs] at hh hx ⊢
  clear hs
  rcases hb with h0 | ⟨h80, h128⟩
  · go_enter Tryd.func79, Tryd.ntmps79
    go_wp2
    go_ret3
    exact ⟨rfl, Below.refl _ _⟩
  · rw [h80] at hc hsl
    have hd1 : (127 : Int) < (x.toNat : Int) := by omega
    have hd0 : ((x.toNat : Int) == 0) = false := by rw [beq_eq_false_iff_ne]; omega
    clear h8 hpos
    go_enter Tryd.func79, Tryd.ntmps79
    go_wp2
    go_ret3
    exact ⟨rfl, Below.refl _ _⟩
set_option maxRecDepth 100000 in
set_option maxHeartbeats 2000000 in
theorem rtake_good (c x : UInt8) (d q r2 : List UInt8) (w : World) (hd : d = x :: q) (hc : c.toNat = d.length) (h8 : d.length ≤ 8) (hl : r2.length ≤ 100000000) (h0 : x.toNat ≠ 0) (hb : d.length = 8 → x.toNat < 128) :
    Calls Tryd.prog 79 #[.string ⟨(c :: (d ++ r2)).toArray⟩] w fun e w' => e = .returned (.tuple #[.int .i64 (Code.val d : Nat), .string ⟨r2.toArray⟩, .int .i64 0]) ∧ Below w.heap.size w w' := by
  have hh : ∀ h, (⟨(c :: (d ++ r2)).toArray⟩ : ByteArray)[0]'h = c := fun _ => rfl
  have hx : ∀ h, (⟨(c :: (d ++ r2)).toArray⟩ : ByteArray)[1]'h = x := by subst hd; exact fun _ => rfl
  have HIX := Lib.hid (index_cons c d r2)
  have hxb := x.toNat_lt
  have HVL := Lib.hid (val_take_lt d h8 (by subst hd; exact hb))
  have hpos : 0 < d.length := by subst hd; simp
  have he := ext_drop (c :: (d ++ r2)) (d.length + 1)
  rw [show (c :: (d ++ r2)).drop (d.length + 1) = r2 by simp] at he
  clear hd
  obtain ⟨s, hs⟩ : ∃ s, c :: (d ++ r2) = s := ⟨_, rfl⟩
  have hsl : s.length = d.length + 1 + r2.length := by rw [← hs]; simp; omega
  have hse : s.isEmpty = false := by rw [← hs]; rfl
  rw [hs] at hh hx he HIX ⊢
  have hd0 : ((x.toNat : Int) == 0) = false := by rw [beq_eq_false_iff_ne]; omega
  obtain ⟨K, hK⟩ : ∃ K, d.length = K := ⟨_, rfl⟩
  have HK := Lib.hid hK
  rw [hK] at hc h8 hpos he hsl hb
  clear hs hK
  have hcp : (0 : Int) < (K : Int) := by omega
  rcases Nat.lt_or_ge K 8 with h7 | h7
  · have hne : ¬ ((K : Int) = 8) := by omega
    have he2 : (⟨s.toArray⟩ : ByteArray).extract (K + 1) (K + 1 + r2.length) = ⟨r2.toArray⟩ := by rw [← hsl]; exact he
    clear hb
    go_enter Tryd.func79, Tryd.ntmps79
    go_wp2
    go_loop [6, 7] (fun n i => ∃ k : Nat, k ≤ K ∧ n = .int .i64 (Code.val (d.take k) : Nat) ∧ i = .int .i64 ((k : Nat) + 1 : Int)) (fun _ i => K + 1 - (intOf i).toNat)
    case atStart => exact ⟨0, Nat.zero_le _, rfl, rfl⟩
    case round =>
      obtain ⟨k, hk, rfl, rfl⟩ := hrel
      by_cases hlt : k < K
      · have h1 : (k : Int) + 1 ≤ ((K : Nat) : Int) := by omega
        have h2 : (0 : Int) ≤ (k : Int) + 1 := by omega
        have h3 : (k : Int) + 1 < (s.length : Int) := by omega
        have hkd : k < d.length := by rw [HK.out]; exact hlt
        have HST := Lib.hid (val_step d k hkd)
        have hvk := HVL.out (k + 1)
        rw [HST.out] at hvk
        have hix := HIX.out k hkd
        obtain ⟨y, hy⟩ : ∃ y, d[k] = y := ⟨_, rfl⟩
        rw [hy] at HST hvk hix
        have hyb := y.toNat_lt
        obtain ⟨V, hV⟩ : ∃ V, Code.val (d.take k) = V := ⟨_, rfl⟩
        rw [hV] at HST hvk ⊢
        clear hy hV
        have hv1 : (V : Int) * 256 + (y.toNat : Int) ≤ 9223372036854775807 := by omega
        have hv2 : (V : Int) ≤ 36028797018963967 := by omega
        have hyb2 : (y.toNat : Int) < 256 := by omega
        clear hvk hyb
        go_wp2
        go_round
        case rel => exact ⟨k + 1, by omega, by rw [HST.out]; go_num, by go_num⟩
        case measure => simp [intOf]; omega
      · obtain rfl : k = K := by omega
        have h1 : ¬ (((k : Nat) : Int) + 1 ≤ ((k : Nat) : Int)) := by omega
        have HD : Hid (d.take k = d) := Lib.hid (by rw [← HK.out, List.take_length])
        rw [HD.out]
        go_wp2
        go_quiet (fail)
        go_wp2
        go_ret3
        exact ⟨rfl, (Below.refl _ w).trans ⟨rfl, rfl, rfl, Nat.le_refl _, fun _ _ => rfl⟩⟩
  · obtain rfl : K = 8 := by omega
    have he2 : (⟨s.toArray⟩ : ByteArray).extract 9 (9 + r2.length) = ⟨r2.toArray⟩ := by rw [show 9 + r2.length = s.length by omega]; exact he
    have hx1 : ¬ ((127 : Int) < (x.toNat : Int)) := by have := hb rfl; omega
    clear hb
    go_enter Tryd.func79, Tryd.ntmps79
    go_wp2
    go_loop [6, 7] (fun n i => ∃ k : Nat, k ≤ 8 ∧ n = .int .i64 (Code.val (d.take k) : Nat) ∧ i = .int .i64 ((k : Nat) + 1 : Int)) (fun _ i => 8 + 1 - (intOf i).toNat)
    case atStart => exact ⟨0, Nat.zero_le _, rfl, rfl⟩
    case round =>
      obtain ⟨k, hk, rfl, rfl⟩ := hrel
      by_cases hlt : k < 8
      · have h1 : (k : Int) + 1 ≤ ((8 : Nat) : Int) := by omega
        have h2 : (0 : Int) ≤ (k : Int) + 1 := by omega
        have h3 : (k : Int) + 1 < (s.length : Int) := by omega
        have hkd : k < d.length := by rw [HK.out]; exact hlt
        have HST := Lib.hid (val_step d k hkd)
        have hvk := HVL.out (k + 1)
        rw [HST.out] at hvk
        have hix := HIX.out k hkd
        obtain ⟨y, hy⟩ : ∃ y, d[k] = y := ⟨_, rfl⟩
        rw [hy] at HST hvk hix
        have hyb := y.toNat_lt
        obtain ⟨V, hV⟩ : ∃ V, Code.val (d.take k) = V := ⟨_, rfl⟩
        rw [hV] at HST hvk ⊢
        clear hy hV
        have hv1 : (V : Int) * 256 + (y.toNat : Int) ≤ 9223372036854775807 := by omega
        have hv2 : (V : Int) ≤ 36028797018963967 := by omega
        have hyb2 : (y.toNat : Int) < 256 := by omega
        clear hvk hyb
        go_wp2
        go_round
        case rel => exact ⟨k + 1, by omega, by rw [HST.out]; go_num, by go_num⟩
        case measure => simp [intOf]; omega
      · obtain rfl : k = 8 := by omega
        have HD : Hid (d.take 8 = d) := Lib.hid (by rw [← HK.out, List.take_length])
        rw [HD.out]
        go_wp2
        go_quiet (fail)
        go_wp2
        go_ret3
        exact ⟨rfl, (Below.refl _ w).trans ⟨rfl, rfl, rfl, Nat.le_refl _, fun _ _ => rfl⟩⟩
end Go.Proofs.YtojpkodmpjibkaaDoor
namespace Go.Proofs.YtojpkodmpjibkaaDoor
open Go.RowKit
open Go.Proofs.YtojpkodmpjibkaaDoor.Pw (M)

theorem rtake_any (s : List UInt8) (w : World) (hl : s.length ≤ 100000000) :
    Calls Tryd.prog 79 #[.string ⟨s.toArray⟩] w fun e w' => e = .returned (.tuple #[.int .i64 ((Pw.takeR s).1 : Nat), .string ⟨(Pw.takeR s).2.1.toArray⟩, .int .i64 (Pw.takeR s).2.2]) ∧ Below w.heap.size w w' := by
  unfold Pw.takeR
  match s, hl with
  | [], _ => exact rtake_nil w
  | c :: r, hl =>
    simp only [List.length_cons] at hl
    by_cases h1 : c.toNat > 8
    · rw [Code.leadL, if_pos h1]
      exact rtake_big c r w h1
    · by_cases h2 : r.length < c.toNat
      · rw [Code.leadL, if_neg h1, if_pos h2]
        exact rtake_short c r w h1 h2
      · have hr : r = r.take c.toNat ++ r.drop c.toNat := (List.take_append_drop _ _).symm
        have hdl : (r.take c.toNat).length = c.toNat := by rw [List.length_take]; omega
        have hd2 : (r.drop c.toNat).length ≤ 100000000 := by rw [List.length_drop]; omega
        have hdr : (c :: r).drop (1 + c.toNat) = r.drop c.toNat := by rw [Nat.add_comm]; rfl
        rw [Code.leadL, if_neg h1, if_neg h2]
        by_cases h0 : c.toNat = 0
        · have hb : Code.bad c.toNat (r.take c.toNat) = false := by simp [Code.bad, h0]
          have hc0 : c = 0 := by
            have := UInt8.ofNat_toNat (x := c)
            rw [h0] at this
            exact this.symm
          subst hc0
          rw [hb]
          exact rtake_zero r w
        · match hd : r.take c.toNat with
          | [] => rw [hd] at hdl; simp at hdl; omega
          | x :: q =>
            rw [hd] at hr hdl
            rcases hb : Code.bad c.toNat (x :: q) with _ | _
            · simp only [Code.bad, List.headD_cons, Bool.or_eq_false_iff, Bool.and_eq_false_iff, decide_eq_false_iff_not, beq_eq_false_iff_ne] at hb
              have h := rtake_good c x (x :: q) q (r.drop c.toNat) w rfl hdl.symm (by omega) hd2 (by rcases hb.1 with a | a; omega; exact a) (fun h8 => by rcases hb.2 with a | a; omega; exact Nat.not_le.1 (of_decide_eq_false a))
              rw [← hr] at h
              rw [if_neg (by simp), if_neg (by simp)]
              dsimp only
              rw [hdr]
              exact h
            · simp only [Code.bad, List.headD_cons, Bool.or_eq_true, Bool.and_eq_true, decide_eq_true_eq, beq_iff_eq] at hb
              have h := rtake_bad c x (x :: q) q (r.drop c.toNat) w rfl hdl.symm (by omega) hd2 (by rcases hb with a | a; exact .inl a.2; exact .inr ⟨by omega, of_decide_eq_true a.2⟩)
              rw [← hr] at h
              exact h

theorem Pw.takeR_lt (s : List UInt8) : (Pw.takeR s).1 < 2 ^ 63 ∧ (Pw.takeR s).2.1.length ≤ s.length := by
  unfold Pw.takeR
  split
  · simp
  · exact ⟨(Code.lead_range s).1, by simp⟩
/-- The document's reader in memory. -/
def RRd (w : World) (g : Nat) (s : List UInt8) (c : Int) : Prop := w.heap[g]? = some (.cells #[.string ⟨s.toArray⟩, .int .i64 c] 85 (0, 0))
theorem RRd.lt {w : World} {g : Nat} {s : List UInt8} {c : Int} (h : RRd w g s c) : g < w.heap.size := lt_of_block h
theorem RRd.left {w : World} {g : Nat} {s : List UInt8} {c : Int} (h : RRd w g s c) : w.cell? ⟨g, 0, none⟩ = some (.string ⟨s.toArray⟩) := cell_of_row _ _ _ _ _ _ h
theorem RRd.code {w : World} {g : Nat} {s : List UInt8} {c : Int} (h : RRd w g s c) : w.cell? ⟨g, 1, none⟩ = some (.int .i64 c) := cell_of_row _ _ _ _ _ _ h
theorem RRd.free0 {w : World} {g : Nat} {s : List UInt8} {c : Int} (h : RRd w g s c) : w.frozen? ⟨g, 0, none⟩ = false := frozen_of_row _ _ _ _ _ h
theorem RRd.free1 {w : World} {g : Nat} {s : List UInt8} {c : Int} (h : RRd w g s c) : w.frozen? ⟨g, 1, none⟩ = false := frozen_of_row _ _ _ _ _ h
theorem RRd.setLeft {w : World} {g : Nat} {s : List UInt8} {c : Int} (h : RRd w g s c) (t : List UInt8) : RRd (w.setCell ⟨g, 0, none⟩ (.string ⟨t.toArray⟩)) g t c := by
  have := heap_setCell_same _ _ 0 _ _ (.string ⟨t.toArray⟩) h
  simpa [RRd] using this
theorem RRd.setCode {w : World} {g : Nat} {s : List UInt8} {c : Int} (h : RRd w g s c) (d : Int) : RRd (w.setCell ⟨g, 1, none⟩ (.int .i64 d)) g s d := by
  have := heap_setCell_same _ _ 1 _ _ (.int .i64 d) h
  simpa [RRd] using this
theorem RRd.below {w w' : World} {g : Nat} {s : List UInt8} {c : Int} (h : RRd w g s c) (hb : Below w.heap.size w w') : RRd w' g s c := (hb.block g h.lt).trans h

end Go.Proofs.YtojpkodmpjibkaaDoor
namespace Go.Proofs.YtojpkodmpjibkaaDoor
open Go.RowKit

def Code.textPm (most : Int) (s : List UInt8) : List UInt8 × List UInt8 × Int :=
  if (Pw.takeR s).2.2 ≠ 0 then ([], [], (Pw.takeR s).2.2) else if most < ((Pw.takeR s).1 : Int) then ([], [], 2) else if (Pw.takeR s).2.1.length < (Pw.takeR s).1 then ([], [], 20) else ((Pw.takeR s).2.1.take (Pw.takeR s).1, (Pw.takeR s).2.1.drop (Pw.takeR s).1, 0)
theorem Code.textR_Pm (most : Int) (s : List UInt8) : Code.textR most s = if (Code.textPm most s).2.2 ≠ 0 then ([], s, (Code.textPm most s).2.2) else ((Code.textPm most s).1, (Code.textPm most s).2.1, 0) := by
  unfold Code.textR Code.countL Code.textPm Pw.takeR
  by_cases he : (Code.leadL s).2.2 = 0
  · have e1 : ¬ ((Code.leadL s).2.2 ≠ 0) := by simpa using he
    simp only [if_neg e1]
    by_cases h6 : most < ((Code.leadL s).1 : Int)
    · simp [h6]
    · simp only [if_neg h6]
      by_cases hlen : (s.drop (Code.leadL s).2.1).length < (Code.leadL s).1
      · simp only [if_pos hlen]
        simp
      · simp only [if_neg hlen]
        simp
  · simp [he]
set_option maxRecDepth 8000 in
set_option maxHeartbeats 1000000 in
theorem rtextm_any (most : Int) (s : List UInt8) (w : World) (hl : s.length ≤ 100000000) :
    Calls Tryd.prog 80 #[.string ⟨s.toArray⟩, .int .i64 most] w fun e w' => e = .returned (.tuple #[.string ⟨(Code.textPm most s).1.toArray⟩, .string ⟨(Code.textPm most s).2.1.toArray⟩, .int .i64 (Code.textPm most s).2.2]) ∧ Below w.heap.size w w' := by
  have HT := Lib.hid (rtake_any s w hl)
  have hr := Pw.takeR_lt s
  unfold Code.textPm
  obtain ⟨⟨n, r, e⟩, hp⟩ : ∃ p, Pw.takeR s = p := ⟨_, rfl⟩
  rw [hp] at HT hr ⊢
  dsimp only at HT hr ⊢
  have hrl : r.length ≤ 100000000 := by omega
  clear hp hl
  by_cases he : e = 0
  · subst he
    rw [if_neg (by simp)]
    by_cases h6 : most < (n : Int)
    · rw [if_pos h6]
      clear hr
      go_enter Tryd.func80, Tryd.ntmps80
      go_wp2_with fail
      refine HT.out.mono ?_
      rintro e w1 ⟨rfl, hb⟩
      go_wp2
      go_ret3
      exact ⟨rfl, hb⟩
    · rw [if_neg h6]
      by_cases hlen : r.length < n
      · rw [if_pos hlen]
        have hlen' : (r.length : Int) < (n : Int) := by omega
        clear hr
        go_enter Tryd.func80, Tryd.ntmps80
        go_wp2_with fail
        refine HT.out.mono ?_
        rintro e w1 ⟨rfl, hb⟩
        go_wp2
        go_ret3
        exact ⟨rfl, hb⟩
      · rw [if_neg hlen]
        have hlen' : ¬ ((r.length : Int) < (n : Int)) := by omega
        have he1 := ext_take r n
        have he2 := ext_drop r n
        have hn0 : (0 : Int) ≤ (n : Int) := by omega
        have hn1 : (n : Int) ≤ (r.length : Int) := by omega
        clear hr
        go_enter Tryd.func80, Tryd.ntmps80
        go_wp2_with fail
        refine HT.out.mono ?_
        rintro e w1 ⟨rfl, hb⟩
        go_wp2
        go_quiet (fail)
        go_wp2
        go_ret3
        exact ⟨rfl, bel_drewN' hb _⟩
  · rw [if_pos he]
    have he' : (e != 0) = true := by rw [bne_iff_ne]; exact he
    clear hr
    go_enter Tryd.func80, Tryd.ntmps80
    go_wp2_with fail
    refine HT.out.mono ?_
    rintro e w1 ⟨rfl, hb⟩
    go_wp2
    go_ret3
    exact ⟨rfl, hb⟩

/-- What is left to be read behind k texts, against the whole. -/
def Code.Left (Q : List (List UInt8) × List UInt8 × Int) (n k : Nat) (each : Int) (r : List UInt8) (O : List (List UInt8)) (c : Int) : Prop :=
  (c = 0 ∧ Q.2.2 = (Code.readN (n - k) each r).2.2 ∧ (Q.2.2 = 0 → Q.1 = O ++ (Code.readN (n - k) each r).1 ∧ Q.2.1 = (Code.readN (n - k) each r).2.1)) ∨ (c ≠ 0 ∧ Q.2.2 = c)
theorem Code.Left.bad {Q : List (List UInt8) × List UInt8 × Int} {n k : Nat} {each : Int} {r : List UInt8} {O : List (List UInt8)} (h : Code.Left Q n k each r O 0) (hk : k < n) (he : (Code.textR each r).2.2 ≠ 0) (r' : List UInt8) (O' : List (List UInt8)) : Code.Left Q n (k + 1) each r' O' (Code.textR each r).2.2 := by
  rcases h with ⟨_, h1, h2⟩ | ⟨h, _⟩
  · refine Or.inr ⟨he, ?_⟩
    obtain ⟨m, hm⟩ : ∃ m, n - k = m + 1 := ⟨n - k - 1, by omega⟩
    rw [h1, hm, Code.readN, if_pos he]
  · exact absurd rfl h
theorem Code.Left.good {Q : List (List UInt8) × List UInt8 × Int} {n k : Nat} {each : Int} {r : List UInt8} {O : List (List UInt8)} (h : Code.Left Q n k each r O 0) (hk : k < n) (he : (Code.textR each r).2.2 = 0) : Code.Left Q n (k + 1) each (Code.textR each r).2.1 (O ++ [(Code.textR each r).1]) 0 := by
  rcases h with ⟨_, h1, h2⟩ | ⟨h, _⟩
  · refine Or.inl ⟨rfl, ?_⟩
    obtain ⟨m, hm⟩ : ∃ m, n - k = m + 1 := ⟨n - k - 1, by omega⟩
    have hm' : n - (k + 1) = m := by omega
    rw [hm, Code.readN, if_neg (by simpa using he)] at h1 h2
    rw [hm']
    refine ⟨h1, fun q => ?_⟩
    obtain ⟨h3, h4⟩ := h2 q
    exact ⟨by rw [h3]; simp, h4⟩
  · exact absurd rfl h

def RListPost (most each : Int) (s : List UInt8) (g : Nat) (w : World) (e : Ending) (w' : World) : Prop :=
  ∃ v, e = .returned v ∧ Own w' w.heap.size v (Code.listR most each s).1 ∧ RRd w' g (Code.listR most each s).2.1 (Code.listR most each s).2.2 ∧ Only g w w'
theorem Own.only {w w' : World} {B g : Nat} {v : Value} {L : List (List UInt8)} (h : Own w B v L) (ho : Only g w w') (hg : g < B) : Own w' B v L := by
  refine ⟨h.1, ?_⟩
  rcases h.2 with hn | ⟨k, cap, cur, hv, hb, hk, hr⟩
  · exact Or.inl hn
  · exact Or.inr ⟨k, cap, cur, hv, hb, (ho.block k (lt_of_heap hk) (by omega)).trans hk, hr⟩

set_option maxRecDepth 8000 in
set_option maxHeartbeats 2000000 in
theorem rrlist_any (most each : Int) (s : List UInt8) (g : Nat) (w : World) (h : RRd w g s 0) (hl : s.length ≤ 100000000) :
    Calls Tryd.prog 60 #[.pointer (some ⟨g, 0, none⟩), .int .i64 most, .int .i64 each] w (RListPost most each s g w) := by
  unfold RListPost
  obtain ⟨i0, hi, hz0, hz1, hz2⟩ := info_parts Tryd.infoStr
  have h0 := h.left
  have h1 := h.code
  have HR := Lib.hid h
  have HGL := Lib.hid h.lt
  have HT := Lib.hid (rtake_any s w hl)
  have htl := Pw.takeR_lt s
  have HCO : Hid (Code.countL most s = if (Pw.takeR s).2.2 ≠ 0 then (0, s, (Pw.takeR s).2.2) else if most < ((Pw.takeR s).1 : Int) then (0, s, 2) else ((Pw.takeR s).1, (Pw.takeR s).2.1, 0)) := Lib.hid (by
    unfold Code.countL Pw.takeR
    by_cases he : (Code.leadL s).2.2 = 0
    · have e1 : ¬ ((Code.leadL s).2.2 ≠ 0) := by simpa using he
      simp only [if_neg e1]
      simp only [ne_eq, not_true_eq_false, if_false, gt_iff_lt]
    · simp [he])
  have htk : (Pw.takeR s).2.2 = 0 → (Pw.takeR s).2.1.length + 1 ≤ s.length := by
    intro e
    unfold Pw.takeR at e ⊢
    split at e
    · rename_i h; exact absurd e h
    · rename_i h
      rw [if_neg h]
      have h6 := Code.lead_ok s (by simpa using h)
      have h7 := congrArg List.length h6.2.2
      rw [List.length_take, Code.numL_length] at h7
      simp only [List.length_drop]
      omega
  obtain ⟨⟨n, r, e⟩, hp⟩ : ∃ p, Pw.takeR s = p := ⟨_, rfl⟩
  rw [hp] at HT htl HCO htk
  dsimp only at HT htl HCO htk
  have HB0 : Hid (∀ w1, Below w.heap.size w w1 → RRd w1 g s 0) := Lib.hid (fun w1 hb => HR.out.below hb)
  clear hp h
  by_cases he : e = 0
  case neg =>
    have hL : Code.listR most each s = ([], s, e) := by
      have hc : Code.countL most s = (0, s, e) := by rw [HCO.out, if_pos he]
      unfold Code.listR
      rw [hc]
      simp [he]
    rw [hL]
    dsimp only
    have he1 : (e == 0) = false := by rw [beq_eq_false_iff_ne]; exact he
    have he2 : (e != 0) = true := by rw [bne_iff_ne]; exact he
    clear hL htk htl
    go_enter Tryd.func60, Tryd.ntmps60
    go_wp2_with fail
    refine HT.out.mono ?_
    rintro e1 w1 ⟨rfl, hb⟩
    have HBB := Lib.hid hb
    have g1 := (HB0.out w1 hb).code
    have f1 := (HB0.out w1 hb).free1
    clear h0 h1 hb
    go_wp2
    go_loopw [8, 9, 10, 11] (fun rest e1 out i wr => rest = .string ⟨r.toArray⟩ ∧ e1 = .int .i64 e ∧ out = .slice none 0 0 ∧ i = .int .i64 0 ∧ wr = w1) (fun _ _ _ _ _ => 0)
    case atStart => exact ⟨rfl, rfl, rfl, rfl, rfl⟩
    case round =>
      obtain ⟨rfl, rfl, rfl, rfl, rfl⟩ := hrel
      go_wp2
      go_ret
      exact ⟨_, rfl, Own.nil _ _, (HB0.out _ HBB.out).setCode _, (Only.of HBB.out).setCell (p := ⟨g, 1, none⟩) rfl _⟩
  subst he
  have htk' := htk rfl
  by_cases hm : most < (n : Int)
  · have hL : Code.listR most each s = ([], s, 2) := by
      have hc : Code.countL most s = (0, s, 2) := by rw [HCO.out, if_neg (by simp), if_pos hm]
      unfold Code.listR
      rw [hc]
      simp
    rw [hL]
    dsimp only
    clear hL htk htl htk'
    go_enter Tryd.func60, Tryd.ntmps60
    go_wp2_with fail
    refine HT.out.mono ?_
    rintro e1 w1 ⟨rfl, hb⟩
    have HBB := Lib.hid hb
    have g1 := (HB0.out w1 hb).code
    have f1 := (HB0.out w1 hb).free1
    clear h0 h1 hb
    go_wp2
    go_loopw [8, 9, 10, 11] (fun rest e1 out i wr => rest = .string ⟨r.toArray⟩ ∧ e1 = .int .i64 2 ∧ out = .slice none 0 0 ∧ i = .int .i64 0 ∧ wr = w1) (fun _ _ _ _ _ => 0)
    case atStart => exact ⟨rfl, rfl, rfl, rfl, rfl⟩
    case round =>
      obtain ⟨rfl, rfl, rfl, rfl, rfl⟩ := hrel
      go_wp2
      go_ret
      exact ⟨_, rfl, Own.nil _ _, (HB0.out _ HBB.out).setCode _, (Only.of HBB.out).setCell (p := ⟨g, 1, none⟩) rfl _⟩
  have HL : Hid (Code.listR most each s = if (Code.readN n each r).2.2 ≠ 0 then ([], s, (Code.readN n each r).2.2) else Code.readN n each r) := Lib.hid (by
    have hc : Code.countL most s = (n, r, 0) := by rw [HCO.out, if_neg (by simp), if_neg hm]
    unfold Code.listR
    rw [hc]
    simp)
  obtain ⟨X, hX⟩ : ∃ X, Code.listR most each s = X := ⟨_, rfl⟩
  rw [hX] at HL ⊢
  obtain ⟨Q, hQ⟩ : ∃ Q, Code.readN n each r = Q := ⟨_, rfl⟩
  have hQ0 : Code.Left Q n 0 each r [] 0 := Or.inl ⟨rfl, by rw [← hQ]; rfl, fun _ => by rw [← hQ]; simp⟩
  rw [hQ] at HL
  have HQ0 := Lib.hid hQ0
  have hrl : r.length ≤ 100000000 := by omega
  have HRL := Lib.hid hrl
  have hn9 : (n : Int) ≤ 9223372036854775807 := by have := htl.1; omega
  clear hX hQ hQ0 htk htl htk' hrl hl
  go_enter Tryd.func60, Tryd.ntmps60
  go_wp2_with fail
  refine HT.out.mono ?_
  rintro e1 w1 ⟨rfl, hb⟩
  have HBB := Lib.hid hb
  clear h0 h1 hb
  go_wp2
  go_loopw [8, 9, 10, 11] (fun rest e1 out i wr => ∃ (k : Nat) (c : Int) (rk : List UInt8) (O : List (List UInt8)) (z : Value), z = out ∧ rest = .string ⟨rk.toArray⟩ ∧ e1 = .int .i64 c ∧ i = .int .i64 k ∧ k ≤ n ∧ O.length = k ∧ (c = 0 → k + rk.length ≤ r.length) ∧ Hid (Code.Left Q n k each rk O c) ∧ Own wr w.heap.size z O ∧ Below w.heap.size w wr) (fun _ _ _ i _ => n - (intOf i).toNat)
  case atStart => exact ⟨0, 0, r, [], _, rfl, rfl, rfl, rfl, Nat.zero_le _, rfl, fun _ => by omega, HQ0, Own.nil _ _, HBB.out⟩
  case round =>
    obtain ⟨k, c, rk, O, z, rfl, rfl, rfl, rfl, hk, hOk, hkl, HLF, hown, hb⟩ := hrel
    have HOW := Lib.hid hown
    have HBk := Lib.hid hb
    have HOK := Lib.hid hOk
    clear hown hOk
    by_cases hc : c = 0
    · subst hc
      have hkl' := hkl rfl
      clear hkl
      by_cases hlt : k < n
      · have h1 : (k : Int) < (n : Int) := by omega
        have hkr : k ≤ 100000000 := by have := HRL.out; omega
        have HKR := Lib.hid hkr
        have h3 : (k : Int) ≤ 9223372036854775806 := by omega
        have HTX := Lib.hid (rtextm_any each rk wr (by have := HRL.out; omega))
        have HRP := Lib.hid (Code.textR_Pm each rk)
        have HTL := Lib.hid (Code.text_less each rk)
        obtain ⟨⟨x, r', e'⟩, hp⟩ : ∃ p, Code.textPm each rk = p := ⟨_, rfl⟩
        rw [hp] at HTX HRP
        dsimp only at HTX HRP
        have HNX : Hid ((e' = 0 → k + 1 + r'.length ≤ r.length) ∧ Code.Left Q n (k + 1) each r' (O ++ [x]) e') := Lib.hid (by
          by_cases he : e' = 0
          · subst he
            have e1 := HRP.out
            rw [if_neg (by simp)] at e1
            have e2 := HTL.out (by rw [e1])
            have e3 := HLF.out.good hlt (by rw [e1])
            rw [e1] at e2 e3
            dsimp only at e2 e3
            exact ⟨fun _ => by omega, e3⟩
          · have e1 := HRP.out
            rw [if_pos he] at e1
            have e3 := HLF.out.bad hlt (by rw [e1]; exact he) r' (O ++ [x])
            rw [e1] at e3
            exact ⟨fun h => absurd h he, e3⟩)
        have HSZ : Hid (w.heap.size ≤ wr.heap.size) := Lib.hid hb.size
        clear hp hkr hkl' hb
        go_wp2_with fail
        refine HTX.out.mono ?_
        rintro e1 w2 ⟨rfl, hb2⟩
        have HB2 := Lib.hid (HBk.out.trans (hb2.mono HSZ.out))
        have HOW2 := Lib.hid (HOW.out.below hb2)
        have HSZ2 : Hid (w.heap.size ≤ w2.heap.size) := Lib.hid (Nat.le_trans HSZ.out hb2.size)
        clear hb2
        go_wp2_with (at_builtin; refine wpList_append_lies _ rfl _ _ _ rfl w.heap.size 9 i0 (.string ⟨#[]⟩) 1 16 Tryd.underlying26 hi hz0 hz1 hz2 rfl (by decide) z O.length (scells O) (by rfl) (World.ownsRow.alloc HOW2.out _) ⟨w2.heap.size, 0, none⟩ 1 1 (scells [x]) (by rfl) rfl (World.news_of_block (heap_new_at _ _ _ rfl)) (by simp [scells, Value.oneCell']) (by decide) (by have := HOK.out; have := HKR.out; unfold maxLen; omega) (by have := HOK.out; have := HKR.out; omega) (by have := HSZ2.out; simp; omega) (w2.heap.size + 1) (by simp) ?_; intro g' cap' w5 hown5 hgrow5 hat5 hlt5)
        have hB5 : Below w.heap.size w w5 := HB2.out.trans (((Out.of ((Below.refl _ w2).alloc (Nat.le_refl _) _)).trans (Out.grown hgrow5 (F := fun j => z.ownBlock = some j) (fun j e => e))).below (fun j hj => (HOW2.out.lt j hj).1) HSZ2.out)
        refine ⟨⟨k + 1, e', r', O ++ [x], _, rfl, rfl, rfl, by go_num, by omega, by rw [List.length_append, HOK.out]; rfl, HNX.out.1, Lib.hid HNX.out.2, ?_, hB5⟩, by simp [intOf]; omega⟩
        unfold Own
        rw [scells_append, List.length_append]
        exact hown5
      · have h1 : ¬ ((k : Int) < (n : Int)) := by omega
        obtain rfl : k = n := by omega
        obtain rfl : X = (O, rk, 0) := (by
          rcases HLF.out with ⟨_, e1, e2⟩ | ⟨e, _⟩
          · rw [Nat.sub_self] at e1 e2
            have e3 : Q.2.2 = 0 := e1
            obtain ⟨e4, e5⟩ := e2 e3
            rw [HL.out, if_neg (by simpa using e3)]
            obtain ⟨q1, q2, q3⟩ := Q
            simp [Code.readN] at e3 e4 e5
            simp [e3, e4, e5]
          · exact absurd rfl e)
        have h2 := HB0.out wr hb
        have g1 := h2.code
        have f1 := h2.free1
        have h3 := h2.setCode 0
        have g0 := h3.left
        have f0 := h3.free0
        have HR3 := Lib.hid h3
        clear h2 h3 hb hkl'
        go_wp2
        go_ret
        exact ⟨z, rfl, (HOW.out.only (((Only.refl g _).setCell (p := ⟨g, 1, none⟩) rfl _).setCell (p := ⟨g, 0, none⟩) rfl _) HGL.out), HR3.out.setLeft rk, ((Only.of HBk.out).setCell (p := ⟨g, 1, none⟩) rfl _).setCell (p := ⟨g, 0, none⟩) rfl _⟩
    · have hc1 : (c == 0) = false := by rw [beq_eq_false_iff_ne]; exact hc
      have hc2 : (c != 0) = true := by rw [bne_iff_ne]; exact hc
      obtain rfl : X = ([], s, c) := (by
        rcases HLF.out with ⟨e, _⟩ | ⟨_, e1⟩
        · exact absurd e hc
        · rw [HL.out, e1, if_pos hc])
      have h2 := HB0.out wr hb
      have g1 := h2.code
      have f1 := h2.free1
      have HR2 := Lib.hid h2
      clear h2 hb hkl
      go_wp2
      go_ret
      exact ⟨_, rfl, Own.nil _ _, HR2.out.setCode _, (Only.of HBk.out).setCell (p := ⟨g, 1, none⟩) rfl _⟩

set_option maxRecDepth 8000 in
set_option maxHeartbeats 400000 in
theorem rrend_st (st : Pw.St) (g : Nat) (w : World) (h : RRd w g st.1 st.2) :
    Calls Tryd.prog 61 #[.pointer (some ⟨g, 0, none⟩)] w fun e w' => e = .returned (.int .i64 (Pw.endC st)) ∧ Only g w w' := by
  obtain ⟨s, c⟩ := st
  dsimp only at h
  have h0 := h.left
  have h1 := h.code
  have hf1 := h.free1
  unfold Pw.endC
  dsimp only
  by_cases hc : c = 0
  · subst hc
    cases s with
    | nil =>
      rw [if_neg (by simp)]
      go_enter Tryd.func61, Tryd.ntmps61
      go_wp2
      go_ret
      exact ⟨rfl, Only.refl _ _⟩
    | cons a s =>
      rw [if_pos (by simp)]
      have hrd := (h.setCode 3).code
      go_enter Tryd.func61, Tryd.ntmps61
      go_wp2
      go_ret
      exact ⟨rfl, (Only.refl g _).setCell rfl _⟩
  · rw [if_neg (fun h => hc h.1)]
    have hc1 : (c == 0) = false := by rw [beq_eq_false_iff_ne]; exact hc
    go_enter Tryd.func61, Tryd.ntmps61
    go_wp2
    go_ret
    exact ⟨rfl, Only.refl _ _⟩
end Go.Proofs.YtojpkodmpjibkaaDoor
