/- The law ScanTells, walked. -/
import Derived.Test.YtkdecmijnojhoaaDoorPk10
import Derived.Test.YtkdecmijnojhoaaDoorPk11
import Derived.BigQuiet
namespace Go.Proofs.YtkdecmijnojhoaaDoor
open Go.RowKit
open Sto (T St)

set_option maxRecDepth 100000 in
set_option maxHeartbeats 8000000 in
theorem scanTells_walk (HBE : BehindOk) (HRA : RangeOk) (HCO : CountOk) (v : Value) (L : St) (p : T × T) (m : Int) (w : World) (hv : ItIn w v L) (hT : Tab w) :
    Calls Tryd.prog 3 #[v, .agg #[.string ⟨p.1.toArray⟩, .string ⟨p.2.toArray⟩], .int .i64 m] w fun e w' => e = .returned (.bool true) ∧ Below w.heap.size w w' := by
  obtain ⟨f, en⟩ := p
  show Calls _ _ #[v, .agg #[.string ⟨f.toArray⟩, .string ⟨en.toArray⟩], .int .i64 m] w _
  obtain ⟨w0, hw0⟩ : ∃ w0, w.alloc (.cells #[.string ⟨f.toArray⟩, .string ⟨en.toArray⟩] 23) = w0 := ⟨_, rfl⟩
  have hb0 : Below w.heap.size w w0 := by rw [← hw0]; exact (Below.refl _ w).alloc (Nat.le_refl _) _
  have ra : w0.heap[w.heap.size]? = some (.cells #[.string ⟨f.toArray⟩, .string ⟨en.toArray⟩] 23 (0, 0)) := by rw [← hw0]; exact heap_alloc_new w _
  have HC : Hid (∀ w', Below w0.heap.size w0 w' → w'.cell? ⟨w.heap.size, 0, none⟩ = some (.string ⟨f.toArray⟩) ∧ w'.cell? ⟨w.heap.size, 1, none⟩ = some (.string ⟨en.toArray⟩)) := Lib.hid (fun w' hb => by
    have xa := (hb.block _ (lt_of_heap ra)).trans ra
    refine ⟨?_, ?_⟩
    · rw [cell_of_row _ _ 0 _ _ _ xa]; rfl
    · rw [cell_of_row _ _ 1 _ _ _ xa]; rfl)
  have HV0 := Lib.hid (RowsIn.below hv hb0)
  have HT0 := Lib.hid (hT.below hb0)
  have HB0 := Lib.hid hb0
  have HWK0 : Hid (∀ w', Below w0.heap.size w0 w' → Calls Tryd.prog 7 #[] w' fun e w'' => e = Ending.returned (.bool true) ∧ Below w'.heap.size w' w'') := Lib.hid (fun w' hb => scworks_any HBE HRA w' (HT0.out.below hb))
  have HWK : Hid (∀ w', Below w0.heap.size w0 w' → Calls Tryd.prog 7 #[] w' fun e w'' => e = Ending.returned (.bool true) ∧ Below w0.heap.size w0 w'') := Lib.hid (fun w' hb => (HWK0.out w' hb).mono fun e w'' ⟨q1, q2⟩ => ⟨q1, bchain hb q2⟩)
  obtain ⟨bh, hbh⟩ : ∃ bh, Scn.behind = bh := ⟨_, rfl⟩
  have HBC0 : Hid (∀ x w', x.length ≤ 100 → Calls Tryd.prog 10 #[.string ⟨x.toArray⟩] w' fun e w'' => e = Ending.returned (.string ⟨(bh x).toArray⟩) ∧ Below w'.heap.size w' w'') := Lib.hid (fun x w' hx =>
    (HBE x w' (by unfold maxLen; omega)).mono fun e w'' ⟨q1, q2⟩ => ⟨by rw [q1, hbh], q2⟩)
  have HBR0 : Hid (∀ x w', x.length ≤ 100 → Calls Tryd.prog 11 #[.string ⟨x.toArray⟩] w' fun e w'' => e = Ending.returned (.string ⟨(bh x).toArray⟩) ∧ Below w'.heap.size w' w'') := Lib.hid (fun x w' hx =>
    (rscBehind_any x w' (by omega)).mono fun e w'' ⟨q1, q2⟩ => ⟨by rw [q1, hbh], q2⟩)
  have HBC : Hid (∀ x w', x.length ≤ 100 → Below w0.heap.size w0 w' → Calls Tryd.prog 10 #[.string ⟨x.toArray⟩] w' fun e w'' => e = Ending.returned (.string ⟨(bh x).toArray⟩) ∧ Below w0.heap.size w0 w'') := Lib.hid (fun x w' hx hb =>
    (HBC0.out x w' hx).mono fun e w'' ⟨q1, q2⟩ => ⟨q1, bchain hb q2⟩)
  have HBR : Hid (∀ x w', x.length ≤ 100 → Below w0.heap.size w0 w' → Calls Tryd.prog 11 #[.string ⟨x.toArray⟩] w' fun e w'' => e = Ending.returned (.string ⟨(bh x).toArray⟩) ∧ Below w0.heap.size w0 w'') := Lib.hid (fun x w' hx hb =>
    (HBR0.out x w' hx).mono fun e w'' ⟨q1, q2⟩ => ⟨q1, bchain hb q2⟩)
  have HRA := Lib.hid HRA
  have HCO := Lib.hid HCO
  obtain ⟨A, cap, rfl, -, -⟩ := hv.form
  clear ra hb0 hT hv HBE hbh
  go_enter Tryd.func3, Tryd.ntmps3
  obtain ⟨a1, a2⟩ : w0.cell? ⟨w.heap.size, 0, none⟩ = some (.string ⟨f.toArray⟩) ∧ w0.cell? ⟨w.heap.size, 1, none⟩ = some (.string ⟨en.toArray⟩) := HC.out _ (Below.refl _ _)
  by_cases hl40 : 40 < L.length
  · have q1 : (40 : Int) < (L.length : Int) := by omega
    have q2 : decide ((40 : Int) < (L.length : Int)) = true := decide_eq_true q1
    clear hl40
    go_wp2_with fail
    refine (HWK.out _ (Below.refl _ _)).mono ?_
    rintro e w1 ⟨rfl, hb1⟩
    go_wp2
    go_ret
    exact ⟨rfl, bchain HB0.out hb1⟩
  have q1 : ¬ ((40 : Int) < (L.length : Int)) := by omega
  have q2 : decide ((40 : Int) < (L.length : Int)) = false := decide_eq_false q1
  have HLL : Hid (L.length ≤ 40) := Lib.hid (by omega)
  clear hl40
  by_cases hf : 100 < f.length
  · have q3 : (100 : Int) < (f.length : Int) := by omega
    have q4 : decide ((100 : Int) < (f.length : Int)) = true := decide_eq_true q3
    clear hf
    go_wp2_with fail
    refine (HWK.out _ (Below.refl _ _)).mono ?_
    rintro e w1 ⟨rfl, hb1⟩
    go_wp2
    go_ret
    exact ⟨rfl, bchain HB0.out hb1⟩
  have q3 : ¬ ((100 : Int) < (f.length : Int)) := by omega
  have q4 : decide ((100 : Int) < (f.length : Int)) = false := decide_eq_false q3
  have HFL : Hid (f.length ≤ 100) := Lib.hid (by omega)
  clear hf
  by_cases hen : 100 < en.length
  · have q5 : (100 : Int) < (en.length : Int) := by omega
    have q6 : decide ((100 : Int) < (en.length : Int)) = true := decide_eq_true q5
    clear hen
    go_wp2_with fail
    refine (HWK.out _ (Below.refl _ _)).mono ?_
    rintro e w1 ⟨rfl, hb1⟩
    go_wp2
    go_ret
    exact ⟨rfl, bchain HB0.out hb1⟩
  have q5 : ¬ ((100 : Int) < (en.length : Int)) := by omega
  have q6 : decide ((100 : Int) < (en.length : Int)) = false := decide_eq_false q5
  have HEL : Hid (en.length ≤ 100) := Lib.hid (by omega)
  clear hen
  go_wp2_with fail
  refine (rtOf_all L _ w0 HV0.out (by have := HLL.out; omega)).mono ?_
  rintro e w1 ⟨v1, rfl, it1, hb1⟩
  have HB1 := Lib.hid hb1
  have HI1 := Lib.hid (fun w' (h : Below w1.heap.size w1 w') => RowsAt.below it1 h)
  clear it1 hb1 a1 a2
  go_wp2_with fail
  refine (tof_in L _ w1 (RowsIn.below HV0.out HB1.out) (by have := HLL.out; omega) (HT0.out.below HB1.out)).mono ?_
  rintro e w2 ⟨z, rfl, hz1, hz0, hb2⟩
  have HB2 := Lib.hid (bchain HB1.out hb2)
  have HI2 := Lib.hid (fun w' (h : Below w2.heap.size w2 w') => HI1.out w' (bchain hb2 h))
  obtain ⟨⟨S, c⟩, hSc⟩ : ∃ X, Tri.ofR [] L = X := ⟨_, rfl⟩
  rw [hSc] at hz1 hz0 HI2 ⊢
  dsimp only at hz1 hz0 HI2 ⊢
  clear hSc hb2 HI1
  have hcc : ((c : Int) == (c : Int)) = true := beq_self_eq_true _
  have hcn : ((c : Int) != (c : Int)) = false := by simp
  have hbf : (bh f == bh f) = true := beq_self_eq_true _
  have hbe : (bh en == bh en) = true := beq_self_eq_true _
  have cF := HFL.out
  have cE := HEL.out
  by_cases hc : c = 0
  case neg =>
    have e1 : z = nilp := hz0 hc
    subst e1
    have hc1 : ((c : Int) == 0) = false := by rw [beq_eq_false_iff_ne]; omega
    have hc2 : ((c : Int) != 0) = true := by rw [bne_iff_ne]; omega
    have hc3 : ¬ ((c : Int) = 0) := by omega
    unfold nilp
    clear hz1 hz0 hc
    have BD : Below w0.heap.size w0 w2.drew := HB2.out.drew
    have cD := HC.out _ BD
    go_upto_region 8 with fail
    go_cut [6] from 48 to 57 (fun c wx => c = .bool true ∧ Below w0.heap.size w0 wx)
    case first =>
      go_wp2
      go_region_held3 (fun w' => w'.cell? ⟨w.heap.size, 0, none⟩ = some (.string ⟨f.toArray⟩) ∧ w'.cell? ⟨w.heap.size, 1, none⟩ = some (.string ⟨en.toArray⟩))
        ((first | (with_reducible assumption) | (refine HC.out _ ?_; with_reducible assumption)))
        (first | (go_at_call 10; refine (HBC.out _ _ ?_ ?_).mono ?_; (with_reducible assumption); (with_reducible assumption); rintro e wf ⟨rfl, hf1⟩) | (go_at_call 11; refine (HBR.out _ _ ?_ ?_).mono ?_; (with_reducible assumption); (with_reducible assumption); rintro e wg ⟨rfl, hg1⟩) | (go_at_call 7; refine (HWK.out _ ?_).mono ?_; (with_reducible assumption); rintro e wh ⟨rfl, hh1⟩))
      all_goals
        go_wp2_with fail
        go_meet
        case rel => exact ⟨rfl, by with_reducible assumption⟩
    case rest =>
      obtain ⟨rfl, hbx⟩ := hcut
      go_wp2
      go_ret
      exact ⟨rfl, bchain HB0.out hbx⟩
  subst hc
  obtain ⟨g, rfl, t2⟩ := hz1 rfl
  have HTR := Lib.hid (fun w' (hb : Below w2.heap.size w2 w') => t2.below hb)
  have HSF : Hid (S.length ≤ 1024) := Lib.hid t2.few
  have HSK : Hid (∀ q ∈ S, q.1.length ≤ 1000000) := Lib.hid (fun q hq => by
    obtain ⟨_, _, _, _, h⟩ := t2
    have := (h.fair q hq).2.1
    omega)
  clear hz1 hz0 t2
  unfold ptr
  obtain ⟨a1, a2⟩ := HC.out _ HB2.out
  go_wp2_with fail
  refine (HRA.out g S f en m w2 (HTR.out _ (Below.refl _ _))).mono ?_
  rintro e w3 ⟨s3, rfl, o3, hb3⟩
  have HB3 := Lib.hid (bchain HB2.out hb3)
  have HK3 := Lib.hid hb3
  have HO3 := Lib.hid o3
  clear o3 hb3 a1 a2
  obtain ⟨a1, a2⟩ := HC.out _ HB3.out
  go_wp2_with fail
  refine (rscRange_any S v1 f en m w3 (HI2.out _ HK3.out) (by have := HSF.out; omega) HSK.out).mono ?_
  rintro e w4 ⟨s4, rfl, it4, hb4⟩
  have HB4 := Lib.hid (bchain HB3.out hb4)
  have HK4 := Lib.hid (bchain HK3.out hb4)
  have HO4 := Lib.hid (HO3.out.below hb4)
  have HPL : Hid ((Scn.pageR S f en m).1.length ≤ 1000000) := Lib.hid (by
    have h1 := HSF.out
    have h2 := Scn.allR_len S f en
    unfold Scn.pageR
    split
    · split
      · show (Scn.allR S f en).length ≤ _; omega
      · show ((Scn.allR S f en).take _).length ≤ _; simp only [List.length_take]; omega
    · simp)
  have HSA : Hid (∀ w', Below w4.heap.size w4 w' → Calls Tryd.prog 14 #[s3, s4] w' fun e w'' => e = Ending.returned (.bool true) ∧ Below w4.heap.size w4 w'') := Lib.hid (fun w' h =>
    (sameI_any _ _ s3 s4 w' (HO4.out.below h).at_ (RowsAt.below it4 h) HPL.out HPL.out).mono fun e w'' ⟨q1, q2⟩ => ⟨by rw [q1, decide_eq_true rfl], bchain h q2⟩)
  obtain ⟨cn, hcn⟩ : ∃ cn, (Scn.allR S f en).length = cn := ⟨_, rfl⟩
  have HCC : Hid (∀ w', Below w4.heap.size w4 w' → Calls Tryd.prog 15 #[.pointer (some ⟨g, 0, none⟩), .string ⟨f.toArray⟩, .string ⟨en.toArray⟩] w' fun e w'' => e = Ending.returned (.int .i64 cn) ∧ Below w4.heap.size w4 w'') := Lib.hid (fun w' h =>
    (HCO.out g S f en w' (HTR.out _ (bchain HK4.out h))).mono fun e w'' ⟨q1, q2⟩ => ⟨by rw [q1, hcn], bchain h q2⟩)
  have HAL : Hid (∀ w', Below w4.heap.size w4 w' → Calls Tryd.prog 16 #[v1, .string ⟨f.toArray⟩, .string ⟨en.toArray⟩] w' fun e w'' => ∃ A cap, e = Ending.returned (.slice A cn cap) ∧ Below w4.heap.size w4 w'') := Lib.hid (fun w' h =>
    (rscAll_any S v1 f en w' (HI2.out _ (bchain HK4.out h)) (by have := HSF.out; omega)).mono fun e w'' ⟨s, q1, q2, q3⟩ => by
      obtain ⟨A, cap, rfl, -, -⟩ := q2.at_.form
      exact ⟨A, cap, by rw [q1, hcn], bchain h q3⟩)
  obtain ⟨NX, hNX⟩ : ∃ n, (Scn.pageR S f en m).2.1 = n := ⟨_, rfl⟩
  obtain ⟨cc, hcd⟩ : ∃ n, (Scn.pageR S f en m).2.2 = n := ⟨_, rfl⟩
  rw [hNX, hcd]
  have j1 : (NX == NX) = true := beq_self_eq_true _
  have j2 : (NX != NX) = false := by simp
  have j3 : ((cc : Int) == (cc : Int)) = true := beq_self_eq_true _
  have j4 : ((cc : Int) != (cc : Int)) = false := by simp
  have j5 : ((cn : Int) != (cn : Int)) = false := by simp
  have j6 : ((cn : Int) == (cn : Int)) = true := beq_self_eq_true _
  have BD : Below w4.heap.size w4 w4.drew := (Below.refl _ _).drew
  have HCW : Hid (∀ w', Below w4.heap.size w4 w' → w'.cell? ⟨w.heap.size, 0, none⟩ = some (.string ⟨f.toArray⟩) ∧ w'.cell? ⟨w.heap.size, 1, none⟩ = some (.string ⟨en.toArray⟩)) := Lib.hid (fun w' h => HC.out _ (bchain HB4.out h))
  have cD := HCW.out _ BD
  clear hNX hcd hcn it4 hb4 a1 a2
  go_upto_region 11 with fail
  go_cut [109] from 80 to 109 (fun c wx => c = .bool false ∧ Below w4.heap.size w4 wx)
  case first =>
    go_wp2
    go_region_held3 (fun w' => w'.cell? ⟨w.heap.size, 0, none⟩ = some (.string ⟨f.toArray⟩) ∧ w'.cell? ⟨w.heap.size, 1, none⟩ = some (.string ⟨en.toArray⟩))
      ((first | (with_reducible assumption) | (refine HCW.out _ ?_; with_reducible assumption)))
      (first | (go_at_call 14; refine (HSA.out _ ?_).mono ?_; (with_reducible assumption); rintro e wf ⟨rfl, hf1⟩) | (go_at_call 15; refine (HCC.out _ ?_).mono ?_; (with_reducible assumption); rintro e wg ⟨rfl, hg1⟩) | (go_at_call 16; refine (HAL.out _ ?_).mono ?_; (with_reducible assumption); rintro e wh ⟨A5, c5, rfl, hh1⟩))
    all_goals
      go_wp2_with fail
      go_meet
      case rel => exact ⟨rfl, by with_reducible assumption⟩
  case rest =>
    obtain ⟨rfl, hbx⟩ := hcut
    obtain ⟨wx, rfl⟩ : ∃ y, y = wc := ⟨_, rfl⟩
    have HSP := Lib.hid (spoilI_any _ s3 w2.heap.size wx (HO4.out.below hbx) HPL.out)
    have HKX := Lib.hid (bchain HK4.out hbx)
    clear hbx cD BD j1 j2 j3 j4 j5 j6
    go_wp2_with fail
    refine HSP.out.mono ?_
    rintro e w6 ⟨rfl, hb6⟩
    have HK6 : Hid (Below w2.heap.size w2 w6) := Lib.hid (HKX.out.trans hb6)
    have HB6 : Hid (Below w0.heap.size w0 w6) := Lib.hid (bchain HB2.out HK6.out)
    clear hb6
    have HBC6 : Hid (∀ x w', x.length ≤ 100 → Below w6.heap.size w6 w' → Calls Tryd.prog 10 #[.string ⟨x.toArray⟩] w' fun e w'' => e = Ending.returned (.string ⟨(bh x).toArray⟩) ∧ Below w6.heap.size w6 w'') := Lib.hid (fun x w' hx hb =>
      (HBC0.out x w' hx).mono fun e w'' ⟨q1, q2⟩ => ⟨q1, bchain hb q2⟩)
    have HBR6 : Hid (∀ x w', x.length ≤ 100 → Below w6.heap.size w6 w' → Calls Tryd.prog 11 #[.string ⟨x.toArray⟩] w' fun e w'' => e = Ending.returned (.string ⟨(bh x).toArray⟩) ∧ Below w6.heap.size w6 w'') := Lib.hid (fun x w' hx hb =>
      (HBR0.out x w' hx).mono fun e w'' ⟨q1, q2⟩ => ⟨q1, bchain hb q2⟩)
    have HWK6 : Hid (∀ w', Below w6.heap.size w6 w' → Calls Tryd.prog 7 #[] w' fun e w'' => e = Ending.returned (.bool true) ∧ Below w6.heap.size w6 w'') := Lib.hid (fun w' hb =>
      (HWK0.out w' (bchain HB6.out hb)).mono fun e w'' ⟨q1, q2⟩ => ⟨q1, bchain hb q2⟩)
    have HIS6 : Hid (∀ w', Below w6.heap.size w6 w' → Calls Tryd.prog 18 #[.pointer (some ⟨g, 0, none⟩)] w' fun e w'' => ∃ s, e = Ending.returned s ∧ ItAt w'' s S ∧ Below w6.heap.size w6 w'') := Lib.hid (fun w' hb =>
      (sitems_any w' (HTR.out _ (bchain HK6.out hb))).mono fun e w'' ⟨s, q1, q2, q3⟩ => ⟨s, q1, q2.at_, bchain hb q3⟩)
    have HSI6 : Hid (∀ s w', Below w6.heap.size w6 w' → ItAt w' s S → Calls Tryd.prog 14 #[s, v1] w' fun e w'' => e = Ending.returned (.bool true) ∧ Below w6.heap.size w6 w'') := Lib.hid (fun s w' hb hs =>
      (sameI_any S S s v1 w' hs (HI2.out _ (bchain HK6.out hb)) (by have := HSF.out; omega) (by have := HSF.out; omega)).mono fun e w'' ⟨q1, q2⟩ => ⟨by rw [q1, decide_eq_true rfl], bchain hb q2⟩)
    have HC6 : Hid (∀ w', Below w6.heap.size w6 w' → w'.cell? ⟨w.heap.size, 0, none⟩ = some (.string ⟨f.toArray⟩) ∧ w'.cell? ⟨w.heap.size, 1, none⟩ = some (.string ⟨en.toArray⟩)) := Lib.hid (fun w' h => HC.out _ (bchain HB6.out h))
    have BD : Below w6.heap.size w6 w6.drew := (Below.refl _ _).drew
    have cD := HC6.out _ BD
    clear HSA HCC HAL HCW HPL HSP HBC HBR HWK
    go_upto_region 14 with fail
    go_cut [6] from 112 to 136 (fun c wx => c = .bool true ∧ Below w6.heap.size w6 wx)
    case first =>
      go_wp2
      go_region_held3 (fun w' => w'.cell? ⟨w.heap.size, 0, none⟩ = some (.string ⟨f.toArray⟩) ∧ w'.cell? ⟨w.heap.size, 1, none⟩ = some (.string ⟨en.toArray⟩))
        ((first | (with_reducible assumption) | (refine HC6.out _ ?_; with_reducible assumption)))
        (first | (go_at_call 10; refine (HBC6.out _ _ ?_ ?_).mono ?_; (with_reducible assumption); (with_reducible assumption); rintro e wf ⟨rfl, hf1⟩) | (go_at_call 11; refine (HBR6.out _ _ ?_ ?_).mono ?_; (with_reducible assumption); (with_reducible assumption); rintro e wg ⟨rfl, hg1⟩) | (go_at_call 18; refine (HIS6.out _ ?_).mono ?_; (with_reducible assumption); rintro e wi ⟨s9, rfl, it9, hi1⟩) | (go_at_call 14; refine (HSI6.out _ _ ?_ ?_).mono ?_; (with_reducible assumption); (with_reducible assumption); rintro e wj ⟨rfl, hj1⟩) | (go_at_call 7; refine (HWK6.out _ ?_).mono ?_; (with_reducible assumption); rintro e wh ⟨rfl, hh1⟩))
      all_goals
        go_wp2_with fail
        go_meet
        case rel => exact ⟨rfl, by with_reducible assumption⟩
    case rest =>
      obtain ⟨rfl, hby⟩ := hcut
      go_wp2
      go_ret
      exact ⟨rfl, bchain HB0.out (bchain HB6.out hby)⟩
theorem scanTells_done (v : Value) (L : St) (p : T × T) (m : Int) (w : World) (hv : ItIn w v L) (_ : L.length * 32 ≤ reachBytes) (_ : (Lit.int .i64 m).wf = true) (hT : Tab w) :
    Calls Tryd.prog 3 #[v, .agg #[.string ⟨p.1.toArray⟩, .string ⟨p.2.toArray⟩], .int .i64 m] w fun e w' => e = .returned (.bool true) ∧ Below w.heap.size w w' := scanTells_walk behind_ok range_ok count_ok v L p m w hv hT
end Go.Proofs.YtkdecmijnojhoaaDoor
