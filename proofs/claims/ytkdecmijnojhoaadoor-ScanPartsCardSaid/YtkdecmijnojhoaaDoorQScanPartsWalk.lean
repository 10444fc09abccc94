/- The law ScanParts, walked. -/
import Derived.Test.YtkdecmijnojhoaaDoorPk10
import Derived.Test.YtkdecmijnojhoaaDoorPk11
import Derived.BigQuiet
namespace Go.Proofs.YtkdecmijnojhoaaDoor
open Go.RowKit
open Sto (T St)

set_option maxRecDepth 100000 in
set_option maxHeartbeats 8000000 in
theorem scanParts_walk (HBE : BehindOk) (HRA : RangeOk) (HCO : CountOk) (v : Value) (L : St) (e0 e1 e2 : T) (m : Int) (w : World) (hv : ItIn w v L) (hl : L.length ≤ 5000000000000) (hT : Tab w) :
    Calls Tryd.prog 6 #[v, .agg #[.string ⟨e0.toArray⟩, .string ⟨e1.toArray⟩, .string ⟨e2.toArray⟩], .int .i64 m] w fun e w' => e = .returned (.bool true) ∧ Below w.heap.size w w' := by
  obtain ⟨w0, hw0⟩ : ∃ w0, w.alloc (.cells #[.string ⟨e0.toArray⟩, .string ⟨e1.toArray⟩, .string ⟨e2.toArray⟩] 45) = w0 := ⟨_, rfl⟩
  have hb0 : Below w.heap.size w w0 := by rw [← hw0]; exact (Below.refl _ w).alloc (Nat.le_refl _) _
  have ra : w0.heap[w.heap.size]? = some (.cells #[.string ⟨e0.toArray⟩, .string ⟨e1.toArray⟩, .string ⟨e2.toArray⟩] 45 (0, 0)) := by rw [← hw0]; exact heap_alloc_new w _
  have HC : Hid (∀ w', Below w0.heap.size w0 w' → w'.cell? ⟨w.heap.size, 0, none⟩ = some (.string ⟨e0.toArray⟩) ∧ w'.cell? ⟨w.heap.size, 1, none⟩ = some (.string ⟨e1.toArray⟩) ∧ w'.cell? ⟨w.heap.size, 2, none⟩ = some (.string ⟨e2.toArray⟩)) := Lib.hid (fun w' hb => by
    have xa := (hb.block _ (lt_of_heap ra)).trans ra
    refine ⟨?_, ?_, ?_⟩
    · rw [cell_of_row _ _ 0 _ _ _ xa]; rfl
    · rw [cell_of_row _ _ 1 _ _ _ xa]; rfl
    · rw [cell_of_row _ _ 2 _ _ _ xa]; rfl)
  have HV0 := Lib.hid (RowsIn.below hv hb0)
  have HT0 := Lib.hid (hT.below hb0)
  have HB0 := Lib.hid hb0
  have HLL := Lib.hid hl
  have HWK := Lib.hid (fun w' (hb : Below w0.heap.size w0 w') => scworks_any HBE HRA w' (HT0.out.below hb))
  have HRA := Lib.hid HRA
  have HCO := Lib.hid HCO
  obtain ⟨A, cap, rfl, -, -⟩ := hv.form
  clear ra hb0 hT hv HBE
  go_enter Tryd.func6, Tryd.ntmps6
  go_wp2_with fail
  clear hw0
  refine (HWK.out _ (Below.refl _ _)).mono ?_
  rintro e w1 ⟨rfl, hb1⟩
  have HB1 := Lib.hid hb1
  clear hb1
  go_wp2_with fail
  refine (tof_wide L _ w1 (RowsIn.below HV0.out HB1.out) HLL.out (HT0.out.below HB1.out)).mono ?_
  rintro e w2 ⟨z, rfl, hz1, hz0, hb2⟩
  have HB2 := Lib.hid (bchain HB1.out hb2)
  clear hb2
  obtain ⟨a0, a1, a2⟩ := HC.out _ HB2.out
  obtain ⟨⟨S, c⟩, hSc⟩ : ∃ X, Tri.ofR [] L = X := ⟨_, rfl⟩
  rw [hSc] at hz1 hz0 ⊢
  dsimp only at hz1 hz0 ⊢
  clear hSc
  by_cases hc : c = 0
  case neg =>
    have e1 : z = nilp := hz0 hc
    subst e1
    have hc1 : ((c : Int) == 0) = false := by rw [beq_eq_false_iff_ne]; omega
    have hc2 : ((c : Int) != 0) = true := by rw [bne_iff_ne]; omega
    have hc3 : ¬ ((c : Int) = 0) := by omega
    unfold nilp
    clear hz1 hz0
    go_wp2
    go_ret
    exact ⟨rfl, bchain HB0.out HB2.out⟩
  subst hc
  obtain ⟨g, rfl, t2⟩ := hz1 rfl
  have HTR := Lib.hid (fun w' (hb : Below w2.heap.size w2 w') => t2.below hb)
  have HSR := Lib.hid t2.rise
  have HSF := Lib.hid t2.few
  clear hz1 hz0 t2
  unfold ptr
  by_cases hl40 : 40 < L.length
  · have q1 : (40 : Int) < (L.length : Int) := by omega
    have q2 : decide ((40 : Int) < (L.length : Int)) = true := decide_eq_true q1
    clear hl40 hl
    go_wp2
    go_ret
    exact ⟨rfl, bchain HB0.out HB2.out⟩
  have q1 : ¬ ((40 : Int) < (L.length : Int)) := by omega
  have q2 : decide ((40 : Int) < (L.length : Int)) = false := decide_eq_false q1
  clear hl40 hl
  by_cases h10 : e1 < e0
  · have q3 : Op.bytesLess e1 e0 = true := by rw [less_lt]; exact decide_eq_true h10
    clear h10
    go_wp2
    go_ret
    exact ⟨rfl, bchain HB0.out HB2.out⟩
  have q3 : Op.bytesLess e1 e0 = false := by rw [less_lt]; exact decide_eq_false h10
  have H01 := Lib.hid (List.not_lt.1 h10)
  clear h10
  by_cases h21 : e2 < e1 ∧ e2 ≠ []
  · have q4 : Op.bytesLess e2 e1 = true := by rw [less_lt]; exact decide_eq_true h21.1
    have q5 : (e2 == []) = false := beq_eq_false_iff_ne.2 h21.2
    have q6 : e2.isEmpty = false := by cases e2 <;> simp_all
    clear h21
    go_wp2
    go_ret
    exact ⟨rfl, bchain HB0.out HB2.out⟩
  have H12 : Hid (e2 = [] ∨ e1 ≤ e2) := Lib.hid (by
    by_cases h : e2 = []
    · exact Or.inl h
    · exact Or.inr (List.not_lt.1 fun h2 => h21 ⟨h2, h⟩))
  have H21 : Hid ((e2 == []) = true ∧ e2.isEmpty = true ∨ ((e2 == []) = false ∧ e2.isEmpty = false ∧ Op.bytesLess e2 e1 = false)) := Lib.hid (by
    by_cases h : e2 = []
    · left; subst h; exact ⟨rfl, rfl⟩
    · right
      refine ⟨beq_eq_false_iff_ne.2 h, by cases e2 <;> simp_all, ?_⟩
      rw [less_lt]; exact decide_eq_false fun h2 => h21 ⟨h2, h⟩)
  clear h21
  by_cases h1e : e1 = []
  · have q7 : (e1 == []) = true := beq_iff_eq.2 h1e
    have q8 : e1.isEmpty = true := by rw [h1e]; rfl
    clear h1e
    rcases H21.out with ⟨q5, q6⟩ | ⟨q5, q6, q4⟩
    · go_wp2
      go_ret
      exact ⟨rfl, bchain HB0.out HB2.out⟩
    · go_wp2
      go_ret
      exact ⟨rfl, bchain HB0.out HB2.out⟩
  have q7 : (e1 == []) = false := beq_eq_false_iff_ne.2 h1e
  have q8 : e1.isEmpty = false := by cases e1 <;> simp_all
  have H1E := Lib.hid h1e
  clear h1e
  obtain ⟨k, hk, hk16⟩ := Bk.below_nat m 16 (by decide)
  have HBL := Lib.hid (fun w => below_any m 16 w (by decide) (by decide))
  rw [hk] at HBL
  clear hk
  have HPC := Lib.hid (Scn.page_cut HSR.out H01.out H12.out H1E.out (k + 1))
  have HPG : Hid (∀ f e, (Scn.pageR S f e (1 + (k : Int))).1 = (Scn.allR S f e).take (k + 1) ∧ (Scn.pageR S f e (1 + (k : Int))).2.2 = 0) := Lib.hid (fun f e => by
    have := Scn.page_items (S := S) (f := f) (e := e) (m := 1 + (k : Int)) (by omega)
    rw [show (1 + (k : Int)).toNat = k + 1 from by omega] at this
    exact this)
  have HRR : Hid (∀ f e w', Below w2.heap.size w2 w' → Calls Tryd.prog 12 #[.pointer (some ⟨g, 0, none⟩), .string ⟨f.toArray⟩, .string ⟨e.toArray⟩, .int .i64 (1 + (k : Int))] w' fun x w'' => ∃ s n, x = .returned (.tuple #[s, .string n, .int .i64 0]) ∧ OwnI w'' w'.heap.size s ((Scn.allR S f e).take (k + 1)) ∧ Below w'.heap.size w' w'') := Lib.hid (fun f e w' h =>
    (HRA.out g S f e (1 + (k : Int)) w' (HTR.out w' h)).mono fun x w'' ⟨s, p1, p2, p3⟩ => ⟨s, ⟨(Scn.pageR S f e (1 + (k : Int))).2.1.toArray⟩, by rw [p1, (HPG.out f e).2]; rfl, by rw [← (HPG.out f e).1]; exact p2, p3⟩)
  obtain ⟨cn, hcn⟩ : ∃ cn : T → T → Nat, (fun f e => (Scn.allR S f e).length) = cn := ⟨_, rfl⟩
  have hcf : ∀ f e, (Scn.allR S f e).length = cn f e := fun f e => by rw [← hcn]
  have HCC : Hid (∀ f e w', Below w2.heap.size w2 w' → Calls Tryd.prog 15 #[.pointer (some ⟨g, 0, none⟩), .string ⟨f.toArray⟩, .string ⟨e.toArray⟩] w' fun x w'' => x = .returned (.int .i64 (cn f e)) ∧ Below w2.heap.size w2 w'') := Lib.hid (fun f e w' h =>
    (HCO.out g S f e w' (HTR.out w' h)).mono fun x w'' ⟨p1, p2⟩ => ⟨by rw [p1, hcf], bchain h p2⟩)
  have l1 := Scn.allR_len S e0 e1
  have l2 := Scn.allR_len S e1 e2
  have l3 := Scn.allR_len S e0 e2
  have HR1 := Lib.hid (HRR.out e0 e2)
  have HR2 := Lib.hid (HRR.out e0 e1)
  obtain ⟨P1, hP1⟩ : ∃ P, (Scn.allR S e0 e1).take (k + 1) = P := ⟨_, rfl⟩
  obtain ⟨P3, hP3⟩ : ∃ P, (Scn.allR S e0 e2).take (k + 1) = P := ⟨_, rfl⟩
  have HPL : Hid (P1.length ≤ 1024 ∧ P3.length ≤ 1024) := Lib.hid (by
    have := HSF.out
    rw [← hP1, ← hP3]
    simp only [List.length_take]
    omega)
  rw [hP1] at HR2 HPC
  rw [hP3] at HR1 HPC
  rw [hcf] at l1 l2 l3
  rw [hcf, hcf, hcf] at HPC
  have hS4 := HSF.out
  have hsm := HPC.out.1
  have t0 : (cn e0 e1 : Int) + (cn e1 e2 : Int) = (cn e0 e2 : Int) := by omega
  have t1 : ((cn e0 e1 : Int) + (cn e1 e2 : Int) != (cn e0 e2 : Int)) = false := by rw [t0]; simp
  have t3 : (cn e0 e1 : Int) ≤ 100000 := by omega
  have t4 : (cn e1 e2 : Int) ≤ 100000 := by omega
  have t5 : (cn e0 e2 : Int) ≤ 100000 := by omega
  have k1 : (k : Int) ≤ 15 := by omega
  have t6 : IntKind.i64.wrap (cn e0 e2 : Int) = (cn e0 e2 : Int) := by unfold IntKind.wrap; simp [IntKind.bits, IntKind.signed]; omega
  have HCW : Hid (∀ w', Below w2.heap.size w2 w' → w'.cell? ⟨w.heap.size, 0, none⟩ = some (.string ⟨e0.toArray⟩) ∧ w'.cell? ⟨w.heap.size, 1, none⟩ = some (.string ⟨e1.toArray⟩) ∧ w'.cell? ⟨w.heap.size, 2, none⟩ = some (.string ⟨e2.toArray⟩)) := Lib.hid (fun w' h => HC.out _ (bchain HB2.out h))
  clear hP1 hP3 hcn hcf hsm l1 l2 l3 hS4 HRR HPG HRA HCO HSR
  rcases H21.out with ⟨q5, q6⟩ | ⟨q5, q6, q4⟩
  all_goals
    go_wp2_with fail
    refine (HBL.out w2).mono ?_
    rintro e w3 ⟨rfl, rfl⟩
    clear a0 a1 a2
    have BD : Below w3.heap.size w3 w3.drew := (Below.refl _ _).drew
    have cD := HCW.out _ BD
    go_upto_region 7 with fail
    go_cut [75] from 56 to 75 (fun c wx => c = .bool false ∧ Below w3.heap.size w3 wx)
    case first =>
      go_wp2
      go_region_held3 (fun w' => w'.cell? ⟨w.heap.size, 0, none⟩ = some (.string ⟨e0.toArray⟩) ∧ w'.cell? ⟨w.heap.size, 1, none⟩ = some (.string ⟨e1.toArray⟩) ∧ w'.cell? ⟨w.heap.size, 2, none⟩ = some (.string ⟨e2.toArray⟩))
        ((first | (with_reducible assumption) | (refine HCW.out _ ?_; with_reducible assumption)))
        (first | (go_at_call 15; refine (HCC.out _ _ _ ?_).mono ?_; (with_reducible assumption); rintro e wf ⟨rfl, hf1⟩))
      all_goals
        go_wp2_with fail
        go_meet
        case rel => exact ⟨by first | rfl | (rw [t6]; simp), by with_reducible assumption⟩
    case rest =>
      obtain ⟨rfl, hbx⟩ := hcut
      obtain ⟨wx, rfl⟩ : ∃ y, y = wc := ⟨_, rfl⟩
      have HBX := Lib.hid hbx
      obtain ⟨b0, b1, b2⟩ := HCW.out _ hbx
      clear hbx cD BD t0 t1 t3 t4 t5 t6
      go_wp2_with fail
      refine (HR1.out wx HBX.out).mono ?_
      rintro e w4 ⟨s3, n3, rfl, o3, hb4⟩
      have HB4 := Lib.hid (bchain HBX.out hb4)
      have HO3 := Lib.hid o3
      clear b0 b1 b2 hb4 o3
      obtain ⟨b0, b1, b2⟩ := HCW.out _ HB4.out
      go_wp2_with fail
      refine (HR2.out w4 HB4.out).mono ?_
      rintro e w5 ⟨s1, n1, rfl, o1, hb5⟩
      have HB5 := Lib.hid (bchain HB4.out hb5)
      have HI3 := Lib.hid (RowsAt.below HO3.out.at_ hb5)
      have HI1 := Lib.hid o1.at_
      obtain ⟨A1, cap1, rfl, -, -⟩ := o1.at_.form
      obtain ⟨A3, cap3, rfl, hcap3, hA3⟩ := HI3.out.form
      have hle := HPC.out.2.1
      have u1 : (P1.length : Int) ≤ (P3.length : Int) := by omega
      have u2 : decide ((P1.length : Int) ≤ (P3.length : Int)) = true := decide_eq_true u1
      have u3 : (P1.length : Int) ≤ (cap3 : Int) := by omega
      have u4 : (0 : Int) ≤ (P1.length : Int) := by omega
      have HTK := Lib.hid (RowsAt.take HI3.out P1.length hle)
      have HEQ := Lib.hid (decide_eq_true HPC.out.2.2)
      clear b0 b1 b2 hb5 o1 hcap3 hle
      go_wp2_with fail
      refine (sameI_any P1 (P3.take P1.length) _ _ w5 HI1.out HTK.out (by have := HPL.out.1; omega) (by have := HPL.out.2; simp only [List.length_take]; omega)).mono ?_
      rintro e w6 ⟨rfl, hb6⟩
      rw [HEQ.out]
      go_wp2
      go_ret
      exact ⟨rfl, bchain HB0.out (bchain HB2.out (bchain HB5.out hb6))⟩
theorem scanParts_done (v : Value) (L : St) (s : T × T × T) (m : Int) (w : World) (hv : ItIn w v L) (hl : L.length * 32 ≤ reachBytes) (_ : (Lit.int .i64 m).wf = true) (hT : Tab w) :
    Calls Tryd.prog 6 #[v, .agg #[.string ⟨s.1.toArray⟩, .string ⟨s.2.1.toArray⟩, .string ⟨s.2.2.toArray⟩], .int .i64 m] w fun e w' => e = .returned (.bool true) ∧ Below w.heap.size w w' :=
  scanParts_walk behind_ok range_ok count_ok v L s.1 s.2.1 s.2.2 m w hv (by unfold reachBytes at hl; omega) hT
end Go.Proofs.YtkdecmijnojhoaaDoor
