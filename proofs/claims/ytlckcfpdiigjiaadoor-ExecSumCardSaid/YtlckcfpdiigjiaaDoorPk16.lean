/- ExecGen, ExecWorks, ExecBig, ArgNode, ArgTwoS, ExecEq, TriRefOf, TriOfT, TriCover, TriWorks, ArgTActs, TriMade, TriMade2, BookItems, TriLaw, ExecSum, ShaLaid, ExecWide -/
import Derived.Test.YtlckcfpdiigjiaaDoorPk13
import Derived.Test.YtlckcfpdiigjiaaDoorPk15
import Derived.Test.YtlckcfpdiigjiaaDoorPk04
import Derived.Test.YtlckcfpdiigjiaaDoorPk02
import Derived.Test.YtlckcfpdiigjiaaDoorPk05
import Derived.Test.YtlckcfpdiigjiaaDoorPk06
import Derived.Test.YtlckcfpdiigjiaaDoorPk08
import Derived.OpenShut
import Derived.Laws.StructEq
import Derived.Test.YtlckcfpdiigjiaaDoorPk12
import Derived.Deep.RegionHeld3
import Derived.Test.YtlckcfpdiigjiaaDoorPk01
import Derived.Deep.Slices
import Derived.DataReads
import Derived.SizedLaws
import Derived.Lib.LaidU8
import Derived.BigQuiet
import Derived.Test.YtlckcfpdiigjiaaDoorPk14
import Derived.Test.YtlckcfpdiigjiaaDoorRows
import Derived.LaidMore
import Derived.Stop.Joined
import Derived.ProofKit
namespace Go.Proofs.YtlckcfpdiigjiaaDoor
open Go.RowKit
open Sto (T St)
open Go.Proofs.YtlckcfpdiigjiaaDoor.Pw (M)
open Go.Proofs.YtlckcfpdiigjiaaDoor.Exc (A)

theorem eGen_bad {L : List A} {set : List M} {w w' : World} {c : Int} (h : Exc.genP L set = ([], c)) (hc : c ≠ 0) (hb : Below w.heap.size w w') : TEnd (Exc.genP L set).2 (Exc.genP L set).1 w (.returned (.tuple #[.pointer none, .int .i64 c])) w' := by
  rw [h]
  exact TEnd.bad hc hb
set_option maxRecDepth 100000 in
set_option maxHeartbeats 8000000 in
theorem egenesis_any (L : List A) (v : Value) (set : List M) (u : Value) (w : World) (hv : AccIn w v L) (hu : Mems w u set) (hT : Tab w) :
    Calls Tryd.prog 17 #[v, u] w (TEnd (Exc.genP L set).2 (Exc.genP L set).1 w) := by
  have HV := Lib.hid hv
  have HU := Lib.hid hu
  have HT := Lib.hid hT
  have HNW := Lib.hid (tnew_any w)
  unfold ptr at HNW
  obtain ⟨A, cap, rfl, -, -⟩ := RowsIn.form hv
  obtain ⟨Au, capu, rfl⟩ := hu.form
  clear hv hu hT
  by_cases h8 : 8 < L.length
  · have p1 : decide ((8 : Int) < (L.length : Int)) = true := decide_eq_true (by omega)
    have HE := Lib.hid (Exc.genP_long (set := set) h8)
    clear h8
    go_enter Tryd.func17, Tryd.ntmps17
    go_wp2
    go_ret2
    exact eGen_bad HE.out (by decide) (Below.refl _ _)
  have p1 : decide ((8 : Int) < (L.length : Int)) = false := decide_eq_false (by omega)
  have H8 : Hid (¬ 8 < L.length) := Lib.hid h8
  clear h8
  go_enter Tryd.func17, Tryd.ntmps17
  go_wp2_with fail
  refine HNW.out.mono ?_
  rintro r w1 ⟨g0, rfl, ht0, -, hb1⟩
  have HB1 := Lib.hid hb1
  have HT0 := Lib.hid ht0
  clear ht0 hb1
  go_wp2
  go_loopw [6, 18] (fun tv i wr => ∃ (k g : Nat) (S : St), tv = .pointer (some ⟨g, 0, none⟩) ∧ i = .int .i64 k ∧ k ≤ L.length ∧ Exc.genF [] L = Exc.genF S (L.drop k) ∧ TrAt wr g S ∧ S.length ≤ k ∧ Below w.heap.size w wr) (fun _ i _ => L.length - (intOf i).toNat)
  case atStart => exact ⟨0, g0, [], rfl, rfl, Nat.zero_le _, by rw [List.drop_zero], HT0.out, Nat.le_refl _, HB1.out⟩
  case round =>
    obtain ⟨k, g, S, rfl, rfl, hk, hg, hi, hSl, hb⟩ := hrel
    have HG := Lib.hid hg
    have HI := Lib.hid hi
    have HSL := Lib.hid hSl
    have HB := Lib.hid hb
    clear hg hi hSl hb
    by_cases hlt : k < L.length
    · have h1 : (k : Int) < (L.length : Int) := by omega
      have h0 : (0 : Int) ≤ (k : Int) := by omega
      have hk8 : (k : Int) ≤ 8 := by have := H8.out; omega
      obtain ⟨b, o, hA, ca⟩ := RowsIn.at (RowsIn.below HV.out HB.out) k hlt
      subst hA
      have HGA := Lib.hid (HG.out.trans (Exc.genF_at hlt))
      have HFA : Hid (Exc.fitA L[k] = (Txn.nameB L[k].name && Exc.wi L[k].amt && Exc.wi L[k].seq)) := Lib.hid rfl
      have HK9 : Hid (k ≤ 8) := Lib.hid (by have := H8.out; omega)
      obtain ⟨a, ha⟩ : ∃ a, L[k] = a := ⟨_, rfl⟩
      rw [ha] at ca HGA HFA
      clear ha
      have c0 : wr.cell? ⟨b, o + k * 3, none⟩ = some (.string ⟨a.name.toArray⟩) := ca 0 _ rfl
      have c1 : wr.cell? ⟨b, o + k * 3 + 1, none⟩ = some (.int .i64 a.amt) := ca 1 _ rfl
      have c2 : wr.cell? ⟨b, o + k * 3 + 2, none⟩ = some (.int .i64 a.seq) := ca 2 _ rfl
      clear ca
      obtain ⟨wa, hwa, hba, ra⟩ := acc_box a wr
      obtain ⟨q, hq⟩ : ∃ q, wr.heap.size = q := ⟨_, rfl⟩
      rw [hq] at ra
      have HWA := Lib.hid hwa
      have HQE := Lib.hid hq
      have HA := Lib.hid ra
      have HBA := Lib.hid (bchain HB.out hba)
      have HIA := Lib.hid (HI.out.below hba)
      have HTA := Lib.hid (HT.out.below (bchain HB.out hba))
      clear ra hba hwa hq
      go_upto_region 7 with fail
      try rw [HWA.out]
      try rw [HQE.out]
      clear c0 c1 c2
      obtain ⟨c0, c1, c2⟩ := HA.out.cells
      go_wp2_with fail
      refine (eisName_any a.name wa).mono ?_
      rintro r w2 ⟨rfl, hw2⟩
      obtain rfl := hw2.symm
      cases hn : Txn.nameB a.name with
      | false =>
        have HE := Lib.hid (Exc.genP_bad (set := set) (c := 1) H8.out (by decide) (HGA.out.trans (by rw [HFA.out, hn]; rfl)))
        clear hn
        go_wp2
        go_ret2
        exact eGen_bad HE.out (by decide) HBA.out
      | true =>
      go_wp2_with fail
      refine (eisAmount_any a.amt wa).mono ?_
      rintro r w2 ⟨rfl, hw2⟩
      obtain rfl := hw2.symm
      cases h2 : Exc.wi a.amt with
      | false =>
        have HE := Lib.hid (Exc.genP_bad (set := set) (c := 1) H8.out (by decide) (HGA.out.trans (by rw [HFA.out, hn, h2]; rfl)))
        clear hn h2
        go_wp2
        go_ret2
        exact eGen_bad HE.out (by decide) HBA.out
      | true =>
      go_wp2_with fail
      refine (eisAmount_any a.seq wa).mono ?_
      rintro r w2 ⟨rfl, hw2⟩
      obtain rfl := hw2.symm
      cases h3 : Exc.wi a.seq with
      | false =>
        have HE := Lib.hid (Exc.genP_bad (set := set) (c := 1) H8.out (by decide) (HGA.out.trans (by rw [HFA.out, hn, h2, h3]; rfl)))
        clear hn h2 h3
        go_wp2
        go_ret2
        exact eGen_bad HE.out (by decide) HBA.out
      | true =>
      have HVL := Lib.hid (Exc.valS_len h2 h3)
      have hnl : a.name.length ≤ 6 := by simp only [Txn.nameB, Bool.and_eq_true, decide_eq_true_eq] at hn; exact hn.2
      rw [HFA.out, hn, h2, h3, if_neg (by decide)] at HGA
      have e1 := cat_mk [97, 58] a.name
      rw [show [97, 58] ++ a.name = Exc.aK a.name from rfl] at e1
      have hg : ¬ (9223372036854775807 < 2 + a.name.length) := by omega
      have HGT := Lib.hid (tget_any (Exc.aK a.name) wa HIA.out)
      have HGC := Lib.hid (Exc.getC_acc (S := S) hn)
      have HPU : Hid (∀ w', Below wa.heap.size wa w' → Calls Tryd.prog 34 #[ptr g, accval a] w' (TEnd 0 (Tri.put S (Exc.aK a.name) (Exc.valS a.amt a.seq)) w')) := Lib.hid (fun w' h => by
        have hc := Exc.putC_few (S := S) (Exc.keyed_aK hn) HVL.out.1 (by have := HVL.out.2; omega) (by have := HSL.out; have := HK9.out; omega)
        have h5 := eput_any (g := g) (S := S) a w' (HIA.out.below h) (HTA.out.below h) h2 h3 (by omega)
        rw [hc] at h5
        exact h5)
      unfold ptr at HGT HPU
      unfold accval at HPU
      obtain ⟨K, hK⟩ : ∃ K, Exc.aK a.name = K := ⟨_, rfl⟩
      obtain ⟨Y, hY⟩ : ∃ Y, Exc.valS a.amt a.seq = Y := ⟨_, rfl⟩
      rw [hK] at e1 HGA HGT HGC HPU
      rw [hY] at HVL HGA HPU
      clear hn h2 h3 hnl hK hY
      cases hl : Sto.look S K with
      | some y =>
        have HGE := HGC.out
        rw [hl] at HGE
        rw [HGE] at HGT
        have HE := Lib.hid (Exc.genP_bad (set := set) (c := 6) H8.out (by decide) (HGA.out.trans (by rw [hl]; rfl)))
        clear hl HGE
        go_wp2_with fail
        refine HGT.out.mono ?_
        rintro r w3 ⟨rfl, hb3⟩
        have HB3 := Lib.hid (bchain HBA.out hb3)
        clear hb3
        go_wp2
        go_ret2
        exact eGen_bad HE.out (by decide) HB3.out
      | none =>
      have HGE := HGC.out
      rw [hl] at HGE
      rw [HGE] at HGT
      have HGB : Hid (Exc.genF [] L = Exc.genF (Tri.put S K Y) (L.drop (k + 1))) := Lib.hid (HGA.out.trans (by rw [hl, if_neg (by decide)]))
      clear hl HGE
      go_wp2_with fail
      refine HGT.out.mono ?_
      rintro r w3 ⟨rfl, hb3⟩
      have HB3 := Lib.hid (bchain HBA.out hb3)
      have HA3 := Lib.hid (HA.out.below hb3)
      have HPV := Lib.hid (HPU.out _ hb3)
      clear hb3 c0 c1 c2 e1 hg
      obtain ⟨c0, c1, c2⟩ := HA3.out.cells
      go_wp2_with fail
      refine HPV.out.mono ?_
      rintro r w4 ⟨z, rfl, h5, -, hb4⟩
      obtain ⟨g4, rfl, ht4⟩ := h5 rfl
      have HB4 := Lib.hid (bchain HB3.out hb4)
      have HT4 := Lib.hid ht4
      clear h5 ht4 hb4
      unfold ptr
      go_wp2
      go_roundw
      case rel => exact ⟨k + 1, g4, _, rfl, by go_num, by omega, HGB.out, HT4.out, by rw [Tri.put_len]; have := HSL.out; split <;> omega, HB4.out⟩
      case measure => simp [intOf]; omega
    · have h1 : ¬ ((k : Int) < (L.length : Int)) := by omega
      obtain rfl : k = L.length := by omega
      have HGF : Hid (Exc.genF [] L = (S, 0)) := Lib.hid (HG.out.trans (by rw [List.drop_length]; rfl))
      have HCK := Lib.hid (check_any set (.slice Au set.length capu) wr (HU.out.below HB.out))
      have HDG := Lib.hid (fun w' h hT => digest_any set (.slice Au set.length capu) w' h hT)
      cases hs : Pw.okL set with
      | false =>
        have HE := Lib.hid (Exc.genP_set H8.out HGF.out hs)
        rw [Pw.checkC_bad hs] at HCK
        clear hs
        go_wp2_with fail
        refine HCK.out.mono ?_
        rintro r w2 ⟨rfl, hb2⟩
        have HB2 := Lib.hid (bchain HB.out hb2)
        clear hb2
        go_wp2
        go_ret2
        exact eGen_bad HE.out (by decide) HB2.out
      | true =>
        have HE := Lib.hid (Exc.genP_ok H8.out HGF.out hs)
        have HDL := Lib.hid (Exc.digL_len hs)
        rw [Pw.checkC_ok hs] at HCK
        obtain ⟨D, hD⟩ : ∃ D, Pw.digL set = D := ⟨_, rfl⟩
        rw [hD] at HE HDG HDL
        clear hs hD
        go_wp2_with fail
        refine HCK.out.mono ?_
        rintro r w2 ⟨rfl, hb2⟩
        have HB2 := Lib.hid (bchain HB.out hb2)
        have HI2 := Lib.hid (HI.out.below hb2)
        clear hb2
        go_wp2_with fail
        refine (HDG.out _ (HU.out.below HB2.out) (HT.out.below HB2.out)).mono ?_
        rintro r w3 ⟨rfl, hb3⟩
        have HB3 := Lib.hid (bchain HB2.out hb3)
        have HI3 := Lib.hid (HI2.out.below hb3)
        clear hb3
        have HPU : Hid (Calls Tryd.prog 36 #[.pointer (some ⟨g, 0, none⟩), .string ⟨#[115]⟩, .string ⟨D.toArray⟩] w3 (TEnd 0 (Tri.put S Exc.sK D) w3)) := Lib.hid (by
          have hc := Exc.putC_few (S := S) (v := D) Exc.keyed_sK (by have := HDL.out; omega) (by have := HDL.out; omega) (by have := HSL.out; have := H8.out; omega)
          have h2 := (tput_any Exc.sK D w3 HI3.out (HT.out.below HB3.out)).mono fun e w'' h => TEnd.ofPut h
          rw [hc] at h2
          exact h2)
        go_wp2_with fail
        refine HPU.out.mono ?_
        rintro r w4 ⟨z, rfl, h5, h6, hb4⟩
        have HZ : Hid (TEnd (Exc.genP L set).2 (Exc.genP L set).1 w (.returned (.tuple #[z, .int .i64 0])) w4) := Lib.hid (by rw [HE.out]; exact ⟨z, rfl, h5, h6, bchain HB3.out hb4⟩)
        clear h5 h6 hb4
        go_wp2
        go_ret2
        exact HZ.out
end Go.Proofs.YtlckcfpdiigjiaaDoor
namespace Go.Proofs.YtlckcfpdiigjiaaDoor
open Go.RowKit
open Sto (T St)
open Go.Proofs.YtlckcfpdiigjiaaDoor.Pw (M)
open Go.Proofs.YtlckcfpdiigjiaaDoor.Txn (X)
open Go.Proofs.YtlckcfpdiigjiaaDoor.Exc (A)

theorem works_box (w : World) : ∃ w1, (w.alloc (.cells #[.string ⟨#[97]⟩, .int .i64 9, .int .i64 0] 44)).alloc (.cells #[.string ⟨#[118]⟩, .int .i64 1] 54) = w1 ∧ Below w.heap.size w w1 ∧ AccIn w1 (.slice (some ⟨w.heap.size, 0, none⟩) 1 1) Exc.wA ∧ Mems w1 (.slice (some ⟨w.heap.size + 1, 0, none⟩) 1 1) Exc.wM := by
  have ha : AccIn (w.alloc (.cells #[.string ⟨#[97]⟩, .int .i64 9, .int .i64 0] 44)) (.slice (some ⟨w.heap.size, 0, none⟩) 1 1) Exc.wA :=
    RowsAt.inn (RowsAt.own (ty := 44) (B := w.heap.size) accl_length ⟨rfl, Or.inr ⟨w.heap.size, 1, _, rfl, Nat.le_refl _, heap_alloc_new w _, by decide, by simp [maxLen], rfl, rfl⟩⟩)
  have hb := (Below.refl w.heap.size w).alloc (Nat.le_refl _) (.cells #[.string ⟨#[97]⟩, .int .i64 9, .int .i64 0] 44)
  have es : (w.alloc (.cells #[.string ⟨#[97]⟩, .int .i64 9, .int .i64 0] 44)).heap.size = w.heap.size + 1 := by rw [World.size_alloc]
  obtain ⟨w2, hw2⟩ : ∃ w2, w.alloc (.cells #[.string ⟨#[97]⟩, .int .i64 9, .int .i64 0] 44) = w2 := ⟨_, rfl⟩
  rw [hw2] at ha hb es
  have hb2 := (Below.refl w2.heap.size w2).alloc (Nat.le_refl _) (.cells #[.string ⟨#[118]⟩, .int .i64 1] 54)
  refine ⟨_, by rw [hw2], bchain hb hb2, RowsIn.below ha hb2, ?_⟩
  rw [← es]
  exact OwnM.mems (B := w2.heap.size) (L := Exc.wM) ⟨rfl, Or.inr ⟨w2.heap.size, 1, _, rfl, Nat.le_refl _, heap_alloc_new w2 _, by decide, by simp [maxLen], rfl, rfl⟩⟩
set_option maxRecDepth 100000 in
set_option maxHeartbeats 4000000 in
theorem eworks_any (w : World) (hT : Tab w) : Calls Tryd.prog 6 #[] w fun e w' => e = .returned (.bool true) ∧ Below w.heap.size w w' := by
  obtain ⟨S, hg, ha, hb, hS, hl⟩ := Exc.work_gen
  obtain ⟨R, hd, ra, rb, hag⟩ := Exc.work_do ha hb hS hl
  have HT := Lib.hid hT
  obtain ⟨w1, hw1, hb1, hac, hme⟩ := works_box w
  obtain ⟨q0, hq0⟩ : ∃ q, w.heap.size = q := ⟨_, rfl⟩
  rw [hq0] at hac hme
  have HQ0 := Lib.hid hq0
  have HW1 := Lib.hid hw1
  have HB1 := Lib.hid hb1
  have HG := Lib.hid (egenesis_any Exc.wA _ Exc.wM _ w1 hac hme (hT.below hb1))
  rw [hg] at HG
  dsimp only at HG
  have HD1 : Hid (∀ g w', TrAt w' g S → Tab w' → Calls Tryd.prog 12 #[ptr g, xval Exc.wX (.slice none 0 0)] w' (TEnd 0 R w')) := Lib.hid (fun g w' h h2 => by
    have h3 := edo_any (g := g) S Exc.wX (.slice none 0 0) w' h h2 (Mems.nil _)
    rw [hd] at h3
    exact h3)
  have HD2 : Hid (∀ g w', TrAt w' g R → Tab w' → Calls Tryd.prog 12 #[ptr g, xval Exc.wX (.slice none 0 0)] w' (TEnd 160 [] w')) := Lib.hid (fun g w' h h2 => by
    have h3 := edo_any (g := g) R Exc.wX (.slice none 0 0) w' h h2 (Mems.nil _)
    rw [hag] at h3
    exact h3)
  have HA : Hid (∀ g w', TrAt w' g R → Calls Tryd.prog 13 #[ptr g, .string ⟨#[97]⟩] w' fun r w'' => r = .returned (.tuple #[.agg #[.string ⟨#[97]⟩, .int .i64 4, .int .i64 1], .int .i64 0]) ∧ Below w'.heap.size w' w'') := Lib.hid (fun g w' h => by
    have h3 := eaccount_any (gt := g) R [97] w' h (by decide)
    rw [ra] at h3
    exact h3)
  have HB : Hid (∀ g w', TrAt w' g R → Calls Tryd.prog 13 #[ptr g, .string ⟨#[98]⟩] w' fun r w'' => r = .returned (.tuple #[.agg #[.string ⟨#[98]⟩, .int .i64 5, .int .i64 0], .int .i64 0]) ∧ Below w'.heap.size w' w'') := Lib.hid (fun g w' h => by
    have h3 := eaccount_any (gt := g) R [98] w' h (by decide)
    rw [rb] at h3
    exact h3)
  unfold ptr xval at HD1 HD2
  unfold ptr at HA HB
  clear hg ha hb hS hl hd ra rb hag hac hme hb1 hw1 hq0 hT
  go_enter Tryd.func6, Tryd.ntmps6
  go_wp2_with fail
  try rw [HW1.out]
  try rw [HQ0.out]
  refine HG.out.mono ?_
  rintro r w2 ⟨z, rfl, h5, -, hb⟩
  obtain ⟨g, rfl, ht⟩ := h5 rfl
  have HB2 := Lib.hid (bchain HB1.out hb)
  have HT2 := Lib.hid ht
  clear h5 ht hb
  unfold ptr
  obtain ⟨w3, hw3, hb, rx⟩ := tx_box Exc.wX (.slice none 0 0) w2
  have HW3 : Hid (w2.alloc (.cells #[.int .i64 1, .string ⟨#[97]⟩, .int .i64 0, .string ⟨#[98]⟩, .int .i64 5, .string ⟨#[]⟩, .string ⟨#[]⟩, .slice none 0 0] 38) = w3) := Lib.hid hw3
  obtain ⟨q3, hq⟩ : ∃ q, w2.heap.size = q := ⟨_, rfl⟩
  rw [hq] at rx
  have HQ3 := Lib.hid hq
  have HX3 := Lib.hid rx
  have HB3 := Lib.hid (bchain HB2.out hb)
  have HT3 := Lib.hid (HT2.out.below hb)
  clear hw3 hb rx hq
  go_upto_region 5 with fail
  try rw [HW3.out]
  try rw [HQ3.out]
  obtain ⟨a0, a1, a2, a3, a4, a5, a6, a7⟩ := HX3.out.cells
  go_wp2_with fail
  refine (HD1.out g w3 HT3.out (HT.out.below HB3.out)).mono ?_
  rintro r w4 ⟨z, rfl, h5, -, hb⟩
  obtain ⟨g4, rfl, ht⟩ := h5 rfl
  have HB4 := Lib.hid (bchain HB3.out hb)
  have HT4 := Lib.hid ht
  have HX4 := Lib.hid (HX3.out.below hb)
  clear h5 ht hb a0 a1 a2 a3 a4 a5 a6 a7
  unfold ptr
  obtain ⟨a0, a1, a2, a3, a4, a5, a6, a7⟩ := HX4.out.cells
  go_wp2_with fail
  refine (HD2.out g4 w4 HT4.out (HT.out.below HB4.out)).mono ?_
  rintro r w5 ⟨z, rfl, -, h6, hb⟩
  obtain rfl := h6 (by decide)
  have HB5 := Lib.hid (bchain HB4.out hb)
  have HT5 := Lib.hid (HT4.out.below hb)
  clear h6 hb a0 a1 a2 a3 a4 a5 a6 a7
  go_wp2_with fail
  refine (HA.out g4 w5 HT5.out).mono ?_
  rintro r w6 ⟨rfl, hb⟩
  have HB6 := Lib.hid (bchain HB5.out hb)
  have HT6 := Lib.hid (HT5.out.below hb)
  clear hb
  obtain ⟨w7, hw7, hb, ra⟩ := acc_box (⟨[97], 4, 1⟩ : A) w6
  have HW7 : Hid (w6.alloc (.cells #[.string ⟨#[97]⟩, .int .i64 4, .int .i64 1] 44) = w7) := Lib.hid hw7
  obtain ⟨q7, hq⟩ : ∃ q, w6.heap.size = q := ⟨_, rfl⟩
  rw [hq] at ra
  have HQ7 := Lib.hid hq
  have HA7 := Lib.hid ra
  have HB7 := Lib.hid (bchain HB6.out hb)
  have HT7 := Lib.hid (HT6.out.below hb)
  clear hw7 hb ra hq
  go_upto_region 10 with fail
  try rw [HW7.out]
  try rw [HQ7.out]
  go_wp2_with fail
  refine (HB.out g4 w7 HT7.out).mono ?_
  rintro r w8 ⟨rfl, hb⟩
  have HB8 := Lib.hid (bchain HB7.out hb)
  have HA8 := Lib.hid (HA7.out.below hb)
  clear hb
  obtain ⟨w9, hw9, hb, ra⟩ := acc_box (⟨[98], 5, 0⟩ : A) w8
  have HW9 : Hid (w8.alloc (.cells #[.string ⟨#[98]⟩, .int .i64 5, .int .i64 0] 44) = w9) := Lib.hid hw9
  obtain ⟨q9, hq⟩ : ∃ q, w8.heap.size = q := ⟨_, rfl⟩
  rw [hq] at ra
  have HQ9 := Lib.hid hq
  have HB9 := Lib.hid (bchain HB8.out hb)
  have HA9 := Lib.hid (HA8.out.below hb)
  have HC9 := Lib.hid ra
  clear hw9 hb ra hq
  go_upto_region 11 with fail
  try rw [HW9.out]
  try rw [HQ9.out]
  obtain ⟨a0, a1, a2⟩ := HA9.out.cells
  obtain ⟨b0, b1, b2⟩ := HC9.out.cells
  dsimp only at a0 a1 a2 b0 b1 b2
  go_wp2
  go_ret
  exact ⟨rfl, HB9.out⟩

/-- A state's beginning in block q. -/
def StartAt (w : World) (q : Nat) (za zm zi : Value) : Prop := w.heap[q]? = some (.cells #[za, zm, zi] 26 (0, 0))
theorem StartAt.below {w w' : World} {q : Nat} {za zm zi : Value} (h : StartAt w q za zm zi) (hb : Below w.heap.size w w') : StartAt w' q za zm zi := (hb.block q (lt_of_heap h)).trans h
theorem StartAt.cells {w : World} {q : Nat} {za zm zi : Value} (h : StartAt w q za zm zi) : w.cell? ⟨q, 0, none⟩ = some za ∧ w.cell? ⟨q, 1, none⟩ = some zm ∧ w.cell? ⟨q, 2, none⟩ = some zi :=
  ⟨by rw [cell_of_row _ _ 0 _ _ _ h]; rfl, by rw [cell_of_row _ _ 1 _ _ _ h]; rfl, by rw [cell_of_row _ _ 2 _ _ _ h]; rfl⟩
theorem start_box (za zm zi : Value) (w : World) : ∃ w0, w.alloc (.cells #[za, zm, zi] 26) = w0 ∧ Below w.heap.size w w0 ∧ StartAt w0 w.heap.size za zm zi :=
  ⟨_, rfl, (Below.refl _ w).alloc (Nat.le_refl _) _, heap_alloc_new w _⟩
/-- What genesis answers: a state, or none. -/
def GPost (C : List A) (N : List M) (w : World) (e : Ending) (w' : World) : Prop := ∃ z, e = .returned z ∧ ((Exc.genP C N).2 = 0 → ∃ g, z = ptr g ∧ TrAt w' g (Exc.genP C N).1) ∧ ((Exc.genP C N).2 ≠ 0 → z = nilp) ∧ Below w.heap.size w w'
set_option maxRecDepth 100000 in
set_option maxHeartbeats 4000000 in
theorem egen_any (C : List A) (N : List M) (za zm zi : Value) (w : World) (ha : AccIn w za C) (hm : Mems w zm N) (hT : Tab w) :
    Calls Tryd.prog 7 #[.agg #[za, zm, zi]] w (GPost C N w) := by
  obtain ⟨w0, hw0, hb0, rs⟩ := start_box za zm zi w
  have HG := Lib.hid (egenesis_any C za N zm w0 (RowsIn.below ha hb0) (hm.below hb0) (hT.below hb0))
  obtain ⟨q0, hq0⟩ : ∃ q, w.heap.size = q := ⟨_, rfl⟩
  rw [hq0] at rs
  have HQ0 := Lib.hid hq0
  have HW0 := Lib.hid hw0
  have HB0 := Lib.hid hb0
  have HS0 := Lib.hid rs
  have HP : Hid (∀ z w', ((Exc.genP C N).2 = 0 → ∃ g, z = ptr g ∧ TrAt w' g (Exc.genP C N).1) → ((Exc.genP C N).2 ≠ 0 → z = nilp) → Below w.heap.size w w' → GPost C N w (.returned z) w') := Lib.hid (fun z w' h1 h2 h3 => ⟨z, rfl, h1, h2, h3⟩)
  obtain ⟨⟨S, c⟩, hS⟩ : ∃ p, Exc.genP C N = p := ⟨_, rfl⟩
  rw [hS] at HG HP
  dsimp only at HG HP
  obtain ⟨A1, cap1, rfl, -, -⟩ := RowsIn.form ha
  obtain ⟨A2, cap2, rfl⟩ := hm.form
  clear ha hm hT hw0 hb0 rs hq0 hS
  go_enter Tryd.func7, Tryd.ntmps7
  go_upto_region 1 with fail
  try rw [HW0.out]
  try rw [HQ0.out]
  obtain ⟨p0, p1, p2⟩ := HS0.out.cells
  go_wp2_with fail
  refine HG.out.mono ?_
  rintro r w1 ⟨z, rfl, h1, h2, hb⟩
  have HB1 := Lib.hid (bchain HB0.out hb)
  obtain ⟨pz, rfl⟩ := tri_form h1 h2
  have HZ := Lib.hid (HP.out (.pointer pz) w1 h1 h2 HB1.out)
  have HN : Hid (c ≠ 0 → pz = none) := Lib.hid (fun h => by have := h2 h; unfold nilp at this; injection this)
  clear h1 h2 hb HP HG
  by_cases hc : c = 0
  · have s1 : (c != 0) = false := by rw [hc]; rfl
    clear hc
    go_wp2
    go_ret
    exact HZ.out
  · have s1 : (c != 0) = true := by rw [bne_iff_ne]; exact hc
    obtain rfl := HN.out hc
    clear hc
    go_wp2
    go_ret
    exact HZ.out
end Go.Proofs.YtlckcfpdiigjiaaDoor
namespace Go.Proofs.YtlckcfpdiigjiaaDoor
open Go.RowKit
open Sto (T St)
open Go.Proofs.YtlckcfpdiigjiaaDoor.Pw (M)
open Go.Proofs.YtlckcfpdiigjiaaDoor.Txn (X)
open Go.Proofs.YtlckcfpdiigjiaaDoor.Exc (A)

structure Exc.Fits (C : List A) (N : List M) (I : St) (L : List X) : Prop where
  acc : ∀ (j : Nat) (h : j < C.length), C[j].name.length ≤ 100
  it : ∀ (j : Nat) (h : j < I.length), I[j].1.length ≤ 100 ∧ I[j].2.length ≤ 100
  tx : ∀ (j : Nat) (h : j < L.length), L[j].frm.length ≤ 100 ∧ L[j].dst.length ≤ 100 ∧ L[j].key.length ≤ 100 ∧ L[j].val.length ≤ 100 ∧ L[j].mem.length ≤ 100
  nC : C.length ≤ 20
  nI : I.length ≤ 20
  nN : N.length ≤ 100
  nL : L.length ≤ 20
def EBigPost (w : World) (C : List A) (N : List M) (I : St) (L : List X) (e : Ending) (w' : World) : Prop := ∃ b, e = .returned (.bool b) ∧ (b = false → Exc.Fits C N I L) ∧ Below w.heap.size w w'
theorem EBigPost.yes {w w' : World} {C : List A} {N : List M} {I : St} {L : List X} (h : Below w.heap.size w w') : EBigPost w C N I L (.returned (.bool true)) w' := ⟨true, rfl, (fun h => by cases h), h⟩
theorem EBigPost.no {w w' : World} {C : List A} {N : List M} {I : St} {L : List X} (f : Exc.Fits C N I L) (h : Below w.heap.size w w') : EBigPost w C N I L (.returned (.bool false)) w' := ⟨false, rfl, (fun _ => f), h⟩
theorem AccIn.at {w : World} {a : Option Addr} {n cap : Nat} {L : List A} (h : AccIn w (.slice a n cap) L) (k : Nat) (hk : k < L.length) :
    ∃ b o, a = some ⟨b, o, none⟩ ∧ w.cell? ⟨b, o + k * 3, none⟩ = some (.string ⟨L[k].name.toArray⟩) ∧ w.cell? ⟨b, o + k * 3 + 1, none⟩ = some (.int .i64 L[k].amt) ∧ w.cell? ⟨b, o + k * 3 + 2, none⟩ = some (.int .i64 L[k].seq) := by
  obtain ⟨b, o, rfl, hc⟩ := RowsIn.at h k hk
  exact ⟨b, o, rfl, hc 0 _ rfl, hc 1 _ rfl, hc 2 _ rfl⟩
theorem below_more {P : Nat → Prop} {k : Nat} (h : ∀ j, j < k → P j) (h2 : P k) : ∀ j, j < k + 1 → P j := fun j hj => by
  by_cases e : j = k
  · exact e ▸ h2
  · exact h j (by omega)
set_option maxRecDepth 100000 in
set_option maxHeartbeats 8000000 in
theorem ebig_any (C : List A) (N : List M) (I : St) (L : List X) (a b c u : Value) (w : World) (ha : AccIn w a C) (hb : Mems w b N) (hc : ItIn w c I) (hu : Txs w u L) (lC : C.length ≤ maxLen) (lN : N.length ≤ maxLen) (lI : I.length ≤ maxLen) (lL : L.length ≤ maxLen) :
    Calls Tryd.prog 8 #[.agg #[a, b, c], u] w (EBigPost w C N I L) := by
  obtain ⟨Aa, capa, rfl, -, -⟩ := ha.form
  obtain ⟨Ab, capb, rfl⟩ := hb.form
  obtain ⟨Ai, capi, rfl, -, -⟩ := hc.form
  obtain ⟨Au, capu, rfl⟩ := Txs.form hu
  obtain ⟨w0, hw0⟩ : ∃ w0, w.alloc (.cells #[.slice Aa C.length capa, .slice Ab N.length capb, .slice Ai I.length capi] 26) = w0 := ⟨_, rfl⟩
  have hb0 : Below w.heap.size w w0 := by rw [← hw0]; exact (Below.refl _ w).alloc (Nat.le_refl _) _
  have ra : w0.heap[w.heap.size]? = some (.cells #[.slice Aa C.length capa, .slice Ab N.length capb, .slice Ai I.length capi] 26 (0, 0)) := by rw [← hw0]; exact heap_alloc_new w _
  have p0 : w0.cell? ⟨w.heap.size, 0, none⟩ = some (.slice Aa C.length capa) := by rw [cell_of_row _ _ 0 _ _ _ ra]; rfl
  have p1 : w0.cell? ⟨w.heap.size, 1, none⟩ = some (.slice Ab N.length capb) := by rw [cell_of_row _ _ 1 _ _ _ ra]; rfl
  have p2 : w0.cell? ⟨w.heap.size, 2, none⟩ = some (.slice Ai I.length capi) := by rw [cell_of_row _ _ 2 _ _ _ ra]; rfl
  have HB := Lib.hid hb0
  have HC := Lib.hid (RowsIn.below ha hb0)
  have HI := Lib.hid (RowsIn.below hc hb0)
  have HU := Lib.hid (hu.below hb0)
  unfold maxLen at lC lN lI lL
  have HLC := Lib.hid lC
  have HLN := Lib.hid lN
  have HLI := Lib.hid lI
  have HLL := Lib.hid lL
  clear ha hb hc hu hb0 ra lC lN lI lL
  go_enter Tryd.func8, Tryd.ntmps8
  go_upto_region 1 with fail
  try rw [hw0]
  clear hw0
  go_wp2
  go_loopw [5] (fun iv wr => ∃ k : Nat, k ≤ C.length ∧ iv = .int .i64 k ∧ wr = w0 ∧ ∀ j, j < k → ∀ h : j < C.length, C[j].name.length ≤ 100) (fun iv _ => C.length - (intOf iv).toNat)
  case atStart => exact ⟨0, Nat.zero_le _, rfl, rfl, fun j hj => absurd hj (Nat.not_lt_zero j)⟩
  case round =>
    obtain ⟨k, hk, rfl, ew, hall⟩ := hrel
    have ew := ew.symm
    subst ew
    have HA5 := Lib.hid hall
    clear hall
    have h0 : (0 : Int) ≤ (k : Int) := by omega
    by_cases hlt : k < C.length
    case pos =>
      have h1 : (k : Int) < (C.length : Int) := by omega
      have hnb : (k : Int) ≤ 9223372036854775806 := by have := HLC.out; omega
      obtain ⟨b, o, rfl, n0, -, -⟩ := AccIn.at HC.out k hlt
      obtain ⟨y, hy⟩ : ∃ q, C[k].name = q := ⟨_, rfl⟩
      have HY := Lib.hid hy
      rw [hy] at n0
      clear hy
      by_cases g1 : 100 < y.length
      case pos =>
        have dg1 : decide ((100 : Int) < (y.length : Int)) = true := decide_eq_true (by omega)
        clear g1
        go_wp2
        try rw [Exit.noGoto_ret]
        go_ret
        exact EBigPost.yes HB.out
      have dg1 : decide ((100 : Int) < (y.length : Int)) = false := decide_eq_false (by omega)
      have Hg1 : Hid (y.length ≤ 100) := Lib.hid (by omega)
      clear g1
      have HN5 := Lib.hid (below_more HA5.out (fun _ => by rw [HY.out]; exact Hg1.out))
      clear HA5
      go_wp2
      exact ⟨⟨k + 1, by omega, by go_num, by first | rfl | trivial, HN5.out⟩, by simp [intOf]; omega⟩
    have h1 : ¬ ((k : Int) < (C.length : Int)) := by omega
    obtain rfl : k = C.length := by omega
    clear hlt hk h0
    go_wp2
    go_loopw [6] (fun iv wr => ∃ k : Nat, k ≤ I.length ∧ iv = .int .i64 k ∧ wr = w0 ∧ ∀ j, j < k → ∀ h : j < I.length, I[j].1.length ≤ 100 ∧ I[j].2.length ≤ 100) (fun iv _ => I.length - (intOf iv).toNat)
    case atStart => exact ⟨0, Nat.zero_le _, rfl, rfl, fun j hj => absurd hj (Nat.not_lt_zero j)⟩
    case round =>
      obtain ⟨k, hk, rfl, ew, hall⟩ := hrel
      have ew := ew.symm
      subst ew
      have HA6 := Lib.hid hall
      clear hall
      have h0 : (0 : Int) ≤ (k : Int) := by omega
      by_cases hlt : k < I.length
      case pos =>
        have h1 : (k : Int) < (I.length : Int) := by omega
        have hnb : (k : Int) ≤ 9223372036854775806 := by have := HLI.out; omega
        obtain ⟨b, o, rfl, n0, n1⟩ := ItIn.at HI.out k hlt
        obtain ⟨⟨y, v⟩, hy⟩ : ∃ q, I[k] = q := ⟨_, rfl⟩
        have HY := Lib.hid hy
        rw [hy] at n0 n1
        dsimp only at n0 n1
        clear hy
        by_cases g1 : 100 < y.length
        case pos =>
          have dg1 : decide ((100 : Int) < (y.length : Int)) = true := decide_eq_true (by omega)
          clear g1
          go_wp2
          try rw [Exit.noGoto_ret]
          go_ret
          exact EBigPost.yes HB.out
        have dg1 : decide ((100 : Int) < (y.length : Int)) = false := decide_eq_false (by omega)
        have Hg1 : Hid (y.length ≤ 100) := Lib.hid (by omega)
        clear g1
        by_cases g2 : 100 < v.length
        case pos =>
          have dg2 : decide ((100 : Int) < (v.length : Int)) = true := decide_eq_true (by omega)
          clear g2
          go_wp2
          try rw [Exit.noGoto_ret]
          go_ret
          exact EBigPost.yes HB.out
        have dg2 : decide ((100 : Int) < (v.length : Int)) = false := decide_eq_false (by omega)
        have Hg2 : Hid (v.length ≤ 100) := Lib.hid (by omega)
        clear g2
        have HN6 := Lib.hid (below_more HA6.out (fun _ => by rw [HY.out]; exact ⟨Hg1.out, Hg2.out⟩))
        clear HA6
        go_wp2
        exact ⟨⟨k + 1, by omega, by go_num, by first | rfl | trivial, HN6.out⟩, by simp [intOf]; omega⟩
      have h1 : ¬ ((k : Int) < (I.length : Int)) := by omega
      obtain rfl : k = I.length := by omega
      clear hlt hk h0
      go_wp2
      go_loopw [7] (fun iv wr => ∃ k : Nat, k ≤ L.length ∧ iv = .int .i64 k ∧ wr = w0 ∧ ∀ j, j < k → ∀ h : j < L.length, L[j].frm.length ≤ 100 ∧ L[j].dst.length ≤ 100 ∧ L[j].key.length ≤ 100 ∧ L[j].val.length ≤ 100 ∧ L[j].mem.length ≤ 100) (fun iv _ => L.length - (intOf iv).toNat)
      case atStart => exact ⟨0, Nat.zero_le _, rfl, rfl, fun j hj => absurd hj (Nat.not_lt_zero j)⟩
      case round =>
        obtain ⟨k, hk, rfl, ew, hall⟩ := hrel
        have ew := ew.symm
        subst ew
        have HA7 := Lib.hid hall
        clear hall
        have h0 : (0 : Int) ≤ (k : Int) := by omega
        by_cases hlt : k < L.length
        case pos =>
          have h1 : (k : Int) < (L.length : Int) := by omega
          have hnb : (k : Int) ≤ 9223372036854775806 := by have := HLL.out; omega
          obtain ⟨b, o, zx, hA, ca, hma⟩ := HU.out.at k hlt
          subst hA
          obtain ⟨x, hy⟩ : ∃ q, L[k] = q := ⟨_, rfl⟩
          have HY := Lib.hid hy
          rw [hy] at ca hma
          clear hy
          obtain ⟨Az, capz, rfl⟩ := hma.form
          have c1 := ca 1 _ rfl
          have c3 := ca 3 _ rfl
          have c5 := ca 5 _ rfl
          have c6 := ca 6 _ rfl
          have c7 := ca 7 _ rfl
          clear ca hma
          by_cases g1 : 100 < x.frm.length
          case pos =>
            have dg1 : decide ((100 : Int) < (x.frm.length : Int)) = true := decide_eq_true (by omega)
            clear g1
            go_wp2
            try rw [Exit.noGoto_ret]
            go_ret
            exact EBigPost.yes HB.out
          have dg1 : decide ((100 : Int) < (x.frm.length : Int)) = false := decide_eq_false (by omega)
          have Hg1 : Hid (x.frm.length ≤ 100) := Lib.hid (by omega)
          clear g1
          by_cases g2 : 100 < x.dst.length
          case pos =>
            have dg2 : decide ((100 : Int) < (x.dst.length : Int)) = true := decide_eq_true (by omega)
            clear g2
            go_wp2
            try rw [Exit.noGoto_ret]
            go_ret
            exact EBigPost.yes HB.out
          have dg2 : decide ((100 : Int) < (x.dst.length : Int)) = false := decide_eq_false (by omega)
          have Hg2 : Hid (x.dst.length ≤ 100) := Lib.hid (by omega)
          clear g2
          by_cases g3 : 100 < x.key.length
          case pos =>
            have dg3 : decide ((100 : Int) < (x.key.length : Int)) = true := decide_eq_true (by omega)
            clear g3
            go_wp2
            try rw [Exit.noGoto_ret]
            go_ret
            exact EBigPost.yes HB.out
          have dg3 : decide ((100 : Int) < (x.key.length : Int)) = false := decide_eq_false (by omega)
          have Hg3 : Hid (x.key.length ≤ 100) := Lib.hid (by omega)
          clear g3
          by_cases g4 : 100 < x.val.length
          case pos =>
            have dg4 : decide ((100 : Int) < (x.val.length : Int)) = true := decide_eq_true (by omega)
            clear g4
            go_wp2
            try rw [Exit.noGoto_ret]
            go_ret
            exact EBigPost.yes HB.out
          have dg4 : decide ((100 : Int) < (x.val.length : Int)) = false := decide_eq_false (by omega)
          have Hg4 : Hid (x.val.length ≤ 100) := Lib.hid (by omega)
          clear g4
          by_cases g5 : 100 < x.mem.length
          case pos =>
            have dg5 : decide ((100 : Int) < (x.mem.length : Int)) = true := decide_eq_true (by omega)
            clear g5
            go_wp2
            try rw [Exit.noGoto_ret]
            go_ret
            exact EBigPost.yes HB.out
          have dg5 : decide ((100 : Int) < (x.mem.length : Int)) = false := decide_eq_false (by omega)
          have Hg5 : Hid (x.mem.length ≤ 100) := Lib.hid (by omega)
          clear g5
          have HN7 := Lib.hid (below_more HA7.out (fun _ => by rw [HY.out]; exact ⟨Hg1.out, Hg2.out, Hg3.out, Hg4.out, Hg5.out⟩))
          clear HA7
          go_wp2
          exact ⟨⟨k + 1, by omega, by go_num, by first | rfl | trivial, HN7.out⟩, by simp [intOf]; omega⟩
        have h1 : ¬ ((k : Int) < (L.length : Int)) := by omega
        obtain rfl : k = L.length := by omega
        clear hlt hk h0
        by_cases g1 : 20 < C.length
        case pos =>
          have dg1 : decide ((20 : Int) < (C.length : Int)) = true := decide_eq_true (by omega)
          clear g1
          go_wp2
          go_ret
          exact EBigPost.yes HB.out
        have dg1 : decide ((20 : Int) < (C.length : Int)) = false := decide_eq_false (by omega)
        have Hg1 : Hid (C.length ≤ 20) := Lib.hid (by omega)
        clear g1
        by_cases g2 : 20 < I.length
        case pos =>
          have dg2 : decide ((20 : Int) < (I.length : Int)) = true := decide_eq_true (by omega)
          clear g2
          go_wp2
          go_ret
          exact EBigPost.yes HB.out
        have dg2 : decide ((20 : Int) < (I.length : Int)) = false := decide_eq_false (by omega)
        have Hg2 : Hid (I.length ≤ 20) := Lib.hid (by omega)
        clear g2
        by_cases g3 : 100 < N.length
        case pos =>
          have dg3 : decide ((100 : Int) < (N.length : Int)) = true := decide_eq_true (by omega)
          clear g3
          go_wp2
          go_ret
          exact EBigPost.yes HB.out
        have dg3 : decide ((100 : Int) < (N.length : Int)) = false := decide_eq_false (by omega)
        have Hg3 : Hid (N.length ≤ 100) := Lib.hid (by omega)
        clear g3
        by_cases g4 : 20 < L.length
        case pos =>
          have dg4 : decide ((20 : Int) < (L.length : Int)) = true := decide_eq_true (by omega)
          clear g4
          go_wp2
          go_ret
          exact EBigPost.yes HB.out
        have dg4 : decide ((20 : Int) < (L.length : Int)) = false := decide_eq_false (by omega)
        have Hg4 : Hid (L.length ≤ 20) := Lib.hid (by omega)
        clear g4
        go_wp2
        go_ret
        exact EBigPost.no ⟨fun j h => HA5.out j h h, fun j h => HA6.out j h h, fun j h => HA7.out j h h, Hg1.out, Hg2.out, Hg3.out, Hg4.out⟩ HB.out
end Go.Proofs.YtlckcfpdiigjiaaDoor
namespace Go.Proofs.YtlckcfpdiigjiaaDoor
open Go.RowKit Go.ChangeShapes Go.WideShapes
open Go.Proofs.YtlckcfpdiigjiaaDoor.Nd (N)

end Go.Proofs.YtlckcfpdiigjiaaDoor
namespace Go.Proofs.YtlckcfpdiigjiaaDoor
open Go.RowKit

theorem cellsTwoS1 : Tryd.prog.cellsOf 9 = 1 := by kernel_rfl
theorem cellsTwoS : Tryd.prog.cellsOf 42 = 2 := by kernel_rfl
end Go.Proofs.YtlckcfpdiigjiaaDoor
namespace Go.Proofs.YtlckcfpdiigjiaaDoor
open Go.RowKit
open Sto (T St)
open Go.Proofs.YtlckcfpdiigjiaaDoor.Pw (M)
open Go.Proofs.YtlckcfpdiigjiaaDoor.Txn (X)
open Go.Proofs.YtlckcfpdiigjiaaDoor.Exc (A)

theorem Exc.beq_acc (a b : A) : decide (a = b) = ((a.name == b.name) && ((a.amt == b.amt) && (a.seq == b.seq))) := by
  obtain ⟨a1, a2, a3⟩ := a
  obtain ⟨b1, b2, b3⟩ := b
  simp only [Exc.A.mk.injEq]
  by_cases h1 : a1 = b1 <;> by_cases h2 : a2 = b2 <;> by_cases h3 : a3 = b3 <;> simp [h1, h2, h3]
set_option maxRecDepth 100000 in
theorem eq_acc (a b : A) (w : World) : (Op.equalIn 10000 44 (accval a) (accval b)).run Tryd.prog w = .ok (decide (a = b)) w := by
  have hu := Tryd.underlying44
  have ha1 := Tryd.isAgg3
  have ha2 := Tryd.isAgg9
  rw [Exc.beq_acc]
  unfold accval
  rw [run_equalIn_agg w 9999 _ _ _ (by rfl) (by kernel_rfl)]
  go_simp
  by_cases e0 : a.name = b.name
  · by_cases e1 : a.amt = b.amt
    · by_cases e2 : a.seq = b.seq <;> simp [e0, e1, e2]
    · simp [e0, e1]
  · simp [e0]
theorem txs_oneE (w : World) (x : X) (Az : Option Addr) (n capz : Nat) (hz : Mems w (.slice Az n capz) x.mem) : Txs (w.alloc (.cells #[.int .i64 x.kind, .string ⟨x.frm.toArray⟩, .int .i64 x.seq, .string ⟨x.dst.toArray⟩, .int .i64 x.amt, .string ⟨x.key.toArray⟩, .string ⟨x.val.toArray⟩, .slice Az n capz] 38)) (.slice (some ⟨w.heap.size, 0, none⟩) 1 1) [x] := by
  have hb : Below w.heap.size w (w.alloc (.cells #[.int .i64 x.kind, .string ⟨x.frm.toArray⟩, .int .i64 x.seq, .string ⟨x.dst.toArray⟩, .int .i64 x.amt, .string ⟨x.key.toArray⟩, .string ⟨x.val.toArray⟩, .slice Az n capz] 38)) := (Below.refl _ w).alloc (Nat.le_refl _) _
  refine ⟨_, 1, rfl, fun _ => ⟨w.heap.size, 0, rfl, by simp, fun i hi => ?_⟩⟩
  obtain rfl : i = 0 := by simp at hi; exact hi
  refine ⟨.slice Az n capz, fun j u hu => ?_, hz.below hb⟩
  have h := heap_new_at w (.cells #[.int .i64 x.kind, .string ⟨x.frm.toArray⟩, .int .i64 x.seq, .string ⟨x.dst.toArray⟩, .int .i64 x.amt, .string ⟨x.key.toArray⟩, .string ⟨x.val.toArray⟩, .slice Az n capz] 38) w.heap.size rfl
  rw [Nat.zero_mul, Nat.zero_add, cell_of_row _ _ j _ _ _ h]
  simpa [xcl] using hu
/-- Two strings in block q. -/
def PairAt (w : World) (q : Nat) (a b : T) : Prop := w.heap[q]? = some (.cells #[.string ⟨a.toArray⟩, .string ⟨b.toArray⟩] 42 (0, 0))
theorem PairAt.below {w w' : World} {q : Nat} {a b : T} (h : PairAt w q a b) (hb : Below w.heap.size w w') : PairAt w' q a b := (hb.block q (lt_of_heap h)).trans h
theorem PairAt.cells {w : World} {q : Nat} {a b : T} (h : PairAt w q a b) : w.cell? ⟨q, 0, none⟩ = some (.string ⟨a.toArray⟩) ∧ w.cell? ⟨q, 1, none⟩ = some (.string ⟨b.toArray⟩) :=
  ⟨by rw [cell_of_row _ _ 0 _ _ _ h]; rfl, by rw [cell_of_row _ _ 1 _ _ _ h]; rfl⟩
/-- The three boxes of the laws of one transaction. -/
theorem one_box (za zm zi : Value) (x : X) (z : Value) (a b : T) (w : World) : ∃ w0, ((w.alloc (.cells #[za, zm, zi] 26)).alloc (.cells #[.int .i64 x.kind, .string ⟨x.frm.toArray⟩, .int .i64 x.seq, .string ⟨x.dst.toArray⟩, .int .i64 x.amt, .string ⟨x.key.toArray⟩, .string ⟨x.val.toArray⟩, z] 38)).alloc (.cells #[.string ⟨a.toArray⟩, .string ⟨b.toArray⟩] 42) = w0 ∧ Below w.heap.size w w0 ∧ StartAt w0 w.heap.size za zm zi ∧ TxAt w0 (w.heap.size + 1) x z ∧ PairAt w0 (w.heap.size + 1 + 1) a b := by
  obtain ⟨w1, hw1, hb1, h1⟩ := start_box za zm zi w
  obtain ⟨w2, hw2, hb2, h2⟩ := tx_box x z w1
  obtain ⟨w3, hw3⟩ : ∃ w3, w2.alloc (.cells #[.string ⟨a.toArray⟩, .string ⟨b.toArray⟩] 42) = w3 := ⟨_, rfl⟩
  have hb3 : Below w2.heap.size w2 w3 := by rw [← hw3]; exact (Below.refl _ w2).alloc (Nat.le_refl _) _
  have h3 : PairAt w3 w2.heap.size a b := by rw [← hw3]; exact heap_alloc_new w2 _
  have e1 : w1.heap.size = w.heap.size + 1 := by rw [← hw1, World.size_alloc]
  have e2 : w2.heap.size = w.heap.size + 1 + 1 := by rw [← hw2, World.size_alloc, e1]
  rw [e1] at h2
  rw [e2] at h3
  exact ⟨w3, by rw [hw1, hw2, hw3], bchain (bchain hb1 hb2) hb3, (h1.below hb2).below hb3, h2.below hb3, h3⟩
end Go.Proofs.YtlckcfpdiigjiaaDoor
namespace Go.Proofs.YtlckcfpdiigjiaaDoor
open Go.RowKit
open Go.Proofs.YtlckcfpdiigjiaaDoor.Sto (St)

def Tri.ofR : St → St → St × Nat
  | S, [] => (S, 0)
  | S, a :: r => if Tri.putC S a.1 a.2 = 0 then Tri.ofR (Tri.put S a.1 a.2) r else ([], Tri.putC S a.1 a.2)
def RtOfPost (L : St) (w : World) (e : Ending) (w' : World) : Prop :=
  ∃ v', e = .returned (.tuple #[v', .int .i64 (Tri.ofR [] L).2]) ∧ ItAt w' v' (Tri.ofR [] L).1 ∧ Below w.heap.size w w'
theorem RtOfPost.of {L S : St} {c : Nat} {w w' : World} {v' : Value} (h : Tri.ofR [] L = (S, c)) (hv : ItAt w' v' S) (hb : Below w.heap.size w w') : RtOfPost L w (.returned (.tuple #[v', .int .i64 c])) w' :=
  ⟨v', by rw [h], by rw [h]; exact hv, hb⟩
end Go.Proofs.YtlckcfpdiigjiaaDoor
namespace Go.Proofs.YtlckcfpdiigjiaaDoor
open Go.RowKit
open Sto (T St)
open Tri (Tr Ok upd ix hb lay splitT Trim rank)
open Go.Proofs.YtlckcfpdiigjiaaDoor.Nd (N)

def TOfPost (L : St) (w : World) (e : Ending) (w' : World) : Prop :=
  ∃ z, e = .returned (.tuple #[z, .int .i64 (Tri.ofR [] L).2]) ∧ ((Tri.ofR [] L).2 = 0 → ∃ g', z = ptr g' ∧ TrAt w' g' (Tri.ofR [] L).1) ∧ ((Tri.ofR [] L).2 ≠ 0 → z = nilp) ∧ Below w.heap.size w w'
theorem TOfPost.bad {L S : St} {c : Nat} {w w' : World} (h : Tri.ofR [] L = (S, c)) (hc : c ≠ 0) (hb : Below w.heap.size w w') : TOfPost L w (.returned (.tuple #[.pointer none, .int .i64 c])) w' := ⟨nilp, by rw [h]; rfl, by rw [h]; exact fun e => absurd e hc, fun _ => rfl, hb⟩
theorem TOfPost.good {L S : St} {g' : Nat} {w w' : World} (h : Tri.ofR [] L = (S, 0)) (hT : TrAt w' g' S) (hb : Below w.heap.size w w') : TOfPost L w (.returned (.tuple #[.pointer (some ⟨g', 0, none⟩), .int .i64 0])) w' := ⟨_, by rw [h]; rfl, by rw [h]; exact fun _ => ⟨g', rfl, hT⟩, by rw [h]; exact fun e => absurd rfl e, hb⟩
end Go.Proofs.YtlckcfpdiigjiaaDoor
namespace Go.Proofs.YtlckcfpdiigjiaaDoor
open Go.RowKit
open Sto (T)
open Tri (Tr Ok upd ix hb lay splitT Trim rank)
open Go.Proofs.YtlckcfpdiigjiaaDoor.Nd (N)

end Go.Proofs.YtlckcfpdiigjiaaDoor
namespace Go.Proofs.YtlckcfpdiigjiaaDoor
open Go.RowKit
open Sto (T St)
open Tri (Tr Ok upd ix hb lay splitT Trim rank)
open Go.Proofs.YtlckcfpdiigjiaaDoor.Nd (N)

namespace Tri
end Tri
/-- What a trie's nodes are. -/
theorem TrAt.tree {w : World} {g : Nat} {S : St} (h : TrAt w g S) : ∃ top t, TRow w g top S.length ∧ PAt w (Fm.from 0) true t top ∧ TrS S t := h
end Go.Proofs.YtlckcfpdiigjiaaDoor
namespace Go.Proofs.YtlckcfpdiigjiaaDoor
open Go.RowKit Go.ChangeShapes Go.WideShapes

/-- An act. -/
structure ActT where
  kind : Int
  key : List UInt8
  val : List UInt8
instance : Inhabited ActT := ⟨⟨0, [], []⟩⟩
def TActs (w : World) (v : Value) (L : List ActT) : Prop :=
  ∃ (A : Option Addr) (cap : Nat), v = .slice A L.length cap ∧ (0 < L.length → ∃ b o, A = some ⟨b, o, none⟩ ∧ b < w.heap.size ∧ ∀ i (h : i < L.length),
    w.cell? ⟨b, o + i * 3, none⟩ = some (.int .i64 L[i].kind) ∧ w.cell? ⟨b, o + i * 3 + 1, none⟩ = some (.string ⟨L[i].key.toArray⟩) ∧ w.cell? ⟨b, o + i * 3 + 2, none⟩ = some (.string ⟨L[i].val.toArray⟩))
theorem TActs.below {w w' : World} {v : Value} {L : List ActT} (h : TActs w v L) (hb : Below w.heap.size w w') : TActs w' v L := by
  obtain ⟨A, cap, rfl, hc⟩ := h
  refine ⟨A, cap, rfl, fun h0 => ?_⟩
  obtain ⟨b, o, rfl, hlt, hcell⟩ := hc h0
  refine ⟨b, o, rfl, Nat.lt_of_lt_of_le hlt hb.size, fun i hi => ?_⟩
  obtain ⟨h1, h2, h3⟩ := hcell i hi
  exact ⟨(hb.cell hlt).trans h1, (hb.cell hlt).trans h2, (hb.cell hlt).trans h3⟩
theorem TActs.form {w : World} {v : Value} {L : List ActT} (h : TActs w v L) : ∃ A cap, v = .slice A L.length cap := by
  obtain ⟨A, cap, rfl, _⟩ := h
  exact ⟨A, cap, rfl⟩
theorem TActs.at {w w' : World} {A : Option Addr} {n cap : Nat} {L : List ActT} (h : TActs w (.slice A n cap) L) (hb : Below w.heap.size w w') (k : Nat) (hk : k < L.length) :
    ∃ b o, A = some ⟨b, o, none⟩ ∧ b < w.heap.size ∧ w'.cell? ⟨b, o + k * 3, none⟩ = some (.int .i64 L[k].kind) ∧ w'.cell? ⟨b, o + k * 3 + 1, none⟩ = some (.string ⟨L[k].key.toArray⟩) ∧ w'.cell? ⟨b, o + k * 3 + 2, none⟩ = some (.string ⟨L[k].val.toArray⟩) := by
  obtain ⟨A0, cap0, hv0, hc0⟩ := h
  obtain ⟨rfl, rfl, rfl⟩ : A = A0 ∧ n = L.length ∧ cap = cap0 := by simpa using hv0
  obtain ⟨b, o, rfl, hlt, hcell⟩ := hc0 (by omega)
  obtain ⟨h1, h2, h3⟩ := hcell k hk
  exact ⟨b, o, rfl, hlt, (hb.cell hlt).trans h1, (hb.cell hlt).trans h2, (hb.cell hlt).trans h3⟩

end Go.Proofs.YtlckcfpdiigjiaaDoor
namespace Go.Proofs.YtlckcfpdiigjiaaDoor
open Go.RowKit
open Sto (T St)
open Tri (Tr)

end Go.Proofs.YtlckcfpdiigjiaaDoor
namespace Go.Proofs.YtlckcfpdiigjiaaDoor
open Go.RowKit
open Sto (T St)
open Tri (Tr)

end Go.Proofs.YtlckcfpdiigjiaaDoor
namespace Go.Proofs.YtlckcfpdiigjiaaDoor
open Go.RowKit
open Sto (T St)

end Go.Proofs.YtlckcfpdiigjiaaDoor
namespace Go.Proofs.YtlckcfpdiigjiaaDoor
open Go.RowKit
open Sto (T St)
open Tri (Tr)

/-- The tree of items. -/
def treeS (S : St) : Tr := S.foldr (fun x t => t.put (Nib.ofL x.1) x.2) .nil
theorem treeS_tree (S : St) (hS : Sto.Rising S) (hv : ∀ p ∈ S, p.2 ≠ []) : Tri.TreeOf S (treeS S) := by
  induction S with
  | nil => exact ⟨trivial, trivial, rfl⟩
  | cons a r ih =>
    obtain ⟨h1, h2⟩ := List.pairwise_cons.1 hS
    have h3 := (ih h2 fun p h => hv p (List.mem_cons_of_mem _ h)).put (k := a.1) (hv a (List.mem_cons_self ..))
    have e : Tri.put r a.1 a.2 = a :: r := by
      cases r with
      | nil => rfl
      | cons b r =>
        have hab := h1 b (List.mem_cons_self ..)
        rw [Tri.put, if_neg (fun h => List.lt_irrefl _ (List.lt_trans h hab)), if_neg (fun e => Sto.lt_ne hab e.symm)]
    rw [e] at h3
    exact h3
theorem treeS_of {S : St} {t : Tr} (h : TrS S t) : treeS S = t :=
  (treeS_tree S h.rise fun p hp e => by have := (h.fair p hp).2.2.1; rw [e] at this; simp at this).one h.tree
def rootS (S : St) : T := (treeS S).sum Nd.sumS
theorem sroot_any {g : Nat} {S : St} (w : World) (h : TrAt w g S) :
    Calls Tryd.prog 11 #[ptr g] w fun e w' => e = .returned (.string ⟨(rootS S).toArray⟩) ∧ Below w.heap.size w w' := by
  obtain ⟨top, t, h1, h2, h3⟩ := h
  unfold rootS
  rw [treeS_of h3]
  exact troot_any w h1 h2 h3.ok
theorem sitems_any {g : Nat} {S : St} (w : World) (h : TrAt w g S) :
    Calls Tryd.prog 21 #[ptr g] w (ItemsPost w S) := by
  obtain ⟨top, t, h1, h2, h3⟩ := h
  exact items_any w h1 (h3.sealed h2) h3.tree
end Go.Proofs.YtlckcfpdiigjiaaDoor
namespace Go.Proofs.YtlckcfpdiigjiaaDoor
open Go.RowKit
open Sto (T St)
open Go.Proofs.YtlckcfpdiigjiaaDoor.Pw (M)
open Go.Proofs.YtlckcfpdiigjiaaDoor.Exc (A)

theorem Exc.sumS_take (S : St) (k : Nat) (hk : k < S.length) : Exc.sumS (S.take (k + 1)) = Exc.sumS (S.take k) + Exc.itemA S[k] := by
  unfold Exc.sumS
  rw [List.take_succ_eq_append_getElem hk, List.map_append, List.sum_append]
  simp
theorem Exc.itemA_bound (p : T × T) : 0 ≤ Exc.itemA p ∧ Exc.itemA p ≤ 1099511627776 := by
  unfold Exc.itemA
  split
  · cases h : Exc.told p.2 with
    | none => exact ⟨by simp, by simp⟩
    | some q => obtain ⟨a, s⟩ := q; exact Exc.wi_of (Exc.told_wi h).1
  · exact ⟨by simp, by simp⟩
theorem Exc.sumS_bound (S : St) : 0 ≤ Exc.sumS S ∧ Exc.sumS S ≤ S.length * 1099511627776 := by
  induction S with
  | nil => exact ⟨by simp [Exc.sumS], by simp [Exc.sumS]⟩
  | cons p r ih =>
    have h := Exc.itemA_bound p
    have e : Exc.sumS (p :: r) = Exc.itemA p + Exc.sumS r := by simp [Exc.sumS]
    rw [e, List.length_cons]
    omega
theorem TrAt.keys {w : World} {g : Nat} {S : St} (h : TrAt w g S) : ∀ x ∈ S, x.1.length ≤ 8 := by
  obtain ⟨_, _, _, _, h3⟩ := h
  exact fun x hx => (h3.fair x hx).2.1
/-- What an account's item tells. -/
theorem Exc.acc_item {S : St} (hS : Sto.Rising S) (hg : Exc.Good S) {k v n : T} (hm : (k, v) ∈ S) (hk : k = Exc.aK n) (hn : n ≠ []) (hl : k.length ≤ 8) : ∃ s, Exc.acc S n = (⟨n, Exc.itemA (k, v), s⟩, 0) := by
  subst hk
  have hnb : Txn.nameB n = true := by
    have h1 := List.length_pos_iff.2 hn
    simp [Exc.aK] at hl
    simp [Txn.nameB]
    omega
  have hA := Exc.isA_aK hn
  have h1 := hg _ hm hA
  have h2 := (Sto.look_mem hS _ _).2 hm
  unfold Exc.acc Exc.itemA
  rw [hnb, if_neg (by decide), h2, hA, if_pos rfl]
  dsimp only at h1 ⊢
  cases ht : Exc.told v with
  | none => rw [ht] at h1; cases h1
  | some p => obtain ⟨a, s⟩ := p; exact ⟨s, rfl⟩
set_option maxRecDepth 100000 in
set_option maxHeartbeats 8000000 in
theorem esum_any {g : Nat} (S : St) (w : World) (ht : TrAt w g S) (hg : Exc.Good S) :
    Calls Tryd.prog 10 #[ptr g] w fun e w' => e = .returned (.int .i64 (Exc.sumS S)) ∧ Below w.heap.size w w' := by
  have HT := Lib.hid ht
  have HG := Lib.hid hg
  have HIT := Lib.hid (sitems_any (g := g) w ht)
  have HFW : Hid (S.length ≤ 1024) := Lib.hid ht.few
  have HKS := Lib.hid ht.keys
  have HRI := Lib.hid ht.rise
  unfold ptr ItemsPost at HIT
  unfold ptr
  clear ht hg
  go_enter Tryd.func10, Tryd.ntmps10
  go_wp2_with fail
  refine HIT.out.mono ?_
  rintro r w1 ⟨z1, rfl, hown, hb⟩
  have hin := ItAt.inn (OwnI.at_ hown)
  obtain ⟨A, cap, rfl, -, -⟩ := RowsIn.form hin
  have HIN := Lib.hid hin
  have HB1 := Lib.hid hb
  clear hin hown hb
  go_wp2
  go_loopw [3, 11] (fun nv iv wr => ∃ k : Nat, nv = .int .i64 (Exc.sumS (S.take k)) ∧ iv = .int .i64 k ∧ k ≤ S.length ∧ Below w1.heap.size w1 wr) (fun _ iv _ => S.length - (intOf iv).toNat)
  case atStart => exact ⟨0, rfl, rfl, Nat.zero_le _, Below.refl _ _⟩
  case round =>
    obtain ⟨k, rfl, rfl, hk, hb⟩ := hrel
    have HB := Lib.hid hb
    clear hb
    by_cases hlt : k < S.length
    · have h1 : (k : Int) < (S.length : Int) := by omega
      have h0 : (0 : Int) ≤ (k : Int) := by omega
      have hk9 : (k : Int) ≤ 1024 := by have := HFW.out; omega
      obtain ⟨b, o, rfl, n0, n1⟩ := ItIn.at (RowsIn.below HIN.out HB.out) k hlt
      have HST := Lib.hid (Exc.sumS_take S k hlt)
      have HSB : Hid (0 ≤ Exc.sumS (S.take k) ∧ Exc.sumS (S.take k) ≤ 1024 * 1099511627776) := Lib.hid (by
        have h := Exc.sumS_bound (S.take k)
        rw [List.length_take, Nat.min_eq_left (by omega)] at h
        omega)
      have HIB := Lib.hid (Exc.itemA_bound S[k])
      have HKL := Lib.hid (HKS.out _ (List.getElem_mem hlt))
      have HACC : Hid (∀ n, S[k].1 = Exc.aK n → n ≠ [] → ∃ s, Exc.acc S n = (⟨n, Exc.itemA S[k], s⟩, 0)) := Lib.hid (fun n e hn => Exc.acc_item HRI.out HG.out (k := S[k].1) (v := S[k].2) (List.getElem_mem hlt) e hn HKL.out)
      have HNO : Hid (Exc.isA S[k].1 = false → Exc.itemA S[k] = 0) := Lib.hid (fun h => by unfold Exc.itemA; rw [h]; rfl)
      obtain ⟨I, hI⟩ : ∃ I, Exc.itemA S[k] = I := ⟨_, rfl⟩
      rw [hI] at HST HIB HACC HNO
      obtain ⟨⟨x, y⟩, hx⟩ : ∃ p, S[k] = p := ⟨_, rfl⟩
      rw [hx] at n0 n1 HKL HACC HNO
      dsimp only at n0 n1 HKL HACC HNO
      clear hI hx
      obtain ⟨Q, hQ⟩ : ∃ Q, Exc.sumS (S.take k) = Q := ⟨_, rfl⟩
      rw [hQ] at HST HSB
      obtain ⟨w2, hw2⟩ : ∃ w2, wr.alloc (.cells #[.string ⟨x.toArray⟩, .string ⟨y.toArray⟩] 56) = w2 := ⟨_, rfl⟩
      have hb2 : Below wr.heap.size wr w2 := by rw [← hw2]; exact (Below.refl _ wr).alloc (Nat.le_refl _) _
      have hr2 : w2.heap[wr.heap.size]? = some (.cells #[.string ⟨x.toArray⟩, .string ⟨y.toArray⟩] 56 (0, 0)) := by rw [← hw2]; exact heap_alloc_new wr _
      obtain ⟨q, hq⟩ : ∃ q, wr.heap.size = q := ⟨_, rfl⟩
      rw [hq] at hr2
      have HW2 := Lib.hid hw2
      have HQ2 := Lib.hid hq
      have HB2 := Lib.hid (bchain HB.out hb2)
      have c0 : w2.cell? ⟨q, 0, none⟩ = some (.string ⟨x.toArray⟩) := by rw [cell_of_row _ _ 0 _ _ _ hr2]; rfl
      clear hw2 hq hb2 hr2
      rw [hQ]
      clear hQ
      go_upto_region 5 with fail
      try rw [HW2.out]
      try rw [HQ2.out]
      clear n0 n1
      by_cases hl3 : x.length < 3
      · have s1 : decide ((x.length : Int) < 3) = true := decide_eq_true (by omega)
        have HI0 := Lib.hid (HNO.out (by unfold Exc.isA; rw [decide_eq_false (by omega)]; rfl))
        clear hl3
        go_wp2
        go_roundw
        case rel => exact ⟨k + 1, by rw [HST.out, HI0.out, Int.add_zero], by go_num, by omega, HB2.out⟩
        case measure => simp [intOf]; omega
      have s1 : decide ((x.length : Int) < 3) = false := decide_eq_false (by omega)
      have e1 := ext_take x 2
      have e2 := ext_drop x 2
      have hx2 : (2 : Int) ≤ (x.length : Int) := by omega
      have hx3 : 2 ≤ x.length := by omega
      by_cases hp : x.take 2 = [97, 58]
      case neg =>
        have s2 : (!x.take 2 == [97, 58]) = true := by rw [Bool.not_eq_true', beq_eq_false_iff_ne]; exact hp
        have s3 : (x.take 2 != [97, 58]) = true := by rw [bne_iff_ne]; exact hp
        have HI0 := Lib.hid (HNO.out (by unfold Exc.isA; rw [beq_eq_false_iff_ne.2 hp, Bool.and_false]))
        obtain ⟨X2, hX2⟩ : ∃ X2, x.take 2 = X2 := ⟨_, rfl⟩
        rw [hX2] at e1 s2 s3
        clear hl3 hp hX2
        go_wp2
        go_roundw
        case rel => exact ⟨k + 1, by rw [HST.out, HI0.out, Int.add_zero], by go_num, by omega, HB2.out⟩
        case measure => simp [intOf]; omega
      have s2 : (!x.take 2 == [97, 58]) = false := by rw [Bool.not_eq_false', beq_iff_eq]; exact hp
      have s3 : (x.take 2 != [97, 58]) = false := by rw [bne_eq_false_iff_eq]; exact hp
      have hxa : x = Exc.aK (x.drop 2) := by
        have := List.take_append_drop 2 x
        rw [hp] at this
        exact this.symm
      have hxn : x.drop 2 ≠ [] := fun e => by
        have := congrArg List.length e
        rw [List.length_drop] at this
        simp at this
        omega
      obtain ⟨sq, hac⟩ := HACC.out _ hxa hxn
      have HAC := Lib.hid (eaccount_any (gt := g) S (x.drop 2) w2 (HT.out.below (bchain HB1.out HB2.out)) (by rw [List.length_drop]; have := HKL.out; omega))
      rw [hac] at HAC
      dsimp only at HAC
      unfold accval ptr at HAC
      dsimp only at HAC
      obtain ⟨X2, hX2⟩ : ∃ X2, x.take 2 = X2 := ⟨_, rfl⟩
      rw [hX2] at e1 s2 s3
      obtain ⟨D2, hD2⟩ : ∃ D2, x.drop 2 = D2 := ⟨_, rfl⟩
      rw [hD2] at e2 HAC
      clear hl3 hp hX2 hxa hxn hac hD2
      go_wp2_with fail
      refine HAC.out.mono ?_
      rintro r w3 ⟨rfl, hb⟩
      obtain ⟨w4, hw4, hb4, ra⟩ := acc_box (⟨D2, I, sq⟩ : A) w3
      obtain ⟨q4, hq⟩ : ∃ q, w3.heap.size = q := ⟨_, rfl⟩
      rw [hq] at ra
      have HW4 := Lib.hid hw4
      have HQ4 := Lib.hid hq
      have HB4 := Lib.hid (bchain (bchain HB2.out hb) hb4)
      have HA4 := Lib.hid ra
      clear hw4 hq ra hb4 hb c0
      go_upto_region 7 with fail
      try dsimp only at HW4
      try rw [HW4.out]
      try rw [HQ4.out]
      have a1 := HA4.out.cells.2.1
      try dsimp only at a1
      have s4 : decide (I < 0) = false := decide_eq_false (by have := HIB.out; omega)
      have s5 : decide ((I : Int) < (0 : Int)) = false := s4
      obtain ⟨v1, v2⟩ := wrap_i (n := Q + I) (by have := HSB.out; have := HIB.out; omega) (by have := HSB.out; have := HIB.out; omega)
      go_wp2
      go_roundw
      case rel => exact ⟨k + 1, by rw [HST.out], by go_num, by omega, HB4.out⟩
      case measure => simp [intOf]; omega
    · have h1 : ¬ ((k : Int) < (S.length : Int)) := by omega
      obtain rfl : k = S.length := by omega
      rw [List.take_length]
      go_wp2
      go_ret
      exact ⟨rfl, bchain HB1.out HB.out⟩
end Go.Proofs.YtlckcfpdiigjiaaDoor
namespace Go.Proofs.YtlckcfpdiigjiaaDoor
open Go.ChangeShapes Go.WideShapes Go.ChangeAt Go.RowKit

theorem gK : Tryd.prog.globalNamed "pharos/sha.constants" = some 0 := by kernel_rfl
theorem tK : (Tryd.prog.globals[0]?).map (·.type) = some 126 := by kernel_rfl
theorem cK : Tryd.prog.cellsOf 126 = 64 := by kernel_rfl
theorem cW : Tryd.prog.cellsOf 101 = 1 := by kernel_rfl
def laidK : List (String × DataW Unit) := [("pharos/sha.constants", Rows.laid_pharos_sha_constants)]
theorem tab_of_laid {W : World} (h : laidMetH Tryd.prog laidK W) : Tab W := by
  rw [MakeChecks.laidMetH_plain _ _ _ (by kernel_rfl)] at h
  obtain ⟨g, t, cs, fuel, p, hg, hty, hvar, hd⟩ := Lib.laidMet.reads h (.head _)
  obtain rfl := Option.some.inj (gK.symm.trans hg)
  obtain rfl := Option.some.inj (tK.symm.trans hty)
  have hd' : DataW.trod (fun _ => ()) Tryd.prog W 0 (fun _ => true) false fuel 126 cs.toList = some (Lib.tabData .u32 Sha.kTab, p) := hd
  have hcs := Lib.cells_of_tab Tryd.underlying126 Tryd.underlying101 cW cK hd'
  intro i hi
  have hk : i < Sha.kTab.length := hi
  rw [World.var?_cell hg hvar i, ← Array.getElem?_toList, hcs]
  simp [hk]
/-- The door's own heap meets the condition. -/
theorem door_met (os : Os) (args : Array Value) : laidMetH Tryd.prog laidK ((World.doorLaid Tryd.prog 400 os).forCall (fun _ _ => 0) ⟨#[], args, []⟩).memory :=
  laidMetH_of_parts3 (fuel := 8) (laidMet_of_run' 8 (by kernel_rfl) (by kernel_rfl)) (by kernel_rfl) (by kernel_rfl)
end Go.Proofs.YtlckcfpdiigjiaaDoor
namespace Go.Proofs.YtlckcfpdiigjiaaDoor
open Go.RowKit
open Sto (T St)
open Go.Proofs.YtlckcfpdiigjiaaDoor.Pw (M)
open Go.Proofs.YtlckcfpdiigjiaaDoor.Exc (A)

set_option maxRecDepth 100000 in
set_option maxHeartbeats 4000000 in
theorem eaccount_all {gt : Nat} (S : St) (n : T) (w : World) (ht : TrAt w gt S) :
    Calls Tryd.prog 13 #[ptr gt, .string ⟨n.toArray⟩] w fun r w' => r = .returned (.tuple #[accval (Exc.acc S n).1, .int .i64 (Exc.acc S n).2]) ∧ Below w.heap.size w w' := by
  cases hn : Txn.nameB n with
  | true => exact eaccount_any S n w ht (by simp only [Txn.nameB, Bool.and_eq_true, decide_eq_true_eq] at hn; omega)
  | false =>
  obtain ⟨w0, hw0, hb0, rp⟩ := acc_box Exc.A.zero w
  have HP0 := Lib.hid rp
  have HB0 := Lib.hid hb0
  obtain ⟨p, hp⟩ : ∃ p, w.heap.size = p := ⟨_, rfl⟩
  rw [hp] at HP0
  have HLP := Lib.hid (Nat.le_of_eq hp)
  have HPE := Lib.hid hp
  have HW0 : Hid (w.alloc (.cells #[.string ⟨#[]⟩, .int .i64 0, .int .i64 0] 44) = w0) := Lib.hid hw0
  have HNA := Lib.hid (fun w' => eisName_any n w')
  rw [hn] at HNA
  have HEQ : Hid (Exc.acc S n = (Exc.A.zero, (1 : Int))) := Lib.hid (by unfold Exc.acc; rw [hn, if_pos rfl])
  unfold ptr
  clear ht hb0 rp hw0 hp hn
  go_enter Tryd.func13, Tryd.ntmps13
  go_upto_region 1 with fail
  try rw [HW0.out]
  try rw [HPE.out]
  go_wp2_with fail
  refine (HNA.out _).mono ?_
  rintro r w1 ⟨rfl, hw1⟩
  obtain rfl := hw1.symm
  obtain ⟨p0, p1, p2⟩ := HP0.out.cells
  have u0 := HP0.out.free 0
  have u1 := HP0.out.free 1
  have u2 := HP0.out.free 2
  go_wp2
  exact bodyPost_ret (ret_putAcc rfl _ w0 p Exc.A.zero rfl HP0.out) rfl ⟨by rw [HEQ.out]; rfl, HB0.out.trans ((putAcc_only w0 p Exc.A.zero).below HLP.out HB0.out.size)⟩
set_option maxRecDepth 100000 in
theorem edata_all {gt : Nat} (S : St) (k : T) (w : World) (ht : TrAt w gt S) (hk : k.length ≤ 140737488351232) :
    Calls Tryd.prog 14 #[ptr gt, .string ⟨k.toArray⟩] w fun r w' => r = .returned (.tuple #[.string ⟨(Exc.dat S k).1.toArray⟩, .int .i64 (Exc.dat S k).2]) ∧ Below w.heap.size w w' := by
  by_cases hl : k.length ≤ 1000000
  · exact edata_any S k w ht hl
  have h0 : k ≠ [] := fun e => hl (by rw [e]; exact Nat.zero_le _)
  have hp : (k == []) = false := beq_eq_false_iff_ne.2 h0
  have HD : Hid (Exc.dat S k = ([], 1)) := Lib.hid (by
    rw [Exc.getC_dat, if_pos]
    unfold Txn.keyB
    rw [decide_eq_false (show ¬ k.length ≤ 6 by omega), Bool.and_false])
  have HG := Lib.hid (tget_any (Exc.dK k) w ht)
  have hn : Tri.keyed (Exc.dK k) = false := by
    simp [Tri.keyed, Exc.dK]
    omega
  rw [Tri.getC_no hn] at HG
  have e1 := cat_mk [100, 58] k
  rw [show [100, 58] ++ k = Exc.dK k from rfl] at e1
  have hg : ¬ (9223372036854775807 < 2 + k.length) := by omega
  obtain ⟨K, hK⟩ : ∃ K, Exc.dK k = K := ⟨_, rfl⟩
  rw [hK] at e1 HG
  unfold ptr at HG ⊢
  clear h0 hk hl ht hn hK
  go_enter Tryd.func14, Tryd.ntmps14
  go_wp2_with fail
  refine HG.out.mono ?_
  rintro r w1 ⟨rfl, hb⟩
  have HB := Lib.hid hb
  clear hb
  go_wp2
  go_ret2
  exact ⟨by rw [HD.out]; rfl, HB.out⟩
end Go.Proofs.YtlckcfpdiigjiaaDoor
