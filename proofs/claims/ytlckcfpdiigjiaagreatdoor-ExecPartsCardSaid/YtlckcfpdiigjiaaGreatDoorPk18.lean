/- ExecDo, ExecCopy, BookRc, ExecRc -/
import Derived.Test.YtlckcfpdiigjiaaGreatDoorPk16
import Derived.Test.YtlckcfpdiigjiaaGreatDoorPk17
import Derived.Test.YtlckcfpdiigjiaaGreatDoorPk06
import Derived.Test.YtlckcfpdiigjiaaGreatDoorPk14
import Derived.Test.YtlckcfpdiigjiaaGreatDoorPk02
import Derived.Test.YtlckcfpdiigjiaaGreatDoorPk04
import Derived.Test.YtlckcfpdiigjiaaGreatDoorPk05
import Derived.BigQuiet
namespace Go.Proofs.YtlckcfpdiigjiaaGreatDoor
open Go.RowKit
open Sto (T St)
open Go.Proofs.YtlckcfpdiigjiaaGreatDoor.Pw (M)
open Go.Proofs.YtlckcfpdiigjiaaGreatDoor.Txn (X)
open Go.Proofs.YtlckcfpdiigjiaaGreatDoor.Exc (A)

theorem Exc.kindP_t {S : St} {x : X} (h : x.kind ≠ 1) (f t u : A) : Exc.kindP S x f t = Exc.kindP S x f u := by unfold Exc.kindP; rw [if_neg h, if_neg h]
/-- act of any kind. -/
theorem eact_any {g : Nat} (S : St) (x : X) (z : Value) (f t : A) (w : World) (ht : TrAt w g S) (hT : Tab w) (hz : Mems w z x.mem) (hf : Txn.fine x = true) (hfn : f.name = x.frm) (hfa : Exc.wi f.amt = true) (hfs : Exc.wi f.seq = true) (hq : f.seq ≠ Exc.most) (h1 : x.kind = 1 → t.name = x.dst ∧ Exc.wi t.amt = true ∧ Exc.wi t.seq = true ∧ Txn.nameB x.dst = true) :
    Calls Tryz.prog 37 #[ptr g, xval x z, accval f, accval t] w (TEnd (Exc.lastP x.frm f.seq (Exc.kindP S x f t)).2 (Exc.lastP x.frm f.seq (Exc.kindP S x f t)).1 w) := by
  rcases Txn.kind_of (Txn.fine_of hf).2.2.2.2 with ⟨h, _⟩ | ⟨h, _⟩ | ⟨h, _⟩ | ⟨h, _⟩
  · obtain ⟨g1, g2, g3, g4⟩ := h1 h
    exact eact_1 S x z f t w ht hT hz hf h hfn hfa hfs hq g1 g2 g3 g4
  · exact eact_2 S x z f t w ht hT hz hf h hfn hfa hfs hq
  · exact eact_3 S x z f t w ht hT hz hf h hfn hfa hfs hq
  · exact eact_4 S x z f t w ht hT hz hf h hfn hfa hfs hq
theorem eDo_bad {S : St} {x : X} {w w' : World} {c : Int} (h : Exc.doP S x = ([], c)) (hc : c ≠ 0) (hb : Below w.heap.size w w') : TEnd (Exc.doP S x).2 (Exc.doP S x).1 w (.returned (.tuple #[.pointer none, .int .i64 c])) w' := by
  rw [h]
  exact TEnd.bad hc hb
theorem Exc.do_3 {S : St} {x : X} (h : Txn.fine x = true) (h2 : (Exc.acc S x.frm).2 ≠ 0 ∨ (x.kind = 1 ∧ (Exc.acc S x.dst).2 ≠ 0)) : Exc.doP S x = ([], 3) := by unfold Exc.doP; rw [if_neg (by rw [h]; decide), if_pos h2]
theorem Exc.do_160 {S : St} {x : X} (h : Txn.fine x = true) (h1 : (Exc.acc S x.frm).2 = 0) (h2 : x.kind = 1 → (Exc.acc S x.dst).2 = 0) (h3 : x.seq ≠ (Exc.acc S x.frm).1.seq ∨ x.seq = Exc.most) : Exc.doP S x = ([], 160) := by
  unfold Exc.doP
  rw [if_neg (by rw [h]; decide), if_neg (by rintro (e | ⟨e, e2⟩); exact e h1; exact e2 (h2 e)), if_pos]
  by_cases e : (Exc.acc S x.frm).1.seq = x.seq
  · rw [e]
    rcases h3 with h3 | h3
    · exact absurd e.symm h3
    · exact Or.inr h3
  · exact Or.inl e
set_option maxRecDepth 100000 in
set_option maxHeartbeats 4000000 in
theorem edo_bad {g : Nat} (S : St) (x : X) (z : Value) (w : World) (hz : Mems w z x.mem) (hf : Txn.fine x = false) :
    Calls Tryz.prog 17 #[ptr g, xval x z] w (TEnd (Exc.doP S x).2 (Exc.doP S x).1 w) := by
  obtain ⟨w0, hw0, hb0, ra⟩ := tx_box x z w
  have HB := Lib.hid hb0
  obtain ⟨q0, hq0⟩ : ∃ q0, w.heap.size = q0 := ⟨_, rfl⟩
  rw [hq0] at ra
  have HQ0 := Lib.hid hq0
  have HCK := Lib.hid (xcheck_any x z w0 (hz.below hb0))
  rw [hf, if_neg (by decide)] at HCK
  have HE : Hid (Exc.doP S x = ([], 150)) := Lib.hid (by unfold Exc.doP; rw [if_pos hf])
  obtain ⟨Az, capz, rfl⟩ := hz.form
  obtain ⟨a0, a1, a2, a3, a4, a5, a6, a7⟩ := ra.cells
  unfold xval at HCK ⊢
  unfold ptr
  clear hb0 ra hz hq0 hf
  go_enter Tryz.func17, Tryz.ntmps17
  go_upto_region 1 with fail
  try rw [hw0]
  try rw [HQ0.out]
  clear hw0
  go_wp2_with fail
  refine HCK.out.mono ?_
  rintro r w1 ⟨rfl, hb1⟩
  have HB1 := Lib.hid (bchain HB.out hb1)
  clear hb1
  go_wp2
  go_ret2
  exact eDo_bad HE.out (by decide) HB1.out
set_option maxRecDepth 100000 in
set_option maxHeartbeats 8000000 in
theorem edo_o {g : Nat} (S : St) (x : X) (z : Value) (w : World) (ht : TrAt w g S) (hT : Tab w) (hz : Mems w z x.mem) (hf : Txn.fine x = true) (hk : x.kind ≠ 1) :
    Calls Tryz.prog 17 #[ptr g, xval x z] w (TEnd (Exc.doP S x).2 (Exc.doP S x).1 w) := by
  obtain ⟨w0, hw0, hb0, ra⟩ := tx_box x z w
  have HB0 := Lib.hid hb0
  obtain ⟨q0, hq0⟩ : ∃ q0, w.heap.size = q0 := ⟨_, rfl⟩
  rw [hq0] at ra
  have HQ0 := Lib.hid hq0
  have HX0 := Lib.hid ra
  have HV0 := Lib.hid (ht.below hb0)
  have HT := Lib.hid hT
  have HCK := Lib.hid (xcheck_any x z w0 (hz.below hb0))
  rw [hf, if_pos rfl] at HCK
  have HF := Lib.hid hf
  have HK := Lib.hid hk
  have HMM : Hid (∀ w', Below w.heap.size w w' → Mems w' z x.mem) := Lib.hid (fun w' h => hz.below h)
  have HKO := Lib.hid (Txn.kind_of (Txn.fine_of hf).2.2.2.2)
  have hn0 : Txn.nameB x.frm = true := by obtain ⟨g1, g2, -⟩ := Txn.fine_of hf; simp [Txn.nameB, g1, g2]
  have HA1 := Lib.hid (fun w' h => eaccount_any (gt := g) S x.frm w' h (by have := hn0; simp only [Txn.nameB, Bool.and_eq_true, decide_eq_true_eq] at this; omega))
  have HNM := Lib.hid (fun (h : (Exc.acc S x.frm).2 = 0) => Exc.acc_name h)
  have HN3 : Hid ((Exc.acc S x.frm).2 ≠ 0 → (Exc.acc S x.frm).2 = 3) := Lib.hid (fun h => by rw [Exc.acc_code hn0 h])
  have HD3 := Lib.hid (fun h2 => Exc.do_3 (S := S) (x := x) hf h2)
  have HD160 := Lib.hid (fun h1 h2 h3 => Exc.do_160 (S := S) (x := x) hf h1 h2 h3)
  have HDL := Lib.hid (fun h1 h2 h3 h4 => Exc.do_last (S := S) (x := x) hf h1 h2 h3 h4)
  have HKT := Lib.hid (fun f u => Exc.kindP_t (S := S) hk f (Exc.acc S x.dst).1 u)
  obtain ⟨Az, capz, rfl⟩ := hz.form
  obtain ⟨a0, a1, a2, a3, a4, a5, a6, a7⟩ := HX0.out.cells
  obtain ⟨⟨⟨fn, fa, fs⟩, e⟩, hfe⟩ : ∃ p, Exc.acc S x.frm = p := ⟨_, rfl⟩
  rw [hfe] at HA1 HNM HN3 HD3 HD160 HDL
  dsimp only at HA1 HNM HN3 HD3 HD160 HDL
  unfold accval at HA1
  dsimp only at HA1
  unfold ptr at HA1 ⊢
  unfold xval at HCK ⊢
  clear hb0 ra ht hT hz hf hk hq0 hfe hn0
  go_enter Tryz.func17, Tryz.ntmps17
  go_upto_region 1 with fail
  try rw [hw0]
  try rw [HQ0.out]
  clear hw0
  go_wp2_with fail
  refine HCK.out.mono ?_
  rintro r w1 ⟨rfl, hb⟩
  have HB1 := Lib.hid (bchain HB0.out hb)
  have HX1 := Lib.hid (HX0.out.below hb)
  have HV1 := Lib.hid (HV0.out.below hb)
  clear hb
  clear a0 a1 a2 a3 a4 a5 a6 a7
  obtain ⟨a0, a1, a2, a3, a4, a5, a6, a7⟩ := HX1.out.cells
  go_wp2_with fail
  refine (HA1.out _ HV1.out).mono ?_
  rintro r w2 ⟨rfl, hb⟩
  have HB2 := Lib.hid (bchain HB1.out hb)
  have HX2 := Lib.hid (HX1.out.below hb)
  have HV2 := Lib.hid (HV1.out.below hb)
  clear hb
  obtain ⟨w3, hw3, hb, rb⟩ := acc_box (⟨fn, fa, fs⟩ : A) w2
  obtain ⟨q7, hq⟩ : ∃ q, w2.heap.size = q := ⟨_, rfl⟩
  rw [hq] at rb
  have Hq7 := Lib.hid hq
  have HG3 := Lib.hid rb
  have HLq7 : Hid (w.heap.size ≤ q7) := Lib.hid (by rw [← hq]; exact HB2.out.size)
  have HB3 := Lib.hid (bchain HB2.out hb)
  have HX3 := Lib.hid (HX2.out.below hb)
  have HV3 := Lib.hid (HV2.out.below hb)
  clear hb
  clear rb hq
  clear a0 a1 a2 a3 a4 a5 a6 a7
  go_upto_region 5 with fail
  try rw [hw3]
  try rw [Hq7.out]
  clear hw3
  by_cases he : e = 0
  case neg =>
    have s1 : (e != 0) = true := by rw [bne_iff_ne]; exact he
    have h3 := HN3.out he
    subst h3
    have HE := Lib.hid (HD3.out (Or.inl he))
    go_wp2
    go_ret2
    exact eDo_bad HE.out (by decide) HB3.out
  subst he
  obtain ⟨nm, nb, na, ns⟩ := HNM.out rfl
  have HNF := Lib.hid nm
  have HWA := Lib.hid na
  have HWS := Lib.hid ns
  clear nm nb na ns
  obtain ⟨gg0, gg1, gg2⟩ := HG3.out.cells
  dsimp only at gg0 gg1 gg2
  obtain ⟨w4, hw4, hb, rb⟩ := acc_box (⟨fn, fa, fs⟩ : A) w3
  obtain ⟨q9, hq⟩ : ∃ q, w3.heap.size = q := ⟨_, rfl⟩
  rw [hq] at rb
  have Hq9 := Lib.hid hq
  have HU4 := Lib.hid rb
  have HLq9 : Hid (w.heap.size ≤ q9) := Lib.hid (by rw [← hq]; exact HB3.out.size)
  have HB4 := Lib.hid (bchain HB3.out hb)
  have HX4 := Lib.hid (HX3.out.below hb)
  have HV4 := Lib.hid (HV3.out.below hb)
  have HG4 := Lib.hid (HG3.out.below hb)
  clear hb
  clear rb hq
  have HNE : Hid (q7 ≠ q9) := Lib.hid (by have := Hq9.out; have := lt_of_heap HG3.out; omega)
  have HNX : Hid (q0 ≠ q9) := Lib.hid (by have := Hq9.out; have := lt_of_heap HX3.out; omega)
  go_upto_region 8 with fail
  try rw [hw4]
  try rw [Hq9.out]
  clear hw4 gg0 gg1 gg2
  have x0 := HX4.out.cells.1
  have r1 : (x.kind == 1) = false := beq_eq_false_iff_ne.2 HK.out
  have x2 := HX4.out.cells.2.2.1
  have g2 := HG4.out.cells.2.2
  dsimp only at g2
  by_cases hq : x.seq = fs
  case neg =>
    have s2 : (x.seq != fs) = true := by rw [bne_iff_ne]; exact hq
    have HE := Lib.hid (HD160.out (by first | rfl | trivial) (fun h => absurd h HK.out) (Or.inl hq))
    clear hq
    go_wp2
    go_ret2
    exact eDo_bad HE.out (by decide) HB4.out
  have s2 : (x.seq != fs) = false := by rw [hq]; exact bne_self_eq_false _
  have HQS := Lib.hid hq
  clear hq
  by_cases hq : x.seq = 1099511627776
  · have s3 : (x.seq == 1099511627776) = true := beq_iff_eq.2 hq
    have HE := Lib.hid (HD160.out (by first | rfl | trivial) (fun h => absurd h HK.out) (Or.inr hq))
    clear hq
    go_wp2
    go_ret2
    exact eDo_bad HE.out (by decide) HB4.out
  have s3 : (x.seq == 1099511627776) = false := beq_eq_false_iff_ne.2 hq
  have HQM := Lib.hid hq
  have HDZ := Lib.hid (HDL.out (by first | rfl | trivial) (fun h => absurd h HK.out) HQS.out.symm hq)
  rw [HKT.out (⟨fn, fa, fs⟩ : A) (⟨fn, fa, fs⟩ : A)] at HDZ
  clear hq
  have HAC := Lib.hid (eact_any (g := g) S x (.slice Az x.mem.length capz) (⟨fn, fa, fs⟩ : A) (⟨fn, fa, fs⟩ : A) w4 HV4.out (HT.out.below HB4.out) (HMM.out _ HB4.out) HF.out HNF.out HWA.out HWS.out (by have h1 := HQS.out; have h2 := HQM.out; have h9 : Exc.most = 1099511627776 := rfl; dsimp only; omega) (fun h => absurd h HK.out))
  dsimp only at HAC
  have hz2 := HDZ.out
  rw [HQS.out] at hz2
  rw [← hz2] at HAC
  clear hz2
  unfold xval accval ptr at HAC
  dsimp only at HAC
  obtain ⟨a0, a1, a2, a3, a4, a5, a6, a7⟩ := HX4.out.cells
  obtain ⟨g0, g1, g3⟩ := HG4.out.cells
  obtain ⟨u0, u1, u2⟩ := HU4.out.cells
  dsimp only at g0 g1 g3 u0 u1 u2
  clear g3
  go_wp2_with fail
  refine HAC.out.mono ?_
  rintro r wl hl
  have HZ := Lib.hid (hl.from HB4.out)
  obtain ⟨zl, rfl, -, -, -⟩ := hl
  clear HAC
  go_wp2
  go_ret2
  exact HZ.out
set_option maxRecDepth 100000 in
set_option maxHeartbeats 8000000 in
theorem edo_1 {g : Nat} (S : St) (x : X) (z : Value) (w : World) (ht : TrAt w g S) (hT : Tab w) (hz : Mems w z x.mem) (hf : Txn.fine x = true) (hk : x.kind = 1) :
    Calls Tryz.prog 17 #[ptr g, xval x z] w (TEnd (Exc.doP S x).2 (Exc.doP S x).1 w) := by
  obtain ⟨w0, hw0, hb0, ra⟩ := tx_box x z w
  have HB0 := Lib.hid hb0
  obtain ⟨q0, hq0⟩ : ∃ q0, w.heap.size = q0 := ⟨_, rfl⟩
  rw [hq0] at ra
  have HQ0 := Lib.hid hq0
  have HX0 := Lib.hid ra
  have HV0 := Lib.hid (ht.below hb0)
  have HT := Lib.hid hT
  have HCK := Lib.hid (xcheck_any x z w0 (hz.below hb0))
  rw [hf, if_pos rfl] at HCK
  have HF := Lib.hid hf
  have HK := Lib.hid hk
  have HMM : Hid (∀ w', Below w.heap.size w w' → Mems w' z x.mem) := Lib.hid (fun w' h => hz.below h)
  have HKO := Lib.hid (Txn.kind_of (Txn.fine_of hf).2.2.2.2)
  have hn0 : Txn.nameB x.frm = true := by obtain ⟨g1, g2, -⟩ := Txn.fine_of hf; simp [Txn.nameB, g1, g2]
  have HA1 := Lib.hid (fun w' h => eaccount_any (gt := g) S x.frm w' h (by have := hn0; simp only [Txn.nameB, Bool.and_eq_true, decide_eq_true_eq] at this; omega))
  have HNM := Lib.hid (fun (h : (Exc.acc S x.frm).2 = 0) => Exc.acc_name h)
  have HN3 : Hid ((Exc.acc S x.frm).2 ≠ 0 → (Exc.acc S x.frm).2 = 3) := Lib.hid (fun h => by rw [Exc.acc_code hn0 h])
  have HD3 := Lib.hid (fun h2 => Exc.do_3 (S := S) (x := x) hf h2)
  have HD160 := Lib.hid (fun h1 h2 h3 => Exc.do_160 (S := S) (x := x) hf h1 h2 h3)
  have HDL := Lib.hid (fun h1 h2 h3 h4 => Exc.do_last (S := S) (x := x) hf h1 h2 h3 h4)
  have htd : Txn.nameB x.dst = true := by rcases HKO.out with ⟨_, q1, q2, _⟩ | ⟨h, _⟩ | ⟨h, _⟩ | ⟨h, _⟩; (simp [Txn.nameB, q1, q2]); all_goals omega
  have HTD := Lib.hid htd
  have HA2 := Lib.hid (fun w' h => eaccount_any (gt := g) S x.dst w' h (by have := htd; simp only [Txn.nameB, Bool.and_eq_true, decide_eq_true_eq] at this; omega))
  have HNT := Lib.hid (fun (h : (Exc.acc S x.dst).2 = 0) => Exc.acc_name h)
  have HT3 : Hid ((Exc.acc S x.dst).2 ≠ 0 → (Exc.acc S x.dst).2 = 3) := Lib.hid (fun h => by rw [Exc.acc_code htd h])
  clear htd
  obtain ⟨Az, capz, rfl⟩ := hz.form
  obtain ⟨a0, a1, a2, a3, a4, a5, a6, a7⟩ := HX0.out.cells
  obtain ⟨⟨⟨fn, fa, fs⟩, e⟩, hfe⟩ : ∃ p, Exc.acc S x.frm = p := ⟨_, rfl⟩
  rw [hfe] at HA1 HNM HN3 HD3 HD160 HDL
  dsimp only at HA1 HNM HN3 HD3 HD160 HDL
  unfold accval at HA1
  dsimp only at HA1
  unfold ptr at HA1 ⊢
  unfold xval at HCK ⊢
  clear hb0 ra ht hT hz hf hk hq0 hfe hn0
  go_enter Tryz.func17, Tryz.ntmps17
  go_upto_region 1 with fail
  try rw [hw0]
  try rw [HQ0.out]
  clear hw0
  go_wp2_with fail
  refine HCK.out.mono ?_
  rintro r w1 ⟨rfl, hb⟩
  have HB1 := Lib.hid (bchain HB0.out hb)
  have HX1 := Lib.hid (HX0.out.below hb)
  have HV1 := Lib.hid (HV0.out.below hb)
  clear hb
  clear a0 a1 a2 a3 a4 a5 a6 a7
  obtain ⟨a0, a1, a2, a3, a4, a5, a6, a7⟩ := HX1.out.cells
  go_wp2_with fail
  refine (HA1.out _ HV1.out).mono ?_
  rintro r w2 ⟨rfl, hb⟩
  have HB2 := Lib.hid (bchain HB1.out hb)
  have HX2 := Lib.hid (HX1.out.below hb)
  have HV2 := Lib.hid (HV1.out.below hb)
  clear hb
  obtain ⟨w3, hw3, hb, rb⟩ := acc_box (⟨fn, fa, fs⟩ : A) w2
  obtain ⟨q7, hq⟩ : ∃ q, w2.heap.size = q := ⟨_, rfl⟩
  rw [hq] at rb
  have Hq7 := Lib.hid hq
  have HG3 := Lib.hid rb
  have HLq7 : Hid (w.heap.size ≤ q7) := Lib.hid (by rw [← hq]; exact HB2.out.size)
  have HB3 := Lib.hid (bchain HB2.out hb)
  have HX3 := Lib.hid (HX2.out.below hb)
  have HV3 := Lib.hid (HV2.out.below hb)
  clear hb
  clear rb hq
  clear a0 a1 a2 a3 a4 a5 a6 a7
  go_upto_region 5 with fail
  try rw [hw3]
  try rw [Hq7.out]
  clear hw3
  by_cases he : e = 0
  case neg =>
    have s1 : (e != 0) = true := by rw [bne_iff_ne]; exact he
    have h3 := HN3.out he
    subst h3
    have HE := Lib.hid (HD3.out (Or.inl he))
    go_wp2
    go_ret2
    exact eDo_bad HE.out (by decide) HB3.out
  subst he
  obtain ⟨nm, nb, na, ns⟩ := HNM.out rfl
  have HNF := Lib.hid nm
  have HWA := Lib.hid na
  have HWS := Lib.hid ns
  clear nm nb na ns
  obtain ⟨gg0, gg1, gg2⟩ := HG3.out.cells
  dsimp only at gg0 gg1 gg2
  obtain ⟨w4, hw4, hb, rb⟩ := acc_box (⟨fn, fa, fs⟩ : A) w3
  obtain ⟨q9, hq⟩ : ∃ q, w3.heap.size = q := ⟨_, rfl⟩
  rw [hq] at rb
  have Hq9 := Lib.hid hq
  have HU4 := Lib.hid rb
  have HLq9 : Hid (w.heap.size ≤ q9) := Lib.hid (by rw [← hq]; exact HB3.out.size)
  have HB4 := Lib.hid (bchain HB3.out hb)
  have HX4 := Lib.hid (HX3.out.below hb)
  have HV4 := Lib.hid (HV3.out.below hb)
  have HG4 := Lib.hid (HG3.out.below hb)
  clear hb
  clear rb hq
  have HNE : Hid (q7 ≠ q9) := Lib.hid (by have := Hq9.out; have := lt_of_heap HG3.out; omega)
  have HNX : Hid (q0 ≠ q9) := Lib.hid (by have := Hq9.out; have := lt_of_heap HX3.out; omega)
  go_upto_region 8 with fail
  try rw [hw4]
  try rw [Hq9.out]
  clear hw4 gg0 gg1 gg2
  have x0 := HX4.out.cells.1
  have x3 := HX4.out.cells.2.2.2.1
  have r1 : (x.kind == 1) = true := beq_iff_eq.2 HK.out
  obtain ⟨⟨⟨tn, ta, ts⟩, e2⟩, hte⟩ : ∃ p, Exc.acc S x.dst = p := ⟨_, rfl⟩
  rw [hte] at HA2 HNT HT3 HD3 HD160 HDL
  dsimp only at HA2 HNT HT3 HD3 HD160 HDL
  unfold accval ptr at HA2
  dsimp only at HA2
  clear hte
  go_wp2_with fail
  refine (HA2.out _ HV4.out).mono ?_
  rintro r w5 ⟨rfl, hb⟩
  have HB5 := Lib.hid (bchain HB4.out hb)
  have HX5 := Lib.hid (HX4.out.below hb)
  have HV5 := Lib.hid (HV4.out.below hb)
  have HG5 := Lib.hid (HG4.out.below hb)
  have HU5 := Lib.hid (HU4.out.below hb)
  clear hb
  clear x0 x3
  obtain ⟨u0, u1, u2⟩ := HU5.out.cells
  have v0 := HU5.out.free 0
  have v1 := HU5.out.free 1
  have v2 := HU5.out.free 2
  dsimp only at u0 u1 u2
  go_upto_region 10 with fail
  obtain ⟨w6, hw6⟩ : ∃ w6, putAcc w5 q9 (⟨tn, ta, ts⟩ : A) = w6 := ⟨_, rfl⟩
  have ho := putAcc_only w5 q9 (⟨tn, ta, ts⟩ : A)
  have HU6 := Lib.hid (HU5.out.put (⟨tn, ta, ts⟩ : A))
  rw [hw6] at ho HU6
  have HB6 := Lib.hid (HB5.out.trans (ho.below HLq9.out HB5.out.size))
  have HX6 : Hid (TxAt w6 q0 x (.slice Az x.mem.length capz)) := Lib.hid ((ho.block q0 (lt_of_heap HX5.out) HNX.out).trans HX5.out)
  have HG6 : Hid (AccAt w6 q7 (⟨fn, fa, fs⟩ : A)) := Lib.hid ((ho.block q7 (lt_of_heap HG5.out) HNE.out).trans HG5.out)
  have HV6 := Lib.hid (HV5.out.acc ho HU5.out)
  unfold putAcc at hw6
  dsimp only at hw6
  try rw [hw6]
  clear hw6 ho u0 u1 u2 v0 v1 v2
  by_cases he : e2 = 0
  case neg =>
    have s1 : (e2 != 0) = true := by rw [bne_iff_ne]; exact he
    have h3 := HT3.out he
    subst h3
    have HE := Lib.hid (HD3.out (Or.inr ⟨HK.out, he⟩))
    go_wp2
    go_ret2
    exact eDo_bad HE.out (by decide) HB6.out
  subst he
  obtain ⟨nm, nb, na, ns⟩ := HNT.out rfl
  have HNG := Lib.hid nm
  have HWTA := Lib.hid na
  have HWTS := Lib.hid ns
  clear nm nb na ns
  have x2 := HX6.out.cells.2.2.1
  have g2 := HG6.out.cells.2.2
  dsimp only at g2
  by_cases hq : x.seq = fs
  case neg =>
    have s2 : (x.seq != fs) = true := by rw [bne_iff_ne]; exact hq
    have HE := Lib.hid (HD160.out (by first | rfl | trivial) (fun _ => by first | rfl | trivial) (Or.inl hq))
    clear hq
    go_wp2
    go_ret2
    exact eDo_bad HE.out (by decide) HB6.out
  have s2 : (x.seq != fs) = false := by rw [hq]; exact bne_self_eq_false _
  have HQS := Lib.hid hq
  clear hq
  by_cases hq : x.seq = 1099511627776
  · have s3 : (x.seq == 1099511627776) = true := beq_iff_eq.2 hq
    have HE := Lib.hid (HD160.out (by first | rfl | trivial) (fun _ => by first | rfl | trivial) (Or.inr hq))
    clear hq
    go_wp2
    go_ret2
    exact eDo_bad HE.out (by decide) HB6.out
  have s3 : (x.seq == 1099511627776) = false := beq_eq_false_iff_ne.2 hq
  have HQM := Lib.hid hq
  have HDZ := Lib.hid (HDL.out (by first | rfl | trivial) (fun _ => by first | rfl | trivial) HQS.out.symm hq)
  clear hq
  have HAC := Lib.hid (eact_any (g := g) S x (.slice Az x.mem.length capz) (⟨fn, fa, fs⟩ : A) (⟨tn, ta, ts⟩ : A) w6 HV6.out (HT.out.below HB6.out) (HMM.out _ HB6.out) HF.out HNF.out HWA.out HWS.out (by have h1 := HQS.out; have h2 := HQM.out; have h9 : Exc.most = 1099511627776 := rfl; dsimp only; omega) (fun _ => ⟨HNG.out, HWTA.out, HWTS.out, HTD.out⟩))
  dsimp only at HAC
  have hz2 := HDZ.out
  rw [HQS.out] at hz2
  rw [← hz2] at HAC
  clear hz2
  unfold xval accval ptr at HAC
  dsimp only at HAC
  obtain ⟨a0, a1, a2, a3, a4, a5, a6, a7⟩ := HX6.out.cells
  obtain ⟨g0, g1, g3⟩ := HG6.out.cells
  obtain ⟨u0, u1, u2⟩ := HU6.out.cells
  dsimp only at g0 g1 g3 u0 u1 u2
  clear g3
  go_wp2_with fail
  refine HAC.out.mono ?_
  rintro r wl hl
  have HZ := Lib.hid (hl.from HB6.out)
  obtain ⟨zl, rfl, -, -, -⟩ := hl
  clear HAC
  go_wp2
  go_ret2
  exact HZ.out
theorem edo_any {g : Nat} (S : St) (x : X) (z : Value) (w : World) (ht : TrAt w g S) (hT : Tab w) (hz : Mems w z x.mem) :
    Calls Tryz.prog 17 #[ptr g, xval x z] w (TEnd (Exc.doP S x).2 (Exc.doP S x).1 w) := by
  cases hf : Txn.fine x with
  | false => exact edo_bad S x z w hz hf
  | true =>
    by_cases hk : x.kind = 1
    · exact edo_1 S x z w ht hT hz hf hk
    · exact edo_o S x z w ht hT hz hf hk
end Go.Proofs.YtlckcfpdiigjiaaGreatDoor
namespace Go.Proofs.YtlckcfpdiigjiaaGreatDoor
open Go.RowKit
open Go.Proofs.YtlckcfpdiigjiaaGreatDoor.Pw (M)

theorem app_mem {w : World} {B : Nat} {z : Value} {L : List M} (m : M) (h : OwnM w B z L) (hl : L.length ≤ 100000) (hB : B ≤ w.heap.size) :
    ∃ g c w', (Builtin.append_ #[23, 23] 23 #[z, .slice (some ⟨w.heap.size, 0, none⟩) 1 1]).run Tryz.prog (w.alloc (.cells #[.string ⟨m.name.toArray⟩, .int .i64 m.power] 71)) = .ok (.slice (some ⟨g, 0, none⟩) (L.length + 1) c) w' ∧
      OwnM w' B (.slice (some ⟨g, 0, none⟩) (L.length + 1) c) (L ++ [m]) ∧ Below B w w' := by
  have hv : Mems (w.alloc (.cells #[.string ⟨m.name.toArray⟩, .int .i64 m.power] 71)) (.slice (some ⟨w.heap.size, 0, none⟩) 1 1) [m] :=
    OwnM.mems (B := w.heap.size) ⟨rfl, Or.inr ⟨w.heap.size, 1, _, rfl, Nat.le_refl _, heap_alloc_new w _, by simp, by simp [maxLen], rfl, rfl⟩⟩
  have hs : (w.alloc (.cells #[.string ⟨m.name.toArray⟩, .int .i64 m.power] 71)).ownsRow B 71 2 z L.length (mrows L) := World.ownsRow.alloc h _
  obtain ⟨v', w', h1, h2, h3, _⟩ := append_mems hv hs (by simp; omega) (by simp; omega)
  have ho : OwnM w' B v' (L ++ [m]) := by
    unfold OwnM
    have e : mrows (L ++ [m]) = mrows L ++ mrows [m] := by simp [mrows]
    rw [List.length_append, e]
    exact h2
  obtain ⟨g, c, e, _, _⟩ := World.ownsRow.form h2 (by simp)
  subst e
  exact ⟨g, c, w', h1, ho, ((Below.refl B w).alloc hB _).grown h3 (by simp; omega) (fun k hk => (World.ownsRow.lt h k hk).1)⟩
def CopyPost (L : List M) (w : World) (e : Ending) (w' : World) : Prop := ∃ z, e = .returned z ∧ OwnM w' w.heap.size z L ∧ Below w.heap.size w w'
set_option maxRecDepth 100000 in
set_option maxHeartbeats 4000000 in
theorem ecopy_any (L : List M) (v : Value) (w : World) (hv : Mems w v L) (hl : L.length ≤ 1000) (hn : ∀ m ∈ L, m.name.length ≤ 1000000) :
    Calls Tryz.prog 32 #[v] w (CopyPost L w) := by
  have HV := Lib.hid hv
  have HN := Lib.hid hn
  have HL := Lib.hid hl
  obtain ⟨A, cap, rfl⟩ := hv.form
  clear hv hn hl
  go_enter Tryz.func32, Tryz.ntmps32
  go_wp2
  go_loopw [3, 8] (fun zv iv wr => ∃ (k : Nat) (z : Value), z = zv ∧ iv = .int .i64 k ∧ k ≤ L.length ∧ OwnM wr w.heap.size z (L.take k) ∧ Below w.heap.size w wr) (fun _ iv _ => L.length - (intOf iv).toNat)
  case atStart => exact ⟨0, _, rfl, rfl, Nat.zero_le _, OwnM.nil _ _, Below.refl _ _⟩
  case round =>
    obtain ⟨k, z, rfl, rfl, hk, ho, hb⟩ := hrel
    have HO := Lib.hid ho
    have HB := Lib.hid hb
    clear ho hb
    by_cases hlt : k < L.length
    · have h1 : (k : Int) < (L.length : Int) := by omega
      have h0 : (0 : Int) ≤ (k : Int) := by omega
      have hk9 : (k : Int) ≤ 1000 := by have := HL.out; omega
      obtain ⟨b, o, rfl, n0, n1⟩ := HV.out.at HB.out k hlt
      have HCL := Lib.hid (fun w' => dclone_any L[k].name w' (by have := HN.out L[k] (List.getElem_mem hlt); omega))
      have HTK : Hid (L.take (k + 1) = L.take k ++ [L[k]]) := Lib.hid (List.take_succ_eq_append_getElem hlt)
      obtain ⟨T, hT⟩ : ∃ T, L.take k = T := ⟨_, rfl⟩
      have HTL : Hid (T.length = k) := Lib.hid (by rw [← hT, List.length_take]; omega)
      obtain ⟨m, hm⟩ : ∃ m, L[k] = m := ⟨_, rfl⟩
      rw [hm] at n0 n1 HCL HTK
      rw [hT] at HTK HO
      clear hT hm
      obtain ⟨w1, hw1⟩ : ∃ w1, wr.alloc (.cells #[.string ⟨m.name.toArray⟩, .int .i64 m.power] 71) = w1 := ⟨_, rfl⟩
      have hb1 : Below wr.heap.size wr w1 := by rw [← hw1]; exact (Below.refl _ wr).alloc (Nat.le_refl _) _
      have hr1 : w1.heap[wr.heap.size]? = some (.cells #[.string ⟨m.name.toArray⟩, .int .i64 m.power] 71 (0, 0)) := by rw [← hw1]; exact heap_alloc_new wr _
      obtain ⟨q, hq⟩ : ∃ q, wr.heap.size = q := ⟨_, rfl⟩
      rw [hq] at hr1
      have HR1 := Lib.hid hr1
      have HQ := Lib.hid hq
      have HB1 := Lib.hid (bchain HB.out hb1)
      have HO1 := Lib.hid (HO.out.below hb1)
      have HW1 := Lib.hid hw1
      clear hb1 hr1 hw1 hq
      go_upto_region 5 with fail
      try rw [HW1.out]
      try rw [HQ.out]
      have HCC : Hid (∀ w', Below w1.heap.size w1 w' → w'.cell? ⟨q, 0, none⟩ = some (.string ⟨m.name.toArray⟩) ∧ w'.cell? ⟨q, 1, none⟩ = some (.int .i64 m.power)) := Lib.hid (fun w' h => by
        have h2 := (h.block q (lt_of_heap HR1.out)).trans HR1.out
        exact ⟨by rw [cell_of_row _ _ 0 _ _ _ h2]; rfl, by rw [cell_of_row _ _ 1 _ _ _ h2]; rfl⟩)
      have HAPP : Hid (∀ w6, Below w1.heap.size w1 w6 → ∃ g7 c7 w7, (Builtin.append_ #[23, 23] 23 #[z, .slice (some ⟨w6.heap.size, 0, none⟩) 1 1]).run Tryz.prog (w6.alloc (.cells #[.string ⟨m.name.toArray⟩, .int .i64 m.power] 71)) = .ok (.slice (some ⟨g7, 0, none⟩) (k + 1) c7) w7 ∧
          w6.cell? ⟨q, 0, none⟩ = some (.string ⟨m.name.toArray⟩) ∧ w6.cell? ⟨q, 1, none⟩ = some (.int .i64 m.power) ∧ OwnM w7 w.heap.size (.slice (some ⟨g7, 0, none⟩) (k + 1) c7) (T ++ [m]) ∧ Below w.heap.size w w7) := Lib.hid (fun w6 h6 => by
        obtain ⟨g7, c7, w7, ha, ho7, hb7⟩ := app_mem m (HO1.out.below h6) (by have := HTL.out; omega) (bchain HB1.out h6).size
        rw [HTL.out] at ha ho7
        obtain ⟨q1, q2⟩ := HCC.out w6 h6
        exact ⟨g7, c7, w7, ha, q1, q2, ho7, (bchain HB1.out h6).trans hb7⟩)
      have HCLW : Hid (∀ w', Below w1.heap.size w1 w' → Calls Tryz.prog 31 #[.string ⟨m.name.toArray⟩] w' fun e w'' => e = .returned (.string ⟨m.name.toArray⟩) ∧ Below w1.heap.size w1 w'') := Lib.hid (fun w' h => (HCL.out w').mono fun e w'' ⟨p, r⟩ => ⟨p, bchain h r⟩)
      have BD : Below w1.heap.size w1 w1.drew := (Below.refl _ _).drew
      obtain ⟨c0, c1⟩ := HCC.out _ BD
      clear n0 n1
      go_region_law (first | (refine step_call rfl 31 (.tmp 14) _ rfl (fun _ _ => rfl) _ (HCLW.out _ BD) ?_; rintro e w6 ⟨rfl, hb6⟩; refine ⟨_, rfl, ?_⟩; obtain ⟨g7, c7, w7, happ, k0, k1, ho7, hB7⟩ := HAPP.out _ hb6) | (refine step_append_run rfl (.tmp 12) (.tmp 19) _ rfl _ _ _ ?_ ?_ happ ?_; (first | rfl | (focus (simp [Act.eval]; done)) | fail); (first | rfl | (focus (simp [Act.eval]; done)) | fail)))
      all_goals
        have HO7 := Lib.hid ho7
        have HB7 := Lib.hid hB7
        clear ho7 hB7 happ
        go_wp2
        go_roundw
        case rel => exact ⟨k + 1, _, rfl, by go_num, by omega, by rw [HTK.out]; exact HO7.out, HB7.out⟩
        case measure => simp [intOf]; omega
    · have h1 : ¬ ((k : Int) < (L.length : Int)) := by omega
      obtain rfl : k = L.length := by omega
      rw [List.take_length] at HO
      go_wp2
      go_ret
      exact ⟨z, rfl, HO.out, HB.out⟩
end Go.Proofs.YtlckcfpdiigjiaaGreatDoor
namespace Go.Proofs.YtlckcfpdiigjiaaGreatDoor
open Go.RowKit
open Sto (T St)
open Go.Proofs.YtlckcfpdiigjiaaGreatDoor.Exc (Rc)

/-- A receipt's cells; a row of receipts. -/
def rccl (r : Rc) : List Value := [.int .i64 r.code, .string ⟨r.frm.toArray⟩, .int .i64 r.seq]
theorem rccl_len (r : Rc) : (rccl r).length = 3 := rfl
theorem rccl_one (r : Rc) : ∀ u ∈ rccl r, u.oneCell' = true := by intro u hu; simp only [rccl, List.mem_cons, List.not_mem_nil, or_false] at hu; rcases hu with rfl | rfl | rfl <;> rfl
def RcAt (w : World) (v : Value) (L : List Rc) : Prop := RowsAt 78 3 rccl w v L
def RcIn (w : World) (v : Value) (L : List Rc) : Prop := RowsIn 3 rccl w v L
theorem RcAt.inn {w : World} {v : Value} {L : List Rc} (h : RcAt w v L) : RcIn w v L := RowsAt.inn h
theorem RcIn.at {w : World} {A : Option Addr} {n cap : Nat} {L : List Rc} (h : RcIn w (.slice A n cap) L) (k : Nat) (hk : k < L.length) :
    ∃ b o, A = some ⟨b, o, none⟩ ∧ w.cell? ⟨b, o + k * 3, none⟩ = some (.int .i64 L[k].code) ∧ w.cell? ⟨b, o + k * 3 + 1, none⟩ = some (.string ⟨L[k].frm.toArray⟩) ∧ w.cell? ⟨b, o + k * 3 + 2, none⟩ = some (.int .i64 L[k].seq) := by
  obtain ⟨b, o, rfl, hc⟩ := RowsIn.at h k hk
  exact ⟨b, o, rfl, hc 0 _ rfl, hc 1 _ rfl, hc 2 _ rfl⟩
theorem take_snoc_rc {L K : List Rc} {k : Nat} (h1 : k < L.length) (h2 : k < K.length) : L.take (k + 1) = K.take (k + 1) ↔ L.take k = K.take k ∧ L[k] = K[k] := by
  rw [List.take_succ_eq_append_getElem h1, List.take_succ_eq_append_getElem h2]
  constructor
  · intro h
    have := List.append_inj' h rfl
    exact ⟨this.1, by simpa using this.2⟩
  · rintro ⟨a, b⟩
    rw [a, b]

set_option maxRecDepth 8000 in
set_option maxHeartbeats 4000000 in
theorem sameRc_in (L K : List Rc) (u v : Value) (w : World) (hu : RcIn w u L) (hv : RcIn w v K) (hl : L.length ≤ 1000000) (hk : K.length ≤ 1000000) :
    Calls Tryz.prog 11 #[u, v] w fun x w' => x = .returned (.bool (decide (L = K))) ∧ Below w.heap.size w w' := by
  have HU := Lib.hid hu
  have HV := Lib.hid hv
  obtain ⟨A, cap, rfl, -, -⟩ := hu.form
  obtain ⟨B, cap2, rfl, -, -⟩ := hv.form
  clear hu hv
  by_cases he : L.length = K.length
  · have h0 : ((L.length : Int) == (K.length : Int)) = true := by rw [beq_iff_eq]; omega
    have HE := Lib.hid he
    go_enter Tryz.func11, Tryz.ntmps11
    go_wp2
    go_loopw [5, 6] (fun s i wr => ∃ k : Nat, k ≤ L.length ∧ s = .bool (decide (L.take k = K.take k)) ∧ i = .int .i64 k ∧ Below w.heap.size w wr ∧ (L.take k ≠ K.take k → L ≠ K)) (fun _ i _ => L.length - (intOf i).toNat)
    case atStart => exact ⟨0, Nat.zero_le _, by simp, rfl, Below.refl _ _, by simp⟩
    case round =>
      obtain ⟨k, hk, rfl, rfl, hbel, hno⟩ := hrel
      have HN := Lib.hid hno
      have HB := Lib.hid hbel
      clear hno hbel
      rcases htk : decide (L.take k = K.take k) with _ | _
      · have HT := Lib.hid htk
        clear htk
        go_wp2
        go_ret
        refine ⟨?_, HB.out⟩
        have h := HN.out (of_decide_eq_false HT.out)
        rw [decide_eq_false h]
        rfl
      · have HT := Lib.hid htk
        clear htk
        by_cases hlt : k < L.length
        · have h1 : (k : Int) < (L.length : Int) := by omega
          have h2 : (k : Int) < (K.length : Int) := by omega
          have h3 : (0 : Int) ≤ (k : Int) := by omega
          obtain ⟨b, o, rfl, n0, n1, n2⟩ := RcIn.at (RowsIn.below HU.out HB.out) k hlt
          obtain ⟨b2, o2, rfl, m0, m1, m2⟩ := RcIn.at (RowsIn.below HV.out HB.out) k (by omega)
          have HSN := Lib.hid (take_snoc_rc hlt (show k < K.length by omega))
          have HNE : Hid (∀ h : k < K.length, L[k] ≠ K[k] → L ≠ K) := Lib.hid (fun _ h e => by subst e; exact h rfl)
          obtain ⟨⟨x, p, s⟩, hx⟩ : ∃ m, L[k] = m := ⟨_, rfl⟩
          obtain ⟨⟨y, q, t⟩, hy⟩ : ∃ m, K[k]'(by omega) = m := ⟨_, rfl⟩
          rw [hx] at n0 n1 n2
          rw [hy] at m0 m1 m2
          rw [hx, hy] at HSN
          rw [hx] at HNE
          have HNE2 : Hid ((⟨x, p, s⟩ : Rc) ≠ ⟨y, q, t⟩ → L ≠ K) := Lib.hid (by have := HNE.out (by omega); rwa [hy] at this)
          dsimp only at n0 n1 n2 m0 m1 m2
          clear hx hy HNE
          by_cases exy : x = y
          case neg =>
            have e1 : (x == y) = false := by rw [beq_eq_false_iff_ne]; exact exy
            have HD : Hid (L ≠ K) := Lib.hid (HNE2.out (fun e => exy (by injection e)))
            have HR : Hid (decide (L.take (k + 1) = K.take (k + 1)) = false) := Lib.hid (decide_eq_false (fun h => exy (by injection (HSN.out.1 h).2)))
            clear exy
            go_wp2
            go_quiet (fail)
            go_wp2
            go_roundw
            case rel => exact ⟨k + 1, by omega, by rw [HR.out], by go_num, bel_drewN HB.out _, fun _ => HD.out⟩
            case measure => simp [intOf]; omega
          have e1 : (x == y) = true := by rw [beq_iff_eq]; exact exy
          have HEXY := Lib.hid exy
          clear exy
          by_cases epq : p = q
          case neg =>
            have e2 : (p == q) = false := by rw [beq_eq_false_iff_ne]; exact epq
            have HD : Hid (L ≠ K) := Lib.hid (HNE2.out (fun e => epq (by injection e)))
            have HR : Hid (decide (L.take (k + 1) = K.take (k + 1)) = false) := Lib.hid (decide_eq_false (fun h => epq (by injection (HSN.out.1 h).2)))
            clear epq
            go_wp2
            go_quiet (fail)
            go_wp2
            go_roundw
            case rel => exact ⟨k + 1, by omega, by rw [HR.out], by go_num, bel_drewN HB.out _, fun _ => HD.out⟩
            case measure => simp [intOf]; omega
          have e2 : (p == q) = true := by rw [beq_iff_eq]; exact epq
          have HEPQ := Lib.hid epq
          clear epq
          by_cases est : s = t
          case neg =>
            have e3 : (s == t) = false := by rw [beq_eq_false_iff_ne]; exact est
            have HD : Hid (L ≠ K) := Lib.hid (HNE2.out (fun e => est (by injection e)))
            have HR : Hid (decide (L.take (k + 1) = K.take (k + 1)) = false) := Lib.hid (decide_eq_false (fun h => est (by injection (HSN.out.1 h).2)))
            clear est
            go_wp2
            go_quiet (fail)
            go_wp2
            go_roundw
            case rel => exact ⟨k + 1, by omega, by rw [HR.out], by go_num, bel_drewN HB.out _, fun _ => HD.out⟩
            case measure => simp [intOf]; omega
          have e3 : (s == t) = true := by rw [beq_iff_eq]; exact est
          have HEST := Lib.hid est
          clear est
          have HR : Hid (decide (L.take (k + 1) = K.take (k + 1)) = true) := Lib.hid (decide_eq_true (HSN.out.2 ⟨of_decide_eq_true HT.out, by rw [HEXY.out, HEPQ.out, HEST.out]⟩))
          go_wp2
          go_quiet (fail)
          go_wp2
          go_roundw
          case rel => exact ⟨k + 1, by omega, by rw [HR.out], by go_num, bel_drewN HB.out _, fun h => absurd (of_decide_eq_true HR.out) h⟩
          case measure => simp [intOf]; omega
        · have h1 : ¬ ((k : Int) < (L.length : Int)) := by omega
          have HR : Hid (decide (L = K) = true) := Lib.hid (decide_eq_true (by
            have := of_decide_eq_true HT.out
            rwa [List.take_of_length_le (by omega), List.take_of_length_le (by omega)] at this))
          go_wp2
          go_ret
          exact ⟨by rw [HR.out]; rfl, HB.out⟩
  · have h0 : ((L.length : Int) == (K.length : Int)) = false := by rw [beq_eq_false_iff_ne]; omega
    have HD : Hid (decide (L = K) = false) := Lib.hid (decide_eq_false (fun e => he (by rw [e])))
    clear he
    go_enter Tryz.func11, Tryz.ntmps11
    go_wp2
    go_loopw [5, 6] (fun s i wr => s = .bool false ∧ i = .int .i64 0 ∧ Below w.heap.size w wr) (fun _ _ _ => 0)
    case atStart => exact ⟨rfl, rfl, Below.refl _ _⟩
    case round =>
      obtain ⟨rfl, rfl, hb⟩ := hrel
      go_wp2
      go_ret
      exact ⟨by rw [HD.out]; rfl, hb⟩
end Go.Proofs.YtlckcfpdiigjiaaGreatDoor
namespace Go.Proofs.YtlckcfpdiigjiaaGreatDoor
open Go.RowKit
open Sto (T St)
open Go.Proofs.YtlckcfpdiigjiaaGreatDoor.Pw (M)
open Go.Proofs.YtlckcfpdiigjiaaGreatDoor.Txn (X)
open Go.Proofs.YtlckcfpdiigjiaaGreatDoor.Exc (Rc Al)

def OwnR (w : World) (B : Nat) (z : Value) (L : List Rc) : Prop := w.ownsRow B 78 3 z L.length (rowsL rccl L)
theorem OwnR.nil (w : World) (B : Nat) : OwnR w B (.slice none 0 0) [] := ⟨rfl, Or.inl ⟨rfl, rfl⟩⟩
theorem OwnR.below {w w' : World} {B : Nat} {s : Value} {L : List Rc} (h : OwnR w B s L) (hb : Below w.heap.size w w') : OwnR w' B s L :=
  row_out (G := fun _ => False) h (Out.of hb) (fun _ _ _ _ hf => hf.elim)
theorem OwnR.rc {w : World} {B : Nat} {s : Value} {L : List Rc} (h : OwnR w B s L) : RcAt w s L := RowsAt.own rccl_len h
set_option maxRecDepth 100000 in
theorem infoRcp : (Tryz.prog.info? 78).map (fun i => (i.zero, i.size, i.bytes)) = some (some (.agg #[.int .i64 0, .string ⟨#[]⟩, .int .i64 0]), 3, 32) := by kernel_rfl
theorem own_typE {w : World} {B : Nat} {e T : TypeId} {z : Nat} {s : Value} {n : Nat} {xs : List Value} (h : w.ownsRow B e z s n xs) (hT : e ≠ T) : ∀ k cs f, s.ownBlock = some k → w.heap[k]? ≠ some (.cells cs T f) := by
  intro k cs f hk
  rcases h.2 with ⟨hn, _⟩ | ⟨j, cap, cur, hv, hb, hj, hr⟩
  · rw [hn] at hk; cases hk
  · rw [hv] at hk
    cases hk
    intro e2
    rw [hj] at e2
    injection e2 with e2
    injection e2 with _ e3 _
    exact hT e3
theorem OwnM.outE {F : Nat → Prop} {w w' : World} {B : Nat} {s : Value} {L : List M} (h : OwnM w B s L) (ho : Out F w w') (hF : ∀ k cs fr, F k → w.heap[k]? ≠ some (.cells cs 71 fr)) : OwnM w' B s L := by
  refine ⟨h.1, ?_⟩
  rcases h.2 with hn | ⟨k, cap, cur, hv, hB, hk, hr⟩
  · exact Or.inl hn
  · exact Or.inr ⟨k, cap, cur, hv, hB, ho.heap hk (fun hf => hF k _ _ hf hk), hr⟩
theorem OwnM.fromE {w : World} {B B' : Nat} {s : Value} {L : List M} (h : OwnM w B s L) (hb : B' ≤ B) : OwnM w B' s L := by
  refine ⟨h.1, ?_⟩
  rcases h.2 with hn | ⟨k, cap, cur, hv, hB, hk, hr⟩
  · exact Or.inl hn
  · exact Or.inr ⟨k, cap, cur, hv, Nat.le_trans hb hB, hk, hr⟩
theorem TrAt.outE {F : Nat → Prop} {w w' : World} {g : Nat} {S : St} (h : TrAt w g S) (ho : Out F w w') (hb : ∀ k cs f, F k → w.heap[k]? ≠ some (.cells cs 87 f)) (hc : ∀ k cs f, F k → w.heap[k]? ≠ some (.cells cs 83 f)) : TrAt w' g S := by
  obtain ⟨top, t, h1, h2, h3⟩ := h
  exact ⟨top, t, ho.heap h1 (fun e => hc g _ _ e h1), h2.change (fun _ _ _ h => h) fun g k p x K s s2 _ hr => ho.heap hr (fun e => hb g _ _ e hr), h3⟩
theorem app_rcO {w : World} {B : Nat} {z : Value} {L : List Rc} (r : Rc) (h : OwnR w B z L) (hl : L.length ≤ 100000) (hB : B ≤ w.heap.size) :
    ∃ g c w', (Builtin.append_ #[33, 33] 33 #[z, .slice (some ⟨w.heap.size, 0, none⟩) 1 1]).run Tryz.prog (w.alloc (.cells #[.int .i64 r.code, .string ⟨r.frm.toArray⟩, .int .i64 r.seq] 78)) = .ok (.slice (some ⟨g, 0, none⟩) (L.length + 1) c) w' ∧
      OwnR w' B (.slice (some ⟨g, 0, none⟩) (L.length + 1) c) (L ++ [r]) ∧ Below B w w' ∧ Out (fun j => z.ownBlock = some j) w w' := by
  have hv : RcAt (w.alloc (.cells #[.int .i64 r.code, .string ⟨r.frm.toArray⟩, .int .i64 r.seq] 78)) (.slice (some ⟨w.heap.size, 0, none⟩) 1 1) [r] :=
    OwnR.rc (B := w.heap.size) ⟨rfl, Or.inr ⟨w.heap.size, 1, _, rfl, Nat.le_refl _, heap_alloc_new w _, by simp, by simp [maxLen], rfl, rfl⟩⟩
  have hs : (w.alloc (.cells #[.int .i64 r.code, .string ⟨r.frm.toArray⟩, .int .i64 r.seq] 78)).ownsRow B 78 3 z L.length (rowsL rccl L) := World.ownsRow.alloc h _
  obtain ⟨i0, hi, hz0, hz1, hz2⟩ := info_parts infoRcp
  obtain ⟨v', w', h1, h2, h3, _⟩ := append_rows 33 78 i0 _ 32 Tryz.underlying33 Tryz.sizeOf78 hi hz0 hz1 hz2 rfl (by decide) (by decide) rccl_len rccl_one hv hs (by simp; omega) (by simp; omega)
  have ho : OwnR w' B v' (L ++ [r]) := by
    unfold OwnR
    rw [List.length_append, rowsL_append]
    exact h2
  obtain ⟨g, c, e, _, _⟩ := World.ownsRow.form h2 (by simp)
  subst e
  exact ⟨g, c, w', h1, ho, ((Below.refl B w).alloc hB _).grown h3 (by simp; omega) (fun k hk => (World.ownsRow.lt h k hk).1), (Out.of ((Below.refl _ w).alloc (Nat.le_refl _) _)).trans (Out.grown h3 (fun j e => e))⟩
theorem results_tmp4 {fn : Func} {a b c d : Tmp} (h : fn.results = #[.tmp a, .tmp b, .tmp c, .tmp d]) (tmps : Array Value) (P : Program) (w : World) :
    (results fn tmps).run P w = .ok (.tuple #[tmps.getD a undef, tmps.getD b undef, tmps.getD c undef, tmps.getD d undef]) w := by
  simp [results, h]
/-- What All answers. -/
def EAllPost (S : St) (L : List X) (w : World) (e : Ending) (w' : World) : Prop := ∃ zs zr zn, e = .returned (.tuple #[zs, zr, zn, .int .i64 (Exc.allC L)]) ∧
  (Exc.allC L = 0 → ∃ g, zs = ptr g ∧ TrAt w' g (Exc.runA ⟨S, [], []⟩ L).st ∧ OwnR w' w.heap.size zr (Exc.runA ⟨S, [], []⟩ L).rc ∧ OwnM w' w.heap.size zn (Exc.runA ⟨S, [], []⟩ L).nx) ∧
  (Exc.allC L ≠ 0 → zs = nilp ∧ zr = .slice none 0 0 ∧ zn = .slice none 0 0) ∧ Below w.heap.size w w'
theorem eAll_bad {S : St} {L : List X} {w w' : World} {c : Int} (h : Exc.allC L = c) (hc : c ≠ 0) (hb : Below w.heap.size w w') : EAllPost S L w (.returned (.tuple #[.pointer none, .slice none 0 0, .slice none 0 0, .int .i64 c])) w' :=
  ⟨_, _, _, by rw [h]; rfl, fun e => absurd (h.symm.trans e) hc, fun _ => ⟨rfl, rfl, rfl⟩, hb⟩
theorem Exc.allE_long {L : List X} (h : 8 < L.length) : Exc.allC L = 2 := if_pos h
theorem Exc.allE_ok {L : List X} (h : L.length ≤ 8) (hf : Txn.fines L = true) : Exc.allC L = 0 := by unfold Exc.allC; rw [if_neg (by omega), if_neg (by rw [hf]; decide)]
theorem Exc.allE_bad {L : List X} {k : Nat} (h : L.length ≤ 8) (hk : k < L.length) (hf : Txn.fine L[k] = false) : Exc.allC L = 150 := by
  unfold Exc.allC
  rw [if_neg (by omega), if_pos]
  rw [← Bool.not_eq_true]
  intro hh
  have := List.all_eq_true.1 hh L[k] (List.getElem_mem hk)
  rw [hf] at this
  cases this
theorem Exc.fines_take1 {L : List X} {k : Nat} (hk : k < L.length) (h : Txn.fines (L.take k) = true) : Txn.fines (L.take (k + 1)) = Txn.fine L[k] := by
  rw [List.take_succ_eq_append_getElem hk]
  unfold Txn.fines at h ⊢
  rw [List.all_append, h]
  simp
theorem eAll_good {S : St} {L : List X} {w w' : World} {g : Nat} {zr zn : Value} (h : Exc.allC L = 0) (h1 : TrAt w' g (Exc.runA ⟨S, [], []⟩ L).st) (h2 : OwnR w' w.heap.size zr (Exc.runA ⟨S, [], []⟩ L).rc) (h3 : OwnM w' w.heap.size zn (Exc.runA ⟨S, [], []⟩ L).nx) (hb : Below w.heap.size w w') : EAllPost S L w (.returned (.tuple #[.pointer (some ⟨g, 0, none⟩), zr, zn, .int .i64 0])) w' :=
  ⟨_, _, _, by rw [h]; rfl, fun _ => ⟨g, rfl, h1, h2, h3⟩, fun e => absurd h e, hb⟩
set_option maxRecDepth 100000 in
set_option maxHeartbeats 8000000 in
theorem eall_any {g : Nat} (S : St) (u : Value) (L : List X) (w : World) (ht : TrAt w g S) (hT : Tab w) (hu : Txs w u L) :
    Calls Tryz.prog 9 #[ptr g, u] w (EAllPost S L w) := by
  have HV := Lib.hid ht
  have HU := Lib.hid hu
  have HT := Lib.hid hT
  obtain ⟨Au, capu, rfl⟩ := Txs.form hu
  unfold ptr
  clear ht hu hT
  by_cases h8 : 8 < L.length
  · have p1 : decide ((8 : Int) < (L.length : Int)) = true := decide_eq_true (by omega)
    have HE := Lib.hid (Exc.allE_long h8)
    clear h8
    go_enter Tryz.func9, Tryz.ntmps9
    go_wp2
    refine bodyPost_ret (results_tmp4 rfl _ _ _) rfl ?_; exact (eAll_bad HE.out (by decide) (Below.refl _ _))
  have p1 : decide ((8 : Int) < (L.length : Int)) = false := decide_eq_false (by omega)
  have H8 : Hid (L.length ≤ 8) := Lib.hid (by omega)
  clear h8
  go_enter Tryz.func9, Tryz.ntmps9
  go_wp2_with fail
  go_loopw [5, 6, 20] (fun rv nv i wr => ∃ k : Nat, rv = .slice none 0 0 ∧ nv = .slice none 0 0 ∧ i = .int .i64 k ∧ k ≤ L.length ∧ Txn.fines (L.take k) = true ∧ Below w.heap.size w wr) (fun _ _ i _ => L.length - (intOf i).toNat)
  case atStart => exact ⟨0, rfl, rfl, rfl, Nat.zero_le _, rfl, Below.refl _ _⟩
  case round =>
    obtain ⟨k, rfl, rfl, rfl, hk, hfin, hb⟩ := hrel
    have HF := Lib.hid hfin
    have HB := Lib.hid hb
    clear hfin hb
    by_cases hlt : k < L.length
    · have h1 : (k : Int) < (L.length : Int) := by omega
      have h0 : (0 : Int) ≤ (k : Int) := by omega
      have hk8 : (k : Int) ≤ 8 := by have := H8.out; omega
      obtain ⟨b, o, zx, hA, ca, hma⟩ := (HU.out.below HB.out).at k hlt
      subst hA
      have HFT := Lib.hid (Exc.fines_take1 hlt HF.out)
      have HBD : Hid (Txn.fine L[k] = false → Exc.allC L = 150) := Lib.hid (fun h => Exc.allE_bad H8.out hlt h)
      obtain ⟨x, hx⟩ : ∃ x, L[k] = x := ⟨_, rfl⟩
      rw [hx] at ca hma HFT HBD
      clear hx
      obtain ⟨Az, capz, rfl⟩ := hma.form
      have c0 : wr.cell? ⟨b, o + k * 8, none⟩ = some (.int .i64 x.kind) := ca 0 _ rfl
      have c1 := ca 1 _ rfl
      have c2 := ca 2 _ rfl
      have c3 := ca 3 _ rfl
      have c4 := ca 4 _ rfl
      have c5 := ca 5 _ rfl
      have c6 := ca 6 _ rfl
      have c7 := ca 7 _ rfl
      obtain ⟨w1, hw1, hb1, rx⟩ := tx_box x (.slice Az x.mem.length capz) wr
      obtain ⟨q9, hq9⟩ : ∃ q, wr.heap.size = q := ⟨_, rfl⟩
      rw [hq9] at rx
      have HW1 := Lib.hid hw1
      have HQ9 := Lib.hid hq9
      have HX1 := Lib.hid rx
      have HB1 := Lib.hid (bchain HB.out hb1)
      have HFI := Lib.hid (xcheck_any x (.slice Az x.mem.length capz) w1 (hma.below hb1))
      unfold xval at HFI
      clear ca hma hw1 hq9 rx hb1
      go_upto_region 6 with fail
      try rw [HW1.out]
      try rw [HQ9.out]
      clear c0 c1 c2 c3 c4 c5 c6 c7
      obtain ⟨a0, a1, a2, a3, a4, a5, a6, a7⟩ := HX1.out.cells
      cases hf : Txn.fine x with
      | false =>
        have HE := Lib.hid (HBD.out hf)
        rw [hf, if_neg (by decide)] at HFI
        clear hf HFT HBD
        go_wp2_with fail
        refine HFI.out.mono ?_
        rintro r w3 ⟨rfl, hb3⟩
        have HB3 := Lib.hid (bchain HB1.out hb3)
        clear hb3
        go_wp2
        refine bodyPost_ret (results_tmp4 rfl _ _ _) rfl ?_; exact (eAll_bad HE.out (by decide) HB3.out)
      | true =>
        rw [hf, if_pos rfl] at HFI
        rw [hf] at HFT
        clear hf HBD
        go_wp2_with fail
        refine HFI.out.mono ?_
        rintro r w2 ⟨rfl, hb2⟩
        have HB2 := Lib.hid (bchain HB1.out hb2)
        clear hb2 a0 a1 a2 a3 a4 a5 a6 a7
        go_wp2
        go_roundw
        case rel => exact ⟨k + 1, rfl, rfl, by go_num, by omega, HFT.out, HB2.out⟩
        case measure => simp [intOf]; omega
    · have h1 : ¬ ((k : Int) < (L.length : Int)) := by omega
      obtain rfl : k = L.length := by omega
      rw [List.take_length] at HF
      have HE := Lib.hid (Exc.allE_ok H8.out HF.out)
      have HVr := Lib.hid (HV.out.below HB.out)
      clear hk h1
      go_wp2_with fail
      go_loopw [4, 5, 6, 33] (fun sv rv nv i ws => ∃ (k gk : Nat) (zr zn : Value), sv = .pointer (some ⟨gk, 0, none⟩) ∧ zr = rv ∧ zn = nv ∧ i = .int .i64 k ∧ k ≤ L.length ∧ TrAt ws gk (Exc.runA ⟨S, [], []⟩ (L.take k)).st ∧ OwnR ws w.heap.size zr (Exc.runA ⟨S, [], []⟩ (L.take k)).rc ∧ OwnM ws w.heap.size zn (Exc.runA ⟨S, [], []⟩ (L.take k)).nx ∧ Below w.heap.size w ws) (fun _ _ _ i _ => L.length - (intOf i).toNat)
      case atStart => exact ⟨0, g, _, _, rfl, rfl, rfl, rfl, Nat.zero_le _, HVr.out, OwnR.nil _ _, OwnM.nil _ _, HB.out⟩
      case round =>
        obtain ⟨k, gk, zr, zn, rfl, rfl, rfl, rfl, hk, hst, hrc, hnx, hb⟩ := hrel
        have HST := Lib.hid hst
        have HRC := Lib.hid hrc
        have HNX := Lib.hid hnx
        have HBW := Lib.hid hb
        clear hst hrc hnx hb HVr HB
        by_cases hlt : k < L.length
        · have h1 : (k : Int) < (L.length : Int) := by omega
          have h0 : (0 : Int) ≤ (k : Int) := by omega
          have hk8 : (k : Int) ≤ 8 := by have := H8.out; omega
          obtain ⟨b, o, zx, hA, ca0, hma⟩ := HU.out.at k hlt
          subst hA
          have HSN := Lib.hid (Exc.run_snoc ⟨S, [], []⟩ L k hlt)
          have HRL : Hid ((Exc.runA ⟨S, [], []⟩ (L.take k)).rc.length = k) := Lib.hid (by rw [Exc.run_rc]; simp; omega)
          have HFX : Hid (Txn.fine L[k] = true) := Lib.hid (List.all_eq_true.1 HF.out _ (List.getElem_mem hlt))
          obtain ⟨x, hx⟩ : ∃ x, L[k] = x := ⟨_, rfl⟩
          rw [hx] at ca0 hma HSN HFX
          clear hx
          obtain ⟨Az, capz, rfl⟩ := hma.form
          have HMW : Hid (∀ w', Below w.heap.size w w' → Mems w' (.slice Az x.mem.length capz) x.mem) := Lib.hid (fun w' h => hma.below h)
          have ca : ∀ j u, (xcl x (.slice Az x.mem.length capz))[j]? = some u → wr.cell? ⟨b, o + k * 8 + j, none⟩ = some u := fun j u hu => by
            have c := ca0 j u hu
            exact (HBW.out.cell (World.block_lt_of_cell? _ _ c)).trans c
          clear ca0
          have c0 : wr.cell? ⟨b, o + k * 8, none⟩ = some (.int .i64 x.kind) := ca 0 _ rfl
          have c1 := ca 1 _ rfl
          have c2 := ca 2 _ rfl
          have c3 := ca 3 _ rfl
          have c4 := ca 4 _ rfl
          have c5 := ca 5 _ rfl
          have c6 := ca 6 _ rfl
          have c7 := ca 7 _ rfl
          obtain ⟨w1, hw1, hb1, rx⟩ := tx_box x (.slice Az x.mem.length capz) wr
          obtain ⟨q9, hq9⟩ : ∃ q, wr.heap.size = q := ⟨_, rfl⟩
          rw [hq9] at rx
          have HW1 := Lib.hid hw1
          have HQ9 := Lib.hid hq9
          have HX1 := Lib.hid rx
          have HB1 := Lib.hid (bchain HBW.out hb1)
          have HM1 := Lib.hid (HMW.out _ (bchain HBW.out hb1))
          have HST1 := Lib.hid (HST.out.below hb1)
          have HRC1 := Lib.hid (HRC.out.below hb1)
          have HNX1 := Lib.hid (HNX.out.below hb1)
          clear ca hma hw1 hq9 rx hb1
          obtain ⟨D, hD⟩ : ∃ D, Exc.runA ⟨S, [], []⟩ (L.take k) = D := ⟨_, rfl⟩
          rw [hD] at HST1 HRC1 HNX1 HSN HRL
          clear HST HRC HNX hD
          have HDO := Lib.hid (edo_any (g := gk) D.st x (.slice Az x.mem.length capz) w1 HST1.out (HT.out.below HB1.out) HM1.out)
          unfold xval ptr at HDO
          have HSTEP : Hid (Exc.stepA D x = ⟨if (Exc.doP D.st x).2 = 0 then (Exc.doP D.st x).1 else D.st, D.rc ++ [⟨(Exc.doP D.st x).2, x.frm, x.seq⟩], if (Exc.doP D.st x).2 = 0 ∧ x.kind = 4 then x.mem else D.nx⟩) := Lib.hid rfl
          obtain ⟨⟨R, c⟩, hRc⟩ : ∃ p, Exc.doP D.st x = p := ⟨_, rfl⟩
          rw [hRc] at HDO HSTEP
          dsimp only at HDO HSTEP
          clear hRc
          go_upto_region 14 with fail
          try rw [HW1.out]
          try rw [HQ9.out]
          clear c0 c1 c2 c3 c4 c5 c6 c7
          obtain ⟨a0, a1, a2, a3, a4, a5, a6, a7⟩ := HX1.out.cells
          go_wp2_with fail
          refine HDO.out.mono ?_
          rintro r w2 ⟨zo, rfl, hz1, hz2, hb2⟩
          obtain ⟨po, rfl⟩ := tri_form hz1 hz2
          have HZ1 := Lib.hid hz1
          have HB2 := Lib.hid (bchain HB1.out hb2)
          have HX2 := Lib.hid (HX1.out.below hb2)
          have HST2 := Lib.hid (HST1.out.below hb2)
          have HRC2 := Lib.hid (HRC1.out.below hb2)
          have HNX2 := Lib.hid (HNX1.out.below hb2)
          clear hz1 hz2 hb2 a0 a1 a2 a3 a4 a5 a6 a7 HST1 HRC1 HNX1 HDO
          have hnl : x.frm.length ≤ 6 := (Txn.fine_of HFX.out).2.1
          have HCL := Lib.hid (fun w' => dclone_any x.frm w' (by omega))
          clear hnl
          have HCC : Hid (∀ w', Below w2.heap.size w2 w' → w'.cell? ⟨q9, 1, none⟩ = some (.string ⟨x.frm.toArray⟩) ∧ w'.cell? ⟨q9, 2, none⟩ = some (.int .i64 x.seq)) := Lib.hid (fun w' h => ⟨(HX2.out.below h).cells.2.1, (HX2.out.below h).cells.2.2.1⟩)
          have HAPP : Hid (∀ w6, Below w2.heap.size w2 w6 → ∃ g7 c7 w7, (Builtin.append_ #[33, 33] 33 #[zr, .slice (some ⟨w6.heap.size, 0, none⟩) 1 1]).run Tryz.prog (w6.alloc (.cells #[.int .i64 c, .string ⟨x.frm.toArray⟩, .int .i64 x.seq] 78)) = .ok (.slice (some ⟨g7, 0, none⟩) (k + 1) c7) w7 ∧
              w6.cell? ⟨q9, 1, none⟩ = some (.string ⟨x.frm.toArray⟩) ∧ w6.cell? ⟨q9, 2, none⟩ = some (.int .i64 x.seq) ∧ OwnR w7 w.heap.size (.slice (some ⟨g7, 0, none⟩) (k + 1) c7) (D.rc ++ [⟨c, x.frm, x.seq⟩]) ∧ Out (fun j => zr.ownBlock = some j) w2 w7 ∧ Below w.heap.size w w7) := Lib.hid (fun w6 h6 => by
            obtain ⟨g7, c7, w7, ha, ho7, hb7, hO7⟩ := app_rcO ⟨c, x.frm, x.seq⟩ (HRC2.out.below h6) (by have := HRL.out; have := H8.out; omega) (bchain HB2.out h6).size
            rw [HRL.out] at ha ho7
            obtain ⟨q1, q2⟩ := HCC.out w6 h6
            exact ⟨g7, c7, w7, ha, q1, q2, ho7, (Out.of h6).trans hO7, (bchain HB2.out h6).trans hb7⟩)
          have HCLW : Hid (∀ w', Below w2.heap.size w2 w' → Calls Tryz.prog 31 #[.string ⟨x.frm.toArray⟩] w' fun e w'' => e = .returned (.string ⟨x.frm.toArray⟩) ∧ Below w2.heap.size w2 w'') := Lib.hid (fun w' h => (HCL.out w').mono fun e w'' ⟨p, r⟩ => ⟨p, bchain h r⟩)
          have BD : Below w2.heap.size w2 w2.drew := (Below.refl _ _).drew
          obtain ⟨c1, c2⟩ := HCC.out _ BD
          go_upto_region 15 with fail
          go_region_law (first | (refine step_call rfl 31 (.tmp 46) _ rfl (fun _ _ => rfl) _ (HCLW.out _ BD) ?_; rintro e w6 ⟨rfl, hb6⟩; refine ⟨_, rfl, ?_⟩; obtain ⟨g7, c7, w7, happ, k1, k2, ho7, hO7, hB7⟩ := HAPP.out _ hb6) | (refine step_append_run rfl (.tmp 43) (.tmp 51) _ rfl _ _ _ ?_ ?_ happ ?_; (first | rfl | (focus (simp [Act.eval]; done)) | fail); (first | rfl | (focus (simp [Act.eval]; done)) | fail)))
          all_goals
            have HO7 := Lib.hid ho7
            have HB7 := Lib.hid hB7
            have HX7 : Hid (TxAt w7 q9 x (.slice Az x.mem.length capz)) := Lib.hid (hO7.heap HX2.out (fun e => own_typE HRC2.out (T := 46) (by decide) q9 _ _ e HX2.out))
            have HT7 : Hid (TrAt w7 gk D.st) := Lib.hid (HST2.out.outE hO7 (fun k cs f e => own_typE HRC2.out (by decide) k cs f e) (fun k cs f e => own_typE HRC2.out (by decide) k cs f e))
            have HN7 : Hid (OwnM w7 w.heap.size zn D.nx) := Lib.hid (HNX2.out.outE hO7 (fun k cs f e => own_typE HRC2.out (by decide) k cs f e))
            have HZ7 : Hid (c = 0 → ∃ g', Value.pointer po = ptr g' ∧ TrAt w7 g' R) := Lib.hid (fun h => by
              obtain ⟨g', e, h2⟩ := HZ1.out h
              exact ⟨g', e, h2.outE hO7 (fun k cs f e => own_typE HRC2.out (by decide) k cs f e) (fun k cs f e => own_typE HRC2.out (by decide) k cs f e)⟩)
            clear ho7 hB7 happ hO7
            by_cases hc0 : c = 0
            case neg =>
              have s1 : (c != 0) = true := by rw [bne_iff_ne]; exact hc0
              have HEQ : Hid (Exc.runA ⟨S, [], []⟩ (L.take (k + 1)) = ⟨D.st, D.rc ++ [⟨c, x.frm, x.seq⟩], D.nx⟩) := Lib.hid (by rw [HSN.out, HSTEP.out, if_neg hc0, if_neg (fun h => hc0 h.1)])
              clear hc0
              go_wp2
              go_roundw
              case rel => exact ⟨k + 1, gk, _, _, rfl, rfl, rfl, by go_num, by omega, by rw [HEQ.out]; exact HT7.out, by rw [HEQ.out]; exact HO7.out, by rw [HEQ.out]; exact HN7.out, HB7.out⟩
              case measure => simp [intOf]; omega
            subst hc0
            obtain ⟨g', hg', hr'⟩ := HZ7.out rfl
            have HR7 := Lib.hid hr'
            unfold ptr at hg'
            rw [hg']
            clear hr' hg' HZ7 HZ1
            have x0 := HX7.out.cells.1
            by_cases hk4 : x.kind = 4
            case neg =>
              have s2 : (x.kind == 4) = false := beq_eq_false_iff_ne.2 hk4
              have HEQ : Hid (Exc.runA ⟨S, [], []⟩ (L.take (k + 1)) = ⟨R, D.rc ++ [⟨0, x.frm, x.seq⟩], D.nx⟩) := Lib.hid (by rw [HSN.out, HSTEP.out, if_pos rfl, if_neg (fun h => hk4 h.2)])
              clear hk4
              go_wp2
              go_roundw
              case rel => exact ⟨k + 1, g', _, _, rfl, rfl, rfl, by go_num, by omega, by rw [HEQ.out]; exact HR7.out, by rw [HEQ.out]; exact HO7.out, by rw [HEQ.out]; exact HN7.out, HB7.out⟩
              case measure => simp [intOf]; omega
            have s2 : (x.kind == 4) = true := beq_iff_eq.2 hk4
            have x7 := HX7.out.cells.2.2.2.2.2.2.2
            have HEQ : Hid (Exc.runA ⟨S, [], []⟩ (L.take (k + 1)) = ⟨R, D.rc ++ [⟨0, x.frm, x.seq⟩], x.mem⟩) := Lib.hid (by rw [HSN.out, HSTEP.out, if_pos rfl, if_pos ⟨rfl, hk4⟩])
            have HOK : Hid (Pw.okL x.mem = true) := Lib.hid (by rcases Txn.kind_of (Txn.fine_of HFX.out).2.2.2.2 with ⟨h, _⟩ | ⟨h, _⟩ | ⟨h, _⟩ | ⟨_, _, _, _, _, h⟩ <;> first | exact h | omega)
            have HCP := Lib.hid (ecopy_any x.mem (.slice Az x.mem.length capz) w7 (HMW.out _ HB7.out) (by have := Pw.okL_len HOK.out; omega) (fun m hm => by have := (Pw.okL_mem HOK.out m hm).2.1; omega))
            unfold CopyPost at HCP
            clear hk4
            go_wp2_with fail
            refine HCP.out.mono ?_
            rintro r w8 ⟨zc, rfl, hoc, hbc⟩
            have HB8 := Lib.hid (bchain HB7.out hbc)
            have HO8 := Lib.hid (HO7.out.below hbc)
            have HR8 := Lib.hid (HR7.out.below hbc)
            have HC8 := Lib.hid (OwnM.fromE hoc HB7.out.size)
            clear hoc hbc x0 x7
            go_wp2
            go_roundw
            case rel => exact ⟨k + 1, g', _, zc, rfl, rfl, rfl, by go_num, by omega, by rw [HEQ.out]; exact HR8.out, by rw [HEQ.out]; exact HO8.out, by rw [HEQ.out]; exact HC8.out, HB8.out⟩
            case measure => simp [intOf]; omega
        · have h1 : ¬ ((k : Int) < (L.length : Int)) := by omega
          obtain rfl : k = L.length := by omega
          rw [List.take_length] at HST HRC HNX
          go_wp2
          refine bodyPost_ret (results_tmp4 rfl _ _ _) rfl ?_
          exact eAll_good HE.out HST.out HRC.out HNX.out HBW.out
end Go.Proofs.YtlckcfpdiigjiaaGreatDoor
