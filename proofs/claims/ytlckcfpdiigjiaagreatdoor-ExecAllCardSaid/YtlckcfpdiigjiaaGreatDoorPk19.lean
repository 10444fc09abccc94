/- ExecRefAcc, ExecRefGen, ExecRefDo -/
import Derived.Test.YtlckcfpdiigjiaaGreatDoorPk09
import Derived.Test.YtlckcfpdiigjiaaGreatDoorPk07
namespace Go.Proofs.YtlckcfpdiigjiaaGreatDoor
open Go.RowKit
open Sto (T St)
open Go.Proofs.YtlckcfpdiigjiaaGreatDoor.Pw (M)
open Go.Proofs.YtlckcfpdiigjiaaGreatDoor.Exc (A)

set_option maxRecDepth 100000 in
set_option maxHeartbeats 8000000 in
theorem raccount_any (S : St) (v : Value) (n : T) (w : World) (hv : ItAt w v S) (hl : S.length ≤ 10000) (hS : Sto.Rising S) (hf : ∀ x ∈ S, x.2.length ≤ 1000000) :
    Calls Tryz.prog 20 #[v, .string ⟨n.toArray⟩] w fun r w' => r = .returned (.tuple #[accval (Exc.acc S n).1, .int .i64 (Exc.acc S n).2]) ∧ Below w.heap.size w w' := by
  obtain ⟨w0, hw0, hb0, rp⟩ := acc_box Exc.A.zero w
  have HV := Lib.hid (RowsAt.below hv hb0)
  have HP0 := Lib.hid rp
  have HB0 := Lib.hid hb0
  obtain ⟨p, hp⟩ : ∃ p, w.heap.size = p := ⟨_, rfl⟩
  rw [hp] at HP0
  have HLP := Lib.hid (Nat.le_of_eq hp)
  have HPE := Lib.hid hp
  have HW0 : Hid (w.alloc (.cells #[.string ⟨#[]⟩, .int .i64 0, .int .i64 0] 55) = w0) := Lib.hid hw0
  have HNA := Lib.hid (fun w' => rName_any n w')
  have HAT := Lib.hid (fun h => rtAt_any S v (Exc.aK n) w0 h hl)
  have HLK := Lib.hid (Tri.at_look hS (Exc.aK n))
  have HLQ := Lib.hid (Tri.look_pos hS (Exc.aK n))
  have HFV := Lib.hid hf
  obtain ⟨A, cap, rfl, -, -⟩ := hv.form
  have HAC : Hid (Exc.acc S n = if Txn.nameB n = false then (Exc.A.zero, (1 : Int)) else match Sto.look S (Exc.aK n) with | none => ((⟨n, 0, 0⟩ : Exc.A), (0 : Int)) | some v => match Exc.told v with | none => (Exc.A.zero, (3 : Int)) | some (a, s) => ((⟨n, a, s⟩ : Exc.A), (0 : Int))) := Lib.hid (by unfold Exc.acc; rfl)
  have HNL : Hid (Txn.nameB n = true → n.length ≤ 6) := Lib.hid (fun h => by simp only [Txn.nameB, Bool.and_eq_true, decide_eq_true_eq] at h; exact h.2)
  clear hv hl hS hf hb0 rp hw0 hp
  go_enter Tryz.func20, Tryz.ntmps20
  go_upto_region 1 with fail
  try rw [HW0.out]
  try rw [HPE.out]
  go_wp2_with fail
  refine (HNA.out _).mono ?_
  rintro r w1 ⟨rfl, hw1⟩
  obtain rfl := hw1.symm
  cases hn : Txn.nameB n with
  | false =>
    obtain ⟨p0, p1, p2⟩ := HP0.out.cells
    have u0 := HP0.out.free 0
    have u1 := HP0.out.free 1
    have u2 := HP0.out.free 2
    have HEQ := Lib.hid (show Exc.acc S n = (Exc.A.zero, (1 : Int)) from by rw [HAC.out, hn, if_pos rfl])
    go_wp2
    exact bodyPost_ret (ret_putAcc rfl _ w0 p Exc.A.zero rfl HP0.out) rfl ⟨by rw [HEQ.out]; rfl, HB0.out.trans ((putAcc_only w0 p Exc.A.zero).below HLP.out HB0.out.size)⟩
  | true =>
  have HNN := Lib.hid hn
  have hnl := HNL.out hn
  clear hn
  have e1 := cat_mk [97, 58] n
  rw [show [97, 58] ++ n = Exc.aK n from rfl] at e1
  have hg : ¬ (9223372036854775807 < 2 + n.length) := by omega
  have HA1 := Lib.hid (HAT.out HV.out)
  unfold RAtIs at HA1
  obtain ⟨K, hK⟩ : ∃ K, Exc.aK n = K := ⟨_, rfl⟩
  rw [hK] at e1 HA1 HLK HLQ HAC
  clear hK hnl
  obtain ⟨P, hP⟩ : ∃ P, Tri.pos S K = P := ⟨_, rfl⟩
  rw [hP] at HA1
  have HPP := Lib.hid hP
  clear hP
  go_wp2_with fail
  refine HA1.out.mono ?_
  rintro r w2 ⟨rfl, j, hj⟩
  have HB2 : Hid (Below w.heap.size w w2) := Lib.hid (by rw [hj]; exact bel_drewN HB0.out _)
  have HP2 : Hid (AccAt w2 p Exc.A.zero) := Lib.hid (by rw [hj]; exact HP0.out)
  have HV2 : Hid (ItAt w2 (.slice A S.length cap) S) := Lib.hid (by rw [hj]; exact HV.out)
  clear hj
  cases hb : Tri.at_ S K with
  | false =>
    have hn : Sto.look S K = none := by have := HLK.out; rw [hb] at this; cases h : Sto.look S K with | none => rfl | some _ => rw [h] at this; cases this
    clear hb
    obtain ⟨p0, p1, p2⟩ := HP2.out.cells
    have u0 := HP2.out.free 0
    have u1 := HP2.out.free 1
    have u2 := HP2.out.free 2
    have HEQ := Lib.hid (show Exc.acc S n = ((⟨n, 0, 0⟩ : Exc.A), (0 : Int)) from by rw [HAC.out, HNN.out, if_neg (by decide), hn])
    go_wp2
    exact bodyPost_ret (ret_putAcc rfl _ w2 p (⟨n, 0, 0⟩ : Exc.A) rfl HP2.out) rfl ⟨by rw [HEQ.out]; rfl, HB2.out.trans ((putAcc_only w2 p (⟨n, 0, 0⟩ : Exc.A)).below HLP.out HB2.out.size)⟩
  | true =>
  obtain ⟨hp, he, hlk⟩ := HLQ.out hb
  have HLO := Lib.hid hlk
  clear hb
  obtain ⟨b, ob, rfl, n0, n1⟩ := HV2.out.at _ hp
  have hvl := HFV.out _ (List.getElem_mem hp)
  have h1 : (P : Int) < (S.length : Int) := by have := HPP.out; omega
  have h0 : (0 : Int) ≤ (P : Int) := by omega
  obtain ⟨y, hy⟩ : ∃ y, S[Tri.pos S K].2 = y := ⟨_, rfl⟩
  rw [hy] at n1 hvl HLO
  rw [HPP.out] at n1
  have HTD : Hid (Exc.told y = if Pw.endC (Pw.rdN (Pw.rdN (y, 0)).2).2 = 0 ∧ Exc.wi (Pw.rdN (y, 0)).1 = true ∧ Exc.wi (Pw.rdN (Pw.rdN (y, 0)).2).1 = true then some ((((Pw.rdN (y, 0)).1 : Nat) : Int), (((Pw.rdN (Pw.rdN (y, 0)).2).1 : Nat) : Int)) else none) := Lib.hid rfl
  have HN1 := Lib.hid (fun g w' h => rrnum_st (y, 0) g w' h (by dsimp only; omega))
  have HL1 := Lib.hid (Nat.le_trans (Pw.rdN_le (y, 0)) hvl)
  obtain ⟨⟨a, st1⟩, h2⟩ : ∃ p, Pw.rdN (y, 0) = p := ⟨_, rfl⟩
  rw [h2] at HTD HN1 HL1
  dsimp only at HTD HN1 HL1
  have HN2 := Lib.hid (fun g w' h => rrnum_st st1 g w' h (by have := HL1.out; omega))
  obtain ⟨⟨s, st2⟩, h3⟩ : ∃ p, Pw.rdN st1 = p := ⟨_, rfl⟩
  rw [h3] at HTD HN2
  dsimp only at HTD HN2
  have HN3 := Lib.hid (fun g w' h => rrend_st st2 g w' h)
  obtain ⟨E, hE⟩ : ∃ E, Pw.endC st2 = E := ⟨_, rfl⟩
  rw [hE] at HTD HN3
  have HWA := Lib.hid (fun w' => rwithin_any (a : Nat) w')
  have HWS := Lib.hid (fun w' => rwithin_any (s : Nat) w')
  obtain ⟨c1, hc1⟩ : ∃ c, Exc.wi (a : Nat) = c := ⟨_, rfl⟩
  obtain ⟨c2, hc2⟩ : ∃ c, Exc.wi (s : Nat) = c := ⟨_, rfl⟩
  rw [hc1, hc2] at HTD
  rw [hc1] at HWA
  rw [hc2] at HWS
  clear n0 hy hvl hp he hlk h2 h3 hE hc1 hc2
  go_upto_region 7 with fail
  have hr3 : RRd (w2.alloc (.cells #[.string ⟨y.toArray⟩, .int .i64 0] 104)) w2.heap.size y 0 := heap_new_at _ _ _ rfl
  have hb3 : Below w2.heap.size w2 (w2.alloc (.cells #[.string ⟨y.toArray⟩, .int .i64 0] 104)) := (Below.refl _ w2).alloc (Nat.le_refl _) _
  obtain ⟨g, hg2⟩ : ∃ g, w2.heap.size = g := ⟨_, rfl⟩
  rw [hg2] at hr3
  try rw [hg2]
  have HPG : Hid (p ≠ g) := Lib.hid (by rw [← hg2]; exact Nat.ne_of_lt (lt_of_heap HP2.out))
  have HLG : Hid (w.heap.size ≤ g) := Lib.hid (by rw [← hg2]; exact HB2.out.size)
  obtain ⟨w3, hw3⟩ : ∃ w3, w2.alloc (.cells #[.string ⟨y.toArray⟩, .int .i64 0] 104) = w3 := ⟨_, rfl⟩
  rw [hw3] at hr3 hb3
  try rw [hw3]
  have HR3 := Lib.hid hr3
  have HB3 := Lib.hid (bchain HB2.out hb3)
  have HP3 := Lib.hid (HP2.out.below hb3)
  clear hr3 hb3 hw3 hg2 n1
  go_wp2_with fail
  refine (HN1.out g _ HR3.out).mono ?_
  rintro r w4 ⟨rfl, hr, ho⟩
  have HB4 := Lib.hid (HB3.out.trans (ho.below HLG.out HB3.out.size))
  have HP4 : Hid (AccAt w4 p Exc.A.zero) := Lib.hid ((ho.block p (lt_of_heap HP3.out) HPG.out).trans HP3.out)
  have HR4 := Lib.hid hr
  clear hr ho
  go_wp2_with fail
  refine (HN2.out g _ HR4.out).mono ?_
  rintro r w5 ⟨rfl, hr, ho⟩
  have HB5 := Lib.hid (HB4.out.trans (ho.below HLG.out HB4.out.size))
  have HP5 : Hid (AccAt w5 p Exc.A.zero) := Lib.hid ((ho.block p (lt_of_heap HP4.out) HPG.out).trans HP4.out)
  have HR5 := Lib.hid hr
  clear hr ho
  by_cases hE : E = 0
  case neg =>
    have hE2 : (E != 0) = true := by rw [bne_iff_ne]; exact hE
    have HEN := Lib.hid hE
    clear hE
    go_wp2_with fail
    refine (HN3.out g _ HR5.out).mono ?_
    rintro r w6 ⟨rfl, ho⟩
    have HB6 := Lib.hid (HB5.out.trans (ho.below HLG.out HB5.out.size))
    have HP6 : Hid (AccAt w6 p Exc.A.zero) := Lib.hid ((ho.block p (lt_of_heap HP5.out) HPG.out).trans HP5.out)
    clear ho
    obtain ⟨p0, p1, p2⟩ := HP6.out.cells
    have u0 := HP6.out.free 0
    have u1 := HP6.out.free 1
    have u2 := HP6.out.free 2
    have HEQ := Lib.hid (show Exc.acc S n = (Exc.A.zero, (3 : Int)) from by rw [HAC.out, HNN.out, if_neg (by decide), HLO.out]; dsimp only; rw [HTD.out, if_neg (fun h => HEN.out h.1)])
    go_wp2
    exact bodyPost_ret (ret_putAcc rfl _ w6 p Exc.A.zero rfl HP6.out) rfl ⟨by rw [HEQ.out]; rfl, HB6.out.trans ((putAcc_only w6 p Exc.A.zero).below HLP.out HB6.out.size)⟩
  subst hE
  go_wp2_with fail
  refine (HN3.out g _ HR5.out).mono ?_
  rintro r w6 ⟨rfl, ho⟩
  have HB6 := Lib.hid (HB5.out.trans (ho.below HLG.out HB5.out.size))
  have HP6 : Hid (AccAt w6 p Exc.A.zero) := Lib.hid ((ho.block p (lt_of_heap HP5.out) HPG.out).trans HP5.out)
  clear ho
  go_wp2_with fail
  refine (HWA.out _).mono ?_
  rintro r w7 ⟨rfl, hw7⟩
  obtain rfl := hw7.symm
  cases c1 with
  | false =>
    obtain ⟨p0, p1, p2⟩ := HP6.out.cells
    have u0 := HP6.out.free 0
    have u1 := HP6.out.free 1
    have u2 := HP6.out.free 2
    have HEQ := Lib.hid (show Exc.acc S n = (Exc.A.zero, (3 : Int)) from by rw [HAC.out, HNN.out, if_neg (by decide), HLO.out]; dsimp only; rw [HTD.out, if_neg (fun h => absurd h.2.1 (by decide))])
    go_wp2
    exact bodyPost_ret (ret_putAcc rfl _ w6 p Exc.A.zero rfl HP6.out) rfl ⟨by rw [HEQ.out]; rfl, HB6.out.trans ((putAcc_only w6 p Exc.A.zero).below HLP.out HB6.out.size)⟩
  | true =>
  go_wp2_with fail
  refine (HWS.out _).mono ?_
  rintro r w7 ⟨rfl, hw7⟩
  obtain rfl := hw7.symm
  cases c2 with
  | false =>
    obtain ⟨p0, p1, p2⟩ := HP6.out.cells
    have u0 := HP6.out.free 0
    have u1 := HP6.out.free 1
    have u2 := HP6.out.free 2
    have HEQ := Lib.hid (show Exc.acc S n = (Exc.A.zero, (3 : Int)) from by rw [HAC.out, HNN.out, if_neg (by decide), HLO.out]; dsimp only; rw [HTD.out, if_neg (fun h => absurd h.2.2 (by decide))])
    go_wp2
    exact bodyPost_ret (ret_putAcc rfl _ w6 p Exc.A.zero rfl HP6.out) rfl ⟨by rw [HEQ.out]; rfl, HB6.out.trans ((putAcc_only w6 p Exc.A.zero).below HLP.out HB6.out.size)⟩
  | true =>
  obtain ⟨p0, p1, p2⟩ := HP6.out.cells
  have u0 := HP6.out.free 0
  have u1 := HP6.out.free 1
  have u2 := HP6.out.free 2
  have HEQ := Lib.hid (show Exc.acc S n = ((⟨n, (a : Nat), (s : Nat)⟩ : Exc.A), (0 : Int)) from by rw [HAC.out, HNN.out, if_neg (by decide), HLO.out]; dsimp only; rw [HTD.out, if_pos ⟨by trivial, by trivial, by trivial⟩])
  go_wp2
  exact bodyPost_ret (ret_putAcc rfl _ w6 p (⟨n, (a : Nat), (s : Nat)⟩ : Exc.A) rfl HP6.out) rfl ⟨by rw [HEQ.out]; rfl, HB6.out.trans ((putAcc_only w6 p (⟨n, (a : Nat), (s : Nat)⟩ : Exc.A)).below HLP.out HB6.out.size)⟩
end Go.Proofs.YtlckcfpdiigjiaaGreatDoor
namespace Go.Proofs.YtlckcfpdiigjiaaGreatDoor
open Go.RowKit
open Sto (T St)
open Go.Proofs.YtlckcfpdiigjiaaGreatDoor.Pw (M)
open Go.Proofs.YtlckcfpdiigjiaaGreatDoor.Exc (A)

theorem Exc.genF_at {S : St} {L : List A} {k : Nat} (hk : k < L.length) : Exc.genF S (L.drop k) = if Exc.fitA L[k] = false then ([], 1) else if (Sto.look S (Exc.aK L[k].name)).isSome = true then ([], 6) else Exc.genF (Tri.put S (Exc.aK L[k].name) (Exc.valS L[k].amt L[k].seq)) (L.drop (k + 1)) := by
  rw [List.drop_eq_getElem_cons hk]
  rfl
/-- What Genesis answers. -/
def GenPost (L : List A) (set : List M) (w : World) (e : Ending) (w' : World) : Prop := ∃ z, e = .returned (.tuple #[z, .int .i64 (Exc.genP L set).2]) ∧ ItAt w' z (Exc.genP L set).1 ∧ Below w.heap.size w w'
theorem genPost_bad {L : List A} {set : List M} {w w' : World} {c : Int} (h : Exc.genP L set = ([], c)) (hb : Below w.heap.size w w') : GenPost L set w (.returned (.tuple #[.slice none 0 0, .int .i64 c])) w' := ⟨_, by rw [h], by rw [h]; exact RowsAt.nil _ _ _ _, hb⟩
theorem genPost_good {L : List A} {set : List M} {w w' : World} {S : St} {z : Value} (h : Exc.genP L set = (S, 0)) (hi : ItAt w' z S) (hb : Below w.heap.size w w') : GenPost L set w (.returned (.tuple #[z, .int .i64 0])) w' := ⟨z, by rw [h], by rw [h]; exact hi, hb⟩
theorem Exc.genP_long {L : List A} {set : List M} (h : 8 < L.length) : Exc.genP L set = ([], 2) := by unfold Exc.genP; rw [if_pos h]
theorem Exc.genP_bad {L : List A} {set : List M} (h : ¬ 8 < L.length) {c : Int} (hc : c ≠ 0) (h2 : Exc.genF [] L = ([], c)) : Exc.genP L set = ([], c) := by unfold Exc.genP; rw [if_neg h, h2, if_pos hc]
theorem Exc.genP_set {L : List A} {set : List M} (h : ¬ 8 < L.length) {S : St} (h2 : Exc.genF [] L = (S, 0)) (h3 : Pw.okL set = false) : Exc.genP L set = ([], 50) := by unfold Exc.genP; rw [if_neg h, h2, if_neg (by simp), if_pos h3]
theorem Exc.genP_ok {L : List A} {set : List M} (h : ¬ 8 < L.length) {S : St} (h2 : Exc.genF [] L = (S, 0)) (h3 : Pw.okL set = true) : Exc.genP L set = (Tri.put S Exc.sK (Pw.digL set), 0) := by unfold Exc.genP; rw [if_neg h, h2, if_neg (by simp), if_neg (by rw [h3]; decide)]
set_option maxRecDepth 100000 in
set_option maxHeartbeats 8000000 in
theorem rgenesis_any (L : List A) (v : Value) (set : List M) (u : Value) (w : World) (hv : AccIn w v L) (hu : Mems w u set) :
    Calls Tryz.prog 27 #[v, u] w (GenPost L set w) := by
  have HV := Lib.hid hv
  have HU := Lib.hid hu
  obtain ⟨A, cap, rfl, -, -⟩ := RowsIn.form hv
  obtain ⟨Au, capu, rfl⟩ := hu.form
  clear hv hu
  by_cases h8 : 8 < L.length
  · have p1 : decide ((8 : Int) < (L.length : Int)) = true := decide_eq_true (by omega)
    have HE := Lib.hid (Exc.genP_long (set := set) h8)
    clear h8
    go_enter Tryz.func27, Tryz.ntmps27
    go_wp2
    go_ret2
    exact genPost_bad HE.out (Below.refl _ _)
  have p1 : decide ((8 : Int) < (L.length : Int)) = false := decide_eq_false (by omega)
  have H8 : Hid (¬ 8 < L.length) := Lib.hid h8
  clear h8
  go_enter Tryz.func27, Tryz.ntmps27
  go_wp2
  go_loopw [6, 7] (fun out i wr => ∃ (k : Nat) (z : Value) (S : St), z = out ∧ i = .int .i64 k ∧ k ≤ L.length ∧ Exc.genF [] L = Exc.genF S (L.drop k) ∧ ItAt wr z S ∧ Sto.Rising S ∧ S.length ≤ k ∧ Below w.heap.size w wr) (fun _ i _ => L.length - (intOf i).toNat)
  case atStart => exact ⟨0, _, [], rfl, rfl, Nat.zero_le _, by rw [List.drop_zero], RowsAt.nil _ _ _ _, List.Pairwise.nil, Nat.le_refl _, Below.refl _ _⟩
  case round =>
    obtain ⟨k, z, S, rfl, rfl, hk, hg, hi, hS, hSl, hb⟩ := hrel
    have HG := Lib.hid hg
    have HI := Lib.hid hi
    have HS := Lib.hid hS
    have HSL := Lib.hid hSl
    have HB := Lib.hid hb
    obtain ⟨Az, capz, rfl, -, -⟩ := hi.form
    clear hg hi hS hSl hb
    by_cases hlt : k < L.length
    · have h1 : (k : Int) < (L.length : Int) := by omega
      have h0 : (0 : Int) ≤ (k : Int) := by omega
      have hk8 : (k : Int) ≤ 8 := by have := H8.out; omega
      obtain ⟨b, o, hA, ca⟩ := RowsIn.at (RowsIn.below HV.out HB.out) k hlt
      subst hA
      have HGA := Lib.hid (HG.out.trans (Exc.genF_at hlt))
      have HFA : Hid (Exc.fitA L[k] = (Txn.nameB L[k].name && Exc.wi L[k].amt && Exc.wi L[k].seq)) := Lib.hid rfl
      have HK9 : Hid (k ≤ 8) := Lib.hid (by have := H8.out; omega)
      obtain ⟨a, ha⟩ : ∃ a, L[k] = a := ⟨_, rfl⟩
      rw [ha] at ca HGA HFA
      clear ha
      have c0 : wr.cell? ⟨b, o + k * 3, none⟩ = some (.string ⟨a.name.toArray⟩) := ca 0 _ rfl
      have c1 := ca 1 _ rfl
      have c2 := ca 2 _ rfl
      have HCC : Hid (∀ w', Below wr.heap.size wr w' → w'.cell? ⟨b, o + k * 3, none⟩ = some (.string ⟨a.name.toArray⟩) ∧ w'.cell? ⟨b, o + k * 3 + 1, none⟩ = some (.int .i64 a.amt) ∧ w'.cell? ⟨b, o + k * 3 + 2, none⟩ = some (.int .i64 a.seq)) := Lib.hid (fun w' h => by
        have up : ∀ {p : Addr} {t : Value}, wr.cell? p = some t → w'.cell? p = some t := fun c => (h.cell (World.block_lt_of_cell? _ _ c)).trans c
        exact ⟨up c0, up c1, up c2⟩)
      clear ca
      go_wp2_with fail
      refine (rName_any a.name wr).mono ?_
      rintro r w1 ⟨rfl, hw1⟩
      obtain rfl := hw1.symm
      cases hn : Txn.nameB a.name with
      | false =>
        have HE := Lib.hid (Exc.genP_bad (set := set) (c := 1) H8.out (by decide) (HGA.out.trans (by rw [HFA.out, hn]; rfl)))
        clear hn
        go_wp2
        go_ret2
        exact genPost_bad HE.out HB.out
      | true =>
      go_wp2_with fail
      refine (rwithin_any a.amt wr).mono ?_
      rintro r w1 ⟨rfl, hw1⟩
      obtain rfl := hw1.symm
      cases h2 : Exc.wi a.amt with
      | false =>
        have HE := Lib.hid (Exc.genP_bad (set := set) (c := 1) H8.out (by decide) (HGA.out.trans (by rw [HFA.out, hn, h2]; rfl)))
        clear hn h2
        go_wp2
        go_ret2
        exact genPost_bad HE.out HB.out
      | true =>
      go_wp2_with fail
      refine (rwithin_any a.seq wr).mono ?_
      rintro r w1 ⟨rfl, hw1⟩
      obtain rfl := hw1.symm
      cases h3 : Exc.wi a.seq with
      | false =>
        have HE := Lib.hid (Exc.genP_bad (set := set) (c := 1) H8.out (by decide) (HGA.out.trans (by rw [HFA.out, hn, h2, h3]; rfl)))
        clear hn h2 h3
        go_wp2
        go_ret2
        exact genPost_bad HE.out HB.out
      | true =>
      have HVAL := Lib.hid (fun w' => rvalue_any a w' h2 h3)
      have HVL := Lib.hid (Exc.valS_len h2 h3)
      have HKE := Lib.hid (Exc.keyed_aK hn)
      have hnl : a.name.length ≤ 6 := by simp only [Txn.nameB, Bool.and_eq_true, decide_eq_true_eq] at hn; exact hn.2
      rw [HFA.out, hn, h2, h3, if_neg (by decide)] at HGA
      have e1 := cat_mk [97, 58] a.name
      rw [show [97, 58] ++ a.name = Exc.aK a.name from rfl] at e1
      have hg : ¬ (9223372036854775807 < 2 + a.name.length) := by omega
      have HLK := Lib.hid (Tri.at_look HS.out (Exc.aK a.name))
      obtain ⟨K, hK⟩ : ∃ K, Exc.aK a.name = K := ⟨_, rfl⟩
      obtain ⟨Y, hY⟩ : ∃ Y, Exc.valS a.amt a.seq = Y := ⟨_, rfl⟩
      rw [hK] at e1 HKE HLK HGA
      rw [hY] at HVAL HVL HGA
      have HAT := Lib.hid (rtAt_any S (.slice Az S.length capz) K wr HI.out (by have := HSL.out; have := HK9.out; omega))
      unfold RAtIs at HAT
      have HPU : Hid (∀ w', Below wr.heap.size wr w' → Calls Tryz.prog 29 #[.slice Az S.length capz, .string ⟨K.toArray⟩, .string ⟨Y.toArray⟩] w' fun e w'' => ∃ v', e = .returned (.tuple #[v', .int .i64 0]) ∧ ItAt w'' v' (Tri.put S K Y) ∧ Below wr.heap.size wr w'') := Lib.hid (fun w' h => by
        have hc := Exc.putC_few (S := S) HKE.out HVL.out.1 (by have := HVL.out.2; omega) (by have := HSL.out; have := HK9.out; omega)
        have h2 := rtPut_all S (.slice Az S.length capz) K Y w' (RowsAt.below HI.out h) (by have := HSL.out; have := HK9.out; omega)
        unfold RtPutPost at h2
        unfold Tri.putL at h2
        rw [hc, if_pos rfl] at h2
        exact h2.mono fun e w'' ⟨v', p, q, r⟩ => ⟨v', p, q, bchain h r⟩)
      clear hn h2 h3 hnl hK hY
      go_wp2_with fail
      refine HAT.out.mono ?_
      rintro r w1 ⟨rfl, j, hj⟩
      have hb1 : Below wr.heap.size wr w1 := by rw [hj]; exact bel_drewN (Below.refl _ _) _
      clear hj
      cases ht : Tri.at_ S K with
      | true =>
        have HB1 := Lib.hid (bchain HB.out hb1)
        have HE := Lib.hid (Exc.genP_bad (set := set) (c := 6) H8.out (by decide) (HGA.out.trans (by rw [← HLK.out, ht, if_pos rfl])))
        clear ht hb1
        go_wp2
        go_ret2
        exact genPost_bad HE.out HB1.out
      | false =>
      have HGB : Hid (Exc.genF [] L = Exc.genF (Tri.put S K Y) (L.drop (k + 1))) := Lib.hid (HGA.out.trans (by rw [← HLK.out, ht, if_neg (by decide)]))
      have HVA : Hid (∀ w', Below wr.heap.size wr w' → Calls Tryz.prog 38 #[.agg #[.string ⟨a.name.toArray⟩, .int .i64 a.amt, .int .i64 a.seq]] w' fun e w'' => e = .returned (.string ⟨Y.toArray⟩) ∧ Below wr.heap.size wr w'') := Lib.hid (fun w' h => (HVAL.out w').mono fun e w'' ⟨p, q⟩ => ⟨p, bchain h q⟩)
      have BD : Below wr.heap.size wr w1.drew := hb1.drew
      clear ht c0 c1 c2
      obtain ⟨c0, c1, c2⟩ := HCC.out _ hb1
      go_upto_region 12 with fail
      go_region_with (first | (go_at_call 38; refine (HVA.out _ (by with_reducible assumption)).mono ?_; rintro r wa ⟨rfl, hba⟩; obtain ⟨d0, d1, d2⟩ := HCC.out _ hba) | (go_at_call 29; refine (HPU.out _ (by with_reducible assumption)).mono ?_; rintro r wb ⟨zb, rfl, hib, hbb⟩))
      all_goals
        have HBB := Lib.hid (bchain HB.out hbb)
        have HIB := Lib.hid hib
        clear hbb hib
        go_wp2
        go_roundw
        case rel => exact ⟨k + 1, _, _, rfl, by go_num, by omega, HGB.out, HIB.out, Tri.put_rising HS.out _ _, by rw [Tri.put_len]; have := HSL.out; split <;> omega, HBB.out⟩
        case measure => simp [intOf]; omega
    · have h1 : ¬ ((k : Int) < (L.length : Int)) := by omega
      obtain rfl : k = L.length := by omega
      have HGF : Hid (Exc.genF [] L = (S, 0)) := Lib.hid (HG.out.trans (by rw [List.drop_length]; rfl))
      have HCK := Lib.hid (rcheck_any set (.slice Au set.length capu) wr (HU.out.below HB.out))
      have HDG := Lib.hid (fun w' h => rdigest_any set (.slice Au set.length capu) w' h)
      cases hs : Pw.okL set with
      | false =>
        have HE := Lib.hid (Exc.genP_set H8.out HGF.out hs)
        rw [Pw.checkC_bad hs] at HCK
        clear hs
        go_wp2_with fail
        refine HCK.out.mono ?_
        rintro r w1 ⟨rfl, hb1⟩
        have HB1 := Lib.hid (bchain HB.out hb1)
        clear hb1
        go_wp2
        go_ret2
        exact genPost_bad HE.out HB1.out
      | true =>
        have HE := Lib.hid (Exc.genP_ok H8.out HGF.out hs)
        have HDL := Lib.hid (Exc.digL_len hs)
        rw [Pw.checkC_ok hs] at HCK
        obtain ⟨D, hD⟩ : ∃ D, Pw.digL set = D := ⟨_, rfl⟩
        rw [hD] at HE HDG HDL
        clear hs hD
        go_wp2_with fail
        refine HCK.out.mono ?_
        rintro r w1 ⟨rfl, hb1⟩
        have HB1 := Lib.hid (bchain HB.out hb1)
        have HI1 := Lib.hid (RowsAt.below HI.out hb1)
        clear hb1
        go_wp2_with fail
        refine (HDG.out _ (HU.out.below HB1.out)).mono ?_
        rintro r w2 ⟨rfl, hb2⟩
        have HB2 := Lib.hid (bchain HB1.out hb2)
        have HI2 := Lib.hid (RowsAt.below HI1.out hb2)
        clear hb2
        have HPU : Hid (Calls Tryz.prog 29 #[.slice Az S.length capz, .string ⟨#[115]⟩, .string ⟨D.toArray⟩] w2 fun e w'' => ∃ v', e = .returned (.tuple #[v', .int .i64 0]) ∧ ItAt w'' v' (Tri.put S Exc.sK D) ∧ Below w2.heap.size w2 w'') := Lib.hid (by
          have hc := Exc.putC_few (S := S) (v := D) Exc.keyed_sK (by have := HDL.out; omega) (by have := HDL.out; omega) (by have := HSL.out; have := H8.out; omega)
          have h2 := rtPut_all S (.slice Az S.length capz) Exc.sK D w2 HI2.out (by have := HSL.out; have := H8.out; omega)
          unfold RtPutPost at h2
          unfold Tri.putL at h2
          rw [hc, if_pos rfl] at h2
          exact h2)
        go_wp2_with fail
        refine HPU.out.mono ?_
        rintro r w3 ⟨z, rfl, hi3, hb3⟩
        have HB3 := Lib.hid (bchain HB2.out hb3)
        have HI3 := Lib.hid hi3
        clear hb3 hi3
        go_wp2
        go_ret2
        exact genPost_good HE.out HI3.out HB3.out
end Go.Proofs.YtlckcfpdiigjiaaGreatDoor
namespace Go.Proofs.YtlckcfpdiigjiaaGreatDoor
open Go.RowKit
open Sto (T St)
open Go.Proofs.YtlckcfpdiigjiaaGreatDoor.Pw (M)
open Go.Proofs.YtlckcfpdiigjiaaGreatDoor.Txn (X)
open Go.Proofs.YtlckcfpdiigjiaaGreatDoor.Exc (A)

theorem typ_no {w : World} {k : Nat} {cs ds : Array Value} {T U : TypeId} {fr f : Nat × Nat} (h : w.heap[k]? = some (.cells cs T fr)) (hn : T ≠ U) (e : w.heap[k]? = some (.cells ds U f)) : False := by
  rw [h] at e
  injection e with e
  injection e with _ e2 _
  exact hn e2
theorem wrap_two {n : Int} (h1 : -9223372036854775808 ≤ n) (h2 : n ≤ 9223372036854775807) : IntKind.i64.wrap n = n ∧ wrap64 n = n := by
  constructor
  · unfold IntKind.wrap
    simp [IntKind.signed, IntKind.bits]
    omega
  · unfold wrap64
    omega
theorem Exc.do150 {S : St} {x : X} (h : Txn.fine x = false) : Exc.doP S x = ([], 150) := by unfold Exc.doP; rw [if_pos h]
theorem Exc.do3 {S : St} {x : X} (h : Txn.fine x = true) (h2 : (Exc.acc S x.frm).2 ≠ 0 ∨ (x.kind = 1 ∧ (Exc.acc S x.dst).2 ≠ 0)) : Exc.doP S x = ([], 3) := by unfold Exc.doP; rw [if_neg (by rw [h]; decide), if_pos h2]
theorem Exc.do160 {S : St} {x : X} (h : Txn.fine x = true) (h2 : ¬ ((Exc.acc S x.frm).2 ≠ 0 ∨ (x.kind = 1 ∧ (Exc.acc S x.dst).2 ≠ 0))) (h3 : (Exc.acc S x.frm).1.seq ≠ x.seq ∨ (Exc.acc S x.frm).1.seq = Exc.most) : Exc.doP S x = ([], 160) := by unfold Exc.doP; rw [if_neg (by rw [h]; decide), if_neg h2, if_pos h3]
theorem Exc.doLast {S : St} {x : X} (h : Txn.fine x = true) (h2 : ¬ ((Exc.acc S x.frm).2 ≠ 0 ∨ (x.kind = 1 ∧ (Exc.acc S x.dst).2 ≠ 0))) (h3 : ¬ ((Exc.acc S x.frm).1.seq ≠ x.seq ∨ (Exc.acc S x.frm).1.seq = Exc.most)) : Exc.doP S x = Exc.lastP x.frm (Exc.acc S x.frm).1.seq (Exc.kindP S x (Exc.acc S x.frm).1 (Exc.acc S x.dst).1) := by unfold Exc.doP; rw [if_neg (by rw [h]; decide), if_neg h2, if_neg h3]
theorem Exc.last_bad {n : T} {q : Int} {k : St × Int × Int} (h : k.2.1 ≠ 0) : Exc.lastP n q k = ([], k.2.1) := by unfold Exc.lastP; rw [if_pos h]
theorem Exc.last_ok {n : T} {q : Int} {R : St} {a : Int} : Exc.lastP n q (R, 0, a) = if Tri.putC R (Exc.aK n) (Exc.valS a (q + 1)) ≠ 0 then (([] : St), ((Tri.putC R (Exc.aK n) (Exc.valS a (q + 1)) : Nat) : Int)) else (Tri.put R (Exc.aK n) (Exc.valS a (q + 1)), (0 : Int)) := by unfold Exc.lastP; rw [if_neg (by simp)]
/-- What Do answers of items. -/
def RDoPost (S : St) (x : X) (w : World) (e : Ending) (w' : World) : Prop := ∃ z, e = .returned (.tuple #[z, .int .i64 (Exc.doP S x).2]) ∧ ItAt w' z (Exc.doP S x).1 ∧ Below w.heap.size w w'
theorem rdoPost_bad {S : St} {x : X} {w w' : World} {c : Int} (h : Exc.doP S x = ([], c)) (hb : Below w.heap.size w w') : RDoPost S x w (.returned (.tuple #[.slice none 0 0, .int .i64 c])) w' := ⟨_, by rw [h], by rw [h]; exact RowsAt.nil _ _ _ _, hb⟩
/-- The last step's answer, as Put tells it. -/
theorem rdoPost_last {S R : St} {x : X} {w w' : World} {n : T} {q a : Int} {z : Value} (h : Exc.doP S x = Exc.lastP n q (R, 0, a)) (hi : ItAt w' z (Tri.putL R (Exc.aK n) (Exc.valS a (q + 1)))) (hb : Below w.heap.size w w') : RDoPost S x w (.returned (.tuple #[z, .int .i64 (Tri.putC R (Exc.aK n) (Exc.valS a (q + 1)) : Nat)])) w' := by
  rw [Exc.last_ok] at h
  unfold Tri.putL at hi
  by_cases hc : Tri.putC R (Exc.aK n) (Exc.valS a (q + 1)) = 0
  · rw [if_pos hc] at hi
    rw [if_neg (by rw [hc]; decide)] at h
    exact ⟨z, by rw [h, hc]; rfl, by rw [h]; exact hi, hb⟩
  · rw [if_neg hc] at hi
    rw [if_pos hc] at h
    exact ⟨z, by rw [h], by rw [h]; exact hi, hb⟩
set_option maxRecDepth 100000 in
set_option maxHeartbeats 4000000 in
theorem rdo_bad (S : St) (v : Value) (x : X) (z : Value) (w : World) (hz : Mems w z x.mem) (hf : Txn.fine x = false) :
    Calls Tryz.prog 18 #[v, xval x z] w (RDoPost S x w) := by
  obtain ⟨w0, hw0, hb0, ra⟩ := tx_box x z w
  have HB := Lib.hid hb0
  obtain ⟨q0, hq0⟩ : ∃ q0, w.heap.size = q0 := ⟨_, rfl⟩
  rw [hq0] at ra
  have HQ0 := Lib.hid hq0
  have HFI := Lib.hid (rFine_any x z w0 (hz.below hb0))
  rw [hf] at HFI
  have HE := Lib.hid (Exc.do150 (S := S) hf)
  obtain ⟨Az, capz, rfl⟩ := hz.form
  obtain ⟨a0, a1, a2, a3, a4, a5, a6, a7⟩ := ra.cells
  unfold xval at HFI ⊢
  clear hb0 ra hz hq0 hf
  go_enter Tryz.func18, Tryz.ntmps18
  go_upto_region 1 with fail
  try rw [hw0]
  try rw [HQ0.out]
  clear hw0
  go_wp2_with fail
  refine HFI.out.mono ?_
  rintro r w1 ⟨rfl, hb1⟩
  have HB1 := Lib.hid (bchain HB.out hb1)
  clear hb1
  go_wp2
  go_ret2
  exact rdoPost_bad HE.out HB1.out
set_option maxRecDepth 100000 in
set_option maxHeartbeats 8000000 in
theorem rdo_2 (S : St) (v : Value) (x : X) (z : Value) (w : World) (hv : ItAt w v S) (hl : S.length ≤ 9000) (hS : Sto.Rising S) (hfv : ∀ p ∈ S, p.2.length ≤ 1000000) (hz : Mems w z x.mem) (hf : Txn.fine x = true) (hk : x.kind = 2) :
    Calls Tryz.prog 18 #[v, xval x z] w (RDoPost S x w) := by
  obtain ⟨w0, hw0, hb0, ra⟩ := tx_box x z w
  have HB0 := Lib.hid hb0
  obtain ⟨q0, hq0⟩ : ∃ q0, w.heap.size = q0 := ⟨_, rfl⟩
  rw [hq0] at ra
  have HQ0 := Lib.hid hq0
  have HX0 := Lib.hid ra
  have HV0 := Lib.hid (RowsAt.below hv hb0)
  have HFI := Lib.hid (rFine_any x z w0 (hz.below hb0))
  rw [hf] at HFI
  have HF := Lib.hid hf
  have HK := Lib.hid hk
  have HS := Lib.hid hS
  have HL := Lib.hid hl
  have HMM : Hid (∀ w', Below w.heap.size w w' → Mems w' z x.mem) := Lib.hid (fun w' h => hz.below h)
  have HCC := Lib.hid (fun n w' h => raccount_any S v n w' h (by omega) hS hfv)
  have HKO := Lib.hid (Txn.kind_of (Txn.fine_of hf).2.2.2.2)
  have hn0 : Txn.nameB x.frm = true := by obtain ⟨g1, g2, -⟩ := Txn.fine_of hf; simp [Txn.nameB, g1, g2]
  have HN0 := Lib.hid hn0
  have hs0 := (Txn.fine_of hf).2.2
  have HS0 := Lib.hid (show 0 ≤ x.seq ∧ x.seq ≤ 1099511627776 from ⟨hs0.1, hs0.2.1⟩)
  obtain ⟨Az, capz, rfl⟩ := hz.form
  obtain ⟨Av, capv, rfl, -, -⟩ := hv.form
  obtain ⟨a0, a1, a2, a3, a4, a5, a6, a7⟩ := ra.cells
  have HNM := Lib.hid (fun (h : (Exc.acc S x.frm).2 = 0) => Exc.acc_name h)
  have HDO3 := Lib.hid (fun h2 => Exc.do3 (S := S) (x := x) hf h2)
  have HDO160 := Lib.hid (fun h2 h3 => Exc.do160 (S := S) (x := x) hf h2 h3)
  have HDOL := Lib.hid (fun h2 h3 => Exc.doLast (S := S) (x := x) hf h2 h3)
  have HA1 := Lib.hid (fun w' h => HCC.out x.frm w' h)
  obtain ⟨⟨⟨fn, fa, fs⟩, e⟩, hfe⟩ : ∃ p, Exc.acc S x.frm = p := ⟨_, rfl⟩
  rw [hfe] at HA1 HNM HDO3 HDO160 HDOL
  dsimp only at HA1 HNM HDO3 HDO160 HDOL
  unfold accval at HA1
  dsimp only at HA1
  unfold xval at HFI ⊢
  clear hb0 ra hz hq0 hf hk hv hl hS hfv hfe hn0 hs0
  go_enter Tryz.func18, Tryz.ntmps18
  go_upto_region 1 with fail
  try rw [hw0]
  try rw [HQ0.out]
  clear hw0
  go_wp2_with fail
  refine HFI.out.mono ?_
  rintro r w1 ⟨rfl, hb⟩
  have HB1 := Lib.hid (bchain HB0.out hb)
  have HX1 := Lib.hid (HX0.out.below hb)
  have HV1 := Lib.hid (RowsAt.below HV0.out hb)
  clear hb
  clear a0 a1 a2 a3 a4 a5 a6 a7
  obtain ⟨a0, a1, a2, a3, a4, a5, a6, a7⟩ := HX1.out.cells
  go_wp2_with fail
  refine (HA1.out _ HV1.out).mono ?_
  rintro r w2 ⟨rfl, hb⟩
  have HB2 := Lib.hid (bchain HB1.out hb)
  have HX2 := Lib.hid (HX1.out.below hb)
  have HV2 := Lib.hid (RowsAt.below HV1.out hb)
  clear hb
  obtain ⟨w3, hw3, hb, rb⟩ := acc_box (⟨fn, fa, fs⟩ : A) w2
  obtain ⟨q6, hq⟩ : ∃ q, w2.heap.size = q := ⟨_, rfl⟩
  rw [hq] at rb
  have Hq6 := Lib.hid hq
  have HG3 := Lib.hid rb
  have HLq6 : Hid (w.heap.size ≤ q6) := Lib.hid (by rw [← hq]; exact HB2.out.size)
  have HB3 := Lib.hid (bchain HB2.out hb)
  have HX3 := Lib.hid (HX2.out.below hb)
  have HV3 := Lib.hid (RowsAt.below HV2.out hb)
  clear hb
  clear rb hq
  clear a0 a1 a2 a3 a4 a5 a6 a7
  go_upto_region 4 with fail
  try rw [hw3]
  try rw [Hq6.out]
  clear hw3
  obtain ⟨gg0, gg1, gg2⟩ := HG3.out.cells
  dsimp only at gg0 gg1 gg2
  obtain ⟨w4, hw4, hb, rb⟩ := acc_box (⟨fn, fa, fs⟩ : A) w3
  obtain ⟨q8, hq⟩ : ∃ q, w3.heap.size = q := ⟨_, rfl⟩
  rw [hq] at rb
  have Hq8 := Lib.hid hq
  have HT4 := Lib.hid rb
  have HLq8 : Hid (w.heap.size ≤ q8) := Lib.hid (by rw [← hq]; exact HB3.out.size)
  have HB4 := Lib.hid (bchain HB3.out hb)
  have HX4 := Lib.hid (HX3.out.below hb)
  have HV4 := Lib.hid (RowsAt.below HV3.out hb)
  have HG4 := Lib.hid (HG3.out.below hb)
  clear hb
  clear rb hq
  have HNE : Hid (q6 ≠ q8) := Lib.hid (by have := Hq8.out; have := lt_of_heap HG3.out; omega)
  have HNX : Hid (q0 ≠ q8 ∧ q0 ≠ q6) := Lib.hid ⟨by have := Hq8.out; have := lt_of_heap HX3.out; omega, by have := Hq6.out; have := lt_of_heap HX2.out; omega⟩
  go_upto_region 5 with fail
  try rw [hw4]
  try rw [Hq8.out]
  clear hw4 gg0 gg1 gg2
  have r1 : (x.kind == 1) = false := beq_eq_false_iff_ne.2 (by have := HK.out; omega)
  have r2 : (x.kind == 2) = true := beq_iff_eq.2 HK.out
  have x0 := HX4.out.cells.1
  by_cases he : e = 0
  case neg =>
    have s1 : (e != 0) = true := by rw [bne_iff_ne]; exact he
    have HE := Lib.hid (HDO3.out (Or.inl he))
    clear he
    go_wp2
    go_ret2
    exact rdoPost_bad HE.out HB4.out
  subst he
  obtain ⟨nm, nb, na, ns⟩ := HNM.out rfl
  have HNF := Lib.hid nm
  have HWA := Lib.hid na
  have HWS := Lib.hid ns
  clear nm nb na ns
  have g2 := HG4.out.cells.2.2
  have x2 := HX4.out.cells.2.2.1
  dsimp only at g2
  have HN3 := Lib.hid (show ¬ ((0 : Int) ≠ 0 ∨ (x.kind = 1 ∧ (Exc.acc S x.dst).2 ≠ 0)) from by rintro (h | h); exact h rfl; have := HK.out; omega)
  by_cases hq : fs = x.seq
  case neg =>
    have s2 : (fs != x.seq) = true := by rw [bne_iff_ne]; exact hq
    have HE := Lib.hid (HDO160.out HN3.out (Or.inl hq))
    clear hq
    go_wp2
    go_ret2
    exact rdoPost_bad HE.out HB4.out
  have s2 : (fs != x.seq) = false := by rw [hq]; exact bne_self_eq_false _
  have HQS := Lib.hid hq
  clear hq
  by_cases hq : fs = 1099511627776
  · have s3 : (fs == 1099511627776) = true := beq_iff_eq.2 hq
    have HE := Lib.hid (HDO160.out HN3.out (Or.inr hq))
    clear hq
    go_wp2
    go_ret2
    exact rdoPost_bad HE.out HB4.out
  have s3 : (fs == 1099511627776) = false := beq_eq_false_iff_ne.2 hq
  have HDL := Lib.hid (HDOL.out HN3.out (fun h => h.elim (fun h => h HQS.out) hq))
  have HSQ := Lib.hid (show Exc.wi (fs + 1) = true from by have h := Exc.wi_of HWS.out; unfold Exc.wi Exc.most; rw [decide_eq_true (by omega), decide_eq_true (by omega)]; rfl)
  have HSW := Lib.hid (wrap_two (n := fs + 1) (by have h := Exc.wi_of HWS.out; omega) (by have h := Exc.wi_of HWS.out; omega))
  clear hq
  have x0 := HX4.out.cells.1
  have e1 := cat_mk [100, 58] x.key
  rw [show [100, 58] ++ x.key = Exc.dK x.key from rfl] at e1
  have hg : ¬ (9223372036854775807 < 2 + x.key.length) := by have := HK.out; rcases HKO.out with ⟨h, _⟩ | ⟨h, q⟩ | ⟨h, _⟩ | ⟨h, _⟩ <;> omega
  have HPK := Lib.hid (rtPut_all S (.slice Av S.length capv) (Exc.dK x.key) x.val w4 HV4.out (by have := HL.out; omega))
  unfold RtPutPost at HPK
  have HKP : Hid (Exc.kindP S x (⟨fn, fa, fs⟩ : A) (Exc.acc S x.dst).1 = (Tri.put S (Exc.dK x.key) x.val, ((Tri.putC S (Exc.dK x.key) x.val : Nat) : Int), fa)) := Lib.hid (by unfold Exc.kindP; rw [if_neg (by have := HK.out; omega), if_pos HK.out])
  have HPL : Hid (Tri.putL S (Exc.dK x.key) x.val = if Tri.putC S (Exc.dK x.key) x.val = 0 then Tri.put S (Exc.dK x.key) x.val else []) := Lib.hid rfl
  have HRL : Hid ((Tri.put S (Exc.dK x.key) x.val).length ≤ 10000) := Lib.hid (by rw [Tri.put_len]; have := HL.out; split <;> omega)
  obtain ⟨c, hc⟩ : ∃ c, Tri.putC S (Exc.dK x.key) x.val = c := ⟨_, rfl⟩
  obtain ⟨R, hR⟩ : ∃ R, Tri.put S (Exc.dK x.key) x.val = R := ⟨_, rfl⟩
  obtain ⟨K1, hK1⟩ : ∃ K, Exc.dK x.key = K := ⟨_, rfl⟩
  rw [hc] at HPK HKP HPL
  rw [hR] at HKP HPL HRL
  rw [hK1] at HPK HPL e1
  clear hc hR hK1
  have x5 := HX4.out.cells.2.2.2.2.2.1
  have x6 := HX4.out.cells.2.2.2.2.2.2.1
  go_wp2_with fail
  refine HPK.out.mono ?_
  rintro r w5 ⟨zr, rfl, hir, hb⟩
  have HIR := Lib.hid hir
  clear hir
  have HB5 := Lib.hid (bchain HB4.out hb)
  have HX5 := Lib.hid (HX4.out.below hb)
  have HG5 := Lib.hid (HG4.out.below hb)
  clear hb
  by_cases hc0 : c = 0
  case neg =>
    have s4 : ((c : Int) != 0) = true := by rw [bne_iff_ne]; omega
    have HE := Lib.hid (show Exc.doP S x = (([] : St), ((c : Nat) : Int)) from HDL.out.trans (by rw [HKP.out]; exact Exc.last_bad (show ((c : Nat) : Int) ≠ 0 by omega)))
    clear hc0
    go_wp2
    go_ret2
    exact rdoPost_bad HE.out HB5.out
  subst hc0
  rw [HPL.out, if_pos rfl] at HIR
  obtain ⟨Ar, capr, rfl, -, -⟩ := RowsAt.form HIR.out
  clear s2 s3 e1 hg x0 x2 x5 x6 g2
  have HDN := Lib.hid (show Exc.doP S x = Exc.lastP x.frm fs (R, 0, fa) from HDL.out.trans (by rw [HKP.out]; rfl))
  have HWV := Lib.hid (HWA.out)
  have HVAL := Lib.hid (fun w' => rvalue_any (⟨fn, fa, fs + 1⟩ : A) w' HWV.out HSQ.out)
  unfold accval at HVAL
  have hnl : x.frm.length ≤ 6 := by have := HN0.out; simp only [Txn.nameB, Bool.and_eq_true, decide_eq_true_eq] at this; exact this.2
  have e9 := cat_mk [97, 58] x.frm
  rw [show [97, 58] ++ x.frm = Exc.aK x.frm from rfl] at e9
  have hg9 : ¬ (9223372036854775807 < 2 + x.frm.length) := by omega
  clear hnl
  have g2 := HG5.out.cells.2.2
  have gf := HG5.out.free 2
  dsimp only at g2
  obtain ⟨sw1, sw2⟩ := HSW.out
  have HGz := Lib.hid (HG5.out.setSeq (fs + 1))
  have HBz : Hid (Below w.heap.size w (w5.setCell ⟨q6, 2, none⟩ (.int .i64 (fs + 1)))) := Lib.hid (HB5.out.trans (((Only.refl q6 w5).setCell (p := ⟨q6, 2, none⟩) rfl _).below HLq6.out HB5.out.size))
  have HXz : Hid (TxAt (w5.setCell ⟨q6, 2, none⟩ (.int .i64 (fs + 1))) q0 x (.slice Az x.mem.length capz)) := Lib.hid ((((Only.refl q6 w5).setCell (p := ⟨q6, 2, none⟩) rfl (.int .i64 (fs + 1))).block q0 (lt_of_heap HX5.out) HNX.out.2).trans HX5.out)
  have HRz : Hid (ItAt (w5.setCell ⟨q6, 2, none⟩ (.int .i64 (fs + 1))) (.slice Ar R.length capr) (R)) := Lib.hid (RowsAt.outF HIR.out (F := fun k => k = q6) (((Only.refl q6 w5).setCell (p := ⟨q6, 2, none⟩) rfl _).out) (fun k cs fl hk e => by rw [hk] at e; exact typ_no HG5.out (by decide) e))
  obtain ⟨wz, hwz⟩ : ∃ wz, w5.setCell ⟨q6, 2, none⟩ (.int .i64 (fs + 1)) = wz := ⟨_, rfl⟩
  rw [hwz] at HGz HBz HXz HRz
  have HPU : Hid (∀ w', Below wz.heap.size wz w' → Calls Tryz.prog 29 #[.slice Ar R.length capr, .string ⟨(Exc.aK x.frm).toArray⟩, .string ⟨(Exc.valS fa (fs + 1)).toArray⟩] w' fun e w'' => ∃ v', e = .returned (.tuple #[v', .int .i64 (Tri.putC (R) (Exc.aK x.frm) (Exc.valS fa (fs + 1)) : Nat)]) ∧ ItAt w'' v' (Tri.putL (R) (Exc.aK x.frm) (Exc.valS fa (fs + 1))) ∧ Below wz.heap.size wz w'') := Lib.hid (fun w' h => by
    have h2 := rtPut_all (R) (.slice Ar R.length capr) (Exc.aK x.frm) (Exc.valS fa (fs + 1)) w' (RowsAt.below HRz.out h) (HRL.out)
    unfold RtPutPost at h2
    exact h2.mono fun e w'' ⟨v', p, q, r⟩ => ⟨v', p, q, bchain h r⟩)
  obtain ⟨Y, hY⟩ : ∃ Y, Exc.valS fa (fs + 1) = Y := ⟨_, rfl⟩
  obtain ⟨K, hK⟩ : ∃ K, Exc.aK x.frm = K := ⟨_, rfl⟩
  have HYE := Lib.hid hY
  have HKE := Lib.hid hK
  rw [hY] at HVAL HPU
  rw [hK] at HPU e9
  clear hY hK
  have HVA : Hid (∀ w', Below wz.heap.size wz w' → Calls Tryz.prog 38 #[.agg #[.string ⟨fn.toArray⟩, .int .i64 fa, .int .i64 (fs + 1)]] w' fun e w'' => e = .returned (.string ⟨Y.toArray⟩) ∧ Below wz.heap.size wz w'') := Lib.hid (fun w' h => (HVAL.out w').mono fun e w'' ⟨p, q⟩ => ⟨p, bchain h q⟩)
  have HCE : Hid (∀ w', Below wz.heap.size wz w' → w'.cell? ⟨q0, 1, none⟩ = some (.string ⟨x.frm.toArray⟩) ∧ w'.cell? ⟨q6, 0, none⟩ = some (.string ⟨fn.toArray⟩) ∧ w'.cell? ⟨q6, 1, none⟩ = some (.int .i64 (fa)) ∧ w'.cell? ⟨q6, 2, none⟩ = some (.int .i64 (fs + 1))) := Lib.hid (fun w' h => ⟨(HXz.out.below h).cells.2.1, (HGz.out.below h).cells⟩)
  have BD : Below wz.heap.size wz wz.drew := (Below.refl _ _).drew
  obtain ⟨d0, d1, d2, d3⟩ := HCE.out _ (Below.refl _ _)
  go_upto_region 33 with fail
  go_region_with (first | (go_at_call 38; refine (HVA.out _ (by with_reducible assumption)).mono ?_; rintro r wa ⟨rfl, hba⟩; obtain ⟨j0, j1, j2, j3⟩ := HCE.out _ hba) | (go_at_call 29; refine (HPU.out _ (by with_reducible assumption)).mono ?_; rintro r wb ⟨zb, rfl, hib, hbb⟩))
  all_goals
    have HBB := Lib.hid (bchain HBz.out hbb)
    have HIB := Lib.hid hib
    clear hbb hib
    rw [← HYE.out, ← HKE.out] at HIB
    rw [← HYE.out, ← HKE.out]
    go_wp2
    go_ret2
    exact rdoPost_last HDN.out HIB.out HBB.out
end Go.Proofs.YtlckcfpdiigjiaaGreatDoor
