/- The law ExecSum, walked. -/
import Derived.Test.YtlckcfpdiigjiaaDoorPk15
import Derived.Test.YtlckcfpdiigjiaaDoorPk16
namespace Go.Proofs.YtlckcfpdiigjiaaDoor
open Go.RowKit
open Sto (T St)
open Go.Proofs.YtlckcfpdiigjiaaDoor.Pw (M)
open Go.Proofs.YtlckcfpdiigjiaaDoor.Txn (X)
open Go.Proofs.YtlckcfpdiigjiaaDoor.Exc (A)
theorem Exc.allC_some (L : List X) : Exc.allC L = 0 ∨ Exc.allC L = 2 ∨ Exc.allC L = 150 := by
  unfold Exc.allC
  split
  · exact Or.inr (Or.inl rfl)
  · split
    · exact Or.inr (Or.inr rfl)
    · exact Or.inl rfl
set_option maxRecDepth 100000 in
set_option maxHeartbeats 16000000 in
theorem execSum_walk (C : List A) (N : List M) (I : St) (za zm zi : Value) (L : List X) (v : Value) (w : World) (ha : AccIn w za C) (hm : Mems w zm N) (hi : ItIn w zi I) (lC : C.length ≤ maxLen) (lN : N.length ≤ maxLen) (lI : I.length ≤ maxLen) (hu : Txs w v L) (lL : L.length ≤ maxLen) (hT : Tab w) :
    Calls Tryd.prog 3 #[.agg #[za, zm, zi], v] w fun r w' => r = .returned (.bool true) ∧ Below w.heap.size w w' := by
  obtain ⟨w0, hw0, hb0, rs⟩ := start_box za zm zi w
  have HB0 := Lib.hid hb0
  have HTB := Lib.hid hT
  obtain ⟨q0, hq0⟩ : ∃ q, w.heap.size = q := ⟨_, rfl⟩
  rw [hq0] at rs
  have HQ0 := Lib.hid hq0
  have HW0 := Lib.hid hw0
  have HS0 := Lib.hid rs
  have HWK := Lib.hid (eworks_any w0 (hT.below hb0))
  have HGE : Hid (∀ w', Below w.heap.size w w' → Calls Tryd.prog 7 #[.agg #[za, zm, zi]] w' (GPost C N w')) := Lib.hid (fun w' h => egen_any C N za zm zi w' (RowsIn.below ha h) (hm.below h) (hT.below h))
  have HBG : Hid (∀ w', Below w.heap.size w w' → Calls Tryd.prog 8 #[.agg #[za, zm, zi], v] w' (EBigPost w' C N I L)) := Lib.hid (fun w' h => ebig_any C N I L za zm zi v w' (RowsIn.below ha h) (hm.below h) (RowsIn.below hi h) (hu.below h) lC lN lI lL)
  have HUU : Hid (∀ w', Below w.heap.size w w' → Txs w' v L) := Lib.hid (fun w' h => hu.below h)
  have HGG := Lib.hid (fun h => Exc.genP_good (L := C) (set := N) h)
  unfold GPost at HGE
  unfold EBigPost at HBG
  obtain ⟨⟨S, c⟩, hS⟩ : ∃ p, Exc.genP C N = p := ⟨_, rfl⟩
  rw [hS] at HGE HGG
  dsimp only at HGE HGG
  obtain ⟨A1, cap1, rfl, -, -⟩ := RowsIn.form ha
  obtain ⟨A2, cap2, rfl⟩ := hm.form
  obtain ⟨A3, cap3, rfl, -, -⟩ := RowsIn.form hi
  obtain ⟨Au, capu, rfl⟩ := hu.form
  clear ha hm hi lC lN lI hu lL hT hb0 rs hq0 hw0 hS
  go_enter Tryd.func3, Tryd.ntmps3
  go_upto_region 1 with fail
  try rw [HW0.out]
  try rw [HQ0.out]
  go_wp2_with fail
  refine HWK.out.mono ?_
  rintro r w1 ⟨rfl, hb⟩
  have HB1 := Lib.hid (bchain HB0.out hb)
  have HS1 := Lib.hid (HS0.out.below hb)
  clear hb
  obtain ⟨p0, p1, p2⟩ := HS1.out.cells
  go_wp2_with fail
  refine (HGE.out _ HB1.out).mono ?_
  rintro r w2 ⟨z, rfl, h1, h2, hb⟩
  obtain ⟨pz, rfl⟩ := tri_form h1 h2
  have HZ1 := Lib.hid h1
  have HZ2 : Hid (c ≠ 0 → pz = none) := Lib.hid (fun h => by have := h2 h; unfold nilp at this; injection this)
  clear h1 h2 p0 p1 p2
  have HB2 := Lib.hid (bchain HB1.out hb)
  have HS2 := Lib.hid (HS1.out.below hb)
  clear hb
  obtain ⟨p0, p1, p2⟩ := HS2.out.cells
  go_wp2_with fail
  refine (HBG.out _ HB2.out).mono ?_
  rintro r w3 ⟨bb, rfl, hfit, hb⟩
  have HFIT := Lib.hid hfit
  have HZ3 : Hid (c = 0 → ∃ g, Value.pointer pz = ptr g ∧ TrAt w3 g S) := Lib.hid (fun h => by obtain ⟨g, e, h2⟩ := HZ1.out h; exact ⟨g, e, h2.below hb⟩)
  clear hfit HZ1 p0 p1 p2
  have HB3 := Lib.hid (bchain HB2.out hb)
  have HS3 := Lib.hid (HS2.out.below hb)
  clear hb
  cases bb with
  | true =>
    go_wp2
    go_ret
    exact ⟨rfl, HB3.out⟩
  | false =>
  have HFI := Lib.hid (HFIT.out rfl)
  clear HFIT
  by_cases hc : c = 0
  case neg =>
    obtain rfl := HZ2.out hc
    clear hc
    go_wp2
    go_ret
    exact ⟨rfl, HB3.out⟩
  subst hc
  obtain ⟨g, hg, ht⟩ := HZ3.out rfl
  have HT3 := Lib.hid ht
  obtain ⟨hri, hgd, hln⟩ := HGG.out rfl
  have HRI := Lib.hid hri
  have HGD := Lib.hid hgd
  have HLN := Lib.hid hln
  unfold ptr at hg
  rw [hg]
  clear hg ht hri hgd hln HZ2 HZ3 HGG HGE HBG
  have HAL := Lib.hid (eall_any (g := g) S (.slice Au L.length capu) L w3 HT3.out (HTB.out.below HB3.out) (HUU.out _ HB3.out))
  unfold EAllPost ptr at HAL
  have HCS := Lib.hid (Exc.allC_some L)
  have HRS := Lib.hid (Exc.run_sum (d := ⟨S, [], []⟩) HRI.out HGD.out L)
  have HRC := Lib.hid (Exc.run_rc ⟨S, [], []⟩ L)
  obtain ⟨D, hD⟩ : ∃ D, Exc.runA ⟨S, [], []⟩ L = D := ⟨_, rfl⟩
  rw [hD] at HAL HRS HRC
  dsimp only at HRS HRC
  obtain ⟨e, he⟩ : ∃ e, Exc.allC L = e := ⟨_, rfl⟩
  rw [he] at HAL HCS
  clear hD he
  go_wp2_with fail
  refine HAL.out.mono ?_
  rintro r w4 ⟨zs, zr, zn, rfl, h1, h2, hb⟩
  have H1 := Lib.hid h1
  have H2 := Lib.hid h2
  clear h1 h2
  have HB4 := Lib.hid (bchain HB3.out hb)
  have HT4 := Lib.hid (HT3.out.below hb)
  clear hb
  by_cases he : e = 0
  case neg =>
    obtain ⟨rfl, rfl, rfl⟩ := H2.out he
    have s1 : (e != 0) = true := by rw [bne_iff_ne]; exact he
    try unfold nilp
    rcases HCS.out with rfl | rfl | rfl
    · exact absurd rfl he
    · clear he
      go_wp2
      go_ret
      exact ⟨rfl, HB4.out⟩
    · clear he
      go_wp2
      go_ret
      exact ⟨rfl, HB4.out⟩
  subst he
  obtain ⟨gs, rfl, hts, hrc, -⟩ := H1.out rfl
  have HS4_ := Lib.hid hts
  obtain ⟨Ar, capr, hzr⟩ := own_form hrc
  subst hzr
  have HRL : Hid (D.rc.length = L.length) := Lib.hid (by have := HRC.out; simpa using this)
  clear hts hrc H1 H2 HCS
  try unfold ptr
  rw [HRL.out]
  have HE1 := Lib.hid (fun w' h => esum_any (g := g) S w' h HGD.out)
  have HE2 := Lib.hid (fun w' h => esum_any (g := gs) D.st w' h HRS.out.2)
  rw [HRS.out.1] at HE2
  have HPO := Lib.hid (Exc.sumS_bound S).1
  obtain ⟨Q, hQ⟩ : ∃ Q, Exc.sumS S = Q := ⟨_, rfl⟩
  rw [hQ] at HE1 HE2 HPO
  unfold ptr at HE1 HE2
  clear hQ
  have s2 : decide ((0 : Int) ≤ Q) = true := decide_eq_true HPO.out
  have s3 : (Q == Q) = true := beq_self_eq_true _
  have s4 : ((L.length : Int) == (L.length : Int)) = true := beq_self_eq_true _
  go_wp2_with fail
  refine (HE1.out _ HT4.out).mono ?_
  rintro r w5 ⟨rfl, hb⟩
  have HB5 := Lib.hid (bchain HB4.out hb)
  have HT5 := Lib.hid (HT4.out.below hb)
  have HS5_ := Lib.hid (HS4_.out.below hb)
  clear hb
  go_wp2_with fail
  refine (HE2.out _ HS5_.out).mono ?_
  rintro r w6 ⟨rfl, hb⟩
  have HB6 := Lib.hid (bchain HB5.out hb)
  have HT6 := Lib.hid (HT5.out.below hb)
  clear hb
  go_wp2_with fail
  refine (HE1.out _ HT6.out).mono ?_
  rintro r w7 ⟨rfl, hb⟩
  have HB7 := Lib.hid (bchain HB6.out hb)
  clear hb
  go_wp2
  go_ret
  exact ⟨rfl, HB7.out⟩
theorem execSum_law (za : Value) (C : List A) (zm : Value) (N : List M) (zi : Value) (I : St) (v : Value) (L : List X) (w : World) (ha : AccIn w za C) (hC : C.length ≤ maxLen ∧ ∀ a ∈ C, (Lit.int .i64 a.amt).wf = true ∧ (Lit.int .i64 a.seq).wf = true) (hm : Mems w zm N) (hN : N.length * 24 ≤ reachBytes) (hi : ItIn w zi I) (hI : I.length ≤ maxLen) (hu : Txs w v L) (hL : L.length ≤ maxLen) (_ : ∀ x ∈ L, OkX x) (hT : Tab w) :
    Calls Tryd.prog 3 #[.agg #[za, zm, zi], v] w fun r w' => r = .returned (.bool true) ∧ Below w.heap.size w w' :=
  execSum_walk C N I za zm zi L v w ha hm hi hC.1 (by unfold maxLen; unfold reachBytes at hN; omega) hI hu hL hT
end Go.Proofs.YtlckcfpdiigjiaaDoor
