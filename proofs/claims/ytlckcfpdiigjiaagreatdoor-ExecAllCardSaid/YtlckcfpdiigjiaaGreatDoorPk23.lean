/- ExecOneWalk, ShaLaid, ExecJoin, TxsC, BookBelow -/
import Derived.Test.YtlckcfpdiigjiaaGreatDoorPk22
import Derived.Test.YtlckcfpdiigjiaaGreatDoorPk20
import Derived.Test.YtlckcfpdiigjiaaGreatDoorRows
import Derived.Test.YtlckcfpdiigjiaaGreatDoorPk02
import Derived.Lib.LaidU8
import Derived.LaidMore
import Derived.Stop.Joined
import Derived.ProofKit
import Derived.Test.YtlckcfpdiigjiaaGreatDoorPk18
import Derived.BigFrame
import Derived.Test.YtlckcfpdiigjiaaGreatDoorPk06
import Derived.Test.YtlckcfpdiigjiaaGreatDoorPk01
import Derived.Lib.Strings
namespace Go.Proofs.YtlckcfpdiigjiaaGreatDoor
open Go.RowKit
open Sto (T St)
open Go.Proofs.YtlckcfpdiigjiaaGreatDoor.Pw (M)
open Go.Proofs.YtlckcfpdiigjiaaGreatDoor.Txn (X)
open Go.Proofs.YtlckcfpdiigjiaaGreatDoor.Exc (A)

theorem TrAt.small {w : World} {g : Nat} {S : St} (h : TrAt w g S) : ∀ p ∈ S, p.2.length ≤ 1000000 := fun p hp => by have := h.vals p hp; omega
set_option maxRecDepth 100000 in
set_option maxHeartbeats 16000000 in
theorem execOne_walk (C : List A) (N : List M) (I : St) (za zm zi : Value) (x : X) (z : Value) (n1 n2 : T) (w : World) (ha : AccIn w za C) (hm : Mems w zm N) (hi : ItIn w zi I) (lC : C.length ≤ maxLen) (lN : N.length ≤ maxLen) (lI : I.length ≤ maxLen) (hz : Mems w z x.mem) (hT : Tab w) :
    Calls Tryz.prog 4 #[.agg #[za, zm, zi], xval x z, .agg #[.string ⟨n1.toArray⟩, .string ⟨n2.toArray⟩]] w fun r w' => r = .returned (.bool true) ∧ Below w.heap.size w w' := by
  obtain ⟨Az, capz, rfl⟩ := hz.form
  obtain ⟨w0, hw0, hb0, rs, rx, rp⟩ := one_box za zm zi x (.slice Az x.mem.length capz) n1 n2 w
  have HB0 := Lib.hid hb0
  have HTB := Lib.hid hT
  have HWK := Lib.hid (fun w' h => eworks_any w' h)
  obtain ⟨q0, hq0⟩ : ∃ q, w.heap.size = q := ⟨_, rfl⟩
  rw [hq0] at rs rx rp
  have HQ0 := Lib.hid hq0
  have HW0 := Lib.hid hw0
  have HS0 := Lib.hid rs
  have HX0 := Lib.hid rx
  have HP0 := Lib.hid rp
  have HBG : Hid (∀ w' v, Below w.heap.size w w' → Txs w' v [x] → Calls Tryz.prog 6 #[.agg #[za, zm, zi], v] w' (EBigPost w' C N I [x])) := Lib.hid (fun w' v h h2 => ebig_any C N I [x] za zm zi v w' (RowsIn.below ha h) (hm.below h) (RowsIn.below hi h) h2 lC lN lI (by simp [maxLen]))
  have HBE : Hid (∀ w', Below w.heap.size w w' → Calls Tryz.prog 8 #[.agg #[za, zm, zi]] w' (BegPost w')) := Lib.hid (fun w' h => begun_any C N I za zm zi w' (RowsIn.below ha h) (hm.below h) (RowsIn.below hi h) lI (hT.below h))
  have HMM : Hid (∀ w', Below w.heap.size w w' → Mems w' (.slice Az x.mem.length capz) x.mem) := Lib.hid (fun w' h => hz.below h)
  have HTX := Lib.hid (fun w' (h : Below w.heap.size w w') => txs_oneE w' x Az x.mem.length capz (hz.below h))
  obtain ⟨A1, cap1, rfl, -, -⟩ := RowsIn.form ha
  obtain ⟨A2, cap2, rfl⟩ := hm.form
  obtain ⟨A3, cap3, rfl, -, -⟩ := RowsIn.form hi
  unfold EBigPost at HBG
  unfold BegPost at HBE
  unfold xval
  clear ha hm hi lC lN lI hz hT hb0 rs rx rp hq0 hw0
  go_enter Tryz.func4, Tryz.ntmps4
  go_upto_region 1 with fail
  try rw [HW0.out]
  try rw [HQ0.out]
  obtain ⟨p0, p1, p2⟩ := HS0.out.cells
  obtain ⟨a0, a1, a2, a3, a4, a5, a6, a7⟩ := HX0.out.cells
  go_wp2_with fail
  have htx := HTX.out w0 HB0.out
  obtain ⟨w1, hw1, hb, -⟩ := tx_box x (.slice Az x.mem.length capz) w0
  rw [hw1] at htx
  try rw [hw1]
  have HBC := Lib.hid (HBG.out w1 _ (bchain HB0.out hb) htx)
  have HB1 := Lib.hid (bchain HB0.out hb)
  have HS1 := Lib.hid (HS0.out.below hb)
  have HX1 := Lib.hid (HX0.out.below hb)
  have HP1 := Lib.hid (HP0.out.below hb)
  clear hb htx hw1
  refine HBC.out.mono ?_
  rintro r w2 ⟨bb, rfl, hfit, hb⟩
  have HFIT := Lib.hid hfit
  clear hfit a0 a1 a2 a3 a4 a5 a6 a7 p0 p1 p2
  have HB2 := Lib.hid (bchain HB1.out hb)
  have HS2 := Lib.hid (HS1.out.below hb)
  have HX2 := Lib.hid (HX1.out.below hb)
  have HP2 := Lib.hid (HP1.out.below hb)
  clear hb
  obtain ⟨m0, m1⟩ := HP2.out.cells
  cases bb with
  | true =>
    go_wp2_with fail
    refine (HWK.out _ (HTB.out.below HB2.out)).mono ?_
    rintro r wz ⟨rfl, hbz⟩
    have HBZ := Lib.hid (bchain HB2.out hbz)
    clear hbz
    go_wp2
    go_ret
    exact ⟨rfl, HBZ.out⟩
  | false =>
  have HFI := Lib.hid (HFIT.out rfl)
  by_cases h1 : 100 < n1.length
  · have s1 : decide ((100 : Int) < (n1.length : Int)) = true := decide_eq_true (by omega)
    clear h1
    go_wp2_with fail
    refine (HWK.out _ (HTB.out.below HB2.out)).mono ?_
    rintro r wz ⟨rfl, hbz⟩
    have HBZ := Lib.hid (bchain HB2.out hbz)
    clear hbz
    go_wp2
    go_ret
    exact ⟨rfl, HBZ.out⟩
  have s1 : decide ((100 : Int) < (n1.length : Int)) = false := decide_eq_false (by omega)
  by_cases h2 : 100 < n2.length
  · have s2 : decide ((100 : Int) < (n2.length : Int)) = true := decide_eq_true (by omega)
    clear h1 h2
    go_wp2_with fail
    refine (HWK.out _ (HTB.out.below HB2.out)).mono ?_
    rintro r wz ⟨rfl, hbz⟩
    have HBZ := Lib.hid (bchain HB2.out hbz)
    clear hbz
    go_wp2
    go_ret
    exact ⟨rfl, HBZ.out⟩
  have s2 : decide ((100 : Int) < (n2.length : Int)) = false := decide_eq_false (by omega)
  have HN1 : Hid (n1.length ≤ 1000000) := Lib.hid (by omega)
  have HN2 : Hid (n2.length ≤ 1000000) := Lib.hid (by omega)
  have HN3 : Hid (n1.length ≤ 100) := Lib.hid (by omega)
  clear h1 h2
  obtain ⟨p0, p1, p2⟩ := HS2.out.cells
  go_wp2_with fail
  refine (HBE.out _ HB2.out).mono ?_
  rintro r w3 ⟨zt, ze, rfl, hor, hb⟩
  have HOR := Lib.hid hor
  clear hor p0 p1 p2 m0 m1 s1 s2
  have HB3 := Lib.hid (bchain HB2.out hb)
  have HS3 := Lib.hid (HS2.out.below hb)
  have HX3 := Lib.hid (HX2.out.below hb)
  have HP3 := Lib.hid (HP2.out.below hb)
  clear hb
  rcases HOR.out with ⟨rfl, rfl⟩ | ⟨g, S, rfl, ht, hit⟩
  · unfold nilp
    go_wp2_with fail
    refine (HWK.out _ (HTB.out.below HB3.out)).mono ?_
    rintro r wz ⟨rfl, hbz⟩
    have HBZ := Lib.hid (bchain HB3.out hbz)
    clear hbz
    go_wp2
    go_ret
    exact ⟨rfl, HBZ.out⟩
  have HT3 := Lib.hid ht
  have HI3 := Lib.hid hit
  have HFW : Hid (S.length ≤ 1024) := Lib.hid ht.few
  have HRI := Lib.hid ht.rise
  have HSM := Lib.hid ht.small
  clear ht hit HOR
  obtain ⟨Ai, capi, rfl, -, -⟩ := RowsAt.form HI3.out
  unfold ptr
  have HDO := Lib.hid (edo_any (g := g) S x (.slice Az x.mem.length capz) w3 HT3.out (HTB.out.below HB3.out) (HMM.out _ HB3.out))
  have HRD := Lib.hid (fun w' h h2 => rdo_any S (.slice Ai S.length capi) x (.slice Az x.mem.length capz) w' h (by have := HFW.out; omega) HRI.out HSM.out h2)
  unfold RDoPost at HRD
  obtain ⟨⟨R, c⟩, hR⟩ : ∃ p, Exc.doP S x = p := ⟨_, rfl⟩
  rw [hR] at HDO HRD
  dsimp only at HDO HRD
  unfold xval ptr at HDO
  unfold xval at HRD
  clear hR
  obtain ⟨a0, a1, a2, a3, a4, a5, a6, a7⟩ := HX3.out.cells
  go_wp2_with fail
  refine HDO.out.mono ?_
  rintro r w4 ⟨zo, rfl, h1, h2, hb⟩
  obtain ⟨po, rfl⟩ := tri_form h1 h2
  have HZ1 := Lib.hid h1
  have HZ2 : Hid (c ≠ 0 → po = none) := Lib.hid (fun h => by have := h2 h; unfold nilp at this; injection this)
  clear h1 h2
  clear a0 a1 a2 a3 a4 a5 a6 a7
  have HB4 := Lib.hid (bchain HB3.out hb)
  have HX4 := Lib.hid (HX3.out.below hb)
  have HP4 := Lib.hid (HP3.out.below hb)
  have HT4 := Lib.hid (HT3.out.below hb)
  have HI4 := Lib.hid (RowsAt.below HI3.out hb)
  clear hb
  obtain ⟨a0, a1, a2, a3, a4, a5, a6, a7⟩ := HX4.out.cells
  go_wp2_with fail
  refine (HRD.out _ HI4.out (HMM.out _ HB4.out)).mono ?_
  rintro r w5 ⟨zr, rfl, hir, hb⟩
  obtain ⟨Ar, capr, rfl, -, -⟩ := RowsAt.form hir
  have HIR5 := Lib.hid hir
  have HZ5 : Hid (c = 0 → ∃ g', Value.pointer po = ptr g' ∧ TrAt w5 g' R) := Lib.hid (fun h => by obtain ⟨g', e, h2⟩ := HZ1.out h; exact ⟨g', e, h2.below hb⟩)
  clear hir HZ1 a0 a1 a2 a3 a4 a5 a6 a7
  have HB5 := Lib.hid (bchain HB4.out hb)
  have HX5 := Lib.hid (HX4.out.below hb)
  have HP5 := Lib.hid (HP4.out.below hb)
  have HT5 := Lib.hid (HT4.out.below hb)
  have HI5 := Lib.hid (RowsAt.below HI4.out hb)
  clear hb
  have s1 : (c != c) = false := bne_self_eq_false _
  by_cases hc : c = 0
  case neg =>
    obtain rfl := HZ2.out hc
    have s2 : (c != 0) = true := by rw [bne_iff_ne]; exact hc
    clear hc
    have HA1 := Lib.hid (fun w' h => eaccount_any (gt := g) S n1 w' h HN1.out)
    have HA2 := Lib.hid (fun w' h => raccount_any S (.slice Ai S.length capi) n1 w' h (by have := HFW.out; omega) HRI.out HSM.out)
    have HD1 := Lib.hid (fun w' h => edata_any (gt := g) S n2 w' h HN2.out)
    have HD2 := Lib.hid (fun w' h => rdata_any S (.slice Ai S.length capi) n2 w' h (by have := HFW.out; omega) HRI.out)
    obtain ⟨⟨⟨na, aa, sa⟩, ea⟩, hea⟩ : ∃ p, Exc.acc S n1 = p := ⟨_, rfl⟩
    rw [hea] at HA1 HA2
    dsimp only at HA1 HA2
    unfold accval ptr at HA1
    unfold accval at HA2
    dsimp only at HA1 HA2
    obtain ⟨⟨dv, de⟩, hde⟩ : ∃ p, Exc.dat S n2 = p := ⟨_, rfl⟩
    rw [hde] at HD1 HD2
    dsimp only at HD1 HD2
    unfold ptr at HD1
    clear hea hde
    have heq : ∀ w, (Op.equalIn 10000 55 (.agg #[.string ⟨na.toArray⟩, .int .i64 aa, .int .i64 sa]) (.agg #[.string ⟨na.toArray⟩, .int .i64 aa, .int .i64 sa])).run Tryz.prog w = .ok true w := fun w => by
      have h := eq_acc (⟨na, aa, sa⟩ : A) ⟨na, aa, sa⟩ w
      rw [decide_eq_true rfl] at h
      exact h
    obtain ⟨m0, m1⟩ := HP5.out.cells
    go_wp2_with fail
    refine (HA1.out _ HT5.out).mono ?_
    rintro r wa ⟨rfl, hb⟩
    have HBa := Lib.hid (bchain HB5.out hb)
    have HPa := Lib.hid (HP5.out.below hb)
    have HTa := Lib.hid (HT5.out.below hb)
    have HIa := Lib.hid (RowsAt.below HI5.out hb)
    clear hb
    obtain ⟨wb, hwb, hb, rb⟩ := acc_box (⟨na, aa, sa⟩ : A) wa
    obtain ⟨qb, hq⟩ : ∃ q, wa.heap.size = q := ⟨_, rfl⟩
    rw [hq] at rb
    have Hqb := Lib.hid hq
    have HGb := Lib.hid rb
    have HWb := Lib.hid hwb
    have HBb := Lib.hid (bchain HBa.out hb)
    have HPb := Lib.hid (HPa.out.below hb)
    have HTb := Lib.hid (HTa.out.below hb)
    have HIb := Lib.hid (RowsAt.below HIa.out hb)
    clear hb
    clear rb hq hwb
    clear m0 m1
    go_upto_region 11 with fail
    try dsimp only at HWb
    try rw [HWb.out]
    try rw [Hqb.out]
    obtain ⟨m0, m1⟩ := HPb.out.cells
    go_wp2_with fail
    refine (HA2.out _ HIb.out).mono ?_
    rintro r wc ⟨rfl, hb⟩
    have HBc := Lib.hid (bchain HBb.out hb)
    have HPc := Lib.hid (HPb.out.below hb)
    have HTc := Lib.hid (HTb.out.below hb)
    have HIc := Lib.hid (RowsAt.below HIb.out hb)
    have HGc := Lib.hid (HGb.out.below hb)
    clear hb
    obtain ⟨wd, hwd, hb, rb⟩ := acc_box (⟨na, aa, sa⟩ : A) wc
    obtain ⟨qd, hq⟩ : ∃ q, wc.heap.size = q := ⟨_, rfl⟩
    rw [hq] at rb
    have Hqd := Lib.hid hq
    have HUd := Lib.hid rb
    have HWd := Lib.hid hwd
    have HBd := Lib.hid (bchain HBc.out hb)
    have HPd := Lib.hid (HPc.out.below hb)
    have HTd := Lib.hid (HTc.out.below hb)
    have HId := Lib.hid (RowsAt.below HIc.out hb)
    have HGd := Lib.hid (HGc.out.below hb)
    clear hb
    clear rb hq hwd
    clear m0 m1
    go_upto_region 12 with fail
    try dsimp only at HWd
    try rw [HWd.out]
    try rw [Hqd.out]
    obtain ⟨m0, m1⟩ := HPd.out.cells
    go_wp2_with fail
    refine (HD1.out _ HTd.out).mono ?_
    rintro r we ⟨rfl, hb⟩
    have HBe := Lib.hid (bchain HBd.out hb)
    have HPe := Lib.hid (HPd.out.below hb)
    have HTe := Lib.hid (HTd.out.below hb)
    have HIe := Lib.hid (RowsAt.below HId.out hb)
    have HGe := Lib.hid (HGd.out.below hb)
    have HUe := Lib.hid (HUd.out.below hb)
    clear hb
    clear m0 m1
    obtain ⟨m0, m1⟩ := HPe.out.cells
    go_wp2_with fail
    refine (HD2.out _ HIe.out).mono ?_
    rintro r wf ⟨rfl, hb⟩
    have HBf := Lib.hid (bchain HBe.out hb)
    have HGf := Lib.hid (HGe.out.below hb)
    have HUf := Lib.hid (HUe.out.below hb)
    clear hb
    clear m0 m1
    obtain ⟨g0, g1, g2⟩ := HGf.out.cells
    obtain ⟨u0, u1, u2⟩ := HUf.out.cells
    try dsimp only at g0 g1 g2 u0 u1 u2
    have t1 : (ea == ea) = true := beq_self_eq_true _
    have t2 : (dv == dv) = true := beq_self_eq_true _
    have t3 : (de == de) = true := beq_self_eq_true _
    go_wp2_with fail
    refine (HWK.out _ (HTB.out.below HBf.out)).mono ?_
    rintro r wz ⟨rfl, hbz⟩
    have HBZ := Lib.hid (bchain HBf.out hbz)
    clear hbz
    go_wp2
    go_ret
    exact ⟨rfl, HBZ.out⟩
  subst hc
  obtain ⟨g', hg', hr'⟩ := HZ5.out rfl
  have HR5 := Lib.hid hr'
  unfold ptr at hg'
  rw [hg']
  clear hg' hr' HZ5 HZ2
  have HRF : Hid (R.length ≤ 1024) := Lib.hid HR5.out.few
  have HIT := Lib.hid (sitems_any (g := g') w5 HR5.out)
  unfold ptr ItemsPost at HIT
  go_wp2_with fail
  refine HIT.out.mono ?_
  rintro r w6 ⟨z6, rfl, hown, hb⟩
  have HSA := Lib.hid (sameI_in R R z6 (.slice Ar R.length capr) w6 (ItAt.inn (OwnI.at_ hown)) (ItAt.inn (RowsAt.below HIR5.out hb)) (by have := HRF.out; omega) (by have := HRF.out; omega))
  rw [show decide (R = R) = true from decide_eq_true rfl] at HSA
  clear hown
  have HB6 := Lib.hid (bchain HB5.out hb)
  have HP6 := Lib.hid (HP5.out.below hb)
  have HT6 := Lib.hid (HT5.out.below hb)
  have HI6 := Lib.hid (RowsAt.below HI5.out hb)
  clear hb
  go_wp2_with fail
  refine HSA.out.mono ?_
  rintro r w7 ⟨rfl, hb⟩
  have HB7 := Lib.hid (bchain HB6.out hb)
  have HP7 := Lib.hid (HP6.out.below hb)
  have HT7 := Lib.hid (HT6.out.below hb)
  have HI7 := Lib.hid (RowsAt.below HI6.out hb)
  clear hb
  have HA1 := Lib.hid (fun w' h => eaccount_any (gt := g) S n1 w' h HN1.out)
  have HA2 := Lib.hid (fun w' h => raccount_any S (.slice Ai S.length capi) n1 w' h (by have := HFW.out; omega) HRI.out HSM.out)
  have HD1 := Lib.hid (fun w' h => edata_any (gt := g) S n2 w' h HN2.out)
  have HD2 := Lib.hid (fun w' h => rdata_any S (.slice Ai S.length capi) n2 w' h (by have := HFW.out; omega) HRI.out)
  obtain ⟨⟨⟨na, aa, sa⟩, ea⟩, hea⟩ : ∃ p, Exc.acc S n1 = p := ⟨_, rfl⟩
  rw [hea] at HA1 HA2
  dsimp only at HA1 HA2
  unfold accval ptr at HA1
  unfold accval at HA2
  dsimp only at HA1 HA2
  obtain ⟨⟨dv, de⟩, hde⟩ : ∃ p, Exc.dat S n2 = p := ⟨_, rfl⟩
  rw [hde] at HD1 HD2
  dsimp only at HD1 HD2
  unfold ptr at HD1
  clear hea hde
  have heq : ∀ w, (Op.equalIn 10000 55 (.agg #[.string ⟨na.toArray⟩, .int .i64 aa, .int .i64 sa]) (.agg #[.string ⟨na.toArray⟩, .int .i64 aa, .int .i64 sa])).run Tryz.prog w = .ok true w := fun w => by
    have h := eq_acc (⟨na, aa, sa⟩ : A) ⟨na, aa, sa⟩ w
    rw [decide_eq_true rfl] at h
    exact h
  obtain ⟨m0, m1⟩ := HP7.out.cells
  go_wp2_with fail
  refine (HA1.out _ HT7.out).mono ?_
  rintro r wa ⟨rfl, hb⟩
  have HBa := Lib.hid (bchain HB7.out hb)
  have HPa := Lib.hid (HP7.out.below hb)
  have HTa := Lib.hid (HT7.out.below hb)
  have HIa := Lib.hid (RowsAt.below HI7.out hb)
  clear hb
  obtain ⟨wb, hwb, hb, rb⟩ := acc_box (⟨na, aa, sa⟩ : A) wa
  obtain ⟨qb, hq⟩ : ∃ q, wa.heap.size = q := ⟨_, rfl⟩
  rw [hq] at rb
  have Hqb := Lib.hid hq
  have HGb := Lib.hid rb
  have HWb := Lib.hid hwb
  have HBb := Lib.hid (bchain HBa.out hb)
  have HPb := Lib.hid (HPa.out.below hb)
  have HTb := Lib.hid (HTa.out.below hb)
  have HIb := Lib.hid (RowsAt.below HIa.out hb)
  clear hb
  clear rb hq hwb
  clear m0 m1
  go_upto_region 11 with fail
  try dsimp only at HWb
  try rw [HWb.out]
  try rw [Hqb.out]
  obtain ⟨m0, m1⟩ := HPb.out.cells
  go_wp2_with fail
  refine (HA2.out _ HIb.out).mono ?_
  rintro r wc ⟨rfl, hb⟩
  have HBc := Lib.hid (bchain HBb.out hb)
  have HPc := Lib.hid (HPb.out.below hb)
  have HTc := Lib.hid (HTb.out.below hb)
  have HIc := Lib.hid (RowsAt.below HIb.out hb)
  have HGc := Lib.hid (HGb.out.below hb)
  clear hb
  obtain ⟨wd, hwd, hb, rb⟩ := acc_box (⟨na, aa, sa⟩ : A) wc
  obtain ⟨qd, hq⟩ : ∃ q, wc.heap.size = q := ⟨_, rfl⟩
  rw [hq] at rb
  have Hqd := Lib.hid hq
  have HUd := Lib.hid rb
  have HWd := Lib.hid hwd
  have HBd := Lib.hid (bchain HBc.out hb)
  have HPd := Lib.hid (HPc.out.below hb)
  have HTd := Lib.hid (HTc.out.below hb)
  have HId := Lib.hid (RowsAt.below HIc.out hb)
  have HGd := Lib.hid (HGc.out.below hb)
  clear hb
  clear rb hq hwd
  clear m0 m1
  go_upto_region 12 with fail
  try dsimp only at HWd
  try rw [HWd.out]
  try rw [Hqd.out]
  obtain ⟨m0, m1⟩ := HPd.out.cells
  go_wp2_with fail
  refine (HD1.out _ HTd.out).mono ?_
  rintro r we ⟨rfl, hb⟩
  have HBe := Lib.hid (bchain HBd.out hb)
  have HPe := Lib.hid (HPd.out.below hb)
  have HTe := Lib.hid (HTd.out.below hb)
  have HIe := Lib.hid (RowsAt.below HId.out hb)
  have HGe := Lib.hid (HGd.out.below hb)
  have HUe := Lib.hid (HUd.out.below hb)
  clear hb
  clear m0 m1
  obtain ⟨m0, m1⟩ := HPe.out.cells
  go_wp2_with fail
  refine (HD2.out _ HIe.out).mono ?_
  rintro r wf ⟨rfl, hb⟩
  have HBf := Lib.hid (bchain HBe.out hb)
  have HGf := Lib.hid (HGe.out.below hb)
  have HUf := Lib.hid (HUe.out.below hb)
  clear hb
  clear m0 m1
  obtain ⟨g0, g1, g2⟩ := HGf.out.cells
  obtain ⟨u0, u1, u2⟩ := HUf.out.cells
  try dsimp only at g0 g1 g2 u0 u1 u2
  have t1 : (ea == ea) = true := beq_self_eq_true _
  have t2 : (dv == dv) = true := beq_self_eq_true _
  have t3 : (de == de) = true := beq_self_eq_true _
  go_wp2_with fail
  refine (HWK.out _ (HTB.out.below HBf.out)).mono ?_
  rintro r wz ⟨rfl, hbz⟩
  have HBZ := Lib.hid (bchain HBf.out hbz)
  clear hbz
  go_wp2
  go_ret
  exact ⟨rfl, HBZ.out⟩
theorem execOne_law (za : Value) (C : List A) (zm : Value) (N : List M) (zi : Value) (I : St) (x : X) (z : Value) (s : T × T) (w : World) (ha : AccIn w za C) (hC : C.length ≤ maxLen ∧ ∀ a ∈ C, (Lit.int .i64 a.amt).wf = true ∧ (Lit.int .i64 a.seq).wf = true) (hm : Mems w zm N) (hN : N.length * 24 ≤ reachBytes) (hi : ItIn w zi I) (hI : I.length ≤ maxLen) (_ : OkX x) (hz : Mems w z x.mem) (hT : Tab w) :
    Calls Tryz.prog 4 #[.agg #[za, zm, zi], xval x z, .agg #[.string ⟨s.1.toArray⟩, .string ⟨s.2.toArray⟩]] w fun r w' => r = .returned (.bool true) ∧ Below w.heap.size w w' :=
  execOne_walk C N I za zm zi x z s.1 s.2 w ha hm hi hC.1 (by unfold maxLen; unfold reachBytes at hN; omega) hI hz hT
end Go.Proofs.YtlckcfpdiigjiaaGreatDoor
namespace Go.Proofs.YtlckcfpdiigjiaaGreatDoor
open Go.ChangeShapes Go.WideShapes Go.ChangeAt Go.RowKit

theorem gK : Tryz.prog.globalNamed "pharos/sha.constants" = some 0 := by kernel_rfl
theorem tK : (Tryz.prog.globals[0]?).map (·.type) = some 171 := by kernel_rfl
theorem cK : Tryz.prog.cellsOf 171 = 64 := by kernel_rfl
theorem cW : Tryz.prog.cellsOf 139 = 1 := by kernel_rfl
def laidK : List (String × DataW Unit) := [("pharos/sha.constants", Rows.laid_pharos_sha_constants)]
theorem tab_of_laid {W : World} (h : laidMetH Tryz.prog laidK W) : Tab W := by
  rw [MakeChecks.laidMetH_plain _ _ _ (by kernel_rfl)] at h
  obtain ⟨g, t, cs, fuel, p, hg, hty, hvar, hd⟩ := Lib.laidMet.reads h (.head _)
  obtain rfl := Option.some.inj (gK.symm.trans hg)
  obtain rfl := Option.some.inj (tK.symm.trans hty)
  have hd' : DataW.trod (fun _ => ()) Tryz.prog W 0 (fun _ => true) false fuel 171 cs.toList = some (Lib.tabData .u32 Sha.kTab, p) := hd
  have hcs := Lib.cells_of_tab Tryz.underlying171 Tryz.underlying139 cW cK hd'
  intro i hi
  have hk : i < Sha.kTab.length := hi
  rw [World.var?_cell hg hvar i, ← Array.getElem?_toList, hcs]
  simp [hk]
/-- The door's own heap meets the condition. -/
theorem door_met (os : Os) (args : Array Value) : laidMetH Tryz.prog laidK ((World.doorLaid Tryz.prog 400 os).forCall (fun _ _ => 0) ⟨#[], args, []⟩).memory :=
  laidMetH_of_parts3 (fuel := 8) (laidMet_of_run' 8 (by kernel_rfl) (by kernel_rfl)) (by kernel_rfl) (by kernel_rfl)
end Go.Proofs.YtlckcfpdiigjiaaGreatDoor
namespace Go.Proofs.YtlckcfpdiigjiaaGreatDoor
open Go.RowKit
open Go.Proofs.YtlckcfpdiigjiaaGreatDoor.Exc (Rc)

theorem wpList_append_want {P : Program} {w w' : World} {ops : Array Oper} {rest : List Oper} {o : Oper} {a : Act} {Q : Exit → Act → World → Prop} (hw : Region.wanted o (yielded ops a.tmps) = true) (s x : Operand) (t : TypeId) (hop : o.op = Op.call { callee := Callee.builtin Builtin.append, args := #[s, x], argTypes := #[t, t] })
    (sv xv r : Value) (hs : a.eval s = sv) (hx : a.eval x = xv) (hrun : (Builtin.append_ #[t, t] o.type #[sv, xv]).run P w = .ok r w') (hK : wpList P ops Q rest (a.put o.dst r) w') :
    wpList P ops Q (o :: rest) a w := by
  refine BigFrame.wpList_want hw fun K' hK' => ?_
  unfold Oper.wp
  simp [execOp, hop, resolve, invoke, builtin, hs, hx, hrun, Result.andThen]
  exact hK' _ _ hK
theorem app_rcs {w : World} {B : Nat} {z v : Value} {K L : List Rc} (h : OwnR w B z K) (hv : RcIn w v L) (hl : K.length + L.length ≤ 1000000) (hB : B ≤ w.heap.size) :
    ∃ v' w', (Builtin.append_ #[33, 33] 33 #[z, v]).run Tryz.prog w = .ok v' w' ∧ OwnR w' B v' (K ++ L) ∧ Below B w w' ∧ Out (fun j => z.ownBlock = some j) w w' := by
  obtain ⟨i0, hi, hz0, hz1, hz2⟩ := info_parts infoRcp
  obtain ⟨v', w', h1, h2, h3, _⟩ := append_rowsIn 33 78 i0 _ 32 Tryz.underlying33 Tryz.sizeOf78 hi hz0 hz1 hz2 rfl (by decide) (by decide) rccl_len rccl_one hv h hl hB
  exact ⟨v', w', h1, by unfold OwnR; rw [rowsL_append, List.length_append]; exact h2, (Out.grown h3 (F := fun j => z.ownBlock = some j) (fun j e => e)).below (fun j hj => (World.ownsRow.lt h j hj).1) hB, Out.grown h3 (fun j e => e)⟩
/-- 'append([]api.Receipt{}, l...)'. -/
theorem own_rcs {w : World} {v : Value} {L : List Rc} (hv : RcIn w v L) (hl : L.length ≤ 1000) :
    ∃ v' w', (Builtin.append_ #[33, 33] 33 #[.slice (some ⟨w.heap.size, 0, none⟩) 0 0, v]).run Tryz.prog (w.alloc (.cells #[] 78)) = .ok v' w' ∧ OwnR w' w.heap.size v' L ∧ Below w.heap.size w w' := by
  have hA : Below w.heap.size w (w.alloc (.cells #[] 78)) := (Below.refl _ w).alloc (Nat.le_refl _) _
  have h0 : OwnR (w.alloc (.cells #[] 78)) w.heap.size (.slice (some ⟨w.heap.size, 0, none⟩) 0 0) [] := ⟨rfl, Or.inr ⟨w.heap.size, 0, _, rfl, Nat.le_refl _, heap_alloc_new w _, by decide, by simp [maxLen], rfl, rfl⟩⟩
  obtain ⟨v', w', h1, h2, h3, -⟩ := app_rcs h0 (RowsIn.below hv hA) (by simp; omega) (by simp)
  exact ⟨v', w', h1, h2, hA.trans h3⟩
end Go.Proofs.YtlckcfpdiigjiaaGreatDoor
namespace Go.Proofs.YtlckcfpdiigjiaaGreatDoor
open Go.RowKit Go.ChangeShapes Go.WideShapes
open Go.Proofs.YtlckcfpdiigjiaaGreatDoor.Pw (M)
open Go.Proofs.YtlckcfpdiigjiaaGreatDoor.Txn (X)

def TxsC (w : World) (v : Value) (L : List X) : Prop := Txs w v L ∧ ∃ A cap, v = .slice A L.length cap ∧ L.length ≤ cap
set_option maxRecDepth 100000 in
theorem txs_openC {H : Type} {enc : TypeId × Value → H} {W : World} {r : Reach} {b0 : Nat} {v : Value} {d : DataW H} {p : List MemPlace}
    (hv : Value.okWide Tryz.prog W r b0 27 v) (h : DataW.Trod enc Tryz.prog W 0 (fun _ => true) true 27 v d p)
    (hz : ∀ n ∈ d.weights Tryz.prog 27, n ≤ reachBytes) :
    ∃ L, TxsC W v L ∧ L.length ≤ maxLen ∧ ∀ x ∈ L, OkX x := by
  obtain ⟨L, h1, h2, h3⟩ := txs_open hv h hz
  obtain ⟨A, cap, hv2⟩ := h1.form
  refine ⟨L, ⟨h1, A, cap, hv2, ?_⟩, h2, h3⟩
  obtain ⟨fuel, hf⟩ := h
  rw [hv2] at hf
  rcases Go.Deep.open_slice Tryz.underlying27 hf with ⟨hcs, _⟩ | ⟨x, l, c, m, n, D, Pl, hcs, _, hl, hm, hmm, hx, hel⟩
  · simp [Value.cells] at hcs
    obtain ⟨-, h0, -⟩ := hcs
    first | (subst h0; exact Nat.zero_le _) | omega
  · simp [Value.cells] at hcs
    obtain ⟨-, rfl, rfl⟩ := hcs
    exact hl
set_option maxRecDepth 100000 in
/-- 'l[:k]'. -/
theorem txs_take (A : Option Addr) (n cap k : Nat) (hk : k ≤ cap) (W : World) :
    (Instr.slice 27 (.slice A n cap) none (some (.int .i64 k)) none).run Tryz.prog W = .ok (.slice A k cap) W := by
  have hs : ∀ W : World, (sizeOf (Tryz.prog.elem 27)).run Tryz.prog W = .ok 8 W := fun W => by kernel_rfl
  rw [run_slice_h W 27 A n cap Tryz.underlying27 .i64 k (by omega) (by omega), hs]
  cases A with
  | none => simp [Result.andThen, sliced]
  | some a =>
    simp [Result.andThen, sliced]
    exact fun _ => rfl
set_option maxRecDepth 100000 in
/-- 'l[k:]'. -/
theorem txs_drop (A : Option Addr) (n cap k : Nat) (hk : k ≤ n) (W : World) :
    (Instr.slice 27 (.slice A n cap) (some (.int .i64 k)) none none).run Tryz.prog W = .ok (.slice (if cap = k then A else A.map (·.add (k * 8))) (n - k) (cap - k)) W := by
  have hs : ∀ W : World, (sizeOf (Tryz.prog.elem 27)).run Tryz.prog W = .ok 8 W := fun W => by kernel_rfl
  rw [run_slice_l W 27 A n cap Tryz.underlying27 .i64 k (by omega) (by omega), hs]
  simp [Result.andThen, sliced]
theorem Txs.take {w : World} {A : Option Addr} {n cap : Nat} {L : List X} (h : Txs w (.slice A n cap) L) (k : Nat) (hk : k ≤ L.length) : Txs w (.slice A k cap) (L.take k) := by
  obtain ⟨A', cap', hv, hc⟩ := h
  obtain ⟨rfl, rfl, rfl⟩ : A = A' ∧ n = L.length ∧ cap = cap' := by simpa using hv
  have e : (L.take k).length = k := by simp; omega
  refine ⟨A, cap, by rw [e], fun h0 => ?_⟩
  obtain ⟨b, o, hA, hlt, hcell⟩ := hc (by omega)
  refine ⟨b, o, hA, hlt, fun i hi => ?_⟩
  rw [e] at hi
  obtain ⟨z, q1, q2⟩ := hcell i (by omega)
  have e2 : (L.take k)[i]'(by omega) = L[i]'(by omega) := List.getElem_take
  exact ⟨z, by rw [e2]; exact q1, by rw [e2]; exact q2⟩
theorem Txs.drop {w : World} {A : Option Addr} {n cap : Nat} {L : List X} (h : Txs w (.slice A n cap) L) (k : Nat) (hk : k ≤ L.length) (hn : n ≤ cap) : Txs w (.slice (if cap = k then A else A.map (·.add (k * 8))) (n - k) (cap - k)) (L.drop k) := by
  obtain ⟨A', cap', hv, hc⟩ := h
  obtain ⟨rfl, rfl, rfl⟩ : A = A' ∧ n = L.length ∧ cap = cap' := by simpa using hv
  refine ⟨_, cap - k, by rw [List.length_drop], fun h0 => ?_⟩
  rw [List.length_drop] at h0
  obtain ⟨b, o, rfl, hlt, hcell⟩ := hc (by omega)
  refine ⟨b, o + k * 8, by rw [if_neg (by omega)]; simp [Addr.add], hlt, fun i hi => ?_⟩
  rw [List.length_drop] at hi
  obtain ⟨z, q1, q2⟩ := hcell (k + i) (by omega)
  have e2 : (L.drop k)[i]'(by rw [List.length_drop]; exact hi) = L[k + i]'(by omega) := List.getElem_drop
  refine ⟨z, fun j u hu => ?_, by rw [e2]; exact q2⟩
  rw [e2] at hu
  have := q1 j u hu
  rw [show o + (k + i) * 8 + j = o + k * 8 + i * 8 + j by rw [Nat.add_mul]; omega] at this
  exact this
end Go.Proofs.YtlckcfpdiigjiaaGreatDoor
namespace Go.Proofs.YtlckcfpdiigjiaaGreatDoor
open Go.RowKit

/-- A number below n. -/
def Bk.below (a n : Int) : Int := (a.tmod n + n) % n
theorem Bk.below_in (a : Int) (n : Nat) (hn : 0 < n) : 0 ≤ Bk.below a n ∧ Bk.below a n < n := by
  have h1 : -(n : Int) < a.tmod n := Int.lt_tmod_of_pos a (by omega)
  unfold Bk.below
  have h2 : 0 ≤ a.tmod n + n := by omega
  exact ⟨Int.emod_nonneg _ (by omega), Int.emod_lt_of_pos _ (by omega)⟩
theorem Bk.below_nat (a : Int) (n : Nat) (hn : 0 < n) : ∃ k : Nat, Bk.below a n = k ∧ k < n := by
  obtain ⟨h1, h2⟩ := Bk.below_in a n hn
  exact ⟨(Bk.below a n).toNat, by omega, by omega⟩
set_option maxHeartbeats 400000 in
theorem below_any (a : Int) (n : Nat) (w : World) (hn : 0 < n) (hb : n ≤ 1000000) :
    Calls Tryz.prog 24 #[.int .i64 a, .int .i64 n] w fun e w' => e = .returned (.int .i64 (Bk.below a n)) ∧ w' = w := by
  have h1 : -(n : Int) < a.tmod n := Int.lt_tmod_of_pos a (by omega)
  have h2 : a.tmod n < (n : Int) := Int.tmod_lt_of_pos a (by omega)
  have h3 : IntKind.i64.wrap (a.tmod n + n) = a.tmod n + n := by
    unfold IntKind.wrap
    simp [IntKind.signed, IntKind.bits]
    omega
  have h0 : ((n : Int) == 0) = false := by rw [beq_eq_false_iff_ne]; omega
  have h00 : ¬ ((n : Int) = 0) := by omega
  have hm : (n : Int) ≠ -1 := by omega
  unfold Bk.below
  go_enter Tryz.func24, Tryz.ntmps24
  go_wp2
  go_ret
  exact ⟨rfl, rfl⟩

end Go.Proofs.YtlckcfpdiigjiaaGreatDoor
