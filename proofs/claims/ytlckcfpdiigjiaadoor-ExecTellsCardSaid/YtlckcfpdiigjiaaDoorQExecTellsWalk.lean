/- The law ExecTells, walked. -/
import Derived.Test.YtlckcfpdiigjiaaDoorPk16
import Derived.Test.YtlckcfpdiigjiaaDoorPk15
namespace Go.Proofs.YtlckcfpdiigjiaaDoor
open Go.RowKit
open Sto (T St)
open Go.Proofs.YtlckcfpdiigjiaaDoor.Pw (M)
open Go.Proofs.YtlckcfpdiigjiaaDoor.Txn (X)
open Go.Proofs.YtlckcfpdiigjiaaDoor.Exc (A)

theorem Exc.tells_acc {S R : St} {x : X} (hS : Sto.Rising S) (h : Exc.doP S x = (R, 0)) (n : T) : n = x.frm ∨ n = x.dst ∨ Exc.acc R n = Exc.acc S n := by
  by_cases h1 : n = x.frm
  · exact Or.inl h1
  · by_cases h2 : n = x.dst
    · exact Or.inr (Or.inl h2)
    · exact Or.inr (Or.inr ((Exc.do_done h).acc_other hS h1 h2))
theorem Exc.tells_dat {S R : St} {x : X} (hS : Sto.Rising S) (h : Exc.doP S x = (R, 0)) (k : T) : k = x.key ∨ Exc.dat R k = Exc.dat S k := by
  by_cases h1 : k = x.key
  · exact Or.inl h1
  · exact Or.inr ((Exc.do_done h).dat_other hS h1)
theorem Exc.getC_set {S R : St} (h : Sto.look R Exc.sK = Sto.look S Exc.sK) : Tri.getC R Exc.sK = Tri.getC S Exc.sK := by unfold Tri.getC; rw [h]
theorem Exc.tells_kind {S R : St} {x : X} (hS : Sto.Rising S) (h : Exc.doP S x = (R, 0)) :
    (x.kind = 2 ∧ Exc.dat R x.key = (x.val, 0) ∧ (Tri.getC R Exc.sK).1 = (Tri.getC S Exc.sK).1) ∨ (x.kind = 3 ∧ Exc.dat R x.key = ([], 5) ∧ (Tri.getC R Exc.sK).1 = (Tri.getC S Exc.sK).1) ∨
    (x.kind = 4 ∧ (Tri.getC R Exc.sK).1 = Pw.digL x.mem) ∨ (x.kind = 1 ∧ (Tri.getC R Exc.sK).1 = (Tri.getC S Exc.sK).1) := by
  have hd := Exc.do_done h
  rcases Txn.kind_of (Txn.fine_of hd.fine).2.2.2.2 with ⟨k, _⟩ | ⟨k, _⟩ | ⟨k, _⟩ | ⟨k, _⟩
  · exact Or.inr (Or.inr (Or.inr ⟨k, by rw [Exc.getC_set (hd.set_other hS (by omega))]⟩))
  · exact Or.inl ⟨k, hd.dat_put hS k, by rw [Exc.getC_set (hd.set_other hS (by omega))]⟩
  · exact Or.inr (Or.inl ⟨k, hd.dat_del hS k, by rw [Exc.getC_set (hd.set_other hS (by omega))]⟩)
  · refine Or.inr (Or.inr (Or.inl ⟨k, ?_⟩))
    rw [Tri.getC_some Exc.keyed_sK (hd.set_put hS k)]
set_option maxRecDepth 100000 in
set_option maxHeartbeats 32000000 in
theorem execTells_walk (C : List A) (N : List M) (I : St) (za zm zi : Value) (x : X) (z : Value) (n1 n2 : T) (w : World) (ha : AccIn w za C) (hm : Mems w zm N) (hi : ItIn w zi I) (lC : C.length ≤ maxLen) (lN : N.length ≤ maxLen) (lI : I.length ≤ maxLen) (hz : Mems w z x.mem) (hn2 : n2.length ≤ 140737488351232) (hT : Tab w) :
    Calls Tryd.prog 5 #[.agg #[za, zm, zi], xval x z, .agg #[.string ⟨n1.toArray⟩, .string ⟨n2.toArray⟩]] w fun r w' => r = .returned (.bool true) ∧ Below w.heap.size w w' := by
  obtain ⟨Az, capz, rfl⟩ := hz.form
  obtain ⟨w0, hw0, hb0, rs, rx, rp⟩ := one_box za zm zi x (.slice Az x.mem.length capz) n1 n2 w
  have HB0 := Lib.hid hb0
  have HTB := Lib.hid hT
  have HWK := Lib.hid (eworks_any w0 (hT.below hb0))
  obtain ⟨q0, hq0⟩ : ∃ q, w.heap.size = q := ⟨_, rfl⟩
  rw [hq0] at rs rx rp
  have HQ0 := Lib.hid hq0
  have HW0 := Lib.hid hw0
  have HS0 := Lib.hid rs
  have HX0 := Lib.hid rx
  have HP0 := Lib.hid rp
  have HN2 := Lib.hid hn2
  have HGE : Hid (∀ w', Below w.heap.size w w' → Calls Tryd.prog 7 #[.agg #[za, zm, zi]] w' (GPost C N w')) := Lib.hid (fun w' h => egen_any C N za zm zi w' (RowsIn.below ha h) (hm.below h) (hT.below h))
  have HBG : Hid (∀ w' v, Below w.heap.size w w' → Txs w' v [x] → Calls Tryd.prog 8 #[.agg #[za, zm, zi], v] w' (EBigPost w' C N I [x])) := Lib.hid (fun w' v h h2 => ebig_any C N I [x] za zm zi v w' (RowsIn.below ha h) (hm.below h) (RowsIn.below hi h) h2 lC lN lI (by simp [maxLen]))
  have HMM : Hid (∀ w', Below w.heap.size w w' → Mems w' (.slice Az x.mem.length capz) x.mem) := Lib.hid (fun w' h => hz.below h)
  have HTX := Lib.hid (fun w' (h : Below w.heap.size w w') => txs_oneE w' x Az x.mem.length capz (hz.below h))
  unfold GPost at HGE
  unfold EBigPost at HBG
  obtain ⟨⟨S, c⟩, hS⟩ : ∃ p, Exc.genP C N = p := ⟨_, rfl⟩
  rw [hS] at HGE
  dsimp only at HGE
  obtain ⟨A1, cap1, rfl, -, -⟩ := RowsIn.form ha
  obtain ⟨A2, cap2, rfl⟩ := hm.form
  obtain ⟨A3, cap3, rfl, -, -⟩ := RowsIn.form hi
  unfold xval
  clear ha hm hi lC lN lI hz hT hb0 rs rx rp hq0 hw0 hS hn2
  go_enter Tryd.func5, Tryd.ntmps5
  go_upto_region 1 with fail
  try rw [HW0.out]
  try rw [HQ0.out]
  go_wp2_with fail
  refine HWK.out.mono ?_
  rintro r w1 ⟨rfl, hb⟩
  have HB1 := Lib.hid (bchain HB0.out hb)
  have HS1 := Lib.hid (HS0.out.below hb)
  have HX1 := Lib.hid (HX0.out.below hb)
  have HP1 := Lib.hid (HP0.out.below hb)
  clear hb
  obtain ⟨p0, p1, p2⟩ := HS1.out.cells
  go_wp2_with fail
  refine (HGE.out _ HB1.out).mono ?_
  rintro r w2 ⟨z, rfl, h1, h2, hb⟩
  obtain ⟨pz, rfl⟩ := tri_form h1 h2
  have HZ1 := Lib.hid h1
  have HZ2 : Hid (c ≠ 0 → pz = none) := Lib.hid (fun h => by have := h2 h; unfold nilp at this; injection this)
  clear h1 h2 p0 p1 p2
  have HB2 := Lib.hid (bchain HB1.out hb)
  have HS2 := Lib.hid (HS1.out.below hb)
  have HX2 := Lib.hid (HX1.out.below hb)
  have HP2 := Lib.hid (HP1.out.below hb)
  clear hb
  obtain ⟨p0, p1, p2⟩ := HS2.out.cells
  obtain ⟨a0, a1, a2, a3, a4, a5, a6, a7⟩ := HX2.out.cells
  go_wp2_with fail
  have htx := HTX.out w2 HB2.out
  obtain ⟨w3, hw3, hb, -⟩ := tx_box x (.slice Az x.mem.length capz) w2
  rw [hw3] at htx
  try rw [hw3]
  have HBC := Lib.hid (HBG.out w3 _ (bchain HB2.out hb) htx)
  have HZ3 : Hid (c = 0 → ∃ g, Value.pointer pz = ptr g ∧ TrAt w3 g S) := Lib.hid (fun h => by obtain ⟨g, e, h2⟩ := HZ1.out h; exact ⟨g, e, h2.below hb⟩)
  clear htx hw3
  have HB3 := Lib.hid (bchain HB2.out hb)
  have HS3 := Lib.hid (HS2.out.below hb)
  have HX3 := Lib.hid (HX2.out.below hb)
  have HP3 := Lib.hid (HP2.out.below hb)
  clear hb
  refine HBC.out.mono ?_
  rintro r w4 ⟨bb, rfl, -, hb⟩
  clear HZ1 p0 p1 p2 a0 a1 a2 a3 a4 a5 a6 a7
  have HZ4 : Hid (c = 0 → ∃ g, Value.pointer pz = ptr g ∧ TrAt w4 g S) := Lib.hid (fun h => by obtain ⟨g, e, h2⟩ := HZ3.out h; exact ⟨g, e, h2.below hb⟩)
  have HB4 := Lib.hid (bchain HB3.out hb)
  have HX4 := Lib.hid (HX3.out.below hb)
  have HP4 := Lib.hid (HP3.out.below hb)
  clear hb
  cases bb with
  | true =>
    go_wp2
    go_ret
    exact ⟨rfl, HB4.out⟩
  | false =>
  by_cases hc : c = 0
  case neg =>
    obtain rfl := HZ2.out hc
    clear hc
    go_wp2
    go_ret
    exact ⟨rfl, HB4.out⟩
  subst hc
  obtain ⟨g, hg, ht⟩ := HZ4.out rfl
  have HT4 := Lib.hid ht
  have HRI := Lib.hid ht.rise
  unfold ptr at hg
  rw [hg]
  clear hg ht HZ2 HZ3 HZ4 HGE HBG HBC
  have HDO := Lib.hid (edo_any (g := g) S x (.slice Az x.mem.length capz) w4 HT4.out (HTB.out.below HB4.out) (HMM.out _ HB4.out))
  have HTA := Lib.hid (fun R (h : Exc.doP S x = (R, 0)) => Exc.tells_acc HRI.out h n1)
  have HTD := Lib.hid (fun R (h : Exc.doP S x = (R, 0)) => Exc.tells_dat HRI.out h n2)
  have HTK := Lib.hid (fun R (h : Exc.doP S x = (R, 0)) => Exc.tells_kind HRI.out h)
  have HFR := Lib.hid (fun R (h : Exc.doP S x = (R, 0)) => Exc.do_from HRI.out h)
  have HFX := Lib.hid (fun R (h : Exc.doP S x = (R, 0)) => (Exc.do_done h).fine)
  obtain ⟨⟨R, c⟩, hR⟩ : ∃ p, Exc.doP S x = p := ⟨_, rfl⟩
  rw [hR] at HDO HTA HTD HTK HFR HFX
  dsimp only at HDO
  unfold xval ptr at HDO
  clear hR
  obtain ⟨a0, a1, a2, a3, a4, a5, a6, a7⟩ := HX4.out.cells
  go_wp2_with fail
  refine HDO.out.mono ?_
  rintro r w5 ⟨zo, rfl, h1, h2, hb⟩
  obtain ⟨po, rfl⟩ := tri_form h1 h2
  have HZ1 := Lib.hid h1
  clear h1 h2 a0 a1 a2 a3 a4 a5 a6 a7
  have HB5 := Lib.hid (bchain HB4.out hb)
  have HX5 := Lib.hid (HX4.out.below hb)
  have HP5 := Lib.hid (HP4.out.below hb)
  have HT5 := Lib.hid (HT4.out.below hb)
  clear hb
  by_cases hc : c = 0
  case neg =>
    have s1 : (c != 0) = true := by rw [bne_iff_ne]; exact hc
    clear hc
    go_wp2
    go_ret
    exact ⟨rfl, HB5.out⟩
  subst hc
  obtain ⟨g', hg', hr'⟩ := HZ1.out rfl
  have HU5 := Lib.hid hr'
  unfold ptr at hg'
  rw [hg']
  clear hg' hr' HZ1
  have hta := HTA.out R rfl
  have htd := HTD.out R rfl
  have htk := HTK.out R rfl
  obtain ⟨hf0, hf1⟩ := HFR.out R rfl
  have hfx := HFX.out R rfl
  clear HTA HTD HTK HFR HFX HDO
  have HFN := Lib.hid (Txn.fine_of hfx)
  have HKO := Lib.hid (Txn.kind_of (Txn.fine_of hfx).2.2.2.2)
  have HA1 := Lib.hid (fun w' h => eaccount_all (gt := g) S n1 w' h)
  have HA2 := Lib.hid (fun w' h => eaccount_all (gt := g') R n1 w' h)
  have HD1 := Lib.hid (fun w' h => edata_all (gt := g) S n2 w' h HN2.out)
  have HD2 := Lib.hid (fun w' h => edata_all (gt := g') R n2 w' h HN2.out)
  have HG1 := Lib.hid (fun w' h => tget_any (g := g') (S := R) Exc.sK w' h)
  have HG2 := Lib.hid (fun w' h => tget_any (g := g) (S := S) Exc.sK w' h)
  have HD3 := Lib.hid (fun w' h => edata_all (gt := g') R x.key w' h (by rcases HKO.out with ⟨_, _, _, _, _, h, _⟩ | ⟨_, _, _, _, h, _⟩ | ⟨_, _, _, _, h, _⟩ | ⟨_, _, _, h, _⟩ <;> first | omega | (rw [h]; exact Nat.zero_le _)))
  have HA3 := Lib.hid (fun w' h => eaccount_all (gt := g') R x.frm w' h)
  obtain ⟨⟨⟨na, aa, sa⟩, ea⟩, hea⟩ : ∃ p, Exc.acc S n1 = p := ⟨_, rfl⟩
  rw [hea] at HA1 hta
  obtain ⟨⟨⟨nb, ab, sb⟩, eb⟩, heb⟩ : ∃ p, Exc.acc R n1 = p := ⟨_, rfl⟩
  rw [heb] at HA2 hta
  obtain ⟨⟨pv, pe⟩, hpe⟩ : ∃ p, Exc.dat S n2 = p := ⟨_, rfl⟩
  rw [hpe] at HD1 htd
  obtain ⟨⟨qv, qe⟩, hqe⟩ : ∃ p, Exc.dat R n2 = p := ⟨_, rfl⟩
  rw [hqe] at HD2 htd
  obtain ⟨⟨sv, se⟩, hse⟩ : ∃ p, Tri.getC R Exc.sK = p := ⟨_, rfl⟩
  rw [hse] at HG1 htk
  obtain ⟨⟨wv, we⟩, hwe⟩ : ∃ p, Tri.getC S Exc.sK = p := ⟨_, rfl⟩
  rw [hwe] at HG2 htk
  obtain ⟨⟨dv, de⟩, hde⟩ : ∃ p, Exc.dat R x.key = p := ⟨_, rfl⟩
  rw [hde] at HD3 htk
  obtain ⟨⟨⟨nf, af, sf⟩, ef⟩, hef⟩ : ∃ p, Exc.acc R x.frm = p := ⟨_, rfl⟩
  rw [hef] at HA3 hf0 hf1
  dsimp only at HA1 HA2 HD1 HD2 HG1 HG2 HD3 HA3 htk hf0 hf1
  unfold accval ptr at HA1 HA2 HA3
  unfold ptr at HD1 HD2 HD3
  unfold ptr Exc.sK at HG1 HG2
  dsimp only at HA1 HA2 HA3
  subst hf0 hf1
  have HTA := Lib.hid hta
  have HTD := Lib.hid htd
  have HTK := Lib.hid htk
  clear hea heb hpe hqe hse hwe hde hef hta htd htk hfx
  obtain ⟨bb, hbb⟩ : ∃ b, decide ((⟨na, aa, sa⟩ : A) = ⟨nb, ab, sb⟩) = b := ⟨_, rfl⟩
  have heq : ∀ w, (Op.equalIn 10000 44 (.agg #[.string ⟨na.toArray⟩, .int .i64 aa, .int .i64 sa]) (.agg #[.string ⟨nb.toArray⟩, .int .i64 ab, .int .i64 sb])).run Tryd.prog w = .ok bb w := fun w => by
    have h := eq_acc (⟨na, aa, sa⟩ : A) ⟨nb, ab, sb⟩ w
    rw [hbb] at h
    exact h
  have HBBE := Lib.hid hbb
  clear hbb
  obtain ⟨m0, m1⟩ := HP5.out.cells
  go_wp2_with fail
  refine (HA1.out _ HT5.out).mono ?_
  rintro r w6 ⟨rfl, hb⟩
  have HB6 := Lib.hid (bchain HB5.out hb)
  have HX6 := Lib.hid (HX5.out.below hb)
  have HP6 := Lib.hid (HP5.out.below hb)
  have HT6 := Lib.hid (HT5.out.below hb)
  have HU6 := Lib.hid (HU5.out.below hb)
  clear hb
  obtain ⟨w7, hw7, hb, rb⟩ := acc_box (⟨na, aa, sa⟩ : A) w6
  obtain ⟨q7, hq⟩ : ∃ q, w6.heap.size = q := ⟨_, rfl⟩
  rw [hq] at rb
  have Hq7 := Lib.hid hq
  have HE7 := Lib.hid rb
  have HW7 := Lib.hid hw7
  have HB7 := Lib.hid (bchain HB6.out hb)
  have HX7 := Lib.hid (HX6.out.below hb)
  have HP7 := Lib.hid (HP6.out.below hb)
  have HT7 := Lib.hid (HT6.out.below hb)
  have HU7 := Lib.hid (HU6.out.below hb)
  clear hb
  clear rb hq hw7
  go_upto_region 10 with fail
  try dsimp only at HW7
  try rw [HW7.out]
  try rw [Hq7.out]
  clear m0 m1
  obtain ⟨m0, m1⟩ := HP7.out.cells
  go_wp2_with fail
  refine (HA2.out _ HU7.out).mono ?_
  rintro r w8 ⟨rfl, hb⟩
  have HB8 := Lib.hid (bchain HB7.out hb)
  have HX8 := Lib.hid (HX7.out.below hb)
  have HP8 := Lib.hid (HP7.out.below hb)
  have HT8 := Lib.hid (HT7.out.below hb)
  have HU8 := Lib.hid (HU7.out.below hb)
  have HE8 := Lib.hid (HE7.out.below hb)
  clear hb
  obtain ⟨w9, hw9, hb, rb⟩ := acc_box (⟨nb, ab, sb⟩ : A) w8
  obtain ⟨q9, hq⟩ : ∃ q, w8.heap.size = q := ⟨_, rfl⟩
  rw [hq] at rb
  have Hq9 := Lib.hid hq
  have HF9 := Lib.hid rb
  have HW9 := Lib.hid hw9
  have HB9 := Lib.hid (bchain HB8.out hb)
  have HX9 := Lib.hid (HX8.out.below hb)
  have HP9 := Lib.hid (HP8.out.below hb)
  have HT9 := Lib.hid (HT8.out.below hb)
  have HU9 := Lib.hid (HU8.out.below hb)
  have HE9 := Lib.hid (HE8.out.below hb)
  clear hb
  clear rb hq hw9
  go_upto_region 11 with fail
  try dsimp only at HW9
  try rw [HW9.out]
  try rw [Hq9.out]
  clear m0 m1
  obtain ⟨m0, m1⟩ := HP9.out.cells
  go_wp2_with fail
  refine (HD1.out _ HT9.out).mono ?_
  rintro r wa ⟨rfl, hb⟩
  have HBa := Lib.hid (bchain HB9.out hb)
  have HXa := Lib.hid (HX9.out.below hb)
  have HPa := Lib.hid (HP9.out.below hb)
  have HTa := Lib.hid (HT9.out.below hb)
  have HUa := Lib.hid (HU9.out.below hb)
  have HEa := Lib.hid (HE9.out.below hb)
  have HFa := Lib.hid (HF9.out.below hb)
  clear hb
  clear m0 m1
  obtain ⟨m0, m1⟩ := HPa.out.cells
  go_wp2_with fail
  refine (HD2.out _ HUa.out).mono ?_
  rintro r wb ⟨rfl, hb⟩
  have HBb := Lib.hid (bchain HBa.out hb)
  have HXb := Lib.hid (HXa.out.below hb)
  have HPb := Lib.hid (HPa.out.below hb)
  have HTb := Lib.hid (HTa.out.below hb)
  have HUb := Lib.hid (HUa.out.below hb)
  have HEb := Lib.hid (HEa.out.below hb)
  have HFb := Lib.hid (HFa.out.below hb)
  clear hb
  clear m0 m1
  go_wp2_with fail
  refine (HG1.out _ HUb.out).mono ?_
  rintro r wc ⟨rfl, hb⟩
  have HBc := Lib.hid (bchain HBb.out hb)
  have HXc := Lib.hid (HXb.out.below hb)
  have HPc := Lib.hid (HPb.out.below hb)
  have HTc := Lib.hid (HTb.out.below hb)
  have HUc := Lib.hid (HUb.out.below hb)
  have HEc := Lib.hid (HEb.out.below hb)
  have HFc := Lib.hid (HFb.out.below hb)
  clear hb
  go_wp2_with fail
  refine (HG2.out _ HTc.out).mono ?_
  rintro r wd ⟨rfl, hb⟩
  have HBd := Lib.hid (bchain HBc.out hb)
  have HXd := Lib.hid (HXc.out.below hb)
  have HPd := Lib.hid (HPc.out.below hb)
  have HTd := Lib.hid (HTc.out.below hb)
  have HUd := Lib.hid (HUc.out.below hb)
  have HEd := Lib.hid (HEc.out.below hb)
  have HFd := Lib.hid (HFc.out.below hb)
  clear hb
  obtain ⟨m0, m1⟩ := HPd.out.cells
  obtain ⟨a0, a1, a2, a3, a4, a5, a6, a7⟩ := HXd.out.cells
  obtain ⟨y0, y1, y2⟩ := HEd.out.cells
  obtain ⟨u0, u1, u2⟩ := HFd.out.cells
  try dsimp only at y0 y1 y2 u0 u1 u2
  have HXd' := HXd
  have HCASE : (((n1 == x.frm) = true ∧ (!n1 == x.frm) = false) ∨ ((n1 == x.frm) = false ∧ (!n1 == x.frm) = true ∧ (n1 == x.dst) = true ∧ (!n1 == x.dst) = false) ∨ ((n1 == x.frm) = false ∧ (!n1 == x.frm) = true ∧ (n1 == x.dst) = false ∧ (!n1 == x.dst) = true ∧ bb = true)) := by
    by_cases h1 : n1 = x.frm
    · exact Or.inl ⟨beq_iff_eq.2 h1, by rw [beq_iff_eq.2 h1]; rfl⟩
    · have e1 : (n1 == x.frm) = false := beq_eq_false_iff_ne.2 h1
      by_cases h2 : n1 = x.dst
      · exact Or.inr (Or.inl ⟨e1, by rw [e1]; rfl, beq_iff_eq.2 h2, by rw [beq_iff_eq.2 h2]; rfl⟩)
      · have e2 : (n1 == x.dst) = false := beq_eq_false_iff_ne.2 h2
        refine Or.inr (Or.inr ⟨e1, by rw [e1]; rfl, e2, by rw [e2]; rfl, ?_⟩)
        rcases HTA.out with h | h | h
        · exact absurd h h1
        · exact absurd h h2
        · rw [← HBBE.out]; exact decide_eq_true (Prod.mk.inj h).1.symm
  have HCASE2 : (((n2 == x.key) = true ∧ (!n2 == x.key) = false) ∨ ((n2 == x.key) = false ∧ (!n2 == x.key) = true ∧ (pv == qv) = true ∧ (!pv == qv) = false ∧ (pe == qe) = true ∧ (pe != qe) = false)) := by
    by_cases h1 : n2 = x.key
    · exact Or.inl ⟨beq_iff_eq.2 h1, by rw [beq_iff_eq.2 h1]; rfl⟩
    · have e1 : (n2 == x.key) = false := beq_eq_false_iff_ne.2 h1
      rcases HTD.out with h | h
      · exact absurd h h1
      · obtain ⟨rfl, rfl⟩ := Prod.mk.inj h
        exact Or.inr ⟨e1, by rw [e1]; rfl, beq_self_eq_true _, by rw [beq_self_eq_true]; rfl, beq_self_eq_true _, bne_self_eq_false _⟩
  rcases HCASE with ⟨d1, d2⟩ | ⟨d1, d2, d3, d4⟩ | ⟨d1, d2, d3, d4, rfl⟩ <;> rcases HCASE2 with ⟨d5, d6⟩ | ⟨d5, d6, d7, d8, d9, d10⟩ <;>
  · go_upto_region 17 with fail
    clear m0 m1 y0 y1 y2 u0 u1 u2 heq d1 d2 d5 d6
    try clear d3 d4
    try clear d7 d8 d9 d10
    go_wp2_with fail
    refine (HD3.out _ HUd.out).mono ?_
    rintro r we ⟨rfl, hb⟩
    have HBe := Lib.hid (bchain HBd.out hb)
    have HXe := Lib.hid (HXd.out.below hb)
    have HUe := Lib.hid (HUd.out.below hb)
    clear hb
    clear a0 a1 a2 a3 a4 a5 a6 a7
    obtain ⟨a0, a1, a2, a3, a4, a5, a6, a7⟩ := HXe.out.cells
    go_wp2_with fail
    refine (HA3.out _ HUe.out).mono ?_
    rintro r wf ⟨rfl, hb⟩
    have HBf := Lib.hid (bchain HBe.out hb)
    have HXf := Lib.hid (HXe.out.below hb)
    clear hb
    obtain ⟨wh, hwh, hb, rb⟩ := acc_box (⟨nf, af, x.seq + 1⟩ : A) wf
    obtain ⟨qh, hq⟩ : ∃ q, wf.heap.size = q := ⟨_, rfl⟩
    rw [hq] at rb
    have Hqh := Lib.hid hq
    have HVh := Lib.hid rb
    have HWh := Lib.hid hwh
    have HBh := Lib.hid (bchain HBf.out hb)
    have HXh := Lib.hid (HXf.out.below hb)
    clear hb
    clear rb hq hwh a0 a1 a2 a3 a4 a5 a6 a7
    go_upto_region 19 with fail
    try dsimp only at HWh
    try rw [HWh.out]
    try rw [Hqh.out]
    obtain ⟨a0, a1, a2, a3, a4, a5, a6, a7⟩ := HXh.out.cells
    have g2 := HVh.out.cells.2.2
    try dsimp only at g2
    have HSQ := HFN.out.2.2
    obtain ⟨v1, v2⟩ := wrap_i (n := x.seq + 1) (by omega) (by omega)
    have s9 : (x.seq + 1 == x.seq + 1) = true := beq_self_eq_true _
    clear HSQ
    rcases HTK.out with ⟨hk, hd, rfl⟩ | ⟨hk, hd, rfl⟩ | ⟨hk, hd⟩ | ⟨hk, rfl⟩
    · obtain ⟨rfl, rfl⟩ := Prod.mk.inj hd
      have r2 : (x.kind == 2) = true := beq_iff_eq.2 hk
      have t1 : (x.val == x.val) = true := beq_self_eq_true _
      have t2 : (sv == sv) = true := beq_self_eq_true _
      clear hk hd
      go_wp2
      go_ret
      exact ⟨rfl, HBh.out⟩
    · obtain ⟨rfl, rfl⟩ := Prod.mk.inj hd
      have r2 : (x.kind == 2) = false := beq_eq_false_iff_ne.2 (by omega)
      have r3 : (x.kind == 3) = true := beq_iff_eq.2 hk
      have t2 : (sv == sv) = true := beq_self_eq_true _
      clear hk hd
      go_wp2
      go_ret
      exact ⟨rfl, HBh.out⟩
    · subst hd
      have r2 : (x.kind == 2) = false := beq_eq_false_iff_ne.2 (by omega)
      have r3 : (x.kind == 3) = false := beq_eq_false_iff_ne.2 (by omega)
      have r4 : (x.kind == 4) = true := beq_iff_eq.2 hk
      have HDG := Lib.hid (digest_any x.mem (.slice Az x.mem.length capz) wh (HMM.out _ HBh.out) (HTB.out.below HBh.out))
      obtain ⟨D, hD⟩ : ∃ D, Pw.digL x.mem = D := ⟨_, rfl⟩
      rw [hD] at HDG
      try rw [hD]
      have t2 : (D == D) = true := beq_self_eq_true _
      clear hk hD
      go_wp2_with fail
      refine HDG.out.mono ?_
      rintro r wi ⟨rfl, hb⟩
      have HBi := Lib.hid (bchain HBh.out hb)
      have HXi := Lib.hid (HXh.out.below hb)
      have g2 := (HVh.out.below hb).cells.2.2
      try dsimp only at g2
      have a2 := HXi.out.cells.2.2.1
      clear hb
      go_wp2
      go_ret
      exact ⟨rfl, HBi.out⟩
    · have t2 : (sv == sv) = true := beq_self_eq_true _
      have r2 : (x.kind == 2) = false := beq_eq_false_iff_ne.2 (by omega)
      have r3 : (x.kind == 3) = false := beq_eq_false_iff_ne.2 (by omega)
      have r4 : (x.kind == 4) = false := beq_eq_false_iff_ne.2 (by omega)
      clear hk
      go_wp2
      go_ret
      exact ⟨rfl, HBh.out⟩
theorem execTells_law (za : Value) (C : List A) (zm : Value) (N : List M) (zi : Value) (I : St) (x : X) (z : Value) (s : T × T) (w : World) (ha : AccIn w za C) (hC : C.length ≤ maxLen ∧ ∀ a ∈ C, (Lit.int .i64 a.amt).wf = true ∧ (Lit.int .i64 a.seq).wf = true) (hm : Mems w zm N) (hN : N.length * 24 ≤ reachBytes) (hi : ItIn w zi I) (hI : I.length ≤ maxLen) (_ : OkX x) (hz : Mems w z x.mem) (hs : s.1.length ≤ 140737488351232 ∧ s.2.length ≤ 140737488351232) (hT : Tab w) :
    Calls Tryd.prog 5 #[.agg #[za, zm, zi], xval x z, .agg #[.string ⟨s.1.toArray⟩, .string ⟨s.2.toArray⟩]] w fun r w' => r = .returned (.bool true) ∧ Below w.heap.size w w' :=
  execTells_walk C N I za zm zi x z s.1 s.2 w ha hm hi hC.1 (by unfold maxLen; unfold reachBytes at hN; omega) hI hz hs.2 hT
end Go.Proofs.YtlckcfpdiigjiaaDoor
