/- The law ExecAll, walked. -/
import Derived.Test.YtlckcfpdiigjiaaGreatDoorPk21
import Derived.Test.YtlckcfpdiigjiaaGreatDoorPk23
import Derived.Test.YtlckcfpdiigjiaaGreatDoorPk07
namespace Go.Proofs.YtlckcfpdiigjiaaGreatDoor
open Go.RowKit
open Sto (T St)
open Go.Proofs.YtlckcfpdiigjiaaGreatDoor.Pw (M)
open Go.Proofs.YtlckcfpdiigjiaaGreatDoor.Txn (X)
open Go.Proofs.YtlckcfpdiigjiaaGreatDoor.Exc (A Rc Al)

theorem Exc.allC_len {L : List X} (h : Exc.allC L = 0) : L.length ≤ 8 ∧ Txn.fines L = true := by
  unfold Exc.allC at h
  split at h
  · cases h
  · split at h
    · cases h
    · rename_i h1 h2
      exact ⟨by omega, by simpa using h2⟩
/-- Items that a slot has once it is there. -/
def ZsI (S : St) (w : World) (b : Option Bool) (v : Value) : Prop := b = some true → ItIn w v S
theorem ZsI.below {S : St} {w w' : World} {b : Option Bool} {v : Value} (h : ZsI S w b v) (hb : Below w.heap.size w w') : ZsI S w' b v := fun e => RowsIn.below (h e) hb
/-- What RAllPost tells, in one form. -/
theorem rall_form {S : St} {L : List X} {w w' : World} {e : Ending} (h : RAllPost S L w e w') : ∃ Ai ci Ar cr An cn, e = .returned (.tuple #[.agg #[.slice Ai (if Exc.allC L = 0 then (Exc.runA ⟨S, [], []⟩ L).st else []).length ci, .slice Ar (if Exc.allC L = 0 then (Exc.runA ⟨S, [], []⟩ L).rc else []).length cr, .slice An (if Exc.allC L = 0 then (Exc.runA ⟨S, [], []⟩ L).nx else []).length cn], .int .i64 (Exc.allC L)]) ∧
    ItAt w' (.slice Ai (if Exc.allC L = 0 then (Exc.runA ⟨S, [], []⟩ L).st else []).length ci) (if Exc.allC L = 0 then (Exc.runA ⟨S, [], []⟩ L).st else []) ∧ RcIn w' (.slice Ar (if Exc.allC L = 0 then (Exc.runA ⟨S, [], []⟩ L).rc else []).length cr) (if Exc.allC L = 0 then (Exc.runA ⟨S, [], []⟩ L).rc else []) ∧ Mems w' (.slice An (if Exc.allC L = 0 then (Exc.runA ⟨S, [], []⟩ L).nx else []).length cn) (if Exc.allC L = 0 then (Exc.runA ⟨S, [], []⟩ L).nx else []) ∧ Below w.heap.size w w' := by
  obtain ⟨zs, zr, zn, rfl, h1, h2, h3, hb⟩ := h
  obtain ⟨Ai, ci, rfl, -, -⟩ := RowsAt.form h1
  obtain ⟨Ar, cr, rfl, -, -⟩ := RowsAt.form h2
  obtain ⟨An, cn, rfl⟩ := h3.form
  exact ⟨Ai, ci, Ar, cr, An, cn, rfl, h1, h2.inn, h3, hb⟩
set_option maxRecDepth 100000 in
set_option maxHeartbeats 32000000 in
theorem execAll_walk (C : List A) (N : List M) (I : St) (za zm zi : Value) (L : List X) (v : Value) (w : World) (ha : AccIn w za C) (hm : Mems w zm N) (hi : ItIn w zi I) (lC : C.length ≤ maxLen) (lN : N.length ≤ maxLen) (lI : I.length ≤ maxLen) (hu : Txs w v L) (lL : L.length ≤ maxLen) (hT : Tab w) :
    Calls Tryz.prog 3 #[.agg #[za, zm, zi], v] w fun r w' => r = .returned (.bool true) ∧ Below w.heap.size w w' := by
  obtain ⟨w0, hw0, hb0, rs⟩ := start_box za zm zi w
  have HB0 := Lib.hid hb0
  have HTB := Lib.hid hT
  have HWK := Lib.hid (fun w' h => eworks_any w' h)
  obtain ⟨q0, hq0⟩ : ∃ q, w.heap.size = q := ⟨_, rfl⟩
  rw [hq0] at rs
  have HQ0 := Lib.hid hq0
  have HW0 := Lib.hid hw0
  have HS0 := Lib.hid rs
  have HBG := Lib.hid (ebig_any C N I L za zm zi v w0 (RowsIn.below ha hb0) (hm.below hb0) (RowsIn.below hi hb0) (hu.below hb0) lC lN lI lL)
  have HBE : Hid (∀ w', Below w.heap.size w w' → Calls Tryz.prog 8 #[.agg #[za, zm, zi]] w' (BegPost w')) := Lib.hid (fun w' h => begun_any C N I za zm zi w' (RowsIn.below ha h) (hm.below h) (RowsIn.below hi h) lI (hT.below h))
  have HUU : Hid (∀ w', Below w.heap.size w w' → Txs w' v L) := Lib.hid (fun w' h => hu.below h)
  obtain ⟨A1, cap1, rfl, -, -⟩ := RowsIn.form ha
  obtain ⟨A2, cap2, rfl⟩ := hm.form
  obtain ⟨A3, cap3, rfl, -, -⟩ := RowsIn.form hi
  obtain ⟨Au, capu, rfl⟩ := hu.form
  unfold EBigPost at HBG
  unfold BegPost at HBE
  clear ha hm hi lC lN lI hu lL hT hb0 rs hq0 hw0
  go_enter Tryz.func3, Tryz.ntmps3
  go_upto_region 1 with fail
  try rw [HW0.out]
  try rw [HQ0.out]
  obtain ⟨p0, p1, p2⟩ := HS0.out.cells
  go_wp2_with fail
  refine HBG.out.mono ?_
  rintro r w1 ⟨bb, rfl, hfit, hb⟩
  have HFIT := Lib.hid hfit
  have HB1 := Lib.hid (bchain HB0.out hb)
  have HS1 := Lib.hid (HS0.out.below hb)
  clear hfit hb HBG p0 p1 p2
  cases bb with
  | true =>
    go_wp2_with fail
    refine (HWK.out _ (HTB.out.below HB1.out)).mono ?_
    rintro r wz ⟨rfl, hbz⟩
    have HBZ := Lib.hid (bchain HB1.out hbz)
    clear hbz
    go_wp2
    go_ret
    exact ⟨rfl, HBZ.out⟩
  | false =>
  have HFI := Lib.hid (HFIT.out rfl)
  obtain ⟨p0, p1, p2⟩ := HS1.out.cells
  go_wp2_with fail
  refine (HBE.out _ HB1.out).mono ?_
  rintro r w2 ⟨zt, ze, rfl, hor, hb⟩
  have HOR := Lib.hid hor
  have HB2 := Lib.hid (bchain HB1.out hb)
  clear hor hb p0 p1 p2 HBE HFIT
  rcases HOR.out with ⟨rfl, rfl⟩ | ⟨g, S, rfl, ht, hit⟩
  · unfold nilp
    go_wp2_with fail
    refine (HWK.out _ (HTB.out.below HB2.out)).mono ?_
    rintro r wz ⟨rfl, hbz⟩
    have HBZ := Lib.hid (bchain HB2.out hbz)
    clear hbz
    go_wp2
    go_ret
    exact ⟨rfl, HBZ.out⟩
  have HFW : Hid (S.length ≤ 1024) := Lib.hid ht.few
  have HRI := Lib.hid ht.rise
  have HSM := Lib.hid ht.small
  obtain ⟨Ai, capi, rfl, -, -⟩ := RowsAt.form hit
  unfold ptr
  obtain ⟨y1, w3, r1, o1, b1⟩ := own_txs (HUU.out _ HB2.out) (by have := HFI.out.nL; omega)
  obtain ⟨Ao, co, rfl⟩ := o1.form
  have HR1 := Lib.hid r1
  have HT3 := Lib.hid (ht.below b1)
  have HI3 := Lib.hid (RowsAt.below hit b1)
  have HO3 := Lib.hid o1
  have HB3 := Lib.hid (bchain HB2.out b1)
  clear r1 ht hit o1 b1 HOR
  have HAL := Lib.hid (eall_form (g := g) S (.slice Ao L.length co) L w3 HT3.out (HTB.out.below HB3.out) HO3.out)
  have HRA := Lib.hid (fun w' h h2 => (rall_any S (.slice Ai S.length capi) (.slice Au L.length capu) L w' h (by have := HFW.out; omega) HRI.out HSM.out h2).mono fun e w'' h => rall_form h)
  unfold ptr at HAL
  have HNL : Hid (Exc.allC L = 0 → (Exc.runA ⟨S, [], []⟩ L).nx.length ≤ 7 ∧ (Exc.runA ⟨S, [], []⟩ L).rc.length ≤ 8) := Lib.hid (fun h => by
    obtain ⟨h1, h2⟩ := Exc.allC_len h
    exact ⟨Exc.run_mem S L h2, by rw [Exc.run_rc]; simpa using h1⟩)
  obtain ⟨D, hD⟩ : ∃ D, Exc.runA ⟨S, [], []⟩ L = D := ⟨_, rfl⟩
  rw [hD] at HAL HRA HNL
  obtain ⟨c, hc⟩ : ∃ c, Exc.allC L = c := ⟨_, rfl⟩
  rw [hc] at HAL HRA HNL
  have HLR : Hid ((if c = 0 then D.rc else []).length ≤ 1000000) := Lib.hid (by split; have := HNL.out (by assumption); omega; simp)
  have HLN : Hid ((if c = 0 then D.nx else []).length ≤ 1000000) := Lib.hid (by split; have := HNL.out (by assumption); omega; simp)
  have HST : Hid (c = 0 → (if c = 0 then D.st else []) = D.st) := Lib.hid (fun h => if_pos h)
  obtain ⟨PR, hPR⟩ : ∃ P, (if c = 0 then D.rc else []) = P := ⟨_, rfl⟩
  obtain ⟨PN, hPN⟩ : ∃ P, (if c = 0 then D.nx else []) = P := ⟨_, rfl⟩
  obtain ⟨PS, hPS⟩ : ∃ P, (if c = 0 then D.st else []) = P := ⟨_, rfl⟩
  rw [hPR, hPN] at HAL
  rw [hPR, hPN, hPS] at HRA
  rw [hPR] at HLR
  rw [hPN] at HLN
  rw [hPS] at HST
  clear hD hc hPR hPN hPS HNL
  go_wp2_with (at_builtin; refine wpList_append_run rfl _ _ _ rfl (.slice (some ⟨w2.heap.size, 0, none⟩) 0 0) (.slice Au L.length capu) _ (by rfl) (by rfl) HR1.out ?_)
  refine HAL.out.mono ?_
  rintro r w4 ⟨po, Ar, cr, An, cn, rfl, h1, h2, h3, h4, hb⟩
  have HZ1 := Lib.hid h1
  have HZ2 := Lib.hid h2
  have HRC4 := Lib.hid h3
  have HNX4 := Lib.hid h4
  have HX4 : Hid (Below w3.heap.size w3 w4) := Lib.hid hb
  clear h1 h2 h3 h4 hb HAL
  go_wp2_with fail
  refine (HRA.out _ (RowsAt.below HI3.out HX4.out) (HUU.out _ (bchain HB3.out HX4.out))).mono ?_
  rintro r w5 ⟨Bi, di, Br, dr, Bn, dn, rfl, h1, h2, h3, hb⟩
  obtain ⟨w6, hw6, hb6, rd⟩ := done_box (.slice Bi PS.length di) (.slice Br PR.length dr) (.slice Bn PN.length dn) w5
  obtain ⟨q6, hq6⟩ : ∃ q, w5.heap.size = q := ⟨_, rfl⟩
  rw [hq6] at rd
  have HW6 := Lib.hid hw6
  have HQ6 := Lib.hid hq6
  have HD6 := Lib.hid rd
  have hb46 := bchain hb hb6
  have HX6 : Hid (Below w3.heap.size w3 w6) := Lib.hid (bchain HX4.out hb46)
  have HIS6 := Lib.hid (RowsAt.below h1 hb6)
  have HRC6 := Lib.hid (RowsIn.below HRC4.out hb46)
  have HNX6 := Lib.hid (HNX4.out.below hb46)
  have HRR6 := Lib.hid (RowsIn.below h2 hb6)
  have HNN6 := Lib.hid (h3.below hb6)
  have HZ6 : Hid (c = 0 → ∃ g', po = some ⟨g', 0, none⟩ ∧ TrAt w6 g' D.st) := Lib.hid (fun h => by obtain ⟨g', e, q⟩ := HZ1.out h; exact ⟨g', e, q.below hb46⟩)
  clear h1 h2 h3 hb hw6 hq6 hb6 rd hb46 HZ1 HRC4 HNX4 HRA HX4
  go_upto_region 9 with fail
  try rw [HW6.out]
  try rw [HQ6.out]
  obtain ⟨d0, d1, d2⟩ := HD6.out.cells
  have HSR := Lib.hid (sameRc_in PR PR (.slice Ar PR.length cr) (.slice Br PR.length dr) w6 HRC6.out HRR6.out HLR.out HLR.out)
  rw [show decide (PR = PR) = true from decide_eq_true rfl] at HSR
  have s1 : (c != c) = false := bne_self_eq_false _
  go_wp2_with fail
  refine HSR.out.mono ?_
  rintro r w7 ⟨rfl, hb⟩
  have HX7 : Hid (Below w3.heap.size w3 w7) := Lib.hid (bchain HX6.out hb)
  have HD7 := Lib.hid (HD6.out.below hb)
  have HIS7 := Lib.hid (RowsAt.below HIS6.out hb)
  have HNX7 := Lib.hid (HNX6.out.below hb)
  have HNN7 := Lib.hid (HNN6.out.below hb)
  have HZ7 : Hid (c = 0 → ∃ g', po = some ⟨g', 0, none⟩ ∧ TrAt w7 g' D.st) := Lib.hid (fun h => by obtain ⟨g', e, q⟩ := HZ6.out h; exact ⟨g', e, q.below hb⟩)
  clear hb d0 d1 d2 HSR HZ6
  obtain ⟨d0, d1, d2⟩ := HD7.out.cells
  have HSN := Lib.hid (sameM_any PN PN (.slice An PN.length cn) (.slice Bn PN.length dn) w7 HNX7.out.mems HNN7.out HLN.out HLN.out)
  rw [show decide (PN = PN) = true from decide_eq_true rfl] at HSN
  go_wp2_with fail
  refine HSN.out.mono ?_
  rintro r w8 ⟨rfl, hb⟩
  have HX8 : Hid (Below w3.heap.size w3 w8) := Lib.hid (bchain HX7.out hb)
  have HD8 := Lib.hid (HD7.out.below hb)
  have HIS8 := Lib.hid (RowsAt.below HIS7.out hb)
  have HNX8 := Lib.hid (HNX7.out.below hb)
  have HZ8 : Hid (c = 0 → ∃ g', po = some ⟨g', 0, none⟩ ∧ TrAt w8 g' D.st) := Lib.hid (fun h => by obtain ⟨g', e, q⟩ := HZ7.out h; exact ⟨g', e, q.below hb⟩)
  clear hb d0 d1 d2 HSN HZ7
  have HSP := Lib.hid (spoilMems_own PN (.slice An PN.length cn) w3.heap.size w8 HNX8.out HLN.out)
  have HCASE : Hid ((c = 0 ∧ ∃ g', po = some ⟨g', 0, none⟩ ∧ TrAt w8 g' D.st) ∨ (c ≠ 0 ∧ po = none)) := Lib.hid (by
    by_cases h : c = 0
    · exact Or.inl ⟨h, HZ8.out h⟩
    · exact Or.inr ⟨h, HZ2.out h⟩)
  clear HZ8 HZ2
  rcases HCASE.out with ⟨hc, g', rfl, ht8⟩ | ⟨hc, rfl⟩
  · have HTS8 : Hid (TrAt w8 g' D.st) := Lib.hid ht8
    have HPS : Hid (PS = D.st) := Lib.hid (HST.out hc)
    have s2 : (c != 0) = false := by rw [hc]; rfl
    have s3 : (c == 0) = true := by rw [hc]; rfl
    clear ht8
    clear hc HCASE
    go_wp2_with fail
    refine HSP.out.mono ?_
    rintro r w9 ⟨rfl, hb9, ho9⟩
    have HX9 : Hid (Below w3.heap.size w3 w9) := Lib.hid (HX8.out.trans hb9)
    have HD9 : Hid (DoneAt w9 q6 (.slice Bi PS.length di) (.slice Br PR.length dr) (.slice Bn PN.length dn)) := Lib.hid (ho9.heap HD8.out (fun e => own_typE HNX8.out (T := 38) (by decide) q6 _ _ e HD8.out))
    have HIS9 : Hid (ItAt w9 (.slice Bi PS.length di) PS) := Lib.hid (RowsAt.outF HIS8.out ho9 (fun k cs fl hk => own_typE HNX8.out (by decide) k cs fl hk))
    have HTS9 : Hid (TrAt w9 g' D.st) := Lib.hid (HTS8.out.outE ho9 (fun k cs f e => own_typE HNX8.out (by decide) k cs f e) (fun k cs f e => own_typE HNX8.out (by decide) k cs f e))
    clear hb9 ho9
    go_wp2
    go_loopw [15] (fun iv wr => ∃ k : Nat, iv = .int .i64 k ∧ k ≤ L.length ∧ Below w9.heap.size w9 wr) (fun iv _ => L.length - (intOf iv).toNat)
    case atStart => exact ⟨0, rfl, Nat.zero_le _, Below.refl _ _⟩
    case round =>
      obtain ⟨k, rfl, hk, hb⟩ := hrel
      have HB9 := Lib.hid hb
      have HXR : Hid (Below w3.heap.size w3 wr) := Lib.hid (bchain HX9.out hb)
      have HBW : Hid (Below w.heap.size w wr) := Lib.hid (bchain HB3.out HXR.out)
      clear hb
      by_cases hlt : k < L.length
      · have h1 : (k : Int) < (L.length : Int) := by omega
        have h0 : (0 : Int) ≤ (k : Int) := by omega
        have hk9 : (k : Int) ≤ 20 := by have := HFI.out.nL; omega
        obtain ⟨b1, o1, z1, hA1, ca, hm1⟩ := (HO3.out.below HXR.out).at k hlt
        obtain ⟨b2, o2, z2, hA2, cb, hm2⟩ := (HUU.out _ HBW.out).at k hlt
        have HML := Lib.hid (HFI.out.tx k hlt).2.2.2.2
        obtain ⟨x, hx⟩ : ∃ x, L[k] = x := ⟨_, rfl⟩
        rw [hx] at ca cb hm1 hm2 HML
        clear hx
        obtain ⟨Az1, cz1, rfl⟩ := hm1.form
        obtain ⟨Az2, cz2, rfl⟩ := hm2.form
        have c0 := ca 0 _ rfl
        have c1 := ca 1 _ rfl
        have c2 := ca 2 _ rfl
        have c3 := ca 3 _ rfl
        have c4 := ca 4 _ rfl
        have c5 := ca 5 _ rfl
        have c6 := ca 6 _ rfl
        have c7 := ca 7 _ rfl
        have e0 := cb 0 _ rfl
        have e1 := cb 1 _ rfl
        have e2 := cb 2 _ rfl
        have e3 := cb 3 _ rfl
        have e4 := cb 4 _ rfl
        have e5 := cb 5 _ rfl
        have e6 := cb 6 _ rfl
        have e7 := cb 7 _ rfl
        have HCC : Hid (∀ w', Below wr.heap.size wr w' → w'.cell? ⟨b1, o1 + k * 8, none⟩ = some (.int .i64 x.kind) ∧ w'.cell? ⟨b1, o1 + k * 8 + 1, none⟩ = some (.string ⟨x.frm.toArray⟩) ∧ w'.cell? ⟨b1, o1 + k * 8 + 2, none⟩ = some (.int .i64 x.seq) ∧ w'.cell? ⟨b1, o1 + k * 8 + 3, none⟩ = some (.string ⟨x.dst.toArray⟩) ∧ w'.cell? ⟨b1, o1 + k * 8 + 4, none⟩ = some (.int .i64 x.amt) ∧ w'.cell? ⟨b1, o1 + k * 8 + 5, none⟩ = some (.string ⟨x.key.toArray⟩) ∧ w'.cell? ⟨b1, o1 + k * 8 + 6, none⟩ = some (.string ⟨x.val.toArray⟩) ∧ w'.cell? ⟨b1, o1 + k * 8 + 7, none⟩ = some (.slice Az1 x.mem.length cz1) ∧ w'.cell? ⟨b2, o2 + k * 8, none⟩ = some (.int .i64 x.kind) ∧ w'.cell? ⟨b2, o2 + k * 8 + 1, none⟩ = some (.string ⟨x.frm.toArray⟩) ∧ w'.cell? ⟨b2, o2 + k * 8 + 2, none⟩ = some (.int .i64 x.seq) ∧ w'.cell? ⟨b2, o2 + k * 8 + 3, none⟩ = some (.string ⟨x.dst.toArray⟩) ∧ w'.cell? ⟨b2, o2 + k * 8 + 4, none⟩ = some (.int .i64 x.amt) ∧ w'.cell? ⟨b2, o2 + k * 8 + 5, none⟩ = some (.string ⟨x.key.toArray⟩) ∧ w'.cell? ⟨b2, o2 + k * 8 + 6, none⟩ = some (.string ⟨x.val.toArray⟩) ∧ w'.cell? ⟨b2, o2 + k * 8 + 7, none⟩ = some (.slice Az2 x.mem.length cz2)) := Lib.hid (fun w' h => by
          have up : ∀ {p : Addr} {t : Value}, wr.cell? p = some t → w'.cell? p = some t := fun c => (h.cell (World.block_lt_of_cell? _ _ c)).trans c
          exact ⟨up c0, up c1, up c2, up c3, up c4, up c5, up c6, up c7, up e0, up e1, up e2, up e3, up e4, up e5, up e6, up e7⟩)
        subst hA1 hA2
        have HSX : Hid (∀ w', Below wr.heap.size wr w' → Calls Tryz.prog 14 #[xval x (.slice Az1 x.mem.length cz1), xval x (.slice Az2 x.mem.length cz2)] w' fun r w'' => r = .returned (.bool true) ∧ Below wr.heap.size wr w'') := Lib.hid (fun w' h => by
          have h2 := sameTx_any x x (.slice Az1 x.mem.length cz1) (.slice Az2 x.mem.length cz2) w' (hm1.below h) (hm2.below h) (by have := HML.out; omega) (by have := HML.out; omega)
          rw [show decide (x = x) = true from decide_eq_true rfl] at h2
          exact h2.mono fun e w'' ⟨p, q⟩ => ⟨p, bchain h q⟩)
        unfold xval at HSX
        have BD : Below wr.heap.size wr wr.drew := (Below.refl _ _).drew
        clear ca cb hm1 hm2 c0 e0 c1 e1 c2 e2 c3 e3 c4 e4 c5 e5 c6 e6 c7 e7
        obtain ⟨c0, c1, c2, c3, c4, c5, c6, c7, e0, e1, e2, e3, e4, e5, e6, e7⟩ := HCC.out _ BD
        go_upto_region 15 with fail
        go_region_held3 (fun w' => w'.cell? ⟨b1, o1 + k * 8, none⟩ = some (.int .i64 x.kind) ∧ w'.cell? ⟨b1, o1 + k * 8 + 1, none⟩ = some (.string ⟨x.frm.toArray⟩) ∧ w'.cell? ⟨b1, o1 + k * 8 + 2, none⟩ = some (.int .i64 x.seq) ∧ w'.cell? ⟨b1, o1 + k * 8 + 3, none⟩ = some (.string ⟨x.dst.toArray⟩) ∧ w'.cell? ⟨b1, o1 + k * 8 + 4, none⟩ = some (.int .i64 x.amt) ∧ w'.cell? ⟨b1, o1 + k * 8 + 5, none⟩ = some (.string ⟨x.key.toArray⟩) ∧ w'.cell? ⟨b1, o1 + k * 8 + 6, none⟩ = some (.string ⟨x.val.toArray⟩) ∧ w'.cell? ⟨b1, o1 + k * 8 + 7, none⟩ = some (.slice Az1 x.mem.length cz1) ∧ w'.cell? ⟨b2, o2 + k * 8, none⟩ = some (.int .i64 x.kind) ∧ w'.cell? ⟨b2, o2 + k * 8 + 1, none⟩ = some (.string ⟨x.frm.toArray⟩) ∧ w'.cell? ⟨b2, o2 + k * 8 + 2, none⟩ = some (.int .i64 x.seq) ∧ w'.cell? ⟨b2, o2 + k * 8 + 3, none⟩ = some (.string ⟨x.dst.toArray⟩) ∧ w'.cell? ⟨b2, o2 + k * 8 + 4, none⟩ = some (.int .i64 x.amt) ∧ w'.cell? ⟨b2, o2 + k * 8 + 5, none⟩ = some (.string ⟨x.key.toArray⟩) ∧ w'.cell? ⟨b2, o2 + k * 8 + 6, none⟩ = some (.string ⟨x.val.toArray⟩) ∧ w'.cell? ⟨b2, o2 + k * 8 + 7, none⟩ = some (.slice Az2 x.mem.length cz2))
          ((first | (with_reducible exact ⟨c0, c1, c2, c3, c4, c5, c6, c7, e0, e1, e2, e3, e4, e5, e6, e7⟩) | (refine HCC.out _ ?_; with_reducible assumption)))
          ((go_at_call 14; refine (HSX.out _ ?_).mono ?_; (with_reducible exact BD); rintro r w6 ⟨rfl, hb6⟩))
        all_goals
          have HB6 := Lib.hid (bchain HB9.out hb6)
          clear hb6 BD c0 e0 c1 e1 c2 e2 c3 e3 c4 e4 c5 e5 c6 e6 c7 e7
          go_wp2
          go_roundw
          case rel => exact ⟨k + 1, by go_num, by omega, HB6.out⟩
          case measure => simp [intOf]; omega
      · have h1 : ¬ ((k : Int) < (L.length : Int)) := by omega
        obtain rfl : k = L.length := by omega
        clear hk h1
        have HIT : Hid (∀ w', Below wr.heap.size wr w' → Calls Tryz.prog 16 #[.pointer (some ⟨g, 0, none⟩)] w' fun e w'' => ∃ z, e = .returned z ∧ ItIn w'' z S ∧ Below wr.heap.size wr w'' ∧ Below w'.heap.size w' w'') := Lib.hid (fun w' h => (sitems_any (g := g) (S := S) w' (HT3.out.below (bchain HXR.out h))).mono fun e w'' ⟨z, e1, e2, e3⟩ => ⟨z, e1, ItAt.inn (OwnI.at_ e2), bchain h e3, e3⟩)
        have HSS : Hid (∀ u w', ItIn w' u S → Below wr.heap.size wr w' → Calls Tryz.prog 15 #[u, .slice Ai S.length capi] w' fun e w'' => e = .returned (.bool true) ∧ Below wr.heap.size wr w'' ∧ Below w'.heap.size w' w'') := Lib.hid (fun u w' h1 h => by
          have h2 := sameI_in S S u (.slice Ai S.length capi) w' h1 (ItAt.inn (RowsAt.below HI3.out (bchain HXR.out h))) (by have := HFW.out; omega) (by have := HFW.out; omega)
          rw [show decide (S = S) = true from decide_eq_true rfl] at h2
          exact h2.mono fun e w'' ⟨p, q⟩ => ⟨p, bchain h q, q⟩)
        have HWW : Hid (∀ w', Below wr.heap.size wr w' → Calls Tryz.prog 7 #[] w' fun e w'' => e = .returned (.bool true) ∧ Below wr.heap.size wr w'' ∧ Below w'.heap.size w' w'') := Lib.hid (fun w' h => (HWK.out w' (HTB.out.below (bchain HBW.out h))).mono fun e w'' ⟨p, q⟩ => ⟨p, bchain h q, q⟩)
        have BD : Below wr.heap.size wr wr.drew := (Below.refl _ _).drew
        have hcl := HD9.out.cells.1
        have HCC : Hid (∀ w', Below wr.heap.size wr w' → w'.cell? ⟨q6, 0, none⟩ = some (.slice Bi PS.length di)) := Lib.hid (fun w' h => ((HD9.out.below HB9.out).below h).cells.1)
        clear hcl
        have dd := HCC.out _ BD
        have HFD : Hid (D.st.length ≤ 1024) := Lib.hid HTS9.out.few
        have HIU : Hid (∀ w', Below wr.heap.size wr w' → Calls Tryz.prog 16 #[.pointer (some ⟨g', 0, none⟩)] w' fun e w'' => ∃ z, e = .returned z ∧ ItIn w'' z D.st ∧ Below wr.heap.size wr w'' ∧ Below w'.heap.size w' w'') := Lib.hid (fun w' h => (sitems_any (g := g') (S := D.st) w' ((HTS9.out.below HB9.out).below h)).mono fun e w'' ⟨z, e1, e2, e3⟩ => ⟨z, e1, ItAt.inn (OwnI.at_ e2), bchain h e3, e3⟩)
        have HSU : Hid (∀ u w', ItIn w' u D.st → Below wr.heap.size wr w' → Calls Tryz.prog 15 #[u, .slice Bi PS.length di] w' fun e w'' => e = .returned (.bool true) ∧ Below wr.heap.size wr w'' ∧ Below w'.heap.size w' w'') := Lib.hid (fun u w' h1 h => by
          have h2 := sameI_in D.st PS u (.slice Bi PS.length di) w' h1 (ItAt.inn (RowsAt.below (RowsAt.below HIS9.out HB9.out) h)) (by have := HFD.out; omega) (by rw [HPS.out]; have := HFD.out; omega)
          rw [show decide (D.st = PS) = true from decide_eq_true HPS.out.symm] at h2
          exact h2.mono fun e w'' ⟨p, q⟩ => ⟨p, bchain h q, q⟩)
        clear dd
        go_upto_region 17 with fail
        refine region_inv (fun Lq aq w' => ∃ v95 v96 v97 v98 v99 v100 v101 v102 v103 v104 v105 v106 v107 v108 v109 v110 v111 v112 v4 : Value, aq = ⟨#[Value.agg #[Value.slice A1 C.length cap1, Value.slice A2 N.length cap2, Value.slice A3 (List.length I) cap3], Value.slice Au L.length capu, Value.pointer (some { block := q0, off := 0 }), undef, v4, Value.pointer (some { block := g, off := 0 }), Value.slice Ai (List.length S) capi, Value.bool true, Value.slice Ao L.length co, Value.pointer (some { block := g', off := 0 }), Value.slice Ar PR.length cr, Value.slice An PN.length cn, Value.int IntKind.i64 c, Value.pointer (some { block := q6, off := 0 }), Value.int IntKind.i64 c, Value.int IntKind.i64 ↑L.length, Value.agg #[Value.slice A1 C.length cap1, Value.slice A2 N.length cap2, Value.slice A3 (List.length I) cap3], Value.slice Au L.length capu, Value.bool false, undef, Value.tuple #[Value.pointer (some { block := g, off := 0 }), Value.slice Ai (List.length S) capi, Value.bool true], Value.agg #[Value.slice A1 C.length cap1, Value.slice A2 N.length cap2, Value.slice A3 (List.length I) cap3], Value.tuple #[Value.pointer (some { block := g, off := 0 }), Value.slice Ai (List.length S) capi, Value.bool true], Value.pointer (some { block := g, off := 0 }), Value.slice Ai (List.length S) capi, Value.bool true, Value.pointer (some { block := g, off := 0 }), Value.bool false, Value.bool false, Value.bool true, Value.bool false, Value.bool false, undef, undef, undef, undef, Value.slice (some { block := w2.heap.size, off := 0 }) 0 0, Value.slice Au L.length capu, Value.slice Ao L.length co, Value.tuple #[Value.pointer (some { block := g', off := 0 }), Value.slice Ar PR.length cr, Value.slice An PN.length cn, Value.int IntKind.i64 c], Value.pointer (some { block := g, off := 0 }), Value.slice Ao L.length co, Value.tuple #[Value.pointer (some { block := g', off := 0 }), Value.slice Ar PR.length cr, Value.slice An PN.length cn, Value.int IntKind.i64 c], Value.pointer (some { block := g', off := 0 }), Value.slice Ar PR.length cr, Value.slice An PN.length cn, Value.int IntKind.i64 c, Value.tuple #[Value.agg #[Value.slice Bi (List.length PS) di, Value.slice Br PR.length dr, Value.slice Bn PN.length dn], Value.int IntKind.i64 c], Value.slice Ai (List.length S) capi, Value.slice Au L.length capu, Value.tuple #[Value.agg #[Value.slice Bi (List.length PS) di, Value.slice Br PR.length dr, Value.slice Bn PN.length dn], Value.int IntKind.i64 c], Value.agg #[Value.slice Bi (List.length PS) di, Value.slice Br PR.length dr, Value.slice Bn PN.length dn], Value.int IntKind.i64 c, Value.int IntKind.i64 c, Value.int IntKind.i64 c, Value.bool false, Value.bool false, Value.slice Ar PR.length cr, Value.pointer (some { block := q6, off := 1 }), Value.slice Br PR.length dr, Value.bool true, Value.bool false, Value.bool false, Value.bool false, Value.slice An PN.length cn, Value.pointer (some { block := q6, off := 2 }), Value.slice Bn PN.length dn, Value.bool true, Value.bool false, Value.bool false, Value.bool false, Value.pointer (some { block := g', off := 0 }), Value.bool false, Value.int IntKind.i64 c, Value.bool false, Value.bool false, Value.bool false, Value.slice An PN.length cn, Value.tuple #[], Value.int IntKind.i64 ↑L.length, Value.slice Au L.length capu, Value.int IntKind.i64 ↑L.length, Value.bool false, u83, u84, u85, u86, u87, u88, u89, u90, u91, u92, u93, u94, v95, v96, v97, v98, v99, v100, v101, v102, v103, v104, v105, v106, v107, v108, v109, v110, v111, v112], []⟩ ∧ Below wr.heap.size wr w' ∧ (Lq[0]? = some true → v95 = .pointer (some ⟨g', 0, none⟩)) ∧ (Lq[1]? = some true → v96 = .bool false) ∧ (Lq[2]? = some true → v97 = .bool false) ∧ (Lq[3]? = some true → v98 = .pointer (some ⟨g', 0, none⟩)) ∧ ZsI D.st w' Lq[4]? v99 ∧ (Lq[5]? = some true → v100 = .pointer (some ⟨q6, 0, none⟩)) ∧ (Lq[6]? = some true → v101 = .slice Bi PS.length di) ∧ (Lq[7]? = some true → v102 = .bool true) ∧ (Lq[8]? = some true → v103 = .bool true) ∧ (Lq[9]? = some true → v104 = .bool true) ∧ (Lq[10]? = some true → v105 = .pointer (some ⟨g, 0, none⟩)) ∧ ZsI S w' Lq[11]? v106 ∧ (Lq[12]? = some true → v107 = .slice Ai S.length capi) ∧ (Lq[13]? = some true → v108 = .bool true) ∧ (Lq[14]? = some true → v109 = .bool true) ∧ (Lq[15]? = some true → v110 = .bool true) ∧ (Lq[16]? = some true → v111 = .bool true) ∧ (Lq[17]? = some true → v112 = .bool true) ∧ (Lq[18]? = some true → v4 = .bool true)) (by rfl) ?_ ?_ ?_
        · exact ⟨_, _, _, _, _, _, _, _, _, _, _, _, _, _, _, _, _, _, _, rfl, BD, (fun h => by simp at h), (fun h => by simp at h), (fun h => by simp at h), (fun h => by simp at h), (fun h => by simp at h), (fun h => by simp at h), (fun h => by simp at h), (fun h => by simp at h), (fun h => by simp at h), (fun h => by simp at h), (fun h => by simp at h), (fun h => by simp at h), (fun h => by simp at h), (fun h => by simp at h), (fun h => by simp at h), (fun h => by simp at h), (fun h => by simp at h), (fun h => by simp at h), (fun h => by simp at h)⟩
        · intro Lq aq w1r hL hI j o ho hj K hK
          obtain ⟨v95, v96, v97, v98, v99, v100, v101, v102, v103, v104, v105, v106, v107, v108, v109, v110, v111, v112, v4, rfl, hB, h0, h1, h2, h3, h4, h5, h6, h7, h8, h9, h10, h11, h12, h13, h14, h15, h16, h17, h18⟩ := hI
          obtain ⟨b0, b1, b2, b3, b4, b5, b6, b7, b8, b9, b10, b11, b12, b13, b14, b15, b16, b17, b18, rfl⟩ : ∃ b0 b1 b2 b3 b4 b5 b6 b7 b8 b9 b10 b11 b12 b13 b14 b15 b16 b17 b18, Lq = [b0, b1, b2, b3, b4, b5, b6, b7, b8, b9, b10, b11, b12, b13, b14, b15, b16, b17, b18] := by
            match Lq, hL with
            | [b0, b1, b2, b3, b4, b5, b6, b7, b8, b9, b10, b11, b12, b13, b14, b15, b16, b17, b18], _ => exact ⟨b0, b1, b2, b3, b4, b5, b6, b7, b8, b9, b10, b11, b12, b13, b14, b15, b16, b17, b18, rfl⟩
          have hi2 := (List.mem_filter.1 hj).2
          clear hj hL
          obtain dd := HCC.out _ hB
          rcases j with _ | _ | _ | _ | _ | _ | _ | _ | _ | _ | _ | _ | _ | _ | _ | _ | _ | _ | _ | j
          · obtain rfl := Option.some.inj ho
            clear ho
            rw [if_pos (by rfl)]
            go_simp
            exact hK _ _ ⟨_, v96, v97, v98, v99, v100, v101, v102, v103, v104, v105, v106, v107, v108, v109, v110, v111, v112, v4, rfl, hB, (fun _ => rfl), h1, h2, h3, h4, h5, h6, h7, h8, h9, h10, h11, h12, h13, h14, h15, h16, h17, h18⟩
          · obtain rfl := Option.some.inj ho
            simp [Region.binds] at hi2
            obtain rfl := h0 (by simp [hi2])
            clear ho hi2
            rw [if_pos (by rfl)]
            go_simp
            exact hK _ _ ⟨_, _, v97, v98, v99, v100, v101, v102, v103, v104, v105, v106, v107, v108, v109, v110, v111, v112, v4, rfl, hB, (fun _ => rfl), (fun _ => rfl), h2, h3, h4, h5, h6, h7, h8, h9, h10, h11, h12, h13, h14, h15, h16, h17, h18⟩
          · obtain rfl := Option.some.inj ho
            simp [Region.binds] at hi2
            obtain rfl := h1 (by simp [hi2])
            clear ho hi2
            rw [if_pos (by rfl)]
            go_simp
            exact hK _ _ ⟨v95, _, _, v98, v99, v100, v101, v102, v103, v104, v105, v106, v107, v108, v109, v110, v111, v112, v4, rfl, hB, h0, (fun _ => rfl), (fun _ => rfl), h3, h4, h5, h6, h7, h8, h9, h10, h11, h12, h13, h14, h15, h16, h17, h18⟩
          · obtain rfl := Option.some.inj ho
            simp [Region.binds] at hi2
            obtain rfl := h2 (by simp [hi2])
            clear ho hi2
            rw [if_pos (by rfl)]
            go_simp
            exact hK _ _ ⟨v95, v96, _, _, v99, v100, v101, v102, v103, v104, v105, v106, v107, v108, v109, v110, v111, v112, v4, rfl, hB, h0, h1, (fun _ => rfl), (fun _ => rfl), h4, h5, h6, h7, h8, h9, h10, h11, h12, h13, h14, h15, h16, h17, h18⟩
          · obtain rfl := Option.some.inj ho
            simp [Region.binds] at hi2
            obtain rfl := h3 (by simp [hi2])
            obtain rfl := h2 (by simp [hi2])
            clear ho hi2
            rw [if_pos (by rfl)]
            go_simp
            refine (HIU.out _ hB).mono ?_
            rintro r w2 ⟨z, rfl, hz, hB2, hbn⟩
            exact hK _ _ ⟨v95, v96, _, _, _, v100, v101, v102, v103, v104, v105, v106, v107, v108, v109, v110, v111, v112, v4, rfl, hB2, h0, h1, (fun _ => rfl), (fun _ => rfl), (fun _ => hz), h5, h6, h7, h8, h9, h10, (h11.below hbn), h12, h13, h14, h15, h16, h17, h18⟩
          · obtain rfl := Option.some.inj ho
            simp [Region.binds] at hi2
            obtain rfl := h2 (by simp [hi2])
            clear ho hi2
            rw [if_pos (by rfl)]
            go_simp
            exact hK _ _ ⟨v95, v96, _, v98, v99, _, v101, v102, v103, v104, v105, v106, v107, v108, v109, v110, v111, v112, v4, rfl, hB, h0, h1, (fun _ => rfl), h3, h4, (fun _ => rfl), h6, h7, h8, h9, h10, h11, h12, h13, h14, h15, h16, h17, h18⟩
          · obtain rfl := Option.some.inj ho
            simp [Region.binds] at hi2
            obtain rfl := h5 (by simp [hi2])
            obtain rfl := h2 (by simp [hi2])
            clear ho hi2
            rw [if_pos (by rfl)]
            go_simp
            exact hK _ _ ⟨v95, v96, _, v98, v99, _, _, v102, v103, v104, v105, v106, v107, v108, v109, v110, v111, v112, v4, rfl, hB, h0, h1, (fun _ => rfl), h3, h4, (fun _ => rfl), (fun _ => rfl), h7, h8, h9, h10, h11, h12, h13, h14, h15, h16, h17, h18⟩
          · obtain rfl := Option.some.inj ho
            simp [Region.binds] at hi2
            have hz4 := h4 (by simp [hi2])
            obtain rfl := h6 (by simp [hi2])
            obtain rfl := h2 (by simp [hi2])
            clear ho hi2
            rw [if_pos (by rfl)]
            go_simp
            refine (HSU.out _ _ hz4 hB).mono ?_
            rintro r w2 ⟨rfl, hB2, hbn⟩
            exact hK _ _ ⟨v95, v96, _, v98, _, v100, _, _, v103, v104, v105, v106, v107, v108, v109, v110, v111, v112, v4, rfl, hB2, h0, h1, (fun _ => rfl), h3, (h4.below hbn), h5, (fun _ => rfl), (fun _ => rfl), h8, h9, h10, (h11.below hbn), h12, h13, h14, h15, h16, h17, h18⟩
          · obtain rfl := Option.some.inj ho
            simp [Region.binds] at hi2
            obtain rfl := h2 (by simp [hi2])
            obtain rfl := h7 (by simp [hi2])
            clear ho hi2
            rw [if_pos (by rfl)]
            go_simp
            exact hK _ _ ⟨v95, v96, _, v98, v99, v100, v101, _, _, v104, v105, v106, v107, v108, v109, v110, v111, v112, v4, rfl, hB, h0, h1, (fun _ => rfl), h3, h4, h5, h6, (fun _ => rfl), (fun _ => rfl), h9, h10, h11, h12, h13, h14, h15, h16, h17, h18⟩
          · obtain rfl := Option.some.inj ho
            simp [Region.binds] at hi2
            obtain rfl := h8 (by simp [hi2])
            clear ho hi2
            rw [if_pos (by rfl)]
            go_simp
            exact hK _ _ ⟨v95, v96, v97, v98, v99, v100, v101, v102, _, _, v105, v106, v107, v108, v109, v110, v111, v112, v4, rfl, hB, h0, h1, h2, h3, h4, h5, h6, h7, (fun _ => rfl), (fun _ => rfl), h10, h11, h12, h13, h14, h15, h16, h17, h18⟩
          · obtain rfl := Option.some.inj ho
            simp [Region.binds] at hi2
            obtain rfl := h9 (by simp [hi2])
            clear ho hi2
            rw [if_pos (by rfl)]
            go_simp
            exact hK _ _ ⟨v95, v96, v97, v98, v99, v100, v101, v102, v103, _, _, v106, v107, v108, v109, v110, v111, v112, v4, rfl, hB, h0, h1, h2, h3, h4, h5, h6, h7, h8, (fun _ => rfl), (fun _ => rfl), h11, h12, h13, h14, h15, h16, h17, h18⟩
          · obtain rfl := Option.some.inj ho
            simp [Region.binds] at hi2
            obtain rfl := h10 (by simp [hi2])
            obtain rfl := h9 (by simp [hi2])
            clear ho hi2
            rw [if_pos (by rfl)]
            go_simp
            refine (HIT.out _ hB).mono ?_
            rintro r w2 ⟨z, rfl, hz, hB2, hbn⟩
            exact hK _ _ ⟨v95, v96, v97, v98, v99, v100, v101, v102, v103, _, _, _, v107, v108, v109, v110, v111, v112, v4, rfl, hB2, h0, h1, h2, h3, (h4.below hbn), h5, h6, h7, h8, (fun _ => rfl), (fun _ => rfl), (fun _ => hz), h12, h13, h14, h15, h16, h17, h18⟩
          · obtain rfl := Option.some.inj ho
            simp [Region.binds] at hi2
            obtain rfl := h9 (by simp [hi2])
            clear ho hi2
            rw [if_pos (by rfl)]
            go_simp
            exact hK _ _ ⟨v95, v96, v97, v98, v99, v100, v101, v102, v103, _, v105, v106, _, v108, v109, v110, v111, v112, v4, rfl, hB, h0, h1, h2, h3, h4, h5, h6, h7, h8, (fun _ => rfl), h10, h11, (fun _ => rfl), h13, h14, h15, h16, h17, h18⟩
          · obtain rfl := Option.some.inj ho
            simp [Region.binds] at hi2
            have hz11 := h11 (by simp [hi2])
            obtain rfl := h12 (by simp [hi2])
            obtain rfl := h9 (by simp [hi2])
            clear ho hi2
            rw [if_pos (by rfl)]
            go_simp
            refine (HSS.out _ _ hz11 hB).mono ?_
            rintro r w2 ⟨rfl, hB2, hbn⟩
            exact hK _ _ ⟨v95, v96, v97, v98, v99, v100, v101, v102, v103, _, v105, _, _, _, v109, v110, v111, v112, v4, rfl, hB2, h0, h1, h2, h3, (h4.below hbn), h5, h6, h7, h8, (fun _ => rfl), h10, (h11.below hbn), (fun _ => rfl), (fun _ => rfl), h14, h15, h16, h17, h18⟩
          · obtain rfl := Option.some.inj ho
            simp [Region.binds] at hi2
            obtain rfl := h9 (by simp [hi2])
            obtain rfl := h13 (by simp [hi2])
            clear ho hi2
            rw [if_pos (by rfl)]
            go_simp
            exact hK _ _ ⟨v95, v96, v97, v98, v99, v100, v101, v102, v103, _, v105, v106, v107, _, _, v110, v111, v112, v4, rfl, hB, h0, h1, h2, h3, h4, h5, h6, h7, h8, (fun _ => rfl), h10, h11, h12, (fun _ => rfl), (fun _ => rfl), h15, h16, h17, h18⟩
          · obtain rfl := Option.some.inj ho
            simp [Region.binds] at hi2
            obtain rfl := h14 (by simp [hi2])
            clear ho hi2
            rw [if_pos (by rfl)]
            go_simp
            exact hK _ _ ⟨v95, v96, v97, v98, v99, v100, v101, v102, v103, v104, v105, v106, v107, v108, _, _, v111, v112, v4, rfl, hB, h0, h1, h2, h3, h4, h5, h6, h7, h8, h9, h10, h11, h12, h13, (fun _ => rfl), (fun _ => rfl), h16, h17, h18⟩
          · obtain rfl := Option.some.inj ho
            simp [Region.binds] at hi2
            obtain rfl := h15 (by simp [hi2])
            clear ho hi2
            rw [if_pos (by rfl)]
            go_simp
            refine (HWW.out _ hB).mono ?_
            rintro r w2 ⟨rfl, hB2, hbn⟩
            exact hK _ _ ⟨v95, v96, v97, v98, v99, v100, v101, v102, v103, v104, v105, v106, v107, v108, v109, _, _, v112, v4, rfl, hB2, h0, h1, h2, h3, (h4.below hbn), h5, h6, h7, h8, h9, h10, (h11.below hbn), h12, h13, h14, (fun _ => rfl), (fun _ => rfl), h17, h18⟩
          · obtain rfl := Option.some.inj ho
            simp [Region.binds] at hi2
            obtain rfl := h15 (by simp [hi2])
            obtain rfl := h16 (by simp [hi2])
            clear ho hi2
            rw [if_pos (by rfl)]
            go_simp
            exact hK _ _ ⟨v95, v96, v97, v98, v99, v100, v101, v102, v103, v104, v105, v106, v107, v108, v109, _, _, _, v4, rfl, hB, h0, h1, h2, h3, h4, h5, h6, h7, h8, h9, h10, h11, h12, h13, h14, (fun _ => rfl), (fun _ => rfl), (fun _ => rfl), h18⟩
          · obtain rfl := Option.some.inj ho
            simp [Region.binds] at hi2
            obtain rfl := h0 (by simp [hi2])
            obtain rfl := h1 (by simp [hi2])
            obtain rfl := h2 (by simp [hi2])
            obtain rfl := h3 (by simp [hi2])
            obtain rfl := h5 (by simp [hi2])
            obtain rfl := h6 (by simp [hi2])
            obtain rfl := h7 (by simp [hi2])
            obtain rfl := h8 (by simp [hi2])
            obtain rfl := h9 (by simp [hi2])
            obtain rfl := h10 (by simp [hi2])
            obtain rfl := h12 (by simp [hi2])
            obtain rfl := h13 (by simp [hi2])
            obtain rfl := h14 (by simp [hi2])
            obtain rfl := h15 (by simp [hi2])
            obtain rfl := h16 (by simp [hi2])
            obtain rfl := h17 (by simp [hi2])
            clear ho hi2
            rw [if_pos (by rfl)]
            go_simp
            exact hK _ _ ⟨_, _, _, _, _, _, _, _, _, _, _, _, _, _, _, _, _, _, _, rfl, hB, (fun _ => rfl), (fun _ => rfl), (fun _ => rfl), (fun _ => rfl), h4, (fun _ => rfl), (fun _ => rfl), (fun _ => rfl), (fun _ => rfl), (fun _ => rfl), (fun _ => rfl), h11, (fun _ => rfl), (fun _ => rfl), (fun _ => rfl), (fun _ => rfl), (fun _ => rfl), (fun _ => rfl), (fun _ => rfl)⟩
          · simp at ho
        · intro Lq aq w2 hL hr hI
          obtain ⟨v95, v96, v97, v98, v99, v100, v101, v102, v103, v104, v105, v106, v107, v108, v109, v110, v111, v112, v4, rfl, hB, h0, h1, h2, h3, h4, h5, h6, h7, h8, h9, h10, h11, h12, h13, h14, h15, h16, h17, h18⟩ := hI
          obtain ⟨b0, b1, b2, b3, b4, b5, b6, b7, b8, b9, b10, b11, b12, b13, b14, b15, b16, b17, b18, rfl⟩ : ∃ b0 b1 b2 b3 b4 b5 b6 b7 b8 b9 b10 b11 b12 b13 b14 b15 b16 b17 b18, Lq = [b0, b1, b2, b3, b4, b5, b6, b7, b8, b9, b10, b11, b12, b13, b14, b15, b16, b17, b18] := by
            match Lq, hL with
            | [b0, b1, b2, b3, b4, b5, b6, b7, b8, b9, b10, b11, b12, b13, b14, b15, b16, b17, b18], _ => exact ⟨b0, b1, b2, b3, b4, b5, b6, b7, b8, b9, b10, b11, b12, b13, b14, b15, b16, b17, b18, rfl⟩
          have hr2 := List.filter_eq_nil_iff.1 hr
          clear hr hL
          have k0 := hr2 0 (by simp)
          have k1 := hr2 1 (by simp)
          have k2 := hr2 2 (by simp)
          have k3 := hr2 3 (by simp)
          have k4 := hr2 4 (by simp)
          have k5 := hr2 5 (by simp)
          have k6 := hr2 6 (by simp)
          have k7 := hr2 7 (by simp)
          have k8 := hr2 8 (by simp)
          have k9 := hr2 9 (by simp)
          have k10 := hr2 10 (by simp)
          have k11 := hr2 11 (by simp)
          have k12 := hr2 12 (by simp)
          have k13 := hr2 13 (by simp)
          have k14 := hr2 14 (by simp)
          have k15 := hr2 15 (by simp)
          have k16 := hr2 16 (by simp)
          have k17 := hr2 17 (by simp)
          have k18 := hr2 18 (by simp)
          clear hr2
          simp [Region.binds] at k0
          subst k0
          simp [Region.binds] at k1
          subst k1
          simp [Region.binds] at k2
          subst k2
          simp [Region.binds] at k3
          subst k3
          simp [Region.binds] at k4
          subst k4
          simp [Region.binds] at k5
          subst k5
          simp [Region.binds] at k6
          subst k6
          simp [Region.binds] at k7
          subst k7
          simp [Region.binds] at k8
          subst k8
          simp [Region.binds] at k9
          subst k9
          simp [Region.binds] at k10
          subst k10
          simp [Region.binds] at k11
          subst k11
          simp [Region.binds] at k12
          subst k12
          simp [Region.binds] at k13
          subst k13
          simp [Region.binds] at k14
          subst k14
          simp [Region.binds] at k15
          subst k15
          simp [Region.binds] at k16
          subst k16
          simp [Region.binds] at k17
          subst k17
          simp [Region.binds] at k18
          subst k18
          obtain rfl := h0 rfl
          obtain rfl := h1 rfl
          obtain rfl := h2 rfl
          obtain rfl := h3 rfl
          obtain rfl := h5 rfl
          obtain rfl := h6 rfl
          obtain rfl := h7 rfl
          obtain rfl := h8 rfl
          obtain rfl := h9 rfl
          obtain rfl := h10 rfl
          obtain rfl := h12 rfl
          obtain rfl := h13 rfl
          obtain rfl := h14 rfl
          obtain rfl := h15 rfl
          obtain rfl := h16 rfl
          obtain rfl := h17 rfl
          obtain rfl := h18 rfl
          have HBE := Lib.hid (bchain HBW.out hB)
          clear hB
          go_wp2
          go_ret
          exact ⟨rfl, HBE.out⟩
  · have s2 : (c != 0) = true := by rw [bne_iff_ne]; exact hc
    have s3 : (c == 0) = false := beq_eq_false_iff_ne.2 hc
    clear hc HCASE
    go_wp2_with fail
    refine HSP.out.mono ?_
    rintro r w9 ⟨rfl, hb9, ho9⟩
    have HX9 : Hid (Below w3.heap.size w3 w9) := Lib.hid (HX8.out.trans hb9)
    have HD9 : Hid (DoneAt w9 q6 (.slice Bi PS.length di) (.slice Br PR.length dr) (.slice Bn PN.length dn)) := Lib.hid (ho9.heap HD8.out (fun e => own_typE HNX8.out (T := 38) (by decide) q6 _ _ e HD8.out))
    have HIS9 : Hid (ItAt w9 (.slice Bi PS.length di) PS) := Lib.hid (RowsAt.outF HIS8.out ho9 (fun k cs fl hk => own_typE HNX8.out (by decide) k cs fl hk))
    clear hb9 ho9
    go_wp2
    go_loopw [15] (fun iv wr => ∃ k : Nat, iv = .int .i64 k ∧ k ≤ L.length ∧ Below w9.heap.size w9 wr) (fun iv _ => L.length - (intOf iv).toNat)
    case atStart => exact ⟨0, rfl, Nat.zero_le _, Below.refl _ _⟩
    case round =>
      obtain ⟨k, rfl, hk, hb⟩ := hrel
      have HB9 := Lib.hid hb
      have HXR : Hid (Below w3.heap.size w3 wr) := Lib.hid (bchain HX9.out hb)
      have HBW : Hid (Below w.heap.size w wr) := Lib.hid (bchain HB3.out HXR.out)
      clear hb
      by_cases hlt : k < L.length
      · have h1 : (k : Int) < (L.length : Int) := by omega
        have h0 : (0 : Int) ≤ (k : Int) := by omega
        have hk9 : (k : Int) ≤ 20 := by have := HFI.out.nL; omega
        obtain ⟨b1, o1, z1, hA1, ca, hm1⟩ := (HO3.out.below HXR.out).at k hlt
        obtain ⟨b2, o2, z2, hA2, cb, hm2⟩ := (HUU.out _ HBW.out).at k hlt
        have HML := Lib.hid (HFI.out.tx k hlt).2.2.2.2
        obtain ⟨x, hx⟩ : ∃ x, L[k] = x := ⟨_, rfl⟩
        rw [hx] at ca cb hm1 hm2 HML
        clear hx
        obtain ⟨Az1, cz1, rfl⟩ := hm1.form
        obtain ⟨Az2, cz2, rfl⟩ := hm2.form
        have c0 := ca 0 _ rfl
        have c1 := ca 1 _ rfl
        have c2 := ca 2 _ rfl
        have c3 := ca 3 _ rfl
        have c4 := ca 4 _ rfl
        have c5 := ca 5 _ rfl
        have c6 := ca 6 _ rfl
        have c7 := ca 7 _ rfl
        have e0 := cb 0 _ rfl
        have e1 := cb 1 _ rfl
        have e2 := cb 2 _ rfl
        have e3 := cb 3 _ rfl
        have e4 := cb 4 _ rfl
        have e5 := cb 5 _ rfl
        have e6 := cb 6 _ rfl
        have e7 := cb 7 _ rfl
        have HCC : Hid (∀ w', Below wr.heap.size wr w' → w'.cell? ⟨b1, o1 + k * 8, none⟩ = some (.int .i64 x.kind) ∧ w'.cell? ⟨b1, o1 + k * 8 + 1, none⟩ = some (.string ⟨x.frm.toArray⟩) ∧ w'.cell? ⟨b1, o1 + k * 8 + 2, none⟩ = some (.int .i64 x.seq) ∧ w'.cell? ⟨b1, o1 + k * 8 + 3, none⟩ = some (.string ⟨x.dst.toArray⟩) ∧ w'.cell? ⟨b1, o1 + k * 8 + 4, none⟩ = some (.int .i64 x.amt) ∧ w'.cell? ⟨b1, o1 + k * 8 + 5, none⟩ = some (.string ⟨x.key.toArray⟩) ∧ w'.cell? ⟨b1, o1 + k * 8 + 6, none⟩ = some (.string ⟨x.val.toArray⟩) ∧ w'.cell? ⟨b1, o1 + k * 8 + 7, none⟩ = some (.slice Az1 x.mem.length cz1) ∧ w'.cell? ⟨b2, o2 + k * 8, none⟩ = some (.int .i64 x.kind) ∧ w'.cell? ⟨b2, o2 + k * 8 + 1, none⟩ = some (.string ⟨x.frm.toArray⟩) ∧ w'.cell? ⟨b2, o2 + k * 8 + 2, none⟩ = some (.int .i64 x.seq) ∧ w'.cell? ⟨b2, o2 + k * 8 + 3, none⟩ = some (.string ⟨x.dst.toArray⟩) ∧ w'.cell? ⟨b2, o2 + k * 8 + 4, none⟩ = some (.int .i64 x.amt) ∧ w'.cell? ⟨b2, o2 + k * 8 + 5, none⟩ = some (.string ⟨x.key.toArray⟩) ∧ w'.cell? ⟨b2, o2 + k * 8 + 6, none⟩ = some (.string ⟨x.val.toArray⟩) ∧ w'.cell? ⟨b2, o2 + k * 8 + 7, none⟩ = some (.slice Az2 x.mem.length cz2)) := Lib.hid (fun w' h => by
          have up : ∀ {p : Addr} {t : Value}, wr.cell? p = some t → w'.cell? p = some t := fun c => (h.cell (World.block_lt_of_cell? _ _ c)).trans c
          exact ⟨up c0, up c1, up c2, up c3, up c4, up c5, up c6, up c7, up e0, up e1, up e2, up e3, up e4, up e5, up e6, up e7⟩)
        subst hA1 hA2
        have HSX : Hid (∀ w', Below wr.heap.size wr w' → Calls Tryz.prog 14 #[xval x (.slice Az1 x.mem.length cz1), xval x (.slice Az2 x.mem.length cz2)] w' fun r w'' => r = .returned (.bool true) ∧ Below wr.heap.size wr w'') := Lib.hid (fun w' h => by
          have h2 := sameTx_any x x (.slice Az1 x.mem.length cz1) (.slice Az2 x.mem.length cz2) w' (hm1.below h) (hm2.below h) (by have := HML.out; omega) (by have := HML.out; omega)
          rw [show decide (x = x) = true from decide_eq_true rfl] at h2
          exact h2.mono fun e w'' ⟨p, q⟩ => ⟨p, bchain h q⟩)
        unfold xval at HSX
        have BD : Below wr.heap.size wr wr.drew := (Below.refl _ _).drew
        clear ca cb hm1 hm2 c0 e0 c1 e1 c2 e2 c3 e3 c4 e4 c5 e5 c6 e6 c7 e7
        obtain ⟨c0, c1, c2, c3, c4, c5, c6, c7, e0, e1, e2, e3, e4, e5, e6, e7⟩ := HCC.out _ BD
        go_upto_region 15 with fail
        go_region_held3 (fun w' => w'.cell? ⟨b1, o1 + k * 8, none⟩ = some (.int .i64 x.kind) ∧ w'.cell? ⟨b1, o1 + k * 8 + 1, none⟩ = some (.string ⟨x.frm.toArray⟩) ∧ w'.cell? ⟨b1, o1 + k * 8 + 2, none⟩ = some (.int .i64 x.seq) ∧ w'.cell? ⟨b1, o1 + k * 8 + 3, none⟩ = some (.string ⟨x.dst.toArray⟩) ∧ w'.cell? ⟨b1, o1 + k * 8 + 4, none⟩ = some (.int .i64 x.amt) ∧ w'.cell? ⟨b1, o1 + k * 8 + 5, none⟩ = some (.string ⟨x.key.toArray⟩) ∧ w'.cell? ⟨b1, o1 + k * 8 + 6, none⟩ = some (.string ⟨x.val.toArray⟩) ∧ w'.cell? ⟨b1, o1 + k * 8 + 7, none⟩ = some (.slice Az1 x.mem.length cz1) ∧ w'.cell? ⟨b2, o2 + k * 8, none⟩ = some (.int .i64 x.kind) ∧ w'.cell? ⟨b2, o2 + k * 8 + 1, none⟩ = some (.string ⟨x.frm.toArray⟩) ∧ w'.cell? ⟨b2, o2 + k * 8 + 2, none⟩ = some (.int .i64 x.seq) ∧ w'.cell? ⟨b2, o2 + k * 8 + 3, none⟩ = some (.string ⟨x.dst.toArray⟩) ∧ w'.cell? ⟨b2, o2 + k * 8 + 4, none⟩ = some (.int .i64 x.amt) ∧ w'.cell? ⟨b2, o2 + k * 8 + 5, none⟩ = some (.string ⟨x.key.toArray⟩) ∧ w'.cell? ⟨b2, o2 + k * 8 + 6, none⟩ = some (.string ⟨x.val.toArray⟩) ∧ w'.cell? ⟨b2, o2 + k * 8 + 7, none⟩ = some (.slice Az2 x.mem.length cz2))
          ((first | (with_reducible exact ⟨c0, c1, c2, c3, c4, c5, c6, c7, e0, e1, e2, e3, e4, e5, e6, e7⟩) | (refine HCC.out _ ?_; with_reducible assumption)))
          ((go_at_call 14; refine (HSX.out _ ?_).mono ?_; (with_reducible exact BD); rintro r w6 ⟨rfl, hb6⟩))
        all_goals
          have HB6 := Lib.hid (bchain HB9.out hb6)
          clear hb6 BD c0 e0 c1 e1 c2 e2 c3 e3 c4 e4 c5 e5 c6 e6 c7 e7
          go_wp2
          go_roundw
          case rel => exact ⟨k + 1, by go_num, by omega, HB6.out⟩
          case measure => simp [intOf]; omega
      · have h1 : ¬ ((k : Int) < (L.length : Int)) := by omega
        obtain rfl : k = L.length := by omega
        clear hk h1
        have HIT : Hid (∀ w', Below wr.heap.size wr w' → Calls Tryz.prog 16 #[.pointer (some ⟨g, 0, none⟩)] w' fun e w'' => ∃ z, e = .returned z ∧ ItIn w'' z S ∧ Below wr.heap.size wr w'' ∧ Below w'.heap.size w' w'') := Lib.hid (fun w' h => (sitems_any (g := g) (S := S) w' (HT3.out.below (bchain HXR.out h))).mono fun e w'' ⟨z, e1, e2, e3⟩ => ⟨z, e1, ItAt.inn (OwnI.at_ e2), bchain h e3, e3⟩)
        have HSS : Hid (∀ u w', ItIn w' u S → Below wr.heap.size wr w' → Calls Tryz.prog 15 #[u, .slice Ai S.length capi] w' fun e w'' => e = .returned (.bool true) ∧ Below wr.heap.size wr w'' ∧ Below w'.heap.size w' w'') := Lib.hid (fun u w' h1 h => by
          have h2 := sameI_in S S u (.slice Ai S.length capi) w' h1 (ItAt.inn (RowsAt.below HI3.out (bchain HXR.out h))) (by have := HFW.out; omega) (by have := HFW.out; omega)
          rw [show decide (S = S) = true from decide_eq_true rfl] at h2
          exact h2.mono fun e w'' ⟨p, q⟩ => ⟨p, bchain h q, q⟩)
        have HWW : Hid (∀ w', Below wr.heap.size wr w' → Calls Tryz.prog 7 #[] w' fun e w'' => e = .returned (.bool true) ∧ Below wr.heap.size wr w'' ∧ Below w'.heap.size w' w'') := Lib.hid (fun w' h => (HWK.out w' (HTB.out.below (bchain HBW.out h))).mono fun e w'' ⟨p, q⟩ => ⟨p, bchain h q, q⟩)
        have BD : Below wr.heap.size wr wr.drew := (Below.refl _ _).drew
        have hcl := HD9.out.cells.1
        have HCC : Hid (∀ w', Below wr.heap.size wr w' → w'.cell? ⟨q6, 0, none⟩ = some (.slice Bi PS.length di)) := Lib.hid (fun w' h => ((HD9.out.below HB9.out).below h).cells.1)
        clear hcl
        have dd := HCC.out _ BD
        clear dd
        go_upto_region 17 with fail
        refine region_inv (fun Lq aq w' => ∃ v95 v96 v97 v98 v99 v100 v101 v102 v103 v104 v105 v106 v107 v108 v109 v110 v111 v112 v4 : Value, aq = ⟨#[Value.agg #[Value.slice A1 C.length cap1, Value.slice A2 N.length cap2, Value.slice A3 (List.length I) cap3], Value.slice Au L.length capu, Value.pointer (some { block := q0, off := 0 }), undef, v4, Value.pointer (some { block := g, off := 0 }), Value.slice Ai (List.length S) capi, Value.bool true, Value.slice Ao L.length co, Value.pointer none, Value.slice Ar PR.length cr, Value.slice An PN.length cn, Value.int IntKind.i64 c, Value.pointer (some { block := q6, off := 0 }), Value.int IntKind.i64 c, Value.int IntKind.i64 ↑L.length, Value.agg #[Value.slice A1 C.length cap1, Value.slice A2 N.length cap2, Value.slice A3 (List.length I) cap3], Value.slice Au L.length capu, Value.bool false, undef, Value.tuple #[Value.pointer (some { block := g, off := 0 }), Value.slice Ai (List.length S) capi, Value.bool true], Value.agg #[Value.slice A1 C.length cap1, Value.slice A2 N.length cap2, Value.slice A3 (List.length I) cap3], Value.tuple #[Value.pointer (some { block := g, off := 0 }), Value.slice Ai (List.length S) capi, Value.bool true], Value.pointer (some { block := g, off := 0 }), Value.slice Ai (List.length S) capi, Value.bool true, Value.pointer (some { block := g, off := 0 }), Value.bool false, Value.bool false, Value.bool true, Value.bool false, Value.bool false, undef, undef, undef, undef, Value.slice (some { block := w2.heap.size, off := 0 }) 0 0, Value.slice Au L.length capu, Value.slice Ao L.length co, Value.tuple #[Value.pointer none, Value.slice Ar PR.length cr, Value.slice An PN.length cn, Value.int IntKind.i64 c], Value.pointer (some { block := g, off := 0 }), Value.slice Ao L.length co, Value.tuple #[Value.pointer none, Value.slice Ar PR.length cr, Value.slice An PN.length cn, Value.int IntKind.i64 c], Value.pointer none, Value.slice Ar PR.length cr, Value.slice An PN.length cn, Value.int IntKind.i64 c, Value.tuple #[Value.agg #[Value.slice Bi (List.length PS) di, Value.slice Br PR.length dr, Value.slice Bn PN.length dn], Value.int IntKind.i64 c], Value.slice Ai (List.length S) capi, Value.slice Au L.length capu, Value.tuple #[Value.agg #[Value.slice Bi (List.length PS) di, Value.slice Br PR.length dr, Value.slice Bn PN.length dn], Value.int IntKind.i64 c], Value.agg #[Value.slice Bi (List.length PS) di, Value.slice Br PR.length dr, Value.slice Bn PN.length dn], Value.int IntKind.i64 c, Value.int IntKind.i64 c, Value.int IntKind.i64 c, Value.bool false, Value.bool false, Value.slice Ar PR.length cr, Value.pointer (some { block := q6, off := 1 }), Value.slice Br PR.length dr, Value.bool true, Value.bool false, Value.bool false, Value.bool false, Value.slice An PN.length cn, Value.pointer (some { block := q6, off := 2 }), Value.slice Bn PN.length dn, Value.bool true, Value.bool false, Value.bool false, Value.bool false, Value.pointer none, Value.bool true, Value.int IntKind.i64 c, Value.bool true, Value.bool false, Value.bool false, Value.slice An PN.length cn, Value.tuple #[], Value.int IntKind.i64 ↑L.length, Value.slice Au L.length capu, Value.int IntKind.i64 ↑L.length, Value.bool false, u83, u84, u85, u86, u87, u88, u89, u90, u91, u92, u93, u94, v95, v96, v97, v98, v99, v100, v101, v102, v103, v104, v105, v106, v107, v108, v109, v110, v111, v112], []⟩ ∧ Below wr.heap.size wr w' ∧ (Lq[0]? = some true → v95 = .pointer none) ∧ (Lq[1]? = some true → v96 = .bool true) ∧ (Lq[2]? = some true → v97 = .bool true) ∧ (Lq[3]? = some true → v98 = undef) ∧ (Lq[4]? = some true → v99 = undef) ∧ (Lq[5]? = some true → v100 = undef) ∧ (Lq[6]? = some true → v101 = undef) ∧ (Lq[7]? = some true → v102 = undef) ∧ (Lq[8]? = some true → v103 = .bool true) ∧ (Lq[9]? = some true → v104 = .bool true) ∧ (Lq[10]? = some true → v105 = .pointer (some ⟨g, 0, none⟩)) ∧ ZsI S w' Lq[11]? v106 ∧ (Lq[12]? = some true → v107 = .slice Ai S.length capi) ∧ (Lq[13]? = some true → v108 = .bool true) ∧ (Lq[14]? = some true → v109 = .bool true) ∧ (Lq[15]? = some true → v110 = .bool true) ∧ (Lq[16]? = some true → v111 = .bool true) ∧ (Lq[17]? = some true → v112 = .bool true) ∧ (Lq[18]? = some true → v4 = .bool true)) (by rfl) ?_ ?_ ?_
        · exact ⟨_, _, _, _, _, _, _, _, _, _, _, _, _, _, _, _, _, _, _, rfl, BD, (fun h => by simp at h), (fun h => by simp at h), (fun h => by simp at h), (fun h => by simp at h), (fun h => by simp at h), (fun h => by simp at h), (fun h => by simp at h), (fun h => by simp at h), (fun h => by simp at h), (fun h => by simp at h), (fun h => by simp at h), (fun h => by simp at h), (fun h => by simp at h), (fun h => by simp at h), (fun h => by simp at h), (fun h => by simp at h), (fun h => by simp at h), (fun h => by simp at h), (fun h => by simp at h)⟩
        · intro Lq aq w1r hL hI j o ho hj K hK
          obtain ⟨v95, v96, v97, v98, v99, v100, v101, v102, v103, v104, v105, v106, v107, v108, v109, v110, v111, v112, v4, rfl, hB, h0, h1, h2, h3, h4, h5, h6, h7, h8, h9, h10, h11, h12, h13, h14, h15, h16, h17, h18⟩ := hI
          obtain ⟨b0, b1, b2, b3, b4, b5, b6, b7, b8, b9, b10, b11, b12, b13, b14, b15, b16, b17, b18, rfl⟩ : ∃ b0 b1 b2 b3 b4 b5 b6 b7 b8 b9 b10 b11 b12 b13 b14 b15 b16 b17 b18, Lq = [b0, b1, b2, b3, b4, b5, b6, b7, b8, b9, b10, b11, b12, b13, b14, b15, b16, b17, b18] := by
            match Lq, hL with
            | [b0, b1, b2, b3, b4, b5, b6, b7, b8, b9, b10, b11, b12, b13, b14, b15, b16, b17, b18], _ => exact ⟨b0, b1, b2, b3, b4, b5, b6, b7, b8, b9, b10, b11, b12, b13, b14, b15, b16, b17, b18, rfl⟩
          have hi2 := (List.mem_filter.1 hj).2
          clear hj hL
          obtain dd := HCC.out _ hB
          rcases j with _ | _ | _ | _ | _ | _ | _ | _ | _ | _ | _ | _ | _ | _ | _ | _ | _ | _ | _ | j
          · obtain rfl := Option.some.inj ho
            clear ho
            rw [if_pos (by rfl)]
            go_simp
            exact hK _ _ ⟨_, v96, v97, v98, v99, v100, v101, v102, v103, v104, v105, v106, v107, v108, v109, v110, v111, v112, v4, rfl, hB, (fun _ => rfl), h1, h2, h3, h4, h5, h6, h7, h8, h9, h10, h11, h12, h13, h14, h15, h16, h17, h18⟩
          · obtain rfl := Option.some.inj ho
            simp [Region.binds] at hi2
            obtain rfl := h0 (by simp [hi2])
            clear ho hi2
            rw [if_pos (by rfl)]
            go_simp
            exact hK _ _ ⟨_, _, v97, v98, v99, v100, v101, v102, v103, v104, v105, v106, v107, v108, v109, v110, v111, v112, v4, rfl, hB, (fun _ => rfl), (fun _ => rfl), h2, h3, h4, h5, h6, h7, h8, h9, h10, h11, h12, h13, h14, h15, h16, h17, h18⟩
          · obtain rfl := Option.some.inj ho
            simp [Region.binds] at hi2
            obtain rfl := h1 (by simp [hi2])
            clear ho hi2
            rw [if_pos (by rfl)]
            go_simp
            exact hK _ _ ⟨v95, _, _, v98, v99, v100, v101, v102, v103, v104, v105, v106, v107, v108, v109, v110, v111, v112, v4, rfl, hB, h0, (fun _ => rfl), (fun _ => rfl), h3, h4, h5, h6, h7, h8, h9, h10, h11, h12, h13, h14, h15, h16, h17, h18⟩
          · obtain rfl := Option.some.inj ho
            simp [Region.binds] at hi2
            obtain rfl := h2 (by simp [hi2])
            clear ho hi2
            rw [if_neg (by rw [show Region.wanted _ _ = false from rfl]; decide)]
            exact hK _ _ ⟨v95, v96, _, _, v99, v100, v101, v102, v103, v104, v105, v106, v107, v108, v109, v110, v111, v112, v4, rfl, hB, h0, h1, (fun _ => rfl), (fun _ => rfl), h4, h5, h6, h7, h8, h9, h10, h11, h12, h13, h14, h15, h16, h17, h18⟩
          · obtain rfl := Option.some.inj ho
            simp [Region.binds] at hi2
            obtain rfl := h2 (by simp [hi2])
            clear ho hi2
            rw [if_neg (by rw [show Region.wanted _ _ = false from rfl]; decide)]
            exact hK _ _ ⟨v95, v96, _, v98, _, v100, v101, v102, v103, v104, v105, v106, v107, v108, v109, v110, v111, v112, v4, rfl, hB, h0, h1, (fun _ => rfl), h3, (fun _ => rfl), h5, h6, h7, h8, h9, h10, h11, h12, h13, h14, h15, h16, h17, h18⟩
          · obtain rfl := Option.some.inj ho
            simp [Region.binds] at hi2
            obtain rfl := h2 (by simp [hi2])
            clear ho hi2
            rw [if_neg (by rw [show Region.wanted _ _ = false from rfl]; decide)]
            exact hK _ _ ⟨v95, v96, _, v98, v99, _, v101, v102, v103, v104, v105, v106, v107, v108, v109, v110, v111, v112, v4, rfl, hB, h0, h1, (fun _ => rfl), h3, h4, (fun _ => rfl), h6, h7, h8, h9, h10, h11, h12, h13, h14, h15, h16, h17, h18⟩
          · obtain rfl := Option.some.inj ho
            simp [Region.binds] at hi2
            obtain rfl := h2 (by simp [hi2])
            clear ho hi2
            rw [if_neg (by rw [show Region.wanted _ _ = false from rfl]; decide)]
            exact hK _ _ ⟨v95, v96, _, v98, v99, v100, _, v102, v103, v104, v105, v106, v107, v108, v109, v110, v111, v112, v4, rfl, hB, h0, h1, (fun _ => rfl), h3, h4, h5, (fun _ => rfl), h7, h8, h9, h10, h11, h12, h13, h14, h15, h16, h17, h18⟩
          · obtain rfl := Option.some.inj ho
            simp [Region.binds] at hi2
            obtain rfl := h2 (by simp [hi2])
            clear ho hi2
            rw [if_neg (by rw [show Region.wanted _ _ = false from rfl]; decide)]
            exact hK _ _ ⟨v95, v96, _, v98, v99, v100, v101, _, v103, v104, v105, v106, v107, v108, v109, v110, v111, v112, v4, rfl, hB, h0, h1, (fun _ => rfl), h3, h4, h5, h6, (fun _ => rfl), h8, h9, h10, h11, h12, h13, h14, h15, h16, h17, h18⟩
          · obtain rfl := Option.some.inj ho
            simp [Region.binds] at hi2
            obtain rfl := h2 (by simp [hi2])
            obtain rfl := h7 (by simp [hi2])
            clear ho hi2
            rw [if_pos (by rfl)]
            go_simp
            exact hK _ _ ⟨v95, v96, _, v98, v99, v100, v101, _, _, v104, v105, v106, v107, v108, v109, v110, v111, v112, v4, rfl, hB, h0, h1, (fun _ => rfl), h3, h4, h5, h6, (fun _ => rfl), (fun _ => rfl), h9, h10, h11, h12, h13, h14, h15, h16, h17, h18⟩
          · obtain rfl := Option.some.inj ho
            simp [Region.binds] at hi2
            obtain rfl := h8 (by simp [hi2])
            clear ho hi2
            rw [if_pos (by rfl)]
            go_simp
            exact hK _ _ ⟨v95, v96, v97, v98, v99, v100, v101, v102, _, _, v105, v106, v107, v108, v109, v110, v111, v112, v4, rfl, hB, h0, h1, h2, h3, h4, h5, h6, h7, (fun _ => rfl), (fun _ => rfl), h10, h11, h12, h13, h14, h15, h16, h17, h18⟩
          · obtain rfl := Option.some.inj ho
            simp [Region.binds] at hi2
            obtain rfl := h9 (by simp [hi2])
            clear ho hi2
            rw [if_pos (by rfl)]
            go_simp
            exact hK _ _ ⟨v95, v96, v97, v98, v99, v100, v101, v102, v103, _, _, v106, v107, v108, v109, v110, v111, v112, v4, rfl, hB, h0, h1, h2, h3, h4, h5, h6, h7, h8, (fun _ => rfl), (fun _ => rfl), h11, h12, h13, h14, h15, h16, h17, h18⟩
          · obtain rfl := Option.some.inj ho
            simp [Region.binds] at hi2
            obtain rfl := h10 (by simp [hi2])
            obtain rfl := h9 (by simp [hi2])
            clear ho hi2
            rw [if_pos (by rfl)]
            go_simp
            refine (HIT.out _ hB).mono ?_
            rintro r w2 ⟨z, rfl, hz, hB2, hbn⟩
            exact hK _ _ ⟨v95, v96, v97, v98, v99, v100, v101, v102, v103, _, _, _, v107, v108, v109, v110, v111, v112, v4, rfl, hB2, h0, h1, h2, h3, h4, h5, h6, h7, h8, (fun _ => rfl), (fun _ => rfl), (fun _ => hz), h12, h13, h14, h15, h16, h17, h18⟩
          · obtain rfl := Option.some.inj ho
            simp [Region.binds] at hi2
            obtain rfl := h9 (by simp [hi2])
            clear ho hi2
            rw [if_pos (by rfl)]
            go_simp
            exact hK _ _ ⟨v95, v96, v97, v98, v99, v100, v101, v102, v103, _, v105, v106, _, v108, v109, v110, v111, v112, v4, rfl, hB, h0, h1, h2, h3, h4, h5, h6, h7, h8, (fun _ => rfl), h10, h11, (fun _ => rfl), h13, h14, h15, h16, h17, h18⟩
          · obtain rfl := Option.some.inj ho
            simp [Region.binds] at hi2
            have hz11 := h11 (by simp [hi2])
            obtain rfl := h12 (by simp [hi2])
            obtain rfl := h9 (by simp [hi2])
            clear ho hi2
            rw [if_pos (by rfl)]
            go_simp
            refine (HSS.out _ _ hz11 hB).mono ?_
            rintro r w2 ⟨rfl, hB2, hbn⟩
            exact hK _ _ ⟨v95, v96, v97, v98, v99, v100, v101, v102, v103, _, v105, _, _, _, v109, v110, v111, v112, v4, rfl, hB2, h0, h1, h2, h3, h4, h5, h6, h7, h8, (fun _ => rfl), h10, (h11.below hbn), (fun _ => rfl), (fun _ => rfl), h14, h15, h16, h17, h18⟩
          · obtain rfl := Option.some.inj ho
            simp [Region.binds] at hi2
            obtain rfl := h9 (by simp [hi2])
            obtain rfl := h13 (by simp [hi2])
            clear ho hi2
            rw [if_pos (by rfl)]
            go_simp
            exact hK _ _ ⟨v95, v96, v97, v98, v99, v100, v101, v102, v103, _, v105, v106, v107, _, _, v110, v111, v112, v4, rfl, hB, h0, h1, h2, h3, h4, h5, h6, h7, h8, (fun _ => rfl), h10, h11, h12, (fun _ => rfl), (fun _ => rfl), h15, h16, h17, h18⟩
          · obtain rfl := Option.some.inj ho
            simp [Region.binds] at hi2
            obtain rfl := h14 (by simp [hi2])
            clear ho hi2
            rw [if_pos (by rfl)]
            go_simp
            exact hK _ _ ⟨v95, v96, v97, v98, v99, v100, v101, v102, v103, v104, v105, v106, v107, v108, _, _, v111, v112, v4, rfl, hB, h0, h1, h2, h3, h4, h5, h6, h7, h8, h9, h10, h11, h12, h13, (fun _ => rfl), (fun _ => rfl), h16, h17, h18⟩
          · obtain rfl := Option.some.inj ho
            simp [Region.binds] at hi2
            obtain rfl := h15 (by simp [hi2])
            clear ho hi2
            rw [if_pos (by rfl)]
            go_simp
            refine (HWW.out _ hB).mono ?_
            rintro r w2 ⟨rfl, hB2, hbn⟩
            exact hK _ _ ⟨v95, v96, v97, v98, v99, v100, v101, v102, v103, v104, v105, v106, v107, v108, v109, _, _, v112, v4, rfl, hB2, h0, h1, h2, h3, h4, h5, h6, h7, h8, h9, h10, (h11.below hbn), h12, h13, h14, (fun _ => rfl), (fun _ => rfl), h17, h18⟩
          · obtain rfl := Option.some.inj ho
            simp [Region.binds] at hi2
            obtain rfl := h15 (by simp [hi2])
            obtain rfl := h16 (by simp [hi2])
            clear ho hi2
            rw [if_pos (by rfl)]
            go_simp
            exact hK _ _ ⟨v95, v96, v97, v98, v99, v100, v101, v102, v103, v104, v105, v106, v107, v108, v109, _, _, _, v4, rfl, hB, h0, h1, h2, h3, h4, h5, h6, h7, h8, h9, h10, h11, h12, h13, h14, (fun _ => rfl), (fun _ => rfl), (fun _ => rfl), h18⟩
          · obtain rfl := Option.some.inj ho
            simp [Region.binds] at hi2
            obtain rfl := h0 (by simp [hi2])
            obtain rfl := h1 (by simp [hi2])
            obtain rfl := h2 (by simp [hi2])
            obtain rfl := h3 (by simp [hi2])
            obtain rfl := h4 (by simp [hi2])
            obtain rfl := h5 (by simp [hi2])
            obtain rfl := h6 (by simp [hi2])
            obtain rfl := h7 (by simp [hi2])
            obtain rfl := h8 (by simp [hi2])
            obtain rfl := h9 (by simp [hi2])
            obtain rfl := h10 (by simp [hi2])
            obtain rfl := h12 (by simp [hi2])
            obtain rfl := h13 (by simp [hi2])
            obtain rfl := h14 (by simp [hi2])
            obtain rfl := h15 (by simp [hi2])
            obtain rfl := h16 (by simp [hi2])
            obtain rfl := h17 (by simp [hi2])
            clear ho hi2
            rw [if_pos (by rfl)]
            go_simp
            exact hK _ _ ⟨_, _, _, _, _, _, _, _, _, _, _, _, _, _, _, _, _, _, _, rfl, hB, (fun _ => rfl), (fun _ => rfl), (fun _ => rfl), (fun _ => rfl), (fun _ => rfl), (fun _ => rfl), (fun _ => rfl), (fun _ => rfl), (fun _ => rfl), (fun _ => rfl), (fun _ => rfl), h11, (fun _ => rfl), (fun _ => rfl), (fun _ => rfl), (fun _ => rfl), (fun _ => rfl), (fun _ => rfl), (fun _ => rfl)⟩
          · simp at ho
        · intro Lq aq w2 hL hr hI
          obtain ⟨v95, v96, v97, v98, v99, v100, v101, v102, v103, v104, v105, v106, v107, v108, v109, v110, v111, v112, v4, rfl, hB, h0, h1, h2, h3, h4, h5, h6, h7, h8, h9, h10, h11, h12, h13, h14, h15, h16, h17, h18⟩ := hI
          obtain ⟨b0, b1, b2, b3, b4, b5, b6, b7, b8, b9, b10, b11, b12, b13, b14, b15, b16, b17, b18, rfl⟩ : ∃ b0 b1 b2 b3 b4 b5 b6 b7 b8 b9 b10 b11 b12 b13 b14 b15 b16 b17 b18, Lq = [b0, b1, b2, b3, b4, b5, b6, b7, b8, b9, b10, b11, b12, b13, b14, b15, b16, b17, b18] := by
            match Lq, hL with
            | [b0, b1, b2, b3, b4, b5, b6, b7, b8, b9, b10, b11, b12, b13, b14, b15, b16, b17, b18], _ => exact ⟨b0, b1, b2, b3, b4, b5, b6, b7, b8, b9, b10, b11, b12, b13, b14, b15, b16, b17, b18, rfl⟩
          have hr2 := List.filter_eq_nil_iff.1 hr
          clear hr hL
          have k0 := hr2 0 (by simp)
          have k1 := hr2 1 (by simp)
          have k2 := hr2 2 (by simp)
          have k3 := hr2 3 (by simp)
          have k4 := hr2 4 (by simp)
          have k5 := hr2 5 (by simp)
          have k6 := hr2 6 (by simp)
          have k7 := hr2 7 (by simp)
          have k8 := hr2 8 (by simp)
          have k9 := hr2 9 (by simp)
          have k10 := hr2 10 (by simp)
          have k11 := hr2 11 (by simp)
          have k12 := hr2 12 (by simp)
          have k13 := hr2 13 (by simp)
          have k14 := hr2 14 (by simp)
          have k15 := hr2 15 (by simp)
          have k16 := hr2 16 (by simp)
          have k17 := hr2 17 (by simp)
          have k18 := hr2 18 (by simp)
          clear hr2
          simp [Region.binds] at k0
          subst k0
          simp [Region.binds] at k1
          subst k1
          simp [Region.binds] at k2
          subst k2
          simp [Region.binds] at k3
          subst k3
          simp [Region.binds] at k4
          subst k4
          simp [Region.binds] at k5
          subst k5
          simp [Region.binds] at k6
          subst k6
          simp [Region.binds] at k7
          subst k7
          simp [Region.binds] at k8
          subst k8
          simp [Region.binds] at k9
          subst k9
          simp [Region.binds] at k10
          subst k10
          simp [Region.binds] at k11
          subst k11
          simp [Region.binds] at k12
          subst k12
          simp [Region.binds] at k13
          subst k13
          simp [Region.binds] at k14
          subst k14
          simp [Region.binds] at k15
          subst k15
          simp [Region.binds] at k16
          subst k16
          simp [Region.binds] at k17
          subst k17
          simp [Region.binds] at k18
          subst k18
          obtain rfl := h0 rfl
          obtain rfl := h1 rfl
          obtain rfl := h2 rfl
          obtain rfl := h3 rfl
          obtain rfl := h4 rfl
          obtain rfl := h5 rfl
          obtain rfl := h6 rfl
          obtain rfl := h7 rfl
          obtain rfl := h8 rfl
          obtain rfl := h9 rfl
          obtain rfl := h10 rfl
          obtain rfl := h12 rfl
          obtain rfl := h13 rfl
          obtain rfl := h14 rfl
          obtain rfl := h15 rfl
          obtain rfl := h16 rfl
          obtain rfl := h17 rfl
          obtain rfl := h18 rfl
          have HBE := Lib.hid (bchain HBW.out hB)
          clear hB
          go_wp2
          go_ret
          exact ⟨rfl, HBE.out⟩
theorem execAll_law (za : Value) (C : List A) (zm : Value) (N : List M) (zi : Value) (I : St) (v : Value) (L : List X) (w : World) (ha : AccIn w za C) (hC : C.length ≤ maxLen ∧ ∀ a ∈ C, (Lit.int .i64 a.amt).wf = true ∧ (Lit.int .i64 a.seq).wf = true) (hm : Mems w zm N) (hN : N.length * 24 ≤ reachBytes) (hi : ItIn w zi I) (hI : I.length ≤ maxLen) (hu : Txs w v L) (hL : L.length ≤ maxLen) (_ : ∀ x ∈ L, OkX x) (hT : Tab w) :
    Calls Tryz.prog 3 #[.agg #[za, zm, zi], v] w fun r w' => r = .returned (.bool true) ∧ Below w.heap.size w w' :=
  execAll_walk C N I za zm zi L v w ha hm hi hC.1 (by unfold maxLen; unfold reachBytes at hN; omega) hI hu hL hT
end Go.Proofs.YtlckcfpdiigjiaaGreatDoor
