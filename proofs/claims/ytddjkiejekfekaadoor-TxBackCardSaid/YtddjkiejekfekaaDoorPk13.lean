/- TxRefDec, RowList -/
import Derived.Test.YtddjkiejekfekaaDoorPk11
import Derived.Test.YtddjkiejekfekaaDoorPk10
import Derived.Test.YtddjkiejekfekaaDoorPk01
import Derived.Maps.AppendAt
import Derived.WalkSpells
import Derived.WalkLawsBesides
import Derived.Lib.Strings
namespace Go.Proofs.YtddjkiejekfekaaDoor
open Go.RowKit
open Go.Proofs.YtddjkiejekfekaaDoor.Pw (M)
open Go.Proofs.YtddjkiejekfekaaDoor.Txn (X)

set_option maxRecDepth 100000 in
set_option maxHeartbeats 4000000 in
theorem rDecodeTx_nil (w : World) : Calls Tryd.prog 13 #[.string ⟨#[]⟩] w (DecTx [] w) := by
  have hb0 : Below w.heap.size w (w.alloc (.cells #[.int .i64 0, .string ⟨#[]⟩, .int .i64 0, .string ⟨#[]⟩, .int .i64 0, .string ⟨#[]⟩, .string ⟨#[]⟩, .slice none 0 0] 24)) := (Below.refl _ w).alloc (Nat.le_refl _) _
  have HP : Hid (TxAt (w.alloc (.cells #[.int .i64 0, .string ⟨#[]⟩, .int .i64 0, .string ⟨#[]⟩, .int .i64 0, .string ⟨#[]⟩, .string ⟨#[]⟩, .slice none 0 0] 24)) w.heap.size Txn.zero (.slice none 0 0)) := Lib.hid (heap_alloc_new w _)
  have HB := Lib.hid hb0
  clear hb0
  go_enter Tryd.func13, Tryd.ntmps13
  go_wp2
  exact bodyPost_ret (ret_tx rfl _ _ w.heap.size Txn.zero (.slice none 0 0) rfl HP.out) rfl (decTx_bad rfl HB.out)
set_option maxRecDepth 100000 in
set_option maxHeartbeats 8000000 in
theorem rDecodeTx_1 (c0 : UInt8) (r0 : List UInt8) (w : World) (hl : r0.length ≤ 999999) (k1 : ((c0.toNat : Nat) : Int) = 1) :
    Calls Tryd.prog 13 #[.string ⟨(c0 :: r0).toArray⟩] w (DecTx (c0 :: r0) w) := by
  have hh : ∀ h, (⟨(c0 :: r0).toArray⟩ : ByteArray)[0]'h = c0 := fun _ => rfl
  have he : (⟨(c0 :: r0).toArray⟩ : ByteArray).extract 1 (r0.length + 1) = ⟨r0.toArray⟩ := extract_mk_tail c0 r0
  have hcb := c0.toNat_lt
  have hw64 : wrap64 ((c0.toNat : Nat) : Int) = (c0.toNat : Int) := by unfold wrap64; omega
  have hD0 := TxD.start 58 w r0 (c0.toNat : Int)
  have HL := Lib.hid hl
  have HDEC : Hid (Txn.dec (c0 :: r0) = if (Txn.readX c0 r0).2.2 = 0 ∧ Txn.fine (Txn.readX c0 r0).1 = true ∧ Txn.written (Txn.readX c0 r0).1 = c0 :: r0 then some (Txn.readX c0 r0).1 else none) := Lib.hid rfl
  have HRX : Hid (Txn.readX c0 r0 = Txn.readT (c0.toNat : Nat) (Tm.rdT 100 (r0, 0)).1 ((Pw.rdN (Tm.rdT 100 (r0, 0)).2).1 : Nat) (Pw.rdN (Tm.rdT 100 (r0, 0)).2).2) := Lib.hid rfl
  have HT1 := Lib.hid (fun g w' h => rrtextm_st 100 (r0, 0) g w' h (by dsimp only; omega))
  have HL1 := Lib.hid (Tm.rdT_le 100 (r0, 0))
  obtain ⟨⟨f, st1⟩, h1⟩ : ∃ p, Tm.rdT 100 (r0, 0) = p := ⟨_, rfl⟩
  rw [h1] at HRX HT1 HL1
  dsimp only at HRX HT1 HL1
  have HT2 := Lib.hid (fun g w' h => rrnum_st st1 g w' h (by have := HL1.out; omega))
  have HL2 := Lib.hid (Pw.rdN_le st1)
  obtain ⟨⟨n, st2⟩, h2⟩ : ∃ p, Pw.rdN st1 = p := ⟨_, rfl⟩
  rw [h2] at HRX HT2 HL2
  dsimp only at HRX HT2 HL2
  have HLE : Hid (st2.1.length ≤ 1000000) := Lib.hid (by have := HL1.out; have := HL2.out; omega)
  obtain ⟨k, hk⟩ : ∃ k : Int, ((c0.toNat : Nat) : Int) = k := ⟨_, rfl⟩
  rw [hk] at hw64 hD0 HRX
  rw [hk] at k1
  have K1 := Lib.hid k1
  clear k1
  clear h1 h2 hl hcb
  go_enter Tryd.func13, Tryd.ntmps13
  go_upto_region 5 with fail
  clear hk hw64 hh he
  obtain ⟨w3, hw3⟩ : ∃ w3, ((w.alloc (.cells #[.int .i64 0, .string ⟨#[]⟩, .int .i64 0, .string ⟨#[]⟩, .int .i64 0, .string ⟨#[]⟩, .string ⟨#[]⟩, .slice none 0 0] 24)).alloc (.cells #[.string ⟨r0.toArray⟩, .int .i64 0] 58)).alloc (.cells #[.int .i64 k, .string ⟨#[]⟩, .int .i64 0, .string ⟨#[]⟩, .int .i64 0, .string ⟨#[]⟩, .string ⟨#[]⟩, .slice none 0 0] 24) = w3 := ⟨_, rfl⟩
  rw [hw3] at hD0
  try rw [hw3]
  clear hw3
  obtain ⟨p, hp⟩ : ∃ p, w.heap.size = p := ⟨_, rfl⟩
  rw [hp] at hD0
  try rw [hp]
  obtain ⟨g, hg⟩ : ∃ g, p + 1 = g := ⟨_, rfl⟩
  rw [hg] at hD0
  try rw [hg]
  obtain ⟨q, hq⟩ : ∃ q, g + 1 = q := ⟨_, rfl⟩
  rw [hq] at hD0
  try rw [hq]
  clear hp hg hq
  have HD3 := Lib.hid hD0
  clear hD0
  have HT1 := Lib.hid (HT1.out g)
  have HT2 := Lib.hid (HT2.out g)
  go_wp2_with fail
  refine (HT1.out _ HD3.out.rg).mono ?_
  rintro e w4 ⟨rfl, hr, ho⟩
  have HD4 := Lib.hid (HD3.out.read st1 hr ho)
  clear hr ho
  have b4 := HD4.out.rx.cells.2.1
  have v4 := HD4.out.rx.free 1
  have HD5 := Lib.hid (HD4.out.set (HD4.out.rx.setFrm f))
  obtain ⟨w5, hw5⟩ : ∃ w', w4.setCell ⟨q, 1, none⟩ (.string ⟨f.toArray⟩) = w' := ⟨_, rfl⟩
  rw [hw5] at HD5
  go_wp2_with fail
  refine (HT2.out _ HD5.out.rg).mono ?_
  rintro e w6 ⟨rfl, hr, ho⟩
  have HD6 := Lib.hid (HD5.out.read st2 hr ho)
  clear hr ho
  have b6 := HD6.out.rx.cells.2.2.1
  have v6 := HD6.out.rx.free 2
  have HD7 := Lib.hid (HD6.out.set (HD6.out.rx.setSeq (n : Int)))
  obtain ⟨w7, hw7⟩ : ∃ w', w6.setCell ⟨q, 2, none⟩ (.int .i64 (n : Int)) = w' := ⟨_, rfl⟩
  rw [hw7] at HD7
  have b7 := HD7.out.rx.cells.1
  dsimp only at b7
  have r1 : (k == 1) = true := beq_iff_eq.2 K1.out
  have HRX1 := HRX.out
  unfold Txn.readT at HRX1
  rw [if_pos K1.out] at HRX1
  have HT3 := Lib.hid (fun w' h => rrtextm_st 100 st2 g w' h (by have := HLE.out; omega))
  have HL3 := Lib.hid (Tm.rdT_le 100 st2)
  obtain ⟨⟨d, st3⟩, h3⟩ : ∃ p, Tm.rdT 100 st2 = p := ⟨_, rfl⟩
  rw [h3] at HRX1 HT3 HL3
  dsimp only at HRX1 HT3 HL3
  have HT4 := Lib.hid (fun w' h => rrnum_st st3 g w' h (by have := HLE.out; have := HL3.out; omega))
  obtain ⟨⟨a, st4⟩, h4⟩ : ∃ p, Pw.rdN st3 = p := ⟨_, rfl⟩
  rw [h4] at HRX1 HT4
  dsimp only at HRX1 HT4
  rw [HRX1] at HDEC
  dsimp only at HDEC
  clear h3 h4 HRX1 HRX
  go_wp2_with fail
  refine (HT3.out _ HD7.out.rg).mono ?_
  rintro e w8 ⟨rfl, hr, ho⟩
  have HD8 := Lib.hid (HD7.out.read st3 hr ho)
  clear hr ho
  have b8 := HD8.out.rx.cells.2.2.2.1
  have v8 := HD8.out.rx.free 3
  have HD9 := Lib.hid (HD8.out.set (HD8.out.rx.setDst d))
  obtain ⟨w9, hw9⟩ : ∃ w', w8.setCell ⟨q, 3, none⟩ (.string ⟨d.toArray⟩) = w' := ⟨_, rfl⟩
  rw [hw9] at HD9
  go_wp2_with fail
  refine (HT4.out _ HD9.out.rg).mono ?_
  rintro e w10 ⟨rfl, hr, ho⟩
  have HD10 := Lib.hid (HD9.out.read st4 hr ho)
  clear hr ho
  have b10 := HD10.out.rx.cells.2.2.2.2.1
  have v10 := HD10.out.rx.free 4
  have HD11 := Lib.hid (HD10.out.set (HD10.out.rx.setAmt (a : Int)))
  obtain ⟨w11, hw11⟩ : ∃ w', w10.setCell ⟨q, 4, none⟩ (.int .i64 (a : Int)) = w' := ⟨_, rfl⟩
  rw [hw11] at HD11
  have HOW : Hid (OwnM w11 w.heap.size (.slice none 0 0) (⟨k, f, (n : Int), d, (a : Int), [], [], []⟩ : X).mem) := Lib.hid (OwnM.nil _ _)
  have HDX : Hid (TxD 58 w w11 p g q ⟨k, f, (n : Int), d, (a : Int), [], [], []⟩ (.slice none 0 0) st4) := HD11
  obtain ⟨xx, hX⟩ : ∃ xx, (⟨k, f, (n : Int), d, (a : Int), [], [], []⟩ : X) = xx := ⟨_, rfl⟩
  rw [hX] at HDEC HDX HOW
  clear hX
  obtain ⟨sE, E⟩ := st4
  dsimp only at HDEC
  have g1 : w11.cell? ⟨g, 1, none⟩ = some (.int .i64 E) := cell_of_row _ _ 1 _ _ _ HDX.out.rg
  by_cases hE : E = 0
  case neg =>
    have hE2 : (E != 0) = true := by rw [bne_iff_ne]; exact hE
    have HNN := Lib.hid (show Txn.dec (c0 :: r0) = none from by rw [HDEC.out, if_neg (fun h => hE h.1)])
    obtain ⟨p0, p1, p2, p3, p4, p5, p6, p7⟩ := HDX.out.rp.cells
    have u0 := HDX.out.rp.free 0
    have u1 := HDX.out.rp.free 1
    have u2 := HDX.out.rp.free 2
    have u3 := HDX.out.rp.free 3
    have u4 := HDX.out.rp.free 4
    have u5 := HDX.out.rp.free 5
    have u6 := HDX.out.rp.free 6
    have u7 := HDX.out.rp.free 7
    go_wp2
    exact bodyPost_ret (ret_put rfl _ _ p Txn.zero (.slice none 0 0) rfl HDX.out.rp) rfl (decTx_bad HNN.out (HDX.out.end_ Txn.zero (.slice none 0 0)))
  subst hE
  obtain ⟨x0, x1, x2, x3, x4, x5, x6, x7⟩ := HDX.out.rx.cells
  have HFI := Lib.hid (rFine_any xx _ w11 HOW.out.mems)
  unfold xval at HFI
  cases hf : Txn.fine xx with
  | false =>
    rw [hf] at HFI
    have HF := Lib.hid hf
    clear hf
    go_wp2_with fail
    refine HFI.out.mono ?_
    rintro e wf ⟨rfl, hbf⟩
    have HDF := Lib.hid (HDX.out.below hbf)
    clear hbf x0 x1 x2 x3 x4 x5 x6 x7 g1
    have HNN := Lib.hid (show Txn.dec (c0 :: r0) = none from by rw [HDEC.out, if_neg (fun h => by rw [HF.out] at h; exact absurd h.2.1 (by decide))])
    obtain ⟨p0, p1, p2, p3, p4, p5, p6, p7⟩ := HDF.out.rp.cells
    have u0 := HDF.out.rp.free 0
    have u1 := HDF.out.rp.free 1
    have u2 := HDF.out.rp.free 2
    have u3 := HDF.out.rp.free 3
    have u4 := HDF.out.rp.free 4
    have u5 := HDF.out.rp.free 5
    have u6 := HDF.out.rp.free 6
    have u7 := HDF.out.rp.free 7
    go_wp2
    exact bodyPost_ret (ret_put rfl _ _ p Txn.zero (.slice none 0 0) rfl HDF.out.rp) rfl (decTx_bad HNN.out (HDF.out.end_ Txn.zero (.slice none 0 0)))
  | true =>
  have HWR := Lib.hid (fun w' h => rWritten_any xx (.slice none 0 0) w' h hf)
  unfold xval at HWR
  rw [hf] at HFI
  have HF := Lib.hid hf
  clear hf
  obtain ⟨Y, hY⟩ : ∃ Y, Txn.written xx = Y := ⟨_, rfl⟩
  rw [hY] at HWR HDEC
  clear hY
  go_wp2_with fail
  refine HFI.out.mono ?_
  rintro e wf ⟨rfl, hbf⟩
  have HDF := Lib.hid (HDX.out.below hbf)
  have HOF := Lib.hid (HOW.out.below hbf)
  clear hbf x0 x1 x2 x3 x4 x5 x6 x7 g1
  obtain ⟨x0, x1, x2, x3, x4, x5, x6, x7⟩ := HDF.out.rx.cells
  go_wp2_with fail
  refine (HWR.out _ HOF.out.mems).mono ?_
  rintro e wg ⟨rfl, hbg⟩
  have HDG := Lib.hid (HDF.out.below hbg)
  have HOG := Lib.hid (HOF.out.below hbg)
  clear hbg x0 x1 x2 x3 x4 x5 x6 x7
  by_cases hq : Y = c0 :: r0
  case neg =>
    have hq1 : (Y != c0 :: r0) = true := by rw [bne_iff_ne]; exact hq
    have hq2 : (Y == c0 :: r0) = false := by rw [beq_eq_false_iff_ne]; exact hq
    have HNN := Lib.hid (show Txn.dec (c0 :: r0) = none from by rw [HDEC.out, if_neg (fun h => hq h.2.2)])
    obtain ⟨p0, p1, p2, p3, p4, p5, p6, p7⟩ := HDG.out.rp.cells
    have u0 := HDG.out.rp.free 0
    have u1 := HDG.out.rp.free 1
    have u2 := HDG.out.rp.free 2
    have u3 := HDG.out.rp.free 3
    have u4 := HDG.out.rp.free 4
    have u5 := HDG.out.rp.free 5
    have u6 := HDG.out.rp.free 6
    have u7 := HDG.out.rp.free 7
    go_wp2
    exact bodyPost_ret (ret_put rfl _ _ p Txn.zero (.slice none 0 0) rfl HDG.out.rp) rfl (decTx_bad HNN.out (HDG.out.end_ Txn.zero (.slice none 0 0)))
  have hq1 : (Y != c0 :: r0) = false := by rw [hq]; exact bne_self_eq_false _
  have hq2 : (Y == c0 :: r0) = true := by rw [hq]; exact beq_self_eq_true _
  have HNN := Lib.hid (show Txn.dec (c0 :: r0) = some xx from by rw [HDEC.out, if_pos ⟨trivial, HF.out, hq⟩])
  clear hq
  obtain ⟨x0, x1, x2, x3, x4, x5, x6, x7⟩ := HDG.out.rx.cells
  obtain ⟨p0, p1, p2, p3, p4, p5, p6, p7⟩ := HDG.out.rp.cells
  have u0 := HDG.out.rp.free 0
  have u1 := HDG.out.rp.free 1
  have u2 := HDG.out.rp.free 2
  have u3 := HDG.out.rp.free 3
  have u4 := HDG.out.rp.free 4
  have u5 := HDG.out.rp.free 5
  have u6 := HDG.out.rp.free 6
  have u7 := HDG.out.rp.free 7
  go_wp2
  exact bodyPost_ret (ret_put rfl _ _ p xx (.slice none 0 0) rfl HDG.out.rp) rfl (decTx_good HNN.out (HOG.out.only (putTx_only wg p xx (.slice none 0 0)) (typ_not HDG.out.rp (by decide))) (HDG.out.end_ xx (.slice none 0 0)))
set_option maxRecDepth 100000 in
set_option maxHeartbeats 8000000 in
theorem rDecodeTx_2 (c0 : UInt8) (r0 : List UInt8) (w : World) (hl : r0.length ≤ 999999) (k1 : ((c0.toNat : Nat) : Int) ≠ 1) (k2 : ((c0.toNat : Nat) : Int) = 2) :
    Calls Tryd.prog 13 #[.string ⟨(c0 :: r0).toArray⟩] w (DecTx (c0 :: r0) w) := by
  have hh : ∀ h, (⟨(c0 :: r0).toArray⟩ : ByteArray)[0]'h = c0 := fun _ => rfl
  have he : (⟨(c0 :: r0).toArray⟩ : ByteArray).extract 1 (r0.length + 1) = ⟨r0.toArray⟩ := extract_mk_tail c0 r0
  have hcb := c0.toNat_lt
  have hw64 : wrap64 ((c0.toNat : Nat) : Int) = (c0.toNat : Int) := by unfold wrap64; omega
  have hD0 := TxD.start 58 w r0 (c0.toNat : Int)
  have HL := Lib.hid hl
  have HDEC : Hid (Txn.dec (c0 :: r0) = if (Txn.readX c0 r0).2.2 = 0 ∧ Txn.fine (Txn.readX c0 r0).1 = true ∧ Txn.written (Txn.readX c0 r0).1 = c0 :: r0 then some (Txn.readX c0 r0).1 else none) := Lib.hid rfl
  have HRX : Hid (Txn.readX c0 r0 = Txn.readT (c0.toNat : Nat) (Tm.rdT 100 (r0, 0)).1 ((Pw.rdN (Tm.rdT 100 (r0, 0)).2).1 : Nat) (Pw.rdN (Tm.rdT 100 (r0, 0)).2).2) := Lib.hid rfl
  have HT1 := Lib.hid (fun g w' h => rrtextm_st 100 (r0, 0) g w' h (by dsimp only; omega))
  have HL1 := Lib.hid (Tm.rdT_le 100 (r0, 0))
  obtain ⟨⟨f, st1⟩, h1⟩ : ∃ p, Tm.rdT 100 (r0, 0) = p := ⟨_, rfl⟩
  rw [h1] at HRX HT1 HL1
  dsimp only at HRX HT1 HL1
  have HT2 := Lib.hid (fun g w' h => rrnum_st st1 g w' h (by have := HL1.out; omega))
  have HL2 := Lib.hid (Pw.rdN_le st1)
  obtain ⟨⟨n, st2⟩, h2⟩ : ∃ p, Pw.rdN st1 = p := ⟨_, rfl⟩
  rw [h2] at HRX HT2 HL2
  dsimp only at HRX HT2 HL2
  have HLE : Hid (st2.1.length ≤ 1000000) := Lib.hid (by have := HL1.out; have := HL2.out; omega)
  obtain ⟨k, hk⟩ : ∃ k : Int, ((c0.toNat : Nat) : Int) = k := ⟨_, rfl⟩
  rw [hk] at hw64 hD0 HRX
  rw [hk] at k1 k2
  have K1 := Lib.hid k1
  clear k1
  have K2 := Lib.hid k2
  clear k2
  clear h1 h2 hl hcb
  go_enter Tryd.func13, Tryd.ntmps13
  go_upto_region 5 with fail
  clear hk hw64 hh he
  obtain ⟨w3, hw3⟩ : ∃ w3, ((w.alloc (.cells #[.int .i64 0, .string ⟨#[]⟩, .int .i64 0, .string ⟨#[]⟩, .int .i64 0, .string ⟨#[]⟩, .string ⟨#[]⟩, .slice none 0 0] 24)).alloc (.cells #[.string ⟨r0.toArray⟩, .int .i64 0] 58)).alloc (.cells #[.int .i64 k, .string ⟨#[]⟩, .int .i64 0, .string ⟨#[]⟩, .int .i64 0, .string ⟨#[]⟩, .string ⟨#[]⟩, .slice none 0 0] 24) = w3 := ⟨_, rfl⟩
  rw [hw3] at hD0
  try rw [hw3]
  clear hw3
  obtain ⟨p, hp⟩ : ∃ p, w.heap.size = p := ⟨_, rfl⟩
  rw [hp] at hD0
  try rw [hp]
  obtain ⟨g, hg⟩ : ∃ g, p + 1 = g := ⟨_, rfl⟩
  rw [hg] at hD0
  try rw [hg]
  obtain ⟨q, hq⟩ : ∃ q, g + 1 = q := ⟨_, rfl⟩
  rw [hq] at hD0
  try rw [hq]
  clear hp hg hq
  have HD3 := Lib.hid hD0
  clear hD0
  have HT1 := Lib.hid (HT1.out g)
  have HT2 := Lib.hid (HT2.out g)
  go_wp2_with fail
  refine (HT1.out _ HD3.out.rg).mono ?_
  rintro e w4 ⟨rfl, hr, ho⟩
  have HD4 := Lib.hid (HD3.out.read st1 hr ho)
  clear hr ho
  have b4 := HD4.out.rx.cells.2.1
  have v4 := HD4.out.rx.free 1
  have HD5 := Lib.hid (HD4.out.set (HD4.out.rx.setFrm f))
  obtain ⟨w5, hw5⟩ : ∃ w', w4.setCell ⟨q, 1, none⟩ (.string ⟨f.toArray⟩) = w' := ⟨_, rfl⟩
  rw [hw5] at HD5
  go_wp2_with fail
  refine (HT2.out _ HD5.out.rg).mono ?_
  rintro e w6 ⟨rfl, hr, ho⟩
  have HD6 := Lib.hid (HD5.out.read st2 hr ho)
  clear hr ho
  have b6 := HD6.out.rx.cells.2.2.1
  have v6 := HD6.out.rx.free 2
  have HD7 := Lib.hid (HD6.out.set (HD6.out.rx.setSeq (n : Int)))
  obtain ⟨w7, hw7⟩ : ∃ w', w6.setCell ⟨q, 2, none⟩ (.int .i64 (n : Int)) = w' := ⟨_, rfl⟩
  rw [hw7] at HD7
  have b7 := HD7.out.rx.cells.1
  dsimp only at b7
  have r1 : (k == 1) = false := beq_eq_false_iff_ne.2 K1.out
  have r2 : (k == 2) = true := beq_iff_eq.2 K2.out
  have HRX1 := HRX.out
  unfold Txn.readT at HRX1
  rw [if_neg K1.out, if_pos K2.out] at HRX1
  have HT3 := Lib.hid (fun w' h => rrtextm_st 100 st2 g w' h (by have := HLE.out; omega))
  have HL3 := Lib.hid (Tm.rdT_le 100 st2)
  obtain ⟨⟨d, st3⟩, h3⟩ : ∃ p, Tm.rdT 100 st2 = p := ⟨_, rfl⟩
  rw [h3] at HRX1 HT3 HL3
  dsimp only at HRX1 HT3 HL3
  have HT4 := Lib.hid (fun w' h => rrtextm_st 100 st3 g w' h (by have := HLE.out; have := HL3.out; omega))
  obtain ⟨⟨a, st4⟩, h4⟩ : ∃ p, Tm.rdT 100 st3 = p := ⟨_, rfl⟩
  rw [h4] at HRX1 HT4
  dsimp only at HRX1 HT4
  rw [HRX1] at HDEC
  dsimp only at HDEC
  clear h3 h4 HRX1 HRX
  go_wp2_with fail
  refine (HT3.out _ HD7.out.rg).mono ?_
  rintro e w8 ⟨rfl, hr, ho⟩
  have HD8 := Lib.hid (HD7.out.read st3 hr ho)
  clear hr ho
  have b8 := HD8.out.rx.cells.2.2.2.2.2.1
  have v8 := HD8.out.rx.free 5
  have HD9 := Lib.hid (HD8.out.set (HD8.out.rx.setKey d))
  obtain ⟨w9, hw9⟩ : ∃ w', w8.setCell ⟨q, 5, none⟩ (.string ⟨d.toArray⟩) = w' := ⟨_, rfl⟩
  rw [hw9] at HD9
  go_wp2_with fail
  refine (HT4.out _ HD9.out.rg).mono ?_
  rintro e w10 ⟨rfl, hr, ho⟩
  have HD10 := Lib.hid (HD9.out.read st4 hr ho)
  clear hr ho
  have b10 := HD10.out.rx.cells.2.2.2.2.2.2.1
  have v10 := HD10.out.rx.free 6
  have HD11 := Lib.hid (HD10.out.set (HD10.out.rx.setVal a))
  obtain ⟨w11, hw11⟩ : ∃ w', w10.setCell ⟨q, 6, none⟩ (.string ⟨a.toArray⟩) = w' := ⟨_, rfl⟩
  rw [hw11] at HD11
  have HOW : Hid (OwnM w11 w.heap.size (.slice none 0 0) (⟨k, f, (n : Int), [], 0, d, a, []⟩ : X).mem) := Lib.hid (OwnM.nil _ _)
  have HDX : Hid (TxD 58 w w11 p g q (⟨k, f, (n : Int), [], 0, d, a, []⟩ : X) (.slice none 0 0) st4) := HD11
  obtain ⟨xx, hX⟩ : ∃ xx, (⟨k, f, (n : Int), [], 0, d, a, []⟩ : X) = xx := ⟨_, rfl⟩
  rw [hX] at HDEC HDX HOW
  clear hX
  obtain ⟨sE, E⟩ := st4
  dsimp only at HDEC
  have g1 : w11.cell? ⟨g, 1, none⟩ = some (.int .i64 E) := cell_of_row _ _ 1 _ _ _ HDX.out.rg
  by_cases hE : E = 0
  case neg =>
    have hE2 : (E != 0) = true := by rw [bne_iff_ne]; exact hE
    have HNN := Lib.hid (show Txn.dec (c0 :: r0) = none from by rw [HDEC.out, if_neg (fun h => hE h.1)])
    obtain ⟨p0, p1, p2, p3, p4, p5, p6, p7⟩ := HDX.out.rp.cells
    have u0 := HDX.out.rp.free 0
    have u1 := HDX.out.rp.free 1
    have u2 := HDX.out.rp.free 2
    have u3 := HDX.out.rp.free 3
    have u4 := HDX.out.rp.free 4
    have u5 := HDX.out.rp.free 5
    have u6 := HDX.out.rp.free 6
    have u7 := HDX.out.rp.free 7
    go_wp2
    exact bodyPost_ret (ret_put rfl _ _ p Txn.zero (.slice none 0 0) rfl HDX.out.rp) rfl (decTx_bad HNN.out (HDX.out.end_ Txn.zero (.slice none 0 0)))
  subst hE
  obtain ⟨x0, x1, x2, x3, x4, x5, x6, x7⟩ := HDX.out.rx.cells
  have HFI := Lib.hid (rFine_any xx _ w11 HOW.out.mems)
  unfold xval at HFI
  cases hf : Txn.fine xx with
  | false =>
    rw [hf] at HFI
    have HF := Lib.hid hf
    clear hf
    go_wp2_with fail
    refine HFI.out.mono ?_
    rintro e wf ⟨rfl, hbf⟩
    have HDF := Lib.hid (HDX.out.below hbf)
    clear hbf x0 x1 x2 x3 x4 x5 x6 x7 g1
    have HNN := Lib.hid (show Txn.dec (c0 :: r0) = none from by rw [HDEC.out, if_neg (fun h => by rw [HF.out] at h; exact absurd h.2.1 (by decide))])
    obtain ⟨p0, p1, p2, p3, p4, p5, p6, p7⟩ := HDF.out.rp.cells
    have u0 := HDF.out.rp.free 0
    have u1 := HDF.out.rp.free 1
    have u2 := HDF.out.rp.free 2
    have u3 := HDF.out.rp.free 3
    have u4 := HDF.out.rp.free 4
    have u5 := HDF.out.rp.free 5
    have u6 := HDF.out.rp.free 6
    have u7 := HDF.out.rp.free 7
    go_wp2
    exact bodyPost_ret (ret_put rfl _ _ p Txn.zero (.slice none 0 0) rfl HDF.out.rp) rfl (decTx_bad HNN.out (HDF.out.end_ Txn.zero (.slice none 0 0)))
  | true =>
  have HWR := Lib.hid (fun w' h => rWritten_any xx (.slice none 0 0) w' h hf)
  unfold xval at HWR
  rw [hf] at HFI
  have HF := Lib.hid hf
  clear hf
  obtain ⟨Y, hY⟩ : ∃ Y, Txn.written xx = Y := ⟨_, rfl⟩
  rw [hY] at HWR HDEC
  clear hY
  go_wp2_with fail
  refine HFI.out.mono ?_
  rintro e wf ⟨rfl, hbf⟩
  have HDF := Lib.hid (HDX.out.below hbf)
  have HOF := Lib.hid (HOW.out.below hbf)
  clear hbf x0 x1 x2 x3 x4 x5 x6 x7 g1
  obtain ⟨x0, x1, x2, x3, x4, x5, x6, x7⟩ := HDF.out.rx.cells
  go_wp2_with fail
  refine (HWR.out _ HOF.out.mems).mono ?_
  rintro e wg ⟨rfl, hbg⟩
  have HDG := Lib.hid (HDF.out.below hbg)
  have HOG := Lib.hid (HOF.out.below hbg)
  clear hbg x0 x1 x2 x3 x4 x5 x6 x7
  by_cases hq : Y = c0 :: r0
  case neg =>
    have hq1 : (Y != c0 :: r0) = true := by rw [bne_iff_ne]; exact hq
    have hq2 : (Y == c0 :: r0) = false := by rw [beq_eq_false_iff_ne]; exact hq
    have HNN := Lib.hid (show Txn.dec (c0 :: r0) = none from by rw [HDEC.out, if_neg (fun h => hq h.2.2)])
    obtain ⟨p0, p1, p2, p3, p4, p5, p6, p7⟩ := HDG.out.rp.cells
    have u0 := HDG.out.rp.free 0
    have u1 := HDG.out.rp.free 1
    have u2 := HDG.out.rp.free 2
    have u3 := HDG.out.rp.free 3
    have u4 := HDG.out.rp.free 4
    have u5 := HDG.out.rp.free 5
    have u6 := HDG.out.rp.free 6
    have u7 := HDG.out.rp.free 7
    go_wp2
    exact bodyPost_ret (ret_put rfl _ _ p Txn.zero (.slice none 0 0) rfl HDG.out.rp) rfl (decTx_bad HNN.out (HDG.out.end_ Txn.zero (.slice none 0 0)))
  have hq1 : (Y != c0 :: r0) = false := by rw [hq]; exact bne_self_eq_false _
  have hq2 : (Y == c0 :: r0) = true := by rw [hq]; exact beq_self_eq_true _
  have HNN := Lib.hid (show Txn.dec (c0 :: r0) = some xx from by rw [HDEC.out, if_pos ⟨trivial, HF.out, hq⟩])
  clear hq
  obtain ⟨x0, x1, x2, x3, x4, x5, x6, x7⟩ := HDG.out.rx.cells
  obtain ⟨p0, p1, p2, p3, p4, p5, p6, p7⟩ := HDG.out.rp.cells
  have u0 := HDG.out.rp.free 0
  have u1 := HDG.out.rp.free 1
  have u2 := HDG.out.rp.free 2
  have u3 := HDG.out.rp.free 3
  have u4 := HDG.out.rp.free 4
  have u5 := HDG.out.rp.free 5
  have u6 := HDG.out.rp.free 6
  have u7 := HDG.out.rp.free 7
  go_wp2
  exact bodyPost_ret (ret_put rfl _ _ p xx (.slice none 0 0) rfl HDG.out.rp) rfl (decTx_good HNN.out (HOG.out.only (putTx_only wg p xx (.slice none 0 0)) (typ_not HDG.out.rp (by decide))) (HDG.out.end_ xx (.slice none 0 0)))
set_option maxRecDepth 100000 in
set_option maxHeartbeats 8000000 in
theorem rDecodeTx_3 (c0 : UInt8) (r0 : List UInt8) (w : World) (hl : r0.length ≤ 999999) (k1 : ((c0.toNat : Nat) : Int) ≠ 1) (k2 : ((c0.toNat : Nat) : Int) ≠ 2) (k3 : ((c0.toNat : Nat) : Int) = 3) :
    Calls Tryd.prog 13 #[.string ⟨(c0 :: r0).toArray⟩] w (DecTx (c0 :: r0) w) := by
  have hh : ∀ h, (⟨(c0 :: r0).toArray⟩ : ByteArray)[0]'h = c0 := fun _ => rfl
  have he : (⟨(c0 :: r0).toArray⟩ : ByteArray).extract 1 (r0.length + 1) = ⟨r0.toArray⟩ := extract_mk_tail c0 r0
  have hcb := c0.toNat_lt
  have hw64 : wrap64 ((c0.toNat : Nat) : Int) = (c0.toNat : Int) := by unfold wrap64; omega
  have hD0 := TxD.start 58 w r0 (c0.toNat : Int)
  have HL := Lib.hid hl
  have HDEC : Hid (Txn.dec (c0 :: r0) = if (Txn.readX c0 r0).2.2 = 0 ∧ Txn.fine (Txn.readX c0 r0).1 = true ∧ Txn.written (Txn.readX c0 r0).1 = c0 :: r0 then some (Txn.readX c0 r0).1 else none) := Lib.hid rfl
  have HRX : Hid (Txn.readX c0 r0 = Txn.readT (c0.toNat : Nat) (Tm.rdT 100 (r0, 0)).1 ((Pw.rdN (Tm.rdT 100 (r0, 0)).2).1 : Nat) (Pw.rdN (Tm.rdT 100 (r0, 0)).2).2) := Lib.hid rfl
  have HT1 := Lib.hid (fun g w' h => rrtextm_st 100 (r0, 0) g w' h (by dsimp only; omega))
  have HL1 := Lib.hid (Tm.rdT_le 100 (r0, 0))
  obtain ⟨⟨f, st1⟩, h1⟩ : ∃ p, Tm.rdT 100 (r0, 0) = p := ⟨_, rfl⟩
  rw [h1] at HRX HT1 HL1
  dsimp only at HRX HT1 HL1
  have HT2 := Lib.hid (fun g w' h => rrnum_st st1 g w' h (by have := HL1.out; omega))
  have HL2 := Lib.hid (Pw.rdN_le st1)
  obtain ⟨⟨n, st2⟩, h2⟩ : ∃ p, Pw.rdN st1 = p := ⟨_, rfl⟩
  rw [h2] at HRX HT2 HL2
  dsimp only at HRX HT2 HL2
  have HLE : Hid (st2.1.length ≤ 1000000) := Lib.hid (by have := HL1.out; have := HL2.out; omega)
  obtain ⟨k, hk⟩ : ∃ k : Int, ((c0.toNat : Nat) : Int) = k := ⟨_, rfl⟩
  rw [hk] at hw64 hD0 HRX
  rw [hk] at k1 k2 k3
  have K1 := Lib.hid k1
  clear k1
  have K2 := Lib.hid k2
  clear k2
  have K3 := Lib.hid k3
  clear k3
  clear h1 h2 hl hcb
  go_enter Tryd.func13, Tryd.ntmps13
  go_upto_region 5 with fail
  clear hk hw64 hh he
  obtain ⟨w3, hw3⟩ : ∃ w3, ((w.alloc (.cells #[.int .i64 0, .string ⟨#[]⟩, .int .i64 0, .string ⟨#[]⟩, .int .i64 0, .string ⟨#[]⟩, .string ⟨#[]⟩, .slice none 0 0] 24)).alloc (.cells #[.string ⟨r0.toArray⟩, .int .i64 0] 58)).alloc (.cells #[.int .i64 k, .string ⟨#[]⟩, .int .i64 0, .string ⟨#[]⟩, .int .i64 0, .string ⟨#[]⟩, .string ⟨#[]⟩, .slice none 0 0] 24) = w3 := ⟨_, rfl⟩
  rw [hw3] at hD0
  try rw [hw3]
  clear hw3
  obtain ⟨p, hp⟩ : ∃ p, w.heap.size = p := ⟨_, rfl⟩
  rw [hp] at hD0
  try rw [hp]
  obtain ⟨g, hg⟩ : ∃ g, p + 1 = g := ⟨_, rfl⟩
  rw [hg] at hD0
  try rw [hg]
  obtain ⟨q, hq⟩ : ∃ q, g + 1 = q := ⟨_, rfl⟩
  rw [hq] at hD0
  try rw [hq]
  clear hp hg hq
  have HD3 := Lib.hid hD0
  clear hD0
  have HT1 := Lib.hid (HT1.out g)
  have HT2 := Lib.hid (HT2.out g)
  go_wp2_with fail
  refine (HT1.out _ HD3.out.rg).mono ?_
  rintro e w4 ⟨rfl, hr, ho⟩
  have HD4 := Lib.hid (HD3.out.read st1 hr ho)
  clear hr ho
  have b4 := HD4.out.rx.cells.2.1
  have v4 := HD4.out.rx.free 1
  have HD5 := Lib.hid (HD4.out.set (HD4.out.rx.setFrm f))
  obtain ⟨w5, hw5⟩ : ∃ w', w4.setCell ⟨q, 1, none⟩ (.string ⟨f.toArray⟩) = w' := ⟨_, rfl⟩
  rw [hw5] at HD5
  go_wp2_with fail
  refine (HT2.out _ HD5.out.rg).mono ?_
  rintro e w6 ⟨rfl, hr, ho⟩
  have HD6 := Lib.hid (HD5.out.read st2 hr ho)
  clear hr ho
  have b6 := HD6.out.rx.cells.2.2.1
  have v6 := HD6.out.rx.free 2
  have HD7 := Lib.hid (HD6.out.set (HD6.out.rx.setSeq (n : Int)))
  obtain ⟨w7, hw7⟩ : ∃ w', w6.setCell ⟨q, 2, none⟩ (.int .i64 (n : Int)) = w' := ⟨_, rfl⟩
  rw [hw7] at HD7
  have b7 := HD7.out.rx.cells.1
  dsimp only at b7
  have r1 : (k == 1) = false := beq_eq_false_iff_ne.2 K1.out
  have r2 : (k == 2) = false := beq_eq_false_iff_ne.2 K2.out
  have r3 : (k == 3) = true := beq_iff_eq.2 K3.out
  have HRX1 := HRX.out
  unfold Txn.readT at HRX1
  rw [if_neg K1.out, if_neg K2.out, if_pos K3.out] at HRX1
  have HT3 := Lib.hid (fun w' h => rrtextm_st 100 st2 g w' h (by have := HLE.out; omega))
  obtain ⟨⟨d, st3⟩, h3⟩ : ∃ p, Tm.rdT 100 st2 = p := ⟨_, rfl⟩
  rw [h3] at HRX1 HT3
  dsimp only at HRX1 HT3
  rw [HRX1] at HDEC
  dsimp only at HDEC
  clear h3 HRX1 HRX
  go_wp2_with fail
  refine (HT3.out _ HD7.out.rg).mono ?_
  rintro e w8 ⟨rfl, hr, ho⟩
  have HD8 := Lib.hid (HD7.out.read st3 hr ho)
  clear hr ho
  have b8 := HD8.out.rx.cells.2.2.2.2.2.1
  have v8 := HD8.out.rx.free 5
  have HD9 := Lib.hid (HD8.out.set (HD8.out.rx.setKey d))
  obtain ⟨w9, hw9⟩ : ∃ w', w8.setCell ⟨q, 5, none⟩ (.string ⟨d.toArray⟩) = w' := ⟨_, rfl⟩
  rw [hw9] at HD9
  have HOW : Hid (OwnM w9 w.heap.size (.slice none 0 0) (⟨k, f, (n : Int), [], 0, d, [], []⟩ : X).mem) := Lib.hid (OwnM.nil _ _)
  have HDX : Hid (TxD 58 w w9 p g q (⟨k, f, (n : Int), [], 0, d, [], []⟩ : X) (.slice none 0 0) st3) := HD9
  obtain ⟨xx, hX⟩ : ∃ xx, (⟨k, f, (n : Int), [], 0, d, [], []⟩ : X) = xx := ⟨_, rfl⟩
  rw [hX] at HDEC HDX HOW
  clear hX
  obtain ⟨sE, E⟩ := st3
  dsimp only at HDEC
  have g1 : w9.cell? ⟨g, 1, none⟩ = some (.int .i64 E) := cell_of_row _ _ 1 _ _ _ HDX.out.rg
  by_cases hE : E = 0
  case neg =>
    have hE2 : (E != 0) = true := by rw [bne_iff_ne]; exact hE
    have HNN := Lib.hid (show Txn.dec (c0 :: r0) = none from by rw [HDEC.out, if_neg (fun h => hE h.1)])
    obtain ⟨p0, p1, p2, p3, p4, p5, p6, p7⟩ := HDX.out.rp.cells
    have u0 := HDX.out.rp.free 0
    have u1 := HDX.out.rp.free 1
    have u2 := HDX.out.rp.free 2
    have u3 := HDX.out.rp.free 3
    have u4 := HDX.out.rp.free 4
    have u5 := HDX.out.rp.free 5
    have u6 := HDX.out.rp.free 6
    have u7 := HDX.out.rp.free 7
    go_wp2
    exact bodyPost_ret (ret_put rfl _ _ p Txn.zero (.slice none 0 0) rfl HDX.out.rp) rfl (decTx_bad HNN.out (HDX.out.end_ Txn.zero (.slice none 0 0)))
  subst hE
  obtain ⟨x0, x1, x2, x3, x4, x5, x6, x7⟩ := HDX.out.rx.cells
  have HFI := Lib.hid (rFine_any xx _ w9 HOW.out.mems)
  unfold xval at HFI
  cases hf : Txn.fine xx with
  | false =>
    rw [hf] at HFI
    have HF := Lib.hid hf
    clear hf
    go_wp2_with fail
    refine HFI.out.mono ?_
    rintro e wf ⟨rfl, hbf⟩
    have HDF := Lib.hid (HDX.out.below hbf)
    clear hbf x0 x1 x2 x3 x4 x5 x6 x7 g1
    have HNN := Lib.hid (show Txn.dec (c0 :: r0) = none from by rw [HDEC.out, if_neg (fun h => by rw [HF.out] at h; exact absurd h.2.1 (by decide))])
    obtain ⟨p0, p1, p2, p3, p4, p5, p6, p7⟩ := HDF.out.rp.cells
    have u0 := HDF.out.rp.free 0
    have u1 := HDF.out.rp.free 1
    have u2 := HDF.out.rp.free 2
    have u3 := HDF.out.rp.free 3
    have u4 := HDF.out.rp.free 4
    have u5 := HDF.out.rp.free 5
    have u6 := HDF.out.rp.free 6
    have u7 := HDF.out.rp.free 7
    go_wp2
    exact bodyPost_ret (ret_put rfl _ _ p Txn.zero (.slice none 0 0) rfl HDF.out.rp) rfl (decTx_bad HNN.out (HDF.out.end_ Txn.zero (.slice none 0 0)))
  | true =>
  have HWR := Lib.hid (fun w' h => rWritten_any xx (.slice none 0 0) w' h hf)
  unfold xval at HWR
  rw [hf] at HFI
  have HF := Lib.hid hf
  clear hf
  obtain ⟨Y, hY⟩ : ∃ Y, Txn.written xx = Y := ⟨_, rfl⟩
  rw [hY] at HWR HDEC
  clear hY
  go_wp2_with fail
  refine HFI.out.mono ?_
  rintro e wf ⟨rfl, hbf⟩
  have HDF := Lib.hid (HDX.out.below hbf)
  have HOF := Lib.hid (HOW.out.below hbf)
  clear hbf x0 x1 x2 x3 x4 x5 x6 x7 g1
  obtain ⟨x0, x1, x2, x3, x4, x5, x6, x7⟩ := HDF.out.rx.cells
  go_wp2_with fail
  refine (HWR.out _ HOF.out.mems).mono ?_
  rintro e wg ⟨rfl, hbg⟩
  have HDG := Lib.hid (HDF.out.below hbg)
  have HOG := Lib.hid (HOF.out.below hbg)
  clear hbg x0 x1 x2 x3 x4 x5 x6 x7
  by_cases hq : Y = c0 :: r0
  case neg =>
    have hq1 : (Y != c0 :: r0) = true := by rw [bne_iff_ne]; exact hq
    have hq2 : (Y == c0 :: r0) = false := by rw [beq_eq_false_iff_ne]; exact hq
    have HNN := Lib.hid (show Txn.dec (c0 :: r0) = none from by rw [HDEC.out, if_neg (fun h => hq h.2.2)])
    obtain ⟨p0, p1, p2, p3, p4, p5, p6, p7⟩ := HDG.out.rp.cells
    have u0 := HDG.out.rp.free 0
    have u1 := HDG.out.rp.free 1
    have u2 := HDG.out.rp.free 2
    have u3 := HDG.out.rp.free 3
    have u4 := HDG.out.rp.free 4
    have u5 := HDG.out.rp.free 5
    have u6 := HDG.out.rp.free 6
    have u7 := HDG.out.rp.free 7
    go_wp2
    exact bodyPost_ret (ret_put rfl _ _ p Txn.zero (.slice none 0 0) rfl HDG.out.rp) rfl (decTx_bad HNN.out (HDG.out.end_ Txn.zero (.slice none 0 0)))
  have hq1 : (Y != c0 :: r0) = false := by rw [hq]; exact bne_self_eq_false _
  have hq2 : (Y == c0 :: r0) = true := by rw [hq]; exact beq_self_eq_true _
  have HNN := Lib.hid (show Txn.dec (c0 :: r0) = some xx from by rw [HDEC.out, if_pos ⟨trivial, HF.out, hq⟩])
  clear hq
  obtain ⟨x0, x1, x2, x3, x4, x5, x6, x7⟩ := HDG.out.rx.cells
  obtain ⟨p0, p1, p2, p3, p4, p5, p6, p7⟩ := HDG.out.rp.cells
  have u0 := HDG.out.rp.free 0
  have u1 := HDG.out.rp.free 1
  have u2 := HDG.out.rp.free 2
  have u3 := HDG.out.rp.free 3
  have u4 := HDG.out.rp.free 4
  have u5 := HDG.out.rp.free 5
  have u6 := HDG.out.rp.free 6
  have u7 := HDG.out.rp.free 7
  go_wp2
  exact bodyPost_ret (ret_put rfl _ _ p xx (.slice none 0 0) rfl HDG.out.rp) rfl (decTx_good HNN.out (HOG.out.only (putTx_only wg p xx (.slice none 0 0)) (typ_not HDG.out.rp (by decide))) (HDG.out.end_ xx (.slice none 0 0)))
set_option maxRecDepth 100000 in
set_option maxHeartbeats 8000000 in
theorem rDecodeTx_4 (c0 : UInt8) (r0 : List UInt8) (w : World) (hl : r0.length ≤ 999999) (k1 : ((c0.toNat : Nat) : Int) ≠ 1) (k2 : ((c0.toNat : Nat) : Int) ≠ 2) (k3 : ((c0.toNat : Nat) : Int) ≠ 3) :
    Calls Tryd.prog 13 #[.string ⟨(c0 :: r0).toArray⟩] w (DecTx (c0 :: r0) w) := by
  have hh : ∀ h, (⟨(c0 :: r0).toArray⟩ : ByteArray)[0]'h = c0 := fun _ => rfl
  have he : (⟨(c0 :: r0).toArray⟩ : ByteArray).extract 1 (r0.length + 1) = ⟨r0.toArray⟩ := extract_mk_tail c0 r0
  have hcb := c0.toNat_lt
  have hw64 : wrap64 ((c0.toNat : Nat) : Int) = (c0.toNat : Int) := by unfold wrap64; omega
  have hD0 := TxD.start 58 w r0 (c0.toNat : Int)
  have HL := Lib.hid hl
  have HDEC : Hid (Txn.dec (c0 :: r0) = if (Txn.readX c0 r0).2.2 = 0 ∧ Txn.fine (Txn.readX c0 r0).1 = true ∧ Txn.written (Txn.readX c0 r0).1 = c0 :: r0 then some (Txn.readX c0 r0).1 else none) := Lib.hid rfl
  have HRX : Hid (Txn.readX c0 r0 = Txn.readT (c0.toNat : Nat) (Tm.rdT 100 (r0, 0)).1 ((Pw.rdN (Tm.rdT 100 (r0, 0)).2).1 : Nat) (Pw.rdN (Tm.rdT 100 (r0, 0)).2).2) := Lib.hid rfl
  have HT1 := Lib.hid (fun g w' h => rrtextm_st 100 (r0, 0) g w' h (by dsimp only; omega))
  have HL1 := Lib.hid (Tm.rdT_le 100 (r0, 0))
  obtain ⟨⟨f, st1⟩, h1⟩ : ∃ p, Tm.rdT 100 (r0, 0) = p := ⟨_, rfl⟩
  rw [h1] at HRX HT1 HL1
  dsimp only at HRX HT1 HL1
  have HT2 := Lib.hid (fun g w' h => rrnum_st st1 g w' h (by have := HL1.out; omega))
  have HL2 := Lib.hid (Pw.rdN_le st1)
  obtain ⟨⟨n, st2⟩, h2⟩ : ∃ p, Pw.rdN st1 = p := ⟨_, rfl⟩
  rw [h2] at HRX HT2 HL2
  dsimp only at HRX HT2 HL2
  have HLE : Hid (st2.1.length ≤ 1000000) := Lib.hid (by have := HL1.out; have := HL2.out; omega)
  obtain ⟨k, hk⟩ : ∃ k : Int, ((c0.toNat : Nat) : Int) = k := ⟨_, rfl⟩
  rw [hk] at hw64 hD0 HRX
  rw [hk] at k1 k2 k3
  have K1 := Lib.hid k1
  clear k1
  have K2 := Lib.hid k2
  clear k2
  have K3 := Lib.hid k3
  clear k3
  clear h1 h2 hl hcb
  go_enter Tryd.func13, Tryd.ntmps13
  go_upto_region 5 with fail
  clear hk hw64 hh he
  obtain ⟨w3, hw3⟩ : ∃ w3, ((w.alloc (.cells #[.int .i64 0, .string ⟨#[]⟩, .int .i64 0, .string ⟨#[]⟩, .int .i64 0, .string ⟨#[]⟩, .string ⟨#[]⟩, .slice none 0 0] 24)).alloc (.cells #[.string ⟨r0.toArray⟩, .int .i64 0] 58)).alloc (.cells #[.int .i64 k, .string ⟨#[]⟩, .int .i64 0, .string ⟨#[]⟩, .int .i64 0, .string ⟨#[]⟩, .string ⟨#[]⟩, .slice none 0 0] 24) = w3 := ⟨_, rfl⟩
  rw [hw3] at hD0
  try rw [hw3]
  clear hw3
  obtain ⟨p, hp⟩ : ∃ p, w.heap.size = p := ⟨_, rfl⟩
  rw [hp] at hD0
  try rw [hp]
  obtain ⟨g, hg⟩ : ∃ g, p + 1 = g := ⟨_, rfl⟩
  rw [hg] at hD0
  try rw [hg]
  obtain ⟨q, hq⟩ : ∃ q, g + 1 = q := ⟨_, rfl⟩
  rw [hq] at hD0
  try rw [hq]
  clear hp hg hq
  have HD3 := Lib.hid hD0
  clear hD0
  have HT1 := Lib.hid (HT1.out g)
  have HT2 := Lib.hid (HT2.out g)
  go_wp2_with fail
  refine (HT1.out _ HD3.out.rg).mono ?_
  rintro e w4 ⟨rfl, hr, ho⟩
  have HD4 := Lib.hid (HD3.out.read st1 hr ho)
  clear hr ho
  have b4 := HD4.out.rx.cells.2.1
  have v4 := HD4.out.rx.free 1
  have HD5 := Lib.hid (HD4.out.set (HD4.out.rx.setFrm f))
  obtain ⟨w5, hw5⟩ : ∃ w', w4.setCell ⟨q, 1, none⟩ (.string ⟨f.toArray⟩) = w' := ⟨_, rfl⟩
  rw [hw5] at HD5
  go_wp2_with fail
  refine (HT2.out _ HD5.out.rg).mono ?_
  rintro e w6 ⟨rfl, hr, ho⟩
  have HD6 := Lib.hid (HD5.out.read st2 hr ho)
  clear hr ho
  have b6 := HD6.out.rx.cells.2.2.1
  have v6 := HD6.out.rx.free 2
  have HD7 := Lib.hid (HD6.out.set (HD6.out.rx.setSeq (n : Int)))
  obtain ⟨w7, hw7⟩ : ∃ w', w6.setCell ⟨q, 2, none⟩ (.int .i64 (n : Int)) = w' := ⟨_, rfl⟩
  rw [hw7] at HD7
  have b7 := HD7.out.rx.cells.1
  dsimp only at b7
  have r1 : (k == 1) = false := beq_eq_false_iff_ne.2 K1.out
  have r2 : (k == 2) = false := beq_eq_false_iff_ne.2 K2.out
  have r3 : (k == 3) = false := beq_eq_false_iff_ne.2 K3.out
  have HRX1 := HRX.out
  unfold Txn.readT at HRX1
  rw [if_neg K1.out, if_neg K2.out, if_neg K3.out] at HRX1
  have HT3 := Lib.hid (fun w' h => rrtextm_st 100000 st2 g w' h (by have := HLE.out; omega))
  have HTN := Tm.rdT_len 100000 st2
  obtain ⟨⟨d, st3⟩, h3⟩ : ∃ p, Tm.rdT 100000 st2 = p := ⟨_, rfl⟩
  rw [show Tm.rdT (100000 : Int) st2 = (d, st3) from h3] at HRX1 HT3
  rw [show Tm.rdT ((100000 : Nat) : Int) st2 = (d, st3) from h3] at HTN
  dsimp only at HRX1 HT3 HTN
  rw [HRX1] at HDEC
  dsimp only at HDEC
  have HPD := Lib.hid (fun w' => rdecode_any d w' (by omega))
  have HEL : Hid (Pw.decOK d = false → Txn.fine (⟨k, f, (n : Int), [], 0, [], [], Pw.decL d⟩ : X) = false) := Lib.hid (fun h => Txn.fine_else K1.out K2.out K3.out (by simp [Pw.decL, h, Pw.okL]))
  clear h3 HRX1 HRX HTN
  go_wp2_with fail
  refine (HT3.out _ HD7.out.rg).mono ?_
  rintro e w8 ⟨rfl, hr, ho⟩
  have HD8 := Lib.hid (HD7.out.read st3 hr ho)
  clear hr ho b7
  go_wp2_with fail
  refine (HPD.out _).mono ?_
  rintro e w9 ⟨z, rfl, hown, hb9⟩
  have HD9 := Lib.hid (HD8.out.below hb9)
  have HOW := Lib.hid (OwnM.from_ hown HD8.out.bel.size)
  clear hown hb9
  obtain ⟨Az, capz, rfl⟩ := HOW.out.mems.form
  have HDC : Hid (Pw.decC d = if Pw.decOK d then 0 else 3) := Lib.hid rfl
  obtain ⟨C, hC⟩ : ∃ C, Pw.decC d = C := ⟨_, rfl⟩
  rw [hC] at HDC
  try rw [hC]
  clear hC
  cases hd : Pw.decOK d with
  | false =>
  have HF := Lib.hid (HEL.out hd)
  rw [hd] at HDC
  obtain rfl : C = 3 := HDC.out
  clear hd
  have HNN := Lib.hid (show Txn.dec (c0 :: r0) = none from by rw [HDEC.out, if_neg (fun h => by rw [HF.out] at h; exact absurd h.2.1 (by decide))])
  obtain ⟨p0, p1, p2, p3, p4, p5, p6, p7⟩ := HD9.out.rp.cells
  have u0 := HD9.out.rp.free 0
  have u1 := HD9.out.rp.free 1
  have u2 := HD9.out.rp.free 2
  have u3 := HD9.out.rp.free 3
  have u4 := HD9.out.rp.free 4
  have u5 := HD9.out.rp.free 5
  have u6 := HD9.out.rp.free 6
  have u7 := HD9.out.rp.free 7
  go_wp2
  exact bodyPost_ret (ret_put rfl _ _ p Txn.zero (.slice none 0 0) rfl HD9.out.rp) rfl (decTx_bad HNN.out (HD9.out.end_ Txn.zero (.slice none 0 0)))
  | true =>
  rw [hd] at HDC
  obtain rfl : C = 0 := HDC.out
  clear hd HEL
  have b9 := HD9.out.rx.cells.2.2.2.2.2.2.2
  have v9 := HD9.out.rx.free 7
  obtain ⟨L, hL⟩ : ∃ L, Pw.decL d = L := ⟨_, rfl⟩
  rw [hL] at HOW HDEC
  try rw [hL]
  clear hL
  have HD10 := Lib.hid (HD9.out.set (HD9.out.rx.setMem L (.slice Az L.length capz)))
  have HOW := Lib.hid (HOW.out.only ((Only.refl q w9).setCell (p := ⟨q, 7, none⟩) rfl (.slice Az L.length capz)) (typ_not HD9.out.rx (by decide)))
  obtain ⟨w10, hw10⟩ : ∃ w', w9.setCell ⟨q, 7, none⟩ (.slice Az L.length capz) = w' := ⟨_, rfl⟩
  rw [hw10] at HD10 HOW
  have HDX : Hid (TxD 58 w w10 p g q (⟨k, f, (n : Int), [], 0, [], [], L⟩ : X) (.slice Az L.length capz) st3) := HD10
  have HOW : Hid (OwnM w10 w.heap.size (.slice Az L.length capz) (⟨k, f, (n : Int), [], 0, [], [], L⟩ : X).mem) := HOW
  obtain ⟨xx, hX⟩ : ∃ xx, (⟨k, f, (n : Int), [], 0, [], [], L⟩ : X) = xx := ⟨_, rfl⟩
  rw [hX] at HDEC HDX HOW
  clear hX
  obtain ⟨sE, E⟩ := st3
  dsimp only at HDEC
  have g1 : w10.cell? ⟨g, 1, none⟩ = some (.int .i64 E) := cell_of_row _ _ 1 _ _ _ HDX.out.rg
  by_cases hE : E = 0
  case neg =>
    have hE2 : (E != 0) = true := by rw [bne_iff_ne]; exact hE
    have HNN := Lib.hid (show Txn.dec (c0 :: r0) = none from by rw [HDEC.out, if_neg (fun h => hE h.1)])
    obtain ⟨p0, p1, p2, p3, p4, p5, p6, p7⟩ := HDX.out.rp.cells
    have u0 := HDX.out.rp.free 0
    have u1 := HDX.out.rp.free 1
    have u2 := HDX.out.rp.free 2
    have u3 := HDX.out.rp.free 3
    have u4 := HDX.out.rp.free 4
    have u5 := HDX.out.rp.free 5
    have u6 := HDX.out.rp.free 6
    have u7 := HDX.out.rp.free 7
    go_wp2
    exact bodyPost_ret (ret_put rfl _ _ p Txn.zero (.slice none 0 0) rfl HDX.out.rp) rfl (decTx_bad HNN.out (HDX.out.end_ Txn.zero (.slice none 0 0)))
  subst hE
  obtain ⟨x0, x1, x2, x3, x4, x5, x6, x7⟩ := HDX.out.rx.cells
  have HFI := Lib.hid (rFine_any xx _ w10 HOW.out.mems)
  unfold xval at HFI
  cases hf : Txn.fine xx with
  | false =>
    rw [hf] at HFI
    have HF := Lib.hid hf
    clear hf
    go_wp2_with fail
    refine HFI.out.mono ?_
    rintro e wf ⟨rfl, hbf⟩
    have HDF := Lib.hid (HDX.out.below hbf)
    clear hbf x0 x1 x2 x3 x4 x5 x6 x7 g1
    have HNN := Lib.hid (show Txn.dec (c0 :: r0) = none from by rw [HDEC.out, if_neg (fun h => by rw [HF.out] at h; exact absurd h.2.1 (by decide))])
    obtain ⟨p0, p1, p2, p3, p4, p5, p6, p7⟩ := HDF.out.rp.cells
    have u0 := HDF.out.rp.free 0
    have u1 := HDF.out.rp.free 1
    have u2 := HDF.out.rp.free 2
    have u3 := HDF.out.rp.free 3
    have u4 := HDF.out.rp.free 4
    have u5 := HDF.out.rp.free 5
    have u6 := HDF.out.rp.free 6
    have u7 := HDF.out.rp.free 7
    go_wp2
    exact bodyPost_ret (ret_put rfl _ _ p Txn.zero (.slice none 0 0) rfl HDF.out.rp) rfl (decTx_bad HNN.out (HDF.out.end_ Txn.zero (.slice none 0 0)))
  | true =>
  have HWR := Lib.hid (fun w' h => rWritten_any xx (.slice Az L.length capz) w' h hf)
  unfold xval at HWR
  rw [hf] at HFI
  have HF := Lib.hid hf
  clear hf
  obtain ⟨Y, hY⟩ : ∃ Y, Txn.written xx = Y := ⟨_, rfl⟩
  rw [hY] at HWR HDEC
  clear hY
  go_wp2_with fail
  refine HFI.out.mono ?_
  rintro e wf ⟨rfl, hbf⟩
  have HDF := Lib.hid (HDX.out.below hbf)
  have HOF := Lib.hid (HOW.out.below hbf)
  clear hbf x0 x1 x2 x3 x4 x5 x6 x7 g1
  obtain ⟨x0, x1, x2, x3, x4, x5, x6, x7⟩ := HDF.out.rx.cells
  go_wp2_with fail
  refine (HWR.out _ HOF.out.mems).mono ?_
  rintro e wg ⟨rfl, hbg⟩
  have HDG := Lib.hid (HDF.out.below hbg)
  have HOG := Lib.hid (HOF.out.below hbg)
  clear hbg x0 x1 x2 x3 x4 x5 x6 x7
  by_cases hq : Y = c0 :: r0
  case neg =>
    have hq1 : (Y != c0 :: r0) = true := by rw [bne_iff_ne]; exact hq
    have hq2 : (Y == c0 :: r0) = false := by rw [beq_eq_false_iff_ne]; exact hq
    have HNN := Lib.hid (show Txn.dec (c0 :: r0) = none from by rw [HDEC.out, if_neg (fun h => hq h.2.2)])
    obtain ⟨p0, p1, p2, p3, p4, p5, p6, p7⟩ := HDG.out.rp.cells
    have u0 := HDG.out.rp.free 0
    have u1 := HDG.out.rp.free 1
    have u2 := HDG.out.rp.free 2
    have u3 := HDG.out.rp.free 3
    have u4 := HDG.out.rp.free 4
    have u5 := HDG.out.rp.free 5
    have u6 := HDG.out.rp.free 6
    have u7 := HDG.out.rp.free 7
    go_wp2
    exact bodyPost_ret (ret_put rfl _ _ p Txn.zero (.slice none 0 0) rfl HDG.out.rp) rfl (decTx_bad HNN.out (HDG.out.end_ Txn.zero (.slice none 0 0)))
  have hq1 : (Y != c0 :: r0) = false := by rw [hq]; exact bne_self_eq_false _
  have hq2 : (Y == c0 :: r0) = true := by rw [hq]; exact beq_self_eq_true _
  have HNN := Lib.hid (show Txn.dec (c0 :: r0) = some xx from by rw [HDEC.out, if_pos ⟨trivial, HF.out, hq⟩])
  clear hq
  obtain ⟨x0, x1, x2, x3, x4, x5, x6, x7⟩ := HDG.out.rx.cells
  obtain ⟨p0, p1, p2, p3, p4, p5, p6, p7⟩ := HDG.out.rp.cells
  have u0 := HDG.out.rp.free 0
  have u1 := HDG.out.rp.free 1
  have u2 := HDG.out.rp.free 2
  have u3 := HDG.out.rp.free 3
  have u4 := HDG.out.rp.free 4
  have u5 := HDG.out.rp.free 5
  have u6 := HDG.out.rp.free 6
  have u7 := HDG.out.rp.free 7
  go_wp2
  exact bodyPost_ret (ret_put rfl _ _ p xx (.slice Az L.length capz) rfl HDG.out.rp) rfl (decTx_good HNN.out (HOG.out.only (putTx_only wg p xx (.slice Az L.length capz)) (typ_not HDG.out.rp (by decide))) (HDG.out.end_ xx (.slice Az L.length capz)))
theorem rDecodeTx_any (s : List UInt8) (w : World) (hl : s.length ≤ 1000000) : Calls Tryd.prog 13 #[.string ⟨s.toArray⟩] w (DecTx s w) := by
  match s, hl with
  | [], _ => exact rDecodeTx_nil w
  | c0 :: r0, hl =>
    have hl : r0.length ≤ 999999 := by simp at hl; omega
    by_cases k1 : ((c0.toNat : Nat) : Int) = 1
    · exact rDecodeTx_1 c0 r0 w hl k1
    by_cases k2 : ((c0.toNat : Nat) : Int) = 2
    · exact rDecodeTx_2 c0 r0 w hl k1 k2
    by_cases k3 : ((c0.toNat : Nat) : Int) = 3
    · exact rDecodeTx_3 c0 r0 w hl k1 k2 k3
    exact rDecodeTx_4 c0 r0 w hl k1 k2 k3
end Go.Proofs.YtddjkiejekfekaaDoor
namespace Go.Proofs.YtddjkiejekfekaaDoor
open Go.RowKit

def rowsL {α : Type} (f : α → List Value) (L : List α) : List Value := L.flatMap f
theorem rowsL_append {α : Type} (f : α → List Value) (S T : List α) : rowsL f (S ++ T) = rowsL f S ++ rowsL f T := by simp [rowsL]
theorem rowsL_at {α : Type} {f : α → List Value} {c : Nat} (hf : ∀ a, (f a).length = c) (S : List α) (i j : Nat) (hi : i < S.length) (hj : j < c) : (rowsL f S)[i * c + j]? = (f S[i])[j]? := by
  induction S generalizing i with
  | nil => simp at hi
  | cons a L ih =>
    have e : rowsL f (a :: L) = f a ++ rowsL f L := by simp [rowsL]
    rw [e]
    cases i with
    | zero =>
      rw [List.getElem?_append_left (by rw [hf]; omega)]
      simp
    | succ i =>
      rw [List.getElem?_append_right (by rw [hf, Nat.succ_mul]; omega)]
      have : (i + 1) * c + j - (f a).length = i * c + j := by rw [hf, Nat.succ_mul]; omega
      rw [this, ih i (by simpa using hi)]
      simp
/-- A slice that has the things S. -/
def RowsAt {α : Type} (ty : TypeId) (c : Nat) (f : α → List Value) (w : World) (v : Value) (S : List α) : Prop :=
  ∃ (A : Option Addr) (cap : Nat), v = .slice A S.length cap ∧ S.length ≤ cap ∧ (S = [] → A = none ∧ cap = 0 ∨ ∃ b o, A = some ⟨b, o, none⟩) ∧ (0 < S.length → ∃ b o, A = some ⟨b, o, none⟩ ∧ (∃ cs fl, w.heap[b]? = some (.cells cs ty fl)) ∧ ∀ i (h : i < S.length) j u, (f S[i])[j]? = some u → w.cell? ⟨b, o + i * c + j, none⟩ = some u)
theorem RowsAt.nil {α : Type} (ty : TypeId) (c : Nat) (f : α → List Value) (w : World) : RowsAt ty c f w (.slice none 0 0) [] := ⟨none, 0, rfl, Nat.le_refl _, fun _ => Or.inl ⟨rfl, rfl⟩, fun h => absurd h (by simp)⟩
theorem RowsAt.form {α : Type} {ty : TypeId} {c : Nat} {f : α → List Value} {w : World} {v : Value} {S : List α} (h : RowsAt ty c f w v S) : ∃ A cap, v = .slice A S.length cap ∧ S.length ≤ cap ∧ ((S = [] ∧ A = none ∧ cap = 0) ∨ ∃ b o, A = some ⟨b, o, none⟩) := by
  obtain ⟨A, cap, rfl, hc, h0, h1⟩ := h
  refine ⟨A, cap, rfl, hc, ?_⟩
  by_cases hs : S = []
  · exact (h0 hs).imp (fun h => ⟨hs, h⟩) id
  · obtain ⟨b, o, rfl, _⟩ := h1 (List.length_pos_iff.2 hs)
    exact Or.inr ⟨b, o, rfl⟩
theorem RowsAt.outF {α : Type} {ty : TypeId} {c : Nat} {f : α → List Value} {F : Nat → Prop} {w w' : World} {v : Value} {S : List α} (h : RowsAt ty c f w v S) (ho : Out F w w') (hF : ∀ k cs fl, F k → w.heap[k]? ≠ some (.cells cs ty fl)) : RowsAt ty c f w' v S := by
  obtain ⟨A, cap, rfl, hc, h0, h1⟩ := h
  refine ⟨A, cap, rfl, hc, h0, fun hp => ?_⟩
  obtain ⟨b, o, rfl, ⟨cs, fl, hh⟩, hcell⟩ := h1 hp
  have hb : ¬ F b := fun hf => hF b cs fl hf hh
  exact ⟨b, o, rfl, ⟨cs, fl, ho.heap hh hb⟩, fun i hi j u hu => ho.cell (hcell i hi j u hu) hb⟩
theorem RowsAt.below {α : Type} {ty : TypeId} {c : Nat} {f : α → List Value} {w w' : World} {v : Value} {S : List α} (h : RowsAt ty c f w v S) (hb : Below w.heap.size w w') : RowsAt ty c f w' v S := h.outF (F := fun _ => False) (Out.of hb) fun _ _ _ hf => hf.elim
theorem RowsAt.at {α : Type} {ty : TypeId} {c : Nat} {f : α → List Value} {w : World} {A : Option Addr} {n cap : Nat} {S : List α} (h : RowsAt ty c f w (.slice A n cap) S) (k : Nat) (hk : k < S.length) :
    ∃ b o, A = some ⟨b, o, none⟩ ∧ ∀ j u, (f S[k])[j]? = some u → w.cell? ⟨b, o + k * c + j, none⟩ = some u := by
  obtain ⟨A', cap', hv, _, _, h1⟩ := h
  obtain ⟨rfl, _⟩ : A = A' ∧ _ := by simpa using hv
  obtain ⟨b, o, rfl, _, hcell⟩ := h1 (by omega)
  exact ⟨b, o, rfl, hcell k hk⟩
theorem RowsAt.own {α : Type} {ty : TypeId} {c : Nat} {f : α → List Value} (hf : ∀ a, (f a).length = c) {w : World} {B : Nat} {v : Value} {S : List α} (h : w.ownsRow B ty c v S.length (rowsL f S)) : RowsAt ty c f w v S := by
  rcases h.2 with ⟨rfl, h0⟩ | ⟨g, cap, cur, rfl, hB, hh, hn, _⟩
  · obtain rfl : S = [] := List.eq_nil_of_length_eq_zero h0
    exact RowsAt.nil ty c f w
  · refine ⟨_, cap, rfl, hn, fun _ => Or.inr ⟨_, _, rfl⟩, fun h0 => ⟨g, 0, rfl, ⟨_, _, hh⟩, fun i hi j u hu => ?_⟩⟩
    have hj : j < c := by rw [← hf S[i]]; exact (List.getElem?_eq_some_iff.1 hu).1
    have := h.cells (g := g) rfl (i * c + j) u (by rw [rowsL_at hf S i j hi hj]; exact hu)
    rw [Addr.add_mid] at this; rw [Nat.zero_add]; simpa using this
theorem RowsAt.take {α : Type} {ty : TypeId} {c : Nat} {f : α → List Value} {w : World} {A : Option Addr} {n cap : Nat} {S : List α} (h : RowsAt ty c f w (.slice A n cap) S) (k : Nat) (hk : k ≤ S.length) : RowsAt ty c f w (.slice A k cap) (S.take k) := by
  obtain ⟨A', cap', hv, hcap, h0, h1⟩ := h
  obtain ⟨rfl, rfl, rfl⟩ : A = A' ∧ n = S.length ∧ cap = cap' := by simpa using hv
  have hl : (S.take k).length = k := by simp; omega
  refine ⟨A, cap, by rw [hl], by omega, fun _ => ?_, fun hp => ?_⟩
  · by_cases hs : S = []
    · exact h0 hs
    · obtain ⟨b, o, rfl, _⟩ := h1 (List.length_pos_iff.2 hs)
      exact Or.inr ⟨b, o, rfl⟩
  · obtain ⟨b, o, rfl, hlt, hcell⟩ := h1 (by omega)
    refine ⟨b, o, rfl, hlt, fun i hi j u hu => ?_⟩
    rw [hl] at hi
    exact hcell i (by omega) j u (by simpa using hu)
theorem RowsAt.drop {α : Type} {ty : TypeId} {c : Nat} {f : α → List Value} {w : World} {b o n cap : Nat} {S : List α} (h : RowsAt ty c f w (.slice (some ⟨b, o, none⟩) n cap) S) (k : Nat) (hk : k ≤ S.length) (b' o' : Nat) (hbo : k < S.length → b' = b ∧ o' = o + k * c) : RowsAt ty c f w (.slice (some ⟨b', o', none⟩) (n - k) (cap - k)) (S.drop k) := by
  obtain ⟨A', cap', hv, hcap, h0, h1⟩ := h
  obtain ⟨rfl, rfl, rfl⟩ : some ⟨b, o, none⟩ = A' ∧ n = S.length ∧ cap = cap' := by simpa using hv
  have hl : (S.drop k).length = S.length - k := by simp
  refine ⟨_, _, by rw [hl], by omega, fun _ => Or.inr ⟨_, _, rfl⟩, fun hp => ?_⟩
  rw [hl] at hp
  have hp1 : k < S.length := by omega
  have hp2 : 0 < S.length := by omega
  obtain ⟨rfl, rfl⟩ := hbo hp1
  obtain ⟨b2, o2, he, hlt, hcell⟩ := h1 hp2
  cases he
  refine ⟨_, _, rfl, hlt, fun i hi j u hu => ?_⟩
  have hki : k + i < S.length := by rw [hl] at hi; clear hcell hlt h1 h0; omega
  have := hcell (k + i) hki j u (by simpa using hu)
  rw [Nat.add_mul, ← Nat.add_assoc] at this
  exact this
/-- A slice that has the things S, in a block of any type. -/
def RowsIn {α : Type} (c : Nat) (f : α → List Value) (w : World) (v : Value) (S : List α) : Prop :=
  ∃ (A : Option Addr) (cap : Nat), v = .slice A S.length cap ∧ S.length ≤ cap ∧ (S = [] → A = none ∧ cap = 0 ∨ ∃ b o, A = some ⟨b, o, none⟩) ∧ (0 < S.length → ∃ b o, A = some ⟨b, o, none⟩ ∧ b < w.heap.size ∧ ∀ i (h : i < S.length) j u, (f S[i])[j]? = some u → w.cell? ⟨b, o + i * c + j, none⟩ = some u)
theorem RowsIn.form {α : Type} {c : Nat} {f : α → List Value} {w : World} {v : Value} {S : List α} (h : RowsIn c f w v S) : ∃ A cap, v = .slice A S.length cap ∧ S.length ≤ cap ∧ ((S = [] ∧ A = none ∧ cap = 0) ∨ ∃ b o, A = some ⟨b, o, none⟩) := by
  obtain ⟨A, cap, rfl, hc, h0, h1⟩ := h
  refine ⟨A, cap, rfl, hc, ?_⟩
  by_cases hs : S = []
  · exact (h0 hs).imp (fun h => ⟨hs, h⟩) id
  · obtain ⟨b, o, rfl, _⟩ := h1 (List.length_pos_iff.2 hs)
    exact Or.inr ⟨b, o, rfl⟩
theorem RowsIn.below {α : Type} {c : Nat} {f : α → List Value} {w w' : World} {v : Value} {S : List α} (h : RowsIn c f w v S) (hb : Below w.heap.size w w') : RowsIn c f w' v S := by
  obtain ⟨A, cap, rfl, hc, h0, h1⟩ := h
  refine ⟨A, cap, rfl, hc, h0, fun hp => ?_⟩
  obtain ⟨b, o, rfl, hlt, hcell⟩ := h1 hp
  exact ⟨b, o, rfl, Nat.lt_of_lt_of_le hlt hb.size, fun i hi j u hu => (hb.cell hlt).trans (hcell i hi j u hu)⟩
theorem RowsIn.at {α : Type} {c : Nat} {f : α → List Value} {w : World} {A : Option Addr} {n cap : Nat} {S : List α} (h : RowsIn c f w (.slice A n cap) S) (k : Nat) (hk : k < S.length) :
    ∃ b o, A = some ⟨b, o, none⟩ ∧ ∀ j u, (f S[k])[j]? = some u → w.cell? ⟨b, o + k * c + j, none⟩ = some u := by
  obtain ⟨A', cap', hv, _, _, h1⟩ := h
  obtain ⟨rfl, _⟩ : A = A' ∧ _ := by simpa using hv
  obtain ⟨b, o, rfl, _, hcell⟩ := h1 (by omega)
  exact ⟨b, o, rfl, hcell k hk⟩
end Go.Proofs.YtddjkiejekfekaaDoor
