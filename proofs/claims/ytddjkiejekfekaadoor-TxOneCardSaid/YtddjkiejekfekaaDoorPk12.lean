/- TxDec -/
import Derived.Test.YtddjkiejekfekaaDoorPk11
import Derived.Test.YtddjkiejekfekaaDoorPk06
namespace Go.Proofs.YtddjkiejekfekaaDoor
open Go.RowKit
open Go.Proofs.YtddjkiejekfekaaDoor.Pw (M)
open Go.Proofs.YtddjkiejekfekaaDoor.Txn (X)

/-- What the region keeps that makes the transaction of its first fields. -/
def DkB (w0 w : World) (p : Nat) : Prop := Below w0.heap.size w0 w ∧ TxAt w p Txn.zero (.slice none 0 0)
theorem DkB.only {w0 w w' : World} {p k : Nat} (h : DkB w0 w p) (ho : Only k w w') (hk : w0.heap.size ≤ k) (hne : p ≠ k) : DkB w0 w' p := ⟨h.1.trans (ho.below hk h.1.size), (ho.block p (lt_of_heap h.2) hne).trans h.2⟩
theorem DkB.below {w0 w w' : World} {p : Nat} (h : DkB w0 w p) (hb : Below w.heap.size w w') : DkB w0 w' p := ⟨bchain h.1 hb, h.2.below hb⟩
def DkR (g : Nat) (r0 : List UInt8) (st1 st2 : Pw.St) (w : World) (a b : Option Bool) : Prop := (a ≠ some true → b ≠ some true ∧ Rd w g r0 0) ∧ (a = some true → b ≠ some true → Rd w g st1.1 st1.2) ∧ (b = some true → Rd w g st2.1 st2.2)
theorem DkR.below {g : Nat} {r0 : List UInt8} {st1 st2 : Pw.St} {w w' : World} {a b : Option Bool} (h : DkR g r0 st1 st2 w a b) (hb : Below w.heap.size w w') : DkR g r0 st1 st2 w' a b :=
  ⟨fun h1 => ⟨(h.1 h1).1, (h.1 h1).2.below hb⟩, fun h1 h2 => (h.2.1 h1 h2).below hb, fun h1 => (h.2.2 h1).below hb⟩
theorem Rd.only_ {g k : Nat} {w w' : World} {s : List UInt8} {c : Int} (h : Rd w g s c) (ho : Only k w w') (hne : g ≠ k) : Rd w' g s c := (ho.block g h.lt hne).trans h
theorem DkR.only {g k : Nat} {r0 : List UInt8} {st1 st2 : Pw.St} {w w' : World} {a b : Option Bool} (h : DkR g r0 st1 st2 w a b) (ho : Only k w w') (hne : g ≠ k) : DkR g r0 st1 st2 w' a b :=
  ⟨fun h1 => ⟨(h.1 h1).1, (h.1 h1).2.only_ ho hne⟩, fun h1 h2 => (h.2.1 h1 h2).only_ ho hne, fun h1 => (h.2.2 h1).only_ ho hne⟩
def DkQ (w0 : World) (p g : Nat) (x : X) (w : World) (b d : Option Bool) (v : Value) : Prop := b = some true → ∃ q, v = .pointer (some ⟨q, 0, none⟩) ∧ p ≠ q ∧ g ≠ q ∧ w0.heap.size ≤ q ∧ (d ≠ some true → TxAt w q Txn.zero (.slice none 0 0)) ∧ (d = some true → TxAt w q x (.slice none 0 0))
theorem DkQ.only {w0 : World} {p g : Nat} {x : X} {w w' : World} {b d : Option Bool} {v : Value} (h : DkQ w0 p g x w b d v) (ho : Only g w w') : DkQ w0 p g x w' b d v := fun h1 => by
  obtain ⟨q, e, h2, h3, h4, h5, h6⟩ := h h1
  exact ⟨q, e, h2, h3, h4, fun hd => (ho.block q (lt_of_heap (h5 hd)) (fun e => h3 e.symm)).trans (h5 hd), fun hd => (ho.block q (lt_of_heap (h6 hd)) (fun e => h3 e.symm)).trans (h6 hd)⟩
set_option maxRecDepth 100000 in
set_option maxHeartbeats 4000000 in
theorem xDecodeTx_nil (w : World) : Calls Tryd.prog 12 #[.string ⟨#[]⟩] w (DecTx [] w) := by
  have hb0 : Below w.heap.size w (w.alloc (.cells #[.int .i64 0, .string ⟨#[]⟩, .int .i64 0, .string ⟨#[]⟩, .int .i64 0, .string ⟨#[]⟩, .string ⟨#[]⟩, .slice none 0 0] 24)) := (Below.refl _ w).alloc (Nat.le_refl _) _
  have hP : TxAt (w.alloc (.cells #[.int .i64 0, .string ⟨#[]⟩, .int .i64 0, .string ⟨#[]⟩, .int .i64 0, .string ⟨#[]⟩, .string ⟨#[]⟩, .slice none 0 0] 24)) w.heap.size Txn.zero (.slice none 0 0) := heap_alloc_new w _
  obtain ⟨w1, hw1⟩ : ∃ w1, w.alloc (.cells #[.int .i64 0, .string ⟨#[]⟩, .int .i64 0, .string ⟨#[]⟩, .int .i64 0, .string ⟨#[]⟩, .string ⟨#[]⟩, .slice none 0 0] 24) = w1 := ⟨_, rfl⟩
  rw [hw1] at hb0 hP
  have HP := Lib.hid hP
  have HB := Lib.hid hb0
  have HR := Lib.hid (read_any [] w1)
  have HBY := Lib.hid (fun g w' h => bytes_any 1 [] g w' h (by simp))
  rw [show Code.bytesR 1 [] = ([], [], 20) from rfl] at HBY
  dsimp only at HBY
  obtain ⟨p, hp⟩ : ∃ p, w.heap.size = p := ⟨_, rfl⟩
  rw [hp] at HP
  have HLP := Lib.hid (Nat.le_of_eq hp)
  clear hb0 hP
  go_enter Tryd.func12, Tryd.ntmps12
  go_upto_region 1 with fail
  try rw [hw1]
  try rw [hp]
  clear hw1 hp
  go_wp2_with fail
  refine HR.out.mono ?_
  rintro e w2 ⟨rfl, hr, hb2⟩
  have HP2 := Lib.hid (HP.out.below hb2)
  have HB2 := Lib.hid (bchain HB.out hb2)
  have HG : Hid (w.heap.size ≤ w1.heap.size) := Lib.hid HB.out.size
  have HPG : Hid (p ≠ w1.heap.size) := Lib.hid (Nat.ne_of_lt (lt_of_heap HP.out))
  obtain ⟨g, hg⟩ : ∃ g, w1.heap.size = g := ⟨_, rfl⟩
  rw [hg] at hr HG HPG
  try rw [hg]
  have HR2 := Lib.hid hr
  clear hr hb2 hg
  go_wp2_with fail
  refine (HBY.out g w2 HR2.out).mono ?_
  rintro e wf ⟨rfl, hr, ho⟩
  have HPF := Lib.hid (show TxAt wf p Txn.zero (.slice none 0 0) from (ho.block p (lt_of_heap HP2.out) HPG.out).trans HP2.out)
  have HBF := Lib.hid (HB2.out.trans (ho.below HG.out HB2.out.size))
  clear hr ho
  obtain ⟨p0, p1, p2, p3, p4, p5, p6, p7⟩ := HPF.out.cells
  have u0 := HPF.out.free 0
  have u1 := HPF.out.free 1
  have u2 := HPF.out.free 2
  have u3 := HPF.out.free 3
  have u4 := HPF.out.free 4
  have u5 := HPF.out.free 5
  have u6 := HPF.out.free 6
  have u7 := HPF.out.free 7
  go_wp2
  exact bodyPost_ret (ret_put rfl _ wf p Txn.zero (.slice none 0 0) rfl HPF.out) rfl (decTx_bad rfl (HBF.out.trans ((putTx_only wf p Txn.zero (.slice none 0 0)).below HLP.out HBF.out.size)))
set_option maxRecDepth 100000 in
set_option maxHeartbeats 8000000 in
theorem xDecodeTx_1 (c0 : UInt8) (r0 : List UInt8) (w : World) (hl : r0.length ≤ 999999) (k1 : ((c0.toNat : Nat) : Int) = 1) :
    Calls Tryd.prog 12 #[.string ⟨(c0 :: r0).toArray⟩] w (DecTx (c0 :: r0) w) := by
  have hb0 : Below w.heap.size w (w.alloc (.cells #[.int .i64 0, .string ⟨#[]⟩, .int .i64 0, .string ⟨#[]⟩, .int .i64 0, .string ⟨#[]⟩, .string ⟨#[]⟩, .slice none 0 0] 24)) := (Below.refl _ w).alloc (Nat.le_refl _) _
  have hP : TxAt (w.alloc (.cells #[.int .i64 0, .string ⟨#[]⟩, .int .i64 0, .string ⟨#[]⟩, .int .i64 0, .string ⟨#[]⟩, .string ⟨#[]⟩, .slice none 0 0] 24)) w.heap.size Txn.zero (.slice none 0 0) := heap_alloc_new w _
  obtain ⟨w1, hw1⟩ : ∃ w1, w.alloc (.cells #[.int .i64 0, .string ⟨#[]⟩, .int .i64 0, .string ⟨#[]⟩, .int .i64 0, .string ⟨#[]⟩, .string ⟨#[]⟩, .slice none 0 0] 24) = w1 := ⟨_, rfl⟩
  rw [hw1] at hb0 hP
  have HP := Lib.hid hP
  have HB := Lib.hid hb0
  have HR := Lib.hid (read_any (c0 :: r0) w1)
  have HL := Lib.hid hl
  have HBY := Lib.hid (fun g w' h => bytes_any 1 (c0 :: r0) g w' h (by have := HL.out; simp; omega))
  rw [show Code.bytesR 1 (c0 :: r0) = ([c0], r0, 0) from by unfold Code.bytesR; rw [if_neg (by decide), if_neg (by simp)]; rfl] at HBY
  dsimp only at HBY
  have hix : ∀ h, (⟨[c0].toArray⟩ : ByteArray)[0]'h = c0 := fun _ => rfl
  have hcb := c0.toNat_lt
  have hw64 : wrap64 ((c0.toNat : Nat) : Int) = (c0.toNat : Int) := by unfold wrap64; omega
  have hwk : IntKind.i64.wrap ((c0.toNat : Nat) : Int) = (c0.toNat : Int) := by unfold IntKind.wrap; simp [IntKind.bits, IntKind.signed]; omega
  have HDEC := Lib.hid (Txn.decC c0 r0)
  have HRX : Hid (Txn.readC c0 r0 = Txn.readK (c0.toNat : Nat) (Tm.rdT 6 (r0, 0)).1 ((Pw.rdN (Tm.rdT 6 (r0, 0)).2).1 : Nat) (Pw.rdN (Tm.rdT 6 (r0, 0)).2).2) := Lib.hid rfl
  have HT1 := Lib.hid (fun g w' h => xtext_st 6 (r0, 0) g w' h (by dsimp only; have := HL.out; omega))
  have HL1 := Lib.hid (Tm.rdT_le 6 (r0, 0))
  obtain ⟨⟨f, st1⟩, h1⟩ : ∃ p, Tm.rdT 6 (r0, 0) = p := ⟨_, rfl⟩
  rw [h1] at HRX HT1 HL1
  dsimp only at HRX HT1 HL1
  have HT2 := Lib.hid (fun g w' h => rnum_st st1 g w' h (by have := HL.out; have := HL1.out; omega))
  have HL2 := Lib.hid (Pw.rdN_le st1)
  obtain ⟨⟨n, st2⟩, h2⟩ : ∃ p, Pw.rdN st1 = p := ⟨_, rfl⟩
  rw [h2] at HRX HT2 HL2
  dsimp only at HRX HT2 HL2
  have HLE : Hid (st2.1.length ≤ 1000000) := Lib.hid (by have := HL.out; have := HL1.out; have := HL2.out; omega)
  obtain ⟨k, hk⟩ : ∃ k : Int, ((c0.toNat : Nat) : Int) = k := ⟨_, rfl⟩
  rw [hk] at hw64 hwk HRX
  rw [hk] at k1
  have K1 := Lib.hid k1
  clear k1
  obtain ⟨p, hp⟩ : ∃ p, w.heap.size = p := ⟨_, rfl⟩
  rw [hp] at HP
  have HLP := Lib.hid (Nat.le_of_eq hp)
  clear h1 h2 hl hcb hb0 hP
  go_enter Tryd.func12, Tryd.ntmps12
  go_upto_region 1 with fail
  try rw [hw1]
  try rw [hp]
  clear hw1 hp
  go_wp2_with fail
  refine HR.out.mono ?_
  rintro e w2 ⟨rfl, hr, hb2⟩
  have HP2 := Lib.hid (HP.out.below hb2)
  have HB2 := Lib.hid (bchain HB.out hb2)
  have HG : Hid (w.heap.size ≤ w1.heap.size) := Lib.hid HB.out.size
  have HPG : Hid (p ≠ w1.heap.size) := Lib.hid (Nat.ne_of_lt (lt_of_heap HP.out))
  obtain ⟨g, hg⟩ : ∃ g, w1.heap.size = g := ⟨_, rfl⟩
  rw [hg] at hr HG HPG
  try rw [hg]
  have HR2 := Lib.hid hr
  clear hr hb2 hg
  have HT1 := Lib.hid (HT1.out g)
  have HT2 := Lib.hid (HT2.out g)
  go_wp2_with fail
  refine (HBY.out g w2 HR2.out).mono ?_
  rintro e w3 ⟨rfl, hr, ho⟩
  have HP3 := Lib.hid (show TxAt w3 p Txn.zero (.slice none 0 0) from (ho.block p (lt_of_heap HP2.out) HPG.out).trans HP2.out)
  have HB3 := Lib.hid (HB2.out.trans (ho.below HG.out HB2.out.size))
  have HR3 := Lib.hid hr
  clear hr ho HBY HR HR2 HB2 HP2 HB HP
  go_upto_region 5 with fail
  have HGLT := Lib.hid HR3.out.lt
  refine region_inv (fun Lq aq w' => ∃ v14 v15 v16 v17 v18 v19 v20 v21 v6 : Value, aq = ⟨#[Value.string { data := (c0 :: r0).toArray }, undef, Value.pointer (some { block := p, off := 0 }), Value.int IntKind.i64 0, Value.pointer (some { block := g, off := 0 }), Value.string { data := [c0].toArray }, v6, Value.string { data := (c0 :: r0).toArray }, Value.pointer (some { block := g, off := 0 }), Value.pointer (some { block := g, off := 0 }), Value.string { data := [c0].toArray }, Value.string { data := [c0].toArray }, Value.bool false, undef, v14, v15, v16, v17, v18, v19, v20, v21, undef, undef, undef, undef, undef, undef, undef, undef, undef, undef, undef, undef, undef, undef, undef, undef, undef, undef, undef, undef, undef, undef, undef, undef, undef, undef, undef, undef, undef, undef, undef, undef, undef, undef, undef, undef, undef, undef, undef, undef, undef, undef], []⟩ ∧ DkB w w' p ∧ DkR g r0 st1 st2 w' Lq[4]? Lq[6]? ∧ g < w'.heap.size ∧ (Lq[0]? = some true → v14 = .string ⟨[c0].toArray⟩) ∧ (Lq[1]? = some true → v15 = .int .u8 k) ∧ (Lq[2]? = some true → v16 = .int .i64 k) ∧ (Lq[3]? = some true → v17 = .pointer (some ⟨g, 0, none⟩)) ∧ (Lq[4]? = some true → v18 = .string ⟨f.toArray⟩) ∧ (Lq[5]? = some true → v19 = .pointer (some ⟨g, 0, none⟩)) ∧ (Lq[6]? = some true → v20 = .int .i64 (n : Int)) ∧ (Lq[7]? = some true → v21 = .agg #[.int .i64 k, .string ⟨f.toArray⟩, .int .i64 (n : Int), .string ⟨#[]⟩, .int .i64 0, .string ⟨#[]⟩, .string ⟨#[]⟩, .slice none 0 0]) ∧ DkQ w p g ⟨k, f, (n : Int), [], 0, [], [], []⟩ w' Lq[8]? Lq[9]? v6 ∧ (Lq[9]? = some true → Lq[8]? = some true)) (by rfl) ?_ ?_ ?_
  · exact ⟨_, _, _, _, _, _, _, _, _, rfl, ⟨HB3.out.drew, HP3.out⟩, ⟨fun _ => ⟨by simp, HR3.out⟩, fun h => by simp at h, fun h => by simp at h⟩, HGLT.out, (fun h => by simp at h), (fun h => by simp at h), (fun h => by simp at h), (fun h => by simp at h), (fun h => by simp at h), (fun h => by simp at h), (fun h => by simp at h), (fun h => by simp at h), (fun h => by simp at h), (fun h => by simp at h)⟩
  · intro Lq aq w1r hL hI j o ho hj K hK
    obtain ⟨v14, v15, v16, v17, v18, v19, v20, v21, v6, rfl, hB, x0, x1, h0, h1, h2, h3, h4, h5, h6, h7, h8, h9⟩ := hI
    obtain ⟨b0, b1, b2, b3, b4, b5, b6, b7, b8, b9, rfl⟩ : ∃ b0 b1 b2 b3 b4 b5 b6 b7 b8 b9, Lq = [b0, b1, b2, b3, b4, b5, b6, b7, b8, b9] := by
      match Lq, hL with
      | [b0, b1, b2, b3, b4, b5, b6, b7, b8, b9], _ => exact ⟨b0, b1, b2, b3, b4, b5, b6, b7, b8, b9, rfl⟩
    have hi2 := (List.mem_filter.1 hj).2
    clear hj hL
    rcases j with _ | _ | _ | _ | _ | _ | _ | _ | _ | _ | j
    · obtain rfl := Option.some.inj ho
      clear ho
      rw [if_pos (by rfl)]
      go_simp
      exact hK _ _ ⟨_, v15, v16, v17, v18, v19, v20, v21, v6, rfl, hB, x0, x1, (fun _ => rfl), h1, h2, h3, h4, h5, h6, h7, h8, h9⟩
    · obtain rfl := Option.some.inj ho
      simp [Region.binds] at hi2
      obtain rfl := h0 (by simp [hi2])
      clear ho hi2
      rw [if_pos (by rfl)]
      go_simp
      exact hK _ _ ⟨_, _, v16, v17, v18, v19, v20, v21, v6, rfl, hB, x0, x1, (fun _ => rfl), (fun _ => rfl), h2, h3, h4, h5, h6, h7, h8, h9⟩
    · obtain rfl := Option.some.inj ho
      simp [Region.binds] at hi2
      obtain rfl := h1 (by simp [hi2])
      clear ho hi2
      rw [if_pos (by rfl)]
      go_simp
      exact hK _ _ ⟨v14, _, _, v17, v18, v19, v20, v21, v6, rfl, hB, x0, x1, h0, (fun _ => rfl), (fun _ => rfl), h3, h4, h5, h6, h7, h8, h9⟩
    · obtain rfl := Option.some.inj ho
      clear ho
      rw [if_pos (by rfl)]
      go_simp
      exact hK _ _ ⟨v14, v15, v16, _, v18, v19, v20, v21, v6, rfl, hB, x0, x1, h0, h1, h2, (fun _ => rfl), h4, h5, h6, h7, h8, h9⟩
    · obtain rfl := Option.some.inj ho
      simp [Region.binds] at hi2
      obtain rfl := h3 (by simp [hi2])
      clear ho
      rw [if_pos (by rfl)]
      go_simp
      obtain ⟨hn6, hrd⟩ := x0.1 (by simp [hi2])
      refine (HT1.out _ hrd).mono ?_
      rintro r w2 ⟨rfl, hr, ho⟩
      have hB2 := hB.only ho HG.out HPG.out
      exact hK _ _ ⟨v14, v15, v16, _, _, v19, v20, v21, v6, rfl, hB2, ⟨fun h => absurd rfl h, fun _ _ => hr, fun h => absurd h hn6⟩, (Nat.lt_of_lt_of_le x1 ho.size), h0, h1, h2, (fun _ => rfl), (fun _ => rfl), h5, h6, h7, (h8.only ho), h9⟩
    · obtain rfl := Option.some.inj ho
      clear ho
      rw [if_pos (by rfl)]
      go_simp
      exact hK _ _ ⟨v14, v15, v16, v17, v18, _, v20, v21, v6, rfl, hB, x0, x1, h0, h1, h2, h3, h4, (fun _ => rfl), h6, h7, h8, h9⟩
    · obtain rfl := Option.some.inj ho
      simp [Region.binds] at hi2
      obtain rfl := h5 (by simp [hi2])
      obtain rfl := h4 (by simp [hi2])
      clear ho
      rw [if_pos (by rfl)]
      go_simp
      have hrd := x0.2.1 (by simp [hi2]) (by simp [hi2])
      refine (HT2.out _ hrd).mono ?_
      rintro r w2 ⟨rfl, hr, ho⟩
      have hB2 := hB.only ho HG.out HPG.out
      exact hK _ _ ⟨v14, v15, v16, v17, _, _, _, v21, v6, rfl, hB2, ⟨fun h => absurd (by simp [hi2]) h, fun _ h => absurd rfl h, fun _ => hr⟩, (Nat.lt_of_lt_of_le x1 ho.size), h0, h1, h2, h3, (fun _ => rfl), (fun _ => rfl), (fun _ => rfl), h7, (h8.only ho), h9⟩
    · obtain rfl := Option.some.inj ho
      simp [Region.binds] at hi2
      obtain rfl := h2 (by simp [hi2])
      obtain rfl := h4 (by simp [hi2])
      obtain rfl := h6 (by simp [hi2])
      clear ho hi2
      rw [if_pos (by rfl)]
      go_simp
      exact hK _ _ ⟨v14, v15, _, v17, _, v19, _, _, v6, rfl, hB, x0, x1, h0, h1, (fun _ => rfl), h3, (fun _ => rfl), h5, (fun _ => rfl), (fun _ => rfl), h8, h9⟩
    · obtain rfl := Option.some.inj ho
      simp [Region.binds] at hi2
      clear ho
      rw [if_pos (by rfl)]
      go_simp
      have hbn : Below w1r.heap.size w1r (w1r.alloc (.cells #[.int .i64 0, .string ⟨#[]⟩, .int .i64 0, .string ⟨#[]⟩, .int .i64 0, .string ⟨#[]⟩, .string ⟨#[]⟩, .slice none 0 0] 24)) := (Below.refl _ w1r).alloc (Nat.le_refl _) _
      have hB2 := hB.below hbn
      have hgl := x1
      exact hK _ _ ⟨v14, v15, v16, v17, v18, v19, v20, v21, _, rfl, hB2, (x0.below hbn), (Nat.lt_of_lt_of_le x1 hbn.size), h0, h1, h2, h3, h4, h5, h6, h7, (fun _ => ⟨_, rfl, Nat.ne_of_lt (lt_of_heap hB.2), Nat.ne_of_lt hgl, hB.1.size, fun _ => heap_alloc_new w1r _, fun h => absurd (h9 h) (by simp [hi2])⟩), (fun _ => rfl)⟩
    · obtain rfl := Option.some.inj ho
      simp [Region.binds] at hi2
      obtain rfl := h0 (by simp [hi2])
      obtain rfl := h1 (by simp [hi2])
      obtain rfl := h2 (by simp [hi2])
      obtain rfl := h3 (by simp [hi2])
      obtain rfl := h4 (by simp [hi2])
      obtain rfl := h5 (by simp [hi2])
      obtain rfl := h6 (by simp [hi2])
      obtain rfl := h7 (by simp [hi2])
      obtain ⟨q, rfl, hpq, hgq, hBq, hz, -⟩ := h8 (by simp [hi2])
      have hz := hz (by simp [hi2])
      obtain ⟨z0, z1, z2, z3, z4, z5, z6, z7⟩ := hz.cells
      have y0 := hz.free 0
      have y1 := hz.free 1
      have y2 := hz.free 2
      have y3 := hz.free 3
      have y4 := hz.free 4
      have y5 := hz.free 5
      have y6 := hz.free 6
      have y7 := hz.free 7
      have hB2 := hB.only (putTx_only w1r q ⟨k, f, (n : Int), [], 0, [], [], []⟩ (.slice none 0 0)) hBq hpq
      clear ho
      rw [if_pos (by rfl)]
      go_simp
      exact hK _ _ ⟨_, _, _, _, _, _, _, _, _, rfl, hB2, (x0.only (putTx_only w1r q ⟨k, f, (n : Int), [], 0, [], [], []⟩ (.slice none 0 0)) hgq), (Nat.lt_of_lt_of_le x1 (putTx_only w1r q ⟨k, f, (n : Int), [], 0, [], [], []⟩ (.slice none 0 0)).size), (fun _ => rfl), (fun _ => rfl), (fun _ => rfl), (fun _ => rfl), (fun _ => rfl), (fun _ => rfl), (fun _ => rfl), (fun _ => rfl), (show DkQ w p g ⟨k, f, (n : Int), [], 0, [], [], []⟩ (putTx w1r q ⟨k, f, (n : Int), [], 0, [], [], []⟩ (.slice none 0 0)) _ _ (.pointer (some ⟨q, 0, none⟩)) from fun _ => ⟨q, rfl, hpq, hgq, hBq, fun h => absurd rfl h, fun _ => hz.put ⟨k, f, (n : Int), [], 0, [], [], []⟩ (.slice none 0 0)⟩), (fun _ => by simp [hi2])⟩
    · simp at ho
  · intro Lq aq w2 hL hr hI
    obtain ⟨v14, v15, v16, v17, v18, v19, v20, v21, v6, rfl, hB, x0, x1, h0, h1, h2, h3, h4, h5, h6, h7, h8, h9⟩ := hI
    obtain ⟨b0, b1, b2, b3, b4, b5, b6, b7, b8, b9, rfl⟩ : ∃ b0 b1 b2 b3 b4 b5 b6 b7 b8 b9, Lq = [b0, b1, b2, b3, b4, b5, b6, b7, b8, b9] := by
      match Lq, hL with
      | [b0, b1, b2, b3, b4, b5, b6, b7, b8, b9], _ => exact ⟨b0, b1, b2, b3, b4, b5, b6, b7, b8, b9, rfl⟩
    have hr2 := List.filter_eq_nil_iff.1 hr
    clear hr hL
    have k0 := hr2 0 (by simp)
    have k1 := hr2 1 (by simp)
    have k2 := hr2 2 (by simp)
    have k3 := hr2 3 (by simp)
    have k4 := hr2 4 (by simp)
    have k5 := hr2 5 (by simp)
    have k6 := hr2 6 (by simp)
    have k7 := hr2 7 (by simp)
    have k8 := hr2 8 (by simp)
    have k9 := hr2 9 (by simp)
    clear hr2
    simp [Region.binds] at k0
    subst k0
    simp [Region.binds] at k1
    subst k1
    simp [Region.binds] at k2
    subst k2
    simp [Region.binds] at k3
    subst k3
    simp [Region.binds] at k4
    subst k4
    simp [Region.binds] at k5
    subst k5
    simp [Region.binds] at k6
    subst k6
    simp [Region.binds] at k7
    subst k7
    simp [Region.binds] at k8
    subst k8
    simp [Region.binds] at k9
    subst k9
    obtain rfl := h0 rfl
    obtain rfl := h1 rfl
    obtain rfl := h2 rfl
    obtain rfl := h3 rfl
    obtain rfl := h4 rfl
    obtain rfl := h5 rfl
    obtain rfl := h6 rfl
    obtain rfl := h7 rfl
    obtain ⟨q, rfl, hpq, hgq, hBq, -, hx⟩ := h8 rfl
    have hx := hx rfl
    have hrd := x0.2.2 rfl
    have HD7 : Hid (TxD 72 w w2 p g q ⟨k, f, (n : Int), [], 0, [], [], []⟩ (.slice none 0 0) st2) := Lib.hid ⟨hB.2, hrd, hx, hB.1, HLP.out, HPG.out, hpq, hgq, HG.out, hBq⟩
    clear h8 h9 hx hrd hB x0 x1 HP3 HB3 HR3 HT1 HT2 hpq hgq hBq hix hw64 hwk
    have r1 : (k == 1) = true := beq_iff_eq.2 K1.out
    have HRX1 := HRX.out
    unfold Txn.readK at HRX1
    rw [if_pos K1.out] at HRX1
    have b7 := HD7.out.rx.cells.1
    dsimp only at b7
    have HT3 := Lib.hid (fun w' h => xtext_st 6 st2 g w' h (by have := HLE.out; omega))
    have HL_st3 := Lib.hid (Tm.rdT_le 6 st2)
    obtain ⟨⟨d, st3⟩, h_st3⟩ : ∃ p, Tm.rdT 6 st2 = p := ⟨_, rfl⟩
    rw [h_st3] at HRX1 HT3 HL_st3
    dsimp only at HRX1 HT3 HL_st3
    clear h_st3
    have HT4 := Lib.hid (fun w' h => rnum_st st3 g w' h (by have := HLE.out; have := HL_st3.out; omega))
    have HL_st4 := Lib.hid (Pw.rdN_le st3)
    obtain ⟨⟨a, st4⟩, h_st4⟩ : ∃ p, Pw.rdN st3 = p := ⟨_, rfl⟩
    rw [h_st4] at HRX1 HT4 HL_st4
    dsimp only at HRX1 HT4 HL_st4
    clear h_st4
    rw [HRX1] at HDEC
    dsimp only at HDEC
    clear HRX1 HRX
    go_wp2_with fail
    refine (HT3.out _ HD7.out.rg).mono ?_
    rintro e w8 ⟨rfl, hr, ho⟩
    have HD8 := Lib.hid (HD7.out.read st3 hr ho)
    clear hr ho
    go_wp2_with fail
    refine (HT4.out _ HD8.out.rg).mono ?_
    rintro e w9 ⟨rfl, hr, ho⟩
    have HD9 := Lib.hid (HD8.out.read st4 hr ho)
    clear hr ho
    have b9 := HD9.out.rx.cells.2.2.2.1
    have v9 := HD9.out.rx.free 3
    have HD10 := Lib.hid (HD9.out.set (HD9.out.rx.setDst d))
    obtain ⟨w10, hw10⟩ : ∃ w', w9.setCell ⟨q, 3, none⟩ (.string ⟨d.toArray⟩) = w' := ⟨_, rfl⟩
    rw [hw10] at HD10
    have b10 := HD10.out.rx.cells.2.2.2.2.1
    have v10 := HD10.out.rx.free 4
    have HD11 := Lib.hid (HD10.out.set (HD10.out.rx.setAmt (a : Int)))
    obtain ⟨w11, hw11⟩ : ∃ w', w10.setCell ⟨q, 4, none⟩ (.int .i64 (a : Int)) = w' := ⟨_, rfl⟩
    rw [hw11] at HD11
    have HOW : Hid (OwnM w11 w.heap.size (.slice none 0 0) (⟨k, f, (n : Int), d, (a : Int), [], [], []⟩ : X).mem) := Lib.hid (OwnM.nil _ _)
    have HDX : Hid (TxD 72 w w11 p g q (⟨k, f, (n : Int), d, (a : Int), [], [], []⟩ : X) (.slice none 0 0) st4) := HD11
    obtain ⟨xx, hX⟩ : ∃ xx, (⟨k, f, (n : Int), d, (a : Int), [], [], []⟩ : X) = xx := ⟨_, rfl⟩
    rw [hX] at HDEC HDX HOW
    clear hX
    have HE := Lib.hid (rend_st st4 g w11 HDX.out.rg)
    obtain ⟨E, hE⟩ : ∃ E, Pw.endC st4 = E := ⟨_, rfl⟩
    rw [hE] at HE HDEC
    clear hE
    by_cases hE : E = 0
    case neg =>
      have hE2 : (E != 0) = true := by rw [bne_iff_ne]; exact hE
      have HEN := Lib.hid hE
      clear hE
      go_wp2_with fail
      refine HE.out.mono ?_
      rintro e wf ⟨rfl, ho⟩
      have HPF := Lib.hid ((ho.block p (lt_of_heap HDX.out.rp) HDX.out.pg).trans HDX.out.rp)
      have HBF := Lib.hid (HDX.out.only ho HDX.out.lg)
      have HLP := Lib.hid HDX.out.hp
      clear ho
      have HNN := Lib.hid (show Txn.dec (c0 :: r0) = none from by rw [HDEC.out, if_neg (fun h => HEN.out h.1)])
      have HPF := Lib.hid (show TxAt wf p Txn.zero (.slice none 0 0) from HPF.out)
      obtain ⟨p0, p1, p2, p3, p4, p5, p6, p7⟩ := HPF.out.cells
      have u0 := HPF.out.free 0
      have u1 := HPF.out.free 1
      have u2 := HPF.out.free 2
      have u3 := HPF.out.free 3
      have u4 := HPF.out.free 4
      have u5 := HPF.out.free 5
      have u6 := HPF.out.free 6
      have u7 := HPF.out.free 7
      go_wp2
      exact bodyPost_ret (ret_put rfl _ wf p Txn.zero (.slice none 0 0) rfl HPF.out) rfl (decTx_bad HNN.out (HBF.out.trans ((putTx_only wf p Txn.zero (.slice none 0 0)).below HLP.out HBF.out.size)))
    subst hE
    have HCK := Lib.hid (fun w' h => xcheck_any xx (.slice none 0 0) w' h)
    unfold xval at HCK
    go_wp2_with fail
    refine HE.out.mono ?_
    rintro e wf ⟨rfl, ho⟩
    have HPF := Lib.hid (show TxAt wf p Txn.zero (.slice none 0 0) from (ho.block p (lt_of_heap HDX.out.rp) HDX.out.pg).trans HDX.out.rp)
    have HXF := Lib.hid (show TxAt wf q xx (.slice none 0 0) from (ho.block q (lt_of_heap HDX.out.rx) (fun e => HDX.out.gq e.symm)).trans HDX.out.rx)
    have HBF := Lib.hid (HDX.out.only ho HDX.out.lg)
    have HLP := Lib.hid HDX.out.hp
    have HOF := Lib.hid (HOW.out.only ho (typ_not HDX.out.rg (by decide)))
    clear ho
    obtain ⟨x0, x1, x2, x3, x4, x5, x6, x7⟩ := HXF.out.cells
    go_wp2_with fail
    refine (HCK.out _ HOF.out.mems).mono ?_
    rintro e wg ⟨rfl, hbg⟩
    have HPF := Lib.hid (HPF.out.below hbg)
    have HXF := Lib.hid (HXF.out.below hbg)
    have HBF := Lib.hid (bchain HBF.out hbg)
    have HOF := Lib.hid (HOF.out.below hbg)
    clear hbg x0 x1 x2 x3 x4 x5 x6 x7
    cases hf : Txn.fine xx with
    | false =>
      rw [if_neg (by decide)]
      have HNN := Lib.hid (show Txn.dec (c0 :: r0) = none from by rw [HDEC.out, if_neg (fun h => by rw [hf] at h; exact absurd h.2 (by decide))])
      clear hf
      have HPF := Lib.hid (show TxAt wg p Txn.zero (.slice none 0 0) from HPF.out)
      obtain ⟨p0, p1, p2, p3, p4, p5, p6, p7⟩ := HPF.out.cells
      have u0 := HPF.out.free 0
      have u1 := HPF.out.free 1
      have u2 := HPF.out.free 2
      have u3 := HPF.out.free 3
      have u4 := HPF.out.free 4
      have u5 := HPF.out.free 5
      have u6 := HPF.out.free 6
      have u7 := HPF.out.free 7
      go_wp2
      exact bodyPost_ret (ret_put rfl _ wg p Txn.zero (.slice none 0 0) rfl HPF.out) rfl (decTx_bad HNN.out (HBF.out.trans ((putTx_only wg p Txn.zero (.slice none 0 0)).below HLP.out HBF.out.size)))
    | true =>
    rw [if_pos rfl]
    have HNN := Lib.hid (show Txn.dec (c0 :: r0) = some xx from by rw [HDEC.out, if_pos ⟨trivial, hf⟩])
    clear hf
    obtain ⟨x0, x1, x2, x3, x4, x5, x6, x7⟩ := HXF.out.cells
    obtain ⟨p0, p1, p2, p3, p4, p5, p6, p7⟩ := HPF.out.cells
    have u0 := HPF.out.free 0
    have u1 := HPF.out.free 1
    have u2 := HPF.out.free 2
    have u3 := HPF.out.free 3
    have u4 := HPF.out.free 4
    have u5 := HPF.out.free 5
    have u6 := HPF.out.free 6
    have u7 := HPF.out.free 7
    go_wp2
    exact bodyPost_ret (ret_put rfl _ wg p xx (.slice none 0 0) rfl HPF.out) rfl (decTx_good HNN.out (HOF.out.only (putTx_only wg p xx (.slice none 0 0)) (typ_not HPF.out (by decide))) (HBF.out.trans ((putTx_only wg p xx (.slice none 0 0)).below HLP.out HBF.out.size)))
set_option maxRecDepth 100000 in
set_option maxHeartbeats 8000000 in
theorem xDecodeTx_2 (c0 : UInt8) (r0 : List UInt8) (w : World) (hl : r0.length ≤ 999999) (k1 : ((c0.toNat : Nat) : Int) ≠ 1) (k2 : ((c0.toNat : Nat) : Int) = 2) :
    Calls Tryd.prog 12 #[.string ⟨(c0 :: r0).toArray⟩] w (DecTx (c0 :: r0) w) := by
  have hb0 : Below w.heap.size w (w.alloc (.cells #[.int .i64 0, .string ⟨#[]⟩, .int .i64 0, .string ⟨#[]⟩, .int .i64 0, .string ⟨#[]⟩, .string ⟨#[]⟩, .slice none 0 0] 24)) := (Below.refl _ w).alloc (Nat.le_refl _) _
  have hP : TxAt (w.alloc (.cells #[.int .i64 0, .string ⟨#[]⟩, .int .i64 0, .string ⟨#[]⟩, .int .i64 0, .string ⟨#[]⟩, .string ⟨#[]⟩, .slice none 0 0] 24)) w.heap.size Txn.zero (.slice none 0 0) := heap_alloc_new w _
  obtain ⟨w1, hw1⟩ : ∃ w1, w.alloc (.cells #[.int .i64 0, .string ⟨#[]⟩, .int .i64 0, .string ⟨#[]⟩, .int .i64 0, .string ⟨#[]⟩, .string ⟨#[]⟩, .slice none 0 0] 24) = w1 := ⟨_, rfl⟩
  rw [hw1] at hb0 hP
  have HP := Lib.hid hP
  have HB := Lib.hid hb0
  have HR := Lib.hid (read_any (c0 :: r0) w1)
  have HL := Lib.hid hl
  have HBY := Lib.hid (fun g w' h => bytes_any 1 (c0 :: r0) g w' h (by have := HL.out; simp; omega))
  rw [show Code.bytesR 1 (c0 :: r0) = ([c0], r0, 0) from by unfold Code.bytesR; rw [if_neg (by decide), if_neg (by simp)]; rfl] at HBY
  dsimp only at HBY
  have hix : ∀ h, (⟨[c0].toArray⟩ : ByteArray)[0]'h = c0 := fun _ => rfl
  have hcb := c0.toNat_lt
  have hw64 : wrap64 ((c0.toNat : Nat) : Int) = (c0.toNat : Int) := by unfold wrap64; omega
  have hwk : IntKind.i64.wrap ((c0.toNat : Nat) : Int) = (c0.toNat : Int) := by unfold IntKind.wrap; simp [IntKind.bits, IntKind.signed]; omega
  have HDEC := Lib.hid (Txn.decC c0 r0)
  have HRX : Hid (Txn.readC c0 r0 = Txn.readK (c0.toNat : Nat) (Tm.rdT 6 (r0, 0)).1 ((Pw.rdN (Tm.rdT 6 (r0, 0)).2).1 : Nat) (Pw.rdN (Tm.rdT 6 (r0, 0)).2).2) := Lib.hid rfl
  have HT1 := Lib.hid (fun g w' h => xtext_st 6 (r0, 0) g w' h (by dsimp only; have := HL.out; omega))
  have HL1 := Lib.hid (Tm.rdT_le 6 (r0, 0))
  obtain ⟨⟨f, st1⟩, h1⟩ : ∃ p, Tm.rdT 6 (r0, 0) = p := ⟨_, rfl⟩
  rw [h1] at HRX HT1 HL1
  dsimp only at HRX HT1 HL1
  have HT2 := Lib.hid (fun g w' h => rnum_st st1 g w' h (by have := HL.out; have := HL1.out; omega))
  have HL2 := Lib.hid (Pw.rdN_le st1)
  obtain ⟨⟨n, st2⟩, h2⟩ : ∃ p, Pw.rdN st1 = p := ⟨_, rfl⟩
  rw [h2] at HRX HT2 HL2
  dsimp only at HRX HT2 HL2
  have HLE : Hid (st2.1.length ≤ 1000000) := Lib.hid (by have := HL.out; have := HL1.out; have := HL2.out; omega)
  obtain ⟨k, hk⟩ : ∃ k : Int, ((c0.toNat : Nat) : Int) = k := ⟨_, rfl⟩
  rw [hk] at hw64 hwk HRX
  rw [hk] at k1 k2
  have K1 := Lib.hid k1
  clear k1
  have K2 := Lib.hid k2
  clear k2
  obtain ⟨p, hp⟩ : ∃ p, w.heap.size = p := ⟨_, rfl⟩
  rw [hp] at HP
  have HLP := Lib.hid (Nat.le_of_eq hp)
  clear h1 h2 hl hcb hb0 hP
  go_enter Tryd.func12, Tryd.ntmps12
  go_upto_region 1 with fail
  try rw [hw1]
  try rw [hp]
  clear hw1 hp
  go_wp2_with fail
  refine HR.out.mono ?_
  rintro e w2 ⟨rfl, hr, hb2⟩
  have HP2 := Lib.hid (HP.out.below hb2)
  have HB2 := Lib.hid (bchain HB.out hb2)
  have HG : Hid (w.heap.size ≤ w1.heap.size) := Lib.hid HB.out.size
  have HPG : Hid (p ≠ w1.heap.size) := Lib.hid (Nat.ne_of_lt (lt_of_heap HP.out))
  obtain ⟨g, hg⟩ : ∃ g, w1.heap.size = g := ⟨_, rfl⟩
  rw [hg] at hr HG HPG
  try rw [hg]
  have HR2 := Lib.hid hr
  clear hr hb2 hg
  have HT1 := Lib.hid (HT1.out g)
  have HT2 := Lib.hid (HT2.out g)
  go_wp2_with fail
  refine (HBY.out g w2 HR2.out).mono ?_
  rintro e w3 ⟨rfl, hr, ho⟩
  have HP3 := Lib.hid (show TxAt w3 p Txn.zero (.slice none 0 0) from (ho.block p (lt_of_heap HP2.out) HPG.out).trans HP2.out)
  have HB3 := Lib.hid (HB2.out.trans (ho.below HG.out HB2.out.size))
  have HR3 := Lib.hid hr
  clear hr ho HBY HR HR2 HB2 HP2 HB HP
  go_upto_region 5 with fail
  have HGLT := Lib.hid HR3.out.lt
  refine region_inv (fun Lq aq w' => ∃ v14 v15 v16 v17 v18 v19 v20 v21 v6 : Value, aq = ⟨#[Value.string { data := (c0 :: r0).toArray }, undef, Value.pointer (some { block := p, off := 0 }), Value.int IntKind.i64 0, Value.pointer (some { block := g, off := 0 }), Value.string { data := [c0].toArray }, v6, Value.string { data := (c0 :: r0).toArray }, Value.pointer (some { block := g, off := 0 }), Value.pointer (some { block := g, off := 0 }), Value.string { data := [c0].toArray }, Value.string { data := [c0].toArray }, Value.bool false, undef, v14, v15, v16, v17, v18, v19, v20, v21, undef, undef, undef, undef, undef, undef, undef, undef, undef, undef, undef, undef, undef, undef, undef, undef, undef, undef, undef, undef, undef, undef, undef, undef, undef, undef, undef, undef, undef, undef, undef, undef, undef, undef, undef, undef, undef, undef, undef, undef, undef, undef], []⟩ ∧ DkB w w' p ∧ DkR g r0 st1 st2 w' Lq[4]? Lq[6]? ∧ g < w'.heap.size ∧ (Lq[0]? = some true → v14 = .string ⟨[c0].toArray⟩) ∧ (Lq[1]? = some true → v15 = .int .u8 k) ∧ (Lq[2]? = some true → v16 = .int .i64 k) ∧ (Lq[3]? = some true → v17 = .pointer (some ⟨g, 0, none⟩)) ∧ (Lq[4]? = some true → v18 = .string ⟨f.toArray⟩) ∧ (Lq[5]? = some true → v19 = .pointer (some ⟨g, 0, none⟩)) ∧ (Lq[6]? = some true → v20 = .int .i64 (n : Int)) ∧ (Lq[7]? = some true → v21 = .agg #[.int .i64 k, .string ⟨f.toArray⟩, .int .i64 (n : Int), .string ⟨#[]⟩, .int .i64 0, .string ⟨#[]⟩, .string ⟨#[]⟩, .slice none 0 0]) ∧ DkQ w p g ⟨k, f, (n : Int), [], 0, [], [], []⟩ w' Lq[8]? Lq[9]? v6 ∧ (Lq[9]? = some true → Lq[8]? = some true)) (by rfl) ?_ ?_ ?_
  · exact ⟨_, _, _, _, _, _, _, _, _, rfl, ⟨HB3.out.drew, HP3.out⟩, ⟨fun _ => ⟨by simp, HR3.out⟩, fun h => by simp at h, fun h => by simp at h⟩, HGLT.out, (fun h => by simp at h), (fun h => by simp at h), (fun h => by simp at h), (fun h => by simp at h), (fun h => by simp at h), (fun h => by simp at h), (fun h => by simp at h), (fun h => by simp at h), (fun h => by simp at h), (fun h => by simp at h)⟩
  · intro Lq aq w1r hL hI j o ho hj K hK
    obtain ⟨v14, v15, v16, v17, v18, v19, v20, v21, v6, rfl, hB, x0, x1, h0, h1, h2, h3, h4, h5, h6, h7, h8, h9⟩ := hI
    obtain ⟨b0, b1, b2, b3, b4, b5, b6, b7, b8, b9, rfl⟩ : ∃ b0 b1 b2 b3 b4 b5 b6 b7 b8 b9, Lq = [b0, b1, b2, b3, b4, b5, b6, b7, b8, b9] := by
      match Lq, hL with
      | [b0, b1, b2, b3, b4, b5, b6, b7, b8, b9], _ => exact ⟨b0, b1, b2, b3, b4, b5, b6, b7, b8, b9, rfl⟩
    have hi2 := (List.mem_filter.1 hj).2
    clear hj hL
    rcases j with _ | _ | _ | _ | _ | _ | _ | _ | _ | _ | j
    · obtain rfl := Option.some.inj ho
      clear ho
      rw [if_pos (by rfl)]
      go_simp
      exact hK _ _ ⟨_, v15, v16, v17, v18, v19, v20, v21, v6, rfl, hB, x0, x1, (fun _ => rfl), h1, h2, h3, h4, h5, h6, h7, h8, h9⟩
    · obtain rfl := Option.some.inj ho
      simp [Region.binds] at hi2
      obtain rfl := h0 (by simp [hi2])
      clear ho hi2
      rw [if_pos (by rfl)]
      go_simp
      exact hK _ _ ⟨_, _, v16, v17, v18, v19, v20, v21, v6, rfl, hB, x0, x1, (fun _ => rfl), (fun _ => rfl), h2, h3, h4, h5, h6, h7, h8, h9⟩
    · obtain rfl := Option.some.inj ho
      simp [Region.binds] at hi2
      obtain rfl := h1 (by simp [hi2])
      clear ho hi2
      rw [if_pos (by rfl)]
      go_simp
      exact hK _ _ ⟨v14, _, _, v17, v18, v19, v20, v21, v6, rfl, hB, x0, x1, h0, (fun _ => rfl), (fun _ => rfl), h3, h4, h5, h6, h7, h8, h9⟩
    · obtain rfl := Option.some.inj ho
      clear ho
      rw [if_pos (by rfl)]
      go_simp
      exact hK _ _ ⟨v14, v15, v16, _, v18, v19, v20, v21, v6, rfl, hB, x0, x1, h0, h1, h2, (fun _ => rfl), h4, h5, h6, h7, h8, h9⟩
    · obtain rfl := Option.some.inj ho
      simp [Region.binds] at hi2
      obtain rfl := h3 (by simp [hi2])
      clear ho
      rw [if_pos (by rfl)]
      go_simp
      obtain ⟨hn6, hrd⟩ := x0.1 (by simp [hi2])
      refine (HT1.out _ hrd).mono ?_
      rintro r w2 ⟨rfl, hr, ho⟩
      have hB2 := hB.only ho HG.out HPG.out
      exact hK _ _ ⟨v14, v15, v16, _, _, v19, v20, v21, v6, rfl, hB2, ⟨fun h => absurd rfl h, fun _ _ => hr, fun h => absurd h hn6⟩, (Nat.lt_of_lt_of_le x1 ho.size), h0, h1, h2, (fun _ => rfl), (fun _ => rfl), h5, h6, h7, (h8.only ho), h9⟩
    · obtain rfl := Option.some.inj ho
      clear ho
      rw [if_pos (by rfl)]
      go_simp
      exact hK _ _ ⟨v14, v15, v16, v17, v18, _, v20, v21, v6, rfl, hB, x0, x1, h0, h1, h2, h3, h4, (fun _ => rfl), h6, h7, h8, h9⟩
    · obtain rfl := Option.some.inj ho
      simp [Region.binds] at hi2
      obtain rfl := h5 (by simp [hi2])
      obtain rfl := h4 (by simp [hi2])
      clear ho
      rw [if_pos (by rfl)]
      go_simp
      have hrd := x0.2.1 (by simp [hi2]) (by simp [hi2])
      refine (HT2.out _ hrd).mono ?_
      rintro r w2 ⟨rfl, hr, ho⟩
      have hB2 := hB.only ho HG.out HPG.out
      exact hK _ _ ⟨v14, v15, v16, v17, _, _, _, v21, v6, rfl, hB2, ⟨fun h => absurd (by simp [hi2]) h, fun _ h => absurd rfl h, fun _ => hr⟩, (Nat.lt_of_lt_of_le x1 ho.size), h0, h1, h2, h3, (fun _ => rfl), (fun _ => rfl), (fun _ => rfl), h7, (h8.only ho), h9⟩
    · obtain rfl := Option.some.inj ho
      simp [Region.binds] at hi2
      obtain rfl := h2 (by simp [hi2])
      obtain rfl := h4 (by simp [hi2])
      obtain rfl := h6 (by simp [hi2])
      clear ho hi2
      rw [if_pos (by rfl)]
      go_simp
      exact hK _ _ ⟨v14, v15, _, v17, _, v19, _, _, v6, rfl, hB, x0, x1, h0, h1, (fun _ => rfl), h3, (fun _ => rfl), h5, (fun _ => rfl), (fun _ => rfl), h8, h9⟩
    · obtain rfl := Option.some.inj ho
      simp [Region.binds] at hi2
      clear ho
      rw [if_pos (by rfl)]
      go_simp
      have hbn : Below w1r.heap.size w1r (w1r.alloc (.cells #[.int .i64 0, .string ⟨#[]⟩, .int .i64 0, .string ⟨#[]⟩, .int .i64 0, .string ⟨#[]⟩, .string ⟨#[]⟩, .slice none 0 0] 24)) := (Below.refl _ w1r).alloc (Nat.le_refl _) _
      have hB2 := hB.below hbn
      have hgl := x1
      exact hK _ _ ⟨v14, v15, v16, v17, v18, v19, v20, v21, _, rfl, hB2, (x0.below hbn), (Nat.lt_of_lt_of_le x1 hbn.size), h0, h1, h2, h3, h4, h5, h6, h7, (fun _ => ⟨_, rfl, Nat.ne_of_lt (lt_of_heap hB.2), Nat.ne_of_lt hgl, hB.1.size, fun _ => heap_alloc_new w1r _, fun h => absurd (h9 h) (by simp [hi2])⟩), (fun _ => rfl)⟩
    · obtain rfl := Option.some.inj ho
      simp [Region.binds] at hi2
      obtain rfl := h0 (by simp [hi2])
      obtain rfl := h1 (by simp [hi2])
      obtain rfl := h2 (by simp [hi2])
      obtain rfl := h3 (by simp [hi2])
      obtain rfl := h4 (by simp [hi2])
      obtain rfl := h5 (by simp [hi2])
      obtain rfl := h6 (by simp [hi2])
      obtain rfl := h7 (by simp [hi2])
      obtain ⟨q, rfl, hpq, hgq, hBq, hz, -⟩ := h8 (by simp [hi2])
      have hz := hz (by simp [hi2])
      obtain ⟨z0, z1, z2, z3, z4, z5, z6, z7⟩ := hz.cells
      have y0 := hz.free 0
      have y1 := hz.free 1
      have y2 := hz.free 2
      have y3 := hz.free 3
      have y4 := hz.free 4
      have y5 := hz.free 5
      have y6 := hz.free 6
      have y7 := hz.free 7
      have hB2 := hB.only (putTx_only w1r q ⟨k, f, (n : Int), [], 0, [], [], []⟩ (.slice none 0 0)) hBq hpq
      clear ho
      rw [if_pos (by rfl)]
      go_simp
      exact hK _ _ ⟨_, _, _, _, _, _, _, _, _, rfl, hB2, (x0.only (putTx_only w1r q ⟨k, f, (n : Int), [], 0, [], [], []⟩ (.slice none 0 0)) hgq), (Nat.lt_of_lt_of_le x1 (putTx_only w1r q ⟨k, f, (n : Int), [], 0, [], [], []⟩ (.slice none 0 0)).size), (fun _ => rfl), (fun _ => rfl), (fun _ => rfl), (fun _ => rfl), (fun _ => rfl), (fun _ => rfl), (fun _ => rfl), (fun _ => rfl), (show DkQ w p g ⟨k, f, (n : Int), [], 0, [], [], []⟩ (putTx w1r q ⟨k, f, (n : Int), [], 0, [], [], []⟩ (.slice none 0 0)) _ _ (.pointer (some ⟨q, 0, none⟩)) from fun _ => ⟨q, rfl, hpq, hgq, hBq, fun h => absurd rfl h, fun _ => hz.put ⟨k, f, (n : Int), [], 0, [], [], []⟩ (.slice none 0 0)⟩), (fun _ => by simp [hi2])⟩
    · simp at ho
  · intro Lq aq w2 hL hr hI
    obtain ⟨v14, v15, v16, v17, v18, v19, v20, v21, v6, rfl, hB, x0, x1, h0, h1, h2, h3, h4, h5, h6, h7, h8, h9⟩ := hI
    obtain ⟨b0, b1, b2, b3, b4, b5, b6, b7, b8, b9, rfl⟩ : ∃ b0 b1 b2 b3 b4 b5 b6 b7 b8 b9, Lq = [b0, b1, b2, b3, b4, b5, b6, b7, b8, b9] := by
      match Lq, hL with
      | [b0, b1, b2, b3, b4, b5, b6, b7, b8, b9], _ => exact ⟨b0, b1, b2, b3, b4, b5, b6, b7, b8, b9, rfl⟩
    have hr2 := List.filter_eq_nil_iff.1 hr
    clear hr hL
    have k0 := hr2 0 (by simp)
    have k1 := hr2 1 (by simp)
    have k2 := hr2 2 (by simp)
    have k3 := hr2 3 (by simp)
    have k4 := hr2 4 (by simp)
    have k5 := hr2 5 (by simp)
    have k6 := hr2 6 (by simp)
    have k7 := hr2 7 (by simp)
    have k8 := hr2 8 (by simp)
    have k9 := hr2 9 (by simp)
    clear hr2
    simp [Region.binds] at k0
    subst k0
    simp [Region.binds] at k1
    subst k1
    simp [Region.binds] at k2
    subst k2
    simp [Region.binds] at k3
    subst k3
    simp [Region.binds] at k4
    subst k4
    simp [Region.binds] at k5
    subst k5
    simp [Region.binds] at k6
    subst k6
    simp [Region.binds] at k7
    subst k7
    simp [Region.binds] at k8
    subst k8
    simp [Region.binds] at k9
    subst k9
    obtain rfl := h0 rfl
    obtain rfl := h1 rfl
    obtain rfl := h2 rfl
    obtain rfl := h3 rfl
    obtain rfl := h4 rfl
    obtain rfl := h5 rfl
    obtain rfl := h6 rfl
    obtain rfl := h7 rfl
    obtain ⟨q, rfl, hpq, hgq, hBq, -, hx⟩ := h8 rfl
    have hx := hx rfl
    have hrd := x0.2.2 rfl
    have HD7 : Hid (TxD 72 w w2 p g q ⟨k, f, (n : Int), [], 0, [], [], []⟩ (.slice none 0 0) st2) := Lib.hid ⟨hB.2, hrd, hx, hB.1, HLP.out, HPG.out, hpq, hgq, HG.out, hBq⟩
    clear h8 h9 hx hrd hB x0 x1 HP3 HB3 HR3 HT1 HT2 hpq hgq hBq hix hw64 hwk
    have r1 : (k == 1) = false := beq_eq_false_iff_ne.2 K1.out
    have r2 : (k == 2) = true := beq_iff_eq.2 K2.out
    have HRX1 := HRX.out
    unfold Txn.readK at HRX1
    rw [if_neg K1.out, if_pos K2.out] at HRX1
    have b7 := HD7.out.rx.cells.1
    dsimp only at b7
    have HT3 := Lib.hid (fun w' h => xtext_st 6 st2 g w' h (by have := HLE.out; omega))
    have HL_st3 := Lib.hid (Tm.rdT_le 6 st2)
    obtain ⟨⟨d, st3⟩, h_st3⟩ : ∃ p, Tm.rdT 6 st2 = p := ⟨_, rfl⟩
    rw [h_st3] at HRX1 HT3 HL_st3
    dsimp only at HRX1 HT3 HL_st3
    clear h_st3
    have HT4 := Lib.hid (fun w' h => xtext_st 32 st3 g w' h (by have := HLE.out; have := HL_st3.out; omega))
    have HL_st4 := Lib.hid (Tm.rdT_le 32 st3)
    obtain ⟨⟨a, st4⟩, h_st4⟩ : ∃ p, Tm.rdT 32 st3 = p := ⟨_, rfl⟩
    rw [h_st4] at HRX1 HT4 HL_st4
    dsimp only at HRX1 HT4 HL_st4
    clear h_st4
    rw [HRX1] at HDEC
    dsimp only at HDEC
    clear HRX1 HRX
    go_wp2_with fail
    refine (HT3.out _ HD7.out.rg).mono ?_
    rintro e w8 ⟨rfl, hr, ho⟩
    have HD8 := Lib.hid (HD7.out.read st3 hr ho)
    clear hr ho
    go_wp2_with fail
    refine (HT4.out _ HD8.out.rg).mono ?_
    rintro e w9 ⟨rfl, hr, ho⟩
    have HD9 := Lib.hid (HD8.out.read st4 hr ho)
    clear hr ho
    have b9 := HD9.out.rx.cells.2.2.2.2.2.1
    have v9 := HD9.out.rx.free 5
    have HD10 := Lib.hid (HD9.out.set (HD9.out.rx.setKey d))
    obtain ⟨w10, hw10⟩ : ∃ w', w9.setCell ⟨q, 5, none⟩ (.string ⟨d.toArray⟩) = w' := ⟨_, rfl⟩
    rw [hw10] at HD10
    have b10 := HD10.out.rx.cells.2.2.2.2.2.2.1
    have v10 := HD10.out.rx.free 6
    have HD11 := Lib.hid (HD10.out.set (HD10.out.rx.setVal a))
    obtain ⟨w11, hw11⟩ : ∃ w', w10.setCell ⟨q, 6, none⟩ (.string ⟨a.toArray⟩) = w' := ⟨_, rfl⟩
    rw [hw11] at HD11
    have HOW : Hid (OwnM w11 w.heap.size (.slice none 0 0) (⟨k, f, (n : Int), [], 0, d, a, []⟩ : X).mem) := Lib.hid (OwnM.nil _ _)
    have HDX : Hid (TxD 72 w w11 p g q (⟨k, f, (n : Int), [], 0, d, a, []⟩ : X) (.slice none 0 0) st4) := HD11
    obtain ⟨xx, hX⟩ : ∃ xx, (⟨k, f, (n : Int), [], 0, d, a, []⟩ : X) = xx := ⟨_, rfl⟩
    rw [hX] at HDEC HDX HOW
    clear hX
    have HE := Lib.hid (rend_st st4 g w11 HDX.out.rg)
    obtain ⟨E, hE⟩ : ∃ E, Pw.endC st4 = E := ⟨_, rfl⟩
    rw [hE] at HE HDEC
    clear hE
    by_cases hE : E = 0
    case neg =>
      have hE2 : (E != 0) = true := by rw [bne_iff_ne]; exact hE
      have HEN := Lib.hid hE
      clear hE
      go_wp2_with fail
      refine HE.out.mono ?_
      rintro e wf ⟨rfl, ho⟩
      have HPF := Lib.hid ((ho.block p (lt_of_heap HDX.out.rp) HDX.out.pg).trans HDX.out.rp)
      have HBF := Lib.hid (HDX.out.only ho HDX.out.lg)
      have HLP := Lib.hid HDX.out.hp
      clear ho
      have HNN := Lib.hid (show Txn.dec (c0 :: r0) = none from by rw [HDEC.out, if_neg (fun h => HEN.out h.1)])
      have HPF := Lib.hid (show TxAt wf p Txn.zero (.slice none 0 0) from HPF.out)
      obtain ⟨p0, p1, p2, p3, p4, p5, p6, p7⟩ := HPF.out.cells
      have u0 := HPF.out.free 0
      have u1 := HPF.out.free 1
      have u2 := HPF.out.free 2
      have u3 := HPF.out.free 3
      have u4 := HPF.out.free 4
      have u5 := HPF.out.free 5
      have u6 := HPF.out.free 6
      have u7 := HPF.out.free 7
      go_wp2
      exact bodyPost_ret (ret_put rfl _ wf p Txn.zero (.slice none 0 0) rfl HPF.out) rfl (decTx_bad HNN.out (HBF.out.trans ((putTx_only wf p Txn.zero (.slice none 0 0)).below HLP.out HBF.out.size)))
    subst hE
    have HCK := Lib.hid (fun w' h => xcheck_any xx (.slice none 0 0) w' h)
    unfold xval at HCK
    go_wp2_with fail
    refine HE.out.mono ?_
    rintro e wf ⟨rfl, ho⟩
    have HPF := Lib.hid (show TxAt wf p Txn.zero (.slice none 0 0) from (ho.block p (lt_of_heap HDX.out.rp) HDX.out.pg).trans HDX.out.rp)
    have HXF := Lib.hid (show TxAt wf q xx (.slice none 0 0) from (ho.block q (lt_of_heap HDX.out.rx) (fun e => HDX.out.gq e.symm)).trans HDX.out.rx)
    have HBF := Lib.hid (HDX.out.only ho HDX.out.lg)
    have HLP := Lib.hid HDX.out.hp
    have HOF := Lib.hid (HOW.out.only ho (typ_not HDX.out.rg (by decide)))
    clear ho
    obtain ⟨x0, x1, x2, x3, x4, x5, x6, x7⟩ := HXF.out.cells
    go_wp2_with fail
    refine (HCK.out _ HOF.out.mems).mono ?_
    rintro e wg ⟨rfl, hbg⟩
    have HPF := Lib.hid (HPF.out.below hbg)
    have HXF := Lib.hid (HXF.out.below hbg)
    have HBF := Lib.hid (bchain HBF.out hbg)
    have HOF := Lib.hid (HOF.out.below hbg)
    clear hbg x0 x1 x2 x3 x4 x5 x6 x7
    cases hf : Txn.fine xx with
    | false =>
      rw [if_neg (by decide)]
      have HNN := Lib.hid (show Txn.dec (c0 :: r0) = none from by rw [HDEC.out, if_neg (fun h => by rw [hf] at h; exact absurd h.2 (by decide))])
      clear hf
      have HPF := Lib.hid (show TxAt wg p Txn.zero (.slice none 0 0) from HPF.out)
      obtain ⟨p0, p1, p2, p3, p4, p5, p6, p7⟩ := HPF.out.cells
      have u0 := HPF.out.free 0
      have u1 := HPF.out.free 1
      have u2 := HPF.out.free 2
      have u3 := HPF.out.free 3
      have u4 := HPF.out.free 4
      have u5 := HPF.out.free 5
      have u6 := HPF.out.free 6
      have u7 := HPF.out.free 7
      go_wp2
      exact bodyPost_ret (ret_put rfl _ wg p Txn.zero (.slice none 0 0) rfl HPF.out) rfl (decTx_bad HNN.out (HBF.out.trans ((putTx_only wg p Txn.zero (.slice none 0 0)).below HLP.out HBF.out.size)))
    | true =>
    rw [if_pos rfl]
    have HNN := Lib.hid (show Txn.dec (c0 :: r0) = some xx from by rw [HDEC.out, if_pos ⟨trivial, hf⟩])
    clear hf
    obtain ⟨x0, x1, x2, x3, x4, x5, x6, x7⟩ := HXF.out.cells
    obtain ⟨p0, p1, p2, p3, p4, p5, p6, p7⟩ := HPF.out.cells
    have u0 := HPF.out.free 0
    have u1 := HPF.out.free 1
    have u2 := HPF.out.free 2
    have u3 := HPF.out.free 3
    have u4 := HPF.out.free 4
    have u5 := HPF.out.free 5
    have u6 := HPF.out.free 6
    have u7 := HPF.out.free 7
    go_wp2
    exact bodyPost_ret (ret_put rfl _ wg p xx (.slice none 0 0) rfl HPF.out) rfl (decTx_good HNN.out (HOF.out.only (putTx_only wg p xx (.slice none 0 0)) (typ_not HPF.out (by decide))) (HBF.out.trans ((putTx_only wg p xx (.slice none 0 0)).below HLP.out HBF.out.size)))
set_option maxRecDepth 100000 in
set_option maxHeartbeats 8000000 in
theorem xDecodeTx_3 (c0 : UInt8) (r0 : List UInt8) (w : World) (hl : r0.length ≤ 999999) (k1 : ((c0.toNat : Nat) : Int) ≠ 1) (k2 : ((c0.toNat : Nat) : Int) ≠ 2) (k3 : ((c0.toNat : Nat) : Int) = 3) :
    Calls Tryd.prog 12 #[.string ⟨(c0 :: r0).toArray⟩] w (DecTx (c0 :: r0) w) := by
  have hb0 : Below w.heap.size w (w.alloc (.cells #[.int .i64 0, .string ⟨#[]⟩, .int .i64 0, .string ⟨#[]⟩, .int .i64 0, .string ⟨#[]⟩, .string ⟨#[]⟩, .slice none 0 0] 24)) := (Below.refl _ w).alloc (Nat.le_refl _) _
  have hP : TxAt (w.alloc (.cells #[.int .i64 0, .string ⟨#[]⟩, .int .i64 0, .string ⟨#[]⟩, .int .i64 0, .string ⟨#[]⟩, .string ⟨#[]⟩, .slice none 0 0] 24)) w.heap.size Txn.zero (.slice none 0 0) := heap_alloc_new w _
  obtain ⟨w1, hw1⟩ : ∃ w1, w.alloc (.cells #[.int .i64 0, .string ⟨#[]⟩, .int .i64 0, .string ⟨#[]⟩, .int .i64 0, .string ⟨#[]⟩, .string ⟨#[]⟩, .slice none 0 0] 24) = w1 := ⟨_, rfl⟩
  rw [hw1] at hb0 hP
  have HP := Lib.hid hP
  have HB := Lib.hid hb0
  have HR := Lib.hid (read_any (c0 :: r0) w1)
  have HL := Lib.hid hl
  have HBY := Lib.hid (fun g w' h => bytes_any 1 (c0 :: r0) g w' h (by have := HL.out; simp; omega))
  rw [show Code.bytesR 1 (c0 :: r0) = ([c0], r0, 0) from by unfold Code.bytesR; rw [if_neg (by decide), if_neg (by simp)]; rfl] at HBY
  dsimp only at HBY
  have hix : ∀ h, (⟨[c0].toArray⟩ : ByteArray)[0]'h = c0 := fun _ => rfl
  have hcb := c0.toNat_lt
  have hw64 : wrap64 ((c0.toNat : Nat) : Int) = (c0.toNat : Int) := by unfold wrap64; omega
  have hwk : IntKind.i64.wrap ((c0.toNat : Nat) : Int) = (c0.toNat : Int) := by unfold IntKind.wrap; simp [IntKind.bits, IntKind.signed]; omega
  have HDEC := Lib.hid (Txn.decC c0 r0)
  have HRX : Hid (Txn.readC c0 r0 = Txn.readK (c0.toNat : Nat) (Tm.rdT 6 (r0, 0)).1 ((Pw.rdN (Tm.rdT 6 (r0, 0)).2).1 : Nat) (Pw.rdN (Tm.rdT 6 (r0, 0)).2).2) := Lib.hid rfl
  have HT1 := Lib.hid (fun g w' h => xtext_st 6 (r0, 0) g w' h (by dsimp only; have := HL.out; omega))
  have HL1 := Lib.hid (Tm.rdT_le 6 (r0, 0))
  obtain ⟨⟨f, st1⟩, h1⟩ : ∃ p, Tm.rdT 6 (r0, 0) = p := ⟨_, rfl⟩
  rw [h1] at HRX HT1 HL1
  dsimp only at HRX HT1 HL1
  have HT2 := Lib.hid (fun g w' h => rnum_st st1 g w' h (by have := HL.out; have := HL1.out; omega))
  have HL2 := Lib.hid (Pw.rdN_le st1)
  obtain ⟨⟨n, st2⟩, h2⟩ : ∃ p, Pw.rdN st1 = p := ⟨_, rfl⟩
  rw [h2] at HRX HT2 HL2
  dsimp only at HRX HT2 HL2
  have HLE : Hid (st2.1.length ≤ 1000000) := Lib.hid (by have := HL.out; have := HL1.out; have := HL2.out; omega)
  obtain ⟨k, hk⟩ : ∃ k : Int, ((c0.toNat : Nat) : Int) = k := ⟨_, rfl⟩
  rw [hk] at hw64 hwk HRX
  rw [hk] at k1 k2 k3
  have K1 := Lib.hid k1
  clear k1
  have K2 := Lib.hid k2
  clear k2
  have K3 := Lib.hid k3
  clear k3
  obtain ⟨p, hp⟩ : ∃ p, w.heap.size = p := ⟨_, rfl⟩
  rw [hp] at HP
  have HLP := Lib.hid (Nat.le_of_eq hp)
  clear h1 h2 hl hcb hb0 hP
  go_enter Tryd.func12, Tryd.ntmps12
  go_upto_region 1 with fail
  try rw [hw1]
  try rw [hp]
  clear hw1 hp
  go_wp2_with fail
  refine HR.out.mono ?_
  rintro e w2 ⟨rfl, hr, hb2⟩
  have HP2 := Lib.hid (HP.out.below hb2)
  have HB2 := Lib.hid (bchain HB.out hb2)
  have HG : Hid (w.heap.size ≤ w1.heap.size) := Lib.hid HB.out.size
  have HPG : Hid (p ≠ w1.heap.size) := Lib.hid (Nat.ne_of_lt (lt_of_heap HP.out))
  obtain ⟨g, hg⟩ : ∃ g, w1.heap.size = g := ⟨_, rfl⟩
  rw [hg] at hr HG HPG
  try rw [hg]
  have HR2 := Lib.hid hr
  clear hr hb2 hg
  have HT1 := Lib.hid (HT1.out g)
  have HT2 := Lib.hid (HT2.out g)
  go_wp2_with fail
  refine (HBY.out g w2 HR2.out).mono ?_
  rintro e w3 ⟨rfl, hr, ho⟩
  have HP3 := Lib.hid (show TxAt w3 p Txn.zero (.slice none 0 0) from (ho.block p (lt_of_heap HP2.out) HPG.out).trans HP2.out)
  have HB3 := Lib.hid (HB2.out.trans (ho.below HG.out HB2.out.size))
  have HR3 := Lib.hid hr
  clear hr ho HBY HR HR2 HB2 HP2 HB HP
  go_upto_region 5 with fail
  have HGLT := Lib.hid HR3.out.lt
  refine region_inv (fun Lq aq w' => ∃ v14 v15 v16 v17 v18 v19 v20 v21 v6 : Value, aq = ⟨#[Value.string { data := (c0 :: r0).toArray }, undef, Value.pointer (some { block := p, off := 0 }), Value.int IntKind.i64 0, Value.pointer (some { block := g, off := 0 }), Value.string { data := [c0].toArray }, v6, Value.string { data := (c0 :: r0).toArray }, Value.pointer (some { block := g, off := 0 }), Value.pointer (some { block := g, off := 0 }), Value.string { data := [c0].toArray }, Value.string { data := [c0].toArray }, Value.bool false, undef, v14, v15, v16, v17, v18, v19, v20, v21, undef, undef, undef, undef, undef, undef, undef, undef, undef, undef, undef, undef, undef, undef, undef, undef, undef, undef, undef, undef, undef, undef, undef, undef, undef, undef, undef, undef, undef, undef, undef, undef, undef, undef, undef, undef, undef, undef, undef, undef, undef, undef], []⟩ ∧ DkB w w' p ∧ DkR g r0 st1 st2 w' Lq[4]? Lq[6]? ∧ g < w'.heap.size ∧ (Lq[0]? = some true → v14 = .string ⟨[c0].toArray⟩) ∧ (Lq[1]? = some true → v15 = .int .u8 k) ∧ (Lq[2]? = some true → v16 = .int .i64 k) ∧ (Lq[3]? = some true → v17 = .pointer (some ⟨g, 0, none⟩)) ∧ (Lq[4]? = some true → v18 = .string ⟨f.toArray⟩) ∧ (Lq[5]? = some true → v19 = .pointer (some ⟨g, 0, none⟩)) ∧ (Lq[6]? = some true → v20 = .int .i64 (n : Int)) ∧ (Lq[7]? = some true → v21 = .agg #[.int .i64 k, .string ⟨f.toArray⟩, .int .i64 (n : Int), .string ⟨#[]⟩, .int .i64 0, .string ⟨#[]⟩, .string ⟨#[]⟩, .slice none 0 0]) ∧ DkQ w p g ⟨k, f, (n : Int), [], 0, [], [], []⟩ w' Lq[8]? Lq[9]? v6 ∧ (Lq[9]? = some true → Lq[8]? = some true)) (by rfl) ?_ ?_ ?_
  · exact ⟨_, _, _, _, _, _, _, _, _, rfl, ⟨HB3.out.drew, HP3.out⟩, ⟨fun _ => ⟨by simp, HR3.out⟩, fun h => by simp at h, fun h => by simp at h⟩, HGLT.out, (fun h => by simp at h), (fun h => by simp at h), (fun h => by simp at h), (fun h => by simp at h), (fun h => by simp at h), (fun h => by simp at h), (fun h => by simp at h), (fun h => by simp at h), (fun h => by simp at h), (fun h => by simp at h)⟩
  · intro Lq aq w1r hL hI j o ho hj K hK
    obtain ⟨v14, v15, v16, v17, v18, v19, v20, v21, v6, rfl, hB, x0, x1, h0, h1, h2, h3, h4, h5, h6, h7, h8, h9⟩ := hI
    obtain ⟨b0, b1, b2, b3, b4, b5, b6, b7, b8, b9, rfl⟩ : ∃ b0 b1 b2 b3 b4 b5 b6 b7 b8 b9, Lq = [b0, b1, b2, b3, b4, b5, b6, b7, b8, b9] := by
      match Lq, hL with
      | [b0, b1, b2, b3, b4, b5, b6, b7, b8, b9], _ => exact ⟨b0, b1, b2, b3, b4, b5, b6, b7, b8, b9, rfl⟩
    have hi2 := (List.mem_filter.1 hj).2
    clear hj hL
    rcases j with _ | _ | _ | _ | _ | _ | _ | _ | _ | _ | j
    · obtain rfl := Option.some.inj ho
      clear ho
      rw [if_pos (by rfl)]
      go_simp
      exact hK _ _ ⟨_, v15, v16, v17, v18, v19, v20, v21, v6, rfl, hB, x0, x1, (fun _ => rfl), h1, h2, h3, h4, h5, h6, h7, h8, h9⟩
    · obtain rfl := Option.some.inj ho
      simp [Region.binds] at hi2
      obtain rfl := h0 (by simp [hi2])
      clear ho hi2
      rw [if_pos (by rfl)]
      go_simp
      exact hK _ _ ⟨_, _, v16, v17, v18, v19, v20, v21, v6, rfl, hB, x0, x1, (fun _ => rfl), (fun _ => rfl), h2, h3, h4, h5, h6, h7, h8, h9⟩
    · obtain rfl := Option.some.inj ho
      simp [Region.binds] at hi2
      obtain rfl := h1 (by simp [hi2])
      clear ho hi2
      rw [if_pos (by rfl)]
      go_simp
      exact hK _ _ ⟨v14, _, _, v17, v18, v19, v20, v21, v6, rfl, hB, x0, x1, h0, (fun _ => rfl), (fun _ => rfl), h3, h4, h5, h6, h7, h8, h9⟩
    · obtain rfl := Option.some.inj ho
      clear ho
      rw [if_pos (by rfl)]
      go_simp
      exact hK _ _ ⟨v14, v15, v16, _, v18, v19, v20, v21, v6, rfl, hB, x0, x1, h0, h1, h2, (fun _ => rfl), h4, h5, h6, h7, h8, h9⟩
    · obtain rfl := Option.some.inj ho
      simp [Region.binds] at hi2
      obtain rfl := h3 (by simp [hi2])
      clear ho
      rw [if_pos (by rfl)]
      go_simp
      obtain ⟨hn6, hrd⟩ := x0.1 (by simp [hi2])
      refine (HT1.out _ hrd).mono ?_
      rintro r w2 ⟨rfl, hr, ho⟩
      have hB2 := hB.only ho HG.out HPG.out
      exact hK _ _ ⟨v14, v15, v16, _, _, v19, v20, v21, v6, rfl, hB2, ⟨fun h => absurd rfl h, fun _ _ => hr, fun h => absurd h hn6⟩, (Nat.lt_of_lt_of_le x1 ho.size), h0, h1, h2, (fun _ => rfl), (fun _ => rfl), h5, h6, h7, (h8.only ho), h9⟩
    · obtain rfl := Option.some.inj ho
      clear ho
      rw [if_pos (by rfl)]
      go_simp
      exact hK _ _ ⟨v14, v15, v16, v17, v18, _, v20, v21, v6, rfl, hB, x0, x1, h0, h1, h2, h3, h4, (fun _ => rfl), h6, h7, h8, h9⟩
    · obtain rfl := Option.some.inj ho
      simp [Region.binds] at hi2
      obtain rfl := h5 (by simp [hi2])
      obtain rfl := h4 (by simp [hi2])
      clear ho
      rw [if_pos (by rfl)]
      go_simp
      have hrd := x0.2.1 (by simp [hi2]) (by simp [hi2])
      refine (HT2.out _ hrd).mono ?_
      rintro r w2 ⟨rfl, hr, ho⟩
      have hB2 := hB.only ho HG.out HPG.out
      exact hK _ _ ⟨v14, v15, v16, v17, _, _, _, v21, v6, rfl, hB2, ⟨fun h => absurd (by simp [hi2]) h, fun _ h => absurd rfl h, fun _ => hr⟩, (Nat.lt_of_lt_of_le x1 ho.size), h0, h1, h2, h3, (fun _ => rfl), (fun _ => rfl), (fun _ => rfl), h7, (h8.only ho), h9⟩
    · obtain rfl := Option.some.inj ho
      simp [Region.binds] at hi2
      obtain rfl := h2 (by simp [hi2])
      obtain rfl := h4 (by simp [hi2])
      obtain rfl := h6 (by simp [hi2])
      clear ho hi2
      rw [if_pos (by rfl)]
      go_simp
      exact hK _ _ ⟨v14, v15, _, v17, _, v19, _, _, v6, rfl, hB, x0, x1, h0, h1, (fun _ => rfl), h3, (fun _ => rfl), h5, (fun _ => rfl), (fun _ => rfl), h8, h9⟩
    · obtain rfl := Option.some.inj ho
      simp [Region.binds] at hi2
      clear ho
      rw [if_pos (by rfl)]
      go_simp
      have hbn : Below w1r.heap.size w1r (w1r.alloc (.cells #[.int .i64 0, .string ⟨#[]⟩, .int .i64 0, .string ⟨#[]⟩, .int .i64 0, .string ⟨#[]⟩, .string ⟨#[]⟩, .slice none 0 0] 24)) := (Below.refl _ w1r).alloc (Nat.le_refl _) _
      have hB2 := hB.below hbn
      have hgl := x1
      exact hK _ _ ⟨v14, v15, v16, v17, v18, v19, v20, v21, _, rfl, hB2, (x0.below hbn), (Nat.lt_of_lt_of_le x1 hbn.size), h0, h1, h2, h3, h4, h5, h6, h7, (fun _ => ⟨_, rfl, Nat.ne_of_lt (lt_of_heap hB.2), Nat.ne_of_lt hgl, hB.1.size, fun _ => heap_alloc_new w1r _, fun h => absurd (h9 h) (by simp [hi2])⟩), (fun _ => rfl)⟩
    · obtain rfl := Option.some.inj ho
      simp [Region.binds] at hi2
      obtain rfl := h0 (by simp [hi2])
      obtain rfl := h1 (by simp [hi2])
      obtain rfl := h2 (by simp [hi2])
      obtain rfl := h3 (by simp [hi2])
      obtain rfl := h4 (by simp [hi2])
      obtain rfl := h5 (by simp [hi2])
      obtain rfl := h6 (by simp [hi2])
      obtain rfl := h7 (by simp [hi2])
      obtain ⟨q, rfl, hpq, hgq, hBq, hz, -⟩ := h8 (by simp [hi2])
      have hz := hz (by simp [hi2])
      obtain ⟨z0, z1, z2, z3, z4, z5, z6, z7⟩ := hz.cells
      have y0 := hz.free 0
      have y1 := hz.free 1
      have y2 := hz.free 2
      have y3 := hz.free 3
      have y4 := hz.free 4
      have y5 := hz.free 5
      have y6 := hz.free 6
      have y7 := hz.free 7
      have hB2 := hB.only (putTx_only w1r q ⟨k, f, (n : Int), [], 0, [], [], []⟩ (.slice none 0 0)) hBq hpq
      clear ho
      rw [if_pos (by rfl)]
      go_simp
      exact hK _ _ ⟨_, _, _, _, _, _, _, _, _, rfl, hB2, (x0.only (putTx_only w1r q ⟨k, f, (n : Int), [], 0, [], [], []⟩ (.slice none 0 0)) hgq), (Nat.lt_of_lt_of_le x1 (putTx_only w1r q ⟨k, f, (n : Int), [], 0, [], [], []⟩ (.slice none 0 0)).size), (fun _ => rfl), (fun _ => rfl), (fun _ => rfl), (fun _ => rfl), (fun _ => rfl), (fun _ => rfl), (fun _ => rfl), (fun _ => rfl), (show DkQ w p g ⟨k, f, (n : Int), [], 0, [], [], []⟩ (putTx w1r q ⟨k, f, (n : Int), [], 0, [], [], []⟩ (.slice none 0 0)) _ _ (.pointer (some ⟨q, 0, none⟩)) from fun _ => ⟨q, rfl, hpq, hgq, hBq, fun h => absurd rfl h, fun _ => hz.put ⟨k, f, (n : Int), [], 0, [], [], []⟩ (.slice none 0 0)⟩), (fun _ => by simp [hi2])⟩
    · simp at ho
  · intro Lq aq w2 hL hr hI
    obtain ⟨v14, v15, v16, v17, v18, v19, v20, v21, v6, rfl, hB, x0, x1, h0, h1, h2, h3, h4, h5, h6, h7, h8, h9⟩ := hI
    obtain ⟨b0, b1, b2, b3, b4, b5, b6, b7, b8, b9, rfl⟩ : ∃ b0 b1 b2 b3 b4 b5 b6 b7 b8 b9, Lq = [b0, b1, b2, b3, b4, b5, b6, b7, b8, b9] := by
      match Lq, hL with
      | [b0, b1, b2, b3, b4, b5, b6, b7, b8, b9], _ => exact ⟨b0, b1, b2, b3, b4, b5, b6, b7, b8, b9, rfl⟩
    have hr2 := List.filter_eq_nil_iff.1 hr
    clear hr hL
    have k0 := hr2 0 (by simp)
    have k1 := hr2 1 (by simp)
    have k2 := hr2 2 (by simp)
    have k3 := hr2 3 (by simp)
    have k4 := hr2 4 (by simp)
    have k5 := hr2 5 (by simp)
    have k6 := hr2 6 (by simp)
    have k7 := hr2 7 (by simp)
    have k8 := hr2 8 (by simp)
    have k9 := hr2 9 (by simp)
    clear hr2
    simp [Region.binds] at k0
    subst k0
    simp [Region.binds] at k1
    subst k1
    simp [Region.binds] at k2
    subst k2
    simp [Region.binds] at k3
    subst k3
    simp [Region.binds] at k4
    subst k4
    simp [Region.binds] at k5
    subst k5
    simp [Region.binds] at k6
    subst k6
    simp [Region.binds] at k7
    subst k7
    simp [Region.binds] at k8
    subst k8
    simp [Region.binds] at k9
    subst k9
    obtain rfl := h0 rfl
    obtain rfl := h1 rfl
    obtain rfl := h2 rfl
    obtain rfl := h3 rfl
    obtain rfl := h4 rfl
    obtain rfl := h5 rfl
    obtain rfl := h6 rfl
    obtain rfl := h7 rfl
    obtain ⟨q, rfl, hpq, hgq, hBq, -, hx⟩ := h8 rfl
    have hx := hx rfl
    have hrd := x0.2.2 rfl
    have HD7 : Hid (TxD 72 w w2 p g q ⟨k, f, (n : Int), [], 0, [], [], []⟩ (.slice none 0 0) st2) := Lib.hid ⟨hB.2, hrd, hx, hB.1, HLP.out, HPG.out, hpq, hgq, HG.out, hBq⟩
    clear h8 h9 hx hrd hB x0 x1 HP3 HB3 HR3 HT1 HT2 hpq hgq hBq hix hw64 hwk
    have r1 : (k == 1) = false := beq_eq_false_iff_ne.2 K1.out
    have r2 : (k == 2) = false := beq_eq_false_iff_ne.2 K2.out
    have r3 : (k == 3) = true := beq_iff_eq.2 K3.out
    have HRX1 := HRX.out
    unfold Txn.readK at HRX1
    rw [if_neg K1.out, if_neg K2.out, if_pos K3.out] at HRX1
    have b7 := HD7.out.rx.cells.1
    dsimp only at b7
    have HT3 := Lib.hid (fun w' h => xtext_st 6 st2 g w' h (by have := HLE.out; omega))
    have HL_st3 := Lib.hid (Tm.rdT_le 6 st2)
    obtain ⟨⟨d, st3⟩, h_st3⟩ : ∃ p, Tm.rdT 6 st2 = p := ⟨_, rfl⟩
    rw [h_st3] at HRX1 HT3 HL_st3
    dsimp only at HRX1 HT3 HL_st3
    clear h_st3
    rw [HRX1] at HDEC
    dsimp only at HDEC
    clear HRX1 HRX
    go_wp2_with fail
    refine (HT3.out _ HD7.out.rg).mono ?_
    rintro e w8 ⟨rfl, hr, ho⟩
    have HD8 := Lib.hid (HD7.out.read st3 hr ho)
    clear hr ho
    have b8 := HD8.out.rx.cells.2.2.2.2.2.1
    have v8 := HD8.out.rx.free 5
    have HD9 := Lib.hid (HD8.out.set (HD8.out.rx.setKey d))
    obtain ⟨w9, hw9⟩ : ∃ w', w8.setCell ⟨q, 5, none⟩ (.string ⟨d.toArray⟩) = w' := ⟨_, rfl⟩
    rw [hw9] at HD9
    have HOW : Hid (OwnM w9 w.heap.size (.slice none 0 0) (⟨k, f, (n : Int), [], 0, d, [], []⟩ : X).mem) := Lib.hid (OwnM.nil _ _)
    have HDX : Hid (TxD 72 w w9 p g q (⟨k, f, (n : Int), [], 0, d, [], []⟩ : X) (.slice none 0 0) st3) := HD9
    obtain ⟨xx, hX⟩ : ∃ xx, (⟨k, f, (n : Int), [], 0, d, [], []⟩ : X) = xx := ⟨_, rfl⟩
    rw [hX] at HDEC HDX HOW
    clear hX
    have HE := Lib.hid (rend_st st3 g w9 HDX.out.rg)
    obtain ⟨E, hE⟩ : ∃ E, Pw.endC st3 = E := ⟨_, rfl⟩
    rw [hE] at HE HDEC
    clear hE
    by_cases hE : E = 0
    case neg =>
      have hE2 : (E != 0) = true := by rw [bne_iff_ne]; exact hE
      have HEN := Lib.hid hE
      clear hE
      go_wp2_with fail
      refine HE.out.mono ?_
      rintro e wf ⟨rfl, ho⟩
      have HPF := Lib.hid ((ho.block p (lt_of_heap HDX.out.rp) HDX.out.pg).trans HDX.out.rp)
      have HBF := Lib.hid (HDX.out.only ho HDX.out.lg)
      have HLP := Lib.hid HDX.out.hp
      clear ho
      have HNN := Lib.hid (show Txn.dec (c0 :: r0) = none from by rw [HDEC.out, if_neg (fun h => HEN.out h.1)])
      have HPF := Lib.hid (show TxAt wf p Txn.zero (.slice none 0 0) from HPF.out)
      obtain ⟨p0, p1, p2, p3, p4, p5, p6, p7⟩ := HPF.out.cells
      have u0 := HPF.out.free 0
      have u1 := HPF.out.free 1
      have u2 := HPF.out.free 2
      have u3 := HPF.out.free 3
      have u4 := HPF.out.free 4
      have u5 := HPF.out.free 5
      have u6 := HPF.out.free 6
      have u7 := HPF.out.free 7
      go_wp2
      exact bodyPost_ret (ret_put rfl _ wf p Txn.zero (.slice none 0 0) rfl HPF.out) rfl (decTx_bad HNN.out (HBF.out.trans ((putTx_only wf p Txn.zero (.slice none 0 0)).below HLP.out HBF.out.size)))
    subst hE
    have HCK := Lib.hid (fun w' h => xcheck_any xx (.slice none 0 0) w' h)
    unfold xval at HCK
    go_wp2_with fail
    refine HE.out.mono ?_
    rintro e wf ⟨rfl, ho⟩
    have HPF := Lib.hid (show TxAt wf p Txn.zero (.slice none 0 0) from (ho.block p (lt_of_heap HDX.out.rp) HDX.out.pg).trans HDX.out.rp)
    have HXF := Lib.hid (show TxAt wf q xx (.slice none 0 0) from (ho.block q (lt_of_heap HDX.out.rx) (fun e => HDX.out.gq e.symm)).trans HDX.out.rx)
    have HBF := Lib.hid (HDX.out.only ho HDX.out.lg)
    have HLP := Lib.hid HDX.out.hp
    have HOF := Lib.hid (HOW.out.only ho (typ_not HDX.out.rg (by decide)))
    clear ho
    obtain ⟨x0, x1, x2, x3, x4, x5, x6, x7⟩ := HXF.out.cells
    go_wp2_with fail
    refine (HCK.out _ HOF.out.mems).mono ?_
    rintro e wg ⟨rfl, hbg⟩
    have HPF := Lib.hid (HPF.out.below hbg)
    have HXF := Lib.hid (HXF.out.below hbg)
    have HBF := Lib.hid (bchain HBF.out hbg)
    have HOF := Lib.hid (HOF.out.below hbg)
    clear hbg x0 x1 x2 x3 x4 x5 x6 x7
    cases hf : Txn.fine xx with
    | false =>
      rw [if_neg (by decide)]
      have HNN := Lib.hid (show Txn.dec (c0 :: r0) = none from by rw [HDEC.out, if_neg (fun h => by rw [hf] at h; exact absurd h.2 (by decide))])
      clear hf
      have HPF := Lib.hid (show TxAt wg p Txn.zero (.slice none 0 0) from HPF.out)
      obtain ⟨p0, p1, p2, p3, p4, p5, p6, p7⟩ := HPF.out.cells
      have u0 := HPF.out.free 0
      have u1 := HPF.out.free 1
      have u2 := HPF.out.free 2
      have u3 := HPF.out.free 3
      have u4 := HPF.out.free 4
      have u5 := HPF.out.free 5
      have u6 := HPF.out.free 6
      have u7 := HPF.out.free 7
      go_wp2
      exact bodyPost_ret (ret_put rfl _ wg p Txn.zero (.slice none 0 0) rfl HPF.out) rfl (decTx_bad HNN.out (HBF.out.trans ((putTx_only wg p Txn.zero (.slice none 0 0)).below HLP.out HBF.out.size)))
    | true =>
    rw [if_pos rfl]
    have HNN := Lib.hid (show Txn.dec (c0 :: r0) = some xx from by rw [HDEC.out, if_pos ⟨trivial, hf⟩])
    clear hf
    obtain ⟨x0, x1, x2, x3, x4, x5, x6, x7⟩ := HXF.out.cells
    obtain ⟨p0, p1, p2, p3, p4, p5, p6, p7⟩ := HPF.out.cells
    have u0 := HPF.out.free 0
    have u1 := HPF.out.free 1
    have u2 := HPF.out.free 2
    have u3 := HPF.out.free 3
    have u4 := HPF.out.free 4
    have u5 := HPF.out.free 5
    have u6 := HPF.out.free 6
    have u7 := HPF.out.free 7
    go_wp2
    exact bodyPost_ret (ret_put rfl _ wg p xx (.slice none 0 0) rfl HPF.out) rfl (decTx_good HNN.out (HOF.out.only (putTx_only wg p xx (.slice none 0 0)) (typ_not HPF.out (by decide))) (HBF.out.trans ((putTx_only wg p xx (.slice none 0 0)).below HLP.out HBF.out.size)))
set_option maxRecDepth 100000 in
set_option maxHeartbeats 8000000 in
theorem xDecodeTx_4 (c0 : UInt8) (r0 : List UInt8) (w : World) (hl : r0.length ≤ 999999) (k1 : ((c0.toNat : Nat) : Int) ≠ 1) (k2 : ((c0.toNat : Nat) : Int) ≠ 2) (k3 : ((c0.toNat : Nat) : Int) ≠ 3) (k4 : ((c0.toNat : Nat) : Int) = 4) :
    Calls Tryd.prog 12 #[.string ⟨(c0 :: r0).toArray⟩] w (DecTx (c0 :: r0) w) := by
  have hb0 : Below w.heap.size w (w.alloc (.cells #[.int .i64 0, .string ⟨#[]⟩, .int .i64 0, .string ⟨#[]⟩, .int .i64 0, .string ⟨#[]⟩, .string ⟨#[]⟩, .slice none 0 0] 24)) := (Below.refl _ w).alloc (Nat.le_refl _) _
  have hP : TxAt (w.alloc (.cells #[.int .i64 0, .string ⟨#[]⟩, .int .i64 0, .string ⟨#[]⟩, .int .i64 0, .string ⟨#[]⟩, .string ⟨#[]⟩, .slice none 0 0] 24)) w.heap.size Txn.zero (.slice none 0 0) := heap_alloc_new w _
  obtain ⟨w1, hw1⟩ : ∃ w1, w.alloc (.cells #[.int .i64 0, .string ⟨#[]⟩, .int .i64 0, .string ⟨#[]⟩, .int .i64 0, .string ⟨#[]⟩, .string ⟨#[]⟩, .slice none 0 0] 24) = w1 := ⟨_, rfl⟩
  rw [hw1] at hb0 hP
  have HP := Lib.hid hP
  have HB := Lib.hid hb0
  have HR := Lib.hid (read_any (c0 :: r0) w1)
  have HL := Lib.hid hl
  have HBY := Lib.hid (fun g w' h => bytes_any 1 (c0 :: r0) g w' h (by have := HL.out; simp; omega))
  rw [show Code.bytesR 1 (c0 :: r0) = ([c0], r0, 0) from by unfold Code.bytesR; rw [if_neg (by decide), if_neg (by simp)]; rfl] at HBY
  dsimp only at HBY
  have hix : ∀ h, (⟨[c0].toArray⟩ : ByteArray)[0]'h = c0 := fun _ => rfl
  have hcb := c0.toNat_lt
  have hw64 : wrap64 ((c0.toNat : Nat) : Int) = (c0.toNat : Int) := by unfold wrap64; omega
  have hwk : IntKind.i64.wrap ((c0.toNat : Nat) : Int) = (c0.toNat : Int) := by unfold IntKind.wrap; simp [IntKind.bits, IntKind.signed]; omega
  have HDEC := Lib.hid (Txn.decC c0 r0)
  have HRX : Hid (Txn.readC c0 r0 = Txn.readK (c0.toNat : Nat) (Tm.rdT 6 (r0, 0)).1 ((Pw.rdN (Tm.rdT 6 (r0, 0)).2).1 : Nat) (Pw.rdN (Tm.rdT 6 (r0, 0)).2).2) := Lib.hid rfl
  have HT1 := Lib.hid (fun g w' h => xtext_st 6 (r0, 0) g w' h (by dsimp only; have := HL.out; omega))
  have HL1 := Lib.hid (Tm.rdT_le 6 (r0, 0))
  obtain ⟨⟨f, st1⟩, h1⟩ : ∃ p, Tm.rdT 6 (r0, 0) = p := ⟨_, rfl⟩
  rw [h1] at HRX HT1 HL1
  dsimp only at HRX HT1 HL1
  have HT2 := Lib.hid (fun g w' h => rnum_st st1 g w' h (by have := HL.out; have := HL1.out; omega))
  have HL2 := Lib.hid (Pw.rdN_le st1)
  obtain ⟨⟨n, st2⟩, h2⟩ : ∃ p, Pw.rdN st1 = p := ⟨_, rfl⟩
  rw [h2] at HRX HT2 HL2
  dsimp only at HRX HT2 HL2
  have HLE : Hid (st2.1.length ≤ 1000000) := Lib.hid (by have := HL.out; have := HL1.out; have := HL2.out; omega)
  obtain ⟨k, hk⟩ : ∃ k : Int, ((c0.toNat : Nat) : Int) = k := ⟨_, rfl⟩
  rw [hk] at hw64 hwk HRX
  rw [hk] at k1 k2 k3 k4
  have K1 := Lib.hid k1
  clear k1
  have K2 := Lib.hid k2
  clear k2
  have K3 := Lib.hid k3
  clear k3
  have K4 := Lib.hid k4
  clear k4
  obtain ⟨p, hp⟩ : ∃ p, w.heap.size = p := ⟨_, rfl⟩
  rw [hp] at HP
  have HLP := Lib.hid (Nat.le_of_eq hp)
  clear h1 h2 hl hcb hb0 hP
  go_enter Tryd.func12, Tryd.ntmps12
  go_upto_region 1 with fail
  try rw [hw1]
  try rw [hp]
  clear hw1 hp
  go_wp2_with fail
  refine HR.out.mono ?_
  rintro e w2 ⟨rfl, hr, hb2⟩
  have HP2 := Lib.hid (HP.out.below hb2)
  have HB2 := Lib.hid (bchain HB.out hb2)
  have HG : Hid (w.heap.size ≤ w1.heap.size) := Lib.hid HB.out.size
  have HPG : Hid (p ≠ w1.heap.size) := Lib.hid (Nat.ne_of_lt (lt_of_heap HP.out))
  obtain ⟨g, hg⟩ : ∃ g, w1.heap.size = g := ⟨_, rfl⟩
  rw [hg] at hr HG HPG
  try rw [hg]
  have HR2 := Lib.hid hr
  clear hr hb2 hg
  have HT1 := Lib.hid (HT1.out g)
  have HT2 := Lib.hid (HT2.out g)
  go_wp2_with fail
  refine (HBY.out g w2 HR2.out).mono ?_
  rintro e w3 ⟨rfl, hr, ho⟩
  have HP3 := Lib.hid (show TxAt w3 p Txn.zero (.slice none 0 0) from (ho.block p (lt_of_heap HP2.out) HPG.out).trans HP2.out)
  have HB3 := Lib.hid (HB2.out.trans (ho.below HG.out HB2.out.size))
  have HR3 := Lib.hid hr
  clear hr ho HBY HR HR2 HB2 HP2 HB HP
  go_upto_region 5 with fail
  have HGLT := Lib.hid HR3.out.lt
  refine region_inv (fun Lq aq w' => ∃ v14 v15 v16 v17 v18 v19 v20 v21 v6 : Value, aq = ⟨#[Value.string { data := (c0 :: r0).toArray }, undef, Value.pointer (some { block := p, off := 0 }), Value.int IntKind.i64 0, Value.pointer (some { block := g, off := 0 }), Value.string { data := [c0].toArray }, v6, Value.string { data := (c0 :: r0).toArray }, Value.pointer (some { block := g, off := 0 }), Value.pointer (some { block := g, off := 0 }), Value.string { data := [c0].toArray }, Value.string { data := [c0].toArray }, Value.bool false, undef, v14, v15, v16, v17, v18, v19, v20, v21, undef, undef, undef, undef, undef, undef, undef, undef, undef, undef, undef, undef, undef, undef, undef, undef, undef, undef, undef, undef, undef, undef, undef, undef, undef, undef, undef, undef, undef, undef, undef, undef, undef, undef, undef, undef, undef, undef, undef, undef, undef, undef], []⟩ ∧ DkB w w' p ∧ DkR g r0 st1 st2 w' Lq[4]? Lq[6]? ∧ g < w'.heap.size ∧ (Lq[0]? = some true → v14 = .string ⟨[c0].toArray⟩) ∧ (Lq[1]? = some true → v15 = .int .u8 k) ∧ (Lq[2]? = some true → v16 = .int .i64 k) ∧ (Lq[3]? = some true → v17 = .pointer (some ⟨g, 0, none⟩)) ∧ (Lq[4]? = some true → v18 = .string ⟨f.toArray⟩) ∧ (Lq[5]? = some true → v19 = .pointer (some ⟨g, 0, none⟩)) ∧ (Lq[6]? = some true → v20 = .int .i64 (n : Int)) ∧ (Lq[7]? = some true → v21 = .agg #[.int .i64 k, .string ⟨f.toArray⟩, .int .i64 (n : Int), .string ⟨#[]⟩, .int .i64 0, .string ⟨#[]⟩, .string ⟨#[]⟩, .slice none 0 0]) ∧ DkQ w p g ⟨k, f, (n : Int), [], 0, [], [], []⟩ w' Lq[8]? Lq[9]? v6 ∧ (Lq[9]? = some true → Lq[8]? = some true)) (by rfl) ?_ ?_ ?_
  · exact ⟨_, _, _, _, _, _, _, _, _, rfl, ⟨HB3.out.drew, HP3.out⟩, ⟨fun _ => ⟨by simp, HR3.out⟩, fun h => by simp at h, fun h => by simp at h⟩, HGLT.out, (fun h => by simp at h), (fun h => by simp at h), (fun h => by simp at h), (fun h => by simp at h), (fun h => by simp at h), (fun h => by simp at h), (fun h => by simp at h), (fun h => by simp at h), (fun h => by simp at h), (fun h => by simp at h)⟩
  · intro Lq aq w1r hL hI j o ho hj K hK
    obtain ⟨v14, v15, v16, v17, v18, v19, v20, v21, v6, rfl, hB, x0, x1, h0, h1, h2, h3, h4, h5, h6, h7, h8, h9⟩ := hI
    obtain ⟨b0, b1, b2, b3, b4, b5, b6, b7, b8, b9, rfl⟩ : ∃ b0 b1 b2 b3 b4 b5 b6 b7 b8 b9, Lq = [b0, b1, b2, b3, b4, b5, b6, b7, b8, b9] := by
      match Lq, hL with
      | [b0, b1, b2, b3, b4, b5, b6, b7, b8, b9], _ => exact ⟨b0, b1, b2, b3, b4, b5, b6, b7, b8, b9, rfl⟩
    have hi2 := (List.mem_filter.1 hj).2
    clear hj hL
    rcases j with _ | _ | _ | _ | _ | _ | _ | _ | _ | _ | j
    · obtain rfl := Option.some.inj ho
      clear ho
      rw [if_pos (by rfl)]
      go_simp
      exact hK _ _ ⟨_, v15, v16, v17, v18, v19, v20, v21, v6, rfl, hB, x0, x1, (fun _ => rfl), h1, h2, h3, h4, h5, h6, h7, h8, h9⟩
    · obtain rfl := Option.some.inj ho
      simp [Region.binds] at hi2
      obtain rfl := h0 (by simp [hi2])
      clear ho hi2
      rw [if_pos (by rfl)]
      go_simp
      exact hK _ _ ⟨_, _, v16, v17, v18, v19, v20, v21, v6, rfl, hB, x0, x1, (fun _ => rfl), (fun _ => rfl), h2, h3, h4, h5, h6, h7, h8, h9⟩
    · obtain rfl := Option.some.inj ho
      simp [Region.binds] at hi2
      obtain rfl := h1 (by simp [hi2])
      clear ho hi2
      rw [if_pos (by rfl)]
      go_simp
      exact hK _ _ ⟨v14, _, _, v17, v18, v19, v20, v21, v6, rfl, hB, x0, x1, h0, (fun _ => rfl), (fun _ => rfl), h3, h4, h5, h6, h7, h8, h9⟩
    · obtain rfl := Option.some.inj ho
      clear ho
      rw [if_pos (by rfl)]
      go_simp
      exact hK _ _ ⟨v14, v15, v16, _, v18, v19, v20, v21, v6, rfl, hB, x0, x1, h0, h1, h2, (fun _ => rfl), h4, h5, h6, h7, h8, h9⟩
    · obtain rfl := Option.some.inj ho
      simp [Region.binds] at hi2
      obtain rfl := h3 (by simp [hi2])
      clear ho
      rw [if_pos (by rfl)]
      go_simp
      obtain ⟨hn6, hrd⟩ := x0.1 (by simp [hi2])
      refine (HT1.out _ hrd).mono ?_
      rintro r w2 ⟨rfl, hr, ho⟩
      have hB2 := hB.only ho HG.out HPG.out
      exact hK _ _ ⟨v14, v15, v16, _, _, v19, v20, v21, v6, rfl, hB2, ⟨fun h => absurd rfl h, fun _ _ => hr, fun h => absurd h hn6⟩, (Nat.lt_of_lt_of_le x1 ho.size), h0, h1, h2, (fun _ => rfl), (fun _ => rfl), h5, h6, h7, (h8.only ho), h9⟩
    · obtain rfl := Option.some.inj ho
      clear ho
      rw [if_pos (by rfl)]
      go_simp
      exact hK _ _ ⟨v14, v15, v16, v17, v18, _, v20, v21, v6, rfl, hB, x0, x1, h0, h1, h2, h3, h4, (fun _ => rfl), h6, h7, h8, h9⟩
    · obtain rfl := Option.some.inj ho
      simp [Region.binds] at hi2
      obtain rfl := h5 (by simp [hi2])
      obtain rfl := h4 (by simp [hi2])
      clear ho
      rw [if_pos (by rfl)]
      go_simp
      have hrd := x0.2.1 (by simp [hi2]) (by simp [hi2])
      refine (HT2.out _ hrd).mono ?_
      rintro r w2 ⟨rfl, hr, ho⟩
      have hB2 := hB.only ho HG.out HPG.out
      exact hK _ _ ⟨v14, v15, v16, v17, _, _, _, v21, v6, rfl, hB2, ⟨fun h => absurd (by simp [hi2]) h, fun _ h => absurd rfl h, fun _ => hr⟩, (Nat.lt_of_lt_of_le x1 ho.size), h0, h1, h2, h3, (fun _ => rfl), (fun _ => rfl), (fun _ => rfl), h7, (h8.only ho), h9⟩
    · obtain rfl := Option.some.inj ho
      simp [Region.binds] at hi2
      obtain rfl := h2 (by simp [hi2])
      obtain rfl := h4 (by simp [hi2])
      obtain rfl := h6 (by simp [hi2])
      clear ho hi2
      rw [if_pos (by rfl)]
      go_simp
      exact hK _ _ ⟨v14, v15, _, v17, _, v19, _, _, v6, rfl, hB, x0, x1, h0, h1, (fun _ => rfl), h3, (fun _ => rfl), h5, (fun _ => rfl), (fun _ => rfl), h8, h9⟩
    · obtain rfl := Option.some.inj ho
      simp [Region.binds] at hi2
      clear ho
      rw [if_pos (by rfl)]
      go_simp
      have hbn : Below w1r.heap.size w1r (w1r.alloc (.cells #[.int .i64 0, .string ⟨#[]⟩, .int .i64 0, .string ⟨#[]⟩, .int .i64 0, .string ⟨#[]⟩, .string ⟨#[]⟩, .slice none 0 0] 24)) := (Below.refl _ w1r).alloc (Nat.le_refl _) _
      have hB2 := hB.below hbn
      have hgl := x1
      exact hK _ _ ⟨v14, v15, v16, v17, v18, v19, v20, v21, _, rfl, hB2, (x0.below hbn), (Nat.lt_of_lt_of_le x1 hbn.size), h0, h1, h2, h3, h4, h5, h6, h7, (fun _ => ⟨_, rfl, Nat.ne_of_lt (lt_of_heap hB.2), Nat.ne_of_lt hgl, hB.1.size, fun _ => heap_alloc_new w1r _, fun h => absurd (h9 h) (by simp [hi2])⟩), (fun _ => rfl)⟩
    · obtain rfl := Option.some.inj ho
      simp [Region.binds] at hi2
      obtain rfl := h0 (by simp [hi2])
      obtain rfl := h1 (by simp [hi2])
      obtain rfl := h2 (by simp [hi2])
      obtain rfl := h3 (by simp [hi2])
      obtain rfl := h4 (by simp [hi2])
      obtain rfl := h5 (by simp [hi2])
      obtain rfl := h6 (by simp [hi2])
      obtain rfl := h7 (by simp [hi2])
      obtain ⟨q, rfl, hpq, hgq, hBq, hz, -⟩ := h8 (by simp [hi2])
      have hz := hz (by simp [hi2])
      obtain ⟨z0, z1, z2, z3, z4, z5, z6, z7⟩ := hz.cells
      have y0 := hz.free 0
      have y1 := hz.free 1
      have y2 := hz.free 2
      have y3 := hz.free 3
      have y4 := hz.free 4
      have y5 := hz.free 5
      have y6 := hz.free 6
      have y7 := hz.free 7
      have hB2 := hB.only (putTx_only w1r q ⟨k, f, (n : Int), [], 0, [], [], []⟩ (.slice none 0 0)) hBq hpq
      clear ho
      rw [if_pos (by rfl)]
      go_simp
      exact hK _ _ ⟨_, _, _, _, _, _, _, _, _, rfl, hB2, (x0.only (putTx_only w1r q ⟨k, f, (n : Int), [], 0, [], [], []⟩ (.slice none 0 0)) hgq), (Nat.lt_of_lt_of_le x1 (putTx_only w1r q ⟨k, f, (n : Int), [], 0, [], [], []⟩ (.slice none 0 0)).size), (fun _ => rfl), (fun _ => rfl), (fun _ => rfl), (fun _ => rfl), (fun _ => rfl), (fun _ => rfl), (fun _ => rfl), (fun _ => rfl), (show DkQ w p g ⟨k, f, (n : Int), [], 0, [], [], []⟩ (putTx w1r q ⟨k, f, (n : Int), [], 0, [], [], []⟩ (.slice none 0 0)) _ _ (.pointer (some ⟨q, 0, none⟩)) from fun _ => ⟨q, rfl, hpq, hgq, hBq, fun h => absurd rfl h, fun _ => hz.put ⟨k, f, (n : Int), [], 0, [], [], []⟩ (.slice none 0 0)⟩), (fun _ => by simp [hi2])⟩
    · simp at ho
  · intro Lq aq w2 hL hr hI
    obtain ⟨v14, v15, v16, v17, v18, v19, v20, v21, v6, rfl, hB, x0, x1, h0, h1, h2, h3, h4, h5, h6, h7, h8, h9⟩ := hI
    obtain ⟨b0, b1, b2, b3, b4, b5, b6, b7, b8, b9, rfl⟩ : ∃ b0 b1 b2 b3 b4 b5 b6 b7 b8 b9, Lq = [b0, b1, b2, b3, b4, b5, b6, b7, b8, b9] := by
      match Lq, hL with
      | [b0, b1, b2, b3, b4, b5, b6, b7, b8, b9], _ => exact ⟨b0, b1, b2, b3, b4, b5, b6, b7, b8, b9, rfl⟩
    have hr2 := List.filter_eq_nil_iff.1 hr
    clear hr hL
    have k0 := hr2 0 (by simp)
    have k1 := hr2 1 (by simp)
    have k2 := hr2 2 (by simp)
    have k3 := hr2 3 (by simp)
    have k4 := hr2 4 (by simp)
    have k5 := hr2 5 (by simp)
    have k6 := hr2 6 (by simp)
    have k7 := hr2 7 (by simp)
    have k8 := hr2 8 (by simp)
    have k9 := hr2 9 (by simp)
    clear hr2
    simp [Region.binds] at k0
    subst k0
    simp [Region.binds] at k1
    subst k1
    simp [Region.binds] at k2
    subst k2
    simp [Region.binds] at k3
    subst k3
    simp [Region.binds] at k4
    subst k4
    simp [Region.binds] at k5
    subst k5
    simp [Region.binds] at k6
    subst k6
    simp [Region.binds] at k7
    subst k7
    simp [Region.binds] at k8
    subst k8
    simp [Region.binds] at k9
    subst k9
    obtain rfl := h0 rfl
    obtain rfl := h1 rfl
    obtain rfl := h2 rfl
    obtain rfl := h3 rfl
    obtain rfl := h4 rfl
    obtain rfl := h5 rfl
    obtain rfl := h6 rfl
    obtain rfl := h7 rfl
    obtain ⟨q, rfl, hpq, hgq, hBq, -, hx⟩ := h8 rfl
    have hx := hx rfl
    have hrd := x0.2.2 rfl
    have HD7 : Hid (TxD 72 w w2 p g q ⟨k, f, (n : Int), [], 0, [], [], []⟩ (.slice none 0 0) st2) := Lib.hid ⟨hB.2, hrd, hx, hB.1, HLP.out, HPG.out, hpq, hgq, HG.out, hBq⟩
    clear h8 h9 hx hrd hB x0 x1 HP3 HB3 HR3 HT1 HT2 hpq hgq hBq hix hw64 hwk
    have r1 : (k == 1) = false := beq_eq_false_iff_ne.2 K1.out
    have r2 : (k == 2) = false := beq_eq_false_iff_ne.2 K2.out
    have r3 : (k == 3) = false := beq_eq_false_iff_ne.2 K3.out
    have r4 : (k == 4) = true := beq_iff_eq.2 K4.out
    have HRX1 := HRX.out
    unfold Txn.readK at HRX1
    rw [if_neg K1.out, if_neg K2.out, if_neg K3.out, if_pos K4.out] at HRX1
    have b7 := HD7.out.rx.cells.1
    dsimp only at b7
    have HTN := Tm.rdT_len 65536 st2
    have HT3 := Lib.hid (fun w' h => xtext_st 65536 st2 g w' h (by have := HLE.out; omega))
    obtain ⟨⟨d, st3⟩, h3⟩ : ∃ p, Tm.rdT 65536 st2 = p := ⟨_, rfl⟩
    rw [show Tm.rdT (65536 : Int) st2 = (d, st3) from h3] at HRX1 HT3
    rw [show Tm.rdT ((65536 : Nat) : Int) st2 = (d, st3) from h3] at HTN
    dsimp only at HRX1 HT3 HTN
    rw [HRX1] at HDEC
    dsimp only at HDEC
    have HPD := Lib.hid (fun w' => decode_any d w' (by omega))
    clear h3 HRX1 HRX HTN
    go_wp2_with fail
    refine (HT3.out _ HD7.out.rg).mono ?_
    rintro e w8 ⟨rfl, hr, ho⟩
    have HD8 := Lib.hid (HD7.out.read st3 hr ho)
    clear hr ho b7
    go_wp2_with fail
    refine (HPD.out _).mono ?_
    rintro e w9 ⟨z, rfl, hown, hb9⟩
    have HD9 := Lib.hid (HD8.out.below hb9)
    have HOW := Lib.hid (OwnM.from_ hown HD8.out.bel.size)
    clear hown hb9
    obtain ⟨Az, capz, rfl⟩ := HOW.out.mems.form
    obtain ⟨C, hC⟩ : ∃ C, Pw.decC d = C := ⟨_, rfl⟩
    try rw [hC]
    clear hC
    obtain ⟨L, hL⟩ : ∃ L, Pw.decL d = L := ⟨_, rfl⟩
    rw [hL] at HOW HDEC
    try rw [hL]
    clear hL
    have b9 := HD9.out.rx.cells.2.2.2.2.2.2.2
    have v9 := HD9.out.rx.free 7
    have HD10 := Lib.hid (HD9.out.set (HD9.out.rx.setMem L (.slice Az L.length capz)))
    have HOW := Lib.hid (HOW.out.only ((Only.refl q w9).setCell (p := ⟨q, 7, none⟩) rfl (.slice Az L.length capz)) (typ_not HD9.out.rx (by decide)))
    obtain ⟨w10, hw10⟩ : ∃ w', w9.setCell ⟨q, 7, none⟩ (.slice Az L.length capz) = w' := ⟨_, rfl⟩
    rw [hw10] at HD10 HOW
    have HDX : Hid (TxD 72 w w10 p g q (⟨k, f, (n : Int), [], 0, [], [], L⟩ : X) (.slice Az L.length capz) st3) := HD10
    have HOW : Hid (OwnM w10 w.heap.size (.slice Az L.length capz) (⟨k, f, (n : Int), [], 0, [], [], L⟩ : X).mem) := HOW
    obtain ⟨xx, hX⟩ : ∃ xx, (⟨k, f, (n : Int), [], 0, [], [], L⟩ : X) = xx := ⟨_, rfl⟩
    rw [hX] at HDEC HDX HOW
    clear hX
    have HE := Lib.hid (rend_st st3 g w10 HDX.out.rg)
    obtain ⟨E, hE⟩ : ∃ E, Pw.endC st3 = E := ⟨_, rfl⟩
    rw [hE] at HE HDEC
    clear hE
    by_cases hE : E = 0
    case neg =>
      have hE2 : (E != 0) = true := by rw [bne_iff_ne]; exact hE
      have HEN := Lib.hid hE
      clear hE
      go_wp2_with fail
      refine HE.out.mono ?_
      rintro e wf ⟨rfl, ho⟩
      have HPF := Lib.hid ((ho.block p (lt_of_heap HDX.out.rp) HDX.out.pg).trans HDX.out.rp)
      have HBF := Lib.hid (HDX.out.only ho HDX.out.lg)
      have HLP := Lib.hid HDX.out.hp
      clear ho
      have HNN := Lib.hid (show Txn.dec (c0 :: r0) = none from by rw [HDEC.out, if_neg (fun h => HEN.out h.1)])
      have HPF := Lib.hid (show TxAt wf p Txn.zero (.slice none 0 0) from HPF.out)
      obtain ⟨p0, p1, p2, p3, p4, p5, p6, p7⟩ := HPF.out.cells
      have u0 := HPF.out.free 0
      have u1 := HPF.out.free 1
      have u2 := HPF.out.free 2
      have u3 := HPF.out.free 3
      have u4 := HPF.out.free 4
      have u5 := HPF.out.free 5
      have u6 := HPF.out.free 6
      have u7 := HPF.out.free 7
      go_wp2
      exact bodyPost_ret (ret_put rfl _ wf p Txn.zero (.slice none 0 0) rfl HPF.out) rfl (decTx_bad HNN.out (HBF.out.trans ((putTx_only wf p Txn.zero (.slice none 0 0)).below HLP.out HBF.out.size)))
    subst hE
    have HCK := Lib.hid (fun w' h => xcheck_any xx (.slice Az L.length capz) w' h)
    unfold xval at HCK
    go_wp2_with fail
    refine HE.out.mono ?_
    rintro e wf ⟨rfl, ho⟩
    have HPF := Lib.hid (show TxAt wf p Txn.zero (.slice none 0 0) from (ho.block p (lt_of_heap HDX.out.rp) HDX.out.pg).trans HDX.out.rp)
    have HXF := Lib.hid (show TxAt wf q xx (.slice Az L.length capz) from (ho.block q (lt_of_heap HDX.out.rx) (fun e => HDX.out.gq e.symm)).trans HDX.out.rx)
    have HBF := Lib.hid (HDX.out.only ho HDX.out.lg)
    have HLP := Lib.hid HDX.out.hp
    have HOF := Lib.hid (HOW.out.only ho (typ_not HDX.out.rg (by decide)))
    clear ho
    obtain ⟨x0, x1, x2, x3, x4, x5, x6, x7⟩ := HXF.out.cells
    go_wp2_with fail
    refine (HCK.out _ HOF.out.mems).mono ?_
    rintro e wg ⟨rfl, hbg⟩
    have HPF := Lib.hid (HPF.out.below hbg)
    have HXF := Lib.hid (HXF.out.below hbg)
    have HBF := Lib.hid (bchain HBF.out hbg)
    have HOF := Lib.hid (HOF.out.below hbg)
    clear hbg x0 x1 x2 x3 x4 x5 x6 x7
    cases hf : Txn.fine xx with
    | false =>
      rw [if_neg (by decide)]
      have HNN := Lib.hid (show Txn.dec (c0 :: r0) = none from by rw [HDEC.out, if_neg (fun h => by rw [hf] at h; exact absurd h.2 (by decide))])
      clear hf
      have HPF := Lib.hid (show TxAt wg p Txn.zero (.slice none 0 0) from HPF.out)
      obtain ⟨p0, p1, p2, p3, p4, p5, p6, p7⟩ := HPF.out.cells
      have u0 := HPF.out.free 0
      have u1 := HPF.out.free 1
      have u2 := HPF.out.free 2
      have u3 := HPF.out.free 3
      have u4 := HPF.out.free 4
      have u5 := HPF.out.free 5
      have u6 := HPF.out.free 6
      have u7 := HPF.out.free 7
      go_wp2
      exact bodyPost_ret (ret_put rfl _ wg p Txn.zero (.slice none 0 0) rfl HPF.out) rfl (decTx_bad HNN.out (HBF.out.trans ((putTx_only wg p Txn.zero (.slice none 0 0)).below HLP.out HBF.out.size)))
    | true =>
    rw [if_pos rfl]
    have HNN := Lib.hid (show Txn.dec (c0 :: r0) = some xx from by rw [HDEC.out, if_pos ⟨trivial, hf⟩])
    clear hf
    obtain ⟨x0, x1, x2, x3, x4, x5, x6, x7⟩ := HXF.out.cells
    obtain ⟨p0, p1, p2, p3, p4, p5, p6, p7⟩ := HPF.out.cells
    have u0 := HPF.out.free 0
    have u1 := HPF.out.free 1
    have u2 := HPF.out.free 2
    have u3 := HPF.out.free 3
    have u4 := HPF.out.free 4
    have u5 := HPF.out.free 5
    have u6 := HPF.out.free 6
    have u7 := HPF.out.free 7
    go_wp2
    exact bodyPost_ret (ret_put rfl _ wg p xx (.slice Az L.length capz) rfl HPF.out) rfl (decTx_good HNN.out (HOF.out.only (putTx_only wg p xx (.slice Az L.length capz)) (typ_not HPF.out (by decide))) (HBF.out.trans ((putTx_only wg p xx (.slice Az L.length capz)).below HLP.out HBF.out.size)))
set_option maxRecDepth 100000 in
set_option maxHeartbeats 8000000 in
theorem xDecodeTx_5 (c0 : UInt8) (r0 : List UInt8) (w : World) (hl : r0.length ≤ 999999) (k1 : ((c0.toNat : Nat) : Int) ≠ 1) (k2 : ((c0.toNat : Nat) : Int) ≠ 2) (k3 : ((c0.toNat : Nat) : Int) ≠ 3) (k4 : ((c0.toNat : Nat) : Int) ≠ 4) :
    Calls Tryd.prog 12 #[.string ⟨(c0 :: r0).toArray⟩] w (DecTx (c0 :: r0) w) := by
  have hb0 : Below w.heap.size w (w.alloc (.cells #[.int .i64 0, .string ⟨#[]⟩, .int .i64 0, .string ⟨#[]⟩, .int .i64 0, .string ⟨#[]⟩, .string ⟨#[]⟩, .slice none 0 0] 24)) := (Below.refl _ w).alloc (Nat.le_refl _) _
  have hP : TxAt (w.alloc (.cells #[.int .i64 0, .string ⟨#[]⟩, .int .i64 0, .string ⟨#[]⟩, .int .i64 0, .string ⟨#[]⟩, .string ⟨#[]⟩, .slice none 0 0] 24)) w.heap.size Txn.zero (.slice none 0 0) := heap_alloc_new w _
  obtain ⟨w1, hw1⟩ : ∃ w1, w.alloc (.cells #[.int .i64 0, .string ⟨#[]⟩, .int .i64 0, .string ⟨#[]⟩, .int .i64 0, .string ⟨#[]⟩, .string ⟨#[]⟩, .slice none 0 0] 24) = w1 := ⟨_, rfl⟩
  rw [hw1] at hb0 hP
  have HP := Lib.hid hP
  have HB := Lib.hid hb0
  have HR := Lib.hid (read_any (c0 :: r0) w1)
  have HL := Lib.hid hl
  have HBY := Lib.hid (fun g w' h => bytes_any 1 (c0 :: r0) g w' h (by have := HL.out; simp; omega))
  rw [show Code.bytesR 1 (c0 :: r0) = ([c0], r0, 0) from by unfold Code.bytesR; rw [if_neg (by decide), if_neg (by simp)]; rfl] at HBY
  dsimp only at HBY
  have hix : ∀ h, (⟨[c0].toArray⟩ : ByteArray)[0]'h = c0 := fun _ => rfl
  have hcb := c0.toNat_lt
  have hw64 : wrap64 ((c0.toNat : Nat) : Int) = (c0.toNat : Int) := by unfold wrap64; omega
  have hwk : IntKind.i64.wrap ((c0.toNat : Nat) : Int) = (c0.toNat : Int) := by unfold IntKind.wrap; simp [IntKind.bits, IntKind.signed]; omega
  have HDEC := Lib.hid (Txn.decC c0 r0)
  have HRX : Hid (Txn.readC c0 r0 = Txn.readK (c0.toNat : Nat) (Tm.rdT 6 (r0, 0)).1 ((Pw.rdN (Tm.rdT 6 (r0, 0)).2).1 : Nat) (Pw.rdN (Tm.rdT 6 (r0, 0)).2).2) := Lib.hid rfl
  have HT1 := Lib.hid (fun g w' h => xtext_st 6 (r0, 0) g w' h (by dsimp only; have := HL.out; omega))
  have HL1 := Lib.hid (Tm.rdT_le 6 (r0, 0))
  obtain ⟨⟨f, st1⟩, h1⟩ : ∃ p, Tm.rdT 6 (r0, 0) = p := ⟨_, rfl⟩
  rw [h1] at HRX HT1 HL1
  dsimp only at HRX HT1 HL1
  have HT2 := Lib.hid (fun g w' h => rnum_st st1 g w' h (by have := HL.out; have := HL1.out; omega))
  have HL2 := Lib.hid (Pw.rdN_le st1)
  obtain ⟨⟨n, st2⟩, h2⟩ : ∃ p, Pw.rdN st1 = p := ⟨_, rfl⟩
  rw [h2] at HRX HT2 HL2
  dsimp only at HRX HT2 HL2
  have HLE : Hid (st2.1.length ≤ 1000000) := Lib.hid (by have := HL.out; have := HL1.out; have := HL2.out; omega)
  obtain ⟨k, hk⟩ : ∃ k : Int, ((c0.toNat : Nat) : Int) = k := ⟨_, rfl⟩
  rw [hk] at hw64 hwk HRX
  rw [hk] at k1 k2 k3 k4
  have K1 := Lib.hid k1
  clear k1
  have K2 := Lib.hid k2
  clear k2
  have K3 := Lib.hid k3
  clear k3
  have K4 := Lib.hid k4
  clear k4
  obtain ⟨p, hp⟩ : ∃ p, w.heap.size = p := ⟨_, rfl⟩
  rw [hp] at HP
  have HLP := Lib.hid (Nat.le_of_eq hp)
  clear h1 h2 hl hcb hb0 hP
  go_enter Tryd.func12, Tryd.ntmps12
  go_upto_region 1 with fail
  try rw [hw1]
  try rw [hp]
  clear hw1 hp
  go_wp2_with fail
  refine HR.out.mono ?_
  rintro e w2 ⟨rfl, hr, hb2⟩
  have HP2 := Lib.hid (HP.out.below hb2)
  have HB2 := Lib.hid (bchain HB.out hb2)
  have HG : Hid (w.heap.size ≤ w1.heap.size) := Lib.hid HB.out.size
  have HPG : Hid (p ≠ w1.heap.size) := Lib.hid (Nat.ne_of_lt (lt_of_heap HP.out))
  obtain ⟨g, hg⟩ : ∃ g, w1.heap.size = g := ⟨_, rfl⟩
  rw [hg] at hr HG HPG
  try rw [hg]
  have HR2 := Lib.hid hr
  clear hr hb2 hg
  have HT1 := Lib.hid (HT1.out g)
  have HT2 := Lib.hid (HT2.out g)
  go_wp2_with fail
  refine (HBY.out g w2 HR2.out).mono ?_
  rintro e w3 ⟨rfl, hr, ho⟩
  have HP3 := Lib.hid (show TxAt w3 p Txn.zero (.slice none 0 0) from (ho.block p (lt_of_heap HP2.out) HPG.out).trans HP2.out)
  have HB3 := Lib.hid (HB2.out.trans (ho.below HG.out HB2.out.size))
  have HR3 := Lib.hid hr
  clear hr ho HBY HR HR2 HB2 HP2 HB HP
  go_upto_region 5 with fail
  have HGLT := Lib.hid HR3.out.lt
  refine region_inv (fun Lq aq w' => ∃ v14 v15 v16 v17 v18 v19 v20 v21 v6 : Value, aq = ⟨#[Value.string { data := (c0 :: r0).toArray }, undef, Value.pointer (some { block := p, off := 0 }), Value.int IntKind.i64 0, Value.pointer (some { block := g, off := 0 }), Value.string { data := [c0].toArray }, v6, Value.string { data := (c0 :: r0).toArray }, Value.pointer (some { block := g, off := 0 }), Value.pointer (some { block := g, off := 0 }), Value.string { data := [c0].toArray }, Value.string { data := [c0].toArray }, Value.bool false, undef, v14, v15, v16, v17, v18, v19, v20, v21, undef, undef, undef, undef, undef, undef, undef, undef, undef, undef, undef, undef, undef, undef, undef, undef, undef, undef, undef, undef, undef, undef, undef, undef, undef, undef, undef, undef, undef, undef, undef, undef, undef, undef, undef, undef, undef, undef, undef, undef, undef, undef], []⟩ ∧ DkB w w' p ∧ DkR g r0 st1 st2 w' Lq[4]? Lq[6]? ∧ g < w'.heap.size ∧ (Lq[0]? = some true → v14 = .string ⟨[c0].toArray⟩) ∧ (Lq[1]? = some true → v15 = .int .u8 k) ∧ (Lq[2]? = some true → v16 = .int .i64 k) ∧ (Lq[3]? = some true → v17 = .pointer (some ⟨g, 0, none⟩)) ∧ (Lq[4]? = some true → v18 = .string ⟨f.toArray⟩) ∧ (Lq[5]? = some true → v19 = .pointer (some ⟨g, 0, none⟩)) ∧ (Lq[6]? = some true → v20 = .int .i64 (n : Int)) ∧ (Lq[7]? = some true → v21 = .agg #[.int .i64 k, .string ⟨f.toArray⟩, .int .i64 (n : Int), .string ⟨#[]⟩, .int .i64 0, .string ⟨#[]⟩, .string ⟨#[]⟩, .slice none 0 0]) ∧ DkQ w p g ⟨k, f, (n : Int), [], 0, [], [], []⟩ w' Lq[8]? Lq[9]? v6 ∧ (Lq[9]? = some true → Lq[8]? = some true)) (by rfl) ?_ ?_ ?_
  · exact ⟨_, _, _, _, _, _, _, _, _, rfl, ⟨HB3.out.drew, HP3.out⟩, ⟨fun _ => ⟨by simp, HR3.out⟩, fun h => by simp at h, fun h => by simp at h⟩, HGLT.out, (fun h => by simp at h), (fun h => by simp at h), (fun h => by simp at h), (fun h => by simp at h), (fun h => by simp at h), (fun h => by simp at h), (fun h => by simp at h), (fun h => by simp at h), (fun h => by simp at h), (fun h => by simp at h)⟩
  · intro Lq aq w1r hL hI j o ho hj K hK
    obtain ⟨v14, v15, v16, v17, v18, v19, v20, v21, v6, rfl, hB, x0, x1, h0, h1, h2, h3, h4, h5, h6, h7, h8, h9⟩ := hI
    obtain ⟨b0, b1, b2, b3, b4, b5, b6, b7, b8, b9, rfl⟩ : ∃ b0 b1 b2 b3 b4 b5 b6 b7 b8 b9, Lq = [b0, b1, b2, b3, b4, b5, b6, b7, b8, b9] := by
      match Lq, hL with
      | [b0, b1, b2, b3, b4, b5, b6, b7, b8, b9], _ => exact ⟨b0, b1, b2, b3, b4, b5, b6, b7, b8, b9, rfl⟩
    have hi2 := (List.mem_filter.1 hj).2
    clear hj hL
    rcases j with _ | _ | _ | _ | _ | _ | _ | _ | _ | _ | j
    · obtain rfl := Option.some.inj ho
      clear ho
      rw [if_pos (by rfl)]
      go_simp
      exact hK _ _ ⟨_, v15, v16, v17, v18, v19, v20, v21, v6, rfl, hB, x0, x1, (fun _ => rfl), h1, h2, h3, h4, h5, h6, h7, h8, h9⟩
    · obtain rfl := Option.some.inj ho
      simp [Region.binds] at hi2
      obtain rfl := h0 (by simp [hi2])
      clear ho hi2
      rw [if_pos (by rfl)]
      go_simp
      exact hK _ _ ⟨_, _, v16, v17, v18, v19, v20, v21, v6, rfl, hB, x0, x1, (fun _ => rfl), (fun _ => rfl), h2, h3, h4, h5, h6, h7, h8, h9⟩
    · obtain rfl := Option.some.inj ho
      simp [Region.binds] at hi2
      obtain rfl := h1 (by simp [hi2])
      clear ho hi2
      rw [if_pos (by rfl)]
      go_simp
      exact hK _ _ ⟨v14, _, _, v17, v18, v19, v20, v21, v6, rfl, hB, x0, x1, h0, (fun _ => rfl), (fun _ => rfl), h3, h4, h5, h6, h7, h8, h9⟩
    · obtain rfl := Option.some.inj ho
      clear ho
      rw [if_pos (by rfl)]
      go_simp
      exact hK _ _ ⟨v14, v15, v16, _, v18, v19, v20, v21, v6, rfl, hB, x0, x1, h0, h1, h2, (fun _ => rfl), h4, h5, h6, h7, h8, h9⟩
    · obtain rfl := Option.some.inj ho
      simp [Region.binds] at hi2
      obtain rfl := h3 (by simp [hi2])
      clear ho
      rw [if_pos (by rfl)]
      go_simp
      obtain ⟨hn6, hrd⟩ := x0.1 (by simp [hi2])
      refine (HT1.out _ hrd).mono ?_
      rintro r w2 ⟨rfl, hr, ho⟩
      have hB2 := hB.only ho HG.out HPG.out
      exact hK _ _ ⟨v14, v15, v16, _, _, v19, v20, v21, v6, rfl, hB2, ⟨fun h => absurd rfl h, fun _ _ => hr, fun h => absurd h hn6⟩, (Nat.lt_of_lt_of_le x1 ho.size), h0, h1, h2, (fun _ => rfl), (fun _ => rfl), h5, h6, h7, (h8.only ho), h9⟩
    · obtain rfl := Option.some.inj ho
      clear ho
      rw [if_pos (by rfl)]
      go_simp
      exact hK _ _ ⟨v14, v15, v16, v17, v18, _, v20, v21, v6, rfl, hB, x0, x1, h0, h1, h2, h3, h4, (fun _ => rfl), h6, h7, h8, h9⟩
    · obtain rfl := Option.some.inj ho
      simp [Region.binds] at hi2
      obtain rfl := h5 (by simp [hi2])
      obtain rfl := h4 (by simp [hi2])
      clear ho
      rw [if_pos (by rfl)]
      go_simp
      have hrd := x0.2.1 (by simp [hi2]) (by simp [hi2])
      refine (HT2.out _ hrd).mono ?_
      rintro r w2 ⟨rfl, hr, ho⟩
      have hB2 := hB.only ho HG.out HPG.out
      exact hK _ _ ⟨v14, v15, v16, v17, _, _, _, v21, v6, rfl, hB2, ⟨fun h => absurd (by simp [hi2]) h, fun _ h => absurd rfl h, fun _ => hr⟩, (Nat.lt_of_lt_of_le x1 ho.size), h0, h1, h2, h3, (fun _ => rfl), (fun _ => rfl), (fun _ => rfl), h7, (h8.only ho), h9⟩
    · obtain rfl := Option.some.inj ho
      simp [Region.binds] at hi2
      obtain rfl := h2 (by simp [hi2])
      obtain rfl := h4 (by simp [hi2])
      obtain rfl := h6 (by simp [hi2])
      clear ho hi2
      rw [if_pos (by rfl)]
      go_simp
      exact hK _ _ ⟨v14, v15, _, v17, _, v19, _, _, v6, rfl, hB, x0, x1, h0, h1, (fun _ => rfl), h3, (fun _ => rfl), h5, (fun _ => rfl), (fun _ => rfl), h8, h9⟩
    · obtain rfl := Option.some.inj ho
      simp [Region.binds] at hi2
      clear ho
      rw [if_pos (by rfl)]
      go_simp
      have hbn : Below w1r.heap.size w1r (w1r.alloc (.cells #[.int .i64 0, .string ⟨#[]⟩, .int .i64 0, .string ⟨#[]⟩, .int .i64 0, .string ⟨#[]⟩, .string ⟨#[]⟩, .slice none 0 0] 24)) := (Below.refl _ w1r).alloc (Nat.le_refl _) _
      have hB2 := hB.below hbn
      have hgl := x1
      exact hK _ _ ⟨v14, v15, v16, v17, v18, v19, v20, v21, _, rfl, hB2, (x0.below hbn), (Nat.lt_of_lt_of_le x1 hbn.size), h0, h1, h2, h3, h4, h5, h6, h7, (fun _ => ⟨_, rfl, Nat.ne_of_lt (lt_of_heap hB.2), Nat.ne_of_lt hgl, hB.1.size, fun _ => heap_alloc_new w1r _, fun h => absurd (h9 h) (by simp [hi2])⟩), (fun _ => rfl)⟩
    · obtain rfl := Option.some.inj ho
      simp [Region.binds] at hi2
      obtain rfl := h0 (by simp [hi2])
      obtain rfl := h1 (by simp [hi2])
      obtain rfl := h2 (by simp [hi2])
      obtain rfl := h3 (by simp [hi2])
      obtain rfl := h4 (by simp [hi2])
      obtain rfl := h5 (by simp [hi2])
      obtain rfl := h6 (by simp [hi2])
      obtain rfl := h7 (by simp [hi2])
      obtain ⟨q, rfl, hpq, hgq, hBq, hz, -⟩ := h8 (by simp [hi2])
      have hz := hz (by simp [hi2])
      obtain ⟨z0, z1, z2, z3, z4, z5, z6, z7⟩ := hz.cells
      have y0 := hz.free 0
      have y1 := hz.free 1
      have y2 := hz.free 2
      have y3 := hz.free 3
      have y4 := hz.free 4
      have y5 := hz.free 5
      have y6 := hz.free 6
      have y7 := hz.free 7
      have hB2 := hB.only (putTx_only w1r q ⟨k, f, (n : Int), [], 0, [], [], []⟩ (.slice none 0 0)) hBq hpq
      clear ho
      rw [if_pos (by rfl)]
      go_simp
      exact hK _ _ ⟨_, _, _, _, _, _, _, _, _, rfl, hB2, (x0.only (putTx_only w1r q ⟨k, f, (n : Int), [], 0, [], [], []⟩ (.slice none 0 0)) hgq), (Nat.lt_of_lt_of_le x1 (putTx_only w1r q ⟨k, f, (n : Int), [], 0, [], [], []⟩ (.slice none 0 0)).size), (fun _ => rfl), (fun _ => rfl), (fun _ => rfl), (fun _ => rfl), (fun _ => rfl), (fun _ => rfl), (fun _ => rfl), (fun _ => rfl), (show DkQ w p g ⟨k, f, (n : Int), [], 0, [], [], []⟩ (putTx w1r q ⟨k, f, (n : Int), [], 0, [], [], []⟩ (.slice none 0 0)) _ _ (.pointer (some ⟨q, 0, none⟩)) from fun _ => ⟨q, rfl, hpq, hgq, hBq, fun h => absurd rfl h, fun _ => hz.put ⟨k, f, (n : Int), [], 0, [], [], []⟩ (.slice none 0 0)⟩), (fun _ => by simp [hi2])⟩
    · simp at ho
  · intro Lq aq w2 hL hr hI
    obtain ⟨v14, v15, v16, v17, v18, v19, v20, v21, v6, rfl, hB, x0, x1, h0, h1, h2, h3, h4, h5, h6, h7, h8, h9⟩ := hI
    obtain ⟨b0, b1, b2, b3, b4, b5, b6, b7, b8, b9, rfl⟩ : ∃ b0 b1 b2 b3 b4 b5 b6 b7 b8 b9, Lq = [b0, b1, b2, b3, b4, b5, b6, b7, b8, b9] := by
      match Lq, hL with
      | [b0, b1, b2, b3, b4, b5, b6, b7, b8, b9], _ => exact ⟨b0, b1, b2, b3, b4, b5, b6, b7, b8, b9, rfl⟩
    have hr2 := List.filter_eq_nil_iff.1 hr
    clear hr hL
    have k0 := hr2 0 (by simp)
    have k1 := hr2 1 (by simp)
    have k2 := hr2 2 (by simp)
    have k3 := hr2 3 (by simp)
    have k4 := hr2 4 (by simp)
    have k5 := hr2 5 (by simp)
    have k6 := hr2 6 (by simp)
    have k7 := hr2 7 (by simp)
    have k8 := hr2 8 (by simp)
    have k9 := hr2 9 (by simp)
    clear hr2
    simp [Region.binds] at k0
    subst k0
    simp [Region.binds] at k1
    subst k1
    simp [Region.binds] at k2
    subst k2
    simp [Region.binds] at k3
    subst k3
    simp [Region.binds] at k4
    subst k4
    simp [Region.binds] at k5
    subst k5
    simp [Region.binds] at k6
    subst k6
    simp [Region.binds] at k7
    subst k7
    simp [Region.binds] at k8
    subst k8
    simp [Region.binds] at k9
    subst k9
    obtain rfl := h0 rfl
    obtain rfl := h1 rfl
    obtain rfl := h2 rfl
    obtain rfl := h3 rfl
    obtain rfl := h4 rfl
    obtain rfl := h5 rfl
    obtain rfl := h6 rfl
    obtain rfl := h7 rfl
    obtain ⟨q, rfl, hpq, hgq, hBq, -, hx⟩ := h8 rfl
    have hx := hx rfl
    have hrd := x0.2.2 rfl
    have HD7 : Hid (TxD 72 w w2 p g q ⟨k, f, (n : Int), [], 0, [], [], []⟩ (.slice none 0 0) st2) := Lib.hid ⟨hB.2, hrd, hx, hB.1, HLP.out, HPG.out, hpq, hgq, HG.out, hBq⟩
    clear h8 h9 hx hrd hB x0 x1 HP3 HB3 HR3 HT1 HT2 hpq hgq hBq hix hw64 hwk
    have r1 : (k == 1) = false := beq_eq_false_iff_ne.2 K1.out
    have r2 : (k == 2) = false := beq_eq_false_iff_ne.2 K2.out
    have r3 : (k == 3) = false := beq_eq_false_iff_ne.2 K3.out
    have r4 : (k == 4) = false := beq_eq_false_iff_ne.2 K4.out
    have HRX1 := HRX.out
    unfold Txn.readK at HRX1
    rw [if_neg K1.out, if_neg K2.out, if_neg K3.out, if_neg K4.out] at HRX1
    rw [HRX1] at HDEC
    dsimp only at HDEC
    clear HRX1 HRX
    have b7 := HD7.out.rx.cells.1
    dsimp only at b7
    have HOW : Hid (OwnM w2 w.heap.size (.slice none 0 0) (⟨k, f, (n : Int), [], 0, [], [], []⟩ : X).mem) := Lib.hid (OwnM.nil _ _)
    obtain ⟨xx, hX⟩ : ∃ xx, (⟨k, f, (n : Int), [], 0, [], [], []⟩ : X) = xx := ⟨_, rfl⟩
    rw [hX] at HDEC HD7 HOW
    clear hX
    have HE := Lib.hid (rend_st st2 g w2 HD7.out.rg)
    obtain ⟨E, hE⟩ : ∃ E, Pw.endC st2 = E := ⟨_, rfl⟩
    rw [hE] at HE HDEC
    clear hE
    by_cases hE : E = 0
    case neg =>
      have hE2 : (E != 0) = true := by rw [bne_iff_ne]; exact hE
      have HEN := Lib.hid hE
      clear hE
      go_wp2_with fail
      refine HE.out.mono ?_
      rintro e wf ⟨rfl, ho⟩
      have HPF := Lib.hid ((ho.block p (lt_of_heap HD7.out.rp) HD7.out.pg).trans HD7.out.rp)
      have HBF := Lib.hid (HD7.out.only ho HD7.out.lg)
      have HLP := Lib.hid HD7.out.hp
      clear ho
      have HNN := Lib.hid (show Txn.dec (c0 :: r0) = none from by rw [HDEC.out, if_neg (fun h => HEN.out h.1)])
      have HPF := Lib.hid (show TxAt wf p Txn.zero (.slice none 0 0) from HPF.out)
      obtain ⟨p0, p1, p2, p3, p4, p5, p6, p7⟩ := HPF.out.cells
      have u0 := HPF.out.free 0
      have u1 := HPF.out.free 1
      have u2 := HPF.out.free 2
      have u3 := HPF.out.free 3
      have u4 := HPF.out.free 4
      have u5 := HPF.out.free 5
      have u6 := HPF.out.free 6
      have u7 := HPF.out.free 7
      go_wp2
      exact bodyPost_ret (ret_put rfl _ wf p Txn.zero (.slice none 0 0) rfl HPF.out) rfl (decTx_bad HNN.out (HBF.out.trans ((putTx_only wf p Txn.zero (.slice none 0 0)).below HLP.out HBF.out.size)))
    subst hE
    have HCK := Lib.hid (fun w' h => xcheck_any xx (.slice none 0 0) w' h)
    unfold xval at HCK
    go_wp2_with fail
    refine HE.out.mono ?_
    rintro e wf ⟨rfl, ho⟩
    have HPF := Lib.hid (show TxAt wf p Txn.zero (.slice none 0 0) from (ho.block p (lt_of_heap HD7.out.rp) HD7.out.pg).trans HD7.out.rp)
    have HXF := Lib.hid (show TxAt wf q xx (.slice none 0 0) from (ho.block q (lt_of_heap HD7.out.rx) (fun e => HD7.out.gq e.symm)).trans HD7.out.rx)
    have HBF := Lib.hid (HD7.out.only ho HD7.out.lg)
    have HLP := Lib.hid HD7.out.hp
    have HOF := Lib.hid (HOW.out.only ho (typ_not HD7.out.rg (by decide)))
    clear ho
    obtain ⟨x0, x1, x2, x3, x4, x5, x6, x7⟩ := HXF.out.cells
    go_wp2_with fail
    refine (HCK.out _ HOF.out.mems).mono ?_
    rintro e wg ⟨rfl, hbg⟩
    have HPF := Lib.hid (HPF.out.below hbg)
    have HXF := Lib.hid (HXF.out.below hbg)
    have HBF := Lib.hid (bchain HBF.out hbg)
    have HOF := Lib.hid (HOF.out.below hbg)
    clear hbg x0 x1 x2 x3 x4 x5 x6 x7
    cases hf : Txn.fine xx with
    | false =>
      rw [if_neg (by decide)]
      have HNN := Lib.hid (show Txn.dec (c0 :: r0) = none from by rw [HDEC.out, if_neg (fun h => by rw [hf] at h; exact absurd h.2 (by decide))])
      clear hf
      have HPF := Lib.hid (show TxAt wg p Txn.zero (.slice none 0 0) from HPF.out)
      obtain ⟨p0, p1, p2, p3, p4, p5, p6, p7⟩ := HPF.out.cells
      have u0 := HPF.out.free 0
      have u1 := HPF.out.free 1
      have u2 := HPF.out.free 2
      have u3 := HPF.out.free 3
      have u4 := HPF.out.free 4
      have u5 := HPF.out.free 5
      have u6 := HPF.out.free 6
      have u7 := HPF.out.free 7
      go_wp2
      exact bodyPost_ret (ret_put rfl _ wg p Txn.zero (.slice none 0 0) rfl HPF.out) rfl (decTx_bad HNN.out (HBF.out.trans ((putTx_only wg p Txn.zero (.slice none 0 0)).below HLP.out HBF.out.size)))
    | true =>
    rw [if_pos rfl]
    have HNN := Lib.hid (show Txn.dec (c0 :: r0) = some xx from by rw [HDEC.out, if_pos ⟨trivial, hf⟩])
    clear hf
    obtain ⟨x0, x1, x2, x3, x4, x5, x6, x7⟩ := HXF.out.cells
    obtain ⟨p0, p1, p2, p3, p4, p5, p6, p7⟩ := HPF.out.cells
    have u0 := HPF.out.free 0
    have u1 := HPF.out.free 1
    have u2 := HPF.out.free 2
    have u3 := HPF.out.free 3
    have u4 := HPF.out.free 4
    have u5 := HPF.out.free 5
    have u6 := HPF.out.free 6
    have u7 := HPF.out.free 7
    go_wp2
    exact bodyPost_ret (ret_put rfl _ wg p xx (.slice none 0 0) rfl HPF.out) rfl (decTx_good HNN.out (HOF.out.only (putTx_only wg p xx (.slice none 0 0)) (typ_not HPF.out (by decide))) (HBF.out.trans ((putTx_only wg p xx (.slice none 0 0)).below HLP.out HBF.out.size)))
theorem xDecodeTx_any (s : List UInt8) (w : World) (hl : s.length ≤ 1000000) : Calls Tryd.prog 12 #[.string ⟨s.toArray⟩] w (DecTx s w) := by
  match s, hl with
  | [], _ => exact xDecodeTx_nil w
  | c0 :: r0, hl =>
    have hl : r0.length ≤ 999999 := by simp at hl; omega
    by_cases k1 : ((c0.toNat : Nat) : Int) = 1
    · exact xDecodeTx_1 c0 r0 w hl k1
    by_cases k2 : ((c0.toNat : Nat) : Int) = 2
    · exact xDecodeTx_2 c0 r0 w hl k1 k2
    by_cases k3 : ((c0.toNat : Nat) : Int) = 3
    · exact xDecodeTx_3 c0 r0 w hl k1 k2 k3
    by_cases k4 : ((c0.toNat : Nat) : Int) = 4
    · exact xDecodeTx_4 c0 r0 w hl k1 k2 k3 k4
    exact xDecodeTx_5 c0 r0 w hl k1 k2 k3 k4
end Go.Proofs.YtddjkiejekfekaaDoor
