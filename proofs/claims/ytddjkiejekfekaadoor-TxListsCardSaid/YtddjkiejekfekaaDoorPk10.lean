/- TxEnc, OwnStr, TxEncAll, TxDecMath -/
import Derived.Test.YtddjkiejekfekaaDoorPk07
import Derived.Test.YtddjkiejekfekaaDoorPk09
import Derived.Test.YtddjkiejekfekaaDoorPk05
import Derived.Deep.RegionWith
import Derived.Test.YtddjkiejekfekaaDoorPk01
import Derived.Test.YtddjkiejekfekaaDoorPk08
namespace Go.Proofs.YtddjkiejekfekaaDoor
open Go.RowKit
open Go.Proofs.YtddjkiejekfekaaDoor.Pw (M)
open Go.Proofs.YtddjkiejekfekaaDoor.Txn (X)

theorem xnumber_any (n : Nat) (hn : n < 2 ^ 63) (w : World) :
    Calls Tryd.prog 27 #[.int .i64 n] w fun e w' => e = .returned (.string ⟨(Code.numL n).toArray⟩) ∧ Below w.heap.size w w' := by
  go_enter Tryd.func27, Tryd.ntmps27
  go_wp2_with fail
  refine (num_any n hn w).mono ?_
  rintro e w1 ⟨rfl, hb⟩
  go_wp2
  go_ret
  exact ⟨rfl, hb⟩
theorem cat_nil (l : List UInt8) : ((⟨l.toArray⟩ : ByteArray) ++ (⟨#[]⟩ : ByteArray)) = ⟨l.toArray⟩ := by
  have := cat_mk l []
  rwa [List.append_nil] at this
set_option maxRecDepth 100000 in
set_option maxHeartbeats 4000000 in
theorem xown_any (x : X) (z : Value) (w : World) (hz : Mems w z x.mem) (hf : Txn.fine x = true) :
    Calls Tryd.prog 28 #[xval x z] w fun r w' => r = .returned (.string ⟨(Txn.tailB x).toArray⟩) ∧ Below w.heap.size w w' := by
  obtain ⟨w0, hw0, hb0, ra⟩ := tx_box x z w
  obtain ⟨f1, f2, f3, f4, f5⟩ := Txn.fine_of hf
  have HK := Lib.hid (Txn.kind_of f5)
  have HB := Lib.hid hb0
  have HM := Lib.hid (hz.below hb0)
  obtain ⟨q0, hq0⟩ : ∃ q0, w.heap.size = q0 := ⟨_, rfl⟩
  rw [hq0] at ra
  have HA := Lib.hid ra
  obtain ⟨Az, capz, rfl⟩ := hz.form
  have HTX : Hid (∀ (s : List UInt8) w', s.length ≤ 1000 → Below w0.heap.size w0 w' → Calls Tryd.prog 26 #[.string ⟨s.toArray⟩] w' fun e w'' => e = .returned (.string ⟨(Code.textL s).toArray⟩) ∧ Below w0.heap.size w0 w'') := Lib.hid (fun s w' hs h => (text_any s w' (by omega)).mono fun e w'' ⟨p, q⟩ => ⟨p, bchain h q⟩)
  have HNU : Hid (∀ (n : Nat) w', n < 2 ^ 63 → Below w0.heap.size w0 w' → Calls Tryd.prog 27 #[.int .i64 n] w' fun e w'' => e = .returned (.string ⟨(Code.numL n).toArray⟩) ∧ Below w0.heap.size w0 w'') := Lib.hid (fun n w' hs h => (xnumber_any n hs w').mono fun e w'' ⟨p, q⟩ => ⟨p, bchain h q⟩)
  obtain ⟨m, hm⟩ : ∃ m : Nat, x.amt = (m : Int) := ⟨x.amt.toNat, by rcases HK.out with h | h | h | h <;> omega⟩
  have HMA := Lib.hid hm
  have HCC : Hid (∀ w', Below w0.heap.size w0 w' → w'.cell? ⟨q0, 3, none⟩ = some (.string ⟨x.dst.toArray⟩) ∧ w'.cell? ⟨q0, 4, none⟩ = some (.int .i64 m) ∧ w'.cell? ⟨q0, 5, none⟩ = some (.string ⟨x.key.toArray⟩) ∧ w'.cell? ⟨q0, 6, none⟩ = some (.string ⟨x.val.toArray⟩)) := Lib.hid (fun w' h => by
    have h1 := (HA.out.below h).cells
    exact ⟨h1.2.2.2.1, by rw [h1.2.2.2.2.1, HMA.out], h1.2.2.2.2.2.1, h1.2.2.2.2.2.2.1⟩)
  have BD : Below w0.heap.size w0 w0.drew := (Below.refl _ _).drew
  have BR : Below w0.heap.size w0 w0 := Below.refl _ _
  have a0 := HA.out.cells.1
  have a7 := HA.out.cells.2.2.2.2.2.2.2
  obtain ⟨a3, a4, a5, a6⟩ := HCC.out _ BR
  rw [hm] at hw0
  unfold xval
  rw [hm]
  clear hb0 ra hz hf f1 f2 f3 f4 f5 hm
  go_enter Tryd.func28, Tryd.ntmps28
  go_upto_region 1 with fail
  try rw [hw0]
  try rw [hq0]
  clear hw0 hq0
  rcases HK.out with ⟨hk, q1, q2, q3, q4, q5, q6, q7⟩ | ⟨hk, q1, q2, q3, q4, q5, q6, q7⟩ | ⟨hk, q1, q2, q3, q4, q5, q6⟩ | ⟨hk, q1, q2, q3, q4, q5⟩
  · have r1 : (x.kind == 1) = true := beq_iff_eq.2 hk
    have hd6 : x.dst.length ≤ 1000 := by omega
    have hm6 : m < 2 ^ 63 := by have := HMA.out; omega
    have HTL : Hid (Txn.tailB x = Code.textL x.dst ++ Code.numL m) := Lib.hid (by unfold Txn.tailB; rw [if_pos hk, HMA.out]; rfl)
    have HDL : Hid ((Code.textL x.dst).length ≤ 1100) := Lib.hid (by unfold Code.textL; have := Code.numL_length x.dst.length; have := Code.sz_le8 x.dst.length (by omega); simp; omega)
    have HAL : Hid ((Code.numL m).length ≤ 1000) := Lib.hid (by have := Code.numL_length m; have := Code.sz_le8 m (by omega); omega)
    have HD1 := Lib.hid (fun w' h => HTX.out x.dst w' hd6 h)
    have HA1 := Lib.hid (fun w' h => HNU.out m w' hm6 h)
    obtain ⟨D, hD⟩ : ∃ D, Code.textL x.dst = D := ⟨_, rfl⟩
    obtain ⟨A, hA⟩ : ∃ A, Code.numL m = A := ⟨_, rfl⟩
    rw [hD] at HTL HDL HD1
    rw [hA] at HTL HAL HA1
    have e1 := cat_mk D A
    have hg3 : ¬ (9223372036854775807 < D.length + A.length) := by have := HDL.out; have := HAL.out; omega
    clear hd6 hm6 hD hA hk q1 q2 q3 q4 q5 q6 q7
    go_upto_region 6 with fail
    go_region_with (first | (go_at_call 26; refine (HD1.out _ (by with_reducible assumption)).mono ?_; rintro r wa ⟨rfl, hba⟩; obtain ⟨b3, b4, b5, b6⟩ := HCC.out _ hba) | (go_at_call 27; refine (HA1.out _ (by with_reducible assumption)).mono ?_; rintro r wb ⟨rfl, hbb⟩))
    all_goals
      go_wp2
      go_ret
      exact ⟨by rw [HTL.out]; rfl, bchain HB.out hbb⟩
  · have r1 : (x.kind == 1) = false := beq_eq_false_iff_ne.2 (by omega)
    have r2 : (x.kind == 2) = true := beq_iff_eq.2 hk
    have hk6 : x.key.length ≤ 1000 := by omega
    have hv6 : x.val.length ≤ 1000 := by omega
    have HTL : Hid (Txn.tailB x = Code.textL x.key ++ Code.textL x.val) := Lib.hid (by unfold Txn.tailB; rw [if_neg (by omega), if_pos hk])
    have HDL : Hid ((Code.textL x.key).length ≤ 1100) := Lib.hid (by unfold Code.textL; have := Code.numL_length x.key.length; have := Code.sz_le8 x.key.length (by omega); simp; omega)
    have HAL : Hid ((Code.textL x.val).length ≤ 1100) := Lib.hid (by unfold Code.textL; have := Code.numL_length x.val.length; have := Code.sz_le8 x.val.length (by omega); simp; omega)
    have HTK := Lib.hid (fun w' h => HTX.out x.key w' hk6 h)
    have HTV := Lib.hid (fun w' h => HTX.out x.val w' hv6 h)
    obtain ⟨D, hD⟩ : ∃ D, Code.textL x.key = D := ⟨_, rfl⟩
    obtain ⟨A, hA⟩ : ∃ A, Code.textL x.val = A := ⟨_, rfl⟩
    rw [hD] at HTL HDL HTK
    rw [hA] at HTL HAL HTV
    have e1 := cat_mk D A
    have hg3 : ¬ (9223372036854775807 < D.length + A.length) := by have := HDL.out; have := HAL.out; omega
    clear hk6 hv6 hD hA hk q1 q2 q3 q4 q5 q6 q7
    go_wp2_with fail
    refine (HTV.out _ BR).mono ?_
    rintro r wa ⟨rfl, hba⟩
    obtain ⟨b3, b4, b5, b6⟩ := HCC.out _ hba
    go_wp2_with fail
    refine (HTK.out _ hba).mono ?_
    rintro r wb ⟨rfl, hbb⟩
    go_wp2
    go_ret
    exact ⟨by rw [HTL.out]; rfl, bchain HB.out hbb⟩
  · have r1 : (x.kind == 1) = false := beq_eq_false_iff_ne.2 (by omega)
    have r2 : (x.kind == 2) = false := beq_eq_false_iff_ne.2 (by omega)
    have r3 : (x.kind == 3) = true := beq_iff_eq.2 hk
    have hk6 : x.key.length ≤ 1000 := by omega
    have HTL : Hid (Txn.tailB x = Code.textL x.key) := Lib.hid (by unfold Txn.tailB; rw [if_neg (by omega), if_neg (by omega), if_pos hk])
    have HDL : Hid ((Code.textL x.key).length ≤ 1100) := Lib.hid (by unfold Code.textL; have := Code.numL_length x.key.length; have := Code.sz_le8 x.key.length (by omega); simp; omega)
    have HTK := Lib.hid (fun w' h => HTX.out x.key w' hk6 h)
    obtain ⟨D, hD⟩ : ∃ D, Code.textL x.key = D := ⟨_, rfl⟩
    rw [hD] at HTL HDL HTK
    have e1 := cat_nil D
    have hg3 : ¬ (9223372036854775807 < D.length) := by have := HDL.out; omega
    clear hk6 hD hk q1 q2 q3 q4 q5 q6
    go_wp2_with fail
    refine (HTK.out _ BR).mono ?_
    rintro r wb ⟨rfl, hbb⟩
    go_wp2
    go_ret
    exact ⟨by rw [HTL.out]; rfl, bchain HB.out hbb⟩
  · have r1 : (x.kind == 1) = false := beq_eq_false_iff_ne.2 (by omega)
    have r2 : (x.kind == 2) = false := beq_eq_false_iff_ne.2 (by omega)
    have r3 : (x.kind == 3) = false := beq_eq_false_iff_ne.2 (by omega)
    have HEN := Lib.hid (encode_any x.mem _ w0 HM.out)
    have hle := Pw.encB_le q5 x.mem.length
    rw [List.take_length] at hle
    have hle' : (Pw.encB x.mem).length ≤ 1000 := Nat.le_trans hle (by decide)
    have HTL : Hid (Txn.tailB x = Code.textL (Pw.encB x.mem)) := Lib.hid (by unfold Txn.tailB; rw [if_neg (by omega), if_neg (by omega), if_neg (by omega)])
    rw [show Pw.encL x.mem = Pw.encB x.mem by simp [Pw.encL, q5], Pw.checkC_ok q5] at HEN
    obtain ⟨E, hE⟩ : ∃ E, Pw.encB x.mem = E := ⟨_, rfl⟩
    rw [hE] at HEN hle' HTL
    clear hk q1 q2 q3 q4 q5 hE hle
    go_wp2_with fail
    refine HEN.out.mono ?_
    rintro r w3 ⟨rfl, hb3⟩
    have HB3 := Lib.hid hb3
    clear hb3
    go_wp2_with fail
    refine (HTX.out _ _ hle' HB3.out).mono ?_
    rintro r wa ⟨rfl, hba⟩
    go_wp2
    go_ret
    exact ⟨by rw [HTL.out]; rfl, bchain HB.out hba⟩
def Txn.encS (x : X) : List UInt8 := if Txn.fine x = true then Txn.written x else []
def Txn.encC (x : X) : Int := if Txn.fine x = true then 0 else 150
set_option maxRecDepth 100000 in
set_option maxHeartbeats 4000000 in
theorem xencode_any (x : X) (z : Value) (w : World) (hz : Mems w z x.mem) :
    Calls Tryd.prog 10 #[xval x z] w fun r w' => r = .returned (.tuple #[.string ⟨(Txn.encS x).toArray⟩, .int .i64 (Txn.encC x)]) ∧ Below w.heap.size w w' := by
  obtain ⟨w0, hw0, hb0, ra⟩ := tx_box x z w
  have HB := Lib.hid hb0
  have HM := Lib.hid (hz.below hb0)
  obtain ⟨q0, hq0⟩ : ∃ q0, w.heap.size = q0 := ⟨_, rfl⟩
  rw [hq0] at ra
  have HA := Lib.hid ra
  have HCK := Lib.hid (xcheck_any x z w0 HM.out)
  unfold Txn.encS Txn.encC
  cases hf : Txn.fine x with
  | false =>
    rw [hf, if_neg (by decide)] at HCK
    rw [if_neg (by decide), if_neg (by decide)]
    obtain ⟨Az, capz, rfl⟩ := hz.form
    obtain ⟨a0, a1, a2, a3, a4, a5, a6, a7⟩ := ra.cells
    unfold xval at HCK ⊢
    clear hb0 ra hz hf
    go_enter Tryd.func10, Tryd.ntmps10
    go_upto_region 1 with fail
    try rw [hw0]
    try rw [hq0]
    clear hw0 hq0
    go_wp2_with fail
    refine HCK.out.mono ?_
    rintro r w1 ⟨rfl, hb1⟩
    have HB1 := Lib.hid (bchain HB.out hb1)
    clear hb1
    go_wp2
    go_ret2
    exact ⟨rfl, HB1.out⟩
  | true =>
  rw [hf, if_pos rfl] at HCK
  rw [if_pos rfl, if_pos rfl]
  obtain ⟨f1, f2, f3, f4, f5⟩ := Txn.fine_of hf
  have HK := Lib.hid (Txn.kind_of f5)
  have hwl := Txn.written_len hf
  obtain ⟨n, hn⟩ : ∃ n : Nat, x.seq = (n : Int) := ⟨x.seq.toNat, by omega⟩
  have hx6 : x.frm.length ≤ 1000 := by omega
  have hsn : n < 2 ^ 63 := by omega
  obtain ⟨Az, capz, rfl⟩ := hz.form
  have HOW := Lib.hid (fun w' h => xown_any x (.slice Az x.mem.length capz) w' h hf)
  obtain ⟨y, hy⟩ : ∃ y, UInt8.ofNat x.kind.toNat = y := ⟨_, rfl⟩
  have hk4 : 1 ≤ x.kind ∧ x.kind ≤ 4 := by rcases HK.out with h | h | h | h <;> (have := h.1; omega)
  have hyk : x.kind = (y.toNat : Int) := by rw [← hy]; simp; omega
  have hw8 : IntKind.u8.wrap x.kind = (y.toNat : Int) := by rw [← hyk]; unfold IntKind.wrap; simp [IntKind.bits, IntKind.signed]; omega
  have hWW : Txn.written x = [y] ++ Code.textL x.frm ++ Code.numL n ++ Txn.tailB x := by rw [← hy]; unfold Txn.written; rw [hn]; simp
  obtain ⟨F, hF⟩ : ∃ F, Code.textL x.frm = F := ⟨_, rfl⟩
  obtain ⟨U, hU⟩ : ∃ U, Code.numL n = U := ⟨_, rfl⟩
  obtain ⟨V, hV⟩ : ∃ V, Txn.tailB x = V := ⟨_, rfl⟩
  rw [hV] at HOW
  rw [hF, hU, hV] at hWW
  rw [hWW] at hwl
  simp only [List.length_append, List.length_cons, List.length_nil] at hwl
  have HWW := Lib.hid hWW
  have c1 := cat_mk [y] F
  have c2 := cat_mk ([y] ++ F) U
  have c3 := cat_mk ([y] ++ F ++ U) V
  have hg1 : ¬ (9223372036854775807 < 1 + F.length) := by omega
  have hg2' : ¬ (9223372036854775807 < ([y] ++ F).length + U.length) := by simp; omega
  have hg3' : ¬ (9223372036854775807 < ([y] ++ F ++ U).length + V.length) := by simp; omega
  obtain ⟨S1, hS1⟩ : ∃ S1, [y] ++ F = S1 := ⟨_, rfl⟩
  rw [hS1] at c1 c2 c3 hg2' hg3' HWW
  obtain ⟨S2, hS2⟩ : ∃ S2, S1 ++ U = S2 := ⟨_, rfl⟩
  rw [hS2] at c2 c3 hg3' HWW
  obtain ⟨S3, hS3⟩ : ∃ S3, S2 ++ V = S3 := ⟨_, rfl⟩
  rw [hS3] at c3 HWW
  have HT1 : Hid (∀ w', Below w0.heap.size w0 w' → Calls Tryd.prog 26 #[.string ⟨x.frm.toArray⟩] w' fun e w'' => e = .returned (.string ⟨F.toArray⟩) ∧ Below w0.heap.size w0 w'' ∧ Below w'.heap.size w' w'') := Lib.hid (fun w' h => (text_any x.frm w' (by omega)).mono fun e w'' ⟨p, q⟩ => ⟨by rw [p, hF], bchain h q, q⟩)
  have HN1 : Hid (∀ w', Below w0.heap.size w0 w' → Calls Tryd.prog 27 #[.int .i64 n] w' fun e w'' => e = .returned (.string ⟨U.toArray⟩) ∧ Below w0.heap.size w0 w'' ∧ Below w'.heap.size w' w'') := Lib.hid (fun w' h => (xnumber_any n hsn w').mono fun e w'' ⟨p, q⟩ => ⟨by rw [p, hU], bchain h q, q⟩)
  rw [hWW]
  rw [show [y] ++ F ++ U ++ V = S3 by rw [hS1, hS2, hS3]]
  unfold xval at HOW HCK ⊢
  have HO1 : Hid (∀ w', Below w0.heap.size w0 w' → Calls Tryd.prog 28 #[.agg #[.int .i64 x.kind, .string ⟨x.frm.toArray⟩, .int .i64 n, .string ⟨x.dst.toArray⟩, .int .i64 x.amt, .string ⟨x.key.toArray⟩, .string ⟨x.val.toArray⟩, .slice Az x.mem.length capz]] w' fun e w'' => e = .returned (.string ⟨V.toArray⟩) ∧ Below w0.heap.size w0 w'' ∧ Below w'.heap.size w' w'') := Lib.hid (fun w' h => by
    rw [← hn]
    exact (HOW.out w' (HM.out.below h)).mono fun e w'' ⟨p, q⟩ => ⟨p, bchain h q, q⟩)
  have HC : Hid (∀ w', Below w0.heap.size w0 w' → w'.cell? ⟨q0, 0, none⟩ = some (.int .i64 x.kind) ∧ w'.cell? ⟨q0, 1, none⟩ = some (.string ⟨x.frm.toArray⟩) ∧ w'.cell? ⟨q0, 2, none⟩ = some (.int .i64 n) ∧ w'.cell? ⟨q0, 3, none⟩ = some (.string ⟨x.dst.toArray⟩) ∧ w'.cell? ⟨q0, 4, none⟩ = some (.int .i64 x.amt) ∧ w'.cell? ⟨q0, 5, none⟩ = some (.string ⟨x.key.toArray⟩) ∧ w'.cell? ⟨q0, 6, none⟩ = some (.string ⟨x.val.toArray⟩) ∧ w'.cell? ⟨q0, 7, none⟩ = some (.slice Az x.mem.length capz)) := Lib.hid (fun w' h => by
    have h1 := (HA.out.below h).cells
    rw [hn] at h1
    exact h1)
  obtain ⟨a0, a1, a2, a3, a4, a5, a6, a7⟩ := HC.out _ (Below.refl _ _)
  rw [hn] at hw0 HCK ⊢
  clear hb0 ra hz hf f1 f2 f3 f4 f5 hF hU hV hy hyk hk4 hS1 hS2 hS3 hn hWW hwl hx6 hsn HOW
  go_enter Tryd.func10, Tryd.ntmps10
  go_upto_region 1 with fail
  try rw [hw0]
  try rw [hq0]
  clear hw0 hq0
  go_wp2_with fail
  refine HCK.out.mono ?_
  rintro r w1 ⟨rfl, hb1⟩
  have BD : Below w0.heap.size w0 w1.drew := hb1.drew
  clear a0 a1 a2 a3 a4 a5 a6 a7 hb1
  go_upto_region 4 with fail
  refine region_inv (fun Lq aq w' => ∃ v10 v11 v12 v13 v14 v15 v16 v17 v18 v19 v20 v21 v22 v23 v24 v25 v2 v3 : Value, aq = ⟨#[Value.agg #[Value.int IntKind.i64 x.kind, Value.string { data := List.toArray x.frm }, Value.int IntKind.i64 ↑n, Value.string { data := List.toArray x.dst }, Value.int IntKind.i64 x.amt, Value.string { data := List.toArray x.key }, Value.string { data := List.toArray x.val }, Value.slice Az x.mem.length capz], Value.pointer (some { block := q0, off := 0 }), v2, v3, Value.int IntKind.i64 0, Value.agg #[Value.int IntKind.i64 x.kind, Value.string { data := List.toArray x.frm }, Value.int IntKind.i64 ↑n, Value.string { data := List.toArray x.dst }, Value.int IntKind.i64 x.amt, Value.string { data := List.toArray x.key }, Value.string { data := List.toArray x.val }, Value.slice Az x.mem.length capz], Value.int IntKind.i64 0, Value.int IntKind.i64 0, Value.bool false, undef, v10, v11, v12, v13, v14, v15, v16, v17, v18, v19, v20, v21, v22, v23, v24, v25], []⟩ ∧ Below w0.heap.size w0 w' ∧ (Lq[0]? = some true → v10 = .pointer (some ⟨q0, 0, none⟩)) ∧ (Lq[1]? = some true → v11 = .int .i64 x.kind) ∧ (Lq[2]? = some true → v12 = .int .u8 (y.toNat : Int)) ∧ VsB w0.heap.size y w' Lq[3]? v13 ∧ (Lq[4]? = some true → v14 = .string ⟨[y].toArray⟩) ∧ (Lq[5]? = some true → v15 = .pointer (some ⟨q0, 1, none⟩)) ∧ (Lq[6]? = some true → v16 = .string ⟨x.frm.toArray⟩) ∧ (Lq[7]? = some true → v17 = .string ⟨F.toArray⟩) ∧ (Lq[8]? = some true → v18 = .string ⟨S1.toArray⟩) ∧ (Lq[9]? = some true → v19 = .pointer (some ⟨q0, 2, none⟩)) ∧ (Lq[10]? = some true → v20 = .int .i64 (n : Int)) ∧ (Lq[11]? = some true → v21 = .string ⟨U.toArray⟩) ∧ (Lq[12]? = some true → v22 = .string ⟨S2.toArray⟩) ∧ (Lq[13]? = some true → v23 = Value.agg #[Value.int IntKind.i64 x.kind, Value.string { data := List.toArray x.frm }, Value.int IntKind.i64 ↑n, Value.string { data := List.toArray x.dst }, Value.int IntKind.i64 x.amt, Value.string { data := List.toArray x.key }, Value.string { data := List.toArray x.val }, Value.slice Az x.mem.length capz]) ∧ (Lq[14]? = some true → v24 = .string ⟨V.toArray⟩) ∧ (Lq[15]? = some true → v25 = .string ⟨S3.toArray⟩) ∧ (Lq[16]? = some true → v2 = .string ⟨S3.toArray⟩) ∧ (Lq[17]? = some true → v3 = .int .i64 0)) (by rfl) ?_ ?_ ?_
  · exact ⟨_, _, _, _, _, _, _, _, _, _, _, _, _, _, _, _, _, _, rfl, BD, (fun h => by simp at h), (fun h => by simp at h), (fun h => by simp at h), (fun h => by simp at h), (fun h => by simp at h), (fun h => by simp at h), (fun h => by simp at h), (fun h => by simp at h), (fun h => by simp at h), (fun h => by simp at h), (fun h => by simp at h), (fun h => by simp at h), (fun h => by simp at h), (fun h => by simp at h), (fun h => by simp at h), (fun h => by simp at h), (fun h => by simp at h), (fun h => by simp at h)⟩
  · intro Lq aq w1r hL hI j o ho hj K hK
    obtain ⟨v10, v11, v12, v13, v14, v15, v16, v17, v18, v19, v20, v21, v22, v23, v24, v25, v2, v3, rfl, hB, h0, h1, h2, h3, h4, h5, h6, h7, h8, h9, h10, h11, h12, h13, h14, h15, h16, h17⟩ := hI
    obtain ⟨b0, b1, b2, b3, b4, b5, b6, b7, b8, b9, b10, b11, b12, b13, b14, b15, b16, b17, rfl⟩ : ∃ b0 b1 b2 b3 b4 b5 b6 b7 b8 b9 b10 b11 b12 b13 b14 b15 b16 b17, Lq = [b0, b1, b2, b3, b4, b5, b6, b7, b8, b9, b10, b11, b12, b13, b14, b15, b16, b17] := by
      match Lq, hL with
      | [b0, b1, b2, b3, b4, b5, b6, b7, b8, b9, b10, b11, b12, b13, b14, b15, b16, b17], _ => exact ⟨b0, b1, b2, b3, b4, b5, b6, b7, b8, b9, b10, b11, b12, b13, b14, b15, b16, b17, rfl⟩
    have hi2 := (List.mem_filter.1 hj).2
    clear hj hL
    obtain ⟨d0, d1, d2, d3, d4, d5, d6, d7⟩ := HC.out _ hB
    rcases j with _ | _ | _ | _ | _ | _ | _ | _ | _ | _ | _ | _ | _ | _ | _ | _ | _ | _ | j
    · obtain rfl := Option.some.inj ho
      clear ho
      rw [if_pos (by rfl)]
      go_simp
      exact hK _ _ ⟨_, v11, v12, v13, v14, v15, v16, v17, v18, v19, v20, v21, v22, v23, v24, v25, v2, v3, rfl, hB, (fun _ => rfl), h1, h2, h3, h4, h5, h6, h7, h8, h9, h10, h11, h12, h13, h14, h15, h16, h17⟩
    · obtain rfl := Option.some.inj ho
      simp [Region.binds] at hi2
      obtain rfl := h0 (by simp [hi2])
      clear ho hi2
      rw [if_pos (by rfl)]
      go_simp
      exact hK _ _ ⟨_, _, v12, v13, v14, v15, v16, v17, v18, v19, v20, v21, v22, v23, v24, v25, v2, v3, rfl, hB, (fun _ => rfl), (fun _ => rfl), h2, h3, h4, h5, h6, h7, h8, h9, h10, h11, h12, h13, h14, h15, h16, h17⟩
    · obtain rfl := Option.some.inj ho
      simp [Region.binds] at hi2
      obtain rfl := h1 (by simp [hi2])
      clear ho hi2
      rw [if_pos (by rfl)]
      go_simp
      exact hK _ _ ⟨v10, _, _, v13, v14, v15, v16, v17, v18, v19, v20, v21, v22, v23, v24, v25, v2, v3, rfl, hB, h0, (fun _ => rfl), (fun _ => rfl), h3, h4, h5, h6, h7, h8, h9, h10, h11, h12, h13, h14, h15, h16, h17⟩
    · obtain rfl := Option.some.inj ho
      simp [Region.binds] at hi2
      obtain rfl := h2 (by simp [hi2])
      clear ho hi2
      rw [if_pos (by rfl)]
      go_simp
      have hbn : Below w1r.heap.size w1r (w1r.alloc (.cells #[.int .u8 (y.toNat : Int)] 5)) := (Below.refl _ w1r).alloc (Nat.le_refl _) _
      have hB2 := bchain hB hbn
      exact hK _ _ ⟨v10, v11, _, _, v14, v15, v16, v17, v18, v19, v20, v21, v22, v23, v24, v25, v2, v3, rfl, hB2, h0, h1, (fun _ => rfl), (fun _ => ⟨_, rfl, ownsOne w1r _ hB.size y _ rfl⟩), h4, h5, h6, h7, h8, h9, h10, h11, h12, h13, h14, h15, h16, h17⟩
    · obtain rfl := Option.some.inj ho
      simp [Region.binds] at hi2
      obtain ⟨g, rfl, hrow⟩ := h3 (by simp [hi2])
      have hcv := conv_own hrow
      clear ho hi2
      rw [if_pos (by rfl)]
      go_simp
      exact hK _ _ ⟨v10, v11, v12, _, _, v15, v16, v17, v18, v19, v20, v21, v22, v23, v24, v25, v2, v3, rfl, hB, h0, h1, h2, (show VsB w0.heap.size y w1r _ _ from fun _ => ⟨g, rfl, hrow⟩), (fun _ => rfl), h5, h6, h7, h8, h9, h10, h11, h12, h13, h14, h15, h16, h17⟩
    · obtain rfl := Option.some.inj ho
      clear ho
      rw [if_pos (by rfl)]
      go_simp
      exact hK _ _ ⟨v10, v11, v12, v13, v14, _, v16, v17, v18, v19, v20, v21, v22, v23, v24, v25, v2, v3, rfl, hB, h0, h1, h2, h3, h4, (fun _ => rfl), h6, h7, h8, h9, h10, h11, h12, h13, h14, h15, h16, h17⟩
    · obtain rfl := Option.some.inj ho
      simp [Region.binds] at hi2
      obtain rfl := h5 (by simp [hi2])
      clear ho hi2
      rw [if_pos (by rfl)]
      go_simp
      exact hK _ _ ⟨v10, v11, v12, v13, v14, _, _, v17, v18, v19, v20, v21, v22, v23, v24, v25, v2, v3, rfl, hB, h0, h1, h2, h3, h4, (fun _ => rfl), (fun _ => rfl), h7, h8, h9, h10, h11, h12, h13, h14, h15, h16, h17⟩
    · obtain rfl := Option.some.inj ho
      simp [Region.binds] at hi2
      obtain rfl := h6 (by simp [hi2])
      clear ho hi2
      rw [if_pos (by rfl)]
      go_simp
      refine (HT1.out _ hB).mono ?_
      rintro r w2 ⟨rfl, hB2, hbn⟩
      exact hK _ _ ⟨v10, v11, v12, v13, v14, v15, _, _, v18, v19, v20, v21, v22, v23, v24, v25, v2, v3, rfl, hB2, h0, h1, h2, (h3.below hbn), h4, h5, (fun _ => rfl), (fun _ => rfl), h8, h9, h10, h11, h12, h13, h14, h15, h16, h17⟩
    · obtain rfl := Option.some.inj ho
      simp [Region.binds] at hi2
      obtain rfl := h4 (by simp [hi2])
      obtain rfl := h7 (by simp [hi2])
      clear ho hi2
      rw [if_pos (by rfl)]
      go_simp
      exact hK _ _ ⟨v10, v11, v12, v13, _, v15, v16, _, _, v19, v20, v21, v22, v23, v24, v25, v2, v3, rfl, hB, h0, h1, h2, h3, (fun _ => rfl), h5, h6, (fun _ => rfl), (fun _ => rfl), h9, h10, h11, h12, h13, h14, h15, h16, h17⟩
    · obtain rfl := Option.some.inj ho
      clear ho
      rw [if_pos (by rfl)]
      go_simp
      exact hK _ _ ⟨v10, v11, v12, v13, v14, v15, v16, v17, v18, _, v20, v21, v22, v23, v24, v25, v2, v3, rfl, hB, h0, h1, h2, h3, h4, h5, h6, h7, h8, (fun _ => rfl), h10, h11, h12, h13, h14, h15, h16, h17⟩
    · obtain rfl := Option.some.inj ho
      simp [Region.binds] at hi2
      obtain rfl := h9 (by simp [hi2])
      clear ho hi2
      rw [if_pos (by rfl)]
      go_simp
      exact hK _ _ ⟨v10, v11, v12, v13, v14, v15, v16, v17, v18, _, _, v21, v22, v23, v24, v25, v2, v3, rfl, hB, h0, h1, h2, h3, h4, h5, h6, h7, h8, (fun _ => rfl), (fun _ => rfl), h11, h12, h13, h14, h15, h16, h17⟩
    · obtain rfl := Option.some.inj ho
      simp [Region.binds] at hi2
      obtain rfl := h10 (by simp [hi2])
      clear ho hi2
      rw [if_pos (by rfl)]
      go_simp
      refine (HN1.out _ hB).mono ?_
      rintro r w2 ⟨rfl, hB2, hbn⟩
      exact hK _ _ ⟨v10, v11, v12, v13, v14, v15, v16, v17, v18, v19, _, _, v22, v23, v24, v25, v2, v3, rfl, hB2, h0, h1, h2, (h3.below hbn), h4, h5, h6, h7, h8, h9, (fun _ => rfl), (fun _ => rfl), h12, h13, h14, h15, h16, h17⟩
    · obtain rfl := Option.some.inj ho
      simp [Region.binds] at hi2
      obtain rfl := h8 (by simp [hi2])
      obtain rfl := h11 (by simp [hi2])
      clear ho hi2
      rw [if_pos (by rfl)]
      go_simp
      exact hK _ _ ⟨v10, v11, v12, v13, v14, v15, v16, v17, _, v19, v20, _, _, v23, v24, v25, v2, v3, rfl, hB, h0, h1, h2, h3, h4, h5, h6, h7, (fun _ => rfl), h9, h10, (fun _ => rfl), (fun _ => rfl), h13, h14, h15, h16, h17⟩
    · obtain rfl := Option.some.inj ho
      clear ho
      rw [if_pos (by rfl)]
      go_simp
      exact hK _ _ ⟨v10, v11, v12, v13, v14, v15, v16, v17, v18, v19, v20, v21, v22, _, v24, v25, v2, v3, rfl, hB, h0, h1, h2, h3, h4, h5, h6, h7, h8, h9, h10, h11, h12, (fun _ => rfl), h14, h15, h16, h17⟩
    · obtain rfl := Option.some.inj ho
      simp [Region.binds] at hi2
      obtain rfl := h13 (by simp [hi2])
      clear ho hi2
      rw [if_pos (by rfl)]
      go_simp
      refine (HO1.out _ hB).mono ?_
      rintro r w2 ⟨rfl, hB2, hbn⟩
      exact hK _ _ ⟨v10, v11, v12, v13, v14, v15, v16, v17, v18, v19, v20, v21, v22, _, _, v25, v2, v3, rfl, hB2, h0, h1, h2, (h3.below hbn), h4, h5, h6, h7, h8, h9, h10, h11, h12, (fun _ => rfl), (fun _ => rfl), h15, h16, h17⟩
    · obtain rfl := Option.some.inj ho
      simp [Region.binds] at hi2
      obtain rfl := h12 (by simp [hi2])
      obtain rfl := h14 (by simp [hi2])
      clear ho hi2
      rw [if_pos (by rfl)]
      go_simp
      exact hK _ _ ⟨v10, v11, v12, v13, v14, v15, v16, v17, v18, v19, v20, v21, _, v23, _, _, v2, v3, rfl, hB, h0, h1, h2, h3, h4, h5, h6, h7, h8, h9, h10, h11, (fun _ => rfl), h13, (fun _ => rfl), (fun _ => rfl), h16, h17⟩
    · obtain rfl := Option.some.inj ho
      simp [Region.binds] at hi2
      obtain rfl := h15 (by simp [hi2])
      clear ho hi2
      rw [if_pos (by rfl)]
      go_simp
      exact hK _ _ ⟨v10, v11, v12, v13, v14, v15, v16, v17, v18, v19, v20, v21, v22, v23, v24, _, _, v3, rfl, hB, h0, h1, h2, h3, h4, h5, h6, h7, h8, h9, h10, h11, h12, h13, h14, (fun _ => rfl), (fun _ => rfl), h17⟩
    · obtain rfl := Option.some.inj ho
      clear ho
      rw [if_pos (by rfl)]
      go_simp
      exact hK _ _ ⟨v10, v11, v12, v13, v14, v15, v16, v17, v18, v19, v20, v21, v22, v23, v24, v25, v2, _, rfl, hB, h0, h1, h2, h3, h4, h5, h6, h7, h8, h9, h10, h11, h12, h13, h14, h15, h16, (fun _ => rfl)⟩
    · simp at ho
  · intro Lq aq w2 hL hr hI
    obtain ⟨v10, v11, v12, v13, v14, v15, v16, v17, v18, v19, v20, v21, v22, v23, v24, v25, v2, v3, rfl, hB, h0, h1, h2, h3, h4, h5, h6, h7, h8, h9, h10, h11, h12, h13, h14, h15, h16, h17⟩ := hI
    obtain ⟨b0, b1, b2, b3, b4, b5, b6, b7, b8, b9, b10, b11, b12, b13, b14, b15, b16, b17, rfl⟩ : ∃ b0 b1 b2 b3 b4 b5 b6 b7 b8 b9 b10 b11 b12 b13 b14 b15 b16 b17, Lq = [b0, b1, b2, b3, b4, b5, b6, b7, b8, b9, b10, b11, b12, b13, b14, b15, b16, b17] := by
      match Lq, hL with
      | [b0, b1, b2, b3, b4, b5, b6, b7, b8, b9, b10, b11, b12, b13, b14, b15, b16, b17], _ => exact ⟨b0, b1, b2, b3, b4, b5, b6, b7, b8, b9, b10, b11, b12, b13, b14, b15, b16, b17, rfl⟩
    have hr2 := List.filter_eq_nil_iff.1 hr
    clear hr hL
    have k0 := hr2 0 (by simp)
    have k1 := hr2 1 (by simp)
    have k2 := hr2 2 (by simp)
    have k3 := hr2 3 (by simp)
    have k4 := hr2 4 (by simp)
    have k5 := hr2 5 (by simp)
    have k6 := hr2 6 (by simp)
    have k7 := hr2 7 (by simp)
    have k8 := hr2 8 (by simp)
    have k9 := hr2 9 (by simp)
    have k10 := hr2 10 (by simp)
    have k11 := hr2 11 (by simp)
    have k12 := hr2 12 (by simp)
    have k13 := hr2 13 (by simp)
    have k14 := hr2 14 (by simp)
    have k15 := hr2 15 (by simp)
    have k16 := hr2 16 (by simp)
    have k17 := hr2 17 (by simp)
    clear hr2
    simp [Region.binds] at k0
    subst k0
    simp [Region.binds] at k1
    subst k1
    simp [Region.binds] at k2
    subst k2
    simp [Region.binds] at k3
    subst k3
    simp [Region.binds] at k4
    subst k4
    simp [Region.binds] at k5
    subst k5
    simp [Region.binds] at k6
    subst k6
    simp [Region.binds] at k7
    subst k7
    simp [Region.binds] at k8
    subst k8
    simp [Region.binds] at k9
    subst k9
    simp [Region.binds] at k10
    subst k10
    simp [Region.binds] at k11
    subst k11
    simp [Region.binds] at k12
    subst k12
    simp [Region.binds] at k13
    subst k13
    simp [Region.binds] at k14
    subst k14
    simp [Region.binds] at k15
    subst k15
    simp [Region.binds] at k16
    subst k16
    simp [Region.binds] at k17
    subst k17
    obtain rfl := h0 rfl
    obtain rfl := h1 rfl
    obtain rfl := h2 rfl
    obtain rfl := h4 rfl
    obtain rfl := h5 rfl
    obtain rfl := h6 rfl
    obtain rfl := h7 rfl
    obtain rfl := h8 rfl
    obtain rfl := h9 rfl
    obtain rfl := h10 rfl
    obtain rfl := h11 rfl
    obtain rfl := h12 rfl
    obtain rfl := h13 rfl
    obtain rfl := h14 rfl
    obtain rfl := h15 rfl
    obtain rfl := h16 rfl
    obtain rfl := h17 rfl
    go_wp2
    go_ret2
    exact ⟨rfl, bchain HB.out hB⟩
end Go.Proofs.YtddjkiejekfekaaDoor
namespace Go.Proofs.YtddjkiejekfekaaDoor
open Go.RowKit

def scells (L : List (List UInt8)) : List Value := L.map fun l => .string ⟨l.toArray⟩
theorem scells_append (L K : List (List UInt8)) : scells (L ++ K) = scells L ++ scells K := by simp [scells]
/-- A row of texts of the call's own, in a block from B on. -/
def Own (w : World) (B : Nat) (s : Value) (L : List (List UInt8)) : Prop := w.ownsRow B 9 1 s L.length (scells L)
theorem Own.nil (w : World) (B : Nat) : Own w B (.slice none 0 0) [] := ⟨rfl, Or.inl ⟨rfl, rfl⟩⟩
theorem Own.strs {w : World} {B : Nat} {s : Value} {L : List (List UInt8)} (h : Own w B s L) : Strs w s L := by
  obtain ⟨A, cap, rfl⟩ := own_form h
  refine ⟨A, cap, rfl, fun i hi => ?_⟩
  obtain ⟨g, cap', hv, hB, hlt⟩ := World.ownsRow.form h (by omega)
  obtain ⟨rfl, rfl⟩ : A = some ⟨g, 0, none⟩ ∧ cap = cap' := by simpa using hv
  exact ⟨_, rfl, World.ownsRow.cells h rfl i _ (by simp [scells, hi])⟩
theorem Own.below {w w' : World} {B : Nat} {s : Value} {L : List (List UInt8)} (h : Own w B s L) (hb : Below w.heap.size w w') : Own w' B s L :=
  row_out (G := fun _ => False) h (Out.of hb) (fun _ _ _ _ hf => hf.elim)
theorem Own.lt {w : World} {B : Nat} {s : Value} {L : List (List UInt8)} (h : Own w B s L) (k : Nat) (hk : s.ownBlock = some k) : B ≤ k ∧ k < w.heap.size := World.ownsRow.lt h k hk
theorem Own.strs_at {w w' : World} {B : Nat} {A : Option Addr} {n cap : Nat} {L : List (List UInt8)} (h : Own w B (.slice A n cap) L) (hb : Below w.heap.size w w') (k : Nat) (hk : k < L.length) : ∃ a, A = some a ∧ w'.cell? (a.add k) = some (.string ⟨L[k].toArray⟩) := by
  obtain ⟨A', cap', hv, hc⟩ := (h.below hb).strs
  obtain ⟨rfl, _⟩ : A = A' ∧ _ := by simpa using hv
  exact hc k hk
end Go.Proofs.YtddjkiejekfekaaDoor
namespace Go.Proofs.YtddjkiejekfekaaDoor
open Go.RowKit
open Go.Proofs.YtddjkiejekfekaaDoor.Pw (M)
open Go.Proofs.YtddjkiejekfekaaDoor.Txn (X)

set_option maxRecDepth 100000 in
set_option maxHeartbeats 4000000 in
theorem rEncodeTx_any (x : X) (z : Value) (w : World) (hz : Mems w z x.mem) :
    Calls Tryd.prog 11 #[xval x z] w fun r w' => r = .returned (.tuple #[.string ⟨(Txn.encS x).toArray⟩, .int .i64 (Txn.encC x)]) ∧ Below w.heap.size w w' := by
  obtain ⟨w0, hw0, hb0, ra⟩ := tx_box x z w
  have HB := Lib.hid hb0
  have HM := Lib.hid (hz.below hb0)
  have HFI := Lib.hid (rFine_any x z w0 HM.out)
  obtain ⟨q0, hq0⟩ : ∃ q0, w.heap.size = q0 := ⟨_, rfl⟩
  rw [hq0] at ra
  have HA := Lib.hid ra
  obtain ⟨Az, capz, rfl⟩ := hz.form
  obtain ⟨a0, a1, a2, a3, a4, a5, a6, a7⟩ := ra.cells
  unfold Txn.encS Txn.encC
  cases hf : Txn.fine x with
  | false =>
    rw [hf] at HFI
    rw [if_neg (by decide), if_neg (by decide)]
    unfold xval at HFI ⊢
    clear hb0 ra hz hf
    go_enter Tryd.func11, Tryd.ntmps11
    go_upto_region 1 with fail
    try rw [hw0]
    try rw [hq0]
    clear hw0 hq0
    go_wp2_with fail
    refine HFI.out.mono ?_
    rintro r w1 ⟨rfl, hb1⟩
    have HB1 := Lib.hid (bchain HB.out hb1)
    clear hb1
    go_wp2
    go_ret2
    exact ⟨rfl, HB1.out⟩
  | true =>
    have HWR := Lib.hid (fun w' h => rWritten_any x (.slice Az x.mem.length capz) w' h hf)
    rw [hf] at HFI
    rw [if_pos rfl, if_pos rfl]
    obtain ⟨Y, hY⟩ : ∃ Y, Txn.written x = Y := ⟨_, rfl⟩
    rw [hY] at HWR ⊢
    unfold xval at HFI HWR ⊢
    clear hb0 ra hz hf hY
    go_enter Tryd.func11, Tryd.ntmps11
    go_upto_region 1 with fail
    try rw [hw0]
    try rw [hq0]
    clear hw0 hq0
    go_wp2_with fail
    refine HFI.out.mono ?_
    rintro r w1 ⟨rfl, hb1⟩
    have HB1 := Lib.hid (bchain HB.out hb1)
    have HM1 := Lib.hid (HM.out.below hb1)
    have HA1 := Lib.hid (HA.out.below hb1)
    clear hb1 a0 a1 a2 a3 a4 a5 a6 a7
    obtain ⟨a0, a1, a2, a3, a4, a5, a6, a7⟩ := HA1.out.cells
    go_wp2_with fail
    refine (HWR.out _ HM1.out).mono ?_
    rintro r w2 ⟨rfl, hb2⟩
    have HB2 := Lib.hid (bchain HB1.out hb2)
    clear hb2
    go_wp2
    go_ret2
    exact ⟨rfl, HB2.out⟩

def Txn.allC (L : List X) : Int := ((Txn.encAll L).2 : Nat)
theorem Txn.fines_take {L : List X} {k : Nat} (hk : k < L.length) (h : Txn.fines (L.take k) = true) : Txn.fines (L.take (k + 1)) = Txn.fine L[k] := by
  unfold Txn.fines at h ⊢
  rw [List.take_succ_eq_append_getElem hk, List.all_append, h]
  simp
theorem Txn.fines_bad {L : List X} {k : Nat} (hk : k < L.length) (h : Txn.fine L[k] = false) : Txn.fines L = false := by
  rw [Bool.eq_false_iff]
  intro h2
  have := List.all_eq_true.1 h2 L[k] (List.getElem_mem hk)
  rw [h] at this
  cases this
theorem Txn.texts_le (l : List (List UInt8)) (h : ∀ t ∈ l, t.length ≤ 400) : (Code.textsL l).length ≤ l.length * 409 := by
  induction l with
  | nil => simp [Code.textsL]
  | cons t l ih =>
    have h1 := ih (fun s hs => h s (List.mem_cons_of_mem _ hs))
    have h2 := h t (List.mem_cons_self ..)
    have e : Code.textsL (t :: l) = Code.textL t ++ Code.textsL l := by simp [Code.textsL]
    have h3 := Code.numL_length t.length
    have h4 := Code.sz_le8 t.length (by omega)
    rw [e, List.length_append, List.length_cons]
    unfold Code.textL
    rw [List.length_append]
    omega
theorem Txn.all_le {L : List X} (hl : L.length ≤ 8) (h : Txn.fines L = true) : (Code.textsL (L.map Txn.written)).length ≤ 4000 ∧ (Code.listL (L.map Txn.written)).length ≤ 5000 := by
  have h1 := Txn.texts_le (L.map Txn.written) (fun t ht => by
    obtain ⟨x, hx, rfl⟩ := List.mem_map.1 ht
    exact Txn.written_len (List.all_eq_true.1 h x hx))
  rw [List.length_map] at h1
  have h2 := Code.numL_length (L.map Txn.written).length
  have h3 := Code.sz_le8 (L.map Txn.written).length (by rw [List.length_map]; omega)
  refine ⟨by omega, ?_⟩
  unfold Code.listL
  rw [List.length_append]
  omega
theorem Txn.encAll_len (L : List X) : (Txn.encAll L).1.length ≤ 5000 := by
  unfold Txn.encAll
  split
  · simp
  · split
    · rename_i h1 h2
      exact (Txn.all_le (by omega) h2).2
    · simp
theorem Txn.encAll_bad {L : List X} {k : Nat} (hl : L.length ≤ 8) (hk : k < L.length) (h : Txn.fine L[k] = false) : Txn.encAll L = ([], 150) := by
  unfold Txn.encAll
  rw [if_neg (by omega), if_neg (by rw [Txn.fines_bad hk h]; decide)]
theorem Txn.encAll_long {L : List X} (hl : 8 < L.length) : Txn.encAll L = ([], 2) := by
  unfold Txn.encAll
  rw [if_pos hl]
theorem Txn.encAll_ok {L : List X} (hl : L.length ≤ 8) (h : Txn.fines L = true) : Txn.encAll L = (Code.listL (L.map Txn.written), 0) := by
  unfold Txn.encAll
  rw [if_neg (by omega), if_pos h]
/-- What EncodeAll answers. -/
def EncAllPost (L : List X) (w : World) (r : Ending) (w' : World) : Prop := r = .returned (.tuple #[.string ⟨(Txn.encAll L).1.toArray⟩, .int .i64 (Txn.allC L)]) ∧ Below w.heap.size w w'
theorem encAll_post {L : List X} {w w' : World} {s : List UInt8} {c : Nat} (h : Txn.encAll L = (s, c)) (hb : Below w.heap.size w w') : EncAllPost L w (.returned (.tuple #[.string ⟨s.toArray⟩, .int .i64 c])) w' := ⟨by unfold Txn.allC; rw [h], hb⟩
set_option maxRecDepth 100000 in
set_option maxHeartbeats 8000000 in
theorem xencodeAll_any (L : List X) (v : Value) (w : World) (hv : Txs w v L) : Calls Tryd.prog 18 #[v] w (EncAllPost L w) := by
  obtain ⟨i0, hi, hz0, hz1, hz2⟩ := info_parts Tryd.infoStr
  have HV := Lib.hid hv
  obtain ⟨A, cap, rfl⟩ := hv.form
  clear hv
  by_cases h8 : 8 < L.length
  · have p1 : decide ((8 : Int) < (L.length : Int)) = true := decide_eq_true (by omega)
    have HE := Lib.hid (Txn.encAll_long h8)
    clear h8
    go_enter Tryd.func18, Tryd.ntmps18
    go_wp2
    go_ret2
    exact encAll_post HE.out (Below.refl _ _)
  have p1 : decide ((8 : Int) < (L.length : Int)) = false := decide_eq_false (by omega)
  have H8 : Hid (L.length ≤ 8) := Lib.hid (by omega)
  clear h8
  go_enter Tryd.func18, Tryd.ntmps18
  go_wp2
  go_loopw [4, 14] (fun out i wr => ∃ (k : Nat) (z : Value), z = out ∧ i = .int .i64 k ∧ k ≤ L.length ∧ Txn.fines (L.take k) = true ∧ Own wr w.heap.size z ((L.take k).map Txn.written) ∧ Below w.heap.size w wr) (fun _ i _ => L.length - (intOf i).toNat)
  case atStart => exact ⟨0, _, rfl, rfl, Nat.zero_le _, rfl, Own.nil _ _, Below.refl _ _⟩
  case round =>
    obtain ⟨k, u, rfl, rfl, hk, hfin, hown, hb⟩ := hrel
    have HF := Lib.hid hfin
    have HO := Lib.hid hown
    have HB := Lib.hid hb
    clear hfin hown hb
    by_cases hlt : k < L.length
    · have h1 : (k : Int) < (L.length : Int) := by omega
      have h0 : (0 : Int) ≤ (k : Int) := by omega
      have hk8 : (k : Int) ≤ 8 := by have := H8.out; omega
      obtain ⟨b, o, zx, hA, ca, hma⟩ := (HV.out.below HB.out).at k hlt
      subst hA
      have HFT := Lib.hid (Txn.fines_take hlt HF.out)
      have HBD : Hid (Txn.fine L[k] = false → Txn.encAll L = ([], 150)) := Lib.hid (fun h => Txn.encAll_bad H8.out hlt h)
      have HSN : Hid ((L.take (k + 1)).map Txn.written = (L.take k).map Txn.written ++ [Txn.written L[k]]) := Lib.hid (by rw [List.take_succ_eq_append_getElem hlt, List.map_append]; rfl)
      have HKL : Hid (((L.take k).map Txn.written).length = k) := Lib.hid (by simp; omega)
      obtain ⟨x, hx⟩ : ∃ x, L[k] = x := ⟨_, rfl⟩
      rw [hx] at ca hma HFT HBD HSN
      clear hx
      obtain ⟨Az, capz, rfl⟩ := hma.form
      obtain ⟨w2, hw2, hb2, ra⟩ := tx_box x (.slice Az x.mem.length capz) wr
      have c0 : wr.cell? ⟨b, o + k * 8, none⟩ = some (.int .i64 x.kind) := ca 0 _ rfl
      have c1 := ca 1 _ rfl
      have c2 := ca 2 _ rfl
      have c3 := ca 3 _ rfl
      have c4 := ca 4 _ rfl
      have c5 := ca 5 _ rfl
      have c6 := ca 6 _ rfl
      have c7 := ca 7 _ rfl
      obtain ⟨a0, a1, a2, a3, a4, a5, a6, a7⟩ := ra.cells
      have HB2 := Lib.hid (bchain HB.out hb2)
      have HO2 := Lib.hid (HO.out.below hb2)
      have HEN := Lib.hid (xencode_any x (.slice Az x.mem.length capz) w2 (hma.below hb2))
      unfold xval at HEN
      unfold Txn.encS Txn.encC at HEN
      clear ca hma hb2 ra
      cases hf : Txn.fine x with
      | false =>
        have HE := Lib.hid (HBD.out hf)
        rw [hf, if_neg (by decide), if_neg (by decide)] at HEN
        clear hf HFT HBD
        go_wp2_with fail
        refine HEN.out.mono ?_
        rintro r w3 ⟨rfl, hb3⟩
        have HB3 := Lib.hid (bchain HB2.out hb3)
        clear hb3
        go_wp2
        go_ret2
        exact encAll_post HE.out HB3.out
      | true =>
        rw [hf, if_pos rfl, if_pos rfl] at HEN
        rw [hf] at HFT
        obtain ⟨Y, hY⟩ : ∃ Y, Txn.written x = Y := ⟨_, rfl⟩
        rw [hY] at HEN HSN
        obtain ⟨O, hO⟩ : ∃ O, (L.take k).map Txn.written = O := ⟨_, rfl⟩
        rw [hO] at HSN HKL HO HO2
        clear hf HBD hY hO
        go_wp2_with fail
        refine HEN.out.mono ?_
        rintro r w3 ⟨rfl, hb3⟩
        have HB3 := Lib.hid (bchain HB2.out hb3)
        have HO3 := Lib.hid (HO2.out.below hb3)
        have HS3 : Hid (w.heap.size ≤ w3.heap.size) := Lib.hid HB3.out.size
        clear hb3
        go_wp2_with (at_builtin; refine wpList_append_lies _ rfl _ _ _ rfl w.heap.size 9 i0 (.string ⟨#[]⟩) 1 16 Tryd.underlying61 hi hz0 hz1 hz2 rfl (by decide) u O.length (scells O) (by rfl) (World.ownsRow.alloc HO3.out _) ⟨w3.heap.size, 0, none⟩ 1 1 (scells [Y]) (by rfl) rfl (World.news_of_block (heap_new_at _ _ _ rfl)) (by simp [scells, Value.oneCell']) (by decide) (by have := HKL.out; have := H8.out; unfold maxLen; omega) (by have := HKL.out; have := H8.out; omega) (by have := HS3.out; simp; omega) (w3.heap.size + 1) (by simp) ?_; intro g' cap' w5 hown5 hgrow5 hat5 hlt5)
        have hB5 : Below w.heap.size w w5 := HB3.out.trans (((Out.of ((Below.refl _ w3).alloc (Nat.le_refl _) _)).trans (Out.grown hgrow5 (F := fun j => u.ownBlock = some j) (fun j e => e))).below (fun j hj => (HO3.out.lt j hj).1) HS3.out)
        refine ⟨⟨k + 1, _, rfl, by go_num, by omega, HFT.out, ?_, hB5⟩, by simp [intOf]; omega⟩
        rw [HSN.out]
        unfold Own
        rw [scells_append, List.length_append]
        exact hown5
    · have h1 : ¬ ((k : Int) < (L.length : Int)) := by omega
      obtain rfl : k = L.length := by omega
      rw [List.take_length] at HF HO
      have HE := Lib.hid (Txn.encAll_ok H8.out HF.out)
      have HLI := Lib.hid (list_any (L.map Txn.written) u wr HO.out.strs (by have := H8.out; simp; omega) (Nat.le_trans (Txn.all_le H8.out HF.out).1 (by decide)))
      obtain ⟨Y, hY⟩ : ∃ Y, Code.listL (L.map Txn.written) = Y := ⟨_, rfl⟩
      rw [hY] at HE HLI
      clear hY
      go_wp2_with fail
      refine HLI.out.mono ?_
      rintro r w3 ⟨rfl, hb3⟩
      have HB3 := Lib.hid (bchain HB.out hb3)
      clear hb3
      go_wp2
      go_ret2
      exact encAll_post HE.out HB3.out
set_option maxRecDepth 100000 in
set_option maxHeartbeats 8000000 in
theorem rencodeAll_any (L : List X) (v : Value) (w : World) (hv : Txs w v L) : Calls Tryd.prog 19 #[v] w (EncAllPost L w) := by
  obtain ⟨i0, hi, hz0, hz1, hz2⟩ := info_parts Tryd.infoStr
  have HV := Lib.hid hv
  obtain ⟨A, cap, rfl⟩ := hv.form
  clear hv
  by_cases h8 : 8 < L.length
  · have p1 : decide ((8 : Int) < (L.length : Int)) = true := decide_eq_true (by omega)
    have HE := Lib.hid (Txn.encAll_long h8)
    clear h8
    go_enter Tryd.func19, Tryd.ntmps19
    go_wp2
    go_ret2
    exact encAll_post HE.out (Below.refl _ _)
  have p1 : decide ((8 : Int) < (L.length : Int)) = false := decide_eq_false (by omega)
  have H8 : Hid (L.length ≤ 8) := Lib.hid (by omega)
  clear h8
  go_enter Tryd.func19, Tryd.ntmps19
  go_wp2
  go_loopw [4, 5] (fun out i wr => ∃ (k : Nat) (z : Value), z = out ∧ i = .int .i64 k ∧ k ≤ L.length ∧ Txn.fines (L.take k) = true ∧ Own wr w.heap.size z ((L.take k).map Txn.written) ∧ Below w.heap.size w wr) (fun _ i _ => L.length - (intOf i).toNat)
  case atStart => exact ⟨0, _, rfl, rfl, Nat.zero_le _, rfl, Own.nil _ _, Below.refl _ _⟩
  case round =>
    obtain ⟨k, u, rfl, rfl, hk, hfin, hown, hb⟩ := hrel
    have HF := Lib.hid hfin
    have HO := Lib.hid hown
    have HB := Lib.hid hb
    clear hfin hown hb
    by_cases hlt : k < L.length
    · have h1 : (k : Int) < (L.length : Int) := by omega
      have h0 : (0 : Int) ≤ (k : Int) := by omega
      have hk8 : (k : Int) ≤ 8 := by have := H8.out; omega
      obtain ⟨b, o, zx, hA, ca, hma⟩ := (HV.out.below HB.out).at k hlt
      subst hA
      have HFT := Lib.hid (Txn.fines_take hlt HF.out)
      have HBD : Hid (Txn.fine L[k] = false → Txn.encAll L = ([], 150)) := Lib.hid (fun h => Txn.encAll_bad H8.out hlt h)
      have HSN : Hid ((L.take (k + 1)).map Txn.written = (L.take k).map Txn.written ++ [Txn.written L[k]]) := Lib.hid (by rw [List.take_succ_eq_append_getElem hlt, List.map_append]; rfl)
      have HKL : Hid (((L.take k).map Txn.written).length = k) := Lib.hid (by simp; omega)
      obtain ⟨x, hx⟩ : ∃ x, L[k] = x := ⟨_, rfl⟩
      rw [hx] at ca hma HFT HBD HSN
      clear hx
      obtain ⟨Az, capz, rfl⟩ := hma.form
      have c0 : wr.cell? ⟨b, o + k * 8, none⟩ = some (.int .i64 x.kind) := ca 0 _ rfl
      have c1 := ca 1 _ rfl
      have c2 := ca 2 _ rfl
      have c3 := ca 3 _ rfl
      have c4 := ca 4 _ rfl
      have c5 := ca 5 _ rfl
      have c6 := ca 6 _ rfl
      have c7 := ca 7 _ rfl
      have HMA := Lib.hid hma
      have HUP : Hid (∀ w', Below wr.heap.size wr w' → w'.cell? ⟨b, o + k * 8, none⟩ = some (.int .i64 x.kind) ∧ w'.cell? ⟨b, o + k * 8 + 1, none⟩ = some (.string ⟨x.frm.toArray⟩) ∧ w'.cell? ⟨b, o + k * 8 + 2, none⟩ = some (.int .i64 x.seq) ∧ w'.cell? ⟨b, o + k * 8 + 3, none⟩ = some (.string ⟨x.dst.toArray⟩) ∧ w'.cell? ⟨b, o + k * 8 + 4, none⟩ = some (.int .i64 x.amt) ∧ w'.cell? ⟨b, o + k * 8 + 5, none⟩ = some (.string ⟨x.key.toArray⟩) ∧ w'.cell? ⟨b, o + k * 8 + 6, none⟩ = some (.string ⟨x.val.toArray⟩) ∧ w'.cell? ⟨b, o + k * 8 + 7, none⟩ = some (.slice Az x.mem.length capz)) := Lib.hid (fun w' h => by
        have up : ∀ {p : Addr} {t : Value}, wr.cell? p = some t → w'.cell? p = some t := fun c => (h.cell (World.block_lt_of_cell? _ _ c)).trans c
        exact ⟨up c0, up c1, up c2, up c3, up c4, up c5, up c6, up c7⟩)
      have HFI := Lib.hid (rFine_any x _ wr hma)
      unfold xval at HFI
      clear ca hma
      cases hf : Txn.fine x with
      | false =>
        have HE := Lib.hid (HBD.out hf)
        rw [hf] at HFI
        clear hf HFT HBD
        go_wp2_with fail
        refine HFI.out.mono ?_
        rintro r w3 ⟨rfl, hb3⟩
        have HB3 := Lib.hid (bchain HB.out hb3)
        clear hb3
        go_wp2
        go_ret2
        exact encAll_post HE.out HB3.out
      | true =>
        have HWR := Lib.hid (fun w' h => rWritten_any x (.slice Az x.mem.length capz) w' h hf)
        unfold xval at HWR
        rw [hf] at HFI
        rw [hf] at HFT
        obtain ⟨Y, hY⟩ : ∃ Y, Txn.written x = Y := ⟨_, rfl⟩
        rw [hY] at HWR HSN
        obtain ⟨O, hO⟩ : ∃ O, (L.take k).map Txn.written = O := ⟨_, rfl⟩
        rw [hO] at HSN HKL HO
        clear hf HBD hY hO
        go_wp2_with fail
        refine HFI.out.mono ?_
        rintro r w2 ⟨rfl, hb2⟩
        have HB2 := Lib.hid (bchain HB.out hb2)
        have HO2 := Lib.hid (HO.out.below hb2)
        have HM2 := Lib.hid (HMA.out.below hb2)
        clear c0 c1 c2 c3 c4 c5 c6 c7
        obtain ⟨c0, c1, c2, c3, c4, c5, c6, c7⟩ := HUP.out _ hb2
        clear hb2
        go_wp2_with fail
        refine (HWR.out _ HM2.out).mono ?_
        rintro r w3 ⟨rfl, hb3⟩
        have HB3 := Lib.hid (bchain HB2.out hb3)
        have HO3 := Lib.hid (HO2.out.below hb3)
        have HS3 : Hid (w.heap.size ≤ w3.heap.size) := Lib.hid HB3.out.size
        clear hb3
        go_wp2_with (at_builtin; refine wpList_append_lies _ rfl _ _ _ rfl w.heap.size 9 i0 (.string ⟨#[]⟩) 1 16 Tryd.underlying61 hi hz0 hz1 hz2 rfl (by decide) u O.length (scells O) (by rfl) (World.ownsRow.alloc HO3.out _) ⟨w3.heap.size, 0, none⟩ 1 1 (scells [Y]) (by rfl) rfl (World.news_of_block (heap_new_at _ _ _ rfl)) (by simp [scells, Value.oneCell']) (by decide) (by have := HKL.out; have := H8.out; unfold maxLen; omega) (by have := HKL.out; have := H8.out; omega) (by have := HS3.out; simp; omega) (w3.heap.size + 1) (by simp) ?_; intro g' cap' w5 hown5 hgrow5 hat5 hlt5)
        have hB5 : Below w.heap.size w w5 := HB3.out.trans (((Out.of ((Below.refl _ w3).alloc (Nat.le_refl _) _)).trans (Out.grown hgrow5 (F := fun j => u.ownBlock = some j) (fun j e => e))).below (fun j hj => (HO3.out.lt j hj).1) HS3.out)
        refine ⟨⟨k + 1, _, rfl, by go_num, by omega, HFT.out, ?_, hB5⟩, by simp [intOf]; omega⟩
        rw [HSN.out]
        unfold Own
        rw [scells_append, List.length_append]
        exact hown5
    · have h1 : ¬ ((k : Int) < (L.length : Int)) := by omega
      obtain rfl : k = L.length := by omega
      rw [List.take_length] at HF HO
      have HE := Lib.hid (Txn.encAll_ok H8.out HF.out)
      have HLI := Lib.hid (rList_any (L.map Txn.written) u wr HO.out.strs (by have := H8.out; simp; omega) (Nat.le_trans (Txn.all_le H8.out HF.out).1 (by decide)))
      obtain ⟨Y, hY⟩ : ∃ Y, Code.listL (L.map Txn.written) = Y := ⟨_, rfl⟩
      rw [hY] at HE HLI
      clear hY
      go_wp2_with fail
      refine HLI.out.mono ?_
      rintro r w3 ⟨rfl, hb3⟩
      have HB3 := Lib.hid (bchain HB.out hb3)
      clear hb3
      go_wp2
      go_ret2
      exact encAll_post HE.out HB3.out
/-- What Root answers. -/
def Txn.rootS (L : List X) : List UInt8 := if (Txn.encAll L).2 = 0 then Dig.sum 3 (Txn.encAll L).1 else []
theorem Txn.rootS_len (L : List X) (h : (Txn.encAll L).2 = 0) : (Txn.rootS L).length = 32 := by
  unfold Txn.rootS
  rw [if_pos h]
  unfold Dig.sum
  rw [if_pos (by decide)]
  exact Sha.sumP_length _
set_option maxRecDepth 100000 in
theorem xroot_any (L : List X) (v : Value) (w : World) (hv : Txs w v L) (hT : Tab w) : Calls Tryd.prog 22 #[v] w fun r w' => r = .returned (.tuple #[.string ⟨(Txn.rootS L).toArray⟩, .int .i64 (Txn.allC L)]) ∧ Below w.heap.size w w' := by
  have HT := Lib.hid hT
  have HEN := Lib.hid (xencodeAll_any L v w hv)
  obtain ⟨A, cap, rfl⟩ := hv.form
  have hle := Txn.encAll_len L
  have HSM := Lib.hid (fun w hT => dsum_any 3 (Txn.encAll L).1 w hT (by omega))
  rw [show Dig.sumC 3 = 0 from rfl] at HSM
  unfold EncAllPost Txn.allC at HEN
  unfold Txn.rootS Txn.allC
  obtain ⟨⟨S, C⟩, hE⟩ : ∃ E, Txn.encAll L = E := ⟨_, rfl⟩
  rw [hE] at HEN HSM ⊢
  dsimp only at HEN HSM ⊢
  obtain ⟨D, hD⟩ : ∃ D, Dig.sum 3 S = D := ⟨_, rfl⟩
  rw [hD] at HSM ⊢
  clear hv hT hle hE hD
  by_cases hC : C = 0
  · subst hC
    rw [if_pos rfl]
    go_enter Tryd.func22, Tryd.ntmps22
    go_wp2_with fail
    refine HEN.out.mono ?_
    rintro r w1 ⟨rfl, hb1⟩
    have HB1 := Lib.hid hb1
    have HT1 := Lib.hid (HT.out.below hb1)
    clear hb1
    go_wp2_with fail
    refine (HSM.out _ HT1.out).mono ?_
    rintro r w2 ⟨rfl, hb2⟩
    have HB2 := Lib.hid (bchain HB1.out hb2)
    clear hb2
    go_wp2
    go_ret2
    exact ⟨rfl, HB2.out⟩
  · rw [if_neg hC]
    have hC1 : ((C : Int) != 0) = true := by rw [bne_iff_ne]; omega
    clear hC
    go_enter Tryd.func22, Tryd.ntmps22
    go_wp2_with fail
    refine HEN.out.mono ?_
    rintro r w1 ⟨rfl, hb1⟩
    have HB1 := Lib.hid hb1
    clear hb1
    go_wp2
    go_ret2
    exact ⟨rfl, HB1.out⟩
set_option maxRecDepth 100000 in
theorem rroot_tx (L : List X) (v : Value) (w : World) (hv : Txs w v L) : Calls Tryd.prog 23 #[v] w fun r w' => r = .returned (.tuple #[.string ⟨(Txn.rootS L).toArray⟩, .int .i64 (Txn.allC L)]) ∧ Below w.heap.size w w' := by
  have HEN := Lib.hid (rencodeAll_any L v w hv)
  obtain ⟨A, cap, rfl⟩ := hv.form
  have hle := Txn.encAll_len L
  have HSM := Lib.hid (fun w => rTagged_any 3 (Txn.encAll L).1 w (by omega))
  rw [show Sha.sumP (Sha.byteOf 3 :: (Txn.encAll L).1) = Dig.sum 3 (Txn.encAll L).1 from by unfold Dig.sum; rw [if_pos (by decide)]] at HSM
  unfold EncAllPost Txn.allC at HEN
  unfold Txn.rootS Txn.allC
  obtain ⟨⟨S, C⟩, hE⟩ : ∃ E, Txn.encAll L = E := ⟨_, rfl⟩
  rw [hE] at HEN HSM ⊢
  dsimp only at HEN HSM ⊢
  obtain ⟨D, hD⟩ : ∃ D, Dig.sum 3 S = D := ⟨_, rfl⟩
  rw [hD] at HSM ⊢
  clear hv hle hE hD
  by_cases hC : C = 0
  · subst hC
    rw [if_pos rfl]
    go_enter Tryd.func23, Tryd.ntmps23
    go_wp2_with fail
    refine HEN.out.mono ?_
    rintro r w1 ⟨rfl, hb1⟩
    have HB1 := Lib.hid hb1
    clear hb1
    go_wp2_with fail
    refine (HSM.out _).mono ?_
    rintro r w2 ⟨rfl, hb2⟩
    have HB2 := Lib.hid (bchain HB1.out hb2)
    clear hb2
    go_wp2
    go_ret2
    exact ⟨rfl, HB2.out⟩
  · rw [if_neg hC]
    have hC1 : ((C : Int) != 0) = true := by rw [bne_iff_ne]; omega
    clear hC
    go_enter Tryd.func23, Tryd.ntmps23
    go_wp2_with fail
    refine HEN.out.mono ?_
    rintro r w1 ⟨rfl, hb1⟩
    have HB1 := Lib.hid hb1
    clear hb1
    go_wp2
    go_ret2
    exact ⟨rfl, HB1.out⟩
end Go.Proofs.YtddjkiejekfekaaDoor
namespace Go.Proofs.YtddjkiejekfekaaDoor.Txn
open Go.Proofs.YtddjkiejekfekaaDoor.Pw (M)

/-- What the program reads behind the kind's byte. -/
def readK (k : Int) (f : T) (n : Int) (st : Pw.St) : X × Pw.St :=
  if k = 1 then (⟨k, f, n, (Tm.rdT 6 st).1, ((Pw.rdN (Tm.rdT 6 st).2).1 : Nat), [], [], []⟩, (Pw.rdN (Tm.rdT 6 st).2).2)
  else if k = 2 then (⟨k, f, n, [], 0, (Tm.rdT 6 st).1, (Tm.rdT 32 (Tm.rdT 6 st).2).1, []⟩, (Tm.rdT 32 (Tm.rdT 6 st).2).2)
  else if k = 3 then (⟨k, f, n, [], 0, (Tm.rdT 6 st).1, [], []⟩, (Tm.rdT 6 st).2)
  else if k = 4 then (⟨k, f, n, [], 0, [], [], Pw.decL (Tm.rdT 65536 st).1⟩, (Tm.rdT 65536 st).2)
  else (⟨k, f, n, [], 0, [], [], []⟩, st)
def readC (c : UInt8) (r : T) : X × Pw.St := readK (c.toNat : Nat) (Tm.rdT 6 (r, 0)).1 ((Pw.rdN (Tm.rdT 6 (r, 0)).2).1 : Nat) (Pw.rdN (Tm.rdT 6 (r, 0)).2).2
theorem readC_written {x : X} (h : fine x = true) : ∃ c s, written x = c :: s ∧ readC c s = (x, [], 0) := by
  obtain ⟨h1, h2, h3, h4, h5⟩ := fine_of h
  refine ⟨_, _, rfl, ?_⟩
  have e1 : Tm.rdT 6 (Code.textL x.frm ++ Code.numL x.seq.toNat ++ tailB x, 0) = (x.frm, Code.numL x.seq.toNat ++ tailB x, 0) := by
    rw [List.append_assoc]
    exact Tm.rdT_text 6 x.frm _ (by omega) (by decide)
  have e2 : Pw.rdN (Code.numL x.seq.toNat ++ tailB x, 0) = (x.seq.toNat, tailB x, 0) := Pw.rdN_num _ _ (by omega)
  unfold readC
  rw [e1]
  dsimp only
  rw [e2]
  dsimp only
  have e3 : ((x.seq.toNat : Nat) : Int) = x.seq := by omega
  rw [e3]
  rcases kind_of h5 with ⟨hk, q1, q2, q3, q4, q5, q6, q7⟩ | ⟨hk, q1, q2, q3, q4, q5, q6, q7⟩ | ⟨hk, q1, q2, q3, q4, q5, q6⟩ | ⟨hk, q1, q2, q3, q4, q5⟩
  · have ek : (((UInt8.ofNat x.kind.toNat).toNat : Nat) : Int) = 1 := by rw [hk]; rfl
    rw [ek]
    unfold readK tailB
    rw [if_pos rfl, if_pos hk]
    have f1 : Tm.rdT 6 (Code.textL x.dst ++ Code.numL x.amt.toNat, 0) = (x.dst, Code.numL x.amt.toNat, 0) := Tm.rdT_text 6 x.dst _ (by omega) (by decide)
    have f2 : Pw.rdN (Code.numL x.amt.toNat, 0) = (x.amt.toNat, [], 0) := by
      have := Pw.rdN_num x.amt.toNat [] (by omega)
      rwa [List.append_nil] at this
    rw [f1]
    dsimp only
    rw [f2]
    dsimp only
    refine Prod.ext (X.ext' hk.symm rfl rfl rfl ?_ q5.symm q6.symm q7.symm) rfl
    show ((x.amt.toNat : Nat) : Int) = x.amt
    omega
  · have ek : (((UInt8.ofNat x.kind.toNat).toNat : Nat) : Int) = 2 := by rw [hk]; rfl
    rw [ek]
    unfold readK tailB
    rw [if_neg (by decide), if_pos rfl, if_neg (by omega), if_pos hk]
    have f1 : Tm.rdT 6 (Code.textL x.key ++ Code.textL x.val, 0) = (x.key, Code.textL x.val, 0) := Tm.rdT_text 6 x.key _ (by omega) (by decide)
    have f2 : Tm.rdT 32 (Code.textL x.val, 0) = (x.val, [], 0) := by
      have := Tm.rdT_text 32 x.val [] (by omega) (by decide)
      rwa [List.append_nil] at this
    rw [f1]
    dsimp only
    rw [f2]
    exact Prod.ext (X.ext' hk.symm rfl rfl q1.symm q2.symm rfl rfl q7.symm) rfl
  · have ek : (((UInt8.ofNat x.kind.toNat).toNat : Nat) : Int) = 3 := by rw [hk]; rfl
    rw [ek]
    unfold readK tailB
    rw [if_neg (by decide), if_neg (by decide), if_pos rfl, if_neg (by omega), if_neg (by omega), if_pos hk]
    have f1 : Tm.rdT 6 (Code.textL x.key, 0) = (x.key, [], 0) := by
      have := Tm.rdT_text 6 x.key [] (by omega) (by decide)
      rwa [List.append_nil] at this
    rw [f1]
    exact Prod.ext (X.ext' hk.symm rfl rfl q1.symm q2.symm rfl q5.symm q6.symm) rfl
  · have ek : (((UInt8.ofNat x.kind.toNat).toNat : Nat) : Int) = 4 := by rw [hk]; rfl
    rw [ek]
    unfold readK tailB
    rw [if_neg (by decide), if_neg (by decide), if_neg (by decide), if_pos rfl, if_neg (by omega), if_neg (by omega), if_neg (by omega)]
    have hle : (Pw.encB x.mem).length ≤ 200 := by
      have h9 := Pw.encB_le q5 x.mem.length
      rw [List.take_length] at h9
      exact h9
    have f1 : Tm.rdT 65536 (Code.textL (Pw.encB x.mem), 0) = (Pw.encB x.mem, [], 0) := by
      have := Tm.rdT_text 65536 (Pw.encB x.mem) [] (by omega) (by decide)
      rwa [List.append_nil] at this
    rw [f1]
    exact Prod.ext (X.ext' hk.symm rfl rfl q1.symm q2.symm q3.symm q4.symm (Pw.enc_dec q5).2) rfl
theorem okL_decL {t : T} (h : Pw.okL (Pw.decL t) = true) : Pw.encB (Pw.decL t) = t := by
  cases hd : Pw.decOK t with
  | true => exact (Pw.dec_enc hd).2
  | false =>
    rw [show Pw.decL t = [] by simp [Pw.decL, hd]] at h
    simp [Pw.okL] at h
theorem readK_ok {k : Int} {f : T} {n : Int} {st : Pw.St} (h : (readK k f n st).2.2 = 0) (hf : fine (readK k f n st).1 = true) : st.2 = 0 ∧ st.1 = tailB (readK k f n st).1 ++ (readK k f n st).2.1 ∧ (readK k f n st).1.kind = k ∧ (readK k f n st).1.frm = f ∧ (readK k f n st).1.seq = n := by
  obtain ⟨g1, g2, g3, g4, g5⟩ := fine_of hf
  unfold readK at h hf g5 ⊢
  by_cases k1 : k = 1
  · simp only [if_pos k1] at h hf g5 ⊢
    obtain ⟨a1, a2⟩ := Pw.rdN_ok h
    obtain ⟨b1, b2⟩ := Tm.rdT_ok a1
    refine ⟨b1, ?_, trivial, trivial, trivial⟩
    unfold tailB
    rw [if_pos k1, Int.toNat_natCast, List.append_assoc, ← a2]
    exact b2
  by_cases k2 : k = 2
  · simp only [if_neg k1, if_pos k2] at h hf g5 ⊢
    obtain ⟨a1, a2⟩ := Tm.rdT_ok h
    obtain ⟨b1, b2⟩ := Tm.rdT_ok a1
    refine ⟨b1, ?_, trivial, trivial, trivial⟩
    unfold tailB
    rw [if_neg k1, if_pos k2, List.append_assoc, ← a2]
    exact b2
  by_cases k3 : k = 3
  · simp only [if_neg k1, if_neg k2, if_pos k3] at h hf g5 ⊢
    obtain ⟨b1, b2⟩ := Tm.rdT_ok h
    refine ⟨b1, ?_, trivial, trivial, trivial⟩
    unfold tailB
    rw [if_neg k1, if_neg k2, if_pos k3]
    exact b2
  by_cases k4 : k = 4
  · simp only [if_neg k1, if_neg k2, if_neg k3, if_pos k4] at h hf g5 ⊢
    obtain ⟨b1, b2⟩ := Tm.rdT_ok h
    refine ⟨b1, ?_, trivial, trivial, trivial⟩
    unfold tailB
    rw [if_neg k1, if_neg k2, if_neg k3]
    rcases kind_of g5 with ⟨hk, _⟩ | ⟨hk, _⟩ | ⟨hk, _⟩ | ⟨hk, q⟩
    · exact absurd hk k1
    · exact absurd hk k2
    · exact absurd hk k3
    · rw [okL_decL q.2.2.2.2]
      exact b2
  · simp only [if_neg k1, if_neg k2, if_neg k3, if_neg k4] at g5
    rcases kind_of g5 with ⟨hk, _⟩ | ⟨hk, _⟩ | ⟨hk, _⟩ | ⟨hk, q⟩
    · exact absurd hk k1
    · exact absurd hk k2
    · exact absurd hk k3
    · exact absurd hk k4
theorem decC (c : UInt8) (r : T) : dec (c :: r) = if Pw.endC (readC c r).2 = 0 ∧ fine (readC c r).1 = true then some (readC c r).1 else none := by
  split
  · rename_i q
    obtain ⟨q1, q2⟩ := Pw.endC_ok q.1
    refine dec_iff.2 ⟨q.2, ?_⟩
    obtain ⟨a1, a2, a3, a4, a5⟩ := readK_ok (show (readK (c.toNat : Nat) (Tm.rdT 6 (r, 0)).1 ((Pw.rdN (Tm.rdT 6 (r, 0)).2).1 : Nat) (Pw.rdN (Tm.rdT 6 (r, 0)).2).2).2.2 = 0 from q1) q.2
    have q2' : (readK (c.toNat : Nat) (Tm.rdT 6 (r, 0)).1 ((Pw.rdN (Tm.rdT 6 (r, 0)).2).1 : Nat) (Pw.rdN (Tm.rdT 6 (r, 0)).2).2).2.1 = [] := q2
    rw [q2', List.append_nil] at a2
    obtain ⟨b1, b2⟩ := Pw.rdN_ok a1
    obtain ⟨c1, c2⟩ := Tm.rdT_ok b1
    dsimp only at c2
    show written (readK (c.toNat : Nat) (Tm.rdT 6 (r, 0)).1 ((Pw.rdN (Tm.rdT 6 (r, 0)).2).1 : Nat) (Pw.rdN (Tm.rdT 6 (r, 0)).2).2).1 = c :: r
    unfold written
    rw [a3, a4, a5, ← a2, Int.toNat_natCast, Int.toNat_natCast, List.append_assoc, ← b2, ← c2, UInt8.ofNat_toNat]
  · rename_i q
    cases hd : dec (c :: r) with
    | none => rfl
    | some x =>
      obtain ⟨h1, h2⟩ := dec_ok hd
      obtain ⟨d, s, e1, e2⟩ := readC_written h1
      rw [e1] at h2
      obtain ⟨rfl, rfl⟩ := List.cons.inj h2
      rw [e2] at q
      exact absurd ⟨rfl, h1⟩ q
end Go.Proofs.YtddjkiejekfekaaDoor.Txn
