/- ExecWorks, TriRefOf, TriOfT, TriCover, TriWorks, ArgTActs, TriMade, TriMade2, BookItems, TriLaw, ExecBegun, ExecBig, ArgNode, ArgTwoS, ExecEq -/
import Derived.Test.YtlckcfpdiigjiaaGreatDoorPk21
import Derived.Test.YtlckcfpdiigjiaaGreatDoorPk18
import Derived.Test.YtlckcfpdiigjiaaGreatDoorPk06
import Derived.Test.YtlckcfpdiigjiaaGreatDoorPk05
import Derived.Test.YtlckcfpdiigjiaaGreatDoorPk16
import Derived.Test.YtlckcfpdiigjiaaGreatDoorPk15
import Derived.Deep.RegionHeld3
import Derived.Test.YtlckcfpdiigjiaaGreatDoorPk01
import Derived.Deep.Slices
import Derived.DataReads
import Derived.OpenShut
import Derived.SizedLaws
import Derived.Lib.LaidU8
import Derived.BigQuiet
import Derived.Test.YtlckcfpdiigjiaaGreatDoorPk19
import Derived.Test.YtlckcfpdiigjiaaGreatDoorPk11
import Derived.Laws.StructEq
namespace Go.Proofs.YtlckcfpdiigjiaaGreatDoor
open Go.RowKit
open Sto (T St)
open Go.Proofs.YtlckcfpdiigjiaaGreatDoor.Pw (M)
open Go.Proofs.YtlckcfpdiigjiaaGreatDoor.Txn (X)
open Go.Proofs.YtlckcfpdiigjiaaGreatDoor.Exc (A)

theorem works_box (w : World) : ∃ w1, (w.alloc (.cells #[.string ⟨#[97]⟩, .int .i64 9, .int .i64 0] 55)).alloc (.cells #[.string ⟨#[118]⟩, .int .i64 1] 71) = w1 ∧ Below w.heap.size w w1 ∧ AccIn w1 (.slice (some ⟨w.heap.size, 0, none⟩) 1 1) Exc.wA ∧ Mems w1 (.slice (some ⟨w.heap.size + 1, 0, none⟩) 1 1) Exc.wM := by
  have ha : AccIn (w.alloc (.cells #[.string ⟨#[97]⟩, .int .i64 9, .int .i64 0] 55)) (.slice (some ⟨w.heap.size, 0, none⟩) 1 1) Exc.wA :=
    RowsAt.inn (RowsAt.own (ty := 55) (B := w.heap.size) accl_length ⟨rfl, Or.inr ⟨w.heap.size, 1, _, rfl, Nat.le_refl _, heap_alloc_new w _, by decide, by simp [maxLen], rfl, rfl⟩⟩)
  have hb := (Below.refl w.heap.size w).alloc (Nat.le_refl _) (.cells #[.string ⟨#[97]⟩, .int .i64 9, .int .i64 0] 55)
  have es : (w.alloc (.cells #[.string ⟨#[97]⟩, .int .i64 9, .int .i64 0] 55)).heap.size = w.heap.size + 1 := by rw [World.size_alloc]
  obtain ⟨w2, hw2⟩ : ∃ w2, w.alloc (.cells #[.string ⟨#[97]⟩, .int .i64 9, .int .i64 0] 55) = w2 := ⟨_, rfl⟩
  rw [hw2] at ha hb es
  have hb2 := (Below.refl w2.heap.size w2).alloc (Nat.le_refl _) (.cells #[.string ⟨#[118]⟩, .int .i64 1] 71)
  refine ⟨_, by rw [hw2], bchain hb hb2, RowsIn.below ha hb2, ?_⟩
  rw [← es]
  exact OwnM.mems (B := w2.heap.size) (L := Exc.wM) ⟨rfl, Or.inr ⟨w2.heap.size, 1, _, rfl, Nat.le_refl _, heap_alloc_new w2 _, by decide, by simp [maxLen], rfl, rfl⟩⟩
set_option maxRecDepth 100000 in
set_option maxHeartbeats 4000000 in
theorem eworks_any (w : World) (hT : Tab w) : Calls Tryz.prog 7 #[] w fun e w' => e = .returned (.bool true) ∧ Below w.heap.size w w' := by
  obtain ⟨S, hg, ha, hb, hS, hl⟩ := Exc.work_gen
  obtain ⟨R, hd, ra, rb, hag⟩ := Exc.work_do ha hb hS hl
  have HT := Lib.hid hT
  obtain ⟨w1, hw1, hb1, hac, hme⟩ := works_box w
  obtain ⟨q0, hq0⟩ : ∃ q, w.heap.size = q := ⟨_, rfl⟩
  rw [hq0] at hac hme
  have HQ0 := Lib.hid hq0
  have HW1 := Lib.hid hw1
  have HB1 := Lib.hid hb1
  have HG := Lib.hid (egenesis_any Exc.wA _ Exc.wM _ w1 hac hme (hT.below hb1))
  rw [hg] at HG
  dsimp only at HG
  have HD1 : Hid (∀ g w', TrAt w' g S → Tab w' → Calls Tryz.prog 17 #[ptr g, xval Exc.wX (.slice none 0 0)] w' (TEnd 0 R w')) := Lib.hid (fun g w' h h2 => by
    have h3 := edo_any (g := g) S Exc.wX (.slice none 0 0) w' h h2 (Mems.nil _)
    rw [hd] at h3
    exact h3)
  have HD2 : Hid (∀ g w', TrAt w' g R → Tab w' → Calls Tryz.prog 17 #[ptr g, xval Exc.wX (.slice none 0 0)] w' (TEnd 160 [] w')) := Lib.hid (fun g w' h h2 => by
    have h3 := edo_any (g := g) R Exc.wX (.slice none 0 0) w' h h2 (Mems.nil _)
    rw [hag] at h3
    exact h3)
  have HA : Hid (∀ g w', TrAt w' g R → Calls Tryz.prog 19 #[ptr g, .string ⟨#[97]⟩] w' fun r w'' => r = .returned (.tuple #[.agg #[.string ⟨#[97]⟩, .int .i64 4, .int .i64 1], .int .i64 0]) ∧ Below w'.heap.size w' w'') := Lib.hid (fun g w' h => by
    have h3 := eaccount_any (gt := g) R [97] w' h (by decide)
    rw [ra] at h3
    exact h3)
  have HB : Hid (∀ g w', TrAt w' g R → Calls Tryz.prog 19 #[ptr g, .string ⟨#[98]⟩] w' fun r w'' => r = .returned (.tuple #[.agg #[.string ⟨#[98]⟩, .int .i64 5, .int .i64 0], .int .i64 0]) ∧ Below w'.heap.size w' w'') := Lib.hid (fun g w' h => by
    have h3 := eaccount_any (gt := g) R [98] w' h (by decide)
    rw [rb] at h3
    exact h3)
  unfold ptr xval at HD1 HD2
  unfold ptr at HA HB
  clear hg ha hb hS hl hd ra rb hag hac hme hb1 hw1 hq0 hT
  go_enter Tryz.func7, Tryz.ntmps7
  go_wp2_with fail
  try rw [HW1.out]
  try rw [HQ0.out]
  refine HG.out.mono ?_
  rintro r w2 ⟨z, rfl, h5, -, hb⟩
  obtain ⟨g, rfl, ht⟩ := h5 rfl
  have HB2 := Lib.hid (bchain HB1.out hb)
  have HT2 := Lib.hid ht
  clear h5 ht hb
  unfold ptr
  obtain ⟨w3, hw3, hb, rx⟩ := tx_box Exc.wX (.slice none 0 0) w2
  have HW3 : Hid (w2.alloc (.cells #[.int .i64 1, .string ⟨#[97]⟩, .int .i64 0, .string ⟨#[98]⟩, .int .i64 5, .string ⟨#[]⟩, .string ⟨#[]⟩, .slice none 0 0] 46) = w3) := Lib.hid hw3
  obtain ⟨q3, hq⟩ : ∃ q, w2.heap.size = q := ⟨_, rfl⟩
  rw [hq] at rx
  have HQ3 := Lib.hid hq
  have HX3 := Lib.hid rx
  have HB3 := Lib.hid (bchain HB2.out hb)
  have HT3 := Lib.hid (HT2.out.below hb)
  clear hw3 hb rx hq
  go_upto_region 5 with fail
  try rw [HW3.out]
  try rw [HQ3.out]
  obtain ⟨a0, a1, a2, a3, a4, a5, a6, a7⟩ := HX3.out.cells
  go_wp2_with fail
  refine (HD1.out g w3 HT3.out (HT.out.below HB3.out)).mono ?_
  rintro r w4 ⟨z, rfl, h5, -, hb⟩
  obtain ⟨g4, rfl, ht⟩ := h5 rfl
  have HB4 := Lib.hid (bchain HB3.out hb)
  have HT4 := Lib.hid ht
  have HX4 := Lib.hid (HX3.out.below hb)
  clear h5 ht hb a0 a1 a2 a3 a4 a5 a6 a7
  unfold ptr
  obtain ⟨a0, a1, a2, a3, a4, a5, a6, a7⟩ := HX4.out.cells
  go_wp2_with fail
  refine (HD2.out g4 w4 HT4.out (HT.out.below HB4.out)).mono ?_
  rintro r w5 ⟨z, rfl, -, h6, hb⟩
  obtain rfl := h6 (by decide)
  have HB5 := Lib.hid (bchain HB4.out hb)
  have HT5 := Lib.hid (HT4.out.below hb)
  clear h6 hb a0 a1 a2 a3 a4 a5 a6 a7
  go_wp2_with fail
  refine (HA.out g4 w5 HT5.out).mono ?_
  rintro r w6 ⟨rfl, hb⟩
  have HB6 := Lib.hid (bchain HB5.out hb)
  have HT6 := Lib.hid (HT5.out.below hb)
  clear hb
  obtain ⟨w7, hw7, hb, ra⟩ := acc_box (⟨[97], 4, 1⟩ : A) w6
  have HW7 : Hid (w6.alloc (.cells #[.string ⟨#[97]⟩, .int .i64 4, .int .i64 1] 55) = w7) := Lib.hid hw7
  obtain ⟨q7, hq⟩ : ∃ q, w6.heap.size = q := ⟨_, rfl⟩
  rw [hq] at ra
  have HQ7 := Lib.hid hq
  have HA7 := Lib.hid ra
  have HB7 := Lib.hid (bchain HB6.out hb)
  have HT7 := Lib.hid (HT6.out.below hb)
  clear hw7 hb ra hq
  go_upto_region 10 with fail
  try rw [HW7.out]
  try rw [HQ7.out]
  go_wp2_with fail
  refine (HB.out g4 w7 HT7.out).mono ?_
  rintro r w8 ⟨rfl, hb⟩
  have HB8 := Lib.hid (bchain HB7.out hb)
  have HA8 := Lib.hid (HA7.out.below hb)
  clear hb
  obtain ⟨w9, hw9, hb, ra⟩ := acc_box (⟨[98], 5, 0⟩ : A) w8
  have HW9 : Hid (w8.alloc (.cells #[.string ⟨#[98]⟩, .int .i64 5, .int .i64 0] 55) = w9) := Lib.hid hw9
  obtain ⟨q9, hq⟩ : ∃ q, w8.heap.size = q := ⟨_, rfl⟩
  rw [hq] at ra
  have HQ9 := Lib.hid hq
  have HB9 := Lib.hid (bchain HB8.out hb)
  have HA9 := Lib.hid (HA8.out.below hb)
  have HC9 := Lib.hid ra
  clear hw9 hb ra hq
  go_upto_region 11 with fail
  try rw [HW9.out]
  try rw [HQ9.out]
  obtain ⟨a0, a1, a2⟩ := HA9.out.cells
  obtain ⟨b0, b1, b2⟩ := HC9.out.cells
  dsimp only at a0 a1 a2 b0 b1 b2
  go_wp2
  go_ret
  exact ⟨rfl, HB9.out⟩

/-- A state's beginning in block q. -/
def StartAt (w : World) (q : Nat) (za zm zi : Value) : Prop := w.heap[q]? = some (.cells #[za, zm, zi] 26 (0, 0))
theorem StartAt.below {w w' : World} {q : Nat} {za zm zi : Value} (h : StartAt w q za zm zi) (hb : Below w.heap.size w w') : StartAt w' q za zm zi := (hb.block q (lt_of_heap h)).trans h
theorem StartAt.cells {w : World} {q : Nat} {za zm zi : Value} (h : StartAt w q za zm zi) : w.cell? ⟨q, 0, none⟩ = some za ∧ w.cell? ⟨q, 1, none⟩ = some zm ∧ w.cell? ⟨q, 2, none⟩ = some zi :=
  ⟨by rw [cell_of_row _ _ 0 _ _ _ h]; rfl, by rw [cell_of_row _ _ 1 _ _ _ h]; rfl, by rw [cell_of_row _ _ 2 _ _ _ h]; rfl⟩
theorem start_box (za zm zi : Value) (w : World) : ∃ w0, w.alloc (.cells #[za, zm, zi] 26) = w0 ∧ Below w.heap.size w w0 ∧ StartAt w0 w.heap.size za zm zi :=
  ⟨_, rfl, (Below.refl _ w).alloc (Nat.le_refl _) _, heap_alloc_new w _⟩
/-- What genesis answers: a state, or none. -/
def GPost (C : List A) (N : List M) (w : World) (e : Ending) (w' : World) : Prop := ∃ z, e = .returned z ∧ ((Exc.genP C N).2 = 0 → ∃ g, z = ptr g ∧ TrAt w' g (Exc.genP C N).1) ∧ ((Exc.genP C N).2 ≠ 0 → z = nilp) ∧ Below w.heap.size w w'
set_option maxRecDepth 100000 in
set_option maxHeartbeats 4000000 in
theorem egen_any (C : List A) (N : List M) (za zm zi : Value) (w : World) (ha : AccIn w za C) (hm : Mems w zm N) (hT : Tab w) :
    Calls Tryz.prog 23 #[.agg #[za, zm, zi]] w (GPost C N w) := by
  obtain ⟨w0, hw0, hb0, rs⟩ := start_box za zm zi w
  have HG := Lib.hid (egenesis_any C za N zm w0 (RowsIn.below ha hb0) (hm.below hb0) (hT.below hb0))
  obtain ⟨q0, hq0⟩ : ∃ q, w.heap.size = q := ⟨_, rfl⟩
  rw [hq0] at rs
  have HQ0 := Lib.hid hq0
  have HW0 := Lib.hid hw0
  have HB0 := Lib.hid hb0
  have HS0 := Lib.hid rs
  have HP : Hid (∀ z w', ((Exc.genP C N).2 = 0 → ∃ g, z = ptr g ∧ TrAt w' g (Exc.genP C N).1) → ((Exc.genP C N).2 ≠ 0 → z = nilp) → Below w.heap.size w w' → GPost C N w (.returned z) w') := Lib.hid (fun z w' h1 h2 h3 => ⟨z, rfl, h1, h2, h3⟩)
  obtain ⟨⟨S, c⟩, hS⟩ : ∃ p, Exc.genP C N = p := ⟨_, rfl⟩
  rw [hS] at HG HP
  dsimp only at HG HP
  obtain ⟨A1, cap1, rfl, -, -⟩ := RowsIn.form ha
  obtain ⟨A2, cap2, rfl⟩ := hm.form
  clear ha hm hT hw0 hb0 rs hq0 hS
  go_enter Tryz.func23, Tryz.ntmps23
  go_upto_region 1 with fail
  try rw [HW0.out]
  try rw [HQ0.out]
  obtain ⟨p0, p1, p2⟩ := HS0.out.cells
  go_wp2_with fail
  refine HG.out.mono ?_
  rintro r w1 ⟨z, rfl, h1, h2, hb⟩
  have HB1 := Lib.hid (bchain HB0.out hb)
  obtain ⟨pz, rfl⟩ := tri_form h1 h2
  have HZ := Lib.hid (HP.out (.pointer pz) w1 h1 h2 HB1.out)
  have HN : Hid (c ≠ 0 → pz = none) := Lib.hid (fun h => by have := h2 h; unfold nilp at this; injection this)
  clear h1 h2 hb HP HG
  by_cases hc : c = 0
  · have s1 : (c != 0) = false := by rw [hc]; rfl
    clear hc
    go_wp2
    go_ret
    exact HZ.out
  · have s1 : (c != 0) = true := by rw [bne_iff_ne]; exact hc
    obtain rfl := HN.out hc
    clear hc
    go_wp2
    go_ret
    exact HZ.out
end Go.Proofs.YtlckcfpdiigjiaaGreatDoor
namespace Go.Proofs.YtlckcfpdiigjiaaGreatDoor
open Go.RowKit
open Go.Proofs.YtlckcfpdiigjiaaGreatDoor.Sto (St)

def Tri.ofR : St → St → St × Nat
  | S, [] => (S, 0)
  | S, a :: r => if Tri.putC S a.1 a.2 = 0 then Tri.ofR (Tri.put S a.1 a.2) r else ([], Tri.putC S a.1 a.2)
def RtOfPost (L : St) (w : World) (e : Ending) (w' : World) : Prop :=
  ∃ v', e = .returned (.tuple #[v', .int .i64 (Tri.ofR [] L).2]) ∧ ItAt w' v' (Tri.ofR [] L).1 ∧ Below w.heap.size w w'
theorem RtOfPost.of {L S : St} {c : Nat} {w w' : World} {v' : Value} (h : Tri.ofR [] L = (S, c)) (hv : ItAt w' v' S) (hb : Below w.heap.size w w') : RtOfPost L w (.returned (.tuple #[v', .int .i64 c])) w' :=
  ⟨v', by rw [h], by rw [h]; exact hv, hb⟩
end Go.Proofs.YtlckcfpdiigjiaaGreatDoor
namespace Go.Proofs.YtlckcfpdiigjiaaGreatDoor
open Go.RowKit
open Sto (T St)
open Tri (Tr Ok upd ix hb lay splitT Trim rank)
open Go.Proofs.YtlckcfpdiigjiaaGreatDoor.Nd (N)

def TOfPost (L : St) (w : World) (e : Ending) (w' : World) : Prop :=
  ∃ z, e = .returned (.tuple #[z, .int .i64 (Tri.ofR [] L).2]) ∧ ((Tri.ofR [] L).2 = 0 → ∃ g', z = ptr g' ∧ TrAt w' g' (Tri.ofR [] L).1) ∧ ((Tri.ofR [] L).2 ≠ 0 → z = nilp) ∧ Below w.heap.size w w'
theorem TOfPost.bad {L S : St} {c : Nat} {w w' : World} (h : Tri.ofR [] L = (S, c)) (hc : c ≠ 0) (hb : Below w.heap.size w w') : TOfPost L w (.returned (.tuple #[.pointer none, .int .i64 c])) w' := ⟨nilp, by rw [h]; rfl, by rw [h]; exact fun e => absurd e hc, fun _ => rfl, hb⟩
theorem TOfPost.good {L S : St} {g' : Nat} {w w' : World} (h : Tri.ofR [] L = (S, 0)) (hT : TrAt w' g' S) (hb : Below w.heap.size w w') : TOfPost L w (.returned (.tuple #[.pointer (some ⟨g', 0, none⟩), .int .i64 0])) w' := ⟨_, by rw [h]; rfl, by rw [h]; exact fun _ => ⟨g', rfl, hT⟩, by rw [h]; exact fun e => absurd rfl e, hb⟩
end Go.Proofs.YtlckcfpdiigjiaaGreatDoor
namespace Go.Proofs.YtlckcfpdiigjiaaGreatDoor
open Go.RowKit
open Sto (T)
open Tri (Tr Ok upd ix hb lay splitT Trim rank)
open Go.Proofs.YtlckcfpdiigjiaaGreatDoor.Nd (N)

end Go.Proofs.YtlckcfpdiigjiaaGreatDoor
namespace Go.Proofs.YtlckcfpdiigjiaaGreatDoor
open Go.RowKit
open Sto (T St)
open Tri (Tr Ok upd ix hb lay splitT Trim rank)
open Go.Proofs.YtlckcfpdiigjiaaGreatDoor.Nd (N)

namespace Tri
end Tri
/-- What a trie's nodes are. -/
theorem TrAt.tree {w : World} {g : Nat} {S : St} (h : TrAt w g S) : ∃ top t, TRow w g top S.length ∧ PAt w (Fm.from 0) true t top ∧ TrS S t := h
end Go.Proofs.YtlckcfpdiigjiaaGreatDoor
namespace Go.Proofs.YtlckcfpdiigjiaaGreatDoor
open Go.RowKit Go.ChangeShapes Go.WideShapes

/-- An act. -/
structure ActT where
  kind : Int
  key : List UInt8
  val : List UInt8
instance : Inhabited ActT := ⟨⟨0, [], []⟩⟩
def TActs (w : World) (v : Value) (L : List ActT) : Prop :=
  ∃ (A : Option Addr) (cap : Nat), v = .slice A L.length cap ∧ (0 < L.length → ∃ b o, A = some ⟨b, o, none⟩ ∧ b < w.heap.size ∧ ∀ i (h : i < L.length),
    w.cell? ⟨b, o + i * 3, none⟩ = some (.int .i64 L[i].kind) ∧ w.cell? ⟨b, o + i * 3 + 1, none⟩ = some (.string ⟨L[i].key.toArray⟩) ∧ w.cell? ⟨b, o + i * 3 + 2, none⟩ = some (.string ⟨L[i].val.toArray⟩))
theorem TActs.below {w w' : World} {v : Value} {L : List ActT} (h : TActs w v L) (hb : Below w.heap.size w w') : TActs w' v L := by
  obtain ⟨A, cap, rfl, hc⟩ := h
  refine ⟨A, cap, rfl, fun h0 => ?_⟩
  obtain ⟨b, o, rfl, hlt, hcell⟩ := hc h0
  refine ⟨b, o, rfl, Nat.lt_of_lt_of_le hlt hb.size, fun i hi => ?_⟩
  obtain ⟨h1, h2, h3⟩ := hcell i hi
  exact ⟨(hb.cell hlt).trans h1, (hb.cell hlt).trans h2, (hb.cell hlt).trans h3⟩
theorem TActs.form {w : World} {v : Value} {L : List ActT} (h : TActs w v L) : ∃ A cap, v = .slice A L.length cap := by
  obtain ⟨A, cap, rfl, _⟩ := h
  exact ⟨A, cap, rfl⟩
theorem TActs.at {w w' : World} {A : Option Addr} {n cap : Nat} {L : List ActT} (h : TActs w (.slice A n cap) L) (hb : Below w.heap.size w w') (k : Nat) (hk : k < L.length) :
    ∃ b o, A = some ⟨b, o, none⟩ ∧ b < w.heap.size ∧ w'.cell? ⟨b, o + k * 3, none⟩ = some (.int .i64 L[k].kind) ∧ w'.cell? ⟨b, o + k * 3 + 1, none⟩ = some (.string ⟨L[k].key.toArray⟩) ∧ w'.cell? ⟨b, o + k * 3 + 2, none⟩ = some (.string ⟨L[k].val.toArray⟩) := by
  obtain ⟨A0, cap0, hv0, hc0⟩ := h
  obtain ⟨rfl, rfl, rfl⟩ : A = A0 ∧ n = L.length ∧ cap = cap0 := by simpa using hv0
  obtain ⟨b, o, rfl, hlt, hcell⟩ := hc0 (by omega)
  obtain ⟨h1, h2, h3⟩ := hcell k hk
  exact ⟨b, o, rfl, hlt, (hb.cell hlt).trans h1, (hb.cell hlt).trans h2, (hb.cell hlt).trans h3⟩

end Go.Proofs.YtlckcfpdiigjiaaGreatDoor
namespace Go.Proofs.YtlckcfpdiigjiaaGreatDoor
open Go.RowKit
open Sto (T St)
open Tri (Tr)

end Go.Proofs.YtlckcfpdiigjiaaGreatDoor
namespace Go.Proofs.YtlckcfpdiigjiaaGreatDoor
open Go.RowKit
open Sto (T St)
open Tri (Tr)

end Go.Proofs.YtlckcfpdiigjiaaGreatDoor
namespace Go.Proofs.YtlckcfpdiigjiaaGreatDoor
open Go.RowKit
open Sto (T St)

theorem take_snoc_it {L K : St} {k : Nat} (h1 : k < L.length) (h2 : k < K.length) : L.take (k + 1) = K.take (k + 1) ↔ L.take k = K.take k ∧ L[k] = K[k] := by
  rw [List.take_succ_eq_append_getElem h1, List.take_succ_eq_append_getElem h2]
  constructor
  · intro h
    have := List.append_inj' h rfl
    exact ⟨this.1, by simpa using this.2⟩
  · rintro ⟨a, b⟩
    rw [a, b]

set_option maxRecDepth 8000 in
set_option maxHeartbeats 2000000 in
theorem sameI_in (L K : St) (u v : Value) (w : World) (hu : ItIn w u L) (hv : ItIn w v K) (hl : L.length ≤ 1000000) (hk : K.length ≤ 1000000) :
    Calls Tryz.prog 15 #[u, v] w fun x w' => x = .returned (.bool (decide (L = K))) ∧ Below w.heap.size w w' := by
  have HU := Lib.hid hu
  have HV := Lib.hid hv
  obtain ⟨A, cap, rfl, -, -⟩ := hu.form
  obtain ⟨B, cap2, rfl, -, -⟩ := hv.form
  clear hu hv
  by_cases he : L.length = K.length
  · have h0 : ((L.length : Int) == (K.length : Int)) = true := by rw [beq_iff_eq]; omega
    have HE := Lib.hid he
    go_enter Tryz.func15, Tryz.ntmps15
    go_wp2
    go_loopw [5, 6] (fun s i wr => ∃ k : Nat, k ≤ L.length ∧ s = .bool (decide (L.take k = K.take k)) ∧ i = .int .i64 k ∧ Below w.heap.size w wr ∧ (L.take k ≠ K.take k → L ≠ K)) (fun _ i _ => L.length - (intOf i).toNat)
    case atStart => exact ⟨0, Nat.zero_le _, by simp, rfl, Below.refl _ _, by simp⟩
    case round =>
      obtain ⟨k, hk, rfl, rfl, hbel, hno⟩ := hrel
      have HN := Lib.hid hno
      have HB := Lib.hid hbel
      clear hno hbel
      rcases htk : decide (L.take k = K.take k) with _ | _
      · have HT := Lib.hid htk
        clear htk
        go_wp2
        go_ret
        refine ⟨?_, HB.out⟩
        have h := HN.out (of_decide_eq_false HT.out)
        rw [decide_eq_false h]
        rfl
      · have HT := Lib.hid htk
        clear htk
        by_cases hlt : k < L.length
        · have h1 : (k : Int) < (L.length : Int) := by omega
          have h2 : (k : Int) < (K.length : Int) := by omega
          have h3 : (0 : Int) ≤ (k : Int) := by omega
          obtain ⟨b, o, rfl, n0, n1⟩ := ItIn.at (RowsIn.below HU.out HB.out) k hlt
          obtain ⟨b2, o2, rfl, m0, m1⟩ := ItIn.at (RowsIn.below HV.out HB.out) k (by omega)
          have HSN := Lib.hid (take_snoc_it hlt (show k < K.length by omega))
          have HNE : Hid (∀ h : k < K.length, L[k] ≠ K[k] → L ≠ K) := Lib.hid (fun _ h e => by subst e; exact h rfl)
          obtain ⟨⟨x, p⟩, hx⟩ : ∃ m, L[k] = m := ⟨_, rfl⟩
          obtain ⟨⟨y, q⟩, hy⟩ : ∃ m, K[k]'(by omega) = m := ⟨_, rfl⟩
          rw [hx] at n0 n1
          rw [hy] at m0 m1
          rw [hx, hy] at HSN
          rw [hx] at HNE
          have HNE2 : Hid (((x, p) : T × T) ≠ (y, q) → L ≠ K) := Lib.hid (by have := HNE.out (by omega); rwa [hy] at this)
          dsimp only at n0 n1 m0 m1
          clear hx hy HNE
          by_cases exy : x = y
          · have e1 : (x == y) = true := by rw [beq_iff_eq]; exact exy
            have EXY := Lib.hid exy
            clear exy
            by_cases epq : p = q
            · have e2 : (p == q) = true := by rw [beq_iff_eq]; exact epq
              have HR : Hid (decide (L.take (k + 1) = K.take (k + 1)) = true) := Lib.hid (decide_eq_true (HSN.out.2 ⟨of_decide_eq_true HT.out, by rw [EXY.out, epq]⟩))
              clear epq
              go_wp2
              go_quiet (fail)
              go_wp2
              go_roundw
              case rel => exact ⟨k + 1, by omega, by rw [HR.out], by go_num, bel_drewN HB.out _, fun h => absurd (of_decide_eq_true HR.out) h⟩
              case measure => simp [intOf]; omega
            · have e2 : (p == q) = false := by rw [beq_eq_false_iff_ne]; exact epq
              have HD : Hid (L ≠ K) := Lib.hid (HNE2.out (fun e => epq (congrArg Prod.snd e)))
              have HR : Hid (decide (L.take (k + 1) = K.take (k + 1)) = false) := Lib.hid (decide_eq_false (fun h => epq (congrArg Prod.snd (HSN.out.1 h).2)))
              clear epq
              go_wp2
              go_quiet (fail)
              go_wp2
              go_roundw
              case rel => exact ⟨k + 1, by omega, by rw [HR.out], by go_num, bel_drewN HB.out _, fun _ => HD.out⟩
              case measure => simp [intOf]; omega
          · have e1 : (x == y) = false := by rw [beq_eq_false_iff_ne]; exact exy
            have HD : Hid (L ≠ K) := Lib.hid (HNE2.out (fun e => exy (congrArg Prod.fst e)))
            have HR : Hid (decide (L.take (k + 1) = K.take (k + 1)) = false) := Lib.hid (decide_eq_false (fun h => exy (congrArg Prod.fst (HSN.out.1 h).2)))
            clear exy
            go_wp2
            go_quiet (fail)
            go_wp2
            go_roundw
            case rel => exact ⟨k + 1, by omega, by rw [HR.out], by go_num, bel_drewN HB.out _, fun _ => HD.out⟩
            case measure => simp [intOf]; omega
        · have h1 : ¬ ((k : Int) < (L.length : Int)) := by omega
          have HR : Hid (decide (L = K) = true) := Lib.hid (decide_eq_true (by
            have := of_decide_eq_true HT.out
            rwa [List.take_of_length_le (by omega), List.take_of_length_le (by omega)] at this))
          go_wp2
          go_ret
          exact ⟨by rw [HR.out]; rfl, HB.out⟩
  · have h0 : ((L.length : Int) == (K.length : Int)) = false := by rw [beq_eq_false_iff_ne]; omega
    have HD : Hid (decide (L = K) = false) := Lib.hid (decide_eq_false (fun e => he (by rw [e])))
    clear he
    go_enter Tryz.func15, Tryz.ntmps15
    go_wp2
    go_loopw [5, 6] (fun s i wr => s = .bool false ∧ i = .int .i64 0 ∧ Below w.heap.size w wr) (fun _ _ _ => 0)
    case atStart => exact ⟨rfl, rfl, Below.refl _ _⟩
    case round =>
      obtain ⟨rfl, rfl, hb⟩ := hrel
      go_wp2
      go_ret
      exact ⟨by rw [HD.out]; rfl, hb⟩

end Go.Proofs.YtlckcfpdiigjiaaGreatDoor
namespace Go.Proofs.YtlckcfpdiigjiaaGreatDoor
open Go.RowKit
open Sto (T St)
open Tri (Tr)

/-- The tree of items. -/
def treeS (S : St) : Tr := S.foldr (fun x t => t.put (Nib.ofL x.1) x.2) .nil
theorem treeS_tree (S : St) (hS : Sto.Rising S) (hv : ∀ p ∈ S, p.2 ≠ []) : Tri.TreeOf S (treeS S) := by
  induction S with
  | nil => exact ⟨trivial, trivial, rfl⟩
  | cons a r ih =>
    obtain ⟨h1, h2⟩ := List.pairwise_cons.1 hS
    have h3 := (ih h2 fun p h => hv p (List.mem_cons_of_mem _ h)).put (k := a.1) (hv a (List.mem_cons_self ..))
    have e : Tri.put r a.1 a.2 = a :: r := by
      cases r with
      | nil => rfl
      | cons b r =>
        have hab := h1 b (List.mem_cons_self ..)
        rw [Tri.put, if_neg (fun h => List.lt_irrefl _ (List.lt_trans h hab)), if_neg (fun e => Sto.lt_ne hab e.symm)]
    rw [e] at h3
    exact h3
theorem treeS_of {S : St} {t : Tr} (h : TrS S t) : treeS S = t :=
  (treeS_tree S h.rise fun p hp e => by have := (h.fair p hp).2.2.1; rw [e] at this; simp at this).one h.tree
def rootS (S : St) : T := (treeS S).sum Nd.sumS
theorem sroot_any {g : Nat} {S : St} (w : World) (h : TrAt w g S) :
    Calls Tryz.prog 25 #[ptr g] w fun e w' => e = .returned (.string ⟨(rootS S).toArray⟩) ∧ Below w.heap.size w w' := by
  obtain ⟨top, t, h1, h2, h3⟩ := h
  unfold rootS
  rw [treeS_of h3]
  exact troot_any w h1 h2 h3.ok
theorem sitems_any {g : Nat} {S : St} (w : World) (h : TrAt w g S) :
    Calls Tryz.prog 16 #[ptr g] w (ItemsPost w S) := by
  obtain ⟨top, t, h1, h2, h3⟩ := h
  exact items_any w h1 (h3.sealed h2) h3.tree
theorem del_leT (S : St) (k : T) : (Tri.del S k).length ≤ S.length := by
  induction S with
  | nil => simp [Tri.del]
  | cons b r ih =>
    rw [Tri.del]
    split
    · simp
    · simp only [List.length_cons]; omega
end Go.Proofs.YtlckcfpdiigjiaaGreatDoor
namespace Go.Proofs.YtlckcfpdiigjiaaGreatDoor
open Go.RowKit
open Sto (T St)
open Go.Proofs.YtlckcfpdiigjiaaGreatDoor.Pw (M)
open Go.Proofs.YtlckcfpdiigjiaaGreatDoor.Exc (A)

theorem ItIn.at_ {w : World} {A : Option Addr} {n cap : Nat} {L : St} (h : ItIn w (.slice A n cap) L) (k : Nat) (hk : k < L.length) :
    ∃ b o, A = some ⟨b, o, none⟩ ∧ w.cell? ⟨b, o + k * 2, none⟩ = some (.string ⟨L[k].1.toArray⟩) ∧ w.cell? ⟨b, o + k * 2 + 1, none⟩ = some (.string ⟨L[k].2.toArray⟩) := by
  obtain ⟨b, o, rfl, hc⟩ := RowsIn.at h k hk
  exact ⟨b, o, rfl, hc 0 _ rfl, hc 1 _ rfl⟩
/-- What begun answers: none, or a state in both. -/
def BegPost (w : World) (e : Ending) (w' : World) : Prop := ∃ zt zi, e = .returned (.tuple #[zt, zi, .bool true]) ∧ ((zt = nilp ∧ zi = .slice none 0 0) ∨ ∃ g S, zt = ptr g ∧ TrAt w' g S ∧ ItAt w' zi S) ∧ Below w.heap.size w w'
theorem BegPost.none_ {w w' : World} (h : Below w.heap.size w w') : BegPost w (.returned (.tuple #[.pointer none, .slice none 0 0, .bool true])) w' := ⟨_, _, rfl, Or.inl ⟨rfl, rfl⟩, h⟩
theorem BegPost.some_ {w w' : World} {g : Nat} {S : St} {zi : Value} (h1 : TrAt w' g S) (h2 : ItAt w' zi S) (h : Below w.heap.size w w') : BegPost w (.returned (.tuple #[.pointer (some ⟨g, 0, none⟩), zi, .bool true])) w' := ⟨_, _, rfl, Or.inr ⟨g, S, rfl, h1, h2⟩, h⟩
set_option maxRecDepth 100000 in
set_option maxHeartbeats 8000000 in
theorem begun_any (C : List A) (N : List M) (I : St) (za zm zi : Value) (w : World) (ha : AccIn w za C) (hm : Mems w zm N) (hi : ItIn w zi I) (hl : I.length ≤ maxLen) (hT : Tab w) :
    Calls Tryz.prog 8 #[.agg #[za, zm, zi]] w (BegPost w) := by
  obtain ⟨w0, hw0, hb0, rs⟩ := start_box za zm zi w
  have HG := Lib.hid (egenesis_any C za N zm w0 (RowsIn.below ha hb0) (hm.below hb0) (hT.below hb0))
  have HRG : Hid (∀ w', Below w0.heap.size w0 w' → Calls Tryz.prog 27 #[za, zm] w' (GenPost C N w')) := Lib.hid (fun w' h => rgenesis_any C za N zm w' (RowsIn.below (RowsIn.below ha hb0) h) ((hm.below hb0).below h))
  obtain ⟨q0, hq0⟩ : ∃ q, w.heap.size = q := ⟨_, rfl⟩
  rw [hq0] at rs
  have HQ0 := Lib.hid hq0
  have HW0 := Lib.hid hw0
  have HB0 := Lib.hid hb0
  have HS0 := Lib.hid rs
  have HI := Lib.hid hi
  have HT := Lib.hid hT
  have HLI : Hid (I.length ≤ maxLen) := Lib.hid hl
  unfold GenPost at HRG
  obtain ⟨⟨S, c⟩, hS⟩ : ∃ p, Exc.genP C N = p := ⟨_, rfl⟩
  rw [hS] at HG HRG
  dsimp only at HG HRG
  obtain ⟨A1, cap1, rfl, -, -⟩ := RowsIn.form ha
  obtain ⟨A2, cap2, rfl⟩ := hm.form
  obtain ⟨Ai, capi, rfl, -, -⟩ := RowsIn.form hi
  clear ha hm hT hw0 hb0 rs hq0 hS hi hl
  go_enter Tryz.func8, Tryz.ntmps8
  go_upto_region 1 with fail
  try rw [HW0.out]
  try rw [HQ0.out]
  obtain ⟨p0, p1, p2⟩ := HS0.out.cells
  go_wp2_with fail
  refine HG.out.mono ?_
  rintro r w1 ⟨z, rfl, h1, h2, hb⟩
  have HB1 := Lib.hid (bchain HB0.out hb)
  have HS1 := Lib.hid (HS0.out.below hb)
  have HRG1 := Lib.hid (HRG.out _ hb)
  obtain ⟨pz, rfl⟩ := tri_form h1 h2
  have HZ1 := Lib.hid h1
  have HZ2 : Hid (c ≠ 0 → pz = none) := Lib.hid (fun h => by have := h2 h; unfold nilp at this; injection this)
  clear h1 h2 hb HG HRG p0 p1 p2
  obtain ⟨p0, p1, p2⟩ := HS1.out.cells
  go_wp2_with fail
  refine HRG1.out.mono ?_
  rintro r w2 ⟨zr, rfl, hir, hb⟩
  have HB2 := Lib.hid (bchain HB1.out hb)
  have HS2 := Lib.hid (HS1.out.below hb)
  have HIR := Lib.hid hir
  have HTR : Hid (c = 0 → ∃ g, Value.pointer pz = ptr g ∧ TrAt w2 g S) := Lib.hid (fun h => by obtain ⟨g, e, h2⟩ := HZ1.out h; exact ⟨g, e, h2.below hb⟩)
  clear hir hb HZ1 HRG1 p0 p1 p2
  have s1 : (c != c) = false := bne_self_eq_false _
  have s2 : (c == c) = true := beq_self_eq_true _
  by_cases hc : c = 0
  case neg =>
    obtain rfl := HZ2.out hc
    clear hc
    go_wp2
    go_ret3
    exact BegPost.none_ HB2.out
  subst hc
  obtain ⟨g, hg, ht⟩ := HTR.out rfl
  unfold ptr at hg
  rw [hg]
  have HT2 := Lib.hid ht
  clear hg ht HTR HZ2
  obtain ⟨Az, capz, rfl, -, -⟩ := RowsAt.form HIR.out
  go_wp2
  go_loopw [5, 7, 9] (fun tv rv i wr => ∃ (k g : Nat) (S : St) (zr : Value), tv = .pointer (some ⟨g, 0, none⟩) ∧ zr = rv ∧ i = .int .i64 k ∧ k ≤ I.length ∧ TrAt wr g S ∧ ItAt wr zr S ∧ Below w.heap.size w wr ∧ StartAt wr q0 (.slice A1 C.length cap1) (.slice A2 N.length cap2) (.slice Ai I.length capi)) (fun _ _ i _ => I.length - (intOf i).toNat)
  case atStart => exact ⟨0, g, S, _, rfl, rfl, rfl, Nat.zero_le _, HT2.out, HIR.out, HB2.out, HS2.out⟩
  case round =>
    obtain ⟨k, g, S, zr, rfl, rfl, rfl, hk, ht, hir, hb, hst⟩ := hrel
    have HTR := Lib.hid ht
    have HIT := Lib.hid hir
    have HB := Lib.hid hb
    have HST := Lib.hid hst
    have HFW : Hid (S.length ≤ 1024) := Lib.hid ht.few
    clear ht hir hb hst HT2 HIR HB2 HS2
    obtain ⟨Az, capz, rfl, -, -⟩ := RowsAt.form HIT.out
    have p2 := HST.out.cells.2.2
    by_cases hlt : k < I.length
    · have h1 : (k : Int) < (I.length : Int) := by omega
      have h0 : (0 : Int) ≤ (k : Int) := by omega
      have hk9 : (k : Int) ≤ 9223372036854775806 := by have := HLI.out; unfold maxLen at this; omega
      obtain ⟨b, o, rfl, n0, n1⟩ := ItIn.at_ (RowsIn.below HI.out HB.out) k hlt
      obtain ⟨⟨x, y⟩, hx⟩ : ∃ p, I[k] = p := ⟨_, rfl⟩
      rw [hx] at n0 n1
      dsimp only at n0 n1
      have HPU := Lib.hid (fun w' h => (tput_any (g := g) x y w' (HTR.out.below h) (HT.out.below (bchain HB.out h))).mono fun e w'' h => TEnd.ofPut h)
      have HRP := Lib.hid (fun w' h => rtPut_all S (.slice Az S.length capz) x y w' (RowsAt.below HIT.out h) (by have := HFW.out; omega))
      unfold RtPutPost Tri.putL at HRP
      have HPL : Hid (TrAt wr g S) := HTR
      have HCC : Hid (∀ w', Below wr.heap.size wr w' → w'.cell? ⟨q0, 2, none⟩ = some (.slice (some ⟨b, o, none⟩) I.length capi) ∧ w'.cell? ⟨b, o + k * 2, none⟩ = some (.string ⟨x.toArray⟩) ∧ w'.cell? ⟨b, o + k * 2 + 1, none⟩ = some (.string ⟨y.toArray⟩)) := Lib.hid (fun w' h => by
        have up : ∀ {p : Addr} {t : Value}, wr.cell? p = some t → w'.cell? p = some t := fun c => (h.cell (World.block_lt_of_cell? _ _ c)).trans c
        exact ⟨up p2, up n0, up n1⟩)
      obtain ⟨R, hR⟩ : ∃ R, Tri.put S x y = R := ⟨_, rfl⟩
      obtain ⟨c, hc⟩ : ∃ c, Tri.putC S x y = c := ⟨_, rfl⟩
      rw [hR, hc] at HPU HRP
      unfold ptr at HPU
      have HBR : Hid (Below wr.heap.size wr wr) := Lib.hid (Below.refl _ _)
      have HPU : Hid (∀ w', Below wr.heap.size wr w' → Calls Tryz.prog 28 #[.pointer (some ⟨g, 0, none⟩), .string ⟨x.toArray⟩, .string ⟨y.toArray⟩] w' (TEnd (c : Nat) R wr)) := Lib.hid (fun w' h => (HPU.out w' h).mono fun e w'' h2 => h2.from h)
      have BD : Below wr.heap.size wr wr.drew := (Below.refl _ _).drew
      obtain ⟨c2, c0, c1⟩ := HCC.out _ BD
      clear hx hR hc
      go_upto_region 8 with fail
      go_region_held3 (fun w' => w'.cell? ⟨q0, 2, none⟩ = some (.slice (some ⟨b, o, none⟩) I.length capi) ∧ w'.cell? ⟨b, o + k * 2, none⟩ = some (.string ⟨x.toArray⟩) ∧ w'.cell? ⟨b, o + k * 2 + 1, none⟩ = some (.string ⟨y.toArray⟩))
        ((first | (with_reducible exact ⟨c2, c0, c1⟩) | (refine HCC.out _ ?_; with_reducible assumption)))
        ((go_at_call 28; refine (HPU.out _ ?_).mono ?_; (with_reducible exact BD); rintro r w6 ⟨z1, rfl, hz1, hz2, hb6⟩))
      all_goals
        have HB6 := Lib.hid hb6
        obtain ⟨p1, rfl⟩ := tri_form hz1 hz2
        have HZ1 := Lib.hid hz1
        obtain ⟨d2, d0, d1⟩ := HCC.out _ hb6
        clear c0 c1 c2 BD hb6 hz1 hz2 n0 n1 p2
        have HRP6 : Hid (∀ w', Below w6.heap.size w6 w' → Calls Tryz.prog 29 #[.slice Az S.length capz, .string ⟨x.toArray⟩, .string ⟨y.toArray⟩] w' fun e w'' => ∃ v', e = .returned (.tuple #[v', .int .i64 (c : Nat)]) ∧ ItAt w'' v' (if c = 0 then R else []) ∧ Below w6.heap.size w6 w'') := Lib.hid (fun w' h => (HRP.out w' (bchain HB6.out h)).mono fun e w'' ⟨v', q1, q2, q3⟩ => ⟨v', q1, q2, bchain h q3⟩)
        have HCD : Hid (∀ w', Below w6.heap.size w6 w' → w'.cell? ⟨q0, 2, none⟩ = some (.slice (some ⟨b, o, none⟩) I.length capi) ∧ w'.cell? ⟨b, o + k * 2, none⟩ = some (.string ⟨x.toArray⟩) ∧ w'.cell? ⟨b, o + k * 2 + 1, none⟩ = some (.string ⟨y.toArray⟩)) := Lib.hid (fun w' h => HCC.out _ (bchain HB6.out h))
        have BD : Below w6.heap.size w6 w6.drew := (Below.refl _ _).drew
        clear d0 d1 d2
        obtain ⟨d2, d0, d1⟩ := HCD.out _ BD
        go_upto_region 9 with fail
        go_region_held3 (fun w' => w'.cell? ⟨q0, 2, none⟩ = some (.slice (some ⟨b, o, none⟩) I.length capi) ∧ w'.cell? ⟨b, o + k * 2, none⟩ = some (.string ⟨x.toArray⟩) ∧ w'.cell? ⟨b, o + k * 2 + 1, none⟩ = some (.string ⟨y.toArray⟩))
          ((first | (with_reducible exact ⟨d2, d0, d1⟩) | (refine HCD.out _ ?_; with_reducible assumption)))
          ((go_at_call 29; refine (HRP6.out _ ?_).mono ?_; (with_reducible exact BD); rintro r w7 ⟨z2, rfl, hi7, hb7⟩))
      all_goals
        have HB7 := Lib.hid (bchain HB6.out hb7)
        have HI7 := Lib.hid hi7
        obtain ⟨A7, cap7, rfl, -, -⟩ := RowsAt.form hi7
        have HBW : Hid (Below w.heap.size w w7) := Lib.hid (bchain HB.out HB7.out)
        have HS7 := Lib.hid (HST.out.below HB7.out)
        have HT7 : Hid (c = 0 → ∃ g', Value.pointer p1 = ptr g' ∧ TrAt w7 g' R) := Lib.hid (fun h => by obtain ⟨g', e, h2⟩ := HZ1.out (by omega); exact ⟨g', e, h2.below hb7⟩)
        clear hi7 hb7 d0 d1 d2 BD
        have s3 : ((c : Int) != (c : Int)) = false := bne_self_eq_false _
        by_cases hc : c = 0
        case pos =>
          subst hc
          obtain ⟨g', hg', hr'⟩ := HT7.out rfl
          unfold ptr at hg'
          rw [hg']
          have HR7 := Lib.hid hr'
          clear hg' hr'
          rw [if_pos rfl] at HI7
          go_wp2
          go_roundw
          case rel => exact ⟨k + 1, g', R, _, rfl, rfl, by go_num, by omega, HR7.out, HI7.out, HBW.out, HS7.out⟩
          case measure => simp [intOf]; omega
        case neg =>
          have s4 : ((c : Int) == 0) = false := by rw [beq_eq_false_iff_ne]; omega
          clear hc
          go_wp2
          go_roundw
          case rel => exact ⟨k + 1, g, S, _, rfl, rfl, by go_num, by omega, HTR.out.below HB7.out, RowsAt.below HIT.out HB7.out, HBW.out, HS7.out⟩
          case measure => simp [intOf]; omega
    · have h1 : ¬ ((k : Int) < (I.length : Int)) := by omega
      obtain rfl : k = I.length := by omega
      have HIT1 := Lib.hid (sitems_any (g := g) wr HTR.out)
      unfold ptr ItemsPost at HIT1
      go_wp2_with fail
      refine HIT1.out.mono ?_
      rintro r w6 ⟨z6, rfl, hown, hb6⟩
      have HSM := Lib.hid (sameI_in S S z6 (.slice Az S.length capz) w6 (ItAt.inn (OwnI.at_ hown)) (ItAt.inn (RowsAt.below HIT.out hb6)) (by have := HFW.out; omega) (by have := HFW.out; omega))
      rw [show decide (S = S) = true from decide_eq_true rfl] at HSM
      have HB6 := Lib.hid (bchain HB.out hb6)
      have HT6 := Lib.hid (HTR.out.below hb6)
      have HI6 := Lib.hid (RowsAt.below HIT.out hb6)
      clear hown hb6
      go_wp2_with fail
      refine HSM.out.mono ?_
      rintro r w7 ⟨rfl, hb7⟩
      have HB7 := Lib.hid (bchain HB6.out hb7)
      have HT7 := Lib.hid (HT6.out.below hb7)
      have HI7 := Lib.hid (RowsAt.below HI6.out hb7)
      clear hb7
      go_wp2
      go_ret3
      exact BegPost.some_ HT7.out HI7.out HB7.out
end Go.Proofs.YtlckcfpdiigjiaaGreatDoor
namespace Go.Proofs.YtlckcfpdiigjiaaGreatDoor
open Go.RowKit
open Sto (T St)
open Go.Proofs.YtlckcfpdiigjiaaGreatDoor.Pw (M)
open Go.Proofs.YtlckcfpdiigjiaaGreatDoor.Txn (X)
open Go.Proofs.YtlckcfpdiigjiaaGreatDoor.Exc (A)

structure Exc.Fits (C : List A) (N : List M) (I : St) (L : List X) : Prop where
  acc : ∀ (j : Nat) (h : j < C.length), C[j].name.length ≤ 100
  it : ∀ (j : Nat) (h : j < I.length), I[j].1.length ≤ 100 ∧ I[j].2.length ≤ 100
  tx : ∀ (j : Nat) (h : j < L.length), L[j].frm.length ≤ 100 ∧ L[j].dst.length ≤ 100 ∧ L[j].key.length ≤ 100 ∧ L[j].val.length ≤ 100 ∧ L[j].mem.length ≤ 100
  nC : C.length ≤ 20
  nI : I.length ≤ 20
  nN : N.length ≤ 100
  nL : L.length ≤ 20
def EBigPost (w : World) (C : List A) (N : List M) (I : St) (L : List X) (e : Ending) (w' : World) : Prop := ∃ b, e = .returned (.bool b) ∧ (b = false → Exc.Fits C N I L) ∧ Below w.heap.size w w'
theorem EBigPost.yes {w w' : World} {C : List A} {N : List M} {I : St} {L : List X} (h : Below w.heap.size w w') : EBigPost w C N I L (.returned (.bool true)) w' := ⟨true, rfl, (fun h => by cases h), h⟩
theorem EBigPost.no {w w' : World} {C : List A} {N : List M} {I : St} {L : List X} (f : Exc.Fits C N I L) (h : Below w.heap.size w w') : EBigPost w C N I L (.returned (.bool false)) w' := ⟨false, rfl, (fun _ => f), h⟩
theorem AccIn.at {w : World} {a : Option Addr} {n cap : Nat} {L : List A} (h : AccIn w (.slice a n cap) L) (k : Nat) (hk : k < L.length) :
    ∃ b o, a = some ⟨b, o, none⟩ ∧ w.cell? ⟨b, o + k * 3, none⟩ = some (.string ⟨L[k].name.toArray⟩) ∧ w.cell? ⟨b, o + k * 3 + 1, none⟩ = some (.int .i64 L[k].amt) ∧ w.cell? ⟨b, o + k * 3 + 2, none⟩ = some (.int .i64 L[k].seq) := by
  obtain ⟨b, o, rfl, hc⟩ := RowsIn.at h k hk
  exact ⟨b, o, rfl, hc 0 _ rfl, hc 1 _ rfl, hc 2 _ rfl⟩
theorem below_more {P : Nat → Prop} {k : Nat} (h : ∀ j, j < k → P j) (h2 : P k) : ∀ j, j < k + 1 → P j := fun j hj => by
  by_cases e : j = k
  · exact e ▸ h2
  · exact h j (by omega)
set_option maxRecDepth 100000 in
set_option maxHeartbeats 8000000 in
theorem ebig_any (C : List A) (N : List M) (I : St) (L : List X) (a b c u : Value) (w : World) (ha : AccIn w a C) (hb : Mems w b N) (hc : ItIn w c I) (hu : Txs w u L) (lC : C.length ≤ maxLen) (lN : N.length ≤ maxLen) (lI : I.length ≤ maxLen) (lL : L.length ≤ maxLen) :
    Calls Tryz.prog 6 #[.agg #[a, b, c], u] w (EBigPost w C N I L) := by
  obtain ⟨Aa, capa, rfl, -, -⟩ := ha.form
  obtain ⟨Ab, capb, rfl⟩ := hb.form
  obtain ⟨Ai, capi, rfl, -, -⟩ := hc.form
  obtain ⟨Au, capu, rfl⟩ := Txs.form hu
  obtain ⟨w0, hw0⟩ : ∃ w0, w.alloc (.cells #[.slice Aa C.length capa, .slice Ab N.length capb, .slice Ai I.length capi] 26) = w0 := ⟨_, rfl⟩
  have hb0 : Below w.heap.size w w0 := by rw [← hw0]; exact (Below.refl _ w).alloc (Nat.le_refl _) _
  have ra : w0.heap[w.heap.size]? = some (.cells #[.slice Aa C.length capa, .slice Ab N.length capb, .slice Ai I.length capi] 26 (0, 0)) := by rw [← hw0]; exact heap_alloc_new w _
  have p0 : w0.cell? ⟨w.heap.size, 0, none⟩ = some (.slice Aa C.length capa) := by rw [cell_of_row _ _ 0 _ _ _ ra]; rfl
  have p1 : w0.cell? ⟨w.heap.size, 1, none⟩ = some (.slice Ab N.length capb) := by rw [cell_of_row _ _ 1 _ _ _ ra]; rfl
  have p2 : w0.cell? ⟨w.heap.size, 2, none⟩ = some (.slice Ai I.length capi) := by rw [cell_of_row _ _ 2 _ _ _ ra]; rfl
  have HB := Lib.hid hb0
  have HC := Lib.hid (RowsIn.below ha hb0)
  have HI := Lib.hid (RowsIn.below hc hb0)
  have HU := Lib.hid (hu.below hb0)
  unfold maxLen at lC lN lI lL
  have HLC := Lib.hid lC
  have HLN := Lib.hid lN
  have HLI := Lib.hid lI
  have HLL := Lib.hid lL
  clear ha hb hc hu hb0 ra lC lN lI lL
  go_enter Tryz.func6, Tryz.ntmps6
  go_upto_region 1 with fail
  try rw [hw0]
  clear hw0
  go_wp2
  go_loopw [5] (fun iv wr => ∃ k : Nat, k ≤ C.length ∧ iv = .int .i64 k ∧ wr = w0 ∧ ∀ j, j < k → ∀ h : j < C.length, C[j].name.length ≤ 100) (fun iv _ => C.length - (intOf iv).toNat)
  case atStart => exact ⟨0, Nat.zero_le _, rfl, rfl, fun j hj => absurd hj (Nat.not_lt_zero j)⟩
  case round =>
    obtain ⟨k, hk, rfl, ew, hall⟩ := hrel
    have ew := ew.symm
    subst ew
    have HA5 := Lib.hid hall
    clear hall
    have h0 : (0 : Int) ≤ (k : Int) := by omega
    by_cases hlt : k < C.length
    case pos =>
      have h1 : (k : Int) < (C.length : Int) := by omega
      have hnb : (k : Int) ≤ 9223372036854775806 := by have := HLC.out; omega
      obtain ⟨b, o, rfl, n0, -, -⟩ := AccIn.at HC.out k hlt
      obtain ⟨y, hy⟩ : ∃ q, C[k].name = q := ⟨_, rfl⟩
      have HY := Lib.hid hy
      rw [hy] at n0
      clear hy
      by_cases g1 : 100 < y.length
      case pos =>
        have dg1 : decide ((100 : Int) < (y.length : Int)) = true := decide_eq_true (by omega)
        clear g1
        go_wp2
        try rw [Exit.noGoto_ret]
        go_ret
        exact EBigPost.yes HB.out
      have dg1 : decide ((100 : Int) < (y.length : Int)) = false := decide_eq_false (by omega)
      have Hg1 : Hid (y.length ≤ 100) := Lib.hid (by omega)
      clear g1
      have HN5 := Lib.hid (below_more HA5.out (fun _ => by rw [HY.out]; exact Hg1.out))
      clear HA5
      go_wp2
      exact ⟨⟨k + 1, by omega, by go_num, by first | rfl | trivial, HN5.out⟩, by simp [intOf]; omega⟩
    have h1 : ¬ ((k : Int) < (C.length : Int)) := by omega
    obtain rfl : k = C.length := by omega
    clear hlt hk h0
    go_wp2
    go_loopw [6] (fun iv wr => ∃ k : Nat, k ≤ I.length ∧ iv = .int .i64 k ∧ wr = w0 ∧ ∀ j, j < k → ∀ h : j < I.length, I[j].1.length ≤ 100 ∧ I[j].2.length ≤ 100) (fun iv _ => I.length - (intOf iv).toNat)
    case atStart => exact ⟨0, Nat.zero_le _, rfl, rfl, fun j hj => absurd hj (Nat.not_lt_zero j)⟩
    case round =>
      obtain ⟨k, hk, rfl, ew, hall⟩ := hrel
      have ew := ew.symm
      subst ew
      have HA6 := Lib.hid hall
      clear hall
      have h0 : (0 : Int) ≤ (k : Int) := by omega
      by_cases hlt : k < I.length
      case pos =>
        have h1 : (k : Int) < (I.length : Int) := by omega
        have hnb : (k : Int) ≤ 9223372036854775806 := by have := HLI.out; omega
        obtain ⟨b, o, rfl, n0, n1⟩ := ItIn.at HI.out k hlt
        obtain ⟨⟨y, v⟩, hy⟩ : ∃ q, I[k] = q := ⟨_, rfl⟩
        have HY := Lib.hid hy
        rw [hy] at n0 n1
        dsimp only at n0 n1
        clear hy
        by_cases g1 : 100 < y.length
        case pos =>
          have dg1 : decide ((100 : Int) < (y.length : Int)) = true := decide_eq_true (by omega)
          clear g1
          go_wp2
          try rw [Exit.noGoto_ret]
          go_ret
          exact EBigPost.yes HB.out
        have dg1 : decide ((100 : Int) < (y.length : Int)) = false := decide_eq_false (by omega)
        have Hg1 : Hid (y.length ≤ 100) := Lib.hid (by omega)
        clear g1
        by_cases g2 : 100 < v.length
        case pos =>
          have dg2 : decide ((100 : Int) < (v.length : Int)) = true := decide_eq_true (by omega)
          clear g2
          go_wp2
          try rw [Exit.noGoto_ret]
          go_ret
          exact EBigPost.yes HB.out
        have dg2 : decide ((100 : Int) < (v.length : Int)) = false := decide_eq_false (by omega)
        have Hg2 : Hid (v.length ≤ 100) := Lib.hid (by omega)
        clear g2
        have HN6 := Lib.hid (below_more HA6.out (fun _ => by rw [HY.out]; exact ⟨Hg1.out, Hg2.out⟩))
        clear HA6
        go_wp2
        exact ⟨⟨k + 1, by omega, by go_num, by first | rfl | trivial, HN6.out⟩, by simp [intOf]; omega⟩
      have h1 : ¬ ((k : Int) < (I.length : Int)) := by omega
      obtain rfl : k = I.length := by omega
      clear hlt hk h0
      go_wp2
      go_loopw [7] (fun iv wr => ∃ k : Nat, k ≤ L.length ∧ iv = .int .i64 k ∧ wr = w0 ∧ ∀ j, j < k → ∀ h : j < L.length, L[j].frm.length ≤ 100 ∧ L[j].dst.length ≤ 100 ∧ L[j].key.length ≤ 100 ∧ L[j].val.length ≤ 100 ∧ L[j].mem.length ≤ 100) (fun iv _ => L.length - (intOf iv).toNat)
      case atStart => exact ⟨0, Nat.zero_le _, rfl, rfl, fun j hj => absurd hj (Nat.not_lt_zero j)⟩
      case round =>
        obtain ⟨k, hk, rfl, ew, hall⟩ := hrel
        have ew := ew.symm
        subst ew
        have HA7 := Lib.hid hall
        clear hall
        have h0 : (0 : Int) ≤ (k : Int) := by omega
        by_cases hlt : k < L.length
        case pos =>
          have h1 : (k : Int) < (L.length : Int) := by omega
          have hnb : (k : Int) ≤ 9223372036854775806 := by have := HLL.out; omega
          obtain ⟨b, o, zx, hA, ca, hma⟩ := HU.out.at k hlt
          subst hA
          obtain ⟨x, hy⟩ : ∃ q, L[k] = q := ⟨_, rfl⟩
          have HY := Lib.hid hy
          rw [hy] at ca hma
          clear hy
          obtain ⟨Az, capz, rfl⟩ := hma.form
          have c1 := ca 1 _ rfl
          have c3 := ca 3 _ rfl
          have c5 := ca 5 _ rfl
          have c6 := ca 6 _ rfl
          have c7 := ca 7 _ rfl
          clear ca hma
          by_cases g1 : 100 < x.frm.length
          case pos =>
            have dg1 : decide ((100 : Int) < (x.frm.length : Int)) = true := decide_eq_true (by omega)
            clear g1
            go_wp2
            try rw [Exit.noGoto_ret]
            go_ret
            exact EBigPost.yes HB.out
          have dg1 : decide ((100 : Int) < (x.frm.length : Int)) = false := decide_eq_false (by omega)
          have Hg1 : Hid (x.frm.length ≤ 100) := Lib.hid (by omega)
          clear g1
          by_cases g2 : 100 < x.dst.length
          case pos =>
            have dg2 : decide ((100 : Int) < (x.dst.length : Int)) = true := decide_eq_true (by omega)
            clear g2
            go_wp2
            try rw [Exit.noGoto_ret]
            go_ret
            exact EBigPost.yes HB.out
          have dg2 : decide ((100 : Int) < (x.dst.length : Int)) = false := decide_eq_false (by omega)
          have Hg2 : Hid (x.dst.length ≤ 100) := Lib.hid (by omega)
          clear g2
          by_cases g3 : 100 < x.key.length
          case pos =>
            have dg3 : decide ((100 : Int) < (x.key.length : Int)) = true := decide_eq_true (by omega)
            clear g3
            go_wp2
            try rw [Exit.noGoto_ret]
            go_ret
            exact EBigPost.yes HB.out
          have dg3 : decide ((100 : Int) < (x.key.length : Int)) = false := decide_eq_false (by omega)
          have Hg3 : Hid (x.key.length ≤ 100) := Lib.hid (by omega)
          clear g3
          by_cases g4 : 100 < x.val.length
          case pos =>
            have dg4 : decide ((100 : Int) < (x.val.length : Int)) = true := decide_eq_true (by omega)
            clear g4
            go_wp2
            try rw [Exit.noGoto_ret]
            go_ret
            exact EBigPost.yes HB.out
          have dg4 : decide ((100 : Int) < (x.val.length : Int)) = false := decide_eq_false (by omega)
          have Hg4 : Hid (x.val.length ≤ 100) := Lib.hid (by omega)
          clear g4
          by_cases g5 : 100 < x.mem.length
          case pos =>
            have dg5 : decide ((100 : Int) < (x.mem.length : Int)) = true := decide_eq_true (by omega)
            clear g5
            go_wp2
            try rw [Exit.noGoto_ret]
            go_ret
            exact EBigPost.yes HB.out
          have dg5 : decide ((100 : Int) < (x.mem.length : Int)) = false := decide_eq_false (by omega)
          have Hg5 : Hid (x.mem.length ≤ 100) := Lib.hid (by omega)
          clear g5
          have HN7 := Lib.hid (below_more HA7.out (fun _ => by rw [HY.out]; exact ⟨Hg1.out, Hg2.out, Hg3.out, Hg4.out, Hg5.out⟩))
          clear HA7
          go_wp2
          exact ⟨⟨k + 1, by omega, by go_num, by first | rfl | trivial, HN7.out⟩, by simp [intOf]; omega⟩
        have h1 : ¬ ((k : Int) < (L.length : Int)) := by omega
        obtain rfl : k = L.length := by omega
        clear hlt hk h0
        by_cases g1 : 20 < C.length
        case pos =>
          have dg1 : decide ((20 : Int) < (C.length : Int)) = true := decide_eq_true (by omega)
          clear g1
          go_wp2
          go_ret
          exact EBigPost.yes HB.out
        have dg1 : decide ((20 : Int) < (C.length : Int)) = false := decide_eq_false (by omega)
        have Hg1 : Hid (C.length ≤ 20) := Lib.hid (by omega)
        clear g1
        by_cases g2 : 20 < I.length
        case pos =>
          have dg2 : decide ((20 : Int) < (I.length : Int)) = true := decide_eq_true (by omega)
          clear g2
          go_wp2
          go_ret
          exact EBigPost.yes HB.out
        have dg2 : decide ((20 : Int) < (I.length : Int)) = false := decide_eq_false (by omega)
        have Hg2 : Hid (I.length ≤ 20) := Lib.hid (by omega)
        clear g2
        by_cases g3 : 100 < N.length
        case pos =>
          have dg3 : decide ((100 : Int) < (N.length : Int)) = true := decide_eq_true (by omega)
          clear g3
          go_wp2
          go_ret
          exact EBigPost.yes HB.out
        have dg3 : decide ((100 : Int) < (N.length : Int)) = false := decide_eq_false (by omega)
        have Hg3 : Hid (N.length ≤ 100) := Lib.hid (by omega)
        clear g3
        by_cases g4 : 20 < L.length
        case pos =>
          have dg4 : decide ((20 : Int) < (L.length : Int)) = true := decide_eq_true (by omega)
          clear g4
          go_wp2
          go_ret
          exact EBigPost.yes HB.out
        have dg4 : decide ((20 : Int) < (L.length : Int)) = false := decide_eq_false (by omega)
        have Hg4 : Hid (L.length ≤ 20) := Lib.hid (by omega)
        clear g4
        go_wp2
        go_ret
        exact EBigPost.no ⟨fun j h => HA5.out j h h, fun j h => HA6.out j h h, fun j h => HA7.out j h h, Hg1.out, Hg2.out, Hg3.out, Hg4.out⟩ HB.out
end Go.Proofs.YtlckcfpdiigjiaaGreatDoor
namespace Go.Proofs.YtlckcfpdiigjiaaGreatDoor
open Go.RowKit Go.ChangeShapes Go.WideShapes
open Go.Proofs.YtlckcfpdiigjiaaGreatDoor.Nd (N)

theorem strs_of_array {H : Type} {enc : TypeId × Value → H} {P : Program} {w : World} {base : Nat} {spare : Nat → Bool} {held : Bool} {fuel : Nat} {t e : TypeId} {n : Nat} {cs : List Value} {x : DataW H × List MemPlace}
    (ht : P.underlying t = some (.array n e)) (he : P.underlying e = some .string) (hce : P.cellsOf e = 1) (hct : P.cellsOf t = n)
    (h : DataW.trod enc P w base spare held fuel t cs = some x) : ∃ L : List (List UInt8), L.length = n ∧ cs = scells L := by
  obtain ⟨xs, m, _, _, hl, hxl, hel⟩ := DataW.trod_array ht h
  rw [hct] at hl
  have key : ∀ i, i < n → ∃ l : List UInt8, cs[i]? = some (.string ⟨l.toArray⟩) := fun i hi => by
    have h1 := hel i hi
    rw [hce, Nat.mul_one, List.getElem?_eq_getElem (by omega)] at h1
    obtain ⟨s, e1, _, _⟩ := DataW.trod_string he h1
    refine ⟨s.data.toList, ?_⟩
    have h2 := congrArg (·[0]?) e1
    simpa [List.getElem?_take, List.getElem?_drop] using h2
  refine ⟨cs.map (fun v => match v with | .string s => s.data.toList | _ => []), by rw [List.length_map, hl], ?_⟩
  apply List.ext_getElem?
  intro i
  by_cases hi : i < n
  · obtain ⟨l, hz⟩ := key i hi
    simp [scells, hz]
  · rw [List.getElem?_eq_none (by omega), List.getElem?_eq_none (by simp [scells]; omega)]
end Go.Proofs.YtlckcfpdiigjiaaGreatDoor
namespace Go.Proofs.YtlckcfpdiigjiaaGreatDoor
open Go.RowKit

theorem cellsTwoS1 : Tryz.prog.cellsOf 9 = 1 := by kernel_rfl
theorem cellsTwoS : Tryz.prog.cellsOf 49 = 2 := by kernel_rfl
set_option maxRecDepth 100000 in
/-- A pair of strings. -/
theorem twoS_open {H : Type} {enc : TypeId × Value → H} {W : World} {r : Reach} {b0 : Nat} {v : Value} {d : DataW H} {p : List MemPlace}
    (hv : Value.okWide Tryz.prog W r b0 49 v) (h : DataW.Trod enc Tryz.prog W 0 (fun _ => true) true 49 v d p) : ∃ s : List UInt8 × List UInt8, v = .agg #[.string ⟨s.1.toArray⟩, .string ⟨s.2.toArray⟩] := by
  simp only [Value.okWide, Tryz.underlying49] at hv
  obtain ⟨cs, rfl, _, _⟩ := hv
  obtain ⟨fuel, hf⟩ := h
  obtain ⟨zs, hl, hc⟩ := strs_of_array Tryz.underlying49 Tryz.underlying9 cellsTwoS1 cellsTwoS hf
  match zs, hl with
  | [a, b], _ =>
    refine ⟨(a, b), ?_⟩
    have hc' : cs.toList = [a, b].map (fun s => Value.string ⟨s.toArray⟩) := hc
    rw [← Array.toArray_toList (xs := cs), hc']
    rfl
end Go.Proofs.YtlckcfpdiigjiaaGreatDoor
namespace Go.Proofs.YtlckcfpdiigjiaaGreatDoor
open Go.RowKit
open Sto (T St)
open Go.Proofs.YtlckcfpdiigjiaaGreatDoor.Pw (M)
open Go.Proofs.YtlckcfpdiigjiaaGreatDoor.Txn (X)
open Go.Proofs.YtlckcfpdiigjiaaGreatDoor.Exc (A)

theorem Exc.beq_acc (a b : A) : decide (a = b) = ((a.name == b.name) && ((a.amt == b.amt) && (a.seq == b.seq))) := by
  obtain ⟨a1, a2, a3⟩ := a
  obtain ⟨b1, b2, b3⟩ := b
  simp only [Exc.A.mk.injEq]
  by_cases h1 : a1 = b1 <;> by_cases h2 : a2 = b2 <;> by_cases h3 : a3 = b3 <;> simp [h1, h2, h3]
set_option maxRecDepth 100000 in
theorem eq_acc (a b : A) (w : World) : (Op.equalIn 10000 55 (accval a) (accval b)).run Tryz.prog w = .ok (decide (a = b)) w := by
  have hu := Tryz.underlying55
  have ha1 := Tryz.isAgg3
  have ha2 := Tryz.isAgg9
  rw [Exc.beq_acc]
  unfold accval
  rw [run_equalIn_agg w 9999 _ _ _ (by rfl) (by kernel_rfl)]
  go_simp
  by_cases e0 : a.name = b.name
  · by_cases e1 : a.amt = b.amt
    · by_cases e2 : a.seq = b.seq <;> simp [e0, e1, e2]
    · simp [e0, e1]
  · simp [e0]
theorem txs_oneE (w : World) (x : X) (Az : Option Addr) (n capz : Nat) (hz : Mems w (.slice Az n capz) x.mem) : Txs (w.alloc (.cells #[.int .i64 x.kind, .string ⟨x.frm.toArray⟩, .int .i64 x.seq, .string ⟨x.dst.toArray⟩, .int .i64 x.amt, .string ⟨x.key.toArray⟩, .string ⟨x.val.toArray⟩, .slice Az n capz] 46)) (.slice (some ⟨w.heap.size, 0, none⟩) 1 1) [x] := by
  have hb : Below w.heap.size w (w.alloc (.cells #[.int .i64 x.kind, .string ⟨x.frm.toArray⟩, .int .i64 x.seq, .string ⟨x.dst.toArray⟩, .int .i64 x.amt, .string ⟨x.key.toArray⟩, .string ⟨x.val.toArray⟩, .slice Az n capz] 46)) := (Below.refl _ w).alloc (Nat.le_refl _) _
  refine ⟨_, 1, rfl, fun _ => ⟨w.heap.size, 0, rfl, by simp, fun i hi => ?_⟩⟩
  obtain rfl : i = 0 := by simp at hi; exact hi
  refine ⟨.slice Az n capz, fun j u hu => ?_, hz.below hb⟩
  have h := heap_new_at w (.cells #[.int .i64 x.kind, .string ⟨x.frm.toArray⟩, .int .i64 x.seq, .string ⟨x.dst.toArray⟩, .int .i64 x.amt, .string ⟨x.key.toArray⟩, .string ⟨x.val.toArray⟩, .slice Az n capz] 46) w.heap.size rfl
  rw [Nat.zero_mul, Nat.zero_add, cell_of_row _ _ j _ _ _ h]
  simpa [xcl] using hu
/-- Two strings in block q. -/
def PairAt (w : World) (q : Nat) (a b : T) : Prop := w.heap[q]? = some (.cells #[.string ⟨a.toArray⟩, .string ⟨b.toArray⟩] 49 (0, 0))
theorem PairAt.below {w w' : World} {q : Nat} {a b : T} (h : PairAt w q a b) (hb : Below w.heap.size w w') : PairAt w' q a b := (hb.block q (lt_of_heap h)).trans h
theorem PairAt.cells {w : World} {q : Nat} {a b : T} (h : PairAt w q a b) : w.cell? ⟨q, 0, none⟩ = some (.string ⟨a.toArray⟩) ∧ w.cell? ⟨q, 1, none⟩ = some (.string ⟨b.toArray⟩) :=
  ⟨by rw [cell_of_row _ _ 0 _ _ _ h]; rfl, by rw [cell_of_row _ _ 1 _ _ _ h]; rfl⟩
/-- The three boxes of the laws of one transaction. -/
theorem one_box (za zm zi : Value) (x : X) (z : Value) (a b : T) (w : World) : ∃ w0, ((w.alloc (.cells #[za, zm, zi] 26)).alloc (.cells #[.int .i64 x.kind, .string ⟨x.frm.toArray⟩, .int .i64 x.seq, .string ⟨x.dst.toArray⟩, .int .i64 x.amt, .string ⟨x.key.toArray⟩, .string ⟨x.val.toArray⟩, z] 46)).alloc (.cells #[.string ⟨a.toArray⟩, .string ⟨b.toArray⟩] 49) = w0 ∧ Below w.heap.size w w0 ∧ StartAt w0 w.heap.size za zm zi ∧ TxAt w0 (w.heap.size + 1) x z ∧ PairAt w0 (w.heap.size + 1 + 1) a b := by
  obtain ⟨w1, hw1, hb1, h1⟩ := start_box za zm zi w
  obtain ⟨w2, hw2, hb2, h2⟩ := tx_box x z w1
  obtain ⟨w3, hw3⟩ : ∃ w3, w2.alloc (.cells #[.string ⟨a.toArray⟩, .string ⟨b.toArray⟩] 49) = w3 := ⟨_, rfl⟩
  have hb3 : Below w2.heap.size w2 w3 := by rw [← hw3]; exact (Below.refl _ w2).alloc (Nat.le_refl _) _
  have h3 : PairAt w3 w2.heap.size a b := by rw [← hw3]; exact heap_alloc_new w2 _
  have e1 : w1.heap.size = w.heap.size + 1 := by rw [← hw1, World.size_alloc]
  have e2 : w2.heap.size = w.heap.size + 1 + 1 := by rw [← hw2, World.size_alloc, e1]
  rw [e1] at h2
  rw [e2] at h3
  exact ⟨w3, by rw [hw1, hw2, hw3], bchain (bchain hb1 hb2) hb3, (h1.below hb2).below hb3, h2.below hb3, h3⟩
end Go.Proofs.YtlckcfpdiigjiaaGreatDoor
