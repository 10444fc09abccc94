/- PowRef, BookMems, BookTx, RegionInv, TxRefFine, TxBig, CodeRef -/
import Derived.Test.YtlckcfpdiigjiaaGreatDoorPk02
import Derived.BigQuiet
import Derived.Test.YtlckcfpdiigjiaaGreatDoorPk04
import Derived.Test.YtlckcfpdiigjiaaGreatDoorPk06
import Derived.RegionTactic
import Derived.Deep.RegionHeld3
import Derived.Test.YtlckcfpdiigjiaaGreatDoorPk01
import Derived.WalkSpells
import Derived.WalkLawsBesides
import Derived.Deep.RegionLaw
import Derived.Deep.QuietTactic
namespace Go.Proofs.YtlckcfpdiigjiaaGreatDoor
open Go.RowKit
open Go.Proofs.YtlckcfpdiigjiaaGreatDoor.Pw (M)

theorem Pw.lastOf_succ (L : List M) (j : Nat) (h : j < L.length) : Pw.lastOf [] (L.take (j + 1)) = L[j].name := Pw.lastOf_take L j h

set_option maxRecDepth 8000 in
set_option maxHeartbeats 2000000 in
theorem rcheck_any (L : List M) (v : Value) (w : World) (hv : Mems w v L) :
    Calls Tryz.prog 57 #[v] w fun e w' => e = .returned (.int .i64 (Pw.checkC L)) ∧ Below w.heap.size w w' := by
  have HV := Lib.hid hv
  obtain ⟨A, cap, rfl, -⟩ := hv
  obtain ⟨C, hC⟩ : ∃ C, Pw.checkC L = C := ⟨_, rfl⟩
  rw [hC]
  have HC := Lib.hid hC
  clear hC
  by_cases h0 : L.length = 0
  · obtain rfl : C = 50 := by rw [← HC.out]; simp [Pw.checkC, Pw.okL, h0]
    rw [h0]
    go_enter Tryz.func57, Tryz.ntmps57
    go_wp2
    go_ret
    exact ⟨rfl, Below.refl _ _⟩
  by_cases h7 : 7 < L.length
  · obtain rfl : C = 50 := by rw [← HC.out]; simp [Pw.checkC, Pw.okL]; intros; omega
    have h0' : ¬ ((L.length : Int) < 1) := by omega
    have h7' : (7 : Int) < (L.length : Int) := by omega
    go_enter Tryz.func57, Tryz.ntmps57
    go_wp2
    go_ret
    exact ⟨rfl, Below.refl _ _⟩
  have h0' : ¬ ((L.length : Int) < 1) := by omega
  have h7' : ¬ ((7 : Int) < (L.length : Int)) := by omega
  have HL : Hid (1 ≤ L.length ∧ L.length ≤ 7) := Lib.hid (by omega)
  clear h0 h7
  go_enter Tryz.func57, Tryz.ntmps57
  go_wp2
  go_loopw [3] (fun i wr => ∃ k : Nat, k ≤ L.length ∧ i = .int .i64 k ∧ Pw.okFrom [] (L.take k) = true ∧ Below w.heap.size w wr) (fun i _ => L.length - (intOf i).toNat)
  case atStart => exact ⟨0, Nat.zero_le _, rfl, rfl, Below.refl _ _⟩
  case round =>
    obtain ⟨k, hk, rfl, hok, hb⟩ := hrel
    have HB := Lib.hid hb
    have HOK := Lib.hid hok
    clear hok hb
    by_cases hlt : k < L.length
    · have h1 : (k : Int) < (L.length : Int) := by omega
      have h0 : (0 : Int) ≤ (k : Int) := by omega
      obtain ⟨b, o, rfl, n0, n1⟩ := HV.out.at HB.out k hlt
      have HT := Lib.hid (Pw.okFrom_take L k hlt)
      have HBAD := Lib.hid (Pw.okFrom_bad L k hlt)
      have HP := Lib.hid (fun j (hj : j < L.length) => Pw.lastOf_succ L j hj)
      have HPC : Hid (∀ j (hj : j < L.length), wr.cell? ⟨b, o + j * 2, none⟩ = some (.string ⟨L[j].name.toArray⟩)) := Lib.hid (fun j hj => by
        obtain ⟨b', o', e, m0, _⟩ := HV.out.at HB.out j hj
        obtain ⟨rfl, rfl⟩ : b = b' ∧ o = o' := by simpa using e
        exact m0)
      obtain ⟨p, hp⟩ : ∃ p, Pw.lastOf [] (L.take k) = p := ⟨_, rfl⟩
      have HPP := Lib.hid hp
      obtain ⟨⟨x, q⟩, hm⟩ : ∃ m, L[k] = m := ⟨_, rfl⟩
      rw [hp, hm] at HT HBAD
      rw [hm] at n0 n1
      clear hp hm
      dsimp only at n0 n1
      have HFAIL : Hid (Pw.okM p ⟨x, q⟩ = false → C = 50) := Lib.hid (fun h => by rw [← HC.out]; simp [Pw.checkC, Pw.okL, HBAD.out h])
      by_cases hx0 : x.length < 1
      · obtain rfl : C = 50 := HFAIL.out (by
          obtain rfl : x = [] := List.eq_nil_of_length_eq_zero (by omega)
          simp [Pw.okM])
        have hx0' : (x.length : Int) < 1 := by omega
        go_wp2
        go_ret
        exact ⟨rfl, HB.out⟩
      have hx0' : ¬ ((x.length : Int) < 1) := by omega
      by_cases h6 : 6 < x.length
      · obtain rfl : C = 50 := HFAIL.out (by simp [Pw.okM]; intros; omega)
        have h6' : (6 : Int) < (x.length : Int) := by omega
        go_wp2
        go_ret
        exact ⟨rfl, HB.out⟩
      have h6' : ¬ ((6 : Int) < (x.length : Int)) := by omega
      by_cases hq1 : q < 1
      · obtain rfl : C = 50 := HFAIL.out (by simp [Pw.okM]; intros; omega)
        go_wp2
        go_ret
        exact ⟨rfl, HB.out⟩
      by_cases hq2 : 1000 < q
      · obtain rfl : C = 50 := HFAIL.out (by simp [Pw.okM]; intros; omega)
        go_wp2
        go_ret
        exact ⟨rfl, HB.out⟩
      have HM : Hid (p < x → Pw.okM p ⟨x, q⟩ = true) := Lib.hid (fun hA => by simp [Pw.okM, hA]; omega)
      have HX0 := Lib.hid hx0
      cases k with
      | zero =>
        have hA : p < x := by
          rw [← HPP.out]
          refine (Pw.lt_nil x).2 ?_
          rintro rfl
          exact HX0.out (by simp)
        have HN : Hid (Pw.okFrom [] (L.take (0 + 1)) = true) := Lib.hid (by rw [HT.out, HOK.out, HM.out hA]; rfl)
        simp only [Nat.zero_mul, Nat.add_zero] at n0 n1
        clear hA
        go_wp2
        go_quiet (fail)
        go_wp2
        go_roundw
        case rel => exact ⟨0 + 1, by omega, by go_num, HN.out, bel_drewN HB.out _⟩
        case measure => simp [intOf]; omega
      | succ j =>
        have hpj : p = (L[j]'(by omega)).name := by rw [← HPP.out]; exact HP.out j (by omega)
        have m0 := HPC.out j (by omega)
        rw [← hpj] at m0
        have hj1 : ((j + 1 : Nat) : Int) - 1 = (j : Int) := by omega
        have hjp : (0 : Int) < ((j + 1 : Nat) : Int) := by omega
        have hjl : (j : Int) < (L.length : Int) := by omega
        have hj0 : (0 : Int) ≤ (j : Int) := by omega
        clear hpj
        by_cases hA : p < x
        · have HN : Hid (Pw.okFrom [] (L.take (j + 1 + 1)) = true) := Lib.hid (by rw [HT.out, HOK.out, HM.out hA]; rfl)
          have e1 : Op.bytesLess x p = false := by rw [less_lt]; simpa using List.le_of_lt hA
          have e2 : (x == p) = false := by rw [beq_eq_false_iff_ne]; rintro rfl; exact absurd hA (List.lt_irrefl _)
          clear hA
          go_wp2
          go_quiet (fail)
          go_wp2
          go_roundw
          case rel => exact ⟨j + 1 + 1, by omega, by go_num, HN.out, bel_drewN HB.out _⟩
          case measure => simp [intOf]; omega
        · obtain rfl : C = 50 := HFAIL.out (by simp [Pw.okM, hA])
          have hle : x ≤ p := List.not_lt.1 hA
          clear hA
          rcases List.le_iff_lt_or_eq.1 hle with hA | rfl
          · have e1 : Op.bytesLess x p = true := by rw [less_lt]; simpa using hA
            clear hA hle
            go_wp2
            go_quiet (fail)
            go_wp2
            go_ret
            exact ⟨rfl, bel_drewN HB.out _⟩
          · have e1 : Op.bytesLess x x = false := by rw [less_lt]; simp
            clear hle
            go_wp2
            go_quiet (fail)
            go_wp2
            go_ret
            exact ⟨rfl, bel_drewN HB.out _⟩
    · have h1 : ¬ ((k : Int) < (L.length : Int)) := by omega
      obtain rfl : k = L.length := by omega
      obtain rfl : C = 0 := by
        rw [← HC.out]
        have := HOK.out
        rw [List.take_length] at this
        have hL := HL.out
        simp [Pw.checkC, Pw.okL, this]
        omega
      go_wp2
      go_ret
      exact ⟨rfl, HB.out⟩

end Go.Proofs.YtlckcfpdiigjiaaGreatDoor
namespace Go.Proofs.YtlckcfpdiigjiaaGreatDoor
open Go.RowKit
open Go.Proofs.YtlckcfpdiigjiaaGreatDoor.Pw (M)

theorem Pw.take_snoc_eq {L K : List M} {k : Nat} (h1 : k < L.length) (h2 : k < K.length) : L.take (k + 1) = K.take (k + 1) ↔ L.take k = K.take k ∧ L[k] = K[k] := by
  rw [List.take_succ_eq_append_getElem h1, List.take_succ_eq_append_getElem h2]
  constructor
  · intro h
    have := List.append_inj' h rfl
    exact ⟨this.1, by simpa using this.2⟩
  · rintro ⟨a, b⟩
    rw [a, b]

set_option maxRecDepth 8000 in
set_option maxHeartbeats 2000000 in
theorem sameM_any (L K : List M) (u v : Value) (w : World) (hu : Mems w u L) (hv : Mems w v K) (hl : L.length ≤ 1000000) (hk : K.length ≤ 1000000) :
    Calls Tryz.prog 12 #[u, v] w fun x w' => x = .returned (.bool (decide (L = K))) ∧ Below w.heap.size w w' := by
  have HU := Lib.hid hu
  have HV := Lib.hid hv
  obtain ⟨A, cap, rfl⟩ := hu.form
  obtain ⟨B, cap2, rfl⟩ := hv.form
  clear hu hv
  by_cases he : L.length = K.length
  · have h0 : ((L.length : Int) == (K.length : Int)) = true := by rw [beq_iff_eq]; omega
    have HE := Lib.hid he
    go_enter Tryz.func12, Tryz.ntmps12
    go_wp2
    go_loopw [5, 6] (fun s i wr => ∃ k : Nat, k ≤ L.length ∧ s = .bool (decide (L.take k = K.take k)) ∧ i = .int .i64 k ∧ Below w.heap.size w wr ∧ (L.take k ≠ K.take k → L ≠ K)) (fun _ i _ => L.length - (intOf i).toNat)
    case atStart => exact ⟨0, Nat.zero_le _, by simp, rfl, Below.refl _ _, by simp⟩
    case round =>
      obtain ⟨k, hk, rfl, rfl, hbel, hno⟩ := hrel
      have HN := Lib.hid hno
      have HB := Lib.hid hbel
      clear hno hbel
      rcases htk : decide (L.take k = K.take k) with _ | _
      · have HT := Lib.hid htk
        clear htk
        go_wp2
        go_ret
        refine ⟨?_, HB.out⟩
        have h := HN.out (of_decide_eq_false HT.out)
        rw [decide_eq_false h]
        rfl
      · have HT := Lib.hid htk
        clear htk
        by_cases hlt : k < L.length
        · have h1 : (k : Int) < (L.length : Int) := by omega
          have h2 : (k : Int) < (K.length : Int) := by omega
          have h3 : (0 : Int) ≤ (k : Int) := by omega
          obtain ⟨b, o, rfl, n0, n1⟩ := HU.out.at HB.out k hlt
          obtain ⟨b2, o2, rfl, m0, m1⟩ := HV.out.at HB.out k (by omega)
          have HSN := Lib.hid (Pw.take_snoc_eq hlt (show k < K.length by omega))
          have HNE : Hid (∀ h : k < K.length, L[k] ≠ K[k] → L ≠ K) := Lib.hid (fun _ h e => by subst e; exact h rfl)
          obtain ⟨⟨x, p⟩, hx⟩ : ∃ m, L[k] = m := ⟨_, rfl⟩
          obtain ⟨⟨y, q⟩, hy⟩ : ∃ m, K[k]'(by omega) = m := ⟨_, rfl⟩
          rw [hx] at n0 n1
          rw [hy] at m0 m1
          rw [hx, hy] at HSN
          rw [hx] at HNE
          have HNE2 : Hid ((⟨x, p⟩ : M) ≠ ⟨y, q⟩ → L ≠ K) := Lib.hid (by have := HNE.out (by omega); rwa [hy] at this)
          dsimp only at n0 n1 m0 m1
          clear hx hy HNE
          by_cases exy : x = y
          · have e1 : (x == y) = true := by rw [beq_iff_eq]; exact exy
            have EXY := Lib.hid exy
            clear exy
            by_cases epq : p = q
            · have e2 : (p == q) = true := by rw [beq_iff_eq]; exact epq
              have HR : Hid (decide (L.take (k + 1) = K.take (k + 1)) = true) := Lib.hid (decide_eq_true (HSN.out.2 ⟨of_decide_eq_true HT.out, by rw [EXY.out, epq]⟩))
              clear epq
              go_wp2
              go_quiet (fail)
              go_wp2
              go_roundw
              case rel => exact ⟨k + 1, by omega, by rw [HR.out], by go_num, bel_drewN HB.out _, fun h => absurd (of_decide_eq_true HR.out) h⟩
              case measure => simp [intOf]; omega
            · have e2 : (p == q) = false := by rw [beq_eq_false_iff_ne]; exact epq
              have HD : Hid (L ≠ K) := Lib.hid (HNE2.out (fun e => epq (by injection e)))
              have HR : Hid (decide (L.take (k + 1) = K.take (k + 1)) = false) := Lib.hid (decide_eq_false (fun h => epq (by injection (HSN.out.1 h).2)))
              clear epq
              go_wp2
              go_quiet (fail)
              go_wp2
              go_roundw
              case rel => exact ⟨k + 1, by omega, by rw [HR.out], by go_num, bel_drewN HB.out _, fun _ => HD.out⟩
              case measure => simp [intOf]; omega
          · have e1 : (x == y) = false := by rw [beq_eq_false_iff_ne]; exact exy
            have HD : Hid (L ≠ K) := Lib.hid (HNE2.out (fun e => exy (by injection e)))
            have HR : Hid (decide (L.take (k + 1) = K.take (k + 1)) = false) := Lib.hid (decide_eq_false (fun h => exy (by injection (HSN.out.1 h).2)))
            clear exy
            go_wp2
            go_quiet (fail)
            go_wp2
            go_roundw
            case rel => exact ⟨k + 1, by omega, by rw [HR.out], by go_num, bel_drewN HB.out _, fun _ => HD.out⟩
            case measure => simp [intOf]; omega
        · have h1 : ¬ ((k : Int) < (L.length : Int)) := by omega
          have HR : Hid (decide (L = K) = true) := Lib.hid (decide_eq_true (by
            have := of_decide_eq_true HT.out
            rwa [List.take_of_length_le (by omega), List.take_of_length_le (by omega)] at this))
          go_wp2
          go_ret
          exact ⟨by rw [HR.out]; rfl, HB.out⟩
  · have h0 : ((L.length : Int) == (K.length : Int)) = false := by rw [beq_eq_false_iff_ne]; omega
    have HD : Hid (decide (L = K) = false) := Lib.hid (decide_eq_false (fun e => he (by rw [e])))
    clear he
    go_enter Tryz.func12, Tryz.ntmps12
    go_wp2
    go_loopw [5, 6] (fun s i wr => s = .bool false ∧ i = .int .i64 0 ∧ Below w.heap.size w wr) (fun _ _ _ => 0)
    case atStart => exact ⟨rfl, rfl, Below.refl _ _⟩
    case round =>
      obtain ⟨rfl, rfl, hb⟩ := hrel
      go_wp2
      go_ret
      exact ⟨by rw [HD.out]; rfl, hb⟩

/-- One member of a row of the call's own, set. -/
theorem OwnM.set {w : World} {B g n cap i : Nat} {L : List M} (h : OwnM w B (.slice (some ⟨g, 0, none⟩) n cap) L) (hi : i < L.length) (m : M) :
    OwnM ((w.setCell ⟨g, i * 2, none⟩ (.string ⟨m.name.toArray⟩)).setCell ⟨g, i * 2 + 1, none⟩ (.int .i64 m.power)) B (.slice (some ⟨g, 0, none⟩) n cap) (L.set i m) := by
  have hn : n = L.length := by
    obtain ⟨_, _, hv⟩ := own_form h
    simp at hv
    exact hv.2.1
  subst hn
  have h1 := (World.ownsRow.stored h (i * 2) (.string ⟨m.name.toArray⟩)).1
  have h2 := (World.ownsRow.stored h1 (i * 2 + 1) (.int .i64 m.power)).1
  unfold OwnM
  rw [List.length_set, ← mrows_set L i m hi]
  exact h2
end Go.Proofs.YtlckcfpdiigjiaaGreatDoor
namespace Go.Proofs.YtlckcfpdiigjiaaGreatDoor
open Go.RowKit
open Go.Proofs.YtlckcfpdiigjiaaGreatDoor.Pw (M)
open Go.Proofs.YtlckcfpdiigjiaaGreatDoor.Txn (X)

/-- A transaction in block q. -/
def TxAt (w : World) (q : Nat) (x : X) (z : Value) : Prop := w.heap[q]? = some (.cells #[.int .i64 x.kind, .string ⟨x.frm.toArray⟩, .int .i64 x.seq, .string ⟨x.dst.toArray⟩, .int .i64 x.amt, .string ⟨x.key.toArray⟩, .string ⟨x.val.toArray⟩, z] 46 (0, 0))
theorem TxAt.below {w w' : World} {q : Nat} {x : X} {z : Value} (h : TxAt w q x z) (hb : Below w.heap.size w w') : TxAt w' q x z := (hb.block q (lt_of_heap h)).trans h
theorem TxAt.cells {w : World} {q : Nat} {x : X} {z : Value} (h : TxAt w q x z) : w.cell? ⟨q, 0, none⟩ = some (.int .i64 x.kind) ∧ w.cell? ⟨q, 1, none⟩ = some (.string ⟨x.frm.toArray⟩) ∧ w.cell? ⟨q, 2, none⟩ = some (.int .i64 x.seq) ∧ w.cell? ⟨q, 3, none⟩ = some (.string ⟨x.dst.toArray⟩) ∧ w.cell? ⟨q, 4, none⟩ = some (.int .i64 x.amt) ∧ w.cell? ⟨q, 5, none⟩ = some (.string ⟨x.key.toArray⟩) ∧ w.cell? ⟨q, 6, none⟩ = some (.string ⟨x.val.toArray⟩) ∧ w.cell? ⟨q, 7, none⟩ = some z :=
  ⟨by rw [cell_of_row _ _ 0 _ _ _ h]; rfl, by rw [cell_of_row _ _ 1 _ _ _ h]; rfl, by rw [cell_of_row _ _ 2 _ _ _ h]; rfl, by rw [cell_of_row _ _ 3 _ _ _ h]; rfl, by rw [cell_of_row _ _ 4 _ _ _ h]; rfl, by rw [cell_of_row _ _ 5 _ _ _ h]; rfl, by rw [cell_of_row _ _ 6 _ _ _ h]; rfl, by rw [cell_of_row _ _ 7 _ _ _ h]; rfl⟩
set_option maxRecDepth 100000 in
set_option maxHeartbeats 8000000 in
theorem sameTx_any (a b : X) (za zb : Value) (w : World) (ha : Mems w za a.mem) (hb : Mems w zb b.mem) (hl : a.mem.length ≤ 1000000) (hk : b.mem.length ≤ 1000000) :
    Calls Tryz.prog 14 #[xval a za, xval b zb] w fun x w' => x = .returned (.bool (decide (a = b))) ∧ Below w.heap.size w w' := by
  obtain ⟨w0, hw0⟩ : ∃ w0, (w.alloc (.cells #[.int .i64 a.kind, .string ⟨a.frm.toArray⟩, .int .i64 a.seq, .string ⟨a.dst.toArray⟩, .int .i64 a.amt, .string ⟨a.key.toArray⟩, .string ⟨a.val.toArray⟩, za] 46)).alloc (.cells #[.int .i64 b.kind, .string ⟨b.frm.toArray⟩, .int .i64 b.seq, .string ⟨b.dst.toArray⟩, .int .i64 b.amt, .string ⟨b.key.toArray⟩, .string ⟨b.val.toArray⟩, zb] 46) = w0 := ⟨_, rfl⟩
  obtain ⟨q0, hq0⟩ : ∃ q0, w.heap.size = q0 := ⟨_, rfl⟩
  have hb0 : Below w.heap.size w w0 := by rw [← hw0]; exact ((Below.refl _ w).alloc (Nat.le_refl _) _).alloc (by simp) _
  have hpa : TxAt w0 q0 a za := by
    rw [← hw0, ← hq0]
    exact TxAt.below (show TxAt (w.alloc _) _ _ _ from heap_alloc_new w _) ((Below.refl _ _).alloc (Nat.le_refl _) _)
  have hpb : TxAt w0 (q0 + 1) b zb := by
    rw [← hw0, ← hq0, ← World.size_alloc w (.cells #[.int .i64 a.kind, .string ⟨a.frm.toArray⟩, .int .i64 a.seq, .string ⟨a.dst.toArray⟩, .int .i64 a.amt, .string ⟨a.key.toArray⟩, .string ⟨a.val.toArray⟩, za] 46)]
    exact heap_alloc_new _ _
  have HB := Lib.hid hb0
  have HSM := Lib.hid (sameM_any a.mem b.mem za zb w0 (ha.below hb0) (hb.below hb0) hl hk)
  obtain ⟨a0, a1, a2, a3, a4, a5, a6, a7⟩ := hpa.cells
  obtain ⟨b0, b1, b2, b3, b4, b5, b6, b7⟩ := hpb.cells
  clear ha hb hl hk hb0 hpa hpb
  obtain ⟨k, f, s, d, m, y, v, M⟩ := a
  obtain ⟨k', f', s', d', m', y', v', M'⟩ := b
  dsimp only at a0 a1 a2 a3 a4 a5 a6 b0 b1 b2 b3 b4 b5 b6 HSM hw0
  have HEQ : Hid ((⟨k, f, s, d, m, y, v, M⟩ : X) = ⟨k', f', s', d', m', y', v', M'⟩ ↔ k = k' ∧ f = f' ∧ s = s' ∧ d = d' ∧ m = m' ∧ y = y' ∧ v = v' ∧ M = M') := Lib.hid (by simp [Txn.X.mk.injEq])
  unfold xval
  dsimp only
  go_enter Tryz.func14, Tryz.ntmps14
  go_upto_region 1 with fail
  try rw [hw0]
  try rw [hq0]
  clear hw0 hq0
  by_cases h0 : k = k'
  case neg =>
    have e0 : (k != k') = true := by rw [bne_iff_ne]; exact h0
    have g0 : (k == k') = false := beq_eq_false_iff_ne.2 h0
    have HN : Hid (decide ((⟨k, f, s, d, m, y, v, M⟩ : X) = ⟨k', f', s', d', m', y', v', M'⟩) = false) := Lib.hid (decide_eq_false fun h => h0 (HEQ.out.1 h).1)
    clear h0
    go_wp2
    go_ret
    exact ⟨by rw [HN.out]; rfl, HB.out⟩
  have e0 : (k != k') = false := by rw [h0]; exact bne_self_eq_false _
  have g0 : (k == k') = true := beq_iff_eq.2 h0
  have H0 := Lib.hid h0
  clear h0
  by_cases h1 : f = f'
  case neg =>
    have e1 : (f != f') = true := by rw [bne_iff_ne]; exact h1
    have g1 : (f == f') = false := beq_eq_false_iff_ne.2 h1
    have HN : Hid (decide ((⟨k, f, s, d, m, y, v, M⟩ : X) = ⟨k', f', s', d', m', y', v', M'⟩) = false) := Lib.hid (decide_eq_false fun h => h1 (HEQ.out.1 h).2.1)
    clear h1
    go_wp2
    go_ret
    exact ⟨by rw [HN.out]; rfl, HB.out⟩
  have e1 : (f != f') = false := by rw [h1]; exact bne_self_eq_false _
  have g1 : (f == f') = true := beq_iff_eq.2 h1
  have H1 := Lib.hid h1
  clear h1
  by_cases h2 : s = s'
  case neg =>
    have e2 : (s != s') = true := by rw [bne_iff_ne]; exact h2
    have g2 : (s == s') = false := beq_eq_false_iff_ne.2 h2
    have HN : Hid (decide ((⟨k, f, s, d, m, y, v, M⟩ : X) = ⟨k', f', s', d', m', y', v', M'⟩) = false) := Lib.hid (decide_eq_false fun h => h2 (HEQ.out.1 h).2.2.1)
    clear h2
    go_wp2
    go_ret
    exact ⟨by rw [HN.out]; rfl, HB.out⟩
  have e2 : (s != s') = false := by rw [h2]; exact bne_self_eq_false _
  have g2 : (s == s') = true := beq_iff_eq.2 h2
  have H2 := Lib.hid h2
  clear h2
  by_cases h3 : d = d'
  case neg =>
    have e3 : (d != d') = true := by rw [bne_iff_ne]; exact h3
    have g3 : (d == d') = false := beq_eq_false_iff_ne.2 h3
    have HN : Hid (decide ((⟨k, f, s, d, m, y, v, M⟩ : X) = ⟨k', f', s', d', m', y', v', M'⟩) = false) := Lib.hid (decide_eq_false fun h => h3 (HEQ.out.1 h).2.2.2.1)
    clear h3
    go_wp2
    go_ret
    exact ⟨by rw [HN.out]; rfl, HB.out⟩
  have e3 : (d != d') = false := by rw [h3]; exact bne_self_eq_false _
  have g3 : (d == d') = true := beq_iff_eq.2 h3
  have H3 := Lib.hid h3
  clear h3
  by_cases h4 : m = m'
  case neg =>
    have e4 : (m != m') = true := by rw [bne_iff_ne]; exact h4
    have g4 : (m == m') = false := beq_eq_false_iff_ne.2 h4
    have HN : Hid (decide ((⟨k, f, s, d, m, y, v, M⟩ : X) = ⟨k', f', s', d', m', y', v', M'⟩) = false) := Lib.hid (decide_eq_false fun h => h4 (HEQ.out.1 h).2.2.2.2.1)
    clear h4
    go_wp2
    go_ret
    exact ⟨by rw [HN.out]; rfl, HB.out⟩
  have e4 : (m != m') = false := by rw [h4]; exact bne_self_eq_false _
  have g4 : (m == m') = true := beq_iff_eq.2 h4
  have H4 := Lib.hid h4
  clear h4
  by_cases h5 : y = y'
  case neg =>
    have e5 : (y != y') = true := by rw [bne_iff_ne]; exact h5
    have g5 : (y == y') = false := beq_eq_false_iff_ne.2 h5
    have HN : Hid (decide ((⟨k, f, s, d, m, y, v, M⟩ : X) = ⟨k', f', s', d', m', y', v', M'⟩) = false) := Lib.hid (decide_eq_false fun h => h5 (HEQ.out.1 h).2.2.2.2.2.1)
    clear h5
    go_wp2
    go_ret
    exact ⟨by rw [HN.out]; rfl, HB.out⟩
  have e5 : (y != y') = false := by rw [h5]; exact bne_self_eq_false _
  have g5 : (y == y') = true := beq_iff_eq.2 h5
  have H5 := Lib.hid h5
  clear h5
  by_cases h6 : v = v'
  case neg =>
    have e6 : (v != v') = true := by rw [bne_iff_ne]; exact h6
    have g6 : (v == v') = false := beq_eq_false_iff_ne.2 h6
    have HN : Hid (decide ((⟨k, f, s, d, m, y, v, M⟩ : X) = ⟨k', f', s', d', m', y', v', M'⟩) = false) := Lib.hid (decide_eq_false fun h => h6 (HEQ.out.1 h).2.2.2.2.2.2.1)
    clear h6
    go_wp2
    go_ret
    exact ⟨by rw [HN.out]; rfl, HB.out⟩
  have e6 : (v != v') = false := by rw [h6]; exact bne_self_eq_false _
  have g6 : (v == v') = true := beq_iff_eq.2 h6
  have H6 := Lib.hid h6
  clear h6
  go_wp2_with fail
  refine HSM.out.mono ?_
  rintro r w1 ⟨rfl, hb1⟩
  have HF := Lib.hid (bchain HB.out hb1)
  have HN : Hid (decide ((⟨k, f, s, d, m, y, v, M⟩ : X) = ⟨k', f', s', d', m', y', v', M'⟩) = decide (M = M')) := Lib.hid (by
    rw [decide_eq_decide]
    exact HEQ.out.trans ⟨fun h => h.2.2.2.2.2.2.2, fun h => ⟨H0.out, H1.out, H2.out, H3.out, H4.out, H5.out, H6.out, h⟩⟩)
  clear hb1
  go_wp2
  go_ret
  exact ⟨by rw [HN.out]; rfl, HF.out⟩
theorem Txn.take_snoc_eq {L K : List X} {k : Nat} (h1 : k < L.length) (h2 : k < K.length) : L.take (k + 1) = K.take (k + 1) ↔ L.take k = K.take k ∧ L[k] = K[k] := by
  rw [List.take_succ_eq_append_getElem h1, List.take_succ_eq_append_getElem h2]
  constructor
  · intro h
    have := List.append_inj' h rfl
    exact ⟨this.1, by simpa using this.2⟩
  · rintro ⟨a, b⟩
    rw [a, b]
end Go.Proofs.YtlckcfpdiigjiaaGreatDoor
namespace Go.Proofs.YtlckcfpdiigjiaaGreatDoor
open Go

theorem cnt_set : ∀ (L : List Bool) (i : Nat), L[i]? = some false → (L.set i true).count false + 1 = L.count false
  | [], i, h => by simp at h
  | b :: L, 0, h => by
    simp at h
    subst h
    simp
  | b :: L, i + 1, h => by
    have := cnt_set L i (by simpa using h)
    simp only [List.set_cons_succ, List.count_cons]
    omega
theorem ready_false {md : Region.Mode} {ops : Array Oper} {L : List Bool} {i : Nat} (h : i ∈ Region.ready md ops L.toArray) : L[i]? = some false := by
  have h2 := (List.mem_filter.1 h).2
  rw [Bool.and_eq_true] at h2
  have h3 := h2.1
  have e : L.toArray.getD i true = L[i]?.getD true := by simp [Array.getD_eq_getD_getElem?]
  rw [e] at h3
  cases hx : L[i]? with
  | none => rw [hx] at h3; simp at h3
  | some b => rw [hx] at h3; cases b <;> simp_all
theorem ready_lt {md : Region.Mode} {ops : Array Oper} {L : List Bool} {i : Nat} (h : i ∈ Region.ready md ops L.toArray) : i < ops.size := by
  have h2 := (List.mem_filter.1 h).1
  simpa using h2
theorem any_inv {P : Program} {md : Region.Mode} {l : List Oper} {Q : Exit → Act → World → Prop} {I : List Bool → Act → World → Prop}
    (hstep : ∀ L a w, L.length = l.length → I L a w → ∀ i o, l[i]? = some o → i ∈ Region.ready md l.toArray L.toArray → ∀ K : Act → World → Prop, (∀ a w, I (L.set i true) a w → K a w) → if Region.wanted o (yielded l.toArray a.tmps) = true then Oper.wp P o a w K Q else K (a.put o.dst undef) w)
    (hend : ∀ L a w, L.length = l.length → Region.ready md l.toArray L.toArray = [] → I L a w → Q .normal a w) :
    ∀ (fuel : Nat) (L : List Bool) (a : Act) (w : World), L.length = l.length → L.count false ≤ fuel → I L a w → wpAny P md l.toArray Q fuel L.toArray a w
  | 0, L, a, w, hl, hc, hI => by
    have hr : Region.ready md l.toArray L.toArray = [] := by
      cases hr : Region.ready md l.toArray L.toArray with
      | nil => rfl
      | cons i is =>
        have := ready_false (md := md) (ops := l.toArray) (L := L) (i := i) (by rw [hr]; simp)
        have := cnt_set L i this
        omega
    exact ⟨hr, hend L a w hl hr hI⟩
  | fuel + 1, L, a, w, hl, hc, hI => by
    refine ⟨fun hr => hend L a w hl hr hI, fun i hi => ?_⟩
    have hf := ready_false hi
    have hlt : i < l.length := by simpa using ready_lt hi
    have hs := cnt_set L i hf
    refine wpOp_step (o := l[i]) (by simp [hlt]) (fun K hK => ?_)
    refine hstep L a w hl hI i l[i] (by simp [hlt]) hi K (fun a' w' h => hK a' w' ?_)
    have e : L.toArray.setIfInBounds i true = (L.set i true).toArray := by simp
    rw [e]
    exact any_inv hstep hend fuel (L.set i true) a' w' (by simpa using hl) (by omega) h
theorem region_inv {P : Program} {id : Nat} {l : List Oper} {Q : Exit → Act → World → Prop} {a : Act} {w : World} (I : List Bool → Act → World → Prop) (hm : P.follows .mixedOrders = true)
    (h0 : I (List.replicate l.length false) a w.drew)
    (hstep : ∀ L a w, L.length = l.length → I L a w → ∀ i o, l[i]? = some o → i ∈ Region.ready .any l.toArray L.toArray → ∀ K : Act → World → Prop, (∀ a w, I (L.set i true) a w → K a w) → if Region.wanted o (yielded l.toArray a.tmps) = true then Oper.wp P o a w K Q else K (a.put o.dst undef) w)
    (hend : ∀ L a w, L.length = l.length → Region.ready .any l.toArray L.toArray = [] → I L a w → Q .normal a w) :
    (Code.region id l.toArray true).wp P Q a w := by
  refine wp_region_any hm ?_
  have e : Array.replicate l.toArray.size false = (List.replicate l.length false).toArray := by simp
  rw [e]
  exact any_inv hstep hend _ _ _ _ (by simp) (by simp) h0
end Go.Proofs.YtlckcfpdiigjiaaGreatDoor
namespace Go.Proofs.YtlckcfpdiigjiaaGreatDoor
open Go.RowKit
open Go.Proofs.YtlckcfpdiigjiaaGreatDoor.Pw (M)
open Go.Proofs.YtlckcfpdiigjiaaGreatDoor.Txn (X)

theorem rName_any (s : List UInt8) (w : World) : Calls Tryz.prog 47 #[.string ⟨s.toArray⟩] w fun r w' => r = .returned (.bool (Txn.nameB s)) ∧ w' = w := by
  have HN : Hid (Txn.nameB s = (decide ((1 : Int) ≤ (s.length : Int)) && decide ((s.length : Int) ≤ 6))) := Lib.hid (by
    unfold Txn.nameB
    rw [show decide (1 ≤ s.length) = decide ((1 : Int) ≤ (s.length : Int)) from decide_eq_decide.2 (by omega), show decide (s.length ≤ 6) = decide ((s.length : Int) ≤ 6) from decide_eq_decide.2 (by omega)])
  obtain ⟨c1, h1⟩ : ∃ c, decide ((1 : Int) ≤ (s.length : Int)) = c := ⟨_, rfl⟩
  obtain ⟨c2, h2⟩ : ∃ c, decide ((s.length : Int) ≤ 6) = c := ⟨_, rfl⟩
  rw [h1, h2] at HN
  cases c1 <;> cases c2 <;>
  · go_enter Tryz.func47, Tryz.ntmps47
    go_wp2
    go_ret
    exact ⟨by rw [HN.out]; rfl, rfl⟩
theorem Txn.kind1 {x : X} (h : x.kind = 1) : Txn.kindB x = (Txn.nameB x.dst && Txn.amtB x.amt && x.key.isEmpty && x.val.isEmpty && x.mem.isEmpty) := by unfold Txn.kindB; rw [if_pos h]
theorem Txn.kind2 {x : X} (h : x.kind = 2) : Txn.kindB x = (x.dst.isEmpty && decide (x.amt = 0) && Txn.keyB x.key && Txn.valB x.val && x.mem.isEmpty) := by unfold Txn.kindB; rw [if_neg (by omega), if_pos h]
theorem Txn.kind3 {x : X} (h : x.kind = 3) : Txn.kindB x = (x.dst.isEmpty && decide (x.amt = 0) && Txn.keyB x.key && x.val.isEmpty && x.mem.isEmpty) := by unfold Txn.kindB; rw [if_neg (by omega), if_neg (by omega), if_pos h]
theorem Txn.kind4 {x : X} (h : x.kind = 4) : Txn.kindB x = (x.dst.isEmpty && decide (x.amt = 0) && x.key.isEmpty && x.val.isEmpty && Pw.okL x.mem) := by unfold Txn.kindB; rw [if_neg (by omega), if_neg (by omega), if_neg (by omega), if_pos h]
theorem Txn.kind0 {x : X} (h1 : x.kind ≠ 1) (h2 : x.kind ≠ 2) (h3 : x.kind ≠ 3) (h4 : x.kind ≠ 4) : Txn.kindB x = false := by unfold Txn.kindB; rw [if_neg h1, if_neg h2, if_neg h3, if_neg h4]
set_option maxRecDepth 100000 in
set_option maxHeartbeats 8000000 in
theorem rFine_any (x : X) (z : Value) (w : World) (hz : Mems w z x.mem) :
    Calls Tryz.prog 33 #[xval x z] w fun r w' => r = .returned (.bool (Txn.fine x)) ∧ Below w.heap.size w w' := by
  obtain ⟨w0, hw0⟩ : ∃ w0, w.alloc (.cells #[.int .i64 x.kind, .string ⟨x.frm.toArray⟩, .int .i64 x.seq, .string ⟨x.dst.toArray⟩, .int .i64 x.amt, .string ⟨x.key.toArray⟩, .string ⟨x.val.toArray⟩, z] 46) = w0 := ⟨_, rfl⟩
  obtain ⟨q0, hq0⟩ : ∃ q0, w.heap.size = q0 := ⟨_, rfl⟩
  have hb0 : Below w.heap.size w w0 := by rw [← hw0]; exact (Below.refl _ w).alloc (Nat.le_refl _) _
  have ra : TxAt w0 q0 x z := by rw [← hw0, ← hq0]; exact heap_alloc_new w _
  have HB := Lib.hid hb0
  have HM := Lib.hid (hz.below hb0)
  have HA := Lib.hid ra
  obtain ⟨Az, capz, rfl⟩ := hz.form
  have HFI : Hid (Txn.fine x = (Txn.nameB x.frm && decide (0 ≤ x.seq) && decide (x.seq ≤ 1099511627776) && Txn.kindB x)) := Lib.hid rfl
  have HK1 := Lib.hid (fun (h : x.kind = 1) => Txn.kind1 h)
  have HK2 := Lib.hid (fun (h : x.kind = 2) => Txn.kind2 h)
  have HK3 := Lib.hid (fun (h : x.kind = 3) => Txn.kind3 h)
  have HK4 := Lib.hid (fun (h : x.kind = 4) => Txn.kind4 h)
  have HK0 := Lib.hid (fun (h1 : x.kind ≠ 1) (h2 : x.kind ≠ 2) (h3 : x.kind ≠ 3) (h4 : x.kind ≠ 4) => Txn.kind0 h1 h2 h3 h4)
  obtain ⟨a0, a1, a2, a3, a4, a5, a6, a7⟩ := ra.cells
  obtain ⟨B, hB⟩ : ∃ B, Txn.fine x = B := ⟨_, rfl⟩
  rw [hB] at HFI ⊢
  obtain ⟨C, hC⟩ : ∃ C, Txn.kindB x = C := ⟨_, rfl⟩
  rw [hC] at HFI HK1 HK2 HK3 HK4 HK0
  clear hB hC hb0 hz ra
  unfold xval
  have HCK := Lib.hid (fun w' (h : Below w0.heap.size w0 w') => rcheck_any x.mem _ w' (HM.out.below h))
  obtain ⟨k, f, s, d, m, y, v, M⟩ := x
  dsimp only at a0 a1 a2 a3 a4 a5 a6 HFI HK1 HK2 HK3 HK4 HK0 HM HCK hw0 ⊢
  obtain ⟨n1, hn1⟩ : ∃ b, Txn.nameB f = b := ⟨_, rfl⟩
  have HNF := Lib.hid (fun w' => rName_any f w')
  rw [hn1] at HFI HNF
  have HND := Lib.hid (fun w' => rName_any d w')
  go_enter Tryz.func33, Tryz.ntmps33
  go_upto_region 1 with fail
  try rw [hw0]
  try rw [hq0]
  clear hw0 hq0 hn1
  go_wp2_with fail
  refine (HNF.out _).mono ?_
  rintro r w1 ⟨rfl, hw1⟩
  obtain rfl := hw1.symm
  cases n1 with
  | false =>
    go_wp2
    go_ret
    exact ⟨by rw [HFI.out]; rfl, HB.out⟩
  | true =>
  by_cases hs0 : s < 0
  · have p1 : decide (s < 0) = true := decide_eq_true hs0
    have HF0 : Hid (decide (0 ≤ s) = false) := Lib.hid (decide_eq_false (by omega))
    clear hs0
    go_wp2
    go_ret
    exact ⟨by rw [HFI.out, HF0.out]; rfl, HB.out⟩
  have p1 : decide (s < 0) = false := decide_eq_false hs0
  have HF0 : Hid (decide (0 ≤ s) = true) := Lib.hid (decide_eq_true (by omega))
  clear hs0
  by_cases hs1 : 1099511627776 < s
  · have p2 : decide (1099511627776 < s) = true := decide_eq_true hs1
    have HF1 : Hid (decide (s ≤ 1099511627776) = false) := Lib.hid (decide_eq_false (by omega))
    clear hs1
    go_wp2
    go_ret
    exact ⟨by rw [HFI.out, HF0.out, HF1.out]; rfl, HB.out⟩
  have p2 : decide (1099511627776 < s) = false := decide_eq_false hs1
  have HF1 : Hid (decide (s ≤ 1099511627776) = true) := Lib.hid (decide_eq_true (by omega))
  clear hs1
  have HFB : Hid (B = C) := Lib.hid (by rw [HFI.out, HF0.out, HF1.out]; rfl)
  obtain ⟨e1, he1⟩ : ∃ b, d.isEmpty = b := ⟨_, rfl⟩
  obtain ⟨e2, he2⟩ : ∃ b, (m == 0) = b := ⟨_, rfl⟩
  obtain ⟨e3, he3⟩ : ∃ b, y.isEmpty = b := ⟨_, rfl⟩
  obtain ⟨e4, he4⟩ : ∃ b, v.isEmpty = b := ⟨_, rfl⟩
  obtain ⟨e5, he5⟩ : ∃ b, M.isEmpty = b := ⟨_, rfl⟩
  have f1 : (d == []) = e1 := by rw [← he1]; cases d <;> rfl
  have f3 : (y == []) = e3 := by rw [← he3]; cases y <;> rfl
  have f4 : (v == []) = e4 := by rw [← he4]; cases v <;> rfl
  have f5 : ((M.length : Int) == 0) = e5 := by rw [← he5]; cases M with | nil => rfl | cons a l => simp; omega
  have g2 : decide (m = 0) = e2 := by rw [← he2]; by_cases h : m = 0 <;> simp [h]
  rw [he1, g2, he5] at HK2
  rw [he1, g2, he4, he5] at HK3
  rw [he1, g2, he3, he4] at HK4
  rw [he3, he4, he5] at HK1
  clear HFI HF0 HF1 g2 he5
  go_wp2
  go_quiet (fail)
  go_wp2
  go_quiet (fail)
  by_cases k4 : k = 4
  · have r1 : (k == 1) = false := beq_eq_false_iff_ne.2 (by omega)
    have r2 : (k == 2) = false := beq_eq_false_iff_ne.2 (by omega)
    have r3 : (k == 3) = false := beq_eq_false_iff_ne.2 (by omega)
    have r4 : (k == 4) = true := beq_iff_eq.2 k4
    have HK : Hid (B = (e1 && e2 && e3 && e4 && Pw.okL M)) := Lib.hid (HFB.out.trans (HK4.out k4))
    obtain ⟨c, hc⟩ : ∃ c, Pw.checkC M = c := ⟨_, rfl⟩
    have HC2 : Hid (Pw.okL M = (c == 0)) := Lib.hid (by rw [← hc]; unfold Pw.checkC; cases Pw.okL M <;> rfl)
    rw [HC2.out] at HK
    rw [hc] at HCK
    clear hc k4
    go_wp2_with fail
    refine (HCK.out _ (bel_drewN (Below.refl _ _) _)).mono ?_
    rintro r w6 ⟨rfl, hb6⟩
    have HB6 := Lib.hid (bchain (bel_drewN HB.out _) hb6)
    obtain ⟨e6, he6⟩ : ∃ b, (c == 0) = b := ⟨_, rfl⟩
    rw [he6] at HK
    clear hb6
    cases e1 with
    | false =>
      go_wp2
      go_ret
      exact ⟨by rw [HK.out]; rfl, HB6.out⟩
    | true =>
    cases e2 with
    | false =>
      go_wp2
      go_ret
      exact ⟨by rw [HK.out]; rfl, HB6.out⟩
    | true =>
    cases e3 with
    | false =>
      go_wp2
      go_ret
      exact ⟨by rw [HK.out]; rfl, HB6.out⟩
    | true =>
    cases e4 with
    | false =>
      go_wp2
      go_ret
      exact ⟨by rw [HK.out]; rfl, HB6.out⟩
    | true =>
    cases e6 with
    | false =>
      go_wp2
      go_ret
      exact ⟨by rw [HK.out]; rfl, HB6.out⟩
    | true =>
    go_wp2
    go_ret
    exact ⟨by rw [HK.out]; rfl, HB6.out⟩
  by_cases k3 : k = 3
  · have r1 : (k == 1) = false := beq_eq_false_iff_ne.2 (by omega)
    have r2 : (k == 2) = false := beq_eq_false_iff_ne.2 (by omega)
    have r3 : (k == 3) = true := beq_iff_eq.2 k3
    have HK : Hid (B = (e1 && e2 && Txn.keyB y && e4 && e5)) := Lib.hid (HFB.out.trans (HK3.out k3))
    have HY : Hid (Txn.keyB y = (decide ((1 : Int) ≤ (y.length : Int)) && decide ((y.length : Int) ≤ 6))) := Lib.hid (by
      unfold Txn.keyB
      rw [show decide (1 ≤ y.length) = decide ((1 : Int) ≤ (y.length : Int)) from decide_eq_decide.2 (by omega), show decide (y.length ≤ 6) = decide ((y.length : Int) ≤ 6) from decide_eq_decide.2 (by omega)])
    obtain ⟨l1, hl1⟩ : ∃ b, decide ((1 : Int) ≤ (y.length : Int)) = b := ⟨_, rfl⟩
    obtain ⟨l2, hl2⟩ : ∃ b, decide ((y.length : Int) ≤ 6) = b := ⟨_, rfl⟩
    rw [hl1, hl2] at HY
    rw [HY.out] at HK
    clear k3
    cases l1 <;>
    · cases e1 with
      | false =>
        go_wp2
        go_ret
        exact ⟨by rw [HK.out]; rfl, bel_drewN HB.out _⟩
      | true =>
      cases e2 with
      | false =>
        go_wp2
        go_ret
        exact ⟨by rw [HK.out]; rfl, bel_drewN HB.out _⟩
      | true =>
      cases l2 with
      | false =>
        go_wp2
        go_ret
        exact ⟨by rw [HK.out]; rfl, bel_drewN HB.out _⟩
      | true =>
      cases e4 with
      | false =>
        go_wp2
        go_ret
        exact ⟨by rw [HK.out]; rfl, bel_drewN HB.out _⟩
      | true =>
      cases e5 with
      | false =>
        go_wp2
        go_ret
        exact ⟨by rw [HK.out]; rfl, bel_drewN HB.out _⟩
      | true =>
      go_wp2
      go_ret
      exact ⟨by rw [HK.out]; rfl, bel_drewN HB.out _⟩
  by_cases k2 : k = 2
  · have r1 : (k == 1) = false := beq_eq_false_iff_ne.2 (by omega)
    have r2 : (k == 2) = true := beq_iff_eq.2 k2
    have HK : Hid (B = (e1 && e2 && Txn.keyB y && Txn.valB v && e5)) := Lib.hid (HFB.out.trans (HK2.out k2))
    have HY : Hid (Txn.keyB y = (decide ((1 : Int) ≤ (y.length : Int)) && decide ((y.length : Int) ≤ 6))) := Lib.hid (by
      unfold Txn.keyB
      rw [show decide (1 ≤ y.length) = decide ((1 : Int) ≤ (y.length : Int)) from decide_eq_decide.2 (by omega), show decide (y.length ≤ 6) = decide ((y.length : Int) ≤ 6) from decide_eq_decide.2 (by omega)])
    have HV : Hid (Txn.valB v = (decide ((1 : Int) ≤ (v.length : Int)) && decide ((v.length : Int) ≤ 32))) := Lib.hid (by
      unfold Txn.valB
      rw [show decide (1 ≤ v.length) = decide ((1 : Int) ≤ (v.length : Int)) from decide_eq_decide.2 (by omega), show decide (v.length ≤ 32) = decide ((v.length : Int) ≤ 32) from decide_eq_decide.2 (by omega)])
    obtain ⟨l1, hl1⟩ : ∃ b, decide ((1 : Int) ≤ (y.length : Int)) = b := ⟨_, rfl⟩
    obtain ⟨l2, hl2⟩ : ∃ b, decide ((y.length : Int) ≤ 6) = b := ⟨_, rfl⟩
    obtain ⟨l3, hl3⟩ : ∃ b, decide ((1 : Int) ≤ (v.length : Int)) = b := ⟨_, rfl⟩
    obtain ⟨l4, hl4⟩ : ∃ b, decide ((v.length : Int) ≤ 32) = b := ⟨_, rfl⟩
    rw [hl1, hl2] at HY
    rw [hl3, hl4] at HV
    rw [HY.out, HV.out] at HK
    clear k2
    cases l1 <;> cases l3 <;>
    · go_wp2
      go_quiet (fail)
      cases e1 with
      | false =>
        go_wp2
        go_ret
        exact ⟨by rw [HK.out]; rfl, bel_drewN HB.out _⟩
      | true =>
      cases e2 with
      | false =>
        go_wp2
        go_ret
        exact ⟨by rw [HK.out]; rfl, bel_drewN HB.out _⟩
      | true =>
      cases l2 with
      | false =>
        go_wp2
        go_ret
        exact ⟨by rw [HK.out]; rfl, bel_drewN HB.out _⟩
      | true =>
      cases l4 with
      | false =>
        go_wp2
        go_ret
        exact ⟨by rw [HK.out]; rfl, bel_drewN HB.out _⟩
      | true =>
      cases e5 with
      | false =>
        go_wp2
        go_ret
        exact ⟨by rw [HK.out]; rfl, bel_drewN HB.out _⟩
      | true =>
      go_wp2
      go_ret
      exact ⟨by rw [HK.out]; rfl, bel_drewN HB.out _⟩
  by_cases k1 : k = 1
  · have r1 : (k == 1) = true := beq_iff_eq.2 k1
    have HK : Hid (B = (Txn.nameB d && Txn.amtB m && e3 && e4 && e5)) := Lib.hid (HFB.out.trans (HK1.out k1))
    have HY : Hid (Txn.amtB m = (decide (1 ≤ m) && decide (m ≤ 1099511627776))) := Lib.hid rfl
    obtain ⟨n2, hn2⟩ : ∃ b, Txn.nameB d = b := ⟨_, rfl⟩
    obtain ⟨l1, hl1⟩ : ∃ b, decide (1 ≤ m) = b := ⟨_, rfl⟩
    obtain ⟨l2, hl2⟩ : ∃ b, decide (m ≤ 1099511627776) = b := ⟨_, rfl⟩
    rw [hl1, hl2] at HY
    rw [HY.out, hn2] at HK
    rw [hn2] at HND
    clear k1 hn2
    have HS : Hid (∀ w', Below w0.heap.size w0 w' → Below w0.heap.size w0 w' ∧ w'.cell? ⟨q0, 3, none⟩ = some (.string ⟨d.toArray⟩) ∧ w'.cell? ⟨q0, 4, none⟩ = some (.int .i64 m)) := Lib.hid (fun w' h => ⟨h, (HA.out.below h).cells.2.2.2.1, (HA.out.below h).cells.2.2.2.2.1⟩)
    have HNB : Hid (∀ w', Below w0.heap.size w0 w' → Calls Tryz.prog 47 #[.string ⟨d.toArray⟩] w' fun r w'' => r = .returned (.bool n2) ∧ Below w0.heap.size w0 w'') := Lib.hid (fun w' h => (HND.out w').mono fun r w'' ⟨p, q⟩ => ⟨p, by rw [q]; exact h⟩)
    have BD : ∀ n, Below w0.heap.size w0 (w0.drewN n) := fun n => bel_drewN (Below.refl _ _) n
    go_wp2
    refine region_inv (fun Lq aq w' => ∃ v42 v43 v44 v45 v46 v47 v48 v49 v50 v51 v52 v3 v4 : Value, aq = ⟨#[Value.agg #[Value.int IntKind.i64 k, Value.string { data := List.toArray f }, Value.int IntKind.i64 s, Value.string { data := List.toArray d }, Value.int IntKind.i64 m, Value.string { data := List.toArray y }, Value.string { data := List.toArray v }, Value.slice Az M.length capz], Value.pointer (some { block := q0, off := 0 }), Value.bool false, v3, v4, Value.bool e3, Value.bool e4, Value.bool e5, Value.pointer (some { block := q0, off := 1 }), Value.string { data := List.toArray f }, Value.bool true, Value.bool false, Value.bool false, Value.pointer (some { block := q0, off := 2 }), Value.int IntKind.i64 s, Value.bool false, Value.bool false, Value.bool false, Value.pointer (some { block := q0, off := 2 }), Value.int IntKind.i64 s, Value.bool false, Value.bool false, Value.pointer (some { block := q0, off := 3 }), Value.string { data := List.toArray d }, Value.bool e1, Value.pointer (some { block := q0, off := 4 }), Value.int IntKind.i64 m, Value.bool e2, Value.pointer (some { block := q0, off := 5 }), Value.string { data := List.toArray y }, Value.bool e3, Value.pointer (some { block := q0, off := 6 }), Value.string { data := List.toArray v }, Value.bool e4, Value.pointer (some { block := q0, off := 7 }), Value.slice Az M.length capz, Value.int IntKind.i64 ↑M.length, Value.bool e5, Value.pointer (some { block := q0, off := 0 }), Value.int IntKind.i64 k, Value.bool true, Value.bool true, v42, v43, v44, v45, v46, v47, v48, v49, v50, v51, v52, undef, undef, undef, undef, undef, undef, undef, undef, undef, undef, undef, undef, undef, undef, undef, undef, undef, undef, undef, undef, undef, undef, undef, undef, undef, undef, undef, undef, undef, undef, undef, undef, undef, undef, undef, undef, undef, undef, undef, undef, undef, undef, undef, undef, undef, undef, undef, undef, undef, undef, undef, undef, undef], []⟩ ∧ Below w0.heap.size w0 w' ∧ (Lq[0]? = some true → v42 = .pointer (some ⟨q0, 3, none⟩)) ∧ (Lq[1]? = some true → v43 = .string ⟨d.toArray⟩) ∧ (Lq[2]? = some true → v44 = .bool n2) ∧ (Lq[3]? = some true → v45 = .pointer (some ⟨q0, 4, none⟩)) ∧ (Lq[4]? = some true → v46 = .int .i64 m) ∧ (Lq[5]? = some true → v47 = .bool l1) ∧ (Lq[6]? = some true → v48 = .bool l1) ∧ (Lq[7]? = some true → v49 = (bif l1 then .pointer (some ⟨q0, 4, none⟩) else undef)) ∧ (Lq[8]? = some true → v50 = (bif l1 then .int .i64 m else undef)) ∧ (Lq[9]? = some true → v51 = (bif l1 then .bool l2 else undef)) ∧ (Lq[10]? = some true → v52 = .bool (l1 && l2)) ∧ (Lq[11]? = some true → v3 = .bool n2) ∧ (Lq[12]? = some true → v4 = .bool (l1 && l2))) (by rfl) ?_ ?_ ?_
    · exact ⟨_, _, _, _, _, _, _, _, _, _, _, _, _, rfl, (bel_drewN (Below.refl _ _) _).drew, by simp, by simp, by simp, by simp, by simp, by simp, by simp, by simp, by simp, by simp, by simp, by simp, by simp⟩
    · intro Lq aq w1' hL hI j o ho hj K hK
      obtain ⟨v42, v43, v44, v45, v46, v47, v48, v49, v50, v51, v52, v3, v4, rfl, hB, h0, h1, h2, h3, h4, h5, h6, h7, h8, h9, h10, h11, h12⟩ := hI
      obtain ⟨b0, b1, b2, b3, b4, b5, b6, b7, b8, b9, b10, b11, b12, rfl⟩ : ∃ b0 b1 b2 b3 b4 b5 b6 b7 b8 b9 b10 b11 b12, Lq = [b0, b1, b2, b3, b4, b5, b6, b7, b8, b9, b10, b11, b12] := by
        match Lq, hL with
        | [b0, b1, b2, b3, b4, b5, b6, b7, b8, b9, b10, b11, b12], _ => exact ⟨b0, b1, b2, b3, b4, b5, b6, b7, b8, b9, b10, b11, b12, rfl⟩
      have hi2 := (List.mem_filter.1 hj).2
      clear hj hL
      obtain ⟨-, k0, k1⟩ := HS.out _ hB
      rcases j with _ | _ | _ | _ | _ | _ | _ | _ | _ | _ | _ | _ | _ | j
      · obtain rfl := Option.some.inj ho
        clear ho hi2
        rw [if_pos (by rfl)]
        go_simp
        exact hK _ _ ⟨_, v43, v44, v45, v46, v47, v48, v49, v50, v51, v52, v3, v4, rfl, hB, fun _ => rfl, h1, h2, h3, h4, h5, h6, h7, h8, h9, h10, h11, h12⟩
      · obtain rfl := Option.some.inj ho
        simp [Region.binds] at hi2
        obtain rfl := h0 (by simp [hi2])
        clear ho hi2
        rw [if_pos (by rfl)]
        go_simp
        exact hK _ _ ⟨_, _, v44, v45, v46, v47, v48, v49, v50, v51, v52, v3, v4, rfl, hB, fun _ => rfl, fun _ => rfl, h2, h3, h4, h5, h6, h7, h8, h9, h10, h11, h12⟩
      · obtain rfl := Option.some.inj ho
        simp [Region.binds] at hi2
        obtain rfl := h1 (by simp [hi2])
        clear ho hi2
        rw [if_pos (by rfl)]
        go_simp
        refine (HNB.out _ hB).mono ?_
        rintro r w2 ⟨rfl, hB2⟩
        exact hK _ _ ⟨v42, _, _, v45, v46, v47, v48, v49, v50, v51, v52, v3, v4, rfl, hB2, h0, fun _ => rfl, fun _ => rfl, h3, h4, h5, h6, h7, h8, h9, h10, h11, h12⟩
      · obtain rfl := Option.some.inj ho
        clear ho hi2
        rw [if_pos (by rfl)]
        go_simp
        exact hK _ _ ⟨v42, v43, v44, _, v46, v47, v48, v49, v50, v51, v52, v3, v4, rfl, hB, h0, h1, h2, fun _ => rfl, h4, h5, h6, h7, h8, h9, h10, h11, h12⟩
      · obtain rfl := Option.some.inj ho
        simp [Region.binds] at hi2
        obtain rfl := h3 (by simp [hi2])
        clear ho hi2
        rw [if_pos (by rfl)]
        go_simp
        exact hK _ _ ⟨v42, v43, v44, _, _, v47, v48, v49, v50, v51, v52, v3, v4, rfl, hB, h0, h1, h2, fun _ => rfl, fun _ => rfl, h5, h6, h7, h8, h9, h10, h11, h12⟩
      · obtain rfl := Option.some.inj ho
        simp [Region.binds] at hi2
        obtain rfl := h4 (by simp [hi2])
        clear ho hi2
        rw [if_pos (by rfl)]
        go_simp
        exact hK _ _ ⟨v42, v43, v44, v45, _, _, v48, v49, v50, v51, v52, v3, v4, rfl, hB, h0, h1, h2, h3, fun _ => rfl, fun _ => rfl, h6, h7, h8, h9, h10, h11, h12⟩
      · obtain rfl := Option.some.inj ho
        simp [Region.binds] at hi2
        obtain rfl := h5 (by simp [hi2])
        clear ho hi2
        rw [if_pos (by rfl)]
        go_simp
        exact hK _ _ ⟨v42, v43, v44, v45, v46, _, _, v49, v50, v51, v52, v3, v4, rfl, hB, h0, h1, h2, h3, h4, fun _ => rfl, fun _ => rfl, h7, h8, h9, h10, h11, h12⟩
      · obtain rfl := Option.some.inj ho
        simp [Region.binds] at hi2
        obtain rfl := h6 (by simp [hi2])
        clear ho hi2
        cases l1
        · rw [if_neg (by rw [show Region.wanted _ _ = false from rfl]; decide)]
          exact hK _ _ ⟨v42, v43, v44, v45, v46, v47, _, _, v50, v51, v52, v3, v4, rfl, hB, h0, h1, h2, h3, h4, h5, fun _ => rfl, fun _ => rfl, h8, h9, h10, h11, h12⟩
        · rw [if_pos (by rfl)]
          go_simp
          exact hK _ _ ⟨v42, v43, v44, v45, v46, v47, _, _, v50, v51, v52, v3, v4, rfl, hB, h0, h1, h2, h3, h4, h5, fun _ => rfl, fun _ => rfl, h8, h9, h10, h11, h12⟩
      · obtain rfl := Option.some.inj ho
        simp [Region.binds] at hi2
        obtain rfl := h7 (by simp [hi2])
        obtain rfl := h6 (by simp [hi2])
        clear ho hi2
        cases l1
        · rw [if_neg (by rw [show Region.wanted _ _ = false from rfl]; decide)]
          exact hK _ _ ⟨v42, v43, v44, v45, v46, v47, _, _, _, v51, v52, v3, v4, rfl, hB, h0, h1, h2, h3, h4, h5, fun _ => rfl, fun _ => rfl, fun _ => rfl, h9, h10, h11, h12⟩
        · rw [if_pos (by rfl)]
          go_simp
          exact hK _ _ ⟨v42, v43, v44, v45, v46, v47, _, _, _, v51, v52, v3, v4, rfl, hB, h0, h1, h2, h3, h4, h5, fun _ => rfl, fun _ => rfl, fun _ => rfl, h9, h10, h11, h12⟩
      · obtain rfl := Option.some.inj ho
        simp [Region.binds] at hi2
        obtain rfl := h8 (by simp [hi2])
        obtain rfl := h6 (by simp [hi2])
        clear ho hi2
        cases l1
        · rw [if_neg (by rw [show Region.wanted _ _ = false from rfl]; decide)]
          exact hK _ _ ⟨v42, v43, v44, v45, v46, v47, _, v49, _, _, v52, v3, v4, rfl, hB, h0, h1, h2, h3, h4, h5, fun _ => rfl, h7, fun _ => rfl, fun _ => rfl, h10, h11, h12⟩
        · rw [if_pos (by rfl)]
          go_simp
          exact hK _ _ ⟨v42, v43, v44, v45, v46, v47, _, v49, _, _, v52, v3, v4, rfl, hB, h0, h1, h2, h3, h4, h5, fun _ => rfl, h7, fun _ => rfl, fun _ => rfl, h10, h11, h12⟩
      · obtain rfl := Option.some.inj ho
        simp [Region.binds] at hi2
        obtain rfl := h6 (by simp [hi2])
        obtain rfl := h9 (by simp [hi2])
        clear ho hi2
        cases l1
        · rw [if_pos (by rfl)]
          go_simp
          exact hK _ _ ⟨v42, v43, v44, v45, v46, v47, _, v49, v50, _, _, v3, v4, rfl, hB, h0, h1, h2, h3, h4, h5, fun _ => rfl, h7, h8, fun _ => rfl, fun _ => rfl, h11, h12⟩
        · rw [if_pos (by rfl)]
          go_simp
          exact hK _ _ ⟨v42, v43, v44, v45, v46, v47, _, v49, v50, _, _, v3, v4, rfl, hB, h0, h1, h2, h3, h4, h5, fun _ => rfl, h7, h8, fun _ => rfl, fun _ => rfl, h11, h12⟩
      · obtain rfl := Option.some.inj ho
        simp [Region.binds] at hi2
        obtain rfl := h2 (by simp [hi2])
        clear ho hi2
        rw [if_pos (by rfl)]
        go_simp
        exact hK _ _ ⟨v42, v43, _, v45, v46, v47, v48, v49, v50, v51, v52, _, v4, rfl, hB, h0, h1, fun _ => rfl, h3, h4, h5, h6, h7, h8, h9, h10, fun _ => rfl, h12⟩
      · obtain rfl := Option.some.inj ho
        simp [Region.binds] at hi2
        obtain rfl := h10 (by simp [hi2])
        clear ho hi2
        rw [if_pos (by rfl)]
        go_simp
        exact hK _ _ ⟨v42, v43, v44, v45, v46, v47, v48, v49, v50, v51, _, v3, _, rfl, hB, h0, h1, h2, h3, h4, h5, h6, h7, h8, h9, fun _ => rfl, h11, fun _ => rfl⟩
      · simp at ho
    · intro Lq aq w2 hL hr hI
      obtain ⟨v42, v43, v44, v45, v46, v47, v48, v49, v50, v51, v52, v3, v4, rfl, hB, h0, h1, h2, h3, h4, h5, h6, h7, h8, h9, h10, h11, h12⟩ := hI
      obtain ⟨b0, b1, b2, b3, b4, b5, b6, b7, b8, b9, b10, b11, b12, rfl⟩ : ∃ b0 b1 b2 b3 b4 b5 b6 b7 b8 b9 b10 b11 b12, Lq = [b0, b1, b2, b3, b4, b5, b6, b7, b8, b9, b10, b11, b12] := by
        match Lq, hL with
        | [b0, b1, b2, b3, b4, b5, b6, b7, b8, b9, b10, b11, b12], _ => exact ⟨b0, b1, b2, b3, b4, b5, b6, b7, b8, b9, b10, b11, b12, rfl⟩
      have hr2 := List.filter_eq_nil_iff.1 hr
      clear hr hL
      have k0 := hr2 0 (by simp)
      have k1 := hr2 1 (by simp)
      have k2 := hr2 2 (by simp)
      have k3 := hr2 3 (by simp)
      have k4 := hr2 4 (by simp)
      have k5 := hr2 5 (by simp)
      have k6 := hr2 6 (by simp)
      have k7 := hr2 7 (by simp)
      have k8 := hr2 8 (by simp)
      have k9 := hr2 9 (by simp)
      have k10 := hr2 10 (by simp)
      have k11 := hr2 11 (by simp)
      have k12 := hr2 12 (by simp)
      clear hr2
      simp [Region.binds] at k0; subst k0
      simp [Region.binds] at k1; subst k1
      simp [Region.binds] at k2; subst k2
      simp [Region.binds] at k3; subst k3
      simp [Region.binds] at k4; subst k4
      simp [Region.binds] at k5; subst k5
      simp [Region.binds] at k6; subst k6
      simp [Region.binds] at k7; subst k7
      simp [Region.binds] at k8; subst k8
      simp [Region.binds] at k9; subst k9
      simp [Region.binds] at k10; subst k10
      simp [Region.binds] at k11; subst k11
      simp [Region.binds] at k12; subst k12
      obtain rfl := h0 rfl; obtain rfl := h1 rfl; obtain rfl := h2 rfl; obtain rfl := h3 rfl; obtain rfl := h4 rfl; obtain rfl := h5 rfl; obtain rfl := h6 rfl; obtain rfl := h7 rfl; obtain rfl := h8 rfl; obtain rfl := h9 rfl; obtain rfl := h10 rfl; obtain rfl := h11 rfl; obtain rfl := h12 rfl
      have HBA := Lib.hid hB
      clear hB
      obtain ⟨c2, hc2⟩ : ∃ c, (l1 && l2) = c := ⟨_, rfl⟩
      have HK2 : Hid (B = (n2 && c2 && e3 && e4 && e5)) := Lib.hid (by rw [HK.out, ← hc2])
      rw [hc2]
      clear hc2
      cases n2 with
      | false =>
        go_wp2
        go_ret
        exact ⟨by rw [HK2.out]; rfl, bchain HB.out HBA.out⟩
      | true =>
      cases c2 with
      | false =>
        go_wp2
        go_ret
        exact ⟨by rw [HK2.out]; rfl, bchain HB.out HBA.out⟩
      | true =>
      cases e3 with
      | false =>
        go_wp2
        go_ret
        exact ⟨by rw [HK2.out]; rfl, bchain HB.out HBA.out⟩
      | true =>
      cases e4 with
      | false =>
        go_wp2
        go_ret
        exact ⟨by rw [HK2.out]; rfl, bchain HB.out HBA.out⟩
      | true =>
      cases e5 with
      | false =>
        go_wp2
        go_ret
        exact ⟨by rw [HK2.out]; rfl, bchain HB.out HBA.out⟩
      | true =>
      go_wp2
      go_ret
      exact ⟨by rw [HK2.out]; rfl, bchain HB.out HBA.out⟩
  have HK : Hid (B = false) := Lib.hid (HFB.out.trans (HK0.out k1 k2 k3 k4))
  have r1 : (k == 1) = false := beq_eq_false_iff_ne.2 k1
  have r2 : (k == 2) = false := beq_eq_false_iff_ne.2 k2
  have r3 : (k == 3) = false := beq_eq_false_iff_ne.2 k3
  have r4 : (k == 4) = false := beq_eq_false_iff_ne.2 k4
  clear k1 k2 k3 k4
  go_wp2
  go_ret
  exact ⟨by rw [HK.out]; rfl, bel_drewN HB.out _⟩
end Go.Proofs.YtlckcfpdiigjiaaGreatDoor
namespace Go.Proofs.YtlckcfpdiigjiaaGreatDoor
open Go.RowKit
open Go.Proofs.YtlckcfpdiigjiaaGreatDoor.Pw (M)
open Go.Proofs.YtlckcfpdiigjiaaGreatDoor.Txn (X)

theorem tx_box (x : X) (z : Value) (w : World) : ∃ w0, w.alloc (.cells #[.int .i64 x.kind, .string ⟨x.frm.toArray⟩, .int .i64 x.seq, .string ⟨x.dst.toArray⟩, .int .i64 x.amt, .string ⟨x.key.toArray⟩, .string ⟨x.val.toArray⟩, z] 46) = w0 ∧ Below w.heap.size w w0 ∧ TxAt w0 w.heap.size x z :=
  ⟨_, rfl, (Below.refl _ w).alloc (Nat.le_refl _) _, heap_alloc_new w _⟩
/-- A transaction that is not too long to be looked at. -/
def Txn.Short (x : X) : Prop := x.frm.length ≤ 100 ∧ x.dst.length ≤ 100 ∧ x.key.length ≤ 100 ∧ x.val.length ≤ 100 ∧ x.mem.length ≤ 100
def BigTx (x : X) (w : World) (r : Ending) (w' : World) : Prop := ∃ b : Bool, r = .returned (.bool b) ∧ (b = false → Txn.Short x) ∧ (Txn.Short x → b = false) ∧ Below w.heap.size w w'
theorem BigTx.yes {x : X} {w w' : World} (n : ¬ Txn.Short x) (h : Below w.heap.size w w') : BigTx x w (.returned (.bool true)) w' := ⟨true, rfl, (fun h => by cases h), (fun h => absurd h n), h⟩
theorem BigTx.no {x : X} {w w' : World} (n : Txn.Short x) (h : Below w.heap.size w w') : BigTx x w (.returned (.bool false)) w' := ⟨false, rfl, (fun _ => n), (fun _ => rfl), h⟩
end Go.Proofs.YtlckcfpdiigjiaaGreatDoor
namespace Go.Proofs.YtlckcfpdiigjiaaGreatDoor
open Go.RowKit

set_option maxRecDepth 100000 in
set_option maxHeartbeats 400000 in
theorem rNumber_any (n : Nat) (hn : n < 2 ^ 63) (w : World) :
    Calls Tryz.prog 68 #[.int .i64 n] w fun e w' => e = .returned (.string ⟨(Code.numL n).toArray⟩) ∧ Below w.heap.size w w' := by
  have hn1 : (n : Int) < 9223372036854775808 := by omega
  go_enter Tryz.func68, Tryz.ntmps68
  go_wp2
  go_loopw [0, 3] (fun m s wr => ∃ (a : Nat) (t : List UInt8), a ≤ n ∧ m = .int .i64 a ∧ s = .string ⟨t.toArray⟩ ∧ Code.be (Code.sz a) a ++ t = Code.be (Code.sz n) n ∧ Below w.heap.size w wr) (fun m _ _ => (intOf m).toNat)
  case atStart => exact ⟨n, [], Nat.le_refl _, rfl, rfl, by simp, Below.refl _ _⟩
  case round =>
    obtain ⟨a, t, ha, rfl, rfl, ht, hbel⟩ := hrel
    have HT := Lib.hid ht
    clear ht
    by_cases h0 : a = 0
    · subst h0
      have hz : t = Code.be (Code.sz n) n := by have := HT.out; rw [Code.sz_zero] at this; exact this
      have hl := Code.be_length (Code.sz n) n
      rw [← hz] at hl
      have h8 := Code.sz_le8 n (by omega)
      have hZ := Lib.hid hz
      have hcv := conv_one' wr (UInt8.ofNat (Code.sz n)) (t.length : Int) (by rw [Code.ofNat_toNat _ (by omega)]; omega) _ rfl
      have htl : (t.length : Int) < 256 := by omega
      have hcm : ((⟨[UInt8.ofNat (Code.sz n)].toArray⟩ : ByteArray) ++ (⟨t.toArray⟩ : ByteArray)) = ⟨(Code.numL n).toArray⟩ := by
        rw [cat_mk, Code.numL, hZ.out]; rfl
      have hbel2 := hbel.alloc hbel.size (.cells #[.int .u8 (t.length : Int)] 5)
      clear hz h8 hl
      generalize UInt8.ofNat (Code.sz n) = y at hcv hcm
      go_wp2
      go_ret
      exact ⟨rfl, hbel2⟩
    · have hst : Code.be (Code.sz (a / 256)) (a / 256) ++ (UInt8.ofNat (a % 256) :: t) = Code.be (Code.sz n) n := by
        have := HT.out
        rw [Code.sz_pos a h0, Code.be, List.append_assoc] at this
        exact this
      have hyn := Code.ofNat_toNat (a % 256) (by omega)
      obtain ⟨y, hy⟩ : ∃ y, UInt8.ofNat (a % 256) = y := ⟨_, rfl⟩
      rw [hy] at hst hyn
      have hcv := conv_one' wr y (y.toNat : Int) rfl _ rfl
      have hrem : (a : Int) % 256 = (y.toNat : Int) := by omega
      obtain ⟨q, hq⟩ : ∃ q, a / 256 = q := ⟨_, rfl⟩
      have hquo : (a : Int) / 256 = (q : Int) := by omega
      have hyb := y.toNat_lt
      have hcm := cat_mk [y] t
      rw [List.singleton_append] at hcm
      obtain ⟨u, hu⟩ : ∃ u, y :: t = u := ⟨_, rfl⟩
      rw [hu] at hcm hst
      rw [hq] at hst
      have hqa : q < a := by omega
      have hul : u.length = t.length + 1 := by rw [← hu]; rfl
      have htl : t.length ≤ 8 := by
        have h1 := congrArg List.length HT.out
        rw [List.length_append, Code.be_length, Code.be_length] at h1
        have := Code.sz_le8 n (by omega)
        omega
      have ha0 : (0 : Int) < a := by omega
      have hS := Lib.hid hst
      have hbel2 := hbel.alloc hbel.size (.cells #[.int .u8 (y.toNat : Int)] 5)
      have ha9 : (a : Int) ≤ 9223372036854775807 := by omega
      have hqa9 := Lib.hid hqa
      have ha8 := Lib.hid ha
      clear hst hy hyn hu hq hn1 hn ha h0 hqa
      go_wp2
      go_roundw
      case rel => exact ⟨q, u, by have := hqa9.out; have := ha8.out; omega, by go_num, rfl, hS.out, hbel2⟩
      case measure => simp [intOf]; omega

theorem rText_any (s : List UInt8) (w : World) (hl : s.length ≤ 100000000) :
    Calls Tryz.prog 85 #[.string ⟨s.toArray⟩] w fun e w' => e = .returned (.string ⟨(Code.textL s).toArray⟩) ∧ Below w.heap.size w w' := by
  have hcm : ((⟨(Code.numL s.length).toArray⟩ : ByteArray) ++ (⟨s.toArray⟩ : ByteArray)) = ⟨(Code.textL s).toArray⟩ := by rw [cat_mk]; rfl
  have hnl : (Code.numL s.length).length ≤ 9 := by
    have := Code.numL_length s.length
    have := Code.sz_le8 s.length (by omega)
    omega
  have HM := Lib.hid hcm
  clear hcm
  go_enter Tryz.func85, Tryz.ntmps85
  go_wp2_with fail
  refine (rNumber_any s.length (by omega) w).mono ?_
  rintro e w1 ⟨rfl, hb⟩
  have hcm := HM.out
  generalize Code.numL s.length = x at hcm hnl ⊢
  go_wp2
  go_ret
  exact ⟨rfl, hb⟩
end Go.Proofs.YtlckcfpdiigjiaaGreatDoor
