/- ShaHash, ShaTurn, ShaWiden, ShaBlock, ShaWrite -/
import Derived.Test.YtlckcfpdiigjiaaGreatDoorPk02
import Derived.Test.YtlckcfpdiigjiaaGreatDoorPk01
import Derived.Deep.RegionLaw
import Derived.Deep.RegionWith
import Derived.Lib.Strings
namespace Go.Proofs.YtlckcfpdiigjiaaGreatDoor
open Go.RowKit

def words8 (s : Sha.St) : List Value := [.int .u32 s.a, .int .u32 s.b, .int .u32 s.c, .int .u32 s.d, .int .u32 s.e, .int .u32 s.f, .int .u32 s.g, .int .u32 s.h]
/-- A hash's cells: the words, the open block, the count. -/
def hashL (s : Sha.St) (o : List UInt8) (n : Nat) : List Value := words8 s ++ (cellsL o ++ [.int .u64 (n : Int)])
theorem hashL_length (s : Sha.St) (o : List UInt8) (n : Nat) (h : o.length = 64) : (hashL s o n).length = 73 := by
  simp [hashL, words8, cellsL_length, h]
theorem hashL_count (s : Sha.St) (o : List UInt8) (n : Nat) (h : o.length = 64) : (hashL s o n).toArray[72]? = some (.int .u64 (n : Int)) := by
  rw [List.getElem?_toArray]
  unfold hashL
  rw [List.getElem?_append_right (by simp [words8]), List.getElem?_append_right (by simp [words8, cellsL_length, h])]
  simp [words8, cellsL_length, h]
theorem hashL_setCount (s : Sha.St) (o : List UInt8) (n m : Nat) (h : o.length = 64) : (hashL s o n).toArray.setIfInBounds 72 (.int .u64 (m : Int)) = (hashL s o m).toArray := by
  rw [List.setIfInBounds_toArray]
  unfold hashL
  rw [List.set_append_right _ _ (by simp [words8]), List.set_append_right _ _ (by simp [words8, cellsL_length, h])]
  simp [words8, cellsL_length, h]
theorem hashL_open (s : Sha.St) (o : List UInt8) (n j : Nat) (hj : j < o.length) : (hashL s o n).toArray[8 + j]? = some (.int .u8 ((o.getD j 0).toNat : Int)) := by
  rw [List.getElem?_toArray]
  unfold hashL
  rw [List.getElem?_append_right (by simp [words8]), List.getElem?_append_left (by simp [words8, cellsL_length, hj])]
  simp [words8, cellsL, hj]
theorem hashL_set8 (s t : Sha.St) (o : List UInt8) (n : Nat) :
    ((((((((hashL s o n).toArray.setIfInBounds 0 (.int .u32 t.a)).setIfInBounds 1 (.int .u32 t.b)).setIfInBounds 2 (.int .u32 t.c)).setIfInBounds 3 (.int .u32 t.d)).setIfInBounds 4 (.int .u32 t.e)).setIfInBounds 5 (.int .u32 t.f)).setIfInBounds 6 (.int .u32 t.g)).setIfInBounds 7 (.int .u32 t.h) = (hashL t o n).toArray := by
  simp [hashL, words8]
/-- Bytes laid over the open block. -/
theorem hashL_copy (s : Sha.St) (o x : List UInt8) (n m : Nat) (ho : o.length = 64) (hm : m + x.length ≤ 64) :
    (hashL s o n).take (8 + m) ++ cellsL x ++ (hashL s o n).drop (8 + m + x.length) = hashL s (o.take m ++ x ++ o.drop (m + x.length)) n := by
  have h8 : (words8 s).length = 8 := rfl
  have hc : (cellsL o).length = 64 := by rw [cellsL_length, ho]
  unfold hashL
  rw [List.take_append, List.drop_append, h8, List.take_of_length_le (by omega), List.drop_eq_nil_of_le (by omega), show 8 + m - 8 = m by omega, show 8 + m + x.length - 8 = m + x.length by omega,
    List.take_append_of_le_length (by omega), List.drop_append_of_le_length (by omega)]
  simp [cellsL]

theorem Only.setRow {g : Nat} {a w : World} (h : Only g a w) (cs : Array Value) : Only g a (w.setRow g cs) :=
  ⟨h.os, h.tape, h.output, by have := h.size; simpa using this, fun i hi hg => (setRow_other w g i cs hg).trans (h.block i hi hg)⟩
theorem Tab.only {w w' : World} {g : Nat} (h : Tab w) (ho : Only g w w') (hg : 0 < g) : Tab w' := fun i hi => ho.cell (h i hi) (by dsimp only; omega)

/-- The hash in block g has the text t. -/
def HashIs (w : World) (g : Nat) (t : List UInt8) : Prop :=
  ∃ o : List UInt8, o.length = 64 ∧ o.take (t.length % 64) = Sha.restP t ∧ w.heap[g]? = some (.cells (hashL (Sha.wordsP t) o t.length).toArray 148 (0, 0))
theorem HashIs.lt {w : World} {g : Nat} {t : List UInt8} (h : HashIs w g t) : g < w.heap.size := by
  obtain ⟨_, _, _, hg⟩ := h
  exact lt_of_heap hg
theorem HashIs.below {w w' : World} {g : Nat} {t : List UInt8} (h : HashIs w g t) (hb : Below w.heap.size w w') : HashIs w' g t := by
  have hlt := h.lt
  obtain ⟨o, h1, h2, hg⟩ := h
  exact ⟨o, h1, h2, (hb.block g hlt).trans hg⟩
theorem HashIs.only {w w' : World} {g g' : Nat} {t : List UInt8} (h : HashIs w g t) (hb : Only g' w w') (hn : g ≠ g') : HashIs w' g t := by
  have hlt := h.lt
  obtain ⟨o, h1, h2, hg⟩ := h
  exact ⟨o, h1, h2, (hb.block g hlt hn).trans hg⟩

/-- copy(dst, s), s a string, dst in row g from place o on: as many bytes as there are, or as fit. -/
theorem run_copy_part {P : Program} (w : World) (dT sT ty elem : TypeId) (g o dLen dCap n : Nat) (l : List UInt8) (cur : Array Value) (t : TypeId)
    (hu : P.underlying dT = some (.slice elem)) (hs : (P.info? elem).map (·.size) = some 1) (hg : w.heap[g]? = some (.cells cur t (0, 0))) (hn : n = Nat.min l.length dLen) (hfit : o + n ≤ cur.size) :
    (Builtin.copy_ #[dT, sT] ty #[.slice (some ⟨g, o, none⟩) dLen dCap, .string ⟨l.toArray⟩]).run P w =
      .ok (goInt n) (w.setRow g (cur.toList.take o ++ cellsL (l.take n) ++ cur.toList.drop (o + n)).toArray) := by
  have hnl : n ≤ l.length := by rw [hn]; exact Nat.min_le_left _ _
  have hlen : (cellsL (l.take n)).length = n := by rw [cellsL_length, List.length_take]; omega
  have hst := run_storeCells_at P g o t (cellsL (l.take n)) 0 cur w hg (by rw [hlen]; simpa using hfit) (by
    intro v hv
    simp only [cellsL, List.mem_map] at hv
    obtain ⟨x, _, rfl⟩ := hv
    rfl)
  rw [hlen] at hst
  simp only [Nat.add_zero] at hst
  have htk : List.take n (List.map (fun b : UInt8 => Value.int IntKind.u8 (b.toNat : Int)) l) = cellsL (l.take n) := by simp [cellsL, List.map_take]
  have hsz : (⟨l.toArray⟩ : ByteArray).size = l.length := by simp [ByteArray.size]
  cases hq : P.info? elem with
  | none => simp [hq] at hs
  | some i =>
    simp [Builtin.copy_, run_underlying hu, Builtin.lenOf, Builtin.firstCells, sizeOf, typeInfo, hq, hsz, ← hn]
    rw [htk, hst]
    simp [Result.andThen]
theorem step_copy_part {P : Program} {ops : Array Oper} {o : Oper} {a : Act} {w : World} {K : Act → World → Prop} {Q : Exit → Act → World → Prop} {E : Prop} (hgd : o.guard = none) (d s : Operand) (dT sT : TypeId)
    (ho : o.op = .call { callee := .builtin .copy, args := #[d, s], argTypes := #[dT, sT] }) (elem : TypeId) (hu : P.underlying dT = some (.slice elem)) (hsz : (P.info? elem).map (·.size) = some 1)
    (g off dLen dCap n : Nat) (l : List UInt8) (hd : a.eval d = .slice (some ⟨g, off, none⟩) dLen dCap) (hs : a.eval s = .string ⟨l.toArray⟩)
    (cur : Array Value) (t : TypeId) (hg : w.heap[g]? = some (.cells cur t (0, 0))) (hn : n = Nat.min l.length dLen) (hfit : off + n ≤ cur.size)
    (h : ∀ w', Hid (w'.heap[g]? = some (.cells (cur.toList.take off ++ cellsL (l.take n) ++ cur.toList.drop (off + n)).toArray t (0, 0))) → Hid (Only g w w') → K (a.put o.dst (goInt n)) w') :
    if Region.wanted o (yielded ops a.tmps) = true then Oper.wp P o a w K Q else E := by
  have hw : Region.wanted o (yielded ops a.tmps) = true := by simp [Region.wanted, hgd]
  rw [if_pos hw]
  have hrun := run_copy_part (P := P) w dT sT o.type elem g off dLen dCap n l cur t hu hsz hg hn hfit
  unfold Oper.wp
  simp [execOp, ho, resolve, invoke, builtin, hd, hs, hrun, Result.andThen]
  exact h _ (Lib.hid (by rw [List.append_assoc]; exact setRow_heap w g _ _ t _ hg)) (Lib.hid ((Only.refl g w).setRow _))
end Go.Proofs.YtlckcfpdiigjiaaGreatDoor
namespace Go.Proofs.YtlckcfpdiigjiaaGreatDoor
open Go.RowKit

theorem Tryz.info8 : (Tryz.prog.info? 140).map (·.size) = some 8 := by kernel_rfl

set_option maxRecDepth 100000 in
set_option maxHeartbeats 1000000 in
theorem turn_any (s : Sha.St) (W : List Int) (w : World) (hW : W.length = 64) (hK : Tab w) :
    Calls Tryz.prog 128 #[.agg (u32s s.list), .agg (u32s W)] w fun e w' => e = .returned (.agg (u32s (Sha.turnP s W).list)) ∧ Below w.heap.size w w' := by
  obtain ⟨s0, hs0⟩ : ∃ s0, s = s0 := ⟨_, rfl⟩
  obtain ⟨a, b, c, d, e, f, g, h⟩ := s
  obtain ⟨ws, hws⟩ : ∃ ws, u32s W = ws := ⟨_, rfl⟩
  rw [hws, hs0]
  have HS := Lib.hid hs0
  have HWS := Lib.hid hws
  have HK := Lib.hid hK
  have HLW := Lib.hid hW
  rw [← hs0]
  simp only [Sha.St.list, u32s, List.map_cons, List.map_nil]
  clear hws hK hs0 hW
  go_enter Tryz.func128, Tryz.ntmps128
  go_wp2
  go_quiet (fail)
  go_wp2
  go_quiet (fail)
  go_wp2
  go_loopw [5, 6, 7, 8, 9, 10, 11, 12, 32] (fun xa xb xc xd xe xf xg xh i wr => ∃ k : Nat, k ≤ 64 ∧ i = .int .i64 k ∧ xa = .int .u32 (Sha.rounds s0 W k).a ∧ xb = .int .u32 (Sha.rounds s0 W k).b ∧ xc = .int .u32 (Sha.rounds s0 W k).c ∧ xd = .int .u32 (Sha.rounds s0 W k).d ∧ xe = .int .u32 (Sha.rounds s0 W k).e ∧ xf = .int .u32 (Sha.rounds s0 W k).f ∧ xg = .int .u32 (Sha.rounds s0 W k).g ∧ xh = .int .u32 (Sha.rounds s0 W k).h ∧
      Below w.heap.size w wr ∧ wr.heap[w.heap.size + 1]? = some (.cells ws 171 (0, 0)) ∧ wr.heap[w.heap.size + 1 + 1]? = some (.cells (u32s (List.replicate 8 0)) 140 (0, 0))) (fun _ _ _ _ _ _ _ _ i _ => 64 - (intOf i).toNat)
  case atStart =>
    refine ⟨0, by omega, rfl, by rw [← HS.out]; rfl, by rw [← HS.out]; rfl, by rw [← HS.out]; rfl, by rw [← HS.out]; rfl, by rw [← HS.out]; rfl, by rw [← HS.out]; rfl, by rw [← HS.out]; rfl, by rw [← HS.out]; rfl, ?_, ?_, ?_⟩
    · exact bel_drewN (bel_drewN ((((Below.refl _ w).alloc (Nat.le_refl _) _).alloc (by simp) _).alloc (by simp; omega) _) _) _
    · exact heap_old_at _ (heap_new_at _ _ _ (by simp))
    · exact heap_new_at _ _ _ (by simp)
  case round =>
    obtain ⟨k, hk, rfl, rfl, rfl, rfl, rfl, rfl, rfl, rfl, rfl, hb, hg1, hg2⟩ := hrel
    have HG1 := Lib.hid hg1
    have HG2 := Lib.hid hg2
    have HBe := Lib.hid hb
    have hsz : w.heap.size + 1 < wr.heap.size := lt_of_heap hg1
    by_cases hlt : k < 64
    · obtain ⟨S, hS⟩ : ∃ S, Sha.rounds s0 W k = S := ⟨_, rfl⟩
      have hnext : Sha.rounds s0 W (k + 1) = Sha.step S (Sha.kTab.getD k 0) (W.getD k 0) := by rw [← hS]; rfl
      have hcK : wr.cell? ⟨0, k, none⟩ = some (.int .u32 (Sha.kTab.getD k 0)) := (HK.out.below hb) k hlt
      have hcW : wr.cell? ⟨w.heap.size + 1, k, none⟩ = some (.int .u32 (W.getD k 0)) := by
        rw [cell_of_row wr _ k ws _ _ hg1, ← HWS.out]; exact u32s_at W k (by rw [HLW.out]; exact hlt)
      obtain ⟨kk, hkk⟩ : ∃ kk, Sha.kTab.getD k 0 = kk := ⟨_, rfl⟩
      obtain ⟨ww, hww⟩ : ∃ ww, W.getD k 0 = ww := ⟨_, rfl⟩
      rw [hkk, hww] at hnext
      rw [hkk] at hcK
      rw [hww] at hcW
      rw [hS]
      have HN := Lib.hid hnext
      clear hnext hkk hww hS hb hg1 hg2
      obtain ⟨a, b, c, d, e, f, g, h⟩ := S
      have h1 : (k : Int) < 64 := by omega
      dsimp only
      go_wp2
      go_quiet ((go_at_call 134; exact Calls.quiet_of_same (rot_any _ _ _ (by omega) (by omega))))
      go_wp2_with fail
      refine (rot_any a 2 _ (by omega) (by omega)).mono ?_
      rintro _ _ ⟨rfl, rfl⟩
      go_wp2_with fail
      refine (rot_any a 13 _ (by omega) (by omega)).mono ?_
      rintro _ _ ⟨rfl, rfl⟩
      go_wp2_with fail
      refine (rot_any a 22 _ (by omega) (by omega)).mono ?_
      rintro _ _ ⟨rfl, rfl⟩
      go_wp2
      go_roundw
      case rel =>
        refine ⟨k + 1, by omega, by go_num, ?_, ?_, ?_, ?_, ?_, ?_, ?_, ?_, bel_drewN HBe.out _, HG1.out, HG2.out⟩ <;> rw [HN.out] <;> simp only [Sha.step, Sha.uP, Sha.vP]
        all_goals rfl
      case measure => simp [intOf]; omega
    · obtain rfl : k = 64 := by omega
      have hno : ¬ ((64 : Nat) : Int) < 64 := by omega
      obtain ⟨S, hS⟩ : ∃ S, Sha.rounds s0 W 64 = S := ⟨_, rfl⟩
      have HS64 := Lib.hid hS
      rw [hS]
      clear hS hg1 hg2 hb
      obtain ⟨a, b, c, d, e, f, g, h⟩ := S
      dsimp only
      go_wp2_with (refine wpList_store_row (by rfl) _ _ _ (by rfl) (w.heap.size + 1 + 1) (u32s [a, b, c, d, e, f, g, h]) (by rfl) (by rfl) _ _ HG2.out Tryz.info8 (by rfl) (u32s_one _) ?_)
      refine bodyPost_ret (v := .agg (u32s [a, b, c, d, e, f, g, h])) (results_cell_row rfl _ _ (w.heap.size + 1 + 1) _ _ _ _ rfl (setRow_heap _ _ _ _ _ _ HG2.out) Tryz.underlying140 rfl Tryz.info8) rfl ⟨?_, below_setRow HBe.out (by omega) _⟩
      unfold Sha.turnP
      rw [HS.out, HS64.out]
      rfl
end Go.Proofs.YtlckcfpdiigjiaaGreatDoor
namespace Go.Proofs.YtlckcfpdiigjiaaGreatDoor
open Go.RowKit
attribute [local go_sem ↓] Go.wp_at_zero Go.wp_at_succ

theorem Tryz.info64 : (Tryz.prog.info? 171).map (·.size) = some 64 := by kernel_rfl
theorem Sha.fill_length (b : List UInt8) (k : Nat) : (Sha.fill b k).length = 64 := by
  induction k with
  | zero => simp [Sha.fill]
  | succ k ih => simp [Sha.fill, ih]

theorem Sha.ext_length (L : List Int) (k : Nat) : (Sha.ext L k).length = L.length := by
  induction k with
  | zero => rfl
  | succ k ih => simp [Sha.ext, ih]

set_option maxRecDepth 8000 in
set_option maxHeartbeats 4000000 in
theorem widen_any (b : List UInt8) (w : World) (hb : b.length = 64) :
    Calls Tryz.prog 129 #[.agg (u8s b)] w fun e w' => e = .returned (.agg (u32s (Sha.widenP b))) ∧ Below w.heap.size w w' := by
  obtain ⟨bs, hbs⟩ : ∃ bs, u8s b = bs := ⟨_, rfl⟩
  rw [hbs]
  have HBS := Lib.hid hbs
  have HLB := Lib.hid hb
  clear hbs hb
  go_enter Tryz.func129, Tryz.ntmps129
  go_wp2
  go_loopw [10] (fun i wr => ∃ k : Nat, k ≤ 16 ∧ i = .int .i64 k ∧
      Below w.heap.size w wr ∧ wr.heap[w.heap.size]? = some (.cells bs 142 (0, 0)) ∧ wr.heap[w.heap.size + 1]? = some (.cells (u32s (List.replicate 64 0)) 171 (0, 0)) ∧ wr.heap[w.heap.size + 1 + 1]? = some (.cells (u32s (Sha.fill b k)) 171 (0, 0))) (fun i _ => 16 - (intOf i).toNat)
  case atStart =>
    refine ⟨0, by omega, rfl, ?_, ?_, ?_, ?_⟩
    · exact (((Below.refl _ w).alloc (Nat.le_refl _) _).alloc (by simp) _).alloc (by simp; omega) _
    · exact heap_old_at _ (heap_old_at _ (heap_new_at _ _ _ (by simp)))
    · exact heap_old_at _ (heap_new_at _ _ _ (by simp))
    · exact heap_new_at _ _ _ (by simp)
  case round =>
    obtain ⟨k, hk, rfl, hbe, hg0, hg1, hg2⟩ := hrel
    have HBE := Lib.hid hbe
    have HG0 := Lib.hid hg0
    have HG1 := Lib.hid hg1
    have HG2 := Lib.hid hg2
    have hby : ∀ j, j < 64 → wr.cell? ⟨w.heap.size, j, none⟩ = some (.int .u8 ((b.getD j 0).toNat : Int)) := fun j hj => by
      rw [cell_of_row wr _ j bs _ _ hg0, ← HBS.out]; exact u8s_at b j (by rw [HLB.out]; exact hj)
    clear hbe hg0 hg1
    by_cases hlt : k < 16
    · have c0 := hby (4 * k) (by omega)
      have c1 := hby (4 * k + 1) (by omega)
      have c2 := hby (4 * k + 2) (by omega)
      have c3 := hby (4 * k + 3) (by omega)
      have cw := (cell_of_row wr _ k _ _ _ hg2).trans (u32s_at (Sha.fill b k) k (by rw [Sha.fill_length]; omega))
      have fw := frozen_of_row wr _ k _ _ hg2
      have e0 : (4 * (k : Int)).toNat = 4 * k := by omega
      have e1 : (4 * (k : Int) + 1).toNat = 4 * k + 1 := by omega
      have e2 : (4 * (k : Int) + 2).toNat = 4 * k + 2 := by omega
      have e3 : (4 * (k : Int) + 3).toNat = 4 * k + 3 := by omega
      obtain ⟨x0, h0⟩ : ∃ x, b.getD (4 * k) 0 = x := ⟨_, rfl⟩
      obtain ⟨x1, h1⟩ : ∃ x, b.getD (4 * k + 1) 0 = x := ⟨_, rfl⟩
      obtain ⟨x2, h2⟩ : ∃ x, b.getD (4 * k + 2) 0 = x := ⟨_, rfl⟩
      obtain ⟨x3, h3⟩ : ∃ x, b.getD (4 * k + 3) 0 = x := ⟨_, rfl⟩
      have hn : Sha.fill b (k + 1) = (Sha.fill b k).set k (Sha.word4 x0 x1 x2 x3) := by rw [← h0, ← h1, ← h2, ← h3]; rfl
      have HN := Lib.hid hn
      rw [h0] at c0
      rw [h1] at c1
      rw [h2] at c2
      rw [h3] at c3
      have b0 := byte_lt x0
      have b1 := byte_lt x1
      have b2 := byte_lt x2
      have b3 := byte_lt x3
      obtain ⟨old, ho⟩ : ∃ x, (Sha.fill b k).getD k 0 = x := ⟨_, rfl⟩
      rw [ho] at cw
      clear h0 h1 h2 h3 hn ho hby hg2
      have hki : (k : Int) < 16 := by omega
      have hk64 : (k : Int) < 64 := by omega
      have hk0 : 0 ≤ (k : Int) := by omega
      have l0 : 4 * (k : Int) < 64 := by omega
      have l1 : 4 * (k : Int) + 1 < 64 := by omega
      have l2 : 4 * (k : Int) + 2 < 64 := by omega
      have l3 : 4 * (k : Int) + 3 < 64 := by omega
      have p0 : 0 ≤ 4 * (k : Int) := by omega
      have p1 : 0 ≤ 4 * (k : Int) + 1 := by omega
      have p2 : 0 ≤ 4 * (k : Int) + 2 := by omega
      have p3 : 0 ≤ 4 * (k : Int) + 3 := by omega
      have q0 := wrap_small (4 * (k : Int)) (by omega) (by omega)
      have q1 := wrap_small (4 * (k : Int) + 1) (by omega) (by omega)
      have q2 := wrap_small (4 * (k : Int) + 2) (by omega) (by omega)
      have q3 := wrap_small (4 * (k : Int) + 3) (by omega) (by omega)
      go_wp2
      go_region_held3 (fun w' => w'.cell? ⟨w.heap.size, 4 * k, none⟩ = some (.int .u8 (x0.toNat : Int)) ∧ w'.cell? ⟨w.heap.size, 4 * k + 1, none⟩ = some (.int .u8 (x1.toNat : Int)) ∧ w'.cell? ⟨w.heap.size, 4 * k + 2, none⟩ = some (.int .u8 (x2.toNat : Int)) ∧ w'.cell? ⟨w.heap.size, 4 * k + 3, none⟩ = some (.int .u8 (x3.toNat : Int))) (first | (go_split_ands; refine ⟨?_, ?_, ?_, ?_⟩ <;> first | (refine keep_cell' (by assumption) ?_; dsimp only; omega) | (refine keep_cell (by assumption) ?_; dsimp only; omega)) | go_keep) (fail)
      go_wp2
      go_roundw
      case rel =>
        refine ⟨k + 1, by omega, by go_num, (HBE.out.setCell (by dsimp only; omega) _).drew, ?_, ?_, ?_⟩
        · exact (Below.heap_setCell _ _ _ _ (by dsimp only; omega)).trans HG0.out
        · exact (Below.heap_setCell _ _ _ _ (by dsimp only; omega)).trans HG1.out
        · rw [HN.out, ← u32s_set]
          refine (heap_setCell_same _ _ _ _ _ _ HG2.out).trans ?_
          rfl
      case measure => simp [intOf]; omega
    · obtain rfl : k = 16 := by omega
      have hno : ¬ ((16 : Nat) : Int) < 16 := by omega
      clear hlt hk hby hg2 HG0
      go_wp2
      obtain ⟨L, hL⟩ : ∃ L, Sha.fill b 16 = L := ⟨_, rfl⟩
      have hl : L.length = 64 := by rw [← hL, Sha.fill_length]
      have HL := Lib.hid hL
      have HLL := Lib.hid hl
      rw [hL] at HG2
      clear hL hl hno
      go_loopw [5] (fun i wr => ∃ n : Nat, 16 ≤ n ∧ n ≤ 64 ∧ i = .int .i64 n ∧
        Below w.heap.size w wr ∧ wr.heap[w.heap.size + 1]? = some (.cells (u32s (List.replicate 64 0)) 171 (0, 0)) ∧ wr.heap[w.heap.size + 1 + 1]? = some (.cells (u32s (Sha.ext L (n - 16))) 171 (0, 0))) (fun i _ => 64 - (intOf i).toNat)
      case atStart => exact ⟨16, by omega, by omega, rfl, HBE.out, HG1.out, HG2.out⟩
      case round =>
        clear HBE HG1 HG2
        obtain ⟨n, hn0, hn1, rfl, hbe, hg1, hg2⟩ := hrel
        have HBE := Lib.hid hbe
        have HG1 := Lib.hid hg1
        have HG2 := Lib.hid hg2
        obtain ⟨M, hM⟩ : ∃ M, Sha.ext L (n - 16) = M := ⟨_, rfl⟩
        have hML : M.length = 64 := by rw [← hM, Sha.ext_length]; exact HLL.out
        have HM := Lib.hid hM
        rw [hM] at hg2 HG2
        have hc : ∀ j, j < 64 → wr.cell? ⟨w.heap.size + 1 + 1, j, none⟩ = some (.int .u32 (M.getD j 0)) := fun j hj => (cell_of_row wr _ j _ _ _ hg2).trans (u32s_at M j (by omega))
        have hf : ∀ j, wr.frozen? ⟨w.heap.size + 1 + 1, j, none⟩ = false := fun j => frozen_of_row wr _ j _ _ hg2
        clear hbe hg1 hg2 hM
        by_cases hlt : n < 64
        · have c16 := hc (n - 16) (by omega)
          have c15 := hc (n - 15) (by omega)
          have c7 := hc (n - 7) (by omega)
          have c2 := hc (n - 2) (by omega)
          have cn := hc n hlt
          have fn := hf n
          have hmore : Sha.more M n = (M.getD (n - 16) 0 + Sha.sP (M.getD (n - 15) 0) + M.getD (n - 7) 0 + Sha.tP (M.getD (n - 2) 0)) % 4294967296 := rfl
          obtain ⟨a, ha⟩ : ∃ a, M.getD (n - 16) 0 = a := ⟨_, rfl⟩
          obtain ⟨x, hx⟩ : ∃ a, M.getD (n - 15) 0 = a := ⟨_, rfl⟩
          obtain ⟨c, hcc⟩ : ∃ a, M.getD (n - 7) 0 = a := ⟨_, rfl⟩
          obtain ⟨y, hy⟩ : ∃ a, M.getD (n - 2) 0 = a := ⟨_, rfl⟩
          obtain ⟨old, ho⟩ : ∃ a, M.getD n 0 = a := ⟨_, rfl⟩
          rw [ha] at c16 hmore
          rw [hx] at c15 hmore
          rw [hcc] at c7 hmore
          rw [hy] at c2 hmore
          rw [ho] at cn
          have HMO := Lib.hid hmore
          clear hmore ha hx hcc hy ho hc hf
          obtain ⟨j16, hj16⟩ : ∃ j, j + 16 = n := ⟨n - 16, by omega⟩
          rw [show n - 16 = j16 by omega] at c16
          have r16 : (n : Int) - 16 = (j16 : Int) := by omega
          have q16 := wrap_small (j16 : Int) (by omega) (by omega)
          have p16 : 0 ≤ (j16 : Int) := by omega
          have l16 : (j16 : Int) < 64 := by omega
          obtain ⟨j15, hj15⟩ : ∃ j, j + 15 = n := ⟨n - 15, by omega⟩
          rw [show n - 15 = j15 by omega] at c15
          have r15 : (n : Int) - 15 = (j15 : Int) := by omega
          have q15 := wrap_small (j15 : Int) (by omega) (by omega)
          have p15 : 0 ≤ (j15 : Int) := by omega
          have l15 : (j15 : Int) < 64 := by omega
          obtain ⟨j7, hj7⟩ : ∃ j, j + 7 = n := ⟨n - 7, by omega⟩
          rw [show n - 7 = j7 by omega] at c7
          have r7 : (n : Int) - 7 = (j7 : Int) := by omega
          have q7 := wrap_small (j7 : Int) (by omega) (by omega)
          have p7 : 0 ≤ (j7 : Int) := by omega
          have l7 : (j7 : Int) < 64 := by omega
          obtain ⟨j2, hj2⟩ : ∃ j, j + 2 = n := ⟨n - 2, by omega⟩
          rw [show n - 2 = j2 by omega] at c2
          have r2 : (n : Int) - 2 = (j2 : Int) := by omega
          have q2 := wrap_small (j2 : Int) (by omega) (by omega)
          have p2 : 0 ≤ (j2 : Int) := by omega
          have l2 : (j2 : Int) < 64 := by omega
          have hn64 : (n : Int) < 64 := by omega
          have p0 : 0 ≤ (n : Int) := by omega
          have d16 : j16 ≠ n := by omega
          have d7 : j7 ≠ n := by omega
          clear hj16 hj15 hj7 hj2
          go_wp2
          go_quiet (fail)
          go_wp2_with fail
          refine (rot_any x 7 _ (by omega) (by omega)).mono ?_
          rintro _ _ ⟨rfl, rfl⟩
          go_wp2_with fail
          refine (rot_any x 18 _ (by omega) (by omega)).mono ?_
          rintro _ _ ⟨rfl, rfl⟩
          go_wp2_with fail
          refine (rot_any y 17 _ (by omega) (by omega)).mono ?_
          rintro _ _ ⟨rfl, rfl⟩
          go_wp2_with fail
          refine (rot_any y 19 _ (by omega) (by omega)).mono ?_
          rintro _ _ ⟨rfl, rfl⟩
          go_wp2
          go_region_held3 (fun w' => w'.cell? ⟨w.heap.size + 1 + 1, j16, none⟩ = some (.int .u32 a) ∧ w'.cell? ⟨w.heap.size + 1 + 1, j7, none⟩ = some (.int .u32 c)) (first | (go_split_ands; refine ⟨keep_offN c16 (fun e => d16 (congrArg Addr.off e)), keep_offN c7 (fun e => d7 (congrArg Addr.off e))⟩) | go_keep) (fail)
          go_wp2
          go_roundw
          case rel =>
            refine ⟨n + 1, by omega, by omega, by go_num, (bel_drewN HBE.out _).setCell (show w.heap.size ≤ w.heap.size + 1 + 1 by omega) _, ?_, ?_⟩
            · exact (Below.heap_setCell _ _ _ _ (by dsimp only; omega)).trans HG1.out
            · rw [show n + 1 - 16 = (n - 16) + 1 by omega, Sha.ext, HM.out, show 16 + (n - 16) = n by omega, ← u32s_set, HMO.out]
              refine (heap_setCell_same _ _ _ _ _ _ HG2.out).trans ?_
              simp only [Int.emod_add_emod]
              rfl
          case measure => simp [intOf]; omega
        · obtain rfl : n = 64 := by omega
          have hno : ¬ ((64 : Nat) : Int) < 64 := by omega
          clear hlt hn0 hn1 hc hf
          have hsz : (u32s M).size = 64 := by rw [u32s_size, hML]
          have hi : (Tryz.prog.info? 171).map (·.size) = some (u32s M).size := by rw [hsz]; exact Tryz.info64
          have ho : (u32s (List.replicate 64 0)).size = (u32s M).size := by rw [hsz]; rfl
          have HI := Lib.hid hi
          have HO := Lib.hid ho
          have HR : Hid (u32s M = u32s (Sha.widenP b)) := Lib.hid (by rw [← HM.out]; unfold Sha.widenP; rw [HL.out])
          have HT := Lib.hid (u32s_one M)
          clear hsz hi ho hML
          obtain ⟨R, hR⟩ : ∃ R, u32s M = R := ⟨_, rfl⟩
          rw [hR] at HG2 HI HO HR HT
          clear hR
          go_wp2_with (first | (refine wpList_load_row (by rfl) _ _ (by rfl) (w.heap.size + 1 + 1) (by rfl) _ R _ _ HG2.out Tryz.underlying171 (by rfl) HI.out ?_) | (refine wpList_store_row (by rfl) _ _ _ (by rfl) (w.heap.size + 1) R (by rfl) (by rfl) _ _ HG1.out HI.out HO.out HT.out ?_))
          refine bodyPost_ret (v := .agg R) (results_cell_row rfl _ _ (w.heap.size + 1) _ _ _ _ rfl (setRow_heap _ _ _ _ _ _ HG1.out) Tryz.underlying171 rfl HI.out) rfl ⟨?_, below_setRow HBE.out (by omega) _⟩
          rw [HR.out]
end Go.Proofs.YtlckcfpdiigjiaaGreatDoor
namespace Go.Proofs.YtlckcfpdiigjiaaGreatDoor
open Go.RowKit
attribute [local go_sem ↓] Go.wp_at_zero Go.wp_at_succ

theorem Tryz.info64b : (Tryz.prog.info? 142).map (·.size) = some 64 := by kernel_rfl

/-- Eight stores of one cell each. -/
theorem set8 {w : World} {g : Nat} {t : TypeId} (a b c d e f g' h : Int) (hg : w.heap[g]? = some (.cells (u32s (List.replicate 8 0)) t (0, 0))) :
    ((((((((w.setCell ⟨g, 0, none⟩ (.int .u32 a)).setCell ⟨g, 1, none⟩ (.int .u32 b)).setCell ⟨g, 2, none⟩ (.int .u32 c)).setCell ⟨g, 3, none⟩ (.int .u32 d)).setCell ⟨g, 4, none⟩ (.int .u32 e)).setCell ⟨g, 5, none⟩ (.int .u32 f)).setCell ⟨g, 6, none⟩ (.int .u32 g')).setCell ⟨g, 7, none⟩ (.int .u32 h)).heap[g]? = some (.cells (u32s [a, b, c, d, e, f, g', h]) t (0, 0)) := by
  have := heap_setCell_same _ _ 7 _ _ (.int .u32 h) (heap_setCell_same _ _ 6 _ _ (.int .u32 g') (heap_setCell_same _ _ 5 _ _ (.int .u32 f) (heap_setCell_same _ _ 4 _ _ (.int .u32 e) (heap_setCell_same _ _ 3 _ _ (.int .u32 d) (heap_setCell_same _ _ 2 _ _ (.int .u32 c) (heap_setCell_same _ _ 1 _ _ (.int .u32 b) (heap_setCell_same _ _ 0 _ _ (.int .u32 a) hg)))))))
  simpa [u32s_set, List.replicate] using this

theorem zero8 {w : World} {p : Nat} {t : TypeId} (hg : w.heap[p]? = some (.cells (u32s (List.replicate 8 0)) t (0, 0))) : w.cell? ⟨p, 0, none⟩ = some (.int .u32 0) ∧ w.cell? ⟨p, 1, none⟩ = some (.int .u32 0) ∧ w.cell? ⟨p, 2, none⟩ = some (.int .u32 0) ∧ w.cell? ⟨p, 3, none⟩ = some (.int .u32 0) ∧ w.cell? ⟨p, 4, none⟩ = some (.int .u32 0) ∧ w.cell? ⟨p, 5, none⟩ = some (.int .u32 0) ∧ w.cell? ⟨p, 6, none⟩ = some (.int .u32 0) ∧ w.cell? ⟨p, 7, none⟩ = some (.int .u32 0) ∧ w.frozen? ⟨p, 0, none⟩ = false ∧ w.frozen? ⟨p, 1, none⟩ = false ∧ w.frozen? ⟨p, 2, none⟩ = false ∧ w.frozen? ⟨p, 3, none⟩ = false ∧ w.frozen? ⟨p, 4, none⟩ = false ∧ w.frozen? ⟨p, 5, none⟩ = false ∧ w.frozen? ⟨p, 6, none⟩ = false ∧ w.frozen? ⟨p, 7, none⟩ = false :=
  ⟨cell_of_row w p 0 _ t _ hg, cell_of_row w p 1 _ t _ hg, cell_of_row w p 2 _ t _ hg, cell_of_row w p 3 _ t _ hg, cell_of_row w p 4 _ t _ hg, cell_of_row w p 5 _ t _ hg, cell_of_row w p 6 _ t _ hg, cell_of_row w p 7 _ t _ hg, frozen_of_row w p 0 _ t hg, frozen_of_row w p 1 _ t hg, frozen_of_row w p 2 _ t hg, frozen_of_row w p 3 _ t hg, frozen_of_row w p 4 _ t hg, frozen_of_row w p 5 _ t hg, frozen_of_row w p 6 _ t hg, frozen_of_row w p 7 _ t hg⟩

set_option maxRecDepth 8000 in
set_option maxHeartbeats 400000 in
theorem block_any (s : Sha.St) (b : List UInt8) (w : World) (hb : b.length = 64) (hK : Tab w) :
    Calls Tryz.prog 118 #[.agg (u32s s.list), .agg (u8s b)] w fun e w' => e = .returned (.agg (u32s (Sha.blockP s b).list)) ∧ Below w.heap.size w w' := by
  have HK := Lib.hid hK
  have hu := Tryz.underlying142
  have hi : (Tryz.prog.info? 142).map (·.size) = some (cellsL b).length := by rw [cellsL_length, hb]; exact Tryz.info64b
  have hone : ∀ v ∈ cellsL b, v.oneCell' = true := by
    intro v hv
    simp only [cellsL, List.mem_map] at hv
    obtain ⟨x, _, rfl⟩ := hv
    rfl
  have hlen : (cellsL b).length = 64 := by rw [cellsL_length, hb]
  have hwid := fun w' => widen_any b w' hb
  obtain ⟨W, hW⟩ : ∃ W, Sha.widenP b = W := ⟨_, rfl⟩
  have hWL : W.length = 64 := by rw [← hW]; simp [Sha.widenP, Sha.ext_length, Sha.fill_length]
  obtain ⟨ws, hws⟩ : ∃ ws, u32s W = ws := ⟨_, rfl⟩
  have htur := fun w' => turn_any s W w' hWL
  obtain ⟨T, hT⟩ : ∃ T, Sha.turnP s W = T := ⟨_, rfl⟩
  obtain ⟨cs, hcs⟩ : ∃ cs, cellsL b = cs := ⟨_, rfl⟩
  unfold u8s at hwid ⊢
  rw [hW, hws, hcs] at hwid
  rw [hT, hws] at htur
  rw [hcs] at hi hone hlen ⊢
  have HT := Lib.hid hT
  have HW := Lib.hid hW
  obtain ⟨s0, hs0⟩ : ∃ s0, s = s0 := ⟨_, rfl⟩
  obtain ⟨a, b1, c, d, e, f, g, h⟩ := s
  obtain ⟨ta, tb, tc, td, te, tf, tg, th⟩ := T
  have HS := Lib.hid hs0
  simp only [Sha.St.list, u32s, List.map_cons, List.map_nil] at htur ⊢
  have HWI := Lib.hid hwid
  have HTU := Lib.hid htur
  clear hK hb hwid hcs hs0 hT hW hws hWL htur
  go_enter Tryz.func118, Tryz.ntmps118
  go_wp2
  obtain ⟨w3, hw3⟩ : ∃ w3, ((w.alloc (.cells #[.int .u32 a, .int .u32 b1, .int .u32 c, .int .u32 d, .int .u32 e, .int .u32 f, .int .u32 g, .int .u32 h] 140)).alloc (.cells cs.toArray 142)).alloc (.cells #[.int .u32 0, .int .u32 0, .int .u32 0, .int .u32 0, .int .u32 0, .int .u32 0, .int .u32 0, .int .u32 0] 140) = w3 := ⟨_, rfl⟩
  have hg0 : w3.heap[w.heap.size]? = some (.cells (u32s [a, b1, c, d, e, f, g, h]) 140 (0, 0)) := by
    rw [← hw3]; exact heap_old_at _ (heap_old_at _ (heap_new_at _ _ _ (by simp)))
  have hg1 : w3.heap[w.heap.size + 1]? = some (.cells cs.toArray 142 (0, 0)) := by
    rw [← hw3]; exact heap_old_at _ (heap_new_at _ _ _ (by simp))
  have hg2 : w3.heap[w.heap.size + 1 + 1]? = some (.cells (u32s (List.replicate 8 0)) 140 (0, 0)) := by
    rw [← hw3]; exact heap_new_at _ _ _ (by simp)
  have hs3 : w3.heap.size = w.heap.size + 3 := by rw [← hw3]; simp
  have hb3 : Below w.heap.size w w3 := by
    rw [← hw3]; exact (((Below.refl _ w).alloc (Nat.le_refl _) _).alloc (by simp) _).alloc (by simp; omega) _
  rw [hw3]
  have HG0 := Lib.hid hg0
  have HG1 := Lib.hid hg1
  have HG2 := Lib.hid hg2
  have HS3 := Lib.hid hs3
  have HB3 := Lib.hid hb3
  clear hg0 hg1 hg2 hs3 hb3 hw3
  go_cut [5] from 7 to 10 (fun v wx => ∃ p : Nat, v = .pointer (some ⟨p, 0, none⟩) ∧ w3.heap.size ≤ p ∧ wx.heap[p]? = some (.cells (u32s [ta, tb, tc, td, te, tf, tg, th]) 140 (0, 0)) ∧ Below w3.heap.size w3 wx)
  case first =>
    have hSS : ∀ w', Below w3.heap.size w3 w' → w'.cell? ⟨w.heap.size, 0, none⟩ = some (.int .u32 a) ∧ w'.cell? ⟨w.heap.size, 1, none⟩ = some (.int .u32 b1) ∧ w'.cell? ⟨w.heap.size, 2, none⟩ = some (.int .u32 c) ∧ w'.cell? ⟨w.heap.size, 3, none⟩ = some (.int .u32 d) ∧ w'.cell? ⟨w.heap.size, 4, none⟩ = some (.int .u32 e) ∧ w'.cell? ⟨w.heap.size, 5, none⟩ = some (.int .u32 f) ∧ w'.cell? ⟨w.heap.size, 6, none⟩ = some (.int .u32 g) ∧ w'.cell? ⟨w.heap.size, 7, none⟩ = some (.int .u32 h) ∧ Below w3.heap.size w3 w' ∧ w'.rangeAt (w.heap.size + 1) 0 cs := fun w' hw => by
      have hc : ∀ j, w'.cell? ⟨w.heap.size, j, none⟩ = (u32s [a, b1, c, d, e, f, g, h])[j]? := fun j => cell_of_row w' _ j _ _ _ ((hw.block _ (by have := HS3.out; omega)).trans HG0.out)
      exact ⟨hc 0, hc 1, hc 2, hc 3, hc 4, hc 5, hc 6, hc 7, hw, fun j v hv => by rw [cell_of_row w' _ _ _ _ _ ((hw.block _ (by have := HS3.out; omega)).trans HG1.out)]; simpa using hv⟩
    have HSS := Lib.hid hSS
    have HTAB : Hid (∀ X, Below w3.heap.size w3 X → Tab X) := Lib.hid (fun X hX => (HK.out.below HB3.out).below hX)
    have hne : w.heap.size < w3.heap.size := by have := HS3.out; omega
    have HDA : Hid (∀ o, Below w3.heap.size w3 (w3.drew.alloc o)) := Lib.hid (fun o => (Below.refl w3.heap.size w3).drew.alloc (Nat.le_refl _) o)
    have HDB : Hid (∀ o, Below w3.heap.size w3 (w3.alloc o).drew) := Lib.hid (fun o => ((Below.refl w3.heap.size w3).alloc (Nat.le_refl _) o).drew)
    clear hSS HT HW HS HK
    go_region_held3 (fun w' => w'.cell? ⟨w.heap.size, 0, none⟩ = some (.int .u32 a) ∧ w'.cell? ⟨w.heap.size, 1, none⟩ = some (.int .u32 b1) ∧ w'.cell? ⟨w.heap.size, 2, none⟩ = some (.int .u32 c) ∧ w'.cell? ⟨w.heap.size, 3, none⟩ = some (.int .u32 d) ∧ w'.cell? ⟨w.heap.size, 4, none⟩ = some (.int .u32 e) ∧ w'.cell? ⟨w.heap.size, 5, none⟩ = some (.int .u32 f) ∧ w'.cell? ⟨w.heap.size, 6, none⟩ = some (.int .u32 g) ∧ w'.cell? ⟨w.heap.size, 7, none⟩ = some (.int .u32 h) ∧ Below w3.heap.size w3 w' ∧ w'.rangeAt (w.heap.size + 1) 0 cs)
      ((refine HSS.out _ ?_; with_reducible (first | exact (Below.refl _ _).drew | exact hB2 | exact hB1 | exact hB2.alloc hB2.size _ | exact hB1.alloc hB1.size _ | exact HDA.out _ | exact HDB.out _ | exact ((((((((hB2.setCell hB1.size _).setCell hB1.size _).setCell hB1.size _).setCell hB1.size _).setCell hB1.size _).setCell hB1.size _).setCell hB1.size _).setCell hB1.size _) | exact ((((((((hB2.setCell (Nat.le_refl _) _).setCell (Nat.le_refl _) _).setCell (Nat.le_refl _) _).setCell (Nat.le_refl _) _).setCell (Nat.le_refl _) _).setCell (Nat.le_refl _) _).setCell (Nat.le_refl _) _).setCell (Nat.le_refl _) _) | fail)))
      (first | (go_at_call 129; refine (HWI.out _).mono ?_; rintro e w1 ⟨rfl, hb1⟩; first | ((have hB1 : Below w3.heap.size w3 w1 := Below.trans (Below.refl w3.heap.size w3).drew hb1)) | ((have hB1 : Below w3.heap.size w3 w1 := Below.trans ((Below.refl w3.heap.size w3).drew.alloc (Nat.le_refl _) _) (hb1.mono (by simp))); (have hz : w1.heap[w3.heap.size]? = some (.cells (u32s (List.replicate 8 0)) 140 (0, 0)) := (hb1.block w3.heap.size (by simp)).trans (heap_new_at _ _ _ rfl)))) | (go_at_call 128; first | (refine (HTU.out _ (HTAB.out _ hB1)).mono ?_; rintro e w2 ⟨rfl, hb2⟩; (have hB2 : Below w3.heap.size w3 w2 := Below.trans hB1 (hb2.mono hB1.size)); try ((have hy8 := zero8 ((hb2.block w3.heap.size (lt_of_heap hz)).trans hz)); obtain ⟨z0, z1, z2, z3, z4, z5, z6, z7, y0, y1, y2, y3, y4, y5, y6, y7⟩ := hy8)) | (refine (HTU.out _ (HTAB.out _ (hB1.alloc hB1.size _))).mono ?_; rintro e w2 ⟨rfl, hb2⟩; (have hB2 : Below w3.heap.size w3 w2 := Below.trans (hB1.alloc hB1.size _) (hb2.mono (by simp; exact Nat.le_succ_of_le hB1.size))); (have hq : w2.heap[w1.heap.size]? = some (.cells (u32s (List.replicate 8 0)) 140 (0, 0)) := (hb2.block w1.heap.size (by simp)).trans (heap_new_at _ _ _ rfl)); obtain ⟨z0, z1, z2, z3, z4, z5, z6, z7, y0, y1, y2, y3, y4, y5, y6, y7⟩ := zero8 hq)))
    all_goals go_wp2_with fail
    · go_meet
      case rel => exact ⟨w2.heap.size, rfl, hB2.size, heap_new_at _ _ _ rfl, hB2.alloc hB2.size _⟩
    · go_meet
      case rel => exact ⟨w1.heap.size, rfl, hB1.size, set8 _ _ _ _ _ _ _ _ hq, ((((((((hB2.setCell hB1.size _).setCell hB1.size _).setCell hB1.size _).setCell hB1.size _).setCell hB1.size _).setCell hB1.size _).setCell hB1.size _).setCell hB1.size _)⟩
    · go_meet
      case rel => exact ⟨w3.heap.size, rfl, Nat.le_refl _, set8 _ _ _ _ _ _ _ _ ((hb2.block w3.heap.size (lt_of_heap hz)).trans hz), ((((((((hB2.setCell (Nat.le_refl _) _).setCell (Nat.le_refl _) _).setCell (Nat.le_refl _) _).setCell (Nat.le_refl _) _).setCell (Nat.le_refl _) _).setCell (Nat.le_refl _) _).setCell (Nat.le_refl _) _).setCell (Nat.le_refl _) _)⟩
  case rest =>
    obtain ⟨p, rfl, hp, hgp, hbx⟩ := hcut
    have hB : Below w.heap.size w wc := HB3.out.trans (hbx.mono HB3.out.size)
    have hg0 : wc.heap[w.heap.size]? = some (.cells (u32s [a, b1, c, d, e, f, g, h]) 140 (0, 0)) := (hbx.block _ (by have := HS3.out; omega)).trans HG0.out
    have hg2 : wc.heap[w.heap.size + 1 + 1]? = some (.cells (u32s (List.replicate 8 0)) 140 (0, 0)) := (hbx.block _ (by have := HS3.out; omega)).trans HG2.out
    have hpp : w.heap.size + 3 ≤ p := by have := HS3.out; omega
    have HGP := Lib.hid hgp
    have HBB := Lib.hid hB
    have HGG := Lib.hid hg0
    have HG22 := Lib.hid hg2
    clear hgp hB hg0 hg2 hbx hp HG0 HG1 HG2 HS3 HB3 hone hlen hi hu HWI HTU
    obtain ⟨H, hH⟩ : ∃ H, [a, b1, c, d, e, f, g, h] = H := ⟨_, rfl⟩
    obtain ⟨R, hR⟩ : ∃ R, [ta, tb, tc, td, te, tf, tg, th] = R := ⟨_, rfl⟩
    have hHl : H.length = 8 := by rw [← hH]; rfl
    have hRl : R.length = 8 := by rw [← hR]; rfl
    have hfin : Sha.addTo H R 8 = (Sha.blockP s0 b).list := by
      rw [← hH, ← hR]
      unfold Sha.blockP
      rw [HW.out, ← HS.out, HT.out]
      rfl
    rw [hH] at HGG
    rw [hR] at HGP
    have HHl := Lib.hid hHl
    have HRl := Lib.hid hRl
    have HFIN := Lib.hid hfin
    have HE : Hid (Sha.blockP ⟨a, b1, c, d, e, f, g, h⟩ b = Sha.blockP s0 b) := Lib.hid (by rw [HS.out])
    clear hH hR hHl hRl hfin HT HW HS HK
    go_wp2
    go_loopw [11] (fun i wr => ∃ k : Nat, k ≤ 8 ∧ i = .int .i64 k ∧ Below w.heap.size w wr ∧ wr.heap[w.heap.size]? = some (.cells (u32s (Sha.addTo H R k)) 140 (0, 0)) ∧ wr.heap[p]? = some (.cells (u32s R) 140 (0, 0)) ∧ wr.heap[w.heap.size + 1 + 1]? = some (.cells (u32s (List.replicate 8 0)) 140 (0, 0))) (fun i _ => 8 - (intOf i).toNat)
    case atStart => exact ⟨0, by omega, rfl, HBB.out, HGG.out, HGP.out, HG22.out⟩
    case round =>
      clear HBB HGG HGP HG22
      obtain ⟨k, hk, rfl, hb, hg0, hgp, hg2⟩ := hrel
      obtain ⟨L, hL⟩ : ∃ L, Sha.addTo H R k = L := ⟨_, rfl⟩
      have hLl : L.length = 8 := by rw [← hL, Sha.addTo_length]; exact HHl.out
      rw [hL] at hg0
      have HL := Lib.hid hL
      have HBB := Lib.hid hb
      have HGG := Lib.hid hg0
      have HGP := Lib.hid hgp
      have HG22 := Lib.hid hg2
      by_cases hlt : k < 8
      · have c0 : wr.cell? ⟨w.heap.size, k, none⟩ = some (.int .u32 (L.getD k 0)) := (cell_of_row wr _ k _ _ _ hg0).trans (u32s_at L k (by omega))
        have f0 := frozen_of_row wr _ k _ _ hg0
        have c1 : wr.cell? ⟨p, k, none⟩ = some (.int .u32 (R.getD k 0)) := (cell_of_row wr _ k _ _ _ hgp).trans (u32s_at R k (by rw [HRl.out]; omega))
        have hn : Sha.addTo H R (k + 1) = L.set k ((L.getD k 0 + R.getD k 0) % 4294967296) := by rw [← hL]; rfl
        obtain ⟨x, hx⟩ : ∃ x, L.getD k 0 = x := ⟨_, rfl⟩
        obtain ⟨y, hy⟩ : ∃ y, R.getD k 0 = y := ⟨_, rfl⟩
        rw [hx] at c0 hn
        rw [hy] at c1 hn
        have HN := Lib.hid hn
        have hk8 : (k : Int) < 8 := by omega
        have hk0 : 0 ≤ (k : Int) := by omega
        clear hb hg0 hgp hg2 hL hn hx hy
        go_wp2
        go_region
        go_wp2
        go_roundw
        case rel =>
          refine ⟨k + 1, by omega, by go_num, (HBB.out.setCell (Nat.le_refl _) _).drew, ?_, ?_, ?_⟩
          · rw [HN.out, ← u32s_set]
            exact heap_setCell_same _ _ _ _ _ _ HGG.out
          · exact (Below.heap_setCell _ _ _ _ (by dsimp only; omega)).trans HGP.out
          · exact (Below.heap_setCell _ _ _ _ (by dsimp only; omega)).trans HG22.out
        case measure => simp [intOf]; omega
      · obtain rfl : k = 8 := by omega
        have hno : ¬ ((8 : Nat) : Int) < 8 := by omega
        have hsz : (u32s L).size = 8 := by rw [u32s_size, hLl]
        have hi : (Tryz.prog.info? 140).map (·.size) = some (u32s L).size := by rw [hsz]; exact Tryz.info8
        have ho : (u32s (List.replicate 8 0)).size = (u32s L).size := by rw [hsz]; rfl
        have HI := Lib.hid hi
        have HO := Lib.hid ho
        have HT := Lib.hid (u32s_one L)
        have HR : Hid (u32s L = u32s (Sha.blockP ⟨a, b1, c, d, e, f, g, h⟩ b).list) := Lib.hid (by rw [← HL.out, HFIN.out, HE.out])
        clear hlt hk hb hg0 hgp hg2 hL hLl hsz hi ho
        obtain ⟨A, hA⟩ : ∃ A, u32s L = A := ⟨_, rfl⟩
        rw [hA] at HGG HI HO HT HR
        clear hA
        go_wp2_with (first | (refine wpList_load_row (by rfl) _ _ (by rfl) w.heap.size (by rfl) _ A _ _ HGG.out Tryz.underlying140 (by rfl) HI.out ?_) | (refine wpList_store_row (by rfl) _ _ _ (by rfl) (w.heap.size + 1 + 1) A (by rfl) (by rfl) _ _ HG22.out HI.out HO.out HT.out ?_))
        refine bodyPost_ret (v := .agg A) (results_cell_row rfl _ _ (w.heap.size + 1 + 1) _ _ _ _ rfl (setRow_heap _ _ _ _ _ _ HG22.out) Tryz.underlying140 rfl HI.out) rfl ⟨?_, below_setRow HBB.out (by omega) _⟩
        rw [HR.out]
        rfl
end Go.Proofs.YtlckcfpdiigjiaaGreatDoor
namespace Go.Proofs.YtlckcfpdiigjiaaGreatDoor
open Go.RowKit
attribute [local go_sem ↓] Go.wp_at_zero Go.wp_at_succ

def load64 (v : Value) : Sem Value := Instr.loadAt 142 v
theorem wp_load64 {P : Program} {dst : Option Tmp} {x : Operand} {ty : TypeId} {pos : String} {after : Array Edge} {guard : Option (Nat × Bool)} {a : Act} {w : World} {K : Act → World → Prop} {Q : Exit → Act → World → Prop} :
    Oper.wp P { dst := dst, op := .load 142 x, type := ty, pos := pos, after := after, guard := guard } a w K Q = Oper.upon P { dst := dst, op := .load 142 x, type := ty, pos := pos, after := after, guard := guard } a K Q (((load64 (a.eval x)).run P w).andThen fun v w' => .ok (.value v) w') := by
  unfold Oper.wp execOp load64
  simp only [Sem.run_bind, Sem.run_pure]
attribute [local go_sem ↓] wp_load64
theorem run_load64 (w : World) (g : Nat) (S : Sha.St) (o : List UInt8) (n : Nat) (ho : o.length = 64) (hg : w.heap[g]? = some (.cells (hashL S o n).toArray 148 (0, 0))) :
    (load64 (.pointer (some ⟨g, 8, none⟩))).run Tryz.prog w = .ok (.agg (u8s o)) w := by
  have := run_loadAt_mid (P := Tryz.prog) w g 8 142 (cellsL o) _ (fun j v hv => by
    have hj : j < o.length := by
      rcases Nat.lt_or_ge j o.length with hq | hq
      · exact hq
      · rw [List.getElem?_eq_none (by rw [cellsL_length]; exact hq)] at hv; cases hv
    refine (cell_of_row w g (8 + j) _ _ _ hg).trans ((hashL_open _ _ _ j hj).trans ?_)
    rw [← hv]
    simp [cellsL, hj]) Tryz.underlying142 rfl (by rw [cellsL_length, ho]; exact Tryz.info64b)
  exact this

theorem words_there {w : World} {p : Nat} {t : TypeId} {s : Sha.St} {o : List UInt8} {n : Nat} (hg : w.heap[p]? = some (.cells (hashL s o n).toArray t (0, 0))) : w.cell? ⟨p, 0, none⟩ = some (.int .u32 s.a) ∧ w.cell? ⟨p, 1, none⟩ = some (.int .u32 s.b) ∧ w.cell? ⟨p, 2, none⟩ = some (.int .u32 s.c) ∧ w.cell? ⟨p, 3, none⟩ = some (.int .u32 s.d) ∧ w.cell? ⟨p, 4, none⟩ = some (.int .u32 s.e) ∧ w.cell? ⟨p, 5, none⟩ = some (.int .u32 s.f) ∧ w.cell? ⟨p, 6, none⟩ = some (.int .u32 s.g) ∧ w.cell? ⟨p, 7, none⟩ = some (.int .u32 s.h) ∧ w.frozen? ⟨p, 0, none⟩ = false ∧ w.frozen? ⟨p, 1, none⟩ = false ∧ w.frozen? ⟨p, 2, none⟩ = false ∧ w.frozen? ⟨p, 3, none⟩ = false ∧ w.frozen? ⟨p, 4, none⟩ = false ∧ w.frozen? ⟨p, 5, none⟩ = false ∧ w.frozen? ⟨p, 6, none⟩ = false ∧ w.frozen? ⟨p, 7, none⟩ = false :=
  ⟨cell_of_row w p 0 _ t _ hg, cell_of_row w p 1 _ t _ hg, cell_of_row w p 2 _ t _ hg, cell_of_row w p 3 _ t _ hg, cell_of_row w p 4 _ t _ hg, cell_of_row w p 5 _ t _ hg, cell_of_row w p 6 _ t _ hg, cell_of_row w p 7 _ t _ hg, frozen_of_row w p 0 _ t hg, frozen_of_row w p 1 _ t hg, frozen_of_row w p 2 _ t hg, frozen_of_row w p 3 _ t hg, frozen_of_row w p 4 _ t hg, frozen_of_row w p 5 _ t hg, frozen_of_row w p 6 _ t hg, frozen_of_row w p 7 _ t hg⟩
theorem hash_set8 {w : World} {g : Nat} {T : TypeId} {s : Sha.St} (t : Sha.St) {o : List UInt8} {n : Nat} (h : w.heap[g]? = some (.cells (hashL s o n).toArray T (0, 0))) : ((((((((w.setCell ⟨g, 0, none⟩ (.int .u32 t.a)).setCell ⟨g, 1, none⟩ (.int .u32 t.b)).setCell ⟨g, 2, none⟩ (.int .u32 t.c)).setCell ⟨g, 3, none⟩ (.int .u32 t.d)).setCell ⟨g, 4, none⟩ (.int .u32 t.e)).setCell ⟨g, 5, none⟩ (.int .u32 t.f)).setCell ⟨g, 6, none⟩ (.int .u32 t.g)).setCell ⟨g, 7, none⟩ (.int .u32 t.h)).heap[g]? = some (.cells (hashL t o n).toArray T (0, 0)) := by
  rw [← hashL_set8 s t o n]
  exact (heap_setCell_same _ _ 7 _ _ (.int .u32 t.h) (heap_setCell_same _ _ 6 _ _ (.int .u32 t.g) (heap_setCell_same _ _ 5 _ _ (.int .u32 t.f) (heap_setCell_same _ _ 4 _ _ (.int .u32 t.e) (heap_setCell_same _ _ 3 _ _ (.int .u32 t.d) (heap_setCell_same _ _ 2 _ _ (.int .u32 t.c) (heap_setCell_same _ _ 1 _ _ (.int .u32 t.b) (heap_setCell_same _ _ 0 _ _ (.int .u32 t.a) h))))))))
theorem only_set8 {a w : World} {g : Nat} (t : Sha.St) (h : Only g a w) : Only g a ((((((((w.setCell ⟨g, 0, none⟩ (.int .u32 t.a)).setCell ⟨g, 1, none⟩ (.int .u32 t.b)).setCell ⟨g, 2, none⟩ (.int .u32 t.c)).setCell ⟨g, 3, none⟩ (.int .u32 t.d)).setCell ⟨g, 4, none⟩ (.int .u32 t.e)).setCell ⟨g, 5, none⟩ (.int .u32 t.f)).setCell ⟨g, 6, none⟩ (.int .u32 t.g)).setCell ⟨g, 7, none⟩ (.int .u32 t.h)) :=
  ((((((((h.setCell rfl _).setCell rfl _).setCell rfl _).setCell rfl _).setCell rfl _).setCell rfl _).setCell rfl _).setCell rfl _)
def strLen : Value → Nat
  | .string b => b.size
  | _ => 0
theorem info_byte : (Tryz.prog.info? 5).map (·.size) = some 1 := by kernel_rfl

set_option maxRecDepth 8000 in
set_option maxHeartbeats 1000000 in
theorem write_any (t s : List UInt8) (g : Nat) (w : World) (hh : HashIs w g t) (hT : Tab w) (hg0 : 0 < g) (hl : t.length + s.length ≤ 1152921504606846975) :
    Calls Tryz.prog 109 #[.pointer (some ⟨g, 0, none⟩), .string ⟨s.toArray⟩] w fun e w' => e = .returned (.tuple #[]) ∧ HashIs w' g (t ++ s) ∧ Only g w w' := by
  have HH := Lib.hid hh
  have HT := Lib.hid hT
  clear hh hT
  go_enter Tryz.func109, Tryz.ntmps109
  go_wp2
  go_loopw [1] (fun v wr => ∃ k : Nat, k ≤ s.length ∧ v = .string ⟨(s.drop k).toArray⟩ ∧ HashIs wr g (t ++ s.take k) ∧ Only g w wr) (fun v _ => strLen v)
  case atStart => exact ⟨0, Nat.zero_le _, rfl, by simpa using HH.out, Only.refl _ _⟩
  case round =>
    obtain ⟨k, hk, rfl, hh, ho⟩ := hrel
    have HO := Lib.hid ho
    have HTr := Lib.hid (HT.out.only ho hg0)
    obtain ⟨x, hx⟩ : ∃ x, s.drop k = x := ⟨_, rfl⟩
    obtain ⟨t1, ht1⟩ : ∃ t1, t ++ s.take k = t1 := ⟨_, rfl⟩
    have HX := Lib.hid hx
    have HT1 := Lib.hid ht1
    have hxl : x.length = s.length - k := by rw [← hx, List.length_drop]
    have htl : t1.length = t.length + k := by rw [← ht1, List.length_append, List.length_take]; omega
    rw [ht1] at hh
    rw [hx]
    clear hx ht1 ho HT
    by_cases hx0 : x = []
    · subst hx0
      have HHF := Lib.hid hh
      clear hh
      go_wp2
      go_end0
      refine ⟨rfl, ?_, HO.out⟩
      have e : s.take k = s := List.take_of_length_le (List.drop_eq_nil_iff.1 HX.out)
      rw [← HT1.out, e] at HHF
      exact HHF.out
    · have hxe : x.isEmpty = false := by cases x <;> simp_all
      obtain ⟨o, hol, hoq, hgr⟩ := hh
      obtain ⟨c, hc⟩ : ∃ c, t1.length = c := ⟨_, rfl⟩
      obtain ⟨m, hm⟩ : ∃ m : Nat, t1.length % 64 = m := ⟨_, rfl⟩
      have hm64 : m < 64 := by omega
      obtain ⟨n, hn⟩ : ∃ n, n = Nat.min x.length (64 - m) := ⟨_, rfl⟩
      have hnx : n ≤ x.length := by rw [hn]; exact Nat.min_le_left _ _
      have hnm : n ≤ 64 - m := by rw [hn]; exact Nat.min_le_right _ _
      have hn1 : 1 ≤ n := by
        have : x.length ≠ 0 := fun h => hx0 (List.eq_nil_of_length_eq_zero h)
        rw [hn, Nat.le_min]; omega
      have hcm : (c : Int) % 64 = (m : Int) := by omega
      have hct : (c : Int).tmod 64 = (m : Int) := by rw [Int.tmod_eq_emod_of_nonneg (by omega)]; exact hcm
      rw [hm] at hoq
      rw [hc] at hgr
      have hcopy := hashL_copy (Sha.wordsP t1) o (x.take n) c m hol (by rw [List.length_take]; omega)
      rw [show (x.take n).length = n by rw [List.length_take]; omega] at hcopy
      obtain ⟨o1, ho1⟩ : ∃ o1, o.take m ++ x.take n ++ o.drop (m + n) = o1 := ⟨_, rfl⟩
      rw [ho1] at hcopy
      have ho1l : o1.length = 64 := by rw [← ho1]; simp; omega
      have ho1t : o1.take (m + n) = Sha.restP t1 ++ x.take n := by
        rw [← ho1, ← hoq, List.take_append_of_le_length (by simp; omega), List.take_of_length_le (by simp; omega)]
      have HGR := Lib.hid hgr
      have HOL := Lib.hid ho1l
      have HOT := Lib.hid ho1t
      have HCO := Lib.hid hcopy
      have HNN := Lib.hid hn
      have HC := Lib.hid hc
      have HM := Lib.hid hm
      have hfit : 8 + m + n ≤ (hashL (Sha.wordsP t1) o c).toArray.size := by rw [List.size_toArray, hashL_length _ _ _ hol]; omega
      have HFI := Lib.hid hfit
      have c72 : wr.cell? ⟨g, 72, none⟩ = some (.int .u64 (c : Int)) := (cell_of_row wr g 72 _ _ _ hgr).trans (hashL_count _ _ _ hol)
      have hmI : (m : Int) ≤ 64 := by omega
      have hm0 : (0 : Int) ≤ (m : Int) := by omega
      have hmne : ¬ (64 = m) := by omega
      have hcn : (c : Int) + (n : Int) ≤ 1152921504606846975 := by omega
      have hnxI : (n : Int) ≤ (x.length : Int) := by omega
      have hex := ext_drop x n
      obtain ⟨S, hS⟩ : ∃ S, Sha.wordsP t1 = S := ⟨_, rfl⟩
      rw [hS] at HGR HCO HFI
      have HS := Lib.hid hS
      have HST : Hid (x.drop n = s.drop (k + n)) := Lib.hid (by rw [← HX.out, List.drop_drop])
      have HTX : Hid (t1 ++ x.take n = t ++ s.take (k + n)) := Lib.hid (by rw [← HX.out, ← HT1.out, List.append_assoc, List.take_add])
      have hxs : n + k ≤ s.length := by omega
      have HXL := Lib.hid hxl
      have HTL := Lib.hid htl
      clear hxl htl hgr ho1l ho1t hcopy hn hc hm hfit hoq hol ho1 hS hx0
      go_wp2
      go_region_law ((refine step_copy_part (by rfl) _ _ 110 9 (by rfl) 5 Tryz.underlying110 info_byte g (8 + m) (64 - m) (64 - m) n x (by rfl) (by rfl) (hashL S o c).toArray 148 HGR.out HNN.out HFI.out ?_; intro w4 hg4 ho4))
      have h4 : w4.heap[g]? = some (.cells ((hashL S o c).take (8 + m) ++ cellsL (x.take n) ++ (hashL S o c).drop (8 + m + n)).toArray 148 (0, 0)) := hg4.out
      rw [HCO.out] at h4
      have HG4 := Lib.hid h4
      have HO4 : Hid (Only g w w4) := Lib.hid (HO.out.trans ho4.out.of_drew)
      have HT4 : Hid (Tab w4) := Lib.hid (HTr.out.only ho4.out.of_drew hg0)
      have d72 : w4.cell? ⟨g, 72, none⟩ = some (.int .u64 (c : Int)) := (cell_of_row w4 g 72 _ _ _ h4).trans (hashL_count _ _ _ HOL.out)
      have f72 : w4.frozen? ⟨g, 72, none⟩ = false := frozen_of_row w4 g 72 _ _ h4
      clear hg4 ho4 h4 c72 HGR HCO HFI HTr HO hct hcm
      by_cases hfull : m + n = 64
      · have hr : ((c : Int) + (n : Int)).tmod 64 = 0 := by
          have h1 := HC.out; have h2 := HM.out
          rw [Int.tmod_eq_emod_of_nonneg (by omega)]; omega
        have hr' : ((c : Int) + (n : Int)) % 64 = 0 := by
          have h1 := HC.out; have h2 := HM.out
          omega
        go_wp2
        obtain ⟨w5, hw5⟩ : ∃ w5, w4.setCell ⟨g, 72, none⟩ (.int .u64 ((c : Int) + (n : Int))) = w5 := ⟨_, rfl⟩
        have h5 : w5.heap[g]? = some (.cells (hashL S o1 (c + n)).toArray 148 (0, 0)) := by
          rw [← hw5, ← hashL_setCount S o1 c (c + n) HOL.out]
          exact heap_setCell_same _ _ _ _ _ _ HG4.out
        have HO5 : Hid (Only g w w5) := Lib.hid (by rw [← hw5]; exact HO4.out.setCell rfl _)
        have HT5 : Hid (Tab w5) := Lib.hid (by rw [← hw5]; exact HT4.out.only ((Only.refl g w4).setCell rfl _) hg0)
        have HG5 := Lib.hid h5
        rw [hw5]
        obtain ⟨a, b, c1, d, e, f, g1, h⟩ := S
        have k0 : w5.cell? ⟨g, 0, none⟩ = some (.int .u32 a) := cell_of_row w5 g 0 _ _ _ h5
        have k1 : w5.cell? ⟨g, 1, none⟩ = some (.int .u32 b) := cell_of_row w5 g 1 _ _ _ h5
        have k2 : w5.cell? ⟨g, 2, none⟩ = some (.int .u32 c1) := cell_of_row w5 g 2 _ _ _ h5
        have k3 : w5.cell? ⟨g, 3, none⟩ = some (.int .u32 d) := cell_of_row w5 g 3 _ _ _ h5
        have k4 : w5.cell? ⟨g, 4, none⟩ = some (.int .u32 e) := cell_of_row w5 g 4 _ _ _ h5
        have k5 : w5.cell? ⟨g, 5, none⟩ = some (.int .u32 f) := cell_of_row w5 g 5 _ _ _ h5
        have k6 : w5.cell? ⟨g, 6, none⟩ = some (.int .u32 g1) := cell_of_row w5 g 6 _ _ _ h5
        have k7 : w5.cell? ⟨g, 7, none⟩ = some (.int .u32 h) := cell_of_row w5 g 7 _ _ _ h5
        have kl : (load64 (.pointer (some ⟨g, 8, none⟩))).run Tryz.prog w5.drew = .ok (.agg (u8s o1)) w5.drew := run_load64 w5.drew g _ o1 _ HOL.out h5
        have hbl := fun W (hW : Tab W) => block_any ⟨a, b, c1, d, e, f, g1, h⟩ o1 W HOL.out hW
        obtain ⟨T, hT⟩ : ∃ T, Sha.blockP ⟨a, b, c1, d, e, f, g1, h⟩ o1 = T := ⟨_, rfl⟩
        rw [hT] at hbl
        have HTT := Lib.hid hT
        have HTD : Hid (Tab w5.drew) := Lib.hid HT5.out
        obtain ⟨ta, tb, tc, td, te, tf, tg, th⟩ := T
        simp only [Sha.St.list, u32s, List.map_cons, List.map_nil] at hbl
        have HBL := Lib.hid hbl
        have HG5 := Lib.hid h5
        clear hw5 h5 d72 f72 HG4 HO4 HT4 hr hr' hbl hT
        go_region_with ((go_at_call 118; refine (HBL.out _ HTD.out).mono ?_; rintro e w6 ⟨rfl, hb6⟩; obtain ⟨z0, z1, z2, z3, z4, z5, z6, z7, y0, y1, y2, y3, y4, y5, y6, y7⟩ := words_there ((hb6.block g (lt_of_heap HG5.out)).trans HG5.out)))
        all_goals go_wp2
        all_goals go_roundw
        case rel =>
          refine ⟨k + n, by omega, by rw [HST.out], ?_, only_set8 ⟨ta, tb, tc, td, te, tf, tg, th⟩ (HO5.out.trans (Only.of hb6).of_drew)⟩
          have hm := HM.out
          have hxn : (x.take n).length = n := by rw [List.length_take]; omega
          obtain ⟨hw, hr⟩ := Sha.words_next t1 (x.take n) (by omega)
          have ho1 : o1 = Sha.restP t1 ++ x.take n := by rw [← HOT.out, hfull, List.take_of_length_le (by rw [HOL.out]; omega)]
          have hlen : (t1 ++ x.take n).length = c + n := by rw [List.length_append, hxn, HC.out]
          rw [← HTX.out]
          refine ⟨o1, HOL.out, ?_, ?_⟩
          · rw [hr, show (t1 ++ x.take n).length % 64 = 0 by rw [List.length_append]; omega, List.take_zero]
          · rw [hlen, hw, ← ho1, HS.out, HTT.out]
            exact hash_set8 ⟨ta, tb, tc, td, te, tf, tg, th⟩ ((hb6.block g (lt_of_heap HG5.out)).trans HG5.out)
        case measure =>
          simp [strLen, ByteArray.size]; omega
        case rel =>
          refine ⟨k + n, by omega, by rw [HST.out], ?_, only_set8 ⟨ta, tb, tc, td, te, tf, tg, th⟩ (HO5.out.trans (Only.of hb6).of_drew)⟩
          have hm := HM.out
          have hxn : (x.take n).length = n := by rw [List.length_take]; omega
          obtain ⟨hw, hr⟩ := Sha.words_next t1 (x.take n) (by omega)
          have ho1 : o1 = Sha.restP t1 ++ x.take n := by rw [← HOT.out, hfull, List.take_of_length_le (by rw [HOL.out]; omega)]
          have hlen : (t1 ++ x.take n).length = c + n := by rw [List.length_append, hxn, HC.out]
          rw [← HTX.out]
          refine ⟨o1, HOL.out, ?_, ?_⟩
          · rw [hr, show (t1 ++ x.take n).length % 64 = 0 by rw [List.length_append]; omega, List.take_zero]
          · rw [hlen, hw, ← ho1, HS.out, HTT.out]
            exact hash_set8 ⟨ta, tb, tc, td, te, tf, tg, th⟩ ((hb6.block g (lt_of_heap HG5.out)).trans HG5.out)
        case measure =>
          simp [strLen, ByteArray.size]; omega
      · obtain ⟨r, hrr⟩ : ∃ r : Nat, r = m + n := ⟨_, rfl⟩
        have hr : ((c : Int) + (n : Int)).tmod 64 = (r : Int) := by
          have h1 := HC.out; have h2 := HM.out
          rw [Int.tmod_eq_emod_of_nonneg (by omega)]; omega
        have hr' : ((c : Int) + (n : Int)) % 64 = (r : Int) := by
          have h1 := HC.out; have h2 := HM.out
          omega
        have hr0 : ¬ ((r : Int) = 0) := by omega
        have hrb : ((r : Int) == 0) = false := by simpa using hr0
        go_wp2
        go_roundw
        case rel =>
          refine ⟨k + n, by omega, by rw [HST.out], ?_, HO4.out.setCell rfl _⟩
          have hm := HM.out
          have hxn : (x.take n).length = n := by rw [List.length_take]; omega
          obtain ⟨hw, hr⟩ := Sha.words_same t1 (x.take n) (by omega)
          have hlen : (t1 ++ x.take n).length = c + n := by rw [List.length_append, hxn, HC.out]
          rw [← HTX.out]
          refine ⟨o1, HOL.out, ?_, ?_⟩
          · rw [hr, show (t1 ++ x.take n).length % 64 = m + n by rw [List.length_append]; omega, HOT.out]
          · rw [hlen, hw, HS.out, ← hashL_setCount S o1 c (c + n) HOL.out]
            exact heap_setCell_same _ _ _ _ _ _ HG4.out
        case measure =>
          simp [strLen, ByteArray.size]; omega
end Go.Proofs.YtlckcfpdiigjiaaGreatDoor
