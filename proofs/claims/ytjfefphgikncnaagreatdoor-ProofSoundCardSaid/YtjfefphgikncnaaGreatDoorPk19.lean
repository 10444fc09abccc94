/- TriRefTexts, TriSpot, TriRefLess, TriGrown -/
import Derived.Test.YtjfefphgikncnaaGreatDoorPk12
import Derived.Test.YtjfefphgikncnaaGreatDoorPk18
import Derived.Test.YtjfefphgikncnaaGreatDoorPk04
import Derived.Deep.AppendLies
import Derived.Test.YtjfefphgikncnaaGreatDoorPk11
import Derived.Test.YtjfefphgikncnaaGreatDoorPk17
import Derived.Great.BuildSlice
import Derived.Test.YtjfefphgikncnaaGreatDoorPk15
import Derived.Deep.RegionLaw
import Derived.Test.YtjfefphgikncnaaGreatDoorPk14
import Derived.Test.YtjfefphgikncnaaGreatDoorPk07
import Derived.Deep.RegionHeld3
namespace Go.Proofs.YtjfefphgikncnaaGreatDoor
open Go.RowKit
open Go.Proofs.YtjfefphgikncnaaGreatDoor.Nd (N)

/-- A node at its place, as it lies in memory; dg is the sum of a node. -/
def spcl (dg : N → List UInt8) (p : List UInt8 × N) : List Value := if p.2.kids.length = 16 then .string ⟨p.1.toArray⟩ :: .string ⟨(Nd.written p.2).toArray⟩ :: .string ⟨(dg p.2).toArray⟩ :: ncl p.2 else List.replicate 22 (.int .i64 0)
theorem spcl_length (dg : N → List UInt8) (p : List UInt8 × N) : (spcl dg p).length = 22 := by
  unfold spcl
  by_cases h : p.2.kids.length = 16
  · rw [if_pos h]; simp [ncl_length _ h]
  · rw [if_neg h]; rfl
theorem spcl_one (dg : N → List UInt8) (p : List UInt8 × N) : ∀ u ∈ spcl dg p, u.oneCell' = true := by
  intro u hu
  unfold spcl at hu
  by_cases h : p.2.kids.length = 16
  · rw [if_pos h] at hu
    simp only [List.mem_cons] at hu
    rcases hu with rfl | rfl | rfl | hu
    · rfl
    · rfl
    · rfl
    · unfold ncl at hu
      simp only [List.mem_cons] at hu
      rcases hu with rfl | rfl | rfl | hu
      · rfl
      · rfl
      · rfl
      · unfold scells at hu
        obtain ⟨x, _, rfl⟩ := List.mem_map.1 hu
        rfl
  · rw [if_neg h] at hu
    rw [(List.mem_replicate.1 hu).2]; rfl
set_option maxRecDepth 100000 in
theorem Tryz.infoStrT : (Tryz.prog.info? 9).map (fun i => (i.zero, i.size, i.bytes)) = some (some (.string ⟨#[]⟩), 1, 16) := by kernel_rfl
/-- A slice that has these nodes, each at its place. -/
def SpAt (dg : N → List UInt8) (w : World) (v : Value) (L : List (List UInt8 × N)) : Prop := RowsAt 138 22 (spcl dg) w v L
theorem SpAt.at {dg : N → List UInt8} {w : World} {A : Option Addr} {n cap : Nat} {S : List (List UInt8 × N)} (h : SpAt dg w (.slice A n cap) S) (k : Nat) (hk : k < S.length) (h16 : S[k].2.kids.length = 16) :
    ∃ b o, A = some ⟨b, o, none⟩ ∧ w.cell? ⟨b, o + k * 22, none⟩ = some (.string ⟨(S[k].1).toArray⟩) ∧ w.cell? ⟨b, o + k * 22 + 1, none⟩ = some (.string ⟨(Nd.written S[k].2).toArray⟩) ∧ w.cell? ⟨b, o + k * 22 + 2, none⟩ = some (.string ⟨(dg S[k].2).toArray⟩) := by
  obtain ⟨b, o, rfl, h1⟩ := RowsAt.at h k hk
  exact ⟨b, o, rfl, h1 0 _ (by rw [spcl, if_pos h16]; rfl), h1 1 _ (by rw [spcl, if_pos h16]; rfl), h1 2 _ (by rw [spcl, if_pos h16]; rfl)⟩
theorem own_step {w wr w2 : World} {u v' : Value} {O : List (List UInt8)} {y : List UInt8} {o : Obj} (hb : Below w.heap.size w wr) (hs : Own wr w.heap.size u O) (hg : (wr.alloc o).grownBy w2 u.ownBlock)
    (ho : w2.ownsRow w.heap.size 9 1 v' (O.length + 1) (scells O ++ scells [y])) : Own w2 w.heap.size v' (O ++ [y]) ∧ Below w.heap.size w w2 := by
  refine ⟨by unfold Own; rw [scells_append, List.length_append]; exact ho, ?_⟩
  exact (hb.alloc hb.size o).trans ((Out.grown hg (F := fun j => u.ownBlock = some j) (fun j e => e)).below (fun j hj => (hs.lt j hj).1) (hb.alloc hb.size o).size)
def Tri.textsOf (L : List (List UInt8 × N)) : List (List UInt8) := L.map fun p => Nd.written p.2
end Go.Proofs.YtjfefphgikncnaaGreatDoor
namespace Go.Proofs.YtjfefphgikncnaaGreatDoor
open Go.RowKit
open Sto (T)
open Go.Proofs.YtjfefphgikncnaaGreatDoor.Nd (N)

def spLoad (v : Value) : Sem Value := Instr.loadAt 136 v
theorem spLoadAt (v : Value) : Instr.loadAt 136 v = spLoad v := rfl
def spBuild (p : Array (Nat × Value)) : Sem Value := Instr.build 138 p
theorem spBuildAt (p : Array (Nat × Value)) : Instr.build 138 p = spBuild p := rfl
def spSlice (p : Array (Nat × Value)) : Sem Value := Instr.buildSlice 108 1 p
theorem spSliceAt (p : Array (Nat × Value)) : Instr.buildSlice 108 1 p = spSlice p := rfl
def spApp (t : TypeId) (p : Array Value) : Sem Value := Builtin.append_ #[108, 108] t p
theorem spAppAt (t : TypeId) (p : Array Value) : Builtin.append_ #[108, 108] t p = spApp t p := rfl
attribute [local go_sem ↓] spLoadAt spBuildAt spSliceAt spAppAt
theorem run_spLoad {w : World} {g : Nat} {A : Array Value} (hg : w.heap[g]? = some (.cells A 136 (0, 0))) (hi : (Tryz.prog.info? 136).map (·.size) = some A.size) : (spLoad (.pointer (some ⟨g, 0, none⟩))).run Tryz.prog w = .ok (.agg A) w := by
  unfold spLoad
  simp only [Instr.loadAt, Instr.sureAddr, Sem.run_bind, Sem.run_pure, Result.andThen_ok, run_loadVar_row w g 136 136 A (0, 0) _ hg Tryz.underlying136 (by rfl) hi]
set_option maxRecDepth 100000 in
theorem Tryz.infoSpot : (Tryz.prog.info? 138).map (fun i => (i.zero, i.size, i.bytes)) = some (some (.agg (#[.string ⟨#[]⟩, .string ⟨#[]⟩, .string ⟨#[]⟩, .int .i64 0] ++ Array.replicate 18 (.string ⟨#[]⟩))), 22, 344) := by kernel_rfl
/-- A row of the call's own that has these nodes, each at its place. -/
def OwnSp (w : World) (B : Nat) (z : Value) (L : List (T × N)) : Prop := w.ownsRow B 138 22 z L.length (rowsL (spcl Nd.sumS) L)
theorem OwnSp.nil (w : World) (B : Nat) : OwnSp w B (.slice none 0 0) [] := ⟨rfl, Or.inl ⟨rfl, rfl⟩⟩
theorem OwnSp.below {w w' : World} {B : Nat} {s : Value} {L : List (T × N)} (h : OwnSp w B s L) (hb : Below w.heap.size w w') : OwnSp w' B s L :=
  row_out (G := fun _ => False) h (Out.of hb) (fun _ _ _ _ hf => hf.elim)
theorem OwnSp.at_ {w : World} {B : Nat} {s : Value} {L : List (T × N)} (h : OwnSp w B s L) : SpAt Nd.sumS w s L := RowsAt.own (spcl_length _) h
theorem own_lowP {w : World} {B C : Nat} {s : Value} {L : List (T × N)} (h : OwnSp w B s L) (hB : C ≤ B) : OwnSp w C s L := by
  obtain ⟨h1, h2⟩ := h
  refine ⟨h1, h2.imp id ?_⟩
  rintro ⟨g, cap, cur, e, hg, r⟩
  exact ⟨g, cap, cur, e, Nat.le_trans hB hg, r⟩
theorem append_spots {w : World} {v s : Value} {S O : List (T × N)} {B : Nat} (hv : SpAt Nd.sumS w v S) (hs : OwnSp w B s O) (hl : O.length + S.length ≤ 1000000) (hB : B ≤ w.heap.size) :
    ∃ v' w', (spApp 108 #[s, v]).run Tryz.prog w = .ok v' w' ∧ OwnSp w' B v' (O ++ S) ∧ Below B w w' := by
  obtain ⟨i0, hi, hz0, hz1, hz2⟩ := info_parts Tryz.infoSpot
  obtain ⟨v', w', h1, h2, h3, _⟩ := append_rows 108 138 i0 _ 344 Tryz.underlying108 Tryz.sizeOf138 hi hz0 hz1 hz2 rfl (by decide) (by decide) (spcl_length _) (spcl_one _) hv hs hl hB
  refine ⟨v', w', h1, by unfold OwnSp; rw [rowsL_append, List.length_append]; exact h2, (Out.grown h3 (F := fun j => s.ownBlock = some j) (fun j e => e)).below (fun j hj => (World.ownsRow.lt hs j hj).1) hB⟩
set_option maxRecDepth 100000 in
theorem build_spot (place : T) (n : N) (hn : n.kids.length = 16) (w : World) : (Instr.build 138 #[(0, .string ⟨place.toArray⟩), (1, .string ⟨(Nd.written n).toArray⟩), (2, .string ⟨(Nd.sumS n).toArray⟩), (3, .agg (ncl n).toArray)]).run Tryz.prog w = .ok (.agg (spcl Nd.sumS (place, n)).toArray) w := by
  rw [spcl, if_pos hn]
  obtain ⟨a, ha⟩ : ∃ a, Nd.written n = a := ⟨_, rfl⟩
  obtain ⟨b, hb⟩ : ∃ b, Nd.sumS n = b := ⟨_, rfl⟩
  dsimp only
  rw [ha, hb]
  clear ha hb
  obtain ⟨kind, path, val, kids⟩ := n
  match kids, hn with
  | [k0, k1, k2, k3, k4, k5, k6, k7, k8, k9, k10, k11, k12, k13, k14, k15], _ => exact run_build w _ _ _ (by kernel_rfl)
set_option maxRecDepth 100000 in
theorem slice_spot (place : T) (n : N) (hn : n.kids.length = 16) (w : World) : (Instr.buildSlice 108 1 #[(0, .agg (spcl Nd.sumS (place, n)).toArray)]).run Tryz.prog w = .ok (.slice (some ⟨w.heap.size, 0, none⟩) 1 1) (w.alloc (.cells (spcl Nd.sumS (place, n)).toArray 138)) := by
  obtain ⟨i0, hi, hz0, hz1, hz2⟩ := info_parts Tryz.infoSpot
  rw [spcl, if_pos hn]
  obtain ⟨a, ha⟩ : ∃ a, Nd.written n = a := ⟨_, rfl⟩
  obtain ⟨b, hb⟩ : ∃ b, Nd.sumS n = b := ⟨_, rfl⟩
  dsimp only
  rw [ha, hb]
  clear ha hb hz2
  obtain ⟨kind, path, val, kids⟩ := n
  match kids, hn with
  | [k0, k1, k2, k3, k4, k5, k6, k7, k8, k9, k10, k11, k12, k13, k14, k15], _ => exact run_buildSlice w _ _ 1 _ _ i0 _ Tryz.underlying108 hi hz0 (by rw [hz1]; decide) (by rw [hz1]; decide) (by rw [hz1]; kernel_rfl)
theorem own_spot (w : World) (x : T × N) : OwnSp (w.alloc (.cells (spcl Nd.sumS x).toArray 138)) w.heap.size (.slice (some ⟨w.heap.size, 0, none⟩) 1 1) [x] := by
  have hl := spcl_length Nd.sumS x
  refine ⟨by simp [rowsL, hl], Or.inr ⟨w.heap.size, 1, (spcl Nd.sumS x).toArray, rfl, Nat.le_refl _, heap_alloc_new w _, Nat.le_refl _, by unfold maxLen; omega, by simp [hl], by simp [rowsL, List.take_of_length_le (Nat.le_of_eq hl)]⟩⟩
/-- What holds in spot's region: M tells which of its operations have come up. -/
def SpI (place : T) (n : N) (C : Array Value) (bv : Value) (q : Nat) (w0 : World) (M : List Bool) (a : Act) (w : World) : Prop :=
  ∃ v7 v8 v9 v10 v11 v12 v13 v14 v15 v16 v17 : Value, a = ⟨#[.string ⟨place.toArray⟩, .agg C, bv, undef, .pointer (some ⟨q, 0, none⟩), undef, .slice none 0 0, v7, v8, v9, v10, v11, v12, v13, v14, v15, v16, v17, undef, undef, undef], []⟩ ∧
    Below w0.heap.size w0 w ∧
    (M[0]? = some true → v8 = .slice none 0 0) ∧ (M[1]? = some true → v9 = .string ⟨place.toArray⟩) ∧ (M[2]? = some true → v10 = .agg C) ∧ (M[3]? = some true → v11 = .string ⟨(Nd.written n).toArray⟩) ∧
    (M[4]? = some true → v12 = .agg C) ∧ (M[5]? = some true → v13 = .string ⟨(Nd.sumS n).toArray⟩) ∧ (M[6]? = some true → v14 = .agg C) ∧
    (M[7]? = some true → v15 = .agg (spcl Nd.sumS (place, n)).toArray) ∧ (M[8]? = some true → SpAt Nd.sumS w v16 [(place, n)]) ∧ (M[9]? = some true → OwnSp w w0.heap.size v17 [(place, n)]) ∧
    Hid (v7 = (if M[10]? = some true then v17 else .slice none 0 0)) ∧ (M[10]? = some true → M[0]? = some true ∧ M[9]? = some true)
set_option maxRecDepth 100000 in
set_option maxHeartbeats 2000000 in
theorem spot_any (place : T) (n : N) (bv : Value) (L : List (T × N)) (w : World) (hn : n.kids.length = 16) (hf : Nd.fine n = true) (hp : n.path.length ≤ 1000000) (hv : SpAt Nd.sumS w bv L) (hl : L.length ≤ 100000) :
    Calls Tryz.prog 116 #[.string ⟨place.toArray⟩, ndval n, bv] w fun e w' => ∃ s, e = .returned s ∧ OwnSp w' w.heap.size s ((place, n) :: L) ∧ Below w.heap.size w w' := by
  obtain ⟨C, hC, HB0, HCE, HI, -⟩ := nbox n w hn
  have HWR := Lib.hid (fun w' => rWritten_any n w' hn hf)
  have HDG := Lib.hid (fun w' => rndigest_any n w' hn hp)
  have HV := Lib.hid hv
  have HL := Lib.hid hl
  have HN := Lib.hid hn
  have HCC := Lib.hid hC
  unfold ndval at HWR HDG ⊢
  rw [hC] at HWR HDG ⊢
  clear hv hl hn hf hp hC
  go_enter Tryz.func116, Tryz.ntmps116
  go_upto_region 2 with fail
  obtain ⟨w0, hw0⟩ : ∃ w0, w.alloc (.cells C 136) = w0 := ⟨_, rfl⟩
  rw [hw0] at HB0 HCE ⊢
  obtain ⟨q, hq⟩ : ∃ q, w.heap.size = q := ⟨_, rfl⟩
  rw [hq] at HCE ⊢
  have HRL : Hid (∀ w', Below w0.heap.size w0 w' → (spLoad (.pointer (some ⟨q, 0, none⟩))).run Tryz.prog w' = .ok (.agg C) w') := Lib.hid (fun w' hb => run_spLoad (HCE.out w' hb).2.2.2.2.2 HI.out)
  have HBS : Hid (∀ w', (spBuild #[(0, .string ⟨place.toArray⟩), (1, .string ⟨(Nd.written n).toArray⟩), (2, .string ⟨(Nd.sumS n).toArray⟩), (3, .agg C)]).run Tryz.prog w' = .ok (.agg (spcl Nd.sumS (place, n)).toArray) w') := Lib.hid (fun w' => by rw [← HCC.out]; exact build_spot place n HN.out w')
  have HSL : Hid (∀ w' : World, (spSlice #[(0, .agg (spcl Nd.sumS (place, n)).toArray)]).run Tryz.prog w' = .ok (.slice (some ⟨w'.heap.size, 0, none⟩) 1 1) (w'.alloc (.cells (spcl Nd.sumS (place, n)).toArray 138))) := Lib.hid (fun w' => slice_spot place n HN.out w')
  have HSN : Hid (∀ w' : World, SpAt Nd.sumS (w'.alloc (.cells (spcl Nd.sumS (place, n)).toArray 138)) (.slice (some ⟨w'.heap.size, 0, none⟩) 1 1) [(place, n)]) := Lib.hid (fun w' => (own_spot w' (place, n)).at_)
  clear hw0
  refine region_inv (SpI place n C bv q w0) (by rfl) ?_ ?_ ?_
  · refine ⟨_, _, _, _, _, _, _, _, _, _, _, rfl, (Below.refl _ _).drew, ?_, ?_, ?_, ?_, ?_, ?_, ?_, ?_, ?_, ?_, ?_, ?_⟩ <;> first | exact Lib.hid rfl | (intro h; simp at h)
  · intro M a w1 hL hI i o ho hi K hK
    obtain ⟨v7, v8, v9, v10, v11, v12, v13, v14, v15, v16, v17, rfl, hB, h0, h1, h2, h3, h4, h5, h6, h7, h8, h9, h7v, h10⟩ := hI
    obtain ⟨b0, b1, b2, b3, b4, b5, b6, b7, b8, b9, b10, rfl⟩ : ∃ b0 b1 b2 b3 b4 b5 b6 b7 b8 b9 b10, M = [b0, b1, b2, b3, b4, b5, b6, b7, b8, b9, b10] := by
      match M, hL with
      | [b0, b1, b2, b3, b4, b5, b6, b7, b8, b9, b10], _ => exact ⟨b0, b1, b2, b3, b4, b5, b6, b7, b8, b9, b10, rfl⟩
    have hi2 := (List.mem_filter.1 hi).2
    clear hi hL
    rcases i with _ | _ | _ | _ | _ | _ | _ | _ | _ | _ | _ | i
    · obtain rfl := Option.some.inj ho
      simp [Region.binds] at hi2
      have hb10 : b10 = false := by
        cases b10 with
        | false => rfl
        | true => have := h10 rfl; simp [hi2] at this
      subst hb10
      have h7w : v7 = .slice none 0 0 := h7v.out
      subst h7w
      clear ho hi2
      rw [if_pos (by rfl)]
      go_simp
      exact hK _ _ ⟨_, _, _, _, _, _, _, _, _, _, _, rfl, hB, fun _ => rfl, h1, h2, h3, h4, h5, h6, h7, h8, h9, Lib.hid rfl, fun hx => by simp at hx⟩
    · obtain rfl := Option.some.inj ho
      clear ho hi2
      rw [if_pos (by rfl)]
      go_simp
      exact hK _ _ ⟨_, _, _, _, _, _, _, _, _, _, _, rfl, hB, h0, fun _ => rfl, h2, h3, h4, h5, h6, h7, h8, h9, h7v, h10⟩
    · obtain rfl := Option.some.inj ho
      clear ho hi2
      have r1 := HRL.out _ hB
      rw [if_pos (by rfl)]
      go_simp
      exact hK _ _ ⟨_, _, _, _, _, _, _, _, _, _, _, rfl, hB, h0, h1, fun _ => rfl, h3, h4, h5, h6, h7, h8, h9, h7v, h10⟩
    · obtain rfl := Option.some.inj ho
      simp [Region.binds] at hi2
      obtain rfl := h2 (by simp [hi2])
      clear ho hi2
      rw [if_pos (by rfl)]
      go_simp
      refine (HWR.out _).mono ?_
      rintro r w2 ⟨rfl, hb2⟩
      exact hK _ _ ⟨_, _, _, _, _, _, _, _, _, _, _, rfl, bchain hB hb2, h0, h1, h2, fun _ => rfl, h4, h5, h6, h7, fun hx => RowsAt.below (h8 hx) hb2, fun hx => (h9 hx).below hb2, h7v, h10⟩
    · obtain rfl := Option.some.inj ho
      clear ho hi2
      have r1 := HRL.out _ hB
      rw [if_pos (by rfl)]
      go_simp
      exact hK _ _ ⟨_, _, _, _, _, _, _, _, _, _, _, rfl, hB, h0, h1, h2, h3, fun _ => rfl, h5, h6, h7, h8, h9, h7v, h10⟩
    · obtain rfl := Option.some.inj ho
      simp [Region.binds] at hi2
      obtain rfl := h4 (by simp [hi2])
      clear ho hi2
      rw [if_pos (by rfl)]
      go_simp
      refine (HDG.out _).mono ?_
      rintro r w2 ⟨rfl, hb2⟩
      exact hK _ _ ⟨_, _, _, _, _, _, _, _, _, _, _, rfl, bchain hB hb2, h0, h1, h2, h3, h4, fun _ => rfl, h6, h7, fun hx => RowsAt.below (h8 hx) hb2, fun hx => (h9 hx).below hb2, h7v, h10⟩
    · obtain rfl := Option.some.inj ho
      clear ho hi2
      have r1 := HRL.out _ hB
      rw [if_pos (by rfl)]
      go_simp
      exact hK _ _ ⟨_, _, _, _, _, _, _, _, _, _, _, rfl, hB, h0, h1, h2, h3, h4, h5, fun _ => rfl, h7, h8, h9, h7v, h10⟩
    · obtain rfl := Option.some.inj ho
      simp [Region.binds] at hi2
      obtain rfl := h1 (by simp [hi2])
      obtain rfl := h3 (by simp [hi2])
      obtain rfl := h5 (by simp [hi2])
      obtain rfl := h6 (by simp [hi2])
      clear ho hi2
      have r1 := HBS.out w1
      rw [if_pos (by rfl)]
      go_simp
      exact hK _ _ ⟨_, _, _, _, _, _, _, _, _, _, _, rfl, hB, h0, fun _ => rfl, h2, fun _ => rfl, h4, fun _ => rfl, fun _ => rfl, fun _ => rfl, h8, h9, h7v, h10⟩
    · obtain rfl := Option.some.inj ho
      simp [Region.binds] at hi2
      obtain rfl := h7 (by simp [hi2])
      clear ho hi2
      have r1 := HSL.out w1
      have hA : Below w1.heap.size w1 (w1.alloc (.cells (spcl Nd.sumS (place, n)).toArray 138)) := (Below.refl _ w1).alloc (Nat.le_refl _) _
      rw [if_pos (by rfl)]
      go_simp
      exact hK _ _ ⟨_, _, _, _, _, _, _, _, _, _, _, rfl, bchain hB hA, h0, h1, h2, h3, h4, h5, h6, fun _ => rfl, fun _ => HSN.out w1, fun hx => (h9 hx).below hA, h7v, h10⟩
    · obtain rfl := Option.some.inj ho
      simp [Region.binds] at hi2
      obtain rfl := h0 (by simp [hi2])
      obtain ⟨v', w3, r1, o3, hb3⟩ := append_spots (h8 (by simp [hi2])) (OwnSp.nil w1 w1.heap.size) (by simp) (Nat.le_refl _)
      have hb10 : b10 = false := by
        cases b10 with
        | false => rfl
        | true => have := h10 rfl; simp [hi2] at this
      subst hb10
      have h7w := h7v.out
      simp at h7w
      subst h7w
      have HO3 := Lib.hid (own_lowP o3 hB.size)
      have HB3 := Lib.hid hb3
      clear ho hi2 o3 hb3 h7v
      rw [if_pos (by rfl)]
      go_simp
      exact hK _ _ ⟨.slice none 0 0, _, _, _, _, _, _, _, _, _, _, rfl, bchain hB HB3.out, fun _ => rfl, h1, h2, h3, h4, h5, h6, h7, fun hx => RowsAt.below (h8 hx) HB3.out, fun _ => HO3.out, Lib.hid (by simp), fun hx => by simp at hx⟩
    · obtain rfl := Option.some.inj ho
      simp [Region.binds] at hi2
      have HI2 := Lib.hid hi2
      clear ho hi2
      rw [if_pos (by rfl)]
      go_simp
      exact hK _ _ ⟨_, _, _, _, _, _, _, _, _, _, _, rfl, hB, h0, h1, h2, h3, h4, h5, h6, h7, h8, h9, Lib.hid rfl, fun _ => by have := HI2.out; simp [this]⟩
    · simp at ho
  · intro M a w1 hL hr hI
    obtain ⟨v7, v8, v9, v10, v11, v12, v13, v14, v15, v16, v17, rfl, hB, h0, h1, h2, h3, h4, h5, h6, h7, h8, h9, h7v, h10⟩ := hI
    obtain ⟨b0, b1, b2, b3, b4, b5, b6, b7, b8, b9, b10, rfl⟩ : ∃ b0 b1 b2 b3 b4 b5 b6 b7 b8 b9 b10, M = [b0, b1, b2, b3, b4, b5, b6, b7, b8, b9, b10] := by
      match M, hL with
      | [b0, b1, b2, b3, b4, b5, b6, b7, b8, b9, b10], _ => exact ⟨b0, b1, b2, b3, b4, b5, b6, b7, b8, b9, b10, rfl⟩
    have hr2 := List.filter_eq_nil_iff.1 hr
    clear hr hL
    have k0 := hr2 0 (by simp)
    have k1 := hr2 1 (by simp)
    have k2 := hr2 2 (by simp)
    have k3 := hr2 3 (by simp)
    have k4 := hr2 4 (by simp)
    have k5 := hr2 5 (by simp)
    have k6 := hr2 6 (by simp)
    have k7 := hr2 7 (by simp)
    have k8 := hr2 8 (by simp)
    have k9 := hr2 9 (by simp)
    have k10 := hr2 10 (by simp)
    clear hr2
    simp [Region.binds] at k0
    subst k0
    simp [Region.binds] at k1
    subst k1
    simp [Region.binds] at k2
    subst k2
    simp [Region.binds] at k4
    subst k4
    simp [Region.binds] at k6
    subst k6
    simp [Region.binds] at k3
    subst k3
    simp [Region.binds] at k5
    subst k5
    simp [Region.binds] at k7
    subst k7
    simp [Region.binds] at k8
    subst k8
    simp [Region.binds] at k9
    subst k9
    simp [Region.binds] at k10
    subst k10
    have h7w : v7 = v17 := h7v.out
    subst h7w
    have HOS := Lib.hid (h9 rfl)
    have HBW := Lib.hid hB
    clear h0 h1 h2 h3 h4 h5 h6 h7 h8 h9 h7v h10 hB
    obtain ⟨s2, w3, r2, o3, hb3⟩ := append_spots (RowsAt.below HV.out (bchain HB0.out HBW.out)) HOS.out (by have := HL.out; simp; omega) HBW.out.size
    have HO3 := Lib.hid (own_lowP o3 HB0.out.size)
    have HB3 := Lib.hid (bchain HB0.out (HBW.out.trans hb3))
    clear o3 hb3
    have HQ := Lib.hid hq
    clear hq
    go_wp2
    go_ret
    exact ⟨_, rfl, HO3.out, HB3.out⟩
end Go.Proofs.YtjfefphgikncnaaGreatDoor
namespace Go.Proofs.YtjfefphgikncnaaGreatDoor
open Go.RowKit
open Go.Proofs.YtjfefphgikncnaaGreatDoor.Sto (St)

def Tri.lessL (c : Nat) (S : St) : St := S.map fun x => (x.1.drop c, x.2)
theorem Tri.lessL_len (c : Nat) (S : St) : (Tri.lessL c S).length = S.length := by simp [Tri.lessL]
theorem Tri.lessL_take (c : Nat) (S : St) (k : Nat) (h : k < S.length) : Tri.lessL c (S.take (k + 1)) = Tri.lessL c (S.take k) ++ [(S[k].1.drop c, S[k].2)] := by
  rw [List.take_succ_eq_append_getElem h, Tri.lessL, List.map_append]; rfl
theorem cut_tail (x : List UInt8) (c : Nat) : (⟨x.toArray⟩ : ByteArray).extract c x.length = ⟨(x.drop c).toArray⟩ := by
  rw [Lib.extract_eq, List.take_of_length_le (by simp)]
/-- A row of items as the round's append leaves it. -/
theorem it_step {w wr w2 : World} {u v' : Value} {T : St} {one : List UInt8 × List UInt8} {o : Obj} (hb : Below w.heap.size w wr) (hs : wr.ownsRow w.heap.size 39 2 u T.length (rowsL itcl T)) (hg : ((wr.alloc o).drew).grownBy w2 u.ownBlock)
    (ho : w2.ownsRow w.heap.size 39 2 v' (T.length + 1) (rowsL itcl T ++ rowsL itcl [one])) :
    w2.ownsRow w.heap.size 39 2 v' (T ++ [one]).length (rowsL itcl (T ++ [one])) ∧ Below w.heap.size w w2 := by
  refine ⟨by rw [rowsL_append, List.length_append]; exact ho, ?_⟩
  exact ((hb.alloc hb.size o).drew).trans ((Out.grown hg (F := fun j => u.ownBlock = some j) (fun j e => e)).below (fun j hj => (World.ownsRow.lt hs j hj).1) ((hb.alloc hb.size o).drew).size)
set_option maxRecDepth 8000 in
set_option maxHeartbeats 2000000 in
theorem rtLess_any (S : St) (v : Value) (c : Nat) (w : World) (hv : ItAt w v S) (hl : S.length ≤ 10000) (hc : ∀ p ∈ S, c ≤ p.1.length) (hc2 : c ≤ 1000000) (hs : ∀ p ∈ S, p.1.length ≤ 1000000) :
    Calls Tryz.prog 118 #[v, .int .i64 c] w fun e w' => ∃ v', e = .returned v' ∧ w'.ownsRow w.heap.size 39 2 v' S.length (rowsL itcl (Tri.lessL c S)) ∧ Below w.heap.size w w' := by
  have HV := Lib.hid hv
  have HC := Lib.hid hc
  have HS := Lib.hid hs
  have HL := Lib.hid hl
  have HB0 := Lib.hid (Below.refl w.heap.size w)
  have HN0 := Lib.hid (World.ownsRow_nil w w.heap.size 39 2)
  obtain ⟨i0, hi, hz0, hz1, hz2⟩ := info_parts Tryz.infoItem
  obtain ⟨A, cap, rfl, -, -⟩ := hv.form
  clear hv hs hc
  go_enter Tryz.func118, Tryz.ntmps118
  go_wp2
  go_loopw [5, 6] (fun av iv wr => ∃ (k : Nat) (u : Value), u = av ∧ k ≤ S.length ∧ iv = .int .i64 k ∧ wr.ownsRow w.heap.size 39 2 u (Tri.lessL c (S.take k)).length (rowsL itcl (Tri.lessL c (S.take k))) ∧ Below w.heap.size w wr) (fun _ i _ => S.length - (intOf i).toNat)
  case atStart => exact ⟨0, _, rfl, Nat.zero_le _, rfl, by simpa [Tri.lessL, rowsL] using HN0.out, HB0.out⟩
  case round =>
    obtain ⟨k, u, rfl, hk, rfl, hu, hb⟩ := hrel
    have HB := Lib.hid hb
    have HU := Lib.hid hu
    by_cases hlt : k < S.length
    · have h1 : (k : Int) < (S.length : Int) := by omega
      have h0 : (0 : Int) ≤ (k : Int) := by omega
      have hnb : (k : Int) ≤ 100000 := by omega
      have HVW := Lib.hid (RowsAt.below HV.out hb)
      obtain ⟨b, o, rfl, n0, n1⟩ := ItAt.at HVW.out k hlt
      have HTK := Lib.hid (Tri.lessL_take c S k hlt)
      have hcx := HC.out S[k] (List.getElem_mem hlt)
      have hsx := HS.out S[k] (List.getElem_mem hlt)
      obtain ⟨x, hx⟩ : ∃ x, S[k].1 = x := ⟨_, rfl⟩
      obtain ⟨y, hy⟩ : ∃ y, S[k].2 = y := ⟨_, rfl⟩
      rw [hx, hy] at HTK
      rw [hx] at n0 hcx hsx
      rw [hy] at n1
      obtain ⟨T, hT⟩ : ∃ T, Tri.lessL c (S.take k) = T := ⟨_, rfl⟩
      have hTl : T.length = k := by rw [← hT, Tri.lessL_len]; simp; omega
      rw [hT] at HTK HU
      have HTL : Hid (T.length ≤ 10000) := Lib.hid (by have := HL.out; omega)
      have hx0 : (0 : Int) ≤ (c : Int) := by omega
      have hx1 : (c : Int) ≤ (x.length : Int) := by omega
      have HCT := Lib.hid (cut_tail x c)
      have BD : Below wr.heap.size wr wr.drew := (Below.refl _ wr).drew
      have m0 : wr.drew.cell? ⟨b, o + k * 2, none⟩ = some (.string ⟨x.toArray⟩) := n0
      have m1 : wr.drew.cell? ⟨b, o + k * 2 + 1, none⟩ = some (.string ⟨y.toArray⟩) := n1
      clear hu hb hx hy hT hTl hcx hsx n0 n1 BD
      have HSZ := Lib.hid HB.out.size
      have HSTP := Lib.hid (fun w2 v' => it_step (w2 := w2) (v' := v') (one := (x.drop c, y)) (o := .cells #[.string ⟨(x.drop c).toArray⟩, .string ⟨y.toArray⟩] 39) HB.out HU.out)
      have he := HCT.out
      go_upto_region 5 with fail
      go_region_law ((refine step_append_lies _ rfl (.tmp 13) (.tmp 27) 31 rfl w.heap.size 39 i0 (.agg #[.string ⟨#[]⟩, .string ⟨#[]⟩]) 2 32 Tryz.underlying31 hi hz0 hz1 hz2 rfl (by decide) u T.length (rowsL itcl T) (by simp [Act.eval]) ((World.ownsRow.alloc HU.out _).drew) ⟨wr.heap.size, 0, none⟩ 1 1 (rowsL itcl [(x.drop c, y)]) (by simp [Act.eval]) rfl (World.news_of_block (heap_new_at _ _ _ (by simp))) (by simp [rowsL, itcl, Value.oneCell']) (by decide) (by have := HTL.out; unfold maxLen; omega) (by have := HTL.out; omega) (by have := HSZ.out; simp; omega) (wr.heap.size + 1) (by simp) ?_; intro g' cap' w5 hown5 hgrow5 hat5 hlt5); (have hS5 := HSTP.out w5 _ hgrow5 hown5))
      all_goals
        have HS5 := Lib.hid hS5
        clear hown5 hgrow5 hat5 hlt5 hS5
        go_wp2
        refine ⟨⟨k + 1, _, rfl, by omega, by go_num, by rw [HTK.out]; exact HS5.out.1, HS5.out.2⟩, by simp [intOf]; omega⟩
    · obtain rfl : k = S.length := by omega
      have h1 : ¬ ((S.length : Int) < (S.length : Int)) := by omega
      have HEND := Lib.hid hu
      clear hu hb
      go_wp2
      go_ret
      refine ⟨_, rfl, ?_, HB.out⟩
      have := HEND.out
      rwa [List.take_length, Tri.lessL_len] at this
end Go.Proofs.YtjfefphgikncnaaGreatDoor
namespace Go.Proofs.YtjfefphgikncnaaGreatDoor
open Go.RowKit
open Sto (T St)
open Tri (Tr Ok hb)
open Go.Proofs.YtjfefphgikncnaaGreatDoor.Nd (N)

/-- What grown answers of a tree's items. -/
def GrownPost (t : Tr) (place : T) (w : World) (e : Ending) (w' : World) : Prop := ∃ s, e = .returned s ∧ OwnSp w' w.heap.size s (t.spots Nd.sumS place) ∧ Below w.heap.size w w'
def GrownIs (t : Tr) : Prop := ∀ (place : T) (v : Value) (w : World), Ok t → ItAt w v t.items → t.items.length ≤ 2000 → (∀ x ∈ t.items, place.length + x.1.length ≤ 1000) → place.length ≤ 1001 →
  Calls Tryz.prog 88 #[v, .string ⟨place.toArray⟩] w (GrownPost t place w)

set_option maxRecDepth 100000 in
theorem grown_nil : GrownIs .nil := by
  intro place v w _ hv _ _ _
  unfold GrownPost
  obtain ⟨A, cap, rfl, -, -⟩ := hv.form
  simp only [Tr.items, List.length_nil]
  clear hv
  go_enter Tryz.func88, Tryz.ntmps88
  go_wp2
  go_ret
  exact ⟨_, rfl, OwnSp.nil _ _, Below.refl _ _⟩
set_option maxRecDepth 100000 in
set_option maxHeartbeats 2000000 in
theorem grown_leaf (p x : T) : GrownIs (.leaf p x) := by
  intro place v w ho hv _ _ _
  unfold GrownPost
  have hs : Tr.spots Nd.sumS place (.leaf p x) = [(place, ⟨1, p, x, List.replicate 16 []⟩)] := rfl
  rw [hs]
  have hf := ho.fine id
  have hp : p.length ≤ 16 := ho.small.1
  have HSP := Lib.hid (fun w' (_ : Below w.heap.size w w') => spot_any place ⟨1, p, x, List.replicate 16 []⟩ (.slice none 0 0) [] w' rfl hf (by show p.length ≤ _; omega) (RowsAt.nil ..) (by simp))
  have hnd : ndval ⟨1, p, x, List.replicate 16 []⟩ = .agg #[.int .i64 1, .string ⟨p.toArray⟩, .string ⟨x.toArray⟩, .string ⟨#[]⟩, .string ⟨#[]⟩, .string ⟨#[]⟩, .string ⟨#[]⟩, .string ⟨#[]⟩, .string ⟨#[]⟩, .string ⟨#[]⟩, .string ⟨#[]⟩, .string ⟨#[]⟩, .string ⟨#[]⟩, .string ⟨#[]⟩, .string ⟨#[]⟩, .string ⟨#[]⟩, .string ⟨#[]⟩, .string ⟨#[]⟩, .string ⟨#[]⟩] := rfl
  rw [hnd] at HSP
  have HV := Lib.hid hv
  obtain ⟨A, cap, e, hc, -⟩ := hv.form
  have hc1 : 1 ≤ cap := hc
  replace e : v = .slice A 1 cap := e
  subst e
  obtain ⟨b, o, rfl, n0, n1⟩ := ItAt.at HV.out 0 (by simp [Tr.items])
  simp only [Tr.items, List.getElem_cons_zero, Nat.zero_mul, Nat.add_zero] at n0 n1
  have HC : Hid (∀ w', Below w.heap.size w w' → w'.cell? ⟨b, o, none⟩ = some (.string ⟨p.toArray⟩) ∧ w'.cell? ⟨b, o + 1, none⟩ = some (.string ⟨x.toArray⟩)) := Lib.hid (fun w' hb => by
    obtain ⟨b2, o2, e, m0, m1⟩ := ItAt.at (HV.out.below hb) 0 (by simp [Tr.items])
    cases e
    simp only [Tr.items, List.getElem_cons_zero, Nat.zero_mul, Nat.add_zero] at m0 m1
    exact ⟨m0, m1⟩)
  have BD : Below w.heap.size w w.drew := (Below.refl _ _).drew
  obtain ⟨m0, m1⟩ := HC.out _ BD
  have HS2 := Lib.hid (HSP.out _ BD)
  clear hv HV hs hf hp hnd ho n0 n1
  go_enter Tryz.func88, Tryz.ntmps88
  go_upto_region 4 with fail
  go_region_held3 (fun w' => w'.cell? ⟨b, o, none⟩ = some (.string ⟨p.toArray⟩) ∧ w'.cell? ⟨b, o + 1, none⟩ = some (.string ⟨x.toArray⟩))
    ((first | (with_reducible exact ⟨m0, m1⟩) | (refine HC.out _ ?_; with_reducible assumption)))
    ((go_at_call 116; refine HS2.out.mono ?_; rintro e w3 ⟨s, rfl, os, hb3⟩; have hb3' := bchain BD hb3))
  all_goals
    go_wp2
    go_ret
    exact ⟨s, rfl, own_lowP os BD.size, hb3'⟩
theorem OwnSp.setOff {w : World} {B q : Nat} {s : Value} {L : List (T × N)} (h : OwnSp w B s L) (hq : q < B) (i : Nat) (u : Value) : OwnSp (w.setCell ⟨q, i, none⟩ u) B s L := by
  refine ⟨h.1, h.2.imp id ?_⟩
  rintro ⟨g, cap, cur, e, hg, hh, r⟩
  exact ⟨g, cap, cur, e, hg, (heap_setCell_other w ⟨q, i, none⟩ g u (by show g ≠ q; omega)).trans hh, r⟩
theorem ItAt.own {w : World} {B : Nat} {v : Value} {S : St} (h : w.ownsRow B 39 2 v S.length (rowsL itcl S)) : ItAt w v S := RowsAt.own itcl_length h
theorem cut_head (x p : List UInt8) (c : Nat) (h : x.take c = p) : (⟨x.toArray⟩ : ByteArray).extract 0 c = ⟨p.toArray⟩ := by
  rw [Lib.extract_eq, List.drop_zero, Nat.sub_zero, h]
set_option maxRecDepth 100000 in
set_option maxHeartbeats 4000000 in
theorem grown_ext (p : T) (t : Tr) (ih : GrownIs t) : GrownIs (.ext p t) := by
  intro place v w ho hv hl hpl hp0
  unfold GrownPost
  obtain ⟨S, hS⟩ : ∃ S, (Tr.ext p t).items = S := ⟨_, rfl⟩
  have hpos : 0 < S.length := by
    rw [← hS]
    exact List.length_pos_iff.2 (fun e => (Tri.items_nil ho.canon).1 e)
  obtain ⟨c1, c2, c3, c4, c5⟩ := Tri.ext_common ho.canon S hS hpos
  rw [hS] at hv hl hpl
  have hok : Ok t := ⟨ho.canon.2.2, ho.fits.2, ho.small.2⟩
  have hp16 : p.length ≤ 16 := ho.small.1
  have hpn : 0 < p.length := List.length_pos_iff.2 ho.canon.1
  have hnn : ¬ t.isNil := by have := ho.canon.2.1; cases t <;> simp_all [Tr.isBr, Tr.isNil]
  have hti : ∀ x ∈ t.items, (p ++ x.1, x.2) ∈ S := fun x hx => by rw [← hS]; exact Tri.mem_behind.2 ⟨x.1, hx, rfl⟩
  have htl : t.items.length ≤ 2000 := by
    rw [← c3]; simp [Tri.cutL]; exact hl
  have hpp : place.length + p.length ≤ 1000 := by
    have h0 := hpl S[0] (List.getElem_mem hpos)
    have h1 := c5 S[0] (List.getElem_mem hpos)
    omega
  have HLS : Hid (∀ w', Below w.heap.size w w' → Calls Tryz.prog 118 #[v, .int .i64 p.length] w' fun e w'' => ∃ v', e = .returned v' ∧ ItAt w'' v' t.items ∧ Below w.heap.size w w'') := Lib.hid (fun w' hb =>
    (rtLess_any S v p.length w' (RowsAt.below hv hb) (by omega) c5 (by omega) (fun x hx => by have := hpl x hx; omega)).mono fun e w'' ⟨v', q1, q2, q3⟩ => ⟨v', q1, by rw [← c3]; exact ItAt.own (by rw [show (Tri.cutL p.length S).length = S.length by simp [Tri.cutL]]; exact q2), bchain hb q3⟩)
  have HGR : Hid (∀ v' w', Below w.heap.size w w' → ItAt w' v' t.items → Calls Tryz.prog 88 #[v', .string ⟨(place ++ p).toArray⟩] w' fun e w'' => ∃ s, e = .returned s ∧ OwnSp w'' w.heap.size s (t.spots Nd.sumS (place ++ p)) ∧ Below w.heap.size w w'') := Lib.hid (fun v' w' hb hi =>
    (ih (place ++ p) v' w' hok hi htl (fun x hx => by have := hpl _ (hti x hx); simp at this ⊢; omega) (by simp; omega)).mono fun e w'' ⟨s, q1, q2, q3⟩ => ⟨s, q1, own_lowP q2 hb.size, bchain hb q3⟩)
  obtain ⟨r, hr⟩ := Tri.spots_head Nd.sumS (place ++ p) hnn
  have hsp : Tr.spots Nd.sumS place (.ext p t) = (place, Tr.node Nd.sumS (.ext p t)) :: ((place ++ p, t.node Nd.sumS) :: r) := by rw [Tr.spots, hr]
  rw [hsp]
  rw [hr] at HGR
  have hdt : Nd.sumS (t.node Nd.sumS) = t.sum Nd.sumS := (Tri.sum_node _ hnn).symm
  have hen : Tr.node Nd.sumS (.ext p t) = ⟨2, p, [], Nd.none16.set 0 (t.sum Nd.sumS)⟩ := rfl
  have hfine := ho.fine (t := .ext p t) id
  have hrl : ((place ++ p, t.node Nd.sumS) :: r).length ≤ 100000 := by
    have := Tri.spots_few Nd.sumS hok.canon (place ++ p)
    rw [hr] at this
    omega
  rw [hen] at hfine ⊢
  have h16t := Tri.node_kids Nd.sumS t
  obtain ⟨x, hx⟩ : ∃ x, t.sum Nd.sumS = x := ⟨_, rfl⟩
  rw [hx] at hdt hfine ⊢
  obtain ⟨nt, hnt⟩ : ∃ nt, t.node Nd.sumS = nt := ⟨_, rfl⟩
  rw [hnt] at HGR hdt h16t hrl ⊢
  obtain ⟨m, hm⟩ : ∃ m : N, (⟨2, p, [], Nd.none16.set 0 x⟩ : N) = m := ⟨_, rfl⟩
  have hm16 : m.kids.length = 16 := by rw [← hm]; rfl
  have hmp : m.path.length ≤ 1000000 := by rw [← hm]; show p.length ≤ _; omega
  rw [hm] at hfine ⊢
  have HSP := Lib.hid (fun (bv : Value) w' (hb : SpAt Nd.sumS w' bv ((place ++ p, nt) :: r)) => spot_any place m bv ((place ++ p, nt) :: r) w' hm16 hfine hmp hb hrl)
  have HM := Lib.hid hm
  have HN16 := Lib.hid h16t
  have HDT := Lib.hid hdt
  have HM16 := Lib.hid hm16
  -- the cells of the first and the last
  have HV := Lib.hid hv
  obtain ⟨A, cap, rfl, -, -⟩ := hv.form
  obtain ⟨j, hj⟩ : ∃ j, S.length - 1 = j := ⟨_, rfl⟩
  have hjl : j < S.length := by omega
  have HCO : Hid (∀ w', Calls Tryz.prog 117 #[.string ⟨S[0].1.toArray⟩, .string ⟨S[j].1.toArray⟩] w' fun e w'' => e = .returned (.int .i64 p.length) ∧ Below w'.heap.size w' w'') := Lib.hid (fun w' => by
    have h2 := rcommon_any S[0].1 S[j].1 w' (by have := hpl S[0] (List.getElem_mem hpos); omega) (by have := hpl S[j] (List.getElem_mem hjl); omega)
    have e : Nib.commonL S[0].1 S[j].1 = p.length := by subst hj; exact c1
    rw [e] at h2
    exact h2)
  obtain ⟨b, o, rfl, n0, -⟩ := ItAt.at HV.out 0 hpos
  simp only [Nat.zero_mul, Nat.add_zero] at n0
  have HC : Hid (∀ w', Below w.heap.size w w' → w'.cell? ⟨b, o, none⟩ = some (.string ⟨S[0].1.toArray⟩) ∧ w'.cell? ⟨b, o + j * 2, none⟩ = some (.string ⟨S[j].1.toArray⟩)) := Lib.hid (fun w' hb => by
    obtain ⟨b2, o2, e2, m0, -⟩ := ItAt.at (HV.out.below hb) 0 hpos
    obtain ⟨b3, o3, e3, m1, -⟩ := ItAt.at (HV.out.below hb) j hjl
    cases e2; cases e3
    simp only [Nat.zero_mul, Nat.add_zero] at m0
    exact ⟨m0, m1⟩)
  have hx0 : p.length ≤ S[0].1.length := c5 _ (List.getElem_mem hpos)
  have hcut := cut_head S[0].1 p p.length c2
  obtain ⟨k0, hk0⟩ : ∃ k, S[0].1 = k := ⟨_, rfl⟩
  obtain ⟨kj, hkj⟩ : ∃ k, S[j].1 = k := ⟨_, rfl⟩
  rw [hk0] at HC HCO hx0 hcut
  rw [hkj] at HC HCO
  obtain ⟨n, hn⟩ : ∃ n, S.length = n := ⟨_, rfl⟩
  rw [hn] at HLS c4 hl hj hjl ⊢
  obtain ⟨z, hz⟩ : ∃ z, p.length = z := ⟨_, rfl⟩
  rw [hz] at HLS HCO hx0 hcut hpn hpp hp16
  have hcm := cat_mk place p
  have hadd : ∀ w, (Op.stringOp .add (⟨place.toArray⟩ : ByteArray) ⟨p.toArray⟩).run Tryz.prog w = .ok (.string ⟨(place ++ p).toArray⟩) w := fun w => run_string_add_lists w place p (by omega) (by omega)
  have hsum : ¬ (9223372036854775807 < place.length + z) := by omega
  have g0 : ((n : Int) == 0) = false := by rw [beq_eq_false_iff_ne]; omega
  have g1 : ((n : Int) == 1) = false := by rw [beq_eq_false_iff_ne]; omega
  have gj : (n : Int) - 1 = (j : Int) := by omega
  have gj0 : (0 : Int) ≤ (j : Int) := by omega
  have gjn : (j : Int) < (n : Int) := by omega
  have gn0 : (0 : Int) < (n : Int) := by omega
  have gnN : 0 < n := by omega
  have gw : IntKind.i64.wrap ((n : Int) - 1) = (j : Int) := (IntWalk.i64_in ((n : Int) - 1) (by omega)).trans (by omega)
  have gw2 : IntKind.i64.wrap (j : Int) = (j : Int) := IntWalk.i64_in _ (by omega)
  have gnb : (n : Int) ≤ 100000 := by omega
  have gjN : j < n := by omega
  have gz : (z : Int) > 0 := by omega
  have gz0 : (0 : Int) ≤ (z : Int) := by omega
  have gzk : (z : Int) ≤ (k0.length : Int) := by omega
  have gpl : place.length ≤ 1001 := hp0
  have gpz : p.length ≤ 16 := by omega
  have BD : Below w.heap.size w w.drew := (Below.refl _ _).drew
  obtain ⟨m0, m1⟩ := HC.out _ BD
  have HCO2 := Lib.hid (HCO.out w.drew)
  clear hv ih hpl hti htl c1 c2 c3 c5 hr hsp hdt hen hfine h16t hx hnt hm hm16 hmp n0 hk0 hkj hn hS ho hok hpos HV HCO hnn
  go_enter Tryz.func88, Tryz.ntmps88
  go_upto_region 5 with fail
  go_region_held3 (fun w' => w'.cell? ⟨b, o, none⟩ = some (.string ⟨k0.toArray⟩) ∧ w'.cell? ⟨b, o + j * 2, none⟩ = some (.string ⟨kj.toArray⟩))
    ((first | (with_reducible exact ⟨m0, m1⟩) | (refine HC.out _ ?_; with_reducible assumption)))
    ((go_at_call 117; refine HCO2.out.mono ?_; rintro e w3 ⟨rfl, hb3⟩; have hb3' := bchain BD hb3))
  all_goals
    have HB3 := Lib.hid hb3'
    have BD3 : Below w.heap.size w w3.drew := hb3'.drew
    clear hb3 hb3' m0 m1
    obtain ⟨m0, m1⟩ := HC.out _ BD3
    go_upto_region 7 with fail
    go_region_held3 (fun w' => w'.cell? ⟨b, o, none⟩ = some (.string ⟨k0.toArray⟩))
      ((first | (with_reducible exact m0) | (refine (HC.out _ ?_).1; with_reducible assumption)))
      (first | (go_at_call 118; refine (HLS.out _ ?_).mono ?_; (with_reducible exact BD3); rintro e wl ⟨v1, rfl, it1, hl1⟩) | (go_at_call 88; refine (HGR.out _ _ ?_ ?_).mono ?_; (with_reducible exact hl1); (with_reducible exact it1); rintro e wg ⟨s1, rfl, os1, hg1⟩))
    all_goals
      have HBG := Lib.hid hg1
      have HOS := Lib.hid os1
      obtain ⟨m0', -⟩ := HC.out _ hg1
      obtain ⟨g7, cap7, rfl, -, hg7l⟩ := World.ownsRow.form os1 (by simp)
      have HBL : Hid (Tryz.prog.built 136 [(0, .int .i64 2), (1, .string ⟨p.toArray⟩)] = some (ncl ⟨2, p, [], Nd.none16⟩).toArray) := Lib.hid (by rfl)
      have HOC := Lib.hid (ncl_one ⟨2, p, [], Nd.none16⟩)
      have HS19 : Hid ((ncl ⟨2, p, [], Nd.none16⟩).toArray.size = 19) := Lib.hid rfl
      have HI19 : Hid ((Tryz.prog.info? 136).map (·.size) = some 19) := Lib.hid (by kernel_rfl)
      have HNA : Hid (NodeAt (wg.alloc (.cells (ncl ⟨2, p, [], Nd.none16⟩).toArray 136)) wg.heap.size ⟨2, p, [], Nd.none16⟩) := Lib.hid (heap_new_at wg _ _ rfl)
      obtain ⟨C, hC⟩ : ∃ C, (ncl ⟨2, p, [], Nd.none16⟩).toArray = C := ⟨_, rfl⟩
      rw [hC] at HBL HOC HS19 HNA
      have HI2 : Hid ((Tryz.prog.info? 136).map (·.size) = some C.size) := Lib.hid (by rw [HS19.out]; exact HI19.out)
      have c4 : (wg.alloc (.cells C 136)).cell? ⟨wg.heap.size, 3, none⟩ = some (.string ⟨#[]⟩) := HNA.out.kid 0 (by show 0 < Nd.none16.length; decide)
      have f4 := HNA.out.free 3
      have hset : C.setIfInBounds 3 (.string ⟨x.toArray⟩) = (ncl m).toArray := by
        rw [← hC, ← HM.out]; rfl
      have HAO := Lib.hid (ncl_one m)
      have HAS : Hid ((ncl m).toArray.size = 19) := Lib.hid (by rw [List.size_toArray, ncl_length m HM16.out])
      have HW : ∀ D : Array Value, Hid (Below w.heap.size w (wg.alloc (.cells D 136)) ∧ OwnSp (wg.alloc (.cells D 136)) w.heap.size (.slice (some ⟨g7, 0, none⟩) ((place ++ p, nt) :: r).length cap7) ((place ++ p, nt) :: r) ∧ (wg.alloc (.cells D 136)).heap[wg.heap.size]? = some (.cells D 136 (0, 0))) := fun D => Lib.hid ⟨hg1.alloc hg1.size _, os1.below ((Below.refl _ wg).alloc (Nat.le_refl _) _), heap_new_at wg _ _ rfl⟩
      have n7 : (wg.alloc (.cells C 136)).cell? ⟨g7, 2, none⟩ = some (.string ⟨x.toArray⟩) := by
        have hA : Below wg.heap.size wg (wg.alloc (.cells C 136)) := (Below.refl _ wg).alloc (Nat.le_refl _) _
        obtain ⟨b2, o2, e2, -, -, k2⟩ := SpAt.at (OwnSp.at_ (os1.below hA)) 0 (by simp) HN16.out
        cases e2
        simp only [List.getElem_cons_zero, Nat.zero_mul, Nat.zero_add] at k2
        rw [k2, HDT.out]
      have HLN : Hid (0 < ((place ++ p, nt) :: r).length) := Lib.hid (by simp)
      obtain ⟨N7, hN7⟩ : ∃ N7, ((place ++ p, nt) :: r).length = N7 := ⟨_, rfl⟩
      rw [hN7] at HLN HW
      have q7 := HLN.out
      have q7i : (0 : Int) < (N7 : Int) := by omega
      rw [hN7]
      clear m0 m1 it1 hl1 os1 hg1 hC hN7 hrl HNA
      unfold ndval at HSP
      obtain ⟨D, hD⟩ : ∃ D, (ncl m).toArray = D := ⟨_, rfl⟩
      rw [hD] at HAO HAS HSP hset
      have HID : Hid ((Tryz.prog.info? 136).map (·.size) = some D.size) := Lib.hid (by rw [HAS.out]; exact HI19.out)
      have HSQ := Lib.hid (HSP.out _ _ (OwnSp.at_ (HW D).out.2.1))
      have HRQ := Lib.hid (HW D).out.2.2
      have HB5 := Lib.hid (HW D).out.1
      clear hD HW
      go_wp2_with (first | (refine wpList_build_some (by rfl) _ _ (by rfl) [(0, .int .i64 2), (1, .string ⟨p.toArray⟩)] (by first | rfl | (simp [Act.eval]; done) | kernel_rfl) C HBL.out ?_) | (refine wpList_store_fresh (by rfl) _ _ _ (by rfl) wg.heap.size rfl C (by rfl) (by rfl) _ _ HI2.out HS19.out.symm HOC.out ?_) | (refine wpList_load_row (by rfl) _ _ (by rfl) wg.heap.size (by rfl) _ D _ _ HRQ.out Tryz.underlying136 (by rfl) HID.out ?_))
      refine HSQ.out.mono ?_
      rintro e w6 ⟨s6, rfl, o6, hb6⟩
      have HO6 : Hid (OwnSp w6 w.heap.size s6 ((place, m) :: (place ++ p, nt) :: r)) := Lib.hid (own_lowP o6 HB5.out.size)
      have HB6 : Hid (Below w.heap.size w w6) := Lib.hid (bchain HB5.out hb6)
      clear o6 hb6
      go_wp2
      go_ret
      exact ⟨s6, rfl, HO6.out, HB6.out⟩
end Go.Proofs.YtjfefphgikncnaaGreatDoor
