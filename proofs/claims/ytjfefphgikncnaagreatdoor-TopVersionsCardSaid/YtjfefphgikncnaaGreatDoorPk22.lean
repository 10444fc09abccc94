/- VerShelf, VerHeights, NodeKids, StoreReached, MapDrop -/
import Derived.Shelf.SlIterI.Nil
import Derived.Shelf.SortM.Plain
import Derived.Shelf.SortM.SortNone
import Derived.Shelf.SlGeneric
import Derived.Test.YtjfefphgikncnaaGreatDoorChecked
import Derived.Test.YtjfefphgikncnaaGreatDoorPk12
import Derived.Test.YtjfefphgikncnaaGreatDoorPk21
import Derived.Test.YtjfefphgikncnaaGreatDoorPk19
import Derived.Test.YtjfefphgikncnaaGreatDoorPk05
import Derived.Test.YtjfefphgikncnaaGreatDoorPk07
import Derived.Test.YtjfefphgikncnaaGreatDoorPk13
import Derived.Test.YtjfefphgikncnaaGreatDoorPk11
namespace Go.Proofs.YtjfefphgikncnaaGreatDoor
open Go.Shelf Go.RowKit Go.Maps Go.Sort
def keysI_ren : Go.Shelf.Ren := ⟨fun | 7 => 48 | 10 => 79 | n => n, fun | 23 => 77 | 26 => 3 | 3 => 84 | 28 => 93 | 0 => 0 | 27 => 92 | 33 => 122 | 4 => 4 | n => n, fun | n => n⟩
theorem keysI : Go.Proofs.SlLaysZI.n7 Tryz.prog keysI_ren := {
  mixed := by kernel_rfl
  f7 := ⟨Tryz.f48.name, by decide, Tryz.func48.trans (congrArg some (by kernel_rfl))⟩
  f10 := ⟨Tryz.f79.name, by decide, Tryz.func79.trans (congrArg some (by kernel_rfl))⟩
  t0 := Tryz.underlying0
  a0 := Tryz.isAgg0
  z0 := Tryz.sizeOf0
  v0 := Tryz.zeroValue0
  t4 := Tryz.underlying4
  a4 := Tryz.isAgg4
  z4 := Tryz.sizeOf4
  v4 := Tryz.zeroValue4
  t23 := Tryz.underlying77
  a23 := Tryz.isAgg77
  z23 := Tryz.sizeOf77
  v23 := Tryz.zeroValue77
  t26 := Tryz.underlying3
  a26 := Tryz.isAgg3
  z26 := Tryz.sizeOf3
  v26 := Tryz.zeroValue3
  t27 := Tryz.underlying92
  a27 := Tryz.isAgg92
  z27 := Tryz.sizeOf92
  v27 := Tryz.zeroValue92
  t28 := Tryz.underlying93
  a28 := Tryz.isAgg93
  z28 := Tryz.sizeOf93
  v28 := Tryz.zeroValue93
  t33 := Tryz.underlying122
  a33 := Tryz.isAgg122
  z33 := Tryz.sizeOf122
  v33 := Tryz.zeroValue122 }
def sortedI_ren : Go.Shelf.Ren := ⟨fun | 6 => 47 | 8 => 77 | 9 => 78 | 11 => 106 | 13 => 108 | 12 => 107 | 23 => 147 | 24 => 148 | 14 => 138 | 15 => 139 | 16 => 140 | 17 => 141 | 18 => 142 | 19 => 143 | 20 => 144 | 21 => 145 | 22 => 146 | 25 => 176 | 26 => 177 | 27 => 178 | 28 => 179 | 29 => 180 | 30 => 181 | 31 => 197 | n => n, fun | 26 => 3 | 28 => 93 | 24 => 43 | 0 => 0 | 3 => 3 | 37 => 163 | 48 => 167 | 50 => 196 | 4 => 4 | 40 => 188 | 39 => 187 | 45 => 131 | 5 => 5 | 9 => 9 | 51 => 219 | 55 => 223 | 57 => 236 | 58 => 237 | 33 => 122 | n => n, fun | n => n⟩
theorem sortedI : Go.Proofs.SlLaysZI.n6 Tryz.prog sortedI_ren := {
  mixed := by kernel_rfl
  f6 := ⟨Tryz.f47.name, by decide, Tryz.func47.trans (congrArg some (by kernel_rfl))⟩
  f8 := ⟨Tryz.f77.name, by decide, Tryz.func77.trans (congrArg some (by kernel_rfl))⟩
  f11 := ⟨Tryz.f106.name, by decide, Tryz.func106.trans (congrArg some (by kernel_rfl))⟩
  t0 := Tryz.underlying0
  a0 := Tryz.isAgg0
  z0 := Tryz.sizeOf0
  v0 := Tryz.zeroValue0
  t24 := Tryz.underlying43
  a24 := Tryz.isAgg43
  z24 := Tryz.sizeOf43
  v24 := Tryz.zeroValue43
  t26 := Tryz.underlying3
  a26 := Tryz.isAgg3
  z26 := Tryz.sizeOf3
  v26 := Tryz.zeroValue3
  t28 := Tryz.underlying93
  a28 := Tryz.isAgg93
  z28 := Tryz.sizeOf93
  v28 := Tryz.zeroValue93
  i26 := by kernel_rfl }
def sortI_ren : Go.Shelf.Ren := ⟨fun | 5 => 78 | 8 => 108 | 7 => 107 | 19 => 147 | 20 => 148 | 10 => 138 | 11 => 139 | 12 => 140 | 13 => 141 | 14 => 142 | 15 => 143 | 16 => 144 | 17 => 145 | 18 => 146 | 30 => 176 | 31 => 177 | 32 => 178 | 33 => 179 | 34 => 180 | 35 => 181 | 40 => 197 | n => n, fun | 23 => 43 | 25 => 3 | 3 => 3 | 32 => 163 | 22 => 43 | 0 => 0 | 44 => 167 | 46 => 196 | 4 => 4 | 36 => 188 | 35 => 187 | 41 => 131 | 5 => 5 | 9 => 9 | 53 => 219 | 57 => 223 | 63 => 236 | 64 => 237 | n => n, fun | n => n⟩
theorem sortI : Go.Proofs.SlLaysM.n5 Tryz.prog sortI_ren := {
  mixed := by kernel_rfl
  f5 := ⟨Tryz.f78.name, by decide, Tryz.func78.trans (congrArg some (by kernel_rfl))⟩
  f7 := ⟨Tryz.f107.name, by decide, Tryz.func107.trans (congrArg some (by kernel_rfl))⟩
  f8 := Tryz.func108.trans (congrArg some (by kernel_rfl))
  f10 := ⟨Tryz.f138.name, by decide, Tryz.func138.trans (congrArg some (by kernel_rfl))⟩
  f11 := ⟨Tryz.f139.name, by decide, Tryz.func139.trans (congrArg some (by kernel_rfl))⟩
  f12 := ⟨Tryz.f140.name, by decide, Tryz.func140.trans (congrArg some (by kernel_rfl))⟩
  f13 := ⟨Tryz.f141.name, by decide, Tryz.func141.trans (congrArg some (by kernel_rfl))⟩
  f14 := ⟨Tryz.f142.name, by decide, Tryz.func142.trans (congrArg some (by kernel_rfl))⟩
  f15 := ⟨Tryz.f143.name, by decide, Tryz.func143.trans (congrArg some (by kernel_rfl))⟩
  f16 := ⟨Tryz.f144.name, by decide, Tryz.func144.trans (congrArg some (by kernel_rfl))⟩
  f17 := ⟨Tryz.f145.name, by decide, Tryz.func145.trans (congrArg some (by kernel_rfl))⟩
  f18 := ⟨Tryz.f146.name, by decide, Tryz.func146.trans (congrArg some (by kernel_rfl))⟩
  f19 := Tryz.func147.trans (congrArg some (by kernel_rfl))
  f20 := Tryz.func148.trans (congrArg some (by kernel_rfl))
  f30 := ⟨Tryz.f176.name, by decide, Tryz.func176.trans (congrArg some (by kernel_rfl))⟩
  f31 := Tryz.func177.trans (congrArg some (by kernel_rfl))
  f32 := Tryz.func178.trans (congrArg some (by kernel_rfl))
  f33 := ⟨Tryz.f179.name, by decide, Tryz.func179.trans (congrArg some (by kernel_rfl))⟩
  f34 := ⟨Tryz.f180.name, by decide, Tryz.func180.trans (congrArg some (by kernel_rfl))⟩
  f35 := ⟨Tryz.f181.name, by decide, Tryz.func181.trans (congrArg some (by kernel_rfl))⟩
  f40 := ⟨Tryz.f197.name, by decide, Tryz.func197.trans (congrArg some (by kernel_rfl))⟩
  t0 := Tryz.underlying0
  a0 := Tryz.isAgg0
  z0 := Tryz.sizeOf0
  v0 := Tryz.zeroValue0
  t3 := Tryz.underlying3
  a3 := Tryz.isAgg3
  z3 := Tryz.sizeOf3
  v3 := Tryz.zeroValue3
  t4 := Tryz.underlying4
  a4 := Tryz.isAgg4
  z4 := Tryz.sizeOf4
  v4 := Tryz.zeroValue4
  t5 := Tryz.underlying5
  a5 := Tryz.isAgg5
  z5 := Tryz.sizeOf5
  v5 := Tryz.zeroValue5
  t9 := Tryz.underlying9
  a9 := Tryz.isAgg9
  z9 := Tryz.sizeOf9
  v9 := Tryz.zeroValue9
  t22 := Tryz.underlying43
  a22 := Tryz.isAgg43
  z22 := Tryz.sizeOf43
  v22 := Tryz.zeroValue43
  t23 := Tryz.underlying43
  a23 := Tryz.isAgg43
  z23 := Tryz.sizeOf43
  v23 := Tryz.zeroValue43
  t25 := Tryz.underlying3
  a25 := Tryz.isAgg3
  z25 := Tryz.sizeOf3
  v25 := Tryz.zeroValue3
  t32 := Tryz.underlying163
  a32 := Tryz.isAgg163
  z32 := Tryz.sizeOf163
  v32 := Tryz.zeroValue163
  t35 := Tryz.underlying187
  a35 := Tryz.isAgg187
  z35 := Tryz.sizeOf187
  v35 := Tryz.zeroValue187
  t36 := Tryz.underlying188
  a36 := Tryz.isAgg188
  z36 := Tryz.sizeOf188
  v36 := Tryz.zeroValue188
  t41 := Tryz.underlying131
  a41 := Tryz.isAgg131
  z41 := Tryz.sizeOf131
  v41 := Tryz.zeroValue131
  t44 := Tryz.underlying167
  a44 := Tryz.isAgg167
  z44 := Tryz.sizeOf167
  v44 := Tryz.zeroValue167
  t46 := Tryz.underlying196
  a46 := Tryz.isAgg196
  z46 := Tryz.sizeOf196
  v46 := Tryz.zeroValue196
  t53 := Tryz.underlying219
  a53 := Tryz.isAgg219
  z53 := Tryz.sizeOf219
  v53 := Tryz.zeroValue219
  t57 := Tryz.underlying223
  a57 := Tryz.isAgg223
  z57 := Tryz.sizeOf223
  v57 := Tryz.zeroValue223
  t63 := Tryz.underlying236
  a63 := Tryz.isAgg236
  z63 := Tryz.sizeOf236
  v63 := Tryz.zeroValue236
  t64 := Tryz.underlying237
  a64 := Tryz.isAgg237
  z64 := Tryz.sizeOf237
  v64 := Tryz.zeroValue237 }
/-- slices.Sort's two contracts, as slices.Sorted leans on them. -/
theorem sortsInI (m : Nat) : AnyZI.SortsIn Tryz.prog sortedI_ren Fence.wide m :=
  ⟨fun blk off cap ss W hH hblk hsz => callsIn_wide.2 (AnyM.slices_Sort_int sortI blk off cap ss W hH hblk hsz),
   fun p cap W => callsIn_wide.2 (AnyM.slices_Sort_int_none sortI p cap W)⟩
theorem shelf_keysI (mb : Option Nat) (w : World) :
    Calls Tryz.prog 48 #[.map mb] w fun e w' => e = .returned (.func (.func 79) #[] #[.pointer (some ⟨w.heap.size, 0, none⟩)]) ∧ w' = w.alloc (.cells #[.map mb] 77) :=
  (callsIn_wide (n := 5)).1 (AnyZI.keys_in keysI Fence.wide 5 trivial rfl mb w)
def SortedPostI (S : List Int → Prop) (w : World) (e : Ending) (w' : World) : Prop := ∃ (v : Value) (ss : List Int), e = .returned v ∧ S ss ∧
  w'.ownsRow w.heap.size 3 1 v ss.length ((ss.mergeSort (fun x y => decide (x ≤ y))).map encZ) ∧ (v = .slice none 0 0 ↔ ss = []) ∧ Below w.heap.size w w'
set_option maxHeartbeats 1000000 in
theorem shelf_sortedI {H : Type} (b nn q : Nat) (D0 : DataW H) (R : Value → Option (DataW H × List MemPlace)) (w : World) (hown : w.ownsMap Tryz.prog 3 R b nn D0) (hq : w.cell? ⟨q, 0, none⟩ = some (.map (some b))) (hmax : Maps.size D0 ≤ maxLen) (hbytes : Maps.size D0 * 8 ≤ 140737488355328) :
    Calls Tryz.prog 47 #[.func (.func 79) #[] #[.pointer (some ⟨q, 0, none⟩)]] w (SortedPostI (fun ss => ss.Perm (intKeys D0)) w) := by
  have hseq : SeqGives Fence.wide 2 Tryz.prog 79 #[.pointer (some ⟨q, 0, none⟩)] encZ (fun ss => ss.Perm (intKeys D0)) (Maps.size D0) w :=
    AnyZI.keys_gives (ρ := keysI_ren) { keysI with } Fence.wide _ trivial rfl (by omega) q b nn D0 w (World.block_lt_of_cell? _ _ hq) hq hown
  exact (callsIn_wide (n := 5)).1 (AnyZI.sorted_in sortedI Fence.wide 5 trivial trivial trivial trivial rfl (by omega) (sortsInI _) (enters_of Tryz.func78 (by kernel_rfl) rfl) 79 #[.pointer (some ⟨q, 0, none⟩)] trivial (enters_of Tryz.func79 (by kernel_rfl) rfl) _ _ hmax hbytes _ hseq)
end Go.Proofs.YtjfefphgikncnaaGreatDoor
namespace Go.Proofs.YtjfefphgikncnaaGreatDoor
open Go.RowKit Go.Maps Go.WideShapes
open Go.WideElems (Fit rd rg rd_mk rg_of)
open Sto (T St)

/-- A map of whole numbers, in the kit's word: what its keys are, in whatever order. -/
theorem FnAt.ownsI {α : Type} (M : MapLaw Tryz.prog 3 Int α) (hM : ∀ s, M.enc s = .int .i64 s) {w : World} {b : Nat} {f : Int → Option α} (h : FnAt M w b f) (L : List Int) (hL : ∀ x, f x ≠ none → x ∈ L) (hl : L.length ≤ 1000000) :
    ∃ D : DataW Unit, w.ownsMap Tryz.prog 3 (fun _ => some (.lit (.bool true), [])) b 1000000 D ∧ Maps.size D ≤ 1000000 ∧ ∀ ss : List Int, ss.Perm (intKeys D) → ss.Nodup ∧ ∀ x, x ∈ ss ↔ f x ≠ none := by
  obtain ⟨es, clock, hb, h2, h3, h4⟩ := h
  have hex : ∀ l : List MapEntry, (∀ x ∈ l, ∃ s a, x.key = M.enc s ∧ x.val = M.val a ∧ M.ok s ∧ f s = some a) → ∃ ks : List Int, l.map (·.key) = ks.map M.enc ∧ (∀ s ∈ ks, f s ≠ none) ∧ (l.map (rg (H := Unit) Tryz.prog 3 (fun _ => some (.lit (.bool true), [])))).map (fun p => Go.intOf p.1) = ks ∧ ∀ x ∈ l, ∃ y, rd (H := Unit) Tryz.prog 3 (fun _ => some (.lit (.bool true), [])) x = some y := by
    intro l
    induction l with
    | nil => exact fun _ => ⟨[], rfl, fun s hs => (by cases hs), rfl, fun x hx => (by cases hx)⟩
    | cons x r ih =>
      intro hl
      obtain ⟨ks, e1, e2, e3, e4⟩ := ih fun y hy => hl y (List.mem_cons_of_mem _ hy)
      obtain ⟨s, a, q1, _, q3, q2⟩ := hl x (List.mem_cons_self ..)
      obtain ⟨kl, hk⟩ := M.key s q3
      have hk' := hk
      rw [hM s] at hk'
      obtain ⟨y, ey, rfl, _⟩ := Maps.keyOf_i64 Tryz.underlying3 hk'
      obtain rfl : s = y := encZ_inj ey
      have hr : rd (H := Unit) Tryz.prog 3 (fun _ => some (.lit (.bool true), [])) x = some (.int .i64 s, .lit (.bool true)) := by
        obtain ⟨xk, xv, xb⟩ := x
        dsimp only at q1
        subst q1
        exact rd_mk (R := fun _ => some (DataW.lit (.bool true), [])) (yv := (DataW.lit (.bool true), [])) hk rfl
      refine ⟨s :: ks, by simp [e1, q1], fun s' hs' => ?_, ?_, fun z hz => ?_⟩
      · rcases List.mem_cons.1 hs' with rfl | hs'
        · rw [q2]; simp
        · exact e2 s' hs'
      · rw [List.map_cons, List.map_cons, e3, rg_of hr]
        rfl
      · rcases List.mem_cons.1 hz with rfl | hz
        · exact ⟨_, hr⟩
        · exact e4 z hz
  obtain ⟨ks, e1, e2, e3, e4⟩ := hex es.toList h2
  have hlen : ks.length = es.size := by
    have := congrArg List.length e1
    simpa using this.symm
  have hnd : ks.Nodup := by
    have h5 := h4.2.2
    rw [e1] at h5
    exact List.Pairwise.imp (fun {a b} hab => fun (e : a = b) => hab (by rw [e])) (List.pairwise_map.1 h5)
  have hall : ∀ s, s ∈ ks ↔ f s ≠ none := fun s => ⟨e2 s, fun hs => by
    cases hf : f s with
    | none => exact absurd hf hs
    | some a =>
      obtain ⟨x, hx, hxe⟩ := h3 s a hf
      have : x.key ∈ ks.map M.enc := e1 ▸ List.mem_map.2 ⟨x, hx, rfl⟩
      obtain ⟨s', hs', e⟩ := List.mem_map.1 this
      rw [M.inj _ _ (hxe.symm.trans e.symm)]; exact hs'⟩
  have hsz : es.size ≤ 1000000 := by
    have := Sto.le_of_sub (M := L) hnd fun x hx => hL x ((hall x).1 hx)
    omega
  refine ⟨_, ⟨es, clock, hb, ⟨by unfold maxLen; omega, h4, e4⟩, hsz, rfl⟩, ?_, fun ss hp => ?_⟩
  · simp only [Maps.size, length_sorted]
    simpa using hsz
  · have hp2 : ss.Perm ks := by
      refine hp.trans ?_
      rw [← e3]
      exact (sorted_perm _).map _
    exact ⟨hp2.nodup_iff.2 hnd, fun x => by rw [hp2.mem_iff, hall]⟩
theorem sort_heights {ss L : List Int} (hn : ss.Nodup) (hL : L.Pairwise (· < ·)) (h : ∀ x, x ∈ ss ↔ x ∈ L) : ss.mergeSort (fun x y => decide (x ≤ y)) = L := by
  have hLn : L.Nodup := hL.imp fun {a b} hab e => by omega
  have hp : ss.Perm L := (List.perm_ext_iff_of_nodup hn hLn).2 h
  refine (mergeSort_of_perm_i hp).trans (List.mergeSort_of_pairwise ?_)
  exact hL.imp fun {a b} hab => by simp only [leI, decide_eq_true_eq]; omega
/-- The heights in rising order, in a row of the call's own. -/
theorem sortedI_any {b q : Nat} {w : World} {m : Ver.M} (h : RootsAt w b m) (g : m.Good) (hq : w.cell? ⟨q, 0, none⟩ = some (.map (some b))) (hl : m.vs.length ≤ 1000000) :
    Calls Tryz.prog 47 #[.func (.func 79) #[] #[.pointer (some ⟨q, 0, none⟩)]] w fun e w' => ∃ z, e = .returned z ∧ IntsO w' w.heap.size z (m.vs.map (·.1)) ∧ Below w.heap.size w w' := by
  have hmem : ∀ x, (m.find x).map rootS ≠ none ↔ x ∈ m.vs.map (·.1) := fun x => by
    rw [List.mem_map]
    constructor
    · intro hx
      cases hf : m.find x with
      | none => rw [hf] at hx; exact absurd rfl hx
      | some I => exact ⟨(x, I), (Ver.find_iff g).1 hf, rfl⟩
    · rintro ⟨⟨y, I⟩, hy, rfl⟩
      rw [(Ver.find_iff g).2 hy]
      simp
  obtain ⟨D, h1, h2, h3⟩ := FnAt.ownsI rootsMap (fun _ => rfl) h (m.vs.map (·.1)) (fun x hx => (hmem x).1 hx) (by simpa using hl)
  refine (shelf_sortedI b _ q D _ w h1 hq (by unfold maxLen; omega) (by omega)).mono ?_
  rintro e w' ⟨v, ss, rfl, hp, hown, _, hb⟩
  obtain ⟨hn, hm⟩ := h3 ss hp
  have e1 := sort_heights hn (List.pairwise_map.2 g.rise) (fun x => (hm x).trans (hmem x))
  refine ⟨v, rfl, ?_, hb⟩
  unfold IntsO
  rw [← e1, List.length_mergeSort]
  exact hown
end Go.Proofs.YtjfefphgikncnaaGreatDoor
namespace Go.Proofs.YtjfefphgikncnaaGreatDoor
open Go.RowKit
open Go.Proofs.YtjfefphgikncnaaGreatDoor.Nd (N)

set_option maxRecDepth 100000 in
set_option maxHeartbeats 1000000 in
theorem nkids_any (n : N) (w : World) (hn : n.kids.length = 16) (hk : ∀ x ∈ n.kids, x.length ≤ 140737488351232) :
    Calls Tryz.prog 103 #[ndval n] w (KidsPost n w) := by
  unfold KidsPost
  obtain ⟨i0, hi, hz0, hz1, hz2⟩ := info_parts Tryz.infoStrN
  obtain ⟨C, hC, HB0, HCE, HI, HI2⟩ := nbox n w hn
  have HKE : Hid (∀ (k : Nat) (hk : k < 16), ∀ w, (Instr.index 134 (.agg (scells n.kids).toArray) (.int .i64 k)).run Tryz.prog w = .ok (.string ⟨(n.kids[k]'(by omega)).toArray⟩) w) := Lib.hid (fun k hk w => idx_strs n.kids hn k hk w)
  have HCL : Hid (∀ (k : Nat) (h : k < 16) w, Calls Tryz.prog 44 #[.string ⟨(n.kids[k]'(by omega)).toArray⟩] w fun e w' => e = .returned (.string ⟨(n.kids[k]'(by omega)).toArray⟩) ∧ Below w.heap.size w w') := Lib.hid (fun k h w => dclone_any _ w (hk _ (List.getElem_mem _)))
  obtain ⟨-, -, -, -, cR, -⟩ := HCE.out _ (Below.refl _ _)
  have HCR := Lib.hid cR
  have HN := Lib.hid hn
  unfold ndval
  rw [hC]
  clear hC cR HI HCE hk
  go_enter Tryz.func103, Tryz.ntmps103
  go_wp2_with (refine wpList_load_mid (by rfl) _ _ (by rfl) w.heap.size 3 (by rfl) (scells n.kids) _ HCR.out Tryz.underlying134 (by rfl) HI2.out ?_)
  have HSZ : Hid (w.heap.size < (w.alloc (.cells C 136)).heap.size) := Lib.hid (by simp)
  generalize (w.alloc (.cells C 136)) = w0 at *
  obtain ⟨K, hK⟩ : ∃ K, scells n.kids = K := ⟨_, rfl⟩
  rw [hK] at HKE ⊢
  clear hK HCR HI2
  go_loopw [3, 8] (fun sl i wr => ∃ (k : Nat) (z : Value), z = sl ∧ k ≤ 16 ∧ i = .int .i64 k ∧ Own wr w0.heap.size z (Nd.kidsL (n.kids.take k)) ∧ Below w0.heap.size w0 wr) (fun _ i _ => 16 - (intOf i).toNat)
  case atStart => exact ⟨0, _, rfl, Nat.zero_le _, rfl, Own.nil _ _, Below.refl _ _⟩
  case round =>
    obtain ⟨k, z, rfl, hk, rfl, hown, hb⟩ := hrel
    have HBk := Lib.hid hb
    have HOW := Lib.hid hown
    by_cases hlt : k < 16
    · have h1 : (k : Int) < 16 := by omega
      have h0 : (0 : Int) ≤ (k : Int) := by omega
      have n0 := HKE.out k hlt
      have HCK := Lib.hid (HCL.out k hlt)
      have HST := Lib.hid (Nd.kids_take n.kids k (by omega))
      have hln : (Nd.kidsL (n.kids.take k)).length ≤ 16 := by
        unfold Nd.kidsL
        refine Nat.le_trans (List.length_filter_le _ _) ?_
        rw [List.length_take]
        omega
      obtain ⟨x, hx⟩ : ∃ x, n.kids[k]'(by omega) = x := ⟨_, rfl⟩
      rw [hx] at n0 HST HCK
      obtain ⟨O, hO⟩ : ∃ O, Nd.kidsL (n.kids.take k) = O := ⟨_, rfl⟩
      rw [hO] at HOW HST hln
      have HSZr : Hid (w0.heap.size ≤ wr.heap.size) := Lib.hid hb.size
      have HLN := Lib.hid hln
      clear hx hO hown hln hb
      by_cases he : x = []
      · subst he
        rw [if_pos rfl] at HST
        go_wp2
        exact ⟨⟨k + 1, z, rfl, by omega, by go_num, by rw [HST.out]; exact HOW.out, HBk.out⟩, by simp [intOf]; omega⟩
      · rw [if_neg he] at HST
        have hx1 : (x == []) = false := by rw [beq_eq_false_iff_ne]; exact he
        have hx2 : ¬ (x = []) := he
        go_wp2_with fail
        refine (HCK.out _).mono ?_
        rintro e w4 ⟨rfl, hb4⟩
        have HOW4 := Lib.hid (HOW.out.below hb4)
        have HB4 := Lib.hid (HBk.out.trans (hb4.mono HSZr.out))
        have HS4 : Hid (w0.heap.size ≤ w4.heap.size) := Lib.hid HB4.out.size
        clear hb4 HOW HBk HSZr
        go_wp2_with (at_builtin; refine wpList_append_lies _ rfl _ _ _ rfl w0.heap.size 9 i0 (.string ⟨#[]⟩) 1 16 Tryz.underlying28 hi hz0 hz1 hz2 rfl (by decide) z O.length (scells O) (by rfl) (World.ownsRow.alloc HOW4.out _) ⟨w4.heap.size, 0, none⟩ 1 1 (scells [x]) (by rfl) rfl (World.news_of_block (heap_new_at _ _ _ rfl)) (by simp [scells, Value.oneCell']) (by decide) (by have := HLN.out; unfold maxLen; omega) (by have := HLN.out; omega) (by have := HS4.out; simp; omega) (w4.heap.size + 1) (by simp) ?_; intro g' cap' w5 hown5 hgrow5 hat5 hlt5)
        have hB5 : Below w0.heap.size w0 w5 := HB4.out.trans (((Out.of ((Below.refl _ w4).alloc (Nat.le_refl _) _)).trans (Out.grown hgrow5 (F := fun j => z.ownBlock = some j) (fun j e => e))).below (fun j hj => (HOW4.out.lt j hj).1) HS4.out)
        refine ⟨⟨k + 1, _, rfl, by omega, by go_num, ?_, hB5⟩, by simp [intOf]; omega⟩
        rw [HST.out]
        unfold Own
        rw [scells_append, List.length_append]
        exact hown5
    · have h1 : ¬ ((k : Int) < 16) := by omega
      obtain rfl : k = 16 := by omega
      rw [List.take_of_length_le (by omega)] at HOW
      clear hown hb
      go_wp2
      go_ret
      exact ⟨z, rfl, (own_lowS HOW.out (Nat.le_of_lt HSZ.out)), HB0.out.trans (HBk.out.mono (Nat.le_of_lt HSZ.out))⟩
end Go.Proofs.YtjfefphgikncnaaGreatDoor
namespace Go.Proofs.YtjfefphgikncnaaGreatDoor
open Go.RowKit
open Go.Proofs.YtjfefphgikncnaaGreatDoor.Sto (St)

def lenOf : Value → Nat
  | .slice _ n _ => n
  | _ => 0
def mapSize (w : World) (b : Nat) : Nat := match w.heap[b]? with | some (.map es _) => es.size | _ => 0
def workLeft (n b : Nat) (v : Value) (w : World) : Nat := (n - mapSize w b) * 17 + lenOf v
/-- The keys, in some order. -/
theorem FnAt.list {P : Program} {k : TypeId} {κ α : Type} {M : MapLaw P k κ α} {w : World} {b : Nat} {f : κ → Option α} (h : FnAt M w b f) : ∃ ks : List κ, mapSize w b = ks.length ∧ ks.Nodup ∧ ∀ s, s ∈ ks ↔ f s ≠ none := by
  obtain ⟨es, clock, hb, h2, h3, h4⟩ := h
  have hex : ∀ l : List MapEntry, (∀ x ∈ l, ∃ s a, x.key = M.enc s ∧ x.val = M.val a ∧ M.ok s ∧ f s = some a) → ∃ ks : List κ, l.map (·.key) = ks.map M.enc ∧ ∀ s ∈ ks, f s ≠ none := by
    intro l
    induction l with
    | nil => exact fun _ => ⟨[], rfl, fun s hs => (by cases hs)⟩
    | cons x r ih =>
      intro hl
      obtain ⟨ks, e1, e2⟩ := ih fun y hy => hl y (List.mem_cons_of_mem _ hy)
      obtain ⟨s, a, q1, _, _, q2⟩ := hl x (List.mem_cons_self ..)
      refine ⟨s :: ks, by simp [e1, q1], fun s' hs' => ?_⟩
      rcases List.mem_cons.1 hs' with rfl | hs'
      · rw [q2]; simp
      · exact e2 s' hs'
  obtain ⟨ks, e1, e2⟩ := hex es.toList h2
  have hlen : ks.length = es.size := by
    have := congrArg List.length e1
    simpa using this.symm
  refine ⟨ks, by unfold mapSize; rw [hb]; exact hlen.symm, ?_, fun s => ⟨e2 s, fun hs => ?_⟩⟩
  · have h5 := h4.2.2
    rw [e1] at h5
    exact List.Pairwise.imp (fun {a b} hab => fun (e : a = b) => hab (by rw [e])) (List.pairwise_map.1 h5)
  · cases hf : f s with
    | none => exact absurd hf hs
    | some a =>
      obtain ⟨x, hx, hxe⟩ := h3 s a hf
      have : x.key ∈ ks.map M.enc := e1 ▸ List.mem_map.2 ⟨x, hx, rfl⟩
      obtain ⟨s', hs', e⟩ := List.mem_map.1 this
      rw [M.inj _ _ (hxe.symm.trans e.symm)]; exact hs'
theorem FnAt.size_eq {P : Program} {k : TypeId} {κ α : Type} [BEq κ] [LawfulBEq κ] {M : MapLaw P k κ α} {w : World} {b : Nat} {f : κ → Option α} (h : FnAt M w b f) {V : List κ} (hn : V.Nodup) (hV : ∀ s, s ∈ V ↔ f s ≠ none) : mapSize w b = V.length := by
  obtain ⟨ks, h1, h2, h3⟩ := h.list
  rw [h1]
  exact Nat.le_antisymm (Sto.le_of_sub h2 fun x hx => (hV x).2 ((h3 x).1 hx)) (Sto.le_of_sub hn fun x hx => (h3 x).2 ((hV x).1 hx))

def inV (V : List (List UInt8)) (x : List UInt8) : Option Unit := if x ∈ V then some () else none
theorem inV_iff (V : List (List UInt8)) (x : List UInt8) : x ∈ V ↔ inV V x ≠ none := by
  unfold inV; by_cases h : x ∈ V <;> simp [h]
theorem inV_some (V : List (List UInt8)) (x : List UInt8) : (inV V x).isSome = decide (x ∈ V) := by
  unfold inV; by_cases h : x ∈ V <;> simp [h]
theorem inV_put (V : List (List UInt8)) (x s : List UInt8) : updF (inV V) x (some ()) s = inV (V ++ [x]) s := by
  unfold updF inV
  by_cases h : s = x
  · subst h; simp
  · simp [h]
theorem lookU {w : World} {b : Nat} {V : List (List UInt8)} (h : FnAt setMap w b (inV V)) {x : List UInt8} (hx : x.length ≤ 140737488351232) :
    (Instr.lookup 117 (.map (some b)) (.string ⟨x.toArray⟩) true).run Tryz.prog w = .ok (.tuple #[.agg #[], .bool (decide (x ∈ V))]) w := by
  have h1 := h.look Tryz.underlying117 (s := x) hx true (zeroUnit w)
  rw [show (.string ⟨x.toArray⟩ : Value) = setMap.enc x from rfl, h1, inV_some]
  cases inV V x <;> rfl
/-- The last of a row, taken off. -/
theorem Own.pre {w : World} {B g n cap : Nat} {O : List (List UInt8)} {x : List UInt8} (h : Own w B (.slice (some ⟨g, 0, none⟩) (n + 1) cap) (O ++ [x])) (hn : n = O.length) : Own w B (.slice (some ⟨g, 0, none⟩) n cap) O := by
  subst hn
  unfold Own at h ⊢
  rw [scells_append, List.length_append] at h
  obtain ⟨_, h | ⟨g', cap', cur, hv, hB, hh, hc, hm, hs, ht⟩⟩ := h
  · simp at h
  · obtain ⟨rfl, rfl⟩ : g = g' ∧ cap = cap' := by simpa using hv
    simp only [List.length_cons, List.length_nil, Nat.zero_add] at hc ht
    refine ⟨by simp [scells], Or.inr ⟨g, cap, cur, rfl, hB, hh, by omega, hm, hs, ?_⟩⟩
    have := congrArg (List.take O.length) ht
    rw [List.take_take] at this
    rw [Nat.mul_one] at this ⊢
    rw [show min O.length (O.length + 1) = O.length by omega] at this
    rw [this, List.take_append_of_le_length (by simp [scells]), List.take_of_length_le (by simp [scells])]
theorem FnAt.grownOwn {P : Program} {k : TypeId} {κ α : Type} {M : MapLaw P k κ α} {w w' : World} {b B : Nat} {f : κ → Option α} {z : Value} {O : List (List UInt8)} (h : FnAt M w b f) (ho : Own w B z O) (hg : w.grownBy w' z.ownBlock) : FnAt M w' b f := by
  refine h.out (Out.grown hg (F := fun j => z.ownBlock = some j) (fun _ e => e)) fun e => ?_
  rcases ho.2 with ⟨rfl, _⟩ | ⟨g, c, cur, rfl, _, hh, _⟩
  · simp [Value.ownBlock] at e
  · have : g = b := by simpa [Value.ownBlock] using e
    subst this
    exact h.no_cells _ _ _ _ rfl hh
theorem own_capLe {w : World} {B g n cap : Nat} {L : List (List UInt8)} (h : Own w B (.slice (some ⟨g, 0, none⟩) n cap) L) : L.length ≤ cap := by
  rcases h.2 with ⟨h', _⟩ | ⟨g', cap', cur, hv, _, _, hn, _⟩
  · simp at h'
  · obtain ⟨_, _, rfl⟩ : g = g' ∧ n = L.length ∧ cap = cap' := by simpa using hv
    exact hn
theorem Sto.kids_short (t k : List UInt8) (h : k ∈ Sto.kidsT t) : k.length ≤ 32 := by
  unfold Sto.kidsT Nd.kidsL at h
  obtain ⟨h1, h2⟩ := List.mem_filter.1 h
  have hall : Nd.all32 (Nd.dec t).1.kids = true := by
    rcases Nd.dec_is t with ⟨_, h, _⟩ | ⟨_, h, _⟩
    · unfold Nd.fine at h
      exact (Bool.and_eq_true_iff.1 h).1
    · rw [h]; rfl
  have := List.all_eq_true.1 hall k h1
  simp at this
  rcases this with h | h
  · rw [h]; simp
  · omega
theorem Sto.dec_kids (t : List UInt8) : (Nd.dec t).1.kids.length = 16 ∧ (∀ x ∈ (Nd.dec t).1.kids, x.length ≤ 140737488351232) ∧ (Nd.dec t).2 ≠ 90 := by
  have hall : (Nd.dec t).1.kids.length = 16 ∧ Nd.all32 (Nd.dec t).1.kids = true ∧ (Nd.dec t).2 ≠ 90 := by
    rcases Nd.dec_is t with ⟨h0, h, h1, _⟩ | ⟨_, h, h1⟩
    · unfold Nd.fine at h
      exact ⟨h1, (Bool.and_eq_true_iff.1 h).1, by first | omega | (rw [h0]; decide)⟩
    · rw [h]; exact ⟨rfl, rfl, by first | omega | (rw [‹_ = (80 : Int)›]; decide)⟩
  refine ⟨hall.1, fun x hx => ?_, hall.2.2⟩
  have := List.all_eq_true.1 hall.2.1 x hx
  simp at this
  rcases this with h | h
  · rw [h]; simp
  · omega
def ReachedPost (S : St) (l : List (List UInt8)) (w : World) (e : Ending) (w' : World) : Prop :=
  ∃ mr V, e = .returned (.map (some mr)) ∧ w.heap.size ≤ mr ∧ FnAt setMap w' mr (inV V) ∧ V.Nodup ∧ (∀ x, x ∈ V ↔ Sto.Reach S l x) ∧ Below w.heap.size w w'

/-- Between two rounds. -/
structure WorkAt (S : St) (l V O : List (List UInt8)) (w wr : World) (B mr : Nat) (z : Value) : Prop where
  map : FnAt setMap wr mr (inV V)
  own : Own wr B z O
  work : Sto.Work S l V O
  len : O.length ≤ l.length + V.length * 16
  short : ∀ x ∈ O, x.length ≤ 140737488351232
  below : Below B w wr
theorem WorkAt.left {S : St} {l V O : List (List UInt8)} {w wr : World} {B mr : Nat} {z : Value} (h : WorkAt S l V O w wr B mr z) : workLeft S.length mr z wr = (S.length - V.length) * 17 + O.length := by
  unfold workLeft
  rw [h.map.size_eq h.work.nd (inV_iff V)]
  obtain ⟨A, cap, rfl⟩ := own_form h.own
  rfl
theorem WorkAt.of_below {S : St} {l V O : List (List UInt8)} {w wr w' : World} {B mr : Nat} {z : Value} (h : WorkAt S l V O w wr B mr z) (hb : Below wr.heap.size wr w') (hB : B ≤ wr.heap.size) : WorkAt S l V O w w' B mr z :=
  ⟨h.map.below hb, h.own.below hb, h.work, h.len, h.short, h.below.trans (hb.mono hB)⟩
theorem WorkAt.skip {S : St} {l V O : List (List UInt8)} {x : List UInt8} {w wr w' : World} {B mr : Nat} {z z' : Value} (h : WorkAt S l V (O ++ [x]) w wr B mr z) (ho : Own wr B z' O) (hx : x ∈ V ∨ x ∉ Sto.keys S) (hb : Below wr.heap.size wr w') (hB : B ≤ wr.heap.size) :
    WorkAt S l V O w w' B mr z' ∧ workLeft S.length mr z' w' < workLeft S.length mr z wr := by
  have h1 : WorkAt S l V O w wr B mr z' := ⟨h.map, ho, h.work.skip hx, by have := h.len; rw [List.length_append] at this; simp at this; omega, fun y hy => h.short y (List.mem_append_left _ hy), h.below⟩
  have h2 := h1.of_below hb hB
  refine ⟨h2, ?_⟩
  rw [h2.left, h.left, List.length_append]
  simp
theorem WorkAt.take {S : St} {l V O : List (List UInt8)} {x t : List UInt8} {w wr w' : World} {B mr : Nat} {z z' : Value} (h : WorkAt S l V (O ++ [x]) w wr B mr z) (hx : x ∉ V) (ht : Sto.look S x = some t) (hm : FnAt setMap w' mr (inV (V ++ [x]))) (ho : Own w' B z' (O ++ Sto.kidsT t)) (hb : Below B w w') :
    WorkAt S l (V ++ [x]) (O ++ Sto.kidsT t) w w' B mr z' ∧ workLeft S.length mr z' w' < workLeft S.length mr z wr := by
  have hk := Sto.kidsT_len t
  have hwk := h.work.take hx ht
  have h1 : WorkAt S l (V ++ [x]) (O ++ Sto.kidsT t) w w' B mr z' := ⟨hm, ho, hwk, by
    have := h.len
    simp only [List.length_append, List.length_cons, List.length_nil] at this ⊢
    omega, fun y hy => by
    rcases List.mem_append.1 hy with hy | hy
    · exact h.short y (List.mem_append_left _ hy)
    · have := Sto.kids_short t y hy; omega, hb⟩
  refine ⟨h1, ?_⟩
  have hl := hwk.len
  rw [h1.left, h.left]
  simp only [List.length_append, List.length_cons, List.length_nil] at hl ⊢
  omega

set_option maxRecDepth 100000 in
set_option maxHeartbeats 4000000 in
theorem reached_any (g m : Nat) (S : St) (l : List (List UInt8)) (v : Value) (w : World) (h : StoreAt w g m S) (hv : Strs w v l) (hS : S.length ≤ 50000) (hl : l.length ≤ 10000) (hsh : ∀ x ∈ l, x.length ≤ 140737488351232) :
    Calls Tryz.prog 71 #[.pointer (some ⟨g, 0, none⟩), v] w (ReachedPost S l w) := by
  unfold ReachedPost
  have HH := Lib.hid h
  have HSL := Lib.hid hS
  have hb0 := (Below.refl w.heap.size w).alloc (Nat.le_refl _) (.map #[] 0)
  have HM0 : Hid (FnAt setMap (w.alloc (.map #[] 0)) w.heap.size (inV [])) := Lib.hid ((FnAt.made setMap w w.heap.size rfl).congr fun s => by simp [inV])
  have HCL := Lib.hid (sclone_any l v _ (hv.below hb0) (by omega))
  have HB0 := Lib.hid hb0
  have HSH := Lib.hid hsh
  have HLL := Lib.hid hl
  have hmm := @run_makeMap Tryz.prog
  obtain ⟨B, hB⟩ : ∃ B, w.heap.size = B := ⟨_, rfl⟩
  rw [hB] at HM0 HB0
  have HBS := Lib.hid hB
  have HHB : Hid (∀ wr, Below B w wr → StoreAt wr g m S) := Lib.hid (fun wr hb => h.below (by rw [hB]; exact hb))
  clear h hv hS hl hsh hb0
  go_enter Tryz.func71, Tryz.ntmps71
  go_wp2_with fail
  refine HCL.out.mono ?_
  rintro e w1 ⟨z0, rfl, hown0, hb1⟩
  have HW0 : Hid (WorkAt S l [] l w w1 B B z0) := Lib.hid ⟨HM0.out.below hb1, own_lowS hown0 (by simp [hB]), Sto.Work.begin S l, by simp, HSH.out, HB0.out.trans (hb1.mono (by simp [hB]))⟩
  clear hown0 hb1 hB HCL HM0 hmm
  go_wp2
  go_loopw [6] (fun s wr => ∃ V O, WorkAt S l V O w wr B B s) (fun s wr => workLeft S.length B s wr)
  case atStart => exact ⟨[], l, HW0.out⟩
  case round =>
    rename_i s
    obtain ⟨V, O, hw⟩ := hrel
    clear HW0
    have HW := Lib.hid hw
    have HSB : Hid (B ≤ wr.heap.size) := Lib.hid (by have := hw.below.size; have := HBS.out; omega)
    rcases List.eq_nil_or_concat O with rfl | ⟨O', x, rfl⟩
    · obtain ⟨A, cap, rfl⟩ := own_form hw.own
      simp only [List.length_nil]
      clear hw
      go_wp2
      go_ret
      exact ⟨B, V, rfl, Nat.le_of_eq HBS.out, HW.out.map, HW.out.work.nd, fun x => HW.out.work.done x, by rw [HBS.out]; exact HW.out.below⟩
    · obtain ⟨n, hn⟩ : ∃ n, O'.length = n := ⟨_, rfl⟩
      have hown := hw.own
      have hxs : x.length ≤ 140737488351232 := hw.short x (by simp)
      have hlu := lookU hw.map hxs
      obtain ⟨A, cap, rfl⟩ := own_form hown
      have hlen : (O'.concat x).length = n + 1 := by simp [hn]
      rw [hlen] at hown HW ⊢
      obtain ⟨q, c', hv, hBq, hql⟩ := World.ownsRow.form hown (by omega)
      obtain ⟨rfl, -, rfl⟩ : A = some ⟨q, 0, none⟩ ∧ n = O'.length ∧ cap = c' := by simpa using hv
      have hcell : wr.cell? ⟨q, n, none⟩ = some (.string ⟨x.toArray⟩) := by
        have := World.ownsRow.cells hown (g := q) rfl n (.string ⟨x.toArray⟩) (by simp [scells, hn])
        rwa [Addr.add_mid, Nat.zero_add] at this
      have hcap : (n : Int) ≤ (cap : Int) := by
        have := own_capLe hown
        omega
      have hnb : (n : Int) ≤ 900000 := by
        have h1 := hw.len
        have h2 := hw.work.len
        have h3 := HLL.out
        have h4 := HSL.out
        rw [hlen] at h1
        omega
      have h0 : (0 : Int) ≤ (n : Int) := by omega
      have h1 : (0 : Int) < (n : Int) + 1 := by omega
      have h2 : (n : Int) < (n : Int) + 1 := by omega
      rw [List.concat_eq_append] at HW
      have HOP : Hid (Own wr B (.slice (some ⟨q, 0, none⟩) n cap) O') := Lib.hid (by rw [List.concat_eq_append] at hown; exact Own.pre hown hn.symm)
      have HN := Lib.hid hn
      have HXS := Lib.hid hxs
      have hw0 : Hid (Below B w wr) := Lib.hid hw.below
      clear hw hn hown hlen hv hBq hql hxs
      have hbA : Below wr.heap.size wr (wr.alloc (.cells #[] 119)) := (Below.refl _ wr).alloc (Nat.le_refl _) _
      have HBA := Lib.hid hbA
      by_cases hin : x ∈ V
      · rw [decide_eq_true hin] at hlu
        have HF := Lib.hid (HW.out.skip HOP.out (Or.inl hin) hbA HSB.out)
        clear hin hbA
        go_wp2
        exact ⟨⟨V, O', HF.out.1⟩, HF.out.2⟩
      · rw [decide_eq_false hin] at hlu
        have HST := Lib.hid (HHB.out _ (hw0.out.trans (hbA.mono HSB.out)))
        have HND := Lib.hid (stnode_any g m S x _ HST.out HXS.out)
        have HIN := Lib.hid hin
        have HI19 : Hid ((Tryz.prog.info? 136).map (·.size) = some 19) := Lib.hid (by kernel_rfl)
        clear hin hbA
        unfold Sto.nodeOf at HND
        cases hlk : Sto.look S x with
        | none =>
          rw [hlk] at HND
          dsimp only at HND
          have HNK : Hid (x ∉ Sto.keys S) := Lib.hid ((Sto.look_none S x).1 hlk)
          have HON := Lib.hid (ncl_one Nd.zero)
          have HSN : Hid ((ncl Nd.zero).toArray.size = 19) := Lib.hid rfl
          unfold ndval at HND
          obtain ⟨A, hA⟩ : ∃ A, (ncl Nd.zero).toArray = A := ⟨_, rfl⟩
          rw [hA] at HND HON HSN
          have HI : Hid ((Tryz.prog.info? 136).map (·.size) = some A.size) := Lib.hid (by rw [HSN.out]; exact HI19.out)
          clear hA hlk
          go_wp2_with fail
          refine HND.out.mono ?_
          rintro e w2 ⟨rfl, hb2⟩
          have hb3 : Below wr.heap.size wr (w2.alloc (.cells A 136)) := (bchain HBA.out hb2).alloc (bchain HBA.out hb2).size _
          have HF := Lib.hid (HW.out.skip HOP.out (Or.inr HNK.out) hb3 HSB.out)
          clear hb2 hb3
          go_wp2_with (refine wpList_store_fresh (by rfl) _ _ _ (by rfl) w2.heap.size rfl A (by rfl) (by rfl) _ _ HI.out HSN.out.symm HON.out ?_)
          exact ⟨⟨V, O', HF.out.1⟩, HF.out.2⟩
        | some t =>
          rw [hlk] at HND
          dsimp only at HND
          obtain ⟨hk16, hks, hc90⟩ := Sto.dec_kids t
          have HKT : Hid (Sto.kidsT t = Nd.kidsL (Nd.dec t).1.kids) := Lib.hid rfl
          obtain ⟨⟨nd, c⟩, hD⟩ : ∃ D, Nd.dec t = D := ⟨_, rfl⟩
          rw [hD] at HND hk16 hks hc90 HKT
          dsimp only at HND hk16 hks hc90 HKT
          have HLK := Lib.hid hlk
          have HKI := Lib.hid (fun w => nkids_any nd w hk16 hks)
          unfold KidsPost at HKI
          rw [← HKT.out] at HKI
          have HON := Lib.hid (ncl_one nd)
          have HSN : Hid ((ncl nd).toArray.size = 19) := Lib.hid (by rw [List.size_toArray, ncl_length nd hk16])
          unfold ndval at HND HKI
          obtain ⟨A, hA⟩ : ∃ A, (ncl nd).toArray = A := ⟨_, rfl⟩
          rw [hA] at HND HON HSN HKI
          have HI : Hid ((Tryz.prog.info? 136).map (·.size) = some A.size) := Lib.hid (by rw [HSN.out]; exact HI19.out)
          clear hA hlk hD hk16 hks HI19
          go_wp2_with fail
          refine HND.out.mono ?_
          rintro e w2 ⟨rfl, hb2⟩
          have hb3 : Below wr.heap.size wr (w2.alloc (.cells A 136)) := (bchain HBA.out hb2).alloc (bchain HBA.out hb2).size _
          have HB3 := Lib.hid hb3
          have HM3 := Lib.hid (HW.out.map.below hb3)
          have HR3 : Hid ((w2.alloc (.cells A 136)).heap[w2.heap.size]? = some (.cells A 136 (0, 0))) := Lib.hid (heap_new_at w2 _ _ rfl)
          have HO3 := Lib.hid (HOP.out.below hb3)
          have HXL : Hid (setMap.ok x) := Lib.hid HXS.out
          clear hb2 hb3 hlu hcell hcap
          go_upto_region 12 with (first | (refine wpList_store_fresh (by rfl) _ _ _ (by rfl) w2.heap.size rfl A (by rfl) (by rfl) _ _ HI.out HSN.out.symm HON.out ?_) | (at_mapUpdate; refine wpList_mapUpdate_fn (M := setMap) rfl _ _ _ _ rfl Tryz.underlying117 x () HXL.out (by rfl) (by rfl) (by rfl) HM3.out ?_; intro w4 hf4 ho4 hs4))
          have HM4 := Lib.hid (hf4.congr (inV_put V x))
          have HR4 := Lib.hid (ho4.heap HR3.out (fun e => HM3.out.no_cells _ _ _ _ e HR3.out))
          have HO4 : Hid (Own w4 B (.slice (some ⟨q, 0, none⟩) n cap) O') := Lib.hid (row_out HO3.out ho4 (fun k cs t f e => HM3.out.no_cells _ _ _ _ e))
          have HB4 : Hid (Below B w w4) := Lib.hid ((hw0.out.trans (HB3.out.mono HSB.out)).trans (ho4.below (fun k e => Nat.le_of_eq e.symm) (Nat.le_trans HSB.out HB3.out.size)))
          have HS4 : Hid (B ≤ w4.heap.size) := Lib.hid (by rw [hs4]; exact Nat.le_trans HSB.out HB3.out.size)
          clear hf4 ho4 hs4
          go_wp2_with (refine wpList_load_row (by rfl) _ _ (by rfl) w2.heap.size (by rfl) _ A _ _ HR4.out Tryz.underlying136 (by rfl) HI.out ?_)
          refine (HKI.out _).mono ?_
          rintro e w5 ⟨z2, rfl, hown5, hb5⟩
          have HO5 := HO4.out.below hb5
          have HS5 : B ≤ w5.heap.size := Nat.le_trans HS4.out hb5.size
          have hk16 := Sto.kidsT_len t
          have hO5 : w5.ownsRow B 9 1 (.slice (some ⟨q, 0, none⟩) n cap) n (scells O') := by
            have := HO5
            unfold Own at this
            rwa [HN.out] at this
          obtain ⟨v6, w6, hrun6, hown6, hgrow6, _⟩ := append_strs hown5.strs hO5 (by omega) HS5
          have HM6 := Lib.hid ((HM4.out.below hb5).grownOwn HO5 hgrow6)
          have HO6 : Hid (Own w6 B v6 (O' ++ Sto.kidsT t)) := Lib.hid (by
            unfold Own
            rw [scells_append, List.length_append, HN.out]
            exact hown6)
          have HB6 : Hid (Below B w w6) := Lib.hid ((HB4.out.trans (hb5.mono HS4.out)).trans ((Out.grown hgrow6 (F := fun j => Value.ownBlock (.slice (some ⟨q, 0, none⟩) n cap) = some j) (fun _ e => e)).below (fun j hj => (HO5.lt j hj).1) HS5))
          have HR6 := Lib.hid hrun6
          have HF := Lib.hid (HW.out.take HIN.out HLK.out HM6.out HO6.out HB6.out)
          clear hown5 hb5 HO5 HS5 hk16 hO5 hrun6 hown6 hgrow6
          go_wp2_with (at_builtin; refine wpList_append_run rfl _ _ _ rfl (.slice (some ⟨q, 0, none⟩) n cap) z2 _ (by rfl) (by rfl) HR6.out ?_)
          exact ⟨⟨V ++ [x], O' ++ Sto.kidsT t, HF.out.1⟩, HF.out.2⟩

end Go.Proofs.YtjfefphgikncnaaGreatDoor
namespace Go.Proofs.YtjfefphgikncnaaGreatDoor
open Go.RowKit Go.MapKept
open Go.ChangeMaps (setBlock heap_setBlock_same heap_setBlock_other)
open Go.Maps (Keyed)
variable {P : Program} {k t e : TypeId} {κ α : Type}

/-- The map in block b is ranged over by the iterator in block r; the keys in 'done' have come, and may have gone since; cnt are still to come. -/
def FnRangeD (M : MapLaw P k κ α) (w : World) (b r : Nat) (f : κ → Option α) (done : List κ) (cnt : Nat) : Prop :=
  ∃ es clock since seen c0, w.heap[b]? = some (.map es clock) ∧ (∀ x ∈ es.toList, ∃ s a, x.key = M.enc s ∧ x.val = M.val a ∧ M.ok s ∧ f s = some a) ∧ (∀ s a, f s = some a → ∃ x ∈ es.toList, x.key = M.enc s) ∧ Stamped es clock ∧
    w.heap[r]? = some (.mapIter (some b) since seen c0) ∧ (∀ x ∈ es.toList, x.born < since) ∧ since ≤ c0 ∧ since ≤ clock ∧ (leftOf es seen).size = cnt ∧ done.Nodup ∧ (∀ x ∈ es.toList, seen.contains x.born = true ↔ ∃ s ∈ done, x.key = M.enc s)

theorem FnRange.weak {M : MapLaw P k κ α} {w : World} {b r : Nat} {f : κ → Option α} {done : List κ} {cnt : Nat} (h : FnRange M w b r f done cnt) : FnRangeD M w b r f done cnt := by
  obtain ⟨es, clock, since, seen, c0, h1, h2, h3, h4, h5, h6, h7, h8, h9, h10, h11, _⟩ := h
  exact ⟨es, clock, since, seen, c0, h1, h2, h3, h4, h5, h6, h7, h8, h9, h10, h11⟩
theorem FnRangeD.map {M : MapLaw P k κ α} {w : World} {b r : Nat} {f : κ → Option α} {done : List κ} {cnt : Nat} (h : FnRangeD M w b r f done cnt) : FnAt M w b f := by
  obtain ⟨es, clock, _, _, _, hb, h2, h3, h4, _⟩ := h
  exact ⟨es, clock, hb, h2, h3, h4⟩
theorem FnRangeD.left_eq {M : MapLaw P k κ α} {w : World} {b r : Nat} {f : κ → Option α} {done : List κ} {cnt : Nat} (h : FnRangeD M w b r f done cnt) : w.rangeLeft b r = cnt := by
  obtain ⟨es, clock, since, seen, c0, hb, _, _, _, hr, _, _, _, hc, _⟩ := h
  simp only [World.rangeLeft, hb, hr]
  exact hc
theorem FnRangeD.lt {M : MapLaw P k κ α} {w : World} {b r : Nat} {f : κ → Option α} {done : List κ} {cnt : Nat} (h : FnRangeD M w b r f done cnt) : r < w.heap.size := by
  obtain ⟨es, clock, since, seen, c0, hb, _, _, _, hr, _⟩ := h
  exact lt_of_heap hr
theorem FnRangeD.ne {M : MapLaw P k κ α} {w : World} {b r : Nat} {f : κ → Option α} {done : List κ} {cnt : Nat} (h : FnRangeD M w b r f done cnt) : r ≠ b := by
  obtain ⟨es, clock, since, seen, c0, hb, _, _, _, hr, _⟩ := h
  rintro rfl
  rw [hb] at hr; cases hr
theorem FnRangeD.no_cells {M : MapLaw P k κ α} {w : World} {b r : Nat} {f : κ → Option α} {done : List κ} {cnt : Nat} (h : FnRangeD M w b r f done cnt) (j : Nat) (cs : Array Value) (t : TypeId) (fr : Nat × Nat) (hk : j = r) : w.heap[j]? ≠ some (.cells cs t fr) := by
  subst hk
  obtain ⟨es, clock, since, seen, c0, hb, _, _, _, hr, _⟩ := h
  rw [hr]; simp
/-- An iterator is no map. -/
theorem FnRangeD.no_map {κ' α' : Type} {k' : TypeId} {M : MapLaw P k κ α} {M' : MapLaw P k' κ' α'} {w : World} {b r b' : Nat} {f : κ → Option α} {f' : κ' → Option α'} {done : List κ} {cnt : Nat} (h : FnRangeD M w b r f done cnt) (h' : FnAt M' w b' f') : b' ≠ r := by
  rintro rfl
  obtain ⟨es, clock, since, seen, c0, hb, _, _, _, hr, _⟩ := h
  obtain ⟨es', c', hb', _⟩ := h'
  rw [hr] at hb'; cases hb'
theorem FnRangeD.out {M : MapLaw P k κ α} {F : Nat → Prop} {w w' : World} {b r : Nat} {f : κ → Option α} {done : List κ} {cnt : Nat} (h : FnRangeD M w b r f done cnt) (ho : Out F w w') (hb : ¬ F b) (hr : ¬ F r) : FnRangeD M w' b r f done cnt := by
  obtain ⟨es, clock, since, seen, c0, h1, h2, h3, h4, h5, h6⟩ := h
  exact ⟨es, clock, since, seen, c0, ho.heap h1 hb, h2, h3, h4, ho.heap h5 hr, h6⟩
theorem FnRangeD.below {M : MapLaw P k κ α} {w w' : World} {b r : Nat} {f : κ → Option α} {done : List κ} {cnt : Nat} (h : FnRangeD M w b r f done cnt) (ho : Below w.heap.size w w') : FnRangeD M w' b r f done cnt := h.out (F := fun _ => False) (Out.of ho) id id
theorem FnRangeD.congr {M : MapLaw P k κ α} {w : World} {b r : Nat} {f g : κ → Option α} {done : List κ} {cnt : Nat} (h : FnRangeD M w b r f done cnt) (e : ∀ s, f s = g s) : FnRangeD M w b r g done cnt := by
  obtain rfl : f = g := funext e
  exact h

theorem FnRangeD.next {M : MapLaw P k κ α} {w : World} {b r : Nat} {f : κ → Option α} {done : List κ} {cnt : Nat} (h : FnRangeD M w b r f done cnt) (ty : TypeId) :
    ((∀ s, f s ≠ none → s ∈ done) ∧ (Instr.next (.pointer (some ⟨r, 0, none⟩)) false ty).run P w = .ok (.tuple #[.bool false]) w) ∨
    ∃ s a w' cnt', f s = some a ∧ M.ok s ∧ s ∉ done ∧ (Instr.next (.pointer (some ⟨r, 0, none⟩)) false ty).run P w = .ok (.tuple #[.bool true, M.enc s, M.val a]) w' ∧ FnRangeD M w' b r f (done ++ [s]) cnt' ∧ cnt' < cnt ∧
      Out (fun i => i = r) w w' ∧ w'.heap.size = w.heap.size ∧ (Instr.entry (.pointer (some ⟨r, 0, none⟩))).run P w' = .ok (.tuple #[M.enc s, M.val a]) w' := by
  have hne := h.ne
  obtain ⟨es, clock, since, seen, c0, hb, h2, h3, h4, hr, hold, hsc, hsk, rfl, hnd, hseen⟩ := h
  rcases run_next_at (P := P) w ty r b since c0 seen es clock hr hb hold hsc with ⟨h0, hrun⟩ | ⟨x, hx, w1, hal, hrun⟩
  · refine Or.inl ⟨fun s hs => ?_, hrun⟩
    cases hf : f s with
    | none => exact absurd hf hs
    | some a =>
      obtain ⟨x, hx, hxe⟩ := h3 s a hf
      obtain ⟨s', hs', e⟩ := (hseen x hx).1 (all_seen es seen h0 x hx)
      rw [M.inj _ _ (hxe.symm.trans e)]; exact hs'
  · obtain ⟨hxm, hxs⟩ := mem_left hx
    obtain ⟨s, a, e1, e2, hok, hf⟩ := h2 x hxm
    have hr1 : w1.heap[r]? = some (.mapIter (some b) since seen c0) := by rcases hal with rfl | rfl <;> exact hr
    have hb1 : w1.heap[b]? = some (.map es clock) := by rcases hal with rfl | rfl <;> exact hb
    have hset := heap_set (o' := .mapIter (some b) since (seen.push x.born) clock) hr1
    have hb' : (setBlock w1 r (.mapIter (some b) since (seen.push x.born) clock)).heap[b]? = some (.map es clock) := (hset.2 b (fun e1 => hne e1.symm)).trans hb1
    have hnot : s ∉ done := fun hs => by
      have := (hseen x hxm).2 ⟨s, hs, e1⟩
      rw [hxs] at this; cases this
    rw [e1, e2] at hrun
    have hent := run_entry_at (P := P) (setBlock w1 r (.mapIter (some b) since (seen.push x.born) clock)) r b since seen es clock x hset.1 hb' hxm h4.2.1
    rw [e1, e2] at hent
    refine Or.inr ⟨s, a, _, _, hf, hok, hnot, hrun, ⟨es, clock, since, seen.push x.born, clock, hb', h2, h3, h4, hset.1, hold, hsk, hsk, rfl, ?_, ?_⟩, left_shrinks es seen x hx, ?_, ?_, hent⟩
    · rw [List.nodup_append]
      exact ⟨hnd, by simp, fun y hy z hz e => hnot (by simp at hz; rw [← hz, ← e]; exact hy)⟩
    · intro y hy
      rw [contains_push]
      constructor
      · intro hc
        simp only [Bool.or_eq_true, beq_iff_eq] at hc
        rcases hc with hc | hc
        · obtain ⟨s', hs', e⟩ := (hseen y hy).1 hc
          exact ⟨s', List.mem_append_left _ hs', e⟩
        · obtain rfl := born_inj h4.2.1 hy hxm hc
          exact ⟨s, by simp, e1⟩
      · rintro ⟨s', hs', e⟩
        simp only [Bool.or_eq_true, beq_iff_eq]
        rcases List.mem_append.1 hs' with hs' | hs'
        · exact Or.inl ((hseen y hy).2 ⟨s', hs', e⟩)
        · obtain rfl : s' = s := by simpa using hs'
          refine Or.inr ?_
          obtain rfl := entry_eq_of_key ((stamped_iff es clock).1 h4).2.2 hy hxm (e.trans e1.symm)
          rfl
    · rcases hal with rfl | rfl <;> exact ⟨rfl, rfl, rfl, by simp [setBlock], fun i _ hi => hset.2 i hi⟩
    · rcases hal with rfl | rfl <;> simp [setBlock]

/-- A key that has come goes. -/
theorem FnRangeD.drop [DecidableEq κ] {M : MapLaw P k κ α} {w : World} {b r : Nat} {f : κ → Option α} {done : List κ} {cnt : Nat} (h : FnRangeD M w b r f done cnt) (ht : P.underlying t = some (.map k e)) {s : κ} (hs : M.ok s) :
    ∃ w' cnt', (∀ ty, (Builtin.delete_ #[t, k] ty #[.map (some b), M.enc s]).run P w = .ok (.tuple #[]) w') ∧ FnRangeD M w' b r (updF f s none) done cnt' ∧ cnt' ≤ cnt ∧ Out (fun i => i = b) w w' ∧ w'.heap.size = w.heap.size := by
  have hne := h.ne
  obtain ⟨w', hrun, hf', ho, hsz⟩ := h.map.drop ht hs
  obtain ⟨es, clock, since, seen, c0, hb, h2, h3, h4, hr, hold, hsc, hsk, rfl, hnd, hseen⟩ := h
  have hr' := ho.heap hr hne
  obtain ⟨kl, hkey⟩ := M.key s hs
  rcases M.keyed.find w hkey es.toList (FnAt.keys h2) with ⟨h5, h6⟩ | ⟨j, e0, h5, h6, h7⟩
  · have hrun2 : ∀ ty, (Builtin.delete_ #[t, k] ty #[.map (some b), M.enc s]).run P w = .ok (.tuple #[]) (setBlock w b (.map es clock)) := fun ty => by
      simp [Builtin.delete_, run_underlying ht, MapKept.run_getObj_map hb, M.keyed.check w _ hkey, h5, MapKept.run_setObj_map _ hb, Result.andThen, setBlock]
    have he : w' = setBlock w b (.map es clock) := by
      have := (hrun 0).symm.trans (hrun2 0)
      simpa using this
    have hb' : w'.heap[b]? = some (.map es clock) := by rw [he]; exact heap_setBlock_same hb _
    have hfs : ∀ y, updF f s none y = f y := fun y => by
      by_cases e : y = s
      · rw [e, updF_same]
        cases hf : f s with
        | none => rfl
        | some a =>
          obtain ⟨x, hx, hxe⟩ := h3 s a hf
          exact absurd hxe (h6 x hx)
      · exact updF_other _ _ _ _ e
    refine ⟨w', _, hrun, FnRangeD.congr ⟨es, clock, since, seen, c0, hb', h2, h3, h4, hr', hold, hsc, hsk, rfl, hnd, hseen⟩ (fun y => (hfs y).symm), Nat.le_refl _, ho, hsz⟩
  · have hjl : j < es.toList.length := (List.getElem?_eq_some_iff.1 h6).1
    have hjs : j < es.size := by simpa using hjl
    have hrun2 : ∀ ty, (Builtin.delete_ #[t, k] ty #[.map (some b), M.enc s]).run P w = .ok (.tuple #[]) (setBlock w b (.map (es.eraseIdxIfInBounds j) clock)) := fun ty => by
      simp [Builtin.delete_, run_underlying ht, MapKept.run_getObj_map hb, M.keyed.check w _ hkey, h5, MapKept.run_setObj_map _ hb, Result.andThen, setBlock]
    have he : w' = setBlock w b (.map (es.eraseIdxIfInBounds j) clock) := by
      have := (hrun 0).symm.trans (hrun2 0)
      simpa using this
    have hb' : w'.heap[b]? = some (.map (es.eraseIdxIfInBounds j) clock) := by rw [he]; exact heap_setBlock_same hb _
    have hsub : (es.eraseIdxIfInBounds j).toList = es.toList.eraseIdx j := by
      unfold Array.eraseIdxIfInBounds
      rw [dif_pos hjs]
      simp
    have hsl : (es.eraseIdxIfInBounds j).toList.Sublist es.toList := by rw [hsub]; exact List.eraseIdx_sublist _ _
    obtain ⟨es1, clock1, g1, g2, g3, g4⟩ := hf'
    rw [hb'] at g1
    obtain ⟨rfl, rfl⟩ : es.eraseIdxIfInBounds j = es1 ∧ clock = clock1 := by simpa using g1
    refine ⟨w', _, hrun, ⟨_, clock, since, seen, c0, hb', g2, g3, g4, hr', fun x hx => hold x (hsl.subset hx), hsc, hsk, rfl, hnd, fun x hx => hseen x (hsl.subset hx)⟩, ?_, ho, hsz⟩
    have e1 : ∀ a : Array MapEntry, (leftOf a seen).size = (a.toList.filter fun e => !seen.contains e.born).length := fun a => by
      unfold leftOf
      rw [← Array.toList_filter, Array.length_toList]
    rw [e1, e1]
    exact (hsl.filter _).length_le
end Go.Proofs.YtjfefphgikncnaaGreatDoor
