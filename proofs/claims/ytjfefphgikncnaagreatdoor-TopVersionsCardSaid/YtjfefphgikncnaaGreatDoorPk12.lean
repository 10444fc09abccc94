/- StoreShelf, StoreBase, RowList, PowMath, PowBase, AppendArg, StoreCalls, StorePut -/
import Derived.Shelf.SlIter.Sorted
import Derived.Shelf.SlMaps.Clone
import Derived.Test.YtjfefphgikncnaaGreatDoorPk11
import Derived.Test.YtjfefphgikncnaaGreatDoorPk04
import Derived.Test.YtjfefphgikncnaaGreatDoorPk01
import Derived.Maps.AppendAt
import Derived.WalkSpells
import Derived.WalkLawsBesides
import Derived.Lib.Strings
import Derived.Test.YtjfefphgikncnaaGreatDoorChecked
import Derived.Test.YtjfefphgikncnaaGreatDoorPk02
import Derived.Test.YtjfefphgikncnaaGreatDoorPk07
import Derived.Deep.Slices
import Derived.DataReads
import Derived.OpenShut
import Derived.SizedLaws
import Derived.Lib.LaidU8
import Derived.Lib.SliceRun
import Derived.Test.YtjfefphgikncnaaGreatDoorPk09
import Derived.Deep.RegionHeld3
namespace Go.Proofs.YtjfefphgikncnaaGreatDoor
open Go.Shelf Go.RowKit Go.Maps Go.Sort
open Go.Proofs (encStr)
def laykeysE_ren : Go.Shelf.Ren := ⟨fun | 7 => 100 | 10 => 130 | n => n, fun | 23 => 114 | 26 => 9 | 3 => 154 | 28 => 151 | 0 => 0 | 27 => 150 | 33 => 90 | 4 => 4 | n => n, fun | n => n⟩
theorem laykeysE : Go.Proofs.SlLaysZ.n7 Tryz.prog laykeysE_ren := {
  mixed := by kernel_rfl
  f7 := ⟨Tryz.f100.name, by decide, Tryz.func100.trans (congrArg some (by kernel_rfl))⟩
  f10 := ⟨Tryz.f130.name, by decide, Tryz.func130.trans (congrArg some (by kernel_rfl))⟩
  t0 := Tryz.underlying0
  a0 := Tryz.isAgg0
  z0 := Tryz.sizeOf0
  v0 := Tryz.zeroValue0
  t4 := Tryz.underlying4
  a4 := Tryz.isAgg4
  z4 := Tryz.sizeOf4
  v4 := Tryz.zeroValue4
  t23 := Tryz.underlying114
  a23 := Tryz.isAgg114
  z23 := Tryz.sizeOf114
  v23 := Tryz.zeroValue114
  t26 := Tryz.underlying9
  a26 := Tryz.isAgg9
  z26 := Tryz.sizeOf9
  v26 := Tryz.zeroValue9
  t27 := Tryz.underlying150
  a27 := Tryz.isAgg150
  z27 := Tryz.sizeOf150
  v27 := Tryz.zeroValue150
  t28 := Tryz.underlying151
  a28 := Tryz.isAgg151
  z28 := Tryz.sizeOf151
  v28 := Tryz.zeroValue151
  t33 := Tryz.underlying90
  a33 := Tryz.isAgg90
  z33 := Tryz.sizeOf90
  v33 := Tryz.zeroValue90 }
def laysorted_ren : Go.Shelf.Ren := ⟨fun | 6 => 129 | 8 => 163 | 9 => 164 | 11 => 187 | 13 => 108 | 12 => 188 | 23 => 147 | 24 => 148 | 14 => 200 | 15 => 201 | 16 => 202 | 17 => 203 | 18 => 204 | 19 => 205 | 20 => 206 | 21 => 207 | 22 => 208 | 25 => 213 | 26 => 177 | 27 => 178 | 28 => 214 | 29 => 215 | 30 => 216 | 31 => 218 | n => n, fun | 26 => 9 | 28 => 151 | 24 => 28 | 0 => 0 | 3 => 3 | 37 => 163 | 48 => 167 | 50 => 196 | 4 => 4 | 40 => 188 | 39 => 187 | 45 => 131 | 5 => 5 | 9 => 9 | 51 => 219 | 55 => 223 | 57 => 236 | 58 => 237 | 33 => 90 | n => n, fun | n => n⟩
theorem laysorted : Go.Proofs.SlLaysZ.n6 Tryz.prog laysorted_ren := {
  mixed := by kernel_rfl
  f6 := ⟨Tryz.f129.name, by decide, Tryz.func129.trans (congrArg some (by kernel_rfl))⟩
  f8 := ⟨Tryz.f163.name, by decide, Tryz.func163.trans (congrArg some (by kernel_rfl))⟩
  f11 := ⟨Tryz.f187.name, by decide, Tryz.func187.trans (congrArg some (by kernel_rfl))⟩
  t0 := Tryz.underlying0
  a0 := Tryz.isAgg0
  z0 := Tryz.sizeOf0
  v0 := Tryz.zeroValue0
  t24 := Tryz.underlying28
  a24 := Tryz.isAgg28
  z24 := Tryz.sizeOf28
  v24 := Tryz.zeroValue28
  t26 := Tryz.underlying9
  a26 := Tryz.isAgg9
  z26 := Tryz.sizeOf9
  v26 := Tryz.zeroValue9
  t28 := Tryz.underlying151
  a28 := Tryz.isAgg151
  z28 := Tryz.sizeOf151
  v28 := Tryz.zeroValue151
  i26 := by kernel_rfl }
/-- slices.Sort's two contracts, as slices.Sorted leans on them. -/
theorem sortsIn (m : Nat) : AnyZ.SortsIn Tryz.prog laysorted_ren Fence.wide m :=
  ⟨fun blk off cap ss W hH hblk hsz => callsIn_wide.2 (shelf_slices_Sort_string blk off cap ss W hH hblk hsz),
   fun p cap W => callsIn_wide.2 (shelf_slices_Sort_string_none p cap W)⟩
theorem shelf_keysE (mb : Option Nat) (w : World) :
    Calls Tryz.prog 100 #[.map mb] w fun e w' => e = .returned (.func (.func 130) #[] #[.pointer (some ⟨w.heap.size, 0, none⟩)]) ∧ w' = w.alloc (.cells #[.map mb] 114) :=
  (callsIn_wide (n := 5)).1 (AnyZ.keys_in laykeysE Fence.wide 5 trivial rfl mb w)
def SortedPost (S : List (List UInt8) → Prop) (w : World) (e : Ending) (w' : World) : Prop := ∃ (v : Value) (ss : List (List UInt8)), e = .returned v ∧ S ss ∧
  w'.ownsRow w.heap.size 9 1 v ss.length ((ss.mergeSort (fun x y => decide (x ≤ y))).map encStr) ∧ (v = .slice none 0 0 ↔ ss = []) ∧ Below w.heap.size w w'
set_option maxHeartbeats 1000000 in
theorem shelf_sortedE {H : Type} (b nn q : Nat) (D0 : DataW H) (R : Value → Option (DataW H × List MemPlace)) (w : World) (hown : w.ownsMap Tryz.prog 9 R b nn D0) (hq : w.cell? ⟨q, 0, none⟩ = some (.map (some b))) (hmax : Maps.size D0 ≤ maxLen) (hbytes : Maps.size D0 * 16 ≤ 140737488355328) :
    Calls Tryz.prog 129 #[.func (.func 130) #[] #[.pointer (some ⟨q, 0, none⟩)]] w (SortedPost (fun ss => ss.Perm (strKeys D0)) w) := by
  have hseq : SeqGives Fence.wide 2 Tryz.prog 130 #[.pointer (some ⟨q, 0, none⟩)] encStr (fun ss => ss.Perm (strKeys D0)) (Maps.size D0) w :=
    AnyZ.keys_gives (ρ := laykeysE_ren) { laykeysE with } Fence.wide _ trivial rfl (by omega) q b nn D0 w (World.block_lt_of_cell? _ _ hq) hq hown
  exact (callsIn_wide (n := 5)).1 (AnyZ.sorted_in laysorted Fence.wide 5 trivial trivial trivial trivial rfl (by omega) (sortsIn _) (enters_of Tryz.func164 (by kernel_rfl) rfl) 130 #[.pointer (some ⟨q, 0, none⟩)] trivial (enters_of Tryz.func130 (by kernel_rfl) rfl) _ _ hmax hbytes _ hseq)
end Go.Proofs.YtjfefphgikncnaaGreatDoor
namespace Go.Proofs.YtjfefphgikncnaaGreatDoor
open Go.RowKit Go.Maps Go.WideShapes
open Go.WideElems (Fit rd rg rd_mk rg_of)
open Go.Proofs.YtjfefphgikncnaaGreatDoor.Sto (St)
open Go.Proofs (encStr)

def storeMap : MapLaw Tryz.prog 9 (List UInt8) (List UInt8) := ⟨fun s => .string ⟨s.toArray⟩, fun t => .agg #[.string ⟨t.toArray⟩], fun s => s.length ≤ 140737488351232, lawS, keyS, fun _ _ h => str_inj h⟩
def setMap : MapLaw Tryz.prog 9 (List UInt8) Unit := ⟨fun s => .string ⟨s.toArray⟩, fun _ => .agg #[], fun s => s.length ≤ 140737488351232, lawS, keyS, fun _ _ h => str_inj h⟩
set_option maxRecDepth 100000 in
theorem zeroEntry (w : World) : (zeroValue 154).run Tryz.prog w = .ok (.agg #[.string ⟨#[]⟩]) w := by kernel_rfl
set_option maxRecDepth 100000 in
theorem zeroUnit (w : World) : (zeroValue 119).run Tryz.prog w = .ok (.agg #[]) w := by kernel_rfl

/-- The store in block g, its map in block m, has the texts S. -/
structure StoreAt (w : World) (g m : Nat) (S : St) : Prop where
  head : w.heap[g]? = some (.cells #[.map (some m)] 116 (0, 0))
  map : FnAt storeMap w m (Sto.look S)
  rise : Sto.Rising S
  short : ∀ p ∈ S, p.1.length ≤ 32 ∧ p.2.length ≤ 1000
theorem StoreAt.cell {w : World} {g m : Nat} {S : St} (h : StoreAt w g m S) : w.cell? ⟨g, 0, none⟩ = some (.map (some m)) := cell_of_row _ _ _ _ _ _ h.head
theorem StoreAt.out {F : Nat → Prop} {w w' : World} {g m : Nat} {S : St} (h : StoreAt w g m S) (ho : Out F w w') (hg : ¬ F g) (hm : ¬ F m) : StoreAt w' g m S := ⟨ho.heap h.head hg, h.map.out ho hm, h.rise, h.short⟩
theorem StoreAt.below {w w' : World} {g m : Nat} {S : St} (h : StoreAt w g m S) (hb : Below w.heap.size w w') : StoreAt w' g m S := h.out (F := fun _ => False) (Out.of hb) id id
theorem StoreAt.ne {w : World} {g m g' m' : Nat} {S T : St} (h : StoreAt w g m S) (k : StoreAt w g' m' T) : g ≠ m' := by
  rintro rfl
  exact k.map.no_cells _ _ _ _ rfl h.head
theorem StoreAt.glt {w : World} {g m : Nat} {S : St} (h : StoreAt w g m S) : g < w.heap.size := lt_of_heap h.head
theorem StoreAt.mlt {w : World} {g m : Nat} {S : St} (h : StoreAt w g m S) : m < w.heap.size := h.map.lt
theorem Sto.short_look {S : St} (hS : Sto.Rising S) (h : ∀ p ∈ S, p.1.length ≤ 32 ∧ p.2.length ≤ 1000) {x t : List UInt8} (hl : Sto.look S x = some t) : x.length ≤ 32 ∧ t.length ≤ 1000 := h _ ((Sto.look_mem hS x t).1 hl)

/-- A map of strings, in the kit's word: what its keys are, in whatever order. -/
theorem FnAt.owns {α : Type} (M : MapLaw Tryz.prog 9 (List UInt8) α) (hM : ∀ s, M.enc s = .string ⟨s.toArray⟩) {w : World} {b : Nat} {f : List UInt8 → Option α} (h : FnAt M w b f) (L : List (List UInt8)) (hL : ∀ x, f x ≠ none → x ∈ L) (hl : L.length ≤ 1000000) :
    ∃ D : DataW Unit, w.ownsMap Tryz.prog 9 (fun _ => some (.lit (.bool true), [])) b 1000000 D ∧ Maps.size D ≤ 1000000 ∧ ∀ ss : List (List UInt8), ss.Perm (strKeys D) → ss.Nodup ∧ ∀ x, x ∈ ss ↔ f x ≠ none := by
  obtain ⟨es, clock, hb, h2, h3, h4⟩ := h
  have hex : ∀ l : List MapEntry, (∀ x ∈ l, ∃ s a, x.key = M.enc s ∧ x.val = M.val a ∧ M.ok s ∧ f s = some a) → ∃ ks : List (List UInt8), l.map (·.key) = ks.map M.enc ∧ (∀ s ∈ ks, f s ≠ none) ∧ (l.map (rg (H := Unit) Tryz.prog 9 (fun _ => some (.lit (.bool true), [])))).map (fun p => strOf p.1) = ks ∧ ∀ x ∈ l, ∃ y, rd (H := Unit) Tryz.prog 9 (fun _ => some (.lit (.bool true), [])) x = some y := by
    intro l
    induction l with
    | nil => exact fun _ => ⟨[], rfl, fun s hs => (by cases hs), rfl, fun x hx => (by cases hx)⟩
    | cons x r ih =>
      intro hl
      obtain ⟨ks, e1, e2, e3, e4⟩ := ih fun y hy => hl y (List.mem_cons_of_mem _ hy)
      obtain ⟨s, a, q1, _, q3, q2⟩ := hl x (List.mem_cons_self ..)
      obtain ⟨kl, hk⟩ := M.key s q3
      have hk' := hk
      rw [hM s] at hk'
      obtain ⟨y, ey, rfl, _⟩ := Maps.keyOf_str Tryz.underlying9 hk'
      obtain rfl : s = y := str_inj ey
      have hr : rd (H := Unit) Tryz.prog 9 (fun _ => some (.lit (.bool true), [])) x = some (.string s, .lit (.bool true)) := by
        obtain ⟨xk, xv, xb⟩ := x
        dsimp only at q1
        subst q1
        exact rd_mk (R := fun _ => some (DataW.lit (.bool true), [])) (yv := (DataW.lit (.bool true), [])) hk rfl
      refine ⟨s :: ks, by simp [e1, q1], fun s' hs' => ?_, ?_, fun z hz => ?_⟩
      · rcases List.mem_cons.1 hs' with rfl | hs'
        · rw [q2]; simp
        · exact e2 s' hs'
      · rw [List.map_cons, List.map_cons, e3, rg_of hr]
        rfl
      · rcases List.mem_cons.1 hz with rfl | hz
        · exact ⟨_, hr⟩
        · exact e4 z hz
  obtain ⟨ks, e1, e2, e3, e4⟩ := hex es.toList h2
  have hlen : ks.length = es.size := by
    have := congrArg List.length e1
    simpa using this.symm
  have hnd : ks.Nodup := by
    have h5 := h4.2.2
    rw [e1] at h5
    exact List.Pairwise.imp (fun {a b} hab => fun (e : a = b) => hab (by rw [e])) (List.pairwise_map.1 h5)
  have hall : ∀ s, s ∈ ks ↔ f s ≠ none := fun s => ⟨e2 s, fun hs => by
    cases hf : f s with
    | none => exact absurd hf hs
    | some a =>
      obtain ⟨x, hx, hxe⟩ := h3 s a hf
      have : x.key ∈ ks.map M.enc := e1 ▸ List.mem_map.2 ⟨x, hx, rfl⟩
      obtain ⟨s', hs', e⟩ := List.mem_map.1 this
      rw [M.inj _ _ (hxe.symm.trans e.symm)]; exact hs'⟩
  have hsz : es.size ≤ 1000000 := by
    have := Sto.le_of_sub (M := L) hnd fun x hx => hL x ((hall x).1 hx)
    omega
  refine ⟨_, ⟨es, clock, hb, ⟨by unfold maxLen; omega, h4, e4⟩, hsz, rfl⟩, ?_, fun ss hp => ?_⟩
  · simp only [Maps.size, length_sorted]
    simpa using hsz
  · have hp2 : ss.Perm ks := by
      refine hp.trans ?_
      rw [← e3]
      exact (sorted_perm _).map _
    exact ⟨hp2.nodup_iff.2 hnd, fun x => by rw [hp2.mem_iff, hall]⟩
theorem map_enc (L : List (List UInt8)) : L.map encStr = scells L := by
  unfold scells
  refine List.map_congr_left fun x _ => ?_
  rfl
/-- The keys in rising order, in a row of the call's own. -/
def RisePost {α : Type} (f : List UInt8 → Option α) (w : World) (e : Ending) (w' : World) : Prop :=
  ∃ v K, e = .returned v ∧ Own w' w.heap.size v K ∧ K.Pairwise (· < ·) ∧ (∀ x, x ∈ K ↔ f x ≠ none) ∧ Below w.heap.size w w'
theorem sort_rise {ss : List (List UInt8)} (h : ss.Nodup) : (ss.mergeSort fun x y => decide (x ≤ y)).Pairwise (· < ·) := by
  have h1 : (ss.mergeSort fun x y => decide (x ≤ y)).Pairwise (fun a b => decide (a ≤ b) = true) := List.pairwise_mergeSort (fun a b c h1 h2 => by
    simp only [decide_eq_true_eq] at *; exact List.le_trans h1 h2) (fun a b => by
    simp only [Bool.or_eq_true, decide_eq_true_eq]; exact List.le_total a b) ss
  have h2 : (ss.mergeSort fun x y => decide (x ≤ y)).Nodup := (List.mergeSort_perm ss _).nodup_iff.2 h
  refine (h1.and h2).imp fun {a b} hab => ?_
  obtain ⟨h3, h4⟩ := hab
  rcases List.le_iff_lt_or_eq.1 (of_decide_eq_true h3) with h5 | h5
  · exact h5
  · exact absurd h5 h4
theorem risePost_of {α : Type} {f : List UInt8 → Option α} {D : DataW Unit} (hD : ∀ ss : List (List UInt8), ss.Perm (strKeys D) → ss.Nodup ∧ ∀ x, x ∈ ss ↔ f x ≠ none) {w : World} {e : Ending} {w' : World} (h : SortedPost (fun ss => ss.Perm (strKeys D)) w e w') : RisePost f w e w' := by
  obtain ⟨v, ss, rfl, hp, hown, _, hb⟩ := h
  obtain ⟨hn, hm⟩ := hD ss hp
  refine ⟨v, _, rfl, ?_, sort_rise hn, fun x => by rw [(List.mergeSort_perm ss _).mem_iff]; exact hm x, hb⟩
  unfold Own
  rw [← map_enc, List.length_mergeSort]
  exact hown
theorem sortedE_any {f : List UInt8 → Option (List UInt8)} {b q : Nat} {w : World} (h : FnAt storeMap w b f) (hq : w.cell? ⟨q, 0, none⟩ = some (.map (some b))) (L : List (List UInt8)) (hL : ∀ x, f x ≠ none → x ∈ L) (hl : L.length ≤ 1000000) :
    Calls Tryz.prog 129 #[.func (.func 130) #[] #[.pointer (some ⟨q, 0, none⟩)]] w (RisePost f w) := by
  obtain ⟨D, h1, h2, h3⟩ := h.owns storeMap (fun _ => rfl) L hL hl
  exact (shelf_sortedE b _ q D _ w h1 hq (by unfold maxLen; omega) (by omega)).mono fun _ _ h => risePost_of h3 h
end Go.Proofs.YtjfefphgikncnaaGreatDoor
namespace Go.Proofs.YtjfefphgikncnaaGreatDoor
open Go.RowKit

theorem wpList_append_run {P : Program} {w w' : World} {ops : Array Oper} {rest : List Oper} {o : Oper} {a : Act} {Q : Exit → Act → World → Prop} (hg : o.guard = none) (s x : Operand) (t : TypeId) (hop : o.op = Op.call { callee := Callee.builtin Builtin.append, args := #[s, x], argTypes := #[t, t] })
    (sv xv r : Value) (hs : a.eval s = sv) (hx : a.eval x = xv) (hrun : (Builtin.append_ #[t, t] o.type #[sv, xv]).run P w = .ok r w') (hK : wpList P ops Q rest (a.put o.dst r) w') :
    wpList P ops Q (o :: rest) a w := by
  refine wpList_plain hg fun K' hK' => ?_
  unfold Oper.wp
  simp [execOp, hop, resolve, invoke, builtin, hs, hx, hrun, Result.andThen]
  exact hK' _ _ hK

def rowsL {α : Type} (f : α → List Value) (L : List α) : List Value := L.flatMap f
theorem rowsL_length {α : Type} {f : α → List Value} {c : Nat} (hf : ∀ a, (f a).length = c) (L : List α) : (rowsL f L).length = L.length * c := by
  induction L with
  | nil => simp [rowsL]
  | cons a L ih =>
    have e : rowsL f (a :: L) = f a ++ rowsL f L := by simp [rowsL]
    rw [e, List.length_append, ih, hf, List.length_cons, Nat.succ_mul, Nat.add_comm]
theorem rowsL_append {α : Type} (f : α → List Value) (S T : List α) : rowsL f (S ++ T) = rowsL f S ++ rowsL f T := by simp [rowsL]
theorem rowsL_at {α : Type} {f : α → List Value} {c : Nat} (hf : ∀ a, (f a).length = c) (S : List α) (i j : Nat) (hi : i < S.length) (hj : j < c) : (rowsL f S)[i * c + j]? = (f S[i])[j]? := by
  induction S generalizing i with
  | nil => simp at hi
  | cons a L ih =>
    have e : rowsL f (a :: L) = f a ++ rowsL f L := by simp [rowsL]
    rw [e]
    cases i with
    | zero =>
      rw [List.getElem?_append_left (by rw [hf]; omega)]
      simp
    | succ i =>
      rw [List.getElem?_append_right (by rw [hf, Nat.succ_mul]; omega)]
      have : (i + 1) * c + j - (f a).length = i * c + j := by rw [hf, Nat.succ_mul]; omega
      rw [this, ih i (by simpa using hi)]
      simp
theorem rowsL_one {α : Type} {f : α → List Value} (h : ∀ a, ∀ u ∈ f a, u.oneCell' = true) (S : List α) : ∀ u ∈ rowsL f S, u.oneCell' = true := by
  intro u hu
  obtain ⟨n, _, hn⟩ := List.mem_flatMap.1 hu
  exact h n u hn
/-- A slice that has the things S. -/
def RowsAt {α : Type} (ty : TypeId) (c : Nat) (f : α → List Value) (w : World) (v : Value) (S : List α) : Prop :=
  ∃ (A : Option Addr) (cap : Nat), v = .slice A S.length cap ∧ S.length ≤ cap ∧ (S = [] → A = none ∧ cap = 0 ∨ ∃ b o, A = some ⟨b, o, none⟩) ∧ (0 < S.length → ∃ b o, A = some ⟨b, o, none⟩ ∧ (∃ cs fl, w.heap[b]? = some (.cells cs ty fl)) ∧ ∀ i (h : i < S.length) j u, (f S[i])[j]? = some u → w.cell? ⟨b, o + i * c + j, none⟩ = some u)
theorem RowsAt.nil {α : Type} (ty : TypeId) (c : Nat) (f : α → List Value) (w : World) : RowsAt ty c f w (.slice none 0 0) [] := ⟨none, 0, rfl, Nat.le_refl _, fun _ => Or.inl ⟨rfl, rfl⟩, fun h => absurd h (by simp)⟩
theorem RowsAt.form {α : Type} {ty : TypeId} {c : Nat} {f : α → List Value} {w : World} {v : Value} {S : List α} (h : RowsAt ty c f w v S) : ∃ A cap, v = .slice A S.length cap ∧ S.length ≤ cap ∧ ((S = [] ∧ A = none ∧ cap = 0) ∨ ∃ b o, A = some ⟨b, o, none⟩) := by
  obtain ⟨A, cap, rfl, hc, h0, h1⟩ := h
  refine ⟨A, cap, rfl, hc, ?_⟩
  by_cases hs : S = []
  · exact (h0 hs).imp (fun h => ⟨hs, h⟩) id
  · obtain ⟨b, o, rfl, _⟩ := h1 (List.length_pos_iff.2 hs)
    exact Or.inr ⟨b, o, rfl⟩
theorem RowsAt.outF {α : Type} {ty : TypeId} {c : Nat} {f : α → List Value} {F : Nat → Prop} {w w' : World} {v : Value} {S : List α} (h : RowsAt ty c f w v S) (ho : Out F w w') (hF : ∀ k cs fl, F k → w.heap[k]? ≠ some (.cells cs ty fl)) : RowsAt ty c f w' v S := by
  obtain ⟨A, cap, rfl, hc, h0, h1⟩ := h
  refine ⟨A, cap, rfl, hc, h0, fun hp => ?_⟩
  obtain ⟨b, o, rfl, ⟨cs, fl, hh⟩, hcell⟩ := h1 hp
  have hb : ¬ F b := fun hf => hF b cs fl hf hh
  exact ⟨b, o, rfl, ⟨cs, fl, ho.heap hh hb⟩, fun i hi j u hu => ho.cell (hcell i hi j u hu) hb⟩
theorem RowsAt.below {α : Type} {ty : TypeId} {c : Nat} {f : α → List Value} {w w' : World} {v : Value} {S : List α} (h : RowsAt ty c f w v S) (hb : Below w.heap.size w w') : RowsAt ty c f w' v S := h.outF (F := fun _ => False) (Out.of hb) fun _ _ _ hf => hf.elim
theorem RowsAt.at {α : Type} {ty : TypeId} {c : Nat} {f : α → List Value} {w : World} {A : Option Addr} {n cap : Nat} {S : List α} (h : RowsAt ty c f w (.slice A n cap) S) (k : Nat) (hk : k < S.length) :
    ∃ b o, A = some ⟨b, o, none⟩ ∧ ∀ j u, (f S[k])[j]? = some u → w.cell? ⟨b, o + k * c + j, none⟩ = some u := by
  obtain ⟨A', cap', hv, _, _, h1⟩ := h
  obtain ⟨rfl, _⟩ : A = A' ∧ _ := by simpa using hv
  obtain ⟨b, o, rfl, _, hcell⟩ := h1 (by omega)
  exact ⟨b, o, rfl, hcell k hk⟩
theorem RowsAt.own {α : Type} {ty : TypeId} {c : Nat} {f : α → List Value} (hf : ∀ a, (f a).length = c) {w : World} {B : Nat} {v : Value} {S : List α} (h : w.ownsRow B ty c v S.length (rowsL f S)) : RowsAt ty c f w v S := by
  rcases h.2 with ⟨rfl, h0⟩ | ⟨g, cap, cur, rfl, hB, hh, hn, _⟩
  · obtain rfl : S = [] := List.eq_nil_of_length_eq_zero h0
    exact RowsAt.nil ty c f w
  · refine ⟨_, cap, rfl, hn, fun _ => Or.inr ⟨_, _, rfl⟩, fun h0 => ⟨g, 0, rfl, ⟨_, _, hh⟩, fun i hi j u hu => ?_⟩⟩
    have hj : j < c := by rw [← hf S[i]]; exact (List.getElem?_eq_some_iff.1 hu).1
    have := h.cells (g := g) rfl (i * c + j) u (by rw [rowsL_at hf S i j hi hj]; exact hu)
    rw [Addr.add_mid] at this; rw [Nat.zero_add]; simpa using this
theorem RowsAt.take {α : Type} {ty : TypeId} {c : Nat} {f : α → List Value} {w : World} {A : Option Addr} {n cap : Nat} {S : List α} (h : RowsAt ty c f w (.slice A n cap) S) (k : Nat) (hk : k ≤ S.length) : RowsAt ty c f w (.slice A k cap) (S.take k) := by
  obtain ⟨A', cap', hv, hcap, h0, h1⟩ := h
  obtain ⟨rfl, rfl, rfl⟩ : A = A' ∧ n = S.length ∧ cap = cap' := by simpa using hv
  have hl : (S.take k).length = k := by simp; omega
  refine ⟨A, cap, by rw [hl], by omega, fun _ => ?_, fun hp => ?_⟩
  · by_cases hs : S = []
    · exact h0 hs
    · obtain ⟨b, o, rfl, _⟩ := h1 (List.length_pos_iff.2 hs)
      exact Or.inr ⟨b, o, rfl⟩
  · obtain ⟨b, o, rfl, hlt, hcell⟩ := h1 (by omega)
    refine ⟨b, o, rfl, hlt, fun i hi j u hu => ?_⟩
    rw [hl] at hi
    exact hcell i (by omega) j u (by simpa using hu)
theorem RowsAt.drop {α : Type} {ty : TypeId} {c : Nat} {f : α → List Value} {w : World} {b o n cap : Nat} {S : List α} (h : RowsAt ty c f w (.slice (some ⟨b, o, none⟩) n cap) S) (k : Nat) (hk : k ≤ S.length) (b' o' : Nat) (hbo : k < S.length → b' = b ∧ o' = o + k * c) : RowsAt ty c f w (.slice (some ⟨b', o', none⟩) (n - k) (cap - k)) (S.drop k) := by
  obtain ⟨A', cap', hv, hcap, h0, h1⟩ := h
  obtain ⟨rfl, rfl, rfl⟩ : some ⟨b, o, none⟩ = A' ∧ n = S.length ∧ cap = cap' := by simpa using hv
  have hl : (S.drop k).length = S.length - k := by simp
  refine ⟨_, _, by rw [hl], by omega, fun _ => Or.inr ⟨_, _, rfl⟩, fun hp => ?_⟩
  rw [hl] at hp
  have hp1 : k < S.length := by omega
  have hp2 : 0 < S.length := by omega
  obtain ⟨rfl, rfl⟩ := hbo hp1
  obtain ⟨b2, o2, he, hlt, hcell⟩ := h1 hp2
  cases he
  refine ⟨_, _, rfl, hlt, fun i hi j u hu => ?_⟩
  have hki : k + i < S.length := by rw [hl] at hi; clear hcell hlt h1 h0; omega
  have := hcell (k + i) hki j u (by simpa using hu)
  rw [Nat.add_mul, ← Nat.add_assoc] at this
  exact this
/-- A slice that has the things S, in a block of any type. -/
def RowsIn {α : Type} (c : Nat) (f : α → List Value) (w : World) (v : Value) (S : List α) : Prop :=
  ∃ (A : Option Addr) (cap : Nat), v = .slice A S.length cap ∧ S.length ≤ cap ∧ (S = [] → A = none ∧ cap = 0 ∨ ∃ b o, A = some ⟨b, o, none⟩) ∧ (0 < S.length → ∃ b o, A = some ⟨b, o, none⟩ ∧ b < w.heap.size ∧ ∀ i (h : i < S.length) j u, (f S[i])[j]? = some u → w.cell? ⟨b, o + i * c + j, none⟩ = some u)
theorem RowsAt.inn {α : Type} {ty : TypeId} {c : Nat} {f : α → List Value} {w : World} {v : Value} {S : List α} (h : RowsAt ty c f w v S) : RowsIn c f w v S := by
  obtain ⟨A, cap, rfl, hc, h0, h1⟩ := h
  refine ⟨A, cap, rfl, hc, h0, fun hp => ?_⟩
  obtain ⟨b, o, rfl, ⟨cs, fl, hh⟩, hcell⟩ := h1 hp
  exact ⟨b, o, rfl, lt_of_heap hh, hcell⟩
theorem RowsIn.form {α : Type} {c : Nat} {f : α → List Value} {w : World} {v : Value} {S : List α} (h : RowsIn c f w v S) : ∃ A cap, v = .slice A S.length cap ∧ S.length ≤ cap ∧ ((S = [] ∧ A = none ∧ cap = 0) ∨ ∃ b o, A = some ⟨b, o, none⟩) := by
  obtain ⟨A, cap, rfl, hc, h0, h1⟩ := h
  refine ⟨A, cap, rfl, hc, ?_⟩
  by_cases hs : S = []
  · exact (h0 hs).imp (fun h => ⟨hs, h⟩) id
  · obtain ⟨b, o, rfl, _⟩ := h1 (List.length_pos_iff.2 hs)
    exact Or.inr ⟨b, o, rfl⟩
theorem RowsIn.below {α : Type} {c : Nat} {f : α → List Value} {w w' : World} {v : Value} {S : List α} (h : RowsIn c f w v S) (hb : Below w.heap.size w w') : RowsIn c f w' v S := by
  obtain ⟨A, cap, rfl, hc, h0, h1⟩ := h
  refine ⟨A, cap, rfl, hc, h0, fun hp => ?_⟩
  obtain ⟨b, o, rfl, hlt, hcell⟩ := h1 hp
  exact ⟨b, o, rfl, Nat.lt_of_lt_of_le hlt hb.size, fun i hi j u hu => (hb.cell hlt).trans (hcell i hi j u hu)⟩
theorem RowsIn.at {α : Type} {c : Nat} {f : α → List Value} {w : World} {A : Option Addr} {n cap : Nat} {S : List α} (h : RowsIn c f w (.slice A n cap) S) (k : Nat) (hk : k < S.length) :
    ∃ b o, A = some ⟨b, o, none⟩ ∧ ∀ j u, (f S[k])[j]? = some u → w.cell? ⟨b, o + k * c + j, none⟩ = some u := by
  obtain ⟨A', cap', hv, _, _, h1⟩ := h
  obtain ⟨rfl, _⟩ : A = A' ∧ _ := by simpa using hv
  obtain ⟨b, o, rfl, _, hcell⟩ := h1 (by omega)
  exact ⟨b, o, rfl, hcell k hk⟩
theorem run_append_nothing_rows {c : Nat} (sty ty : TypeId) (hu : Tryz.prog.underlying sty = some (.slice ty)) (hsz : ∀ w, (sizeOf ty).run Tryz.prog w = .ok c w) (w : World) (v : Value) (n k B : Nat) (xs : List Value) (h : w.ownsRow B ty c v n xs) (tt : TypeId) : (Builtin.append_ #[sty, sty] tt #[v, .slice none 0 k]).run Tryz.prog w = .ok v w := by
  rcases h.2 with ⟨rfl, rfl⟩ | ⟨g, cap, cur, rfl, hB, hh, hn, _⟩
  · simp [Builtin.append_, run_underlying hu, hsz, Builtin.lenOf, Builtin.firstCells, Result.andThen]
  · simp [Builtin.append_, run_underlying hu, hsz, Builtin.lenOf, Builtin.firstCells, Result.andThen, hn, storeCells]
/-- All of a slice behind a row of the call's own. -/
theorem append_rowsIn {α : Type} {f : α → List Value} {c : Nat} {w : World} {v s : Value} {S : List α} {B n : Nat} {xs : List Value} (sty ty : TypeId) (i0 : TypeInfo) (z : Value) (by_ : Nat)
    (hu : Tryz.prog.underlying sty = some (.slice ty)) (hsz : ∀ w, (sizeOf ty).run Tryz.prog w = .ok c w)
    (hi : Tryz.prog.info? ty = some i0) (hz0 : i0.zero = some z) (hz1 : i0.size = c) (hz2 : i0.bytes = by_) (hz : z.cells.size = c) (hc0 : 0 < c) (hby : by_ ≤ 1000)
    (hf : ∀ a, (f a).length = c) (h1 : ∀ a, ∀ u ∈ f a, u.oneCell' = true)
    (hv : RowsIn c f w v S) (hs : w.ownsRow B ty c s n xs) (hl : n + S.length ≤ 1000000) (hB : B ≤ w.heap.size) :
    ∃ v' w', (Builtin.append_ #[sty, sty] sty #[s, v]).run Tryz.prog w = .ok v' w' ∧ w'.ownsRow B ty c v' (n + S.length) (xs ++ rowsL f S) ∧ w.grownBy w' s.ownBlock ∧ (v'.ownBlock = s.ownBlock ∨ v'.ownBlock = some w.heap.size) := by
  obtain ⟨A, cap, rfl, -, -, hc⟩ := hv
  cases A with
  | none =>
    have h0 : S.length = 0 := by
      by_cases h : S.length = 0
      · exact h
      · obtain ⟨b, o, ha, _⟩ := hc (by omega)
        cases ha
    obtain rfl : S = [] := List.eq_nil_of_length_eq_zero h0
    exact ⟨s, w, run_append_nothing_rows sty ty hu hsz w s n cap B xs hs _, by simpa [rowsL] using hs, ⟨rfl, rfl, rfl, Nat.le_refl _, fun _ _ _ => rfl⟩, Or.inl rfl⟩
  | some a =>
    have hbytes : (n + S.length) * by_ ≤ 140737488355328 := Nat.le_trans (Nat.mul_le_mul hl hby) (by omega)
    obtain ⟨v', w', h1, h2, h3, _, h5⟩ := run_append_own_at (P := Tryz.prog) w B sty sty ty i0 z c by_ hu hi hz0 hz1 hz2 hz hc0 s n xs hs a S.length cap (rowsL f S) (rowsL_length hf S)
      (fun j u hu => by
        have hj : j < S.length * c := by
          have := (List.getElem?_eq_some_iff.1 hu).1
          rwa [rowsL_length hf] at this
        have hS : 0 < S.length := Nat.pos_of_ne_zero fun e => by rw [e, Nat.zero_mul] at hj; omega
        obtain ⟨b, o, hb, _, hcell⟩ := hc hS
        cases hb
        have hi' : j / c < S.length := (Nat.div_lt_iff_lt_mul hc0).2 hj
        have hr : j % c < c := Nat.mod_lt _ hc0
        have hjj : j / c * c + j % c = j := by rw [Nat.mul_comm]; exact Nat.div_add_mod j c
        have e := rowsL_at hf S (j / c) (j % c) hi' hr
        rw [hjj, hu] at e
        have := hcell (j / c) hi' (j % c) u e.symm
        rw [Addr.add_mid]
        rw [Nat.add_assoc, hjj] at this
        exact this) (rowsL_one h1 S) (by unfold maxLen; omega) hbytes hB
    exact ⟨v', w', h1, h2, h3, h5⟩
end Go.Proofs.YtjfefphgikncnaaGreatDoor
namespace Go.Proofs.YtjfefphgikncnaaGreatDoor.Pw

abbrev S := List UInt8
structure M where
  name : S
  power : Int
instance : Inhabited M := ⟨⟨[], 0⟩⟩
theorem M.ext' {a b : M} (h : a.name = b.name) (k : a.power = b.power) : a = b := by cases a; cases b; simp_all
instance : DecidableEq M := fun a b =>
  if h : a.name = b.name ∧ a.power = b.power then isTrue (M.ext' h.1 h.2) else isFalse (fun e => h (by subst e; exact ⟨rfl, rfl⟩))

def okM (p : S) (m : M) : Bool := decide (p < m.name) && decide (m.name.length ≤ 6) && decide (1 ≤ m.power) && decide (m.power ≤ 1000)
def okFrom : S → List M → Bool
  | _, [] => true
  | p, m :: t => okM p m && okFrom m.name t
def okL (L : List M) : Bool := decide (1 ≤ L.length) && decide (L.length ≤ 7) && okFrom [] L
theorem lt_nil (s : S) : ([] < s) ↔ s ≠ [] := by cases s <;> simp
/-- What a set that may be is. -/
theorem okFrom_mem {p : S} {L : List M} (h : okFrom p L = true) : ∀ m ∈ L, p < m.name ∧ m.name.length ≤ 6 ∧ 1 ≤ m.power ∧ m.power ≤ 1000 := by
  induction L generalizing p with
  | nil => simp
  | cons a L ih =>
    simp only [okFrom, okM, Bool.and_eq_true, decide_eq_true_eq] at h
    intro m hm
    rcases List.mem_cons.1 hm with rfl | hm
    · exact ⟨h.1.1.1.1, h.1.1.1.2, h.1.1.2, h.1.2⟩
    · have := ih h.2 m hm
      exact ⟨List.lt_trans h.1.1.1.1 this.1, this.2⟩
theorem okFrom_pair {p : S} {L : List M} (h : okFrom p L = true) : L.Pairwise (fun a b => a.name < b.name) := by
  induction L generalizing p with
  | nil => exact .nil
  | cons a L ih =>
    simp only [okFrom, Bool.and_eq_true] at h
    exact .cons (fun b hb => (okFrom_mem h.2 b hb).1) (ih h.2)
theorem okL_mem {L : List M} (h : okL L = true) : ∀ m ∈ L, m.name ≠ [] ∧ m.name.length ≤ 6 ∧ 1 ≤ m.power ∧ m.power ≤ 1000 := by
  simp only [okL, Bool.and_eq_true] at h
  intro m hm
  have := okFrom_mem h.2 m hm
  exact ⟨(lt_nil _).1 this.1, this.2⟩
theorem okL_pair {L : List M} (h : okL L = true) : L.Pairwise (fun a b => a.name < b.name) := by
  simp only [okL, Bool.and_eq_true] at h
  exact okFrom_pair h.2
theorem okL_len {L : List M} (h : okL L = true) : 1 ≤ L.length ∧ L.length ≤ 7 := by
  simp only [okL, Bool.and_eq_true, decide_eq_true_eq] at h
  exact h.1
def sumP (L : List M) : Int := L.foldr (fun m n => m.power + n) 0
theorem sumP_range {L : List M} (h : ∀ m ∈ L, 1 ≤ m.power ∧ m.power ≤ 1000) : (L.length : Int) ≤ sumP L ∧ sumP L ≤ 1000 * L.length := by
  induction L with
  | nil => simp [sumP]
  | cons m L ih =>
    have h1 := ih (fun x hx => h x (List.mem_cons_of_mem _ hx))
    have h2 := h m (List.mem_cons_self ..)
    simp only [sumP, List.foldr_cons, List.length_cons] at h1 ⊢
    omega
def tot (L : List M) : Nat := if okL L then (sumP L).toNat else 0
def quo (L : List M) : Nat := if tot L = 0 then 0 else 2 * tot L / 3 + 1
def mos (L : List M) : Nat := (tot L - 1) / 3
theorem tot_range (L : List M) : tot L ≤ 7000 ∧ (okL L = true → 1 ≤ tot L ∧ (tot L : Int) = sumP L) ∧ (okL L = false → tot L = 0) := by
  unfold tot
  cases h : okL L with
  | false => simp
  | true =>
    have h1 := sumP_range (L := L) (fun m hm => (okL_mem h m hm).2.2)
    have h2 := okL_len h
    simp
    omega

/-! ### those who are named -/
def pick (L : List M) (names : List S) : List M := L.filter fun m => decide (m.name ∈ names)
def ofL (L : List M) (names : List S) : Nat := if okL L then (sumP (pick L names)).toNat else 0
theorem sumP_filter_split (L : List M) (p : M → Bool) : sumP L = sumP (L.filter p) + sumP (L.filter fun m => !p m) := by
  induction L with
  | nil => rfl
  | cons m L ih =>
    simp only [List.filter_cons]
    cases p m <;> simp [sumP] at ih ⊢ <;> omega
theorem sumP_nonneg {L : List M} (h : ∀ m ∈ L, 0 ≤ m.power) : 0 ≤ sumP L := by
  induction L with
  | nil => simp [sumP]
  | cons m L ih =>
    have h1 := ih (fun x hx => h x (List.mem_cons_of_mem _ hx))
    have h2 := h m (List.mem_cons_self ..)
    simp only [sumP, List.foldr_cons] at h1 ⊢
    omega
theorem sumP_filter_le {L : List M} (p q : M → Bool) (h : ∀ m ∈ L, 0 ≤ m.power) (hpq : ∀ m ∈ L, p m = true → q m = true) : sumP (L.filter p) ≤ sumP (L.filter q) := by
  induction L with
  | nil => exact Int.le_refl _
  | cons m L ih =>
    have h1 := ih (fun x hx => h x (List.mem_cons_of_mem _ hx)) (fun x hx => hpq x (List.mem_cons_of_mem _ hx))
    have h2 := h m (List.mem_cons_self ..)
    have h3 := hpq m (List.mem_cons_self ..)
    simp only [List.filter_cons]
    cases hp : p m <;> cases hq : q m <;> simp [sumP, hp, hq] at h1 h3 ⊢ <;> omega
theorem pick_range {L : List M} (h : okL L = true) (names : List S) : 0 ≤ sumP (pick L names) ∧ sumP (pick L names) ≤ sumP L ∧ sumP L ≤ 7000 := by
  have hnn : ∀ m ∈ L, 0 ≤ m.power := fun m hm => by have := (okL_mem h m hm).2.2; omega
  have h1 := sumP_nonneg (L := pick L names) (fun m hm => hnn m (List.mem_filter.1 hm).1)
  have h2 := sumP_filter_split L (fun m => decide (m.name ∈ names))
  have h3 := sumP_nonneg (L := L.filter fun m => !decide (m.name ∈ names)) (fun m hm => hnn m (List.mem_filter.1 hm).1)
  have h4 := sumP_range (L := L) (fun m hm => (okL_mem h m hm).2.2)
  have h5 := (okL_len h).2
  refine ⟨h1, ?_, by omega⟩
  unfold pick
  omega
def keepI (b : List S) (out : List S) (s : S) : List S := if s ∈ b ∧ s ∉ out then out ++ [s] else out
def uniq (a b : List S) : List S := a.foldl (keepI b) []
theorem snocInd {α : Type} {p : List α → Prop} (h0 : p []) (h1 : ∀ l d, p l → p (l ++ [d])) (l : List α) : p l := by
  have h : ∀ r : List α, p r.reverse := by
    intro r
    induction r with
    | nil => exact h0
    | cons d r ih => rw [List.reverse_cons]; exact h1 _ _ ih
  have := h l.reverse
  rwa [List.reverse_reverse] at this
theorem uniq_snoc (a b : List S) (s : S) : uniq (a ++ [s]) b = keepI b (uniq a b) s := by simp [uniq]
theorem uniq_mem (a b : List S) (s : S) : s ∈ uniq a b ↔ s ∈ a ∧ s ∈ b := by
  induction a using snocInd with
  | h0 => simp [uniq]
  | h1 a d ih =>
    rw [uniq_snoc, keepI]
    split
    · simp only [List.mem_append, List.mem_singleton, ih]
      constructor
      · rintro (h | rfl)
        · exact ⟨Or.inl h.1, h.2⟩
        · rename_i h; exact ⟨Or.inr rfl, h.1⟩
      · rintro ⟨h | rfl, hb⟩
        · exact Or.inl ⟨h, hb⟩
        · exact Or.inr rfl
    · rename_i h
      simp only [List.mem_append, List.mem_singleton, ih]
      constructor
      · rintro h; exact ⟨Or.inl h.1, h.2⟩
      · rintro ⟨h' | rfl, hb⟩
        · exact ⟨h', hb⟩
        · by_cases hu : s ∈ uniq a b
          · exact ih.1 hu
          · exact absurd ⟨hb, hu⟩ h
def both (a b : List S) : List S := (uniq a b).mergeSort fun x y => decide (x ≤ y)
theorem both_perm (a b : List S) : (both a b).Perm (uniq a b) := List.mergeSort_perm _ _
theorem both_mem (a b : List S) (s : S) : s ∈ both a b ↔ s ∈ a ∧ s ∈ b := by rw [(both_perm a b).mem_iff, uniq_mem]
end Go.Proofs.YtjfefphgikncnaaGreatDoor.Pw
namespace Go.Proofs.YtjfefphgikncnaaGreatDoor
open Go.RowKit Go.ChangeShapes Go.WideShapes
open Go.Proofs.YtjfefphgikncnaaGreatDoor.Pw (M)

theorem Tryz.infoStr : (Tryz.prog.info? 9).map (fun i => (i.zero, i.size, i.bytes)) = some (some (.string ⟨#[]⟩), 1, 16) := by kernel_rfl

/-- A slice that has these members. -/
def Mems (w : World) (v : Value) (L : List M) : Prop :=
  ∃ (A : Option Addr) (cap : Nat), v = .slice A L.length cap ∧ (0 < L.length → ∃ b o, A = some ⟨b, o, none⟩ ∧ b < w.heap.size ∧ ∀ i (h : i < L.length),
    w.cell? ⟨b, o + i * 2, none⟩ = some (.string ⟨L[i].name.toArray⟩) ∧ w.cell? ⟨b, o + i * 2 + 1, none⟩ = some (.int .i64 L[i].power))
theorem Mems.nil (w : World) : Mems w (.slice none 0 0) [] := ⟨none, 0, rfl, fun h => absurd h (by simp)⟩
theorem Mems.below {w w' : World} {v : Value} {L : List M} (h : Mems w v L) (hb : Below w.heap.size w w') : Mems w' v L := by
  obtain ⟨A, cap, rfl, hc⟩ := h
  refine ⟨A, cap, rfl, fun h0 => ?_⟩
  obtain ⟨b, o, rfl, hlt, hcell⟩ := hc h0
  refine ⟨b, o, rfl, Nat.lt_of_lt_of_le hlt hb.size, fun i hi => ?_⟩
  obtain ⟨h1, h2⟩ := hcell i hi
  exact ⟨(hb.cell hlt).trans h1, (hb.cell hlt).trans h2⟩
theorem Mems.drew {w : World} {v : Value} {L : List M} (h : Mems w v L) : Mems w.drew v L := h.below (Below.refl _ w).drew
/-- One member's cells. -/
theorem Mems.at {w w' : World} {A : Option Addr} {n cap : Nat} {L : List M} (h : Mems w (.slice A n cap) L) (hb : Below w.heap.size w w') (k : Nat) (hk : k < L.length) :
    ∃ b o, A = some ⟨b, o, none⟩ ∧ w'.cell? ⟨b, o + k * 2, none⟩ = some (.string ⟨L[k].name.toArray⟩) ∧ w'.cell? ⟨b, o + k * 2 + 1, none⟩ = some (.int .i64 L[k].power) := by
  obtain ⟨A', cap', hv, hc⟩ := h.below hb
  obtain ⟨rfl, rfl, rfl⟩ : A = A' ∧ n = L.length ∧ cap = cap' := by simpa using hv
  obtain ⟨b, o, rfl, _, hcell⟩ := hc (by omega)
  exact ⟨b, o, rfl, hcell k hk⟩
theorem Mems.len {w : World} {A : Option Addr} {n cap : Nat} {L : List M} (h : Mems w (.slice A n cap) L) : n = L.length := by
  obtain ⟨A', cap', hv, _⟩ := h
  simp at hv
  exact hv.2.1
theorem Mems.form {w : World} {v : Value} {L : List M} (h : Mems w v L) : ∃ A cap, v = .slice A L.length cap := by
  obtain ⟨A, cap, rfl, _⟩ := h
  exact ⟨A, cap, rfl⟩
end Go.Proofs.YtjfefphgikncnaaGreatDoor
namespace Go.Proofs.YtjfefphgikncnaaGreatDoor
open Go.RowKit
open Go.Proofs.YtjfefphgikncnaaGreatDoor.Pw (M)

/-- 'append(s, x...)', by an equation of the run. -/
theorem run_append_nothing_s (w : World) (v : Value) (n c B : Nat) (xs : List Value) (h : w.ownsRow B 9 1 v n xs) (ty : TypeId) : (Builtin.append_ #[28, 28] ty #[v, .slice none 0 c]).run Tryz.prog w = .ok v w := by
  rcases h.2 with ⟨rfl, rfl⟩ | ⟨g, cap, cur, rfl, hB, hh, hn, _⟩
  · simp [Builtin.append_, run_underlying Tryz.underlying28, Tryz.sizeOf9, Builtin.lenOf, Builtin.firstCells, Result.andThen]
  · simp [Builtin.append_, run_underlying Tryz.underlying28, Tryz.sizeOf9, Builtin.lenOf, Builtin.firstCells, Result.andThen, hn, storeCells]
theorem grown_none (w : World) (r : Option Nat) : w.grownBy w r := ⟨rfl, rfl, rfl, Nat.le_refl _, fun _ _ _ => rfl⟩
/-- The same as a step of a region that draws its order. -/
theorem step_append_run {P : Program} {ops : Array Oper} {o : Oper} {a : Act} {w w' : World} {K : Act → World → Prop} {Q : Exit → Act → World → Prop} {E : Prop} (hg : o.guard = none) (s x : Operand) (t : TypeId) (hop : o.op = Op.call { callee := Callee.builtin Builtin.append, args := #[s, x], argTypes := #[t, t] })
    (sv xv r : Value) (hs : a.eval s = sv) (hx : a.eval x = xv) (hrun : (Builtin.append_ #[t, t] o.type #[sv, xv]).run P w = .ok r w') (hK : K (a.put o.dst r) w') : if Region.wanted o (yielded ops a.tmps) = true then Oper.wp P o a w K Q else E := by
  have hw : Region.wanted o (yielded ops a.tmps) = true := by simp [Region.wanted, hg]
  rw [if_pos hw]
  unfold Oper.wp
  simp [execOp, hop, resolve, invoke, builtin, hs, hx, hrun, Result.andThen]
  exact hK
theorem append_strs {w : World} {v s : Value} {L : List (List UInt8)} {B n : Nat} {xs : List Value} (hv : Strs w v L) (hs : w.ownsRow B 9 1 s n xs) (hl : n + L.length ≤ 1000000) (hB : B ≤ w.heap.size) :
    ∃ v' w', (Builtin.append_ #[28, 28] 28 #[s, v]).run Tryz.prog w = .ok v' w' ∧ w'.ownsRow B 9 1 v' (n + L.length) (xs ++ scells L) ∧ w.grownBy w' s.ownBlock ∧ (v'.ownBlock = s.ownBlock ∨ v'.ownBlock = some w.heap.size) := by
  obtain ⟨i0, hi, hz0, hz1, hz2⟩ := info_parts Tryz.infoStr
  obtain ⟨A, cap, rfl, hc⟩ := hv
  cases A with
  | none =>
    have h0 : L.length = 0 := by
      by_cases h : L.length = 0
      · exact h
      · obtain ⟨a, ha, _⟩ := hc 0 (by omega)
        cases ha
    obtain rfl : L = [] := List.eq_nil_of_length_eq_zero h0
    exact ⟨s, w, run_append_nothing_s w s n cap B xs hs _, by simpa [scells] using hs, grown_none _ _, Or.inl rfl⟩
  | some a =>
    obtain ⟨v', w', h1, h2, h3, _, h5⟩ := run_append_own_at (P := Tryz.prog) w B 28 28 9 i0 (.string ⟨#[]⟩) 1 16 Tryz.underlying28 hi hz0 hz1 hz2 rfl (by decide) s n xs hs a L.length cap (scells L) (by simp [scells])
      (fun j u hu => by
        have hj : j < L.length := by
          have := (List.getElem?_eq_some_iff.1 hu).1
          simpa [scells] using this
        obtain ⟨b, hb, hcell⟩ := hc j hj
        cases hb
        simp only [scells, List.getElem?_map, List.getElem?_eq_getElem hj] at hu
        simp at hu
        rw [← hu]
        exact hcell) (by simp [scells, Value.oneCell']) (by unfold maxLen; omega) (by omega) hB
    exact ⟨v', w', h1, h2, h3, h5⟩
end Go.Proofs.YtjfefphgikncnaaGreatDoor
namespace Go.Proofs.YtjfefphgikncnaaGreatDoor
open Go.RowKit
open Go.Proofs.YtjfefphgikncnaaGreatDoor.Sto (St)

/-- A new store. -/
def StNewPost (w : World) (S : St) (e : Ending) (w' : World) : Prop := ∃ g m, e = .returned (.pointer (some ⟨g, 0, none⟩)) ∧ w.heap.size ≤ g ∧ w.heap.size ≤ m ∧ StoreAt w' g m S ∧ Below w.heap.size w w'

set_option maxRecDepth 8000 in
set_option maxHeartbeats 400000 in
theorem stnew_any (w : World) : Calls Tryz.prog 40 #[] w (StNewPost w []) := by
  have hmm := @run_makeMap Tryz.prog
  go_enter Tryz.func40, Tryz.ntmps40
  go_wp2
  go_ret
  refine ⟨w.heap.size + 1, w.heap.size, rfl, by omega, by omega, ⟨heap_new_at _ _ _ (by simp), ?_, Sto.rising_nil, fun p hp => (by cases hp)⟩, ((Below.refl _ w).alloc (Nat.le_refl _) _).alloc (by simp) _⟩
  exact ((FnAt.made storeMap w w.heap.size rfl).congr (fun _ => rfl)).below ((Below.refl _ _).alloc (Nat.le_refl _) _)

theorem StoreAt.lookE {w : World} {g m : Nat} {S : St} (h : StoreAt w g m S) {x : List UInt8} (hx : x.length ≤ 140737488351232) :
    (Instr.lookup 114 (.map (some m)) (.string ⟨x.toArray⟩) true).run Tryz.prog w = .ok (.tuple #[.agg #[.string ⟨((Sto.look S x).getD []).toArray⟩], .bool (Sto.look S x).isSome]) w := by
  have h1 := h.map.look Tryz.underlying114 (s := x) hx true (zeroEntry w)
  rw [show (.string ⟨x.toArray⟩ : Value) = storeMap.enc x from rfl, h1]
  cases Sto.look S x <;> rfl

/-- A text of a row of the call's own, set as it was. -/
theorem Own.setSame {w : World} {B g n cap i : Nat} {L : List (List UInt8)} (h : Own w B (.slice (some ⟨g, 0, none⟩) n cap) L) (hi : i < L.length) :
    Own (w.setCell ⟨g, i, none⟩ (.string ⟨(L[i]).toArray⟩)) B (.slice (some ⟨g, 0, none⟩) n cap) L := by
  have hn : n = L.length := by
    obtain ⟨_, _, hv⟩ := own_form h
    simp at hv
    exact hv.2.1
  subst hn
  have := (World.ownsRow.stored h i (.string ⟨(L[i]).toArray⟩)).1
  unfold Own
  have e : (scells L).set i (.string ⟨(L[i]).toArray⟩) = scells L := by
    have : (.string ⟨(L[i]).toArray⟩ : Value) = (scells L)[i]'(by rw [scells_length]; exact hi) := by simp [scells]
    rw [this, List.set_getElem_self]
  rw [← e]
  exact this
set_option maxRecDepth 8000 in
set_option maxHeartbeats 1000000 in
theorem rising_of {α : Type} (f : List UInt8 → Option α) (z : Value) (w : World) (hs : Calls Tryz.prog 129 #[z] w (RisePost f w)) (L : List (List UInt8)) (hL : ∀ x, f x ≠ none → x ∈ L) (hl : L.length ≤ 1000000) (hsh : ∀ x ∈ L, x.length ≤ 140737488351232) :
    Calls Tryz.prog 99 #[z] w (RisePost f w) := by
  have HS := Lib.hid hs
  have HL := Lib.hid hL
  have HLl := Lib.hid hl
  have HSH := Lib.hid hsh
  clear hs hL hl hsh
  go_enter Tryz.func99, Tryz.ntmps99
  go_wp2_with fail
  refine HS.out.mono ?_
  rintro e w1 ⟨v, K, rfl, hown, hr, hm, hb⟩
  have HKM : Hid (∀ x ∈ K, x ∈ L) := Lib.hid (fun x hx => HL.out x ((hm x).1 hx))
  have hK : K.length ≤ 1000000 := by
    have := Sto.le_of_sub (hr.imp fun h => Sto.lt_ne h) HKM.out
    have := HLl.out
    omega
  have HR := Lib.hid hr
  have HM := Lib.hid hm
  have HOW := Lib.hid hown
  have HB1 := Lib.hid hb
  have HS1 := Lib.hid hb.size
  obtain ⟨A, cap, rfl⟩ := own_form hown
  clear hr hm hown hb
  go_wp2
  go_loopw [10] (fun i wr => ∃ k : Nat, k ≤ K.length ∧ i = .int .i64 k ∧ Own wr w.heap.size (.slice A K.length cap) K ∧ Below w.heap.size w wr) (fun i _ => K.length - (intOf i).toNat)
  case atStart => exact ⟨0, Nat.zero_le _, rfl, HOW.out, HB1.out⟩
  case round =>
    obtain ⟨k, hk, rfl, hown, hb⟩ := hrel
    have HO := Lib.hid hown
    have HB := Lib.hid hb
    by_cases hlt : k < K.length
    · have h1 : (k : Int) < (K.length : Int) := by omega
      have h0 : (0 : Int) ≤ (k : Int) := by omega
      have hf := World.ownsRow.form hown (by omega)
      obtain ⟨g, c, hv, hBg, hgl⟩ := hf
      obtain ⟨rfl, rfl⟩ : A = some ⟨g, 0, none⟩ ∧ cap = c := by simpa using hv
      obtain ⟨a, ha, hcell⟩ := hown.strs_at (Below.refl _ wr) k (by omega)
      obtain rfl : a = ⟨g, 0, none⟩ := by simpa using ha.symm
      rw [Addr.add_mid, Nat.zero_add] at hcell
      have HCK := Lib.hid (fun w => dclone_any K[k] w (HSH.out _ (HKM.out _ (List.getElem_mem hlt))))
      have HSS : Hid (∀ w', Own w' w.heap.size (.slice (some ⟨g, 0, none⟩) K.length cap) K → Own (w'.setCell ⟨g, k, none⟩ (.string ⟨(K[k]).toArray⟩)) w.heap.size (.slice (some ⟨g, 0, none⟩) K.length cap) K) := Lib.hid (fun w' h => h.setSame hlt)
      have HCE : Hid (∀ w', Own w' w.heap.size (.slice (some ⟨g, 0, none⟩) K.length cap) K → w'.cell? ⟨g, k, none⟩ = some (.string ⟨(K[k]).toArray⟩) ∧ w'.frozen? ⟨g, k, none⟩ = false) := Lib.hid (fun w' h => by
        obtain ⟨a, ha, hcell⟩ := h.strs_at (Below.refl _ w') k (by omega)
        obtain rfl : a = ⟨g, 0, none⟩ := by simpa using ha.symm
        rw [Addr.add_mid, Nat.zero_add] at hcell
        exact ⟨hcell, World.ownsRow.frozenAt h k⟩)
      obtain ⟨t, ht⟩ : ∃ t, K[k] = t := ⟨_, rfl⟩
      rw [ht] at hcell HCK HSS HCE
      have HBG := Lib.hid hBg
      clear hv ha hown hb ht hBg hgl
      go_wp2_with fail
      refine (HCK.out _).mono ?_
      rintro e w2 ⟨rfl, hb2⟩
      have ho2 := HO.out.below hb2
      obtain ⟨hc2, hf2⟩ := HCE.out _ ho2
      have HN := Lib.hid (HSS.out _ ho2)
      have HBN := Lib.hid ((HB.out.trans (hb2.mono HB.out.size)).setCell (p := ⟨g, k, none⟩) HBG.out (.string ⟨t.toArray⟩))
      clear ho2 hb2 hcell
      go_wp2
      exact ⟨⟨k + 1, by omega, by go_num, HN.out, HBN.out⟩, by simp [intOf]; omega⟩
    · have h1 : ¬ ((k : Int) < (K.length : Int)) := by omega
      clear hown hb
      go_wp2
      go_ret
      exact ⟨_, K, rfl, HO.out, HR.out, HM.out, HB.out⟩

theorem StoreAt.keys {w : World} {g m : Nat} {S : St} (_ : StoreAt w g m S) : ∀ x, Sto.look S x ≠ none → x ∈ Sto.keys S := fun x hx => (Sto.look_isSome S x).1 (by
  cases h : Sto.look S x with
  | none => exact absurd h hx
  | some t => rfl)
theorem StoreAt.keysShort {w : World} {g m : Nat} {S : St} (h : StoreAt w g m S) : ∀ x ∈ Sto.keys S, x.length ≤ 32 := fun x hx => by
  obtain ⟨p, hp, rfl⟩ := List.mem_map.1 hx
  exact (h.short p hp).1
/-- A row of texts of the call's own. -/
def RowPost (K : List (List UInt8)) (w : World) (e : Ending) (w' : World) : Prop := ∃ v, e = .returned v ∧ Own w' w.heap.size v K ∧ Below w.heap.size w w'

set_option maxRecDepth 8000 in
set_option maxHeartbeats 1000000 in
theorem stsums_any (g m : Nat) (S : St) (w : World) (h : StoreAt w g m S) (hl : S.length ≤ 1000000) :
    Calls Tryz.prog 70 #[.pointer (some ⟨g, 0, none⟩)] w (RowPost (Sto.keys S) w) := by
  have hc := h.cell
  have hB := (Below.refl w.heap.size w).alloc (Nat.le_refl _) (.cells #[.map (some m)] 114)
  have hkl : (Sto.keys S).length ≤ 1000000 := by unfold Sto.keys; simp; omega
  have HR := Lib.hid (rising_of _ _ _ (sortedE_any (h.map.below hB) (q := w.heap.size) (cell_of_row _ _ _ _ _ _ (heap_new_at w _ _ rfl)) _ h.keys hkl) _ h.keys hkl (fun x hx => by have := h.keysShort x hx; omega))
  have HB := Lib.hid hB
  have HKE : Hid (∀ K : List (List UInt8), K.Pairwise (· < ·) → (∀ x, x ∈ K ↔ Sto.look S x ≠ none) → K = Sto.keys S) := Lib.hid (fun K h1 h2 => Sto.rise_unique h1 (Sto.keys_rise h.rise) fun x => by
    rw [h2, ← Sto.look_isSome]; cases Sto.look S x <;> simp)
  have HK := Lib.hid (fun w => shelf_keysE (some m) w)
  clear h hl hB hkl
  go_enter Tryz.func70, Tryz.ntmps70
  go_wp2_with fail
  refine (HK.out _).mono ?_
  rintro e w1 ⟨rfl, rfl⟩
  go_wp2_with fail
  refine HR.out.mono ?_
  rintro e w2 ⟨v, K, rfl, hown, hr, hm, hb2⟩
  go_wp2
  go_ret
  obtain rfl := HKE.out K hr hm
  exact ⟨v, rfl, own_lowS hown (by simp), bchain HB.out hb2⟩

/-- slices.Clone of texts. -/
theorem row_zeroS (w : World) (n : Nat) (hn : n = w.heap.size) : (w.alloc (.cells #[] 9)).ownsRow n 9 1 (.slice (some ⟨n, 0, none⟩) 0 0) 0 [] := by
  subst hn
  exact ⟨rfl, Or.inr ⟨w.heap.size, 0, #[], rfl, Nat.le_refl _, heap_new_at _ _ _ rfl, Nat.le_refl _, Nat.zero_le _, rfl, rfl⟩⟩
set_option maxRecDepth 8000 in
set_option maxHeartbeats 1000000 in
theorem sclone_any (L : List (List UInt8)) (v : Value) (w : World) (hv : Strs w v L) (hl : L.length ≤ 1000000) :
    Calls Tryz.prog 101 #[v] w (RowPost L w) := by
  have hB := (Below.refl w.heap.size w).alloc (Nat.le_refl _) (.cells #[] 9)
  obtain ⟨v1, w1, hrun1, hown1, hgrow1, hat1⟩ := append_strs (hv.below hB) (row_zeroS w _ rfl) (by omega) (by simp)
  simp only [Nat.zero_add, List.nil_append] at hown1
  have HO : Hid (Own w1 w.heap.size v1 L) := Lib.hid hown1
  have HB1 : Hid (Below w.heap.size w w1) := Lib.hid (hB.trans ((Out.grown hgrow1 (F := fun j => j = w.heap.size) (fun k e => by simp [Value.ownBlock] at e; exact e.symm)).below (fun _ e => Nat.le_of_eq e.symm) (by simp)))
  have HR := Lib.hid hrun1
  have HLN := Lib.hid hl
  obtain ⟨A, cap, rfl, hc⟩ := hv
  cases A with
  | none =>
    have h0 : L = [] := by
      by_cases h : L.length = 0
      · exact List.eq_nil_of_length_eq_zero h
      · obtain ⟨a, ha, _⟩ := hc 0 (by omega)
        cases ha
    subst h0
    have hnil := fun w => Lib.run_eql_slice_nil (P := Tryz.prog) w 28 9 none ([] : List (List UInt8)).length cap 0 0 Tryz.underlying28
    simp only [Option.isNone_none, List.length_nil] at hnil
    simp only [List.length_nil]
    clear hrun1 hown1 hgrow1 hat1 hc hB
    go_enter Tryz.func101, Tryz.ntmps101
    go_wp2
    go_ret
    exact ⟨_, rfl, Own.nil _ _, Below.refl _ _⟩
  | some a =>
    have hnil := fun w => Lib.run_eql_slice_nil (P := Tryz.prog) w 28 9 (some a) L.length cap 0 0 Tryz.underlying28
    simp only [Option.isNone_some] at hnil
    clear hrun1 hown1 hgrow1 hat1 hc hB
    go_enter Tryz.func101, Tryz.ntmps101
    go_wp2_with (at_builtin; refine wpList_append_run rfl _ _ _ rfl (.slice (some ⟨w.heap.size, 0, none⟩) 0 0) (.slice (some a) L.length cap) _ (by rfl) (by rfl) HR.out ?_)
    go_ret
    exact ⟨_, rfl, HO.out, HB1.out⟩
end Go.Proofs.YtjfefphgikncnaaGreatDoor
namespace Go.Proofs.YtjfefphgikncnaaGreatDoor
open Go.RowKit
open Go.Proofs.YtjfefphgikncnaaGreatDoor.Sto (St)

/-- The sum of a text. -/
def Sto.sumOf (t : List UInt8) : List UInt8 := Dig.sum 1 t
theorem Sto.sumOf_len (t : List UInt8) : (Sto.sumOf t).length = 32 := by
  unfold Sto.sumOf Dig.sum
  rw [if_pos (by decide), Sha.sumP_length]
/-- The same in its place. -/
theorem wpList_mapUpdate_fn {P : Program} {k e : TypeId} {κ α : Type} [DecidableEq κ] {M : MapLaw P k κ α} {ops : Array Oper} {rest : List Oper} {o : Oper} {a : Act} {w : World} {Q : Exit → Act → World → Prop} (hg : o.guard = none) (t : TypeId) (m x v : Operand) (hop : o.op = Op.mapUpdate t m x v)
    (ht : P.underlying t = some (.map k e)) {b : Nat} {f : κ → Option α} (s : κ) (y : α) (hs : M.ok s) (hm : a.eval m = .map (some b)) (hx : a.eval x = M.enc s) (hv : a.eval v = M.val y) (h : FnAt M w b f)
    (hK : ∀ w', FnAt M w' b (updF f s (some y)) → Out (fun i => i = b) w w' → w'.heap.size = w.heap.size → wpList P ops Q rest (a.put o.dst undef) w') : wpList P ops Q (o :: rest) a w := by
  refine wpList_plain hg fun K' hK' => ?_
  obtain ⟨w', hrun, h1, h2, h3⟩ := h.put ht hs y
  unfold Oper.wp
  simp [execOp, hop, hm, hx, hv, hrun, Result.andThen]
  exact hK' _ _ (hK w' h1 h2 h3)

def StPutPost (g m : Nat) (S : St) (t : List UInt8) (w : World) (e : Ending) (w' : World) : Prop :=
  e = .returned (.string ⟨(Sto.sumOf t).toArray⟩) ∧ StoreAt w' g m (Sto.put S (Sto.sumOf t) t) ∧ Out (fun i => i = m) w w'
theorem StoreAt.putAt {w w2 w3 w4 : World} {g m : Nat} {S : St} {x t : List UInt8} (h : StoreAt w g m S) (hb : Below w.heap.size w w2) (hb3 : Below w2.heap.size w2 w3) (hn : Sto.look S x = none) (hf : FnAt storeMap w4 m (updF (Sto.look S) x (some t))) (ho : Out (fun i => i = m) w3 w4) (hx : x.length ≤ 32) (ht : t.length ≤ 1000) :
    StoreAt w4 g m (Sto.put S x t) ∧ Out (fun i => i = m) w w4 := by
  have hb4 : Below w.heap.size w w3 := bchain hb hb3
  have ho4 : Out (fun i => i = m) w w4 := (Out.of hb4).trans ho
  refine ⟨⟨ho4.heap h.head (h.ne h), hf.congr fun y => ?_, Sto.put_rising h.rise _ _, fun p hp => ?_⟩, ho4⟩
  · rw [Sto.look_put h.rise, hn]
    rfl
  · rcases Sto.put_mem hp with hp | rfl
    · exact h.short p hp
    · exact ⟨hx, ht⟩

set_option maxRecDepth 8000 in
set_option maxHeartbeats 2000000 in
theorem stput_any (g m : Nat) (S : St) (t : List UInt8) (w : World) (h : StoreAt w g m S) (hT : Tab w) (ht : t.length ≤ 1000) :
    Calls Tryz.prog 73 #[.pointer (some ⟨g, 0, none⟩), .string ⟨t.toArray⟩] w (StPutPost g m S t w) := by
  unfold StPutPost
  have HSU : Hid (∀ w, Tab w → Calls Tryz.prog 104 #[.int .i64 1, .string ⟨t.toArray⟩] w fun e w' => e = .returned (.tuple #[.string ⟨(Sto.sumOf t).toArray⟩, .int .i64 0]) ∧ Below w.heap.size w w') := Lib.hid (fun w hw => (dsum_any 1 t w hw (by omega)))
  have hxl := Sto.sumOf_len t
  obtain ⟨x, hx⟩ : ∃ x, Sto.sumOf t = x := ⟨_, rfl⟩
  rw [hx] at HSU hxl ⊢
  have HX := Lib.hid hxl
  have HTL := Lib.hid ht
  have HH := Lib.hid h
  have HT := Lib.hid hT
  clear hx h hT hxl ht
  go_enter Tryz.func73, Tryz.ntmps73
  go_wp2_with fail
  refine (HSU.out _ HT.out).mono ?_
  rintro e w1 ⟨rfl, hb1⟩
  have h1 := HH.out.below hb1
  have hc := h1.cell
  have hlook := h1.lookE (x := x) (by have := HX.out; omega)
  obtain ⟨o, ho⟩ : ∃ o, Sto.look S x = o := ⟨_, rfl⟩
  rw [ho] at hlook
  have HO := Lib.hid ho
  have HB1 := Lib.hid hb1
  cases o with
  | some u =>
    simp only [Option.getD_some, Option.isSome_some] at hlook
    clear h1 ho hb1
    go_wp2
    go_ret
    have hb2 := HB1.out.alloc HB1.out.size (.cells #[.string ⟨u.toArray⟩] 154)
    refine ⟨rfl, ?_, Out.of hb2⟩
    rw [Sto.put_same (by rw [HO.out]; rfl) t HH.out.rise]
    exact HH.out.below hb2
  | none =>
    simp only [Option.getD_none, Option.isSome_none] at hlook
    have hb2 := HB1.out.alloc HB1.out.size (.cells #[.string ⟨#[]⟩] 154)
    have h2 := HH.out.below hb2
    have hc2 := h2.cell
    have HB2 := Lib.hid hb2
    have HC1 := Lib.hid (fun w => dclone_any x w (by have := HX.out; omega))
    have HC2 := Lib.hid (fun w => dclone_any t w (by have := HTL.out; omega))
    go_upto_region 4 with fail
    obtain ⟨w2, hw2⟩ : ∃ w2, w1.alloc (.cells #[.string ⟨#[]⟩] 154) = w2 := ⟨_, rfl⟩
    rw [hw2] at h2 hc2 HB2 ⊢
    have HFN : Hid (∀ w', Below w2.heap.size w2 w' → FnAt storeMap w' m (Sto.look S)) := Lib.hid (fun w' hb => h2.map.below hb)
    have HCE : Hid (∀ w', Below w2.heap.size w2 w' → w'.cell? ⟨g, 0, none⟩ = some (.map (some m))) := Lib.hid (fun w' hb => (h2.below hb).cell)
    have HCO : Hid (∀ w' w'', Below w2.heap.size w2 w' → Out (fun i => i = m) w' w'' → w''.cell? ⟨g, 0, none⟩ = some (.map (some m))) := Lib.hid (fun w' w'' hb ho => ho.cell (h2.below hb).cell (h2.ne h2))
    have HK1 : Hid (∀ w', Below w2.heap.size w2 w' → Calls Tryz.prog 44 #[.string ⟨x.toArray⟩] w' fun e w'' => e = .returned (.string ⟨x.toArray⟩) ∧ Below w2.heap.size w2 w'') := Lib.hid (fun w' hb => (HC1.out w').mono fun e w'' q => ⟨q.1, hb.trans (q.2.mono hb.size)⟩)
    have HK2 : Hid (∀ w', Below w2.heap.size w2 w' → Calls Tryz.prog 44 #[.string ⟨t.toArray⟩] w' fun e w'' => e = .returned (.string ⟨t.toArray⟩) ∧ Below w2.heap.size w2 w'') := Lib.hid (fun w' hb => (HC2.out w').mono fun e w'' q => ⟨q.1, hb.trans (q.2.mono hb.size)⟩)
    have HPU : Hid (∀ w', Below w2.heap.size w2 w' → ∃ w4, (Instr.mapUpdate 114 (.map (some m)) (.string ⟨x.toArray⟩) (.agg #[.string ⟨t.toArray⟩])).run Tryz.prog w' = .ok () w4 ∧ (StoreAt w4 g m (Sto.put S x t) ∧ Out (fun i => i = m) w w4) ∧ w4.cell? ⟨g, 0, none⟩ = some (.map (some m))) := Lib.hid (fun w' hb => by
      obtain ⟨w4, hrun, hf, ho, _⟩ := (HFN.out w' hb).put Tryz.underlying114 (s := x) (by have := HX.out; show x.length ≤ _; omega) t
      exact ⟨w4, hrun, HH.out.putAt HB2.out hb HO.out hf ho (by have := HX.out; omega) HTL.out, HCO.out _ _ hb ho⟩)
    have BD : Below w2.heap.size w2 w2.drew := (Below.refl _ _).drew
    have cD := HCE.out _ BD
    clear h1 ho hb1 hb2 h2 hw2 hlook hc hc2
    go_region_held3 (fun w' => w'.cell? ⟨g, 0, none⟩ = some (.map (some m)))
      ((first | (refine HCE.out _ ?_; with_reducible assumption) | (with_reducible assumption)))
      (first | (go_at_call 44; refine (HK1.out _ ?_).mono ?_; (with_reducible assumption); rintro e wa ⟨rfl, ha⟩; obtain ⟨wa4, hra, hpa, hca⟩ := HPU.out _ ha) | (go_at_call 44; refine (HK2.out _ ?_).mono ?_; (with_reducible assumption); rintro e wb ⟨rfl, hb⟩; obtain ⟨wb4, hrb, hpb, hcb⟩ := HPU.out _ hb))
    all_goals
      go_wp2
      go_ret
      first | exact ⟨rfl, hpa⟩ | exact ⟨rfl, hpb⟩
end Go.Proofs.YtjfefphgikncnaaGreatDoor
