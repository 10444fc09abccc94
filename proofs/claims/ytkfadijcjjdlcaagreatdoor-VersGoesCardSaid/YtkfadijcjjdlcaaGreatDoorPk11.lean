/- PowMath, PowBase, AppendArg, StoreCalls, StorePut, StoreNode, TriLoadMath -/
import Derived.Test.YtkfadijcjjdlcaaGreatDoorChecked
import Derived.Test.YtkfadijcjjdlcaaGreatDoorPk01
import Derived.Test.YtkfadijcjjdlcaaGreatDoorPk02
import Derived.Test.YtkfadijcjjdlcaaGreatDoorPk08
import Derived.Deep.Slices
import Derived.DataReads
import Derived.OpenShut
import Derived.SizedLaws
import Derived.Lib.LaidU8
import Derived.Test.YtkfadijcjjdlcaaGreatDoorPk10
import Derived.Test.YtkfadijcjjdlcaaGreatDoorPk04
import Derived.Maps.AppendAt
import Derived.Test.YtkfadijcjjdlcaaGreatDoorPk05
import Derived.Lib.SliceRun
import Derived.Deep.RegionHeld3
namespace Go.Proofs.YtkfadijcjjdlcaaGreatDoor.Pw

abbrev S := List UInt8
structure M where
  name : S
  power : Int
instance : Inhabited M := ⟨⟨[], 0⟩⟩
theorem M.ext' {a b : M} (h : a.name = b.name) (k : a.power = b.power) : a = b := by cases a; cases b; simp_all
instance : DecidableEq M := fun a b =>
  if h : a.name = b.name ∧ a.power = b.power then isTrue (M.ext' h.1 h.2) else isFalse (fun e => h (by subst e; exact ⟨rfl, rfl⟩))

def okM (p : S) (m : M) : Bool := decide (p < m.name) && decide (m.name.length ≤ 6) && decide (1 ≤ m.power) && decide (m.power ≤ 1000)
def okFrom : S → List M → Bool
  | _, [] => true
  | p, m :: t => okM p m && okFrom m.name t
def okL (L : List M) : Bool := decide (1 ≤ L.length) && decide (L.length ≤ 7) && okFrom [] L
theorem lt_nil (s : S) : ([] < s) ↔ s ≠ [] := by cases s <;> simp
/-- What a set that may be is. -/
theorem okFrom_mem {p : S} {L : List M} (h : okFrom p L = true) : ∀ m ∈ L, p < m.name ∧ m.name.length ≤ 6 ∧ 1 ≤ m.power ∧ m.power ≤ 1000 := by
  induction L generalizing p with
  | nil => simp
  | cons a L ih =>
    simp only [okFrom, okM, Bool.and_eq_true, decide_eq_true_eq] at h
    intro m hm
    rcases List.mem_cons.1 hm with rfl | hm
    · exact ⟨h.1.1.1.1, h.1.1.1.2, h.1.1.2, h.1.2⟩
    · have := ih h.2 m hm
      exact ⟨List.lt_trans h.1.1.1.1 this.1, this.2⟩
theorem okFrom_pair {p : S} {L : List M} (h : okFrom p L = true) : L.Pairwise (fun a b => a.name < b.name) := by
  induction L generalizing p with
  | nil => exact .nil
  | cons a L ih =>
    simp only [okFrom, Bool.and_eq_true] at h
    exact .cons (fun b hb => (okFrom_mem h.2 b hb).1) (ih h.2)
theorem okL_mem {L : List M} (h : okL L = true) : ∀ m ∈ L, m.name ≠ [] ∧ m.name.length ≤ 6 ∧ 1 ≤ m.power ∧ m.power ≤ 1000 := by
  simp only [okL, Bool.and_eq_true] at h
  intro m hm
  have := okFrom_mem h.2 m hm
  exact ⟨(lt_nil _).1 this.1, this.2⟩
theorem okL_pair {L : List M} (h : okL L = true) : L.Pairwise (fun a b => a.name < b.name) := by
  simp only [okL, Bool.and_eq_true] at h
  exact okFrom_pair h.2
theorem okL_len {L : List M} (h : okL L = true) : 1 ≤ L.length ∧ L.length ≤ 7 := by
  simp only [okL, Bool.and_eq_true, decide_eq_true_eq] at h
  exact h.1
def sumP (L : List M) : Int := L.foldr (fun m n => m.power + n) 0
theorem sumP_range {L : List M} (h : ∀ m ∈ L, 1 ≤ m.power ∧ m.power ≤ 1000) : (L.length : Int) ≤ sumP L ∧ sumP L ≤ 1000 * L.length := by
  induction L with
  | nil => simp [sumP]
  | cons m L ih =>
    have h1 := ih (fun x hx => h x (List.mem_cons_of_mem _ hx))
    have h2 := h m (List.mem_cons_self ..)
    simp only [sumP, List.foldr_cons, List.length_cons] at h1 ⊢
    omega
def tot (L : List M) : Nat := if okL L then (sumP L).toNat else 0
def quo (L : List M) : Nat := if tot L = 0 then 0 else 2 * tot L / 3 + 1
def mos (L : List M) : Nat := (tot L - 1) / 3
theorem tot_range (L : List M) : tot L ≤ 7000 ∧ (okL L = true → 1 ≤ tot L ∧ (tot L : Int) = sumP L) ∧ (okL L = false → tot L = 0) := by
  unfold tot
  cases h : okL L with
  | false => simp
  | true =>
    have h1 := sumP_range (L := L) (fun m hm => (okL_mem h m hm).2.2)
    have h2 := okL_len h
    simp
    omega

/-! ### those who are named -/
def pick (L : List M) (names : List S) : List M := L.filter fun m => decide (m.name ∈ names)
def ofL (L : List M) (names : List S) : Nat := if okL L then (sumP (pick L names)).toNat else 0
theorem sumP_filter_split (L : List M) (p : M → Bool) : sumP L = sumP (L.filter p) + sumP (L.filter fun m => !p m) := by
  induction L with
  | nil => rfl
  | cons m L ih =>
    simp only [List.filter_cons]
    cases p m <;> simp [sumP] at ih ⊢ <;> omega
theorem sumP_nonneg {L : List M} (h : ∀ m ∈ L, 0 ≤ m.power) : 0 ≤ sumP L := by
  induction L with
  | nil => simp [sumP]
  | cons m L ih =>
    have h1 := ih (fun x hx => h x (List.mem_cons_of_mem _ hx))
    have h2 := h m (List.mem_cons_self ..)
    simp only [sumP, List.foldr_cons] at h1 ⊢
    omega
theorem sumP_filter_le {L : List M} (p q : M → Bool) (h : ∀ m ∈ L, 0 ≤ m.power) (hpq : ∀ m ∈ L, p m = true → q m = true) : sumP (L.filter p) ≤ sumP (L.filter q) := by
  induction L with
  | nil => exact Int.le_refl _
  | cons m L ih =>
    have h1 := ih (fun x hx => h x (List.mem_cons_of_mem _ hx)) (fun x hx => hpq x (List.mem_cons_of_mem _ hx))
    have h2 := h m (List.mem_cons_self ..)
    have h3 := hpq m (List.mem_cons_self ..)
    simp only [List.filter_cons]
    cases hp : p m <;> cases hq : q m <;> simp [sumP, hp, hq] at h1 h3 ⊢ <;> omega
theorem pick_range {L : List M} (h : okL L = true) (names : List S) : 0 ≤ sumP (pick L names) ∧ sumP (pick L names) ≤ sumP L ∧ sumP L ≤ 7000 := by
  have hnn : ∀ m ∈ L, 0 ≤ m.power := fun m hm => by have := (okL_mem h m hm).2.2; omega
  have h1 := sumP_nonneg (L := pick L names) (fun m hm => hnn m (List.mem_filter.1 hm).1)
  have h2 := sumP_filter_split L (fun m => decide (m.name ∈ names))
  have h3 := sumP_nonneg (L := L.filter fun m => !decide (m.name ∈ names)) (fun m hm => hnn m (List.mem_filter.1 hm).1)
  have h4 := sumP_range (L := L) (fun m hm => (okL_mem h m hm).2.2)
  have h5 := (okL_len h).2
  refine ⟨h1, ?_, by omega⟩
  unfold pick
  omega
def keepI (b : List S) (out : List S) (s : S) : List S := if s ∈ b ∧ s ∉ out then out ++ [s] else out
def uniq (a b : List S) : List S := a.foldl (keepI b) []
theorem snocInd {α : Type} {p : List α → Prop} (h0 : p []) (h1 : ∀ l d, p l → p (l ++ [d])) (l : List α) : p l := by
  have h : ∀ r : List α, p r.reverse := by
    intro r
    induction r with
    | nil => exact h0
    | cons d r ih => rw [List.reverse_cons]; exact h1 _ _ ih
  have := h l.reverse
  rwa [List.reverse_reverse] at this
theorem uniq_snoc (a b : List S) (s : S) : uniq (a ++ [s]) b = keepI b (uniq a b) s := by simp [uniq]
theorem uniq_mem (a b : List S) (s : S) : s ∈ uniq a b ↔ s ∈ a ∧ s ∈ b := by
  induction a using snocInd with
  | h0 => simp [uniq]
  | h1 a d ih =>
    rw [uniq_snoc, keepI]
    split
    · simp only [List.mem_append, List.mem_singleton, ih]
      constructor
      · rintro (h | rfl)
        · exact ⟨Or.inl h.1, h.2⟩
        · rename_i h; exact ⟨Or.inr rfl, h.1⟩
      · rintro ⟨h | rfl, hb⟩
        · exact Or.inl ⟨h, hb⟩
        · exact Or.inr rfl
    · rename_i h
      simp only [List.mem_append, List.mem_singleton, ih]
      constructor
      · rintro h; exact ⟨Or.inl h.1, h.2⟩
      · rintro ⟨h' | rfl, hb⟩
        · exact ⟨h', hb⟩
        · by_cases hu : s ∈ uniq a b
          · exact ih.1 hu
          · exact absurd ⟨hb, hu⟩ h
def both (a b : List S) : List S := (uniq a b).mergeSort fun x y => decide (x ≤ y)
theorem both_perm (a b : List S) : (both a b).Perm (uniq a b) := List.mergeSort_perm _ _
theorem both_mem (a b : List S) (s : S) : s ∈ both a b ↔ s ∈ a ∧ s ∈ b := by rw [(both_perm a b).mem_iff, uniq_mem]
end Go.Proofs.YtkfadijcjjdlcaaGreatDoor.Pw
namespace Go.Proofs.YtkfadijcjjdlcaaGreatDoor
open Go.RowKit Go.ChangeShapes Go.WideShapes
open Go.Proofs.YtkfadijcjjdlcaaGreatDoor.Pw (M)

theorem Tryz.infoStr : (Tryz.prog.info? 9).map (fun i => (i.zero, i.size, i.bytes)) = some (some (.string ⟨#[]⟩), 1, 16) := by kernel_rfl

/-- A slice that has these members. -/
def Mems (w : World) (v : Value) (L : List M) : Prop :=
  ∃ (A : Option Addr) (cap : Nat), v = .slice A L.length cap ∧ (0 < L.length → ∃ b o, A = some ⟨b, o, none⟩ ∧ b < w.heap.size ∧ ∀ i (h : i < L.length),
    w.cell? ⟨b, o + i * 2, none⟩ = some (.string ⟨L[i].name.toArray⟩) ∧ w.cell? ⟨b, o + i * 2 + 1, none⟩ = some (.int .i64 L[i].power))
theorem Mems.nil (w : World) : Mems w (.slice none 0 0) [] := ⟨none, 0, rfl, fun h => absurd h (by simp)⟩
theorem Mems.below {w w' : World} {v : Value} {L : List M} (h : Mems w v L) (hb : Below w.heap.size w w') : Mems w' v L := by
  obtain ⟨A, cap, rfl, hc⟩ := h
  refine ⟨A, cap, rfl, fun h0 => ?_⟩
  obtain ⟨b, o, rfl, hlt, hcell⟩ := hc h0
  refine ⟨b, o, rfl, Nat.lt_of_lt_of_le hlt hb.size, fun i hi => ?_⟩
  obtain ⟨h1, h2⟩ := hcell i hi
  exact ⟨(hb.cell hlt).trans h1, (hb.cell hlt).trans h2⟩
theorem Mems.drew {w : World} {v : Value} {L : List M} (h : Mems w v L) : Mems w.drew v L := h.below (Below.refl _ w).drew
/-- One member's cells. -/
theorem Mems.at {w w' : World} {A : Option Addr} {n cap : Nat} {L : List M} (h : Mems w (.slice A n cap) L) (hb : Below w.heap.size w w') (k : Nat) (hk : k < L.length) :
    ∃ b o, A = some ⟨b, o, none⟩ ∧ w'.cell? ⟨b, o + k * 2, none⟩ = some (.string ⟨L[k].name.toArray⟩) ∧ w'.cell? ⟨b, o + k * 2 + 1, none⟩ = some (.int .i64 L[k].power) := by
  obtain ⟨A', cap', hv, hc⟩ := h.below hb
  obtain ⟨rfl, rfl, rfl⟩ : A = A' ∧ n = L.length ∧ cap = cap' := by simpa using hv
  obtain ⟨b, o, rfl, _, hcell⟩ := hc (by omega)
  exact ⟨b, o, rfl, hcell k hk⟩
theorem Mems.len {w : World} {A : Option Addr} {n cap : Nat} {L : List M} (h : Mems w (.slice A n cap) L) : n = L.length := by
  obtain ⟨A', cap', hv, _⟩ := h
  simp at hv
  exact hv.2.1
theorem Mems.form {w : World} {v : Value} {L : List M} (h : Mems w v L) : ∃ A cap, v = .slice A L.length cap := by
  obtain ⟨A, cap, rfl, _⟩ := h
  exact ⟨A, cap, rfl⟩
end Go.Proofs.YtkfadijcjjdlcaaGreatDoor
namespace Go.Proofs.YtkfadijcjjdlcaaGreatDoor
open Go.RowKit
open Go.Proofs.YtkfadijcjjdlcaaGreatDoor.Pw (M)

/-- 'append(s, x...)', by an equation of the run. -/
theorem run_append_nothing_s (w : World) (v : Value) (n c B : Nat) (xs : List Value) (h : w.ownsRow B 9 1 v n xs) (ty : TypeId) : (Builtin.append_ #[28, 28] ty #[v, .slice none 0 c]).run Tryz.prog w = .ok v w := by
  rcases h.2 with ⟨rfl, rfl⟩ | ⟨g, cap, cur, rfl, hB, hh, hn, _⟩
  · simp [Builtin.append_, run_underlying Tryz.underlying28, Tryz.sizeOf9, Builtin.lenOf, Builtin.firstCells, Result.andThen]
  · simp [Builtin.append_, run_underlying Tryz.underlying28, Tryz.sizeOf9, Builtin.lenOf, Builtin.firstCells, Result.andThen, hn, storeCells]
theorem grown_none (w : World) (r : Option Nat) : w.grownBy w r := ⟨rfl, rfl, rfl, Nat.le_refl _, fun _ _ _ => rfl⟩
/-- The same as a step of a region that draws its order. -/
theorem step_append_run {P : Program} {ops : Array Oper} {o : Oper} {a : Act} {w w' : World} {K : Act → World → Prop} {Q : Exit → Act → World → Prop} {E : Prop} (hg : o.guard = none) (s x : Operand) (t : TypeId) (hop : o.op = Op.call { callee := Callee.builtin Builtin.append, args := #[s, x], argTypes := #[t, t] })
    (sv xv r : Value) (hs : a.eval s = sv) (hx : a.eval x = xv) (hrun : (Builtin.append_ #[t, t] o.type #[sv, xv]).run P w = .ok r w') (hK : K (a.put o.dst r) w') : if Region.wanted o (yielded ops a.tmps) = true then Oper.wp P o a w K Q else E := by
  have hw : Region.wanted o (yielded ops a.tmps) = true := by simp [Region.wanted, hg]
  rw [if_pos hw]
  unfold Oper.wp
  simp [execOp, hop, resolve, invoke, builtin, hs, hx, hrun, Result.andThen]
  exact hK
theorem append_strs {w : World} {v s : Value} {L : List (List UInt8)} {B n : Nat} {xs : List Value} (hv : Strs w v L) (hs : w.ownsRow B 9 1 s n xs) (hl : n + L.length ≤ 1000000) (hB : B ≤ w.heap.size) :
    ∃ v' w', (Builtin.append_ #[28, 28] 28 #[s, v]).run Tryz.prog w = .ok v' w' ∧ w'.ownsRow B 9 1 v' (n + L.length) (xs ++ scells L) ∧ w.grownBy w' s.ownBlock ∧ (v'.ownBlock = s.ownBlock ∨ v'.ownBlock = some w.heap.size) := by
  obtain ⟨i0, hi, hz0, hz1, hz2⟩ := info_parts Tryz.infoStr
  obtain ⟨A, cap, rfl, hc⟩ := hv
  cases A with
  | none =>
    have h0 : L.length = 0 := by
      by_cases h : L.length = 0
      · exact h
      · obtain ⟨a, ha, _⟩ := hc 0 (by omega)
        cases ha
    obtain rfl : L = [] := List.eq_nil_of_length_eq_zero h0
    exact ⟨s, w, run_append_nothing_s w s n cap B xs hs _, by simpa [scells] using hs, grown_none _ _, Or.inl rfl⟩
  | some a =>
    obtain ⟨v', w', h1, h2, h3, _, h5⟩ := run_append_own_at (P := Tryz.prog) w B 28 28 9 i0 (.string ⟨#[]⟩) 1 16 Tryz.underlying28 hi hz0 hz1 hz2 rfl (by decide) s n xs hs a L.length cap (scells L) (by simp [scells])
      (fun j u hu => by
        have hj : j < L.length := by
          have := (List.getElem?_eq_some_iff.1 hu).1
          simpa [scells] using this
        obtain ⟨b, hb, hcell⟩ := hc j hj
        cases hb
        simp only [scells, List.getElem?_map, List.getElem?_eq_getElem hj] at hu
        simp at hu
        rw [← hu]
        exact hcell) (by simp [scells, Value.oneCell']) (by unfold maxLen; omega) (by omega) hB
    exact ⟨v', w', h1, h2, h3, h5⟩
end Go.Proofs.YtkfadijcjjdlcaaGreatDoor
namespace Go.Proofs.YtkfadijcjjdlcaaGreatDoor
open Go.RowKit
open Go.Proofs.YtkfadijcjjdlcaaGreatDoor.Sto (St)

/-- A new store. -/
def StNewPost (w : World) (S : St) (e : Ending) (w' : World) : Prop := ∃ g m, e = .returned (.pointer (some ⟨g, 0, none⟩)) ∧ w.heap.size ≤ g ∧ w.heap.size ≤ m ∧ StoreAt w' g m S ∧ Below w.heap.size w w'

set_option maxRecDepth 8000 in
set_option maxHeartbeats 400000 in
theorem stnew_any (w : World) : Calls Tryz.prog 22 #[] w (StNewPost w []) := by
  have hmm := @run_makeMap Tryz.prog
  go_enter Tryz.func22, Tryz.ntmps22
  go_wp2
  go_ret
  refine ⟨w.heap.size + 1, w.heap.size, rfl, by omega, by omega, ⟨heap_new_at _ _ _ (by simp), ?_, Sto.rising_nil, fun p hp => (by cases hp)⟩, ((Below.refl _ w).alloc (Nat.le_refl _) _).alloc (by simp) _⟩
  exact ((FnAt.made storeMap w w.heap.size rfl).congr (fun _ => rfl)).below ((Below.refl _ _).alloc (Nat.le_refl _) _)

theorem StoreAt.lookE {w : World} {g m : Nat} {S : St} (h : StoreAt w g m S) {x : List UInt8} (hx : x.length ≤ 140737488351232) :
    (Instr.lookup 85 (.map (some m)) (.string ⟨x.toArray⟩) true).run Tryz.prog w = .ok (.tuple #[.agg #[.string ⟨((Sto.look S x).getD []).toArray⟩], .bool (Sto.look S x).isSome]) w := by
  have h1 := h.map.look Tryz.underlying85 (s := x) hx true (zeroEntry w)
  rw [show (.string ⟨x.toArray⟩ : Value) = storeMap.enc x from rfl, h1]
  cases Sto.look S x <;> rfl

/-- A text of a row of the call's own, set as it was. -/
theorem Own.setSame {w : World} {B g n cap i : Nat} {L : List (List UInt8)} (h : Own w B (.slice (some ⟨g, 0, none⟩) n cap) L) (hi : i < L.length) :
    Own (w.setCell ⟨g, i, none⟩ (.string ⟨(L[i]).toArray⟩)) B (.slice (some ⟨g, 0, none⟩) n cap) L := by
  have hn : n = L.length := by
    obtain ⟨_, _, hv⟩ := own_form h
    simp at hv
    exact hv.2.1
  subst hn
  have := (World.ownsRow.stored h i (.string ⟨(L[i]).toArray⟩)).1
  unfold Own
  have e : (scells L).set i (.string ⟨(L[i]).toArray⟩) = scells L := by
    have : (.string ⟨(L[i]).toArray⟩ : Value) = (scells L)[i]'(by rw [scells_length]; exact hi) := by simp [scells]
    rw [this, List.set_getElem_self]
  rw [← e]
  exact this
set_option maxRecDepth 8000 in
set_option maxHeartbeats 1000000 in
theorem rising_of {α : Type} (f : List UInt8 → Option α) (z : Value) (w : World) (hs : Calls Tryz.prog 83 #[z] w (RisePost f w)) (L : List (List UInt8)) (hL : ∀ x, f x ≠ none → x ∈ L) (hl : L.length ≤ 1000000) (hsh : ∀ x ∈ L, x.length ≤ 140737488351232) :
    Calls Tryz.prog 58 #[z] w (RisePost f w) := by
  have HS := Lib.hid hs
  have HL := Lib.hid hL
  have HLl := Lib.hid hl
  have HSH := Lib.hid hsh
  clear hs hL hl hsh
  go_enter Tryz.func58, Tryz.ntmps58
  go_wp2_with fail
  refine HS.out.mono ?_
  rintro e w1 ⟨v, K, rfl, hown, hr, hm, hb⟩
  have HKM : Hid (∀ x ∈ K, x ∈ L) := Lib.hid (fun x hx => HL.out x ((hm x).1 hx))
  have hK : K.length ≤ 1000000 := by
    have := Sto.le_of_sub (hr.imp fun h => Sto.lt_ne h) HKM.out
    have := HLl.out
    omega
  have HR := Lib.hid hr
  have HM := Lib.hid hm
  have HOW := Lib.hid hown
  have HB1 := Lib.hid hb
  have HS1 := Lib.hid hb.size
  obtain ⟨A, cap, rfl⟩ := own_form hown
  clear hr hm hown hb
  go_wp2
  go_loopw [10] (fun i wr => ∃ k : Nat, k ≤ K.length ∧ i = .int .i64 k ∧ Own wr w.heap.size (.slice A K.length cap) K ∧ Below w.heap.size w wr) (fun i _ => K.length - (intOf i).toNat)
  case atStart => exact ⟨0, Nat.zero_le _, rfl, HOW.out, HB1.out⟩
  case round =>
    obtain ⟨k, hk, rfl, hown, hb⟩ := hrel
    have HO := Lib.hid hown
    have HB := Lib.hid hb
    by_cases hlt : k < K.length
    · have h1 : (k : Int) < (K.length : Int) := by omega
      have h0 : (0 : Int) ≤ (k : Int) := by omega
      have hf := World.ownsRow.form hown (by omega)
      obtain ⟨g, c, hv, hBg, hgl⟩ := hf
      obtain ⟨rfl, rfl⟩ : A = some ⟨g, 0, none⟩ ∧ cap = c := by simpa using hv
      obtain ⟨a, ha, hcell⟩ := hown.strs_at (Below.refl _ wr) k (by omega)
      obtain rfl : a = ⟨g, 0, none⟩ := by simpa using ha.symm
      rw [Addr.add_mid, Nat.zero_add] at hcell
      have HCK := Lib.hid (fun w => dclone_any K[k] w (HSH.out _ (HKM.out _ (List.getElem_mem hlt))))
      have HSS : Hid (∀ w', Own w' w.heap.size (.slice (some ⟨g, 0, none⟩) K.length cap) K → Own (w'.setCell ⟨g, k, none⟩ (.string ⟨(K[k]).toArray⟩)) w.heap.size (.slice (some ⟨g, 0, none⟩) K.length cap) K) := Lib.hid (fun w' h => h.setSame hlt)
      have HCE : Hid (∀ w', Own w' w.heap.size (.slice (some ⟨g, 0, none⟩) K.length cap) K → w'.cell? ⟨g, k, none⟩ = some (.string ⟨(K[k]).toArray⟩) ∧ w'.frozen? ⟨g, k, none⟩ = false) := Lib.hid (fun w' h => by
        obtain ⟨a, ha, hcell⟩ := h.strs_at (Below.refl _ w') k (by omega)
        obtain rfl : a = ⟨g, 0, none⟩ := by simpa using ha.symm
        rw [Addr.add_mid, Nat.zero_add] at hcell
        exact ⟨hcell, World.ownsRow.frozenAt h k⟩)
      obtain ⟨t, ht⟩ : ∃ t, K[k] = t := ⟨_, rfl⟩
      rw [ht] at hcell HCK HSS HCE
      have HBG := Lib.hid hBg
      clear hv ha hown hb ht hBg hgl
      go_wp2_with fail
      refine (HCK.out _).mono ?_
      rintro e w2 ⟨rfl, hb2⟩
      have ho2 := HO.out.below hb2
      obtain ⟨hc2, hf2⟩ := HCE.out _ ho2
      have HN := Lib.hid (HSS.out _ ho2)
      have HBN := Lib.hid ((HB.out.trans (hb2.mono HB.out.size)).setCell (p := ⟨g, k, none⟩) HBG.out (.string ⟨t.toArray⟩))
      clear ho2 hb2 hcell
      go_wp2
      exact ⟨⟨k + 1, by omega, by go_num, HN.out, HBN.out⟩, by simp [intOf]; omega⟩
    · have h1 : ¬ ((k : Int) < (K.length : Int)) := by omega
      clear hown hb
      go_wp2
      go_ret
      exact ⟨_, K, rfl, HO.out, HR.out, HM.out, HB.out⟩

theorem StoreAt.keys {w : World} {g m : Nat} {S : St} (_ : StoreAt w g m S) : ∀ x, Sto.look S x ≠ none → x ∈ Sto.keys S := fun x hx => (Sto.look_isSome S x).1 (by
  cases h : Sto.look S x with
  | none => exact absurd h hx
  | some t => rfl)
theorem StoreAt.keysShort {w : World} {g m : Nat} {S : St} (h : StoreAt w g m S) : ∀ x ∈ Sto.keys S, x.length ≤ 32 := fun x hx => by
  obtain ⟨p, hp, rfl⟩ := List.mem_map.1 hx
  exact (h.short p hp).1
/-- A row of texts of the call's own. -/
def RowPost (K : List (List UInt8)) (w : World) (e : Ending) (w' : World) : Prop := ∃ v, e = .returned v ∧ Own w' w.heap.size v K ∧ Below w.heap.size w w'

set_option maxRecDepth 8000 in
set_option maxHeartbeats 1000000 in
theorem stsums_any (g m : Nat) (S : St) (w : World) (h : StoreAt w g m S) (hl : S.length ≤ 1000000) :
    Calls Tryz.prog 38 #[.pointer (some ⟨g, 0, none⟩)] w (RowPost (Sto.keys S) w) := by
  have hc := h.cell
  have hB := (Below.refl w.heap.size w).alloc (Nat.le_refl _) (.cells #[.map (some m)] 85)
  have hkl : (Sto.keys S).length ≤ 1000000 := by unfold Sto.keys; simp; omega
  have HR := Lib.hid (rising_of _ _ _ (sortedE_any (h.map.below hB) (q := w.heap.size) (cell_of_row _ _ _ _ _ _ (heap_new_at w _ _ rfl)) _ h.keys hkl) _ h.keys hkl (fun x hx => by have := h.keysShort x hx; omega))
  have HB := Lib.hid hB
  have HKE : Hid (∀ K : List (List UInt8), K.Pairwise (· < ·) → (∀ x, x ∈ K ↔ Sto.look S x ≠ none) → K = Sto.keys S) := Lib.hid (fun K h1 h2 => Sto.rise_unique h1 (Sto.keys_rise h.rise) fun x => by
    rw [h2, ← Sto.look_isSome]; cases Sto.look S x <;> simp)
  have HK := Lib.hid (fun w => shelf_keysE (some m) w)
  clear h hl hB hkl
  go_enter Tryz.func38, Tryz.ntmps38
  go_wp2_with fail
  refine (HK.out _).mono ?_
  rintro e w1 ⟨rfl, rfl⟩
  go_wp2_with fail
  refine HR.out.mono ?_
  rintro e w2 ⟨v, K, rfl, hown, hr, hm, hb2⟩
  go_wp2
  go_ret
  obtain rfl := HKE.out K hr hm
  exact ⟨v, rfl, own_lowS hown (by simp), bchain HB.out hb2⟩

/-- slices.Clone of texts. -/
theorem row_zeroS (w : World) (n : Nat) (hn : n = w.heap.size) : (w.alloc (.cells #[] 9)).ownsRow n 9 1 (.slice (some ⟨n, 0, none⟩) 0 0) 0 [] := by
  subst hn
  exact ⟨rfl, Or.inr ⟨w.heap.size, 0, #[], rfl, Nat.le_refl _, heap_new_at _ _ _ rfl, Nat.le_refl _, Nat.zero_le _, rfl, rfl⟩⟩
set_option maxRecDepth 8000 in
set_option maxHeartbeats 1000000 in
theorem sclone_any (L : List (List UInt8)) (v : Value) (w : World) (hv : Strs w v L) (hl : L.length ≤ 1000000) :
    Calls Tryz.prog 60 #[v] w (RowPost L w) := by
  have hB := (Below.refl w.heap.size w).alloc (Nat.le_refl _) (.cells #[] 9)
  obtain ⟨v1, w1, hrun1, hown1, hgrow1, hat1⟩ := append_strs (hv.below hB) (row_zeroS w _ rfl) (by omega) (by simp)
  simp only [Nat.zero_add, List.nil_append] at hown1
  have HO : Hid (Own w1 w.heap.size v1 L) := Lib.hid hown1
  have HB1 : Hid (Below w.heap.size w w1) := Lib.hid (hB.trans ((Out.grown hgrow1 (F := fun j => j = w.heap.size) (fun k e => by simp [Value.ownBlock] at e; exact e.symm)).below (fun _ e => Nat.le_of_eq e.symm) (by simp)))
  have HR := Lib.hid hrun1
  have HLN := Lib.hid hl
  obtain ⟨A, cap, rfl, hc⟩ := hv
  cases A with
  | none =>
    have h0 : L = [] := by
      by_cases h : L.length = 0
      · exact List.eq_nil_of_length_eq_zero h
      · obtain ⟨a, ha, _⟩ := hc 0 (by omega)
        cases ha
    subst h0
    have hnil := fun w => Lib.run_eql_slice_nil (P := Tryz.prog) w 28 9 none ([] : List (List UInt8)).length cap 0 0 Tryz.underlying28
    simp only [Option.isNone_none, List.length_nil] at hnil
    simp only [List.length_nil]
    clear hrun1 hown1 hgrow1 hat1 hc hB
    go_enter Tryz.func60, Tryz.ntmps60
    go_wp2
    go_ret
    exact ⟨_, rfl, Own.nil _ _, Below.refl _ _⟩
  | some a =>
    have hnil := fun w => Lib.run_eql_slice_nil (P := Tryz.prog) w 28 9 (some a) L.length cap 0 0 Tryz.underlying28
    simp only [Option.isNone_some] at hnil
    clear hrun1 hown1 hgrow1 hat1 hc hB
    go_enter Tryz.func60, Tryz.ntmps60
    go_wp2_with (at_builtin; refine wpList_append_run rfl _ _ _ rfl (.slice (some ⟨w.heap.size, 0, none⟩) 0 0) (.slice (some a) L.length cap) _ (by rfl) (by rfl) HR.out ?_)
    go_ret
    exact ⟨_, rfl, HO.out, HB1.out⟩
end Go.Proofs.YtkfadijcjjdlcaaGreatDoor
namespace Go.Proofs.YtkfadijcjjdlcaaGreatDoor
open Go.RowKit
open Go.Proofs.YtkfadijcjjdlcaaGreatDoor.Sto (St)

/-- The sum of a text. -/
def Sto.sumOf (t : List UInt8) : List UInt8 := Dig.sum 1 t
theorem Sto.sumOf_len (t : List UInt8) : (Sto.sumOf t).length = 32 := by
  unfold Sto.sumOf Dig.sum
  rw [if_pos (by decide), Sha.sumP_length]
/-- The same in its place. -/
theorem wpList_mapUpdate_fn {P : Program} {k e : TypeId} {κ α : Type} [DecidableEq κ] {M : MapLaw P k κ α} {ops : Array Oper} {rest : List Oper} {o : Oper} {a : Act} {w : World} {Q : Exit → Act → World → Prop} (hg : o.guard = none) (t : TypeId) (m x v : Operand) (hop : o.op = Op.mapUpdate t m x v)
    (ht : P.underlying t = some (.map k e)) {b : Nat} {f : κ → Option α} (s : κ) (y : α) (hs : M.ok s) (hm : a.eval m = .map (some b)) (hx : a.eval x = M.enc s) (hv : a.eval v = M.val y) (h : FnAt M w b f)
    (hK : ∀ w', FnAt M w' b (updF f s (some y)) → Out (fun i => i = b) w w' → w'.heap.size = w.heap.size → wpList P ops Q rest (a.put o.dst undef) w') : wpList P ops Q (o :: rest) a w := by
  refine wpList_plain hg fun K' hK' => ?_
  obtain ⟨w', hrun, h1, h2, h3⟩ := h.put ht hs y
  unfold Oper.wp
  simp [execOp, hop, hm, hx, hv, hrun, Result.andThen]
  exact hK' _ _ (hK w' h1 h2 h3)

def StPutPost (g m : Nat) (S : St) (t : List UInt8) (w : World) (e : Ending) (w' : World) : Prop :=
  e = .returned (.string ⟨(Sto.sumOf t).toArray⟩) ∧ StoreAt w' g m (Sto.put S (Sto.sumOf t) t) ∧ Out (fun i => i = m) w w'
theorem StoreAt.putAt {w w2 w3 w4 : World} {g m : Nat} {S : St} {x t : List UInt8} (h : StoreAt w g m S) (hb : Below w.heap.size w w2) (hb3 : Below w2.heap.size w2 w3) (hn : Sto.look S x = none) (hf : FnAt storeMap w4 m (updF (Sto.look S) x (some t))) (ho : Out (fun i => i = m) w3 w4) (hx : x.length ≤ 32) (ht : t.length ≤ 1000) :
    StoreAt w4 g m (Sto.put S x t) ∧ Out (fun i => i = m) w w4 := by
  have hb4 : Below w.heap.size w w3 := bchain hb hb3
  have ho4 : Out (fun i => i = m) w w4 := (Out.of hb4).trans ho
  refine ⟨⟨ho4.heap h.head (h.ne h), hf.congr fun y => ?_, Sto.put_rising h.rise _ _, fun p hp => ?_⟩, ho4⟩
  · rw [Sto.look_put h.rise, hn]
    rfl
  · rcases Sto.put_mem hp with hp | rfl
    · exact h.short p hp
    · exact ⟨hx, ht⟩

set_option maxRecDepth 8000 in
set_option maxHeartbeats 2000000 in
theorem stput_any (g m : Nat) (S : St) (t : List UInt8) (w : World) (h : StoreAt w g m S) (hT : Tab w) (ht : t.length ≤ 1000) :
    Calls Tryz.prog 41 #[.pointer (some ⟨g, 0, none⟩), .string ⟨t.toArray⟩] w (StPutPost g m S t w) := by
  unfold StPutPost
  have HSU : Hid (∀ w, Tab w → Calls Tryz.prog 63 #[.int .i64 1, .string ⟨t.toArray⟩] w fun e w' => e = .returned (.tuple #[.string ⟨(Sto.sumOf t).toArray⟩, .int .i64 0]) ∧ Below w.heap.size w w') := Lib.hid (fun w hw => (dsum_any 1 t w hw (by omega)))
  have hxl := Sto.sumOf_len t
  obtain ⟨x, hx⟩ : ∃ x, Sto.sumOf t = x := ⟨_, rfl⟩
  rw [hx] at HSU hxl ⊢
  have HX := Lib.hid hxl
  have HTL := Lib.hid ht
  have HH := Lib.hid h
  have HT := Lib.hid hT
  clear hx h hT hxl ht
  go_enter Tryz.func41, Tryz.ntmps41
  go_wp2_with fail
  refine (HSU.out _ HT.out).mono ?_
  rintro e w1 ⟨rfl, hb1⟩
  have h1 := HH.out.below hb1
  have hc := h1.cell
  have hlook := h1.lookE (x := x) (by have := HX.out; omega)
  obtain ⟨o, ho⟩ : ∃ o, Sto.look S x = o := ⟨_, rfl⟩
  rw [ho] at hlook
  have HO := Lib.hid ho
  have HB1 := Lib.hid hb1
  cases o with
  | some u =>
    simp only [Option.getD_some, Option.isSome_some] at hlook
    clear h1 ho hb1
    go_wp2
    go_ret
    have hb2 := HB1.out.alloc HB1.out.size (.cells #[.string ⟨u.toArray⟩] 108)
    refine ⟨rfl, ?_, Out.of hb2⟩
    rw [Sto.put_same (by rw [HO.out]; rfl) t HH.out.rise]
    exact HH.out.below hb2
  | none =>
    simp only [Option.getD_none, Option.isSome_none] at hlook
    have hb2 := HB1.out.alloc HB1.out.size (.cells #[.string ⟨#[]⟩] 108)
    have h2 := HH.out.below hb2
    have hc2 := h2.cell
    have HB2 := Lib.hid hb2
    have HC1 := Lib.hid (fun w => dclone_any x w (by have := HX.out; omega))
    have HC2 := Lib.hid (fun w => dclone_any t w (by have := HTL.out; omega))
    go_upto_region 4 with fail
    obtain ⟨w2, hw2⟩ : ∃ w2, w1.alloc (.cells #[.string ⟨#[]⟩] 108) = w2 := ⟨_, rfl⟩
    rw [hw2] at h2 hc2 HB2 ⊢
    have HFN : Hid (∀ w', Below w2.heap.size w2 w' → FnAt storeMap w' m (Sto.look S)) := Lib.hid (fun w' hb => h2.map.below hb)
    have HCE : Hid (∀ w', Below w2.heap.size w2 w' → w'.cell? ⟨g, 0, none⟩ = some (.map (some m))) := Lib.hid (fun w' hb => (h2.below hb).cell)
    have HCO : Hid (∀ w' w'', Below w2.heap.size w2 w' → Out (fun i => i = m) w' w'' → w''.cell? ⟨g, 0, none⟩ = some (.map (some m))) := Lib.hid (fun w' w'' hb ho => ho.cell (h2.below hb).cell (h2.ne h2))
    have HK1 : Hid (∀ w', Below w2.heap.size w2 w' → Calls Tryz.prog 26 #[.string ⟨x.toArray⟩] w' fun e w'' => e = .returned (.string ⟨x.toArray⟩) ∧ Below w2.heap.size w2 w'') := Lib.hid (fun w' hb => (HC1.out w').mono fun e w'' q => ⟨q.1, hb.trans (q.2.mono hb.size)⟩)
    have HK2 : Hid (∀ w', Below w2.heap.size w2 w' → Calls Tryz.prog 26 #[.string ⟨t.toArray⟩] w' fun e w'' => e = .returned (.string ⟨t.toArray⟩) ∧ Below w2.heap.size w2 w'') := Lib.hid (fun w' hb => (HC2.out w').mono fun e w'' q => ⟨q.1, hb.trans (q.2.mono hb.size)⟩)
    have HPU : Hid (∀ w', Below w2.heap.size w2 w' → ∃ w4, (Instr.mapUpdate 85 (.map (some m)) (.string ⟨x.toArray⟩) (.agg #[.string ⟨t.toArray⟩])).run Tryz.prog w' = .ok () w4 ∧ (StoreAt w4 g m (Sto.put S x t) ∧ Out (fun i => i = m) w w4) ∧ w4.cell? ⟨g, 0, none⟩ = some (.map (some m))) := Lib.hid (fun w' hb => by
      obtain ⟨w4, hrun, hf, ho, _⟩ := (HFN.out w' hb).put Tryz.underlying85 (s := x) (by have := HX.out; show x.length ≤ _; omega) t
      exact ⟨w4, hrun, HH.out.putAt HB2.out hb HO.out hf ho (by have := HX.out; omega) HTL.out, HCO.out _ _ hb ho⟩)
    have BD : Below w2.heap.size w2 w2.drew := (Below.refl _ _).drew
    have cD := HCE.out _ BD
    clear h1 ho hb1 hb2 h2 hw2 hlook hc hc2
    go_region_held3 (fun w' => w'.cell? ⟨g, 0, none⟩ = some (.map (some m)))
      ((first | (refine HCE.out _ ?_; with_reducible assumption) | (with_reducible assumption)))
      (first | (go_at_call 26; refine (HK1.out _ ?_).mono ?_; (with_reducible assumption); rintro e wa ⟨rfl, ha⟩; obtain ⟨wa4, hra, hpa, hca⟩ := HPU.out _ ha) | (go_at_call 26; refine (HK2.out _ ?_).mono ?_; (with_reducible assumption); rintro e wb ⟨rfl, hb⟩; obtain ⟨wb4, hrb, hpb, hcb⟩ := HPU.out _ hb))
    all_goals
      go_wp2
      go_ret
      first | exact ⟨rfl, hpa⟩ | exact ⟨rfl, hpb⟩
end Go.Proofs.YtkfadijcjjdlcaaGreatDoor
namespace Go.Proofs.YtkfadijcjjdlcaaGreatDoor
open Go.RowKit
open Go.Proofs.YtkfadijcjjdlcaaGreatDoor.Sto (St)

def Sto.nodeOf (S : St) (x : List UInt8) : Nd.N × Int := match Sto.look S x with | some t => Nd.dec t | none => (Nd.zero, 90)
set_option maxRecDepth 100000 in
set_option maxHeartbeats 2000000 in
theorem stnode_any (g m : Nat) (S : St) (x : List UInt8) (w : World) (h : StoreAt w g m S) (hx : x.length ≤ 140737488351232) :
    Calls Tryz.prog 61 #[.pointer (some ⟨g, 0, none⟩), .string ⟨x.toArray⟩] w fun e w' => e = .returned (.tuple #[ndval (Sto.nodeOf S x).1, .int .i64 (Sto.nodeOf S x).2]) ∧ Below w.heap.size w w' := by
  have hb0 : Below w.heap.size w (w.alloc (.cells #[.int .i64 0, .string ⟨#[]⟩, .string ⟨#[]⟩, .string ⟨#[]⟩, .string ⟨#[]⟩, .string ⟨#[]⟩, .string ⟨#[]⟩, .string ⟨#[]⟩, .string ⟨#[]⟩, .string ⟨#[]⟩, .string ⟨#[]⟩, .string ⟨#[]⟩, .string ⟨#[]⟩, .string ⟨#[]⟩, .string ⟨#[]⟩, .string ⟨#[]⟩, .string ⟨#[]⟩, .string ⟨#[]⟩, .string ⟨#[]⟩] 112)) := (Below.refl _ w).alloc (Nat.le_refl _) _
  have h0 := h.below hb0
  have hc := h0.cell
  have hlook := h0.lookE hx
  have hz0 : (w.alloc (.cells #[.int .i64 0, .string ⟨#[]⟩, .string ⟨#[]⟩, .string ⟨#[]⟩, .string ⟨#[]⟩, .string ⟨#[]⟩, .string ⟨#[]⟩, .string ⟨#[]⟩, .string ⟨#[]⟩, .string ⟨#[]⟩, .string ⟨#[]⟩, .string ⟨#[]⟩, .string ⟨#[]⟩, .string ⟨#[]⟩, .string ⟨#[]⟩, .string ⟨#[]⟩, .string ⟨#[]⟩, .string ⟨#[]⟩, .string ⟨#[]⟩] 112)).heap[w.heap.size]? = some (.cells (ncl Nd.zero).toArray 112 (0, 0)) := heap_new_at w _ _ rfl
  have HSH : Hid (∀ t, Sto.look S x = some t → t.length ≤ 1000000) := Lib.hid (fun t ht => by have := (Sto.short_look h.rise h.short ht).2; omega)
  have HI19 : Hid ((Tryz.prog.info? 112).map (·.size) = some 19) := Lib.hid (by kernel_rfl)
  have HBZ : Hid (Tryz.prog.built 112 [] = some (ncl Nd.zero).toArray) := Lib.hid (by rfl)
  have HOZ := Lib.hid (ncl_one Nd.zero)
  have HSZ : Hid ((ncl Nd.zero).toArray.size = 19) := Lib.hid rfl
  unfold Sto.nodeOf
  obtain ⟨o, ho⟩ : ∃ o, Sto.look S x = o := ⟨_, rfl⟩
  rw [ho] at hlook HSH ⊢
  cases o with
  | none =>
    simp only [Option.getD_none, Option.isSome_none] at hlook
    unfold ndval
    have hB1 := Lib.hid (hb0.alloc (hb0.size) (.cells #[.string ⟨#[]⟩] 108))
    have hZ1 := Lib.hid (heap_old_at (.cells #[.string ⟨#[]⟩] 108) hz0)
    obtain ⟨Z, hZ⟩ : ∃ Z, (ncl Nd.zero).toArray = Z := ⟨_, rfl⟩
    rw [hZ] at HBZ HOZ HSZ hZ1 ⊢
    have HIZ : Hid ((Tryz.prog.info? 112).map (·.size) = some Z.size) := Lib.hid (by rw [HSZ.out]; exact HI19.out)
    clear hZ h h0 hx hb0 hz0 ho
    go_enter Tryz.func61, Tryz.ntmps61
    go_wp2_with (first | (refine wpList_build_some (by rfl) _ _ (by rfl) [] (by first | rfl | (simp [Act.eval]; done) | kernel_rfl) Z HBZ.out ?_) | (refine wpList_store_row (by rfl) _ _ _ (by rfl) w.heap.size Z (by rfl) (by rfl) _ _ hZ1.out HIZ.out rfl HOZ.out ?_))
    refine bodyPost_ret (nresults_c1t rfl _ _ w.heap.size _ _ _ _ rfl (setRow_heap _ _ _ _ _ _ hZ1.out) Tryz.underlying112 rfl HIZ.out) rfl ⟨rfl, below_setRow hB1.out (Nat.le_refl _) _⟩
  | some t =>
    simp only [Option.getD_some, Option.isSome_some] at hlook
    have HD := Lib.hid (fun w => ndecode_any t w (HSH.out t rfl))
    unfold NDecPost at HD
    have hk16 : (Nd.dec t).1.kids.length = 16 := by
      rcases Nd.dec_is t with ⟨_, _, h, _⟩ | ⟨_, h, _⟩
      · exact h
      · rw [h]; rfl
    dsimp only
    obtain ⟨⟨n, c⟩, hD⟩ : ∃ D, Nd.dec t = D := ⟨_, rfl⟩
    rw [hD] at HD hk16 ⊢
    dsimp only at HD hk16 ⊢
    have HON := Lib.hid (ncl_one n)
    have HSN : Hid ((ncl n).toArray.size = 19) := Lib.hid (by rw [List.size_toArray, ncl_length n hk16])
    unfold ndval at HD ⊢
    obtain ⟨A, hA⟩ : ∃ A, (ncl n).toArray = A := ⟨_, rfl⟩
    rw [hA] at HD HON HSN ⊢
    have HI : Hid ((Tryz.prog.info? 112).map (·.size) = some A.size) := Lib.hid (by rw [HSN.out]; exact HI19.out)
    have HB1 := Lib.hid (hb0.alloc (hb0.size) (.cells #[.string ⟨t.toArray⟩] 108))
    have HZ1 := Lib.hid (heap_old_at (.cells #[.string ⟨t.toArray⟩] 108) hz0)
    clear hA hD hk16 h h0 hx hb0 hz0 ho HSH
    go_enter Tryz.func61, Tryz.ntmps61
    go_wp2_with fail
    refine (HD.out _).mono ?_
    rintro e w1 ⟨rfl, hb1⟩
    have HZ2 := Lib.hid ((hb1.block _ (lt_of_heap HZ1.out)).trans HZ1.out)
    have HB2 := Lib.hid (HB1.out.trans (hb1.mono HB1.out.size))
    have HSE : Hid ((ncl Nd.zero).toArray.size = A.size) := Lib.hid (by rw [HSZ.out, HSN.out])
    clear hb1 HZ1
    obtain ⟨Z, hZ⟩ : ∃ Z, (ncl Nd.zero).toArray = Z := ⟨_, rfl⟩
    rw [hZ] at HZ2 HSE
    clear hZ HBZ HOZ HSZ
    go_wp2_with (refine wpList_store_row (by rfl) _ _ _ (by rfl) w.heap.size A (by rfl) (by rfl) _ _ HZ2.out HI.out HSE.out HON.out ?_)
    refine bodyPost_ret (nresults_c1t rfl _ _ w.heap.size _ _ _ _ rfl (setRow_heap _ _ _ _ _ _ HZ2.out) Tryz.underlying112 rfl HI.out) rfl ⟨rfl, below_setRow HB2.out (Nat.le_refl _) _⟩
end Go.Proofs.YtkfadijcjjdlcaaGreatDoor
namespace Go.Proofs.YtkfadijcjjdlcaaGreatDoor
open Sto (T St)
open Tri (Tr Ok hb)
open Go.Proofs.YtkfadijcjjdlcaaGreatDoor.Nd (N)

/-- A tree's nodes stand in a store, each at its sum. -/
def Tri.Tr.inS (S : St) : Tr → Prop
  | .nil => True
  | .leaf p v => Sto.look S (Tr.sum Nd.sumS (.leaf p v)) = some (Nd.written (Tr.node Nd.sumS (.leaf p v)))
  | .ext p t => Sto.look S (Tr.sum Nd.sumS (.ext p t)) = some (Nd.written (Tr.node Nd.sumS (.ext p t))) ∧ Tri.Tr.inS S t
  | .br v k => Sto.look S (Tr.sum Nd.sumS (.br v k)) = some (Nd.written (Tr.node Nd.sumS (.br v k))) ∧ ∀ i, Tri.Tr.inS S (k i)
theorem inS_iff (S : St) {t : Tr} (h : ¬ t.isNil) : t.inS S ↔ Sto.look S (t.sum Nd.sumS) = some (Nd.written (t.node Nd.sumS)) ∧ ∀ i, (t.kid i).inS S := by
  cases t with
  | nil => exact absurd trivial h
  | leaf p v => exact ⟨fun h => ⟨h, fun i => trivial⟩, fun h => h.1⟩
  | ext p t =>
    refine and_congr Iff.rfl ⟨fun h i => ?_, fun h => by simpa [Tr.kid] using h 0⟩
    simp only [Tr.kid]; split
    · exact h
    · trivial
  | br v k => exact Iff.rfl
/-- Two trees in one store, of one sum. -/
theorem inS_one {S : St} {t u : Tr} (ht : Ok t) (hu : Ok u) (nt : ¬ t.isNil) (nu : ¬ u.isNil) (h : t.inS S) (h' : u.inS S) (e : t.sum Nd.sumS = u.sum Nd.sumS) : t = u := by
  revert u
  revert ht nt h
  refine Tri.kid_ind (P := fun t => Ok t → ¬ t.isNil → t.inS S → ∀ {u : Tr}, Ok u → ¬ u.isNil → u.inS S → t.sum Nd.sumS = u.sum Nd.sumS → t = u) (fun _ n => absurd trivial n) ?_ t
  intro t _ ih ht nt h u hu nu h' e
  obtain ⟨h1, h2⟩ := (inS_iff S nt).1 h
  obtain ⟨g1, g2⟩ := (inS_iff S nu).1 h'
  rw [e, g1] at h1
  have hn := Nd.written_inj (Tri.node_kids Nd.sumS u) (Tri.node_kids Nd.sumS t) (hu.fine nu) (ht.fine nt) (Option.some.inj h1)
  rw [Tri.node_kid _ nt, Tri.node_kid _ nu] at hn
  simp only [N.mk.injEq] at hn
  obtain ⟨e1, e2, e3, e4⟩ := hn
  refine Tri.kid_ext (by omega) e2.symm e3.symm fun i => ?_
  have es := (Tri.ofFn_inj e4 i).symm
  by_cases n1 : (t.kid i).isNil
  · have n2 : (u.kid i).isNil := Classical.byContradiction fun n2 => by
      have := (hu.kid i).sum_ne n2
      rw [← es, Tri.nil_of_isNil n1] at this
      exact this rfl
    rw [Tri.nil_of_isNil n1, Tri.nil_of_isNil n2]
  · have n2 : ¬ (u.kid i).isNil := fun n2 => by
      have := (ht.kid i).sum_ne n1
      rw [es, Tri.nil_of_isNil n2] at this
      exact this rfl
    exact ih i (ht.kid i) n1 (h2 i) (hu.kid i) n2 (g2 i) es
/-- Each text in a store stands at its own sum. -/
def OwnSums (S : St) : Prop := ∀ x t, Sto.look S x = some t → Sto.sumOf t = x
theorem OwnSums.nil : OwnSums [] := fun x t h => by cases h
theorem OwnSums.put {S : St} (h : OwnSums S) (hS : Sto.Rising S) (t : T) : OwnSums (Sto.put S (Sto.sumOf t) t) := fun x y hl => by
  obtain ⟨s, hs⟩ : ∃ s, Sto.sumOf t = s := ⟨_, rfl⟩
  rw [hs, Sto.look_put hS] at hl
  by_cases e : x = s
  · rw [if_pos e] at hl
    cases hk : Sto.look S s with
    | none =>
      rw [hk] at hl
      have e2 : t = y := Option.some.inj hl
      rw [← e2, e]; exact hs
    | some z =>
      rw [hk] at hl
      have e2 : z = y := Option.some.inj hl
      rw [← e2, e]; exact h _ _ hk
  · rw [if_neg e] at hl
    exact h _ _ hl
/-- A trie that may stand at a place, in a store at a sum. -/
structure Loaded (S : St) (sum place : T) (inE : Bool) (t : Tr) : Prop where
  nn : ¬ t.isNil
  ok : Ok t
  sum : t.sum Nd.sumS = sum
  inn : t.inS S
  br : inE = true → t.isBr
  fit : ∀ x ∈ t.items, 1 ≤ place.length + x.1.length ∧ place.length + x.1.length ≤ 16 ∧ (place.length + x.1.length) % 2 = 0
theorem nodeOf_at {S : St} {x t : T} (h : Sto.look S x = some t) : Sto.nodeOf S x = Nd.dec t := by
  unfold Sto.nodeOf
  rw [h]
theorem Loaded.node {S : St} {sum place : T} {inE : Bool} {t : Tr} (h : Loaded S sum place inE t) : Sto.nodeOf S sum = (t.node Nd.sumS, 0) := by
  rw [nodeOf_at (by rw [← h.sum]; exact ((inS_iff S h.nn).1 h.inn).1)]
  exact Nd.dec_written _ (Tri.node_kids _ _) (h.ok.fine h.nn)
theorem nodeOf_none {S : St} {x : T} (h : (Sto.nodeOf S x).2 ≠ 0) {place : T} {inE : Bool} {t : Tr} (hl : Loaded S x place inE t) : False := h (by rw [hl.node])
theorem nodeOf_some {S : St} (hS : OwnSums S) {x : T} (h : (Sto.nodeOf S x).2 = 0) : Nd.fine (Sto.nodeOf S x).1 = true ∧ (Sto.nodeOf S x).1.kids.length = 16 ∧ Sto.look S x = some (Nd.written (Sto.nodeOf S x).1) ∧ Nd.sumS (Sto.nodeOf S x).1 = x := by
  cases hl : Sto.look S x with
  | none => unfold Sto.nodeOf at h; rw [hl] at h; cases h
  | some t =>
    rw [nodeOf_at hl] at h ⊢
    rcases Nd.dec_is t with ⟨_, h1, h2, h3⟩ | ⟨h1, _⟩
    · refine ⟨h1, h2, by rw [h3], ?_⟩
      unfold Nd.sumS
      rw [if_pos h1, h3]
      have := hS x t hl
      unfold Sto.sumOf at this
      exact this
    · rw [h1] at h; exact absurd h (by decide)
/-- An item of a tree's own, or of a kid's. -/
theorem item_of_kid {t : Tr} (i : Fin 16) {x : T × T} (h : x ∈ (t.kid i).items) : (placeT t.kind t.pth i ++ x.1, x.2) ∈ t.items := by
  cases t with
  | nil => cases h
  | leaf p v => cases h
  | ext p t =>
    simp only [Tr.kid] at h
    split at h
    · exact Tri.mem_behind.2 ⟨x.1, h, rfl⟩
    · cases h
  | br v k => exact Tri.mem_br.2 (Or.inr ⟨i, x.1, rfl, h⟩)
theorem item_own {t : Tr} (h : t.vl ≠ []) : (t.pth, t.vl) ∈ t.items := by
  cases t with
  | nil => exact absurd rfl h
  | leaf p v => exact List.mem_singleton.2 rfl
  | ext p t => exact absurd rfl h
  | br v k => exact Tri.mem_br.2 (Or.inl ⟨rfl, rfl, h⟩)
theorem item_path {t : Tr} {x : T × T} (h : x ∈ t.items) : t.pth.length ≤ x.1.length := by
  cases t with
  | nil => cases h
  | leaf p v => rw [List.mem_singleton.1 h]; exact Nat.le_refl _
  | ext p t =>
    obtain ⟨q, _, e⟩ := Tri.mem_behind.1 h
    rw [e]; simp [Tr.pth]
  | br v k => simp [Tr.pth]
theorem placeT_cat (k : Nat) (p q : T) (i : Fin 16) : placeT k (p ++ q) i = p ++ placeT k q i := by
  unfold placeT; split <;> simp
theorem Loaded.short {S : St} {sum place : T} {inE : Bool} {t : Tr} (h : Loaded S sum place inE t) : place.length + t.pth.length ≤ 16 := by
  obtain ⟨a, l, e⟩ := List.exists_cons_of_ne_nil (fun e => h.nn ((Tri.items_nil h.ok.canon).1 e))
  have hm : a ∈ t.items := by rw [e]; exact List.mem_cons_self ..
  have := item_path hm
  have := (h.fit a hm).2.1
  omega
theorem isBr_kind {t : Tr} : t.isBr ↔ t.kind = 3 := by cases t <;> simp [Tr.isBr, Tr.kind]
theorem Loaded.kid {S : St} {sum place : T} {inE : Bool} {t : Tr} (h : Loaded S sum place inE t) (i : Fin 16) (hn : ¬ (t.kid i).isNil) : Loaded S ((t.kid i).sum Nd.sumS) (placeT t.kind (place ++ t.pth) i) (decide (t.kind = 2)) (t.kid i) := by
  refine ⟨hn, h.ok.kid i, rfl, ((inS_iff S h.nn).1 h.inn).2 i, fun e => ?_, fun x hx => ?_⟩
  · have e := of_decide_eq_true e
    cases t with
    | nil => cases e
    | leaf p v => cases e
    | br v k => cases e
    | ext p t =>
      simp only [Tr.kid] at hn ⊢
      split
      · exact h.ok.canon.2.1
      · rename_i hh; rw [if_neg hh] at hn; exact absurd trivial hn
  · have := h.fit _ (item_of_kid i hx)
    rw [placeT_cat]
    simpa [List.length_append, Nat.add_assoc] using this
/-- How many items the first kids have. -/
def cntK (k : Fin 16 → Tr) (j : Nat) : Nat := (((List.finRange 16).take j).map fun i => (k i).items.length).sum
theorem cntK_zero (k : Fin 16 → Tr) : cntK k 0 = 0 := rfl
theorem cntK_step (k : Fin 16 → Tr) (j : Nat) (hj : j < 16) : cntK k (j + 1) = cntK k j + (k ⟨j, hj⟩).items.length := by
  unfold cntK
  have h : j < (List.finRange 16).length := by rw [List.length_finRange]; exact hj
  rw [List.take_succ_eq_append_getElem h, List.map_append, List.sum_append]
  simp
theorem cntK_same {k m : Fin 16 → Tr} {j : Nat} (h : ∀ i : Fin 16, i.val < j → k i = m i) : cntK k j = cntK m j := by
  unfold cntK
  congr 1
  refine List.map_congr_left fun i hi => ?_
  obtain ⟨n, hn, e⟩ := List.mem_take_iff_getElem.1 hi
  rw [List.getElem_finRange] at e
  have : i.val = n := by rw [← e]; rfl
  rw [h i (by omega)]
theorem cntK_mono (k : Fin 16 → Tr) {i j : Nat} (h : i ≤ j) (hj : j ≤ 16) : cntK k i ≤ cntK k j := by
  induction j with
  | zero => obtain rfl : i = 0 := by omega
            exact Nat.le_refl _
  | succ j ih =>
    rcases Nat.lt_or_ge i (j + 1) with h1 | h1
    · have := ih (by omega) (by omega)
      rw [cntK_step k j (by omega)]; omega
    · obtain rfl : i = j + 1 := by omega
      exact Nat.le_refl _
theorem cntK_nil {k : Fin 16 → Tr} (h : ∀ i, k i = .nil) (j : Nat) : cntK k j = 0 := by
  unfold cntK
  rw [List.sum_eq_zero_iff_forall_eq_nat]
  intro x hx
  obtain ⟨i, _, rfl⟩ := List.mem_map.1 hx
  rw [h i]; rfl
theorem cntK_flat (k : Fin 16 → Tr) : (List.flatMap (fun i => Tri.behind [hb i] (k i).items) (List.finRange 16)).length = cntK k 16 := by
  unfold cntK
  rw [List.length_flatMap, List.take_of_length_le (by rw [List.length_finRange]; exact Nat.le_refl _)]
  congr 1
  refine List.map_congr_left fun i _ => ?_
  simp [Tri.behind]
def ownN (v : T) : Nat := if v = [] then 0 else 1
theorem items_count {t : Tr} (h : Ok t) (hn : ¬ t.isNil) : t.items.length = ownN t.vl + cntK t.kid 16 := by
  cases t with
  | nil => exact absurd trivial hn
  | leaf p v =>
    have hv : v ≠ [] := h.canon
    rw [cntK_nil (k := Tr.kid (.leaf p v)) (fun i => rfl)]
    simp [Tr.items, ownN, Tr.vl, hv]
  | ext p t =>
    have e : cntK (Tr.kid (.ext p t)) 1 = t.items.length := by
      rw [cntK_step _ 0 (by omega), cntK_zero]
      simp [Tr.kid]
    have e2 : ∀ j, 1 ≤ j → j ≤ 16 → cntK (Tr.kid (.ext p t)) j = t.items.length := by
      intro j
      induction j with
      | zero => intro h; omega
      | succ j ih =>
        intro _ h2
        by_cases hj : j = 0
        · subst hj; exact e
        · rw [cntK_step _ j (by omega), ih (by omega) (by omega)]
          have : (Tr.kid (.ext p t) ⟨j, by omega⟩) = .nil := by
            simp only [Tr.kid]
            rw [if_neg (fun e => hj (by simpa using congrArg Fin.val e))]
          rw [this]; rfl
    rw [e2 16 (by omega) (by omega)]
    simp [Tr.items, ownN, Tr.vl, Tri.behind]
  | br v k =>
    rw [Tr.items, List.length_append, cntK_flat]
    unfold Tri.own ownN Tr.vl Tr.kid
    split <;> simp
/-- The tree of a node and its kids. -/
def mkT (n : N) (k : Fin 16 → Tr) : Tr := if n.kind = 1 then .leaf n.path n.val else if n.kind = 2 then .ext n.path (k 0) else .br n.val k
/-- What stands for a kid of this sum. -/
def KidOf (S : St) (kind : Nat) (e x : T) (i : Fin 16) (u : Tr) : Prop := (x = [] ∧ u = .nil) ∨ (x ≠ [] ∧ Loaded S x (placeT kind e i) (decide (kind = 2)) u)
theorem KidOf.sum {S : St} {kind : Nat} {e x : T} {i : Fin 16} {u : Tr} (h : KidOf S kind e x i u) : u.sum Nd.sumS = x := by
  rcases h with ⟨rfl, rfl⟩ | ⟨_, h⟩
  · rfl
  · exact h.sum
theorem KidOf.ok {S : St} {kind : Nat} {e x : T} {i : Fin 16} {u : Tr} (h : KidOf S kind e x i u) : Ok u := by
  rcases h with ⟨rfl, rfl⟩ | ⟨_, h⟩
  · exact ⟨trivial, trivial, trivial⟩
  · exact h.ok
theorem KidOf.inn {S : St} {kind : Nat} {e x : T} {i : Fin 16} {u : Tr} (h : KidOf S kind e x i u) : u.inS S := by
  rcases h with ⟨rfl, rfl⟩ | ⟨_, h⟩
  · trivial
  · exact h.inn
theorem KidOf.fit {S : St} {kind : Nat} {e x : T} {i : Fin 16} {u : Tr} (h : KidOf S kind e x i u) : ∀ y ∈ u.items, 1 ≤ (placeT kind e i).length + y.1.length ∧ (placeT kind e i).length + y.1.length ≤ 16 ∧ ((placeT kind e i).length + y.1.length) % 2 = 0 := by
  rcases h with ⟨rfl, rfl⟩ | ⟨_, h⟩
  · intro y hy; cases hy
  · exact h.fit
theorem ofFn_of {L : List T} {f : Fin 16 → T} (hL : L.length = 16) (h : ∀ i : Fin 16, f i = L[i.val]'(by omega)) : List.ofFn f = L := by
  refine List.ext_getElem (by simp [hL]) fun i h1 h2 => ?_
  rw [List.getElem_ofFn]
  exact h ⟨i, by omega⟩
theorem kids_two {L : List T} (h : 2 ≤ (Nd.kidsL L).length) : ∃ i j, ∃ hi : i < L.length, ∃ hj : j < L.length, i < j ∧ L[i] ≠ [] ∧ L[j] ≠ [] := by
  induction L with
  | nil => simp [Nd.kidsL] at h
  | cons a L ih =>
    rw [Nd.kidsL_cons] at h
    split at h
    · obtain ⟨i, j, hi, hj, h1, h2, h3⟩ := ih h
      exact ⟨i + 1, j + 1, by simpa using hi, by simpa using hj, by omega, by simpa using h2, by simpa using h3⟩
    · rename_i ha
      simp only [List.length_cons] at h
      have : Nd.kidsL L ≠ [] := fun e => by rw [e] at h; simp at h
      obtain ⟨x, hx⟩ := List.exists_mem_of_ne_nil _ this
      unfold Nd.kidsL at hx
      obtain ⟨hm, hx2⟩ := List.mem_filter.1 hx
      obtain ⟨j, hj, rfl⟩ := List.mem_iff_getElem.1 hm
      exact ⟨0, j + 1, by simp, by simpa using hj, by omega, by simpa using ha, by simpa using hx2⟩
theorem kids_one {L : List T} (h : 1 ≤ (Nd.kidsL L).length) : ∃ i, ∃ hi : i < L.length, L[i] ≠ [] := by
  have : Nd.kidsL L ≠ [] := fun e => by rw [e] at h; simp at h
  obtain ⟨x, hx⟩ := List.exists_mem_of_ne_nil _ this
  unfold Nd.kidsL at hx
  obtain ⟨hm, hx2⟩ := List.mem_filter.1 hx
  obtain ⟨j, hj, rfl⟩ := List.mem_iff_getElem.1 hm
  exact ⟨j, hj, by simpa using hx2⟩
theorem none_at {L : List T} (h : (L == Nd.none16) = true) (i : Nat) (hi : i < L.length) : L[i] = [] := by
  have e := beq_iff_eq.1 h
  subst e
  exact List.getElem_replicate ..
theorem ext_at {L : List T} (h : (L.set 0 [] == Nd.none16) = true) (i : Nat) (hi : i < L.length) (h0 : i ≠ 0) : L[i] = [] := by
  have e := beq_iff_eq.1 h
  have := List.getElem_of_eq e (i := i) (by simpa using hi)
  rw [List.getElem_set_ne (fun e => h0 e.symm)] at this
  rw [this]; exact List.getElem_replicate ..
/-- What the tree of a node and its kids shows. -/
structure MkIs (n : N) (k : Fin 16 → Tr) : Prop where
  kind : ((mkT n k).kind : Int) = n.kind
  pth : (mkT n k).pth = n.path
  vl : (mkT n k).vl = n.val
  kid : ∀ i, (mkT n k).kid i = k i
  nn : ¬ (mkT n k).isNil
theorem mkT_is {S : St} {e : T} {kind : Nat} {n : N} {k : Fin 16 → Tr} (hn : n.kids.length = 16) (hf : Nd.fine n = true) (hk : ∀ i : Fin 16, KidOf S kind e (n.kids[i.val]'(by omega)) i (k i)) : MkIs n k := by
  rw [Nd.fine_kinds n hn] at hf
  by_cases k1 : n.kind = 1
  · rw [if_pos k1] at hf
    simp only [Nd.leafB, Bool.and_eq_true, decide_eq_true_eq] at hf
    have hnil : ∀ i, k i = .nil := fun i => by
      rcases hk i with ⟨_, h⟩ | ⟨h, _⟩
      · exact h
      · exact absurd (none_at hf.2.2.2 _ _) h
    refine ⟨?_, ?_, ?_, ?_, ?_⟩ <;> simp only [mkT, if_pos k1]
    · exact k1.symm
    · rfl
    · rfl
    · intro i; rw [hnil i]; rfl
    · exact id
  · rw [if_neg k1] at hf
    by_cases k2 : n.kind = 2
    · rw [if_pos k2] at hf
      simp only [Nd.extB, Bool.and_eq_true, decide_eq_true_eq] at hf
      refine ⟨?_, ?_, ?_, ?_, ?_⟩ <;> simp only [mkT, if_neg k1, if_pos k2]
      · exact k2.symm
      · rfl
      · exact hf.2.2.1.symm
      · intro i
        simp only [Tr.kid]
        split
        · rename_i h; rw [h]
        · rename_i h
          rcases hk i with ⟨_, h2⟩ | ⟨h2, _⟩
          · exact h2.symm
          · exact absurd (ext_at hf.2.2.2.2 _ _ (fun e => h (Fin.ext e))) h2
      · exact id
    · rw [if_neg k2] at hf
      by_cases k3 : n.kind = 3
      · rw [if_pos k3] at hf
        simp only [Nd.branchB, Bool.and_eq_true, decide_eq_true_eq] at hf
        refine ⟨?_, ?_, ?_, ?_, ?_⟩ <;> simp only [mkT, if_neg k1, if_neg k2]
        · exact k3.symm
        · exact hf.1.symm
        · rfl
        · intro i; rfl
        · exact id
      · rw [if_neg k3] at hf; cases hf
theorem MkIs.node {n : N} {k : Fin 16 → Tr} (h : MkIs n k) (hn : n.kids.length = 16) (hs : ∀ i : Fin 16, (k i).sum Nd.sumS = n.kids[i.val]'(by omega)) : (mkT n k).node Nd.sumS = n := by
  rw [Tri.node_kid _ h.nn, h.kind, h.pth, h.vl]
  obtain ⟨a, b, c, L⟩ := n
  congr 1
  refine ofFn_of hn fun i => ?_
  rw [h.kid]; exact hs i
theorem mkT_canon {S : St} {e : T} {kind : Nat} {n : N} {k : Fin 16 → Tr} (hn : n.kids.length = 16) (hf : Nd.fine n = true) (hki : (kind : Int) = n.kind) (hk : ∀ i : Fin 16, KidOf S kind e (n.kids[i.val]'(by omega)) i (k i)) : Ok (mkT n k) := by
  have hnl : ∀ i : Fin 16, n.kids[i.val]'(by omega) ≠ [] → ¬ (k i).isNil := fun i h => by
    rcases hk i with ⟨h2, _⟩ | ⟨_, h2⟩
    · exact absurd h2 h
    · exact h2.nn
  have hf2 := hf
  rw [Nd.fine_kinds n hn] at hf
  unfold mkT
  by_cases k1 : n.kind = 1
  · rw [if_pos k1] at hf ⊢
    simp only [Nd.leafB, Nd.pathB, Bool.and_eq_true, decide_eq_true_eq] at hf
    exact ⟨hf.2.1, hf.1.2, hf.1.1, hf.2.2.1⟩
  · rw [if_neg k1] at hf ⊢
    by_cases k2 : n.kind = 2
    · rw [if_pos k2] at hf ⊢
      simp only [Nd.extB, Nd.pathB, Bool.and_eq_true, decide_eq_true_eq] at hf
      have h0 : n.kids[(0 : Fin 16).val]'(by rw [hn]; decide) ≠ [] := fun e => by
        have h5 := hf.2.2.2.1
        have e2 : n.kids.getD 0 [] = n.kids[0]'(by omega) := by simp [hn]
        rw [e2, show n.kids[0]'(by omega) = [] from e] at h5
        cases h5
      have hb0 : (k 0).isBr := by
        rcases hk 0 with ⟨h2, _⟩ | ⟨_, h2⟩
        · exact absurd h2 h0
        · exact h2.br (decide_eq_true (by omega))
      have h3 := (hk 0).ok
      exact ⟨⟨hf.1, hb0, h3.canon⟩, ⟨hf.2.1.2, h3.fits⟩, ⟨hf.2.1.1, h3.small⟩⟩
    · rw [if_neg k2] at hf ⊢
      by_cases k3 : n.kind = 3
      · rw [if_pos k3] at hf
        simp only [Nd.branchB, Bool.and_eq_true, decide_eq_true_eq] at hf
        obtain ⟨_, hv, _, h2⟩ := hf
        refine ⟨⟨fun i => (hk i).ok.canon, ?_⟩, fun i => (hk i).ok.fits, ⟨hv, fun i => (hk i).ok.small⟩⟩
        by_cases hve : n.val = []
        · rw [if_pos hve] at h2
          obtain ⟨i, j, hi, hj, hij, a, b⟩ := kids_two (L := n.kids) (by omega)
          exact Or.inl ⟨⟨i, by omega⟩, ⟨j, by omega⟩, hij, hnl ⟨i, by omega⟩ a, hnl ⟨j, by omega⟩ b⟩
        · rw [if_neg hve] at h2
          obtain ⟨i, hi, a⟩ := kids_one (L := n.kids) (by omega)
          exact Or.inr ⟨hve, ⟨i, by omega⟩, hnl ⟨i, by omega⟩ a⟩
      · rw [if_neg k3] at hf; cases hf
/-- An item of a tree: its own, or a kid's. -/
theorem item_from {t : Tr} {x : T × T} (h : x ∈ t.items) : (x.1 = t.pth ∧ x.2 = t.vl ∧ (t.vl ≠ [] ∨ t.kind = 1)) ∨ ∃ i y, y ∈ (t.kid i).items ∧ x.1 = placeT t.kind t.pth i ++ y.1 := by
  cases t with
  | nil => cases h
  | leaf p v => rw [List.mem_singleton.1 h]; exact Or.inl ⟨rfl, rfl, Or.inr rfl⟩
  | ext p t =>
    obtain ⟨q, hq, e⟩ := Tri.mem_behind.1 h
    exact Or.inr ⟨0, (q, x.2), by simpa [Tr.kid] using hq, e⟩
  | br v k =>
    rcases Tri.mem_br.1 h with ⟨h1, h2, h3⟩ | ⟨i, q, h1, h2⟩
    · exact Or.inl ⟨h1, h2, Or.inl h3⟩
    · exact Or.inr ⟨i, (q, x.2), h2, h1⟩
/-- What was read is what stands there. -/
theorem mkT_loaded {S : St} {sum place : T} {inE : Bool} {n : N} {k : Fin 16 → Tr} {kind : Nat} (hn : n.kids.length = 16) (hf : Nd.fine n = true) (hki : (kind : Int) = n.kind) (hl : Sto.look S sum = some (Nd.written n)) (hs : Nd.sumS n = sum)
    (hk : ∀ i : Fin 16, KidOf S kind (place ++ n.path) (n.kids[i.val]'(by omega)) i (k i)) (hp : place.length + n.path.length ≤ 16) (hE : inE = true → n.kind = 3) (hv : n.val ≠ [] → 1 ≤ place.length + n.path.length ∧ (place.length + n.path.length) % 2 = 0) : Loaded S sum place inE (mkT n k) := by
  have hi := mkT_is hn hf hk
  have ho := mkT_canon hn hf hki hk
  have hnd := hi.node hn (fun i => (hk i).sum)
  have hsum : (mkT n k).sum Nd.sumS = sum := by rw [Tri.sum_node _ hi.nn, hnd, hs]
  refine ⟨hi.nn, ho, hsum, (inS_iff S hi.nn).2 ⟨by rw [hsum, hnd, hl], fun i => by rw [hi.kid]; exact (hk i).inn⟩, fun e => isBr_kind.2 (by have := hE e; have := hi.kind; omega), fun x hx => ?_⟩
  have hkk : (mkT n k).kind = kind := by have := hi.kind; omega
  rcases item_from hx with ⟨e1, e2, e3⟩ | ⟨i, y, hy, e1⟩
  · rw [hi.pth] at e1
    have hne : n.val ≠ [] := by
      rcases e3 with e3 | e3
      · rwa [hi.vl] at e3
      · have := hi.vl
        have hc := ho.canon
        cases hm : mkT n k with
        | leaf p v => rw [hm] at hc this; rw [← this]; exact hc
        | nil => rw [hm] at e3; cases e3
        | ext _ _ => rw [hm] at e3; cases e3
        | br _ _ => rw [hm] at e3; cases e3
    rw [e1]
    exact ⟨(hv hne).1, hp, (hv hne).2⟩
  · rw [hi.kid] at hy
    have := (hk i).fit y hy
    rw [hkk, hi.pth] at e1
    rw [placeT_cat] at this
    rw [e1]
    simpa [List.length_append, Nat.add_assoc] using this
/-- What stands there has the kids that were read. -/
theorem Loaded.kidOf {S : St} {sum place : T} {inE : Bool} {t : Tr} {n : N} {kind : Nat} (h : Loaded S sum place inE t) (hd : Sto.nodeOf S sum = (n, 0)) (hki : (kind : Int) = n.kind) (hn : n.kids.length = 16) (i : Fin 16) : KidOf S kind (place ++ n.path) (n.kids[i.val]'(by omega)) i (t.kid i) := by
  have e := h.node
  rw [hd] at e
  obtain rfl := (Prod.mk.inj e).1
  have hk : (kind : Int) = (t.node Nd.sumS).kind := hki
  have e2 := Tri.node_kid Nd.sumS h.nn
  have ek : (t.node Nd.sumS).kids[i.val]'(by rw [hn]; exact i.isLt) = (t.kid i).sum Nd.sumS := by
    have : (t.node Nd.sumS).kids = List.ofFn fun i => (t.kid i).sum Nd.sumS := by rw [e2]
    rw [List.getElem_of_eq this, List.getElem_ofFn]
  have ep : (t.node Nd.sumS).path = t.pth := by rw [e2]
  have ekk : kind = t.kind := by rw [e2] at hk; exact Int.ofNat_inj.1 hk
  rw [ek, ep, ekk]
  by_cases hnl : (t.kid i).isNil
  · rw [Tri.nil_of_isNil hnl]; exact Or.inl ⟨rfl, rfl⟩
  · exact Or.inr ⟨(h.ok.kid i).sum_ne hnl, h.kid i hnl⟩
theorem KidOf.one {S : St} {kind : Nat} {e x : T} {i : Fin 16} {t u : Tr} (h : KidOf S kind e x i t) (h' : KidOf S kind e x i u) : t = u := by
  rcases h with ⟨e1, rfl⟩ | ⟨e1, h⟩ <;> rcases h' with ⟨e2, rfl⟩ | ⟨e2, h'⟩
  · rfl
  · exact absurd e1 e2
  · exact absurd e2 e1
  · exact inS_one h.ok h'.ok h.nn h'.nn h.inn h'.inn (h.sum.trans h'.sum.symm)
end Go.Proofs.YtkfadijcjjdlcaaGreatDoor
