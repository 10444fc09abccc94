/- RowList, PowMath, PowBase, AppendArg, NibSide, TriFind, TriSide, TriTexts, TriWants, NibCommon, TriWith -/
import Derived.Test.YtikabacebmbacaaDoorPk03
import Derived.Test.YtikabacebmbacaaDoorPk01
import Derived.Maps.AppendAt
import Derived.WalkSpells
import Derived.WalkLawsBesides
import Derived.Lib.Strings
import Derived.Test.YtikabacebmbacaaDoorChecked
import Derived.Test.YtikabacebmbacaaDoorPk02
import Derived.Test.YtikabacebmbacaaDoorPk04
import Derived.Deep.Slices
import Derived.DataReads
import Derived.OpenShut
import Derived.SizedLaws
import Derived.Lib.LaidU8
import Derived.Lib.Hide
import Derived.Test.YtikabacebmbacaaDoorPk07
import Derived.Deep.QuietTactic
import Derived.BigQuiet
import Derived.Test.YtikabacebmbacaaDoorQTriWalk
import Derived.Deep.RegionLaw
import Derived.WalkKit
import Derived.ShutString
import Derived.WalkSmall
namespace Go.Proofs.YtikabacebmbacaaDoor
open Go.RowKit

def rowsL {α : Type} (f : α → List Value) (L : List α) : List Value := L.flatMap f
theorem rowsL_length {α : Type} {f : α → List Value} {c : Nat} (hf : ∀ a, (f a).length = c) (L : List α) : (rowsL f L).length = L.length * c := by
  induction L with
  | nil => simp [rowsL]
  | cons a L ih =>
    have e : rowsL f (a :: L) = f a ++ rowsL f L := by simp [rowsL]
    rw [e, List.length_append, ih, hf, List.length_cons, Nat.succ_mul, Nat.add_comm]
theorem rowsL_append {α : Type} (f : α → List Value) (S T : List α) : rowsL f (S ++ T) = rowsL f S ++ rowsL f T := by simp [rowsL]
theorem rowsL_at {α : Type} {f : α → List Value} {c : Nat} (hf : ∀ a, (f a).length = c) (S : List α) (i j : Nat) (hi : i < S.length) (hj : j < c) : (rowsL f S)[i * c + j]? = (f S[i])[j]? := by
  induction S generalizing i with
  | nil => simp at hi
  | cons a L ih =>
    have e : rowsL f (a :: L) = f a ++ rowsL f L := by simp [rowsL]
    rw [e]
    cases i with
    | zero =>
      rw [List.getElem?_append_left (by rw [hf]; omega)]
      simp
    | succ i =>
      rw [List.getElem?_append_right (by rw [hf, Nat.succ_mul]; omega)]
      have : (i + 1) * c + j - (f a).length = i * c + j := by rw [hf, Nat.succ_mul]; omega
      rw [this, ih i (by simpa using hi)]
      simp
theorem rowsL_one {α : Type} {f : α → List Value} (h : ∀ a, ∀ u ∈ f a, u.oneCell' = true) (S : List α) : ∀ u ∈ rowsL f S, u.oneCell' = true := by
  intro u hu
  obtain ⟨n, _, hn⟩ := List.mem_flatMap.1 hu
  exact h n u hn
/-- A slice that has the things S. -/
def RowsAt {α : Type} (ty : TypeId) (c : Nat) (f : α → List Value) (w : World) (v : Value) (S : List α) : Prop :=
  ∃ (A : Option Addr) (cap : Nat), v = .slice A S.length cap ∧ S.length ≤ cap ∧ (S = [] → A = none ∧ cap = 0 ∨ ∃ b o, A = some ⟨b, o, none⟩) ∧ (0 < S.length → ∃ b o, A = some ⟨b, o, none⟩ ∧ (∃ cs fl, w.heap[b]? = some (.cells cs ty fl)) ∧ ∀ i (h : i < S.length) j u, (f S[i])[j]? = some u → w.cell? ⟨b, o + i * c + j, none⟩ = some u)
theorem RowsAt.nil {α : Type} (ty : TypeId) (c : Nat) (f : α → List Value) (w : World) : RowsAt ty c f w (.slice none 0 0) [] := ⟨none, 0, rfl, Nat.le_refl _, fun _ => Or.inl ⟨rfl, rfl⟩, fun h => absurd h (by simp)⟩
theorem RowsAt.form {α : Type} {ty : TypeId} {c : Nat} {f : α → List Value} {w : World} {v : Value} {S : List α} (h : RowsAt ty c f w v S) : ∃ A cap, v = .slice A S.length cap ∧ S.length ≤ cap ∧ ((S = [] ∧ A = none ∧ cap = 0) ∨ ∃ b o, A = some ⟨b, o, none⟩) := by
  obtain ⟨A, cap, rfl, hc, h0, h1⟩ := h
  refine ⟨A, cap, rfl, hc, ?_⟩
  by_cases hs : S = []
  · exact (h0 hs).imp (fun h => ⟨hs, h⟩) id
  · obtain ⟨b, o, rfl, _⟩ := h1 (List.length_pos_iff.2 hs)
    exact Or.inr ⟨b, o, rfl⟩
theorem RowsAt.outF {α : Type} {ty : TypeId} {c : Nat} {f : α → List Value} {F : Nat → Prop} {w w' : World} {v : Value} {S : List α} (h : RowsAt ty c f w v S) (ho : Out F w w') (hF : ∀ k cs fl, F k → w.heap[k]? ≠ some (.cells cs ty fl)) : RowsAt ty c f w' v S := by
  obtain ⟨A, cap, rfl, hc, h0, h1⟩ := h
  refine ⟨A, cap, rfl, hc, h0, fun hp => ?_⟩
  obtain ⟨b, o, rfl, ⟨cs, fl, hh⟩, hcell⟩ := h1 hp
  have hb : ¬ F b := fun hf => hF b cs fl hf hh
  exact ⟨b, o, rfl, ⟨cs, fl, ho.heap hh hb⟩, fun i hi j u hu => ho.cell (hcell i hi j u hu) hb⟩
theorem RowsAt.below {α : Type} {ty : TypeId} {c : Nat} {f : α → List Value} {w w' : World} {v : Value} {S : List α} (h : RowsAt ty c f w v S) (hb : Below w.heap.size w w') : RowsAt ty c f w' v S := h.outF (F := fun _ => False) (Out.of hb) fun _ _ _ hf => hf.elim
theorem RowsAt.at {α : Type} {ty : TypeId} {c : Nat} {f : α → List Value} {w : World} {A : Option Addr} {n cap : Nat} {S : List α} (h : RowsAt ty c f w (.slice A n cap) S) (k : Nat) (hk : k < S.length) :
    ∃ b o, A = some ⟨b, o, none⟩ ∧ ∀ j u, (f S[k])[j]? = some u → w.cell? ⟨b, o + k * c + j, none⟩ = some u := by
  obtain ⟨A', cap', hv, _, _, h1⟩ := h
  obtain ⟨rfl, _⟩ : A = A' ∧ _ := by simpa using hv
  obtain ⟨b, o, rfl, _, hcell⟩ := h1 (by omega)
  exact ⟨b, o, rfl, hcell k hk⟩
theorem RowsAt.own {α : Type} {ty : TypeId} {c : Nat} {f : α → List Value} (hf : ∀ a, (f a).length = c) {w : World} {B : Nat} {v : Value} {S : List α} (h : w.ownsRow B ty c v S.length (rowsL f S)) : RowsAt ty c f w v S := by
  rcases h.2 with ⟨rfl, h0⟩ | ⟨g, cap, cur, rfl, hB, hh, hn, _⟩
  · obtain rfl : S = [] := List.eq_nil_of_length_eq_zero h0
    exact RowsAt.nil ty c f w
  · refine ⟨_, cap, rfl, hn, fun _ => Or.inr ⟨_, _, rfl⟩, fun h0 => ⟨g, 0, rfl, ⟨_, _, hh⟩, fun i hi j u hu => ?_⟩⟩
    have hj : j < c := by rw [← hf S[i]]; exact (List.getElem?_eq_some_iff.1 hu).1
    have := h.cells (g := g) rfl (i * c + j) u (by rw [rowsL_at hf S i j hi hj]; exact hu)
    rw [Addr.add_mid] at this; rw [Nat.zero_add]; simpa using this
theorem RowsAt.take {α : Type} {ty : TypeId} {c : Nat} {f : α → List Value} {w : World} {A : Option Addr} {n cap : Nat} {S : List α} (h : RowsAt ty c f w (.slice A n cap) S) (k : Nat) (hk : k ≤ S.length) : RowsAt ty c f w (.slice A k cap) (S.take k) := by
  obtain ⟨A', cap', hv, hcap, h0, h1⟩ := h
  obtain ⟨rfl, rfl, rfl⟩ : A = A' ∧ n = S.length ∧ cap = cap' := by simpa using hv
  have hl : (S.take k).length = k := by simp; omega
  refine ⟨A, cap, by rw [hl], by omega, fun _ => ?_, fun hp => ?_⟩
  · by_cases hs : S = []
    · exact h0 hs
    · obtain ⟨b, o, rfl, _⟩ := h1 (List.length_pos_iff.2 hs)
      exact Or.inr ⟨b, o, rfl⟩
  · obtain ⟨b, o, rfl, hlt, hcell⟩ := h1 (by omega)
    refine ⟨b, o, rfl, hlt, fun i hi j u hu => ?_⟩
    rw [hl] at hi
    exact hcell i (by omega) j u (by simpa using hu)
theorem RowsAt.drop {α : Type} {ty : TypeId} {c : Nat} {f : α → List Value} {w : World} {b o n cap : Nat} {S : List α} (h : RowsAt ty c f w (.slice (some ⟨b, o, none⟩) n cap) S) (k : Nat) (hk : k ≤ S.length) (b' o' : Nat) (hbo : k < S.length → b' = b ∧ o' = o + k * c) : RowsAt ty c f w (.slice (some ⟨b', o', none⟩) (n - k) (cap - k)) (S.drop k) := by
  obtain ⟨A', cap', hv, hcap, h0, h1⟩ := h
  obtain ⟨rfl, rfl, rfl⟩ : some ⟨b, o, none⟩ = A' ∧ n = S.length ∧ cap = cap' := by simpa using hv
  have hl : (S.drop k).length = S.length - k := by simp
  refine ⟨_, _, by rw [hl], by omega, fun _ => Or.inr ⟨_, _, rfl⟩, fun hp => ?_⟩
  rw [hl] at hp
  have hp1 : k < S.length := by omega
  have hp2 : 0 < S.length := by omega
  obtain ⟨rfl, rfl⟩ := hbo hp1
  obtain ⟨b2, o2, he, hlt, hcell⟩ := h1 hp2
  cases he
  refine ⟨_, _, rfl, hlt, fun i hi j u hu => ?_⟩
  have hki : k + i < S.length := by rw [hl] at hi; clear hcell hlt h1 h0; omega
  have := hcell (k + i) hki j u (by simpa using hu)
  rw [Nat.add_mul, ← Nat.add_assoc] at this
  exact this
theorem run_append_nothing_rows {c : Nat} (sty ty : TypeId) (hu : Tryd.prog.underlying sty = some (.slice ty)) (hsz : ∀ w, (sizeOf ty).run Tryd.prog w = .ok c w) (w : World) (v : Value) (n k B : Nat) (xs : List Value) (h : w.ownsRow B ty c v n xs) (tt : TypeId) : (Builtin.append_ #[sty, sty] tt #[v, .slice none 0 k]).run Tryd.prog w = .ok v w := by
  rcases h.2 with ⟨rfl, rfl⟩ | ⟨g, cap, cur, rfl, hB, hh, hn, _⟩
  · simp [Builtin.append_, run_underlying hu, hsz, Builtin.lenOf, Builtin.firstCells, Result.andThen]
  · simp [Builtin.append_, run_underlying hu, hsz, Builtin.lenOf, Builtin.firstCells, Result.andThen, hn, storeCells]
/-- All of a slice behind a row of the call's own. -/
theorem append_rows {α : Type} {f : α → List Value} {c : Nat} {w : World} {v s : Value} {S : List α} {B n : Nat} {xs : List Value} (sty ty : TypeId) (i0 : TypeInfo) (z : Value) (by_ : Nat)
    (hu : Tryd.prog.underlying sty = some (.slice ty)) (hsz : ∀ w, (sizeOf ty).run Tryd.prog w = .ok c w)
    (hi : Tryd.prog.info? ty = some i0) (hz0 : i0.zero = some z) (hz1 : i0.size = c) (hz2 : i0.bytes = by_) (hz : z.cells.size = c) (hc0 : 0 < c) (hby : by_ ≤ 1000)
    (hf : ∀ a, (f a).length = c) (h1 : ∀ a, ∀ u ∈ f a, u.oneCell' = true)
    (hv : RowsAt ty c f w v S) (hs : w.ownsRow B ty c s n xs) (hl : n + S.length ≤ 1000000) (hB : B ≤ w.heap.size) :
    ∃ v' w', (Builtin.append_ #[sty, sty] sty #[s, v]).run Tryd.prog w = .ok v' w' ∧ w'.ownsRow B ty c v' (n + S.length) (xs ++ rowsL f S) ∧ w.grownBy w' s.ownBlock ∧ (v'.ownBlock = s.ownBlock ∨ v'.ownBlock = some w.heap.size) := by
  obtain ⟨A, cap, rfl, -, -, hc⟩ := hv
  cases A with
  | none =>
    have h0 : S.length = 0 := by
      by_cases h : S.length = 0
      · exact h
      · obtain ⟨b, o, ha, _⟩ := hc (by omega)
        cases ha
    obtain rfl : S = [] := List.eq_nil_of_length_eq_zero h0
    exact ⟨s, w, run_append_nothing_rows sty ty hu hsz w s n cap B xs hs _, by simpa [rowsL] using hs, ⟨rfl, rfl, rfl, Nat.le_refl _, fun _ _ _ => rfl⟩, Or.inl rfl⟩
  | some a =>
    have hbytes : (n + S.length) * by_ ≤ 140737488355328 := Nat.le_trans (Nat.mul_le_mul hl hby) (by omega)
    obtain ⟨v', w', h1, h2, h3, _, h5⟩ := run_append_own_at (P := Tryd.prog) w B sty sty ty i0 z c by_ hu hi hz0 hz1 hz2 hz hc0 s n xs hs a S.length cap (rowsL f S) (rowsL_length hf S)
      (fun j u hu => by
        have hj : j < S.length * c := by
          have := (List.getElem?_eq_some_iff.1 hu).1
          rwa [rowsL_length hf] at this
        have hS : 0 < S.length := Nat.pos_of_ne_zero fun e => by rw [e, Nat.zero_mul] at hj; omega
        obtain ⟨b, o, hb, _, hcell⟩ := hc hS
        cases hb
        have hi' : j / c < S.length := (Nat.div_lt_iff_lt_mul hc0).2 hj
        have hr : j % c < c := Nat.mod_lt _ hc0
        have hjj : j / c * c + j % c = j := by rw [Nat.mul_comm]; exact Nat.div_add_mod j c
        have e := rowsL_at hf S (j / c) (j % c) hi' hr
        rw [hjj, hu] at e
        have := hcell (j / c) hi' (j % c) u e.symm
        rw [Addr.add_mid]
        rw [Nat.add_assoc, hjj] at this
        exact this) (rowsL_one h1 S) (by unfold maxLen; omega) hbytes hB
    exact ⟨v', w', h1, h2, h3, h5⟩
end Go.Proofs.YtikabacebmbacaaDoor
namespace Go.Proofs.YtikabacebmbacaaDoor.Pw

abbrev S := List UInt8
structure M where
  name : S
  power : Int
instance : Inhabited M := ⟨⟨[], 0⟩⟩
theorem M.ext' {a b : M} (h : a.name = b.name) (k : a.power = b.power) : a = b := by cases a; cases b; simp_all
instance : DecidableEq M := fun a b =>
  if h : a.name = b.name ∧ a.power = b.power then isTrue (M.ext' h.1 h.2) else isFalse (fun e => h (by subst e; exact ⟨rfl, rfl⟩))

def okM (p : S) (m : M) : Bool := decide (p < m.name) && decide (m.name.length ≤ 6) && decide (1 ≤ m.power) && decide (m.power ≤ 1000)
def okFrom : S → List M → Bool
  | _, [] => true
  | p, m :: t => okM p m && okFrom m.name t
def okL (L : List M) : Bool := decide (1 ≤ L.length) && decide (L.length ≤ 7) && okFrom [] L
def sumP (L : List M) : Int := L.foldr (fun m n => m.power + n) 0
def pick (L : List M) (names : List S) : List M := L.filter fun m => decide (m.name ∈ names)
def ofL (L : List M) (names : List S) : Nat := if okL L then (sumP (pick L names)).toNat else 0
end Go.Proofs.YtikabacebmbacaaDoor.Pw
namespace Go.Proofs.YtikabacebmbacaaDoor
open Go.RowKit Go.ChangeShapes Go.WideShapes
open Go.Proofs.YtikabacebmbacaaDoor.Pw (M)

theorem Tryd.infoStr : (Tryd.prog.info? 9).map (fun i => (i.zero, i.size, i.bytes)) = some (some (.string ⟨#[]⟩), 1, 16) := by kernel_rfl

/-- A slice that has these members. -/
def Mems (w : World) (v : Value) (L : List M) : Prop :=
  ∃ (A : Option Addr) (cap : Nat), v = .slice A L.length cap ∧ (0 < L.length → ∃ b o, A = some ⟨b, o, none⟩ ∧ b < w.heap.size ∧ ∀ i (h : i < L.length),
    w.cell? ⟨b, o + i * 2, none⟩ = some (.string ⟨L[i].name.toArray⟩) ∧ w.cell? ⟨b, o + i * 2 + 1, none⟩ = some (.int .i64 L[i].power))
theorem Mems.nil (w : World) : Mems w (.slice none 0 0) [] := ⟨none, 0, rfl, fun h => absurd h (by simp)⟩
theorem Mems.below {w w' : World} {v : Value} {L : List M} (h : Mems w v L) (hb : Below w.heap.size w w') : Mems w' v L := by
  obtain ⟨A, cap, rfl, hc⟩ := h
  refine ⟨A, cap, rfl, fun h0 => ?_⟩
  obtain ⟨b, o, rfl, hlt, hcell⟩ := hc h0
  refine ⟨b, o, rfl, Nat.lt_of_lt_of_le hlt hb.size, fun i hi => ?_⟩
  obtain ⟨h1, h2⟩ := hcell i hi
  exact ⟨(hb.cell hlt).trans h1, (hb.cell hlt).trans h2⟩
theorem Mems.drew {w : World} {v : Value} {L : List M} (h : Mems w v L) : Mems w.drew v L := h.below (Below.refl _ w).drew
/-- One member's cells. -/
theorem Mems.at {w w' : World} {A : Option Addr} {n cap : Nat} {L : List M} (h : Mems w (.slice A n cap) L) (hb : Below w.heap.size w w') (k : Nat) (hk : k < L.length) :
    ∃ b o, A = some ⟨b, o, none⟩ ∧ w'.cell? ⟨b, o + k * 2, none⟩ = some (.string ⟨L[k].name.toArray⟩) ∧ w'.cell? ⟨b, o + k * 2 + 1, none⟩ = some (.int .i64 L[k].power) := by
  obtain ⟨A', cap', hv, hc⟩ := h.below hb
  obtain ⟨rfl, rfl, rfl⟩ : A = A' ∧ n = L.length ∧ cap = cap' := by simpa using hv
  obtain ⟨b, o, rfl, _, hcell⟩ := hc (by omega)
  exact ⟨b, o, rfl, hcell k hk⟩
theorem Mems.len {w : World} {A : Option Addr} {n cap : Nat} {L : List M} (h : Mems w (.slice A n cap) L) : n = L.length := by
  obtain ⟨A', cap', hv, _⟩ := h
  simp at hv
  exact hv.2.1
theorem Mems.form {w : World} {v : Value} {L : List M} (h : Mems w v L) : ∃ A cap, v = .slice A L.length cap := by
  obtain ⟨A, cap, rfl, _⟩ := h
  exact ⟨A, cap, rfl⟩
end Go.Proofs.YtikabacebmbacaaDoor
namespace Go.Proofs.YtikabacebmbacaaDoor
open Go.RowKit
open Go.Proofs.YtikabacebmbacaaDoor.Pw (M)

/-- 'append(s, x...)', by an equation of the run. -/
theorem run_append_nothing_s (w : World) (v : Value) (n c B : Nat) (xs : List Value) (h : w.ownsRow B 9 1 v n xs) (ty : TypeId) : (Builtin.append_ #[53, 53] ty #[v, .slice none 0 c]).run Tryd.prog w = .ok v w := by
  rcases h.2 with ⟨rfl, rfl⟩ | ⟨g, cap, cur, rfl, hB, hh, hn, _⟩
  · simp [Builtin.append_, run_underlying Tryd.underlying53, Tryd.sizeOf9, Builtin.lenOf, Builtin.firstCells, Result.andThen]
  · simp [Builtin.append_, run_underlying Tryd.underlying53, Tryd.sizeOf9, Builtin.lenOf, Builtin.firstCells, Result.andThen, hn, storeCells]
theorem grown_none (w : World) (r : Option Nat) : w.grownBy w r := ⟨rfl, rfl, rfl, Nat.le_refl _, fun _ _ _ => rfl⟩
/-- The same as a step of a region that draws its order. -/
theorem step_append_run {P : Program} {ops : Array Oper} {o : Oper} {a : Act} {w w' : World} {K : Act → World → Prop} {Q : Exit → Act → World → Prop} {E : Prop} (hg : o.guard = none) (s x : Operand) (t : TypeId) (hop : o.op = Op.call { callee := Callee.builtin Builtin.append, args := #[s, x], argTypes := #[t, t] })
    (sv xv r : Value) (hs : a.eval s = sv) (hx : a.eval x = xv) (hrun : (Builtin.append_ #[t, t] o.type #[sv, xv]).run P w = .ok r w') (hK : K (a.put o.dst r) w') : if Region.wanted o (yielded ops a.tmps) = true then Oper.wp P o a w K Q else E := by
  have hw : Region.wanted o (yielded ops a.tmps) = true := by simp [Region.wanted, hg]
  rw [if_pos hw]
  unfold Oper.wp
  simp [execOp, hop, resolve, invoke, builtin, hs, hx, hrun, Result.andThen]
  exact hK
theorem append_strs {w : World} {v s : Value} {L : List (List UInt8)} {B n : Nat} {xs : List Value} (hv : Strs w v L) (hs : w.ownsRow B 9 1 s n xs) (hl : n + L.length ≤ 1000000) (hB : B ≤ w.heap.size) :
    ∃ v' w', (Builtin.append_ #[53, 53] 53 #[s, v]).run Tryd.prog w = .ok v' w' ∧ w'.ownsRow B 9 1 v' (n + L.length) (xs ++ scells L) ∧ w.grownBy w' s.ownBlock ∧ (v'.ownBlock = s.ownBlock ∨ v'.ownBlock = some w.heap.size) := by
  obtain ⟨i0, hi, hz0, hz1, hz2⟩ := info_parts Tryd.infoStr
  obtain ⟨A, cap, rfl, hc⟩ := hv
  cases A with
  | none =>
    have h0 : L.length = 0 := by
      by_cases h : L.length = 0
      · exact h
      · obtain ⟨a, ha, _⟩ := hc 0 (by omega)
        cases ha
    obtain rfl : L = [] := List.eq_nil_of_length_eq_zero h0
    exact ⟨s, w, run_append_nothing_s w s n cap B xs hs _, by simpa [scells] using hs, grown_none _ _, Or.inl rfl⟩
  | some a =>
    obtain ⟨v', w', h1, h2, h3, _, h5⟩ := run_append_own_at (P := Tryd.prog) w B 53 53 9 i0 (.string ⟨#[]⟩) 1 16 Tryd.underlying53 hi hz0 hz1 hz2 rfl (by decide) s n xs hs a L.length cap (scells L) (by simp [scells])
      (fun j u hu => by
        have hj : j < L.length := by
          have := (List.getElem?_eq_some_iff.1 hu).1
          simpa [scells] using this
        obtain ⟨b, hb, hcell⟩ := hc j hj
        cases hb
        simp only [scells, List.getElem?_map, List.getElem?_eq_getElem hj] at hu
        simp at hu
        rw [← hu]
        exact hcell) (by simp [scells, Value.oneCell']) (by unfold maxLen; omega) (by omega) hB
    exact ⟨v', w', h1, h2, h3, h5⟩
end Go.Proofs.YtikabacebmbacaaDoor
namespace Go.Proofs.YtikabacebmbacaaDoor
open Go.RowKit

theorem short_no {p m : List UInt8} (h : ¬ p.length ≤ m.length) : ¬ m.take p.length = p := by
  intro e; have := congrArg List.length e; simp at this; omega

end Go.Proofs.YtikabacebmbacaaDoor
namespace Go.Proofs.YtikabacebmbacaaDoor
open Go.RowKit
open Sto (T)
open Tri (Tr Ok upd ix hb lay splitT Trim rank)

set_option maxHeartbeats 400000 in
theorem prefix_in (s p : T) (w : World) :
    Calls Tryd.prog 61 #[.string ⟨s.toArray⟩, .string ⟨p.toArray⟩] w fun e w' => e = .returned (.bool (decide (s.take p.length = p))) ∧ w = w' := by
  by_cases h : p.length ≤ s.length
  · have h1 : (p.length : Int) ≤ (s.length : Int) := by omega
    have h0 : (0 : Int) ≤ (p.length : Int) := by omega
    have he : (((⟨s.toArray⟩ : ByteArray).extract 0 p.length).toList == p) = decide (s.take p.length = p) := by
      rw [Lib.extract_eq, Bool.eq_iff_iff]; simp
    obtain ⟨b, hb⟩ : ∃ b, decide (s.take p.length = p) = b := ⟨_, rfl⟩
    rw [hb] at he ⊢
    clear hb
    go_enter Tryd.func61, Tryd.ntmps61
    go_wp2
    go_ret
    exact ⟨rfl, rfl⟩
  · have h1 : ¬ ((p.length : Int) ≤ (s.length : Int)) := by omega
    have he : decide (s.take p.length = p) = false := decide_eq_false (short_no h)
    rw [he]
    clear he
    go_enter Tryd.func61, Tryd.ntmps61
    go_wp2
    go_ret
    exact ⟨rfl, rfl⟩
theorem prefix_any (s p : T) (w : World) :
    Calls Tryd.prog 47 #[.string ⟨s.toArray⟩, .string ⟨p.toArray⟩] w fun e w' => e = .returned (.bool (decide (s.take p.length = p))) ∧ w = w' := by
  have HP := Lib.hid (fun w => prefix_in s p w)
  go_enter Tryd.func47, Tryd.ntmps47
  go_wp2_with fail
  refine (HP.out _).mono ?_
  rintro e w1 ⟨rfl, rfl⟩
  go_wp2
  go_ret
  exact ⟨rfl, rfl⟩
def slen : Value → Nat
  | .string b => b.size
  | _ => 0
def fmeas (p q : Value) : Nat := match p with | .pointer none => 0 | _ => slen q + 1
theorem fmeas_le (v : Value) (r : T) : fmeas v (.string ⟨r.toArray⟩) ≤ r.length + 1 := by
  unfold fmeas
  split
  · omega
  · simp [slen, ByteArray.size]
theorem fmeas_ptr (g : Nat) (q : T) : fmeas (.pointer (some ⟨g, 0, none⟩)) (.string ⟨q.toArray⟩) = q.length + 1 := by simp [fmeas, slen, ByteArray.size]
/-- What find answers: no value, if there is none. -/
def findT (t : Tr) (p : T) : T := (t.get p).getD []
theorem find_no {t : Tr} {p : T} (hn : ¬ t.isNil) (h : p.take t.pth.length ≠ t.pth) : findT t p = [] := by
  unfold findT
  cases t with
  | nil => exact absurd trivial hn
  | leaf q v =>
    rw [Tri.Tr.get, if_neg (fun e => h (by subst e; simp [Tri.Tr.pth]))]; rfl
  | ext q u =>
    have h2 : ¬ p.take q.length = q := h
    rw [Tri.Tr.get, if_neg h2]; rfl
  | br v k => simp [Tri.Tr.pth] at h
theorem find_ext {t : Tr} {p : T} (hk : t.kind = 2) (h : p.take t.pth.length = t.pth) : findT t p = findT (t.kid 0) (p.drop t.pth.length) := by
  cases t with
  | ext q u =>
    have h2 : p.take q.length = q := h
    unfold findT
    rw [Tri.Tr.get, if_pos h2]
    simp [Tri.Tr.kid, Tri.Tr.pth]
  | _ => cases hk
theorem find_here {t : Tr} {p : T} (hn : ¬ t.isNil) (hk : t.kind ≠ 2) (h : p.take t.pth.length = t.pth) (hd : p.drop t.pth.length = []) : findT t p = t.vl := by
  have e : p = t.pth := by rw [← List.take_append_drop t.pth.length p, h, hd, List.append_nil]
  unfold findT
  cases t with
  | nil => exact absurd trivial hn
  | leaf q v =>
    have e2 : p = q := e
    rw [Tri.Tr.get, if_pos e2]; rfl
  | ext q u => exact absurd rfl hk
  | br v k =>
    have e2 : p = [] := e
    rw [e2, Tri.Tr.get]
    split
    · rename_i hv; rw [hv]; rfl
    · rfl
theorem find_on {t : Tr} {p r : T} {b : UInt8} (hn : ¬ t.isNil) (hk : t.kind ≠ 2) (h : p.take t.pth.length = t.pth) (hd : p.drop t.pth.length = b :: r) (hb1 : b.toNat ≤ 15) : findT t p = findT (t.kid (ix b)) r := by
  unfold findT
  cases t with
  | nil => exact absurd trivial hn
  | leaf q v =>
    rw [Tri.Tr.get, if_neg (fun e => by subst e; simp [Tri.Tr.pth] at hd)]; rfl
  | ext q u => exact absurd rfl hk
  | br v k =>
    have e : p = b :: r := by simpa [Tri.Tr.pth] using hd
    rw [e, Tri.Tr.get, if_pos hb1]
    rfl
theorem kid_firm {t : Tr} (h : t.firm) (i : Fin 16) : (t.kid i).firm := by
  cases t with
  | nil => trivial
  | leaf p v => trivial
  | ext p t =>
    simp only [Tri.Tr.kid]; split
    · exact h.2.2
    · trivial
  | br v k => exact h i

set_option maxRecDepth 100000 in
set_option maxHeartbeats 2000000 in
theorem find_any {t : Tr} {v : Value} {F : Fm} {s : Bool} (p : T) (w : World) (h : PAt w F s t v) (hf : t.firm) (hp : Nib.fitL p = true) (hl : p.length ≤ 16) :
    Calls Tryd.prog 41 #[v, .string ⟨p.toArray⟩] w fun e w' => e = .returned (.string ⟨(findT t p).toArray⟩) ∧ Below w.heap.size w w' := by
  obtain ⟨res, hres⟩ : ∃ res, findT t p = res := ⟨_, rfl⟩
  rw [hres]
  have HP := Lib.hid (fun (s p : T) w => prefix_any s p w)
  have H0 := Lib.hid (show ∃ (u : Tr) (q : T) (s' : Bool), .string ⟨p.toArray⟩ = Value.string ⟨q.toArray⟩ ∧ PAt w F s' u v ∧ u.firm ∧ findT u q = res ∧ Nib.fitL q = true ∧ q.length ≤ 16 from ⟨t, p, s, rfl, h, hf, hres, hp, hl⟩)
  clear h hf hp hl hres
  go_enter Tryd.func41, Tryd.ntmps41
  go_wp2
  go_loopw [0, 1] (fun pz qv wr => ∃ (u : Tr) (q : T) (s' : Bool) (pv : Value), pv = pz ∧ qv = .string ⟨q.toArray⟩ ∧ PAt wr F s' u pv ∧ u.firm ∧ findT u q = res ∧ Nib.fitL q = true ∧ q.length ≤ 16 ∧ Below w.heap.size w wr) (fun pv qv _ => fmeas pv qv)
  case atStart =>
    obtain ⟨u, q, s', e, h1, h2, h3, h4, h5⟩ := H0.out
    exact ⟨u, q, s', _, rfl, e, h1, h2, h3, h4, h5, Below.refl _ _⟩
  case round =>
    obtain ⟨u, q, s', pv, rfl, rfl, h1, h2, h3, h4, h5, h6⟩ := hrel
    by_cases hn : u.isNil
    · rw [Tri.isNil_eq hn] at h1 h3
      have e : pv = .pointer none := h1
      subst e
      have HR : Hid (res = []) := Lib.hid h3.symm
      have HB := Lib.hid h6
      clear h1 h2 h3 h4 h5 h6 hn
      go_wp2
      go_ret
      exact ⟨by rw [HR.out]; rfl, HB.out⟩
    · obtain ⟨g, s2, K, rfl, -, -, hr, hk⟩ := h1.row hn
      have HB := Lib.hid h6
      have HK := Lib.hid hk
      have HR := Lib.hid hr
      have n0 := hr.kind
      have n1 := hr.path
      have HPX := Lib.hid (fun w => HP.out q u.pth w)
      by_cases hpre : q.take u.pth.length = u.pth
      · rw [decide_eq_true hpre] at HPX
        have hle : u.pth.length ≤ q.length := by have := congrArg List.length hpre; simp at this; omega
        have htail := ext_drop q u.pth.length
        have z0 : (0 : Int) ≤ (u.pth.length : Int) := by omega
        have z1 : (u.pth.length : Int) ≤ (q.length : Int) := by omega
        obtain ⟨r, hr'⟩ : ∃ r, q.drop u.pth.length = r := ⟨_, rfl⟩
        have hrf : Nib.fitL r = true := by rw [← hr']; exact Tri.fit_drop _ h4
        have hrl : r.length + u.pth.length = q.length := by rw [← hr']; simp; omega
        rw [hr'] at htail
        by_cases h2k : u.kind = 2
        · have hpl : 1 ≤ u.pth.length := by
            cases u with
            | ext a b => exact List.length_pos_iff.2 h2.1
            | _ => cases h2k
          have hfe := find_ext h2k hpre
          rw [hr', h3] at hfe
          have n3 := hr.kid 0
          have hk0 := hk 0
          have hf0 := kid_firm h2 0
          have HNX := Lib.hid (show PAt wr F s2 (u.kid 0) (K 0) ∧ (u.kid 0).firm ∧ findT (u.kid 0) r = res ∧ Nib.fitL r = true ∧ r.length ≤ 16 from ⟨hk0, hf0, hfe.symm, hrf, by omega⟩)
          have HLE : Hid (∀ v, fmeas v (.string ⟨r.toArray⟩) < fmeas (.pointer (some ⟨g, 0, none⟩)) (.string ⟨q.toArray⟩)) := Lib.hid (fun v => by have := fmeas_le v r; rw [fmeas_ptr]; omega)
          rw [h2k] at n0
          obtain ⟨pp, hpp⟩ : ∃ pp, u.pth = pp := ⟨_, rfl⟩
          rw [hpp] at HPX n1 htail z0 z1
          obtain ⟨vk, hvk⟩ : ∃ vk, K 0 = vk := ⟨_, rfl⟩
          have n3' : wr.cell? ⟨g, 3, none⟩ = some vk := by rw [← hvk]; exact n3
          rw [hvk] at HNX
          unfold ptr
          clear n3 h1 h2 h3 h4 h5 h6 hn hr hk hpre hpp hvk hk0 hf0 hfe h2k hpl hr' hrf hrl hle
          go_wp2_with fail
          refine (HPX.out _).mono ?_
          rintro e w1 ⟨rfl, rfl⟩
          go_wp2
          obtain ⟨a1, a2, a3, a4, a5⟩ := HNX.out
          exact ⟨⟨_, r, s2, _, rfl, rfl, a1, a2, a3, a4, a5, HB.out⟩, HLE.out _⟩
        · have e2 : ((u.kind : Int) == 2) = false := by rw [beq_eq_false_iff_ne]; omega
          obtain ⟨kd, hkd⟩ : ∃ kd, u.kind = kd := ⟨_, rfl⟩
          rw [hkd] at n0 e2
          cases hd : r with
          | nil =>
            subst hd
            have HRS : Hid (res = u.vl) := Lib.hid (by rw [← h3]; exact find_here hn h2k hpre hr')
            have n2 := hr.val
            obtain ⟨pp, hpp⟩ : ∃ pp, u.pth = pp := ⟨_, rfl⟩
            rw [hpp] at HPX n1 htail z0 z1
            have htail' : (⟨q.toArray⟩ : ByteArray).extract pp.length q.length = ⟨#[]⟩ := htail
            unfold ptr
            clear htail h1 h2 h3 h4 h5 h6 hn hr hk hpre hpp h2k hr' hrf hrl hle hkd
            go_wp2_with fail
            refine (HPX.out _).mono ?_
            rintro e w1 ⟨rfl, rfl⟩
            go_wp2
            go_ret
            exact ⟨by rw [HRS.out]; rfl, HB.out⟩
          | cons b r2 =>
            subst hd
            obtain ⟨hb1, hf2⟩ := Tri.fit_cons.1 hrf
            have hix := ix_val hb1
            have hfe := find_on hn h2k hpre hr' hb1
            rw [h3] at hfe
            have n3 := hr.kid (ix b)
            rw [hix] at n3
            rw [List.length_cons] at hrl
            have HNX := Lib.hid (show PAt wr F s2 (u.kid (ix b)) (K (ix b)) ∧ (u.kid (ix b)).firm ∧ findT (u.kid (ix b)) r2 = res ∧ Nib.fitL r2 = true ∧ r2.length ≤ 16 from ⟨hk _, kid_firm h2 _, hfe.symm, hf2, by omega⟩)
            have HLE : Hid (∀ v, fmeas v (.string ⟨r2.toArray⟩) < fmeas (.pointer (some ⟨g, 0, none⟩)) (.string ⟨q.toArray⟩)) := Lib.hid (fun v => by have := fmeas_le v r2; rw [fmeas_ptr]; omega)
            have hbyte : ∀ hh, (⟨(b :: r2).toArray⟩ : ByteArray)[0]'hh = b := byte_drop rfl
            have htl2 : (⟨(b :: r2).toArray⟩ : ByteArray).extract 1 (b :: r2).length = ⟨r2.toArray⟩ := tail_drop (n := 0) rfl
            have hne : ((b :: r2 : List UInt8) == []) = false := rfl
            have y0 : (0 : Int) < ((b :: r2).length : Int) := by rw [List.length_cons]; omega
            have y1 : (1 : Int) ≤ ((b :: r2).length : Int) := by rw [List.length_cons]; omega
            have y6 : (0 : Int) ≤ (b.toNat : Int) := by omega
            have y7 : (b.toNat : Int) < 16 := by omega
            obtain ⟨pp, hpp⟩ : ∃ pp, u.pth = pp := ⟨_, rfl⟩
            rw [hpp] at HPX n1 htail z0 z1
            obtain ⟨P, hP⟩ : ∃ P, b :: r2 = P := ⟨_, rfl⟩
            rw [hP] at htail hbyte htl2 hne y0 y1
            obtain ⟨vk, hvk⟩ : ∃ vk, K (ix b) = vk := ⟨_, rfl⟩
            rw [hvk] at n3 HNX
            unfold ptr
            clear h1 h2 h3 h4 h5 h6 hn hr hk hpre hpp h2k hr' hrf hrl hle hkd hvk hP hfe hix hb1 hf2
            go_wp2_with fail
            refine (HPX.out _).mono ?_
            rintro e w1 ⟨rfl, rfl⟩
            go_upto_region 3 with fail
            go_quiet (fail)
            go_wp2
            obtain ⟨a1, a2, a3, a4, a5⟩ := HNX.out
            exact ⟨⟨_, r2, s2, _, rfl, rfl, a1.below (bel_drewN (Below.refl _ _) _), a2, a3, a4, a5, bel_drewN HB.out _⟩, HLE.out _⟩
      · rw [decide_eq_false hpre] at HPX
        have HRS : Hid (res = []) := Lib.hid (by rw [← h3]; exact find_no hn hpre)
        obtain ⟨pp, hpp⟩ : ∃ pp, u.pth = pp := ⟨_, rfl⟩
        rw [hpp] at HPX n1
        unfold ptr
        clear h1 h2 h3 h4 h5 h6 hn hr hk hpre hpp
        go_wp2_with fail
        refine (HPX.out _).mono ?_
        rintro e w1 ⟨rfl, rfl⟩
        go_wp2
        go_ret
        exact ⟨by rw [HRS.out]; rfl, HB.out⟩
end Go.Proofs.YtikabacebmbacaaDoor
namespace Go.Proofs.YtikabacebmbacaaDoor.Tri
open Sto (T St Rising keys)

def begins (p m : T) : Bool := decide (m.take p.length = p)
end Go.Proofs.YtikabacebmbacaaDoor.Tri
namespace Go.Proofs.YtikabacebmbacaaDoor
open Go.RowKit
open Sto (T)
open Tri (Tr Ok upd ix hb lay splitT Trim rank)
open Go.Proofs.YtikabacebmbacaaDoor.Nd (N)

theorem app_one {w : World} {B : Nat} {z : Value} {L : List T} (x : T) (h : Own w B z L) (hl : L.length ≤ 100000) (hB : B ≤ w.heap.size) :
    ∃ g c w', (Builtin.append_ #[53, 53] 53 #[z, .slice (some ⟨w.heap.size, 0, none⟩) 1 1]).run Tryd.prog (w.alloc (.cells #[.string ⟨x.toArray⟩] 9)) = .ok (.slice (some ⟨g, 0, none⟩) (L.length + 1) c) w' ∧
      Own w' B (.slice (some ⟨g, 0, none⟩) (L.length + 1) c) (L ++ [x]) ∧ Below B w w' := by
  have hv : Strs (w.alloc (.cells #[.string ⟨x.toArray⟩] 9)) (.slice (some ⟨w.heap.size, 0, none⟩) 1 1) [x] := by
    refine ⟨some ⟨w.heap.size, 0, none⟩, 1, rfl, fun i hi => ?_⟩
    obtain rfl : i = 0 := by simpa using hi
    refine ⟨_, rfl, ?_⟩
    exact cell_of_row _ _ 0 _ _ _ (heap_alloc_new w _)
  have hs : (w.alloc (.cells #[.string ⟨x.toArray⟩] 9)).ownsRow B 9 1 z L.length (scells L) := World.ownsRow.alloc h _
  obtain ⟨v', w', h1, h2, h3, _⟩ := append_strs hv hs (by simp; omega) (by simp; omega)
  have ho : Own w' B v' (L ++ [x]) := by
    unfold Own
    rw [List.length_append, scells_append]
    exact h2
  obtain ⟨g, c, e, _, _⟩ := World.ownsRow.form h2 (by simp)
  subst e
  refine ⟨g, c, w', h1, ho, ?_⟩
  exact ((Below.refl B w).alloc hB _).grown h3 (by simp; omega) (fun k hk => (Own.lt h k hk).1)
/-- A call of one argument as a step of a region that draws its order. -/
theorem step_call {P : Program} {ops : Array Oper} {o : Oper} {a : Act} {w : World} {K : Act → World → Prop} {Q : Exit → Act → World → Prop} {E : Prop} (hg : o.guard = none) (f : Nat) (x : Operand) (ts : Array TypeId) (hop : o.op = Op.call { callee := Callee.value (.func f), args := #[x], argTypes := ts })
    (hcf : ∀ args w, (callFunc f args).run P w = .ok (.enter f args) w) (R : Ending → World → Prop) (hc : Calls P f #[a.eval x] w R) (hK : ∀ e w', R e w' → ∃ v, e = .returned v ∧ K (a.put o.dst v) w') : if Region.wanted o (yielded ops a.tmps) = true then Oper.wp P o a w K Q else E := by
  have hw : Region.wanted o (yielded ops a.tmps) = true := by simp [Region.wanted, hg]
  rw [if_pos hw]
  obtain ⟨dst, op, type, pos, after, guard⟩ := o
  simp only at hop
  subst hop
  show Oper.upon P _ a K Q ((callFunc f (#[] ++ #[x].map a.eval ++ #[])).run P w)
  rw [hcf, Oper.upon_enter]
  refine Calls.mono (by simpa using hc) ?_
  intro e w' h
  obtain ⟨v, rfl, hk⟩ := hK e w' h
  exact hk
/-- The bytes of the nodes that are wanted. -/
def textsT (want : T → Bool) (L : List (T × Tr)) : List T := (L.filter fun x => want x.1).map fun x => Nd.written (x.2.node Nd.sumS)
theorem textsT_len (want : T → Bool) (L : List (T × Tr)) : (textsT want L).length ≤ L.length := by
  unfold textsT; rw [List.length_map]; exact List.length_filter_le _ _
theorem textsT_add (want : T → Bool) (L : List (T × Tr)) (p : T) (t : Tr) : textsT want (L ++ [(p, t)]) = if want p then textsT want L ++ [Nd.written (t.node Nd.sumS)] else textsT want L := by
  unfold textsT
  rw [List.filter_append, List.map_append]
  cases h : want p <;> simp [h]
def TextsI (B cl cw : Nat) (wf : Value) (want : T → Bool) (w' : World) (L : List (T × Tr)) : Prop :=
  ∃ z, w'.heap[cl]? = some (.cells #[z] 53 (0, 0)) ∧ w'.heap[cw]? = some (.cells #[wf] 64 (0, 0)) ∧ Own w' B z (textsT want L)
/-- What a closure that tells what is wanted does. -/
structure Wants (w0 : World) (id : Nat) (caps : Array Value) (want : T → Bool) : Prop where
  call : ∀ args w, (callFunc id args).run Tryd.prog w = .ok (.enter id args) w
  step : ∀ (w' : World) (p : T), Below w0.heap.size w0 w' → Nib.fitL p = true → p.length ≤ 16 → Calls Tryd.prog id (#[.string ⟨p.toArray⟩] ++ caps) w' fun e w'' => e = .returned (.bool (want p)) ∧ Below w'.heap.size w' w''
set_option maxRecDepth 100000 in
set_option maxHeartbeats 4000000 in
theorem texts_step {w0 : World} {id : Nat} {wc : Array Value} {want : T → Bool} (hW : Wants w0 id wc want) {F : Fm} (B cl cw : Nat) (hB : w0.heap.size ≤ cl ∧ cl < B ∧ cw < B) (hcc : cw ≠ cl)
    (w' : World) (L : List (T × Tr)) (p : T) (t : Tr) (v : Value) (hlen : L.length < 100000) (hb : Below w0.heap.size w0 w') (hBw : B ≤ w'.heap.size) (hI : TextsI B cl cw (.func (.func id) #[] wc) want w' L) (h : PAt w0 F true t v) (hn : ¬ t.isNil) (ho : Ok t) (hf : Nib.fitL p = true) (hp16 : p.length ≤ 16) :
    Calls Tryd.prog 59 #[v, .string ⟨p.toArray⟩, .pointer (some ⟨cw, 0, none⟩), .pointer (some ⟨cl, 0, none⟩)] w' fun e w'' => e = .returned (.bool (want p)) ∧ TextsI B cl cw (.func (.func id) #[] wc) want w'' (L ++ [(p, t)]) ∧ Below w0.heap.size w0 w'' := by
  obtain ⟨z, hcl, hcw, hown⟩ := hI
  have hcall := hW.call
  have HWS := Lib.hid (hW.step w' p hb hf hp16)
  obtain ⟨g, s', K, rfl, hs, -, hr, hk⟩ := h.row hn
  obtain rfl := hs rfl
  have HTX : Hid (∀ w1, Below w0.heap.size w0 w1 → Calls Tryd.prog 60 #[ptr g] w1 fun e w2 => e = .returned (.string ⟨(Nd.written (t.node Nd.sumS)).toArray⟩) ∧ Below w1.heap.size w1 w2) := Lib.hid (fun w1 hb1 =>
    ptext_any w1 (hr.below hb1) (fun i => (hk i).below hb1) hn ho)
  have cw0 := cell_of_one hcw
  obtain ⟨X, hX⟩ : ∃ X, Nd.written (t.node Nd.sumS) = X := ⟨_, rfl⟩
  have HTA := Lib.hid (textsT_add want L p t)
  rw [hX] at HTX HTA
  obtain ⟨b, hbw⟩ : ∃ b, want p = b := ⟨_, rfl⟩
  rw [hbw] at HWS HTA ⊢
  have HTL : Hid ((textsT want L).length ≤ 100000) := Lib.hid (Nat.le_trans (textsT_len _ _) (Nat.le_of_lt hlen))
  obtain ⟨TL, hTL⟩ : ∃ TL, textsT want L = TL := ⟨_, rfl⟩
  rw [hTL] at hown HTA HTL
  have HB := Lib.hid hb
  have HOWN := Lib.hid hown
  have HCL := Lib.hid hcl
  have HCW := Lib.hid hcw
  unfold ptr at HTX ⊢
  clear hW h hr hk hX hbw hTL hb hown hcl hcw hn ho hf hlen hp16
  cases b with
  | false =>
    rw [if_neg (by decide)] at HTA
    go_enter Tryd.func59, Tryd.ntmps59
    go_wp2_with fail
    refine HWS.out.mono ?_
    rintro e w1 ⟨rfl, hb1⟩
    go_wp2
    go_ret
    refine ⟨rfl, ⟨z, (hb1.block cl (lt_of_heap HCL.out)).trans HCL.out, (hb1.block cw (lt_of_heap HCW.out)).trans HCW.out, ?_⟩, HB.out.trans (hb1.mono HB.out.size)⟩
    rw [HTA.out]
    exact HOWN.out.below hb1
  | true =>
    rw [if_pos rfl] at HTA
    go_enter Tryd.func59, Tryd.ntmps59
    go_wp2_with fail
    refine HWS.out.mono ?_
    rintro e w1 ⟨rfl, hb1⟩
    have HB1 : Hid (Below w'.heap.size w' w1) := Lib.hid hb1
    have HBB1 : Hid (Below w0.heap.size w0 w1) := Lib.hid (HB.out.trans (hb1.mono HB.out.size))
    clear hb1
    have HCC : Hid (∀ w2, Below w1.heap.size w1 w2 → w2.cell? ⟨cl, 0, none⟩ = some z ∧ w2.heap[cl]? = some (.cells #[z] 53 (0, 0))) := Lib.hid (fun w2 hb2 => by
      have h3 := (hb2.block cl (Nat.lt_of_lt_of_le (lt_of_heap HCL.out) HB1.out.size)).trans ((HB1.out.block cl (lt_of_heap HCL.out)).trans HCL.out)
      exact ⟨cell_of_one h3, h3⟩)
    have HTX1 : Hid (∀ w2, Below w1.heap.size w1 w2 → Calls Tryd.prog 60 #[.pointer (some ⟨g, 0, none⟩)] w2 fun e w3 => e = .returned (.string ⟨X.toArray⟩) ∧ Below w1.heap.size w1 w3) := Lib.hid (fun w2 hb2 =>
      (HTX.out w2 (bchain HBB1.out hb2)).mono fun e w3 ⟨e1, h3⟩ => ⟨e1, bchain hb2 h3⟩)
    have HAPP : Hid (∀ w6, Below w1.heap.size w1 w6 → ∃ g7 c7 w7, (Builtin.append_ #[53, 53] 53 #[z, .slice (some ⟨w6.heap.size, 0, none⟩) 1 1]).run Tryd.prog (w6.alloc (.cells #[.string ⟨X.toArray⟩] 9)) = .ok (.slice (some ⟨g7, 0, none⟩) (TL.length + 1) c7) w7 ∧ w6.cell? ⟨cl, 0, none⟩ = some z ∧ (w6.alloc (.cells #[.string ⟨X.toArray⟩] 9)).cell? ⟨cl, 0, none⟩ = some z ∧
        w7.cell? ⟨cl, 0, none⟩ = some z ∧ w7.frozen? ⟨cl, 0, none⟩ = false ∧ TextsI B cl cw (.func (.func id) #[] wc) want (w7.setCell ⟨cl, 0, none⟩ (.slice (some ⟨g7, 0, none⟩) (TL.length + 1) c7)) (L ++ [(p, t)]) ∧ Below w0.heap.size w0 (w7.setCell ⟨cl, 0, none⟩ (.slice (some ⟨g7, 0, none⟩) (TL.length + 1) c7))) := Lib.hid (fun w6 hb6 => by
      have hb16 := bchain HB1.out hb6
      have ho6 := HOWN.out.below hb16
      obtain ⟨g7, c7, w7, ha, ho7, hb7⟩ := app_one X ho6 HTL.out (Nat.le_trans hBw hb16.size)
      obtain ⟨q1, q2⟩ := HCC.out w6 hb6
      have q7 : w7.heap[cl]? = some (.cells #[z] 53 (0, 0)) := (hb7.block cl hB.2.1).trans q2
      have r6 : w6.heap[cw]? = some (.cells #[.func (.func id) #[] wc] 64 (0, 0)) := (hb16.block cw (lt_of_heap HCW.out)).trans HCW.out
      have r7 : w7.heap[cw]? = some (.cells #[.func (.func id) #[] wc] 64 (0, 0)) := (hb7.block cw hB.2.2).trans r6
      refine ⟨g7, c7, w7, ha, q1, cell_of_one (heap_old_at _ q2), cell_of_one q7, free_of_one q7, ⟨_, one_setCell q7, (Below.heap_setCell _ ⟨cl, 0, none⟩ _ cw hcc).trans r7, ?_⟩, ?_⟩
      · rw [HTA.out]
        have hgcl : g7 ≠ cl := fun e => by have := (Own.lt ho7 g7 rfl).1; omega
        exact ownsRow_setCell_other ho7 (a := ⟨cl, 0, none⟩) (fun e => hgcl (by simpa [Value.ownBlock] using e)) _
      · have h8 : Below w0.heap.size w0 w7 := (bchain HBB1.out hb6).trans (hb7.mono (Nat.le_of_lt (by omega)))
        exact h8.setCell (p := ⟨cl, 0, none⟩) hB.1 _)
    go_upto_region 3 with fail
    have BD : Below w1.heap.size w1 w1.drew := (Below.refl _ _).drew
    have cD := (HCC.out _ BD).1
    go_region_law (first | (refine step_call rfl 60 (.tmp 13) _ rfl (fun _ _ => rfl) _ (HTX1.out _ BD) ?_; rintro e w6 ⟨rfl, hb6⟩; refine ⟨_, rfl, ?_⟩; obtain ⟨g7, c7, w7, happ, k6, k6a, k7, f7, hT7, hB7⟩ := HAPP.out _ hb6) | (refine step_append_run rfl (.tmp 12) (.tmp 15) _ rfl _ _ _ ?_ ?_ happ ?_; (first | rfl | (focus (simp [Act.eval]; done)) | fail); (first | rfl | (focus (simp [Act.eval]; done)) | fail)))
    all_goals
      go_wp2
      go_ret
      exact ⟨rfl, hT7, hB7⟩
end Go.Proofs.YtikabacebmbacaaDoor
namespace Go.Proofs.YtikabacebmbacaaDoor
open Sto (T)
open Tri (Tr)
open Go.Proofs.YtikabacebmbacaaDoor.Nd (N)
theorem spots_place (dg : N → T) (t : Tr) (p : T) : ∀ x ∈ t.spots dg p, ∃ r, x.1 = p ++ r := by
  induction t generalizing p with
  | nil => intro x hx; cases hx
  | leaf q v => intro x hx; obtain rfl := List.mem_singleton.1 hx; exact ⟨[], by simp⟩
  | ext q t ih =>
    intro x hx
    rcases List.mem_cons.1 hx with rfl | hx
    · exact ⟨[], by simp⟩
    · obtain ⟨r, e⟩ := ih (p ++ q) x hx
      exact ⟨q ++ r, by rw [e, List.append_assoc]⟩
  | br v k ih =>
    intro x hx
    rcases List.mem_cons.1 hx with rfl | hx
    · exact ⟨[], by simp⟩
    · obtain ⟨i, _, hi⟩ := List.mem_flatMap.1 hx
      obtain ⟨r, e⟩ := ih i (p ++ [Tri.hb i]) x hi
      exact ⟨Tri.hb i :: r, by rw [e, List.append_assoc]; rfl⟩
/-- Below what is not wanted nothing is. -/
def Down (want : T → Bool) : Prop := ∀ p q, want (p ++ q) = true → want p = true
theorem flat_map {α β γ : Type} (l : List α) (f : α → List β) (g : α → List γ) (pf : β → Bool) (pg : γ → Bool) (m : β → γ) (h : ∀ a ∈ l, ((f a).filter pf).map m = (g a).filter pg) : ((l.flatMap f).filter pf).map m = (l.flatMap g).filter pg := by
  induction l with
  | nil => rfl
  | cons a l ih =>
    rw [List.flatMap_cons, List.flatMap_cons, List.filter_append, List.filter_append, List.map_append, h a (List.mem_cons_self ..), ih (fun b hb => h b (List.mem_cons_of_mem _ hb))]
theorem visits_spots (dg : N → T) {want : T → Bool} (hd : Down want) (t : Tr) (p : T) : ((t.visits want p).filter fun x => want x.1).map (fun x => (x.1, x.2.node dg)) = (t.spots dg p).filter fun x => want x.1 := by
  have none : ∀ (t : Tr) (p q : T), want p = false → (t.spots dg (p ++ q)).filter (fun x => want x.1) = [] := fun t p q h => by
    rw [List.filter_eq_nil_iff]
    intro x hx hw
    obtain ⟨r, e⟩ := spots_place dg t (p ++ q) x hx
    rw [e, List.append_assoc] at hw
    rw [hd _ _ hw] at h
    cases h
  induction t generalizing p with
  | nil => rfl
  | leaf q v =>
    rw [Tri.Tr.visits, Tri.Tr.spots]
    cases h : want p <;> simp [h]
  | ext q t ih =>
    rw [Tri.Tr.visits, Tri.Tr.spots]
    cases h : want p with
    | false => simp [h, none t p q h]
    | true => simp only [if_true, List.filter_cons, h, List.map_cons, ih (p ++ q)]
  | br v k ih =>
    rw [Tri.Tr.visits, Tri.Tr.spots]
    cases h : want p with
    | false =>
      simp only [Bool.false_eq_true, if_false, List.filter_cons, h, List.filter_nil, List.map_nil]
      symm
      rw [List.filter_eq_nil_iff]
      intro x hx hw
      obtain ⟨i, _, hi⟩ := List.mem_flatMap.1 hx
      have := none (k i) p [Tri.hb i] h
      rw [List.filter_eq_nil_iff] at this
      exact this x hi hw
    | true =>
      simp only [if_true, List.filter_cons, h, List.map_cons]
      congr 1
      exact flat_map _ _ _ _ _ _ fun i _ => ih i (p ++ [Tri.hb i])
/-- The bytes of the nodes of a tree that are wanted. -/
def wantedT (want : T → Bool) (t : Tr) : List T := ((t.spots Nd.sumS []).filter fun x => want x.1).map fun x => Nd.written x.2
theorem wanted_texts {want : T → Bool} (hd : Down want) (t : Tr) : textsT want (t.visits want []) = wantedT want t := by
  unfold wantedT textsT
  rw [← visits_spots Nd.sumS hd t [], List.map_map]
  rfl
theorem down_all : Down fun _ => true := fun _ _ _ => rfl
end Go.Proofs.YtikabacebmbacaaDoor
namespace Go.Proofs.YtikabacebmbacaaDoor
open Go.RowKit

set_option maxHeartbeats 400000 in
theorem common_any (a b : List UInt8) (w : World) (ha : a.length ≤ 1000000) (hb : b.length ≤ 1000000) :
    Calls Tryd.prog 63 #[.string ⟨a.toArray⟩, .string ⟨b.toArray⟩] w fun e w' => e = .returned (.int .i64 (Nib.commonL a b)) ∧ Below w.heap.size w w' := by
  rcases Nat.lt_or_ge b.length a.length with hm | hm
  all_goals
    go_enter Tryd.func63, Tryd.ntmps63
    go_wp2
    go_loopw [13] (fun i wr => ∃ k : Nat, k ≤ min a.length b.length ∧ a.take k = b.take k ∧ i = .int .i64 k ∧ Below w.heap.size w wr) (fun i _ => min a.length b.length - (intOf i).toNat)
    case atStart => exact ⟨0, Nat.zero_le _, by simp, rfl, Below.refl _ _⟩
    case round =>
      obtain ⟨k, hk, hf, rfl, hbel⟩ := hrel
      have HF := Lib.hid hf; clear hf
      by_cases hlt : k < min a.length b.length
      · have h1 : (k : Int) < (a.length : Int) := by omega
        have h2 : (k : Int) < (b.length : Int) := by omega
        go_wp2
        go_quiet (fail)
        go_wp2
        · go_ret
          have ht : (((a[k]'(by omega)).toNat : Int) != ((b[k]'(by omega)).toNat : Int)) = true := by assumption
          exact ⟨by rw [Nib.commonL_of_diff a b k (by omega) (by omega) HF.out (Nib.byte_ne ht)]; rfl, bel_drewN hbel _⟩
        · go_roundw
          case rel =>
            have ht : (((a[k]'(by omega)).toNat : Int) != ((b[k]'(by omega)).toNat : Int)) = false := by assumption
            exact ⟨k + 1, by omega, Nib.take_eq_succ a b k (by omega) (by omega) HF.out (Nib.byte_eq ht), by go_num, bel_drewN hbel _⟩
          case measure => simp [intOf]; omega
      · go_wp2
        go_ret
        have := HF.out
        exact ⟨by rw [Nib.commonL_of_end a b k (by omega) this]; exact ret_i64 (by omega), hbel⟩

end Go.Proofs.YtikabacebmbacaaDoor
namespace Go.Proofs.YtikabacebmbacaaDoor
open Go.RowKit
open Sto (T)
open Tri (Tr Ok upd ix hb lay splitT Trim rank)

/-- What with is to answer, of trees of at most this rank. -/
def WithTo (m : Nat) : Prop := ∀ (t : Tr) (v : Value) (p x : T) (w : World) (F : Fm), rank t p ≤ m → F.fresh w → PAt w F false t v → Trim t → Nib.fitL p = true → p.length ≤ 16 →
  Calls Tryd.prog 48 #[v, .string ⟨p.toArray⟩, .string ⟨x.toArray⟩] w (MadeT w F (t.put p x))

set_option maxRecDepth 100000 in
theorem with_nil (p x : T) (w : World) (F : Fm) (hF : F.fresh w) :
    Calls Tryd.prog 48 #[.pointer none, .string ⟨p.toArray⟩, .string ⟨x.toArray⟩] w (MadeT w F (.leaf p x)) := by
  have HLF := Lib.hid (leaf_any p x w F hF)
  unfold MadeT at HLF ⊢
  go_enter Tryd.func48, Tryd.ntmps48
  go_wp2_with fail
  refine HLF.out.mono ?_
  rintro e w1 ⟨v, rfl, hp, hb⟩
  go_wp2
  go_ret
  exact ⟨v, rfl, hp, hb⟩
set_option maxRecDepth 100000 in
set_option maxHeartbeats 1000000 in
theorem with_here {y : T} {k : Fin 16 → Tr} {v : Value} (x : T) (w : World) (F : Fm) (hF : F.fresh w) (h : PAt w F false (.br y k) v) :
    Calls Tryd.prog 48 #[v, .string ⟨#[]⟩, .string ⟨x.toArray⟩] w (MadeT w F (.br x k)) := by
  obtain ⟨g, s', K, rfl, -, -, hr, hk⟩ := h.row id
  have HO := Lib.hid (open_any w hr (fun i => (hk i).oneCell))
  have n0 : w.cell? ⟨g, 0, none⟩ = some (.int .i64 3) := hr.kind
  have HK := Lib.hid hk
  unfold MadeT
  unfold ptr at HO ⊢
  clear h hr hk
  go_enter Tryd.func48, Tryd.ntmps48
  go_wp2_with fail
  refine HO.out.mono ?_
  rintro e w1 ⟨rfl, hr1, hb1⟩
  have m2 := hr1.val
  have f2 := hr1.free 2
  have HR1 := Lib.hid hr1
  have HB := Lib.hid hb1
  clear hr1 hb1
  go_wp2
  go_ret
  have hb2 := HB.out.setCell (p := ⟨w.heap.size, 2, none⟩) (Nat.le_refl _) (.string ⟨x.toArray⟩)
  exact ⟨_, rfl, PAt.new (K := K) id (hF _ (Nat.le_refl _)) (HR1.out.setVal x) (fun i => ((HK.out i).weak).below hb2), hb2⟩
set_option maxRecDepth 100000 in
set_option maxHeartbeats 2000000 in
theorem with_below {m : Nat} (IH : WithTo m) {y : T} {k : Fin 16 → Tr} {v : Value} (b : UInt8) (p x : T) (w : World) (F : Fm) (hm : 2 * p.length + 1 ≤ m) (hF : F.fresh w) (h : PAt w F false (.br y k) v) (hg : Trim (.br y k)) (hf : Nib.fitL (b :: p) = true) (hl : (b :: p).length ≤ 16) :
    Calls Tryd.prog 48 #[v, .string ⟨(b :: p).toArray⟩, .string ⟨x.toArray⟩] w (MadeT w F (.br y (upd k (ix b) ((k (ix b)).put p x)))) := by
  obtain ⟨g, s', K, rfl, -, -, hr, hk⟩ := h.row id
  have HO := Lib.hid (open_any w hr (fun i => (hk i).oneCell))
  have n0 : w.cell? ⟨g, 0, none⟩ = some (.int .i64 3) := hr.kind
  have HK := Lib.hid hk
  have HR := Lib.hid hr
  obtain ⟨hb1, hfp⟩ := Tri.fit_cons.1 hf
  have hix := ix_val hb1
  have hpl : p.length ≤ 16 := by simp at hl; omega
  have HI : Hid (∀ w', Below w.heap.size w w' → w.heap.size < w'.heap.size → Calls Tryd.prog 48 #[K (ix b), .string ⟨p.toArray⟩, .string ⟨x.toArray⟩] w' fun e w'' => ∃ g6, e = .returned (.pointer (some ⟨g6, 0, none⟩)) ∧ PAt w'' (F.off w.heap.size) false ((k (ix b)).put p x) (ptr g6) ∧ Below w'.heap.size w' w'') := Lib.hid (fun w' hb hs =>
    (IH (k (ix b)) (K (ix b)) p x w' _ (Nat.le_trans (Tri.rank_le _ _) hm) ((hF.size hb.size).off hs) (((hk (ix b)).weak.new_off (Nat.le_refl _)).below hb) (hg.br _) hfp hpl).mono fun e w'' ⟨v6, e6, hp6, hb6⟩ => by
      obtain ⟨g6, _, _, rfl, _⟩ := hp6.row (Tri.put_nn _ _ _)
      exact ⟨g6, e6, hp6, hb6⟩)
  have hbyte : ∀ hh, (⟨(b :: p).toArray⟩ : ByteArray)[0]'hh = b := byte_drop rfl
  have htail : (⟨(b :: p).toArray⟩ : ByteArray).extract 1 (b :: p).length = ⟨p.toArray⟩ := tail_drop (n := 0) rfl
  have hne : ((b :: p : List UInt8) == []) = false := rfl
  have z0 : (0 : Int) < ((b :: p).length : Int) := by rw [List.length_cons]; omega
  have z1 : (1 : Int) ≤ ((b :: p).length : Int) := by rw [List.length_cons]; omega
  have z6 : (0 : Int) ≤ (b.toNat : Int) := by omega
  have z7 : (b.toNat : Int) < 16 := by omega
  have HIX := Lib.hid hix
  obtain ⟨vk, hvk⟩ : ∃ vk, K (ix b) = vk := ⟨_, rfl⟩
  rw [hvk] at HI
  have HVK := Lib.hid hvk
  obtain ⟨P, hP⟩ : ∃ P, b :: p = P := ⟨_, rfl⟩
  rw [hP] at hbyte htail hne z0 z1 ⊢
  unfold MadeT
  unfold ptr at HO ⊢
  clear h hr hk hg hf hl hm hb1 hfp hix hpl IH hvk hP
  go_enter Tryd.func48, Tryd.ntmps48
  go_wp2_with fail
  refine HO.out.mono ?_
  rintro e w1 ⟨rfl, hr1, hb1⟩
  obtain ⟨q, hq⟩ : ∃ q, w.heap.size = q := ⟨_, rfl⟩
  have HSZ : Hid (q < w1.heap.size) := Lib.hid (by rw [← hq]; exact lt_of_heap hr1)
  have HGQ : Hid (g < q) := Lib.hid (by rw [← hq]; exact lt_of_heap HR.out)
  have HR1 := Lib.hid hr1
  have HB1 := Lib.hid hb1
  rw [hq] at HR1 HB1 HI ⊢
  have HQ := Lib.hid hq
  have HN1 : Hid (∀ w', Below w1.heap.size w1 w' → w'.cell? ⟨g, 3 + b.toNat, none⟩ = some vk ∧ w'.cell? ⟨q, 3 + b.toNat, none⟩ = some vk ∧ w'.frozen? ⟨q, 3 + b.toNat, none⟩ = false) := Lib.hid (fun w' hb => by
    have k1 := (HR.out.below (by rw [HQ.out]; exact HB1.out)).below hb
    have k2 := HR1.out.below hb
    have e1 := k1.kid (ix b)
    have e2 := k2.kid (ix b)
    rw [HIX.out, HVK.out] at e1 e2
    exact ⟨e1, e2, k2.free _⟩)
  have HK1 : Hid (∀ w' v, Below w1.heap.size w1 w' → (w'.setCell ⟨q, 3 + b.toNat, none⟩ v).cell? ⟨g, 3 + b.toNat, none⟩ = some vk) := Lib.hid (fun w' v hb => keep_cell (HN1.out w' hb).1 (Nat.ne_of_lt HGQ.out))
  have HI2 : Hid (∀ w', Below w1.heap.size w1 w' → Calls Tryd.prog 48 #[vk, .string ⟨p.toArray⟩, .string ⟨x.toArray⟩] w' fun e w'' => ∃ g6, e = .returned (.pointer (some ⟨g6, 0, none⟩)) ∧ PAt w'' (F.off q) false ((k (ix b)).put p x) (ptr g6) ∧ Below w1.heap.size w1 w'') := Lib.hid (fun w' hb => (HI.out w' (HB1.out.trans (hb.mono (Nat.le_of_lt HSZ.out))) (Nat.lt_of_lt_of_le HSZ.out hb.size)).mono fun e w'' ⟨g6, e6, hp6, hb6⟩ => ⟨g6, e6, hp6, hb.trans (hb6.mono hb.size)⟩)
  clear hr1 hb1 hq HI
  go_upto_region 7 with fail
  have BD : Below w1.heap.size w1 w1.drew := (Below.refl _ _).drew
  obtain ⟨c1, c2, c3⟩ := HN1.out _ BD
  go_region_held3 (fun w' => w'.cell? ⟨g, 3 + b.toNat, none⟩ = some vk)
    ((first | (with_reducible exact c1) | (with_reducible exact d1) | (refine HK1.out _ _ ?_; with_reducible assumption)))
    ((go_at_call 48; refine (HI2.out _ ?_).mono ?_; (with_reducible assumption); rintro e w6 ⟨g6, rfl, hp6, hb6⟩; obtain ⟨d1, d2, d3⟩ := HN1.out _ hb6))
  all_goals
    go_wp2
    go_ret
    have hbq : Below w.heap.size w w6 := by rw [HQ.out]; exact HB1.out.trans (hb6.mono (Nat.le_of_lt HSZ.out))
    refine ⟨_, rfl, PAt.new (K := updK K (ix b) (ptr g6)) id (hF _ (Nat.le_of_eq HQ.out)) ?_ (fun i => ?_), by rw [← HQ.out]; exact hbq.setCell (p := ⟨w.heap.size, _, none⟩) (Nat.le_refl _) _⟩
    · have := (HR1.out.below hb6).setKid (ix b) (ptr g6)
      rw [HIX.out] at this
      exact this
    · simp only [Tri.Tr.kid, updK, Tri.upd]
      split
      · exact hp6.off _ _
      · exact (((HK.out i).weak.new_off (Nat.le_of_eq HQ.out)).below hbq).off _ _
end Go.Proofs.YtikabacebmbacaaDoor
