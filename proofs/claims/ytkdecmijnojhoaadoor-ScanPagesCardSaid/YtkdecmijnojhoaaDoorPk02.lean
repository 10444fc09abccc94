/- RowList, TriRefList, ScanRef, TriTree, TriPut, NibLess -/
import Derived.Test.YtkdecmijnojhoaaDoorPk01
import Derived.Maps.AppendAt
import Derived.WalkSpells
import Derived.WalkLawsBesides
import Derived.Lib.Strings
import Derived.WalkKit
import Derived.Lib.Hide
import GoSem.Op.String
namespace Go.Proofs.YtkdecmijnojhoaaDoor
open Go.RowKit

theorem wpList_append_run {P : Program} {w w' : World} {ops : Array Oper} {rest : List Oper} {o : Oper} {a : Act} {Q : Exit → Act → World → Prop} (hg : o.guard = none) (s x : Operand) (t : TypeId) (hop : o.op = Op.call { callee := Callee.builtin Builtin.append, args := #[s, x], argTypes := #[t, t] })
    (sv xv r : Value) (hs : a.eval s = sv) (hx : a.eval x = xv) (hrun : (Builtin.append_ #[t, t] o.type #[sv, xv]).run P w = .ok r w') (hK : wpList P ops Q rest (a.put o.dst r) w') :
    wpList P ops Q (o :: rest) a w := by
  refine wpList_plain hg fun K' hK' => ?_
  unfold Oper.wp
  simp [execOp, hop, resolve, invoke, builtin, hs, hx, hrun, Result.andThen]
  exact hK' _ _ hK

def rowsL {α : Type} (f : α → List Value) (L : List α) : List Value := L.flatMap f
theorem rowsL_length {α : Type} {f : α → List Value} {c : Nat} (hf : ∀ a, (f a).length = c) (L : List α) : (rowsL f L).length = L.length * c := by
  induction L with
  | nil => simp [rowsL]
  | cons a L ih =>
    have e : rowsL f (a :: L) = f a ++ rowsL f L := by simp [rowsL]
    rw [e, List.length_append, ih, hf, List.length_cons, Nat.succ_mul, Nat.add_comm]
theorem rowsL_append {α : Type} (f : α → List Value) (S T : List α) : rowsL f (S ++ T) = rowsL f S ++ rowsL f T := by simp [rowsL]
theorem rowsL_at {α : Type} {f : α → List Value} {c : Nat} (hf : ∀ a, (f a).length = c) (S : List α) (i j : Nat) (hi : i < S.length) (hj : j < c) : (rowsL f S)[i * c + j]? = (f S[i])[j]? := by
  induction S generalizing i with
  | nil => simp at hi
  | cons a L ih =>
    have e : rowsL f (a :: L) = f a ++ rowsL f L := by simp [rowsL]
    rw [e]
    cases i with
    | zero =>
      rw [List.getElem?_append_left (by rw [hf]; omega)]
      simp
    | succ i =>
      rw [List.getElem?_append_right (by rw [hf, Nat.succ_mul]; omega)]
      have : (i + 1) * c + j - (f a).length = i * c + j := by rw [hf, Nat.succ_mul]; omega
      rw [this, ih i (by simpa using hi)]
      simp
theorem rowsL_one {α : Type} {f : α → List Value} (h : ∀ a, ∀ u ∈ f a, u.oneCell' = true) (S : List α) : ∀ u ∈ rowsL f S, u.oneCell' = true := by
  intro u hu
  obtain ⟨n, _, hn⟩ := List.mem_flatMap.1 hu
  exact h n u hn
/-- A slice that has the things S. -/
def RowsAt {α : Type} (ty : TypeId) (c : Nat) (f : α → List Value) (w : World) (v : Value) (S : List α) : Prop :=
  ∃ (A : Option Addr) (cap : Nat), v = .slice A S.length cap ∧ S.length ≤ cap ∧ (S = [] → A = none ∧ cap = 0 ∨ ∃ b o, A = some ⟨b, o, none⟩) ∧ (0 < S.length → ∃ b o, A = some ⟨b, o, none⟩ ∧ (∃ cs fl, w.heap[b]? = some (.cells cs ty fl)) ∧ ∀ i (h : i < S.length) j u, (f S[i])[j]? = some u → w.cell? ⟨b, o + i * c + j, none⟩ = some u)
theorem RowsAt.nil {α : Type} (ty : TypeId) (c : Nat) (f : α → List Value) (w : World) : RowsAt ty c f w (.slice none 0 0) [] := ⟨none, 0, rfl, Nat.le_refl _, fun _ => Or.inl ⟨rfl, rfl⟩, fun h => absurd h (by simp)⟩
theorem RowsAt.form {α : Type} {ty : TypeId} {c : Nat} {f : α → List Value} {w : World} {v : Value} {S : List α} (h : RowsAt ty c f w v S) : ∃ A cap, v = .slice A S.length cap ∧ S.length ≤ cap ∧ ((S = [] ∧ A = none ∧ cap = 0) ∨ ∃ b o, A = some ⟨b, o, none⟩) := by
  obtain ⟨A, cap, rfl, hc, h0, h1⟩ := h
  refine ⟨A, cap, rfl, hc, ?_⟩
  by_cases hs : S = []
  · exact (h0 hs).imp (fun h => ⟨hs, h⟩) id
  · obtain ⟨b, o, rfl, _⟩ := h1 (List.length_pos_iff.2 hs)
    exact Or.inr ⟨b, o, rfl⟩
theorem RowsAt.outF {α : Type} {ty : TypeId} {c : Nat} {f : α → List Value} {F : Nat → Prop} {w w' : World} {v : Value} {S : List α} (h : RowsAt ty c f w v S) (ho : Out F w w') (hF : ∀ k cs fl, F k → w.heap[k]? ≠ some (.cells cs ty fl)) : RowsAt ty c f w' v S := by
  obtain ⟨A, cap, rfl, hc, h0, h1⟩ := h
  refine ⟨A, cap, rfl, hc, h0, fun hp => ?_⟩
  obtain ⟨b, o, rfl, ⟨cs, fl, hh⟩, hcell⟩ := h1 hp
  have hb : ¬ F b := fun hf => hF b cs fl hf hh
  exact ⟨b, o, rfl, ⟨cs, fl, ho.heap hh hb⟩, fun i hi j u hu => ho.cell (hcell i hi j u hu) hb⟩
theorem RowsAt.below {α : Type} {ty : TypeId} {c : Nat} {f : α → List Value} {w w' : World} {v : Value} {S : List α} (h : RowsAt ty c f w v S) (hb : Below w.heap.size w w') : RowsAt ty c f w' v S := h.outF (F := fun _ => False) (Out.of hb) fun _ _ _ hf => hf.elim
theorem RowsAt.at {α : Type} {ty : TypeId} {c : Nat} {f : α → List Value} {w : World} {A : Option Addr} {n cap : Nat} {S : List α} (h : RowsAt ty c f w (.slice A n cap) S) (k : Nat) (hk : k < S.length) :
    ∃ b o, A = some ⟨b, o, none⟩ ∧ ∀ j u, (f S[k])[j]? = some u → w.cell? ⟨b, o + k * c + j, none⟩ = some u := by
  obtain ⟨A', cap', hv, _, _, h1⟩ := h
  obtain ⟨rfl, _⟩ : A = A' ∧ _ := by simpa using hv
  obtain ⟨b, o, rfl, _, hcell⟩ := h1 (by omega)
  exact ⟨b, o, rfl, hcell k hk⟩
theorem RowsAt.own {α : Type} {ty : TypeId} {c : Nat} {f : α → List Value} (hf : ∀ a, (f a).length = c) {w : World} {B : Nat} {v : Value} {S : List α} (h : w.ownsRow B ty c v S.length (rowsL f S)) : RowsAt ty c f w v S := by
  rcases h.2 with ⟨rfl, h0⟩ | ⟨g, cap, cur, rfl, hB, hh, hn, _⟩
  · obtain rfl : S = [] := List.eq_nil_of_length_eq_zero h0
    exact RowsAt.nil ty c f w
  · refine ⟨_, cap, rfl, hn, fun _ => Or.inr ⟨_, _, rfl⟩, fun h0 => ⟨g, 0, rfl, ⟨_, _, hh⟩, fun i hi j u hu => ?_⟩⟩
    have hj : j < c := by rw [← hf S[i]]; exact (List.getElem?_eq_some_iff.1 hu).1
    have := h.cells (g := g) rfl (i * c + j) u (by rw [rowsL_at hf S i j hi hj]; exact hu)
    rw [Addr.add_mid] at this; rw [Nat.zero_add]; simpa using this
theorem RowsAt.take {α : Type} {ty : TypeId} {c : Nat} {f : α → List Value} {w : World} {A : Option Addr} {n cap : Nat} {S : List α} (h : RowsAt ty c f w (.slice A n cap) S) (k : Nat) (hk : k ≤ S.length) : RowsAt ty c f w (.slice A k cap) (S.take k) := by
  obtain ⟨A', cap', hv, hcap, h0, h1⟩ := h
  obtain ⟨rfl, rfl, rfl⟩ : A = A' ∧ n = S.length ∧ cap = cap' := by simpa using hv
  have hl : (S.take k).length = k := by simp; omega
  refine ⟨A, cap, by rw [hl], by omega, fun _ => ?_, fun hp => ?_⟩
  · by_cases hs : S = []
    · exact h0 hs
    · obtain ⟨b, o, rfl, _⟩ := h1 (List.length_pos_iff.2 hs)
      exact Or.inr ⟨b, o, rfl⟩
  · obtain ⟨b, o, rfl, hlt, hcell⟩ := h1 (by omega)
    refine ⟨b, o, rfl, hlt, fun i hi j u hu => ?_⟩
    rw [hl] at hi
    exact hcell i (by omega) j u (by simpa using hu)
theorem RowsAt.drop {α : Type} {ty : TypeId} {c : Nat} {f : α → List Value} {w : World} {b o n cap : Nat} {S : List α} (h : RowsAt ty c f w (.slice (some ⟨b, o, none⟩) n cap) S) (k : Nat) (hk : k ≤ S.length) (b' o' : Nat) (hbo : k < S.length → b' = b ∧ o' = o + k * c) : RowsAt ty c f w (.slice (some ⟨b', o', none⟩) (n - k) (cap - k)) (S.drop k) := by
  obtain ⟨A', cap', hv, hcap, h0, h1⟩ := h
  obtain ⟨rfl, rfl, rfl⟩ : some ⟨b, o, none⟩ = A' ∧ n = S.length ∧ cap = cap' := by simpa using hv
  have hl : (S.drop k).length = S.length - k := by simp
  refine ⟨_, _, by rw [hl], by omega, fun _ => Or.inr ⟨_, _, rfl⟩, fun hp => ?_⟩
  rw [hl] at hp
  have hp1 : k < S.length := by omega
  have hp2 : 0 < S.length := by omega
  obtain ⟨rfl, rfl⟩ := hbo hp1
  obtain ⟨b2, o2, he, hlt, hcell⟩ := h1 hp2
  cases he
  refine ⟨_, _, rfl, hlt, fun i hi j u hu => ?_⟩
  have hki : k + i < S.length := by rw [hl] at hi; clear hcell hlt h1 h0; omega
  have := hcell (k + i) hki j u (by simpa using hu)
  rw [Nat.add_mul, ← Nat.add_assoc] at this
  exact this
/-- A slice that has the things S, in a block of any type. -/
def RowsIn {α : Type} (c : Nat) (f : α → List Value) (w : World) (v : Value) (S : List α) : Prop :=
  ∃ (A : Option Addr) (cap : Nat), v = .slice A S.length cap ∧ S.length ≤ cap ∧ (S = [] → A = none ∧ cap = 0 ∨ ∃ b o, A = some ⟨b, o, none⟩) ∧ (0 < S.length → ∃ b o, A = some ⟨b, o, none⟩ ∧ b < w.heap.size ∧ ∀ i (h : i < S.length) j u, (f S[i])[j]? = some u → w.cell? ⟨b, o + i * c + j, none⟩ = some u)
theorem RowsAt.inn {α : Type} {ty : TypeId} {c : Nat} {f : α → List Value} {w : World} {v : Value} {S : List α} (h : RowsAt ty c f w v S) : RowsIn c f w v S := by
  obtain ⟨A, cap, rfl, hc, h0, h1⟩ := h
  refine ⟨A, cap, rfl, hc, h0, fun hp => ?_⟩
  obtain ⟨b, o, rfl, ⟨cs, fl, hh⟩, hcell⟩ := h1 hp
  exact ⟨b, o, rfl, lt_of_heap hh, hcell⟩
theorem RowsIn.form {α : Type} {c : Nat} {f : α → List Value} {w : World} {v : Value} {S : List α} (h : RowsIn c f w v S) : ∃ A cap, v = .slice A S.length cap ∧ S.length ≤ cap ∧ ((S = [] ∧ A = none ∧ cap = 0) ∨ ∃ b o, A = some ⟨b, o, none⟩) := by
  obtain ⟨A, cap, rfl, hc, h0, h1⟩ := h
  refine ⟨A, cap, rfl, hc, ?_⟩
  by_cases hs : S = []
  · exact (h0 hs).imp (fun h => ⟨hs, h⟩) id
  · obtain ⟨b, o, rfl, _⟩ := h1 (List.length_pos_iff.2 hs)
    exact Or.inr ⟨b, o, rfl⟩
theorem RowsIn.below {α : Type} {c : Nat} {f : α → List Value} {w w' : World} {v : Value} {S : List α} (h : RowsIn c f w v S) (hb : Below w.heap.size w w') : RowsIn c f w' v S := by
  obtain ⟨A, cap, rfl, hc, h0, h1⟩ := h
  refine ⟨A, cap, rfl, hc, h0, fun hp => ?_⟩
  obtain ⟨b, o, rfl, hlt, hcell⟩ := h1 hp
  exact ⟨b, o, rfl, Nat.lt_of_lt_of_le hlt hb.size, fun i hi j u hu => (hb.cell hlt).trans (hcell i hi j u hu)⟩
theorem RowsIn.at {α : Type} {c : Nat} {f : α → List Value} {w : World} {A : Option Addr} {n cap : Nat} {S : List α} (h : RowsIn c f w (.slice A n cap) S) (k : Nat) (hk : k < S.length) :
    ∃ b o, A = some ⟨b, o, none⟩ ∧ ∀ j u, (f S[k])[j]? = some u → w.cell? ⟨b, o + k * c + j, none⟩ = some u := by
  obtain ⟨A', cap', hv, _, _, h1⟩ := h
  obtain ⟨rfl, _⟩ : A = A' ∧ _ := by simpa using hv
  obtain ⟨b, o, rfl, _, hcell⟩ := h1 (by omega)
  exact ⟨b, o, rfl, hcell k hk⟩
theorem run_append_nothing_rows {c : Nat} (sty ty : TypeId) (hu : Tryd.prog.underlying sty = some (.slice ty)) (hsz : ∀ w, (sizeOf ty).run Tryd.prog w = .ok c w) (w : World) (v : Value) (n k B : Nat) (xs : List Value) (h : w.ownsRow B ty c v n xs) (tt : TypeId) : (Builtin.append_ #[sty, sty] tt #[v, .slice none 0 k]).run Tryd.prog w = .ok v w := by
  rcases h.2 with ⟨rfl, rfl⟩ | ⟨g, cap, cur, rfl, hB, hh, hn, _⟩
  · simp [Builtin.append_, run_underlying hu, hsz, Builtin.lenOf, Builtin.firstCells, Result.andThen]
  · simp [Builtin.append_, run_underlying hu, hsz, Builtin.lenOf, Builtin.firstCells, Result.andThen, hn, storeCells]
/-- All of a slice behind a row of the call's own. -/
theorem append_rowsIn {α : Type} {f : α → List Value} {c : Nat} {w : World} {v s : Value} {S : List α} {B n : Nat} {xs : List Value} (sty ty : TypeId) (i0 : TypeInfo) (z : Value) (by_ : Nat)
    (hu : Tryd.prog.underlying sty = some (.slice ty)) (hsz : ∀ w, (sizeOf ty).run Tryd.prog w = .ok c w)
    (hi : Tryd.prog.info? ty = some i0) (hz0 : i0.zero = some z) (hz1 : i0.size = c) (hz2 : i0.bytes = by_) (hz : z.cells.size = c) (hc0 : 0 < c) (hby : by_ ≤ 1000)
    (hf : ∀ a, (f a).length = c) (h1 : ∀ a, ∀ u ∈ f a, u.oneCell' = true)
    (hv : RowsIn c f w v S) (hs : w.ownsRow B ty c s n xs) (hl : n + S.length ≤ 1000000) (hB : B ≤ w.heap.size) :
    ∃ v' w', (Builtin.append_ #[sty, sty] sty #[s, v]).run Tryd.prog w = .ok v' w' ∧ w'.ownsRow B ty c v' (n + S.length) (xs ++ rowsL f S) ∧ w.grownBy w' s.ownBlock ∧ (v'.ownBlock = s.ownBlock ∨ v'.ownBlock = some w.heap.size) := by
  obtain ⟨A, cap, rfl, -, -, hc⟩ := hv
  cases A with
  | none =>
    have h0 : S.length = 0 := by
      by_cases h : S.length = 0
      · exact h
      · obtain ⟨b, o, ha, _⟩ := hc (by omega)
        cases ha
    obtain rfl : S = [] := List.eq_nil_of_length_eq_zero h0
    exact ⟨s, w, run_append_nothing_rows sty ty hu hsz w s n cap B xs hs _, by simpa [rowsL] using hs, ⟨rfl, rfl, rfl, Nat.le_refl _, fun _ _ _ => rfl⟩, Or.inl rfl⟩
  | some a =>
    have hbytes : (n + S.length) * by_ ≤ 140737488355328 := Nat.le_trans (Nat.mul_le_mul hl hby) (by omega)
    obtain ⟨v', w', h1, h2, h3, _, h5⟩ := run_append_own_at (P := Tryd.prog) w B sty sty ty i0 z c by_ hu hi hz0 hz1 hz2 hz hc0 s n xs hs a S.length cap (rowsL f S) (rowsL_length hf S)
      (fun j u hu => by
        have hj : j < S.length * c := by
          have := (List.getElem?_eq_some_iff.1 hu).1
          rwa [rowsL_length hf] at this
        have hS : 0 < S.length := Nat.pos_of_ne_zero fun e => by rw [e, Nat.zero_mul] at hj; omega
        obtain ⟨b, o, hb, _, hcell⟩ := hc hS
        cases hb
        have hi' : j / c < S.length := (Nat.div_lt_iff_lt_mul hc0).2 hj
        have hr : j % c < c := Nat.mod_lt _ hc0
        have hjj : j / c * c + j % c = j := by rw [Nat.mul_comm]; exact Nat.div_add_mod j c
        have e := rowsL_at hf S (j / c) (j % c) hi' hr
        rw [hjj, hu] at e
        have := hcell (j / c) hi' (j % c) u e.symm
        rw [Addr.add_mid]
        rw [Nat.add_assoc, hjj] at this
        exact this) (rowsL_one h1 S) (by unfold maxLen; omega) hbytes hB
    exact ⟨v', w', h1, h2, h3, h5⟩
theorem append_rows {α : Type} {f : α → List Value} {c : Nat} {w : World} {v s : Value} {S : List α} {B n : Nat} {xs : List Value} (sty ty : TypeId) (i0 : TypeInfo) (z : Value) (by_ : Nat)
    (hu : Tryd.prog.underlying sty = some (.slice ty)) (hsz : ∀ w, (sizeOf ty).run Tryd.prog w = .ok c w)
    (hi : Tryd.prog.info? ty = some i0) (hz0 : i0.zero = some z) (hz1 : i0.size = c) (hz2 : i0.bytes = by_) (hz : z.cells.size = c) (hc0 : 0 < c) (hby : by_ ≤ 1000)
    (hf : ∀ a, (f a).length = c) (h1 : ∀ a, ∀ u ∈ f a, u.oneCell' = true)
    (hv : RowsAt ty c f w v S) (hs : w.ownsRow B ty c s n xs) (hl : n + S.length ≤ 1000000) (hB : B ≤ w.heap.size) :
    ∃ v' w', (Builtin.append_ #[sty, sty] sty #[s, v]).run Tryd.prog w = .ok v' w' ∧ w'.ownsRow B ty c v' (n + S.length) (xs ++ rowsL f S) ∧ w.grownBy w' s.ownBlock ∧ (v'.ownBlock = s.ownBlock ∨ v'.ownBlock = some w.heap.size) :=
  append_rowsIn sty ty i0 z by_ hu hsz hi hz0 hz1 hz2 hz hc0 hby hf h1 hv.inn hs hl hB
end Go.Proofs.YtkdecmijnojhoaaDoor
namespace Go.Proofs.YtkdecmijnojhoaaDoor
open Go.RowKit
open Go.Proofs.YtkdecmijnojhoaaDoor.Sto (St)

def itcl (p : List UInt8 × List UInt8) : List Value := [.string ⟨p.1.toArray⟩, .string ⟨p.2.toArray⟩]
theorem itcl_length (p : List UInt8 × List UInt8) : (itcl p).length = 2 := rfl
theorem itcl_one (p : List UInt8 × List UInt8) : ∀ u ∈ itcl p, u.oneCell' = true := by
  intro u hu
  simp [itcl] at hu
  rcases hu with rfl | rfl <;> rfl
set_option maxRecDepth 100000 in
theorem Tryd.infoItem : (Tryd.prog.info? 44).map (fun i => (i.zero, i.size, i.bytes)) = some (some (.agg #[.string ⟨#[]⟩, .string ⟨#[]⟩]), 2, 32) := by kernel_rfl
/-- A slice that has these items. -/
def ItAt (w : World) (v : Value) (L : St) : Prop := RowsAt 44 2 itcl w v L
theorem ItAt.at {w : World} {A : Option Addr} {n cap : Nat} {S : St} (h : ItAt w (.slice A n cap) S) (k : Nat) (hk : k < S.length) :
    ∃ b o, A = some ⟨b, o, none⟩ ∧ w.cell? ⟨b, o + k * 2, none⟩ = some (.string ⟨(S[k].1).toArray⟩) ∧ w.cell? ⟨b, o + k * 2 + 1, none⟩ = some (.string ⟨(S[k].2).toArray⟩) := by
  obtain ⟨b, o, rfl, h1⟩ := RowsAt.at h k hk
  exact ⟨b, o, rfl, h1 0 _ rfl, h1 1 _ rfl⟩
/-- Items in a block of any type. -/
def ItIn (w : World) (v : Value) (L : St) : Prop := RowsIn 2 itcl w v L
theorem ItAt.inn {w : World} {v : Value} {L : St} (h : ItAt w v L) : ItIn w v L := RowsAt.inn h
theorem ItIn.at {w : World} {A : Option Addr} {n cap : Nat} {S : St} (h : ItIn w (.slice A n cap) S) (k : Nat) (hk : k < S.length) :
    ∃ b o, A = some ⟨b, o, none⟩ ∧ w.cell? ⟨b, o + k * 2, none⟩ = some (.string ⟨(S[k].1).toArray⟩) ∧ w.cell? ⟨b, o + k * 2 + 1, none⟩ = some (.string ⟨(S[k].2).toArray⟩) := by
  obtain ⟨b, o, rfl, h1⟩ := RowsIn.at h k hk
  exact ⟨b, o, rfl, h1 0 _ rfl, h1 1 _ rfl⟩
theorem Tri.pos_at {S : St} {x : List UInt8} {i : Nat} (hi : i ≤ S.length) (hlo : ∀ (j : Nat) (_ : j < i) (h : j < S.length), S[j].1 < x) (hhi : ∀ h : i < S.length, ¬ S[i].1 < x) : Tri.pos S x = i ∧ Tri.at_ S x = (S[i]?.map (·.1) == some x) := by
  have e := Tri.pos_of S x i hi (fun j h => hlo j h (by omega)) hhi
  exact ⟨e, by rw [Tri.at_, e]⟩
def RAtIs (S : St) (x : List UInt8) (w : World) (e : Ending) (w' : World) : Prop :=
  e = .returned (.tuple #[.int .i64 (Tri.pos S x), .bool (Tri.at_ S x)]) ∧ ∃ q, w' = w.drewN q
set_option maxRecDepth 8000 in
set_option maxHeartbeats 1000000 in
theorem rtAt_any (S : St) (v : Value) (x : List UInt8) (w : World) (hv : ItAt w v S) (hl : S.length ≤ 10000) :
    Calls Tryd.prog 31 #[v, .string ⟨x.toArray⟩] w (RAtIs S x w) := by
  have HV := Lib.hid hv
  obtain ⟨A, cap, rfl, -, -⟩ := hv.form
  clear hv
  go_enter Tryd.func31, Tryd.ntmps31
  go_wp2
  go_loop [6] (fun iv => ∃ k : Nat, k ≤ S.length ∧ iv = .int .i64 k ∧ ∀ (j : Nat) (hj : j < k) (hj' : j < S.length), S[j].1 < x) (fun i => S.length - (intOf i).toNat)
  case atStart => exact ⟨0, Nat.zero_le _, rfl, fun j hj => absurd hj (Nat.not_lt_zero j)⟩
  case round =>
    obtain ⟨k, hk, rfl, hall⟩ := hrel
    have HA := Lib.hid hall
    clear hall
    by_cases hlt : k < S.length
    · have h1 : (k : Int) < (S.length : Int) := by omega
      have h0 : (0 : Int) ≤ (k : Int) := by omega
      have hnb : (k : Int) ≤ 100000 := by omega
      obtain ⟨b, o, rfl, n0, n1⟩ := HV.out.at k hlt
      obtain ⟨y, hy⟩ : ∃ y, S[k].1 = y := ⟨_, rfl⟩
      have HY := Lib.hid hy
      rw [hy] at n0
      by_cases hyx : y < x
      · have e1 : Op.bytesLess y x = true := by rw [less_lt]; simpa using hyx
        have HYX := Lib.hid hyx
        clear n1 hy hyx
        go_wp2
        refine ⟨⟨k + 1, by omega, by go_num, ?_⟩, by simp [intOf]; omega⟩
        intro j hj hj'
        by_cases e : j < k
        · exact HA.out j e hj'
        · obtain rfl : j = k := by omega
          rw [HY.out]; exact HYX.out
      · have e1 : Op.bytesLess y x = false := by rw [less_lt]; simpa using hyx
        obtain ⟨c, hc⟩ : ∃ c, (y == x) = c := ⟨_, rfl⟩
        have HC : Hid (Tri.pos S x = k ∧ Tri.at_ S x = c) := Lib.hid (by
          obtain ⟨g1, g2⟩ := Tri.pos_at (x := x) hk (fun j hj hj' => HA.out j hj hj') (fun _ => by rw [hy]; exact hyx)
          refine ⟨g1, ?_⟩
          rw [g2, List.getElem?_eq_getElem hlt, ← hc, Option.map_some, hy]; rfl)
        have m2 : w.drew.cell? ⟨b, o + k * 2, none⟩ = some (.string ⟨y.toArray⟩) := n0
        clear n1 hy hyx
        go_wp2
        go_region
        all_goals
          go_wp2
          go_ret2
          exact ⟨by rw [HC.out.1, HC.out.2]; rfl, _, rfl⟩
    · obtain rfl : k = S.length := by omega
      have h1 : ¬ ((S.length : Int) < (S.length : Int)) := by omega
      have HC : Hid (Tri.pos S x = S.length ∧ Tri.at_ S x = false) := Lib.hid (by
        obtain ⟨g1, g2⟩ := Tri.pos_at (x := x) (Nat.le_refl _) (fun j hj hj' => HA.out j hj hj') (fun h => absurd h (by omega))
        refine ⟨g1, ?_⟩
        rw [g2, List.getElem?_eq_none (Nat.le_refl _)]; rfl)
      go_wp2
      go_ret2
      exact ⟨by rw [HC.out.1, HC.out.2]; rfl, 0, rfl⟩
end Go.Proofs.YtkdecmijnojhoaaDoor
namespace Go.Proofs.YtkdecmijnojhoaaDoor
open Go.RowKit

theorem Scn.bump_full (x : List UInt8) (h : ∀ b ∈ x, b = 255) : Scn.bump x = [] := by
  induction x with
  | nil => rfl
  | cons a r ih =>
    have e := ih fun b hb => h b (List.mem_cons_of_mem _ hb)
    rw [Scn.bump, e, if_neg (by simp), if_pos (h a List.mem_cons_self)]
theorem Scn.bump_last (x : List UInt8) : ∀ (i : Nat) (h : i < x.length), (∀ b ∈ x.drop (i + 1), b = 255) → x[i] ≠ 255 → Scn.bump x = x.take i ++ [x[i] + 1] := by
  induction x with
  | nil => intro i h; simp at h
  | cons a r ih =>
    intro i h hd hx
    cases i with
    | zero =>
      have e := Scn.bump_full r (by simpa using hd)
      rw [Scn.bump, e, if_neg (by simp), if_neg (by simpa using hx)]
      rfl
    | succ i =>
      have e := ih i (by simpa using h) (by simpa using hd) (by simpa using hx)
      rw [Scn.bump, e, if_pos (by simp)]
      rfl
theorem cut_head (x : List UInt8) (i : Nat) : (⟨x.toArray⟩ : ByteArray).extract 0 i = ⟨(x.take i).toArray⟩ := by
  rw [Lib.extract_eq]; simp

set_option maxHeartbeats 1000000 in
theorem rscIn_any (k f e : List UInt8) (w : World) :
    Calls Tryd.prog 25 #[.string ⟨k.toArray⟩, .string ⟨f.toArray⟩, .string ⟨e.toArray⟩] w fun x w' => x = .returned (.bool (Scn.inR f e k)) ∧ w' = w := by
  obtain ⟨p, hp⟩ : ∃ p, decide (k < f) = p := ⟨_, rfl⟩
  obtain ⟨r, hr⟩ : ∃ r, decide (k < e) = r := ⟨_, rfl⟩
  have e1 : Op.bytesLess k f = p := by rw [less_lt]; exact hp
  have e2 : Op.bytesLess k e = r := by rw [less_lt]; exact hr
  have e3 : decide (f ≤ k) = !p := by
    rw [← hp, ← decide_not]
    exact decide_eq_decide.2 List.not_lt.symm
  unfold Scn.inR
  rw [e3, hr]
  clear hp hr e3
  go_enter Tryd.func25, Tryd.ntmps25
  cases p
  · cases e with
    | nil =>
      go_wp2
      go_ret
      exact ⟨by simp, rfl⟩
    | cons a e =>
      go_wp2
      go_ret
      exact ⟨by simp, rfl⟩
  · go_wp2
    go_ret
    exact ⟨by simp, rfl⟩

set_option maxHeartbeats 1000000 in
theorem rscBehind_any (x : List UInt8) (w : World) (hl : x.length ≤ 1000000) :
    Calls Tryd.prog 11 #[.string ⟨x.toArray⟩] w fun e w' => e = .returned (.string ⟨(Scn.behind x).toArray⟩) ∧ Below w.heap.size w w' := by
  by_cases h8 : 8 < x.length
  · have hb : Scn.behind x = [] := Scn.behind_long h8
    have h1 : (8 : Int) < (x.length : Int) := by omega
    rw [hb]
    clear hb
    go_enter Tryd.func11, Tryd.ntmps11
    go_wp2
    go_ret
    exact ⟨rfl, Below.refl _ _⟩
  have h1 : ¬ ((8 : Int) < (x.length : Int)) := by omega
  by_cases hlt : x.length < 8
  · have hb : Scn.behind x = x ++ [0] := by unfold Scn.behind; rw [if_neg h8, if_pos hlt]
    have h2 : (x.length : Int) < 8 := by omega
    have hc := cat_mk x [0]
    rw [hb]
    clear hb
    go_enter Tryd.func11, Tryd.ntmps11
    go_wp2
    go_ret
    exact ⟨rfl, Below.refl _ _⟩
  have h2 : ¬ ((x.length : Int) < 8) := by omega
  have h3 : x.length = 8 := by omega
  have hb : Scn.behind x = Scn.bump x := by unfold Scn.behind; rw [if_neg h8, if_neg hlt]
  rw [hb]
  have H3 := Lib.hid h3
  clear hb h8 hlt
  go_enter Tryd.func11, Tryd.ntmps11
  go_wp2
  go_loop [3] (fun iv => ∃ k : Nat, k ≤ 8 ∧ iv = .int .i64 ((k : Int) - 1) ∧ ∀ b ∈ x.drop k, b = 255) (fun i => (intOf i + 1).toNat)
  case atStart => exact ⟨8, by omega, by go_num, by rw [List.drop_of_length_le (by omega)]; simp⟩
  case round =>
    obtain ⟨k, hk, rfl, hd⟩ := hrel
    have HD := Lib.hid hd
    clear hd
    cases k with
    | zero =>
      have hf := Scn.bump_full x (by simpa using HD.out)
      go_wp2
      go_ret
      exact ⟨rfl, Below.refl _ _⟩
    | succ i =>
      have hi : i < x.length := by omega
      obtain ⟨c, hc⟩ : ∃ c, x[i] = c := ⟨_, rfl⟩
      have hidx : ∀ h, (⟨x.toArray⟩ : ByteArray)[i]'h = c := fun _ => hc
      by_cases h255 : c = 255
      · have hn : ¬ ((c.toNat : Int) < 255) := by rw [h255]; decide
        have HD2 : Hid (∀ b ∈ x.drop i, b = 255) := Lib.hid (by
          intro b hb
          rw [List.drop_eq_getElem_cons hi] at hb
          rcases List.mem_cons.1 hb with rfl | hb
          · rw [hc]; exact h255
          · exact HD.out b hb)
        clear h255 hc
        go_wp2
        refine ⟨⟨i, by omega, by go_num, HD2.out⟩, by simp [intOf]⟩
      · have hn : (c.toNat : Int) < 255 := by
          have : c.toNat ≠ 255 := fun e => h255 (by rw [← UInt8.toNat_inj]; exact e)
          have := c.toNat_lt
          omega
        have HB := Lib.hid (Scn.bump_last x i hi HD.out (by rw [hc]; exact h255))
        rw [hc] at HB
        have hcv := conv_one w (c + 1) ((c.toNat : Int) + 1) (by simp [UInt8.toNat_add]; omega)
        have hch := cut_head x i
        have hct := cat_mk (x.take i) [c + 1]
        clear h255 hc
        go_wp2
        go_region
        all_goals
          go_wp2
          go_ret
          rw [HB.out]
          exact ⟨rfl, ((Below.refl _ _).alloc (Nat.le_refl _) _).drew⟩
end Go.Proofs.YtkdecmijnojhoaaDoor
namespace Go.Proofs.YtkdecmijnojhoaaDoor.Tri
open Sto (T St Rising keys)

inductive Tr where
  | nil : Tr
  | leaf (p v : T) : Tr
  | ext (p : T) (t : Tr) : Tr
  | br (v : T) (k : Fin 16 → Tr) : Tr
def hb (i : Fin 16) : UInt8 := UInt8.ofNat i.val
theorem hb_toNat (i : Fin 16) : (hb i).toNat = i.val := by
  have := i.isLt
  simp [hb]; omega
theorem hb_inj {i j : Fin 16} (h : hb i = hb j) : i = j := Fin.ext (by rw [← hb_toNat, ← hb_toNat, h])
theorem hb_lt {i j : Fin 16} (h : i < j) : hb i < hb j := by rw [UInt8.lt_iff_toNat_lt, hb_toNat, hb_toNat]; exact h
/-- Items behind a path. -/
def behind (p : T) (l : St) : St := l.map fun x => (p ++ x.1, x.2)
def own (v : T) : St := if v = [] then [] else [([], v)]
def Tr.items : Tr → St
  | .nil => []
  | .leaf p v => [(p, v)]
  | .ext p t => behind p t.items
  | .br v k => own v ++ (List.finRange 16).flatMap fun i => behind [hb i] (k i).items
def Tr.isBr : Tr → Prop
  | .br _ _ => True
  | _ => False
def Tr.isNil : Tr → Prop
  | .nil => True
  | _ => False
def Tr.nilB : Tr → Bool
  | .nil => true
  | _ => false
theorem nilB_iff (t : Tr) : t.nilB = true ↔ t.isNil := by cases t <;> simp [Tr.nilB, Tr.isNil]
/-- What a branch has: two kids, or one and an item of its own. -/
def Two (v : T) (k : Fin 16 → Tr) : Prop := (∃ i j, i < j ∧ ¬ (k i).isNil ∧ ¬ (k j).isNil) ∨ (v ≠ [] ∧ ∃ i, ¬ (k i).isNil)
def Tr.canon : Tr → Prop
  | .nil => True
  | .leaf _ v => v ≠ []
  | .ext p t => p ≠ [] ∧ t.isBr ∧ t.canon
  | .br v k => (∀ i, (k i).canon) ∧ Two v k

theorem mem_behind {p : T} {l : St} {x : T × T} : x ∈ behind p l ↔ ∃ q, (q, x.2) ∈ l ∧ x.1 = p ++ q := by
  unfold behind
  rw [List.mem_map]
  constructor
  · rintro ⟨y, hy, rfl⟩; exact ⟨y.1, hy, rfl⟩
  · rintro ⟨q, hq, e⟩; exact ⟨(q, x.2), hq, Prod.ext e.symm rfl⟩
theorem mem_own {v : T} {x : T × T} : x ∈ own v ↔ x.1 = [] ∧ x.2 = v ∧ v ≠ [] := by
  unfold own
  by_cases h : v = []
  · simp [h]
  · rw [if_neg h, List.mem_singleton]
    exact ⟨fun e => by rw [e]; exact ⟨rfl, rfl, h⟩, fun ⟨a, b, _⟩ => Prod.ext a b⟩
theorem mem_br {v : T} {k : Fin 16 → Tr} {x : T × T} : x ∈ (Tr.br v k).items ↔ (x.1 = [] ∧ x.2 = v ∧ v ≠ []) ∨ ∃ i q, x.1 = hb i :: q ∧ (q, x.2) ∈ (k i).items := by
  rw [Tr.items, List.mem_append, mem_own, List.mem_flatMap]
  refine or_congr Iff.rfl ⟨?_, ?_⟩
  · rintro ⟨i, _, hx⟩
    obtain ⟨q, hq, e⟩ := mem_behind.1 hx
    exact ⟨i, q, by simpa using e, hq⟩
  · rintro ⟨i, q, e, hq⟩
    exact ⟨i, List.mem_finRange i, mem_behind.2 ⟨q, hq, by simpa using e⟩⟩
theorem append_lt (p a b : T) : p ++ a < p ++ b ↔ a < b := by
  induction p with
  | nil => rfl
  | cons x p ih => rw [List.cons_append, List.cons_append, List.cons_lt_cons_iff]; simp [ih]
theorem behind_rising (p : T) {l : St} : Rising (behind p l) ↔ Rising l := by
  unfold Rising behind
  rw [List.pairwise_map]
  simp only [append_lt]
theorem rising_append {a b : St} (ha : Rising a) (hb : Rising b) (h : ∀ x ∈ a, ∀ y ∈ b, x.1 < y.1) : Rising (a ++ b) := List.pairwise_append.2 ⟨ha, hb, h⟩
theorem flat_rising (f : Fin 16 → St) (hf : ∀ i, Rising (f i)) (hx : ∀ i j, i < j → ∀ x ∈ f i, ∀ y ∈ f j, x.1 < y.1) (l : List (Fin 16)) (hl : l.Pairwise (· < ·)) : Rising (l.flatMap f) := by
  induction l with
  | nil => exact List.Pairwise.nil
  | cons i l ih =>
    obtain ⟨h1, h2⟩ := List.pairwise_cons.1 hl
    rw [List.flatMap_cons]
    refine rising_append (hf i) (ih h2) fun x m y n => ?_
    obtain ⟨j, hj, hy⟩ := List.mem_flatMap.1 n
    exact hx i j (h1 j hj) x m y hy
theorem fin_rise : (List.finRange 16).Pairwise (· < ·) := by decide
theorem cons_lt {a b : UInt8} {s t : T} (h : a < b) : a :: s < b :: t := List.cons_lt_cons_iff.2 (Or.inl h)
/-- The items of a tree rise. -/
theorem items_rising (t : Tr) : Rising t.items := by
  induction t with
  | nil => exact List.Pairwise.nil
  | leaf p v => exact List.pairwise_singleton ..
  | ext p t ih => exact (behind_rising p).2 ih
  | br v k ih =>
    refine rising_append (by unfold own; split; exact List.Pairwise.nil; exact List.pairwise_singleton ..) (flat_rising _ (fun i => (behind_rising _).2 (ih i)) (fun i j hij x hx y hy => ?_) _ fin_rise) fun x hx y hy => ?_
    · obtain ⟨q, _, e⟩ := mem_behind.1 hx
      obtain ⟨r, _, e2⟩ := mem_behind.1 hy
      rw [e, e2]
      exact cons_lt (hb_lt hij)
    · obtain ⟨e, _, _⟩ := mem_own.1 hx
      obtain ⟨i, _, hi⟩ := List.mem_flatMap.1 hy
      obtain ⟨r, _, e2⟩ := mem_behind.1 hi
      rw [e, e2]
      exact List.nil_lt_cons _ _
theorem items_nil {t : Tr} (h : t.canon) : t.items = [] ↔ t.isNil := by
  induction t with
  | nil => simp [Tr.items, Tr.isNil]
  | leaf p v => simp [Tr.items, Tr.isNil]
  | ext p t ih =>
    obtain ⟨_, h2, h3⟩ := h
    simp only [Tr.items, Tr.isNil, iff_false, behind, List.map_eq_nil_iff]
    rw [ih h3]
    cases t <;> simp_all [Tr.isBr, Tr.isNil]
  | br v k ih =>
    obtain ⟨h1, h2⟩ := h
    simp only [Tr.isNil, iff_false]
    intro e
    have hk : ∀ i, (k i).isNil := fun i => (ih i (h1 i)).1 (List.eq_nil_iff_forall_not_mem.2 fun x hx => by
      have : (hb i :: x.1, x.2) ∈ (Tr.br v k).items := mem_br.2 (Or.inr ⟨i, x.1, rfl, hx⟩)
      rw [e] at this; cases this)
    rcases h2 with ⟨i, _, _, h, _⟩ | ⟨_, i, h⟩ <;> exact h (hk i)
/-- A branch's items do not all begin with one half byte. -/
theorem br_apart {v : T} {k : Fin 16 → Tr} (h : (Tr.br v k).canon) : (∃ x ∈ (Tr.br v k).items, x.1 = []) ∧ (∃ x ∈ (Tr.br v k).items, x.1 ≠ []) ∨ ∃ x ∈ (Tr.br v k).items, ∃ y ∈ (Tr.br v k).items, ∃ i j q r, i < j ∧ x.1 = hb i :: q ∧ y.1 = hb j :: r := by
  obtain ⟨h1, h2⟩ := h
  have some : ∀ i, ¬ (k i).isNil → ∃ x : T × T, x ∈ (k i).items := fun i hi => by
    cases hx : (k i).items with
    | nil => exact absurd ((items_nil (h1 i)).1 hx) hi
    | cons a l => exact ⟨a, List.mem_cons_self ..⟩
  rcases h2 with ⟨i, j, hij, hi, hj⟩ | ⟨hv, i, hi⟩
  · obtain ⟨x, hx⟩ := some i hi
    obtain ⟨y, hy⟩ := some j hj
    exact Or.inr ⟨(hb i :: x.1, x.2), mem_br.2 (Or.inr ⟨i, x.1, rfl, hx⟩), (hb j :: y.1, y.2), mem_br.2 (Or.inr ⟨j, y.1, rfl, hy⟩), i, j, x.1, y.1, hij, rfl, rfl⟩
  · obtain ⟨x, hx⟩ := some i hi
    exact Or.inl ⟨⟨([], v), mem_br.2 (Or.inl ⟨rfl, rfl, hv⟩), rfl⟩, ⟨(hb i :: x.1, x.2), mem_br.2 (Or.inr ⟨i, x.1, rfl, hx⟩), by simp⟩⟩
/-- No half byte begins all items of a branch. -/
theorem br_all {v : T} {k : Fin 16 → Tr} (h : (Tr.br v k).canon) (b : UInt8) : ¬ ∀ x ∈ (Tr.br v k).items, ∃ q, x.1 = b :: q := by
  intro ha
  rcases br_apart h with ⟨⟨x, hx, e⟩, _⟩ | ⟨x, hx, y, hy, i, j, q, r, hij, e1, e2⟩
  · obtain ⟨q, e2⟩ := ha x hx
    rw [e] at e2; cases e2
  · obtain ⟨q2, f1⟩ := ha x hx
    obtain ⟨r2, f2⟩ := ha y hy
    rw [e1] at f1; rw [e2] at f2
    have := hb_inj ((List.cons.inj f1).1.trans (List.cons.inj f2).1.symm)
    subst this; exact absurd hij (by simp)
theorem br_two {v : T} {k : Fin 16 → Tr} (h : (Tr.br v k).canon) : 2 ≤ (Tr.br v k).items.length := by
  cases hl : (Tr.br v k).items with
  | nil => exact absurd ((items_nil h).1 hl) (by simp [Tr.isNil])
  | cons a l =>
    cases l with
    | cons b l => simp
    | nil =>
      exfalso
      have hm : ∀ x ∈ (Tr.br v k).items, x = a := fun x hx => by rw [hl] at hx; simpa using hx
      rcases br_apart h with ⟨⟨x, hx, e⟩, ⟨y, hy, e2⟩⟩ | ⟨x, hx, y, hy, i, j, q, r, hij, e1, e2⟩
      · rw [hm x hx] at e; rw [hm y hy] at e2; exact e2 e
      · rw [hm x hx] at e1; rw [hm y hy, e1] at e2
        have := hb_inj (List.cons.inj e2).1
        subst this; exact absurd hij (by simp)
theorem ext_br {p : T} {t : Tr} (h : (Tr.ext p t).canon) : ∃ v k, t = .br v k ∧ (Tr.br v k).canon := by
  obtain ⟨_, h2, h3⟩ := h
  cases t with
  | br v k => exact ⟨v, k, rfl, h3⟩
  | nil => cases h2
  | leaf _ _ => cases h2
  | ext _ _ => cases h2
/-- The items of a kid. -/
def under (i : Fin 16) (l : St) : St := l.filterMap fun x => match x.1 with
  | [] => none
  | b :: q => if b = hb i then some (q, x.2) else none
theorem under_append (i : Fin 16) (a b : St) : under i (a ++ b) = under i a ++ under i b := by unfold under; rw [List.filterMap_append]
theorem under_own (i : Fin 16) (v : T) : under i (own v) = [] := by
  unfold own; split
  · rfl
  · rfl
theorem under_behind (i j : Fin 16) (l : St) : under i (behind [hb j] l) = if j = i then l else [] := by
  induction l with
  | nil => simp [behind, under]
  | cons a l ih =>
    have e : under i (behind [hb j] (a :: l)) = (if hb j = hb i then [(a.1, a.2)] else []) ++ under i (behind [hb j] l) := by
      unfold under behind
      rw [List.map_cons, List.filterMap_cons]
      by_cases h : hb j = hb i <;> simp [h]
    rw [e, ih]
    by_cases h : j = i
    · subst h; simp
    · rw [if_neg (fun h2 => h (hb_inj h2)), if_neg h, if_neg h]; rfl
theorem under_flat (i : Fin 16) (f : Fin 16 → St) (l : List (Fin 16)) (hl : l.Nodup) (hi : i ∈ l) : under i (l.flatMap fun j => behind [hb j] (f j)) = f i := by
  induction l with
  | nil => cases hi
  | cons j l ih =>
    obtain ⟨h1, h2⟩ := List.nodup_cons.1 hl
    rw [List.flatMap_cons, under_append, under_behind]
    by_cases e : j = i
    · subst e
      rw [if_pos rfl]
      have : ∀ l : List (Fin 16), j ∉ l → under j (l.flatMap fun k => behind [hb k] (f k)) = [] := by
        intro l
        induction l with
        | nil => intro _; rfl
        | cons k l ih =>
          intro hn
          rw [List.flatMap_cons, under_append, under_behind, if_neg (fun (e : k = j) => hn (by rw [e]; exact List.mem_cons_self ..)), ih (fun m => hn (List.mem_cons_of_mem _ m))]; rfl
      rw [this l h1, List.append_nil]
    · rw [if_neg e, List.nil_append]
      exact ih h2 ((List.mem_cons.1 hi).resolve_left (fun h => e h.symm))
theorem under_br (i : Fin 16) (v : T) (k : Fin 16 → Tr) : under i (Tr.br v k).items = (k i).items := by
  rw [Tr.items, under_append, under_own, List.nil_append]
  exact under_flat i (fun j => (k j).items) _ (List.nodup_finRange 16) (List.mem_finRange i)
theorem own_br {v w : T} {k m : Fin 16 → Tr} (h : (Tr.br v k).items = (Tr.br w m).items) : v = w := by
  have key : ∀ {v w : T} {k m : Fin 16 → Tr}, (Tr.br v k).items = (Tr.br w m).items → v ≠ [] → v = w := by
    intro v w k m h hv
    have : (([] : T), v) ∈ (Tr.br w m).items := h ▸ mem_br.2 (Or.inl ⟨rfl, rfl, hv⟩)
    rcases mem_br.1 this with ⟨_, e, _⟩ | ⟨i, q, e, _⟩
    · exact e
    · cases e
  by_cases hv : v = []
  · by_cases hw : w = []
    · rw [hv, hw]
    · exact (key h.symm hw).symm
  · exact key h hv
theorem behind_inj {p : T} {a b : St} (h : behind p a = behind p b) : a = b := by
  unfold behind at h
  refine (List.map_inj_right fun x y e => ?_).1 h
  have := congrArg Prod.fst e
  have e2 := congrArg Prod.snd e
  exact Prod.ext (List.append_cancel_left this) e2
theorem behind_append (p q : T) (l : St) : behind (p ++ q) l = behind p (behind q l) := by
  unfold behind; rw [List.map_map]; congr 1; funext x; simp
/-- A canonical tree hangs on its items alone. -/
theorem canon_one {t u : Tr} (ht : t.canon) (hu : u.canon) (h : t.items = u.items) : t = u := by
  induction t generalizing u with
  | nil =>
    have := (items_nil hu).1 h.symm
    cases u with
    | nil => rfl
    | _ => cases this
  | leaf p v =>
    cases u with
    | nil => cases h
    | leaf q w =>
      simp only [Tr.items, List.cons.injEq, Prod.mk.injEq, and_true] at h
      rw [h.1, h.2]
    | ext q u =>
      obtain ⟨w, m, rfl, hb⟩ := ext_br hu
      have := br_two hb
      have e := congrArg List.length h
      rw [Tr.items, Tr.items, behind, List.length_map] at e
      simp only [List.length_singleton] at e
      omega
    | br w m =>
      have := br_two hu
      rw [← h] at this; simp [Tr.items] at this
  | ext p t ih =>
    obtain ⟨v, k, rfl, hbr⟩ := ext_br ht
    cases u with
    | nil => have := br_two hbr; have e := congrArg List.length h; rw [Tr.items, Tr.items, behind, List.length_map] at e; simp only [List.length_nil] at e; omega
    | leaf q w => have := br_two hbr; have e := congrArg List.length h; rw [Tr.items, Tr.items, behind, List.length_map] at e; simp only [List.length_singleton] at e; omega
    | br w m =>
      exfalso
      obtain ⟨b, p', rfl⟩ := List.exists_cons_of_ne_nil ht.1
      refine br_all hu b fun x hx => ?_
      rw [← h, Tr.items] at hx
      obtain ⟨q, _, e⟩ := mem_behind.1 hx
      exact ⟨p' ++ q, by rw [e]; rfl⟩
    | ext q u =>
      obtain ⟨w, m, rfl, hbr2⟩ := ext_br hu
      have step : ∀ {p q : T} {v w : T} {k m : Fin 16 → Tr}, (Tr.br w m).canon → behind p (Tr.br v k).items = behind q (Tr.br w m).items → ∀ r b, p ≠ q ++ b :: r := by
        intro p q v w k m hc h r b e
        subst e
        rw [behind_append] at h
        have := behind_inj h
        refine br_all hc b fun x hx => ?_
        rw [← this] at hx
        obtain ⟨s, _, e⟩ := mem_behind.1 hx
        exact ⟨r ++ s, by rw [e]; rfl⟩
      have h : behind p (Tr.br v k).items = behind q (Tr.br w m).items := h
      have hpq : p = q := by
        obtain ⟨a, la, hla⟩ : ∃ a la, (Tr.br v k).items = a :: la := List.exists_cons_of_ne_nil (fun e => by have := br_two hbr; rw [e] at this; simp at this)
        have hm : (p ++ a.1, a.2) ∈ behind q (Tr.br w m).items := by
          rw [← h]; exact mem_behind.2 ⟨a.1, by rw [hla]; exact List.mem_cons_self .., rfl⟩
        obtain ⟨s, _, e⟩ := mem_behind.1 hm
        rcases List.append_eq_append_iff.1 e with ⟨r, e1, _⟩ | ⟨r, e1, _⟩
        · cases r with
          | nil => simpa using e1.symm
          | cons b r => exact absurd e1 (step hbr h.symm r b)
        · cases r with
          | nil => simpa using e1
          | cons b r => exact absurd e1 (step hbr2 h r b)
      subst hpq
      rw [ih hbr hbr2 (behind_inj h)]
  | br v k ih =>
    cases u with
    | nil => have := br_two ht; rw [h] at this; simp [Tr.items] at this
    | leaf q w => have := br_two ht; rw [h] at this; simp [Tr.items] at this
    | ext q u =>
      exfalso
      obtain ⟨b, q', rfl⟩ := List.exists_cons_of_ne_nil hu.1
      refine br_all ht b fun x hx => ?_
      rw [h, Tr.items] at hx
      obtain ⟨s, _, e⟩ := mem_behind.1 hx
      exact ⟨q' ++ s, by rw [e]; rfl⟩
    | br w m =>
      have hv := own_br h
      subst hv
      have hk : k = m := funext fun i => ih i (ht.1 i) (hu.1 i) (by rw [← under_br i v k, ← under_br i v m, h])
      rw [hk]
end Go.Proofs.YtkdecmijnojhoaaDoor.Tri
namespace Go.Proofs.YtkdecmijnojhoaaDoor.Tri
open Sto (T St Rising keys)

def ix (b : UInt8) : Fin 16 := ⟨b.toNat % 16, by omega⟩
theorem ix_hb (i : Fin 16) : ix (hb i) = i := Fin.ext (by have := i.isLt; simp only [ix, hb_toNat]; omega)
theorem hb_ix {b : UInt8} (h : b.toNat ≤ 15) : hb (ix b) = b := by rw [← UInt8.toNat_inj, hb_toNat]; simp only [ix]; omega
def Tr.get : Tr → T → Option T
  | .nil, _ => none
  | .leaf p v, x => if x = p then some v else none
  | .ext p t, x => if x.take p.length = p then t.get (x.drop p.length) else none
  | .br v _, [] => if v = [] then none else some v
  | .br _ k, b :: q => if b.toNat ≤ 15 then (k (ix b)).get q else none
theorem get_mem {t : Tr} {x v : T} : t.get x = some v ↔ (x, v) ∈ t.items := by
  induction t generalizing x with
  | nil => simp [Tr.get, Tr.items]
  | leaf p w =>
    simp only [Tr.get, Tr.items, List.mem_singleton, Prod.mk.injEq]
    by_cases e : x = p
    · simp only [e, if_true, Option.some.injEq, true_and]; exact eq_comm
    · simp [e]
  | ext p t ih =>
    simp only [Tr.get, Tr.items]
    rw [mem_behind]
    by_cases e : x.take p.length = p
    · rw [if_pos e, ih]
      constructor
      · intro h; exact ⟨_, h, (by rw [e] : x.take p.length ++ x.drop p.length = p ++ x.drop p.length) ▸ (List.take_append_drop p.length x).symm⟩
      · rintro ⟨q, hq, h⟩
        have : x = p ++ q := h
        rw [this]; simpa using hq
    · rw [if_neg e]
      refine ⟨(fun h => by cases h), ?_⟩
      rintro ⟨q, hq, h⟩
      have : x = p ++ q := h
      exact absurd (by rw [this]; simp) e
  | br w k ih =>
    rw [mem_br]
    cases x with
    | nil =>
      simp only [Tr.get]
      by_cases e : w = []
      · simp [e]
      · rw [if_neg e]
        constructor
        · intro h; exact Or.inl ⟨trivial, (Option.some.inj h).symm, e⟩
        · rintro (⟨_, h, _⟩ | ⟨i, q, h, _⟩)
          · rw [h]
          · cases h
    | cons b q =>
      simp only [Tr.get]
      by_cases e : b.toNat ≤ 15
      · rw [if_pos e, ih]
        constructor
        · intro h; exact Or.inr ⟨ix b, q, by rw [hb_ix e], h⟩
        · rintro (⟨h, _⟩ | ⟨i, r, h, hr⟩)
          · cases h
          · obtain ⟨rfl, rfl⟩ := List.cons.inj h
            rw [ix_hb]; exact hr
      · rw [if_neg e]
        refine ⟨(fun h => by cases h), ?_⟩
        rintro (⟨h, _⟩ | ⟨i, r, h, hr⟩)
        · cases h
        · obtain ⟨rfl, rfl⟩ := List.cons.inj h
          exact absurd (by rw [hb_toNat]; omega) e
theorem look_items (t : Tr) (x : T) : Sto.look t.items x = t.get x := by
  cases h : t.get x with
  | some v => exact (Sto.look_mem (items_rising t) x v).2 (get_mem.1 h)
  | none =>
    cases h2 : Sto.look t.items x with
    | none => rfl
    | some v => rw [get_mem.2 ((Sto.look_mem (items_rising t) x v).1 h2)] at h; cases h

/-- A kid set. -/
def upd (k : Fin 16 → Tr) (i : Fin 16) (t : Tr) : Fin 16 → Tr := fun j => if j = i then t else k j
def bare : Fin 16 → Tr := fun _ => .nil
theorem upd_at (k : Fin 16 → Tr) (i : Fin 16) (t : Tr) : upd k i t i = t := if_pos rfl
theorem upd_ne (k : Fin 16 → Tr) {i j : Fin 16} (t : Tr) (h : j ≠ i) : upd k i t j = k j := if_neg h
/-- A branch below a path, that may be empty. -/
def above (p : T) (t : Tr) : Tr := if p = [] then t else .ext p t
theorem get_above {p : T} {t : Tr} {x : T} : (above p t).get x = if x.take p.length = p then t.get (x.drop p.length) else none := by
  unfold above
  by_cases h : p = []
  · subst h; simp
  · rw [if_neg h, Tr.get]
theorem common_take (p q : T) : p.take (Nib.commonL p q) = q.take (Nib.commonL p q) := by
  induction p generalizing q with
  | nil => cases q <;> simp [Nib.commonL]
  | cons a p ih =>
    cases q with
    | nil => simp [Nib.commonL]
    | cons b q =>
      unfold Nib.commonL
      by_cases h : a = b
      · rw [if_pos h, List.take_succ_cons, List.take_succ_cons, h, ih q]
      · rw [if_neg h]; rfl
theorem common_split (p q : T) : p = p.take (Nib.commonL p q) ++ p.drop (Nib.commonL p q) ∧ q = p.take (Nib.commonL p q) ++ q.drop (Nib.commonL p q) ∧
    ∀ a s b r, p.drop (Nib.commonL p q) = a :: s → q.drop (Nib.commonL p q) = b :: r → a ≠ b := by
  refine ⟨(List.take_append_drop _ p).symm, by rw [common_take]; exact (List.take_append_drop _ q).symm, ?_⟩
  induction p generalizing q with
  | nil => intro a s b r h; simp at h
  | cons c p ih =>
    cases q with
    | nil => intro a s b r _ h; simp at h
    | cons d q =>
      intro a s b r h1 h2
      rw [Nib.commonL.eq_1] at h1 h2
      by_cases h : c = d
      · rw [if_pos h, List.drop_succ_cons] at h1 h2
        exact ih q a s b r h1 h2
      · rw [if_neg h, List.drop_zero] at h1 h2
        obtain ⟨rfl, _⟩ := List.cons.inj h1
        obtain ⟨rfl, _⟩ := List.cons.inj h2
        exact h
theorem cut_eq (x p : T) (n : Nat) : x = p ↔ x.take n = p.take n ∧ x.drop n = p.drop n :=
  ⟨fun h => by rw [h]; exact ⟨rfl, rfl⟩, fun ⟨h1, h2⟩ => by rw [← List.take_append_drop n x, h1, h2, List.take_append_drop]⟩
def Tr.fits : Tr → Prop
  | .nil => True
  | .leaf p _ => Nib.fitL p = true
  | .ext p t => Nib.fitL p = true ∧ t.fits
  | .br _ k => ∀ i, (k i).fits
theorem fit_cons {b : UInt8} {p : T} : Nib.fitL (b :: p) = true ↔ b.toNat ≤ 15 ∧ Nib.fitL p = true := by simp [Nib.fitL]
theorem fit_append {p q : T} : Nib.fitL (p ++ q) = true ↔ Nib.fitL p = true ∧ Nib.fitL q = true := by simp [Nib.fitL]
theorem fit_take {p : T} (n : Nat) (h : Nib.fitL p = true) : Nib.fitL (p.take n) = true := (fit_append.1 (by rwa [List.take_append_drop] : Nib.fitL (p.take n ++ p.drop n) = true)).1
theorem fit_drop {p : T} (n : Nat) (h : Nib.fitL p = true) : Nib.fitL (p.drop n) = true := (fit_append.1 (by rwa [List.take_append_drop] : Nib.fitL (p.take n ++ p.drop n) = true)).2
/-- A branch of a kid behind a half byte, and an item. -/
def fork (a : UInt8) (t : Tr) (p w : T) : Tr :=
  match p with
  | [] => .br w (upd bare (ix a) t)
  | b :: s => .br [] (upd (upd bare (ix a) t) (ix b) (.leaf s w))
/-- A branch of two items. -/
def fork2 (q v p w : T) : Tr :=
  match q with
  | [] => (match p with | [] => .nil | b :: s => .br v (upd bare (ix b) (.leaf s w)))
  | a :: r => fork a (.leaf r v) p w
theorem ix_inj {a b : UInt8} (ha : a.toNat ≤ 15) (hb : b.toNat ≤ 15) (h : ix a = ix b) : a = b := by rw [← hb_ix ha, ← hb_ix hb, h]
theorem get_fork {a : UInt8} {t : Tr} {p w y : T} (ha : a.toNat ≤ 15) (hp : Nib.fitL p = true) (hw : w ≠ []) (hd : ∀ b s, p = b :: s → a ≠ b) :
    (fork a t p w).get y = if y = p then some w else match y with | [] => none | c :: z => if c = a then t.get z else none := by
  cases p with
  | nil =>
    unfold fork
    cases y with
    | nil => simp [Tr.get, hw]
    | cons c z =>
      simp only [Tr.get]
      rw [if_neg (show ¬ (c :: z = []) by simp)]
      by_cases hc : c.toNat ≤ 15
      · rw [if_pos hc]
        by_cases e : c = a
        · rw [if_pos e, e, upd_at]
        · rw [if_neg e, upd_ne _ _ (fun h => e (ix_inj hc ha h))]; rfl
      · rw [if_neg hc, if_neg (fun (e : c = a) => hc (by rw [e]; exact ha))]
  | cons b s =>
    obtain ⟨hb, hs⟩ := fit_cons.1 hp
    have hab := hd b s rfl
    unfold fork
    cases y with
    | nil => simp [Tr.get]
    | cons c z =>
      simp only [Tr.get]
      by_cases hc : c.toNat ≤ 15
      · rw [if_pos hc]
        by_cases e : c = b
        · subst e
          rw [upd_at, if_neg (fun e2 : c = a => hab e2.symm)]
          simp [Tr.get]
        · rw [upd_ne _ _ (fun h => e (ix_inj hc hb h)), if_neg (fun e2 => e (List.cons.inj e2).1)]
          by_cases e2 : c = a
          · rw [if_pos e2, e2, upd_at]
          · rw [if_neg e2, upd_ne _ _ (fun h => e2 (ix_inj hc ha h))]; rfl
      · rw [if_neg hc, if_neg (fun e2 => hc (by rw [(List.cons.inj e2).1]; exact hb)), if_neg (fun (e : c = a) => hc (by rw [e]; exact ha))]
theorem get_fork2 {q v p w y : T} (hq : Nib.fitL q = true) (hp : Nib.fitL p = true) (hv : v ≠ []) (hw : w ≠ []) (hn : q ≠ p) (hd : ∀ a r b s, q = a :: r → p = b :: s → a ≠ b) :
    (fork2 q v p w).get y = if y = p then some w else if y = q then some v else none := by
  cases q with
  | nil =>
    cases p with
    | nil => exact absurd rfl hn
    | cons b s =>
      obtain ⟨hb, hs⟩ := fit_cons.1 hp
      unfold fork2
      cases y with
      | nil => simp [Tr.get, hv]
      | cons c z =>
        simp only [Tr.get]
        rw [if_neg (show ¬ (c :: z = []) by simp)]
        by_cases hc : c.toNat ≤ 15
        · rw [if_pos hc]
          by_cases e : c = b
          · subst e; rw [upd_at]; simp [Tr.get]
          · rw [upd_ne _ _ (fun h => e (ix_inj hc hb h)), if_neg (fun e2 => e (List.cons.inj e2).1)]; rfl
        · rw [if_neg hc, if_neg (fun e2 => hc (by rw [(List.cons.inj e2).1]; exact hb))]
  | cons a r =>
    obtain ⟨ha, hr⟩ := fit_cons.1 hq
    unfold fork2
    rw [get_fork ha hp hw (fun b s e => hd a r b s rfl e)]
    congr 1
    cases y with
    | nil => simp
    | cons c z =>
      simp only
      by_cases e : c = a
      · subst e; simp [Tr.get]
      · rw [if_neg e, if_neg (fun e2 => e (List.cons.inj e2).1)]
theorem fork_canon {a : UInt8} {t : Tr} {p w : T} (ha : a.toNat ≤ 15) (hp : Nib.fitL p = true) (ht : t.canon) (htn : ¬ t.isNil) (hw : w ≠ []) (hd : ∀ b s, p = b :: s → a ≠ b) : (fork a t p w).canon ∧ (fork a t p w).isBr := by
  cases p with
  | nil =>
    refine ⟨⟨fun i => ?_, Or.inr ⟨hw, ix a, by rw [upd_at]; exact htn⟩⟩, trivial⟩
    by_cases e : i = ix a
    · rw [e, upd_at]; exact ht
    · rw [upd_ne _ _ e]; trivial
  | cons b s =>
    obtain ⟨hb, hs⟩ := fit_cons.1 hp
    have hne : ix a ≠ ix b := fun e => hd b s rfl (ix_inj ha hb e)
    refine ⟨⟨fun i => ?_, Or.inl ?_⟩, trivial⟩
    · by_cases e : i = ix b
      · rw [e, upd_at]; exact hw
      · rw [upd_ne _ _ e]
        by_cases e : i = ix a
        · rw [e, upd_at]; exact ht
        · rw [upd_ne _ _ e]; trivial
    · have n1 : ¬ (upd (upd bare (ix a) t) (ix b) (.leaf s w) (ix a)).isNil := by rw [upd_ne _ _ hne, upd_at]; exact htn
      have n2 : ¬ (upd (upd bare (ix a) t) (ix b) (.leaf s w) (ix b)).isNil := by rw [upd_at]; exact id
      rcases Nat.lt_or_gt_of_ne (fun e : (ix a).val = (ix b).val => hne (Fin.ext e)) with h | h
      · exact ⟨ix a, ix b, h, n1, n2⟩
      · exact ⟨ix b, ix a, h, n2, n1⟩
theorem fork2_canon {q v p w : T} (hq : Nib.fitL q = true) (hp : Nib.fitL p = true) (hv : v ≠ []) (hw : w ≠ []) (hn : q ≠ p) (hd : ∀ a r b s, q = a :: r → p = b :: s → a ≠ b) : (fork2 q v p w).canon ∧ (fork2 q v p w).isBr := by
  cases q with
  | nil =>
    cases p with
    | nil => exact absurd rfl hn
    | cons b s =>
      refine ⟨⟨fun i => ?_, Or.inr ⟨hv, ix b, by rw [upd_at]; exact id⟩⟩, trivial⟩
      by_cases e : i = ix b
      · rw [e, upd_at]; exact hw
      · rw [upd_ne _ _ e]; trivial
  | cons a r =>
    exact fork_canon (fit_cons.1 hq).1 hp hv id hw (fun b s e => hd a r b s rfl e)
theorem above_canon {p : T} {t : Tr} (ht : t.canon) (hb : t.isBr) : (above p t).canon ∧ ¬ (above p t).isNil := by
  unfold above
  by_cases h : p = []
  · rw [if_pos h]; exact ⟨ht, by cases t <;> simp_all [Tr.isBr, Tr.isNil]⟩
  · rw [if_neg h]; exact ⟨⟨h, hb, ht⟩, id⟩
/-- What is put into a tree. -/
def Tr.put : Tr → T → T → Tr
  | .nil, p, w => .leaf p w
  | .leaf q v, p, w => if q = p then .leaf p w else above (q.take (Nib.commonL q p)) (fork2 (q.drop (Nib.commonL q p)) v (p.drop (Nib.commonL q p)) w)
  | .ext q t, p, w => (match q.drop (Nib.commonL q p) with
    | [] => .ext q (t.put (p.drop q.length) w)
    | a :: r => above (q.take (Nib.commonL q p)) (fork a (above r t) (p.drop (Nib.commonL q p)) w))
  | .br _ k, [], w => .br w k
  | .br v k, b :: p, w => .br v (upd k (ix b) ((k (ix b)).put p w))
theorem put_good {t : Tr} {p w : T} (ht : t.canon) (hf : t.fits) (hp : Nib.fitL p = true) (hw : w ≠ []) :
    (t.put p w).canon ∧ (t.isBr → (t.put p w).isBr) ∧ ¬ (t.put p w).isNil ∧ ∀ x, (t.put p w).get x = if x = p then some w else t.get x := by
  induction t generalizing p with
  | nil => exact ⟨hw, id, id, fun x => rfl⟩
  | leaf q v =>
    rw [Tr.put]
    by_cases e : q = p
    · rw [if_pos e]
      subst e
      refine ⟨hw, id, id, fun x => ?_⟩
      simp only [Tr.get]
      by_cases e : x = q <;> simp [e]
    · rw [if_neg e]
      obtain ⟨h1, h2, h3⟩ := common_split q p
      have hcl := Nib.commonL_le q p
      generalize Nib.commonL q p = c at h1 h2 h3 hcl ⊢
      have hn : q.drop c ≠ p.drop c := fun e2 => e (by rw [h1, h2, e2])
      have ht2 : q.take c = p.take c := by
        have := congrArg (List.take c) h2
        rw [List.take_append_of_le_length (by simp; omega), List.take_take, Nat.min_self] at this
        exact this.symm
      have hc2 := fork2_canon (fit_drop c hf) (fit_drop c hp) ht hw hn (fun a r b s ha hb => h3 a r b s ha hb)
      have hab := above_canon (p := q.take c) hc2.1 hc2.2
      refine ⟨hab.1, (fun h => by cases h), hab.2, fun x => ?_⟩
      rw [get_above, get_fork2 (fit_drop c hf) (fit_drop c hp) ht hw hn (fun a r b s ha hb => h3 a r b s ha hb), show (q.take c).length = c by simp; omega]
      simp only [Tr.get]
      simp only [cut_eq x p c, cut_eq x q c]
      by_cases e1 : x.take c = q.take c
      · rw [if_pos e1, e1, ← ht2]; simp
      · rw [if_neg e1, if_neg (fun h => e1 (h.1.trans ht2.symm)), if_neg (fun h => e1 h.1)]
  | ext q t ih =>
    obtain ⟨hq, hbt, hct⟩ := ht
    rw [Tr.put]
    obtain ⟨h1, h2, h3⟩ := common_split q p
    have hcl := Nib.commonL_le q p
    generalize Nib.commonL q p = c at h1 h2 h3 hcl ⊢
    have ht2 : q.take c = p.take c := by
      have := congrArg (List.take c) h2
      rw [List.take_append_of_le_length (by simp; omega), List.take_take, Nat.min_self] at this
      exact this.symm
    cases hd : q.drop c with
    | nil =>
      have hcq : c = q.length := by have := congrArg List.length hd; simp at this; omega
      obtain ⟨g1, g2, g3, g4⟩ := ih hct hf.2 (fit_drop q.length hp)
      refine ⟨⟨hq, g2 hbt, g1⟩, (fun h => by cases h), id, fun x => ?_⟩
      simp only [Tr.get]
      rw [g4]
      simp only [cut_eq x p q.length]
      have hqp : p.take q.length = q := by rw [← hcq, ← ht2, hcq]; exact List.take_length
      rw [hqp]
      by_cases e1 : x.take q.length = q
      · simp [e1]
      · simp [e1]
    | cons a r =>
      have hfq := fit_cons.1 (hd ▸ fit_drop c hf.1)
      have hd3 : ∀ b s, p.drop c = b :: s → a ≠ b := fun b s hb => h3 a r b s hd hb
      have ha := above_canon (p := r) hct hbt
      have hc2 := fork_canon (w := w) hfq.1 (fit_drop c hp) ha.1 ha.2 hw hd3
      have hab := above_canon (p := q.take c) hc2.1 hc2.2
      refine ⟨hab.1, (fun h => by cases h), hab.2, fun x => ?_⟩
      simp only
      rw [get_above, get_fork hfq.1 (fit_drop c hp) hw hd3, show (q.take c).length = c by simp; omega]
      simp only [Tr.get]
      simp only [cut_eq x p c, ← ht2]
      have hql : q.length = c + (r.length + 1) := by have := congrArg List.length hd; simp at this; omega
      have hsp : q = q.take c ++ a :: r := by rw [← hd]; exact (List.take_append_drop c q).symm
      by_cases e1 : x.take c = q.take c
      · rw [if_pos e1]
        simp only [e1, true_and]
        congr 1
        have hx : x = q.take c ++ x.drop c := by rw [← e1]; exact (List.take_append_drop c x).symm
        cases hy : x.drop c with
        | nil =>
          rw [if_neg]
          intro e2
          have := congrArg List.length e2
          have l2 := congrArg List.length hy
          simp at this l2; omega
        | cons b z =>
          have l1 : (q.take c).length = c := by simp; omega
          have hxz : x = q.take c ++ b :: z := by rw [← hy]; exact hx
          have t1 : x.take q.length = q.take c ++ b :: z.take r.length := by
            rw [hxz, hql, List.take_append, l1, List.take_of_length_le (by omega), show c + (r.length + 1) - c = r.length + 1 by omega, List.take_succ_cons]
          have d1 : x.drop q.length = z.drop r.length := by
            rw [hxz, hql, List.drop_append, l1, List.drop_of_length_le (by omega), show c + (r.length + 1) - c = r.length + 1 by omega]; rfl
          rw [t1, d1]
          show (if b = a then (above r t).get z else none) = _
          by_cases e2 : b = a
          · subst e2
            rw [if_pos rfl, get_above]
            by_cases e3 : z.take r.length = r
            · rw [if_pos e3, if_pos (by rw [e3]; exact hsp.symm)]
            · rw [if_neg e3, if_neg (fun e4 => e3 (List.cons.inj (List.append_cancel_left (e4.trans hsp))).2)]
          · rw [if_neg e2, if_neg (fun e4 => e2 (by
              have e5 : q.take c ++ b :: z.take r.length = q.take c ++ a :: r := e4.trans hsp
              exact (List.cons.inj (List.append_cancel_left e5)).1))]
      · rw [if_neg e1]
        simp only [e1, false_and, if_false]
        rw [if_neg]
        intro e2
        apply e1
        have := congrArg (List.take c) e2
        rwa [List.take_take, Nat.min_eq_left (by omega)] at this
  | br v k ih =>
    obtain ⟨h1, h2⟩ := ht
    cases p with
    | nil =>
      refine ⟨⟨h1, ?_⟩, id, id, fun x => ?_⟩
      · rcases h2 with h | ⟨_, i, h⟩
        · exact Or.inl h
        · exact Or.inr ⟨hw, i, h⟩
      · cases x with
        | nil => simp [Tr.put, Tr.get, hw]
        | cons c z => simp [Tr.put, Tr.get]
    | cons b p =>
      obtain ⟨hb, hpf⟩ := fit_cons.1 hp
      obtain ⟨g1, g2, g3, g4⟩ := ih (ix b) (h1 _) (hf _) hpf
      have keep : ∀ i, ¬ (k i).isNil → ¬ (upd k (ix b) ((k (ix b)).put p w) i).isNil := fun i hi => by
        by_cases e : i = ix b
        · rw [e, upd_at]; exact g3
        · rw [upd_ne _ _ e]; exact hi
      refine ⟨⟨fun i => ?_, ?_⟩, id, id, fun x => ?_⟩
      · by_cases e : i = ix b
        · rw [e, upd_at]; exact g1
        · rw [upd_ne _ _ e]; exact h1 i
      · rcases h2 with ⟨i, j, hij, hi, hj⟩ | ⟨hv, i, hi⟩
        · exact Or.inl ⟨i, j, hij, keep i hi, keep j hj⟩
        · exact Or.inr ⟨hv, i, keep i hi⟩
      · cases x with
        | nil => simp [Tr.put, Tr.get]
        | cons c z =>
          simp only [Tr.put, Tr.get]
          by_cases hc : c.toNat ≤ 15
          · rw [if_pos hc, if_pos hc]
            by_cases e : c = b
            · subst e; rw [upd_at, g4]; simp
            · rw [upd_ne _ _ (fun h => e (ix_inj hc hb h)), if_neg (fun e2 => e (List.cons.inj e2).1)]
          · rw [if_neg hc, if_neg hc, if_neg (fun e2 => hc (by rw [(List.cons.inj e2).1]; exact hb))]
end Go.Proofs.YtkdecmijnojhoaaDoor.Tri
namespace Go.Proofs.YtkdecmijnojhoaaDoor.Nib

theorem less_nil (a : List UInt8) : Op.bytesLess a [] = false := by cases a <;> rfl
theorem less_cons (a b : UInt8) (x y : List UInt8) : Op.bytesLess (a :: x) (b :: y) = (decide (a < b) || (a == b && Op.bytesLess x y)) := rfl
end Go.Proofs.YtkdecmijnojhoaaDoor.Nib
