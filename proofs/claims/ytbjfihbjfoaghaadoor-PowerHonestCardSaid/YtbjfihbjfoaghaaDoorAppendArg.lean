/- append of all of a slice that came in, nil or empty too, to a row of the call's own. -/
import Derived.Test.YtbjfihbjfoaghaaDoorSorted
import Derived.Test.YtbjfihbjfoaghaaDoorPowBase
import Derived.Maps.AppendAt
namespace Go.Proofs.YtbjfihbjfoaghaaDoor
open Go.RowKit
open Go.Proofs.YtbjfihbjfoaghaaDoor.Pw (M)

/-- 'append(s, x...)', by an equation of the run. -/
theorem wpList_append_run {P : Program} {w w' : World} {ops : Array Oper} {rest : List Oper} {o : Oper} {a : Act} {Q : Exit → Act → World → Prop} (hg : o.guard = none) (s x : Operand) (t : TypeId) (hop : o.op = Op.call { callee := Callee.builtin Builtin.append, args := #[s, x], argTypes := #[t, t] })
    (sv xv r : Value) (hs : a.eval s = sv) (hx : a.eval x = xv) (hrun : (Builtin.append_ #[t, t] o.type #[sv, xv]).run P w = .ok r w') (hK : wpList P ops Q rest (a.put o.dst r) w') :
    wpList P ops Q (o :: rest) a w := by
  refine wpList_plain hg fun K' hK' => ?_
  unfold Oper.wp
  simp [execOp, hop, resolve, invoke, builtin, hs, hx, hrun, Result.andThen]
  exact hK' _ _ hK

theorem run_append_nothing_s (w : World) (v : Value) (n c B : Nat) (xs : List Value) (h : w.ownsRow B 9 1 v n xs) (ty : TypeId) : (Builtin.append_ #[23, 23] ty #[v, .slice none 0 c]).run Tryd.prog w = .ok v w := by
  rcases h.2 with ⟨rfl, rfl⟩ | ⟨g, cap, cur, rfl, hB, hh, hn, _⟩
  · simp [Builtin.append_, run_underlying Tryd.underlying23, Tryd.sizeOf9, Builtin.lenOf, Builtin.firstCells, Result.andThen]
  · simp [Builtin.append_, run_underlying Tryd.underlying23, Tryd.sizeOf9, Builtin.lenOf, Builtin.firstCells, Result.andThen, hn, storeCells]
theorem run_append_nothing_m (w : World) (v : Value) (n c B : Nat) (xs : List Value) (h : w.ownsRow B 43 2 v n xs) (ty : TypeId) : (Builtin.append_ #[22, 22] ty #[v, .slice none 0 c]).run Tryd.prog w = .ok v w := by
  rcases h.2 with ⟨rfl, rfl⟩ | ⟨g, cap, cur, rfl, hB, hh, hn, _⟩
  · simp [Builtin.append_, run_underlying Tryd.underlying22, Tryd.sizeOf43, Builtin.lenOf, Builtin.firstCells, Result.andThen]
  · simp [Builtin.append_, run_underlying Tryd.underlying22, Tryd.sizeOf43, Builtin.lenOf, Builtin.firstCells, Result.andThen, hn, storeCells]
theorem grown_none (w : World) (r : Option Nat) : w.grownBy w r := ⟨rfl, rfl, rfl, Nat.le_refl _, fun _ _ _ => rfl⟩
theorem append_strs {w : World} {v s : Value} {L : List (List UInt8)} {B n : Nat} {xs : List Value} (hv : Strs w v L) (hs : w.ownsRow B 9 1 s n xs) (hl : n + L.length ≤ 1000000) (hB : B ≤ w.heap.size) :
    ∃ v' w', (Builtin.append_ #[23, 23] 23 #[s, v]).run Tryd.prog w = .ok v' w' ∧ w'.ownsRow B 9 1 v' (n + L.length) (xs ++ scells L) ∧ w.grownBy w' s.ownBlock ∧ (v'.ownBlock = s.ownBlock ∨ v'.ownBlock = some w.heap.size) := by
  obtain ⟨i0, hi, hz0, hz1, hz2⟩ := info_parts Tryd.infoStr
  obtain ⟨A, cap, rfl, hc⟩ := hv
  cases A with
  | none =>
    have h0 : L.length = 0 := by
      by_cases h : L.length = 0
      · exact h
      · obtain ⟨a, ha, _⟩ := hc 0 (by omega)
        cases ha
    obtain rfl : L = [] := List.eq_nil_of_length_eq_zero h0
    exact ⟨s, w, run_append_nothing_s w s n cap B xs hs _, by simpa [scells] using hs, grown_none _ _, Or.inl rfl⟩
  | some a =>
    obtain ⟨v', w', h1, h2, h3, _, h5⟩ := run_append_own_at (P := Tryd.prog) w B 23 23 9 i0 (.string ⟨#[]⟩) 1 16 Tryd.underlying23 hi hz0 hz1 hz2 rfl (by decide) s n xs hs a L.length cap (scells L) (by simp [scells])
      (fun j u hu => by
        have hj : j < L.length := by
          have := (List.getElem?_eq_some_iff.1 hu).1
          simpa [scells] using this
        obtain ⟨b, hb, hcell⟩ := hc j hj
        cases hb
        simp only [scells, List.getElem?_map, List.getElem?_eq_getElem hj] at hu
        simp at hu
        rw [← hu]
        exact hcell) (by simp [scells, Value.oneCell']) (by unfold maxLen; omega) (by omega) hB
    exact ⟨v', w', h1, h2, h3, h5⟩
theorem append_mems {w : World} {v s : Value} {L : List M} {B n : Nat} {xs : List Value} (hv : Mems w v L) (hs : w.ownsRow B 43 2 s n xs) (hl : n + L.length ≤ 1000000) (hB : B ≤ w.heap.size) :
    ∃ v' w', (Builtin.append_ #[22, 22] 22 #[s, v]).run Tryd.prog w = .ok v' w' ∧ w'.ownsRow B 43 2 v' (n + L.length) (xs ++ mrows L) ∧ w.grownBy w' s.ownBlock ∧ (v'.ownBlock = s.ownBlock ∨ v'.ownBlock = some w.heap.size) := by
  obtain ⟨i0, hi, hz0, hz1, hz2⟩ := info_parts Tryd.infoMember
  obtain ⟨A, cap, rfl, hc⟩ := hv
  cases A with
  | none =>
    have h0 : L.length = 0 := by
      by_cases h : L.length = 0
      · exact h
      · obtain ⟨b, o, ha, _⟩ := hc (by omega)
        cases ha
    obtain rfl : L = [] := List.eq_nil_of_length_eq_zero h0
    exact ⟨s, w, run_append_nothing_m w s n cap B xs hs _, by simpa [mrows] using hs, grown_none _ _, Or.inl rfl⟩
  | some a =>
    obtain ⟨v', w', h1, h2, h3, _, h5⟩ := run_append_own_at (P := Tryd.prog) w B 22 22 43 i0 (.agg #[.string ⟨#[]⟩, .int .i64 0]) 2 24 Tryd.underlying22 hi hz0 hz1 hz2 rfl (by decide) s n xs hs a L.length cap (mrows L) (mrows_length L)
      (fun j u hu => by
        have hj : j < L.length * 2 := by
          have := (List.getElem?_eq_some_iff.1 hu).1
          rwa [mrows_length] at this
        obtain ⟨b, o, hb, _, hcell⟩ := hc (by omega)
        cases hb
        obtain ⟨i, r, hr, rfl⟩ : ∃ i r, r < 2 ∧ j = i * 2 + r := ⟨j / 2, j % 2, by omega, by omega⟩
        have hi' : i < L.length := by omega
        have e := mrows_at L i r hi' hr
        rw [hu] at e
        obtain ⟨h1, h2⟩ := hcell i hi'
        rw [Addr.add_mid]
        have hr2 : r = 0 ∨ r = 1 := by omega
        rcases hr2 with rfl | rfl
        · simp only [mcells, List.getElem?_cons_zero, Option.some.injEq] at e
          rw [e]; exact h1
        · simp only [mcells, List.getElem?_cons_succ, List.getElem?_cons_zero, Option.some.injEq] at e
          rw [e]; exact h2) (by
        intro u hu
        obtain ⟨m, _, hm⟩ := List.mem_flatMap.1 hu
        simp only [mcells, List.mem_cons, List.not_mem_nil, or_false] at hm
        rcases hm with rfl | rfl <;> rfl) (by unfold maxLen; omega) (by omega) hB
    exact ⟨v', w', h1, h2, h3, h5⟩
end Go.Proofs.YtbjfihbjfoaghaaDoor
