/- A map in memory as a function that may lack a value: look, put, delete. -/
import Derived.Test.YteolephlajhghaaMapBase
import Derived.Maps.OwnSet
namespace Go.Proofs.Yteolephlajhghaa
open Go.RowKit Go.MapKept
open Go.ChangeMaps (setBlock heap_setBlock_same heap_setBlock_other)
open Go.Maps (Keyed)

/-- How keys and elements lie in the map: the key's value and its law, the element's value. -/
structure MapLaw (P : Program) (k : TypeId) (κ α : Type) where
  enc : κ → Value
  val : α → Value
  ok : κ → Prop
  keyed : Keyed P k
  key : ∀ s, ok s → ∃ l, keyOf P k (enc s) = some l
  inj : ∀ a b, enc a = enc b → a = b

variable {P : Program} {k t e : TypeId} {κ α : Type}

/-- f, but o at s. -/
def updF [DecidableEq κ] (f : κ → Option α) (s : κ) (o : Option α) : κ → Option α := fun x => if x = s then o else f x
theorem updF_same [DecidableEq κ] (f : κ → Option α) (s : κ) (o : Option α) : updF f s o s = o := if_pos rfl
theorem updF_other [DecidableEq κ] (f : κ → Option α) (s x : κ) (o : Option α) (h : x ≠ s) : updF f s o x = f x := if_neg h
/-- Block b is a map that has f's elements at f's keys, and no other. -/
def FnAt (M : MapLaw P k κ α) (w : World) (b : Nat) (f : κ → Option α) : Prop :=
  ∃ es clock, w.heap[b]? = some (.map es clock) ∧ (∀ x ∈ es.toList, ∃ s a, x.key = M.enc s ∧ x.val = M.val a ∧ M.ok s ∧ f s = some a) ∧ (∀ s a, f s = some a → ∃ x ∈ es.toList, x.key = M.enc s) ∧ Stamped es clock

theorem FnAt.lt {M : MapLaw P k κ α} {w : World} {b : Nat} {f : κ → Option α} (h : FnAt M w b f) : b < w.heap.size := by
  obtain ⟨_, _, h1, _⟩ := h; exact lt_of_heap h1
theorem FnAt.no_cells {M : MapLaw P k κ α} {w : World} {b : Nat} {f : κ → Option α} (h : FnAt M w b f) (j : Nat) (cs : Array Value) (t : TypeId) (fr : Nat × Nat) (hk : j = b) : w.heap[j]? ≠ some (.cells cs t fr) := by
  subst hk
  obtain ⟨es, c, he, _⟩ := h
  rw [he]; simp
theorem FnAt.made (M : MapLaw P k κ α) (w : World) (b : Nat) (h : b = w.heap.size) : FnAt M (w.alloc (.map #[] 0)) b (fun _ => none) :=
  ⟨#[], 0, heap_new_at w _ _ h, fun x hx => by simp at hx, fun s a h => by simp at h, stamped_empty 0⟩
theorem FnAt.out {M : MapLaw P k κ α} {F : Nat → Prop} {w w' : World} {b : Nat} {f : κ → Option α} (h : FnAt M w b f) (ho : Out F w w') (hF : ¬ F b) : FnAt M w' b f := by
  obtain ⟨es, clock, h1, h2⟩ := h
  exact ⟨es, clock, ho.heap h1 hF, h2⟩
theorem FnAt.below {M : MapLaw P k κ α} {w w' : World} {b : Nat} {f : κ → Option α} (h : FnAt M w b f) (ho : Below w.heap.size w w') : FnAt M w' b f := h.out (F := fun _ => False) (Out.of ho) id
theorem FnAt.drew {M : MapLaw P k κ α} {w : World} {b : Nat} {f : κ → Option α} (h : FnAt M w b f) : FnAt M w.drew b f := h
theorem FnAt.congr {M : MapLaw P k κ α} {w : World} {b : Nat} {f g : κ → Option α} (h : FnAt M w b f) (e : ∀ s, f s = g s) : FnAt M w b g := by
  obtain rfl : f = g := funext e
  exact h

theorem FnAt.keys {M : MapLaw P k κ α} {es : Array MapEntry} {f : κ → Option α} (h2 : ∀ x ∈ es.toList, ∃ s a, x.key = M.enc s ∧ x.val = M.val a ∧ M.ok s ∧ f s = some a) : ∀ x ∈ es.toList, ∃ l, keyOf P k x.key = some l := by
  intro x hx
  obtain ⟨s, a, e1, _, ho, _⟩ := h2 x hx
  rw [e1]; exact M.key s ho

theorem FnAt.look {M : MapLaw P k κ α} {w : World} {b : Nat} {f : κ → Option α} (h : FnAt M w b f) (ht : P.underlying t = some (.map k e)) {s : κ} (hs : M.ok s) (c : Bool) {z : Value} (hz : (zeroValue e).run P w = .ok z w) :
    (Instr.lookup t (.map (some b)) (M.enc s) c).run P w = .ok (if c then .tuple #[((f s).map M.val).getD z, .bool (f s).isSome] else ((f s).map M.val).getD z) w := by
  obtain ⟨es, clock, hb, h2, h3, h4⟩ := h
  obtain ⟨kl, hkey⟩ := M.key s hs
  rcases M.keyed.find w hkey es.toList (FnAt.keys h2) with ⟨h5, h6⟩ | ⟨j, e0, h5, h6, h7⟩
  · have hn : f s = none := by
      cases hf : f s with
      | none => rfl
      | some a =>
        obtain ⟨x, hx, hxe⟩ := h3 s a hf
        exact absurd hxe (h6 x hx)
    rw [hn]
    simp [Instr.lookup, run_underlying ht, MapKept.run_getObj_map hb, M.keyed.check w _ hkey, h5, hz, Result.andThen]
  · obtain ⟨s', a, e1, e2, ho, hf⟩ := h2 e0 (List.mem_of_getElem? h6)
    obtain rfl : s' = s := M.inj _ _ (e1.symm.trans h7)
    rw [hf]
    simp [Instr.lookup, run_underlying ht, MapKept.run_getObj_map hb, M.keyed.check w _ hkey, h5, e2, Result.andThen]

theorem FnAt.put [DecidableEq κ] {M : MapLaw P k κ α} {w : World} {b : Nat} {f : κ → Option α} (h : FnAt M w b f) (ht : P.underlying t = some (.map k e)) {s : κ} (hs : M.ok s) (a : α) :
    ∃ w', (Instr.mapUpdate t (.map (some b)) (M.enc s) (M.val a)).run P w = .ok () w' ∧ FnAt M w' b (updF f s (some a)) ∧ Out (fun i => i = b) w w' ∧ w'.heap.size = w.heap.size := by
  obtain ⟨es, clock, hb, h2, h3, h4⟩ := h
  obtain ⟨kl, hkey⟩ := M.key s hs
  rcases M.keyed.find w hkey es.toList (FnAt.keys h2) with ⟨h5, h6⟩ | ⟨j, e0, h5, h6, h7⟩
  · refine ⟨setBlock w b (.map (es.push ⟨M.enc s, M.val a, clock⟩) (clock + 1)), ?_, ⟨_, _, heap_setBlock_same hb _, ?_, ?_, ?_⟩, ⟨rfl, rfl, rfl, by simp [setBlock], fun i _ hi => heap_setBlock_other hb _ hi⟩, by simp [setBlock]⟩
    · simp [Instr.mapUpdate, run_underlying ht, MapKept.run_getObj_map hb, M.keyed.check w false hkey, h5, MapKept.run_setObj_map _ hb, Result.andThen, setBlock]
    · intro x hx
      simp only [Array.toList_push, List.mem_append, List.mem_singleton] at hx
      rcases hx with hx | rfl
      · obtain ⟨s', a', e1, e2, ho, hf⟩ := h2 x hx
        have hne : s' ≠ s := fun e => h6 x hx (by rw [e1, e])
        exact ⟨s', a', e1, e2, ho, by rw [updF_other _ _ _ _ hne]; exact hf⟩
      · exact ⟨s, a, rfl, rfl, hs, updF_same _ _ _⟩
    · intro s' a' hf
      simp only [Array.toList_push, List.mem_append, List.mem_singleton]
      by_cases hne : s' = s
      · exact ⟨_, Or.inr rfl, by rw [hne]⟩
      · rw [updF_other _ _ _ _ hne] at hf
        obtain ⟨x, hx, hxe⟩ := h3 s' a' hf
        exact ⟨x, Or.inl hx, hxe⟩
    · exact stamped_push h4 h6
  · have hjl : j < es.toList.length := (List.getElem?_eq_some_iff.1 h6).1
    have hjs : j < es.size := by simpa using hjl
    have he0 : es.toList[j] = e0 := (List.getElem?_eq_some_iff.1 h6).2
    have hj' : es[j]? = some e0 := by rw [← Array.getElem?_toList]; exact h6
    have hml : (es.modify j fun x => { x with key := M.enc s, val := M.val a }).toList = es.toList.set j { e0 with key := M.enc s, val := M.val a } := by
      apply List.ext_getElem?
      intro i
      rw [Array.getElem?_toList, Array.getElem?_modify, List.getElem?_set]
      by_cases hi : j = i
      · subst hi
        have hb0 : es[j].born = e0.born := by rw [← he0]; simp
        simp [hjs, hb0]
      · simp [hi]
    obtain ⟨s0, a0, q1, q2, q3, q4⟩ := h2 e0 (List.mem_of_getElem? h6)
    obtain rfl : s0 = s := M.inj _ _ (q1.symm.trans h7)
    have hkeys : (es.toList.set j { e0 with key := M.enc s0, val := M.val a }).map (·.key) = es.toList.map (·.key) := by
      rw [List.map_set]
      apply List.ext_getElem?
      intro i
      rw [List.getElem?_set]
      by_cases hi : j = i
      · subst hi
        have hk0 : M.enc s0 = es[j].key := by rw [← h7, ← he0]; simp
        simp [hjs, hk0]
      · simp [hi]
    refine ⟨setBlock w b (.map (es.modify j fun x => { x with key := M.enc s0, val := M.val a }) clock), ?_, ⟨_, _, heap_setBlock_same hb _, ?_, ?_, ?_⟩, ⟨rfl, rfl, rfl, by simp [setBlock], fun i _ hi => heap_setBlock_other hb _ hi⟩, by simp [setBlock]⟩
    · simp [Instr.mapUpdate, run_underlying ht, MapKept.run_getObj_map hb, M.keyed.check w false hkey, h5, hj', h7, M.keyed.stays w hkey, MapKept.run_setObj_map _ hb, Result.andThen, setBlock]
    · rw [hml]
      intro x hx
      rcases List.mem_or_eq_of_mem_set hx with hx' | rfl
      · obtain ⟨s', a', e1, e2, ho, hf⟩ := h2 x hx'
        by_cases hne : s' = s0
        · subst hne
          obtain ⟨i, hi, rfl⟩ := List.mem_iff_getElem.1 hx
          have hil : i < es.toList.length := by simpa using hi
          have hkk := congrArg (fun l => l[i]?) hkeys
          simp only [List.getElem?_map] at hkk
          rw [List.getElem?_eq_getElem hi, List.getElem?_eq_getElem hil] at hkk
          have hkk' : (es.toList[i]).key = M.enc s' := by simpa [e1] using hkk.symm
          have hij : i = j := by
            have hn := List.pairwise_iff_getElem.1 h4.2.2
            have lm : (es.toList.map (·.key)).length = es.toList.length := by simp
            rcases Nat.lt_trichotomy i j with hlt | rfl | hlt
            · have := hn i j (by omega) (by omega) hlt
              rw [List.getElem_map, List.getElem_map, hkk', he0, h7] at this
              exact absurd rfl this
            · rfl
            · have := hn j i (by omega) (by omega) hlt
              rw [List.getElem_map, List.getElem_map, hkk', he0, h7] at this
              exact absurd rfl this
          subst hij
          refine ⟨s', a, e1, ?_, ho, updF_same _ _ _⟩
          simp
        · exact ⟨s', a', e1, e2, ho, by rw [updF_other _ _ _ _ hne]; exact hf⟩
      · exact ⟨s0, a, rfl, rfl, hs, updF_same _ _ _⟩
    · rw [hml]
      intro s' a' hf
      by_cases hne : s' = s0
      · subst hne
        exact ⟨_, List.mem_iff_getElem.2 ⟨j, by simpa using hjs, List.getElem_set_self _⟩, rfl⟩
      · rw [updF_other _ _ _ _ hne] at hf
        obtain ⟨x, hx, hxe⟩ := h3 s' a' hf
        obtain ⟨i, hi, rfl⟩ := List.mem_iff_getElem.1 hx
        have hij : j ≠ i := by
          rintro rfl
          rw [he0, h7] at hxe
          exact hne (M.inj _ _ hxe.symm)
        exact ⟨_, List.mem_iff_getElem.2 ⟨i, by simpa using hi, rfl⟩, by rw [List.getElem_set_ne hij]; exact hxe⟩
    · exact stamped_modify h4 j _ (fun e _ => rfl) (fun e _ he => by rw [hj'] at he; cases he; exact h7.symm)

theorem FnAt.drop [DecidableEq κ] {M : MapLaw P k κ α} {w : World} {b : Nat} {f : κ → Option α} (h : FnAt M w b f) (ht : P.underlying t = some (.map k e)) {s : κ} (hs : M.ok s) :
    ∃ w', (∀ ty, (Builtin.delete_ #[t, k] ty #[.map (some b), M.enc s]).run P w = .ok (.tuple #[]) w') ∧ FnAt M w' b (updF f s none) ∧ Out (fun i => i = b) w w' ∧ w'.heap.size = w.heap.size := by
  obtain ⟨es, clock, hb, h2, h3, h4⟩ := h
  obtain ⟨kl, hkey⟩ := M.key s hs
  rcases M.keyed.find w hkey es.toList (FnAt.keys h2) with ⟨h5, h6⟩ | ⟨j, e0, h5, h6, h7⟩
  · refine ⟨setBlock w b (.map es clock), ?_, ⟨_, _, heap_setBlock_same hb _, ?_, ?_, h4⟩, ⟨rfl, rfl, rfl, by simp [setBlock], fun i _ hi => heap_setBlock_other hb _ hi⟩, by simp [setBlock]⟩
    · intro ty
      simp [Builtin.delete_, run_underlying ht, MapKept.run_getObj_map hb, M.keyed.check w _ hkey, h5, MapKept.run_setObj_map _ hb, Result.andThen, setBlock]
    · intro x hx
      obtain ⟨s', a', e1, e2, ho, hf⟩ := h2 x hx
      have hne : s' ≠ s := fun e => h6 x hx (by rw [e1, e])
      exact ⟨s', a', e1, e2, ho, by rw [updF_other _ _ _ _ hne]; exact hf⟩
    · intro s' a' hf
      by_cases hne : s' = s
      · rw [hne, updF_same] at hf; cases hf
      · rw [updF_other _ _ _ _ hne] at hf; exact h3 s' a' hf
  · have hjl : j < es.toList.length := (List.getElem?_eq_some_iff.1 h6).1
    have hjs : j < es.size := by simpa using hjl
    have he0 : es.toList[j] = e0 := (List.getElem?_eq_some_iff.1 h6).2
    have hsub : (es.eraseIdxIfInBounds j).toList = es.toList.eraseIdx j := by
      unfold Array.eraseIdxIfInBounds
      rw [dif_pos hjs]
      simp
    have hn := List.pairwise_iff_getElem.1 h4.2.2
    have lm : (es.toList.map (·.key)).length = es.toList.length := by simp
    have hother : ∀ i (hi : i < es.toList.length), i ≠ j → (es.toList[i]).key ≠ M.enc s := by
      intro i hi hij e
      rcases Nat.lt_or_gt_of_ne hij with hlt | hlt
      · have := hn i j (by omega) (by omega) hlt
        rw [List.getElem_map, List.getElem_map, e, he0, h7] at this
        exact this rfl
      · have := hn j i (by omega) (by omega) hlt
        rw [List.getElem_map, List.getElem_map, e, he0, h7] at this
        exact this rfl
    refine ⟨setBlock w b (.map (es.eraseIdxIfInBounds j) clock), ?_, ⟨_, _, heap_setBlock_same hb _, ?_, ?_, ?_⟩, ⟨rfl, rfl, rfl, by simp [setBlock], fun i _ hi => heap_setBlock_other hb _ hi⟩, by simp [setBlock]⟩
    · intro ty
      simp [Builtin.delete_, run_underlying ht, MapKept.run_getObj_map hb, M.keyed.check w _ hkey, h5, MapKept.run_setObj_map _ hb, Result.andThen, setBlock]
    · rw [hsub]
      intro x hx
      obtain ⟨i, hij, hi⟩ := List.mem_eraseIdx_iff_getElem?.1 hx
      obtain ⟨hil, hie⟩ := List.getElem?_eq_some_iff.1 hi
      obtain ⟨s', a', e1, e2, ho, hf⟩ := h2 x (List.mem_of_getElem? hi)
      have hne : s' ≠ s := fun e => hother i hil hij (by rw [hie, e1, e])
      exact ⟨s', a', e1, e2, ho, by rw [updF_other _ _ _ _ hne]; exact hf⟩
    · rw [hsub]
      intro s' a' hf
      by_cases hne : s' = s
      · rw [hne, updF_same] at hf; cases hf
      · rw [updF_other _ _ _ _ hne] at hf
        obtain ⟨x, hx, hxe⟩ := h3 s' a' hf
        obtain ⟨i, hi, rfl⟩ := List.mem_iff_getElem.1 hx
        have hij : i ≠ j := by
          rintro rfl
          rw [he0, h7] at hxe
          exact hne (M.inj _ _ hxe.symm)
        exact ⟨_, List.mem_eraseIdx_iff_getElem?.2 ⟨i, hij, List.getElem?_eq_getElem hi⟩, hxe⟩
    · exact stamped_erase h4 j

/-- 'delete(m, k)', by an equation of the run. -/
theorem wpList_delete_run {w w' : World} {ops : Array Oper} {rest : List Oper} {o : Oper} {a : Act} {Q : Exit → Act → World → Prop} (hg : o.guard = none) (m x : Operand) (t k : TypeId) (hop : o.op = Op.call { callee := Callee.builtin Builtin.delete, args := #[m, x], argTypes := #[t, k] })
    (mv xv : Value) (hm : a.eval m = mv) (hx : a.eval x = xv) (hrun : ∀ ty, (Builtin.delete_ #[t, k] ty #[mv, xv]).run P w = .ok (.tuple #[]) w') (hK : wpList P ops Q rest (a.put o.dst (.tuple #[])) w') :
    wpList P ops Q (o :: rest) a w := by
  refine wpList_plain hg fun K' hK' => ?_
  unfold Oper.wp
  simp [execOp, hop, resolve, invoke, builtin, hm, hx, hrun, Result.andThen]
  exact hK' _ _ hK

end Go.Proofs.Yteolephlajhghaa
