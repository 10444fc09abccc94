/- MapFn, MapRange, SortShelf, StoreShelf, StoreBase, RowList, PowMath, PowBase, AppendArg, StoreCalls, StorePut, StoreNode, TriLoadMath -/
import Derived.Test.YtjfefphgikncnaaDoorPk03
import Derived.Maps.OwnSet
import Derived.Maps.RangeRun
import Derived.Maps.Range
import Derived.Shelf.Strconv.Itoa0
import Derived.Shelf.LaysM
import Derived.Shelf.Strconv.Clone
import Derived.Shelf.Sort.Plain
import Derived.Shelf.Slices.In.SortNone
import Derived.Test.YtjfefphgikncnaaDoorChecked
import Derived.Shelf.SlIter.Sorted
import Derived.Shelf.SlMaps.Clone
import Derived.Test.YtjfefphgikncnaaDoorPk09
import Derived.Test.YtjfefphgikncnaaDoorPk04
import Derived.Test.YtjfefphgikncnaaDoorPk01
import Derived.Maps.AppendAt
import Derived.WalkSpells
import Derived.WalkLawsBesides
import Derived.Lib.Strings
import Derived.Test.YtjfefphgikncnaaDoorPk02
import Derived.Test.YtjfefphgikncnaaDoorPk07
import Derived.Deep.Slices
import Derived.DataReads
import Derived.OpenShut
import Derived.SizedLaws
import Derived.Lib.LaidU8
import Derived.Lib.SliceRun
import Derived.Deep.RegionHeld3
namespace Go.Proofs.YtjfefphgikncnaaDoor
open Go.RowKit Go.MapKept
open Go.ChangeMaps (setBlock heap_setBlock_same heap_setBlock_other)
open Go.Maps (Keyed)

/-- How keys and elements lie in the map: the key's value and its law, the element's value. -/
structure MapLaw (P : Program) (k : TypeId) (κ α : Type) where
  enc : κ → Value
  val : α → Value
  ok : κ → Prop
  keyed : Keyed P k
  key : ∀ s, ok s → ∃ l, keyOf P k (enc s) = some l
  inj : ∀ a b, enc a = enc b → a = b

variable {P : Program} {k t e : TypeId} {κ α : Type}

/-- f, but o at s. -/
def updF [DecidableEq κ] (f : κ → Option α) (s : κ) (o : Option α) : κ → Option α := fun x => if x = s then o else f x
theorem updF_same [DecidableEq κ] (f : κ → Option α) (s : κ) (o : Option α) : updF f s o s = o := if_pos rfl
theorem updF_other [DecidableEq κ] (f : κ → Option α) (s x : κ) (o : Option α) (h : x ≠ s) : updF f s o x = f x := if_neg h
/-- Block b is a map that has f's elements at f's keys, and no other. -/
def FnAt (M : MapLaw P k κ α) (w : World) (b : Nat) (f : κ → Option α) : Prop :=
  ∃ es clock, w.heap[b]? = some (.map es clock) ∧ (∀ x ∈ es.toList, ∃ s a, x.key = M.enc s ∧ x.val = M.val a ∧ M.ok s ∧ f s = some a) ∧ (∀ s a, f s = some a → ∃ x ∈ es.toList, x.key = M.enc s) ∧ Stamped es clock

theorem FnAt.lt {M : MapLaw P k κ α} {w : World} {b : Nat} {f : κ → Option α} (h : FnAt M w b f) : b < w.heap.size := by
  obtain ⟨_, _, h1, _⟩ := h; exact lt_of_heap h1
theorem FnAt.made (M : MapLaw P k κ α) (w : World) (b : Nat) (h : b = w.heap.size) : FnAt M (w.alloc (.map #[] 0)) b (fun _ => none) :=
  ⟨#[], 0, heap_new_at w _ _ h, fun x hx => by simp at hx, fun s a h => by simp at h, stamped_empty 0⟩
theorem FnAt.out {M : MapLaw P k κ α} {F : Nat → Prop} {w w' : World} {b : Nat} {f : κ → Option α} (h : FnAt M w b f) (ho : Out F w w') (hF : ¬ F b) : FnAt M w' b f := by
  obtain ⟨es, clock, h1, h2⟩ := h
  exact ⟨es, clock, ho.heap h1 hF, h2⟩
theorem FnAt.below {M : MapLaw P k κ α} {w w' : World} {b : Nat} {f : κ → Option α} (h : FnAt M w b f) (ho : Below w.heap.size w w') : FnAt M w' b f := h.out (F := fun _ => False) (Out.of ho) id
theorem FnAt.drew {M : MapLaw P k κ α} {w : World} {b : Nat} {f : κ → Option α} (h : FnAt M w b f) : FnAt M w.drew b f := h
theorem FnAt.congr {M : MapLaw P k κ α} {w : World} {b : Nat} {f g : κ → Option α} (h : FnAt M w b f) (e : ∀ s, f s = g s) : FnAt M w b g := by
  obtain rfl : f = g := funext e
  exact h

theorem FnAt.keys {M : MapLaw P k κ α} {es : Array MapEntry} {f : κ → Option α} (h2 : ∀ x ∈ es.toList, ∃ s a, x.key = M.enc s ∧ x.val = M.val a ∧ M.ok s ∧ f s = some a) : ∀ x ∈ es.toList, ∃ l, keyOf P k x.key = some l := by
  intro x hx
  obtain ⟨s, a, e1, _, ho, _⟩ := h2 x hx
  rw [e1]; exact M.key s ho

theorem FnAt.look {M : MapLaw P k κ α} {w : World} {b : Nat} {f : κ → Option α} (h : FnAt M w b f) (ht : P.underlying t = some (.map k e)) {s : κ} (hs : M.ok s) (c : Bool) {z : Value} (hz : (zeroValue e).run P w = .ok z w) :
    (Instr.lookup t (.map (some b)) (M.enc s) c).run P w = .ok (if c then .tuple #[((f s).map M.val).getD z, .bool (f s).isSome] else ((f s).map M.val).getD z) w := by
  obtain ⟨es, clock, hb, h2, h3, h4⟩ := h
  obtain ⟨kl, hkey⟩ := M.key s hs
  rcases M.keyed.find w hkey es.toList (FnAt.keys h2) with ⟨h5, h6⟩ | ⟨j, e0, h5, h6, h7⟩
  · have hn : f s = none := by
      cases hf : f s with
      | none => rfl
      | some a =>
        obtain ⟨x, hx, hxe⟩ := h3 s a hf
        exact absurd hxe (h6 x hx)
    rw [hn]
    simp [Instr.lookup, run_underlying ht, MapKept.run_getObj_map hb, M.keyed.check w _ hkey, h5, hz, Result.andThen]
  · obtain ⟨s', a, e1, e2, ho, hf⟩ := h2 e0 (List.mem_of_getElem? h6)
    obtain rfl : s' = s := M.inj _ _ (e1.symm.trans h7)
    rw [hf]
    simp [Instr.lookup, run_underlying ht, MapKept.run_getObj_map hb, M.keyed.check w _ hkey, h5, e2, Result.andThen]

theorem FnAt.put [DecidableEq κ] {M : MapLaw P k κ α} {w : World} {b : Nat} {f : κ → Option α} (h : FnAt M w b f) (ht : P.underlying t = some (.map k e)) {s : κ} (hs : M.ok s) (a : α) :
    ∃ w', (Instr.mapUpdate t (.map (some b)) (M.enc s) (M.val a)).run P w = .ok () w' ∧ FnAt M w' b (updF f s (some a)) ∧ Out (fun i => i = b) w w' ∧ w'.heap.size = w.heap.size := by
  obtain ⟨es, clock, hb, h2, h3, h4⟩ := h
  obtain ⟨kl, hkey⟩ := M.key s hs
  rcases M.keyed.find w hkey es.toList (FnAt.keys h2) with ⟨h5, h6⟩ | ⟨j, e0, h5, h6, h7⟩
  · refine ⟨setBlock w b (.map (es.push ⟨M.enc s, M.val a, clock⟩) (clock + 1)), ?_, ⟨_, _, heap_setBlock_same hb _, ?_, ?_, ?_⟩, ⟨rfl, rfl, rfl, by simp [setBlock], fun i _ hi => heap_setBlock_other hb _ hi⟩, by simp [setBlock]⟩
    · simp [Instr.mapUpdate, run_underlying ht, MapKept.run_getObj_map hb, M.keyed.check w false hkey, h5, MapKept.run_setObj_map _ hb, Result.andThen, setBlock]
    · intro x hx
      simp only [Array.toList_push, List.mem_append, List.mem_singleton] at hx
      rcases hx with hx | rfl
      · obtain ⟨s', a', e1, e2, ho, hf⟩ := h2 x hx
        have hne : s' ≠ s := fun e => h6 x hx (by rw [e1, e])
        exact ⟨s', a', e1, e2, ho, by rw [updF_other _ _ _ _ hne]; exact hf⟩
      · exact ⟨s, a, rfl, rfl, hs, updF_same _ _ _⟩
    · intro s' a' hf
      simp only [Array.toList_push, List.mem_append, List.mem_singleton]
      by_cases hne : s' = s
      · exact ⟨_, Or.inr rfl, by rw [hne]⟩
      · rw [updF_other _ _ _ _ hne] at hf
        obtain ⟨x, hx, hxe⟩ := h3 s' a' hf
        exact ⟨x, Or.inl hx, hxe⟩
    · exact stamped_push h4 h6
  · have hjl : j < es.toList.length := (List.getElem?_eq_some_iff.1 h6).1
    have hjs : j < es.size := by simpa using hjl
    have he0 : es.toList[j] = e0 := (List.getElem?_eq_some_iff.1 h6).2
    have hj' : es[j]? = some e0 := by rw [← Array.getElem?_toList]; exact h6
    have hml : (es.modify j fun x => { x with key := M.enc s, val := M.val a }).toList = es.toList.set j { e0 with key := M.enc s, val := M.val a } := by
      apply List.ext_getElem?
      intro i
      rw [Array.getElem?_toList, Array.getElem?_modify, List.getElem?_set]
      by_cases hi : j = i
      · subst hi
        have hb0 : es[j].born = e0.born := by rw [← he0]; simp
        simp [hjs, hb0]
      · simp [hi]
    obtain ⟨s0, a0, q1, q2, q3, q4⟩ := h2 e0 (List.mem_of_getElem? h6)
    obtain rfl : s0 = s := M.inj _ _ (q1.symm.trans h7)
    have hkeys : (es.toList.set j { e0 with key := M.enc s0, val := M.val a }).map (·.key) = es.toList.map (·.key) := by
      rw [List.map_set]
      apply List.ext_getElem?
      intro i
      rw [List.getElem?_set]
      by_cases hi : j = i
      · subst hi
        have hk0 : M.enc s0 = es[j].key := by rw [← h7, ← he0]; simp
        simp [hjs, hk0]
      · simp [hi]
    refine ⟨setBlock w b (.map (es.modify j fun x => { x with key := M.enc s0, val := M.val a }) clock), ?_, ⟨_, _, heap_setBlock_same hb _, ?_, ?_, ?_⟩, ⟨rfl, rfl, rfl, by simp [setBlock], fun i _ hi => heap_setBlock_other hb _ hi⟩, by simp [setBlock]⟩
    · simp [Instr.mapUpdate, run_underlying ht, MapKept.run_getObj_map hb, M.keyed.check w false hkey, h5, hj', h7, M.keyed.stays w hkey, MapKept.run_setObj_map _ hb, Result.andThen, setBlock]
    · rw [hml]
      intro x hx
      rcases List.mem_or_eq_of_mem_set hx with hx' | rfl
      · obtain ⟨s', a', e1, e2, ho, hf⟩ := h2 x hx'
        by_cases hne : s' = s0
        · subst hne
          obtain ⟨i, hi, rfl⟩ := List.mem_iff_getElem.1 hx
          have hil : i < es.toList.length := by simpa using hi
          have hkk := congrArg (fun l => l[i]?) hkeys
          simp only [List.getElem?_map] at hkk
          rw [List.getElem?_eq_getElem hi, List.getElem?_eq_getElem hil] at hkk
          have hkk' : (es.toList[i]).key = M.enc s' := by simpa [e1] using hkk.symm
          have hij : i = j := by
            have hn := List.pairwise_iff_getElem.1 h4.2.2
            have lm : (es.toList.map (·.key)).length = es.toList.length := by simp
            rcases Nat.lt_trichotomy i j with hlt | rfl | hlt
            · have := hn i j (by omega) (by omega) hlt
              rw [List.getElem_map, List.getElem_map, hkk', he0, h7] at this
              exact absurd rfl this
            · rfl
            · have := hn j i (by omega) (by omega) hlt
              rw [List.getElem_map, List.getElem_map, hkk', he0, h7] at this
              exact absurd rfl this
          subst hij
          refine ⟨s', a, e1, ?_, ho, updF_same _ _ _⟩
          simp
        · exact ⟨s', a', e1, e2, ho, by rw [updF_other _ _ _ _ hne]; exact hf⟩
      · exact ⟨s0, a, rfl, rfl, hs, updF_same _ _ _⟩
    · rw [hml]
      intro s' a' hf
      by_cases hne : s' = s0
      · subst hne
        exact ⟨_, List.mem_iff_getElem.2 ⟨j, by simpa using hjs, List.getElem_set_self _⟩, rfl⟩
      · rw [updF_other _ _ _ _ hne] at hf
        obtain ⟨x, hx, hxe⟩ := h3 s' a' hf
        obtain ⟨i, hi, rfl⟩ := List.mem_iff_getElem.1 hx
        have hij : j ≠ i := by
          rintro rfl
          rw [he0, h7] at hxe
          exact hne (M.inj _ _ hxe.symm)
        exact ⟨_, List.mem_iff_getElem.2 ⟨i, by simpa using hi, rfl⟩, by rw [List.getElem_set_ne hij]; exact hxe⟩
    · exact stamped_modify h4 j _ (fun e _ => rfl) (fun e _ he => by rw [hj'] at he; cases he; exact h7.symm)

theorem FnAt.drop [DecidableEq κ] {M : MapLaw P k κ α} {w : World} {b : Nat} {f : κ → Option α} (h : FnAt M w b f) (ht : P.underlying t = some (.map k e)) {s : κ} (hs : M.ok s) :
    ∃ w', (∀ ty, (Builtin.delete_ #[t, k] ty #[.map (some b), M.enc s]).run P w = .ok (.tuple #[]) w') ∧ FnAt M w' b (updF f s none) ∧ Out (fun i => i = b) w w' ∧ w'.heap.size = w.heap.size := by
  obtain ⟨es, clock, hb, h2, h3, h4⟩ := h
  obtain ⟨kl, hkey⟩ := M.key s hs
  rcases M.keyed.find w hkey es.toList (FnAt.keys h2) with ⟨h5, h6⟩ | ⟨j, e0, h5, h6, h7⟩
  · refine ⟨setBlock w b (.map es clock), ?_, ⟨_, _, heap_setBlock_same hb _, ?_, ?_, h4⟩, ⟨rfl, rfl, rfl, by simp [setBlock], fun i _ hi => heap_setBlock_other hb _ hi⟩, by simp [setBlock]⟩
    · intro ty
      simp [Builtin.delete_, run_underlying ht, MapKept.run_getObj_map hb, M.keyed.check w _ hkey, h5, MapKept.run_setObj_map _ hb, Result.andThen, setBlock]
    · intro x hx
      obtain ⟨s', a', e1, e2, ho, hf⟩ := h2 x hx
      have hne : s' ≠ s := fun e => h6 x hx (by rw [e1, e])
      exact ⟨s', a', e1, e2, ho, by rw [updF_other _ _ _ _ hne]; exact hf⟩
    · intro s' a' hf
      by_cases hne : s' = s
      · rw [hne, updF_same] at hf; cases hf
      · rw [updF_other _ _ _ _ hne] at hf; exact h3 s' a' hf
  · have hjl : j < es.toList.length := (List.getElem?_eq_some_iff.1 h6).1
    have hjs : j < es.size := by simpa using hjl
    have he0 : es.toList[j] = e0 := (List.getElem?_eq_some_iff.1 h6).2
    have hsub : (es.eraseIdxIfInBounds j).toList = es.toList.eraseIdx j := by
      unfold Array.eraseIdxIfInBounds
      rw [dif_pos hjs]
      simp
    have hn := List.pairwise_iff_getElem.1 h4.2.2
    have lm : (es.toList.map (·.key)).length = es.toList.length := by simp
    have hother : ∀ i (hi : i < es.toList.length), i ≠ j → (es.toList[i]).key ≠ M.enc s := by
      intro i hi hij e
      rcases Nat.lt_or_gt_of_ne hij with hlt | hlt
      · have := hn i j (by omega) (by omega) hlt
        rw [List.getElem_map, List.getElem_map, e, he0, h7] at this
        exact this rfl
      · have := hn j i (by omega) (by omega) hlt
        rw [List.getElem_map, List.getElem_map, e, he0, h7] at this
        exact this rfl
    refine ⟨setBlock w b (.map (es.eraseIdxIfInBounds j) clock), ?_, ⟨_, _, heap_setBlock_same hb _, ?_, ?_, ?_⟩, ⟨rfl, rfl, rfl, by simp [setBlock], fun i _ hi => heap_setBlock_other hb _ hi⟩, by simp [setBlock]⟩
    · intro ty
      simp [Builtin.delete_, run_underlying ht, MapKept.run_getObj_map hb, M.keyed.check w _ hkey, h5, MapKept.run_setObj_map _ hb, Result.andThen, setBlock]
    · rw [hsub]
      intro x hx
      obtain ⟨i, hij, hi⟩ := List.mem_eraseIdx_iff_getElem?.1 hx
      obtain ⟨hil, hie⟩ := List.getElem?_eq_some_iff.1 hi
      obtain ⟨s', a', e1, e2, ho, hf⟩ := h2 x (List.mem_of_getElem? hi)
      have hne : s' ≠ s := fun e => hother i hil hij (by rw [hie, e1, e])
      exact ⟨s', a', e1, e2, ho, by rw [updF_other _ _ _ _ hne]; exact hf⟩
    · rw [hsub]
      intro s' a' hf
      by_cases hne : s' = s
      · rw [hne, updF_same] at hf; cases hf
      · rw [updF_other _ _ _ _ hne] at hf
        obtain ⟨x, hx, hxe⟩ := h3 s' a' hf
        obtain ⟨i, hi, rfl⟩ := List.mem_iff_getElem.1 hx
        have hij : i ≠ j := by
          rintro rfl
          rw [he0, h7] at hxe
          exact hne (M.inj _ _ hxe.symm)
        exact ⟨_, List.mem_eraseIdx_iff_getElem?.2 ⟨i, hij, List.getElem?_eq_getElem hi⟩, hxe⟩
    · exact stamped_erase h4 j

end Go.Proofs.YtjfefphgikncnaaDoor
namespace Go.Proofs.YtjfefphgikncnaaDoor
open Go.RowKit Go.MapKept
open Go.ChangeMaps (setBlock heap_setBlock_same heap_setBlock_other)
open Go.Maps (Keyed)
variable {P : Program} {k t e : TypeId} {κ α : Type}

/-- The map in block b is ranged over by the iterator in block r; the keys in 'done' have come; cnt are still to come. -/
def FnRange (M : MapLaw P k κ α) (w : World) (b r : Nat) (f : κ → Option α) (done : List κ) (cnt : Nat) : Prop :=
  ∃ es clock since seen c0, w.heap[b]? = some (.map es clock) ∧ (∀ x ∈ es.toList, ∃ s a, x.key = M.enc s ∧ x.val = M.val a ∧ M.ok s ∧ f s = some a) ∧ (∀ s a, f s = some a → ∃ x ∈ es.toList, x.key = M.enc s) ∧ Stamped es clock ∧
    w.heap[r]? = some (.mapIter (some b) since seen c0) ∧ (∀ x ∈ es.toList, x.born < since) ∧ since ≤ c0 ∧ since ≤ clock ∧ (leftOf es seen).size = cnt ∧ done.Nodup ∧ (∀ x ∈ es.toList, seen.contains x.born = true ↔ ∃ s ∈ done, x.key = M.enc s) ∧ ∀ s ∈ done, f s ≠ none

theorem FnRange.map {M : MapLaw P k κ α} {w : World} {b r : Nat} {f : κ → Option α} {done : List κ} {cnt : Nat} (h : FnRange M w b r f done cnt) : FnAt M w b f := by
  obtain ⟨es, clock, _, _, _, hb, h2, h3, h4, _⟩ := h
  exact ⟨es, clock, hb, h2, h3, h4⟩
theorem FnRange.lt {M : MapLaw P k κ α} {w : World} {b r : Nat} {f : κ → Option α} {done : List κ} {cnt : Nat} (h : FnRange M w b r f done cnt) : r < w.heap.size := by
  obtain ⟨es, clock, since, seen, c0, hb, _, _, _, hr, _⟩ := h
  exact lt_of_heap hr
theorem FnRange.ne {M : MapLaw P k κ α} {w : World} {b r : Nat} {f : κ → Option α} {done : List κ} {cnt : Nat} (h : FnRange M w b r f done cnt) : r ≠ b := by
  obtain ⟨es, clock, since, seen, c0, hb, _, _, _, hr, _⟩ := h
  rintro rfl
  rw [hb] at hr; cases hr
theorem FnRange.out {M : MapLaw P k κ α} {F : Nat → Prop} {w w' : World} {b r : Nat} {f : κ → Option α} {done : List κ} {cnt : Nat} (h : FnRange M w b r f done cnt) (ho : Out F w w') (hb : ¬ F b) (hr : ¬ F r) : FnRange M w' b r f done cnt := by
  obtain ⟨es, clock, since, seen, c0, h1, h2, h3, h4, h5, h6⟩ := h
  exact ⟨es, clock, since, seen, c0, ho.heap h1 hb, h2, h3, h4, ho.heap h5 hr, h6⟩
theorem FnRange.below {M : MapLaw P k κ α} {w w' : World} {b r : Nat} {f : κ → Option α} {done : List κ} {cnt : Nat} (h : FnRange M w b r f done cnt) (ho : Below w.heap.size w w') : FnRange M w' b r f done cnt := h.out (F := fun _ => False) (Out.of ho) id id

theorem FnAt.range {M : MapLaw P k κ α} {w : World} {b : Nat} {f : κ → Option α} (h : FnAt M w b f) (ht : P.underlying t = some (.map k e)) :
    ∃ w' cnt, (Instr.range t (.map (some b))).run P w = .ok (.pointer (some ⟨w.heap.size, 0, none⟩)) w' ∧ FnRange M w' b w.heap.size f [] cnt ∧ Below w.heap.size w w' ∧ w'.heap.size = w.heap.size + 1 := by
  obtain ⟨es, clock, hb, h2, h3, h4⟩ := h
  refine ⟨_, _, run_range_map w t k e b es clock ht hb, ⟨es, clock, clock, #[], clock, heap_old_at _ hb, h2, h3, h4, heap_new_at w _ _ rfl, h4.1, Nat.le_refl _, Nat.le_refl _, rfl, List.nodup_nil, fun x _ => by simp, fun s hs => by cases hs⟩, (Below.refl _ w).alloc (Nat.le_refl _) _, by simp⟩

theorem FnRange.next {M : MapLaw P k κ α} {w : World} {b r : Nat} {f : κ → Option α} {done : List κ} {cnt : Nat} (h : FnRange M w b r f done cnt) (ty : TypeId) :
    ((∀ s, f s ≠ none → s ∈ done) ∧ (Instr.next (.pointer (some ⟨r, 0, none⟩)) false ty).run P w = .ok (.tuple #[.bool false]) w) ∨
    ∃ s a w' cnt', f s = some a ∧ M.ok s ∧ s ∉ done ∧ (Instr.next (.pointer (some ⟨r, 0, none⟩)) false ty).run P w = .ok (.tuple #[.bool true, M.enc s, M.val a]) w' ∧ FnRange M w' b r f (done ++ [s]) cnt' ∧ cnt' < cnt ∧
      Out (fun i => i = r) w w' ∧ w'.heap.size = w.heap.size ∧ (Instr.entry (.pointer (some ⟨r, 0, none⟩))).run P w' = .ok (.tuple #[M.enc s, M.val a]) w' := by
  have hne := h.ne
  obtain ⟨es, clock, since, seen, c0, hb, h2, h3, h4, hr, hold, hsc, hsk, rfl, hnd, hseen, hdone⟩ := h
  rcases run_next_at (P := P) w ty r b since c0 seen es clock hr hb hold hsc with ⟨h0, hrun⟩ | ⟨x, hx, w1, hal, hrun⟩
  · refine Or.inl ⟨fun s hs => ?_, hrun⟩
    cases hf : f s with
    | none => exact absurd hf hs
    | some a =>
      obtain ⟨x, hx, hxe⟩ := h3 s a hf
      obtain ⟨s', hs', e⟩ := (hseen x hx).1 (all_seen es seen h0 x hx)
      rw [M.inj _ _ (hxe.symm.trans e)]; exact hs'
  · obtain ⟨hxm, hxs⟩ := mem_left hx
    obtain ⟨s, a, e1, e2, hok, hf⟩ := h2 x hxm
    have hr1 : w1.heap[r]? = some (.mapIter (some b) since seen c0) := by rcases hal with rfl | rfl <;> exact hr
    have hb1 : w1.heap[b]? = some (.map es clock) := by rcases hal with rfl | rfl <;> exact hb
    have hset := heap_set (o' := .mapIter (some b) since (seen.push x.born) clock) hr1
    have hb' : (setBlock w1 r (.mapIter (some b) since (seen.push x.born) clock)).heap[b]? = some (.map es clock) := (hset.2 b (fun e1 => hne e1.symm)).trans hb1
    have hnot : s ∉ done := fun hs => by
      have := (hseen x hxm).2 ⟨s, hs, e1⟩
      rw [hxs] at this; cases this
    rw [e1, e2] at hrun
    have hent := run_entry_at (P := P) (setBlock w1 r (.mapIter (some b) since (seen.push x.born) clock)) r b since seen es clock x hset.1 hb' hxm h4.2.1
    rw [e1, e2] at hent
    refine Or.inr ⟨s, a, _, _, hf, hok, hnot, hrun, ⟨es, clock, since, seen.push x.born, clock, hb', h2, h3, h4, hset.1, hold, hsk, hsk, rfl, ?_, ?_, ?_⟩, left_shrinks es seen x hx, ?_, ?_, hent⟩
    · rw [List.nodup_append]
      exact ⟨hnd, by simp, fun y hy z hz e => hnot (by simp at hz; rw [← hz, ← e]; exact hy)⟩
    · intro y hy
      rw [contains_push]
      constructor
      · intro hc
        simp only [Bool.or_eq_true, beq_iff_eq] at hc
        rcases hc with hc | hc
        · obtain ⟨s', hs', e⟩ := (hseen y hy).1 hc
          exact ⟨s', List.mem_append_left _ hs', e⟩
        · obtain rfl := born_inj h4.2.1 hy hxm hc
          exact ⟨s, by simp, e1⟩
      · rintro ⟨s', hs', e⟩
        simp only [Bool.or_eq_true, beq_iff_eq]
        rcases List.mem_append.1 hs' with hs' | hs'
        · exact Or.inl ((hseen y hy).2 ⟨s', hs', e⟩)
        · obtain rfl : s' = s := by simpa using hs'
          refine Or.inr ?_
          obtain rfl := entry_eq_of_key ((stamped_iff es clock).1 h4).2.2 hy hxm (e.trans e1.symm)
          rfl
    · intro s' hs'
      rcases List.mem_append.1 hs' with hs' | hs'
      · exact hdone s' hs'
      · obtain rfl : s' = s := by simpa using hs'
        rw [hf]; simp
    · rcases hal with rfl | rfl <;> exact ⟨rfl, rfl, rfl, by simp [setBlock], fun i _ hi => hset.2 i hi⟩
    · rcases hal with rfl | rfl <;> simp [setBlock]

/-- The keys, in some order: as many as the map is long. -/
theorem FnAt.len {M : MapLaw P k κ α} {w : World} {b : Nat} {f : κ → Option α} (h : FnAt M w b f) (ht : P.underlying t = some (.map k e)) :
    ∃ ks : List κ, ks.Nodup ∧ (∀ s, s ∈ ks ↔ f s ≠ none) ∧ ∀ ty, (Builtin.len_ #[t] ty #[.map (some b)]).run P w = .ok (.int .i64 (ks.length : Nat)) w := by
  obtain ⟨es, clock, hb, h2, h3, h4⟩ := h
  have hex : ∀ l : List MapEntry, (∀ x ∈ l, ∃ s a, x.key = M.enc s ∧ x.val = M.val a ∧ M.ok s ∧ f s = some a) → ∃ ks : List κ, l.map (·.key) = ks.map M.enc ∧ ∀ s ∈ ks, f s ≠ none := by
    intro l
    induction l with
    | nil => exact fun _ => ⟨[], rfl, fun s hs => by cases hs⟩
    | cons x r ih =>
      intro hl
      obtain ⟨ks, e1, e2⟩ := ih fun y hy => hl y (List.mem_cons_of_mem _ hy)
      obtain ⟨s, a, q1, _, _, q2⟩ := hl x (List.mem_cons_self ..)
      refine ⟨s :: ks, by simp [e1, q1], fun s' hs' => ?_⟩
      rcases List.mem_cons.1 hs' with rfl | hs'
      · rw [q2]; simp
      · exact e2 s' hs'
  obtain ⟨ks, e1, e2⟩ := hex es.toList h2
  have hlen : ks.length = es.size := by
    have := congrArg List.length e1
    simpa using this.symm
  refine ⟨ks, ?_, fun s => ⟨e2 s, fun hs => ?_⟩, fun ty => ?_⟩
  · have h5 := h4.2.2
    rw [e1] at h5
    exact List.Pairwise.imp (fun {a b} hab => fun (e : a = b) => hab (by rw [e])) (List.pairwise_map.1 h5)
  · cases hf : f s with
    | none => exact absurd hf hs
    | some a =>
      obtain ⟨x, hx, hxe⟩ := h3 s a hf
      have : x.key ∈ ks.map M.enc := e1 ▸ List.mem_map.2 ⟨x, hx, rfl⟩
      obtain ⟨s', hs', e⟩ := List.mem_map.1 this
      rw [M.inj _ _ (hxe.symm.trans e.symm)]; exact hs'
  · rw [hlen]
    simp [Builtin.len_, run_underlying ht, MapKept.run_getObj_map hb, goInt, Result.andThen]

/-- What a copy has. -/
theorem FnAt.copy {M : MapLaw P k κ α} {w : World} {b : Nat} {f : κ → Option α} (h : FnAt M w b f) : ∃ es clock, w.heap[b]? = some (.map es clock) ∧ FnAt M (w.alloc (.map es clock)) w.heap.size f := by
  obtain ⟨es, clock, hb, h2, h3, h4⟩ := h
  exact ⟨es, clock, hb, es, clock, heap_new_at w _ _ rfl, h2, h3, h4⟩

end Go.Proofs.YtjfefphgikncnaaDoor
namespace Go.Proofs.YtjfefphgikncnaaDoor
open Go.Shelf Go.RowKit
end Go.Proofs.YtjfefphgikncnaaDoor
namespace Go.Proofs.YtjfefphgikncnaaDoor
open Go.Shelf Go.RowKit Go.Maps Go.Sort
open Go.Proofs (encStr)
end Go.Proofs.YtjfefphgikncnaaDoor
namespace Go.Proofs.YtjfefphgikncnaaDoor
open Go.RowKit Go.Maps Go.WideShapes
open Go.WideElems (Fit rd rg rd_mk rg_of)
open Go.Proofs.YtjfefphgikncnaaDoor.Sto (St)
open Go.Proofs (encStr)

end Go.Proofs.YtjfefphgikncnaaDoor
namespace Go.Proofs.YtjfefphgikncnaaDoor
open Go.RowKit

theorem wpList_append_run {P : Program} {w w' : World} {ops : Array Oper} {rest : List Oper} {o : Oper} {a : Act} {Q : Exit → Act → World → Prop} (hg : o.guard = none) (s x : Operand) (t : TypeId) (hop : o.op = Op.call { callee := Callee.builtin Builtin.append, args := #[s, x], argTypes := #[t, t] })
    (sv xv r : Value) (hs : a.eval s = sv) (hx : a.eval x = xv) (hrun : (Builtin.append_ #[t, t] o.type #[sv, xv]).run P w = .ok r w') (hK : wpList P ops Q rest (a.put o.dst r) w') :
    wpList P ops Q (o :: rest) a w := by
  refine wpList_plain hg fun K' hK' => ?_
  unfold Oper.wp
  simp [execOp, hop, resolve, invoke, builtin, hs, hx, hrun, Result.andThen]
  exact hK' _ _ hK

def rowsL {α : Type} (f : α → List Value) (L : List α) : List Value := L.flatMap f
theorem rowsL_length {α : Type} {f : α → List Value} {c : Nat} (hf : ∀ a, (f a).length = c) (L : List α) : (rowsL f L).length = L.length * c := by
  induction L with
  | nil => simp [rowsL]
  | cons a L ih =>
    have e : rowsL f (a :: L) = f a ++ rowsL f L := by simp [rowsL]
    rw [e, List.length_append, ih, hf, List.length_cons, Nat.succ_mul, Nat.add_comm]
theorem rowsL_append {α : Type} (f : α → List Value) (S T : List α) : rowsL f (S ++ T) = rowsL f S ++ rowsL f T := by simp [rowsL]
theorem rowsL_at {α : Type} {f : α → List Value} {c : Nat} (hf : ∀ a, (f a).length = c) (S : List α) (i j : Nat) (hi : i < S.length) (hj : j < c) : (rowsL f S)[i * c + j]? = (f S[i])[j]? := by
  induction S generalizing i with
  | nil => simp at hi
  | cons a L ih =>
    have e : rowsL f (a :: L) = f a ++ rowsL f L := by simp [rowsL]
    rw [e]
    cases i with
    | zero =>
      rw [List.getElem?_append_left (by rw [hf]; omega)]
      simp
    | succ i =>
      rw [List.getElem?_append_right (by rw [hf, Nat.succ_mul]; omega)]
      have : (i + 1) * c + j - (f a).length = i * c + j := by rw [hf, Nat.succ_mul]; omega
      rw [this, ih i (by simpa using hi)]
      simp
theorem rowsL_one {α : Type} {f : α → List Value} (h : ∀ a, ∀ u ∈ f a, u.oneCell' = true) (S : List α) : ∀ u ∈ rowsL f S, u.oneCell' = true := by
  intro u hu
  obtain ⟨n, _, hn⟩ := List.mem_flatMap.1 hu
  exact h n u hn
/-- A slice that has the things S. -/
def RowsAt {α : Type} (ty : TypeId) (c : Nat) (f : α → List Value) (w : World) (v : Value) (S : List α) : Prop :=
  ∃ (A : Option Addr) (cap : Nat), v = .slice A S.length cap ∧ S.length ≤ cap ∧ (S = [] → A = none ∧ cap = 0 ∨ ∃ b o, A = some ⟨b, o, none⟩) ∧ (0 < S.length → ∃ b o, A = some ⟨b, o, none⟩ ∧ (∃ cs fl, w.heap[b]? = some (.cells cs ty fl)) ∧ ∀ i (h : i < S.length) j u, (f S[i])[j]? = some u → w.cell? ⟨b, o + i * c + j, none⟩ = some u)
theorem RowsAt.nil {α : Type} (ty : TypeId) (c : Nat) (f : α → List Value) (w : World) : RowsAt ty c f w (.slice none 0 0) [] := ⟨none, 0, rfl, Nat.le_refl _, fun _ => Or.inl ⟨rfl, rfl⟩, fun h => absurd h (by simp)⟩
theorem RowsAt.form {α : Type} {ty : TypeId} {c : Nat} {f : α → List Value} {w : World} {v : Value} {S : List α} (h : RowsAt ty c f w v S) : ∃ A cap, v = .slice A S.length cap ∧ S.length ≤ cap ∧ ((S = [] ∧ A = none ∧ cap = 0) ∨ ∃ b o, A = some ⟨b, o, none⟩) := by
  obtain ⟨A, cap, rfl, hc, h0, h1⟩ := h
  refine ⟨A, cap, rfl, hc, ?_⟩
  by_cases hs : S = []
  · exact (h0 hs).imp (fun h => ⟨hs, h⟩) id
  · obtain ⟨b, o, rfl, _⟩ := h1 (List.length_pos_iff.2 hs)
    exact Or.inr ⟨b, o, rfl⟩
theorem RowsAt.outF {α : Type} {ty : TypeId} {c : Nat} {f : α → List Value} {F : Nat → Prop} {w w' : World} {v : Value} {S : List α} (h : RowsAt ty c f w v S) (ho : Out F w w') (hF : ∀ k cs fl, F k → w.heap[k]? ≠ some (.cells cs ty fl)) : RowsAt ty c f w' v S := by
  obtain ⟨A, cap, rfl, hc, h0, h1⟩ := h
  refine ⟨A, cap, rfl, hc, h0, fun hp => ?_⟩
  obtain ⟨b, o, rfl, ⟨cs, fl, hh⟩, hcell⟩ := h1 hp
  have hb : ¬ F b := fun hf => hF b cs fl hf hh
  exact ⟨b, o, rfl, ⟨cs, fl, ho.heap hh hb⟩, fun i hi j u hu => ho.cell (hcell i hi j u hu) hb⟩
theorem RowsAt.below {α : Type} {ty : TypeId} {c : Nat} {f : α → List Value} {w w' : World} {v : Value} {S : List α} (h : RowsAt ty c f w v S) (hb : Below w.heap.size w w') : RowsAt ty c f w' v S := h.outF (F := fun _ => False) (Out.of hb) fun _ _ _ hf => hf.elim
theorem RowsAt.at {α : Type} {ty : TypeId} {c : Nat} {f : α → List Value} {w : World} {A : Option Addr} {n cap : Nat} {S : List α} (h : RowsAt ty c f w (.slice A n cap) S) (k : Nat) (hk : k < S.length) :
    ∃ b o, A = some ⟨b, o, none⟩ ∧ ∀ j u, (f S[k])[j]? = some u → w.cell? ⟨b, o + k * c + j, none⟩ = some u := by
  obtain ⟨A', cap', hv, _, _, h1⟩ := h
  obtain ⟨rfl, _⟩ : A = A' ∧ _ := by simpa using hv
  obtain ⟨b, o, rfl, _, hcell⟩ := h1 (by omega)
  exact ⟨b, o, rfl, hcell k hk⟩
theorem RowsAt.own {α : Type} {ty : TypeId} {c : Nat} {f : α → List Value} (hf : ∀ a, (f a).length = c) {w : World} {B : Nat} {v : Value} {S : List α} (h : w.ownsRow B ty c v S.length (rowsL f S)) : RowsAt ty c f w v S := by
  rcases h.2 with ⟨rfl, h0⟩ | ⟨g, cap, cur, rfl, hB, hh, hn, _⟩
  · obtain rfl : S = [] := List.eq_nil_of_length_eq_zero h0
    exact RowsAt.nil ty c f w
  · refine ⟨_, cap, rfl, hn, fun _ => Or.inr ⟨_, _, rfl⟩, fun h0 => ⟨g, 0, rfl, ⟨_, _, hh⟩, fun i hi j u hu => ?_⟩⟩
    have hj : j < c := by rw [← hf S[i]]; exact (List.getElem?_eq_some_iff.1 hu).1
    have := h.cells (g := g) rfl (i * c + j) u (by rw [rowsL_at hf S i j hi hj]; exact hu)
    rw [Addr.add_mid] at this; rw [Nat.zero_add]; simpa using this
theorem RowsAt.take {α : Type} {ty : TypeId} {c : Nat} {f : α → List Value} {w : World} {A : Option Addr} {n cap : Nat} {S : List α} (h : RowsAt ty c f w (.slice A n cap) S) (k : Nat) (hk : k ≤ S.length) : RowsAt ty c f w (.slice A k cap) (S.take k) := by
  obtain ⟨A', cap', hv, hcap, h0, h1⟩ := h
  obtain ⟨rfl, rfl, rfl⟩ : A = A' ∧ n = S.length ∧ cap = cap' := by simpa using hv
  have hl : (S.take k).length = k := by simp; omega
  refine ⟨A, cap, by rw [hl], by omega, fun _ => ?_, fun hp => ?_⟩
  · by_cases hs : S = []
    · exact h0 hs
    · obtain ⟨b, o, rfl, _⟩ := h1 (List.length_pos_iff.2 hs)
      exact Or.inr ⟨b, o, rfl⟩
  · obtain ⟨b, o, rfl, hlt, hcell⟩ := h1 (by omega)
    refine ⟨b, o, rfl, hlt, fun i hi j u hu => ?_⟩
    rw [hl] at hi
    exact hcell i (by omega) j u (by simpa using hu)
theorem RowsAt.drop {α : Type} {ty : TypeId} {c : Nat} {f : α → List Value} {w : World} {b o n cap : Nat} {S : List α} (h : RowsAt ty c f w (.slice (some ⟨b, o, none⟩) n cap) S) (k : Nat) (hk : k ≤ S.length) (b' o' : Nat) (hbo : k < S.length → b' = b ∧ o' = o + k * c) : RowsAt ty c f w (.slice (some ⟨b', o', none⟩) (n - k) (cap - k)) (S.drop k) := by
  obtain ⟨A', cap', hv, hcap, h0, h1⟩ := h
  obtain ⟨rfl, rfl, rfl⟩ : some ⟨b, o, none⟩ = A' ∧ n = S.length ∧ cap = cap' := by simpa using hv
  have hl : (S.drop k).length = S.length - k := by simp
  refine ⟨_, _, by rw [hl], by omega, fun _ => Or.inr ⟨_, _, rfl⟩, fun hp => ?_⟩
  rw [hl] at hp
  have hp1 : k < S.length := by omega
  have hp2 : 0 < S.length := by omega
  obtain ⟨rfl, rfl⟩ := hbo hp1
  obtain ⟨b2, o2, he, hlt, hcell⟩ := h1 hp2
  cases he
  refine ⟨_, _, rfl, hlt, fun i hi j u hu => ?_⟩
  have hki : k + i < S.length := by rw [hl] at hi; clear hcell hlt h1 h0; omega
  have := hcell (k + i) hki j u (by simpa using hu)
  rw [Nat.add_mul, ← Nat.add_assoc] at this
  exact this
/-- A slice that has the things S, in a block of any type. -/
def RowsIn {α : Type} (c : Nat) (f : α → List Value) (w : World) (v : Value) (S : List α) : Prop :=
  ∃ (A : Option Addr) (cap : Nat), v = .slice A S.length cap ∧ S.length ≤ cap ∧ (S = [] → A = none ∧ cap = 0 ∨ ∃ b o, A = some ⟨b, o, none⟩) ∧ (0 < S.length → ∃ b o, A = some ⟨b, o, none⟩ ∧ b < w.heap.size ∧ ∀ i (h : i < S.length) j u, (f S[i])[j]? = some u → w.cell? ⟨b, o + i * c + j, none⟩ = some u)
theorem RowsAt.inn {α : Type} {ty : TypeId} {c : Nat} {f : α → List Value} {w : World} {v : Value} {S : List α} (h : RowsAt ty c f w v S) : RowsIn c f w v S := by
  obtain ⟨A, cap, rfl, hc, h0, h1⟩ := h
  refine ⟨A, cap, rfl, hc, h0, fun hp => ?_⟩
  obtain ⟨b, o, rfl, ⟨cs, fl, hh⟩, hcell⟩ := h1 hp
  exact ⟨b, o, rfl, lt_of_heap hh, hcell⟩
theorem RowsIn.form {α : Type} {c : Nat} {f : α → List Value} {w : World} {v : Value} {S : List α} (h : RowsIn c f w v S) : ∃ A cap, v = .slice A S.length cap ∧ S.length ≤ cap ∧ ((S = [] ∧ A = none ∧ cap = 0) ∨ ∃ b o, A = some ⟨b, o, none⟩) := by
  obtain ⟨A, cap, rfl, hc, h0, h1⟩ := h
  refine ⟨A, cap, rfl, hc, ?_⟩
  by_cases hs : S = []
  · exact (h0 hs).imp (fun h => ⟨hs, h⟩) id
  · obtain ⟨b, o, rfl, _⟩ := h1 (List.length_pos_iff.2 hs)
    exact Or.inr ⟨b, o, rfl⟩
theorem RowsIn.below {α : Type} {c : Nat} {f : α → List Value} {w w' : World} {v : Value} {S : List α} (h : RowsIn c f w v S) (hb : Below w.heap.size w w') : RowsIn c f w' v S := by
  obtain ⟨A, cap, rfl, hc, h0, h1⟩ := h
  refine ⟨A, cap, rfl, hc, h0, fun hp => ?_⟩
  obtain ⟨b, o, rfl, hlt, hcell⟩ := h1 hp
  exact ⟨b, o, rfl, Nat.lt_of_lt_of_le hlt hb.size, fun i hi j u hu => (hb.cell hlt).trans (hcell i hi j u hu)⟩
theorem RowsIn.at {α : Type} {c : Nat} {f : α → List Value} {w : World} {A : Option Addr} {n cap : Nat} {S : List α} (h : RowsIn c f w (.slice A n cap) S) (k : Nat) (hk : k < S.length) :
    ∃ b o, A = some ⟨b, o, none⟩ ∧ ∀ j u, (f S[k])[j]? = some u → w.cell? ⟨b, o + k * c + j, none⟩ = some u := by
  obtain ⟨A', cap', hv, _, _, h1⟩ := h
  obtain ⟨rfl, _⟩ : A = A' ∧ _ := by simpa using hv
  obtain ⟨b, o, rfl, _, hcell⟩ := h1 (by omega)
  exact ⟨b, o, rfl, hcell k hk⟩
theorem run_append_nothing_rows {c : Nat} (sty ty : TypeId) (hu : Tryd.prog.underlying sty = some (.slice ty)) (hsz : ∀ w, (sizeOf ty).run Tryd.prog w = .ok c w) (w : World) (v : Value) (n k B : Nat) (xs : List Value) (h : w.ownsRow B ty c v n xs) (tt : TypeId) : (Builtin.append_ #[sty, sty] tt #[v, .slice none 0 k]).run Tryd.prog w = .ok v w := by
  rcases h.2 with ⟨rfl, rfl⟩ | ⟨g, cap, cur, rfl, hB, hh, hn, _⟩
  · simp [Builtin.append_, run_underlying hu, hsz, Builtin.lenOf, Builtin.firstCells, Result.andThen]
  · simp [Builtin.append_, run_underlying hu, hsz, Builtin.lenOf, Builtin.firstCells, Result.andThen, hn, storeCells]
/-- All of a slice behind a row of the call's own. -/
theorem append_rowsIn {α : Type} {f : α → List Value} {c : Nat} {w : World} {v s : Value} {S : List α} {B n : Nat} {xs : List Value} (sty ty : TypeId) (i0 : TypeInfo) (z : Value) (by_ : Nat)
    (hu : Tryd.prog.underlying sty = some (.slice ty)) (hsz : ∀ w, (sizeOf ty).run Tryd.prog w = .ok c w)
    (hi : Tryd.prog.info? ty = some i0) (hz0 : i0.zero = some z) (hz1 : i0.size = c) (hz2 : i0.bytes = by_) (hz : z.cells.size = c) (hc0 : 0 < c) (hby : by_ ≤ 1000)
    (hf : ∀ a, (f a).length = c) (h1 : ∀ a, ∀ u ∈ f a, u.oneCell' = true)
    (hv : RowsIn c f w v S) (hs : w.ownsRow B ty c s n xs) (hl : n + S.length ≤ 1000000) (hB : B ≤ w.heap.size) :
    ∃ v' w', (Builtin.append_ #[sty, sty] sty #[s, v]).run Tryd.prog w = .ok v' w' ∧ w'.ownsRow B ty c v' (n + S.length) (xs ++ rowsL f S) ∧ w.grownBy w' s.ownBlock ∧ (v'.ownBlock = s.ownBlock ∨ v'.ownBlock = some w.heap.size) := by
  obtain ⟨A, cap, rfl, -, -, hc⟩ := hv
  cases A with
  | none =>
    have h0 : S.length = 0 := by
      by_cases h : S.length = 0
      · exact h
      · obtain ⟨b, o, ha, _⟩ := hc (by omega)
        cases ha
    obtain rfl : S = [] := List.eq_nil_of_length_eq_zero h0
    exact ⟨s, w, run_append_nothing_rows sty ty hu hsz w s n cap B xs hs _, by simpa [rowsL] using hs, ⟨rfl, rfl, rfl, Nat.le_refl _, fun _ _ _ => rfl⟩, Or.inl rfl⟩
  | some a =>
    have hbytes : (n + S.length) * by_ ≤ 140737488355328 := Nat.le_trans (Nat.mul_le_mul hl hby) (by omega)
    obtain ⟨v', w', h1, h2, h3, _, h5⟩ := run_append_own_at (P := Tryd.prog) w B sty sty ty i0 z c by_ hu hi hz0 hz1 hz2 hz hc0 s n xs hs a S.length cap (rowsL f S) (rowsL_length hf S)
      (fun j u hu => by
        have hj : j < S.length * c := by
          have := (List.getElem?_eq_some_iff.1 hu).1
          rwa [rowsL_length hf] at this
        have hS : 0 < S.length := Nat.pos_of_ne_zero fun e => by rw [e, Nat.zero_mul] at hj; omega
        obtain ⟨b, o, hb, _, hcell⟩ := hc hS
        cases hb
        have hi' : j / c < S.length := (Nat.div_lt_iff_lt_mul hc0).2 hj
        have hr : j % c < c := Nat.mod_lt _ hc0
        have hjj : j / c * c + j % c = j := by rw [Nat.mul_comm]; exact Nat.div_add_mod j c
        have e := rowsL_at hf S (j / c) (j % c) hi' hr
        rw [hjj, hu] at e
        have := hcell (j / c) hi' (j % c) u e.symm
        rw [Addr.add_mid]
        rw [Nat.add_assoc, hjj] at this
        exact this) (rowsL_one h1 S) (by unfold maxLen; omega) hbytes hB
    exact ⟨v', w', h1, h2, h3, h5⟩
theorem append_rows {α : Type} {f : α → List Value} {c : Nat} {w : World} {v s : Value} {S : List α} {B n : Nat} {xs : List Value} (sty ty : TypeId) (i0 : TypeInfo) (z : Value) (by_ : Nat)
    (hu : Tryd.prog.underlying sty = some (.slice ty)) (hsz : ∀ w, (sizeOf ty).run Tryd.prog w = .ok c w)
    (hi : Tryd.prog.info? ty = some i0) (hz0 : i0.zero = some z) (hz1 : i0.size = c) (hz2 : i0.bytes = by_) (hz : z.cells.size = c) (hc0 : 0 < c) (hby : by_ ≤ 1000)
    (hf : ∀ a, (f a).length = c) (h1 : ∀ a, ∀ u ∈ f a, u.oneCell' = true)
    (hv : RowsAt ty c f w v S) (hs : w.ownsRow B ty c s n xs) (hl : n + S.length ≤ 1000000) (hB : B ≤ w.heap.size) :
    ∃ v' w', (Builtin.append_ #[sty, sty] sty #[s, v]).run Tryd.prog w = .ok v' w' ∧ w'.ownsRow B ty c v' (n + S.length) (xs ++ rowsL f S) ∧ w.grownBy w' s.ownBlock ∧ (v'.ownBlock = s.ownBlock ∨ v'.ownBlock = some w.heap.size) :=
  append_rowsIn sty ty i0 z by_ hu hsz hi hz0 hz1 hz2 hz hc0 hby hf h1 hv.inn hs hl hB
end Go.Proofs.YtjfefphgikncnaaDoor
namespace Go.Proofs.YtjfefphgikncnaaDoor.Pw

abbrev S := List UInt8
structure M where
  name : S
  power : Int
instance : Inhabited M := ⟨⟨[], 0⟩⟩
theorem M.ext' {a b : M} (h : a.name = b.name) (k : a.power = b.power) : a = b := by cases a; cases b; simp_all
instance : DecidableEq M := fun a b =>
  if h : a.name = b.name ∧ a.power = b.power then isTrue (M.ext' h.1 h.2) else isFalse (fun e => h (by subst e; exact ⟨rfl, rfl⟩))

def okM (p : S) (m : M) : Bool := decide (p < m.name) && decide (m.name.length ≤ 6) && decide (1 ≤ m.power) && decide (m.power ≤ 1000)
def okFrom : S → List M → Bool
  | _, [] => true
  | p, m :: t => okM p m && okFrom m.name t
def okL (L : List M) : Bool := decide (1 ≤ L.length) && decide (L.length ≤ 7) && okFrom [] L
def sumP (L : List M) : Int := L.foldr (fun m n => m.power + n) 0
def pick (L : List M) (names : List S) : List M := L.filter fun m => decide (m.name ∈ names)
def ofL (L : List M) (names : List S) : Nat := if okL L then (sumP (pick L names)).toNat else 0
theorem snocInd {α : Type} {p : List α → Prop} (h0 : p []) (h1 : ∀ l d, p l → p (l ++ [d])) (l : List α) : p l := by
  have h : ∀ r : List α, p r.reverse := by
    intro r
    induction r with
    | nil => exact h0
    | cons d r ih => rw [List.reverse_cons]; exact h1 _ _ ih
  have := h l.reverse
  rwa [List.reverse_reverse] at this
end Go.Proofs.YtjfefphgikncnaaDoor.Pw
namespace Go.Proofs.YtjfefphgikncnaaDoor
open Go.RowKit Go.ChangeShapes Go.WideShapes
open Go.Proofs.YtjfefphgikncnaaDoor.Pw (M)

theorem Tryd.infoStr : (Tryd.prog.info? 9).map (fun i => (i.zero, i.size, i.bytes)) = some (some (.string ⟨#[]⟩), 1, 16) := by kernel_rfl

/-- A slice that has these members. -/
def Mems (w : World) (v : Value) (L : List M) : Prop :=
  ∃ (A : Option Addr) (cap : Nat), v = .slice A L.length cap ∧ (0 < L.length → ∃ b o, A = some ⟨b, o, none⟩ ∧ b < w.heap.size ∧ ∀ i (h : i < L.length),
    w.cell? ⟨b, o + i * 2, none⟩ = some (.string ⟨L[i].name.toArray⟩) ∧ w.cell? ⟨b, o + i * 2 + 1, none⟩ = some (.int .i64 L[i].power))
theorem Mems.nil (w : World) : Mems w (.slice none 0 0) [] := ⟨none, 0, rfl, fun h => absurd h (by simp)⟩
theorem Mems.below {w w' : World} {v : Value} {L : List M} (h : Mems w v L) (hb : Below w.heap.size w w') : Mems w' v L := by
  obtain ⟨A, cap, rfl, hc⟩ := h
  refine ⟨A, cap, rfl, fun h0 => ?_⟩
  obtain ⟨b, o, rfl, hlt, hcell⟩ := hc h0
  refine ⟨b, o, rfl, Nat.lt_of_lt_of_le hlt hb.size, fun i hi => ?_⟩
  obtain ⟨h1, h2⟩ := hcell i hi
  exact ⟨(hb.cell hlt).trans h1, (hb.cell hlt).trans h2⟩
theorem Mems.drew {w : World} {v : Value} {L : List M} (h : Mems w v L) : Mems w.drew v L := h.below (Below.refl _ w).drew
/-- One member's cells. -/
theorem Mems.at {w w' : World} {A : Option Addr} {n cap : Nat} {L : List M} (h : Mems w (.slice A n cap) L) (hb : Below w.heap.size w w') (k : Nat) (hk : k < L.length) :
    ∃ b o, A = some ⟨b, o, none⟩ ∧ w'.cell? ⟨b, o + k * 2, none⟩ = some (.string ⟨L[k].name.toArray⟩) ∧ w'.cell? ⟨b, o + k * 2 + 1, none⟩ = some (.int .i64 L[k].power) := by
  obtain ⟨A', cap', hv, hc⟩ := h.below hb
  obtain ⟨rfl, rfl, rfl⟩ : A = A' ∧ n = L.length ∧ cap = cap' := by simpa using hv
  obtain ⟨b, o, rfl, _, hcell⟩ := hc (by omega)
  exact ⟨b, o, rfl, hcell k hk⟩
theorem Mems.len {w : World} {A : Option Addr} {n cap : Nat} {L : List M} (h : Mems w (.slice A n cap) L) : n = L.length := by
  obtain ⟨A', cap', hv, _⟩ := h
  simp at hv
  exact hv.2.1
theorem Mems.form {w : World} {v : Value} {L : List M} (h : Mems w v L) : ∃ A cap, v = .slice A L.length cap := by
  obtain ⟨A, cap, rfl, _⟩ := h
  exact ⟨A, cap, rfl⟩
end Go.Proofs.YtjfefphgikncnaaDoor
namespace Go.Proofs.YtjfefphgikncnaaDoor
open Go.RowKit
open Go.Proofs.YtjfefphgikncnaaDoor.Pw (M)

/-- 'append(s, x...)', by an equation of the run. -/
theorem run_append_nothing_s (w : World) (v : Value) (n c B : Nat) (xs : List Value) (h : w.ownsRow B 9 1 v n xs) (ty : TypeId) : (Builtin.append_ #[27, 27] ty #[v, .slice none 0 c]).run Tryd.prog w = .ok v w := by
  rcases h.2 with ⟨rfl, rfl⟩ | ⟨g, cap, cur, rfl, hB, hh, hn, _⟩
  · simp [Builtin.append_, run_underlying Tryd.underlying27, Tryd.sizeOf9, Builtin.lenOf, Builtin.firstCells, Result.andThen]
  · simp [Builtin.append_, run_underlying Tryd.underlying27, Tryd.sizeOf9, Builtin.lenOf, Builtin.firstCells, Result.andThen, hn, storeCells]
theorem grown_none (w : World) (r : Option Nat) : w.grownBy w r := ⟨rfl, rfl, rfl, Nat.le_refl _, fun _ _ _ => rfl⟩
/-- The same as a step of a region that draws its order. -/
theorem step_append_run {P : Program} {ops : Array Oper} {o : Oper} {a : Act} {w w' : World} {K : Act → World → Prop} {Q : Exit → Act → World → Prop} {E : Prop} (hg : o.guard = none) (s x : Operand) (t : TypeId) (hop : o.op = Op.call { callee := Callee.builtin Builtin.append, args := #[s, x], argTypes := #[t, t] })
    (sv xv r : Value) (hs : a.eval s = sv) (hx : a.eval x = xv) (hrun : (Builtin.append_ #[t, t] o.type #[sv, xv]).run P w = .ok r w') (hK : K (a.put o.dst r) w') : if Region.wanted o (yielded ops a.tmps) = true then Oper.wp P o a w K Q else E := by
  have hw : Region.wanted o (yielded ops a.tmps) = true := by simp [Region.wanted, hg]
  rw [if_pos hw]
  unfold Oper.wp
  simp [execOp, hop, resolve, invoke, builtin, hs, hx, hrun, Result.andThen]
  exact hK
theorem append_strs {w : World} {v s : Value} {L : List (List UInt8)} {B n : Nat} {xs : List Value} (hv : Strs w v L) (hs : w.ownsRow B 9 1 s n xs) (hl : n + L.length ≤ 1000000) (hB : B ≤ w.heap.size) :
    ∃ v' w', (Builtin.append_ #[27, 27] 27 #[s, v]).run Tryd.prog w = .ok v' w' ∧ w'.ownsRow B 9 1 v' (n + L.length) (xs ++ scells L) ∧ w.grownBy w' s.ownBlock ∧ (v'.ownBlock = s.ownBlock ∨ v'.ownBlock = some w.heap.size) := by
  obtain ⟨i0, hi, hz0, hz1, hz2⟩ := info_parts Tryd.infoStr
  obtain ⟨A, cap, rfl, hc⟩ := hv
  cases A with
  | none =>
    have h0 : L.length = 0 := by
      by_cases h : L.length = 0
      · exact h
      · obtain ⟨a, ha, _⟩ := hc 0 (by omega)
        cases ha
    obtain rfl : L = [] := List.eq_nil_of_length_eq_zero h0
    exact ⟨s, w, run_append_nothing_s w s n cap B xs hs _, by simpa [scells] using hs, grown_none _ _, Or.inl rfl⟩
  | some a =>
    obtain ⟨v', w', h1, h2, h3, _, h5⟩ := run_append_own_at (P := Tryd.prog) w B 27 27 9 i0 (.string ⟨#[]⟩) 1 16 Tryd.underlying27 hi hz0 hz1 hz2 rfl (by decide) s n xs hs a L.length cap (scells L) (by simp [scells])
      (fun j u hu => by
        have hj : j < L.length := by
          have := (List.getElem?_eq_some_iff.1 hu).1
          simpa [scells] using this
        obtain ⟨b, hb, hcell⟩ := hc j hj
        cases hb
        simp only [scells, List.getElem?_map, List.getElem?_eq_getElem hj] at hu
        simp at hu
        rw [← hu]
        exact hcell) (by simp [scells, Value.oneCell']) (by unfold maxLen; omega) (by omega) hB
    exact ⟨v', w', h1, h2, h3, h5⟩
end Go.Proofs.YtjfefphgikncnaaDoor
namespace Go.Proofs.YtjfefphgikncnaaDoor
open Go.RowKit
open Go.Proofs.YtjfefphgikncnaaDoor.Sto (St)

end Go.Proofs.YtjfefphgikncnaaDoor
namespace Go.Proofs.YtjfefphgikncnaaDoor
open Go.RowKit
open Go.Proofs.YtjfefphgikncnaaDoor.Sto (St)

/-- The sum of a text. -/
def Sto.sumOf (t : List UInt8) : List UInt8 := Dig.sum 1 t
theorem Sto.sumOf_len (t : List UInt8) : (Sto.sumOf t).length = 32 := by
  unfold Sto.sumOf Dig.sum
  rw [if_pos (by decide), Sha.sumP_length]
end Go.Proofs.YtjfefphgikncnaaDoor
namespace Go.Proofs.YtjfefphgikncnaaDoor
open Go.RowKit
open Go.Proofs.YtjfefphgikncnaaDoor.Sto (St)

def Sto.nodeOf (S : St) (x : List UInt8) : Nd.N × Int := match Sto.look S x with | some t => Nd.dec t | none => (Nd.zero, 90)
end Go.Proofs.YtjfefphgikncnaaDoor
namespace Go.Proofs.YtjfefphgikncnaaDoor
open Sto (T St)
open Tri (Tr Ok hb)
open Go.Proofs.YtjfefphgikncnaaDoor.Nd (N)

/-- A tree's nodes stand in a store, each at its sum. -/
def Tri.Tr.inS (S : St) : Tr → Prop
  | .nil => True
  | .leaf p v => Sto.look S (Tr.sum Nd.sumS (.leaf p v)) = some (Nd.written (Tr.node Nd.sumS (.leaf p v)))
  | .ext p t => Sto.look S (Tr.sum Nd.sumS (.ext p t)) = some (Nd.written (Tr.node Nd.sumS (.ext p t))) ∧ Tri.Tr.inS S t
  | .br v k => Sto.look S (Tr.sum Nd.sumS (.br v k)) = some (Nd.written (Tr.node Nd.sumS (.br v k))) ∧ ∀ i, Tri.Tr.inS S (k i)
theorem inS_iff (S : St) {t : Tr} (h : ¬ t.isNil) : t.inS S ↔ Sto.look S (t.sum Nd.sumS) = some (Nd.written (t.node Nd.sumS)) ∧ ∀ i, (t.kid i).inS S := by
  cases t with
  | nil => exact absurd trivial h
  | leaf p v => exact ⟨fun h => ⟨h, fun i => trivial⟩, fun h => h.1⟩
  | ext p t =>
    refine and_congr Iff.rfl ⟨fun h i => ?_, fun h => by simpa [Tr.kid] using h 0⟩
    simp only [Tr.kid]; split
    · exact h
    · trivial
  | br v k => exact Iff.rfl
/-- Two trees in one store, of one sum. -/
theorem inS_one {S : St} {t u : Tr} (ht : Ok t) (hu : Ok u) (nt : ¬ t.isNil) (nu : ¬ u.isNil) (h : t.inS S) (h' : u.inS S) (e : t.sum Nd.sumS = u.sum Nd.sumS) : t = u := by
  revert u
  revert ht nt h
  refine Tri.kid_ind (P := fun t => Ok t → ¬ t.isNil → t.inS S → ∀ {u : Tr}, Ok u → ¬ u.isNil → u.inS S → t.sum Nd.sumS = u.sum Nd.sumS → t = u) (fun _ n => absurd trivial n) ?_ t
  intro t _ ih ht nt h u hu nu h' e
  obtain ⟨h1, h2⟩ := (inS_iff S nt).1 h
  obtain ⟨g1, g2⟩ := (inS_iff S nu).1 h'
  rw [e, g1] at h1
  have hn := Nd.written_inj (Tri.node_kids Nd.sumS u) (Tri.node_kids Nd.sumS t) (hu.fine nu) (ht.fine nt) (Option.some.inj h1)
  rw [Tri.node_kid _ nt, Tri.node_kid _ nu] at hn
  simp only [N.mk.injEq] at hn
  obtain ⟨e1, e2, e3, e4⟩ := hn
  refine Tri.kid_ext (by omega) e2.symm e3.symm fun i => ?_
  have es := (Tri.ofFn_inj e4 i).symm
  by_cases n1 : (t.kid i).isNil
  · have n2 : (u.kid i).isNil := Classical.byContradiction fun n2 => by
      have := (hu.kid i).sum_ne n2
      rw [← es, Tri.nil_of_isNil n1] at this
      exact this rfl
    rw [Tri.nil_of_isNil n1, Tri.nil_of_isNil n2]
  · have n2 : ¬ (u.kid i).isNil := fun n2 => by
      have := (ht.kid i).sum_ne n1
      rw [es, Tri.nil_of_isNil n2] at this
      exact this rfl
    exact ih i (ht.kid i) n1 (h2 i) (hu.kid i) n2 (g2 i) es
/-- Each text in a store stands at its own sum. -/
def OwnSums (S : St) : Prop := ∀ x t, Sto.look S x = some t → Sto.sumOf t = x
theorem OwnSums.nil : OwnSums [] := fun x t h => by cases h
theorem OwnSums.put {S : St} (h : OwnSums S) (hS : Sto.Rising S) (t : T) : OwnSums (Sto.put S (Sto.sumOf t) t) := fun x y hl => by
  obtain ⟨s, hs⟩ : ∃ s, Sto.sumOf t = s := ⟨_, rfl⟩
  rw [hs, Sto.look_put hS] at hl
  by_cases e : x = s
  · rw [if_pos e] at hl
    cases hk : Sto.look S s with
    | none =>
      rw [hk] at hl
      have e2 : t = y := Option.some.inj hl
      rw [← e2, e]; exact hs
    | some z =>
      rw [hk] at hl
      have e2 : z = y := Option.some.inj hl
      rw [← e2, e]; exact h _ _ hk
  · rw [if_neg e] at hl
    exact h _ _ hl
/-- A trie that may stand at a place, in a store at a sum. -/
structure Loaded (S : St) (sum place : T) (inE : Bool) (t : Tr) : Prop where
  nn : ¬ t.isNil
  ok : Ok t
  sum : t.sum Nd.sumS = sum
  inn : t.inS S
  br : inE = true → t.isBr
  fit : ∀ x ∈ t.items, 1 ≤ place.length + x.1.length ∧ place.length + x.1.length ≤ 16 ∧ (place.length + x.1.length) % 2 = 0
theorem nodeOf_at {S : St} {x t : T} (h : Sto.look S x = some t) : Sto.nodeOf S x = Nd.dec t := by
  unfold Sto.nodeOf
  rw [h]
theorem Loaded.node {S : St} {sum place : T} {inE : Bool} {t : Tr} (h : Loaded S sum place inE t) : Sto.nodeOf S sum = (t.node Nd.sumS, 0) := by
  rw [nodeOf_at (by rw [← h.sum]; exact ((inS_iff S h.nn).1 h.inn).1)]
  exact Nd.dec_written _ (Tri.node_kids _ _) (h.ok.fine h.nn)
/-- An item of a tree's own, or of a kid's. -/
theorem item_of_kid {t : Tr} (i : Fin 16) {x : T × T} (h : x ∈ (t.kid i).items) : (placeT t.kind t.pth i ++ x.1, x.2) ∈ t.items := by
  cases t with
  | nil => cases h
  | leaf p v => cases h
  | ext p t =>
    simp only [Tr.kid] at h
    split at h
    · exact Tri.mem_behind.2 ⟨x.1, h, rfl⟩
    · cases h
  | br v k => exact Tri.mem_br.2 (Or.inr ⟨i, x.1, rfl, h⟩)
theorem item_path {t : Tr} {x : T × T} (h : x ∈ t.items) : t.pth.length ≤ x.1.length := by
  cases t with
  | nil => cases h
  | leaf p v => rw [List.mem_singleton.1 h]; exact Nat.le_refl _
  | ext p t =>
    obtain ⟨q, _, e⟩ := Tri.mem_behind.1 h
    rw [e]; simp [Tr.pth]
  | br v k => simp [Tr.pth]
theorem placeT_cat (k : Nat) (p q : T) (i : Fin 16) : placeT k (p ++ q) i = p ++ placeT k q i := by
  unfold placeT; split <;> simp
theorem Loaded.short {S : St} {sum place : T} {inE : Bool} {t : Tr} (h : Loaded S sum place inE t) : place.length + t.pth.length ≤ 16 := by
  obtain ⟨a, l, e⟩ := List.exists_cons_of_ne_nil (fun e => h.nn ((Tri.items_nil h.ok.canon).1 e))
  have hm : a ∈ t.items := by rw [e]; exact List.mem_cons_self ..
  have := item_path hm
  have := (h.fit a hm).2.1
  omega
theorem Loaded.kid {S : St} {sum place : T} {inE : Bool} {t : Tr} (h : Loaded S sum place inE t) (i : Fin 16) (hn : ¬ (t.kid i).isNil) : Loaded S ((t.kid i).sum Nd.sumS) (placeT t.kind (place ++ t.pth) i) (decide (t.kind = 2)) (t.kid i) := by
  refine ⟨hn, h.ok.kid i, rfl, ((inS_iff S h.nn).1 h.inn).2 i, fun e => ?_, fun x hx => ?_⟩
  · have e := of_decide_eq_true e
    cases t with
    | nil => cases e
    | leaf p v => cases e
    | br v k => cases e
    | ext p t =>
      simp only [Tr.kid] at hn ⊢
      split
      · exact h.ok.canon.2.1
      · rename_i hh; rw [if_neg hh] at hn; exact absurd trivial hn
  · have := h.fit _ (item_of_kid i hx)
    rw [placeT_cat]
    simpa [List.length_append, Nat.add_assoc] using this
/-- How many items the first kids have. -/
def cntK (k : Fin 16 → Tr) (j : Nat) : Nat := (((List.finRange 16).take j).map fun i => (k i).items.length).sum
theorem cntK_zero (k : Fin 16 → Tr) : cntK k 0 = 0 := rfl
theorem cntK_step (k : Fin 16 → Tr) (j : Nat) (hj : j < 16) : cntK k (j + 1) = cntK k j + (k ⟨j, hj⟩).items.length := by
  unfold cntK
  have h : j < (List.finRange 16).length := by rw [List.length_finRange]; exact hj
  rw [List.take_succ_eq_append_getElem h, List.map_append, List.sum_append]
  simp
theorem cntK_same {k m : Fin 16 → Tr} {j : Nat} (h : ∀ i : Fin 16, i.val < j → k i = m i) : cntK k j = cntK m j := by
  unfold cntK
  congr 1
  refine List.map_congr_left fun i hi => ?_
  obtain ⟨n, hn, e⟩ := List.mem_take_iff_getElem.1 hi
  rw [List.getElem_finRange] at e
  have : i.val = n := by rw [← e]; rfl
  rw [h i (by omega)]
theorem cntK_mono (k : Fin 16 → Tr) {i j : Nat} (h : i ≤ j) (hj : j ≤ 16) : cntK k i ≤ cntK k j := by
  induction j with
  | zero => obtain rfl : i = 0 := by omega
            exact Nat.le_refl _
  | succ j ih =>
    rcases Nat.lt_or_ge i (j + 1) with h1 | h1
    · have := ih (by omega) (by omega)
      rw [cntK_step k j (by omega)]; omega
    · obtain rfl : i = j + 1 := by omega
      exact Nat.le_refl _
theorem cntK_nil {k : Fin 16 → Tr} (h : ∀ i, k i = .nil) (j : Nat) : cntK k j = 0 := by
  unfold cntK
  rw [List.sum_eq_zero_iff_forall_eq_nat]
  intro x hx
  obtain ⟨i, _, rfl⟩ := List.mem_map.1 hx
  rw [h i]; rfl
theorem cntK_flat (k : Fin 16 → Tr) : (List.flatMap (fun i => Tri.behind [hb i] (k i).items) (List.finRange 16)).length = cntK k 16 := by
  unfold cntK
  rw [List.length_flatMap, List.take_of_length_le (by rw [List.length_finRange]; exact Nat.le_refl _)]
  congr 1
  refine List.map_congr_left fun i _ => ?_
  simp [Tri.behind]
def ownN (v : T) : Nat := if v = [] then 0 else 1
theorem items_count {t : Tr} (h : Ok t) (hn : ¬ t.isNil) : t.items.length = ownN t.vl + cntK t.kid 16 := by
  cases t with
  | nil => exact absurd trivial hn
  | leaf p v =>
    have hv : v ≠ [] := h.canon
    rw [cntK_nil (k := Tr.kid (.leaf p v)) (fun i => rfl)]
    simp [Tr.items, ownN, Tr.vl, hv]
  | ext p t =>
    have e : cntK (Tr.kid (.ext p t)) 1 = t.items.length := by
      rw [cntK_step _ 0 (by omega), cntK_zero]
      simp [Tr.kid]
    have e2 : ∀ j, 1 ≤ j → j ≤ 16 → cntK (Tr.kid (.ext p t)) j = t.items.length := by
      intro j
      induction j with
      | zero => intro h; omega
      | succ j ih =>
        intro _ h2
        by_cases hj : j = 0
        · subst hj; exact e
        · rw [cntK_step _ j (by omega), ih (by omega) (by omega)]
          have : (Tr.kid (.ext p t) ⟨j, by omega⟩) = .nil := by
            simp only [Tr.kid]
            rw [if_neg (fun e => hj (by simpa using congrArg Fin.val e))]
          rw [this]; rfl
    rw [e2 16 (by omega) (by omega)]
    simp [Tr.items, ownN, Tr.vl, Tri.behind]
  | br v k =>
    rw [Tr.items, List.length_append, cntK_flat]
    unfold Tri.own ownN Tr.vl Tr.kid
    split <;> simp
/-- The tree of a node and its kids. -/
def mkT (n : N) (k : Fin 16 → Tr) : Tr := if n.kind = 1 then .leaf n.path n.val else if n.kind = 2 then .ext n.path (k 0) else .br n.val k
/-- What stands for a kid of this sum. -/
def KidOf (S : St) (kind : Nat) (e x : T) (i : Fin 16) (u : Tr) : Prop := (x = [] ∧ u = .nil) ∨ (x ≠ [] ∧ Loaded S x (placeT kind e i) (decide (kind = 2)) u)
theorem KidOf.sum {S : St} {kind : Nat} {e x : T} {i : Fin 16} {u : Tr} (h : KidOf S kind e x i u) : u.sum Nd.sumS = x := by
  rcases h with ⟨rfl, rfl⟩ | ⟨_, h⟩
  · rfl
  · exact h.sum
theorem KidOf.ok {S : St} {kind : Nat} {e x : T} {i : Fin 16} {u : Tr} (h : KidOf S kind e x i u) : Ok u := by
  rcases h with ⟨rfl, rfl⟩ | ⟨_, h⟩
  · exact ⟨trivial, trivial, trivial⟩
  · exact h.ok
theorem KidOf.inn {S : St} {kind : Nat} {e x : T} {i : Fin 16} {u : Tr} (h : KidOf S kind e x i u) : u.inS S := by
  rcases h with ⟨rfl, rfl⟩ | ⟨_, h⟩
  · trivial
  · exact h.inn
theorem KidOf.fit {S : St} {kind : Nat} {e x : T} {i : Fin 16} {u : Tr} (h : KidOf S kind e x i u) : ∀ y ∈ u.items, 1 ≤ (placeT kind e i).length + y.1.length ∧ (placeT kind e i).length + y.1.length ≤ 16 ∧ ((placeT kind e i).length + y.1.length) % 2 = 0 := by
  rcases h with ⟨rfl, rfl⟩ | ⟨_, h⟩
  · intro y hy; cases hy
  · exact h.fit
theorem ofFn_of {L : List T} {f : Fin 16 → T} (hL : L.length = 16) (h : ∀ i : Fin 16, f i = L[i.val]'(by omega)) : List.ofFn f = L := by
  refine List.ext_getElem (by simp [hL]) fun i h1 h2 => ?_
  rw [List.getElem_ofFn]
  exact h ⟨i, by omega⟩
/-- What the tree of a node and its kids shows. -/
structure MkIs (n : N) (k : Fin 16 → Tr) : Prop where
  kind : ((mkT n k).kind : Int) = n.kind
  pth : (mkT n k).pth = n.path
  vl : (mkT n k).vl = n.val
  kid : ∀ i, (mkT n k).kid i = k i
  nn : ¬ (mkT n k).isNil
theorem MkIs.node {n : N} {k : Fin 16 → Tr} (h : MkIs n k) (hn : n.kids.length = 16) (hs : ∀ i : Fin 16, (k i).sum Nd.sumS = n.kids[i.val]'(by omega)) : (mkT n k).node Nd.sumS = n := by
  rw [Tri.node_kid _ h.nn, h.kind, h.pth, h.vl]
  obtain ⟨a, b, c, L⟩ := n
  congr 1
  refine ofFn_of hn fun i => ?_
  rw [h.kid]; exact hs i
/-- What stands there has the kids that were read. -/
theorem Loaded.kidOf {S : St} {sum place : T} {inE : Bool} {t : Tr} {n : N} {kind : Nat} (h : Loaded S sum place inE t) (hd : Sto.nodeOf S sum = (n, 0)) (hki : (kind : Int) = n.kind) (hn : n.kids.length = 16) (i : Fin 16) : KidOf S kind (place ++ n.path) (n.kids[i.val]'(by omega)) i (t.kid i) := by
  have e := h.node
  rw [hd] at e
  obtain rfl := (Prod.mk.inj e).1
  have hk : (kind : Int) = (t.node Nd.sumS).kind := hki
  have e2 := Tri.node_kid Nd.sumS h.nn
  have ek : (t.node Nd.sumS).kids[i.val]'(by rw [hn]; exact i.isLt) = (t.kid i).sum Nd.sumS := by
    have : (t.node Nd.sumS).kids = List.ofFn fun i => (t.kid i).sum Nd.sumS := by rw [e2]
    rw [List.getElem_of_eq this, List.getElem_ofFn]
  have ep : (t.node Nd.sumS).path = t.pth := by rw [e2]
  have ekk : kind = t.kind := by rw [e2] at hk; exact Int.ofNat_inj.1 hk
  rw [ek, ep, ekk]
  by_cases hnl : (t.kid i).isNil
  · rw [Tri.nil_of_isNil hnl]; exact Or.inl ⟨rfl, rfl⟩
  · exact Or.inr ⟨(h.ok.kid i).sum_ne hnl, h.kid i hnl⟩
theorem KidOf.one {S : St} {kind : Nat} {e x : T} {i : Fin 16} {t u : Tr} (h : KidOf S kind e x i t) (h' : KidOf S kind e x i u) : t = u := by
  rcases h with ⟨e1, rfl⟩ | ⟨e1, h⟩ <;> rcases h' with ⟨e2, rfl⟩ | ⟨e2, h'⟩
  · rfl
  · exact absurd e1 e2
  · exact absurd e2 e1
  · exact inS_one h.ok h'.ok h.nn h'.nn h.inn h'.inn (h.sum.trans h'.sum.symm)
end Go.Proofs.YtjfefphgikncnaaDoor
