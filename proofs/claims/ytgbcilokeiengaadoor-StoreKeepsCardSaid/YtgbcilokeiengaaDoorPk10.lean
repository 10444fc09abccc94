/- MapDrop, StoreKeep, StoreFill, StoreWorks, ShaLaid, StoreFrame, CodeFew, ArgInts -/
import Derived.Test.YtgbcilokeiengaaDoorPk04
import Derived.Test.YtgbcilokeiengaaDoorPk09
import Derived.Test.YtgbcilokeiengaaDoorPk01
import Derived.KernelRfl
import Derived.Test.YtgbcilokeiengaaDoorRows
import Derived.Test.YtgbcilokeiengaaDoorPk08
import Derived.Lib.LaidU8
import Derived.LaidMore
import Derived.Stop.Joined
import Derived.ProofKit
import Derived.WalkSpells
import Derived.WalkLawsBesides
import Derived.Deep.QuietTactic
import Derived.BigQuiet
import Derived.OpenShut
namespace Go.Proofs.YtgbcilokeiengaaDoor
open Go.RowKit Go.MapKept
open Go.ChangeMaps (setBlock heap_setBlock_same heap_setBlock_other)
open Go.Maps (Keyed)
variable {P : Program} {k t e : TypeId} {κ α : Type}

/-- The map in block b is ranged over by the iterator in block r; the keys in 'done' have come, and may have gone since; cnt are still to come. -/
def FnRangeD (M : MapLaw P k κ α) (w : World) (b r : Nat) (f : κ → Option α) (done : List κ) (cnt : Nat) : Prop :=
  ∃ es clock since seen c0, w.heap[b]? = some (.map es clock) ∧ (∀ x ∈ es.toList, ∃ s a, x.key = M.enc s ∧ x.val = M.val a ∧ M.ok s ∧ f s = some a) ∧ (∀ s a, f s = some a → ∃ x ∈ es.toList, x.key = M.enc s) ∧ Stamped es clock ∧
    w.heap[r]? = some (.mapIter (some b) since seen c0) ∧ (∀ x ∈ es.toList, x.born < since) ∧ since ≤ c0 ∧ since ≤ clock ∧ (leftOf es seen).size = cnt ∧ done.Nodup ∧ (∀ x ∈ es.toList, seen.contains x.born = true ↔ ∃ s ∈ done, x.key = M.enc s)

theorem FnRange.weak {M : MapLaw P k κ α} {w : World} {b r : Nat} {f : κ → Option α} {done : List κ} {cnt : Nat} (h : FnRange M w b r f done cnt) : FnRangeD M w b r f done cnt := by
  obtain ⟨es, clock, since, seen, c0, h1, h2, h3, h4, h5, h6, h7, h8, h9, h10, h11, _⟩ := h
  exact ⟨es, clock, since, seen, c0, h1, h2, h3, h4, h5, h6, h7, h8, h9, h10, h11⟩
theorem FnRangeD.map {M : MapLaw P k κ α} {w : World} {b r : Nat} {f : κ → Option α} {done : List κ} {cnt : Nat} (h : FnRangeD M w b r f done cnt) : FnAt M w b f := by
  obtain ⟨es, clock, _, _, _, hb, h2, h3, h4, _⟩ := h
  exact ⟨es, clock, hb, h2, h3, h4⟩
theorem FnRangeD.left_eq {M : MapLaw P k κ α} {w : World} {b r : Nat} {f : κ → Option α} {done : List κ} {cnt : Nat} (h : FnRangeD M w b r f done cnt) : w.rangeLeft b r = cnt := by
  obtain ⟨es, clock, since, seen, c0, hb, _, _, _, hr, _, _, _, hc, _⟩ := h
  simp only [World.rangeLeft, hb, hr]
  exact hc
theorem FnRangeD.lt {M : MapLaw P k κ α} {w : World} {b r : Nat} {f : κ → Option α} {done : List κ} {cnt : Nat} (h : FnRangeD M w b r f done cnt) : r < w.heap.size := by
  obtain ⟨es, clock, since, seen, c0, hb, _, _, _, hr, _⟩ := h
  exact lt_of_heap hr
theorem FnRangeD.ne {M : MapLaw P k κ α} {w : World} {b r : Nat} {f : κ → Option α} {done : List κ} {cnt : Nat} (h : FnRangeD M w b r f done cnt) : r ≠ b := by
  obtain ⟨es, clock, since, seen, c0, hb, _, _, _, hr, _⟩ := h
  rintro rfl
  rw [hb] at hr; cases hr
theorem FnRangeD.no_cells {M : MapLaw P k κ α} {w : World} {b r : Nat} {f : κ → Option α} {done : List κ} {cnt : Nat} (h : FnRangeD M w b r f done cnt) (j : Nat) (cs : Array Value) (t : TypeId) (fr : Nat × Nat) (hk : j = r) : w.heap[j]? ≠ some (.cells cs t fr) := by
  subst hk
  obtain ⟨es, clock, since, seen, c0, hb, _, _, _, hr, _⟩ := h
  rw [hr]; simp
/-- An iterator is no map. -/
theorem FnRangeD.no_map {κ' α' : Type} {k' : TypeId} {M : MapLaw P k κ α} {M' : MapLaw P k' κ' α'} {w : World} {b r b' : Nat} {f : κ → Option α} {f' : κ' → Option α'} {done : List κ} {cnt : Nat} (h : FnRangeD M w b r f done cnt) (h' : FnAt M' w b' f') : b' ≠ r := by
  rintro rfl
  obtain ⟨es, clock, since, seen, c0, hb, _, _, _, hr, _⟩ := h
  obtain ⟨es', c', hb', _⟩ := h'
  rw [hr] at hb'; cases hb'
theorem FnRangeD.out {M : MapLaw P k κ α} {F : Nat → Prop} {w w' : World} {b r : Nat} {f : κ → Option α} {done : List κ} {cnt : Nat} (h : FnRangeD M w b r f done cnt) (ho : Out F w w') (hb : ¬ F b) (hr : ¬ F r) : FnRangeD M w' b r f done cnt := by
  obtain ⟨es, clock, since, seen, c0, h1, h2, h3, h4, h5, h6⟩ := h
  exact ⟨es, clock, since, seen, c0, ho.heap h1 hb, h2, h3, h4, ho.heap h5 hr, h6⟩
theorem FnRangeD.below {M : MapLaw P k κ α} {w w' : World} {b r : Nat} {f : κ → Option α} {done : List κ} {cnt : Nat} (h : FnRangeD M w b r f done cnt) (ho : Below w.heap.size w w') : FnRangeD M w' b r f done cnt := h.out (F := fun _ => False) (Out.of ho) id id
theorem FnRangeD.congr {M : MapLaw P k κ α} {w : World} {b r : Nat} {f g : κ → Option α} {done : List κ} {cnt : Nat} (h : FnRangeD M w b r f done cnt) (e : ∀ s, f s = g s) : FnRangeD M w b r g done cnt := by
  obtain rfl : f = g := funext e
  exact h

theorem FnRangeD.next {M : MapLaw P k κ α} {w : World} {b r : Nat} {f : κ → Option α} {done : List κ} {cnt : Nat} (h : FnRangeD M w b r f done cnt) (ty : TypeId) :
    ((∀ s, f s ≠ none → s ∈ done) ∧ (Instr.next (.pointer (some ⟨r, 0, none⟩)) false ty).run P w = .ok (.tuple #[.bool false]) w) ∨
    ∃ s a w' cnt', f s = some a ∧ M.ok s ∧ s ∉ done ∧ (Instr.next (.pointer (some ⟨r, 0, none⟩)) false ty).run P w = .ok (.tuple #[.bool true, M.enc s, M.val a]) w' ∧ FnRangeD M w' b r f (done ++ [s]) cnt' ∧ cnt' < cnt ∧
      Out (fun i => i = r) w w' ∧ w'.heap.size = w.heap.size ∧ (Instr.entry (.pointer (some ⟨r, 0, none⟩))).run P w' = .ok (.tuple #[M.enc s, M.val a]) w' := by
  have hne := h.ne
  obtain ⟨es, clock, since, seen, c0, hb, h2, h3, h4, hr, hold, hsc, hsk, rfl, hnd, hseen⟩ := h
  rcases run_next_at (P := P) w ty r b since c0 seen es clock hr hb hold hsc with ⟨h0, hrun⟩ | ⟨x, hx, w1, hal, hrun⟩
  · refine Or.inl ⟨fun s hs => ?_, hrun⟩
    cases hf : f s with
    | none => exact absurd hf hs
    | some a =>
      obtain ⟨x, hx, hxe⟩ := h3 s a hf
      obtain ⟨s', hs', e⟩ := (hseen x hx).1 (all_seen es seen h0 x hx)
      rw [M.inj _ _ (hxe.symm.trans e)]; exact hs'
  · obtain ⟨hxm, hxs⟩ := mem_left hx
    obtain ⟨s, a, e1, e2, hok, hf⟩ := h2 x hxm
    have hr1 : w1.heap[r]? = some (.mapIter (some b) since seen c0) := by rcases hal with rfl | rfl <;> exact hr
    have hb1 : w1.heap[b]? = some (.map es clock) := by rcases hal with rfl | rfl <;> exact hb
    have hset := heap_set (o' := .mapIter (some b) since (seen.push x.born) clock) hr1
    have hb' : (setBlock w1 r (.mapIter (some b) since (seen.push x.born) clock)).heap[b]? = some (.map es clock) := (hset.2 b (fun e1 => hne e1.symm)).trans hb1
    have hnot : s ∉ done := fun hs => by
      have := (hseen x hxm).2 ⟨s, hs, e1⟩
      rw [hxs] at this; cases this
    rw [e1, e2] at hrun
    have hent := run_entry_at (P := P) (setBlock w1 r (.mapIter (some b) since (seen.push x.born) clock)) r b since seen es clock x hset.1 hb' hxm h4.2.1
    rw [e1, e2] at hent
    refine Or.inr ⟨s, a, _, _, hf, hok, hnot, hrun, ⟨es, clock, since, seen.push x.born, clock, hb', h2, h3, h4, hset.1, hold, hsk, hsk, rfl, ?_, ?_⟩, left_shrinks es seen x hx, ?_, ?_, hent⟩
    · rw [List.nodup_append]
      exact ⟨hnd, by simp, fun y hy z hz e => hnot (by simp at hz; rw [← hz, ← e]; exact hy)⟩
    · intro y hy
      rw [contains_push]
      constructor
      · intro hc
        simp only [Bool.or_eq_true, beq_iff_eq] at hc
        rcases hc with hc | hc
        · obtain ⟨s', hs', e⟩ := (hseen y hy).1 hc
          exact ⟨s', List.mem_append_left _ hs', e⟩
        · obtain rfl := born_inj h4.2.1 hy hxm hc
          exact ⟨s, by simp, e1⟩
      · rintro ⟨s', hs', e⟩
        simp only [Bool.or_eq_true, beq_iff_eq]
        rcases List.mem_append.1 hs' with hs' | hs'
        · exact Or.inl ((hseen y hy).2 ⟨s', hs', e⟩)
        · obtain rfl : s' = s := by simpa using hs'
          refine Or.inr ?_
          obtain rfl := entry_eq_of_key ((stamped_iff es clock).1 h4).2.2 hy hxm (e.trans e1.symm)
          rfl
    · rcases hal with rfl | rfl <;> exact ⟨rfl, rfl, rfl, by simp [setBlock], fun i _ hi => hset.2 i hi⟩
    · rcases hal with rfl | rfl <;> simp [setBlock]

/-- A key that has come goes. -/
theorem FnRangeD.drop [DecidableEq κ] {M : MapLaw P k κ α} {w : World} {b r : Nat} {f : κ → Option α} {done : List κ} {cnt : Nat} (h : FnRangeD M w b r f done cnt) (ht : P.underlying t = some (.map k e)) {s : κ} (hs : M.ok s) :
    ∃ w' cnt', (∀ ty, (Builtin.delete_ #[t, k] ty #[.map (some b), M.enc s]).run P w = .ok (.tuple #[]) w') ∧ FnRangeD M w' b r (updF f s none) done cnt' ∧ cnt' ≤ cnt ∧ Out (fun i => i = b) w w' ∧ w'.heap.size = w.heap.size := by
  have hne := h.ne
  obtain ⟨w', hrun, hf', ho, hsz⟩ := h.map.drop ht hs
  obtain ⟨es, clock, since, seen, c0, hb, h2, h3, h4, hr, hold, hsc, hsk, rfl, hnd, hseen⟩ := h
  have hr' := ho.heap hr hne
  obtain ⟨kl, hkey⟩ := M.key s hs
  rcases M.keyed.find w hkey es.toList (FnAt.keys h2) with ⟨h5, h6⟩ | ⟨j, e0, h5, h6, h7⟩
  · have hrun2 : ∀ ty, (Builtin.delete_ #[t, k] ty #[.map (some b), M.enc s]).run P w = .ok (.tuple #[]) (setBlock w b (.map es clock)) := fun ty => by
      simp [Builtin.delete_, run_underlying ht, MapKept.run_getObj_map hb, M.keyed.check w _ hkey, h5, MapKept.run_setObj_map _ hb, Result.andThen, setBlock]
    have he : w' = setBlock w b (.map es clock) := by
      have := (hrun 0).symm.trans (hrun2 0)
      simpa using this
    have hb' : w'.heap[b]? = some (.map es clock) := by rw [he]; exact heap_setBlock_same hb _
    have hfs : ∀ y, updF f s none y = f y := fun y => by
      by_cases e : y = s
      · rw [e, updF_same]
        cases hf : f s with
        | none => rfl
        | some a =>
          obtain ⟨x, hx, hxe⟩ := h3 s a hf
          exact absurd hxe (h6 x hx)
      · exact updF_other _ _ _ _ e
    refine ⟨w', _, hrun, FnRangeD.congr ⟨es, clock, since, seen, c0, hb', h2, h3, h4, hr', hold, hsc, hsk, rfl, hnd, hseen⟩ (fun y => (hfs y).symm), Nat.le_refl _, ho, hsz⟩
  · have hjl : j < es.toList.length := (List.getElem?_eq_some_iff.1 h6).1
    have hjs : j < es.size := by simpa using hjl
    have hrun2 : ∀ ty, (Builtin.delete_ #[t, k] ty #[.map (some b), M.enc s]).run P w = .ok (.tuple #[]) (setBlock w b (.map (es.eraseIdxIfInBounds j) clock)) := fun ty => by
      simp [Builtin.delete_, run_underlying ht, MapKept.run_getObj_map hb, M.keyed.check w _ hkey, h5, MapKept.run_setObj_map _ hb, Result.andThen, setBlock]
    have he : w' = setBlock w b (.map (es.eraseIdxIfInBounds j) clock) := by
      have := (hrun 0).symm.trans (hrun2 0)
      simpa using this
    have hb' : w'.heap[b]? = some (.map (es.eraseIdxIfInBounds j) clock) := by rw [he]; exact heap_setBlock_same hb _
    have hsub : (es.eraseIdxIfInBounds j).toList = es.toList.eraseIdx j := by
      unfold Array.eraseIdxIfInBounds
      rw [dif_pos hjs]
      simp
    have hsl : (es.eraseIdxIfInBounds j).toList.Sublist es.toList := by rw [hsub]; exact List.eraseIdx_sublist _ _
    obtain ⟨es1, clock1, g1, g2, g3, g4⟩ := hf'
    rw [hb'] at g1
    obtain ⟨rfl, rfl⟩ : es.eraseIdxIfInBounds j = es1 ∧ clock = clock1 := by simpa using g1
    refine ⟨w', _, hrun, ⟨_, clock, since, seen, c0, hb', g2, g3, g4, hr', fun x hx => hold x (hsl.subset hx), hsc, hsk, rfl, hnd, fun x hx => hseen x (hsl.subset hx)⟩, ?_, ho, hsz⟩
    have e1 : ∀ a : Array MapEntry, (leftOf a seen).size = (a.toList.filter fun e => !seen.contains e.born).length := fun a => by
      unfold leftOf
      rw [← Array.toList_filter, Array.length_toList]
    rw [e1, e1]
    exact (hsl.filter _).length_le
end Go.Proofs.YtgbcilokeiengaaDoor
namespace Go.Proofs.YtgbcilokeiengaaDoor
open Go.RowKit
open Go.Proofs.YtgbcilokeiengaaDoor.Sto (St)

/-- What is there when the sums in 'done' have been looked at: all but those of them that V lacks. -/
def Sto.keepF (S : St) (V done : List (List UInt8)) (x : List UInt8) : Option (List UInt8) := if x ∈ done ∧ x ∉ V then none else Sto.look S x
theorem Sto.keepF_nil (S : St) (V : List (List UInt8)) (x : List UInt8) : Sto.keepF S V [] x = Sto.look S x := by simp [Sto.keepF]
theorem Sto.keepF_in (S : St) (V done : List (List UInt8)) (s : List UInt8) (hs : s ∈ V) (x : List UInt8) : Sto.keepF S V done x = Sto.keepF S V (done ++ [s]) x := by
  unfold Sto.keepF
  by_cases h : x = s
  · subst h; simp [hs]
  · simp [h]
theorem Sto.keepF_out (S : St) (V done : List (List UInt8)) (s : List UInt8) (hs : s ∉ V) (x : List UInt8) : updF (Sto.keepF S V done) s none x = Sto.keepF S V (done ++ [s]) x := by
  unfold updF Sto.keepF
  by_cases h : x = s
  · subst h; simp [hs]
  · simp [h]
theorem Sto.keepF_le {S : St} {V done : List (List UInt8)} {x : List UInt8} (h : Sto.keepF S V done x ≠ none) : Sto.look S x ≠ none := by
  unfold Sto.keepF at h
  split at h
  · exact absurd rfl h
  · exact h
theorem filter_both {α : Type} (l : List α) (p : α → Bool) : l.length = (l.filter p).length + (l.filter fun a => !p a).length := by
  induction l with
  | nil => rfl
  | cons a r ih =>
    rw [List.filter_cons, List.filter_cons]
    cases p a <;> simp <;> omega
/-- At the end of the range. -/
theorem Sto.keepF_end {S : St} {l V done : List (List UInt8)} (hS : Sto.Rising S) (hV : ∀ x, x ∈ V ↔ Sto.Reach S l x) (hn : done.Nodup) (hd : ∀ s ∈ done, Sto.look S s ≠ none) (hall : ∀ s, Sto.keepF S V done s ≠ none → s ∈ done) :
    (∀ x, Sto.keepF S V done x = Sto.look (Sto.keepL S l) x) ∧ (done.filter fun s => decide (s ∉ V)).length = S.length - (Sto.keepL S l).length := by
  have hdk : ∀ x, x ∈ done ↔ x ∈ Sto.keys S := fun x => by
    rw [← Sto.look_isSome]
    constructor
    · intro h
      have := hd x h
      cases hl : Sto.look S x with
      | none => exact absurd hl this
      | some t => rfl
    · intro h
      by_cases hx : x ∈ done
      · exact hx
      · refine hall x fun e => hx ?_
        unfold Sto.keepF at e
        rw [if_neg (fun q => hx q.1)] at e
        rw [e] at h; cases h
  constructor
  · intro x
    rw [Sto.look_keepL hS]
    unfold Sto.keepF
    by_cases hr : x ∈ Sto.reachL S l
    · have hv : x ∈ V := (hV x).2 ((Sto.reachL_mem hS l x).1 hr)
      rw [if_pos hr, if_neg (fun q => q.2 hv)]
    · have hv : x ∉ V := fun q => hr ((Sto.reachL_mem hS l x).2 ((hV x).1 q))
      rw [if_neg hr]
      by_cases hx : x ∈ done
      · rw [if_pos ⟨hx, hv⟩]
      · rw [if_neg (fun q => hx q.1), Sto.look_none]
        exact fun q => hx ((hdk x).2 q)
  · have hp : done.Perm (Sto.keys S) := (List.perm_ext_iff_of_nodup hn ((Sto.keys_rise hS).imp fun h => Sto.lt_ne h)).2 hdk
    rw [(hp.filter _).length_eq]
    unfold Sto.keys Sto.keepL
    rw [List.filter_map, List.length_map]
    have h1 : S.filter ((fun s => decide (s ∉ V)) ∘ fun x => x.1) = S.filter fun a => !decide (a.1 ∈ Sto.reachL S l) := by
      refine List.filter_congr fun a _ => ?_
      have : a.1 ∈ V ↔ a.1 ∈ Sto.reachL S l := by rw [hV, Sto.reachL_mem hS]
      simp [this]
    rw [h1]
    have h2 := filter_both S (fun a => decide (a.1 ∈ Sto.reachL S l))
    omega
def StKeepPost (g m : Nat) (S : St) (l : List (List UInt8)) (w : World) (e : Ending) (w' : World) : Prop :=
  e = .returned (.int .i64 ((S.length - (Sto.keepL S l).length : Nat))) ∧ StoreAt w' g m (Sto.keepL S l) ∧ Out (fun i => i = m) w w'
/-- Between two rounds. -/
structure KeepAt (S : St) (V done : List (List UInt8)) (w wr : World) (g m r mr : Nat) (cnt : Nat) : Prop where
  range : FnRangeD storeMap wr m r (Sto.keepF S V done) done cnt
  had : ∀ s ∈ done, Sto.look S s ≠ none
  set : FnAt setMap wr mr (inV V)
  head : wr.heap[g]? = some (.cells #[.map (some m)] 62 (0, 0))
  frame : Out (fun i => i = m) w wr
theorem KeepAt.gone_in {V done : List (List UInt8)} {s : List UInt8} (h : s ∈ V) : ((done ++ [s]).filter fun s => decide (s ∉ V)) = done.filter fun s => decide (s ∉ V) := by
  rw [List.filter_append]; simp [h]
theorem KeepAt.gone_out {V done : List (List UInt8)} {s : List UInt8} (h : s ∉ V) : ((done ++ [s]).filter fun s => decide (s ∉ V)).length = (done.filter fun s => decide (s ∉ V)).length + 1 := by
  rw [List.filter_append]; simp [h]

set_option maxRecDepth 8000 in
set_option maxHeartbeats 2000000 in
theorem stkeep_any (g m : Nat) (S : St) (l : List (List UInt8)) (v : Value) (w : World) (h : StoreAt w g m S) (hv : Strs w v l) (hS : S.length ≤ 10000) (hl : l.length ≤ 10000) (hsh : ∀ x ∈ l, x.length ≤ 140737488351232) :
    Calls Tryd.prog 14 #[.pointer (some ⟨g, 0, none⟩), v] w (StKeepPost g m S l w) := by
  unfold StKeepPost
  have HR := Lib.hid (reached_any g m S l v w h hv hS hl hsh)
  have HH := Lib.hid h
  have HSL := Lib.hid hS
  clear h hv hS hl hsh
  go_enter Tryd.func14, Tryd.ntmps14
  go_wp2_with fail
  refine HR.out.mono ?_
  rintro e w1 ⟨mr, V, rfl, hmr, hm, hnd, hV, hb1⟩
  have h1 := HH.out.below hb1
  have hc := h1.cell
  obtain ⟨w2, cnt2, hrg, hfr2, hb2, hs2⟩ := h1.map.range Tryd.underlying58
  obtain ⟨r, hr⟩ : ∃ r, w1.heap.size = r := ⟨_, rfl⟩
  rw [hr] at hrg hfr2 hb2
  have HV := Lib.hid hV
  have HMR := Lib.hid hmr
  have HWR : Hid (w.heap.size ≤ r) := Lib.hid (by rw [← hr]; exact hb1.size)
  have hb2' : Below w1.heap.size w1 w2 := by rw [hr]; exact hb2
  have HK0 : Hid (KeepAt S V [] w w2 g m r mr cnt2) := Lib.hid ⟨hfr2.weak.congr (fun s => (Sto.keepF_nil S V s).symm), fun s hs => (by cases hs), hm.below hb2', (h1.below hb2').head, (Out.of hb1).trans (Out.of hb2')⟩
  clear hmr hm hnd hV h1 hb1 hfr2 hb2 hs2 hr hb2'
  go_wp2
  clear hrg hc
  go_loopw [6] (fun s wr => ∃ done cnt, KeepAt S V done w wr g m r mr cnt ∧ s = .int .i64 ((done.filter fun s => decide (s ∉ V)).length : Nat)) (fun _ wr => wr.rangeLeft m r)
  case atStart => exact ⟨[], cnt2, HK0.out, rfl⟩
  case round =>
    obtain ⟨done, cnt, hk, rfl⟩ := hrel
    have HK := Lib.hid hk
    obtain ⟨G, hG⟩ : ∃ G, (done.filter fun s => decide (s ∉ V)).length = G := ⟨_, rfl⟩
    have HG := Lib.hid hG
    rw [hG]
    have hdone : done.length ≤ 10000 := by
      have := Sto.le_of_sub (M := Sto.keys S) (l := done) (by obtain ⟨_, _, _, _, _, _, _, _, _, _, _, _, _, _, h, _⟩ := hk.range; exact h) fun x hx => (Sto.look_isSome S x).1 (by
        have := hk.had x hx
        cases hl : Sto.look S x with
        | none => exact absurd hl this
        | some t => rfl)
      have h2 := HSL.out
      simp only [Sto.keys, List.length_map] at this
      omega
    have hGb : (G : Int) ≤ 900000 := by
      have := List.length_filter_le (fun s => decide (s ∉ V)) done
      omega
    have hG0 : (0 : Int) ≤ (G : Int) := by omega
    clear HK0 hG hdone
    rcases hk.range.next 0 with ⟨hall, hrun⟩ | ⟨s, a, w3, cnt3, hf, hok, hnot, hrun, hfr3, hlt, ho, hsz, hen⟩
    · have hnx : ∀ ty, (Instr.next (.pointer (some ⟨r, 0, none⟩)) false ty).run Tryd.prog wr = _ := fun _ => hrun
      have HE := Lib.hid (Sto.keepF_end HH.out.rise HV.out (by obtain ⟨_, _, _, _, _, _, _, _, _, _, _, _, _, _, h, _⟩ := hk.range; exact h) hk.had hall)
      clear hk hall hrun
      go_wp2
      go_ret
      refine ⟨by rw [← HE.out.2, HG.out]; rfl, ⟨HK.out.head, HK.out.range.map.congr HE.out.1, Sto.keepL_rising HH.out.rise l, fun p hp => HH.out.short p (Sto.keepL_sub S l hp)⟩, HK.out.frame⟩
    · dsimp only [storeMap] at hrun hen
      have hnx : ∀ ty, (Instr.next (.pointer (some ⟨r, 0, none⟩)) false ty).run Tryd.prog wr = _ := fun _ => hrun
      have hset3 := hk.set.out ho (fun e => hk.range.no_map hk.set e)
      have hhead3 := ho.heap hk.head (fun e => hk.range.no_cells _ _ _ _ e hk.head)
      have hb4 : Below w3.heap.size w3 (w3.alloc (.cells #[] 69)) := (Below.refl _ w3).alloc (Nat.le_refl _) _
      have hlu := lookU hset3 hok
      have hlk : Sto.look S s ≠ none := Sto.keepF_le (by rw [hf]; simp)
      have hfrm3 : Out (fun i => i = m) w w3 := ⟨ho.os.trans hk.frame.os, ho.tape.trans hk.frame.tape, ho.output.trans hk.frame.output, Nat.le_trans hk.frame.size ho.size, fun i hi hF => (ho.block i (Nat.lt_of_lt_of_le hi hk.frame.size) (fun e => by have := HWR.out; omega)).trans (hk.frame.block i hi hF)⟩
      have HSET := Lib.hid (hset3.below hb4)
      have HHD := Lib.hid ((hb4.block _ (lt_of_heap hhead3)).trans hhead3)
      have HFM := Lib.hid (hfrm3.trans (Out.of hb4))
      have HRG := Lib.hid (hfr3.below hb4)
      have HHAD : Hid (∀ x ∈ done ++ [s], Sto.look S x ≠ none) := Lib.hid (fun x hx => by
        rcases List.mem_append.1 hx with hx | hx
        · exact hk.had x hx
        · obtain rfl : x = s := by simpa using hx
          exact hlk)
      have HLT : Hid (cnt3 < wr.rangeLeft m r) := Lib.hid (by rw [hk.range.left_eq]; exact hlt)
      have HOK := Lib.hid hok
      have hcell4 := cell_of_row _ _ 0 _ _ _ HHD.out
      simp only [List.getElem?_toArray, List.getElem?_cons_zero] at hcell4
      clear hk hf hnot hrun hfr3 hlt ho hsz hset3 hhead3 hb4 hlk hfrm3 hok
      by_cases hin : s ∈ V
      · rw [decide_eq_true hin] at hlu
        have HIN := Lib.hid hin
        clear hin
        go_wp2
        refine ⟨⟨done ++ [s], cnt3, ⟨HRG.out.congr (Sto.keepF_in S V done s HIN.out), HHAD.out, HSET.out, HHD.out, HFM.out⟩, ?_⟩, ?_⟩
        · rw [KeepAt.gone_in HIN.out, HG.out]
        · rw [HRG.out.left_eq]; exact HLT.out
      · rw [decide_eq_false hin] at hlu
        have HIN := Lib.hid hin
        obtain ⟨w5, cnt5, hrd, hfr5, hle5, ho5, hsz5⟩ := HRG.out.drop Tryd.underlying58 HOK.out
        dsimp only [storeMap] at hrd
        have HRD := Lib.hid hrd
        have HK5 : Hid (KeepAt S V (done ++ [s]) w w5 g m r mr cnt5) := Lib.hid ⟨hfr5.congr (Sto.keepF_out S V done s hin), HHAD.out, HSET.out.out ho5 (fun e => by have := HMR.out; have := HH.out.mlt; omega), ho5.heap HHD.out (fun e => HRG.out.map.no_cells _ _ _ _ e HHD.out), HFM.out.trans ho5⟩
        have HLE := Lib.hid hle5
        clear hin hrd hfr5 hle5 ho5 hsz5
        go_wp2_with (at_delete; refine wpList_delete_run rfl _ _ _ _ rfl (.map (some m)) (.string ⟨s.toArray⟩) (by rfl) (by rfl) HRD.out ?_)
        refine ⟨⟨done ++ [s], cnt5, HK5.out, ?_⟩, ?_⟩
        · rw [KeepAt.gone_out HIN.out, HG.out]
          go_num
        · rw [HK5.out.range.left_eq]; exact Nat.lt_of_le_of_lt HLE.out HLT.out
end Go.Proofs.YtgbcilokeiengaaDoor
namespace Go.Proofs.YtgbcilokeiengaaDoor
open Go.RowKit
open Go.Proofs.YtgbcilokeiengaaDoor.Sto (St)

/-- What came, what is there. -/
structure Sto.Came (S : St) (C : List (List UInt8)) : Prop where
  sums : ∀ p ∈ S, p.1 = Sto.sumOf p.2
  keys : ∀ x, x ∈ Sto.keys S ↔ x ∈ C
theorem Sto.Came.nil : Sto.Came [] [] := ⟨fun p hp => (by cases hp), fun x => by simp [Sto.keys]⟩
theorem Sto.Came.put {S : St} {C : List (List UInt8)} (h : Sto.Came S C) (hS : Sto.Rising S) (t : List UInt8) : Sto.Came (Sto.put S (Sto.sumOf t) t) (C ++ [Sto.sumOf t]) := by
  refine ⟨fun p hp => ?_, fun x => ?_⟩
  · rcases Sto.put_mem hp with hp | rfl
    · exact h.sums p hp
    · dsimp only
  · rw [Sto.put_keys hS, h.keys]
    simp only [List.mem_append, List.mem_singleton]
    exact Or.comm
theorem Sto.Came.short {S : St} {C : List (List UInt8)} (h : Sto.Came S C) : ∀ x ∈ C, x.length = 32 := fun x hx => by
  obtain ⟨p, hp, rfl⟩ := List.mem_map.1 ((h.keys x).2 hx)
  rw [h.sums p hp, Sto.sumOf_len]
theorem Sto.Came.len {S : St} {C : List (List UInt8)} (h : Sto.Came S C) (hS : Sto.Rising S) : S.length ≤ C.length := by
  have := Sto.le_of_sub (M := C) (l := Sto.keys S) ((Sto.keys_rise hS).imp fun h => Sto.lt_ne h) fun x hx => (h.keys x).1 hx
  simpa [Sto.keys] using this
theorem Tab.outMap {P : Program} {k : TypeId} {κ α : Type} {M : MapLaw P k κ α} {w w' : World} {m : Nat} {f : κ → Option α} (hT : Tab w) (h : FnAt M w m f) (ho : Out (fun i => i = m) w w') : Tab w' := fun i hi => by
  refine ho.cell (hT i hi) fun e => ?_
  obtain ⟨es, c, he, _⟩ := h
  have hk := hT i hi
  have e' : (0 : Nat) = m := e
  subst e'
  simp [World.cell?, he] at hk
def FillPost (w : World) (e : Ending) (w' : World) : Prop :=
  ∃ g m S C z, e = .returned (.tuple #[.pointer (some ⟨g, 0, none⟩), z]) ∧ w.heap.size ≤ g ∧ w.heap.size ≤ m ∧ StoreAt w' g m S ∧ Own w' w.heap.size z C ∧ Sto.Came S C ∧ C.length ≤ 30 ∧ Below w.heap.size w w'

set_option maxRecDepth 8000 in
set_option maxHeartbeats 2000000 in
theorem stfill_any (L : List ActN) (v : Value) (w : World) (hv : Acts w v L) (hlen : L.length ≤ 4000000000000) (hT : Tab w) :
    Calls Tryd.prog 7 #[v] w (FillPost w) := by
  unfold FillPost
  have HV := Lib.hid hv
  have HT := Lib.hid hT
  have HLL := Lib.hid hlen
  obtain ⟨A, cap, rfl⟩ := hv.form
  obtain ⟨i0, hi, hz0, hz1, hz2⟩ := info_parts Tryd.infoStr
  clear hv hT
  go_enter Tryd.func7, Tryd.ntmps7
  go_wp2_with fail
  refine (stnew_any _).mono ?_
  rintro e w1 ⟨g, m, rfl, hg, hm, hst, hb⟩
  obtain ⟨B, hB⟩ : ∃ B, w.heap.size = B := ⟨_, rfl⟩
  rw [hB] at hg hm hb
  have HBS := Lib.hid hB
  have HG := Lib.hid hg
  have HM := Lib.hid hm
  have HS0 := Lib.hid hst
  have HB0 := Lib.hid hb
  clear hg hm hst hb hB
  go_wp2
  go_loopw [5, 6] (fun sv i wr => ∃ (s : Value) (k : Nat) (C : List (List UInt8)) (S : St), s = sv ∧ k ≤ L.length ∧ k ≤ 30 ∧ i = .int .i64 k ∧ StoreAt wr g m S ∧ Own wr B s C ∧ Sto.Came S C ∧ C.length ≤ k ∧ Below B w wr) (fun _ i _ => L.length - (intOf i).toNat)
  case atStart => exact ⟨_, 0, [], [], rfl, Nat.zero_le _, by omega, rfl, HS0.out, Own.nil _ _, Sto.Came.nil, Nat.le_refl _, HB0.out⟩
  case round =>
    obtain ⟨s, k, C, S, rfl, hk, hk30, rfl, hst, hown, hcame, hCk, hb⟩ := hrel
    have HST := Lib.hid hst
    have HOW := Lib.hid hown
    have HCA := Lib.hid hcame
    have HB := Lib.hid hb
    have HBr : Hid (B ≤ wr.heap.size) := Lib.hid (by have := hb.size; have := HBS.out; omega)
    clear HS0 HB0
    by_cases hlt : k < L.length ∧ k < 30
    · obtain ⟨hlt, h30⟩ := hlt
      have h1 : (k : Int) < (L.length : Int) := by omega
      have h2 : (k : Int) < 30 := by omega
      have h0 : (0 : Int) ≤ (k : Int) := by omega
      obtain ⟨b, o, rfl, hbl, n0, n1, n2, n3⟩ := HV.out.at (by rw [HBS.out]; exact hb) k hlt
      have HTX := Lib.hid (fun w' (h : Below wr.heap.size wr w') => text_any' L[k] C s w' (hown.below h).strs (by omega) (fun x hx => by have := hcame.short x hx; omega))
      have HTL := Lib.hid (Sto.textP_len L[k] C (fun x hx => by have := hcame.short x hx; omega))
      obtain ⟨X, hX⟩ : ∃ X, Sto.textP L[k] C = X := ⟨_, rfl⟩
      rw [hX] at HTX HTL
      unfold actcl at HTX
      obtain ⟨⟨kd, tx, a, b2⟩, hn⟩ : ∃ n, L[k] = n := ⟨_, rfl⟩
      rw [hn] at n0 n1 n2 n3 HTX
      dsimp only at n0 n1 n2 n3 HTX
      have HCL : Hid (C.length ≤ 30) := Lib.hid (by omega)
      have HCk := Lib.hid hCk
      clear hst hown hcame hb hX hn hCk hk30
      by_cases hkd : kd < 2
      · go_wp2_with fail
        refine (HTX.out _ (Below.refl _ _)).mono ?_
        rintro e w2 ⟨rfl, hb2⟩
        have HB2 : Hid (Below B w w2) := Lib.hid (HB.out.trans (hb2.mono HBr.out))
        have HS2 := Lib.hid (HST.out.below hb2)
        have HO2 := Lib.hid (HOW.out.below hb2)
        have hT2 : Tab w2 := HT.out.below (by rw [HBS.out]; exact HB2.out)
        have HP := Lib.hid (stput_any g m S X w2 HS2.out hT2 (by have := HTL.out; omega))
        clear hb2 hT2 n0 n1 n2 n3
        go_wp2_with fail
        refine HP.out.mono ?_
        rintro e w3 ⟨rfl, hst3, ho3⟩
        have HS3 := Lib.hid hst3
        have HO3 : Hid (Own w3 B s C) := Lib.hid (row_out HO2.out ho3 (fun j cs t f e => HS2.out.map.no_cells _ _ _ _ e))
        have HB3 : Hid (Below B w w3) := Lib.hid (HB2.out.trans (ho3.below (fun j e => by have := HM.out; omega) (Nat.le_trans (by rw [← HBS.out]; exact Nat.le_refl _) HB2.out.size)))
        have HB3s : Hid (B ≤ w3.heap.size) := Lib.hid (by have := HB3.out.size; have := HBS.out; omega)
        obtain ⟨x, hx⟩ : ∃ x, Sto.sumOf X = x := ⟨_, rfl⟩
        have HCN : Hid (Sto.Came (Sto.put S x X) (C ++ [x])) := Lib.hid (by rw [← hx]; exact HCA.out.put HS2.out.rise X)
        rw [hx] at HS3 ⊢
        clear hst3 ho3 hx
        go_wp2_with (at_builtin; refine wpList_append_lies _ rfl _ _ _ rfl B 9 i0 (.string ⟨#[]⟩) 1 16 Tryd.underlying25 hi hz0 hz1 hz2 rfl (by decide) s C.length (scells C) (by rfl) (World.ownsRow.alloc HO3.out _) ⟨w3.heap.size, 0, none⟩ 1 1 (scells [x]) (by rfl) rfl (World.news_of_block (heap_new_at _ _ _ rfl)) (by simp [scells, Value.oneCell']) (by decide) (by have := HCL.out; unfold maxLen; omega) (by have := HCL.out; omega) (by have := HB3s.out; simp; omega) (w3.heap.size + 1) (by simp) ?_; intro g' cap' w5 hown5 hgrow5 hat5 hlt5)
        have ha : Below w3.heap.size w3 (w3.alloc (.cells #[.string ⟨x.toArray⟩] 9)) := (Below.refl _ w3).alloc (Nat.le_refl _) _
        have hB5 : Below B w w5 := HB3.out.trans (((Out.of ha).trans (Out.grown hgrow5 (F := fun j => s.ownBlock = some j) (fun j e => e))).below (fun j hj => (HO3.out.lt j hj).1) HB3s.out)
        have hS3a := HS3.out.below ha
        have hO3a := HO3.out.below ha
        have hS5 : StoreAt w5 g m (Sto.put S x X) := hS3a.out (Out.grown hgrow5 (F := fun j => s.ownBlock = some j) (fun j e => e)) (fun e => by
          rcases hO3a.2 with ⟨rfl, _⟩ | ⟨g1, c1, cur, rfl, _, hh, _⟩
          · simp [Value.ownBlock] at e
          · have e1 : g1 = g := by simpa [Value.ownBlock] using e
            subst e1
            have := hS3a.head
            rw [hh] at this
            simp at this) (fun e => by
          rcases hO3a.2 with ⟨rfl, _⟩ | ⟨g1, c1, cur, rfl, _, hh, _⟩
          · simp [Value.ownBlock] at e
          · have e1 : g1 = m := by simpa [Value.ownBlock] using e
            subst e1
            exact hS3a.map.no_cells _ _ _ _ rfl hh)
        refine ⟨⟨_, k + 1, C ++ [x], _, rfl, by omega, by omega, by go_num, hS5, ?_, HCN.out, by have := HCk.out; simp; omega, hB5⟩, by simp [intOf]; omega⟩
        unfold Own
        rw [scells_append, List.length_append]
        exact hown5
      · go_wp2
        exact ⟨⟨_, k + 1, C, S, rfl, by omega, by omega, by go_num, HST.out, HOW.out, HCA.out, by have := HCk.out; omega, HB.out⟩, by simp [intOf]; omega⟩
    · have hfin : Hid (C.length ≤ 30) := Lib.hid (by omega)
      have hend : FillPost w (.returned (.tuple #[.pointer (some ⟨g, 0, none⟩), s])) wr := ⟨g, m, S, C, s, rfl, by rw [HBS.out]; exact HG.out, by rw [HBS.out]; exact HM.out, HST.out, by rw [HBS.out]; exact HOW.out, HCA.out, hfin.out, by rw [HBS.out]; exact HB.out⟩
      have HE := Lib.hid hend
      unfold FillPost at HE
      clear hend hst hown hcame hb
      by_cases h1 : k < L.length
      · have h2 : (k : Int) < (L.length : Int) := by omega
        have h3 : ¬ ((k : Int) < 30) := by omega
        clear hlt
        go_wp2
        go_ret2
        exact HE.out
      · have h2 : ¬ ((k : Int) < (L.length : Int)) := by omega
        clear hlt
        go_wp2
        go_ret2
        exact HE.out
end Go.Proofs.YtgbcilokeiengaaDoor
namespace Go.Proofs.YtgbcilokeiengaaDoor
open Go.RowKit
open Go.Proofs.YtgbcilokeiengaaDoor.Sto (St)

set_option maxRecDepth 100000 in
theorem Sto.sum_x : (Sto.sumOf [120]).take 1 = [35] := by kernel_rfl
set_option maxRecDepth 100000 in
theorem Sto.sum_y : (Sto.sumOf [121]).take 1 = [249] := by kernel_rfl
theorem Sto.x_ne_y : Sto.sumOf [120] ≠ Sto.sumOf [121] := fun h => by
  have h1 := Sto.sum_x
  rw [h, Sto.sum_y] at h1
  simp at h1
set_option maxRecDepth 100000 in
theorem Sto.kids_x : Sto.kidsT [120] = [] := by decide +kernel
def Sto.wS (x y : List UInt8) : St := Sto.put (Sto.put [] x [120]) y [121]
theorem Sto.wS_rise (x y : List UInt8) : Sto.Rising (Sto.wS x y) := Sto.put_rising (Sto.put_rising Sto.rising_nil _ _) _ _
theorem Sto.wS_look (x y z : List UInt8) (h : x ≠ y) : Sto.look (Sto.wS x y) z = if z = y then some [121] else if z = x then some [120] else none := by
  have e0 : ∀ z, Sto.look (Sto.put [] x [120]) z = if z = x then some [120] else none := fun z => by
    rw [Sto.look_put Sto.rising_nil]
    simp only [Sto.look, Option.getD]
  unfold Sto.wS
  rw [Sto.look_put (Sto.put_rising Sto.rising_nil _ _), e0 y, e0 z, if_neg (fun q => h q.symm : ¬ y = x)]
  rfl
theorem Sto.wS_len (x y : List UInt8) (h : x ≠ y) : (Sto.wS x y).length = 2 := by
  unfold Sto.wS
  simp only [Sto.put]
  rw [if_neg (fun q => h q.symm)]
  split <;> rfl
theorem Sto.wS_reach (x y : List UInt8) (h : x ≠ y) : Sto.reachL (Sto.wS x y) [x] = [x] := by
  have hx : Sto.look (Sto.wS x y) x = some [120] := by rw [Sto.wS_look x y x h, if_neg h, if_pos rfl]
  refine (Sto.reachL_only (Sto.wS_rise x y) [x] (by simp) fun z => ?_).symm
  constructor
  · intro hz
    obtain rfl : z = x := by simpa using hz
    exact .here (by simp) ((Sto.look_isSome _ _).1 (by rw [hx]; rfl))
  · intro hz
    induction hz with
    | here h1 _ => exact h1
    | step h1 h2 h3 h4 ih =>
      obtain rfl := List.mem_singleton.1 ih
      rw [hx] at h2
      obtain rfl := Option.some.inj h2
      rw [Sto.kids_x] at h3
      cases h3
theorem Sto.wS_keep (x y : List UInt8) (h : x ≠ y) : (Sto.keepL (Sto.wS x y) [x]).length = 1 ∧ Sto.look (Sto.keepL (Sto.wS x y) [x]) x = some [120] ∧ Sto.look (Sto.keepL (Sto.wS x y) [x]) y = none := by
  refine ⟨by rw [Sto.keepL_len (Sto.wS_rise x y), Sto.wS_reach x y h]; rfl, ?_, ?_⟩
  · rw [Sto.look_keepL (Sto.wS_rise x y), Sto.wS_reach x y h, if_pos (by simp), Sto.wS_look x y x h, if_neg h, if_pos rfl]
  · rw [Sto.look_keepL (Sto.wS_rise x y), Sto.wS_reach x y h, if_neg (by simpa using fun q => h q.symm)]
theorem Out.belowM {B m : Nat} {w w1 w2 : World} (hb : Below B w w1) (ho : Out (fun i => i = m) w1 w2) (hm : B ≤ m) (hB : B ≤ w1.heap.size) : Below B w w2 := hb.trans (ho.below (fun j e => by omega) hB)

set_option maxRecDepth 100000 in
set_option maxHeartbeats 4000000 in
theorem stworks_any (w : World) (hT : Tab w) : Calls Tryd.prog 6 #[] w fun e w' => e = .returned (.bool true) ∧ Below w.heap.size w w' := by
  have HT := Lib.hid hT
  have hne := Sto.x_ne_y
  have hxl := Sto.sumOf_len [120]
  have HP1 := Lib.hid (fun g m S w h hT => stput_any g m S [120] w h hT (by simp))
  have HP2 := Lib.hid (fun g m S w h hT => stput_any g m S [121] w h hT (by simp))
  unfold StPutPost at HP1 HP2
  have hyl := Sto.sumOf_len [121]
  obtain ⟨x, hx⟩ : ∃ x, Sto.sumOf [120] = x := ⟨_, rfl⟩
  obtain ⟨y, hy⟩ : ∃ y, Sto.sumOf [121] = y := ⟨_, rfl⟩
  rw [hx] at hne hxl HP1
  rw [hy] at hne hyl HP2
  have hxl' : (x.length : Int) = 32 := by omega
  have hxy : (x == y) = false := by simpa using hne
  have HK := Lib.hid (Sto.wS_keep x y hne)
  have HL2 := Lib.hid (Sto.wS_len x y hne)
  have HXL := Lib.hid hxl
  have HYL := Lib.hid hyl
  clear hT hne hxl hyl hx hy
  go_enter Tryd.func6, Tryd.ntmps6
  go_wp2_with fail
  refine (stnew_any _).mono ?_
  rintro e w1 ⟨g, m, rfl, hg, hm, hs1, hb1⟩
  have HS1 := Lib.hid hs1
  have HB1 := Lib.hid hb1
  have HM := Lib.hid hm
  have HT1 := Lib.hid (HT.out.below hb1)
  have HZ1 := Lib.hid hb1.size
  clear hg hm hs1 hb1
  go_wp2_with fail
  refine (HP1.out g m _ _ HS1.out HT1.out).mono ?_
  rintro e w2 ⟨rfl, hs2, ho2⟩
  have HS2 := Lib.hid hs2
  have HB2 := Lib.hid (Out.belowM HB1.out ho2 HM.out HZ1.out)
  have HT2 := Lib.hid (HT.out.below HB2.out)
  have HZ2 := Lib.hid HB2.out.size
  clear hs2 ho2
  go_wp2_with fail
  refine (HP2.out g m _ _ HS2.out HT2.out).mono ?_
  rintro e w3 ⟨rfl, hs3, ho3⟩
  have HS3 : Hid (StoreAt w3 g m (Sto.wS x y)) := Lib.hid hs3
  have HB3 := Lib.hid (Out.belowM HB2.out ho3 HM.out HZ2.out)
  have HZ3 := Lib.hid HB3.out.size
  clear hs3 ho3
  have hba : Below w3.heap.size w3 (w3.alloc (.cells #[.string ⟨x.toArray⟩] 9)) := (Below.refl _ w3).alloc (Nat.le_refl _) _
  have hst : Strs (w3.alloc (.cells #[.string ⟨x.toArray⟩] 9)) (.slice (some ⟨w3.heap.size, 0, none⟩) 1 1) [x] := ⟨some ⟨w3.heap.size, 0, none⟩, 1, rfl, fun i hi => by
    obtain rfl : i = 0 := by simpa using hi
    exact ⟨_, rfl, by rw [Addr.add_mid]; exact cell_of_row _ _ 0 _ _ _ (heap_alloc_new w3 _)⟩⟩
  have HKP := Lib.hid (stkeep_any g m (Sto.wS x y) [x] _ _ (HS3.out.below hba) hst (by rw [HL2.out]; omega) (by simp) (by intro z hz; obtain rfl : z = x := (by simpa using hz); have := HXL.out; omega))
  have HBA := Lib.hid (HB3.out.trans (hba.mono HZ3.out))
  unfold StKeepPost at HKP
  rw [HL2.out, HK.out.1, show (2 - 1 : Nat) = 1 from rfl] at HKP
  clear hba hst
  go_wp2_with fail
  refine HKP.out.mono ?_
  rintro e w4 ⟨rfl, hs4, ho4⟩
  have HS4 := Lib.hid hs4
  have HB4 := Lib.hid (Out.belowM HBA.out ho4 HM.out HBA.out.size)
  have HZ4 := Lib.hid HB4.out.size
  have HG1' := Lib.hid (fun w h => stget_any g m (Sto.keepL (Sto.wS x y) [x]) x w h (by have := HXL.out; omega))
  have HG2' := Lib.hid (fun w h => stget_any g m (Sto.keepL (Sto.wS x y) [x]) y w h (by have := HYL.out; omega))
  have HND' := Lib.hid (fun w h => stnode_any g m (Sto.keepL (Sto.wS x y) [x]) y w h (by have := HYL.out; omega))
  unfold Sto.nodeOf at HND'
  rw [HK.out.2.1] at HG1'
  rw [HK.out.2.2] at HG2' HND'
  simp only [Option.getD_some, Option.isSome_some] at HG1'
  simp only [Option.getD_none, Option.isSome_none] at HG2'
  dsimp only at HND'
  have HON := Lib.hid (ncl_one Nd.zero)
  have HSN : Hid ((ncl Nd.zero).toArray.size = 19) := Lib.hid rfl
  unfold ndval at HND'
  obtain ⟨A, hA⟩ : ∃ A, (ncl Nd.zero).toArray = A := ⟨_, rfl⟩
  rw [hA] at HND' HON HSN
  have HI : Hid ((Tryd.prog.info? 48).map (·.size) = some A.size) := Lib.hid (by rw [HSN.out]; kernel_rfl)
  clear hs4 ho4 hA
  go_wp2_with fail
  refine (HG1'.out _ HS4.out).mono ?_
  rintro e w5 ⟨rfl, hb5⟩
  have HS5 := Lib.hid (HS4.out.below hb5)
  have HB5 := Lib.hid (HB4.out.trans (hb5.mono HZ4.out))
  clear hb5
  go_wp2_with fail
  refine (HG2'.out _ HS5.out).mono ?_
  rintro e w6 ⟨rfl, hb6⟩
  have HS6 := Lib.hid (HS5.out.below hb6)
  have HB6 := Lib.hid (bchain HB5.out hb6)
  clear hb6
  go_wp2_with fail
  refine (HND'.out _ HS6.out).mono ?_
  rintro e w7 ⟨rfl, hb7⟩
  have HB7 := Lib.hid (bchain HB6.out hb7)
  have HB8 := Lib.hid (HB7.out.alloc HB7.out.size (.cells A 48))
  clear hb7
  go_wp2_with (refine wpList_store_fresh (by rfl) _ _ _ (by rfl) w7.heap.size rfl A (by rfl) (by rfl) _ _ HI.out HSN.out.symm HON.out ?_)
  go_ret
  exact ⟨rfl, HB8.out⟩
end Go.Proofs.YtgbcilokeiengaaDoor
namespace Go.Proofs.YtgbcilokeiengaaDoor
open Go.ChangeShapes Go.WideShapes Go.ChangeAt Go.RowKit

theorem gK : Tryd.prog.globalNamed "pharos/sha.constants" = some 0 := by kernel_rfl
theorem tK : (Tryd.prog.globals[0]?).map (·.type) = some 109 := by kernel_rfl
theorem cK : Tryd.prog.cellsOf 109 = 64 := by kernel_rfl
theorem cW : Tryd.prog.cellsOf 74 = 1 := by kernel_rfl
def laidK : List (String × DataW Unit) := [("pharos/sha.constants", Rows.laid_pharos_sha_constants)]
theorem tab_of_laid {W : World} (h : laidMetH Tryd.prog laidK W) : Tab W := by
  rw [MakeChecks.laidMetH_plain _ _ _ (by kernel_rfl)] at h
  obtain ⟨g, t, cs, fuel, p, hg, hty, hvar, hd⟩ := Lib.laidMet.reads h (.head _)
  obtain rfl := Option.some.inj (gK.symm.trans hg)
  obtain rfl := Option.some.inj (tK.symm.trans hty)
  have hd' : DataW.trod (fun _ => ()) Tryd.prog W 0 (fun _ => true) false fuel 109 cs.toList = some (Lib.tabData .u32 Sha.kTab, p) := hd
  have hcs := Lib.cells_of_tab Tryd.underlying109 Tryd.underlying74 cW cK hd'
  intro i hi
  have hk : i < Sha.kTab.length := hi
  rw [World.var?_cell hg hvar i, ← Array.getElem?_toList, hcs]
  simp [hk]
/-- The door's own heap meets the condition. -/
theorem door_met (os : Os) (args : Array Value) : laidMetH Tryd.prog laidK ((World.doorLaid Tryd.prog 400 os).forCall (fun _ _ => 0) ⟨#[], args, []⟩).memory :=
  laidMetH_of_parts3 (fuel := 8) (laidMet_of_run' 8 (by kernel_rfl) (by kernel_rfl)) (by kernel_rfl) (by kernel_rfl)
end Go.Proofs.YtgbcilokeiengaaDoor
namespace Go.Proofs.YtgbcilokeiengaaDoor
open Go.RowKit
open Go.Proofs.YtgbcilokeiengaaDoor.Sto (St)

theorem Strs.outMap {P : Program} {k : TypeId} {κ α : Type} {M : MapLaw P k κ α} {w w' : World} {m : Nat} {f : κ → Option α} {v : Value} {L : List (List UInt8)} (h : Strs w v L) (hf : FnAt M w m f) (ho : Out (fun i => i = m) w w') : Strs w' v L := by
  obtain ⟨A, cap, rfl, hc⟩ := h
  refine ⟨A, cap, rfl, fun i hi => ?_⟩
  obtain ⟨a, ha, hcell⟩ := hc i hi
  refine ⟨a, ha, ho.cell hcell fun e => ?_⟩
  obtain ⟨es, c, he, _⟩ := hf
  have e' : (a.add i).block = m := e
  rw [World.cell?, e', he] at hcell
  simp at hcell
theorem Own.outMap {P : Program} {k : TypeId} {κ α : Type} {M : MapLaw P k κ α} {w w' : World} {m B : Nat} {f : κ → Option α} {v : Value} {L : List (List UInt8)} (h : Own w B v L) (hf : FnAt M w m f) (ho : Out (fun i => i = m) w w') : Own w' B v L :=
  row_out h ho fun _ _ _ _ e => hf.no_cells _ _ _ _ e
theorem StoreAt.outMap {w w' : World} {g m g2 m2 : Nat} {S S2 : St} (h2 : StoreAt w g2 m2 S2) (h : StoreAt w g m S) (hne : m2 ≠ m) (ho : Out (fun i => i = m) w w') : StoreAt w' g2 m2 S2 := h2.out ho (h2.ne h) hne
end Go.Proofs.YtgbcilokeiengaaDoor
namespace Go.Proofs.YtgbcilokeiengaaDoor
open Go.RowKit

theorem Code.take_snoc_eq {L M : List (List UInt8)} {k : Nat} (h1 : k < L.length) (h2 : k < M.length) : L.take (k + 1) = M.take (k + 1) ↔ L.take k = M.take k ∧ L[k] = M[k] := by
  rw [List.take_succ_eq_append_getElem h1, List.take_succ_eq_append_getElem h2]
  constructor
  · intro h
    have := List.append_inj' h rfl
    exact ⟨this.1, by simpa using this.2⟩
  · rintro ⟨a, b⟩
    rw [a, b]

set_option maxHeartbeats 400000 in
theorem same_any (L M : List (List UInt8)) (u v : Value) (w : World) (hu : Strs w u L) (hv : Strs w v M) (hl : L.length ≤ 100000000) (hm : M.length ≤ maxLen) :
    Calls Tryd.prog 15 #[u, v] w fun x w' => x = .returned (.bool (decide (L = M))) ∧ Below w.heap.size w w' := by
  obtain ⟨A, cap, rfl, hc⟩ := hu
  obtain ⟨B, cap2, rfl, hd⟩ := hv
  unfold maxLen at hm
  by_cases he : L.length = M.length
  · have h0 : ((L.length : Int) == (M.length : Int)) = true := by rw [beq_iff_eq]; omega
    have he' := Lib.hid he
    go_enter Tryd.func15, Tryd.ntmps15
    go_wp2
    go_loopw [5, 6] (fun s i wr => ∃ k : Nat, k ≤ L.length ∧ s = .bool (decide (L.take k = M.take k)) ∧ i = .int .i64 k ∧ Below w.heap.size w wr ∧ (L.take k ≠ M.take k → L ≠ M)) (fun _ i _ => L.length - (intOf i).toNat)
    case atStart => exact ⟨0, Nat.zero_le _, by simp, rfl, Below.refl _ _, by simp⟩
    case round =>
      obtain ⟨k, hk, rfl, rfl, hbel, hno⟩ := hrel
      have HN := Lib.hid hno
      clear hno
      rcases htk : decide (L.take k = M.take k) with _ | _
      · have HT := Lib.hid htk
        clear htk
        go_wp2
        go_ret
        refine ⟨?_, hbel⟩
        have h := HN.out (of_decide_eq_false HT.out)
        rw [decide_eq_false h]
        rfl
      · have HT := Lib.hid htk
        clear htk
        by_cases hlt : k < L.length
        · have h1 : (k : Int) < (L.length : Int) := by omega
          have h2 : (k : Int) < (M.length : Int) := by omega
          obtain ⟨a, rfl, hcell⟩ := hc k hlt
          obtain ⟨b, rfl, hdell⟩ := hd k (by omega)
          have hcell1 := (hbel.cell (World.block_lt_of_cell? _ _ hcell)).trans hcell
          have hdell1 := (hbel.cell (World.block_lt_of_cell? _ _ hdell)).trans hdell
          have hsn := Lib.hid (Code.take_snoc_eq hlt (show k < M.length by omega))
          clear hc hd hcell hdell
          obtain ⟨s, hs⟩ : ∃ s, L[k] = s := ⟨_, rfl⟩
          obtain ⟨t, ht⟩ : ∃ t, M[k] = t := ⟨_, rfl⟩
          rw [hs] at hcell1 hsn
          rw [ht] at hdell1 hsn
          clear hs ht
          go_wp2
          go_quiet (fail)
          go_wp2
          go_roundw
          case rel =>
            refine ⟨k + 1, by omega, ?_, by go_num, bel_drewN hbel _, ?_⟩
            · have e := hsn.out
              have e1 := of_decide_eq_true HT.out
              by_cases hst : s = t
              · rw [decide_eq_true (e.2 ⟨e1, hst⟩)]; simp [hst]
              · rw [decide_eq_false (fun h => hst (e.1 h).2)]; simp [hst]
            · intro h hLM
              subst hLM
              exact h rfl
          case measure => simp [intOf]; omega
        · go_wp2
          go_ret
          refine ⟨?_, hbel⟩
          have e := of_decide_eq_true HT.out
          have he2 := he'.out
          rw [List.take_of_length_le (by omega), List.take_of_length_le (by omega)] at e
          rw [decide_eq_true e]
          rfl
  · have h0 : ((L.length : Int) == (M.length : Int)) = false := by rw [beq_eq_false_iff_ne]; omega
    have hne : decide (L = M) = false := decide_eq_false (fun h => he (by rw [h]))
    rw [hne]
    clear he hc hd hne
    go_enter Tryd.func15, Tryd.ntmps15
    go_wp2
    go_loop [5, 6] (fun s i => s = .bool false ∧ i = .int .i64 0) (fun _ _ => 0)
    case atStart => exact ⟨rfl, rfl⟩
    case round =>
      obtain ⟨rfl, rfl⟩ := hrel
      go_wp2
      go_ret
      exact ⟨rfl, Below.refl _ _⟩

end Go.Proofs.YtgbcilokeiengaaDoor
namespace Go.Proofs.YtgbcilokeiengaaDoor
open Go.RowKit Go.ChangeShapes Go.WideShapes

def Ints (w : World) (v : Value) (Z : List Int) : Prop :=
  ∃ (A : Option Addr) (cap : Nat), v = .slice A Z.length cap ∧ ∀ i (h : i < Z.length), ∃ a, A = some a ∧ w.cell? (a.add i) = some (.int .i64 Z[i])
theorem Ints.below {w w' : World} {v : Value} {Z : List Int} (h : Ints w v Z) (hb : Below w.heap.size w w') : Ints w' v Z := by
  obtain ⟨A, cap, rfl, hc⟩ := h
  refine ⟨A, cap, rfl, fun i hi => ?_⟩
  obtain ⟨a, ha, hcell⟩ := hc i hi
  exact ⟨a, ha, (hb.cell (World.block_lt_of_cell? _ _ hcell)).trans hcell⟩
theorem Ints.nil (w : World) : Ints w (.slice none 0 0) [] := ⟨none, 0, rfl, fun i h => absurd h (Nat.not_lt_zero i)⟩
set_option maxRecDepth 100000 in
theorem ints_open {H : Type} {enc : TypeId × Value → H} {W : World} {r : Reach} {b0 : Nat} {v : Value} {d : DataW H} {p : List MemPlace}
    (hv : Value.okWide Tryd.prog W r b0 42 v) (h : DataW.Trod enc Tryd.prog W 0 (fun _ => true) true 42 v d p) :
    ∃ Z, Ints W v Z ∧ Z.length ≤ maxLen ∧ ∀ z ∈ Z, (Lit.int .i64 z).wf = true := by
  obtain ⟨a0, len, cap, rfl⟩ := okWide_slice Tryd.underlying42 hv
  obtain ⟨fuel, hf⟩ := h
  rcases open_ints Tryd.underlying42 Tryd.underlying3 (by kernel_rfl) hf with ⟨hcs, _⟩ | ⟨x, l, c, zs, hcs, _, hl, hm, hz, _, hcell, hwz⟩
  · simp [Value.cells] at hcs
    obtain ⟨rfl, rfl, rfl⟩ := hcs
    exact ⟨[], Ints.nil W, Nat.zero_le _, fun s hs => by simp at hs⟩
  · simp [Value.cells] at hcs
    obtain ⟨rfl, rfl, rfl⟩ := hcs
    simp only [if_true] at hz
    have hlen : (zs.take len).length = len := by simp; omega
    refine ⟨zs.take len, ⟨some x, cap, by rw [hlen], fun i hi => ⟨x, rfl, ?_⟩⟩, by omega, fun z hz => hwz z (List.mem_of_mem_take hz)⟩
    rw [hlen] at hi
    rw [hcell i (by omega)]
    simp [List.getD, List.getElem?_eq_getElem (show i < zs.length by omega)]

end Go.Proofs.YtgbcilokeiengaaDoor
