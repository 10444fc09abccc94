/- MapRange, SortShelf, StoreShelf, OwnStr, StoreBase, StrClone, PowMath, PowBase, AppendArg, NodeBase, StoreCalls, NodeEq, NibFit -/
import Derived.Test.YtgbcilokeiengaaDoorPk03
import Derived.Maps.RangeRun
import Derived.Maps.Range
import Derived.Shelf.Strconv.Itoa0
import Derived.Shelf.LaysM
import Derived.Shelf.Strconv.Clone
import Derived.Shelf.Sort.Plain
import Derived.Shelf.Slices.In.SortNone
import Derived.Test.YtgbcilokeiengaaDoorChecked
import Derived.Shelf.SlIter.Sorted
import Derived.Shelf.SlMaps.Clone
import Derived.Test.YtgbcilokeiengaaDoorPk01
import Derived.Test.YtgbcilokeiengaaDoorPk02
import Derived.Deep.RegionWith
import Derived.Deep.Slices
import Derived.DataReads
import Derived.OpenShut
import Derived.SizedLaws
import Derived.Lib.LaidU8
import Derived.Maps.AppendAt
import Derived.Deep.WholeRow
import Derived.Lib.SliceRun
import Derived.Laws.StructEq
import Derived.WalkKit
import Derived.WalkSpells
import Derived.WalkLawsBesides
import Derived.ShutString
import Derived.Lib.Hide
namespace Go.Proofs.YtgbcilokeiengaaDoor
open Go.RowKit Go.MapKept
open Go.ChangeMaps (setBlock heap_setBlock_same heap_setBlock_other)
open Go.Maps (Keyed)
variable {P : Program} {k t e : TypeId} {κ α : Type}

/-- The map in block b is ranged over by the iterator in block r; the keys in 'done' have come; cnt are still to come. -/
def FnRange (M : MapLaw P k κ α) (w : World) (b r : Nat) (f : κ → Option α) (done : List κ) (cnt : Nat) : Prop :=
  ∃ es clock since seen c0, w.heap[b]? = some (.map es clock) ∧ (∀ x ∈ es.toList, ∃ s a, x.key = M.enc s ∧ x.val = M.val a ∧ M.ok s ∧ f s = some a) ∧ (∀ s a, f s = some a → ∃ x ∈ es.toList, x.key = M.enc s) ∧ Stamped es clock ∧
    w.heap[r]? = some (.mapIter (some b) since seen c0) ∧ (∀ x ∈ es.toList, x.born < since) ∧ since ≤ c0 ∧ since ≤ clock ∧ (leftOf es seen).size = cnt ∧ done.Nodup ∧ (∀ x ∈ es.toList, seen.contains x.born = true ↔ ∃ s ∈ done, x.key = M.enc s) ∧ ∀ s ∈ done, f s ≠ none

theorem FnRange.map {M : MapLaw P k κ α} {w : World} {b r : Nat} {f : κ → Option α} {done : List κ} {cnt : Nat} (h : FnRange M w b r f done cnt) : FnAt M w b f := by
  obtain ⟨es, clock, _, _, _, hb, h2, h3, h4, _⟩ := h
  exact ⟨es, clock, hb, h2, h3, h4⟩
theorem FnRange.left_eq {M : MapLaw P k κ α} {w : World} {b r : Nat} {f : κ → Option α} {done : List κ} {cnt : Nat} (h : FnRange M w b r f done cnt) : w.rangeLeft b r = cnt := by
  obtain ⟨es, clock, since, seen, c0, hb, _, _, _, hr, _, _, _, hc, _⟩ := h
  simp only [World.rangeLeft, hb, hr]
  exact hc
theorem FnRange.lt {M : MapLaw P k κ α} {w : World} {b r : Nat} {f : κ → Option α} {done : List κ} {cnt : Nat} (h : FnRange M w b r f done cnt) : r < w.heap.size := by
  obtain ⟨es, clock, since, seen, c0, hb, _, _, _, hr, _⟩ := h
  exact lt_of_heap hr
theorem FnRange.ne {M : MapLaw P k κ α} {w : World} {b r : Nat} {f : κ → Option α} {done : List κ} {cnt : Nat} (h : FnRange M w b r f done cnt) : r ≠ b := by
  obtain ⟨es, clock, since, seen, c0, hb, _, _, _, hr, _⟩ := h
  rintro rfl
  rw [hb] at hr; cases hr
theorem FnRange.no_cells {M : MapLaw P k κ α} {w : World} {b r : Nat} {f : κ → Option α} {done : List κ} {cnt : Nat} (h : FnRange M w b r f done cnt) (j : Nat) (cs : Array Value) (t : TypeId) (fr : Nat × Nat) (hk : j = r) : w.heap[j]? ≠ some (.cells cs t fr) := by
  subst hk
  obtain ⟨es, clock, since, seen, c0, hb, _, _, _, hr, _⟩ := h
  rw [hr]; simp
theorem FnRange.out {M : MapLaw P k κ α} {F : Nat → Prop} {w w' : World} {b r : Nat} {f : κ → Option α} {done : List κ} {cnt : Nat} (h : FnRange M w b r f done cnt) (ho : Out F w w') (hb : ¬ F b) (hr : ¬ F r) : FnRange M w' b r f done cnt := by
  obtain ⟨es, clock, since, seen, c0, h1, h2, h3, h4, h5, h6⟩ := h
  exact ⟨es, clock, since, seen, c0, ho.heap h1 hb, h2, h3, h4, ho.heap h5 hr, h6⟩
theorem FnRange.below {M : MapLaw P k κ α} {w w' : World} {b r : Nat} {f : κ → Option α} {done : List κ} {cnt : Nat} (h : FnRange M w b r f done cnt) (ho : Below w.heap.size w w') : FnRange M w' b r f done cnt := h.out (F := fun _ => False) (Out.of ho) id id

theorem FnAt.range {M : MapLaw P k κ α} {w : World} {b : Nat} {f : κ → Option α} (h : FnAt M w b f) (ht : P.underlying t = some (.map k e)) :
    ∃ w' cnt, (Instr.range t (.map (some b))).run P w = .ok (.pointer (some ⟨w.heap.size, 0, none⟩)) w' ∧ FnRange M w' b w.heap.size f [] cnt ∧ Below w.heap.size w w' ∧ w'.heap.size = w.heap.size + 1 := by
  obtain ⟨es, clock, hb, h2, h3, h4⟩ := h
  refine ⟨_, _, run_range_map w t k e b es clock ht hb, ⟨es, clock, clock, #[], clock, heap_old_at _ hb, h2, h3, h4, heap_new_at w _ _ rfl, h4.1, Nat.le_refl _, Nat.le_refl _, rfl, List.nodup_nil, fun x _ => by simp, fun s hs => by cases hs⟩, (Below.refl _ w).alloc (Nat.le_refl _) _, by simp⟩

theorem FnRange.next {M : MapLaw P k κ α} {w : World} {b r : Nat} {f : κ → Option α} {done : List κ} {cnt : Nat} (h : FnRange M w b r f done cnt) (ty : TypeId) :
    ((∀ s, f s ≠ none → s ∈ done) ∧ (Instr.next (.pointer (some ⟨r, 0, none⟩)) false ty).run P w = .ok (.tuple #[.bool false]) w) ∨
    ∃ s a w' cnt', f s = some a ∧ M.ok s ∧ s ∉ done ∧ (Instr.next (.pointer (some ⟨r, 0, none⟩)) false ty).run P w = .ok (.tuple #[.bool true, M.enc s, M.val a]) w' ∧ FnRange M w' b r f (done ++ [s]) cnt' ∧ cnt' < cnt ∧
      Out (fun i => i = r) w w' ∧ w'.heap.size = w.heap.size ∧ (Instr.entry (.pointer (some ⟨r, 0, none⟩))).run P w' = .ok (.tuple #[M.enc s, M.val a]) w' := by
  have hne := h.ne
  obtain ⟨es, clock, since, seen, c0, hb, h2, h3, h4, hr, hold, hsc, hsk, rfl, hnd, hseen, hdone⟩ := h
  rcases run_next_at (P := P) w ty r b since c0 seen es clock hr hb hold hsc with ⟨h0, hrun⟩ | ⟨x, hx, w1, hal, hrun⟩
  · refine Or.inl ⟨fun s hs => ?_, hrun⟩
    cases hf : f s with
    | none => exact absurd hf hs
    | some a =>
      obtain ⟨x, hx, hxe⟩ := h3 s a hf
      obtain ⟨s', hs', e⟩ := (hseen x hx).1 (all_seen es seen h0 x hx)
      rw [M.inj _ _ (hxe.symm.trans e)]; exact hs'
  · obtain ⟨hxm, hxs⟩ := mem_left hx
    obtain ⟨s, a, e1, e2, hok, hf⟩ := h2 x hxm
    have hr1 : w1.heap[r]? = some (.mapIter (some b) since seen c0) := by rcases hal with rfl | rfl <;> exact hr
    have hb1 : w1.heap[b]? = some (.map es clock) := by rcases hal with rfl | rfl <;> exact hb
    have hset := heap_set (o' := .mapIter (some b) since (seen.push x.born) clock) hr1
    have hb' : (setBlock w1 r (.mapIter (some b) since (seen.push x.born) clock)).heap[b]? = some (.map es clock) := (hset.2 b (fun e1 => hne e1.symm)).trans hb1
    have hnot : s ∉ done := fun hs => by
      have := (hseen x hxm).2 ⟨s, hs, e1⟩
      rw [hxs] at this; cases this
    rw [e1, e2] at hrun
    have hent := run_entry_at (P := P) (setBlock w1 r (.mapIter (some b) since (seen.push x.born) clock)) r b since seen es clock x hset.1 hb' hxm h4.2.1
    rw [e1, e2] at hent
    refine Or.inr ⟨s, a, _, _, hf, hok, hnot, hrun, ⟨es, clock, since, seen.push x.born, clock, hb', h2, h3, h4, hset.1, hold, hsk, hsk, rfl, ?_, ?_, ?_⟩, left_shrinks es seen x hx, ?_, ?_, hent⟩
    · rw [List.nodup_append]
      exact ⟨hnd, by simp, fun y hy z hz e => hnot (by simp at hz; rw [← hz, ← e]; exact hy)⟩
    · intro y hy
      rw [contains_push]
      constructor
      · intro hc
        simp only [Bool.or_eq_true, beq_iff_eq] at hc
        rcases hc with hc | hc
        · obtain ⟨s', hs', e⟩ := (hseen y hy).1 hc
          exact ⟨s', List.mem_append_left _ hs', e⟩
        · obtain rfl := born_inj h4.2.1 hy hxm hc
          exact ⟨s, by simp, e1⟩
      · rintro ⟨s', hs', e⟩
        simp only [Bool.or_eq_true, beq_iff_eq]
        rcases List.mem_append.1 hs' with hs' | hs'
        · exact Or.inl ((hseen y hy).2 ⟨s', hs', e⟩)
        · obtain rfl : s' = s := by simpa using hs'
          refine Or.inr ?_
          obtain rfl := entry_eq_of_key ((stamped_iff es clock).1 h4).2.2 hy hxm (e.trans e1.symm)
          rfl
    · intro s' hs'
      rcases List.mem_append.1 hs' with hs' | hs'
      · exact hdone s' hs'
      · obtain rfl : s' = s := by simpa using hs'
        rw [hf]; simp
    · rcases hal with rfl | rfl <;> exact ⟨rfl, rfl, rfl, by simp [setBlock], fun i _ hi => hset.2 i hi⟩
    · rcases hal with rfl | rfl <;> simp [setBlock]

/-- The keys, in some order: as many as the map is long. -/
theorem FnAt.len {M : MapLaw P k κ α} {w : World} {b : Nat} {f : κ → Option α} (h : FnAt M w b f) (ht : P.underlying t = some (.map k e)) :
    ∃ ks : List κ, ks.Nodup ∧ (∀ s, s ∈ ks ↔ f s ≠ none) ∧ ∀ ty, (Builtin.len_ #[t] ty #[.map (some b)]).run P w = .ok (.int .i64 (ks.length : Nat)) w := by
  obtain ⟨es, clock, hb, h2, h3, h4⟩ := h
  have hex : ∀ l : List MapEntry, (∀ x ∈ l, ∃ s a, x.key = M.enc s ∧ x.val = M.val a ∧ M.ok s ∧ f s = some a) → ∃ ks : List κ, l.map (·.key) = ks.map M.enc ∧ ∀ s ∈ ks, f s ≠ none := by
    intro l
    induction l with
    | nil => exact fun _ => ⟨[], rfl, fun s hs => by cases hs⟩
    | cons x r ih =>
      intro hl
      obtain ⟨ks, e1, e2⟩ := ih fun y hy => hl y (List.mem_cons_of_mem _ hy)
      obtain ⟨s, a, q1, _, _, q2⟩ := hl x (List.mem_cons_self ..)
      refine ⟨s :: ks, by simp [e1, q1], fun s' hs' => ?_⟩
      rcases List.mem_cons.1 hs' with rfl | hs'
      · rw [q2]; simp
      · exact e2 s' hs'
  obtain ⟨ks, e1, e2⟩ := hex es.toList h2
  have hlen : ks.length = es.size := by
    have := congrArg List.length e1
    simpa using this.symm
  refine ⟨ks, ?_, fun s => ⟨e2 s, fun hs => ?_⟩, fun ty => ?_⟩
  · have h5 := h4.2.2
    rw [e1] at h5
    exact List.Pairwise.imp (fun {a b} hab => fun (e : a = b) => hab (by rw [e])) (List.pairwise_map.1 h5)
  · cases hf : f s with
    | none => exact absurd hf hs
    | some a =>
      obtain ⟨x, hx, hxe⟩ := h3 s a hf
      have : x.key ∈ ks.map M.enc := e1 ▸ List.mem_map.2 ⟨x, hx, rfl⟩
      obtain ⟨s', hs', e⟩ := List.mem_map.1 this
      rw [M.inj _ _ (hxe.symm.trans e.symm)]; exact hs'
  · rw [hlen]
    simp [Builtin.len_, run_underlying ht, MapKept.run_getObj_map hb, goInt, Result.andThen]

/-- What a copy has. -/
theorem FnAt.copy {M : MapLaw P k κ α} {w : World} {b : Nat} {f : κ → Option α} (h : FnAt M w b f) : ∃ es clock, w.heap[b]? = some (.map es clock) ∧ FnAt M (w.alloc (.map es clock)) w.heap.size f := by
  obtain ⟨es, clock, hb, h2, h3, h4⟩ := h
  exact ⟨es, clock, hb, es, clock, heap_new_at w _ _ rfl, h2, h3, h4⟩

end Go.Proofs.YtgbcilokeiengaaDoor
namespace Go.Proofs.YtgbcilokeiengaaDoor
open Go.Shelf Go.RowKit
def lays190_ren : Go.Shelf.Ren := ⟨fun | 190 => 48 | 125 => 59 | 258 => 58 | 128 => 76 | 129 => 77 | 302 => 67 | 303 => 68 | 304 => 69 | 305 => 70 | 306 => 71 | 307 => 72 | 308 => 73 | 309 => 74 | 310 => 75 | 333 => 80 | 329 => 81 | 330 => 82 | 334 => 83 | 335 => 84 | 336 => 85 | 344 => 87 | n => n, fun | 31 => 25 | 9 => 9 | 3 => 3 | 46 => 103 | 0 => 0 | 51 => 74 | 53 => 78 | 4 => 4 | 183 => 120 | 182 => 119 | 131 => 125 | 5 => 5 | 218 => 130 | 222 => 134 | 228 => 136 | 229 => 137 | n => n, fun | n => n⟩
theorem lays190 : Go.Proofs.Lays.n190 Tryd.prog lays190_ren := {
  mixed := by kernel_rfl
  f125 := Tryd.func59.trans (congrArg some (by kernel_rfl))
  f128 := Tryd.func76.trans (congrArg some (by kernel_rfl))
  f129 := Tryd.func77.trans (congrArg some (by kernel_rfl))
  f190 := Tryd.func48.trans (congrArg some (by kernel_rfl))
  f258 := Tryd.func58.trans (congrArg some (by kernel_rfl))
  f302 := Tryd.func67.trans (congrArg some (by kernel_rfl))
  f303 := Tryd.func68.trans (congrArg some (by kernel_rfl))
  f304 := Tryd.func69.trans (congrArg some (by kernel_rfl))
  f305 := Tryd.func70.trans (congrArg some (by kernel_rfl))
  f306 := Tryd.func71.trans (congrArg some (by kernel_rfl))
  f307 := Tryd.func72.trans (congrArg some (by kernel_rfl))
  f308 := Tryd.func73.trans (congrArg some (by kernel_rfl))
  f309 := Tryd.func74.trans (congrArg some (by kernel_rfl))
  f310 := Tryd.func75.trans (congrArg some (by kernel_rfl))
  f329 := Tryd.func81.trans (congrArg some (by kernel_rfl))
  f330 := Tryd.func82.trans (congrArg some (by kernel_rfl))
  f333 := Tryd.func80.trans (congrArg some (by kernel_rfl))
  f334 := Tryd.func83.trans (congrArg some (by kernel_rfl))
  f335 := Tryd.func84.trans (congrArg some (by kernel_rfl))
  f336 := Tryd.func85.trans (congrArg some (by kernel_rfl))
  f344 := Tryd.func87.trans (congrArg some (by kernel_rfl))
  t0 := Tryd.underlying0
  a0 := Tryd.isAgg0
  z0 := Tryd.sizeOf0
  v0 := Tryd.zeroValue0
  t3 := Tryd.underlying3
  a3 := Tryd.isAgg3
  z3 := Tryd.sizeOf3
  v3 := Tryd.zeroValue3
  t4 := Tryd.underlying4
  a4 := Tryd.isAgg4
  z4 := Tryd.sizeOf4
  v4 := Tryd.zeroValue4
  t5 := Tryd.underlying5
  a5 := Tryd.isAgg5
  z5 := Tryd.sizeOf5
  v5 := Tryd.zeroValue5
  t9 := Tryd.underlying9
  a9 := Tryd.isAgg9
  z9 := Tryd.sizeOf9
  v9 := Tryd.zeroValue9
  t31 := Tryd.underlying25
  a31 := Tryd.isAgg25
  z31 := Tryd.sizeOf25
  v31 := Tryd.zeroValue25
  t46 := Tryd.underlying103
  a46 := Tryd.isAgg103
  z46 := Tryd.sizeOf103
  v46 := Tryd.zeroValue103
  t51 := Tryd.underlying74
  a51 := Tryd.isAgg74
  z51 := Tryd.sizeOf74
  v51 := Tryd.zeroValue74
  t53 := Tryd.underlying78
  a53 := Tryd.isAgg78
  z53 := Tryd.sizeOf78
  v53 := Tryd.zeroValue78
  t131 := Tryd.underlying125
  a131 := Tryd.isAgg125
  z131 := Tryd.sizeOf125
  v131 := Tryd.zeroValue125
  t182 := Tryd.underlying119
  a182 := Tryd.isAgg119
  z182 := Tryd.sizeOf119
  v182 := Tryd.zeroValue119
  t183 := Tryd.underlying120
  a183 := Tryd.isAgg120
  z183 := Tryd.sizeOf120
  v183 := Tryd.zeroValue120
  t218 := Tryd.underlying130
  a218 := Tryd.isAgg130
  z218 := Tryd.sizeOf130
  v218 := Tryd.zeroValue130
  t222 := Tryd.underlying134
  a222 := Tryd.isAgg134
  z222 := Tryd.sizeOf134
  v222 := Tryd.zeroValue134
  t228 := Tryd.underlying136
  a228 := Tryd.isAgg136
  z228 := Tryd.sizeOf136
  v228 := Tryd.zeroValue136
  t229 := Tryd.underlying137
  a229 := Tryd.isAgg137
  z229 := Tryd.sizeOf137
  v229 := Tryd.zeroValue137 }
open Go.Sort Go.RowKit in
theorem shelf_slices_Sort_string (blk off cap : Nat) (ss : List (List UInt8)) (w : World) (hH : Holds encStr w blk off ss.toArray) (hblk : blk < w.heap.size) (hsz : ss.length < 4611686018427387904) :
    Calls Tryd.prog 48 #[.slice (some ⟨blk, off, none⟩) ss.length cap] w fun e w' =>
      e = .returned (.tuple #[]) ∧ ∃ n os, w' = grow (putRow encStr (Sort.ahead w n) blk off (ss.mergeSort fun x y => decide (x ≤ y)).toArray) os := Any.slices_Sort_string lays190 blk off cap ss w hH hblk hsz
open Go.RowKit Go.Sort in
/-- .. and plain. (LAID: no walk: one application.) -/
theorem shelf_slices_Sort_string_none (p : Option Addr) (cap : Nat) (w : World) :
    Calls Tryd.prog 48 #[.slice p 0 cap] w fun e w' => e = .returned (.tuple #[]) ∧ w' = w := Any.slices_Sort_string_none lays190 p cap w
end Go.Proofs.YtgbcilokeiengaaDoor
namespace Go.Proofs.YtgbcilokeiengaaDoor
open Go.Shelf Go.RowKit Go.Maps Go.Sort
open Go.Proofs (encStr)
def laykeysE_ren : Go.Shelf.Ren := ⟨fun | 7 => 21 | 10 => 31 | n => n, fun | 23 => 58 | 26 => 9 | 3 => 60 | 28 => 56 | 0 => 0 | 27 => 55 | 33 => 73 | 4 => 4 | n => n, fun | n => n⟩
theorem laykeysE : Go.Proofs.SlLaysZ.n7 Tryd.prog laykeysE_ren := {
  mixed := by kernel_rfl
  f7 := ⟨Tryd.f21.name, by decide, Tryd.func21.trans (congrArg some (by kernel_rfl))⟩
  f10 := ⟨Tryd.f31.name, by decide, Tryd.func31.trans (congrArg some (by kernel_rfl))⟩
  t0 := Tryd.underlying0
  a0 := Tryd.isAgg0
  z0 := Tryd.sizeOf0
  v0 := Tryd.zeroValue0
  t4 := Tryd.underlying4
  a4 := Tryd.isAgg4
  z4 := Tryd.sizeOf4
  v4 := Tryd.zeroValue4
  t23 := Tryd.underlying58
  a23 := Tryd.isAgg58
  z23 := Tryd.sizeOf58
  v23 := Tryd.zeroValue58
  t26 := Tryd.underlying9
  a26 := Tryd.isAgg9
  z26 := Tryd.sizeOf9
  v26 := Tryd.zeroValue9
  t27 := Tryd.underlying55
  a27 := Tryd.isAgg55
  z27 := Tryd.sizeOf55
  v27 := Tryd.zeroValue55
  t28 := Tryd.underlying56
  a28 := Tryd.isAgg56
  z28 := Tryd.sizeOf56
  v28 := Tryd.zeroValue56
  t33 := Tryd.underlying73
  a33 := Tryd.isAgg73
  z33 := Tryd.sizeOf73
  v33 := Tryd.zeroValue73 }
def laykeysU_ren : Go.Shelf.Ren := ⟨fun | 7 => 26 | 10 => 37 | n => n, fun | 23 => 68 | 26 => 9 | 3 => 69 | 28 => 56 | 0 => 0 | 27 => 55 | 33 => 73 | 4 => 4 | n => n, fun | n => n⟩
theorem laykeysU : Go.Proofs.SlLaysZ.n7 Tryd.prog laykeysU_ren := {
  mixed := by kernel_rfl
  f7 := ⟨Tryd.f26.name, by decide, Tryd.func26.trans (congrArg some (by kernel_rfl))⟩
  f10 := ⟨Tryd.f37.name, by decide, Tryd.func37.trans (congrArg some (by kernel_rfl))⟩
  t0 := Tryd.underlying0
  a0 := Tryd.isAgg0
  z0 := Tryd.sizeOf0
  v0 := Tryd.zeroValue0
  t4 := Tryd.underlying4
  a4 := Tryd.isAgg4
  z4 := Tryd.sizeOf4
  v4 := Tryd.zeroValue4
  t23 := Tryd.underlying68
  a23 := Tryd.isAgg68
  z23 := Tryd.sizeOf68
  v23 := Tryd.zeroValue68
  t26 := Tryd.underlying9
  a26 := Tryd.isAgg9
  z26 := Tryd.sizeOf9
  v26 := Tryd.zeroValue9
  t27 := Tryd.underlying55
  a27 := Tryd.isAgg55
  z27 := Tryd.sizeOf55
  v27 := Tryd.zeroValue55
  t28 := Tryd.underlying56
  a28 := Tryd.isAgg56
  z28 := Tryd.sizeOf56
  v28 := Tryd.zeroValue56
  t33 := Tryd.underlying73
  a33 := Tryd.isAgg73
  z33 := Tryd.sizeOf73
  v33 := Tryd.zeroValue73 }
def laysorted_ren : Go.Shelf.Ren := ⟨fun | 6 => 30 | 8 => 47 | 9 => 48 | 11 => 57 | 13 => 59 | 12 => 58 | 23 => 76 | 24 => 77 | 14 => 67 | 15 => 68 | 16 => 69 | 17 => 70 | 18 => 71 | 19 => 72 | 20 => 73 | 21 => 74 | 22 => 75 | 25 => 80 | 26 => 81 | 27 => 82 | 28 => 83 | 29 => 84 | 30 => 85 | 31 => 87 | n => n, fun | 26 => 9 | 28 => 56 | 24 => 25 | 0 => 0 | 3 => 3 | 37 => 103 | 48 => 74 | 50 => 78 | 4 => 4 | 40 => 120 | 39 => 119 | 45 => 125 | 5 => 5 | 9 => 9 | 51 => 130 | 55 => 134 | 57 => 136 | 58 => 137 | 33 => 73 | n => n, fun | n => n⟩
theorem laysorted : Go.Proofs.SlLaysZ.n6 Tryd.prog laysorted_ren := {
  mixed := by kernel_rfl
  f6 := ⟨Tryd.f30.name, by decide, Tryd.func30.trans (congrArg some (by kernel_rfl))⟩
  f8 := ⟨Tryd.f47.name, by decide, Tryd.func47.trans (congrArg some (by kernel_rfl))⟩
  f11 := ⟨Tryd.f57.name, by decide, Tryd.func57.trans (congrArg some (by kernel_rfl))⟩
  t0 := Tryd.underlying0
  a0 := Tryd.isAgg0
  z0 := Tryd.sizeOf0
  v0 := Tryd.zeroValue0
  t24 := Tryd.underlying25
  a24 := Tryd.isAgg25
  z24 := Tryd.sizeOf25
  v24 := Tryd.zeroValue25
  t26 := Tryd.underlying9
  a26 := Tryd.isAgg9
  z26 := Tryd.sizeOf9
  v26 := Tryd.zeroValue9
  t28 := Tryd.underlying56
  a28 := Tryd.isAgg56
  z28 := Tryd.sizeOf56
  v28 := Tryd.zeroValue56
  i26 := by kernel_rfl }
def layclone_ren : Go.Shelf.Ren := ⟨fun | 5 => 25 | 7 => 36 | n => n, fun | 23 => 58 | 25 => 9 | 3 => 60 | 4 => 4 | 20 => 20 | n => n, fun | n => n⟩
theorem layclone : Go.Proofs.SlLaysW.n5 Tryd.prog layclone_ren := {
  mixed := by kernel_rfl
  f5 := ⟨Tryd.f25.name, by decide, Tryd.func25.trans (congrArg some (by kernel_rfl))⟩
  f7 := Tryd.func36.trans (congrArg some (by kernel_rfl))
  t4 := Tryd.underlying4
  a4 := Tryd.isAgg4
  z4 := Tryd.sizeOf4
  v4 := Tryd.zeroValue4
  t20 := Tryd.underlying20
  a20 := Tryd.isAgg20
  z20 := Tryd.sizeOf20
  v20 := Tryd.zeroValue20
  t23 := Tryd.underlying58
  a23 := Tryd.isAgg58
  z23 := Tryd.sizeOf58
  v23 := Tryd.zeroValue58 }
theorem shelf_maps_CloneE (b : Nat) (es : Array MapEntry) (clock : Nat) (w : World) (hb : w.heap[b]? = some (.map es clock)) :
    Calls Tryd.prog 25 #[.map (some b)] w fun e w' => e = .returned (.map (some w.heap.size)) ∧ w' = w.alloc (.map es clock) := AnyW.maps_Clone layclone b es clock w hb
/-- slices.Sort's two contracts, as slices.Sorted leans on them. -/
theorem sortsIn (m : Nat) : AnyZ.SortsIn Tryd.prog laysorted_ren Fence.wide m :=
  ⟨fun blk off cap ss W hH hblk hsz => callsIn_wide.2 (shelf_slices_Sort_string blk off cap ss W hH hblk hsz),
   fun p cap W => callsIn_wide.2 (shelf_slices_Sort_string_none p cap W)⟩
theorem shelf_keysE (mb : Option Nat) (w : World) :
    Calls Tryd.prog 21 #[.map mb] w fun e w' => e = .returned (.func (.func 31) #[] #[.pointer (some ⟨w.heap.size, 0, none⟩)]) ∧ w' = w.alloc (.cells #[.map mb] 58) :=
  (callsIn_wide (n := 5)).1 (AnyZ.keys_in laykeysE Fence.wide 5 trivial rfl mb w)
theorem shelf_keysU (mb : Option Nat) (w : World) :
    Calls Tryd.prog 26 #[.map mb] w fun e w' => e = .returned (.func (.func 37) #[] #[.pointer (some ⟨w.heap.size, 0, none⟩)]) ∧ w' = w.alloc (.cells #[.map mb] 68) :=
  (callsIn_wide (n := 5)).1 (AnyZ.keys_in laykeysU Fence.wide 5 trivial rfl mb w)
def SortedPost (S : List (List UInt8) → Prop) (w : World) (e : Ending) (w' : World) : Prop := ∃ (v : Value) (ss : List (List UInt8)), e = .returned v ∧ S ss ∧
  w'.ownsRow w.heap.size 9 1 v ss.length ((ss.mergeSort (fun x y => decide (x ≤ y))).map encStr) ∧ (v = .slice none 0 0 ↔ ss = []) ∧ Below w.heap.size w w'
set_option maxHeartbeats 1000000 in
theorem shelf_sortedE {H : Type} (b nn q : Nat) (D0 : DataW H) (R : Value → Option (DataW H × List MemPlace)) (w : World) (hown : w.ownsMap Tryd.prog 9 R b nn D0) (hq : w.cell? ⟨q, 0, none⟩ = some (.map (some b))) (hmax : Maps.size D0 ≤ maxLen) (hbytes : Maps.size D0 * 16 ≤ 140737488355328) :
    Calls Tryd.prog 30 #[.func (.func 31) #[] #[.pointer (some ⟨q, 0, none⟩)]] w (SortedPost (fun ss => ss.Perm (strKeys D0)) w) := by
  have hseq : SeqGives Fence.wide 2 Tryd.prog 31 #[.pointer (some ⟨q, 0, none⟩)] encStr (fun ss => ss.Perm (strKeys D0)) (Maps.size D0) w :=
    AnyZ.keys_gives (ρ := laykeysE_ren) { laykeysE with } Fence.wide _ trivial rfl (by omega) q b nn D0 w (World.block_lt_of_cell? _ _ hq) hq hown
  exact (callsIn_wide (n := 5)).1 (AnyZ.sorted_in laysorted Fence.wide 5 trivial trivial trivial trivial rfl (by omega) (sortsIn _) (enters_of Tryd.func48 (by kernel_rfl) rfl) 31 #[.pointer (some ⟨q, 0, none⟩)] trivial (enters_of Tryd.func31 (by kernel_rfl) rfl) _ _ hmax hbytes _ hseq)
set_option maxHeartbeats 1000000 in
theorem shelf_sortedU {H : Type} (b nn q : Nat) (D0 : DataW H) (R : Value → Option (DataW H × List MemPlace)) (w : World) (hown : w.ownsMap Tryd.prog 9 R b nn D0) (hq : w.cell? ⟨q, 0, none⟩ = some (.map (some b))) (hmax : Maps.size D0 ≤ maxLen) (hbytes : Maps.size D0 * 16 ≤ 140737488355328) :
    Calls Tryd.prog 30 #[.func (.func 37) #[] #[.pointer (some ⟨q, 0, none⟩)]] w (SortedPost (fun ss => ss.Perm (strKeys D0)) w) := by
  have hseq : SeqGives Fence.wide 2 Tryd.prog 37 #[.pointer (some ⟨q, 0, none⟩)] encStr (fun ss => ss.Perm (strKeys D0)) (Maps.size D0) w :=
    AnyZ.keys_gives (ρ := laykeysU_ren) { laykeysU with } Fence.wide _ trivial rfl (by omega) q b nn D0 w (World.block_lt_of_cell? _ _ hq) hq hown
  exact (callsIn_wide (n := 5)).1 (AnyZ.sorted_in laysorted Fence.wide 5 trivial trivial trivial trivial rfl (by omega) (sortsIn _) (enters_of Tryd.func48 (by kernel_rfl) rfl) 37 #[.pointer (some ⟨q, 0, none⟩)] trivial (enters_of Tryd.func37 (by kernel_rfl) rfl) _ _ hmax hbytes _ hseq)
end Go.Proofs.YtgbcilokeiengaaDoor
namespace Go.Proofs.YtgbcilokeiengaaDoor
open Go.RowKit

def scells (L : List (List UInt8)) : List Value := L.map fun l => .string ⟨l.toArray⟩
theorem scells_length (L : List (List UInt8)) : (scells L).length = L.length := by simp [scells]
theorem scells_append (L K : List (List UInt8)) : scells (L ++ K) = scells L ++ scells K := by simp [scells]
/-- A row of texts of the call's own, in a block from B on. -/
def Own (w : World) (B : Nat) (s : Value) (L : List (List UInt8)) : Prop := w.ownsRow B 9 1 s L.length (scells L)
theorem Own.nil (w : World) (B : Nat) : Own w B (.slice none 0 0) [] := ⟨rfl, Or.inl ⟨rfl, rfl⟩⟩
theorem Own.strs {w : World} {B : Nat} {s : Value} {L : List (List UInt8)} (h : Own w B s L) : Strs w s L := by
  obtain ⟨A, cap, rfl⟩ := own_form h
  refine ⟨A, cap, rfl, fun i hi => ?_⟩
  obtain ⟨g, cap', hv, hB, hlt⟩ := World.ownsRow.form h (by omega)
  obtain ⟨rfl, rfl⟩ : A = some ⟨g, 0, none⟩ ∧ cap = cap' := by simpa using hv
  exact ⟨_, rfl, World.ownsRow.cells h rfl i _ (by simp [scells, hi])⟩
theorem Own.below {w w' : World} {B : Nat} {s : Value} {L : List (List UInt8)} (h : Own w B s L) (hb : Below w.heap.size w w') : Own w' B s L :=
  row_out (G := fun _ => False) h (Out.of hb) (fun _ _ _ _ hf => hf.elim)
theorem Own.lt {w : World} {B : Nat} {s : Value} {L : List (List UInt8)} (h : Own w B s L) (k : Nat) (hk : s.ownBlock = some k) : B ≤ k ∧ k < w.heap.size := World.ownsRow.lt h k hk
theorem Own.strs_at {w w' : World} {B : Nat} {A : Option Addr} {n cap : Nat} {L : List (List UInt8)} (h : Own w B (.slice A n cap) L) (hb : Below w.heap.size w w') (k : Nat) (hk : k < L.length) : ∃ a, A = some a ∧ w'.cell? (a.add k) = some (.string ⟨L[k].toArray⟩) := by
  obtain ⟨A', cap', hv, hc⟩ := (h.below hb).strs
  obtain ⟨rfl, _⟩ : A = A' ∧ _ := by simpa using hv
  exact hc k hk
end Go.Proofs.YtgbcilokeiengaaDoor
namespace Go.Proofs.YtgbcilokeiengaaDoor
open Go.RowKit Go.Maps Go.WideShapes
open Go.WideElems (Fit rd rg rd_mk rg_of)
open Go.Proofs.YtgbcilokeiengaaDoor.Sto (St)
open Go.Proofs (encStr)

def storeMap : MapLaw Tryd.prog 9 (List UInt8) (List UInt8) := ⟨fun s => .string ⟨s.toArray⟩, fun t => .agg #[.string ⟨t.toArray⟩], fun s => s.length ≤ 140737488351232, lawS, keyS, fun _ _ h => str_inj h⟩
def setMap : MapLaw Tryd.prog 9 (List UInt8) Unit := ⟨fun s => .string ⟨s.toArray⟩, fun _ => .agg #[], fun s => s.length ≤ 140737488351232, lawS, keyS, fun _ _ h => str_inj h⟩
set_option maxRecDepth 100000 in
theorem zeroEntry (w : World) : (zeroValue 60).run Tryd.prog w = .ok (.agg #[.string ⟨#[]⟩]) w := by kernel_rfl
set_option maxRecDepth 100000 in
theorem zeroUnit (w : World) : (zeroValue 69).run Tryd.prog w = .ok (.agg #[]) w := by kernel_rfl

/-- The store in block g, its map in block m, has the texts S. -/
structure StoreAt (w : World) (g m : Nat) (S : St) : Prop where
  head : w.heap[g]? = some (.cells #[.map (some m)] 62 (0, 0))
  map : FnAt storeMap w m (Sto.look S)
  rise : Sto.Rising S
  short : ∀ p ∈ S, p.1.length ≤ 32 ∧ p.2.length ≤ 1000
theorem StoreAt.cell {w : World} {g m : Nat} {S : St} (h : StoreAt w g m S) : w.cell? ⟨g, 0, none⟩ = some (.map (some m)) := cell_of_row _ _ _ _ _ _ h.head
theorem StoreAt.out {F : Nat → Prop} {w w' : World} {g m : Nat} {S : St} (h : StoreAt w g m S) (ho : Out F w w') (hg : ¬ F g) (hm : ¬ F m) : StoreAt w' g m S := ⟨ho.heap h.head hg, h.map.out ho hm, h.rise, h.short⟩
theorem StoreAt.below {w w' : World} {g m : Nat} {S : St} (h : StoreAt w g m S) (hb : Below w.heap.size w w') : StoreAt w' g m S := h.out (F := fun _ => False) (Out.of hb) id id
theorem StoreAt.ne {w : World} {g m g' m' : Nat} {S T : St} (h : StoreAt w g m S) (k : StoreAt w g' m' T) : g ≠ m' := by
  rintro rfl
  exact k.map.no_cells _ _ _ _ rfl h.head
theorem StoreAt.mlt {w : World} {g m : Nat} {S : St} (h : StoreAt w g m S) : m < w.heap.size := h.map.lt
theorem Sto.short_look {S : St} (hS : Sto.Rising S) (h : ∀ p ∈ S, p.1.length ≤ 32 ∧ p.2.length ≤ 1000) {x t : List UInt8} (hl : Sto.look S x = some t) : x.length ≤ 32 ∧ t.length ≤ 1000 := h _ ((Sto.look_mem hS x t).1 hl)

/-- A map of strings, in the kit's word: what its keys are, in whatever order. -/
theorem FnAt.owns {α : Type} (M : MapLaw Tryd.prog 9 (List UInt8) α) (hM : ∀ s, M.enc s = .string ⟨s.toArray⟩) {w : World} {b : Nat} {f : List UInt8 → Option α} (h : FnAt M w b f) (L : List (List UInt8)) (hL : ∀ x, f x ≠ none → x ∈ L) (hl : L.length ≤ 1000000) :
    ∃ D : DataW Unit, w.ownsMap Tryd.prog 9 (fun _ => some (.lit (.bool true), [])) b 1000000 D ∧ Maps.size D ≤ 1000000 ∧ ∀ ss : List (List UInt8), ss.Perm (strKeys D) → ss.Nodup ∧ ∀ x, x ∈ ss ↔ f x ≠ none := by
  obtain ⟨es, clock, hb, h2, h3, h4⟩ := h
  have hex : ∀ l : List MapEntry, (∀ x ∈ l, ∃ s a, x.key = M.enc s ∧ x.val = M.val a ∧ M.ok s ∧ f s = some a) → ∃ ks : List (List UInt8), l.map (·.key) = ks.map M.enc ∧ (∀ s ∈ ks, f s ≠ none) ∧ (l.map (rg (H := Unit) Tryd.prog 9 (fun _ => some (.lit (.bool true), [])))).map (fun p => strOf p.1) = ks ∧ ∀ x ∈ l, ∃ y, rd (H := Unit) Tryd.prog 9 (fun _ => some (.lit (.bool true), [])) x = some y := by
    intro l
    induction l with
    | nil => exact fun _ => ⟨[], rfl, fun s hs => (by cases hs), rfl, fun x hx => (by cases hx)⟩
    | cons x r ih =>
      intro hl
      obtain ⟨ks, e1, e2, e3, e4⟩ := ih fun y hy => hl y (List.mem_cons_of_mem _ hy)
      obtain ⟨s, a, q1, _, q3, q2⟩ := hl x (List.mem_cons_self ..)
      obtain ⟨kl, hk⟩ := M.key s q3
      have hk' := hk
      rw [hM s] at hk'
      obtain ⟨y, ey, rfl, _⟩ := Maps.keyOf_str Tryd.underlying9 hk'
      obtain rfl : s = y := str_inj ey
      have hr : rd (H := Unit) Tryd.prog 9 (fun _ => some (.lit (.bool true), [])) x = some (.string s, .lit (.bool true)) := by
        obtain ⟨xk, xv, xb⟩ := x
        dsimp only at q1
        subst q1
        exact rd_mk (R := fun _ => some (DataW.lit (.bool true), [])) (yv := (DataW.lit (.bool true), [])) hk rfl
      refine ⟨s :: ks, by simp [e1, q1], fun s' hs' => ?_, ?_, fun z hz => ?_⟩
      · rcases List.mem_cons.1 hs' with rfl | hs'
        · rw [q2]; simp
        · exact e2 s' hs'
      · rw [List.map_cons, List.map_cons, e3, rg_of hr]
        rfl
      · rcases List.mem_cons.1 hz with rfl | hz
        · exact ⟨_, hr⟩
        · exact e4 z hz
  obtain ⟨ks, e1, e2, e3, e4⟩ := hex es.toList h2
  have hlen : ks.length = es.size := by
    have := congrArg List.length e1
    simpa using this.symm
  have hnd : ks.Nodup := by
    have h5 := h4.2.2
    rw [e1] at h5
    exact List.Pairwise.imp (fun {a b} hab => fun (e : a = b) => hab (by rw [e])) (List.pairwise_map.1 h5)
  have hall : ∀ s, s ∈ ks ↔ f s ≠ none := fun s => ⟨e2 s, fun hs => by
    cases hf : f s with
    | none => exact absurd hf hs
    | some a =>
      obtain ⟨x, hx, hxe⟩ := h3 s a hf
      have : x.key ∈ ks.map M.enc := e1 ▸ List.mem_map.2 ⟨x, hx, rfl⟩
      obtain ⟨s', hs', e⟩ := List.mem_map.1 this
      rw [M.inj _ _ (hxe.symm.trans e.symm)]; exact hs'⟩
  have hsz : es.size ≤ 1000000 := by
    have := Sto.le_of_sub (M := L) hnd fun x hx => hL x ((hall x).1 hx)
    omega
  refine ⟨_, ⟨es, clock, hb, ⟨by unfold maxLen; omega, h4, e4⟩, hsz, rfl⟩, ?_, fun ss hp => ?_⟩
  · simp only [Maps.size, length_sorted]
    simpa using hsz
  · have hp2 : ss.Perm ks := by
      refine hp.trans ?_
      rw [← e3]
      exact (sorted_perm _).map _
    exact ⟨hp2.nodup_iff.2 hnd, fun x => by rw [hp2.mem_iff, hall]⟩
theorem map_enc (L : List (List UInt8)) : L.map encStr = scells L := by
  unfold scells
  refine List.map_congr_left fun x _ => ?_
  rfl
/-- The keys in rising order, in a row of the call's own. -/
def RisePost {α : Type} (f : List UInt8 → Option α) (w : World) (e : Ending) (w' : World) : Prop :=
  ∃ v K, e = .returned v ∧ Own w' w.heap.size v K ∧ K.Pairwise (· < ·) ∧ (∀ x, x ∈ K ↔ f x ≠ none) ∧ Below w.heap.size w w'
theorem sort_rise {ss : List (List UInt8)} (h : ss.Nodup) : (ss.mergeSort fun x y => decide (x ≤ y)).Pairwise (· < ·) := by
  have h1 : (ss.mergeSort fun x y => decide (x ≤ y)).Pairwise (fun a b => decide (a ≤ b) = true) := List.pairwise_mergeSort (fun a b c h1 h2 => by
    simp only [decide_eq_true_eq] at *; exact List.le_trans h1 h2) (fun a b => by
    simp only [Bool.or_eq_true, decide_eq_true_eq]; exact List.le_total a b) ss
  have h2 : (ss.mergeSort fun x y => decide (x ≤ y)).Nodup := (List.mergeSort_perm ss _).nodup_iff.2 h
  refine (h1.and h2).imp fun {a b} hab => ?_
  obtain ⟨h3, h4⟩ := hab
  rcases List.le_iff_lt_or_eq.1 (of_decide_eq_true h3) with h5 | h5
  · exact h5
  · exact absurd h5 h4
theorem risePost_of {α : Type} {f : List UInt8 → Option α} {D : DataW Unit} (hD : ∀ ss : List (List UInt8), ss.Perm (strKeys D) → ss.Nodup ∧ ∀ x, x ∈ ss ↔ f x ≠ none) {w : World} {e : Ending} {w' : World} (h : SortedPost (fun ss => ss.Perm (strKeys D)) w e w') : RisePost f w e w' := by
  obtain ⟨v, ss, rfl, hp, hown, _, hb⟩ := h
  obtain ⟨hn, hm⟩ := hD ss hp
  refine ⟨v, _, rfl, ?_, sort_rise hn, fun x => by rw [(List.mergeSort_perm ss _).mem_iff]; exact hm x, hb⟩
  unfold Own
  rw [← map_enc, List.length_mergeSort]
  exact hown
theorem sortedE_any {f : List UInt8 → Option (List UInt8)} {b q : Nat} {w : World} (h : FnAt storeMap w b f) (hq : w.cell? ⟨q, 0, none⟩ = some (.map (some b))) (L : List (List UInt8)) (hL : ∀ x, f x ≠ none → x ∈ L) (hl : L.length ≤ 1000000) :
    Calls Tryd.prog 30 #[.func (.func 31) #[] #[.pointer (some ⟨q, 0, none⟩)]] w (RisePost f w) := by
  obtain ⟨D, h1, h2, h3⟩ := h.owns storeMap (fun _ => rfl) L hL hl
  exact (shelf_sortedE b _ q D _ w h1 hq (by unfold maxLen; omega) (by omega)).mono fun _ _ h => risePost_of h3 h
theorem sortedU_any {f : List UInt8 → Option Unit} {b q : Nat} {w : World} (h : FnAt setMap w b f) (hq : w.cell? ⟨q, 0, none⟩ = some (.map (some b))) (L : List (List UInt8)) (hL : ∀ x, f x ≠ none → x ∈ L) (hl : L.length ≤ 1000000) :
    Calls Tryd.prog 30 #[.func (.func 37) #[] #[.pointer (some ⟨q, 0, none⟩)]] w (RisePost f w) := by
  obtain ⟨D, h1, h2, h3⟩ := h.owns setMap (fun _ => rfl) L hL hl
  exact (shelf_sortedU b _ q D _ w h1 hq (by unfold maxLen; omega) (by omega)).mono fun _ _ h => risePost_of h3 h
end Go.Proofs.YtgbcilokeiengaaDoor
namespace Go.Proofs.YtgbcilokeiengaaDoor
open Go.RowKit

theorem size_list (s : List UInt8) : (⟨s.toArray⟩ : ByteArray).size = s.length := by simp [ByteArray.size]
theorem dclone_any (s : List UInt8) (w : World) (hl : s.length ≤ 140737488351232) :
    Calls Tryd.prog 22 #[.string ⟨s.toArray⟩] w fun e w' => e = .returned (.string ⟨s.toArray⟩) ∧ Below w.heap.size w w' := by
  go_enter Tryd.func22, Tryd.ntmps22
  go_wp2_with fail
  refine (shelf_clone ⟨s.toArray⟩ w (by rw [size_list]; omega)).mono ?_
  rintro e w1 ⟨rfl, hb⟩
  go_wp2
  go_ret
  exact ⟨rfl, hb⟩
end Go.Proofs.YtgbcilokeiengaaDoor
namespace Go.Proofs.YtgbcilokeiengaaDoor.Pw

abbrev S := List UInt8
structure M where
  name : S
  power : Int
instance : Inhabited M := ⟨⟨[], 0⟩⟩
theorem M.ext' {a b : M} (h : a.name = b.name) (k : a.power = b.power) : a = b := by cases a; cases b; simp_all
instance : DecidableEq M := fun a b =>
  if h : a.name = b.name ∧ a.power = b.power then isTrue (M.ext' h.1 h.2) else isFalse (fun e => h (by subst e; exact ⟨rfl, rfl⟩))

def okM (p : S) (m : M) : Bool := decide (p < m.name) && decide (m.name.length ≤ 6) && decide (1 ≤ m.power) && decide (m.power ≤ 1000)
def okFrom : S → List M → Bool
  | _, [] => true
  | p, m :: t => okM p m && okFrom m.name t
def okL (L : List M) : Bool := decide (1 ≤ L.length) && decide (L.length ≤ 7) && okFrom [] L
def sumP (L : List M) : Int := L.foldr (fun m n => m.power + n) 0
def pick (L : List M) (names : List S) : List M := L.filter fun m => decide (m.name ∈ names)
def ofL (L : List M) (names : List S) : Nat := if okL L then (sumP (pick L names)).toNat else 0
theorem snocInd {α : Type} {p : List α → Prop} (h0 : p []) (h1 : ∀ l d, p l → p (l ++ [d])) (l : List α) : p l := by
  have h : ∀ r : List α, p r.reverse := by
    intro r
    induction r with
    | nil => exact h0
    | cons d r ih => rw [List.reverse_cons]; exact h1 _ _ ih
  have := h l.reverse
  rwa [List.reverse_reverse] at this
end Go.Proofs.YtgbcilokeiengaaDoor.Pw
namespace Go.Proofs.YtgbcilokeiengaaDoor
open Go.RowKit Go.ChangeShapes Go.WideShapes
open Go.Proofs.YtgbcilokeiengaaDoor.Pw (M)

theorem less_lt : ∀ (x y : List UInt8), Op.bytesLess x y = decide (x < y)
  | [], [] => by simp [Op.bytesLess]
  | _ :: _, [] => by simp [Op.bytesLess]
  | [], _ :: _ => by simp [Op.bytesLess]
  | a :: x, b :: y => by
    rw [Op.bytesLess, less_lt x y, Bool.eq_iff_iff]
    simp only [Bool.or_eq_true, Bool.and_eq_true, decide_eq_true_eq, beq_iff_eq, List.cons_lt_cons_iff]
theorem Tryd.infoStr : (Tryd.prog.info? 9).map (fun i => (i.zero, i.size, i.bytes)) = some (some (.string ⟨#[]⟩), 1, 16) := by kernel_rfl

/-- A slice that has these members. -/
def Mems (w : World) (v : Value) (L : List M) : Prop :=
  ∃ (A : Option Addr) (cap : Nat), v = .slice A L.length cap ∧ (0 < L.length → ∃ b o, A = some ⟨b, o, none⟩ ∧ b < w.heap.size ∧ ∀ i (h : i < L.length),
    w.cell? ⟨b, o + i * 2, none⟩ = some (.string ⟨L[i].name.toArray⟩) ∧ w.cell? ⟨b, o + i * 2 + 1, none⟩ = some (.int .i64 L[i].power))
theorem Mems.nil (w : World) : Mems w (.slice none 0 0) [] := ⟨none, 0, rfl, fun h => absurd h (by simp)⟩
theorem Mems.below {w w' : World} {v : Value} {L : List M} (h : Mems w v L) (hb : Below w.heap.size w w') : Mems w' v L := by
  obtain ⟨A, cap, rfl, hc⟩ := h
  refine ⟨A, cap, rfl, fun h0 => ?_⟩
  obtain ⟨b, o, rfl, hlt, hcell⟩ := hc h0
  refine ⟨b, o, rfl, Nat.lt_of_lt_of_le hlt hb.size, fun i hi => ?_⟩
  obtain ⟨h1, h2⟩ := hcell i hi
  exact ⟨(hb.cell hlt).trans h1, (hb.cell hlt).trans h2⟩
theorem Mems.drew {w : World} {v : Value} {L : List M} (h : Mems w v L) : Mems w.drew v L := h.below (Below.refl _ w).drew
/-- One member's cells. -/
theorem Mems.at {w w' : World} {A : Option Addr} {n cap : Nat} {L : List M} (h : Mems w (.slice A n cap) L) (hb : Below w.heap.size w w') (k : Nat) (hk : k < L.length) :
    ∃ b o, A = some ⟨b, o, none⟩ ∧ w'.cell? ⟨b, o + k * 2, none⟩ = some (.string ⟨L[k].name.toArray⟩) ∧ w'.cell? ⟨b, o + k * 2 + 1, none⟩ = some (.int .i64 L[k].power) := by
  obtain ⟨A', cap', hv, hc⟩ := h.below hb
  obtain ⟨rfl, rfl, rfl⟩ : A = A' ∧ n = L.length ∧ cap = cap' := by simpa using hv
  obtain ⟨b, o, rfl, _, hcell⟩ := hc (by omega)
  exact ⟨b, o, rfl, hcell k hk⟩
theorem Mems.len {w : World} {A : Option Addr} {n cap : Nat} {L : List M} (h : Mems w (.slice A n cap) L) : n = L.length := by
  obtain ⟨A', cap', hv, _⟩ := h
  simp at hv
  exact hv.2.1
theorem Mems.form {w : World} {v : Value} {L : List M} (h : Mems w v L) : ∃ A cap, v = .slice A L.length cap := by
  obtain ⟨A, cap, rfl, _⟩ := h
  exact ⟨A, cap, rfl⟩
end Go.Proofs.YtgbcilokeiengaaDoor
namespace Go.Proofs.YtgbcilokeiengaaDoor
open Go.RowKit
open Go.Proofs.YtgbcilokeiengaaDoor.Pw (M)

/-- 'append(s, x...)', by an equation of the run. -/
theorem wpList_append_run {P : Program} {w w' : World} {ops : Array Oper} {rest : List Oper} {o : Oper} {a : Act} {Q : Exit → Act → World → Prop} (hg : o.guard = none) (s x : Operand) (t : TypeId) (hop : o.op = Op.call { callee := Callee.builtin Builtin.append, args := #[s, x], argTypes := #[t, t] })
    (sv xv r : Value) (hs : a.eval s = sv) (hx : a.eval x = xv) (hrun : (Builtin.append_ #[t, t] o.type #[sv, xv]).run P w = .ok r w') (hK : wpList P ops Q rest (a.put o.dst r) w') :
    wpList P ops Q (o :: rest) a w := by
  refine wpList_plain hg fun K' hK' => ?_
  unfold Oper.wp
  simp [execOp, hop, resolve, invoke, builtin, hs, hx, hrun, Result.andThen]
  exact hK' _ _ hK

theorem run_append_nothing_s (w : World) (v : Value) (n c B : Nat) (xs : List Value) (h : w.ownsRow B 9 1 v n xs) (ty : TypeId) : (Builtin.append_ #[25, 25] ty #[v, .slice none 0 c]).run Tryd.prog w = .ok v w := by
  rcases h.2 with ⟨rfl, rfl⟩ | ⟨g, cap, cur, rfl, hB, hh, hn, _⟩
  · simp [Builtin.append_, run_underlying Tryd.underlying25, Tryd.sizeOf9, Builtin.lenOf, Builtin.firstCells, Result.andThen]
  · simp [Builtin.append_, run_underlying Tryd.underlying25, Tryd.sizeOf9, Builtin.lenOf, Builtin.firstCells, Result.andThen, hn, storeCells]
theorem grown_none (w : World) (r : Option Nat) : w.grownBy w r := ⟨rfl, rfl, rfl, Nat.le_refl _, fun _ _ _ => rfl⟩
theorem append_strs {w : World} {v s : Value} {L : List (List UInt8)} {B n : Nat} {xs : List Value} (hv : Strs w v L) (hs : w.ownsRow B 9 1 s n xs) (hl : n + L.length ≤ 1000000) (hB : B ≤ w.heap.size) :
    ∃ v' w', (Builtin.append_ #[25, 25] 25 #[s, v]).run Tryd.prog w = .ok v' w' ∧ w'.ownsRow B 9 1 v' (n + L.length) (xs ++ scells L) ∧ w.grownBy w' s.ownBlock ∧ (v'.ownBlock = s.ownBlock ∨ v'.ownBlock = some w.heap.size) := by
  obtain ⟨i0, hi, hz0, hz1, hz2⟩ := info_parts Tryd.infoStr
  obtain ⟨A, cap, rfl, hc⟩ := hv
  cases A with
  | none =>
    have h0 : L.length = 0 := by
      by_cases h : L.length = 0
      · exact h
      · obtain ⟨a, ha, _⟩ := hc 0 (by omega)
        cases ha
    obtain rfl : L = [] := List.eq_nil_of_length_eq_zero h0
    exact ⟨s, w, run_append_nothing_s w s n cap B xs hs _, by simpa [scells] using hs, grown_none _ _, Or.inl rfl⟩
  | some a =>
    obtain ⟨v', w', h1, h2, h3, _, h5⟩ := run_append_own_at (P := Tryd.prog) w B 25 25 9 i0 (.string ⟨#[]⟩) 1 16 Tryd.underlying25 hi hz0 hz1 hz2 rfl (by decide) s n xs hs a L.length cap (scells L) (by simp [scells])
      (fun j u hu => by
        have hj : j < L.length := by
          have := (List.getElem?_eq_some_iff.1 hu).1
          simpa [scells] using this
        obtain ⟨b, hb, hcell⟩ := hc j hj
        cases hb
        simp only [scells, List.getElem?_map, List.getElem?_eq_getElem hj] at hu
        simp at hu
        rw [← hu]
        exact hcell) (by simp [scells, Value.oneCell']) (by unfold maxLen; omega) (by omega) hB
    exact ⟨v', w', h1, h2, h3, h5⟩
end Go.Proofs.YtgbcilokeiengaaDoor
namespace Go.Proofs.YtgbcilokeiengaaDoor
open Go.RowKit
open Go.Proofs.YtgbcilokeiengaaDoor.Nd (N)

def ncl (n : N) : List Value := .int .i64 n.kind :: .string ⟨n.path.toArray⟩ :: .string ⟨n.val.toArray⟩ :: scells n.kids
def ndval (n : N) : Value := .agg (ncl n).toArray
theorem ncl_length (n : N) (h : n.kids.length = 16) : (ncl n).length = 19 := by simp [ncl, scells_length, h]
set_option maxRecDepth 100000 in
theorem Tryd.infoStrN : (Tryd.prog.info? 9).map (fun i => (i.zero, i.size, i.bytes)) = some (some (.string ⟨#[]⟩), 1, 16) := by kernel_rfl
/-- A node in a block. -/
def NodeAt (w : World) (g : Nat) (n : N) : Prop := w.heap[g]? = some (.cells (ncl n).toArray 48 (0, 0))
theorem NodeAt.kind {w : World} {g : Nat} {n : N} (h : NodeAt w g n) : w.cell? ⟨g, 0, none⟩ = some (.int .i64 n.kind) := by
  rw [cell_of_row w g 0 _ _ _ h]
  rfl
theorem NodeAt.path {w : World} {g : Nat} {n : N} (h : NodeAt w g n) : w.cell? ⟨g, 1, none⟩ = some (.string ⟨n.path.toArray⟩) := by
  rw [cell_of_row w g 1 _ _ _ h]
  rfl
theorem NodeAt.val {w : World} {g : Nat} {n : N} (h : NodeAt w g n) : w.cell? ⟨g, 2, none⟩ = some (.string ⟨n.val.toArray⟩) := by
  rw [cell_of_row w g 2 _ _ _ h]
  rfl
theorem NodeAt.kid {w : World} {g : Nat} {n : N} (h : NodeAt w g n) (i : Nat) (hi : i < n.kids.length) : w.cell? ⟨g, 3 + i, none⟩ = some (.string ⟨n.kids[i].toArray⟩) := by
  rw [cell_of_row w g (3 + i) _ _ _ h, List.getElem?_toArray, Nat.add_comm 3 i]
  show (scells n.kids)[i]? = _
  simp [scells, hi]
theorem NodeAt.below {w w' : World} {g : Nat} {n : N} (h : NodeAt w g n) (hb : Below w.heap.size w w') : NodeAt w' g n := (hb.block g (lt_of_heap h)).trans h
theorem Nd.kids_take (l : List (List UInt8)) (k : Nat) (hk : k < l.length) : Nd.kidsL (l.take (k + 1)) = if l[k] = [] then Nd.kidsL (l.take k) else Nd.kidsL (l.take k) ++ [l[k]] := by
  unfold Nd.kidsL
  rw [List.take_succ_eq_append_getElem hk, List.filter_append]
  by_cases h : l[k] = [] <;> simp [h]
theorem own_lowS {w : World} {B B' : Nat} {s : Value} {L : List (List UInt8)} (h : Own w B s L) (hB : B' ≤ B) : Own w B' s L := by
  refine ⟨h.1, ?_⟩
  rcases h.2 with hn | ⟨k, cap, cur, hv, hb, hk, hr⟩
  · exact Or.inl hn
  · exact Or.inr ⟨k, cap, cur, hv, Nat.le_trans hB hb, hk, hr⟩
def KidsPost (n : N) (w : World) (e : Ending) (w' : World) : Prop := ∃ z, e = .returned z ∧ Own w' w.heap.size z (Nd.kidsL n.kids) ∧ Below w.heap.size w w'

end Go.Proofs.YtgbcilokeiengaaDoor
namespace Go.Proofs.YtgbcilokeiengaaDoor
open Go.RowKit
open Go.Proofs.YtgbcilokeiengaaDoor.Sto (St)

/-- A new store. -/
def StNewPost (w : World) (S : St) (e : Ending) (w' : World) : Prop := ∃ g m, e = .returned (.pointer (some ⟨g, 0, none⟩)) ∧ w.heap.size ≤ g ∧ w.heap.size ≤ m ∧ StoreAt w' g m S ∧ Below w.heap.size w w'

set_option maxRecDepth 8000 in
set_option maxHeartbeats 400000 in
theorem stnew_any (w : World) : Calls Tryd.prog 16 #[] w (StNewPost w []) := by
  have hmm := @run_makeMap Tryd.prog
  go_enter Tryd.func16, Tryd.ntmps16
  go_wp2
  go_ret
  refine ⟨w.heap.size + 1, w.heap.size, rfl, by omega, by omega, ⟨heap_new_at _ _ _ (by simp), ?_, Sto.rising_nil, fun p hp => (by cases hp)⟩, ((Below.refl _ w).alloc (Nat.le_refl _) _).alloc (by simp) _⟩
  exact ((FnAt.made storeMap w w.heap.size rfl).congr (fun _ => rfl)).below ((Below.refl _ _).alloc (Nat.le_refl _) _)

theorem StoreAt.lookE {w : World} {g m : Nat} {S : St} (h : StoreAt w g m S) {x : List UInt8} (hx : x.length ≤ 140737488351232) :
    (Instr.lookup 58 (.map (some m)) (.string ⟨x.toArray⟩) true).run Tryd.prog w = .ok (.tuple #[.agg #[.string ⟨((Sto.look S x).getD []).toArray⟩], .bool (Sto.look S x).isSome]) w := by
  have h1 := h.map.look Tryd.underlying58 (s := x) hx true (zeroEntry w)
  rw [show (.string ⟨x.toArray⟩ : Value) = storeMap.enc x from rfl, h1]
  cases Sto.look S x <;> rfl

set_option maxRecDepth 8000 in
set_option maxHeartbeats 400000 in
theorem stget_any (g m : Nat) (S : St) (x : List UInt8) (w : World) (h : StoreAt w g m S) (hx : x.length ≤ 140737488351232) :
    Calls Tryd.prog 9 #[.pointer (some ⟨g, 0, none⟩), .string ⟨x.toArray⟩] w fun e w' => e = .returned (.tuple #[.string ⟨((Sto.look S x).getD []).toArray⟩, .bool (Sto.look S x).isSome]) ∧ Below w.heap.size w w' := by
  have hc := h.cell
  have hlook := h.lookE hx
  have hsh : ((Sto.look S x).getD []).length ≤ 140737488351232 := by
    cases hl : Sto.look S x with
    | none => simp
    | some t => have := (Sto.short_look h.rise h.short hl).2; simp; omega
  have HCL := Lib.hid (fun w => dclone_any _ w hsh)
  obtain ⟨t, ht⟩ : ∃ t, (Sto.look S x).getD [] = t := ⟨_, rfl⟩
  obtain ⟨b, hb⟩ : ∃ b, (Sto.look S x).isSome = b := ⟨_, rfl⟩
  rw [ht] at hlook HCL ⊢
  rw [hb] at hlook ⊢
  clear h hx hsh ht hb
  go_enter Tryd.func9, Tryd.ntmps9
  go_wp2_with fail
  have hB : Below w.heap.size w (w.alloc (.cells #[.string ⟨t.toArray⟩] 60)) := (Below.refl _ w).alloc (Nat.le_refl _) _
  refine (HCL.out _).mono ?_
  rintro e w1 ⟨rfl, hb1⟩
  go_wp2
  go_ret2
  exact ⟨rfl, bchain hB hb1⟩

set_option maxRecDepth 8000 in
set_option maxHeartbeats 400000 in
theorem stfork_any (g m : Nat) (S : St) (w : World) (h : StoreAt w g m S) :
    Calls Tryd.prog 11 #[.pointer (some ⟨g, 0, none⟩)] w (StNewPost w S) := by
  have hc := h.cell
  obtain ⟨es, clock, hb, hf⟩ := h.map.copy
  have HR := Lib.hid h.rise
  have HS := Lib.hid h.short
  have HF := Lib.hid hf
  have HCL := Lib.hid (shelf_maps_CloneE m es clock w hb)
  clear h hf hb
  go_enter Tryd.func11, Tryd.ntmps11
  go_wp2_with fail
  refine HCL.out.mono ?_
  rintro e w1 ⟨rfl, rfl⟩
  go_wp2
  go_ret
  refine ⟨w.heap.size + 1, w.heap.size, rfl, by omega, by omega, ⟨heap_new_at _ _ _ (by simp), ?_, HR.out, HS.out⟩, ((Below.refl _ w).alloc (Nat.le_refl _) _).alloc (by simp) _⟩
  exact HF.out.below ((Below.refl _ _).alloc (Nat.le_refl _) _)

/-- A text of a row of the call's own, set as it was. -/
theorem Own.setSame {w : World} {B g n cap i : Nat} {L : List (List UInt8)} (h : Own w B (.slice (some ⟨g, 0, none⟩) n cap) L) (hi : i < L.length) :
    Own (w.setCell ⟨g, i, none⟩ (.string ⟨(L[i]).toArray⟩)) B (.slice (some ⟨g, 0, none⟩) n cap) L := by
  have hn : n = L.length := by
    obtain ⟨_, _, hv⟩ := own_form h
    simp at hv
    exact hv.2.1
  subst hn
  have := (World.ownsRow.stored h i (.string ⟨(L[i]).toArray⟩)).1
  unfold Own
  have e : (scells L).set i (.string ⟨(L[i]).toArray⟩) = scells L := by
    have : (.string ⟨(L[i]).toArray⟩ : Value) = (scells L)[i]'(by rw [scells_length]; exact hi) := by simp [scells]
    rw [this, List.set_getElem_self]
  rw [← e]
  exact this
set_option maxRecDepth 8000 in
set_option maxHeartbeats 1000000 in
theorem rising_of {α : Type} (f : List UInt8 → Option α) (z : Value) (w : World) (hs : Calls Tryd.prog 30 #[z] w (RisePost f w)) (L : List (List UInt8)) (hL : ∀ x, f x ≠ none → x ∈ L) (hl : L.length ≤ 1000000) (hsh : ∀ x ∈ L, x.length ≤ 140737488351232) :
    Calls Tryd.prog 20 #[z] w (RisePost f w) := by
  have HS := Lib.hid hs
  have HL := Lib.hid hL
  have HLl := Lib.hid hl
  have HSH := Lib.hid hsh
  clear hs hL hl hsh
  go_enter Tryd.func20, Tryd.ntmps20
  go_wp2_with fail
  refine HS.out.mono ?_
  rintro e w1 ⟨v, K, rfl, hown, hr, hm, hb⟩
  have HKM : Hid (∀ x ∈ K, x ∈ L) := Lib.hid (fun x hx => HL.out x ((hm x).1 hx))
  have hK : K.length ≤ 1000000 := by
    have := Sto.le_of_sub (hr.imp fun h => Sto.lt_ne h) HKM.out
    have := HLl.out
    omega
  have HR := Lib.hid hr
  have HM := Lib.hid hm
  have HOW := Lib.hid hown
  have HB1 := Lib.hid hb
  have HS1 := Lib.hid hb.size
  obtain ⟨A, cap, rfl⟩ := own_form hown
  clear hr hm hown hb
  go_wp2
  go_loopw [10] (fun i wr => ∃ k : Nat, k ≤ K.length ∧ i = .int .i64 k ∧ Own wr w.heap.size (.slice A K.length cap) K ∧ Below w.heap.size w wr) (fun i _ => K.length - (intOf i).toNat)
  case atStart => exact ⟨0, Nat.zero_le _, rfl, HOW.out, HB1.out⟩
  case round =>
    obtain ⟨k, hk, rfl, hown, hb⟩ := hrel
    have HO := Lib.hid hown
    have HB := Lib.hid hb
    by_cases hlt : k < K.length
    · have h1 : (k : Int) < (K.length : Int) := by omega
      have h0 : (0 : Int) ≤ (k : Int) := by omega
      have hf := World.ownsRow.form hown (by omega)
      obtain ⟨g, c, hv, hBg, hgl⟩ := hf
      obtain ⟨rfl, rfl⟩ : A = some ⟨g, 0, none⟩ ∧ cap = c := by simpa using hv
      obtain ⟨a, ha, hcell⟩ := hown.strs_at (Below.refl _ wr) k (by omega)
      obtain rfl : a = ⟨g, 0, none⟩ := by simpa using ha.symm
      rw [Addr.add_mid, Nat.zero_add] at hcell
      have HCK := Lib.hid (fun w => dclone_any K[k] w (HSH.out _ (HKM.out _ (List.getElem_mem hlt))))
      have HSS : Hid (∀ w', Own w' w.heap.size (.slice (some ⟨g, 0, none⟩) K.length cap) K → Own (w'.setCell ⟨g, k, none⟩ (.string ⟨(K[k]).toArray⟩)) w.heap.size (.slice (some ⟨g, 0, none⟩) K.length cap) K) := Lib.hid (fun w' h => h.setSame hlt)
      have HCE : Hid (∀ w', Own w' w.heap.size (.slice (some ⟨g, 0, none⟩) K.length cap) K → w'.cell? ⟨g, k, none⟩ = some (.string ⟨(K[k]).toArray⟩) ∧ w'.frozen? ⟨g, k, none⟩ = false) := Lib.hid (fun w' h => by
        obtain ⟨a, ha, hcell⟩ := h.strs_at (Below.refl _ w') k (by omega)
        obtain rfl : a = ⟨g, 0, none⟩ := by simpa using ha.symm
        rw [Addr.add_mid, Nat.zero_add] at hcell
        exact ⟨hcell, World.ownsRow.frozenAt h k⟩)
      obtain ⟨t, ht⟩ : ∃ t, K[k] = t := ⟨_, rfl⟩
      rw [ht] at hcell HCK HSS HCE
      have HBG := Lib.hid hBg
      clear hv ha hown hb ht hBg hgl
      go_wp2_with fail
      refine (HCK.out _).mono ?_
      rintro e w2 ⟨rfl, hb2⟩
      have ho2 := HO.out.below hb2
      obtain ⟨hc2, hf2⟩ := HCE.out _ ho2
      have HN := Lib.hid (HSS.out _ ho2)
      have HBN := Lib.hid ((HB.out.trans (hb2.mono HB.out.size)).setCell (p := ⟨g, k, none⟩) HBG.out (.string ⟨t.toArray⟩))
      clear ho2 hb2 hcell
      go_wp2
      exact ⟨⟨k + 1, by omega, by go_num, HN.out, HBN.out⟩, by simp [intOf]; omega⟩
    · have h1 : ¬ ((k : Int) < (K.length : Int)) := by omega
      clear hown hb
      go_wp2
      go_ret
      exact ⟨_, K, rfl, HO.out, HR.out, HM.out, HB.out⟩

theorem StoreAt.keys {w : World} {g m : Nat} {S : St} (_ : StoreAt w g m S) : ∀ x, Sto.look S x ≠ none → x ∈ Sto.keys S := fun x hx => (Sto.look_isSome S x).1 (by
  cases h : Sto.look S x with
  | none => exact absurd h hx
  | some t => rfl)
theorem StoreAt.keysShort {w : World} {g m : Nat} {S : St} (h : StoreAt w g m S) : ∀ x ∈ Sto.keys S, x.length ≤ 32 := fun x hx => by
  obtain ⟨p, hp, rfl⟩ := List.mem_map.1 hx
  exact (h.short p hp).1
/-- A row of texts of the call's own. -/
def RowPost (K : List (List UInt8)) (w : World) (e : Ending) (w' : World) : Prop := ∃ v, e = .returned v ∧ Own w' w.heap.size v K ∧ Below w.heap.size w w'

set_option maxRecDepth 8000 in
set_option maxHeartbeats 1000000 in
theorem stsums_any (g m : Nat) (S : St) (w : World) (h : StoreAt w g m S) (hl : S.length ≤ 1000000) :
    Calls Tryd.prog 8 #[.pointer (some ⟨g, 0, none⟩)] w (RowPost (Sto.keys S) w) := by
  have hc := h.cell
  have hB := (Below.refl w.heap.size w).alloc (Nat.le_refl _) (.cells #[.map (some m)] 58)
  have hkl : (Sto.keys S).length ≤ 1000000 := by unfold Sto.keys; simp; omega
  have HR := Lib.hid (rising_of _ _ _ (sortedE_any (h.map.below hB) (q := w.heap.size) (cell_of_row _ _ _ _ _ _ (heap_new_at w _ _ rfl)) _ h.keys hkl) _ h.keys hkl (fun x hx => by have := h.keysShort x hx; omega))
  have HB := Lib.hid hB
  have HKE : Hid (∀ K : List (List UInt8), K.Pairwise (· < ·) → (∀ x, x ∈ K ↔ Sto.look S x ≠ none) → K = Sto.keys S) := Lib.hid (fun K h1 h2 => Sto.rise_unique h1 (Sto.keys_rise h.rise) fun x => by
    rw [h2, ← Sto.look_isSome]; cases Sto.look S x <;> simp)
  have HK := Lib.hid (fun w => shelf_keysE (some m) w)
  clear h hl hB hkl
  go_enter Tryd.func8, Tryd.ntmps8
  go_wp2_with fail
  refine (HK.out _).mono ?_
  rintro e w1 ⟨rfl, rfl⟩
  go_wp2_with fail
  refine HR.out.mono ?_
  rintro e w2 ⟨v, K, rfl, hown, hr, hm, hb2⟩
  go_wp2
  go_ret
  obtain rfl := HKE.out K hr hm
  exact ⟨v, rfl, own_lowS hown (by simp), bchain HB.out hb2⟩

/-- slices.Clone of texts. -/
theorem row_zeroS (w : World) (n : Nat) (hn : n = w.heap.size) : (w.alloc (.cells #[] 9)).ownsRow n 9 1 (.slice (some ⟨n, 0, none⟩) 0 0) 0 [] := by
  subst hn
  exact ⟨rfl, Or.inr ⟨w.heap.size, 0, #[], rfl, Nat.le_refl _, heap_new_at _ _ _ rfl, Nat.le_refl _, Nat.zero_le _, rfl, rfl⟩⟩
set_option maxRecDepth 8000 in
set_option maxHeartbeats 1000000 in
theorem sclone_any (L : List (List UInt8)) (v : Value) (w : World) (hv : Strs w v L) (hl : L.length ≤ 1000000) :
    Calls Tryd.prog 38 #[v] w (RowPost L w) := by
  have hB := (Below.refl w.heap.size w).alloc (Nat.le_refl _) (.cells #[] 9)
  obtain ⟨v1, w1, hrun1, hown1, hgrow1, hat1⟩ := append_strs (hv.below hB) (row_zeroS w _ rfl) (by omega) (by simp)
  simp only [Nat.zero_add, List.nil_append] at hown1
  have HO : Hid (Own w1 w.heap.size v1 L) := Lib.hid hown1
  have HB1 : Hid (Below w.heap.size w w1) := Lib.hid (hB.trans ((Out.grown hgrow1 (F := fun j => j = w.heap.size) (fun k e => by simp [Value.ownBlock] at e; exact e.symm)).below (fun _ e => Nat.le_of_eq e.symm) (by simp)))
  have HR := Lib.hid hrun1
  have HLN := Lib.hid hl
  obtain ⟨A, cap, rfl, hc⟩ := hv
  cases A with
  | none =>
    have h0 : L = [] := by
      by_cases h : L.length = 0
      · exact List.eq_nil_of_length_eq_zero h
      · obtain ⟨a, ha, _⟩ := hc 0 (by omega)
        cases ha
    subst h0
    have hnil := fun w => Lib.run_eql_slice_nil (P := Tryd.prog) w 25 9 none ([] : List (List UInt8)).length cap 0 0 Tryd.underlying25
    simp only [Option.isNone_none, List.length_nil] at hnil
    simp only [List.length_nil]
    clear hrun1 hown1 hgrow1 hat1 hc hB
    go_enter Tryd.func38, Tryd.ntmps38
    go_wp2
    go_ret
    exact ⟨_, rfl, Own.nil _ _, Below.refl _ _⟩
  | some a =>
    have hnil := fun w => Lib.run_eql_slice_nil (P := Tryd.prog) w 25 9 (some a) L.length cap 0 0 Tryd.underlying25
    simp only [Option.isNone_some] at hnil
    clear hrun1 hown1 hgrow1 hat1 hc hB
    go_enter Tryd.func38, Tryd.ntmps38
    go_wp2_with (at_builtin; refine wpList_append_run rfl _ _ _ rfl (.slice (some ⟨w.heap.size, 0, none⟩) 0 0) (.slice (some a) L.length cap) _ (by rfl) (by rfl) HR.out ?_)
    go_ret
    exact ⟨_, rfl, HO.out, HB1.out⟩
end Go.Proofs.YtgbcilokeiengaaDoor
namespace Go.Proofs.YtgbcilokeiengaaDoor
open Go.RowKit
open Go.Proofs.YtgbcilokeiengaaDoor.Nd (N)

theorem drop_beq (L K : List (List UInt8)) (i : Nat) (hL : i < L.length) (hK : i < K.length) : (L.drop i == K.drop i) = ((L[i] == K[i]) && (L.drop (i + 1) == K.drop (i + 1))) := by
  rw [List.drop_eq_getElem_cons hL, List.drop_eq_getElem_cons hK, List.cons_beq_cons]
theorem eq_strs (d : Nat) (L K : List (List UInt8)) (w : World) (hL : L.length = 16) (hK : K.length = 16) :
    (Op.equalIn (d + 2) 46 (.agg (scells L).toArray) (.agg (scells K).toArray)).run Tryd.prog w = .ok (L == K) w := by
  have hu := Tryd.underlying46
  have hs := Tryd.sizeOf9
  have ha := Tryd.isAgg9
  unfold Op.equalIn
  go_simp
  generalize hF : (fun (i : Nat) (__s : Option Bool × PUnit) => _) = F
  have hstep : ∀ i (hi : i < 16) s, (F i s).run Tryd.prog w = .ok (if (L[i]'(by omega) == K[i]'(by omega)) = true then ForInStep.yield (none, ()) else ForInStep.done (some false, ())) w := by
    intro i hi s
    rw [← hF]
    have e1 : (scells L)[i]? = some (.string ⟨(L[i]'(by omega)).toArray⟩) := by simp [scells, hL, hi]
    have e2 : (scells K)[i]? = some (.string ⟨(K[i]'(by omega)).toArray⟩) := by simp [scells, hK, hi]
    simp only [Sem.run_bind, e1, e2]
    go_simp
    by_cases hc : (L[i]'(by omega)) = (K[i]'(by omega)) <;> simp [hc]
  clear hF
  have key : ∀ n a, a + n = 16 → (forIn (List.range' a n) (none, ()) F).run Tryd.prog w = .ok (if (L.drop a == K.drop a) = true then (none, ()) else (some false, ())) w := by
    intro n
    induction n with
    | zero =>
      intro a h
      rw [List.drop_of_length_le (by omega), List.drop_of_length_le (by omega)]
      simp
    | succ n ih =>
      intro a h
      rw [List.range'_succ, List.forIn_cons, Sem.run_bind, hstep a (by omega), drop_beq L K a (by omega) (by omega)]
      cases hc : (L[a]'(by omega) == K[a]'(by omega))
      · simp
      · simp [ih (a + 1) (by omega)]
  rw [key 16 0 rfl]
  simp only [List.drop_zero]
  cases (L == K) <;> simp
end Go.Proofs.YtgbcilokeiengaaDoor
namespace Go.Proofs.YtgbcilokeiengaaDoor
open Go.RowKit

set_option maxHeartbeats 400000 in
theorem fit_any (l : List UInt8) (w : World) (hl : l.length ≤ 1000000) :
    Calls Tryd.prog 79 #[.string ⟨l.toArray⟩] w fun e w' => e = .returned (.bool (Nib.fitL l)) ∧ w = w' := by
  go_enter Tryd.func79, Tryd.ntmps79
  go_wp2
  go_loop [6] (fun i => ∃ k : Nat, k ≤ l.length ∧ Nib.fitL (l.take k) = true ∧ i = .int .i64 k) (fun i => l.length - (intOf i).toNat)
  case atStart => exact ⟨0, Nat.zero_le _, rfl, rfl⟩
  case round =>
    obtain ⟨k, hk, hf, rfl⟩ := hrel
    have HF := Lib.hid hf; clear hf
    by_cases hlt : k < l.length
    · go_wp2
      · go_ret
        have hb : (15 : Int) < ((l[k].toNat : Nat) : Int) := by assumption
        exact ⟨by rw [Nib.fitL_false l k hlt (by omega)]; rfl, rfl⟩
      · go_round
        case rel =>
          have hb : ((l[k].toNat : Nat) : Int) ≤ 15 := by assumption
          exact ⟨k + 1, by omega, by rw [Nib.fitL_take_succ l k hlt, HF.out]; simp; omega, by go_num⟩
        case measure => simp [intOf]; omega
    · go_wp2
      go_ret
      have := HF.out
      rw [List.take_of_length_le (by omega)] at this
      exact ⟨by rw [this]; rfl, rfl⟩

end Go.Proofs.YtgbcilokeiengaaDoor
