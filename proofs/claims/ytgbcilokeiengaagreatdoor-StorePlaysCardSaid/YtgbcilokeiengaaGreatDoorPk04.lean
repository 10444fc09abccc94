/- MapRange, SortShelf, StoreShelf, StoreBase, AppendArg, NodeBase, StoreCalls, NodeEq -/
import Derived.Test.YtgbcilokeiengaaGreatDoorPk03
import Derived.Maps.RangeRun
import Derived.Maps.Range
import Derived.Shelf.Strconv.Itoa0
import Derived.Shelf.LaysM
import Derived.Shelf.Strconv.Clone
import Derived.Shelf.Sort.Plain
import Derived.Shelf.Slices.In.SortNone
import Derived.Test.YtgbcilokeiengaaGreatDoorChecked
import Derived.Shelf.SlIter.Sorted
import Derived.Shelf.SlMaps.Clone
import Derived.Maps.AppendAt
import Derived.Test.YtgbcilokeiengaaGreatDoorPk01
import Derived.Deep.WholeRow
import Derived.Lib.SliceRun
import Derived.Laws.StructEq
namespace Go.Proofs.YtgbcilokeiengaaGreatDoor
open Go.RowKit Go.MapKept
open Go.ChangeMaps (setBlock heap_setBlock_same heap_setBlock_other)
open Go.Maps (Keyed)
variable {P : Program} {k t e : TypeId} {κ α : Type}

/-- The map in block b is ranged over by the iterator in block r; the keys in 'done' have come; cnt are still to come. -/
def FnRange (M : MapLaw P k κ α) (w : World) (b r : Nat) (f : κ → Option α) (done : List κ) (cnt : Nat) : Prop :=
  ∃ es clock since seen c0, w.heap[b]? = some (.map es clock) ∧ (∀ x ∈ es.toList, ∃ s a, x.key = M.enc s ∧ x.val = M.val a ∧ M.ok s ∧ f s = some a) ∧ (∀ s a, f s = some a → ∃ x ∈ es.toList, x.key = M.enc s) ∧ Stamped es clock ∧
    w.heap[r]? = some (.mapIter (some b) since seen c0) ∧ (∀ x ∈ es.toList, x.born < since) ∧ since ≤ c0 ∧ since ≤ clock ∧ (leftOf es seen).size = cnt ∧ done.Nodup ∧ (∀ x ∈ es.toList, seen.contains x.born = true ↔ ∃ s ∈ done, x.key = M.enc s) ∧ ∀ s ∈ done, f s ≠ none

theorem FnRange.map {M : MapLaw P k κ α} {w : World} {b r : Nat} {f : κ → Option α} {done : List κ} {cnt : Nat} (h : FnRange M w b r f done cnt) : FnAt M w b f := by
  obtain ⟨es, clock, _, _, _, hb, h2, h3, h4, _⟩ := h
  exact ⟨es, clock, hb, h2, h3, h4⟩
theorem FnRange.left_eq {M : MapLaw P k κ α} {w : World} {b r : Nat} {f : κ → Option α} {done : List κ} {cnt : Nat} (h : FnRange M w b r f done cnt) : w.rangeLeft b r = cnt := by
  obtain ⟨es, clock, since, seen, c0, hb, _, _, _, hr, _, _, _, hc, _⟩ := h
  simp only [World.rangeLeft, hb, hr]
  exact hc
theorem FnRange.lt {M : MapLaw P k κ α} {w : World} {b r : Nat} {f : κ → Option α} {done : List κ} {cnt : Nat} (h : FnRange M w b r f done cnt) : r < w.heap.size := by
  obtain ⟨es, clock, since, seen, c0, hb, _, _, _, hr, _⟩ := h
  exact lt_of_heap hr
theorem FnRange.ne {M : MapLaw P k κ α} {w : World} {b r : Nat} {f : κ → Option α} {done : List κ} {cnt : Nat} (h : FnRange M w b r f done cnt) : r ≠ b := by
  obtain ⟨es, clock, since, seen, c0, hb, _, _, _, hr, _⟩ := h
  rintro rfl
  rw [hb] at hr; cases hr
theorem FnRange.no_cells {M : MapLaw P k κ α} {w : World} {b r : Nat} {f : κ → Option α} {done : List κ} {cnt : Nat} (h : FnRange M w b r f done cnt) (j : Nat) (cs : Array Value) (t : TypeId) (fr : Nat × Nat) (hk : j = r) : w.heap[j]? ≠ some (.cells cs t fr) := by
  subst hk
  obtain ⟨es, clock, since, seen, c0, hb, _, _, _, hr, _⟩ := h
  rw [hr]; simp
theorem FnRange.out {M : MapLaw P k κ α} {F : Nat → Prop} {w w' : World} {b r : Nat} {f : κ → Option α} {done : List κ} {cnt : Nat} (h : FnRange M w b r f done cnt) (ho : Out F w w') (hb : ¬ F b) (hr : ¬ F r) : FnRange M w' b r f done cnt := by
  obtain ⟨es, clock, since, seen, c0, h1, h2, h3, h4, h5, h6⟩ := h
  exact ⟨es, clock, since, seen, c0, ho.heap h1 hb, h2, h3, h4, ho.heap h5 hr, h6⟩
theorem FnRange.below {M : MapLaw P k κ α} {w w' : World} {b r : Nat} {f : κ → Option α} {done : List κ} {cnt : Nat} (h : FnRange M w b r f done cnt) (ho : Below w.heap.size w w') : FnRange M w' b r f done cnt := h.out (F := fun _ => False) (Out.of ho) id id

theorem FnAt.range {M : MapLaw P k κ α} {w : World} {b : Nat} {f : κ → Option α} (h : FnAt M w b f) (ht : P.underlying t = some (.map k e)) :
    ∃ w' cnt, (Instr.range t (.map (some b))).run P w = .ok (.pointer (some ⟨w.heap.size, 0, none⟩)) w' ∧ FnRange M w' b w.heap.size f [] cnt ∧ Below w.heap.size w w' ∧ w'.heap.size = w.heap.size + 1 := by
  obtain ⟨es, clock, hb, h2, h3, h4⟩ := h
  refine ⟨_, _, run_range_map w t k e b es clock ht hb, ⟨es, clock, clock, #[], clock, heap_old_at _ hb, h2, h3, h4, heap_new_at w _ _ rfl, h4.1, Nat.le_refl _, Nat.le_refl _, rfl, List.nodup_nil, fun x _ => by simp, fun s hs => by cases hs⟩, (Below.refl _ w).alloc (Nat.le_refl _) _, by simp⟩

theorem FnRange.next {M : MapLaw P k κ α} {w : World} {b r : Nat} {f : κ → Option α} {done : List κ} {cnt : Nat} (h : FnRange M w b r f done cnt) (ty : TypeId) :
    ((∀ s, f s ≠ none → s ∈ done) ∧ (Instr.next (.pointer (some ⟨r, 0, none⟩)) false ty).run P w = .ok (.tuple #[.bool false]) w) ∨
    ∃ s a w' cnt', f s = some a ∧ M.ok s ∧ s ∉ done ∧ (Instr.next (.pointer (some ⟨r, 0, none⟩)) false ty).run P w = .ok (.tuple #[.bool true, M.enc s, M.val a]) w' ∧ FnRange M w' b r f (done ++ [s]) cnt' ∧ cnt' < cnt ∧
      Out (fun i => i = r) w w' ∧ w'.heap.size = w.heap.size ∧ (Instr.entry (.pointer (some ⟨r, 0, none⟩))).run P w' = .ok (.tuple #[M.enc s, M.val a]) w' := by
  have hne := h.ne
  obtain ⟨es, clock, since, seen, c0, hb, h2, h3, h4, hr, hold, hsc, hsk, rfl, hnd, hseen, hdone⟩ := h
  rcases run_next_at (P := P) w ty r b since c0 seen es clock hr hb hold hsc with ⟨h0, hrun⟩ | ⟨x, hx, w1, hal, hrun⟩
  · refine Or.inl ⟨fun s hs => ?_, hrun⟩
    cases hf : f s with
    | none => exact absurd hf hs
    | some a =>
      obtain ⟨x, hx, hxe⟩ := h3 s a hf
      obtain ⟨s', hs', e⟩ := (hseen x hx).1 (all_seen es seen h0 x hx)
      rw [M.inj _ _ (hxe.symm.trans e)]; exact hs'
  · obtain ⟨hxm, hxs⟩ := mem_left hx
    obtain ⟨s, a, e1, e2, hok, hf⟩ := h2 x hxm
    have hr1 : w1.heap[r]? = some (.mapIter (some b) since seen c0) := by rcases hal with rfl | rfl <;> exact hr
    have hb1 : w1.heap[b]? = some (.map es clock) := by rcases hal with rfl | rfl <;> exact hb
    have hset := heap_set (o' := .mapIter (some b) since (seen.push x.born) clock) hr1
    have hb' : (setBlock w1 r (.mapIter (some b) since (seen.push x.born) clock)).heap[b]? = some (.map es clock) := (hset.2 b (fun e1 => hne e1.symm)).trans hb1
    have hnot : s ∉ done := fun hs => by
      have := (hseen x hxm).2 ⟨s, hs, e1⟩
      rw [hxs] at this; cases this
    rw [e1, e2] at hrun
    have hent := run_entry_at (P := P) (setBlock w1 r (.mapIter (some b) since (seen.push x.born) clock)) r b since seen es clock x hset.1 hb' hxm h4.2.1
    rw [e1, e2] at hent
    refine Or.inr ⟨s, a, _, _, hf, hok, hnot, hrun, ⟨es, clock, since, seen.push x.born, clock, hb', h2, h3, h4, hset.1, hold, hsk, hsk, rfl, ?_, ?_, ?_⟩, left_shrinks es seen x hx, ?_, ?_, hent⟩
    · rw [List.nodup_append]
      exact ⟨hnd, by simp, fun y hy z hz e => hnot (by simp at hz; rw [← hz, ← e]; exact hy)⟩
    · intro y hy
      rw [contains_push]
      constructor
      · intro hc
        simp only [Bool.or_eq_true, beq_iff_eq] at hc
        rcases hc with hc | hc
        · obtain ⟨s', hs', e⟩ := (hseen y hy).1 hc
          exact ⟨s', List.mem_append_left _ hs', e⟩
        · obtain rfl := born_inj h4.2.1 hy hxm hc
          exact ⟨s, by simp, e1⟩
      · rintro ⟨s', hs', e⟩
        simp only [Bool.or_eq_true, beq_iff_eq]
        rcases List.mem_append.1 hs' with hs' | hs'
        · exact Or.inl ((hseen y hy).2 ⟨s', hs', e⟩)
        · obtain rfl : s' = s := by simpa using hs'
          refine Or.inr ?_
          obtain rfl := entry_eq_of_key ((stamped_iff es clock).1 h4).2.2 hy hxm (e.trans e1.symm)
          rfl
    · intro s' hs'
      rcases List.mem_append.1 hs' with hs' | hs'
      · exact hdone s' hs'
      · obtain rfl : s' = s := by simpa using hs'
        rw [hf]; simp
    · rcases hal with rfl | rfl <;> exact ⟨rfl, rfl, rfl, by simp [setBlock], fun i _ hi => hset.2 i hi⟩
    · rcases hal with rfl | rfl <;> simp [setBlock]

/-- The keys, in some order: as many as the map is long. -/
theorem FnAt.len {M : MapLaw P k κ α} {w : World} {b : Nat} {f : κ → Option α} (h : FnAt M w b f) (ht : P.underlying t = some (.map k e)) :
    ∃ ks : List κ, ks.Nodup ∧ (∀ s, s ∈ ks ↔ f s ≠ none) ∧ ∀ ty, (Builtin.len_ #[t] ty #[.map (some b)]).run P w = .ok (.int .i64 (ks.length : Nat)) w := by
  obtain ⟨es, clock, hb, h2, h3, h4⟩ := h
  have hex : ∀ l : List MapEntry, (∀ x ∈ l, ∃ s a, x.key = M.enc s ∧ x.val = M.val a ∧ M.ok s ∧ f s = some a) → ∃ ks : List κ, l.map (·.key) = ks.map M.enc ∧ ∀ s ∈ ks, f s ≠ none := by
    intro l
    induction l with
    | nil => exact fun _ => ⟨[], rfl, fun s hs => by cases hs⟩
    | cons x r ih =>
      intro hl
      obtain ⟨ks, e1, e2⟩ := ih fun y hy => hl y (List.mem_cons_of_mem _ hy)
      obtain ⟨s, a, q1, _, _, q2⟩ := hl x (List.mem_cons_self ..)
      refine ⟨s :: ks, by simp [e1, q1], fun s' hs' => ?_⟩
      rcases List.mem_cons.1 hs' with rfl | hs'
      · rw [q2]; simp
      · exact e2 s' hs'
  obtain ⟨ks, e1, e2⟩ := hex es.toList h2
  have hlen : ks.length = es.size := by
    have := congrArg List.length e1
    simpa using this.symm
  refine ⟨ks, ?_, fun s => ⟨e2 s, fun hs => ?_⟩, fun ty => ?_⟩
  · have h5 := h4.2.2
    rw [e1] at h5
    exact List.Pairwise.imp (fun {a b} hab => fun (e : a = b) => hab (by rw [e])) (List.pairwise_map.1 h5)
  · cases hf : f s with
    | none => exact absurd hf hs
    | some a =>
      obtain ⟨x, hx, hxe⟩ := h3 s a hf
      have : x.key ∈ ks.map M.enc := e1 ▸ List.mem_map.2 ⟨x, hx, rfl⟩
      obtain ⟨s', hs', e⟩ := List.mem_map.1 this
      rw [M.inj _ _ (hxe.symm.trans e.symm)]; exact hs'
  · rw [hlen]
    simp [Builtin.len_, run_underlying ht, MapKept.run_getObj_map hb, goInt, Result.andThen]

/-- What a copy has. -/
theorem FnAt.copy {M : MapLaw P k κ α} {w : World} {b : Nat} {f : κ → Option α} (h : FnAt M w b f) : ∃ es clock, w.heap[b]? = some (.map es clock) ∧ FnAt M (w.alloc (.map es clock)) w.heap.size f := by
  obtain ⟨es, clock, hb, h2, h3, h4⟩ := h
  exact ⟨es, clock, hb, es, clock, heap_new_at w _ _ rfl, h2, h3, h4⟩

end Go.Proofs.YtgbcilokeiengaaGreatDoor
namespace Go.Proofs.YtgbcilokeiengaaGreatDoor
open Go.Shelf Go.RowKit
def lays190_ren : Go.Shelf.Ren := ⟨fun | 190 => 78 | 125 => 91 | 258 => 90 | 128 => 107 | 129 => 108 | 302 => 98 | 303 => 99 | 304 => 100 | 305 => 101 | 306 => 102 | 307 => 103 | 308 => 104 | 309 => 105 | 310 => 106 | 333 => 111 | 329 => 112 | 330 => 113 | 334 => 114 | 335 => 115 | 336 => 116 | 344 => 117 | n => n, fun | 31 => 26 | 9 => 9 | 3 => 3 | 46 => 90 | 0 => 0 | 51 => 95 | 53 => 99 | 4 => 4 | 183 => 143 | 182 => 142 | 131 => 62 | 5 => 5 | 218 => 151 | 222 => 155 | 228 => 157 | 229 => 158 | n => n, fun | n => n⟩
theorem lays190 : Go.Proofs.Lays.n190 Tryz.prog lays190_ren := {
  mixed := by kernel_rfl
  f125 := Tryz.func91.trans (congrArg some (by kernel_rfl))
  f128 := Tryz.func107.trans (congrArg some (by kernel_rfl))
  f129 := Tryz.func108.trans (congrArg some (by kernel_rfl))
  f190 := Tryz.func78.trans (congrArg some (by kernel_rfl))
  f258 := Tryz.func90.trans (congrArg some (by kernel_rfl))
  f302 := Tryz.func98.trans (congrArg some (by kernel_rfl))
  f303 := Tryz.func99.trans (congrArg some (by kernel_rfl))
  f304 := Tryz.func100.trans (congrArg some (by kernel_rfl))
  f305 := Tryz.func101.trans (congrArg some (by kernel_rfl))
  f306 := Tryz.func102.trans (congrArg some (by kernel_rfl))
  f307 := Tryz.func103.trans (congrArg some (by kernel_rfl))
  f308 := Tryz.func104.trans (congrArg some (by kernel_rfl))
  f309 := Tryz.func105.trans (congrArg some (by kernel_rfl))
  f310 := Tryz.func106.trans (congrArg some (by kernel_rfl))
  f329 := Tryz.func112.trans (congrArg some (by kernel_rfl))
  f330 := Tryz.func113.trans (congrArg some (by kernel_rfl))
  f333 := Tryz.func111.trans (congrArg some (by kernel_rfl))
  f334 := Tryz.func114.trans (congrArg some (by kernel_rfl))
  f335 := Tryz.func115.trans (congrArg some (by kernel_rfl))
  f336 := Tryz.func116.trans (congrArg some (by kernel_rfl))
  f344 := Tryz.func117.trans (congrArg some (by kernel_rfl))
  t0 := Tryz.underlying0
  a0 := Tryz.isAgg0
  z0 := Tryz.sizeOf0
  v0 := Tryz.zeroValue0
  t3 := Tryz.underlying3
  a3 := Tryz.isAgg3
  z3 := Tryz.sizeOf3
  v3 := Tryz.zeroValue3
  t4 := Tryz.underlying4
  a4 := Tryz.isAgg4
  z4 := Tryz.sizeOf4
  v4 := Tryz.zeroValue4
  t5 := Tryz.underlying5
  a5 := Tryz.isAgg5
  z5 := Tryz.sizeOf5
  v5 := Tryz.zeroValue5
  t9 := Tryz.underlying9
  a9 := Tryz.isAgg9
  z9 := Tryz.sizeOf9
  v9 := Tryz.zeroValue9
  t31 := Tryz.underlying26
  a31 := Tryz.isAgg26
  z31 := Tryz.sizeOf26
  v31 := Tryz.zeroValue26
  t46 := Tryz.underlying90
  a46 := Tryz.isAgg90
  z46 := Tryz.sizeOf90
  v46 := Tryz.zeroValue90
  t51 := Tryz.underlying95
  a51 := Tryz.isAgg95
  z51 := Tryz.sizeOf95
  v51 := Tryz.zeroValue95
  t53 := Tryz.underlying99
  a53 := Tryz.isAgg99
  z53 := Tryz.sizeOf99
  v53 := Tryz.zeroValue99
  t131 := Tryz.underlying62
  a131 := Tryz.isAgg62
  z131 := Tryz.sizeOf62
  v131 := Tryz.zeroValue62
  t182 := Tryz.underlying142
  a182 := Tryz.isAgg142
  z182 := Tryz.sizeOf142
  v182 := Tryz.zeroValue142
  t183 := Tryz.underlying143
  a183 := Tryz.isAgg143
  z183 := Tryz.sizeOf143
  v183 := Tryz.zeroValue143
  t218 := Tryz.underlying151
  a218 := Tryz.isAgg151
  z218 := Tryz.sizeOf151
  v218 := Tryz.zeroValue151
  t222 := Tryz.underlying155
  a222 := Tryz.isAgg155
  z222 := Tryz.sizeOf155
  v222 := Tryz.zeroValue155
  t228 := Tryz.underlying157
  a228 := Tryz.isAgg157
  z228 := Tryz.sizeOf157
  v228 := Tryz.zeroValue157
  t229 := Tryz.underlying158
  a229 := Tryz.isAgg158
  z229 := Tryz.sizeOf158
  v229 := Tryz.zeroValue158 }
open Go.Sort Go.RowKit in
theorem shelf_slices_Sort_string (blk off cap : Nat) (ss : List (List UInt8)) (w : World) (hH : Holds encStr w blk off ss.toArray) (hblk : blk < w.heap.size) (hsz : ss.length < 4611686018427387904) :
    Calls Tryz.prog 78 #[.slice (some ⟨blk, off, none⟩) ss.length cap] w fun e w' =>
      e = .returned (.tuple #[]) ∧ ∃ n os, w' = grow (putRow encStr (Sort.ahead w n) blk off (ss.mergeSort fun x y => decide (x ≤ y)).toArray) os := Any.slices_Sort_string lays190 blk off cap ss w hH hblk hsz
open Go.RowKit Go.Sort in
/-- .. and plain. (LAID: no walk: one application.) -/
theorem shelf_slices_Sort_string_none (p : Option Addr) (cap : Nat) (w : World) :
    Calls Tryz.prog 78 #[.slice p 0 cap] w fun e w' => e = .returned (.tuple #[]) ∧ w' = w := Any.slices_Sort_string_none lays190 p cap w
end Go.Proofs.YtgbcilokeiengaaGreatDoor
namespace Go.Proofs.YtgbcilokeiengaaGreatDoor
open Go.Shelf Go.RowKit Go.Maps Go.Sort
open Go.Proofs (encStr)
def laykeysE_ren : Go.Shelf.Ren := ⟨fun | 7 => 43 | 10 => 58 | n => n, fun | 23 => 43 | 26 => 9 | 3 => 55 | 28 => 83 | 0 => 0 | 27 => 82 | 33 => 107 | 4 => 4 | n => n, fun | n => n⟩
theorem laykeysE : Go.Proofs.SlLaysZ.n7 Tryz.prog laykeysE_ren := {
  mixed := by kernel_rfl
  f7 := ⟨Tryz.f43.name, by decide, Tryz.func43.trans (congrArg some (by kernel_rfl))⟩
  f10 := ⟨Tryz.f58.name, by decide, Tryz.func58.trans (congrArg some (by kernel_rfl))⟩
  t0 := Tryz.underlying0
  a0 := Tryz.isAgg0
  z0 := Tryz.sizeOf0
  v0 := Tryz.zeroValue0
  t4 := Tryz.underlying4
  a4 := Tryz.isAgg4
  z4 := Tryz.sizeOf4
  v4 := Tryz.zeroValue4
  t23 := Tryz.underlying43
  a23 := Tryz.isAgg43
  z23 := Tryz.sizeOf43
  v23 := Tryz.zeroValue43
  t26 := Tryz.underlying9
  a26 := Tryz.isAgg9
  z26 := Tryz.sizeOf9
  v26 := Tryz.zeroValue9
  t27 := Tryz.underlying82
  a27 := Tryz.isAgg82
  z27 := Tryz.sizeOf82
  v27 := Tryz.zeroValue82
  t28 := Tryz.underlying83
  a28 := Tryz.isAgg83
  z28 := Tryz.sizeOf83
  v28 := Tryz.zeroValue83
  t33 := Tryz.underlying107
  a33 := Tryz.isAgg107
  z33 := Tryz.sizeOf107
  v33 := Tryz.zeroValue107 }
def laykeysU_ren : Go.Shelf.Ren := ⟨fun | 7 => 44 | 10 => 59 | n => n, fun | 23 => 49 | 26 => 9 | 3 => 51 | 28 => 83 | 0 => 0 | 27 => 82 | 33 => 107 | 4 => 4 | n => n, fun | n => n⟩
theorem laykeysU : Go.Proofs.SlLaysZ.n7 Tryz.prog laykeysU_ren := {
  mixed := by kernel_rfl
  f7 := ⟨Tryz.f44.name, by decide, Tryz.func44.trans (congrArg some (by kernel_rfl))⟩
  f10 := ⟨Tryz.f59.name, by decide, Tryz.func59.trans (congrArg some (by kernel_rfl))⟩
  t0 := Tryz.underlying0
  a0 := Tryz.isAgg0
  z0 := Tryz.sizeOf0
  v0 := Tryz.zeroValue0
  t4 := Tryz.underlying4
  a4 := Tryz.isAgg4
  z4 := Tryz.sizeOf4
  v4 := Tryz.zeroValue4
  t23 := Tryz.underlying49
  a23 := Tryz.isAgg49
  z23 := Tryz.sizeOf49
  v23 := Tryz.zeroValue49
  t26 := Tryz.underlying9
  a26 := Tryz.isAgg9
  z26 := Tryz.sizeOf9
  v26 := Tryz.zeroValue9
  t27 := Tryz.underlying82
  a27 := Tryz.isAgg82
  z27 := Tryz.sizeOf82
  v27 := Tryz.zeroValue82
  t28 := Tryz.underlying83
  a28 := Tryz.isAgg83
  z28 := Tryz.sizeOf83
  v28 := Tryz.zeroValue83
  t33 := Tryz.underlying107
  a33 := Tryz.isAgg107
  z33 := Tryz.sizeOf107
  v33 := Tryz.zeroValue107 }
def laysorted_ren : Go.Shelf.Ren := ⟨fun | 6 => 57 | 8 => 77 | 9 => 78 | 11 => 89 | 13 => 91 | 12 => 90 | 23 => 107 | 24 => 108 | 14 => 98 | 15 => 99 | 16 => 100 | 17 => 101 | 18 => 102 | 19 => 103 | 20 => 104 | 21 => 105 | 22 => 106 | 25 => 111 | 26 => 112 | 27 => 113 | 28 => 114 | 29 => 115 | 30 => 116 | 31 => 117 | n => n, fun | 26 => 9 | 28 => 83 | 24 => 26 | 0 => 0 | 3 => 3 | 37 => 90 | 48 => 95 | 50 => 99 | 4 => 4 | 40 => 143 | 39 => 142 | 45 => 62 | 5 => 5 | 9 => 9 | 51 => 151 | 55 => 155 | 57 => 157 | 58 => 158 | 33 => 107 | n => n, fun | n => n⟩
theorem laysorted : Go.Proofs.SlLaysZ.n6 Tryz.prog laysorted_ren := {
  mixed := by kernel_rfl
  f6 := ⟨Tryz.f57.name, by decide, Tryz.func57.trans (congrArg some (by kernel_rfl))⟩
  f8 := ⟨Tryz.f77.name, by decide, Tryz.func77.trans (congrArg some (by kernel_rfl))⟩
  f11 := ⟨Tryz.f89.name, by decide, Tryz.func89.trans (congrArg some (by kernel_rfl))⟩
  t0 := Tryz.underlying0
  a0 := Tryz.isAgg0
  z0 := Tryz.sizeOf0
  v0 := Tryz.zeroValue0
  t24 := Tryz.underlying26
  a24 := Tryz.isAgg26
  z24 := Tryz.sizeOf26
  v24 := Tryz.zeroValue26
  t26 := Tryz.underlying9
  a26 := Tryz.isAgg9
  z26 := Tryz.sizeOf9
  v26 := Tryz.zeroValue9
  t28 := Tryz.underlying83
  a28 := Tryz.isAgg83
  z28 := Tryz.sizeOf83
  v28 := Tryz.zeroValue83
  i26 := by kernel_rfl }
def layclone_ren : Go.Shelf.Ren := ⟨fun | 5 => 19 | 7 => 37 | n => n, fun | 23 => 43 | 25 => 9 | 3 => 55 | 4 => 4 | 20 => 20 | n => n, fun | n => n⟩
theorem layclone : Go.Proofs.SlLaysW.n5 Tryz.prog layclone_ren := {
  mixed := by kernel_rfl
  f5 := ⟨Tryz.f19.name, by decide, Tryz.func19.trans (congrArg some (by kernel_rfl))⟩
  f7 := Tryz.func37.trans (congrArg some (by kernel_rfl))
  t4 := Tryz.underlying4
  a4 := Tryz.isAgg4
  z4 := Tryz.sizeOf4
  v4 := Tryz.zeroValue4
  t20 := Tryz.underlying20
  a20 := Tryz.isAgg20
  z20 := Tryz.sizeOf20
  v20 := Tryz.zeroValue20
  t23 := Tryz.underlying43
  a23 := Tryz.isAgg43
  z23 := Tryz.sizeOf43
  v23 := Tryz.zeroValue43 }
theorem shelf_maps_CloneE (b : Nat) (es : Array MapEntry) (clock : Nat) (w : World) (hb : w.heap[b]? = some (.map es clock)) :
    Calls Tryz.prog 19 #[.map (some b)] w fun e w' => e = .returned (.map (some w.heap.size)) ∧ w' = w.alloc (.map es clock) := AnyW.maps_Clone layclone b es clock w hb
/-- slices.Sort's two contracts, as slices.Sorted leans on them. -/
theorem sortsIn (m : Nat) : AnyZ.SortsIn Tryz.prog laysorted_ren Fence.wide m :=
  ⟨fun blk off cap ss W hH hblk hsz => callsIn_wide.2 (shelf_slices_Sort_string blk off cap ss W hH hblk hsz),
   fun p cap W => callsIn_wide.2 (shelf_slices_Sort_string_none p cap W)⟩
theorem shelf_keysE (mb : Option Nat) (w : World) :
    Calls Tryz.prog 43 #[.map mb] w fun e w' => e = .returned (.func (.func 58) #[] #[.pointer (some ⟨w.heap.size, 0, none⟩)]) ∧ w' = w.alloc (.cells #[.map mb] 43) :=
  (callsIn_wide (n := 5)).1 (AnyZ.keys_in laykeysE Fence.wide 5 trivial rfl mb w)
theorem shelf_keysU (mb : Option Nat) (w : World) :
    Calls Tryz.prog 44 #[.map mb] w fun e w' => e = .returned (.func (.func 59) #[] #[.pointer (some ⟨w.heap.size, 0, none⟩)]) ∧ w' = w.alloc (.cells #[.map mb] 49) :=
  (callsIn_wide (n := 5)).1 (AnyZ.keys_in laykeysU Fence.wide 5 trivial rfl mb w)
def SortedPost (S : List (List UInt8) → Prop) (w : World) (e : Ending) (w' : World) : Prop := ∃ (v : Value) (ss : List (List UInt8)), e = .returned v ∧ S ss ∧
  w'.ownsRow w.heap.size 9 1 v ss.length ((ss.mergeSort (fun x y => decide (x ≤ y))).map encStr) ∧ (v = .slice none 0 0 ↔ ss = []) ∧ Below w.heap.size w w'
set_option maxHeartbeats 1000000 in
theorem shelf_sortedE {H : Type} (b nn q : Nat) (D0 : DataW H) (R : Value → Option (DataW H × List MemPlace)) (w : World) (hown : w.ownsMap Tryz.prog 9 R b nn D0) (hq : w.cell? ⟨q, 0, none⟩ = some (.map (some b))) (hmax : Maps.size D0 ≤ maxLen) (hbytes : Maps.size D0 * 16 ≤ 140737488355328) :
    Calls Tryz.prog 57 #[.func (.func 58) #[] #[.pointer (some ⟨q, 0, none⟩)]] w (SortedPost (fun ss => ss.Perm (strKeys D0)) w) := by
  have hseq : SeqGives Fence.wide 2 Tryz.prog 58 #[.pointer (some ⟨q, 0, none⟩)] encStr (fun ss => ss.Perm (strKeys D0)) (Maps.size D0) w :=
    AnyZ.keys_gives (ρ := laykeysE_ren) { laykeysE with } Fence.wide _ trivial rfl (by omega) q b nn D0 w (World.block_lt_of_cell? _ _ hq) hq hown
  exact (callsIn_wide (n := 5)).1 (AnyZ.sorted_in laysorted Fence.wide 5 trivial trivial trivial trivial rfl (by omega) (sortsIn _) (enters_of Tryz.func78 (by kernel_rfl) rfl) 58 #[.pointer (some ⟨q, 0, none⟩)] trivial (enters_of Tryz.func58 (by kernel_rfl) rfl) _ _ hmax hbytes _ hseq)
set_option maxHeartbeats 1000000 in
theorem shelf_sortedU {H : Type} (b nn q : Nat) (D0 : DataW H) (R : Value → Option (DataW H × List MemPlace)) (w : World) (hown : w.ownsMap Tryz.prog 9 R b nn D0) (hq : w.cell? ⟨q, 0, none⟩ = some (.map (some b))) (hmax : Maps.size D0 ≤ maxLen) (hbytes : Maps.size D0 * 16 ≤ 140737488355328) :
    Calls Tryz.prog 57 #[.func (.func 59) #[] #[.pointer (some ⟨q, 0, none⟩)]] w (SortedPost (fun ss => ss.Perm (strKeys D0)) w) := by
  have hseq : SeqGives Fence.wide 2 Tryz.prog 59 #[.pointer (some ⟨q, 0, none⟩)] encStr (fun ss => ss.Perm (strKeys D0)) (Maps.size D0) w :=
    AnyZ.keys_gives (ρ := laykeysU_ren) { laykeysU with } Fence.wide _ trivial rfl (by omega) q b nn D0 w (World.block_lt_of_cell? _ _ hq) hq hown
  exact (callsIn_wide (n := 5)).1 (AnyZ.sorted_in laysorted Fence.wide 5 trivial trivial trivial trivial rfl (by omega) (sortsIn _) (enters_of Tryz.func78 (by kernel_rfl) rfl) 59 #[.pointer (some ⟨q, 0, none⟩)] trivial (enters_of Tryz.func59 (by kernel_rfl) rfl) _ _ hmax hbytes _ hseq)
end Go.Proofs.YtgbcilokeiengaaGreatDoor
namespace Go.Proofs.YtgbcilokeiengaaGreatDoor
open Go.RowKit Go.Maps Go.WideShapes
open Go.WideElems (Fit rd rg rd_mk rg_of)
open Go.Proofs.YtgbcilokeiengaaGreatDoor.Sto (St)
open Go.Proofs (encStr)

def storeMap : MapLaw Tryz.prog 9 (List UInt8) (List UInt8) := ⟨fun s => .string ⟨s.toArray⟩, fun t => .agg #[.string ⟨t.toArray⟩], fun s => s.length ≤ 140737488351232, lawS, keyS, fun _ _ h => str_inj h⟩
def setMap : MapLaw Tryz.prog 9 (List UInt8) Unit := ⟨fun s => .string ⟨s.toArray⟩, fun _ => .agg #[], fun s => s.length ≤ 140737488351232, lawS, keyS, fun _ _ h => str_inj h⟩
set_option maxRecDepth 100000 in
theorem zeroEntry (w : World) : (zeroValue 55).run Tryz.prog w = .ok (.agg #[.string ⟨#[]⟩]) w := by kernel_rfl
set_option maxRecDepth 100000 in
theorem zeroUnit (w : World) : (zeroValue 51).run Tryz.prog w = .ok (.agg #[]) w := by kernel_rfl

/-- The store in block g, its map in block m, has the texts S. -/
structure StoreAt (w : World) (g m : Nat) (S : St) : Prop where
  head : w.heap[g]? = some (.cells #[.map (some m)] 45 (0, 0))
  map : FnAt storeMap w m (Sto.look S)
  rise : Sto.Rising S
  short : ∀ p ∈ S, p.1.length ≤ 32 ∧ p.2.length ≤ 1000
theorem StoreAt.cell {w : World} {g m : Nat} {S : St} (h : StoreAt w g m S) : w.cell? ⟨g, 0, none⟩ = some (.map (some m)) := cell_of_row _ _ _ _ _ _ h.head
theorem StoreAt.out {F : Nat → Prop} {w w' : World} {g m : Nat} {S : St} (h : StoreAt w g m S) (ho : Out F w w') (hg : ¬ F g) (hm : ¬ F m) : StoreAt w' g m S := ⟨ho.heap h.head hg, h.map.out ho hm, h.rise, h.short⟩
theorem StoreAt.below {w w' : World} {g m : Nat} {S : St} (h : StoreAt w g m S) (hb : Below w.heap.size w w') : StoreAt w' g m S := h.out (F := fun _ => False) (Out.of hb) id id
theorem StoreAt.ne {w : World} {g m g' m' : Nat} {S T : St} (h : StoreAt w g m S) (k : StoreAt w g' m' T) : g ≠ m' := by
  rintro rfl
  exact k.map.no_cells _ _ _ _ rfl h.head
theorem StoreAt.mlt {w : World} {g m : Nat} {S : St} (h : StoreAt w g m S) : m < w.heap.size := h.map.lt
theorem Sto.short_look {S : St} (hS : Sto.Rising S) (h : ∀ p ∈ S, p.1.length ≤ 32 ∧ p.2.length ≤ 1000) {x t : List UInt8} (hl : Sto.look S x = some t) : x.length ≤ 32 ∧ t.length ≤ 1000 := h _ ((Sto.look_mem hS x t).1 hl)

/-- A map of strings, in the kit's word: what its keys are, in whatever order. -/
theorem FnAt.owns {α : Type} (M : MapLaw Tryz.prog 9 (List UInt8) α) (hM : ∀ s, M.enc s = .string ⟨s.toArray⟩) {w : World} {b : Nat} {f : List UInt8 → Option α} (h : FnAt M w b f) (L : List (List UInt8)) (hL : ∀ x, f x ≠ none → x ∈ L) (hl : L.length ≤ 1000000) :
    ∃ D : DataW Unit, w.ownsMap Tryz.prog 9 (fun _ => some (.lit (.bool true), [])) b 1000000 D ∧ Maps.size D ≤ 1000000 ∧ ∀ ss : List (List UInt8), ss.Perm (strKeys D) → ss.Nodup ∧ ∀ x, x ∈ ss ↔ f x ≠ none := by
  obtain ⟨es, clock, hb, h2, h3, h4⟩ := h
  have hex : ∀ l : List MapEntry, (∀ x ∈ l, ∃ s a, x.key = M.enc s ∧ x.val = M.val a ∧ M.ok s ∧ f s = some a) → ∃ ks : List (List UInt8), l.map (·.key) = ks.map M.enc ∧ (∀ s ∈ ks, f s ≠ none) ∧ (l.map (rg (H := Unit) Tryz.prog 9 (fun _ => some (.lit (.bool true), [])))).map (fun p => strOf p.1) = ks ∧ ∀ x ∈ l, ∃ y, rd (H := Unit) Tryz.prog 9 (fun _ => some (.lit (.bool true), [])) x = some y := by
    intro l
    induction l with
    | nil => exact fun _ => ⟨[], rfl, fun s hs => (by cases hs), rfl, fun x hx => (by cases hx)⟩
    | cons x r ih =>
      intro hl
      obtain ⟨ks, e1, e2, e3, e4⟩ := ih fun y hy => hl y (List.mem_cons_of_mem _ hy)
      obtain ⟨s, a, q1, _, q3, q2⟩ := hl x (List.mem_cons_self ..)
      obtain ⟨kl, hk⟩ := M.key s q3
      have hk' := hk
      rw [hM s] at hk'
      obtain ⟨y, ey, rfl, _⟩ := Maps.keyOf_str Tryz.underlying9 hk'
      obtain rfl : s = y := str_inj ey
      have hr : rd (H := Unit) Tryz.prog 9 (fun _ => some (.lit (.bool true), [])) x = some (.string s, .lit (.bool true)) := by
        obtain ⟨xk, xv, xb⟩ := x
        dsimp only at q1
        subst q1
        exact rd_mk (R := fun _ => some (DataW.lit (.bool true), [])) (yv := (DataW.lit (.bool true), [])) hk rfl
      refine ⟨s :: ks, by simp [e1, q1], fun s' hs' => ?_, ?_, fun z hz => ?_⟩
      · rcases List.mem_cons.1 hs' with rfl | hs'
        · rw [q2]; simp
        · exact e2 s' hs'
      · rw [List.map_cons, List.map_cons, e3, rg_of hr]
        rfl
      · rcases List.mem_cons.1 hz with rfl | hz
        · exact ⟨_, hr⟩
        · exact e4 z hz
  obtain ⟨ks, e1, e2, e3, e4⟩ := hex es.toList h2
  have hlen : ks.length = es.size := by
    have := congrArg List.length e1
    simpa using this.symm
  have hnd : ks.Nodup := by
    have h5 := h4.2.2
    rw [e1] at h5
    exact List.Pairwise.imp (fun {a b} hab => fun (e : a = b) => hab (by rw [e])) (List.pairwise_map.1 h5)
  have hall : ∀ s, s ∈ ks ↔ f s ≠ none := fun s => ⟨e2 s, fun hs => by
    cases hf : f s with
    | none => exact absurd hf hs
    | some a =>
      obtain ⟨x, hx, hxe⟩ := h3 s a hf
      have : x.key ∈ ks.map M.enc := e1 ▸ List.mem_map.2 ⟨x, hx, rfl⟩
      obtain ⟨s', hs', e⟩ := List.mem_map.1 this
      rw [M.inj _ _ (hxe.symm.trans e.symm)]; exact hs'⟩
  have hsz : es.size ≤ 1000000 := by
    have := Sto.le_of_sub (M := L) hnd fun x hx => hL x ((hall x).1 hx)
    omega
  refine ⟨_, ⟨es, clock, hb, ⟨by unfold maxLen; omega, h4, e4⟩, hsz, rfl⟩, ?_, fun ss hp => ?_⟩
  · simp only [Maps.size, length_sorted]
    simpa using hsz
  · have hp2 : ss.Perm ks := by
      refine hp.trans ?_
      rw [← e3]
      exact (sorted_perm _).map _
    exact ⟨hp2.nodup_iff.2 hnd, fun x => by rw [hp2.mem_iff, hall]⟩
theorem map_enc (L : List (List UInt8)) : L.map encStr = scells L := by
  unfold scells
  refine List.map_congr_left fun x _ => ?_
  rfl
/-- The keys in rising order, in a row of the call's own. -/
def RisePost {α : Type} (f : List UInt8 → Option α) (w : World) (e : Ending) (w' : World) : Prop :=
  ∃ v K, e = .returned v ∧ Own w' w.heap.size v K ∧ K.Pairwise (· < ·) ∧ (∀ x, x ∈ K ↔ f x ≠ none) ∧ Below w.heap.size w w'
theorem sort_rise {ss : List (List UInt8)} (h : ss.Nodup) : (ss.mergeSort fun x y => decide (x ≤ y)).Pairwise (· < ·) := by
  have h1 : (ss.mergeSort fun x y => decide (x ≤ y)).Pairwise (fun a b => decide (a ≤ b) = true) := List.pairwise_mergeSort (fun a b c h1 h2 => by
    simp only [decide_eq_true_eq] at *; exact List.le_trans h1 h2) (fun a b => by
    simp only [Bool.or_eq_true, decide_eq_true_eq]; exact List.le_total a b) ss
  have h2 : (ss.mergeSort fun x y => decide (x ≤ y)).Nodup := (List.mergeSort_perm ss _).nodup_iff.2 h
  refine (h1.and h2).imp fun {a b} hab => ?_
  obtain ⟨h3, h4⟩ := hab
  rcases List.le_iff_lt_or_eq.1 (of_decide_eq_true h3) with h5 | h5
  · exact h5
  · exact absurd h5 h4
theorem risePost_of {α : Type} {f : List UInt8 → Option α} {D : DataW Unit} (hD : ∀ ss : List (List UInt8), ss.Perm (strKeys D) → ss.Nodup ∧ ∀ x, x ∈ ss ↔ f x ≠ none) {w : World} {e : Ending} {w' : World} (h : SortedPost (fun ss => ss.Perm (strKeys D)) w e w') : RisePost f w e w' := by
  obtain ⟨v, ss, rfl, hp, hown, _, hb⟩ := h
  obtain ⟨hn, hm⟩ := hD ss hp
  refine ⟨v, _, rfl, ?_, sort_rise hn, fun x => by rw [(List.mergeSort_perm ss _).mem_iff]; exact hm x, hb⟩
  unfold Own
  rw [← map_enc, List.length_mergeSort]
  exact hown
theorem sortedE_any {f : List UInt8 → Option (List UInt8)} {b q : Nat} {w : World} (h : FnAt storeMap w b f) (hq : w.cell? ⟨q, 0, none⟩ = some (.map (some b))) (L : List (List UInt8)) (hL : ∀ x, f x ≠ none → x ∈ L) (hl : L.length ≤ 1000000) :
    Calls Tryz.prog 57 #[.func (.func 58) #[] #[.pointer (some ⟨q, 0, none⟩)]] w (RisePost f w) := by
  obtain ⟨D, h1, h2, h3⟩ := h.owns storeMap (fun _ => rfl) L hL hl
  exact (shelf_sortedE b _ q D _ w h1 hq (by unfold maxLen; omega) (by omega)).mono fun _ _ h => risePost_of h3 h
theorem sortedU_any {f : List UInt8 → Option Unit} {b q : Nat} {w : World} (h : FnAt setMap w b f) (hq : w.cell? ⟨q, 0, none⟩ = some (.map (some b))) (L : List (List UInt8)) (hL : ∀ x, f x ≠ none → x ∈ L) (hl : L.length ≤ 1000000) :
    Calls Tryz.prog 57 #[.func (.func 59) #[] #[.pointer (some ⟨q, 0, none⟩)]] w (RisePost f w) := by
  obtain ⟨D, h1, h2, h3⟩ := h.owns setMap (fun _ => rfl) L hL hl
  exact (shelf_sortedU b _ q D _ w h1 hq (by unfold maxLen; omega) (by omega)).mono fun _ _ h => risePost_of h3 h
end Go.Proofs.YtgbcilokeiengaaGreatDoor
namespace Go.Proofs.YtgbcilokeiengaaGreatDoor
open Go.RowKit
open Go.Proofs.YtgbcilokeiengaaGreatDoor.Pw (M)

/-- 'append(s, x...)', by an equation of the run. -/
theorem wpList_append_run {P : Program} {w w' : World} {ops : Array Oper} {rest : List Oper} {o : Oper} {a : Act} {Q : Exit → Act → World → Prop} (hg : o.guard = none) (s x : Operand) (t : TypeId) (hop : o.op = Op.call { callee := Callee.builtin Builtin.append, args := #[s, x], argTypes := #[t, t] })
    (sv xv r : Value) (hs : a.eval s = sv) (hx : a.eval x = xv) (hrun : (Builtin.append_ #[t, t] o.type #[sv, xv]).run P w = .ok r w') (hK : wpList P ops Q rest (a.put o.dst r) w') :
    wpList P ops Q (o :: rest) a w := by
  refine wpList_plain hg fun K' hK' => ?_
  unfold Oper.wp
  simp [execOp, hop, resolve, invoke, builtin, hs, hx, hrun, Result.andThen]
  exact hK' _ _ hK

theorem run_append_nothing_s (w : World) (v : Value) (n c B : Nat) (xs : List Value) (h : w.ownsRow B 9 1 v n xs) (ty : TypeId) : (Builtin.append_ #[26, 26] ty #[v, .slice none 0 c]).run Tryz.prog w = .ok v w := by
  rcases h.2 with ⟨rfl, rfl⟩ | ⟨g, cap, cur, rfl, hB, hh, hn, _⟩
  · simp [Builtin.append_, run_underlying Tryz.underlying26, Tryz.sizeOf9, Builtin.lenOf, Builtin.firstCells, Result.andThen]
  · simp [Builtin.append_, run_underlying Tryz.underlying26, Tryz.sizeOf9, Builtin.lenOf, Builtin.firstCells, Result.andThen, hn, storeCells]
theorem grown_none (w : World) (r : Option Nat) : w.grownBy w r := ⟨rfl, rfl, rfl, Nat.le_refl _, fun _ _ _ => rfl⟩
/-- The same as a step of a region that draws its order. -/
theorem step_append_run {P : Program} {ops : Array Oper} {o : Oper} {a : Act} {w w' : World} {K : Act → World → Prop} {Q : Exit → Act → World → Prop} {E : Prop} (hg : o.guard = none) (s x : Operand) (t : TypeId) (hop : o.op = Op.call { callee := Callee.builtin Builtin.append, args := #[s, x], argTypes := #[t, t] })
    (sv xv r : Value) (hs : a.eval s = sv) (hx : a.eval x = xv) (hrun : (Builtin.append_ #[t, t] o.type #[sv, xv]).run P w = .ok r w') (hK : K (a.put o.dst r) w') : if Region.wanted o (yielded ops a.tmps) = true then Oper.wp P o a w K Q else E := by
  have hw : Region.wanted o (yielded ops a.tmps) = true := by simp [Region.wanted, hg]
  rw [if_pos hw]
  unfold Oper.wp
  simp [execOp, hop, resolve, invoke, builtin, hs, hx, hrun, Result.andThen]
  exact hK
theorem append_strs {w : World} {v s : Value} {L : List (List UInt8)} {B n : Nat} {xs : List Value} (hv : Strs w v L) (hs : w.ownsRow B 9 1 s n xs) (hl : n + L.length ≤ 1000000) (hB : B ≤ w.heap.size) :
    ∃ v' w', (Builtin.append_ #[26, 26] 26 #[s, v]).run Tryz.prog w = .ok v' w' ∧ w'.ownsRow B 9 1 v' (n + L.length) (xs ++ scells L) ∧ w.grownBy w' s.ownBlock ∧ (v'.ownBlock = s.ownBlock ∨ v'.ownBlock = some w.heap.size) := by
  obtain ⟨i0, hi, hz0, hz1, hz2⟩ := info_parts Tryz.infoStr
  obtain ⟨A, cap, rfl, hc⟩ := hv
  cases A with
  | none =>
    have h0 : L.length = 0 := by
      by_cases h : L.length = 0
      · exact h
      · obtain ⟨a, ha, _⟩ := hc 0 (by omega)
        cases ha
    obtain rfl : L = [] := List.eq_nil_of_length_eq_zero h0
    exact ⟨s, w, run_append_nothing_s w s n cap B xs hs _, by simpa [scells] using hs, grown_none _ _, Or.inl rfl⟩
  | some a =>
    obtain ⟨v', w', h1, h2, h3, _, h5⟩ := run_append_own_at (P := Tryz.prog) w B 26 26 9 i0 (.string ⟨#[]⟩) 1 16 Tryz.underlying26 hi hz0 hz1 hz2 rfl (by decide) s n xs hs a L.length cap (scells L) (by simp [scells])
      (fun j u hu => by
        have hj : j < L.length := by
          have := (List.getElem?_eq_some_iff.1 hu).1
          simpa [scells] using this
        obtain ⟨b, hb, hcell⟩ := hc j hj
        cases hb
        simp only [scells, List.getElem?_map, List.getElem?_eq_getElem hj] at hu
        simp at hu
        rw [← hu]
        exact hcell) (by simp [scells, Value.oneCell']) (by unfold maxLen; omega) (by omega) hB
    exact ⟨v', w', h1, h2, h3, h5⟩
end Go.Proofs.YtgbcilokeiengaaGreatDoor
namespace Go.Proofs.YtgbcilokeiengaaGreatDoor
open Go.RowKit
open Go.Proofs.YtgbcilokeiengaaGreatDoor.Nd (N)

def ncl (n : N) : List Value := .int .i64 n.kind :: .string ⟨n.path.toArray⟩ :: .string ⟨n.val.toArray⟩ :: scells n.kids
def ndval (n : N) : Value := .agg (ncl n).toArray
theorem ncl_length (n : N) (h : n.kids.length = 16) : (ncl n).length = 19 := by simp [ncl, scells_length, h]
set_option maxRecDepth 100000 in
theorem Tryz.infoStrN : (Tryz.prog.info? 9).map (fun i => (i.zero, i.size, i.bytes)) = some (some (.string ⟨#[]⟩), 1, 16) := by kernel_rfl
/-- A node in a block. -/
def NodeAt (w : World) (g : Nat) (n : N) : Prop := w.heap[g]? = some (.cells (ncl n).toArray 72 (0, 0))
theorem NodeAt.kind {w : World} {g : Nat} {n : N} (h : NodeAt w g n) : w.cell? ⟨g, 0, none⟩ = some (.int .i64 n.kind) := by
  rw [cell_of_row w g 0 _ _ _ h]
  rfl
theorem NodeAt.path {w : World} {g : Nat} {n : N} (h : NodeAt w g n) : w.cell? ⟨g, 1, none⟩ = some (.string ⟨n.path.toArray⟩) := by
  rw [cell_of_row w g 1 _ _ _ h]
  rfl
theorem NodeAt.val {w : World} {g : Nat} {n : N} (h : NodeAt w g n) : w.cell? ⟨g, 2, none⟩ = some (.string ⟨n.val.toArray⟩) := by
  rw [cell_of_row w g 2 _ _ _ h]
  rfl
theorem NodeAt.kid {w : World} {g : Nat} {n : N} (h : NodeAt w g n) (i : Nat) (hi : i < n.kids.length) : w.cell? ⟨g, 3 + i, none⟩ = some (.string ⟨n.kids[i].toArray⟩) := by
  rw [cell_of_row w g (3 + i) _ _ _ h, List.getElem?_toArray, Nat.add_comm 3 i]
  show (scells n.kids)[i]? = _
  simp [scells, hi]
theorem NodeAt.below {w w' : World} {g : Nat} {n : N} (h : NodeAt w g n) (hb : Below w.heap.size w w') : NodeAt w' g n := (hb.block g (lt_of_heap h)).trans h
theorem Nd.kids_take (l : List (List UInt8)) (k : Nat) (hk : k < l.length) : Nd.kidsL (l.take (k + 1)) = if l[k] = [] then Nd.kidsL (l.take k) else Nd.kidsL (l.take k) ++ [l[k]] := by
  unfold Nd.kidsL
  rw [List.take_succ_eq_append_getElem hk, List.filter_append]
  by_cases h : l[k] = [] <;> simp [h]
theorem own_lowS {w : World} {B B' : Nat} {s : Value} {L : List (List UInt8)} (h : Own w B s L) (hB : B' ≤ B) : Own w B' s L := by
  refine ⟨h.1, ?_⟩
  rcases h.2 with hn | ⟨k, cap, cur, hv, hb, hk, hr⟩
  · exact Or.inl hn
  · exact Or.inr ⟨k, cap, cur, hv, Nat.le_trans hB hb, hk, hr⟩
def KidsPost (n : N) (w : World) (e : Ending) (w' : World) : Prop := ∃ z, e = .returned z ∧ Own w' w.heap.size z (Nd.kidsL n.kids) ∧ Below w.heap.size w w'

set_option maxRecDepth 100000 in
set_option maxHeartbeats 1000000 in
theorem rKids_any (n : N) (w : World) (hn : n.kids.length = 16) :
    Calls Tryz.prog 34 #[ndval n] w (KidsPost n w) := by
  unfold KidsPost ndval
  obtain ⟨i0, hi, hz0, hz1, hz2⟩ := info_parts Tryz.infoStrN
  have hat : NodeAt (w.alloc (.cells (ncl n).toArray 72)) w.heap.size n := heap_new_at w _ _ rfl
  have HAT := Lib.hid hat
  have hb0 : Below w.heap.size w (w.alloc (.cells (ncl n).toArray 72)) := (Below.refl _ w).alloc (Nat.le_refl _) _
  have HB0 := Lib.hid hb0
  have hcs : (ncl n).toArray.size = 19 := by rw [List.size_toArray, ncl_length n hn]
  obtain ⟨C, hC⟩ : ∃ C, (ncl n).toArray = C := ⟨_, rfl⟩
  rw [hC] at HAT HB0 hcs ⊢
  clear hat hb0 hC
  go_enter Tryz.func34, Tryz.ntmps34
  go_wp2
  generalize (w.alloc (.cells C 72)) = w0 at *
  have HSZ : Hid (w.heap.size < w0.heap.size) := Lib.hid (lt_of_heap (HAT.out))
  have HRW : Hid (∀ w', Below w0.heap.size w0 w' → ∀ i (hi : i < n.kids.length), w'.cell? ⟨w.heap.size, 3 + i, none⟩ = some (.string ⟨n.kids[i].toArray⟩)) := Lib.hid (fun w' h i hi => (HAT.out.below h).kid i hi)
  go_loopw [3, 4] (fun sl i wr => ∃ (k : Nat) (z : Value), z = sl ∧ k ≤ 16 ∧ i = .int .i64 k ∧ Own wr w0.heap.size z (Nd.kidsL (n.kids.take k)) ∧ Below w0.heap.size w0 wr) (fun _ i _ => 16 - (intOf i).toNat)
  case atStart => exact ⟨0, _, rfl, Nat.zero_le _, rfl, Own.nil _ _, Below.refl _ _⟩
  case round =>
    obtain ⟨k, z, rfl, hk, rfl, hown, hb⟩ := hrel
    have HBk := Lib.hid hb
    have HOW := Lib.hid hown
    by_cases hlt : k < 16
    · have h1 : (k : Int) < 16 := by omega
      have h0 : (0 : Int) ≤ (k : Int) := by omega
      have n0 := HRW.out wr hb k (by omega)
      have HST := Lib.hid (Nd.kids_take n.kids k (by omega))
      have hln : (Nd.kidsL (n.kids.take k)).length ≤ 16 := by
        unfold Nd.kidsL
        refine Nat.le_trans (List.length_filter_le _ _) ?_
        rw [List.length_take]
        omega
      obtain ⟨x, hx⟩ : ∃ x, n.kids[k]'(by omega) = x := ⟨_, rfl⟩
      rw [hx] at n0 HST
      obtain ⟨O, hO⟩ : ∃ O, Nd.kidsL (n.kids.take k) = O := ⟨_, rfl⟩
      rw [hO] at HOW HST hln
      have HSZr : Hid (w0.heap.size ≤ wr.heap.size) := Lib.hid hb.size
      have HLN := Lib.hid hln
      clear hx hO hown hln hb
      by_cases he : x = []
      · subst he
        rw [if_pos rfl] at HST
        go_wp2
        exact ⟨⟨k + 1, z, rfl, by omega, by go_num, by rw [HST.out]; exact HOW.out, HBk.out⟩, by simp [intOf]; omega⟩
      · rw [if_neg he] at HST
        have hx1 : (x == []) = false := by rw [beq_eq_false_iff_ne]; exact he
        have hx2 : ¬ (x = []) := he
        go_wp2_with (at_builtin; refine wpList_append_lies _ rfl _ _ _ rfl w0.heap.size 9 i0 (.string ⟨#[]⟩) 1 16 Tryz.underlying26 hi hz0 hz1 hz2 rfl (by decide) z O.length (scells O) (by rfl) (World.ownsRow.alloc HOW.out _) ⟨wr.heap.size, 0, none⟩ 1 1 (scells [x]) (by rfl) rfl (World.news_of_block (heap_new_at _ _ _ rfl)) (by simp [scells, Value.oneCell']) (by decide) (by have := HLN.out; unfold maxLen; omega) (by have := HLN.out; omega) (by have := HSZr.out; simp; omega) (wr.heap.size + 1) (by simp) ?_; intro g' cap' w5 hown5 hgrow5 hat5 hlt5)
        have hB5 : Below w0.heap.size w0 w5 := HBk.out.trans (((Out.of ((Below.refl _ wr).alloc (Nat.le_refl _) _)).trans (Out.grown hgrow5 (F := fun j => z.ownBlock = some j) (fun j e => e))).below (fun j hj => (HOW.out.lt j hj).1) HSZr.out)
        refine ⟨⟨k + 1, _, rfl, by omega, by go_num, ?_, hB5⟩, by simp [intOf]; omega⟩
        rw [HST.out]
        unfold Own
        rw [scells_append, List.length_append]
        exact hown5
    · have h1 : ¬ ((k : Int) < 16) := by omega
      obtain rfl : k = 16 := by omega
      rw [List.take_of_length_le (by omega)] at HOW
      clear hown hb
      go_wp2
      go_ret
      exact ⟨z, rfl, (own_lowS HOW.out (Nat.le_of_lt HSZ.out)), HB0.out.trans (HBk.out.mono (Nat.le_of_lt HSZ.out))⟩
end Go.Proofs.YtgbcilokeiengaaGreatDoor
namespace Go.Proofs.YtgbcilokeiengaaGreatDoor
open Go.RowKit
open Go.Proofs.YtgbcilokeiengaaGreatDoor.Sto (St)

/-- A new store. -/
def StNewPost (w : World) (S : St) (e : Ending) (w' : World) : Prop := ∃ g m, e = .returned (.pointer (some ⟨g, 0, none⟩)) ∧ w.heap.size ≤ g ∧ w.heap.size ≤ m ∧ StoreAt w' g m S ∧ Below w.heap.size w w'

set_option maxRecDepth 8000 in
set_option maxHeartbeats 400000 in
theorem stnew_any (w : World) : Calls Tryz.prog 4 #[] w (StNewPost w []) := by
  have hmm := @run_makeMap Tryz.prog
  go_enter Tryz.func4, Tryz.ntmps4
  go_wp2
  go_ret
  refine ⟨w.heap.size + 1, w.heap.size, rfl, by omega, by omega, ⟨heap_new_at _ _ _ (by simp), ?_, Sto.rising_nil, fun p hp => (by cases hp)⟩, ((Below.refl _ w).alloc (Nat.le_refl _) _).alloc (by simp) _⟩
  exact ((FnAt.made storeMap w w.heap.size rfl).congr (fun _ => rfl)).below ((Below.refl _ _).alloc (Nat.le_refl _) _)

theorem StoreAt.lookE {w : World} {g m : Nat} {S : St} (h : StoreAt w g m S) {x : List UInt8} (hx : x.length ≤ 140737488351232) :
    (Instr.lookup 43 (.map (some m)) (.string ⟨x.toArray⟩) true).run Tryz.prog w = .ok (.tuple #[.agg #[.string ⟨((Sto.look S x).getD []).toArray⟩], .bool (Sto.look S x).isSome]) w := by
  have h1 := h.map.look Tryz.underlying43 (s := x) hx true (zeroEntry w)
  rw [show (.string ⟨x.toArray⟩ : Value) = storeMap.enc x from rfl, h1]
  cases Sto.look S x <;> rfl

set_option maxRecDepth 8000 in
set_option maxHeartbeats 400000 in
theorem stget_any (g m : Nat) (S : St) (x : List UInt8) (w : World) (h : StoreAt w g m S) (hx : x.length ≤ 140737488351232) :
    Calls Tryz.prog 29 #[.pointer (some ⟨g, 0, none⟩), .string ⟨x.toArray⟩] w fun e w' => e = .returned (.tuple #[.string ⟨((Sto.look S x).getD []).toArray⟩, .bool (Sto.look S x).isSome]) ∧ Below w.heap.size w w' := by
  have hc := h.cell
  have hlook := h.lookE hx
  have hsh : ((Sto.look S x).getD []).length ≤ 140737488351232 := by
    cases hl : Sto.look S x with
    | none => simp
    | some t => have := (Sto.short_look h.rise h.short hl).2; simp; omega
  have HCL := Lib.hid (fun w => dclone_any _ w hsh)
  obtain ⟨t, ht⟩ : ∃ t, (Sto.look S x).getD [] = t := ⟨_, rfl⟩
  obtain ⟨b, hb⟩ : ∃ b, (Sto.look S x).isSome = b := ⟨_, rfl⟩
  rw [ht] at hlook HCL ⊢
  rw [hb] at hlook ⊢
  clear h hx hsh ht hb
  go_enter Tryz.func29, Tryz.ntmps29
  go_wp2_with fail
  have hB : Below w.heap.size w (w.alloc (.cells #[.string ⟨t.toArray⟩] 55)) := (Below.refl _ w).alloc (Nat.le_refl _) _
  refine (HCL.out _).mono ?_
  rintro e w1 ⟨rfl, hb1⟩
  go_wp2
  go_ret2
  exact ⟨rfl, bchain hB hb1⟩

set_option maxRecDepth 8000 in
set_option maxHeartbeats 400000 in
theorem stfork_any (g m : Nat) (S : St) (w : World) (h : StoreAt w g m S) :
    Calls Tryz.prog 10 #[.pointer (some ⟨g, 0, none⟩)] w (StNewPost w S) := by
  have hc := h.cell
  obtain ⟨es, clock, hb, hf⟩ := h.map.copy
  have HR := Lib.hid h.rise
  have HS := Lib.hid h.short
  have HF := Lib.hid hf
  have HCL := Lib.hid (shelf_maps_CloneE m es clock w hb)
  clear h hf hb
  go_enter Tryz.func10, Tryz.ntmps10
  go_wp2_with fail
  refine HCL.out.mono ?_
  rintro e w1 ⟨rfl, rfl⟩
  go_wp2
  go_ret
  refine ⟨w.heap.size + 1, w.heap.size, rfl, by omega, by omega, ⟨heap_new_at _ _ _ (by simp), ?_, HR.out, HS.out⟩, ((Below.refl _ w).alloc (Nat.le_refl _) _).alloc (by simp) _⟩
  exact HF.out.below ((Below.refl _ _).alloc (Nat.le_refl _) _)

/-- A text of a row of the call's own, set as it was. -/
theorem Own.setSame {w : World} {B g n cap i : Nat} {L : List (List UInt8)} (h : Own w B (.slice (some ⟨g, 0, none⟩) n cap) L) (hi : i < L.length) :
    Own (w.setCell ⟨g, i, none⟩ (.string ⟨(L[i]).toArray⟩)) B (.slice (some ⟨g, 0, none⟩) n cap) L := by
  have hn : n = L.length := by
    obtain ⟨_, _, hv⟩ := own_form h
    simp at hv
    exact hv.2.1
  subst hn
  have := (World.ownsRow.stored h i (.string ⟨(L[i]).toArray⟩)).1
  unfold Own
  have e : (scells L).set i (.string ⟨(L[i]).toArray⟩) = scells L := by
    have : (.string ⟨(L[i]).toArray⟩ : Value) = (scells L)[i]'(by rw [scells_length]; exact hi) := by simp [scells]
    rw [this, List.set_getElem_self]
  rw [← e]
  exact this
set_option maxRecDepth 8000 in
set_option maxHeartbeats 1000000 in
theorem rising_of {α : Type} (f : List UInt8 → Option α) (z : Value) (w : World) (hs : Calls Tryz.prog 57 #[z] w (RisePost f w)) (L : List (List UInt8)) (hL : ∀ x, f x ≠ none → x ∈ L) (hl : L.length ≤ 1000000) (hsh : ∀ x ∈ L, x.length ≤ 140737488351232) :
    Calls Tryz.prog 42 #[z] w (RisePost f w) := by
  have HS := Lib.hid hs
  have HL := Lib.hid hL
  have HLl := Lib.hid hl
  have HSH := Lib.hid hsh
  clear hs hL hl hsh
  go_enter Tryz.func42, Tryz.ntmps42
  go_wp2_with fail
  refine HS.out.mono ?_
  rintro e w1 ⟨v, K, rfl, hown, hr, hm, hb⟩
  have HKM : Hid (∀ x ∈ K, x ∈ L) := Lib.hid (fun x hx => HL.out x ((hm x).1 hx))
  have hK : K.length ≤ 1000000 := by
    have := Sto.le_of_sub (hr.imp fun h => Sto.lt_ne h) HKM.out
    have := HLl.out
    omega
  have HR := Lib.hid hr
  have HM := Lib.hid hm
  have HOW := Lib.hid hown
  have HB1 := Lib.hid hb
  have HS1 := Lib.hid hb.size
  obtain ⟨A, cap, rfl⟩ := own_form hown
  clear hr hm hown hb
  go_wp2
  go_loopw [10] (fun i wr => ∃ k : Nat, k ≤ K.length ∧ i = .int .i64 k ∧ Own wr w.heap.size (.slice A K.length cap) K ∧ Below w.heap.size w wr) (fun i _ => K.length - (intOf i).toNat)
  case atStart => exact ⟨0, Nat.zero_le _, rfl, HOW.out, HB1.out⟩
  case round =>
    obtain ⟨k, hk, rfl, hown, hb⟩ := hrel
    have HO := Lib.hid hown
    have HB := Lib.hid hb
    by_cases hlt : k < K.length
    · have h1 : (k : Int) < (K.length : Int) := by omega
      have h0 : (0 : Int) ≤ (k : Int) := by omega
      have hf := World.ownsRow.form hown (by omega)
      obtain ⟨g, c, hv, hBg, hgl⟩ := hf
      obtain ⟨rfl, rfl⟩ : A = some ⟨g, 0, none⟩ ∧ cap = c := by simpa using hv
      obtain ⟨a, ha, hcell⟩ := hown.strs_at (Below.refl _ wr) k (by omega)
      obtain rfl : a = ⟨g, 0, none⟩ := by simpa using ha.symm
      rw [Addr.add_mid, Nat.zero_add] at hcell
      have HCK := Lib.hid (fun w => dclone_any K[k] w (HSH.out _ (HKM.out _ (List.getElem_mem hlt))))
      have HSS : Hid (∀ w', Own w' w.heap.size (.slice (some ⟨g, 0, none⟩) K.length cap) K → Own (w'.setCell ⟨g, k, none⟩ (.string ⟨(K[k]).toArray⟩)) w.heap.size (.slice (some ⟨g, 0, none⟩) K.length cap) K) := Lib.hid (fun w' h => h.setSame hlt)
      have HCE : Hid (∀ w', Own w' w.heap.size (.slice (some ⟨g, 0, none⟩) K.length cap) K → w'.cell? ⟨g, k, none⟩ = some (.string ⟨(K[k]).toArray⟩) ∧ w'.frozen? ⟨g, k, none⟩ = false) := Lib.hid (fun w' h => by
        obtain ⟨a, ha, hcell⟩ := h.strs_at (Below.refl _ w') k (by omega)
        obtain rfl : a = ⟨g, 0, none⟩ := by simpa using ha.symm
        rw [Addr.add_mid, Nat.zero_add] at hcell
        exact ⟨hcell, World.ownsRow.frozenAt h k⟩)
      obtain ⟨t, ht⟩ : ∃ t, K[k] = t := ⟨_, rfl⟩
      rw [ht] at hcell HCK HSS HCE
      have HBG := Lib.hid hBg
      clear hv ha hown hb ht hBg hgl
      go_wp2_with fail
      refine (HCK.out _).mono ?_
      rintro e w2 ⟨rfl, hb2⟩
      have ho2 := HO.out.below hb2
      obtain ⟨hc2, hf2⟩ := HCE.out _ ho2
      have HN := Lib.hid (HSS.out _ ho2)
      have HBN := Lib.hid ((HB.out.trans (hb2.mono HB.out.size)).setCell (p := ⟨g, k, none⟩) HBG.out (.string ⟨t.toArray⟩))
      clear ho2 hb2 hcell
      go_wp2
      exact ⟨⟨k + 1, by omega, by go_num, HN.out, HBN.out⟩, by simp [intOf]; omega⟩
    · have h1 : ¬ ((k : Int) < (K.length : Int)) := by omega
      clear hown hb
      go_wp2
      go_ret
      exact ⟨_, K, rfl, HO.out, HR.out, HM.out, HB.out⟩

theorem StoreAt.keys {w : World} {g m : Nat} {S : St} (_ : StoreAt w g m S) : ∀ x, Sto.look S x ≠ none → x ∈ Sto.keys S := fun x hx => (Sto.look_isSome S x).1 (by
  cases h : Sto.look S x with
  | none => exact absurd h hx
  | some t => rfl)
theorem StoreAt.keysShort {w : World} {g m : Nat} {S : St} (h : StoreAt w g m S) : ∀ x ∈ Sto.keys S, x.length ≤ 32 := fun x hx => by
  obtain ⟨p, hp, rfl⟩ := List.mem_map.1 hx
  exact (h.short p hp).1
/-- A row of texts of the call's own. -/
def RowPost (K : List (List UInt8)) (w : World) (e : Ending) (w' : World) : Prop := ∃ v, e = .returned v ∧ Own w' w.heap.size v K ∧ Below w.heap.size w w'

set_option maxRecDepth 8000 in
set_option maxHeartbeats 1000000 in
theorem stsums_any (g m : Nat) (S : St) (w : World) (h : StoreAt w g m S) (hl : S.length ≤ 1000000) :
    Calls Tryz.prog 25 #[.pointer (some ⟨g, 0, none⟩)] w (RowPost (Sto.keys S) w) := by
  have hc := h.cell
  have hB := (Below.refl w.heap.size w).alloc (Nat.le_refl _) (.cells #[.map (some m)] 43)
  have hkl : (Sto.keys S).length ≤ 1000000 := by unfold Sto.keys; simp; omega
  have HR := Lib.hid (rising_of _ _ _ (sortedE_any (h.map.below hB) (q := w.heap.size) (cell_of_row _ _ _ _ _ _ (heap_new_at w _ _ rfl)) _ h.keys hkl) _ h.keys hkl (fun x hx => by have := h.keysShort x hx; omega))
  have HB := Lib.hid hB
  have HKE : Hid (∀ K : List (List UInt8), K.Pairwise (· < ·) → (∀ x, x ∈ K ↔ Sto.look S x ≠ none) → K = Sto.keys S) := Lib.hid (fun K h1 h2 => Sto.rise_unique h1 (Sto.keys_rise h.rise) fun x => by
    rw [h2, ← Sto.look_isSome]; cases Sto.look S x <;> simp)
  have HK := Lib.hid (fun w => shelf_keysE (some m) w)
  clear h hl hB hkl
  go_enter Tryz.func25, Tryz.ntmps25
  go_wp2_with fail
  refine (HK.out _).mono ?_
  rintro e w1 ⟨rfl, rfl⟩
  go_wp2_with fail
  refine HR.out.mono ?_
  rintro e w2 ⟨v, K, rfl, hown, hr, hm, hb2⟩
  go_wp2
  go_ret
  obtain rfl := HKE.out K hr hm
  exact ⟨v, rfl, own_lowS hown (by simp), bchain HB.out hb2⟩

/-- slices.Clone of texts. -/
theorem row_zeroS (w : World) (n : Nat) (hn : n = w.heap.size) : (w.alloc (.cells #[] 9)).ownsRow n 9 1 (.slice (some ⟨n, 0, none⟩) 0 0) 0 [] := by
  subst hn
  exact ⟨rfl, Or.inr ⟨w.heap.size, 0, #[], rfl, Nat.le_refl _, heap_new_at _ _ _ rfl, Nat.le_refl _, Nat.zero_le _, rfl, rfl⟩⟩
set_option maxRecDepth 8000 in
set_option maxHeartbeats 1000000 in
theorem sclone_any (L : List (List UInt8)) (v : Value) (w : World) (hv : Strs w v L) (hl : L.length ≤ 1000000) :
    Calls Tryz.prog 35 #[v] w (RowPost L w) := by
  have hB := (Below.refl w.heap.size w).alloc (Nat.le_refl _) (.cells #[] 9)
  obtain ⟨v1, w1, hrun1, hown1, hgrow1, hat1⟩ := append_strs (hv.below hB) (row_zeroS w _ rfl) (by omega) (by simp)
  simp only [Nat.zero_add, List.nil_append] at hown1
  have HO : Hid (Own w1 w.heap.size v1 L) := Lib.hid hown1
  have HB1 : Hid (Below w.heap.size w w1) := Lib.hid (hB.trans ((Out.grown hgrow1 (F := fun j => j = w.heap.size) (fun k e => by simp [Value.ownBlock] at e; exact e.symm)).below (fun _ e => Nat.le_of_eq e.symm) (by simp)))
  have HR := Lib.hid hrun1
  have HLN := Lib.hid hl
  obtain ⟨A, cap, rfl, hc⟩ := hv
  cases A with
  | none =>
    have h0 : L = [] := by
      by_cases h : L.length = 0
      · exact List.eq_nil_of_length_eq_zero h
      · obtain ⟨a, ha, _⟩ := hc 0 (by omega)
        cases ha
    subst h0
    have hnil := fun w => Lib.run_eql_slice_nil (P := Tryz.prog) w 26 9 none ([] : List (List UInt8)).length cap 0 0 Tryz.underlying26
    simp only [Option.isNone_none, List.length_nil] at hnil
    simp only [List.length_nil]
    clear hrun1 hown1 hgrow1 hat1 hc hB
    go_enter Tryz.func35, Tryz.ntmps35
    go_wp2
    go_ret
    exact ⟨_, rfl, Own.nil _ _, Below.refl _ _⟩
  | some a =>
    have hnil := fun w => Lib.run_eql_slice_nil (P := Tryz.prog) w 26 9 (some a) L.length cap 0 0 Tryz.underlying26
    simp only [Option.isNone_some] at hnil
    clear hrun1 hown1 hgrow1 hat1 hc hB
    go_enter Tryz.func35, Tryz.ntmps35
    go_wp2_with (at_builtin; refine wpList_append_run rfl _ _ _ rfl (.slice (some ⟨w.heap.size, 0, none⟩) 0 0) (.slice (some a) L.length cap) _ (by rfl) (by rfl) HR.out ?_)
    go_ret
    exact ⟨_, rfl, HO.out, HB1.out⟩
end Go.Proofs.YtgbcilokeiengaaGreatDoor
namespace Go.Proofs.YtgbcilokeiengaaGreatDoor
open Go.RowKit
open Go.Proofs.YtgbcilokeiengaaGreatDoor.Nd (N)

theorem drop_beq (L K : List (List UInt8)) (i : Nat) (hL : i < L.length) (hK : i < K.length) : (L.drop i == K.drop i) = ((L[i] == K[i]) && (L.drop (i + 1) == K.drop (i + 1))) := by
  rw [List.drop_eq_getElem_cons hL, List.drop_eq_getElem_cons hK, List.cons_beq_cons]
theorem eq_strs (d : Nat) (L K : List (List UInt8)) (w : World) (hL : L.length = 16) (hK : K.length = 16) :
    (Op.equalIn (d + 2) 70 (.agg (scells L).toArray) (.agg (scells K).toArray)).run Tryz.prog w = .ok (L == K) w := by
  have hu := Tryz.underlying70
  have hs := Tryz.sizeOf9
  have ha := Tryz.isAgg9
  unfold Op.equalIn
  go_simp
  generalize hF : (fun (i : Nat) (__s : Option Bool × PUnit) => _) = F
  have hstep : ∀ i (hi : i < 16) s, (F i s).run Tryz.prog w = .ok (if (L[i]'(by omega) == K[i]'(by omega)) = true then ForInStep.yield (none, ()) else ForInStep.done (some false, ())) w := by
    intro i hi s
    rw [← hF]
    have e1 : (scells L)[i]? = some (.string ⟨(L[i]'(by omega)).toArray⟩) := by simp [scells, hL, hi]
    have e2 : (scells K)[i]? = some (.string ⟨(K[i]'(by omega)).toArray⟩) := by simp [scells, hK, hi]
    simp only [Sem.run_bind, e1, e2]
    go_simp
    by_cases hc : (L[i]'(by omega)) = (K[i]'(by omega)) <;> simp [hc]
  clear hF
  have key : ∀ n a, a + n = 16 → (forIn (List.range' a n) (none, ()) F).run Tryz.prog w = .ok (if (L.drop a == K.drop a) = true then (none, ()) else (some false, ())) w := by
    intro n
    induction n with
    | zero =>
      intro a h
      rw [List.drop_of_length_le (by omega), List.drop_of_length_le (by omega)]
      simp
    | succ n ih =>
      intro a h
      rw [List.range'_succ, List.forIn_cons, Sem.run_bind, hstep a (by omega), drop_beq L K a (by omega) (by omega)]
      cases hc : (L[a]'(by omega) == K[a]'(by omega))
      · simp
      · simp [ih (a + 1) (by omega)]
  rw [key 16 0 rfl]
  simp only [List.drop_zero]
  cases (L == K) <;> simp
theorem Nd.beq_eq (n m : N) : decide (n = m) = ((n.kind == m.kind) && ((n.path == m.path) && ((n.val == m.val) && (n.kids == m.kids)))) := by
  obtain ⟨a, b, c, d⟩ := n
  obtain ⟨e, f, g, h⟩ := m
  simp only [Nd.N.mk.injEq]
  by_cases h1 : a = e <;> by_cases h2 : b = f <;> by_cases h3 : c = g <;> by_cases h4 : d = h <;> simp [h1, h2, h3, h4]
theorem kids_part (n : N) (hn : n.kids.length = 16) : List.take 16 (List.drop 3 (ncl n)) = scells n.kids := by
  show List.take 16 (scells n.kids) = _
  rw [List.take_of_length_le (by rw [scells_length, hn]; omega)]
set_option maxRecDepth 100000 in
theorem eq_nodes (n m : N) (w : World) (hn : n.kids.length = 16) (hm : m.kids.length = 16) :
    (Op.equalIn 10000 72 (ndval n) (ndval m)).run Tryz.prog w = .ok (decide (n = m)) w := by
  have hu := Tryz.underlying72
  have hs := Tryz.sizeOf70
  have ha := Tryz.isAgg70
  have ha1 := Tryz.isAgg3
  have ha2 := Tryz.isAgg9
  have h1 := eq_strs 9997 n.kids m.kids w hn hm
  have k1 := kids_part n hn
  have k2 := kids_part m hm
  have c0 : (ncl n)[0]? = some (.int .i64 n.kind) := rfl
  have c1 : (ncl n)[1]? = some (.string ⟨n.path.toArray⟩) := rfl
  have c2 : (ncl n)[2]? = some (.string ⟨n.val.toArray⟩) := rfl
  have d0 : (ncl m)[0]? = some (.int .i64 m.kind) := rfl
  have d1 : (ncl m)[1]? = some (.string ⟨m.path.toArray⟩) := rfl
  have d2 : (ncl m)[2]? = some (.string ⟨m.val.toArray⟩) := rfl
  rw [Nd.beq_eq]
  unfold ndval
  rw [run_equalIn_agg w 9999 _ _ _ (by rfl) (by kernel_rfl)]
  generalize ncl n = A at *
  generalize ncl m = B at *
  go_simp
  by_cases e0 : n.kind = m.kind
  · by_cases e1 : n.path = m.path
    · by_cases e2 : n.val = m.val
      · by_cases hk : n.kids = m.kids <;> simp [e0, e1, e2, hk]
      · simp [e0, e1, e2]
    · simp [e0, e1]
  · simp [e0]
end Go.Proofs.YtgbcilokeiengaaGreatDoor
