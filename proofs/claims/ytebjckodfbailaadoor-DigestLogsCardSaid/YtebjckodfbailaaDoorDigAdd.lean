/- (*digest.Log).add. -/
import Derived.Test.YtebjckodfbailaaDoorDigLog
import Derived.Deep.RegionLaw
namespace Go.Proofs.YtebjckodfbailaaDoor
open Go.RowKit

theorem Tryd.infoNoted : (Tryd.prog.info? 35).map (fun i => (i.zero, i.size, i.bytes)) = some (some (.agg #[.int .i64 0, .string ⟨#[]⟩, .string ⟨#[]⟩]), 3, 40) := by kernel_rfl
theorem zeroN (w : World) : (zeroValue 35).run Tryd.prog w = .ok (.agg #[.int .i64 0, .string ⟨#[]⟩, .string ⟨#[]⟩]) w := by kernel_rfl
theorem zeroU (w : World) : (zeroValue 61).run Tryd.prog w = .ok (.agg #[]) w := by kernel_rfl
theorem ents_keys {L : List Dig.N} (h : ∀ n ∈ L, OkN n) : ∀ p ∈ ents L, ∃ l, keyOf Tryd.prog 35 p.1 = some l := by
  intro p hp
  obtain ⟨n, hn, rfl⟩ := List.mem_map.1 hp
  exact keyN n (h n hn)
theorem firstEnts_keys {M : List Dig.N} (h : ∀ n ∈ M, OkN n) : ∀ p ∈ firstEnts M, ∃ l, keyOf Tryd.prog 9 p.1 = some l := by
  intro p hp
  obtain ⟨n, hn, rfl⟩ := List.mem_map.1 hp
  exact keyS n.dig (h n hn).dig
theorem ents_not {L : List Dig.N} {n : Dig.N} (h : n ∉ L) : ∀ p ∈ ents L, p.1 ≠ nval n := by
  intro p hp e
  obtain ⟨m, hm, rfl⟩ := List.mem_map.1 hp
  exact h (nval_inj e ▸ hm)

theorem firstEnts_not {M L : List Dig.N} (hF : Dig.Firsts M L) {d : List UInt8} (h : Dig.find L d = none) : ∀ p ∈ firstEnts M, p.1 ≠ .string ⟨d.toArray⟩ := by
  intro p hp e
  obtain ⟨m, hm, rfl⟩ := List.mem_map.1 hp
  have := hF.found hm (str_inj e)
  rw [h] at this
  cases this
theorem look2_none {M L : List Dig.N} (hF : Dig.Firsts M L) (hok : ∀ n ∈ M, OkN n) {d : List UInt8} (hd : d.length ≤ 140737488351232) (h : Dig.find L d = none) (c : Bool) (w : World) (b : Nat) (hm : MapIs w b (firstEnts M)) :
    (Instr.lookup 58 (.map (some b)) (.string ⟨d.toArray⟩) c).run Tryd.prog w = .ok (if c then .tuple #[.agg #[.int .i64 0, .string ⟨#[]⟩, .string ⟨#[]⟩], .bool false] else .agg #[.int .i64 0, .string ⟨#[]⟩, .string ⟨#[]⟩]) w := by
  obtain ⟨kl, hk⟩ := keyS d hd
  exact hm.look_none lawS Tryd.underlying58 (firstEnts_keys hok) hk c (zeroN w) (firstEnts_not hF h)
theorem look2_some {M L : List Dig.N} (hF : Dig.Firsts M L) (hok : ∀ n ∈ M, OkN n) {d : List UInt8} {m : Dig.N} (hd : d.length ≤ 140737488351232) (h : Dig.find L d = some m) (c : Bool) (w : World) (b : Nat) (hm : MapIs w b (firstEnts M)) :
    (Instr.lookup 58 (.map (some b)) (.string ⟨d.toArray⟩) c).run Tryd.prog w = .ok (if c then .tuple #[nval m, .bool true] else nval m) w := by
  obtain ⟨kl, hk⟩ := keyS d hd
  obtain ⟨m', hm', e⟩ := hF.all m (Dig.find_some h).1
  have e' : m'.dig = d := e.trans (Dig.find_some h).2
  obtain rfl : m' = m := Option.some.inj ((hF.found hm' e').symm.trans h)
  refine hm.look_some lawS Tryd.underlying58 (firstEnts_keys hok) hk c (zeroN w) (List.mem_map.2 ⟨m', hm', by rw [e']⟩) ?_
  intro v hv
  obtain ⟨k, hkM, ek⟩ := List.mem_map.1 hv
  obtain ⟨e1, e2⟩ := Prod.mk.inj ek
  rw [← e2, Option.some.inj ((hF.found hkM (str_inj e1)).symm.trans h)]
theorem look1 {L : List Dig.N} (hok : ∀ n ∈ L, OkN n) {n : Dig.N} (hn : OkN n) (w : World) (b : Nat) (hm : MapIs w b (ents L)) :
    (Instr.lookup 57 (.map (some b)) (nval n) true).run Tryd.prog w = .ok (.tuple #[.agg #[], .bool (decide (n ∈ L))]) w := by
  obtain ⟨kl, hk⟩ := keyN n hn
  by_cases h : n ∈ L
  · rw [decide_eq_true h]
    refine hm.look_some lawN Tryd.underlying57 (ents_keys hok) hk true (zeroU w) (List.mem_map.2 ⟨n, h, rfl⟩) ?_
    intro v hv
    obtain ⟨k, _, ek⟩ := List.mem_map.1 hv
    exact (Prod.mk.inj ek).2.symm
  · rw [decide_eq_false h]
    exact hm.look_none lawN Tryd.underlying57 (ents_keys hok) hk true (zeroU w) (ents_not h)

/-- A log on its way: the things are there, the maps not yet. -/
structure Mid (w wx : World) (g : Nat) (s : Value) (m1 m2 : Nat) (E1 E2 : List (Value × Value)) (F : Nat → Prop) (n : Dig.N) (L : List Dig.N) : Prop where
  here : wx.heap[g]? = some (.cells #[s, .map (some m1), .map (some m2)] 60 (0, 0))
  row : wx.ownsRow 0 35 3 s L.length (rows L)
  frow : ∀ k, s.ownBlock = some k → F k ∨ w.heap.size ≤ k
  map1 : MapIs wx m1 E1
  map2 : MapIs wx m2 E2
  box : wx.heap[w.heap.size]? = some (.cells #[.int .i64 n.tag, .string ⟨n.text.toArray⟩, .string ⟨n.dig.toArray⟩] 35 (0, 0))
  out : Out F w wx
theorem row_out {G : Nat → Prop} {w w' : World} {B : Nat} {e : TypeId} {z : Nat} {s : Value} {n : Nat} {xs : List Value} (h : w.ownsRow B e z s n xs) (ho : Out G w w') (hd : ∀ k cs t f, G k → w.heap[k]? ≠ some (.cells cs t f)) : w'.ownsRow B e z s n xs := by
  refine ⟨h.1, ?_⟩
  rcases h.2 with hn | ⟨k, cap, cur, hv, hb, hk, hr⟩
  · exact Or.inl hn
  · exact Or.inr ⟨k, cap, cur, hv, hb, ho.heap hk (fun hg => hd k _ _ _ hg hk), hr⟩
theorem MapIs.no_cells {w : World} {b : Nat} {E : List (Value × Value)} (h : MapIs w b E) (k : Nat) (cs : Array Value) (t : TypeId) (f : Nat × Nat) (hk : k = b) : w.heap[k]? ≠ some (.cells cs t f) := by
  subst hk
  obtain ⟨es, c, he, _⟩ := h
  rw [he]; simp
theorem Mid.set1 {w wx wy : World} {g : Nat} {s : Value} {m1 m2 : Nat} {E1 E2 E : List (Value × Value)} {F : Nat → Prop} {n : Dig.N} {L : List Dig.N} (h : Mid w wx g s m1 m2 E1 E2 F n L) (hne : m1 ≠ m2) (h1 : F m1) (ho : Out (fun i => i = m1) wx wy) (hm : MapIs wy m1 E) : Mid w wy g s m1 m2 E E2 F n L where
  here := ho.heap h.here (fun e => h.map1.no_cells _ _ _ _ e h.here)
  row := row_out h.row ho (fun k cs t f e => h.map1.no_cells k cs t f e)
  frow := h.frow
  map1 := hm
  map2 := h.map2.out ho (fun e => hne e.symm)
  box := ho.heap h.box (fun e => h.map1.no_cells _ _ _ _ e h.box)
  out := h.out.trans (ho.mono (fun _ _ e => e ▸ h1))
theorem Mid.set2 {w wx wy : World} {g : Nat} {s : Value} {m1 m2 : Nat} {E1 E2 E : List (Value × Value)} {F : Nat → Prop} {n : Dig.N} {L : List Dig.N} (h : Mid w wx g s m1 m2 E1 E2 F n L) (hne : m1 ≠ m2) (h2 : F m2) (ho : Out (fun i => i = m2) wx wy) (hm : MapIs wy m2 E) : Mid w wy g s m1 m2 E1 E F n L where
  here := ho.heap h.here (fun e => h.map2.no_cells _ _ _ _ e h.here)
  row := row_out h.row ho (fun k cs t f e => h.map2.no_cells k cs t f e)
  frow := h.frow
  map1 := h.map1.out ho hne
  map2 := hm
  box := ho.heap h.box (fun e => h.map2.no_cells _ _ _ _ e h.box)
  out := h.out.trans (ho.mono (fun _ _ e => e ▸ h2))
theorem Mid.below {w wx wy : World} {g : Nat} {s : Value} {m1 m2 : Nat} {E1 E2 : List (Value × Value)} {F : Nat → Prop} {n : Dig.N} {L : List Dig.N} (h : Mid w wx g s m1 m2 E1 E2 F n L) (hb : Below wx.heap.size wx wy) : Mid w wy g s m1 m2 E1 E2 F n L where
  here := (Out.of (F := fun _ => False) hb).heap h.here id
  row := row_out h.row (Out.of (F := fun _ => False) hb) (fun _ _ _ _ hf => hf.elim)
  frow := h.frow
  map1 := h.map1.out (Out.of (F := fun _ => False) hb) id
  map2 := h.map2.out (Out.of (F := fun _ => False) hb) id
  box := (Out.of (F := fun _ => False) hb).heap h.box id
  out := h.out.trans (Out.of hb)

theorem Mid.drew {w wx : World} {g : Nat} {s : Value} {m1 m2 : Nat} {E1 E2 : List (Value × Value)} {F : Nat → Prop} {n : Dig.N} {L : List Dig.N} (h : Mid w wx g s m1 m2 E1 E2 F n L) : Mid w wx.drew g s m1 m2 E1 E2 F n L := h.below (Below.refl _ wx).drew
theorem LogIn.row_ne {w : World} {g : Nat} {s : Value} {m1 m2 : Nat} {M : List Dig.N} {F : Nat → Prop} {L : List Dig.N} (h : LogIn w g s m1 m2 M F L) : some g ≠ s.ownBlock := by
  intro e
  rcases h.row.2 with ⟨rfl, _⟩ | ⟨k, cap, cur, hv, _, hk, _⟩
  · simp [Value.ownBlock] at e
  · rw [hv] at e
    simp [Value.ownBlock] at e
    subst e
    rw [h.here] at hk
    simp at hk
theorem LogIn.row_lt {w : World} {g : Nat} {s : Value} {m1 m2 : Nat} {M : List Dig.N} {F : Nat → Prop} {L : List Dig.N} (h : LogIn w g s m1 m2 M F L) (k : Nat) (hk : s.ownBlock = some k) : k < w.heap.size ∧ k ≠ m1 ∧ k ≠ m2 := by
  rcases h.row.2 with ⟨rfl, _⟩ | ⟨k', cap, cur, hv, _, hk', _⟩
  · simp [Value.ownBlock] at hk
  · rw [hv] at hk
    simp [Value.ownBlock] at hk
    subst hk
    exact ⟨lt_of_heap hk', fun e => h.map1.no_cells _ _ _ _ e hk', fun e => h.map2.no_cells _ _ _ _ e hk'⟩
/-- Behind the append and the store of the row. -/
theorem mid_of {w w0 w2 : World} {g : Nat} {s : Value} {m1 m2 : Nat} {M : List Dig.N} {F : Nat → Prop} {L : List Dig.N} {n : Dig.N} {g' cap : Nat} (hp : LogIn w g s m1 m2 M F L) (hB : Below w.heap.size w w0)
    (hbox : w0.heap[w.heap.size]? = some (.cells #[.int .i64 n.tag, .string ⟨n.text.toArray⟩, .string ⟨n.dig.toArray⟩] 35 (0, 0))) (hgrow : w0.grownBy w2 s.ownBlock)
    (hown : w2.ownsRow 0 35 3 (.slice (some ⟨g', 0, none⟩) (L.length + 1) cap) (L.length + 1) (rows L ++ ncells n)) (hat : s.ownBlock = some g' ∨ w.heap.size ≤ g') :
    Mid w (w2.setCell ⟨g, 0, none⟩ (.slice (some ⟨g', 0, none⟩) (L.length + 1) cap)) g (.slice (some ⟨g', 0, none⟩) (L.length + 1) cap) m1 m2 (ents L) (firstEnts M) F n (L ++ [n]) := by
  have o1 : Out (fun k => s.ownBlock = some k) w0 w2 := Out.grown hgrow (fun k e => e)
  have o0 : Out (fun k => s.ownBlock = some k) w w0 := Out.of hB
  have oc : Out (fun k => s.ownBlock = some k) w w2 := o0.trans o1
  have os : Out (fun k => k = g) w2 (w2.setCell ⟨g, 0, none⟩ (.slice (some ⟨g', 0, none⟩) (L.length + 1) cap)) := (Out.refl (fun k => k = g) w2).setCell (p := ⟨g, 0, none⟩) rfl _
  have hgw : w2.heap[g]? = some (.cells #[s, .map (some m1), .map (some m2)] 60 (0, 0)) := oc.heap hp.here (fun e => hp.row_ne e.symm)
  have hne : g' ≠ g := by
    rcases hat with h | h
    · intro e; subst e; exact hp.row_ne h.symm
    · have := lt_of_heap hp.here; omega
  have hm1 : m1 ≠ g := fun e => hp.map1.no_cells g _ _ _ e.symm hp.here
  have hm2 : m2 ≠ g := fun e => hp.map2.no_cells g _ _ _ e.symm hp.here
  have hb2 : w2.heap[w.heap.size]? = some (.cells #[.int .i64 n.tag, .string ⟨n.text.toArray⟩, .string ⟨n.dig.toArray⟩] 35 (0, 0)) := o1.heap hbox (fun e => absurd (hp.row_lt _ e).1 (by omega))
  refine ⟨?_, ?_, ?_, ?_, ?_, ?_, ?_⟩
  · have := heap_setCell_same _ _ 0 _ _ (.slice (some ⟨g', 0, none⟩) (L.length + 1) cap) hgw
    simpa using this
  · rw [rows_append, List.length_append]
    refine ⟨by simpa [rows] using hown.1, Or.inr ?_⟩
    rcases hown.2 with ⟨h, _⟩ | ⟨k, c, cur, hv, hb, hk, hr⟩
    · simp at h
    · simp at hv
      obtain ⟨rfl, rfl⟩ := hv
      exact ⟨g', cap, cur, by simp, hb, os.heap hk hne, by simpa [rows] using hr⟩
  · intro k hk
    simp [Value.ownBlock] at hk
    subst hk
    rcases hat with h | h
    · exact Or.inl (hp.frow _ h)
    · exact Or.inr h
  · exact (hp.map1.out oc (fun e => (hp.row_lt _ e).2.1 rfl)).out os hm1
  · exact (hp.map2.out oc (fun e => (hp.row_lt _ e).2.2 rfl)).out os hm2
  · exact os.heap hb2 (fun e => by have := lt_of_heap hp.here; omega)
  · exact (oc.mono (fun k _ e => hp.frow k e)).trans (os.mono (fun k _ e => e ▸ hp.fg))

theorem ents_snoc (L : List Dig.N) (n : Dig.N) : ents L ++ [(nval n, .agg #[])] = ents (L ++ [n]) := by simp [ents]
theorem firstEnts_snoc (L : List Dig.N) (n : Dig.N) : firstEnts L ++ [(.string ⟨n.dig.toArray⟩, nval n)] = firstEnts (L ++ [n]) := by simp [firstEnts]
theorem Mid.log {w wx : World} {g : Nat} {s s' : Value} {m1 m2 : Nat} {F : Nat → Prop} {n : Dig.N} {L M M' : List Dig.N} (h : Mid w wx g s' m1 m2 (ents (L ++ [n])) (firstEnts M') F n (L ++ [n])) (hl : LogAt w g F L) (hp : LogIn w g s m1 m2 M F L) (hn : OkN n) (hnot : n ∉ L) (hlen : L.length < 1024)
    (hF : Dig.Firsts M' (L ++ [n])) (hs : ∀ k ∈ M', k ∈ L ++ [n]) : ∃ F', (∀ k, F' k → F k ∨ w.heap.size ≤ k) ∧ LogAt wx g F' (L ++ [n]) ∧ Out F w wx := by
  refine ⟨fun k => F k ∨ s'.ownBlock = some k, fun k hk => hk.elim Or.inl (h.frow k), ⟨?_, by simp; omega, ?_, ?_, s', m1, m2, M', ?_⟩, h.out⟩
  · intro k hk
    rcases List.mem_append.1 hk with hk | hk
    · exact hl.ok k hk
    · obtain rfl : k = n := by simpa using hk
      exact hn
  · rw [List.nodup_append]
    refine ⟨hl.nodup, by simp, ?_⟩
    intro a ha b hb e
    obtain rfl : b = n := by simpa using hb
    exact hnot (e ▸ ha)
  · intro k hk
    rcases hk with hk | hk
    · exact Nat.lt_of_lt_of_le (hl.lt k hk) h.out.size
    · exact (h.row.lt k hk).2
  · exact ⟨h.here, Or.inl hp.fg, Or.inl hp.f1, Or.inl hp.f2, hp.ne, h.row, fun k hk => Or.inr hk, h.map1, h.map2, hF, hs⟩

set_option maxRecDepth 8000 in
set_option maxHeartbeats 1000000 in
theorem add_any (n : Dig.N) (L : List Dig.N) (g : Nat) (F : Nat → Prop) (w : World) (hl : LogAt w g F L) (hn : OkN n) (hnot : n ∉ L) (hlen : L.length < 1024) :
    Calls Tryd.prog 28 #[.pointer (some ⟨g, 0, none⟩), nval n] w fun e w' => e = .returned (.tuple #[]) ∧ ∃ F', (∀ k, F' k → F k ∨ w.heap.size ≤ k) ∧ LogAt w' g F' (L ++ [n]) ∧ Out F w w' := by
  obtain ⟨s, m1, m2, M, hp⟩ := hl.parts
  have HL := Lib.hid hl
  have HP := Lib.hid hp
  have HN := Lib.hid hn
  have HNOT := Lib.hid hnot
  have hgl := hl.lt g hp.fg
  have hB1 : Below w.heap.size w (w.alloc (.cells #[.int .i64 n.tag, .string ⟨n.text.toArray⟩, .string ⟨n.dig.toArray⟩] 35)) := (Below.refl _ w).alloc (Nat.le_refl _) _
  have HP1 := Lib.hid (hp.out (G := fun _ => False) (Out.of hB1) (fun _ _ => id))
  obtain ⟨i0, hi, hz0, hz1, hz2⟩ := info_parts Tryd.infoNoted
  obtain ⟨c0, c1, c2, f0, f1, f2⟩ := cells3 hp.here
  have HM1 : Hid (∀ wx, MapIs wx m1 (ents L) → ∃ w', (Instr.mapUpdate 57 (.map (some m1)) (nval n) (.agg #[])).run Tryd.prog wx = .ok () w' ∧ MapIs w' m1 (ents L ++ [(nval n, .agg #[])]) ∧ Out (fun i => i = m1) wx w' ∧ w'.heap.size = wx.heap.size) := Lib.hid (fun wx h => by
    obtain ⟨kl, hk⟩ := keyN n hn
    exact h.store lawN Tryd.underlying57 (ents_keys hl.ok) hk (ents_not hnot) _)
  have hB2 := hB1.alloc hB1.size (.cells #[.int .i64 n.tag, .string ⟨n.text.toArray⟩, .string ⟨n.dig.toArray⟩] 35)
  have hbx := heap_old_at (.cells #[.int .i64 n.tag, .string ⟨n.text.toArray⟩, .string ⟨n.dig.toArray⟩] 35) (heap_new_at w (.cells #[.int .i64 n.tag, .string ⟨n.text.toArray⟩, .string ⟨n.dig.toArray⟩] 35) _ rfl)
  have HMI := Lib.hid (fun g' cap w2 (hg : (((w.alloc (.cells #[.int .i64 n.tag, .string ⟨n.text.toArray⟩, .string ⟨n.dig.toArray⟩] 35)).alloc (.cells #[.int .i64 n.tag, .string ⟨n.text.toArray⟩, .string ⟨n.dig.toArray⟩] 35)).drew).grownBy w2 s.ownBlock) (ho : w2.ownsRow 0 35 3 (.slice (some ⟨g', 0, none⟩) (L.length + 1) cap) (L.length + 1) (rows L ++ ncells n)) (ha : s.ownBlock = some g' ∨ g' = w.heap.size + 2) => mid_of hp hB2.drew hbx hg ho (ha.imp id (fun e => by omega)))
  have HGC : Hid (∀ w2, (((w.alloc (.cells #[.int .i64 n.tag, .string ⟨n.text.toArray⟩, .string ⟨n.dig.toArray⟩] 35)).alloc (.cells #[.int .i64 n.tag, .string ⟨n.text.toArray⟩, .string ⟨n.dig.toArray⟩] 35)).drew).grownBy w2 s.ownBlock → w2.cell? ⟨g, 0, none⟩ = some s ∧ w2.frozen? ⟨g, 0, none⟩ = false) := Lib.hid (fun w2 hg => by
    have hh := (Out.grown (F := fun k => s.ownBlock = some k) hg (fun k e => e)).heap (heap_old_at _ HP1.out.here) (fun e => hp.row_ne e.symm)
    exact ⟨(cells3 hh).1, (cells3 hh).2.2.2.1⟩)
  clear hl hp hn hnot hB1 hB2 hbx
  unfold nval at HM1 ⊢
  obtain ⟨t, x, d⟩ := n
  dsimp only at HM1 HP1 HMI HGC ⊢
  go_enter Tryd.func28, Tryd.ntmps28
  go_wp2
  go_cut [3] from 4 (fun p wx => p = .pointer (some ⟨w.heap.size, 0, none⟩) ∧ ∃ s', Mid w wx g s' m1 m2 (ents L) (firstEnts M) F ⟨t, x, d⟩ (L ++ [⟨t, x, d⟩]))
  case first =>
    go_region_law ((refine step_append_lies _ rfl (.tmp 10) (.tmp 12) 33 rfl 0 35 i0 (.agg #[.int .i64 0, .string ⟨#[]⟩, .string ⟨#[]⟩]) 3 40 Tryd.underlying33 hi hz0 hz1 hz2 rfl (by decide) s L.length (rows L) (by simp [Act.eval]) ((HP1.out.row.alloc _).drew) ⟨w.heap.size + 1, 0, none⟩ 1 1 (ncells ⟨t, x, d⟩) (by simp [Act.eval]) rfl (World.news_of_block (heap_new_at _ _ _ (by simp))) (by simp [ncells, Value.oneCell']) (by decide) (by unfold maxLen; omega) (by omega) (Nat.zero_le _) (w.heap.size + 2) (by simp) ?_; intro g' cap w2 hown2 hgrow2 hat2 hlt2; (have hMid := HMI.out _ _ _ hgrow2 hown2 hat2); obtain ⟨k0, kf⟩ := HGC.out _ hgrow2))
    all_goals
      go_wp2_with fail
      go_meet
      case rel => exact ⟨rfl, _, hMid⟩
  case rest =>
    obtain ⟨rfl, s', hM⟩ := hcut
    clear c0 c1 c2 f0 f1 f2 HMI HGC HP1 hz0 hz1 hz2 hi
    go_wp2
    go_cut [3] from 4 (fun p wx => p = .pointer (some ⟨w.heap.size, 0, none⟩) ∧ Mid w wx g s' m1 m2 (ents L ++ [(.agg #[.int .i64 t, .string ⟨x.toArray⟩, .string ⟨d.toArray⟩], .agg #[])]) (firstEnts M) F ⟨t, x, d⟩ (L ++ [⟨t, x, d⟩]))
    case first =>
      obtain ⟨c0, c1, c2, -, -, -⟩ := cells3 hM.here
      obtain ⟨b0, b1, b2, -, -, -⟩ := cells3 hM.box
      obtain ⟨w4, hrun, hm4, ho4, hs4⟩ := HM1.out wc.drew hM.map1.drew
      have HM4 := Lib.hid (hM.drew.set1 HP.out.ne HP.out.f1 ho4 hm4)
      dsimp only at b0 b1 b2
      clear hM hm4 ho4 hs4
      go_region
      all_goals
        go_wp2_with fail
        go_meet
        case rel => exact ⟨rfl, HM4.out⟩
    case rest =>
      obtain ⟨rfl, hM4⟩ := hcut
      have hokM : ∀ k ∈ M, OkN k := fun k hk => HL.out.ok k (HP.out.sub k hk)
      obtain ⟨c0, c1, c2, -, -, -⟩ := cells3 hM4.here
      obtain ⟨b0, b1, b2, -, -, -⟩ := cells3 hM4.box
      dsimp only at b0 b1 b2
      clear hM HM1
      have HM4 := Lib.hid hM4
      have q1 := lt_of_heap hM4.here
      have q2 := lt_of_heap hM4.box
      cases hf : Dig.find L d with
      | none =>
        have l1 := look2_none HP.out.firsts hokM HN.out.dig hf true _ m2 hM4.map2.drew
        have l2 := look2_none HP.out.firsts hokM HN.out.dig hf true _ m2 (hM4.map2.alloc (.cells #[.int .i64 0, .string ⟨#[]⟩, .string ⟨#[]⟩] 35)).drew
        have HF := Lib.hid hf
        clear hf hokM hM4
        go_wp2
        go_cut [3, 5] from 4 (fun p q wx => p = .pointer (some ⟨w.heap.size, 0, none⟩) ∧ q = .bool false ∧ Mid w wx g s' m1 m2 (ents L ++ [(.agg #[.int .i64 t, .string ⟨x.toArray⟩, .string ⟨d.toArray⟩], .agg #[])]) (firstEnts M) F ⟨t, x, d⟩ (L ++ [⟨t, x, d⟩]))
        case first =>
          go_region
          all_goals
            go_wp2_with fail
            go_meet
            case rel => exact ⟨rfl, rfl, HM4.out.below (((Below.refl _ wc).alloc (Nat.le_refl _) _).drew)⟩
        case rest =>
          obtain ⟨rfl, rfl, hM5⟩ := hcut
          clear l1 l2 c0 c1 c2 b0 b1 b2 q1 q2 HM4
          obtain ⟨kd, hkd⟩ := keyS d HN.out.dig
          obtain ⟨w6, hrun6, hm6, ho6, _⟩ := hM5.map2.drew.store lawS Tryd.underlying58 (firstEnts_keys (fun k hk => HL.out.ok k (HP.out.sub k hk))) hkd (firstEnts_not HP.out.firsts HF.out) (.agg #[.int .i64 t, .string ⟨x.toArray⟩, .string ⟨d.toArray⟩])
          obtain ⟨c0, c1, c2, -, -, -⟩ := cells3 hM5.here
          obtain ⟨b0, b1, b2, -, -, -⟩ := cells3 hM5.box
          dsimp only at b0 b1 b2
          have HM6 := Lib.hid (hM5.drew.set2 HP.out.ne HP.out.f2 ho6 hm6)
          clear hM5 hm6 ho6 hkd
          go_wp2
          go_region
          all_goals
            go_wp2
            go_end0
            refine ⟨rfl, ?_⟩
            have hM7 := HM6.out
            rw [show (.agg #[.int .i64 t, .string ⟨x.toArray⟩, .string ⟨d.toArray⟩] : Value) = nval ⟨t, x, d⟩ from rfl, ents_snoc, firstEnts_snoc M ⟨t, x, d⟩] at hM7
            refine hM7.log HL.out HP.out HN.out HNOT.out hlen (HP.out.firsts.new ?_) ?_
            · intro m hm e
              have := HP.out.firsts.found hm e
              rw [HF.out] at this
              cases this
            · intro k hk
              rcases List.mem_append.1 hk with hk | hk
              · exact List.mem_append_left _ (HP.out.sub k hk)
              · exact List.mem_append_right _ hk
      | some m =>
        have l1 := look2_some HP.out.firsts hokM HN.out.dig hf true _ m2 hM4.map2.drew
        have l2 := look2_some HP.out.firsts hokM HN.out.dig hf true _ m2 (hM4.map2.alloc (.cells #[.int .i64 0, .string ⟨#[]⟩, .string ⟨#[]⟩] 35)).drew
        have HF := Lib.hid hf
        unfold nval at l1 l2
        clear hf hokM hM4
        go_wp2
        go_cut [3, 5] from 4 (fun p q wx => p = .pointer (some ⟨w.heap.size, 0, none⟩) ∧ q = .bool true ∧ Mid w wx g s' m1 m2 (ents L ++ [(.agg #[.int .i64 t, .string ⟨x.toArray⟩, .string ⟨d.toArray⟩], .agg #[])]) (firstEnts M) F ⟨t, x, d⟩ (L ++ [⟨t, x, d⟩]))
        case first =>
          go_region
          all_goals
            go_wp2_with fail
            go_meet
            case rel => exact ⟨rfl, rfl, HM4.out.below (((Below.refl _ wc).alloc (Nat.le_refl _) _).drew)⟩
        case rest =>
          obtain ⟨rfl, rfl, hM5⟩ := hcut
          clear l1 l2 c0 c1 c2 b0 b1 b2 q1 q2 HM4
          have HM6 := Lib.hid hM5
          clear hM5
          go_wp2
          go_end0
          refine ⟨rfl, ?_⟩
          have hM7 := HM6.out
          rw [show (.agg #[.int .i64 t, .string ⟨x.toArray⟩, .string ⟨d.toArray⟩] : Value) = nval ⟨t, x, d⟩ from rfl, ents_snoc] at hM7
          obtain ⟨m', hm', e⟩ := HP.out.firsts.all m (Dig.find_some HF.out).1
          exact hM7.log HL.out HP.out HN.out HNOT.out hlen (HP.out.firsts.old hm' (e.trans (Dig.find_some HF.out).2)) (fun k hk => List.mem_append_left _ (HP.out.sub k hk))
end Go.Proofs.YtebjckodfbailaaDoor
