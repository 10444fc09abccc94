/- A log in memory; digest.NewLog. -/
import Derived.Test.YtebjckodfbailaaDoorDigCopied
namespace Go.Proofs.YtebjckodfbailaaDoor
open Go.RowKit

def ents (L : List Dig.N) : List (Value × Value) := L.map fun n => (nval n, .agg #[])
def firstEnts (M : List Dig.N) : List (Value × Value) := M.map fun n => (.string ⟨n.dig.toArray⟩, nval n)
/-- The parts of a log: its block g, the things' row s, the maps m1, m2, the first ones M. -/
structure LogIn (w : World) (g : Nat) (s : Value) (m1 m2 : Nat) (M : List Dig.N) (F : Nat → Prop) (L : List Dig.N) : Prop where
  here : w.heap[g]? = some (.cells #[s, .map (some m1), .map (some m2)] 60 (0, 0))
  fg : F g
  f1 : F m1
  f2 : F m2
  ne : m1 ≠ m2
  row : w.ownsRow 0 35 3 s L.length (rows L)
  frow : ∀ k, s.ownBlock = some k → F k
  map1 : MapIs w m1 (ents L)
  map2 : MapIs w m2 (firstEnts M)
  firsts : Dig.Firsts M L
  sub : ∀ n ∈ M, n ∈ L
/-- The log in block g has the things L, in blocks of F. -/
structure LogAt (w : World) (g : Nat) (F : Nat → Prop) (L : List Dig.N) : Prop where
  ok : ∀ n ∈ L, OkN n
  len : L.length ≤ 1024
  nodup : L.Nodup
  lt : ∀ k, F k → k < w.heap.size
  parts : ∃ s m1 m2 M, LogIn w g s m1 m2 M F L

theorem LogIn.out {F G : Nat → Prop} {w w' : World} {g : Nat} {s : Value} {m1 m2 : Nat} {M L : List Dig.N} (h : LogIn w g s m1 m2 M F L) (ho : Out G w w') (hd : ∀ k, F k → ¬ G k) : LogIn w' g s m1 m2 M F L where
  here := ho.heap h.here (hd _ h.fg)
  fg := h.fg
  f1 := h.f1
  f2 := h.f2
  ne := h.ne
  row := by
    refine ⟨h.row.1, ?_⟩
    rcases h.row.2 with hn | ⟨k, cap, cur, hv, hb, hk, hr⟩
    · exact Or.inl hn
    · exact Or.inr ⟨k, cap, cur, hv, hb, ho.heap hk (hd _ (h.frow k (by rw [hv]; rfl))), hr⟩
  frow := h.frow
  map1 := h.map1.out ho (hd _ h.f1)
  map2 := h.map2.out ho (hd _ h.f2)
  firsts := h.firsts
  sub := h.sub
theorem LogAt.out {F G : Nat → Prop} {w w' : World} {g : Nat} {L : List Dig.N} (h : LogAt w g F L) (ho : Out G w w') (hd : ∀ k, F k → ¬ G k) : LogAt w' g F L := by
  obtain ⟨s, m1, m2, M, hp⟩ := h.parts
  exact ⟨h.ok, h.len, h.nodup, fun k hk => Nat.lt_of_lt_of_le (h.lt k hk) ho.size, s, m1, m2, M, hp.out ho hd⟩
theorem LogAt.below {F : Nat → Prop} {w w' : World} {g : Nat} {L : List Dig.N} (h : LogAt w g F L) (hb : Below w.heap.size w w') : LogAt w' g F L :=
  h.out (G := fun _ => False) (Out.of hb) (fun _ _ => id)
theorem LogAt.drew {F : Nat → Prop} {w : World} {g : Nat} {L : List Dig.N} (h : LogAt w g F L) : LogAt w.drew g F L := h.out (G := fun _ => False) (Out.refl _ w).drew (fun _ _ => id)
theorem LogAt.alloc {F : Nat → Prop} {w : World} {g : Nat} {L : List Dig.N} (h : LogAt w g F L) (o : Obj) : LogAt (w.alloc o) g F L := h.below ((Below.refl _ w).alloc (Nat.le_refl _) o)

set_option maxRecDepth 8000 in
theorem newLog_any (w : World) :
    Calls Tryd.prog 14 #[] w fun e w' => ∃ g F, e = .returned (.pointer (some ⟨g, 0, none⟩)) ∧ (∀ k, F k → w.heap.size ≤ k) ∧ LogAt w' g F [] ∧ Below w.heap.size w w' := by
  have hmm := @run_makeMap Tryd.prog
  go_enter Tryd.func14, Tryd.ntmps14
  go_wp2
  go_ret
  refine ⟨w.heap.size + 2, fun k => w.heap.size ≤ k ∧ k < w.heap.size + 3, rfl, fun k hk => hk.1, ⟨by simp, by simp, by simp, fun k hk => by simp; omega, .slice none 0 0, w.heap.size, w.heap.size + 1, [], ?_⟩, ?_⟩
  · refine ⟨heap_new_at _ _ _ (by simp), by omega, by omega, by omega, by omega, World.ownsRow_nil _ _ _ _, fun k hk => by simp [Value.ownBlock] at hk, ?_, ?_, Dig.Firsts.nil, by simp⟩
    · exact ((MapIs.made w _ rfl).alloc _).alloc _
    · exact (MapIs.made _ _ (by simp)).alloc _
  · exact (((Below.refl _ w).alloc (Nat.le_refl _) _).alloc (by simp) _).alloc (by simp; omega) _
end Go.Proofs.YtebjckodfbailaaDoor
