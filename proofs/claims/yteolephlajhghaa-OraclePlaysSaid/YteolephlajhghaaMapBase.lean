/- The world but for some blocks; maps as lists of entries; strings as keys. -/
import Derived.Test.YteolephlajhghaaOnly
import Derived.Maps.Keyed
import Derived.DeepKeys4
import Derived.Deep.AppendLies
import Derived.Deep.QuietTactic
import Derived.BigQuiet
import Derived.Deep.WholeRow
import Derived.Deep.MidRow
import Derived.Laws.CopyOwn
import Derived.Deep.RegionHeld3
import Derived.Deep.DrawnRows
import Derived.Deep.Cut
import Derived.Deep.CutRange
namespace Go.Proofs.Yteolephlajhghaa
open Go.RowKit Go.MapKept
open Go.ChangeMaps (setBlock heap_setBlock_same heap_setBlock_other)
open Go.Maps (Keyed)

/-- The world but for the blocks of F. -/
structure Out (F : Nat → Prop) (w w' : World) : Prop where
  os : w'.os = w.os
  tape : w'.tape = w.tape
  output : w'.output = w.output
  size : w.heap.size ≤ w'.heap.size
  block : ∀ k, k < w.heap.size → ¬ F k → w'.heap[k]? = w.heap[k]?
theorem Out.refl (F : Nat → Prop) (w : World) : Out F w w := ⟨rfl, rfl, rfl, Nat.le_refl _, fun _ _ _ => rfl⟩
theorem Out.trans {F : Nat → Prop} {a b c : World} (h : Out F a b) (k : Out F b c) : Out F a c :=
  ⟨k.os.trans h.os, k.tape.trans h.tape, k.output.trans h.output, Nat.le_trans h.size k.size, fun i hi hg => (k.block i (Nat.lt_of_lt_of_le hi h.size) hg).trans (h.block i hi hg)⟩
theorem Out.mono {F G : Nat → Prop} {a b : World} (h : Out F a b) (hi : ∀ k, k < a.heap.size → F k → G k) : Out G a b :=
  ⟨h.os, h.tape, h.output, h.size, fun i hl hg => h.block i hl (fun hf => hg (hi i hl hf))⟩
theorem Out.of {F : Nat → Prop} {a b : World} (h : Below a.heap.size a b) : Out F a b := ⟨h.os, h.tape, h.output, h.size, fun i hi _ => h.block i hi⟩
theorem Out.below {B : Nat} {F : Nat → Prop} {a b : World} (h : Out F a b) (hB : ∀ k, F k → B ≤ k) (hs : B ≤ a.heap.size) : Below B a b :=
  ⟨h.os, h.tape, h.output, h.size, fun i hi => h.block i (by omega) (fun hf => absurd (hB i hf) (by omega))⟩
theorem Out.drew {F : Nat → Prop} {a w : World} (h : Out F a w) : Out F a w.drew := ⟨h.os, h.tape, h.output, h.size, h.block⟩
theorem Out.of_drew {F : Nat → Prop} {a w : World} (h : Out F a.drew w) : Out F a w := ⟨h.os, h.tape, h.output, h.size, h.block⟩
theorem Out.alloc {F : Nat → Prop} {a w : World} (h : Out F a w) (o : Obj) : Out F a (w.alloc o) := h.trans (Out.of ((Below.refl _ w).alloc (Nat.le_refl _) o))
theorem Out.setCell {F : Nat → Prop} {a w : World} (h : Out F a w) {p : Addr} (hp : F p.block) (u : Value) : Out F a (w.setCell p u) :=
  ⟨h.os, h.tape, h.output, by have := h.size; simpa [World.setCell] using this, fun i hi hg => (Below.heap_setCell w p u i (fun e => hg (e ▸ hp))).trans (h.block i hi hg)⟩
theorem Out.grown {F : Nat → Prop} {w w' : World} {row : Option Nat} (h : w.grownBy w' row) (hr : ∀ k, row = some k → F k) : Out F w w' :=
  ⟨h.os, h.tape, h.output, h.size, fun i hi hg => h.block i hi (fun e => hg (hr i e.symm))⟩
theorem Out.heap {F : Nat → Prop} {w w' : World} (h : Out F w w') {k : Nat} {o : Obj} (hk : w.heap[k]? = some o) (hF : ¬ F k) : w'.heap[k]? = some o := (h.block k (lt_of_heap hk) hF).trans hk
theorem Out.cell {F : Nat → Prop} {w w' : World} (h : Out F w w') {p : Addr} {v : Value} (hc : w.cell? p = some v) (hp : ¬ F p.block) : w'.cell? p = some v :=
  (World.cell?_of_block (w := w) (h.block p.block (World.block_lt_of_cell? _ _ hc) hp)).trans hc

/-- Block b is a map of these entries, in the order in which they came. -/
def MapIs (w : World) (b : Nat) (E : List (Value × Value)) : Prop :=
  ∃ es clock, w.heap[b]? = some (.map es clock) ∧ es.toList.map (fun e => (e.key, e.val)) = E
theorem MapIs.lt {w : World} {b : Nat} {E : List (Value × Value)} (h : MapIs w b E) : b < w.heap.size := by
  obtain ⟨_, _, h1, _⟩ := h; exact lt_of_heap h1
theorem MapIs.made (w : World) (b : Nat) (h : b = w.heap.size) : MapIs (w.alloc (.map #[] 0)) b [] := ⟨#[], 0, heap_new_at w _ _ h, rfl⟩
theorem MapIs.out {F : Nat → Prop} {w w' : World} {b : Nat} {E : List (Value × Value)} (h : MapIs w b E) (ho : Out F w w') (hF : ¬ F b) : MapIs w' b E := by
  obtain ⟨es, clock, h1, h2⟩ := h
  exact ⟨es, clock, ho.heap h1 hF, h2⟩
theorem MapIs.drew {w : World} {b : Nat} {E : List (Value × Value)} (h : MapIs w b E) : MapIs w.drew b E := h
theorem MapIs.alloc {w : World} {b : Nat} {E : List (Value × Value)} (h : MapIs w b E) (o : Obj) : MapIs (w.alloc o) b E := by
  obtain ⟨es, clock, h1, h2⟩ := h
  exact ⟨es, clock, heap_old_at o h1, h2⟩
theorem MapIs.look {P : Program} {w : World} {b : Nat} {E : List (Value × Value)} {k t e : TypeId} (h : MapIs w b E) (K : Keyed P k) (ht : P.underlying t = some (.map k e))
    (hks : ∀ p ∈ E, ∃ l, keyOf P k p.1 = some l) {key : Value} {kl : Lit} (hkey : keyOf P k key = some kl) (c : Bool) {z : Value} (hz : (zeroValue e).run P w = .ok z w) :
    ((Instr.lookup t (.map (some b)) key c).run P w = .ok (if c then .tuple #[z, .bool false] else z) w ∧ ∀ p ∈ E, p.1 ≠ key) ∨
    ∃ v, (key, v) ∈ E ∧ (Instr.lookup t (.map (some b)) key c).run P w = .ok (if c then .tuple #[v, .bool true] else v) w := by
  obtain ⟨es, clock, hb, rfl⟩ := h
  have hk' : ∀ x ∈ es.toList, ∃ l, keyOf P k x.key = some l := fun x hx => hks (x.key, x.val) (List.mem_map.2 ⟨x, hx, rfl⟩)
  rcases K.find w hkey es.toList hk' with ⟨h1, h2⟩ | ⟨j, e0, h1, h2, h3⟩
  · refine Or.inl ⟨by simp [Instr.lookup, run_underlying ht, MapKept.run_getObj_map hb, K.check w _ hkey, h1, hz, Result.andThen], ?_⟩
    intro p hp
    obtain ⟨x, hx, rfl⟩ := List.mem_map.1 hp
    exact h2 x hx
  · refine Or.inr ⟨e0.val, List.mem_map.2 ⟨e0, List.mem_of_getElem? h2, by rw [h3]⟩, ?_⟩
    simp [Instr.lookup, run_underlying ht, MapKept.run_getObj_map hb, K.check w _ hkey, h1, Result.andThen]
theorem MapIs.look_none {P : Program} {w : World} {b : Nat} {E : List (Value × Value)} {k t e : TypeId} (h : MapIs w b E) (K : Keyed P k) (ht : P.underlying t = some (.map k e))
    (hks : ∀ p ∈ E, ∃ l, keyOf P k p.1 = some l) {key : Value} {kl : Lit} (hkey : keyOf P k key = some kl) (c : Bool) {z : Value} (hz : (zeroValue e).run P w = .ok z w) (hno : ∀ p ∈ E, p.1 ≠ key) :
    (Instr.lookup t (.map (some b)) key c).run P w = .ok (if c then .tuple #[z, .bool false] else z) w := by
  rcases h.look K ht hks hkey c hz with ⟨h1, _⟩ | ⟨v, hv, _⟩
  · exact h1
  · exact absurd rfl (hno _ hv)
theorem MapIs.look_some {P : Program} {w : World} {b : Nat} {E : List (Value × Value)} {k t e : TypeId} (h : MapIs w b E) (K : Keyed P k) (ht : P.underlying t = some (.map k e))
    (hks : ∀ p ∈ E, ∃ l, keyOf P k p.1 = some l) {key : Value} {kl : Lit} (hkey : keyOf P k key = some kl) (c : Bool) {z : Value} (hz : (zeroValue e).run P w = .ok z w) {v : Value} (hv : (key, v) ∈ E) (hu : ∀ v', (key, v') ∈ E → v' = v) :
    (Instr.lookup t (.map (some b)) key c).run P w = .ok (if c then .tuple #[v, .bool true] else v) w := by
  rcases h.look K ht hks hkey c hz with ⟨_, h1⟩ | ⟨v', hv', h1⟩
  · exact absurd rfl (h1 _ hv)
  · rw [h1, hu v' hv']
theorem MapIs.store {P : Program} {w : World} {b : Nat} {E : List (Value × Value)} {k t e : TypeId} (h : MapIs w b E) (K : Keyed P k) (ht : P.underlying t = some (.map k e))
    (hks : ∀ p ∈ E, ∃ l, keyOf P k p.1 = some l) {key : Value} {kl : Lit} (hkey : keyOf P k key = some kl) (hno : ∀ p ∈ E, p.1 ≠ key) (val : Value) :
    ∃ w', (Instr.mapUpdate t (.map (some b)) key val).run P w = .ok () w' ∧ MapIs w' b (E ++ [(key, val)]) ∧ Out (fun i => i = b) w w' ∧ w'.heap.size = w.heap.size := by
  obtain ⟨es, clock, hb, rfl⟩ := h
  have hk' : ∀ x ∈ es.toList, ∃ l, keyOf P k x.key = some l := fun x hx => hks (x.key, x.val) (List.mem_map.2 ⟨x, hx, rfl⟩)
  rcases K.find w hkey es.toList hk' with ⟨h1, h2⟩ | ⟨j, e0, h1, h2, h3⟩
  · refine ⟨setBlock w b (.map (es.push ⟨key, val, clock⟩) (clock + 1)), ?_, ⟨_, _, heap_setBlock_same hb _, by simp⟩, ⟨rfl, rfl, rfl, by simp [setBlock], fun i _ hi => heap_setBlock_other hb _ hi⟩, by simp [setBlock]⟩
    simp [Instr.mapUpdate, run_underlying ht, MapKept.run_getObj_map hb, K.check w false hkey, h1, MapKept.run_setObj_map _ hb, Result.andThen, setBlock]
  · exact absurd h3 (hno (e0.key, e0.val) (List.mem_map.2 ⟨e0, List.mem_of_getElem? h2, rfl⟩))

theorem str_inj {a b : List UInt8} (h : Value.string ⟨a.toArray⟩ = .string ⟨b.toArray⟩) : a = b := by
  injection h with h; injection h with h; exact List.toArray_inj h
theorem lawS : Keyed Try.prog 9 := Go.Maps.string_keyed Try.underlying9
theorem keyS (s : List UInt8) (h : s.length ≤ 140737488351232) : ∃ l, keyOf Try.prog 9 (.string ⟨s.toArray⟩) = some l := by
  refine ⟨.string s, ?_⟩
  have h' : (⟨s.toArray⟩ : ByteArray).size ≤ maxLen := by simp [ByteArray.size, maxLen]; omega
  simp [keyOf, Try.underlying9, mapKey, h']
theorem cellsI : Try.prog.cellsOf 3 = 1 := by kernel_rfl
theorem cellsS : Try.prog.cellsOf 9 = 1 := by kernel_rfl
theorem own_form {w : World} {B : Nat} {e : TypeId} {z : Nat} {s : Value} {n : Nat} {xs : List Value} (h : w.ownsRow B e z s n xs) : ∃ A cap, s = .slice A n cap := by
  rcases h.2 with ⟨rfl, rfl⟩ | ⟨k, cap, cur, rfl, _⟩
  · exact ⟨none, 0, rfl⟩
  · exact ⟨_, cap, rfl⟩
theorem row_out {G : Nat → Prop} {w w' : World} {B : Nat} {e : TypeId} {z : Nat} {s : Value} {n : Nat} {xs : List Value} (h : w.ownsRow B e z s n xs) (ho : Out G w w') (hd : ∀ k cs t f, G k → w.heap[k]? ≠ some (.cells cs t f)) : w'.ownsRow B e z s n xs := by
  refine ⟨h.1, ?_⟩
  rcases h.2 with hn | ⟨k, cap, cur, hv, hb, hk, hr⟩
  · exact Or.inl hn
  · exact Or.inr ⟨k, cap, cur, hv, hb, ho.heap hk (fun hg => hd k _ _ _ hg hk), hr⟩
end Go.Proofs.Yteolephlajhghaa
