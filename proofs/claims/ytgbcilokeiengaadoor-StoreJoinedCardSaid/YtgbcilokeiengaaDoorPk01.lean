/- NibMath, NibBase, Only, MapBase, ArgActs, BookBelow, CodeMath, ArgStrs, StoreText, NibLess, NibOrderMath, NibBackMath -/
import Derived.Test.YtgbcilokeiengaaDoorChecked
import Derived.WalkKit
import Derived.WalkSmall
import Derived.ShutString
import Derived.Laws.IdiomStrings
import Derived.Laws.BytesArg
import Derived.Lib.Hide
import Derived.Lib.Strings
import Derived.Maps.Keyed
import Derived.SizedLaws
import Derived.DeepKeys4
import Derived.Deep.AppendLies
import Derived.Deep.QuietTactic
import Derived.BigQuiet
import Derived.Deep.WholeRow
import Derived.Deep.MidRow
import Derived.Laws.CopyOwn
import Derived.Deep.RegionHeld3
import Derived.Deep.DrawnRows
import Derived.Deep.Cut
import Derived.Deep.CutRange
import Derived.Deep.Slices
import Derived.DataReads
import Derived.OpenShut
import Derived.Lib.LaidU8
import Derived.SliceStrings
import GoSem.Op.String
namespace Go.Proofs.YtgbcilokeiengaaDoor.Nib

def fitL (l : List UInt8) : Bool := l.all fun b => decide (b.toNat ≤ 15)
def ofL (l : List UInt8) : List UInt8 := l.flatMap fun (b : UInt8) => [b / 16, b % 16]
def joinL : List UInt8 → List UInt8
  | a :: b :: t => (a * 16 + b) :: joinL t
  | _ => []
theorem take_snoc {α : Type} (l : List α) (k : Nat) (h : k < l.length) : l.take (k + 1) = l.take k ++ [l[k]] := List.take_succ_eq_append_getElem h

theorem fitL_take_succ (l : List UInt8) (k : Nat) (h : k < l.length) : fitL (l.take (k + 1)) = (fitL (l.take k) && decide (l[k].toNat ≤ 15)) := by
  unfold fitL; rw [take_snoc l k h, List.all_append]; simp
theorem fitL_false (l : List UInt8) (k : Nat) (h : k < l.length) (hb : 15 < l[k].toNat) : fitL l = false := by
  unfold fitL
  rw [List.all_eq_false]
  exact ⟨l[k], List.getElem_mem h, by simp; omega⟩

theorem ofL_length (l : List UInt8) : (ofL l).length = 2 * l.length := by
  induction l with
  | nil => rfl
  | cons b t ih =>
    have : ofL (b :: t) = b / 16 :: b % 16 :: ofL t := by simp [ofL]
    rw [this]; simp [ih]; omega
theorem ofL_snoc (l : List UInt8) (k : Nat) (h : k < l.length) : ofL (l.take (k + 1)) = ofL (l.take k) ++ [l[k] / 16, l[k] % 16] := by
  rw [take_snoc l k h]; unfold ofL; rw [List.flatMap_append]; simp

theorem toNat_div16 (b : UInt8) : (((b / 16).toNat : Nat) : Int) = (b.toNat : Int) / 16 := by simp
theorem toNat_mod16 (b : UInt8) : (((b % 16).toNat : Nat) : Int) = (b.toNat : Int) % 16 := by simp

theorem fitL_get (l : List UInt8) (h : fitL l = true) (k : Nat) (hk : k < l.length) : l[k].toNat ≤ 15 := by
  unfold fitL at h; rw [List.all_eq_true] at h; simpa using h l[k] (List.getElem_mem hk)
theorem fitL_tail (a : UInt8) (t : List UInt8) (h : fitL (a :: t) = true) : fitL t = true := by
  simp [fitL] at h ⊢; exact h.2
theorem joinL_two (a b : UInt8) (t : List UInt8) : joinL (a :: b :: t) = (a * 16 + b) :: joinL t := rfl
theorem joinL_length (l : List UInt8) : (joinL l).length = l.length / 2 := by
  match l with
  | [] => rfl
  | [_] => simp [joinL]
  | a :: b :: t => simp [joinL_two, joinL_length t]; omega
def kindL (n : Nat) (leaf : Bool) : UInt8 := (if n % 2 = 1 then 1 else 0) + (if leaf then 2 else 0)
def headL (p : List UInt8) (leaf : Bool) : List UInt8 := if p.length % 2 = 1 then [kindL p.length leaf] else [kindL p.length leaf, 0]
def packL (p : List UInt8) (leaf : Bool) : List UInt8 := joinL (headL p leaf ++ p)
def unpackL : List UInt8 → Option (List UInt8 × Bool)
  | [] => none
  | b :: t => if b.toNat / 16 > 3 ∨ (b.toNat / 16 % 2 = 0 ∧ b.toNat % 16 ≠ 0) then none
    else if b.toNat / 16 % 2 = 1 then some ((b % 16) :: ofL t, decide (2 ≤ b.toNat / 16)) else some (ofL t, decide (2 ≤ b.toNat / 16))
def mayL (b : UInt8) : Bool := decide (b.toNat / 16 ≤ 3) && (decide (b.toNat / 16 % 2 = 1) || decide (b.toNat % 16 = 0))
theorem unpackL_bad (b : UInt8) (t : List UInt8) (h : mayL b = false) : unpackL (b :: t) = none := by
  simp only [unpackL]
  rw [if_pos]
  simp [mayL] at h
  omega
theorem mayL_le (b : UInt8) (h : mayL b = true) : b.toNat / 16 ≤ 3 ∧ (b.toNat / 16 % 2 = 1 ∨ b.toNat % 16 = 0) := by
  simpa [mayL] using h
theorem unpackL_odd (b : UInt8) (t : List UInt8) (h : mayL b = true) (h1 : b.toNat / 16 % 2 = 1) : unpackL (b :: t) = some ((b % 16) :: ofL t, decide (2 ≤ b.toNat / 16)) := by
  have := mayL_le b h
  simp only [unpackL]
  rw [if_neg (by omega), if_pos h1]
theorem unpackL_even (b : UInt8) (t : List UInt8) (h : mayL b = true) (h1 : b.toNat / 16 % 2 = 0) : unpackL (b :: t) = some (ofL t, decide (2 ≤ b.toNat / 16)) := by
  have := mayL_le b h
  simp only [unpackL]
  rw [if_neg (by omega), if_neg (by omega)]
theorem packL_odd (a : UInt8) (t : List UInt8) (leaf : Bool) (h : t.length % 2 = 0) : packL (a :: t) leaf = ((if leaf then 48 else 16) + a) :: joinL t := by
  have : (t.length + 1) % 2 = 1 := by omega
  cases leaf <;> simp [packL, headL, kindL, this, joinL_two]
theorem packL_even (p : List UInt8) (leaf : Bool) (h : p.length % 2 = 0) : packL p leaf = (if leaf then 32 else 0) :: joinL p := by
  have : ¬ p.length % 2 = 1 := by omega
  cases leaf <;> simp [packL, headL, kindL, this, joinL_two]

end Go.Proofs.YtgbcilokeiengaaDoor.Nib
namespace Go.Proofs.YtgbcilokeiengaaDoor
open Go.RowKit

def cellsL (l : List UInt8) : List Value := l.map fun b => .int .u8 (b.toNat : Int)
theorem cellsL_length (a : List UInt8) : (cellsL a).length = a.length := by simp [cellsL]
theorem Tryd.infoByte : (Tryd.prog.info? 5).map (fun i => (i.zero, i.size, i.bytes)) = some (some (.int .u8 0), 1, 1) := by kernel_rfl
theorem byte_lt (b : UInt8) : (b.toNat : Int) < 256 := by have := b.toNat_lt; simp at this; omega
theorem byte_and15 (b : UInt8) : bits .and .u8 (b.toNat : Int) 15 = (((b % 16).toNat : Nat) : Int) := by
  rw [Nib.toNat_mod16]; exact u8_and15 (x := (b.toNat : Int)) (Int.natCast_nonneg _) (byte_lt b)
set_option maxRecDepth 100000 in
theorem conv_own {w : World} {B : Nat} {v : Value} {ys : List UInt8} (h : w.ownsRow B 5 1 v ys.length (cellsL ys)) : (convert 65 9 v).run Tryd.prog w = .ok (.string ⟨ys.toArray⟩) w := by
  rcases h.2 with ⟨rfl, h0⟩ | ⟨g, cap, cur, rfl, _⟩
  · obtain rfl : ys = [] := List.eq_nil_of_length_eq_zero h0
    rfl
  · refine run_convert_bytes_back w 65 9 5 ⟨g, 0, none⟩ cap ys Tryd.underlying65 Tryd.underlying5 Tryd.underlying9 ?_
    intro j hj
    exact h.cells (g := g) rfl j _ (by simp [cellsL, hj])
theorem ownsNil (w : World) (B : Nat) : w.ownsRow B 5 1 (.slice none 0 0) ([] : List UInt8).length (cellsL []) := ⟨rfl, Or.inl ⟨rfl, rfl⟩⟩
theorem ownsOne (w : World) (B : Nat) (hB : B ≤ w.heap.size) (b : UInt8) (z : Int) (hz : z = (b.toNat : Int)) : (w.alloc (.cells #[.int .u8 z] 5)).ownsRow B 5 1 (.slice (some ⟨w.heap.size, 0, none⟩) 1 1) [b].length (cellsL [b]) := by
  subst hz
  exact ⟨rfl, Or.inr ⟨w.heap.size, 1, #[.int .u8 (b.toNat : Int)], rfl, hB, heap_alloc_new w _, Nat.le_refl _, by unfold maxLen; omega, rfl, rfl⟩⟩
theorem cat_mk (p x : List UInt8) : ((⟨p.toArray⟩ : ByteArray) ++ (⟨x.toArray⟩ : ByteArray)) = ⟨(p ++ x).toArray⟩ := by
  apply ByteArray.ext; simp
theorem bchain {w w1 w2 : World} (h : Below w.heap.size w w1) (k : Below w1.heap.size w1 w2) : Below w.heap.size w w2 := h.trans (k.mono h.size)
theorem and16_fin : ∀ n : Fin 256, (bits .and .u8 (n.val : Int) 16 != 0) = decide (n.val / 16 % 2 = 1) := by decide +kernel
theorem and32_fin : ∀ n : Fin 256, n.val / 16 ≤ 3 → (bits .and .u8 (n.val : Int) 32 != 0) = decide (2 ≤ n.val / 16) := by decide +kernel
theorem and15_fin : ∀ n : Fin 256, (bits .and .u8 (n.val : Int) 15 == 0) = decide (n.val % 16 = 0) := by decide +kernel
theorem and16 (b : UInt8) : (bits .and .u8 (b.toNat : Int) 16 != 0) = decide (b.toNat / 16 % 2 = 1) := and16_fin ⟨b.toNat, b.toNat_lt⟩
theorem and32 (b : UInt8) (h : b.toNat / 16 ≤ 3) : (bits .and .u8 (b.toNat : Int) 32 != 0) = decide (2 ≤ b.toNat / 16) := and32_fin ⟨b.toNat, b.toNat_lt⟩ h
theorem and15 (b : UInt8) : (bits .and .u8 (b.toNat : Int) 15 == 0) = decide (b.toNat % 16 = 0) := and15_fin ⟨b.toNat, b.toNat_lt⟩
theorem bel_drewN {B : Nat} {a w : World} (h : Below B a w) (n : Nat) : Below B a (w.drewN n) := h.trans ⟨rfl, rfl, rfl, Nat.le_refl _, fun _ _ => rfl⟩
end Go.Proofs.YtgbcilokeiengaaDoor
namespace Go.Proofs.YtgbcilokeiengaaDoor
open Go.RowKit

theorem lt_of_heap {w : World} {g : Nat} {o : Obj} (h : w.heap[g]? = some o) : g < w.heap.size := by
  rcases Nat.lt_or_ge g w.heap.size with hlt | hge
  · exact hlt
  · rw [Array.getElem?_eq_none hge] at h; cases h
theorem heap_new_at (w : World) (o : Obj) (i : Nat) (h : i = w.heap.size) : (w.alloc o).heap[i]? = some o := by subst h; exact heap_alloc_new w o
theorem heap_old_at {w : World} {i : Nat} {x : Obj} (o : Obj) (h : w.heap[i]? = some x) : (w.alloc o).heap[i]? = some x := (Below.heap_alloc w o i (lt_of_heap h)).trans h

theorem keep_cell {w : World} {p q : Addr} {u v : Value} (h : w.cell? q = some v) (hn : q.block ≠ p.block) : (w.setCell p u).cell? q = some v :=
  (World.cell?_setCell_other w p q u (fun e => hn (by rw [e]))).trans h
theorem keep_cell' {w : World} {p q : Addr} {u v : Value} (h : w.cell? q = some v) (hn : q.block ≠ p.block) : (w.setCell p u).drew.cell? q = some v := keep_cell h hn
theorem keep_off {w : World} {p q : Addr} {u v : Value} (h : w.cell? q = some v) (hn : q ≠ p) : (w.setCell p u).cell? q = some v :=
  (World.cell?_setCell_other w p q u (Ne.symm hn)).trans h
theorem keep_offN {w : World} {n : Nat} {p q : Addr} {u v : Value} (h : w.cell? q = some v) (hn : q ≠ p) : ((w.drewN n).setCell p u).cell? q = some v := keep_off (w := w.drewN n) h hn
/-- The world but for block g. -/
structure Only (g : Nat) (w w' : World) : Prop where
  os : w'.os = w.os
  tape : w'.tape = w.tape
  output : w'.output = w.output
  size : w.heap.size ≤ w'.heap.size
  block : ∀ k, k < w.heap.size → k ≠ g → w'.heap[k]? = w.heap[k]?
theorem Only.refl (g : Nat) (w : World) : Only g w w := ⟨rfl, rfl, rfl, Nat.le_refl _, fun _ _ _ => rfl⟩
theorem Only.trans {g : Nat} {a b c : World} (h : Only g a b) (k : Only g b c) : Only g a c :=
  ⟨k.os.trans h.os, k.tape.trans h.tape, k.output.trans h.output, Nat.le_trans h.size k.size, fun i hi hg => (k.block i (Nat.lt_of_lt_of_le hi h.size) hg).trans (h.block i hi hg)⟩
theorem Only.of {g : Nat} {a b : World} (h : Below a.heap.size a b) : Only g a b := ⟨h.os, h.tape, h.output, h.size, fun i hi _ => h.block i hi⟩
theorem Only.below {B g : Nat} {a b : World} (h : Only g a b) (hB : B ≤ g) (hs : B ≤ a.heap.size) : Below B a b := ⟨h.os, h.tape, h.output, h.size, fun i hi => h.block i (by omega) (by omega)⟩
theorem Only.setCell {g : Nat} {a w : World} (h : Only g a w) {p : Addr} (hp : p.block = g) (u : Value) : Only g a (w.setCell p u) :=
  ⟨h.os, h.tape, h.output, by have := h.size; simpa [World.setCell] using this, fun i hi hg => (Below.heap_setCell w p u i (by rw [hp]; exact hg)).trans (h.block i hi hg)⟩
theorem Only.drew {g : Nat} {a w : World} (h : Only g a w) : Only g a w.drew := ⟨h.os, h.tape, h.output, h.size, h.block⟩
theorem Only.of_drew {g : Nat} {a w : World} (h : Only g a.drew w) : Only g a w := ⟨h.os, h.tape, h.output, h.size, h.block⟩
theorem Only.cell {g : Nat} {w w' : World} (h : Only g w w') {p : Addr} {v : Value} (hc : w.cell? p = some v) (hp : p.block ≠ g) : w'.cell? p = some v :=
  (World.cell?_of_block (w := w) (h.block p.block (World.block_lt_of_cell? _ _ hc) hp)).trans hc
theorem ext_drop (s : List UInt8) (k : Nat) : (⟨s.toArray⟩ : ByteArray).extract k s.length = ⟨(s.drop k).toArray⟩ := by
  rw [Lib.extract_eq]
  simp only
  rw [List.take_of_length_le (by simp)]
end Go.Proofs.YtgbcilokeiengaaDoor
namespace Go.Proofs.YtgbcilokeiengaaDoor
open Go.RowKit Go.MapKept
open Go.ChangeMaps (setBlock heap_setBlock_same heap_setBlock_other)
open Go.Maps (Keyed)

/-- The world but for the blocks of F. -/
structure Out (F : Nat → Prop) (w w' : World) : Prop where
  os : w'.os = w.os
  tape : w'.tape = w.tape
  output : w'.output = w.output
  size : w.heap.size ≤ w'.heap.size
  block : ∀ k, k < w.heap.size → ¬ F k → w'.heap[k]? = w.heap[k]?
theorem Out.refl (F : Nat → Prop) (w : World) : Out F w w := ⟨rfl, rfl, rfl, Nat.le_refl _, fun _ _ _ => rfl⟩
theorem Out.trans {F : Nat → Prop} {a b c : World} (h : Out F a b) (k : Out F b c) : Out F a c :=
  ⟨k.os.trans h.os, k.tape.trans h.tape, k.output.trans h.output, Nat.le_trans h.size k.size, fun i hi hg => (k.block i (Nat.lt_of_lt_of_le hi h.size) hg).trans (h.block i hi hg)⟩
theorem Out.mono {F G : Nat → Prop} {a b : World} (h : Out F a b) (hi : ∀ k, k < a.heap.size → F k → G k) : Out G a b :=
  ⟨h.os, h.tape, h.output, h.size, fun i hl hg => h.block i hl (fun hf => hg (hi i hl hf))⟩
theorem Out.of {F : Nat → Prop} {a b : World} (h : Below a.heap.size a b) : Out F a b := ⟨h.os, h.tape, h.output, h.size, fun i hi _ => h.block i hi⟩
theorem Out.below {B : Nat} {F : Nat → Prop} {a b : World} (h : Out F a b) (hB : ∀ k, F k → B ≤ k) (hs : B ≤ a.heap.size) : Below B a b :=
  ⟨h.os, h.tape, h.output, h.size, fun i hi => h.block i (by omega) (fun hf => absurd (hB i hf) (by omega))⟩
theorem Out.drew {F : Nat → Prop} {a w : World} (h : Out F a w) : Out F a w.drew := ⟨h.os, h.tape, h.output, h.size, h.block⟩
theorem Out.of_drew {F : Nat → Prop} {a w : World} (h : Out F a.drew w) : Out F a w := ⟨h.os, h.tape, h.output, h.size, h.block⟩
theorem Out.alloc {F : Nat → Prop} {a w : World} (h : Out F a w) (o : Obj) : Out F a (w.alloc o) := h.trans (Out.of ((Below.refl _ w).alloc (Nat.le_refl _) o))
theorem Out.setCell {F : Nat → Prop} {a w : World} (h : Out F a w) {p : Addr} (hp : F p.block) (u : Value) : Out F a (w.setCell p u) :=
  ⟨h.os, h.tape, h.output, by have := h.size; simpa [World.setCell] using this, fun i hi hg => (Below.heap_setCell w p u i (fun e => hg (e ▸ hp))).trans (h.block i hi hg)⟩
theorem Out.grown {F : Nat → Prop} {w w' : World} {row : Option Nat} (h : w.grownBy w' row) (hr : ∀ k, row = some k → F k) : Out F w w' :=
  ⟨h.os, h.tape, h.output, h.size, fun i hi hg => h.block i hi (fun e => hg (hr i e.symm))⟩
theorem Out.heap {F : Nat → Prop} {w w' : World} (h : Out F w w') {k : Nat} {o : Obj} (hk : w.heap[k]? = some o) (hF : ¬ F k) : w'.heap[k]? = some o := (h.block k (lt_of_heap hk) hF).trans hk
theorem Out.cell {F : Nat → Prop} {w w' : World} (h : Out F w w') {p : Addr} {v : Value} (hc : w.cell? p = some v) (hp : ¬ F p.block) : w'.cell? p = some v :=
  (World.cell?_of_block (w := w) (h.block p.block (World.block_lt_of_cell? _ _ hc) hp)).trans hc

/-- Block b is a map of these entries, in the order in which they came. -/
def MapIs (w : World) (b : Nat) (E : List (Value × Value)) : Prop :=
  ∃ es clock, w.heap[b]? = some (.map es clock) ∧ es.toList.map (fun e => (e.key, e.val)) = E
theorem MapIs.lt {w : World} {b : Nat} {E : List (Value × Value)} (h : MapIs w b E) : b < w.heap.size := by
  obtain ⟨_, _, h1, _⟩ := h; exact lt_of_heap h1
theorem MapIs.made (w : World) (b : Nat) (h : b = w.heap.size) : MapIs (w.alloc (.map #[] 0)) b [] := ⟨#[], 0, heap_new_at w _ _ h, rfl⟩
theorem MapIs.out {F : Nat → Prop} {w w' : World} {b : Nat} {E : List (Value × Value)} (h : MapIs w b E) (ho : Out F w w') (hF : ¬ F b) : MapIs w' b E := by
  obtain ⟨es, clock, h1, h2⟩ := h
  exact ⟨es, clock, ho.heap h1 hF, h2⟩
theorem MapIs.drew {w : World} {b : Nat} {E : List (Value × Value)} (h : MapIs w b E) : MapIs w.drew b E := h
theorem MapIs.alloc {w : World} {b : Nat} {E : List (Value × Value)} (h : MapIs w b E) (o : Obj) : MapIs (w.alloc o) b E := by
  obtain ⟨es, clock, h1, h2⟩ := h
  exact ⟨es, clock, heap_old_at o h1, h2⟩
theorem MapIs.look {P : Program} {w : World} {b : Nat} {E : List (Value × Value)} {k t e : TypeId} (h : MapIs w b E) (K : Keyed P k) (ht : P.underlying t = some (.map k e))
    (hks : ∀ p ∈ E, ∃ l, keyOf P k p.1 = some l) {key : Value} {kl : Lit} (hkey : keyOf P k key = some kl) (c : Bool) {z : Value} (hz : (zeroValue e).run P w = .ok z w) :
    ((Instr.lookup t (.map (some b)) key c).run P w = .ok (if c then .tuple #[z, .bool false] else z) w ∧ ∀ p ∈ E, p.1 ≠ key) ∨
    ∃ v, (key, v) ∈ E ∧ (Instr.lookup t (.map (some b)) key c).run P w = .ok (if c then .tuple #[v, .bool true] else v) w := by
  obtain ⟨es, clock, hb, rfl⟩ := h
  have hk' : ∀ x ∈ es.toList, ∃ l, keyOf P k x.key = some l := fun x hx => hks (x.key, x.val) (List.mem_map.2 ⟨x, hx, rfl⟩)
  rcases K.find w hkey es.toList hk' with ⟨h1, h2⟩ | ⟨j, e0, h1, h2, h3⟩
  · refine Or.inl ⟨by simp [Instr.lookup, run_underlying ht, MapKept.run_getObj_map hb, K.check w _ hkey, h1, hz, Result.andThen], ?_⟩
    intro p hp
    obtain ⟨x, hx, rfl⟩ := List.mem_map.1 hp
    exact h2 x hx
  · refine Or.inr ⟨e0.val, List.mem_map.2 ⟨e0, List.mem_of_getElem? h2, by rw [h3]⟩, ?_⟩
    simp [Instr.lookup, run_underlying ht, MapKept.run_getObj_map hb, K.check w _ hkey, h1, Result.andThen]
theorem MapIs.look_none {P : Program} {w : World} {b : Nat} {E : List (Value × Value)} {k t e : TypeId} (h : MapIs w b E) (K : Keyed P k) (ht : P.underlying t = some (.map k e))
    (hks : ∀ p ∈ E, ∃ l, keyOf P k p.1 = some l) {key : Value} {kl : Lit} (hkey : keyOf P k key = some kl) (c : Bool) {z : Value} (hz : (zeroValue e).run P w = .ok z w) (hno : ∀ p ∈ E, p.1 ≠ key) :
    (Instr.lookup t (.map (some b)) key c).run P w = .ok (if c then .tuple #[z, .bool false] else z) w := by
  rcases h.look K ht hks hkey c hz with ⟨h1, _⟩ | ⟨v, hv, _⟩
  · exact h1
  · exact absurd rfl (hno _ hv)
theorem MapIs.store {P : Program} {w : World} {b : Nat} {E : List (Value × Value)} {k t e : TypeId} (h : MapIs w b E) (K : Keyed P k) (ht : P.underlying t = some (.map k e))
    (hks : ∀ p ∈ E, ∃ l, keyOf P k p.1 = some l) {key : Value} {kl : Lit} (hkey : keyOf P k key = some kl) (hno : ∀ p ∈ E, p.1 ≠ key) (val : Value) :
    ∃ w', (Instr.mapUpdate t (.map (some b)) key val).run P w = .ok () w' ∧ MapIs w' b (E ++ [(key, val)]) ∧ Out (fun i => i = b) w w' ∧ w'.heap.size = w.heap.size := by
  obtain ⟨es, clock, hb, rfl⟩ := h
  have hk' : ∀ x ∈ es.toList, ∃ l, keyOf P k x.key = some l := fun x hx => hks (x.key, x.val) (List.mem_map.2 ⟨x, hx, rfl⟩)
  rcases K.find w hkey es.toList hk' with ⟨h1, h2⟩ | ⟨j, e0, h1, h2, h3⟩
  · refine ⟨setBlock w b (.map (es.push ⟨key, val, clock⟩) (clock + 1)), ?_, ⟨_, _, heap_setBlock_same hb _, by simp⟩, ⟨rfl, rfl, rfl, by simp [setBlock], fun i _ hi => heap_setBlock_other hb _ hi⟩, by simp [setBlock]⟩
    simp [Instr.mapUpdate, run_underlying ht, MapKept.run_getObj_map hb, K.check w false hkey, h1, MapKept.run_setObj_map _ hb, Result.andThen, setBlock]
  · exact absurd h3 (hno (e0.key, e0.val) (List.mem_map.2 ⟨e0, List.mem_of_getElem? h2, rfl⟩))

theorem str_inj {a b : List UInt8} (h : Value.string ⟨a.toArray⟩ = .string ⟨b.toArray⟩) : a = b := by
  injection h with h; injection h with h; exact List.toArray_inj h
theorem lawS : Keyed Tryd.prog 9 := Go.Maps.string_keyed Tryd.underlying9
theorem keyS (s : List UInt8) (h : s.length ≤ 140737488351232) : ∃ l, keyOf Tryd.prog 9 (.string ⟨s.toArray⟩) = some l := by
  refine ⟨.string s, ?_⟩
  have h' : (⟨s.toArray⟩ : ByteArray).size ≤ maxLen := by simp [ByteArray.size, maxLen]; omega
  simp [keyOf, Tryd.underlying9, mapKey, h']
theorem cellsI : Tryd.prog.cellsOf 3 = 1 := by kernel_rfl
theorem cellsS : Tryd.prog.cellsOf 9 = 1 := by kernel_rfl
theorem own_form {w : World} {B : Nat} {e : TypeId} {z : Nat} {s : Value} {n : Nat} {xs : List Value} (h : w.ownsRow B e z s n xs) : ∃ A cap, s = .slice A n cap := by
  rcases h.2 with ⟨rfl, rfl⟩ | ⟨k, cap, cur, rfl, _⟩
  · exact ⟨none, 0, rfl⟩
  · exact ⟨_, cap, rfl⟩
theorem row_out {G : Nat → Prop} {w w' : World} {B : Nat} {e : TypeId} {z : Nat} {s : Value} {n : Nat} {xs : List Value} (h : w.ownsRow B e z s n xs) (ho : Out G w w') (hd : ∀ k cs t f, G k → w.heap[k]? ≠ some (.cells cs t f)) : w'.ownsRow B e z s n xs := by
  refine ⟨h.1, ?_⟩
  rcases h.2 with hn | ⟨k, cap, cur, hv, hb, hk, hr⟩
  · exact Or.inl hn
  · exact Or.inr ⟨k, cap, cur, hv, hb, ho.heap hk (fun hg => hd k _ _ _ hg hk), hr⟩
end Go.Proofs.YtgbcilokeiengaaDoor
namespace Go.Proofs.YtgbcilokeiengaaDoor
open Go.RowKit Go.ChangeShapes Go.WideShapes

theorem pints_of_array {H : Type} {enc : TypeId × Value → H} {P : Program} {w : World} {base : Nat} {spare : Nat → Bool} {held : Bool} {fuel : Nat} {t e : TypeId} {n : Nat} {k : IntKind} {cs : List Value} {x : DataW H × List MemPlace}
    (ht : P.underlying t = some (.array n e)) (he : P.underlying e = some (.int k)) (hce : P.cellsOf e = 1) (hct : P.cellsOf t = n)
    (h : DataW.trod enc P w base spare held fuel t cs = some x) : ∃ zs : List Int, zs.length = n ∧ cs = zs.map (Value.int k) ∧ ∀ z ∈ zs, (Lit.int k z).wf = true := by
  obtain ⟨xs, m, _, _, hl, hxl, hel⟩ := DataW.trod_array ht h
  rw [hct] at hl
  have key : ∀ i, i < n → ∃ z, cs[i]? = some (.int k z) ∧ (Lit.int k z).wf = true := fun i hi => by
    have h1 := hel i hi
    rw [hce, Nat.mul_one, List.getElem?_eq_getElem (by omega)] at h1
    obtain ⟨z, e1, _, hw⟩ := DataW.trod_int he h1
    refine ⟨z, ?_, hw⟩
    have h2 := congrArg (·[0]?) e1
    simpa [List.getElem?_take, List.getElem?_drop] using h2
  refine ⟨cs.map (fun v => match v with | .int _ z => z | _ => 0), by rw [List.length_map, hl], ?_, ?_⟩
  · apply List.ext_getElem?
    intro i
    by_cases hi : i < n
    · obtain ⟨z, hz, _⟩ := key i hi
      simp [hz]
    · rw [List.getElem?_eq_none (by omega), List.getElem?_eq_none (by simp; omega)]
  · intro z hz
    obtain ⟨v, hv, rfl⟩ := List.mem_map.1 hz
    obtain ⟨i, hi, rfl⟩ := List.mem_iff_getElem.1 hv
    obtain ⟨z', hz', hw⟩ := key i (by omega)
    rw [List.getElem?_eq_getElem hi] at hz'
    rw [Option.some.inj hz']
    exact hw
/-- An act. -/
structure ActN where
  kind : Int
  text : List UInt8
  a : Int
  b : Int
instance : Inhabited ActN := ⟨⟨0, [], 0, 0⟩⟩
def actcl (s : ActN) : List Value := [.int .i64 s.kind, .string ⟨s.text.toArray⟩, .int .i64 s.a, .int .i64 s.b]
/-- An act that fits. -/
structure OkAct (s : ActN) : Prop where
  kind : (Lit.int .i64 s.kind).wf = true
  a : (Lit.int .i64 s.a).wf = true
  b : (Lit.int .i64 s.b).wf = true
set_option maxRecDepth 100000 in
theorem cellsAct : Tryd.prog.cellsOf 52 = 4 := by kernel_rfl
set_option maxRecDepth 100000 in
theorem cellsPair : Tryd.prog.cellsOf 35 = 2 := by kernel_rfl
def Acts (w : World) (v : Value) (L : List ActN) : Prop :=
  ∃ (A : Option Addr) (cap : Nat), v = .slice A L.length cap ∧ (0 < L.length → ∃ b o, A = some ⟨b, o, none⟩ ∧ b < w.heap.size ∧ ∀ i (h : i < L.length),
    w.cell? ⟨b, o + i * 4, none⟩ = some (.int .i64 L[i].kind) ∧ w.cell? ⟨b, o + i * 4 + 1, none⟩ = some (.string ⟨L[i].text.toArray⟩) ∧ w.cell? ⟨b, o + i * 4 + 2, none⟩ = some (.int .i64 L[i].a) ∧ w.cell? ⟨b, o + i * 4 + 3, none⟩ = some (.int .i64 L[i].b))
theorem Acts.below {w w' : World} {v : Value} {L : List ActN} (h : Acts w v L) (hb : Below w.heap.size w w') : Acts w' v L := by
  obtain ⟨A, cap, rfl, hc⟩ := h
  refine ⟨A, cap, rfl, fun h0 => ?_⟩
  obtain ⟨b, o, rfl, hlt, hcell⟩ := hc h0
  refine ⟨b, o, rfl, Nat.lt_of_lt_of_le hlt hb.size, fun i hi => ?_⟩
  obtain ⟨h1, h2, h3, h4⟩ := hcell i hi
  exact ⟨(hb.cell hlt).trans h1, (hb.cell hlt).trans h2, (hb.cell hlt).trans h3, (hb.cell hlt).trans h4⟩
theorem Acts.form {w : World} {v : Value} {L : List ActN} (h : Acts w v L) : ∃ A cap, v = .slice A L.length cap := by
  obtain ⟨A, cap, rfl, _⟩ := h
  exact ⟨A, cap, rfl⟩
theorem Acts.at {w w' : World} {A : Option Addr} {n cap : Nat} {L : List ActN} (h : Acts w (.slice A n cap) L) (hb : Below w.heap.size w w') (k : Nat) (hk : k < L.length) :
    ∃ b o, A = some ⟨b, o, none⟩ ∧ b < w.heap.size ∧ w'.cell? ⟨b, o + k * 4, none⟩ = some (.int .i64 L[k].kind) ∧ w'.cell? ⟨b, o + k * 4 + 1, none⟩ = some (.string ⟨L[k].text.toArray⟩) ∧ w'.cell? ⟨b, o + k * 4 + 2, none⟩ = some (.int .i64 L[k].a) ∧ w'.cell? ⟨b, o + k * 4 + 3, none⟩ = some (.int .i64 L[k].b) := by
  obtain ⟨A0, cap0, hv0, hc0⟩ := h
  obtain ⟨rfl, rfl, rfl⟩ : A = A0 ∧ n = L.length ∧ cap = cap0 := by simpa using hv0
  obtain ⟨b, o, rfl, hlt, hcell⟩ := hc0 (by omega)
  obtain ⟨h1, h2, h3, h4⟩ := hcell k hk
  exact ⟨b, o, rfl, hlt, (hb.cell hlt).trans h1, (hb.cell hlt).trans h2, (hb.cell hlt).trans h3, (hb.cell hlt).trans h4⟩

set_option maxRecDepth 100000 in
theorem act_cells {H : Type} {enc : TypeId × Value → H} {W : World} {fuel : Nat} {cs : List Value} {x : DataW H × List MemPlace} (ht : DataW.trod enc Tryd.prog W 0 (fun _ => true) true fuel 52 cs = some x) :
    ∃ s : ActN, cs = actcl s ∧ OkAct s := by
  obtain ⟨ys, n', _, hy, hcl, hyl, hfs⟩ := DataW.trod_struct Tryd.underlying52 ht
  rw [cellsAct] at hcl
  match cs, hcl, ys, hyl with
  | [v0, v1, v2, v3], _, [y0, y1, y2], _ =>
    have g0 := hfs 0 _ rfl
    have g1 := hfs 1 _ rfl
    have g2 := hfs 2 _ rfl
    simp [cellsI, cellsS, cellsPair] at g0 g1 g2
    obtain ⟨k, e0, _, k0⟩ := DataW.trod_int Tryd.underlying3 g0
    obtain ⟨s1, e1, _, _⟩ := DataW.trod_string Tryd.underlying9 g1
    obtain ⟨zs, hl, hc, hw⟩ := pints_of_array Tryd.underlying35 Tryd.underlying3 cellsI cellsPair g2
    obtain rfl : v0 = .int .i64 k := by simpa using e0
    obtain rfl : v1 = .string s1 := by simpa using e1
    match zs, hl with
    | [a, b], _ =>
      obtain ⟨rfl, rfl⟩ : v2 = .int .i64 a ∧ v3 = .int .i64 b := by simpa using hc
      exact ⟨⟨k, s1.data.toList, a, b⟩, by simp [actcl], ⟨k0, hw a (by simp), hw b (by simp)⟩⟩
set_option maxRecDepth 100000 in
theorem acts_open {H : Type} {enc : TypeId × Value → H} {W : World} {r : Reach} {b0 : Nat} {v : Value} {d : DataW H} {p : List MemPlace}
    (hv : Value.okWide Tryd.prog W r b0 22 v) (h : DataW.Trod enc Tryd.prog W 0 (fun _ => true) true 22 v d p)
    (hz : ∀ n ∈ d.weights Tryd.prog 22, n ≤ reachBytes) :
    ∃ L, Acts W v L ∧ L.length * 40 ≤ reachBytes ∧ ∀ s ∈ L, OkAct s := by
  obtain ⟨a0, len, cap, rfl⟩ := okWide_slice Tryd.underlying22 hv
  obtain ⟨fuel, hf⟩ := h
  rcases Go.Deep.open_slice Tryd.underlying22 hf with ⟨hcs, _⟩ | ⟨x, l, c, m, n, D, Pl, hcs, _, hl, hm, hmm, hx, hel⟩
  · simp [Value.cells] at hcs
    obtain ⟨rfl, rfl, rfl⟩ := hcs
    exact ⟨[], ⟨none, 0, rfl, fun h => absurd h (by simp)⟩, by simp, fun n hn => by simp at hn⟩
  · simp [Value.cells] at hcs
    obtain ⟨rfl, rfl, rfl⟩ := hcs
    simp only [if_true] at hmm
    subst hmm
    rw [cellsAct] at hel hx
    obtain ⟨hd, -⟩ := Prod.mk.inj hx
    have hlen40 : len * 40 ≤ reachBytes := by
      have h1 := hz ((((List.range len).map D).length + ((List.range (m - len)).map fun j => D (len + j)).length) * Tryd.prog.bytesOf 52) (by
        rw [hd]; simp [DataW.weights, Tryd.underlying22])
      rw [show Tryd.prog.bytesOf 52 = 40 from by kernel_rfl] at h1
      simp only [List.length_map, List.length_range] at h1
      omega
    have key : ∀ i, i < len → ∃ q : ActN, OkAct q ∧ W.cell? ((x.add (i * 4)).add 0) = some (.int .i64 q.kind) ∧ W.cell? ((x.add (i * 4)).add 1) = some (.string ⟨q.text.toArray⟩) ∧ W.cell? ((x.add (i * 4)).add 2) = some (.int .i64 q.a) ∧ W.cell? ((x.add (i * 4)).add 3) = some (.int .i64 q.b) := fun i hi => by
      obtain ⟨cs', hc, ht⟩ := hel i (by omega)
      obtain ⟨_, _, hat⟩ := World.cells?_some hc
      obtain ⟨q, rfl, hok⟩ := act_cells ht
      refine ⟨q, hok, ?_, ?_, ?_, ?_⟩
      · simpa [actcl] using hat 0 (by omega)
      · simpa [actcl] using hat 1 (by omega)
      · simpa [actcl] using hat 2 (by omega)
      · simpa [actcl] using hat 3 (by omega)
    obtain ⟨f, hf⟩ := Go.Deep.choose_lt (fun i hi => key i hi)
    have hlen : ((List.range len).map f).length = len := by simp
    refine ⟨(List.range len).map f, ⟨some x, _, by rw [hlen], fun h0 => ?_⟩, by rw [hlen]; exact hlen40, ?_⟩
    · rw [hlen] at h0
      obtain ⟨b, o, sp⟩ := x
      obtain ⟨_, q0, _⟩ := hf 0 h0
      have hcell' : W.cell? ⟨b, o, sp⟩ = some (.int .i64 (f 0).kind) := by simpa [Addr.add] using q0
      obtain rfl := cell_spot hcell'
      refine ⟨b, o, rfl, block_lt_of_cell hcell', fun i hi => ?_⟩
      rw [hlen] at hi
      obtain ⟨_, q0, q1, q2, q3⟩ := hf i hi
      rw [Addr.add_mid, Addr.add_mid] at q0 q1 q2 q3
      simpa using ⟨q0, q1, q2, q3⟩
    · intro n hn
      obtain ⟨i, hi, rfl⟩ := List.mem_map.1 hn
      exact (hf i (List.mem_range.1 hi)).1
set_option maxRecDepth 100000 in
/-- A pair of numbers. -/
theorem pair_open {H : Type} {enc : TypeId × Value → H} {W : World} {r : Reach} {b0 : Nat} {v : Value} {d : DataW H} {p : List MemPlace}
    (hv : Value.okWide Tryd.prog W r b0 35 v) (h : DataW.Trod enc Tryd.prog W 0 (fun _ => true) true 35 v d p) : ∃ s : Int × Int, (Lit.int .i64 s.1).wf = true ∧ (Lit.int .i64 s.2).wf = true ∧ v = .agg #[.int .i64 s.1, .int .i64 s.2] := by
  simp only [Value.okWide, Tryd.underlying35] at hv
  obtain ⟨cs, rfl, _, _⟩ := hv
  obtain ⟨fuel, hf⟩ := h
  obtain ⟨zs, hl, hc, hw⟩ := pints_of_array Tryd.underlying35 Tryd.underlying3 cellsI cellsPair hf
  match zs, hl with
  | [a, b], _ =>
    refine ⟨(a, b), hw a (by simp), hw b (by simp), ?_⟩
    have hc' : cs.toList = [a, b].map (Value.int .i64) := hc
    rw [← Array.toArray_toList (xs := cs), hc']
    rfl
end Go.Proofs.YtgbcilokeiengaaDoor
namespace Go.Proofs.YtgbcilokeiengaaDoor
open Go.RowKit

/-- A number below n. -/
def Bk.below (a n : Int) : Int := (a.tmod n + n) % n
theorem Bk.below_in (a : Int) (n : Nat) (hn : 0 < n) : 0 ≤ Bk.below a n ∧ Bk.below a n < n := by
  have h1 : -(n : Int) < a.tmod n := Int.lt_tmod_of_pos a (by omega)
  unfold Bk.below
  have h2 : 0 ≤ a.tmod n + n := by omega
  exact ⟨Int.emod_nonneg _ (by omega), Int.emod_lt_of_pos _ (by omega)⟩
theorem Bk.below_nat (a : Int) (n : Nat) (hn : 0 < n) : ∃ k : Nat, Bk.below a n = k ∧ k < n := by
  obtain ⟨h1, h2⟩ := Bk.below_in a n hn
  exact ⟨(Bk.below a n).toNat, by omega, by omega⟩
set_option maxHeartbeats 400000 in
theorem below_any (a : Int) (n : Nat) (w : World) (hn : 0 < n) (hb : n ≤ 1000000) :
    Calls Tryd.prog 12 #[.int .i64 a, .int .i64 n] w fun e w' => e = .returned (.int .i64 (Bk.below a n)) ∧ w' = w := by
  have h1 : -(n : Int) < a.tmod n := Int.lt_tmod_of_pos a (by omega)
  have h2 : a.tmod n < (n : Int) := Int.tmod_lt_of_pos a (by omega)
  have h3 : IntKind.i64.wrap (a.tmod n + n) = a.tmod n + n := by
    unfold IntKind.wrap
    simp [IntKind.signed, IntKind.bits]
    omega
  have h0 : ((n : Int) == 0) = false := by rw [beq_eq_false_iff_ne]; omega
  have h00 : ¬ ((n : Int) = 0) := by omega
  have hm : (n : Int) ≠ -1 := by omega
  unfold Bk.below
  go_enter Tryd.func12, Tryd.ntmps12
  go_wp2
  go_ret
  exact ⟨rfl, rfl⟩

/-- At most so many bytes of a text. -/
def Bk.cut (s : List UInt8) (n : Nat) : List UInt8 := s.take n
theorem bk_take (s : List UInt8) (k : Nat) : (⟨s.toArray⟩ : ByteArray).extract 0 k = ⟨(s.take k).toArray⟩ := by
  rw [Lib.extract_eq]
  simp only [List.drop_zero, Nat.sub_zero]
set_option maxRecDepth 8000 in
set_option maxHeartbeats 400000 in
theorem bcut_any (s : List UInt8) (n : Nat) (w : World) (hn : n ≤ 1000000) :
    Calls Tryd.prog 29 #[.string ⟨s.toArray⟩, .int .i64 n] w fun x w' => x = .returned (.string ⟨(Bk.cut s n).toArray⟩) ∧ w' = w := by
  unfold Bk.cut
  by_cases h : n < s.length
  · have h1 : (n : Int) < (s.length : Int) := by omega
    have h2 : (0 : Int) ≤ (n : Int) := by omega
    have h3 : (n : Int) ≤ (s.length : Int) := by omega
    have he := bk_take s n
    clear hn
    go_enter Tryd.func29, Tryd.ntmps29
    go_wp2
    go_ret
    exact ⟨rfl, rfl⟩
  · have h1 : ¬ ((n : Int) < (s.length : Int)) := by omega
    rw [List.take_of_length_le (by omega)]
    clear hn
    go_enter Tryd.func29, Tryd.ntmps29
    go_wp2
    go_ret
    exact ⟨rfl, rfl⟩
end Go.Proofs.YtgbcilokeiengaaDoor
namespace Go.Proofs.YtgbcilokeiengaaDoor.Code

def sz (n : Nat) : Nat := if _h : n = 0 then 0 else sz (n / 256) + 1
def be : Nat → Nat → List UInt8
  | 0, _ => []
  | k + 1, n => be k (n / 256) ++ [UInt8.ofNat (n % 256)]
def numL (n : Nat) : List UInt8 := UInt8.ofNat (sz n) :: be (sz n) n
def textL (s : List UInt8) : List UInt8 := numL s.length ++ s
def val (l : List UInt8) : Nat := l.foldl (fun a d => a * 256 + d.toNat) 0
theorem sz_zero : sz 0 = 0 := by rw [sz]; simp
theorem sz_pos (n : Nat) (h : n ≠ 0) : sz n = sz (n / 256) + 1 := by rw [sz]; simp [h]
theorem be_length (k n : Nat) : (be k n).length = k := by
  induction k generalizing n with
  | zero => rfl
  | succ k ih => simp [be, ih]
theorem sz_iff (n : Nat) : ∀ k, (n < 256 ^ k ∧ (k ≠ 0 → 256 ^ (k - 1) ≤ n)) → sz n = k := by
  induction n using Nat.strongRecOn with
  | _ n ih =>
    intro k ⟨h1, h2⟩
    by_cases h : n = 0
    · subst h
      rw [sz_zero]
      by_cases hk : k = 0
      · exact hk.symm
      · have := h2 hk
        have p : 0 < 256 ^ (k - 1) := Nat.pow_pos (by omega)
        omega
    · rw [sz_pos n h]
      obtain ⟨j, rfl⟩ : ∃ j, k = j + 1 := by
        cases k with
        | zero => simp at h1; omega
        | succ j => exact ⟨j, rfl⟩
      have h3 := h2 (by omega)
      simp at h3
      rw [ih (n / 256) (by omega) j ⟨?_, ?_⟩]
      · rw [Nat.pow_succ] at h1; omega
      · intro hj
        obtain ⟨i, rfl⟩ : ∃ i, j = i + 1 := ⟨j - 1, by omega⟩
        rw [Nat.pow_succ] at h3
        simp
        omega
theorem sz_bounds (n : Nat) : n < 256 ^ sz n ∧ (sz n ≠ 0 → 256 ^ (sz n - 1) ≤ n) := by
  induction n using Nat.strongRecOn with
  | _ n ih =>
    by_cases h : n = 0
    · subst h; simp [sz_zero]
    · rw [sz_pos n h]
      obtain ⟨h1, h2⟩ := ih (n / 256) (by omega)
      refine ⟨?_, fun _ => ?_⟩
      · rw [Nat.pow_succ]; omega
      · simp
        by_cases h0 : sz (n / 256) = 0
        · rw [h0]; simp; omega
        · have h3 := h2 h0
          obtain ⟨i, hi⟩ : ∃ i, sz (n / 256) = i + 1 := ⟨sz (n / 256) - 1, by omega⟩
          rw [hi] at h3 ⊢
          simp at h3
          rw [Nat.pow_succ]; omega
theorem sz_le8 (n : Nat) (h : n < 2 ^ 64) : sz n ≤ 8 := by
  have ⟨_, h2⟩ := sz_bounds n
  by_cases hk : sz n ≤ 8
  · exact hk
  · have h3 := h2 (by omega)
    have := Nat.pow_le_pow_right (n := 256) (by omega) (show 8 ≤ sz n - 1 by omega)
    have e : (256 : Nat) ^ 8 = 2 ^ 64 := by decide
    omega
theorem val_append (a : List UInt8) (d : UInt8) : val (a ++ [d]) = val a * 256 + d.toNat := by simp [val]
theorem ofNat_toNat (n : Nat) (h : n < 256) : (UInt8.ofNat n).toNat = n := by simp; omega
theorem val_be (k n : Nat) (h : n < 256 ^ k) : val (be k n) = n := by
  induction k generalizing n with
  | zero => simp [be, val]; simp at h; omega
  | succ k ih =>
    rw [be, val_append, ofNat_toNat _ (by omega), ih]
    · omega
    · rw [Nat.pow_succ] at h; omega
theorem snocInd {p : List UInt8 → Prop} (h0 : p []) (h1 : ∀ l d, p l → p (l ++ [d])) (l : List UInt8) : p l := by
  have h : ∀ r : List UInt8, p r.reverse := by
    intro r
    induction r with
    | nil => exact h0
    | cons d r ih => rw [List.reverse_cons]; exact h1 _ _ ih
  have := h l.reverse
  rwa [List.reverse_reverse] at this
theorem val_lt (l : List UInt8) : val l < 256 ^ l.length := by
  induction l using snocInd with
  | h0 => simp [val]
  | h1 l d ih =>
    rw [val_append]
    simp [Nat.pow_succ]
    have := d.toNat_lt
    omega
theorem be_val (l : List UInt8) : be l.length (val l) = l := by
  induction l using snocInd with
  | h0 => simp [val, be]
  | h1 l d ih =>
    have hd := d.toNat_lt
    rw [val_append]
    simp only [List.length_append, List.length_singleton, be]
    rw [show (val l * 256 + d.toNat) / 256 = val l by omega, ih, show (val l * 256 + d.toNat) % 256 = d.toNat by omega]
    simp
theorem val_ge (c : UInt8) (l : List UInt8) : c.toNat * 256 ^ l.length ≤ val (c :: l) ∧ val (c :: l) < (c.toNat + 1) * 256 ^ l.length := by
  induction l using snocInd with
  | h0 => simp [val]
  | h1 l d ih =>
    have hd := d.toNat_lt
    rw [← List.cons_append, val_append]
    simp only [List.length_append, List.length_singleton, Nat.pow_succ, ← Nat.mul_assoc]
    omega

/-- What the program's lead tells of bytes: the number, how many bytes it takes, the code. -/
def bad (k : Nat) (d : List UInt8) : Bool := (decide (0 < k) && (d.headD 0).toNat == 0) || (k == 8 && decide (128 ≤ (d.headD 0).toNat))
def leadL : List UInt8 → Nat × Nat × Int
  | [] => (0, 0, 20)
  | c :: r => if c.toNat > 8 then (0, 0, 3) else if r.length < c.toNat then (0, 0, 20) else if bad c.toNat (r.take c.toNat) then (0, 0, 3) else (val (r.take c.toNat), 1 + c.toNat, 0)

theorem numL_length (n : Nat) : (numL n).length = 1 + sz n := by simp [numL, be_length]; omega
theorem be_head (n : Nat) (h : n ≠ 0) : ∃ c r, be (sz n) n = c :: r ∧ r.length = sz n - 1 ∧ c.toNat ≠ 0 ∧ (n < 2 ^ 63 → sz n = 8 → c.toNat < 128) := by
  have hs := sz_pos n h
  obtain ⟨h1, h2⟩ := sz_bounds n
  have h3 := h2 (by omega)
  have hl := be_length (sz n) n
  match hb : be (sz n) n with
  | [] => rw [hb] at hl; simp at hl; omega
  | c :: r =>
    rw [hb] at hl
    simp at hl
    have hv := val_be (sz n) n h1
    have ⟨g1, g2⟩ := val_ge c r
    rw [← hb, hv] at g1 g2
    refine ⟨c, r, rfl, by omega, ?_, ?_⟩
    · intro hc
      rw [hc] at g2
      rw [show r.length = sz n - 1 by omega] at g2
      omega
    · intro hn h8
      rw [show r.length = 7 by omega] at g1
      have e : (256 : Nat) ^ 7 = 2 ^ 56 := by decide
      rw [e] at g1
      omega
theorem lead_num (n : Nat) (h : n < 2 ^ 63) (r : List UInt8) : leadL (numL n ++ r) = (n, 1 + sz n, 0) := by
  have h8 := sz_le8 n (by omega)
  have hb := (sz_bounds n).1
  have hl := be_length (sz n) n
  have ht : (be (sz n) n ++ r).take (sz n) = be (sz n) n := by
    rw [List.take_append_of_le_length (by omega), List.take_of_length_le (by omega)]
  have hbad : bad (sz n) (be (sz n) n) = false := by
    by_cases h0 : n = 0
    · subst h0; simp [bad, sz_zero]
    · obtain ⟨c, q, e, _, hc, hd⟩ := be_head n h0
      rw [e]
      simp only [bad, List.headD_cons, Bool.or_eq_false_iff, Bool.and_eq_false_iff, decide_eq_false_iff_not, beq_eq_false_iff_ne]
      refine ⟨Or.inr hc, ?_⟩
      by_cases h8 : sz n = 8
      · exact Or.inr (decide_eq_false (Nat.not_le.2 (hd h h8)))
      · exact Or.inl h8
  simp only [numL, List.cons_append, leadL]
  rw [ofNat_toNat _ (by omega), ht, hbad, val_be _ _ hb]
  simp only [List.length_append, hl]
  rw [if_neg (by omega), if_neg (by omega)]
  simp
theorem lead_ok (s : List UInt8) (h : (leadL s).2.2 = 0) : (leadL s).1 < 2 ^ 63 ∧ (leadL s).2.1 ≤ s.length ∧ s.take (leadL s).2.1 = numL (leadL s).1 := by
  match s with
  | [] => simp [leadL] at h
  | c :: r =>
    simp only [leadL] at h ⊢
    split at h
    · simp at h
    · split at h
      · simp at h
      · split at h
        · simp at h
        · rename_i h1 h2 h3
          rw [if_neg h1, if_neg h2, if_neg h3]
          simp only [Bool.not_eq_true] at h3
          have hl : (r.take c.toNat).length = c.toNat := by rw [List.length_take]; omega
          have hsz : sz (val (r.take c.toNat)) = c.toNat := by
            refine sz_iff _ _ ⟨by have := val_lt (r.take c.toNat); rw [hl] at this; exact this, fun hk => ?_⟩
            match hd : r.take c.toNat with
            | [] => rw [hd] at hl; simp at hl; omega
            | x :: q =>
              rw [hd] at hl h3
              simp at hl
              simp only [bad, List.headD_cons, Bool.or_eq_false_iff, Bool.and_eq_false_iff, decide_eq_false_iff_not, beq_eq_false_iff_ne] at h3
              have hx : x.toNat ≠ 0 := by rcases h3.1 with a | a; omega; exact a
              have ⟨g, _⟩ := val_ge x q
              rw [show c.toNat - 1 = q.length by omega]
              have : 1 * 256 ^ q.length ≤ x.toNat * 256 ^ q.length := Nat.mul_le_mul_right _ (by omega)
              omega
          refine ⟨?_, by simp; omega, ?_⟩
          · by_cases h8 : c.toNat = 8
            · match hd : r.take c.toNat with
              | [] => rw [hd] at hl; simp at hl; omega
              | x :: q =>
                rw [hd] at hl h3
                simp at hl
                simp only [bad, List.headD_cons, Bool.or_eq_false_iff, Bool.and_eq_false_iff, decide_eq_false_iff_not, beq_eq_false_iff_ne] at h3
                have hx : x.toNat < 128 := by rcases h3.2 with a | a; exact absurd h8 a; exact Nat.not_le.1 (of_decide_eq_false a)
                have ⟨_, g⟩ := val_ge x q
                have e : (256 : Nat) ^ 7 = 2 ^ 56 := by decide
                rw [show q.length = 7 by omega, e] at g
                omega
            · have := val_lt (r.take c.toNat)
              rw [hl] at this
              have e : (256 : Nat) ^ 7 = 2 ^ 56 := by decide
              have := Nat.pow_le_pow_right (n := 256) (by omega) (show c.toNat ≤ 7 by omega)
              omega
          · rw [Nat.add_comm, List.take_succ_cons, numL, hsz]
            have hb := be_val (r.take c.toNat)
            rw [hl] at hb
            rw [hb]
            simp

end Go.Proofs.YtgbcilokeiengaaDoor.Code
namespace Go.Proofs.YtgbcilokeiengaaDoor
open Go.RowKit

def Strs (w : World) (v : Value) (L : List (List UInt8)) : Prop :=
  ∃ (A : Option Addr) (cap : Nat), v = .slice A L.length cap ∧ ∀ i (h : i < L.length), ∃ a, A = some a ∧ w.cell? (a.add i) = some (.string ⟨L[i].toArray⟩)
theorem Strs.below {w w' : World} {v : Value} {L : List (List UInt8)} (h : Strs w v L) (hb : Below w.heap.size w w') : Strs w' v L := by
  obtain ⟨A, cap, rfl, hc⟩ := h
  refine ⟨A, cap, rfl, fun i hi => ?_⟩
  obtain ⟨a, ha, hcell⟩ := hc i hi
  exact ⟨a, ha, (hb.cell (World.block_lt_of_cell? _ _ hcell)).trans hcell⟩
theorem Strs.nil (w : World) : Strs w (.slice none 0 0) [] := ⟨none, 0, rfl, fun i h => absurd h (Nat.not_lt_zero i)⟩
end Go.Proofs.YtgbcilokeiengaaDoor
namespace Go.Proofs.YtgbcilokeiengaaDoor
open Go.RowKit Go.ChangeShapes Go.WideShapes

end Go.Proofs.YtgbcilokeiengaaDoor
namespace Go.Proofs.YtgbcilokeiengaaDoor
open Go.RowKit

def Sto.placeOf (a : Int) (C : List (List UInt8)) : List UInt8 := C.getD (Bk.below a C.length).toNat []
def Sto.textP (s : ActN) (C : List (List UInt8)) : List UInt8 :=
  if s.kind = 1 ∧ C ≠ [] then [3, 128, 1] ++ Sto.placeOf s.a C ++ Sto.placeOf s.b C ++ [0] else Bk.cut s.text 200
theorem Sto.placeOf_mem (a : Int) (C : List (List UInt8)) (h : 0 < C.length) : Sto.placeOf a C ∈ C := by
  obtain ⟨k, hk, hl⟩ := Bk.below_nat a C.length h
  unfold Sto.placeOf
  rw [hk, Int.toNat_natCast, List.getD_eq_getElem?_getD, List.getElem?_eq_getElem hl]
  exact List.getElem_mem hl
theorem Sto.textP_len (s : ActN) (C : List (List UInt8)) (h : ∀ x ∈ C, x.length ≤ 32) : (Sto.textP s C).length ≤ 200 := by
  unfold Sto.textP
  split
  · rename_i hc
    have h0 : 0 < C.length := List.length_pos_iff.2 hc.2
    have h1 := h _ (Sto.placeOf_mem s.a C h0)
    have h2 := h _ (Sto.placeOf_mem s.b C h0)
    simp only [List.length_append, List.length_cons, List.length_nil]
    omega
  · unfold Bk.cut
    rw [List.length_take]; omega
/-- A place of a slice of texts, by a number below its length. -/
theorem Strs.place {w : World} {A : Option Addr} {n cap : Nat} {C : List (List UInt8)} (h : Strs w (.slice A n cap) C) (h0 : 0 < C.length) (a : Int) :
    ∃ (k : Nat) (p : Addr), Bk.below a C.length = k ∧ k < C.length ∧ A = some p ∧ w.cell? (p.add k) = some (.string ⟨(Sto.placeOf a C).toArray⟩) := by
  obtain ⟨A', cap', hv, hc⟩ := h
  obtain ⟨rfl, rfl, rfl⟩ : A = A' ∧ n = C.length ∧ cap = cap' := by simpa using hv
  obtain ⟨k, hk, hl⟩ := Bk.below_nat a C.length h0
  obtain ⟨p, hp, hcell⟩ := hc k hl
  refine ⟨k, p, hk, hl, hp, ?_⟩
  unfold Sto.placeOf
  rw [hcell, hk, Int.toNat_natCast, List.getD_eq_getElem?_getD, List.getElem?_eq_getElem hl]
  rfl

set_option maxRecDepth 8000 in
set_option maxHeartbeats 2000000 in
theorem text_any' (s : ActN) (C : List (List UInt8)) (z : Value) (w : World) (hz : Strs w z C) (hC : C.length ≤ 1000) (h32 : ∀ x ∈ C, x.length ≤ 32) :
    Calls Tryd.prog 19 #[.agg (actcl s).toArray, z] w fun e w' => e = .returned (.string ⟨(Sto.textP s C).toArray⟩) ∧ Below w.heap.size w w' := by
  obtain ⟨kd, tx, a, b⟩ := s
  have hb0 : Below w.heap.size w (w.alloc (.cells #[.int .i64 kd, .string ⟨tx.toArray⟩, .int .i64 a, .int .i64 b] 52)) := (Below.refl _ w).alloc (Nat.le_refl _) _
  have hr0 := heap_alloc_new w (.cells #[.int .i64 kd, .string ⟨tx.toArray⟩, .int .i64 a, .int .i64 b] 52)
  have c0 := cell_of_row _ _ 0 _ _ _ hr0
  have c1 := cell_of_row _ _ 1 _ _ _ hr0
  have c2 := cell_of_row _ _ 2 _ _ _ hr0
  have c3 := cell_of_row _ _ 3 _ _ _ hr0
  have HCU := Lib.hid (fun w => bcut_any tx 200 w (by omega))
  have HB0 := Lib.hid hb0
  have hz0 := hz.below hb0
  unfold actcl
  dsimp only
  by_cases hk : kd = 1
  · by_cases hC0 : C = []
    · have ht : Sto.textP ⟨kd, tx, a, b⟩ C = Bk.cut tx 200 := by unfold Sto.textP; rw [if_neg (fun q => q.2 hC0)]
      rw [ht]
      subst hk
      obtain ⟨A, cap, rfl, _⟩ := hz
      have hl : C.length = 0 := by rw [hC0]; rfl
      rw [hl]
      clear hz0 hC h32 ht hC0 hl hb0 hr0
      go_enter Tryd.func19, Tryd.ntmps19
      go_wp2_with fail
      refine (HCU.out _).mono ?_
      rintro e w1 ⟨rfl, rfl⟩
      go_wp2
      go_ret
      exact ⟨rfl, HB0.out⟩
    · have h0 : 0 < C.length := List.length_pos_iff.2 hC0
      have ht : Sto.textP ⟨kd, tx, a, b⟩ C = [3, 128, 1] ++ Sto.placeOf a C ++ Sto.placeOf b C ++ [0] := by unfold Sto.textP; rw [if_pos ⟨hk, hC0⟩]
      subst hk
      have l1 := h32 _ (Sto.placeOf_mem a C h0)
      have l2 := h32 _ (Sto.placeOf_mem b C h0)
      rw [ht]
      obtain ⟨A, cap, rfl, -⟩ := hz
      obtain ⟨k1, p, e1, q1, hp, g1⟩ := hz0.place h0 a
      obtain ⟨k2, p', e2, q2, hp', g2⟩ := hz0.place h0 b
      obtain rfl : p = p' := by rw [hp] at hp'; simpa using hp'
      subst hp
      have HBa := Lib.hid (fun w => below_any a C.length w h0 (by omega))
      have HBb := Lib.hid (fun w => below_any b C.length w h0 (by omega))
      rw [e1] at HBa
      rw [e2] at HBb
      obtain ⟨x, hx⟩ : ∃ x, Sto.placeOf a C = x := ⟨_, rfl⟩
      obtain ⟨y, hy⟩ : ∃ y, Sto.placeOf b C = y := ⟨_, rfl⟩
      rw [hx] at g1 l1 ⊢
      rw [hy] at g2 l2 ⊢
      have d1 := cat_mk [3, 128, 1] x
      have d2 := cat_mk ([3, 128, 1] ++ x) y
      have d3 := cat_mk (([3, 128, 1] ++ x) ++ y) [0]
      have hn0 : ((C.length : Int) == 0) = false := by rw [beq_eq_false_iff_ne]; omega
      have u1 : (0 : Int) ≤ (k1 : Int) := by omega
      have u2 : (k1 : Int) < (C.length : Int) := by omega
      have u3 : (0 : Int) ≤ (k2 : Int) := by omega
      have u4 : (k2 : Int) < (C.length : Int) := by omega
      clear hz0 hC h32 ht hC0 hb0 hr0 e1 e2 hx hy q1 q2 h0
      go_enter Tryd.func19, Tryd.ntmps19
      go_wp2
      go_quiet ((first | (go_at_call_of 12 (Value.int .i64 a); exact Calls.quiet_of_same (HBa.out _)) | (go_at_call 12; exact Calls.quiet_of_same (HBb.out _))))
      go_wp2
      go_ret
      exact ⟨rfl, bel_drewN HB0.out _⟩
  · have hkd : (kd != 1) = true := by simpa using hk
    have ht : Sto.textP ⟨kd, tx, a, b⟩ C = Bk.cut tx 200 := by unfold Sto.textP; rw [if_neg (fun q => hk q.1)]
    rw [ht]
    clear hz0 hC h32 ht hz hb0 hr0
    go_enter Tryd.func19, Tryd.ntmps19
    go_wp2_with fail
    refine (HCU.out _).mono ?_
    rintro e w1 ⟨rfl, rfl⟩
    go_wp2
    go_ret
    exact ⟨rfl, HB0.out⟩
end Go.Proofs.YtgbcilokeiengaaDoor
namespace Go.Proofs.YtgbcilokeiengaaDoor.Nib

end Go.Proofs.YtgbcilokeiengaaDoor.Nib
namespace Go.Proofs.YtgbcilokeiengaaDoor.Nib

theorem ofL_cons (b : UInt8) (t : List UInt8) : ofL (b :: t) = b / 16 :: b % 16 :: ofL t := by simp [ofL]
end Go.Proofs.YtgbcilokeiengaaDoor.Nib
namespace Go.Proofs.YtgbcilokeiengaaDoor.Nib

theorem halves_join (b : UInt8) : b / 16 * 16 + b % 16 = b := by
  rw [← UInt8.toNat_inj]
  have := b.toNat_lt
  simp [UInt8.toNat_add, UInt8.toNat_mul]
  omega
theorem join_of (l : List UInt8) : joinL (ofL l) = l := by
  induction l with
  | nil => rfl
  | cons b t ih => rw [ofL_cons, joinL_two, ih, halves_join]
theorem fit_of (l : List UInt8) : fitL (ofL l) = true := by
  induction l with
  | nil => rfl
  | cons b t ih =>
    rw [ofL_cons]
    have h1 : (b / 16).toNat ≤ 15 := by have := b.toNat_lt; simp; omega
    have h2 : (b % 16).toNat ≤ 15 := by simp; omega
    unfold fitL at ih ⊢
    simp only [List.all_cons, ih, Bool.and_true, Bool.and_eq_true, decide_eq_true_eq]
    exact ⟨h1, h2⟩
theorem join_div (a b : UInt8) (ha : a.toNat ≤ 15) (hb : b.toNat ≤ 15) : (a * 16 + b) / 16 = a := by
  rw [← UInt8.toNat_inj]; simp [UInt8.toNat_add, UInt8.toNat_mul]; omega
theorem join_mod (a b : UInt8) (_ha : a.toNat ≤ 15) (hb : b.toNat ≤ 15) : (a * 16 + b) % 16 = b := by
  rw [← UInt8.toNat_inj]; simp [UInt8.toNat_add, UInt8.toNat_mul]; omega
theorem of_join (l : List UInt8) (hf : fitL l = true) (he : l.length % 2 = 0) : ofL (joinL l) = l := by
  match l, hf, he with
  | [], _, _ => rfl
  | [_], _, he => simp at he
  | a :: b :: t, hf, he =>
    have ha := fitL_get (a :: b :: t) hf 0 (by simp)
    have hb := fitL_get (a :: b :: t) hf 1 (by simp)
    simp at ha hb
    rw [joinL_two, ofL_cons, join_div a b ha hb, join_mod a b ha hb, of_join t (fitL_tail b t (fitL_tail a (b :: t) hf)) (by simp at he; omega)]

theorem unpack_pack (p : List UInt8) (leaf : Bool) (hf : fitL p = true) : unpackL (packL p leaf) = some (p, leaf) := by
  rcases Nat.mod_two_eq_zero_or_one p.length with h | h
  · rw [packL_even p leaf h]
    cases leaf
    · rw [if_neg (by simp), unpackL_even _ _ (by decide) (by decide), of_join p hf h]; rfl
    · rw [if_pos rfl, unpackL_even _ _ (by decide) (by decide), of_join p hf h]; rfl
  · match p, hf, h with
    | a :: t, hf, h =>
      have ht : t.length % 2 = 0 := by simp at h; omega
      have ha := fitL_get (a :: t) hf 0 (by simp)
      simp at ha
      rw [packL_odd a t leaf ht]
      cases leaf
      · rw [if_neg (by simp)]
        have e : (16 + a).toNat = 16 + a.toNat := by simp [UInt8.toNat_add]; omega
        have em : (16 + a) % 16 = a := by rw [← UInt8.toNat_inj]; simp [UInt8.toNat_add]; omega
        rw [unpackL_odd _ _ (by simp [mayL, e]; omega) (by rw [e]; omega), of_join t (fitL_tail a t hf) ht, em, e]
        simp; omega
      · rw [if_pos rfl]
        have e : (48 + a).toNat = 48 + a.toNat := by simp [UInt8.toNat_add]; omega
        have em : (48 + a) % 16 = a := by rw [← UInt8.toNat_inj]; simp [UInt8.toNat_add]; omega
        rw [unpackL_odd _ _ (by simp [mayL, e]; omega) (by rw [e]; omega), of_join t (fitL_tail a t hf) ht, em, e]
        simp; omega
theorem packL_length (p : List UInt8) (leaf : Bool) : (packL p leaf).length = p.length / 2 + 1 := by
  rcases Nat.mod_two_eq_zero_or_one p.length with h | h
  · rw [packL_even p leaf h]; simp [joinL_length]
  · match p, h with
    | a :: t, h =>
      rw [packL_odd a t leaf (by simp at h; omega)]; simp [joinL_length]; simp at h; omega
theorem unpackL_may (b : UInt8) (t p : List UInt8) (is : Bool) (h : unpackL (b :: t) = some (p, is)) : mayL b = true := by
  rcases hm : mayL b with _ | _
  · rw [unpackL_bad b t hm] at h; cases h
  · rfl
theorem fit_cons (a : UInt8) (t : List UInt8) (ha : a.toNat ≤ 15) (h : fitL t = true) : fitL (a :: t) = true := by
  unfold fitL at *; rw [List.all_cons, h]; simpa using ha
theorem unpack_fit (s p : List UInt8) (is : Bool) (h : unpackL s = some (p, is)) : fitL p = true ∧ packL p is = s := by
  match s, h with
  | b :: t, h =>
    have hm := unpackL_may b t p is h
    have hle := mayL_le b hm
    rcases Nat.mod_two_eq_zero_or_one (b.toNat / 16) with h1 | h1
    · rw [unpackL_even b t hm h1] at h
      simp only [Option.some.injEq, Prod.mk.injEq] at h
      obtain ⟨rfl, rfl⟩ := h
      refine ⟨fit_of t, ?_⟩
      rw [packL_even _ _ (by rw [ofL_length]; omega), join_of]
      congr 1
      rw [← UInt8.toNat_inj]
      by_cases h2 : 2 ≤ b.toNat / 16
      · simp [h2]; omega
      · simp [h2]; omega
    · rw [unpackL_odd b t hm h1] at h
      simp only [Option.some.injEq, Prod.mk.injEq] at h
      obtain ⟨rfl, rfl⟩ := h
      refine ⟨fit_cons _ _ (by simp; omega) (fit_of t), ?_⟩
      rw [packL_odd _ _ _ (by rw [ofL_length]; omega), join_of]
      congr 1
      rw [← UInt8.toNat_inj]
      by_cases h2 : 2 ≤ b.toNat / 16
      · simp [h2, UInt8.toNat_add]; omega
      · simp [h2, UInt8.toNat_add]; omega
end Go.Proofs.YtgbcilokeiengaaDoor.Nib
