/- TriMem, TriParts, TriSplit, TriNarrow, TriNode -/
import Derived.Test.YtkdecmijnojhoaaDoorPk03
import Derived.Test.YtkdecmijnojhoaaDoorPk06
import Derived.Test.YtkdecmijnojhoaaDoorPk01
import Derived.Deep.RegionHeld3
import Derived.Test.YtkdecmijnojhoaaDoorPk05
namespace Go.Proofs.YtkdecmijnojhoaaDoor
open Go.RowKit
open Go.Proofs.YtkdecmijnojhoaaDoor.Nd (N)
namespace Tri
open Sto (T)
def Tr.kind : Tr → Nat
  | .nil => 0
  | .leaf _ _ => 1
  | .ext _ _ => 2
  | .br _ _ => 3
def Tr.pth : Tr → T
  | .leaf p _ => p
  | .ext p _ => p
  | _ => []
def Tr.vl : Tr → T
  | .leaf _ v => v
  | .br v _ => v
  | _ => []
def Tr.kid : Tr → Fin 16 → Tr
  | .ext _ t, i => if i = 0 then t else .nil
  | .br _ k, i => k i
  | _, _ => .nil
theorem kid_ind {P : Tr → Prop} (h0 : P .nil) (h : ∀ t : Tr, ¬ t.isNil → (∀ i, P (t.kid i)) → P t) (t : Tr) : P t := by
  induction t with
  | nil => exact h0
  | leaf p v => exact h _ id fun i => h0
  | ext p t ih =>
    refine h _ id fun i => ?_
    simp only [Tr.kid]
    split
    · exact ih
    · exact h0
  | br v k ih => exact h _ id ih
theorem kid_ext {t u : Tr} (h1 : t.kind = u.kind) (h2 : t.pth = u.pth) (h3 : t.vl = u.vl) (h4 : ∀ i, t.kid i = u.kid i) : t = u := by
  cases t <;> cases u <;> simp_all [Tr.kind, Tr.pth, Tr.vl, Tr.kid]
  · have := h4 0
    simpa using this
  · funext i; exact h4 i
theorem rep_ofFn (a : T) : a :: List.replicate 15 [] = List.ofFn fun i : Fin 16 => if i = 0 then a else [] := by
  simp [List.ofFn_succ, List.replicate]
theorem rep_ofFn0 : List.replicate 16 ([] : T) = List.ofFn fun _ : Fin 16 => [] := by simp [List.ofFn_succ, List.replicate]
theorem node_kid (dg : N → T) {t : Tr} (h : ¬ t.isNil) : t.node dg = ⟨t.kind, t.pth, t.vl, List.ofFn fun i => (t.kid i).sum dg⟩ := by
  cases t with
  | nil => exact absurd trivial h
  | leaf p v => simp only [Tr.node, Tr.kind, Tr.pth, Tr.vl, Tr.kid, Tr.sum, rep_ofFn0]; rfl
  | ext p t =>
    simp only [Tr.node, Tr.kind, Tr.pth, Tr.vl, rep_ofFn]
    congr 2
    funext i
    simp only [Tr.kid]
    split <;> rfl
  | br v k => rfl
theorem kind_nil {t : Tr} : t.kind = 0 ↔ t.isNil := by cases t <;> simp [Tr.kind, Tr.isNil]
theorem kid_canon {t : Tr} (h : t.canon) (i : Fin 16) : (t.kid i).canon := by
  cases t with
  | nil => trivial
  | leaf p v => trivial
  | ext p t =>
    simp only [Tr.kid]; split
    · exact h.2.2
    · trivial
  | br v k => exact h.1 i
theorem kid_fits {t : Tr} (h : t.fits) (i : Fin 16) : (t.kid i).fits := by
  cases t with
  | nil => trivial
  | leaf p v => trivial
  | ext p t =>
    simp only [Tr.kid]; split
    · exact h.2
    · trivial
  | br v k => exact h i
theorem kid_small {t : Tr} (h : t.small) (i : Fin 16) : (t.kid i).small := by
  cases t with
  | nil => trivial
  | leaf p v => trivial
  | ext p t =>
    simp only [Tr.kid]; split
    · exact h.2
    · trivial
  | br v k => exact h.2 i
/-- What may be a node of a trie. -/
structure Ok (t : Tr) : Prop where
  canon : t.canon
  fits : t.fits
  small : t.small
theorem Ok.kid {t : Tr} (h : Ok t) (i : Fin 16) : Ok (t.kid i) := ⟨kid_canon h.canon i, kid_fits h.fits i, kid_small h.small i⟩
theorem sumS_len (n : N) (_ : n.kids.length = 16) (h : Nd.fine n = true) : (Nd.sumS n).length = 32 := by
  unfold Nd.sumS
  rw [if_pos h]
  rw [Dig.sum, if_pos (by decide)]; exact Sha.sumP_length _
theorem Ok.fine {t : Tr} (h : Ok t) (hn : ¬ t.isNil) : Nd.fine (t.node Nd.sumS) = true := node_fine Nd.sumS sumS_len h.canon h.fits h.small hn
theorem Ok.sum_len {t : Tr} (h : Ok t) (hn : ¬ t.isNil) : (t.sum Nd.sumS).length = 32 := by
  rw [sum_node _ hn]
  exact sumS_len _ (node_kids _ _) (h.fine hn)
theorem Ok.sum_ne {t : Tr} (h : Ok t) (hn : ¬ t.isNil) : t.sum Nd.sumS ≠ [] := fun e => by have := h.sum_len hn; rw [e] at this; cases this
end Tri
open Sto (T)
open Tri (Tr Ok)

abbrev Ks := Fin 16 → Value
def nilp : Value := .pointer none
def ptr (g : Nat) : Value := .pointer (some ⟨g, 0, none⟩)
theorem ptr_inj {a b : Nat} (h : ptr a = ptr b) : a = b := by
  unfold ptr at h
  injection h with h; injection h with h; injection h
def pcl (kind : Nat) (p x : T) (K : Ks) (s : T) : List Value := .int .i64 kind :: .string ⟨p.toArray⟩ :: .string ⟨x.toArray⟩ :: (List.ofFn K ++ [.string ⟨s.toArray⟩])
theorem pcl_length (kind : Nat) (p x : T) (K : Ks) (s : T) : (pcl kind p x K s).length = 20 := by simp [pcl]
theorem ofFn_injV {f g : Ks} (h : List.ofFn f = List.ofFn g) : f = g := by
  funext i
  have := List.getElem_of_eq h (i := i.val) (by rw [List.length_ofFn]; exact i.isLt)
  rwa [List.getElem_ofFn, List.getElem_ofFn] at this
theorem pcl_inj {k k' : Nat} {p p' x x' s s' : T} {K K' : Ks} (h : pcl k p x K s = pcl k' p' x' K' s') : k = k' ∧ p = p' ∧ x = x' ∧ K = K' ∧ s = s' := by
  unfold pcl at h
  obtain ⟨h1, h⟩ := List.cons.inj h
  obtain ⟨h2, h⟩ := List.cons.inj h
  obtain ⟨h3, h⟩ := List.cons.inj h
  obtain ⟨h4, h⟩ := List.append_inj h (by simp)
  refine ⟨?_, str_inj h2, str_inj h3, ofFn_injV h4, str_inj (List.cons.inj h).1⟩
  injection h1 with _ h1
  exact Int.ofNat_inj.1 h1
/-- A part in a block. -/
def RowP (w : World) (g kind : Nat) (p x : T) (K : Ks) (s : T) : Prop := w.heap[g]? = some (.cells (pcl kind p x K s).toArray 61 (0, 0))
theorem RowP.inj {w : World} {g k k' : Nat} {p p' x x' s s' : T} {K K' : Ks} (h : RowP w g k p x K s) (h' : RowP w g k' p' x' K' s') : k = k' ∧ p = p' ∧ x = x' ∧ K = K' ∧ s = s' := by
  unfold RowP at h h'
  rw [h] at h'
  injection h' with h'; injection h' with h'
  exact pcl_inj (List.toArray_inj h')
/-- Which blocks a tree's parts may lie in: true of one that has its sum. -/
abbrev Fm := Bool → Nat → Prop
/-- What has no sum yet is new from B on. -/
def Fm.from (B : Nat) : Fm := fun s g => s = false → B ≤ g
def Fm.off (F : Fm) (q : Nat) : Fm := fun s g => F s g ∧ g ≠ q
def Blk (w : World) (F : Fm) (s : Bool) (kind : Nat) (p x sum : T) (v : Value) (R : Bool → Ks → Prop) : Prop :=
  ∃ g s' K, v = ptr g ∧ (s = true → s' = true) ∧ F s' g ∧ RowP w g kind p x K (if s' then sum else []) ∧ R s' K
/-- A tree in memory: what has its sum, has those below it. s: all have theirs. -/
def PAt (w : World) (F : Fm) : Bool → Tr → Value → Prop
  | _, .nil, v => v = nilp
  | s, .leaf p x, v => Blk w F s 1 p x (Tr.sum Nd.sumS (.leaf p x)) v fun _ K => ∀ i, K i = nilp
  | s, .ext p t, v => Blk w F s 2 p [] (Tr.sum Nd.sumS (.ext p t)) v fun s' K => PAt w F s' t (K 0) ∧ ∀ i, i ≠ 0 → K i = nilp
  | s, .br x k, v => Blk w F s 3 [] x (Tr.sum Nd.sumS (.br x k)) v fun s' K => ∀ i, PAt w F s' (k i) (K i)
theorem Blk.imp {w w' : World} {F F' : Fm} {s s2 : Bool} {kind : Nat} {p x sum : T} {v : Value} {R R' : Bool → Ks → Prop} (h : Blk w F s kind p x sum v R) (hs : s2 = true → s = true) (hF : ∀ s g, g < w.heap.size → F s g → F' s g) (hw : ∀ g K s' s2, F s2 g → RowP w g kind p x K s' → RowP w' g kind p x K s') (hR : ∀ s' K, R s' K → R' s' K) : Blk w' F' s2 kind p x sum v R' := by
  obtain ⟨g, s', K, rfl, h1, h2, h3, h4⟩ := h
  exact ⟨g, s', K, rfl, fun h => h1 (hs h), hF _ _ (lt_of_heap h3) h2, hw _ _ _ _ h2 h3, hR _ _ h4⟩
theorem PAt.nil (w : World) (F : Fm) (s : Bool) : PAt w F s .nil nilp := rfl
theorem PAt.iff {w : World} {F : Fm} {s : Bool} {t : Tr} {v : Value} (h : ¬ t.isNil) : PAt w F s t v ↔ Blk w F s t.kind t.pth t.vl (t.sum Nd.sumS) v fun s' K => ∀ i, PAt w F s' (t.kid i) (K i) := by
  cases t with
  | nil => exact absurd trivial h
  | leaf p x => exact Iff.rfl
  | ext p t =>
    constructor
    · intro h
      refine Blk.imp h id (fun _ _ _ h => h) (fun _ _ _ _ _ h => h) fun s' K hk i => ?_
      simp only [Tri.Tr.kid]
      split
      · rename_i e; rw [e]; exact hk.1
      · rename_i e; exact hk.2 i e
    · intro h
      refine Blk.imp h id (fun _ _ _ h => h) (fun _ _ _ _ _ h => h) fun s' K hk => ⟨?_, fun i hi => ?_⟩
      · have := hk 0
        simpa [Tri.Tr.kid] using this
      · have := hk i
        simp only [Tri.Tr.kid, if_neg hi] at this
        exact this
  | br x k => exact Iff.rfl
theorem PAt.row {w : World} {F : Fm} {s : Bool} {t : Tr} {v : Value} (h : PAt w F s t v) (hn : ¬ t.isNil) : ∃ g s' K, v = ptr g ∧ (s = true → s' = true) ∧ F s' g ∧ RowP w g t.kind t.pth t.vl K (if s' then t.sum Nd.sumS else []) ∧ ∀ i, PAt w F s' (t.kid i) (K i) := (PAt.iff hn).1 h
theorem PAt.change {w w' : World} {F F' : Fm} (hF : ∀ s g, g < w.heap.size → F s g → F' s g) (hw : ∀ g k p x K s s2, F s2 g → RowP w g k p x K s → RowP w' g k p x K s) {s : Bool} {t : Tr} {v : Value} (h : PAt w F s t v) : PAt w' F' s t v := by
  induction t using Tri.kid_ind generalizing s v with
  | h0 => exact h
  | h t hn ih => exact (PAt.iff hn).2 (Blk.imp ((PAt.iff hn).1 h) id hF (fun _ _ _ _ => hw _ _ _ _ _ _ _) fun s' K hk i => ih i (hk i))
theorem RowP.below {w w' : World} {g k : Nat} {p x s : T} {K : Ks} (h : RowP w g k p x K s) (hb : Below w.heap.size w w') : RowP w' g k p x K s := (hb.block g (lt_of_heap h)).trans h
theorem PAt.below {w w' : World} {F : Fm} {s : Bool} {t : Tr} {v : Value} (h : PAt w F s t v) (hb : Below w.heap.size w w') : PAt w' F s t v := h.change (fun _ _ _ h => h) fun _ _ _ _ _ _ _ _ h => h.below hb
theorem PAt.imp {w : World} {F F' : Fm} {s : Bool} {t : Tr} {v : Value} (h : PAt w F s t v) (hF : ∀ s g, g < w.heap.size → F s g → F' s g) : PAt w F' s t v := h.change hF fun _ _ _ _ _ _ _ _ h => h
/-- What was there lies not in a block that is new. -/
theorem PAt.new_off {w : World} {F : Fm} {s : Bool} {t : Tr} {v : Value} (h : PAt w F s t v) {q : Nat} (hq : w.heap.size ≤ q) : PAt w (F.off q) s t v := h.imp fun _ g hg hf => ⟨hf, by omega⟩
theorem PAt.on {w : World} {F : Fm} {q : Nat} {s : Bool} {t : Tr} {v : Value} (h : PAt w (F.off q) s t v) : PAt w F s t v := h.imp fun _ _ _ h => h.1
/-- A store into a block that the tree does not lie in. -/
theorem PAt.off {w : World} {F : Fm} {q : Nat} {s : Bool} {t : Tr} {v : Value} (h : PAt w (F.off q) s t v) (i : Nat) (u : Value) : PAt (w.setCell ⟨q, i, none⟩ u) F s t v :=
  h.change (fun _ _ _ h => h.1) fun g _ _ _ _ _ _ hf hr => (Below.heap_setCell _ ⟨q, i, none⟩ _ g hf.2).trans hr
/-- What has its sums may be told of other blocks, and as what may have none. -/
theorem PAt.sealed {w : World} {F F' : Fm} {t : Tr} {v : Value} (h : PAt w F true t v) (hF : ∀ g, F true g → F' true g) (s : Bool) : PAt w F' s t v := by
  induction t using Tri.kid_ind generalizing s v with
  | h0 => exact h
  | h t hn ih =>
    obtain ⟨g, s', K, rfl, h1, h2, h3, h4⟩ := h.row hn
    obtain rfl := h1 rfl
    exact (PAt.iff hn).2 ⟨g, true, K, rfl, fun _ => rfl, hF _ h2, h3, fun i => ih i (h4 i) true⟩
theorem PAt.weak {w : World} {F : Fm} {s : Bool} {t : Tr} {v : Value} (h : PAt w F s t v) : PAt w F false t v := by
  cases s with
  | false => exact h
  | true => exact h.sealed (fun _ h => h) false
theorem PAt.isNil {w : World} {F : Fm} {s : Bool} {t : Tr} (h : PAt w F s t nilp) : t.isNil := by
  refine Classical.byContradiction fun hn => ?_
  obtain ⟨g, _, _, e, _⟩ := h.row hn
  unfold nilp ptr at e
  injection e with e; cases e
theorem PAt.one {w : World} {F F' : Fm} {s s' : Bool} {t u : Tr} {v : Value} (h : PAt w F s t v) (h' : PAt w F' s' u v) : t = u := by
  induction t using Tri.kid_ind generalizing s s' v u with
  | h0 =>
    have e : v = nilp := h
    subst e
    exact (Tri.isNil_eq h'.isNil).symm
  | h t hn ih =>
    obtain ⟨g, a, K, e, _, _, r1, k1⟩ := h.row hn
    have hu : ¬ u.isNil := fun hu => by
      rw [Tri.isNil_eq hu] at h'
      have e2 : v = nilp := h'
      rw [e] at e2
      unfold nilp ptr at e2
      injection e2 with e2; cases e2
    obtain ⟨g', a', K', e', _, _, r2, k2⟩ := h'.row hu
    obtain rfl := ptr_inj (e.symm.trans e')
    obtain ⟨q1, q2, q3, rfl, _⟩ := r1.inj r2
    exact Tri.kid_ext q1 q2 q3 fun i => ih i (k1 i) (k2 i)
theorem pcl_set (k : Nat) (p x : T) (K : Ks) (s s' : T) : (pcl k p x K s).toArray.setIfInBounds 19 (.string ⟨s'.toArray⟩) = (pcl k p x K s').toArray := by
  rw [List.setIfInBounds_toArray]
  simp [pcl, List.ofFn_succ]
theorem RowP.seal {w : World} {g k : Nat} {p x s : T} {K : Ks} (h : RowP w g k p x K s) (s' : T) : RowP (w.setCell ⟨g, 19, none⟩ (.string ⟨s'.toArray⟩)) g k p x K s' := by
  have := heap_setCell_same _ _ 19 _ _ (.string ⟨s'.toArray⟩) h
  rw [pcl_set] at this
  exact this
/-- A part whose kids have their sums gets its own: no tree is another one by it. -/
theorem PAt.seals {w : World} {F : Fm} {g : Nat} {t : Tr} {K : Ks} {sx : T} (hF : ∀ s g, F s g → F true g) (hr : RowP w g t.kind t.pth t.vl K sx) (hk : ∀ i, PAt w F true (t.kid i) (K i)) {s : Bool} {u : Tr} {v : Value} (h : PAt w F s u v) :
    PAt (w.setCell ⟨g, 19, none⟩ (.string ⟨(t.sum Nd.sumS).toArray⟩)) F s u v := by
  induction u using Tri.kid_ind generalizing s v with
  | h0 => exact h
  | h u hu ih =>
    obtain ⟨g', s', K', rfl, h1, h2, h3, h4⟩ := h.row hu
    by_cases e : g' = g
    · subst e
      obtain ⟨q1, q2, q3, rfl, q5⟩ := hr.inj h3
      have htu : t = u := Tri.kid_ext q1 q2 q3 fun i => (hk i).one (h4 i)
      subst htu
      refine (PAt.iff hu).2 ⟨g', true, K, rfl, fun _ => rfl, hF _ _ h2, hr.seal _, fun i => ih i (hk i)⟩
    · refine (PAt.iff hu).2 ⟨g', s', K', rfl, h1, h2, ?_, fun i => ih i (h4 i)⟩
      exact (Below.heap_setCell _ ⟨g, 19, none⟩ _ g' e).trans h3
theorem PAt.seal {w : World} {F : Fm} {g : Nat} {t : Tr} {K : Ks} {sx : T} (hF : ∀ s g, F s g → F true g) (hg : F true g) (hn : ¬ t.isNil) (hr : RowP w g t.kind t.pth t.vl K sx) (hk : ∀ i, PAt w F true (t.kid i) (K i)) :
    PAt (w.setCell ⟨g, 19, none⟩ (.string ⟨(t.sum Nd.sumS).toArray⟩)) F true t (ptr g) :=
  (PAt.iff hn).2 ⟨g, true, K, rfl, fun _ => rfl, hg, hr.seal _, fun i => PAt.seals hF hr hk (hk i)⟩
theorem RowP.cell {w : World} {g k : Nat} {p x s : T} {K : Ks} (h : RowP w g k p x K s) (i : Nat) : w.cell? ⟨g, i, none⟩ = (pcl k p x K s)[i]? := by
  rw [cell_of_row w g i _ _ _ h, List.getElem?_toArray]
theorem RowP.kind {w : World} {g k : Nat} {p x s : T} {K : Ks} (h : RowP w g k p x K s) : w.cell? ⟨g, 0, none⟩ = some (.int .i64 k) := h.cell 0
theorem RowP.path {w : World} {g k : Nat} {p x s : T} {K : Ks} (h : RowP w g k p x K s) : w.cell? ⟨g, 1, none⟩ = some (.string ⟨p.toArray⟩) := h.cell 1
theorem RowP.val {w : World} {g k : Nat} {p x s : T} {K : Ks} (h : RowP w g k p x K s) : w.cell? ⟨g, 2, none⟩ = some (.string ⟨x.toArray⟩) := h.cell 2
theorem RowP.kid {w : World} {g k : Nat} {p x s : T} {K : Ks} (h : RowP w g k p x K s) (i : Fin 16) : w.cell? ⟨g, 3 + i.val, none⟩ = some (K i) := by
  have hi := i.isLt
  rw [h.cell (3 + i.val), Nat.add_comm 3 i.val]
  show (List.ofFn K ++ [.string ⟨s.toArray⟩])[i.val]? = _
  rw [List.getElem?_append_left (by simp), List.getElem?_ofFn, dif_pos hi]
theorem RowP.sum {w : World} {g k : Nat} {p x s : T} {K : Ks} (h : RowP w g k p x K s) : w.cell? ⟨g, 19, none⟩ = some (.string ⟨s.toArray⟩) := by
  rw [h.cell 19]
  show (List.ofFn K ++ [.string ⟨s.toArray⟩])[16]? = _
  rw [List.getElem?_append_right (by simp)]
  simp
end Go.Proofs.YtkdecmijnojhoaaDoor
namespace Go.Proofs.YtkdecmijnojhoaaDoor
open Go.RowKit
open Sto (T)
open Tri (Tr Ok upd ix hb lay splitT)

def noK : Ks := fun _ => nilp
theorem RowP.new {w : World} {k : Nat} {p x s : T} {K : Ks} {C : Array Value} (h : C = (pcl k p x K s).toArray) : RowP (w.alloc (.cells C 61)) w.heap.size k p x K s := by
  subst h; exact heap_new_at w _ _ rfl
/-- A new part, as it may stand in a tree. -/
theorem PAt.new {w' : World} {F : Fm} {g : Nat} {t : Tr} {K : Ks} (hn : ¬ t.isNil) (hB : F false g) (hr : RowP w' g t.kind t.pth t.vl K []) (hk : ∀ i, PAt w' F false (t.kid i) (K i)) : PAt w' F false t (ptr g) :=
  (PAt.iff hn).2 ⟨g, false, K, rfl, (fun h => by cases h), hB, hr, hk⟩
/-- Any new block may be of a tree. -/
def Fm.fresh (F : Fm) (w : World) : Prop := ∀ g, w.heap.size ≤ g → F false g
theorem Fm.fresh.size {F : Fm} {w w' : World} (h : F.fresh w) (hs : w.heap.size ≤ w'.heap.size) : F.fresh w' := fun g hg => h g (Nat.le_trans hs hg)
theorem Fm.fresh.off {F : Fm} {w : World} (h : F.fresh w) {q : Nat} (hq : q < w.heap.size) : (F.off q).fresh w := fun g hg => ⟨h g hg, by omega⟩
/-- What a call answers: a tree, its new parts without sums. -/
def MadeT (w : World) (F : Fm) (t : Tr) (e : Ending) (w' : World) : Prop := ∃ v, e = .returned v ∧ PAt w' F false t v ∧ Below w.heap.size w w'

set_option maxRecDepth 100000 in
theorem leaf_any (p x : T) (w : World) (F : Fm) (hB : F.fresh w) :
    Calls Tryd.prog 45 #[.string ⟨p.toArray⟩, .string ⟨x.toArray⟩] w (MadeT w F (.leaf p x)) := by
  unfold MadeT
  go_enter Tryd.func45, Tryd.ntmps45
  go_wp2
  go_ret
  refine ⟨_, rfl, PAt.new (K := noK) id (hB _ (Nat.le_refl _)) (RowP.new rfl) (fun i => rfl), (Below.refl _ w).alloc (Nat.le_refl _) _⟩

set_option maxRecDepth 100000 in
theorem half_any (i : Fin 16) (w : World) :
    Calls Tryd.prog 52 #[.int .i64 i.val] w fun e w' => e = .returned (.string ⟨[hb i].toArray⟩) ∧ Below w.heap.size w w' := by
  have hi := i.isLt
  have e1 : (i.val : Int) % 256 = (i.val : Int) := by omega
  have hc := conv_one' w (hb i) (i.val : Int) (by rw [Tri.hb_toNat]) w.heap.size rfl
  have h0 : (0 : Int) ≤ (i.val : Int) := by omega
  have h1 : (i.val : Int) ≤ 255 := by omega
  go_enter Tryd.func52, Tryd.ntmps52
  go_wp2
  go_ret
  exact ⟨rfl, (Below.refl _ w).alloc (Nat.le_refl _) _⟩
/-- The place of a kid. -/
def placeT (k : Nat) (e : T) (i : Fin 16) : T := if k = 3 then e ++ [hb i] else e
set_option maxRecDepth 100000 in
theorem place_any (k : Nat) (e : T) (i : Fin 16) (w : World) (he : e.length ≤ 1000) (hk : k ≤ 3) :
    Calls Tryd.prog 39 #[.int .i64 k, .string ⟨e.toArray⟩, .int .i64 i.val] w fun r w' => r = .returned (.string ⟨(placeT k e i).toArray⟩) ∧ Below w.heap.size w w' := by
  unfold placeT
  by_cases h : k = 3
  · subst h
    rw [if_pos rfl]
    have HH := Lib.hid (fun w => half_any i w)
    have hcm := cat_mk e [hb i]
    go_enter Tryd.func39, Tryd.ntmps39
    go_wp2_with fail
    refine (HH.out _).mono ?_
    rintro r w1 ⟨rfl, hb1⟩
    go_wp2
    go_ret
    exact ⟨rfl, hb1⟩
  · rw [if_neg h]
    have h1 : ¬ ((k : Int) = 3) := by omega
    have h2 : ((k : Int) == 3) = false := by rw [beq_eq_false_iff_ne]; exact h1
    go_enter Tryd.func39, Tryd.ntmps39
    go_wp2
    go_ret
    exact ⟨rfl, Below.refl _ _⟩
theorem pcl_load (k : Nat) (p x s : T) (K : Ks) : (Tryd.prog.info? 61).map (·.size) = some (pcl k p x K s).toArray.size := by
  rw [List.size_toArray, pcl_length]; kernel_rfl
theorem pcl_one (k : Nat) (p x s : T) (K : Ks) (hK : ∀ i, (K i).oneCell' = true) : (pcl k p x K s).toArray.all (·.oneCell') = true := by
  rw [← Array.all_toList, List.all_eq_true]
  intro v hv
  simp only [pcl, List.mem_cons, List.mem_append, List.mem_ofFn, List.not_mem_nil, or_false] at hv
  rcases hv with rfl | rfl | rfl | ⟨i, rfl⟩ | rfl
  · rfl
  · rfl
  · rfl
  · exact hK i
  · rfl
set_option maxRecDepth 100000 in
set_option maxHeartbeats 1000000 in
theorem open_any {g k : Nat} {p x s : T} {K : Ks} (w : World) (h : RowP w g k p x K s) (hK : ∀ i, (K i).oneCell' = true) :
    Calls Tryd.prog 46 #[ptr g] w fun r w' => r = .returned (ptr w.heap.size) ∧ RowP w' w.heap.size k p x K [] ∧ Below w.heap.size w w' := by
  have hi := pcl_load k p x s K
  have ho := pcl_one k p x s K hK
  have hset := pcl_set k p x K s []
  have hl : (pcl k p x K s).toArray.size = 20 := by rw [List.size_toArray, pcl_length]
  have hc : (pcl k p x K s).toArray[19]? = some (.string ⟨s.toArray⟩) := by
    have h1 : RowP w g k p x K s := h
    have h2 := h1.sum
    rw [cell_of_row w g 19 _ _ _ h] at h2
    exact h2
  unfold RowP at h ⊢
  unfold ptr
  generalize (pcl k p x K []).toArray = D at hset ⊢
  generalize (pcl k p x K s).toArray = C at h hi ho hset hl hc
  have hat : (w.alloc (.cells C 61)).heap[w.heap.size]? = some (.cells C 61 (0, 0)) := heap_alloc_new w _
  have hcell : (w.alloc (.cells C 61)).cell? ⟨w.heap.size, 19, none⟩ = some (.string ⟨s.toArray⟩) := by rw [cell_of_row _ _ 19 _ _ _ hat]; exact hc
  have hfr : (w.alloc (.cells C 61)).frozen? ⟨w.heap.size, 19, none⟩ = false := frozen_of_row _ _ _ _ _ hat
  have HR := Lib.hid h
  have HI := Lib.hid hi
  have HO := Lib.hid ho
  have HL := Lib.hid hl
  have HS := Lib.hid hset
  clear h hi ho hset hl hc hat
  go_enter Tryd.func46, Tryd.ntmps46
  go_wp2_with (first | (refine wpList_load_row (by rfl) _ _ (by rfl) g (by rfl) _ C _ _ HR.out Tryd.underlying61 (by rfl) HI.out ?_) | (refine wpList_store_fresh (by rfl) _ _ _ (by rfl) w.heap.size rfl C (by rfl) (by rfl) _ _ HI.out HL.out.symm HO.out ?_))
  go_ret
  exact ⟨rfl, by rw [HS.out]; exact heap_alloc_new w _, (Below.refl _ w).alloc (Nat.le_refl _) _⟩
theorem PAt.cellK {w : World} {F : Fm} {s : Bool} {t : Tr} {v : Value} (h : PAt w F s t v) : v = nilp ∨ ∃ g, v = ptr g := by
  by_cases hn : t.isNil
  · rw [Tri.isNil_eq hn] at h; exact Or.inl h
  · obtain ⟨g, _, _, e, _⟩ := h.row hn; exact Or.inr ⟨g, e⟩
theorem PAt.oneCell {w : World} {F : Fm} {s : Bool} {t : Tr} {v : Value} (h : PAt w F s t v) : v.oneCell' = true := by
  rcases h.cellK with rfl | ⟨g, rfl⟩ <;> rfl
def oneK (a : Value) : Ks := fun i => if i = 0 then a else nilp
theorem pcl_path (k : Nat) (p p' x : T) (K : Ks) (s : T) : (pcl k p x K s).toArray.setIfInBounds 1 (.string ⟨p'.toArray⟩) = (pcl k p' x K s).toArray := by
  rw [List.setIfInBounds_toArray]; rfl
theorem RowP.setPath {w : World} {g k : Nat} {p x s : T} {K : Ks} (h : RowP w g k p x K s) (p' : T) : RowP (w.setCell ⟨g, 1, none⟩ (.string ⟨p'.toArray⟩)) g k p' x K s := by
  have := heap_setCell_same _ _ 1 _ _ (.string ⟨p'.toArray⟩) h
  rw [pcl_path] at this
  exact this
theorem RowP.free {w : World} {g k : Nat} {p x s : T} {K : Ks} (h : RowP w g k p x K s) (i : Nat) : w.frozen? ⟨g, i, none⟩ = false := frozen_of_row _ _ _ _ _ h
theorem PAt.past {w w' : World} {F : Fm} {b : Nat} {s : Bool} {t : Tr} {v : Value} (h : PAt w F s t v) (hb : Below b w w') (hs : w.heap.size ≤ b) : PAt w' F s t v := h.below (hb.mono hs)
theorem lay_parts (p : T) {t : Tr} (hn : ¬ t.isNil) (h3 : t.kind ≠ 3) : (lay p t).kind = t.kind ∧ (lay p t).pth = p ++ t.pth ∧ (lay p t).vl = t.vl ∧ ∀ i, (lay p t).kid i = t.kid i := by
  cases t with
  | nil => exact absurd trivial hn
  | leaf q x => exact ⟨rfl, rfl, rfl, fun _ => rfl⟩
  | ext q u => exact ⟨rfl, rfl, rfl, fun _ => rfl⟩
  | br x k => exact absurd rfl h3
set_option maxRecDepth 100000 in
set_option maxHeartbeats 1000000 in
/-- A path laid above a tree. -/
theorem behind_any {t : Tr} {v : Value} (p : T) (w : World) (F : Fm) (hB : F.fresh w) (h : PAt w F false t v) (hp : p = [] ∨ ¬ t.isNil) (hpl : p.length ≤ 1000) (hql : t.pth.length ≤ 1000) :
    Calls Tryd.prog 49 #[v, .string ⟨p.toArray⟩] w (MadeT w F (lay p t)) := by
  unfold MadeT
  by_cases hp0 : p = []
  · subst hp0
    rw [Tri.lay_nil]
    have HP := Lib.hid h
    clear h hp
    go_enter Tryd.func49, Tryd.ntmps49
    go_wp2
    go_ret
    exact ⟨v, rfl, HP.out, Below.refl _ _⟩
  · have hn := hp.resolve_left hp0
    obtain ⟨g, s', K, rfl, -, h2, hr, hk⟩ := h.row hn
    have hpe : (p == []) = false := by rw [beq_eq_false_iff_ne]; exact hp0
    have HP := Lib.hid h
    have n0 := hr.kind
    by_cases h3 : t.kind = 3
    · have e3 : ((t.kind : Int) == 3) = true := by rw [h3]; rfl
      rw [h3] at n0
      have HL : Hid (lay p t = .ext p t) := Lib.hid (by
        cases t with
        | br x k => simp [lay, Tri.above, hp0]
        | _ => cases h3)
      unfold ptr
      clear h hp hr hk
      go_enter Tryd.func49, Tryd.ntmps49
      go_wp2
      go_ret
      rw [HL.out]
      refine ⟨_, rfl, ?_, (Below.refl _ w).alloc (Nat.le_refl _) _⟩
      refine PAt.new (K := oneK (ptr g)) id (hB _ (Nat.le_refl _)) (RowP.new rfl) fun i => ?_
      simp only [Tri.Tr.kid, oneK]
      split
      · exact HP.out.below ((Below.refl _ w).alloc (Nat.le_refl _) _)
      · rfl
    · have e3 : ((t.kind : Int) == 3) = false := by rw [beq_eq_false_iff_ne]; omega
      have HO := Lib.hid (open_any w hr (fun i => (hk i).oneCell))
      have n1 := hr.path
      have HL := Lib.hid (lay_parts p hn h3)
      have HKK := Lib.hid hk
      have HN := Lib.hid (Tri.lay_nn (p := p) hn)
      have HR := Lib.hid hr
      unfold ptr at HO ⊢
      obtain ⟨q, hq⟩ : ∃ q, t.pth = q := ⟨_, rfl⟩
      rw [hq] at n1 hql
      have HQ := Lib.hid hq
      have hcm := cat_mk p q
      obtain ⟨kd, hkd⟩ : ∃ kd, t.kind = kd := ⟨_, rfl⟩
      rw [hkd] at n0 e3
      have HKD := Lib.hid hkd
      clear h hp hr hk hq h2 hkd h3
      go_enter Tryd.func49, Tryd.ntmps49
      go_wp2_with fail
      refine HO.out.mono ?_
      rintro r w1 ⟨rfl, hr1, hb1⟩
      have m1 := hr1.path
      have m2 := hr1.free 1
      have m3 := HR.out.below hb1
      have m4 := m3.path
      rw [HQ.out] at m1 m4
      go_wp2
      go_ret
      obtain ⟨l1, l2, l3, l4⟩ := HL.out
      have hb2 := hb1.setCell (p := ⟨w.heap.size, 1, none⟩) (Nat.le_refl _) (.string ⟨(p ++ q).toArray⟩)
      refine ⟨_, rfl, PAt.new (K := K) HN.out (hB _ (Nat.le_refl _)) ?_ (fun i => ?_), hb2⟩
      · rw [l1, l2, l3, HQ.out]
        exact hr1.setPath _
      · rw [l4]
        exact ((HKK.out i).weak).below hb2
end Go.Proofs.YtkdecmijnojhoaaDoor
namespace Go.Proofs.YtkdecmijnojhoaaDoor
open Go.RowKit
open Sto (T)
open Tri (Tr Ok upd ix hb lay splitT)

theorem pcl_val (k : Nat) (p x x' : T) (K : Ks) (s : T) : (pcl k p x K s).toArray.setIfInBounds 2 (.string ⟨x'.toArray⟩) = (pcl k p x' K s).toArray := by
  rw [List.setIfInBounds_toArray]; rfl
theorem RowP.setVal {w : World} {g k : Nat} {p x s : T} {K : Ks} (h : RowP w g k p x K s) (x' : T) : RowP (w.setCell ⟨g, 2, none⟩ (.string ⟨x'.toArray⟩)) g k p x' K s := by
  have := heap_setCell_same _ _ 2 _ _ (.string ⟨x'.toArray⟩) h
  rw [pcl_val] at this
  exact this
/-- One of sixteen set. -/
def updK (K : Ks) (i : Fin 16) (v : Value) : Ks := fun j => if j = i then v else K j
theorem ofFn_set (K : Ks) (i : Fin 16) (v : Value) : (List.ofFn K).set i.val v = List.ofFn (updK K i v) := by
  refine List.ext_getElem (by simp) fun n h1 h2 => ?_
  rw [List.getElem_set, List.getElem_ofFn, List.getElem_ofFn]
  unfold updK
  by_cases e : i.val = n
  · rw [if_pos e, if_pos (Fin.ext e.symm)]
  · rw [if_neg e, if_neg (fun h => e (by rw [← h]))]
theorem pcl_kid (k : Nat) (p x : T) (K : Ks) (s : T) (i : Fin 16) (v : Value) : (pcl k p x K s).toArray.setIfInBounds (3 + i.val) v = (pcl k p x (updK K i v) s).toArray := by
  have hi := i.isLt
  rw [List.setIfInBounds_toArray]
  congr 1
  unfold pcl
  rw [Nat.add_comm 3 i.val]
  simp only [List.set_cons_succ]
  rw [List.set_append_left _ _ (by simp), ofFn_set]
theorem RowP.setKid {w : World} {g k : Nat} {p x s : T} {K : Ks} (h : RowP w g k p x K s) (i : Fin 16) (v : Value) : RowP (w.setCell ⟨g, 3 + i.val, none⟩ v) g k p x (updK K i v) s := by
  have := heap_setCell_same _ _ (3 + i.val) _ _ v h
  rw [pcl_kid] at this
  exact this
theorem ix_val {a : UInt8} (h : a.toNat ≤ 15) : (ix a).val = a.toNat := by simp only [ix]; omega
theorem byte_drop {p r : T} {n : Nat} {a : UInt8} (h : p.drop n = a :: r) : ∀ hh, (⟨p.toArray⟩ : ByteArray)[n]'hh = a := by
  intro hh
  have hl : n < p.length := by
    have := congrArg List.length h
    simp at this; omega
  show p.toArray[n]'_ = a
  rw [List.getElem_toArray]
  have := List.drop_eq_getElem_cons hl
  rw [h] at this
  exact (List.cons.inj this).1.symm
theorem tail_drop {p r : T} {n : Nat} {a : UInt8} (h : p.drop n = a :: r) : (⟨p.toArray⟩ : ByteArray).extract (n + 1) p.length = ⟨r.toArray⟩ := by
  rw [ext_drop]
  have : p.drop (n + 1) = r := by
    rw [← List.drop_drop, h]; rfl
  rw [this]

set_option maxRecDepth 100000 in
set_option maxHeartbeats 2000000 in
theorem split_any {t : Tr} {g : Nat} (n : Nat) (w : World) (F : Fm) (hB : F.fresh w) (h : PAt w F false t (ptr g)) (hk : t.kind = 1 ∨ t.kind = 2) (hf : t.firm) (hfit : t.fits) (hpl : t.pth.length ≤ 1000) (hn : n ≤ t.pth.length) (hne : t.kind = 2 → n < t.pth.length) :
    Calls Tryd.prog 48 #[ptr g, .int .i64 n] w (MadeT w F (splitT n t)) := by
  unfold MadeT
  have hnn : ¬ t.isNil := fun e => by rw [← Tri.kind_nil] at e; omega
  obtain ⟨g', s', K, e, -, -, hr, hkk⟩ := h.row hnn
  obtain rfl := ptr_inj e
  have hb0 : Below w.heap.size w (w.alloc (.cells (pcl 3 [] [] noK []).toArray 61)) := (Below.refl _ w).alloc (Nat.le_refl _) _
  have r1 : RowP (w.alloc (.cells (pcl 3 [] [] noK []).toArray 61)) w.heap.size 3 [] [] noK [] := RowP.new rfl
  have hr1 := hr.below hb0
  have n0 := hr1.kind
  have n1 := hr1.path
  have n2 := hr1.val
  have m2 := r1.val
  have f2 := r1.free 2
  have HP := Lib.hid h
  have HKK := Lib.hid hkk
  have HR := Lib.hid hr
  have HR1 := Lib.hid r1
  have HB0 := Lib.hid hb0
  obtain ⟨C, hC⟩ : ∃ C, (pcl 3 [] [] noK []).toArray = C := ⟨_, rfl⟩
  have HBL : Hid (Tryd.prog.built 61 [(0, .int .i64 3)] = some C) := Lib.hid (by rw [← hC]; kernel_rfl)
  rw [hC] at n0 n1 n2 m2 f2 HB0 HR1
  obtain ⟨p, hp⟩ : ∃ p, t.pth = p := ⟨_, rfl⟩
  obtain ⟨x, hx⟩ : ∃ x, t.vl = x := ⟨_, rfl⟩
  rw [hp] at n1 hpl hn hne
  rw [hx] at n2
  have HPP := Lib.hid hp
  have HX := Lib.hid hx
  by_cases hlt : n < p.length
  · obtain ⟨a, r, hd⟩ : ∃ a r, p.drop n = a :: r := ⟨_, _, List.drop_eq_getElem_cons hlt⟩
    have hfp : Nib.fitL p = true := by
      rcases hk with h1 | h1
      · cases t with
        | leaf q y => obtain rfl : q = p := hp; exact hfit
        | _ => cases h1
      · cases t with
        | ext q y => obtain rfl : q = p := hp; exact hfit.1
        | _ => cases h1
    have ha := (Tri.fit_cons.1 (hd ▸ Tri.fit_drop n hfp)).1
    have hbyte := byte_drop hd
    have htail := tail_drop hd
    have e2 : ((n : Int) == (p.length : Int)) = false := by rw [beq_eq_false_iff_ne]; omega
    have z1 : (0 : Int) ≤ (n : Int) := by omega
    have z2 : (n : Int) < (p.length : Int) := by omega
    have z3 : (0 : Int) ≤ (n : Int) + 1 := by omega
    have z4 : (n : Int) + 1 ≤ (p.length : Int) := by omega
    have z5 : ((n : Int) + 1).toNat = n + 1 := by omega
    have z8 : IntKind.i64.wrap ((n : Int) + 1) = (n : Int) + 1 := IntWalk.i64_in _ (by omega)
    have z6 : (0 : Int) ≤ (a.toNat : Int) := by omega
    have z7 : (a.toNat : Int) < 16 := by omega
    have HIX := Lib.hid (ix_val ha)
    have hrl : r.length ≤ 1000 := by have := congrArg List.length hd; simp at this; omega
    rcases hk with h1 | h1
    · rw [h1] at n0
      have HS : Hid (splitT n t = .br [] (upd Tri.bare (ix a) (.leaf r x))) := Lib.hid (by
        cases t with
        | leaf q y =>
          obtain rfl : q = p := hp
          obtain rfl : y = x := hx
          exact Tri.split_leaf1 hd
        | _ => cases h1)
      have HLF : Hid (∀ w', Below w.heap.size w w' → w.heap.size < w'.heap.size → Calls Tryd.prog 45 #[.string ⟨r.toArray⟩, .string ⟨x.toArray⟩] w' fun e w'' => ∃ v, e = .returned v ∧ PAt w'' (F.off w.heap.size) false (.leaf r x) v ∧ Below w'.heap.size w' w'') := Lib.hid (fun w' hb hs => (leaf_any r x w' _ ((hB.size hb.size).off hs)))
      unfold ptr
      clear h hr hkk hf hfit hp hx hne hn hlt hr1 r1 hb0 h1 hC hpl hfp ha hd m2 f2
      go_enter Tryd.func48, Tryd.ntmps48
      go_wp2_with (refine wpList_build_some (by rfl) _ _ (by rfl) [(0, .int .i64 3)] (by first | rfl | (simp [Act.eval]; done) | kernel_rfl) C HBL.out ?_)
      obtain ⟨q, hq⟩ : ∃ q, w.heap.size = q := ⟨_, rfl⟩
      have HQ := Lib.hid hq
      obtain ⟨w0, hw0⟩ : ∃ w0, w.alloc (.cells C 61) = w0 := ⟨_, rfl⟩
      rw [hw0] at HR1 HB0 n0 n1 n2 ⊢
      rw [hq] at HR1 ⊢
      have HSZ : Hid (w.heap.size < w0.heap.size) := Lib.hid (by rw [← hw0]; simp)
      have HN1 : Hid (∀ w', Below w0.heap.size w0 w' → w'.cell? ⟨g, 1, none⟩ = some (.string ⟨p.toArray⟩) ∧ w'.cell? ⟨g, 2, none⟩ = some (.string ⟨x.toArray⟩) ∧ w'.cell? ⟨q, 3 + a.toNat, none⟩ = some (.pointer none) ∧ w'.frozen? ⟨q, 3 + a.toNat, none⟩ = false) := Lib.hid (fun w' hb => by
        have k1 := (HR.out.below HB0.out).below hb
        have k2 := HR1.out.below hb
        refine ⟨by rw [k1.path, HPP.out], by rw [k1.val, HX.out], ?_, k2.free _⟩
        have := k2.kid (ix a)
        rw [HIX.out] at this
        exact this)
      have HGQ : Hid (g < q) := Lib.hid (by rw [← hq]; exact lt_of_heap HR.out)
      have HK1 : Hid (∀ w' v, Below w0.heap.size w0 w' → (w'.setCell ⟨q, 3 + a.toNat, none⟩ v).cell? ⟨g, 1, none⟩ = some (.string ⟨p.toArray⟩) ∧ (w'.setCell ⟨q, 3 + a.toNat, none⟩ v).cell? ⟨g, 2, none⟩ = some (.string ⟨x.toArray⟩)) := Lib.hid (fun w' v hb => ⟨keep_cell (HN1.out w' hb).1 (Nat.ne_of_lt HGQ.out), keep_cell (HN1.out w' hb).2.1 (Nat.ne_of_lt HGQ.out)⟩)
      have BD : Below w0.heap.size w0 w0.drew := (Below.refl _ _).drew
      have HLF2 : Hid (∀ w', Below w0.heap.size w0 w' → Calls Tryd.prog 45 #[.string ⟨r.toArray⟩, .string ⟨x.toArray⟩] w' fun e w'' => ∃ g6, e = .returned (.pointer (some ⟨g6, 0, none⟩)) ∧ PAt w'' (F.off q) false (.leaf r x) (ptr g6) ∧ Below w0.heap.size w0 w'') := Lib.hid (fun w' hb => (HLF.out w' (HB0.out.trans (hb.mono (Nat.le_of_lt HSZ.out))) (Nat.lt_of_lt_of_le HSZ.out hb.size)).mono fun e w'' ⟨v, e1, hp, hb2⟩ => by
        obtain ⟨g6, _, _, rfl, _⟩ := hp.row id
        exact ⟨g6, e1, by rw [← hq]; exact hp, hb.trans (hb2.mono hb.size)⟩)
      obtain ⟨c1, c2, c3, c4⟩ := HN1.out _ BD
      clear hq hw0 n0 n1 n2 HLF
      go_region_held3 (fun w' => w'.cell? ⟨g, 1, none⟩ = some (.string ⟨p.toArray⟩) ∧ w'.cell? ⟨g, 2, none⟩ = some (.string ⟨x.toArray⟩))
        ((first | (with_reducible exact ⟨c1, c2⟩) | (with_reducible exact ⟨d1, d2⟩) | (refine HK1.out _ _ ?_; with_reducible assumption)))
        ((go_at_call 45; refine (HLF2.out _ ?_).mono ?_; (with_reducible assumption); rintro e w6 ⟨g6, rfl, hp6, hb6⟩; obtain ⟨d1, d2, d3, d4⟩ := HN1.out _ hb6))
      all_goals
        go_wp2
        go_ret
        rw [HS.out]
        have hbq : Below w.heap.size w w6 := HB0.out.trans (hb6.mono (Nat.le_of_lt HSZ.out))
        refine ⟨_, rfl, PAt.new (K := updK noK (ix a) (ptr g6)) id (hB _ (Nat.le_of_eq HQ.out)) ?_ (fun i => ?_), hbq.setCell (p := ⟨q, _, none⟩) (Nat.le_of_eq HQ.out) _⟩
        · have := (HR1.out.below hb6).setKid (ix a) (ptr g6)
          rw [HIX.out] at this
          exact this
        · simp only [Tri.Tr.kid, updK, Tri.upd]
          split
          · exact hp6.off _ _
          · rfl
    · rw [h1] at n0
      obtain ⟨u, hu⟩ : ∃ u, t.kid 0 = u := ⟨_, rfl⟩
      have hub : u.isBr := by
        rw [← hu]
        cases t with
        | ext q y => exact hf.2.1
        | _ => cases h1
      have hun : ¬ u.isNil := by cases u <;> simp_all [Tri.Tr.isBr, Tri.Tr.isNil]
      have hup : u.pth.length ≤ 1000 := by cases u <;> simp_all [Tri.Tr.isBr, Tri.Tr.pth]
      have HUN := Lib.hid (Tri.lay_nn (p := r) hun)
      have HS : Hid (splitT n t = .br [] (upd Tri.bare (ix a) (lay r u))) := Lib.hid (by
        cases t with
        | ext q y =>
          obtain rfl : q = p := hp
          obtain rfl : y = u := hu
          exact Tri.split_ext1 hd
        | _ => cases h1)
      obtain ⟨vk, hvk⟩ : ∃ v, K 0 = v := ⟨_, rfl⟩
      have hku : PAt w (F.off w.heap.size) false u vk := by
        rw [← hu, ← hvk]
        exact (hkk 0).weak.new_off (Nat.le_refl _)
      have HVK := Lib.hid hvk
      have HLF : Hid (∀ w', Below w.heap.size w w' → w.heap.size < w'.heap.size → Calls Tryd.prog 49 #[vk, .string ⟨r.toArray⟩] w' fun e w'' => ∃ v, e = .returned v ∧ PAt w'' (F.off w.heap.size) false (lay r u) v ∧ Below w'.heap.size w' w'') := Lib.hid (fun w' hb hs => (behind_any r w' _ ((hB.size hb.size).off hs) (hku.below hb) (Or.inr hun) hrl hup))
      unfold ptr
      clear hu hub hun hup hvk hku h hr hkk hf hfit hp hx hne hn hlt hr1 r1 hb0 h1 hC hpl hfp ha hd m2 f2
      go_enter Tryd.func48, Tryd.ntmps48
      go_wp2_with (refine wpList_build_some (by rfl) _ _ (by rfl) [(0, .int .i64 3)] (by first | rfl | (simp [Act.eval]; done) | kernel_rfl) C HBL.out ?_)
      obtain ⟨q, hq⟩ : ∃ q, w.heap.size = q := ⟨_, rfl⟩
      have HQ := Lib.hid hq
      obtain ⟨w0, hw0⟩ : ∃ w0, w.alloc (.cells C 61) = w0 := ⟨_, rfl⟩
      rw [hw0] at HR1 HB0 n0 n1 n2 ⊢
      rw [hq] at HR1 ⊢
      have HSZ : Hid (w.heap.size < w0.heap.size) := Lib.hid (by rw [← hw0]; simp)
      have HN1 : Hid (∀ w', Below w0.heap.size w0 w' → w'.cell? ⟨g, 1, none⟩ = some (.string ⟨p.toArray⟩) ∧ w'.cell? ⟨g, 3, none⟩ = some vk ∧ w'.cell? ⟨q, 3 + a.toNat, none⟩ = some (.pointer none) ∧ w'.frozen? ⟨q, 3 + a.toNat, none⟩ = false) := Lib.hid (fun w' hb => by
        have k1 := (HR.out.below HB0.out).below hb
        have k2 := HR1.out.below hb
        refine ⟨by rw [k1.path, HPP.out], by rw [← HVK.out]; exact k1.kid 0, ?_, k2.free _⟩
        have := k2.kid (ix a)
        rw [HIX.out] at this
        exact this)
      have HGQ : Hid (g < q) := Lib.hid (by rw [← hq]; exact lt_of_heap HR.out)
      have HK1 : Hid (∀ w' v, Below w0.heap.size w0 w' → (w'.setCell ⟨q, 3 + a.toNat, none⟩ v).cell? ⟨g, 1, none⟩ = some (.string ⟨p.toArray⟩) ∧ (w'.setCell ⟨q, 3 + a.toNat, none⟩ v).cell? ⟨g, 3, none⟩ = some vk) := Lib.hid (fun w' v hb => ⟨keep_cell (HN1.out w' hb).1 (Nat.ne_of_lt HGQ.out), keep_cell (HN1.out w' hb).2.1 (Nat.ne_of_lt HGQ.out)⟩)
      have BD : Below w0.heap.size w0 w0.drew := (Below.refl _ _).drew
      have HLF2 : Hid (∀ w', Below w0.heap.size w0 w' → Calls Tryd.prog 49 #[vk, .string ⟨r.toArray⟩] w' fun e w'' => ∃ g6, e = .returned (.pointer (some ⟨g6, 0, none⟩)) ∧ PAt w'' (F.off q) false (lay r u) (ptr g6) ∧ Below w0.heap.size w0 w'') := Lib.hid (fun w' hb => (HLF.out w' (HB0.out.trans (hb.mono (Nat.le_of_lt HSZ.out))) (Nat.lt_of_lt_of_le HSZ.out hb.size)).mono fun e w'' ⟨v, e1, hp, hb2⟩ => by
        obtain ⟨g6, _, _, rfl, _⟩ := hp.row HUN.out
        exact ⟨g6, e1, by rw [← hq]; exact hp, hb.trans (hb2.mono hb.size)⟩)
      obtain ⟨c1, c2, c3, c4⟩ := HN1.out _ BD
      clear hq hw0 n0 n1 n2 HLF
      go_region_held3 (fun w' => w'.cell? ⟨g, 1, none⟩ = some (.string ⟨p.toArray⟩) ∧ w'.cell? ⟨g, 3, none⟩ = some vk)
        ((first | (with_reducible exact ⟨c1, c2⟩) | (with_reducible exact ⟨d1, d2⟩) | (refine HK1.out _ _ ?_; with_reducible assumption)))
        ((go_at_call 49; refine (HLF2.out _ ?_).mono ?_; (with_reducible assumption); rintro e w6 ⟨g6, rfl, hp6, hb6⟩; obtain ⟨d1, d2, d3, d4⟩ := HN1.out _ hb6))
      all_goals
        go_wp2
        go_ret
        rw [HS.out]
        have hbq : Below w.heap.size w w6 := HB0.out.trans (hb6.mono (Nat.le_of_lt HSZ.out))
        refine ⟨_, rfl, PAt.new (K := updK noK (ix a) (ptr g6)) id (hB _ (Nat.le_of_eq HQ.out)) ?_ (fun i => ?_), hbq.setCell (p := ⟨q, _, none⟩) (Nat.le_of_eq HQ.out) _⟩
        · have := (HR1.out.below hb6).setKid (ix a) (ptr g6)
          rw [HIX.out] at this
          exact this
        · simp only [Tri.Tr.kid, updK, Tri.upd]
          split
          · exact hp6.off _ _
          · rfl
  · obtain rfl : n = p.length := by omega
    have h1 : t.kind = 1 := by rcases hk with h | h; exact h; exact absurd (hne h) hlt
    have e2 : ((p.length : Int) == (p.length : Int)) = true := beq_self_eq_true _
    have HS : Hid (splitT p.length t = .br x Tri.bare) := Lib.hid (by
      cases t with
      | leaf q y =>
        obtain rfl : q = p := hp
        obtain rfl : y = x := hx
        exact Tri.split_leaf0 (by simp)
      | _ => cases h1)
    have HSV : Hid (C.setIfInBounds 2 (.string ⟨x.toArray⟩) = (pcl 3 [] x noK []).toArray) := Lib.hid (by rw [← hC]; exact pcl_val ..)
    unfold ptr
    clear h hr hkk hk hf hfit hp hx hne hn hlt hr1 r1 hb0 h1 n0 hC
    go_enter Tryd.func48, Tryd.ntmps48
    go_wp2_with (refine wpList_build_some (by rfl) _ _ (by rfl) [(0, .int .i64 3)] (by first | rfl | (simp [Act.eval]; done) | kernel_rfl) C HBL.out ?_)
    go_ret
    rw [HS.out, HSV.out]
    exact ⟨_, rfl, PAt.new (K := noK) id (hB _ (Nat.le_refl _)) (RowP.new rfl) (fun i => rfl), (Below.refl _ w).alloc (Nat.le_refl _) _⟩
end Go.Proofs.YtkdecmijnojhoaaDoor
namespace Go.Proofs.YtkdecmijnojhoaaDoor
open Go.RowKit
open Sto (T)
open Tri (Tr Ok upd ix hb lay splitT Trim rank)

def kcl (K : Ks) : List Value := List.ofFn K
theorem kcl_length (K : Ks) : (kcl K).length = 16 := by simp [kcl]
theorem RowP.range {w : World} {g k : Nat} {p x s : T} {K : Ks} (h : RowP w g k p x K s) : w.rangeAt g 3 (kcl K) := by
  intro j v hv
  have hj : j < 16 := by
    rcases Nat.lt_or_ge j 16 with h2 | h2
    · exact h2
    · rw [List.getElem?_eq_none (by rw [kcl_length]; exact h2)] at hv; cases hv
  have := h.kid ⟨j, hj⟩
  rw [this]
  unfold kcl at hv
  rw [List.getElem?_ofFn, dif_pos hj] at hv
  exact hv
set_option maxRecDepth 100000 in
theorem kcl_info (K : Ks) : (Tryd.prog.info? 59).map (·.size) = some (kcl K).length := by rw [kcl_length]; kernel_rfl
set_option maxRecDepth 100000 in
theorem index_kids (K : Ks) (i : Fin 16) (w : World) : (Instr.index 59 (.agg (kcl K).toArray) (.int .i64 i.val)).run Tryd.prog w = .ok (K i) w := by
  have hi := i.isLt
  have hu := Tryd.underlying59
  have hk0 : (0 : Int) ≤ (i.val : Int) := by omega
  have hk8 : (i.val : Int) < 16 := by omega
  have hat : (kcl K)[i.val]? = some (K i) := by
    unfold kcl
    rw [List.getElem?_ofFn, dif_pos hi]
  have hs := Tryd.sizeOf50
  have ha := Tryd.isAgg50
  unfold Instr.index
  go_simp
theorem PAt.ptr {w : World} {F : Fm} {s : Bool} {t : Tr} {v : Value} (h : PAt w F s t v) (hn : ¬ t.isNil) : ∃ g, v = .pointer (some ⟨g, 0, none⟩) := by
  obtain ⟨g, _, _, e, _⟩ := h.row hn; exact ⟨g, e⟩
end Go.Proofs.YtkdecmijnojhoaaDoor
namespace Go.Proofs.YtkdecmijnojhoaaDoor
open Go.RowKit
open Sto (T)
open Tri (Tr Ok upd ix hb lay splitT Trim rank)
open Go.Proofs.YtkdecmijnojhoaaDoor.Nd (N)

def st19 (a v : Value) : Sem Unit := Instr.storeAt 72 a v
theorem storeAt19 (a v : Value) : Instr.storeAt 72 a v = st19 a v := rfl
attribute [local go_sem ↓] storeAt19
def zero19 : Array Value := #[.int .i64 0, .string ⟨#[]⟩, .string ⟨#[]⟩, .string ⟨#[]⟩, .string ⟨#[]⟩, .string ⟨#[]⟩, .string ⟨#[]⟩, .string ⟨#[]⟩, .string ⟨#[]⟩, .string ⟨#[]⟩, .string ⟨#[]⟩, .string ⟨#[]⟩, .string ⟨#[]⟩, .string ⟨#[]⟩, .string ⟨#[]⟩, .string ⟨#[]⟩, .string ⟨#[]⟩, .string ⟨#[]⟩, .string ⟨#[]⟩]
def lit19 (kd : Nat) (p x : T) : Array Value := #[.int .i64 kd, .string ⟨p.toArray⟩, .string ⟨x.toArray⟩, .string ⟨#[]⟩, .string ⟨#[]⟩, .string ⟨#[]⟩, .string ⟨#[]⟩, .string ⟨#[]⟩, .string ⟨#[]⟩, .string ⟨#[]⟩, .string ⟨#[]⟩, .string ⟨#[]⟩, .string ⟨#[]⟩, .string ⟨#[]⟩, .string ⟨#[]⟩, .string ⟨#[]⟩, .string ⟨#[]⟩, .string ⟨#[]⟩, .string ⟨#[]⟩]
theorem run_st19 {w : World} {C old : Array Value} (hi : (Tryd.prog.info? 72).map (·.size) = some C.size) (ho : old.size = C.size) (h1 : C.all (·.oneCell') = true) :
    (st19 (.pointer (some ⟨w.heap.size, 0, none⟩)) (.agg C)).run Tryd.prog (w.alloc (.cells old 72)) = .ok () (w.alloc (.cells C 72)) := by
  unfold st19
  simp only [Instr.storeAt, Instr.sureAddr, Sem.run_bind, Sem.run_pure, Result.andThen_ok, run_storeVar_row (w.alloc (.cells old 72)) w.heap.size 72 72 old C (heap_alloc_new w _) hi ho h1]
  rw [World.setRow_alloc_new]
theorem ncl_set (kd : Int) (p x : T) (L : List T) (k : Nat) (y : T) : (ncl ⟨kd, p, x, L⟩).toArray.setIfInBounds (3 + k) (.string ⟨y.toArray⟩) = (ncl ⟨kd, p, x, L.set k y⟩).toArray := by
  rw [List.setIfInBounds_toArray]
  congr 1
  unfold ncl
  rw [Nat.add_comm 3 k]
  simp only [List.set_cons_succ]
  rw [scells_set]
theorem ncl_ones (n : N) : (ncl n).toArray.all (·.oneCell') = true := by
  rw [← Array.all_toList, List.all_eq_true]
  intro v hv
  simp only [ncl, scells, List.mem_cons, List.mem_map] at hv
  rcases hv with rfl | rfl | rfl | ⟨y, _, rfl⟩ <;> rfl
set_option maxRecDepth 100000 in
set_option maxHeartbeats 2000000 in
theorem pnode_any {t : Tr} {g : Nat} {s : T} {K : Ks} {F : Fm} (w : World) (hr : RowP w g t.kind t.pth t.vl K s) (hk : ∀ i, PAt w F true (t.kid i) (K i)) (hn : ¬ t.isNil) :
    Calls Tryd.prog 37 #[ptr g] w fun e w' => e = .returned (ndval (t.node Nd.sumS)) ∧ Below w.heap.size w w' := by
  rw [Tri.node_kid _ hn]
  have HK := Lib.hid hk
  have HR := Lib.hid hr
  unfold ptr
  obtain ⟨kd, hkd⟩ : ∃ kd, t.kind = kd := ⟨_, rfl⟩
  obtain ⟨p, hp⟩ : ∃ p, t.pth = p := ⟨_, rfl⟩
  obtain ⟨x, hx⟩ : ∃ x, t.vl = x := ⟨_, rfl⟩
  rw [hkd, hp, hx] at HR ⊢
  obtain ⟨SL, hSL⟩ : ∃ SL, (List.ofFn fun i => (t.kid i).sum Nd.sumS) = SL := ⟨_, rfl⟩
  have HSL : Hid (SL.length = 16 ∧ ∀ i : Fin 16, SL[i.val]? = some ((t.kid i).sum Nd.sumS)) := Lib.hid (by
    rw [← hSL]
    exact ⟨by simp, fun i => by rw [List.getElem?_ofFn, dif_pos i.isLt]⟩)
  rw [hSL]
  unfold ndval
  obtain ⟨A, hA⟩ : ∃ A, (ncl ⟨(kd : Int), p, x, SL⟩).toArray = A := ⟨_, rfl⟩
  rw [hA]
  have HA := Lib.hid hA
  clear hr hk hkd hp hx hSL hA
  go_enter Tryd.func37, Tryd.ntmps37
  go_upto_region 1 with fail
  obtain ⟨q, hq⟩ : ∃ q, w.heap.size = q := ⟨_, rfl⟩
  obtain ⟨w0, hw0⟩ : ∃ w0, w.alloc (.cells zero19 72) = w0 := ⟨_, rfl⟩
  have HQB : Hid (w0.heap[q]? = some (.cells zero19 72 (0, 0))) := Lib.hid (by rw [← hw0, ← hq]; exact heap_alloc_new w _)
  have HB0 : Hid (Below w.heap.size w w0) := Lib.hid (by rw [← hw0]; exact (Below.refl _ w).alloc (Nat.le_refl _) _)
  have HQ0 : Hid (q < w0.heap.size) := Lib.hid (lt_of_heap HQB.out)
  unfold zero19 at hw0
  rw [hw0, hq]
  have HQ := Lib.hid hq
  have HG : Hid (∀ w', Below w0.heap.size w0 w' → w'.cell? ⟨g, 0, none⟩ = some (.int .i64 kd) ∧ w'.cell? ⟨g, 1, none⟩ = some (.string ⟨p.toArray⟩) ∧ w'.cell? ⟨g, 2, none⟩ = some (.string ⟨x.toArray⟩)) := Lib.hid (fun w' hb => by
    have k1 := (HR.out.below HB0.out).below hb
    exact ⟨k1.kind, k1.path, k1.val⟩)
  have hst : (st19 (.pointer (some ⟨w0.heap.size, 0, none⟩)) (.agg (lit19 kd p x))).run Tryd.prog ((w0.alloc (.cells zero19 72)).drew) = .ok () ((w0.alloc (.cells (lit19 kd p x) 72)).drew) := run_st19 (w := w0.drew) (by kernel_rfl) rfl (by simp [lit19, Value.oneCell'])
  unfold lit19 zero19 at hst
  have B1 : Below w0.heap.size w0 w0.drew := (Below.refl _ _).drew
  have B2 := ((Below.refl w0.heap.size w0).alloc (Nat.le_refl _) (.cells zero19 72)).drew
  have B3 := ((Below.refl w0.heap.size w0).alloc (Nat.le_refl _) (.cells (lit19 kd p x) 72)).drew
  unfold zero19 at B2
  unfold lit19 at B3
  obtain ⟨c0, c1, c2⟩ := HG.out _ B1
  clear hw0 hq
  go_region_held3 (fun w' => w'.cell? ⟨g, 0, none⟩ = some (.int .i64 kd) ∧ w'.cell? ⟨g, 1, none⟩ = some (.string ⟨p.toArray⟩) ∧ w'.cell? ⟨g, 2, none⟩ = some (.string ⟨x.toArray⟩))
    ((first | (with_reducible exact ⟨c0, c1, c2⟩) | (refine HG.out _ ?_; with_reducible assumption)))
    (fail)
  obtain ⟨q2, hq2⟩ : ∃ q2, w0.heap.size = q2 := ⟨_, rfl⟩
  obtain ⟨w1, hw1⟩ : ∃ w1, (w0.alloc (.cells (lit19 kd p x) 72)).drew = w1 := ⟨_, rfl⟩
  have HN0 : Hid (NodeAt w1 q2 ⟨kd, p, x, Nd.part []⟩) := Lib.hid (by
    rw [← hw1, ← hq2]
    exact heap_alloc_new w0 _)
  have HB1 : Hid (Below w.heap.size w w1 ∧ w1.heap[q]? = some (.cells zero19 72 (0, 0)) ∧ w.heap.size ≤ q2 ∧ q ≠ q2) := Lib.hid (by
    have h1 : Below w0.heap.size w0 w1 := by rw [← hw1]; exact ((Below.refl w0.heap.size w0).alloc (Nat.le_refl _) _).drew
    have := HQ0.out
    have := HB0.out.size
    exact ⟨bchain HB0.out h1, (h1.block q HQ0.out).trans HQB.out, by omega, by omega⟩)
  unfold lit19 at hw1
  rw [hw1, hq2]
  have HRR := Lib.hid ((HR.out.below HB1.out.1).range)
  have HI := Lib.hid (kcl_info K)
  have HKE := Lib.hid (fun (i : Fin 16) w => index_kids K i w)
  clear c0 c1 c2 hst B1 B2 B3 hw1 hq2 HG
  go_wp2_with (refine wpList_load_mid (by rfl) _ _ (by rfl) g 3 (by rfl) (kcl K) _ HRR.out Tryd.underlying59 (by rfl) HI.out ?_)
  obtain ⟨KC, hKC⟩ : ∃ KC, kcl K = KC := ⟨_, rfl⟩
  rw [hKC] at HKE HI HRR ⊢
  clear hKC
  go_loopw [23] (fun i wr => ∃ k : Nat, k ≤ 16 ∧ i = .int .i64 k ∧ NodeAt wr q2 ⟨kd, p, x, Nd.part (SL.take k)⟩ ∧ Out (fun j => j = q2) w1 wr) (fun i _ => 16 - (intOf i).toNat)
  case atStart => exact ⟨0, Nat.zero_le _, rfl, HN0.out, Out.refl _ _⟩
  case round =>
    obtain ⟨k, hk, rfl, hna, hou⟩ := hrel
    have HNA := Lib.hid hna
    have HOU := Lib.hid hou
    have HGQ : Hid (g ≠ q2) := Lib.hid (fun e => by have := lt_of_heap HR.out; have := HB1.out.2.2.1; omega)
    by_cases hlt : k < 16
    · obtain ⟨i, hi⟩ : ∃ i : Fin 16, i.val = k := ⟨⟨k, hlt⟩, rfl⟩
      have h1 : (k : Int) < 16 := by omega
      have h0 : (0 : Int) ≤ (k : Int) := by omega
      have n0 := HKE.out i
      rw [hi] at n0
      have hti : SL.take (k + 1) = SL.take k ++ [(t.kid i).sum Nd.sumS] := by
        have h2 := HSL.out.2 i
        rw [hi] at h2
        rw [List.take_add_one, h2]; rfl
      have htl : (SL.take k).length = k := by rw [List.length_take, HSL.out.1]; omega
      have hki := HK.out i
      by_cases hnl : (t.kid i).isNil
      · have e : K i = .pointer none := by rw [Tri.isNil_eq hnl] at hki; exact hki
        rw [e] at n0
        have HST : Hid (Nd.part (SL.take (k + 1)) = Nd.part (SL.take k)) := Lib.hid (by
          rw [hti, Tri.isNil_eq hnl]
          exact (Nd.part_nil _ (by rw [htl]; exact hlt)).symm)
        clear hki hnl e hna hou hti htl
        go_wp2
        exact ⟨⟨k + 1, by omega, by go_num, by rw [HST.out]; exact HNA.out, HOU.out⟩, by simp [intOf]; omega⟩
      · obtain ⟨g6, s6, K6, e, hs6, -, hr6, -⟩ := hki.row hnl
        have e' : K i = .pointer (some ⟨g6, 0, none⟩) := e
        rw [hs6 rfl, if_pos rfl] at hr6
        rw [e'] at n0
        have hg6 : g6 ≠ q2 := fun e => by have := lt_of_heap hr6; have := HB1.out.2.2.1; omega
        have n19 : wr.cell? ⟨g6, 19, none⟩ = some (.string ⟨((t.kid i).sum Nd.sumS).toArray⟩) := hou.cell (hr6.below HB1.out.1).sum hg6
        have hpl : (Nd.part (SL.take k)).length = 16 := Nd.part_len _ (by rw [htl]; omega)
        have m3 := hna.kid k (by rw [hpl]; exact hlt)
        have f3 : wr.frozen? ⟨q2, 3 + k, none⟩ = false := frozen_of_row _ _ _ _ _ hna
        obtain ⟨y, hy⟩ : ∃ y, (t.kid i).sum Nd.sumS = y := ⟨_, rfl⟩
        rw [hy] at n19 hti
        obtain ⟨y2, hy2⟩ : ∃ y2, (Nd.part (SL.take k))[k]'(by rw [hpl]; exact hlt) = y2 := ⟨_, rfl⟩
        have m3' : wr.cell? ⟨q2, 3 + k, none⟩ = some (.string ⟨y2.toArray⟩) := by rw [m3, hy2]
        have HST : Hid (NodeAt (wr.setCell ⟨q2, 3 + k, none⟩ (.string ⟨y.toArray⟩)) q2 ⟨kd, p, x, Nd.part (SL.take (k + 1))⟩) := Lib.hid (by
          have h2 := heap_setCell_same _ _ (3 + k) _ _ (.string ⟨y.toArray⟩) hna
          rw [ncl_set] at h2
          have h3 := Nd.part_set (SL.take k) y (by rw [htl]; exact hlt)
          rw [htl] at h3
          rw [h3] at h2
          rw [hti]
          exact h2)
        have HOS := Lib.hid (hou.setCell (p := ⟨q2, 3 + k, none⟩) rfl (.string ⟨y.toArray⟩))
        clear hki hnl e e' hna hou hti htl m3 hy2 hr6 hy hpl hg6
        go_wp2
        exact ⟨⟨k + 1, by omega, by go_num, HST.out, HOS.out⟩, by simp [intOf]; omega⟩
    · have h1 : ¬ ((k : Int) < 16) := by omega
      obtain rfl : k = 16 := by omega
      rw [List.take_of_length_le (by rw [HSL.out.1]; omega), Nd.part_all _ HSL.out.1] at HNA
      have hcs : (ncl ⟨kd, p, x, SL⟩).toArray.size = 19 := by rw [List.size_toArray, ncl_length _ HSL.out.1]
      have HIN : Hid ((Tryd.prog.info? 72).map (·.size) = some (ncl ⟨kd, p, x, SL⟩).toArray.size) := Lib.hid (by rw [hcs]; kernel_rfl)
      have HON := Lib.hid (ncl_ones ⟨kd, p, x, SL⟩)
      have HQR : Hid (wr.heap[q]? = some (.cells zero19 72 (0, 0))) := Lib.hid ((HOU.out.block q (lt_of_heap HB1.out.2.1) HB1.out.2.2.2).trans HB1.out.2.1)
      have HOL : Hid (zero19.size = (ncl ⟨kd, p, x, SL⟩).toArray.size) := Lib.hid (by rw [hcs]; rfl)
      have HRW : Hid (wr.heap[q2]? = some (.cells (ncl ⟨kd, p, x, SL⟩).toArray 72 (0, 0))) := Lib.hid HNA.out
      have HBW : Hid (∀ A, Below w.heap.size w (wr.setRow q A)) := Lib.hid (fun A => by
        have h2 := (HOU.out.mono (G := fun j => j = q2 ∨ j = q) (fun j _ e => Or.inl e)).setRow (q := q) (Or.inr rfl) A
        refine HB1.out.1.trans (h2.below (fun j hj => ?_) HB1.out.1.size)
        rcases hj with rfl | rfl
        · exact HB1.out.2.2.1
        · exact Nat.le_of_eq HQ.out)
      rw [HA.out] at HIN HON HOL HRW
      clear hcs hna hou HNA
      go_wp2_with (first | (refine wpList_load_row (by rfl) _ _ (by rfl) q2 (by rfl) _ A _ _ HRW.out Tryd.underlying72 (by rfl) HIN.out ?_) | (refine wpList_store_row (by rfl) _ _ _ (by rfl) q A (by rfl) (by rfl) _ _ HQR.out HIN.out HOL.out HON.out ?_))
      exact bodyPost_ret (v := .agg A) (results_cell_row rfl _ _ q _ _ _ _ rfl (setRow_at HQR.out) Tryd.underlying72 rfl HIN.out) rfl ⟨rfl, HBW.out A⟩
end Go.Proofs.YtkdecmijnojhoaaDoor
