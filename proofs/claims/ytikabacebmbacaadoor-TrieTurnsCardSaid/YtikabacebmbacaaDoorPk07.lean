/- TriMem, TriParts, TriSplit, TriNarrow -/
import Derived.Test.YtikabacebmbacaaDoorPk03
import Derived.Test.YtikabacebmbacaaDoorPk06
import Derived.Test.YtikabacebmbacaaDoorPk02
import Derived.Deep.RegionHeld3
namespace Go.Proofs.YtikabacebmbacaaDoor
open Go.RowKit
open Go.Proofs.YtikabacebmbacaaDoor.Nd (N)
namespace Tri
open Sto (T)
def Tr.kind : Tr → Nat
  | .nil => 0
  | .leaf _ _ => 1
  | .ext _ _ => 2
  | .br _ _ => 3
def Tr.pth : Tr → T
  | .leaf p _ => p
  | .ext p _ => p
  | _ => []
def Tr.vl : Tr → T
  | .leaf _ v => v
  | .br v _ => v
  | _ => []
def Tr.kid : Tr → Fin 16 → Tr
  | .ext _ t, i => if i = 0 then t else .nil
  | .br _ k, i => k i
  | _, _ => .nil
theorem kid_ind {P : Tr → Prop} (h0 : P .nil) (h : ∀ t : Tr, ¬ t.isNil → (∀ i, P (t.kid i)) → P t) (t : Tr) : P t := by
  induction t with
  | nil => exact h0
  | leaf p v => exact h _ id fun i => h0
  | ext p t ih =>
    refine h _ id fun i => ?_
    simp only [Tr.kid]
    split
    · exact ih
    · exact h0
  | br v k ih => exact h _ id ih
theorem kid_ext {t u : Tr} (h1 : t.kind = u.kind) (h2 : t.pth = u.pth) (h3 : t.vl = u.vl) (h4 : ∀ i, t.kid i = u.kid i) : t = u := by
  cases t <;> cases u <;> simp_all [Tr.kind, Tr.pth, Tr.vl, Tr.kid]
  · have := h4 0
    simpa using this
  · funext i; exact h4 i
theorem rep_ofFn (a : T) : a :: List.replicate 15 [] = List.ofFn fun i : Fin 16 => if i = 0 then a else [] := by
  simp [List.ofFn_succ, List.replicate]
theorem rep_ofFn0 : List.replicate 16 ([] : T) = List.ofFn fun _ : Fin 16 => [] := by simp [List.ofFn_succ, List.replicate]
theorem node_kid (dg : N → T) {t : Tr} (h : ¬ t.isNil) : t.node dg = ⟨t.kind, t.pth, t.vl, List.ofFn fun i => (t.kid i).sum dg⟩ := by
  cases t with
  | nil => exact absurd trivial h
  | leaf p v => simp only [Tr.node, Tr.kind, Tr.pth, Tr.vl, Tr.kid, Tr.sum, rep_ofFn0]; rfl
  | ext p t =>
    simp only [Tr.node, Tr.kind, Tr.pth, Tr.vl, rep_ofFn]
    congr 2
    funext i
    simp only [Tr.kid]
    split <;> rfl
  | br v k => rfl
theorem kind_nil {t : Tr} : t.kind = 0 ↔ t.isNil := by cases t <;> simp [Tr.kind, Tr.isNil]
theorem kid_canon {t : Tr} (h : t.canon) (i : Fin 16) : (t.kid i).canon := by
  cases t with
  | nil => trivial
  | leaf p v => trivial
  | ext p t =>
    simp only [Tr.kid]; split
    · exact h.2.2
    · trivial
  | br v k => exact h.1 i
theorem kid_fits {t : Tr} (h : t.fits) (i : Fin 16) : (t.kid i).fits := by
  cases t with
  | nil => trivial
  | leaf p v => trivial
  | ext p t =>
    simp only [Tr.kid]; split
    · exact h.2
    · trivial
  | br v k => exact h i
theorem kid_small {t : Tr} (h : t.small) (i : Fin 16) : (t.kid i).small := by
  cases t with
  | nil => trivial
  | leaf p v => trivial
  | ext p t =>
    simp only [Tr.kid]; split
    · exact h.2
    · trivial
  | br v k => exact h.2 i
/-- What may be a node of a trie. -/
structure Ok (t : Tr) : Prop where
  canon : t.canon
  fits : t.fits
  small : t.small
theorem Ok.kid {t : Tr} (h : Ok t) (i : Fin 16) : Ok (t.kid i) := ⟨kid_canon h.canon i, kid_fits h.fits i, kid_small h.small i⟩
theorem sumS_len (n : N) (_ : n.kids.length = 16) (h : Nd.fine n = true) : (Nd.sumS n).length = 32 := by
  unfold Nd.sumS
  rw [if_pos h]
  rw [Dig.sum, if_pos (by decide)]; exact Sha.sumP_length _
theorem Ok.fine {t : Tr} (h : Ok t) (hn : ¬ t.isNil) : Nd.fine (t.node Nd.sumS) = true := node_fine Nd.sumS sumS_len h.canon h.fits h.small hn
theorem Ok.sum_len {t : Tr} (h : Ok t) (hn : ¬ t.isNil) : (t.sum Nd.sumS).length = 32 := by
  rw [sum_node _ hn]
  exact sumS_len _ (node_kids _ _) (h.fine hn)
theorem Ok.sum_ne {t : Tr} (h : Ok t) (hn : ¬ t.isNil) : t.sum Nd.sumS ≠ [] := fun e => by have := h.sum_len hn; rw [e] at this; cases this
end Tri
open Sto (T)
open Tri (Tr Ok)

abbrev Ks := Fin 16 → Value
def nilp : Value := .pointer none
def ptr (g : Nat) : Value := .pointer (some ⟨g, 0, none⟩)
theorem ptr_inj {a b : Nat} (h : ptr a = ptr b) : a = b := by
  unfold ptr at h
  injection h with h; injection h with h; injection h
def pcl (kind : Nat) (p x : T) (K : Ks) (s : T) : List Value := .int .i64 kind :: .string ⟨p.toArray⟩ :: .string ⟨x.toArray⟩ :: (List.ofFn K ++ [.string ⟨s.toArray⟩])
theorem pcl_length (kind : Nat) (p x : T) (K : Ks) (s : T) : (pcl kind p x K s).length = 20 := by simp [pcl]
theorem ofFn_injV {f g : Ks} (h : List.ofFn f = List.ofFn g) : f = g := by
  funext i
  have := List.getElem_of_eq h (i := i.val) (by rw [List.length_ofFn]; exact i.isLt)
  rwa [List.getElem_ofFn, List.getElem_ofFn] at this
theorem pcl_inj {k k' : Nat} {p p' x x' s s' : T} {K K' : Ks} (h : pcl k p x K s = pcl k' p' x' K' s') : k = k' ∧ p = p' ∧ x = x' ∧ K = K' ∧ s = s' := by
  unfold pcl at h
  obtain ⟨h1, h⟩ := List.cons.inj h
  obtain ⟨h2, h⟩ := List.cons.inj h
  obtain ⟨h3, h⟩ := List.cons.inj h
  obtain ⟨h4, h⟩ := List.append_inj h (by simp)
  refine ⟨?_, str_inj h2, str_inj h3, ofFn_injV h4, str_inj (List.cons.inj h).1⟩
  injection h1 with _ h1
  exact Int.ofNat_inj.1 h1
/-- A part in a block. -/
def RowP (w : World) (g kind : Nat) (p x : T) (K : Ks) (s : T) : Prop := w.heap[g]? = some (.cells (pcl kind p x K s).toArray 73 (0, 0))
theorem RowP.inj {w : World} {g k k' : Nat} {p p' x x' s s' : T} {K K' : Ks} (h : RowP w g k p x K s) (h' : RowP w g k' p' x' K' s') : k = k' ∧ p = p' ∧ x = x' ∧ K = K' ∧ s = s' := by
  unfold RowP at h h'
  rw [h] at h'
  injection h' with h'; injection h' with h'
  exact pcl_inj (List.toArray_inj h')
/-- Which blocks a tree's parts may lie in: true of one that has its sum. -/
abbrev Fm := Bool → Nat → Prop
/-- What has no sum yet is new from B on. -/
def Fm.from (B : Nat) : Fm := fun s g => s = false → B ≤ g
def Fm.off (F : Fm) (q : Nat) : Fm := fun s g => F s g ∧ g ≠ q
def Blk (w : World) (F : Fm) (s : Bool) (kind : Nat) (p x sum : T) (v : Value) (R : Bool → Ks → Prop) : Prop :=
  ∃ g s' K, v = ptr g ∧ (s = true → s' = true) ∧ F s' g ∧ RowP w g kind p x K (if s' then sum else []) ∧ R s' K
/-- A tree in memory: what has its sum, has those below it. s: all have theirs. -/
def PAt (w : World) (F : Fm) : Bool → Tr → Value → Prop
  | _, .nil, v => v = nilp
  | s, .leaf p x, v => Blk w F s 1 p x (Tr.sum Nd.sumS (.leaf p x)) v fun _ K => ∀ i, K i = nilp
  | s, .ext p t, v => Blk w F s 2 p [] (Tr.sum Nd.sumS (.ext p t)) v fun s' K => PAt w F s' t (K 0) ∧ ∀ i, i ≠ 0 → K i = nilp
  | s, .br x k, v => Blk w F s 3 [] x (Tr.sum Nd.sumS (.br x k)) v fun s' K => ∀ i, PAt w F s' (k i) (K i)
theorem Blk.imp {w w' : World} {F F' : Fm} {s s2 : Bool} {kind : Nat} {p x sum : T} {v : Value} {R R' : Bool → Ks → Prop} (h : Blk w F s kind p x sum v R) (hs : s2 = true → s = true) (hF : ∀ s g, g < w.heap.size → F s g → F' s g) (hw : ∀ g K s' s2, F s2 g → RowP w g kind p x K s' → RowP w' g kind p x K s') (hR : ∀ s' K, R s' K → R' s' K) : Blk w' F' s2 kind p x sum v R' := by
  obtain ⟨g, s', K, rfl, h1, h2, h3, h4⟩ := h
  exact ⟨g, s', K, rfl, fun h => h1 (hs h), hF _ _ (lt_of_heap h3) h2, hw _ _ _ _ h2 h3, hR _ _ h4⟩
theorem PAt.nil (w : World) (F : Fm) (s : Bool) : PAt w F s .nil nilp := rfl
theorem PAt.iff {w : World} {F : Fm} {s : Bool} {t : Tr} {v : Value} (h : ¬ t.isNil) : PAt w F s t v ↔ Blk w F s t.kind t.pth t.vl (t.sum Nd.sumS) v fun s' K => ∀ i, PAt w F s' (t.kid i) (K i) := by
  cases t with
  | nil => exact absurd trivial h
  | leaf p x => exact Iff.rfl
  | ext p t =>
    constructor
    · intro h
      refine Blk.imp h id (fun _ _ _ h => h) (fun _ _ _ _ _ h => h) fun s' K hk i => ?_
      simp only [Tri.Tr.kid]
      split
      · rename_i e; rw [e]; exact hk.1
      · rename_i e; exact hk.2 i e
    · intro h
      refine Blk.imp h id (fun _ _ _ h => h) (fun _ _ _ _ _ h => h) fun s' K hk => ⟨?_, fun i hi => ?_⟩
      · have := hk 0
        simpa [Tri.Tr.kid] using this
      · have := hk i
        simp only [Tri.Tr.kid, if_neg hi] at this
        exact this
  | br x k => exact Iff.rfl
theorem PAt.row {w : World} {F : Fm} {s : Bool} {t : Tr} {v : Value} (h : PAt w F s t v) (hn : ¬ t.isNil) : ∃ g s' K, v = ptr g ∧ (s = true → s' = true) ∧ F s' g ∧ RowP w g t.kind t.pth t.vl K (if s' then t.sum Nd.sumS else []) ∧ ∀ i, PAt w F s' (t.kid i) (K i) := (PAt.iff hn).1 h
theorem PAt.change {w w' : World} {F F' : Fm} (hF : ∀ s g, g < w.heap.size → F s g → F' s g) (hw : ∀ g k p x K s s2, F s2 g → RowP w g k p x K s → RowP w' g k p x K s) {s : Bool} {t : Tr} {v : Value} (h : PAt w F s t v) : PAt w' F' s t v := by
  induction t using Tri.kid_ind generalizing s v with
  | h0 => exact h
  | h t hn ih => exact (PAt.iff hn).2 (Blk.imp ((PAt.iff hn).1 h) id hF (fun _ _ _ _ => hw _ _ _ _ _ _ _) fun s' K hk i => ih i (hk i))
theorem RowP.below {w w' : World} {g k : Nat} {p x s : T} {K : Ks} (h : RowP w g k p x K s) (hb : Below w.heap.size w w') : RowP w' g k p x K s := (hb.block g (lt_of_heap h)).trans h
theorem PAt.below {w w' : World} {F : Fm} {s : Bool} {t : Tr} {v : Value} (h : PAt w F s t v) (hb : Below w.heap.size w w') : PAt w' F s t v := h.change (fun _ _ _ h => h) fun _ _ _ _ _ _ _ _ h => h.below hb
theorem PAt.imp {w : World} {F F' : Fm} {s : Bool} {t : Tr} {v : Value} (h : PAt w F s t v) (hF : ∀ s g, g < w.heap.size → F s g → F' s g) : PAt w F' s t v := h.change hF fun _ _ _ _ _ _ _ _ h => h
/-- What was there lies not in a block that is new. -/
theorem PAt.new_off {w : World} {F : Fm} {s : Bool} {t : Tr} {v : Value} (h : PAt w F s t v) {q : Nat} (hq : w.heap.size ≤ q) : PAt w (F.off q) s t v := h.imp fun _ g hg hf => ⟨hf, by omega⟩
theorem PAt.on {w : World} {F : Fm} {q : Nat} {s : Bool} {t : Tr} {v : Value} (h : PAt w (F.off q) s t v) : PAt w F s t v := h.imp fun _ _ _ h => h.1
/-- A store into a block that the tree does not lie in. -/
theorem PAt.off {w : World} {F : Fm} {q : Nat} {s : Bool} {t : Tr} {v : Value} (h : PAt w (F.off q) s t v) (i : Nat) (u : Value) : PAt (w.setCell ⟨q, i, none⟩ u) F s t v :=
  h.change (fun _ _ _ h => h.1) fun g _ _ _ _ _ _ hf hr => (Below.heap_setCell _ ⟨q, i, none⟩ _ g hf.2).trans hr
/-- What has its sums may be told of other blocks, and as what may have none. -/
theorem PAt.sealed {w : World} {F F' : Fm} {t : Tr} {v : Value} (h : PAt w F true t v) (hF : ∀ g, F true g → F' true g) (s : Bool) : PAt w F' s t v := by
  induction t using Tri.kid_ind generalizing s v with
  | h0 => exact h
  | h t hn ih =>
    obtain ⟨g, s', K, rfl, h1, h2, h3, h4⟩ := h.row hn
    obtain rfl := h1 rfl
    exact (PAt.iff hn).2 ⟨g, true, K, rfl, fun _ => rfl, hF _ h2, h3, fun i => ih i (h4 i) true⟩
theorem PAt.weak {w : World} {F : Fm} {s : Bool} {t : Tr} {v : Value} (h : PAt w F s t v) : PAt w F false t v := by
  cases s with
  | false => exact h
  | true => exact h.sealed (fun _ h => h) false
theorem PAt.isNil {w : World} {F : Fm} {s : Bool} {t : Tr} (h : PAt w F s t nilp) : t.isNil := by
  refine Classical.byContradiction fun hn => ?_
  obtain ⟨g, _, _, e, _⟩ := h.row hn
  unfold nilp ptr at e
  injection e with e; cases e
theorem PAt.one {w : World} {F F' : Fm} {s s' : Bool} {t u : Tr} {v : Value} (h : PAt w F s t v) (h' : PAt w F' s' u v) : t = u := by
  induction t using Tri.kid_ind generalizing s s' v u with
  | h0 =>
    have e : v = nilp := h
    subst e
    exact (Tri.isNil_eq h'.isNil).symm
  | h t hn ih =>
    obtain ⟨g, a, K, e, _, _, r1, k1⟩ := h.row hn
    have hu : ¬ u.isNil := fun hu => by
      rw [Tri.isNil_eq hu] at h'
      have e2 : v = nilp := h'
      rw [e] at e2
      unfold nilp ptr at e2
      injection e2 with e2; cases e2
    obtain ⟨g', a', K', e', _, _, r2, k2⟩ := h'.row hu
    obtain rfl := ptr_inj (e.symm.trans e')
    obtain ⟨q1, q2, q3, rfl, _⟩ := r1.inj r2
    exact Tri.kid_ext q1 q2 q3 fun i => ih i (k1 i) (k2 i)
theorem pcl_set (k : Nat) (p x : T) (K : Ks) (s s' : T) : (pcl k p x K s).toArray.setIfInBounds 19 (.string ⟨s'.toArray⟩) = (pcl k p x K s').toArray := by
  rw [List.setIfInBounds_toArray]
  simp [pcl, List.ofFn_succ]
theorem RowP.seal {w : World} {g k : Nat} {p x s : T} {K : Ks} (h : RowP w g k p x K s) (s' : T) : RowP (w.setCell ⟨g, 19, none⟩ (.string ⟨s'.toArray⟩)) g k p x K s' := by
  have := heap_setCell_same _ _ 19 _ _ (.string ⟨s'.toArray⟩) h
  rw [pcl_set] at this
  exact this
/-- A part whose kids have their sums gets its own: no tree is another one by it. -/
theorem PAt.seals {w : World} {F : Fm} {g : Nat} {t : Tr} {K : Ks} {sx : T} (hF : ∀ s g, F s g → F true g) (hr : RowP w g t.kind t.pth t.vl K sx) (hk : ∀ i, PAt w F true (t.kid i) (K i)) {s : Bool} {u : Tr} {v : Value} (h : PAt w F s u v) :
    PAt (w.setCell ⟨g, 19, none⟩ (.string ⟨(t.sum Nd.sumS).toArray⟩)) F s u v := by
  induction u using Tri.kid_ind generalizing s v with
  | h0 => exact h
  | h u hu ih =>
    obtain ⟨g', s', K', rfl, h1, h2, h3, h4⟩ := h.row hu
    by_cases e : g' = g
    · subst e
      obtain ⟨q1, q2, q3, rfl, q5⟩ := hr.inj h3
      have htu : t = u := Tri.kid_ext q1 q2 q3 fun i => (hk i).one (h4 i)
      subst htu
      refine (PAt.iff hu).2 ⟨g', true, K, rfl, fun _ => rfl, hF _ _ h2, hr.seal _, fun i => ih i (hk i)⟩
    · refine (PAt.iff hu).2 ⟨g', s', K', rfl, h1, h2, ?_, fun i => ih i (h4 i)⟩
      exact (Below.heap_setCell _ ⟨g, 19, none⟩ _ g' e).trans h3
theorem PAt.seal {w : World} {F : Fm} {g : Nat} {t : Tr} {K : Ks} {sx : T} (hF : ∀ s g, F s g → F true g) (hg : F true g) (hn : ¬ t.isNil) (hr : RowP w g t.kind t.pth t.vl K sx) (hk : ∀ i, PAt w F true (t.kid i) (K i)) :
    PAt (w.setCell ⟨g, 19, none⟩ (.string ⟨(t.sum Nd.sumS).toArray⟩)) F true t (ptr g) :=
  (PAt.iff hn).2 ⟨g, true, K, rfl, fun _ => rfl, hg, hr.seal _, fun i => PAt.seals hF hr hk (hk i)⟩
theorem RowP.cell {w : World} {g k : Nat} {p x s : T} {K : Ks} (h : RowP w g k p x K s) (i : Nat) : w.cell? ⟨g, i, none⟩ = (pcl k p x K s)[i]? := by
  rw [cell_of_row w g i _ _ _ h, List.getElem?_toArray]
theorem RowP.kind {w : World} {g k : Nat} {p x s : T} {K : Ks} (h : RowP w g k p x K s) : w.cell? ⟨g, 0, none⟩ = some (.int .i64 k) := h.cell 0
theorem RowP.path {w : World} {g k : Nat} {p x s : T} {K : Ks} (h : RowP w g k p x K s) : w.cell? ⟨g, 1, none⟩ = some (.string ⟨p.toArray⟩) := h.cell 1
theorem RowP.val {w : World} {g k : Nat} {p x s : T} {K : Ks} (h : RowP w g k p x K s) : w.cell? ⟨g, 2, none⟩ = some (.string ⟨x.toArray⟩) := h.cell 2
theorem RowP.kid {w : World} {g k : Nat} {p x s : T} {K : Ks} (h : RowP w g k p x K s) (i : Fin 16) : w.cell? ⟨g, 3 + i.val, none⟩ = some (K i) := by
  have hi := i.isLt
  rw [h.cell (3 + i.val), Nat.add_comm 3 i.val]
  show (List.ofFn K ++ [.string ⟨s.toArray⟩])[i.val]? = _
  rw [List.getElem?_append_left (by simp), List.getElem?_ofFn, dif_pos hi]
theorem RowP.sum {w : World} {g k : Nat} {p x s : T} {K : Ks} (h : RowP w g k p x K s) : w.cell? ⟨g, 19, none⟩ = some (.string ⟨s.toArray⟩) := by
  rw [h.cell 19]
  show (List.ofFn K ++ [.string ⟨s.toArray⟩])[16]? = _
  rw [List.getElem?_append_right (by simp)]
  simp
end Go.Proofs.YtikabacebmbacaaDoor
namespace Go.Proofs.YtikabacebmbacaaDoor
open Go.RowKit
open Sto (T)
open Tri (Tr Ok upd ix hb lay splitT)

def noK : Ks := fun _ => nilp
theorem RowP.new {w : World} {k : Nat} {p x s : T} {K : Ks} {C : Array Value} (h : C = (pcl k p x K s).toArray) : RowP (w.alloc (.cells C 73)) w.heap.size k p x K s := by
  subst h; exact heap_new_at w _ _ rfl
/-- A new part, as it may stand in a tree. -/
theorem PAt.new {w' : World} {F : Fm} {g : Nat} {t : Tr} {K : Ks} (hn : ¬ t.isNil) (hB : F false g) (hr : RowP w' g t.kind t.pth t.vl K []) (hk : ∀ i, PAt w' F false (t.kid i) (K i)) : PAt w' F false t (ptr g) :=
  (PAt.iff hn).2 ⟨g, false, K, rfl, (fun h => by cases h), hB, hr, hk⟩
/-- Any new block may be of a tree. -/
def Fm.fresh (F : Fm) (w : World) : Prop := ∀ g, w.heap.size ≤ g → F false g
theorem Fm.fresh.size {F : Fm} {w w' : World} (h : F.fresh w) (hs : w.heap.size ≤ w'.heap.size) : F.fresh w' := fun g hg => h g (Nat.le_trans hs hg)
theorem Fm.fresh.off {F : Fm} {w : World} (h : F.fresh w) {q : Nat} (hq : q < w.heap.size) : (F.off q).fresh w := fun g hg => ⟨h g hg, by omega⟩
/-- What a call answers: a tree, its new parts without sums. -/
def MadeT (w : World) (F : Fm) (t : Tr) (e : Ending) (w' : World) : Prop := ∃ v, e = .returned v ∧ PAt w' F false t v ∧ Below w.heap.size w w'

set_option maxRecDepth 100000 in
theorem leaf_any (p x : T) (w : World) (F : Fm) (hB : F.fresh w) :
    Calls Tryd.prog 62 #[.string ⟨p.toArray⟩, .string ⟨x.toArray⟩] w (MadeT w F (.leaf p x)) := by
  unfold MadeT
  go_enter Tryd.func62, Tryd.ntmps62
  go_wp2
  go_ret
  refine ⟨_, rfl, PAt.new (K := noK) id (hB _ (Nat.le_refl _)) (RowP.new rfl) (fun i => rfl), (Below.refl _ w).alloc (Nat.le_refl _) _⟩

set_option maxRecDepth 100000 in
theorem half_any (i : Fin 16) (w : World) :
    Calls Tryd.prog 67 #[.int .i64 i.val] w fun e w' => e = .returned (.string ⟨[hb i].toArray⟩) ∧ Below w.heap.size w w' := by
  have hi := i.isLt
  have e1 : (i.val : Int) % 256 = (i.val : Int) := by omega
  have hc := conv_one' w (hb i) (i.val : Int) (by rw [Tri.hb_toNat]) w.heap.size rfl
  have h0 : (0 : Int) ≤ (i.val : Int) := by omega
  have h1 : (i.val : Int) ≤ 255 := by omega
  go_enter Tryd.func67, Tryd.ntmps67
  go_wp2
  go_ret
  exact ⟨rfl, (Below.refl _ w).alloc (Nat.le_refl _) _⟩
/-- The place of a kid. -/
def placeT (k : Nat) (e : T) (i : Fin 16) : T := if k = 3 then e ++ [hb i] else e
set_option maxRecDepth 100000 in
theorem place_any (k : Nat) (e : T) (i : Fin 16) (w : World) (he : e.length ≤ 1000) (hk : k ≤ 3) :
    Calls Tryd.prog 55 #[.int .i64 k, .string ⟨e.toArray⟩, .int .i64 i.val] w fun r w' => r = .returned (.string ⟨(placeT k e i).toArray⟩) ∧ Below w.heap.size w w' := by
  unfold placeT
  by_cases h : k = 3
  · subst h
    rw [if_pos rfl]
    have HH := Lib.hid (fun w => half_any i w)
    have hcm := cat_mk e [hb i]
    go_enter Tryd.func55, Tryd.ntmps55
    go_wp2_with fail
    refine (HH.out _).mono ?_
    rintro r w1 ⟨rfl, hb1⟩
    go_wp2
    go_ret
    exact ⟨rfl, hb1⟩
  · rw [if_neg h]
    have h1 : ¬ ((k : Int) = 3) := by omega
    have h2 : ((k : Int) == 3) = false := by rw [beq_eq_false_iff_ne]; exact h1
    go_enter Tryd.func55, Tryd.ntmps55
    go_wp2
    go_ret
    exact ⟨rfl, Below.refl _ _⟩
theorem pcl_load (k : Nat) (p x s : T) (K : Ks) : (Tryd.prog.info? 73).map (·.size) = some (pcl k p x K s).toArray.size := by
  rw [List.size_toArray, pcl_length]; kernel_rfl
theorem pcl_one (k : Nat) (p x s : T) (K : Ks) (hK : ∀ i, (K i).oneCell' = true) : (pcl k p x K s).toArray.all (·.oneCell') = true := by
  rw [← Array.all_toList, List.all_eq_true]
  intro v hv
  simp only [pcl, List.mem_cons, List.mem_append, List.mem_ofFn, List.not_mem_nil, or_false] at hv
  rcases hv with rfl | rfl | rfl | ⟨i, rfl⟩ | rfl
  · rfl
  · rfl
  · rfl
  · exact hK i
  · rfl
set_option maxRecDepth 100000 in
set_option maxHeartbeats 1000000 in
theorem open_any {g k : Nat} {p x s : T} {K : Ks} (w : World) (h : RowP w g k p x K s) (hK : ∀ i, (K i).oneCell' = true) :
    Calls Tryd.prog 52 #[ptr g] w fun r w' => r = .returned (ptr w.heap.size) ∧ RowP w' w.heap.size k p x K [] ∧ Below w.heap.size w w' := by
  have hi := pcl_load k p x s K
  have ho := pcl_one k p x s K hK
  have hset := pcl_set k p x K s []
  have hl : (pcl k p x K s).toArray.size = 20 := by rw [List.size_toArray, pcl_length]
  have hc : (pcl k p x K s).toArray[19]? = some (.string ⟨s.toArray⟩) := by
    have h1 : RowP w g k p x K s := h
    have h2 := h1.sum
    rw [cell_of_row w g 19 _ _ _ h] at h2
    exact h2
  unfold RowP at h ⊢
  unfold ptr
  generalize (pcl k p x K []).toArray = D at hset ⊢
  generalize (pcl k p x K s).toArray = C at h hi ho hset hl hc
  have hat : (w.alloc (.cells C 73)).heap[w.heap.size]? = some (.cells C 73 (0, 0)) := heap_alloc_new w _
  have hcell : (w.alloc (.cells C 73)).cell? ⟨w.heap.size, 19, none⟩ = some (.string ⟨s.toArray⟩) := by rw [cell_of_row _ _ 19 _ _ _ hat]; exact hc
  have hfr : (w.alloc (.cells C 73)).frozen? ⟨w.heap.size, 19, none⟩ = false := frozen_of_row _ _ _ _ _ hat
  have HR := Lib.hid h
  have HI := Lib.hid hi
  have HO := Lib.hid ho
  have HL := Lib.hid hl
  have HS := Lib.hid hset
  clear h hi ho hset hl hc hat
  go_enter Tryd.func52, Tryd.ntmps52
  go_wp2_with (first | (refine wpList_load_row (by rfl) _ _ (by rfl) g (by rfl) _ C _ _ HR.out Tryd.underlying73 (by rfl) HI.out ?_) | (refine wpList_store_fresh (by rfl) _ _ _ (by rfl) w.heap.size rfl C (by rfl) (by rfl) _ _ HI.out HL.out.symm HO.out ?_))
  go_ret
  exact ⟨rfl, by rw [HS.out]; exact heap_alloc_new w _, (Below.refl _ w).alloc (Nat.le_refl _) _⟩
theorem PAt.cellK {w : World} {F : Fm} {s : Bool} {t : Tr} {v : Value} (h : PAt w F s t v) : v = nilp ∨ ∃ g, v = ptr g := by
  by_cases hn : t.isNil
  · rw [Tri.isNil_eq hn] at h; exact Or.inl h
  · obtain ⟨g, _, _, e, _⟩ := h.row hn; exact Or.inr ⟨g, e⟩
theorem PAt.oneCell {w : World} {F : Fm} {s : Bool} {t : Tr} {v : Value} (h : PAt w F s t v) : v.oneCell' = true := by
  rcases h.cellK with rfl | ⟨g, rfl⟩ <;> rfl
def oneK (a : Value) : Ks := fun i => if i = 0 then a else nilp
theorem pcl_path (k : Nat) (p p' x : T) (K : Ks) (s : T) : (pcl k p x K s).toArray.setIfInBounds 1 (.string ⟨p'.toArray⟩) = (pcl k p' x K s).toArray := by
  rw [List.setIfInBounds_toArray]; rfl
theorem RowP.setPath {w : World} {g k : Nat} {p x s : T} {K : Ks} (h : RowP w g k p x K s) (p' : T) : RowP (w.setCell ⟨g, 1, none⟩ (.string ⟨p'.toArray⟩)) g k p' x K s := by
  have := heap_setCell_same _ _ 1 _ _ (.string ⟨p'.toArray⟩) h
  rw [pcl_path] at this
  exact this
theorem RowP.free {w : World} {g k : Nat} {p x s : T} {K : Ks} (h : RowP w g k p x K s) (i : Nat) : w.frozen? ⟨g, i, none⟩ = false := frozen_of_row _ _ _ _ _ h
theorem lay_parts (p : T) {t : Tr} (hn : ¬ t.isNil) (h3 : t.kind ≠ 3) : (lay p t).kind = t.kind ∧ (lay p t).pth = p ++ t.pth ∧ (lay p t).vl = t.vl ∧ ∀ i, (lay p t).kid i = t.kid i := by
  cases t with
  | nil => exact absurd trivial hn
  | leaf q x => exact ⟨rfl, rfl, rfl, fun _ => rfl⟩
  | ext q u => exact ⟨rfl, rfl, rfl, fun _ => rfl⟩
  | br x k => exact absurd rfl h3
set_option maxRecDepth 100000 in
set_option maxHeartbeats 1000000 in
/-- A path laid above a tree. -/
theorem behind_any {t : Tr} {v : Value} (p : T) (w : World) (F : Fm) (hB : F.fresh w) (h : PAt w F false t v) (hp : p = [] ∨ ¬ t.isNil) (hpl : p.length ≤ 1000) (hql : t.pth.length ≤ 1000) :
    Calls Tryd.prog 51 #[v, .string ⟨p.toArray⟩] w (MadeT w F (lay p t)) := by
  unfold MadeT
  by_cases hp0 : p = []
  · subst hp0
    rw [Tri.lay_nil]
    have HP := Lib.hid h
    clear h hp
    go_enter Tryd.func51, Tryd.ntmps51
    go_wp2
    go_ret
    exact ⟨v, rfl, HP.out, Below.refl _ _⟩
  · have hn := hp.resolve_left hp0
    obtain ⟨g, s', K, rfl, -, h2, hr, hk⟩ := h.row hn
    have hpe : (p == []) = false := by rw [beq_eq_false_iff_ne]; exact hp0
    have HP := Lib.hid h
    have n0 := hr.kind
    by_cases h3 : t.kind = 3
    · have e3 : ((t.kind : Int) == 3) = true := by rw [h3]; rfl
      rw [h3] at n0
      have HL : Hid (lay p t = .ext p t) := Lib.hid (by
        cases t with
        | br x k => simp [lay, Tri.above, hp0]
        | _ => cases h3)
      unfold ptr
      clear h hp hr hk
      go_enter Tryd.func51, Tryd.ntmps51
      go_wp2
      go_ret
      rw [HL.out]
      refine ⟨_, rfl, ?_, (Below.refl _ w).alloc (Nat.le_refl _) _⟩
      refine PAt.new (K := oneK (ptr g)) id (hB _ (Nat.le_refl _)) (RowP.new rfl) fun i => ?_
      simp only [Tri.Tr.kid, oneK]
      split
      · exact HP.out.below ((Below.refl _ w).alloc (Nat.le_refl _) _)
      · rfl
    · have e3 : ((t.kind : Int) == 3) = false := by rw [beq_eq_false_iff_ne]; omega
      have HO := Lib.hid (open_any w hr (fun i => (hk i).oneCell))
      have n1 := hr.path
      have HL := Lib.hid (lay_parts p hn h3)
      have HKK := Lib.hid hk
      have HN := Lib.hid (Tri.lay_nn (p := p) hn)
      have HR := Lib.hid hr
      unfold ptr at HO ⊢
      obtain ⟨q, hq⟩ : ∃ q, t.pth = q := ⟨_, rfl⟩
      rw [hq] at n1 hql
      have HQ := Lib.hid hq
      have hcm := cat_mk p q
      obtain ⟨kd, hkd⟩ : ∃ kd, t.kind = kd := ⟨_, rfl⟩
      rw [hkd] at n0 e3
      have HKD := Lib.hid hkd
      clear h hp hr hk hq h2 hkd h3
      go_enter Tryd.func51, Tryd.ntmps51
      go_wp2_with fail
      refine HO.out.mono ?_
      rintro r w1 ⟨rfl, hr1, hb1⟩
      have m1 := hr1.path
      have m2 := hr1.free 1
      have m3 := HR.out.below hb1
      have m4 := m3.path
      rw [HQ.out] at m1 m4
      go_wp2
      go_ret
      obtain ⟨l1, l2, l3, l4⟩ := HL.out
      have hb2 := hb1.setCell (p := ⟨w.heap.size, 1, none⟩) (Nat.le_refl _) (.string ⟨(p ++ q).toArray⟩)
      refine ⟨_, rfl, PAt.new (K := K) HN.out (hB _ (Nat.le_refl _)) ?_ (fun i => ?_), hb2⟩
      · rw [l1, l2, l3, HQ.out]
        exact hr1.setPath _
      · rw [l4]
        exact ((HKK.out i).weak).below hb2
end Go.Proofs.YtikabacebmbacaaDoor
namespace Go.Proofs.YtikabacebmbacaaDoor
open Go.RowKit
open Sto (T)
open Tri (Tr Ok upd ix hb lay splitT)

theorem pcl_val (k : Nat) (p x x' : T) (K : Ks) (s : T) : (pcl k p x K s).toArray.setIfInBounds 2 (.string ⟨x'.toArray⟩) = (pcl k p x' K s).toArray := by
  rw [List.setIfInBounds_toArray]; rfl
theorem RowP.setVal {w : World} {g k : Nat} {p x s : T} {K : Ks} (h : RowP w g k p x K s) (x' : T) : RowP (w.setCell ⟨g, 2, none⟩ (.string ⟨x'.toArray⟩)) g k p x' K s := by
  have := heap_setCell_same _ _ 2 _ _ (.string ⟨x'.toArray⟩) h
  rw [pcl_val] at this
  exact this
/-- One of sixteen set. -/
def updK (K : Ks) (i : Fin 16) (v : Value) : Ks := fun j => if j = i then v else K j
theorem ofFn_set (K : Ks) (i : Fin 16) (v : Value) : (List.ofFn K).set i.val v = List.ofFn (updK K i v) := by
  refine List.ext_getElem (by simp) fun n h1 h2 => ?_
  rw [List.getElem_set, List.getElem_ofFn, List.getElem_ofFn]
  unfold updK
  by_cases e : i.val = n
  · rw [if_pos e, if_pos (Fin.ext e.symm)]
  · rw [if_neg e, if_neg (fun h => e (by rw [← h]))]
theorem pcl_kid (k : Nat) (p x : T) (K : Ks) (s : T) (i : Fin 16) (v : Value) : (pcl k p x K s).toArray.setIfInBounds (3 + i.val) v = (pcl k p x (updK K i v) s).toArray := by
  have hi := i.isLt
  rw [List.setIfInBounds_toArray]
  congr 1
  unfold pcl
  rw [Nat.add_comm 3 i.val]
  simp only [List.set_cons_succ]
  rw [List.set_append_left _ _ (by simp), ofFn_set]
theorem RowP.setKid {w : World} {g k : Nat} {p x s : T} {K : Ks} (h : RowP w g k p x K s) (i : Fin 16) (v : Value) : RowP (w.setCell ⟨g, 3 + i.val, none⟩ v) g k p x (updK K i v) s := by
  have := heap_setCell_same _ _ (3 + i.val) _ _ v h
  rw [pcl_kid] at this
  exact this
theorem ix_val {a : UInt8} (h : a.toNat ≤ 15) : (ix a).val = a.toNat := by simp only [ix]; omega
theorem byte_drop {p r : T} {n : Nat} {a : UInt8} (h : p.drop n = a :: r) : ∀ hh, (⟨p.toArray⟩ : ByteArray)[n]'hh = a := by
  intro hh
  have hl : n < p.length := by
    have := congrArg List.length h
    simp at this; omega
  show p.toArray[n]'_ = a
  rw [List.getElem_toArray]
  have := List.drop_eq_getElem_cons hl
  rw [h] at this
  exact (List.cons.inj this).1.symm
theorem tail_drop {p r : T} {n : Nat} {a : UInt8} (h : p.drop n = a :: r) : (⟨p.toArray⟩ : ByteArray).extract (n + 1) p.length = ⟨r.toArray⟩ := by
  rw [ext_drop]
  have : p.drop (n + 1) = r := by
    rw [← List.drop_drop, h]; rfl
  rw [this]

set_option maxRecDepth 100000 in
set_option maxHeartbeats 2000000 in
theorem split_any {t : Tr} {g : Nat} (n : Nat) (w : World) (F : Fm) (hB : F.fresh w) (h : PAt w F false t (ptr g)) (hk : t.kind = 1 ∨ t.kind = 2) (hf : t.firm) (hfit : t.fits) (hpl : t.pth.length ≤ 1000) (hn : n ≤ t.pth.length) (hne : t.kind = 2 → n < t.pth.length) :
    Calls Tryd.prog 64 #[ptr g, .int .i64 n] w (MadeT w F (splitT n t)) := by
  unfold MadeT
  have hnn : ¬ t.isNil := fun e => by rw [← Tri.kind_nil] at e; omega
  obtain ⟨g', s', K, e, -, -, hr, hkk⟩ := h.row hnn
  obtain rfl := ptr_inj e
  have hb0 : Below w.heap.size w (w.alloc (.cells (pcl 3 [] [] noK []).toArray 73)) := (Below.refl _ w).alloc (Nat.le_refl _) _
  have r1 : RowP (w.alloc (.cells (pcl 3 [] [] noK []).toArray 73)) w.heap.size 3 [] [] noK [] := RowP.new rfl
  have hr1 := hr.below hb0
  have n0 := hr1.kind
  have n1 := hr1.path
  have n2 := hr1.val
  have m2 := r1.val
  have f2 := r1.free 2
  have HP := Lib.hid h
  have HKK := Lib.hid hkk
  have HR := Lib.hid hr
  have HR1 := Lib.hid r1
  have HB0 := Lib.hid hb0
  obtain ⟨C, hC⟩ : ∃ C, (pcl 3 [] [] noK []).toArray = C := ⟨_, rfl⟩
  have HBL : Hid (Tryd.prog.built 73 [(0, .int .i64 3)] = some C) := Lib.hid (by rw [← hC]; kernel_rfl)
  rw [hC] at n0 n1 n2 m2 f2 HB0 HR1
  obtain ⟨p, hp⟩ : ∃ p, t.pth = p := ⟨_, rfl⟩
  obtain ⟨x, hx⟩ : ∃ x, t.vl = x := ⟨_, rfl⟩
  rw [hp] at n1 hpl hn hne
  rw [hx] at n2
  have HPP := Lib.hid hp
  have HX := Lib.hid hx
  by_cases hlt : n < p.length
  · obtain ⟨a, r, hd⟩ : ∃ a r, p.drop n = a :: r := ⟨_, _, List.drop_eq_getElem_cons hlt⟩
    have hfp : Nib.fitL p = true := by
      rcases hk with h1 | h1
      · cases t with
        | leaf q y => obtain rfl : q = p := hp; exact hfit
        | _ => cases h1
      · cases t with
        | ext q y => obtain rfl : q = p := hp; exact hfit.1
        | _ => cases h1
    have ha := (Tri.fit_cons.1 (hd ▸ Tri.fit_drop n hfp)).1
    have hbyte := byte_drop hd
    have htail := tail_drop hd
    have e2 : ((n : Int) == (p.length : Int)) = false := by rw [beq_eq_false_iff_ne]; omega
    have z1 : (0 : Int) ≤ (n : Int) := by omega
    have z2 : (n : Int) < (p.length : Int) := by omega
    have z3 : (0 : Int) ≤ (n : Int) + 1 := by omega
    have z4 : (n : Int) + 1 ≤ (p.length : Int) := by omega
    have z5 : ((n : Int) + 1).toNat = n + 1 := by omega
    have z8 : IntKind.i64.wrap ((n : Int) + 1) = (n : Int) + 1 := IntWalk.i64_in _ (by omega)
    have z6 : (0 : Int) ≤ (a.toNat : Int) := by omega
    have z7 : (a.toNat : Int) < 16 := by omega
    have HIX := Lib.hid (ix_val ha)
    have hrl : r.length ≤ 1000 := by have := congrArg List.length hd; simp at this; omega
    rcases hk with h1 | h1
    · rw [h1] at n0
      have HS : Hid (splitT n t = .br [] (upd Tri.bare (ix a) (.leaf r x))) := Lib.hid (by
        cases t with
        | leaf q y =>
          obtain rfl : q = p := hp
          obtain rfl : y = x := hx
          exact Tri.split_leaf1 hd
        | _ => cases h1)
      have HLF : Hid (∀ w', Below w.heap.size w w' → w.heap.size < w'.heap.size → Calls Tryd.prog 62 #[.string ⟨r.toArray⟩, .string ⟨x.toArray⟩] w' fun e w'' => ∃ v, e = .returned v ∧ PAt w'' (F.off w.heap.size) false (.leaf r x) v ∧ Below w'.heap.size w' w'') := Lib.hid (fun w' hb hs => (leaf_any r x w' _ ((hB.size hb.size).off hs)))
      unfold ptr
      clear h hr hkk hf hfit hp hx hne hn hlt hr1 r1 hb0 h1 hC hpl hfp ha hd m2 f2
      go_enter Tryd.func64, Tryd.ntmps64
      go_wp2_with (refine wpList_build_some (by rfl) _ _ (by rfl) [(0, .int .i64 3)] (by first | rfl | (simp [Act.eval]; done) | kernel_rfl) C HBL.out ?_)
      obtain ⟨q, hq⟩ : ∃ q, w.heap.size = q := ⟨_, rfl⟩
      have HQ := Lib.hid hq
      obtain ⟨w0, hw0⟩ : ∃ w0, w.alloc (.cells C 73) = w0 := ⟨_, rfl⟩
      rw [hw0] at HR1 HB0 n0 n1 n2 ⊢
      rw [hq] at HR1 ⊢
      have HSZ : Hid (w.heap.size < w0.heap.size) := Lib.hid (by rw [← hw0]; simp)
      have HN1 : Hid (∀ w', Below w0.heap.size w0 w' → w'.cell? ⟨g, 1, none⟩ = some (.string ⟨p.toArray⟩) ∧ w'.cell? ⟨g, 2, none⟩ = some (.string ⟨x.toArray⟩) ∧ w'.cell? ⟨q, 3 + a.toNat, none⟩ = some (.pointer none) ∧ w'.frozen? ⟨q, 3 + a.toNat, none⟩ = false) := Lib.hid (fun w' hb => by
        have k1 := (HR.out.below HB0.out).below hb
        have k2 := HR1.out.below hb
        refine ⟨by rw [k1.path, HPP.out], by rw [k1.val, HX.out], ?_, k2.free _⟩
        have := k2.kid (ix a)
        rw [HIX.out] at this
        exact this)
      have HGQ : Hid (g < q) := Lib.hid (by rw [← hq]; exact lt_of_heap HR.out)
      have HK1 : Hid (∀ w' v, Below w0.heap.size w0 w' → (w'.setCell ⟨q, 3 + a.toNat, none⟩ v).cell? ⟨g, 1, none⟩ = some (.string ⟨p.toArray⟩) ∧ (w'.setCell ⟨q, 3 + a.toNat, none⟩ v).cell? ⟨g, 2, none⟩ = some (.string ⟨x.toArray⟩)) := Lib.hid (fun w' v hb => ⟨keep_cell (HN1.out w' hb).1 (Nat.ne_of_lt HGQ.out), keep_cell (HN1.out w' hb).2.1 (Nat.ne_of_lt HGQ.out)⟩)
      have BD : Below w0.heap.size w0 w0.drew := (Below.refl _ _).drew
      have HLF2 : Hid (∀ w', Below w0.heap.size w0 w' → Calls Tryd.prog 62 #[.string ⟨r.toArray⟩, .string ⟨x.toArray⟩] w' fun e w'' => ∃ g6, e = .returned (.pointer (some ⟨g6, 0, none⟩)) ∧ PAt w'' (F.off q) false (.leaf r x) (ptr g6) ∧ Below w0.heap.size w0 w'') := Lib.hid (fun w' hb => (HLF.out w' (HB0.out.trans (hb.mono (Nat.le_of_lt HSZ.out))) (Nat.lt_of_lt_of_le HSZ.out hb.size)).mono fun e w'' ⟨v, e1, hp, hb2⟩ => by
        obtain ⟨g6, _, _, rfl, _⟩ := hp.row id
        exact ⟨g6, e1, by rw [← hq]; exact hp, hb.trans (hb2.mono hb.size)⟩)
      obtain ⟨c1, c2, c3, c4⟩ := HN1.out _ BD
      clear hq hw0 n0 n1 n2 HLF
      go_region_held3 (fun w' => w'.cell? ⟨g, 1, none⟩ = some (.string ⟨p.toArray⟩) ∧ w'.cell? ⟨g, 2, none⟩ = some (.string ⟨x.toArray⟩))
        ((first | (with_reducible exact ⟨c1, c2⟩) | (with_reducible exact ⟨d1, d2⟩) | (refine HK1.out _ _ ?_; with_reducible assumption)))
        ((go_at_call 62; refine (HLF2.out _ ?_).mono ?_; (with_reducible assumption); rintro e w6 ⟨g6, rfl, hp6, hb6⟩; obtain ⟨d1, d2, d3, d4⟩ := HN1.out _ hb6))
      all_goals
        go_wp2
        go_ret
        rw [HS.out]
        have hbq : Below w.heap.size w w6 := HB0.out.trans (hb6.mono (Nat.le_of_lt HSZ.out))
        refine ⟨_, rfl, PAt.new (K := updK noK (ix a) (ptr g6)) id (hB _ (Nat.le_of_eq HQ.out)) ?_ (fun i => ?_), hbq.setCell (p := ⟨q, _, none⟩) (Nat.le_of_eq HQ.out) _⟩
        · have := (HR1.out.below hb6).setKid (ix a) (ptr g6)
          rw [HIX.out] at this
          exact this
        · simp only [Tri.Tr.kid, updK, Tri.upd]
          split
          · exact hp6.off _ _
          · rfl
    · rw [h1] at n0
      obtain ⟨u, hu⟩ : ∃ u, t.kid 0 = u := ⟨_, rfl⟩
      have hub : u.isBr := by
        rw [← hu]
        cases t with
        | ext q y => exact hf.2.1
        | _ => cases h1
      have hun : ¬ u.isNil := by cases u <;> simp_all [Tri.Tr.isBr, Tri.Tr.isNil]
      have hup : u.pth.length ≤ 1000 := by cases u <;> simp_all [Tri.Tr.isBr, Tri.Tr.pth]
      have HUN := Lib.hid (Tri.lay_nn (p := r) hun)
      have HS : Hid (splitT n t = .br [] (upd Tri.bare (ix a) (lay r u))) := Lib.hid (by
        cases t with
        | ext q y =>
          obtain rfl : q = p := hp
          obtain rfl : y = u := hu
          exact Tri.split_ext1 hd
        | _ => cases h1)
      obtain ⟨vk, hvk⟩ : ∃ v, K 0 = v := ⟨_, rfl⟩
      have hku : PAt w (F.off w.heap.size) false u vk := by
        rw [← hu, ← hvk]
        exact (hkk 0).weak.new_off (Nat.le_refl _)
      have HVK := Lib.hid hvk
      have HLF : Hid (∀ w', Below w.heap.size w w' → w.heap.size < w'.heap.size → Calls Tryd.prog 51 #[vk, .string ⟨r.toArray⟩] w' fun e w'' => ∃ v, e = .returned v ∧ PAt w'' (F.off w.heap.size) false (lay r u) v ∧ Below w'.heap.size w' w'') := Lib.hid (fun w' hb hs => (behind_any r w' _ ((hB.size hb.size).off hs) (hku.below hb) (Or.inr hun) hrl hup))
      unfold ptr
      clear hu hub hun hup hvk hku h hr hkk hf hfit hp hx hne hn hlt hr1 r1 hb0 h1 hC hpl hfp ha hd m2 f2
      go_enter Tryd.func64, Tryd.ntmps64
      go_wp2_with (refine wpList_build_some (by rfl) _ _ (by rfl) [(0, .int .i64 3)] (by first | rfl | (simp [Act.eval]; done) | kernel_rfl) C HBL.out ?_)
      obtain ⟨q, hq⟩ : ∃ q, w.heap.size = q := ⟨_, rfl⟩
      have HQ := Lib.hid hq
      obtain ⟨w0, hw0⟩ : ∃ w0, w.alloc (.cells C 73) = w0 := ⟨_, rfl⟩
      rw [hw0] at HR1 HB0 n0 n1 n2 ⊢
      rw [hq] at HR1 ⊢
      have HSZ : Hid (w.heap.size < w0.heap.size) := Lib.hid (by rw [← hw0]; simp)
      have HN1 : Hid (∀ w', Below w0.heap.size w0 w' → w'.cell? ⟨g, 1, none⟩ = some (.string ⟨p.toArray⟩) ∧ w'.cell? ⟨g, 3, none⟩ = some vk ∧ w'.cell? ⟨q, 3 + a.toNat, none⟩ = some (.pointer none) ∧ w'.frozen? ⟨q, 3 + a.toNat, none⟩ = false) := Lib.hid (fun w' hb => by
        have k1 := (HR.out.below HB0.out).below hb
        have k2 := HR1.out.below hb
        refine ⟨by rw [k1.path, HPP.out], by rw [← HVK.out]; exact k1.kid 0, ?_, k2.free _⟩
        have := k2.kid (ix a)
        rw [HIX.out] at this
        exact this)
      have HGQ : Hid (g < q) := Lib.hid (by rw [← hq]; exact lt_of_heap HR.out)
      have HK1 : Hid (∀ w' v, Below w0.heap.size w0 w' → (w'.setCell ⟨q, 3 + a.toNat, none⟩ v).cell? ⟨g, 1, none⟩ = some (.string ⟨p.toArray⟩) ∧ (w'.setCell ⟨q, 3 + a.toNat, none⟩ v).cell? ⟨g, 3, none⟩ = some vk) := Lib.hid (fun w' v hb => ⟨keep_cell (HN1.out w' hb).1 (Nat.ne_of_lt HGQ.out), keep_cell (HN1.out w' hb).2.1 (Nat.ne_of_lt HGQ.out)⟩)
      have BD : Below w0.heap.size w0 w0.drew := (Below.refl _ _).drew
      have HLF2 : Hid (∀ w', Below w0.heap.size w0 w' → Calls Tryd.prog 51 #[vk, .string ⟨r.toArray⟩] w' fun e w'' => ∃ g6, e = .returned (.pointer (some ⟨g6, 0, none⟩)) ∧ PAt w'' (F.off q) false (lay r u) (ptr g6) ∧ Below w0.heap.size w0 w'') := Lib.hid (fun w' hb => (HLF.out w' (HB0.out.trans (hb.mono (Nat.le_of_lt HSZ.out))) (Nat.lt_of_lt_of_le HSZ.out hb.size)).mono fun e w'' ⟨v, e1, hp, hb2⟩ => by
        obtain ⟨g6, _, _, rfl, _⟩ := hp.row HUN.out
        exact ⟨g6, e1, by rw [← hq]; exact hp, hb.trans (hb2.mono hb.size)⟩)
      obtain ⟨c1, c2, c3, c4⟩ := HN1.out _ BD
      clear hq hw0 n0 n1 n2 HLF
      go_region_held3 (fun w' => w'.cell? ⟨g, 1, none⟩ = some (.string ⟨p.toArray⟩) ∧ w'.cell? ⟨g, 3, none⟩ = some vk)
        ((first | (with_reducible exact ⟨c1, c2⟩) | (with_reducible exact ⟨d1, d2⟩) | (refine HK1.out _ _ ?_; with_reducible assumption)))
        ((go_at_call 51; refine (HLF2.out _ ?_).mono ?_; (with_reducible assumption); rintro e w6 ⟨g6, rfl, hp6, hb6⟩; obtain ⟨d1, d2, d3, d4⟩ := HN1.out _ hb6))
      all_goals
        go_wp2
        go_ret
        rw [HS.out]
        have hbq : Below w.heap.size w w6 := HB0.out.trans (hb6.mono (Nat.le_of_lt HSZ.out))
        refine ⟨_, rfl, PAt.new (K := updK noK (ix a) (ptr g6)) id (hB _ (Nat.le_of_eq HQ.out)) ?_ (fun i => ?_), hbq.setCell (p := ⟨q, _, none⟩) (Nat.le_of_eq HQ.out) _⟩
        · have := (HR1.out.below hb6).setKid (ix a) (ptr g6)
          rw [HIX.out] at this
          exact this
        · simp only [Tri.Tr.kid, updK, Tri.upd]
          split
          · exact hp6.off _ _
          · rfl
  · obtain rfl : n = p.length := by omega
    have h1 : t.kind = 1 := by rcases hk with h | h; exact h; exact absurd (hne h) hlt
    have e2 : ((p.length : Int) == (p.length : Int)) = true := beq_self_eq_true _
    have HS : Hid (splitT p.length t = .br x Tri.bare) := Lib.hid (by
      cases t with
      | leaf q y =>
        obtain rfl : q = p := hp
        obtain rfl : y = x := hx
        exact Tri.split_leaf0 (by simp)
      | _ => cases h1)
    have HSV : Hid (C.setIfInBounds 2 (.string ⟨x.toArray⟩) = (pcl 3 [] x noK []).toArray) := Lib.hid (by rw [← hC]; exact pcl_val ..)
    unfold ptr
    clear h hr hkk hk hf hfit hp hx hne hn hlt hr1 r1 hb0 h1 n0 hC
    go_enter Tryd.func64, Tryd.ntmps64
    go_wp2_with (refine wpList_build_some (by rfl) _ _ (by rfl) [(0, .int .i64 3)] (by first | rfl | (simp [Act.eval]; done) | kernel_rfl) C HBL.out ?_)
    go_ret
    rw [HS.out, HSV.out]
    exact ⟨_, rfl, PAt.new (K := noK) id (hB _ (Nat.le_refl _)) (RowP.new rfl) (fun i => rfl), (Below.refl _ w).alloc (Nat.le_refl _) _⟩
end Go.Proofs.YtikabacebmbacaaDoor
namespace Go.Proofs.YtikabacebmbacaaDoor
open Go.RowKit
open Sto (T)
open Tri (Tr Ok upd ix hb lay splitT Trim rank)

/-- The kids that are there, of the first n. -/
def seenT (k : Fin 16 → Tr) (n : Nat) : List (Fin 16) := ((List.finRange 16).take n).filter fun i => !(k i).nilB
def lastT (L : List (Fin 16)) : Nat := match L.getLast? with | none => 0 | some i => i.val
theorem seen_all (k : Fin 16 → Tr) : seenT k 16 = Tri.there k := by
  unfold seenT Tri.there
  rw [List.take_of_length_le (by simp)]
theorem seen_succ (k : Fin 16 → Tr) (i : Fin 16) : seenT k (i.val + 1) = if (k i).nilB then seenT k i.val else seenT k i.val ++ [i] := by
  unfold seenT
  have hl : i.val < (List.finRange 16).length := by simp
  rw [List.take_succ_eq_append_getElem hl, List.filter_append]
  have e : (List.finRange 16)[i.val] = i := by simp
  rw [e]
  cases h : (k i).nilB <;> simp [h]
theorem last_append (L : List (Fin 16)) (i : Fin 16) : lastT (L ++ [i]) = i.val := by simp [lastT]
theorem seen_len (k : Fin 16 → Tr) (n : Nat) : (seenT k n).length ≤ 16 := by
  unfold seenT
  refine Nat.le_trans (List.length_filter_le _ _) ?_
  simp; omega
def kcl (K : Ks) : List Value := List.ofFn K
theorem kcl_length (K : Ks) : (kcl K).length = 16 := by simp [kcl]
theorem RowP.range {w : World} {g k : Nat} {p x s : T} {K : Ks} (h : RowP w g k p x K s) : w.rangeAt g 3 (kcl K) := by
  intro j v hv
  have hj : j < 16 := by
    rcases Nat.lt_or_ge j 16 with h2 | h2
    · exact h2
    · rw [List.getElem?_eq_none (by rw [kcl_length]; exact h2)] at hv; cases hv
  have := h.kid ⟨j, hj⟩
  rw [this]
  unfold kcl at hv
  rw [List.getElem?_ofFn, dif_pos hj] at hv
  exact hv
set_option maxRecDepth 100000 in
theorem kcl_info (K : Ks) : (Tryd.prog.info? 71).map (·.size) = some (kcl K).length := by rw [kcl_length]; kernel_rfl
set_option maxRecDepth 100000 in
theorem index_kids (K : Ks) (i : Fin 16) (w : World) : (Instr.index 71 (.agg (kcl K).toArray) (.int .i64 i.val)).run Tryd.prog w = .ok (K i) w := by
  have hi := i.isLt
  have hu := Tryd.underlying71
  have hk0 : (0 : Int) ≤ (i.val : Int) := by omega
  have hk8 : (i.val : Int) < 16 := by omega
  have hat : (kcl K)[i.val]? = some (K i) := by
    unfold kcl
    rw [List.getElem?_ofFn, dif_pos hi]
  have hs := Tryd.sizeOf61
  have ha := Tryd.isAgg61
  unfold Instr.index
  go_simp
theorem PAt.ptr {w : World} {F : Fm} {s : Bool} {t : Tr} {v : Value} (h : PAt w F s t v) (hn : ¬ t.isNil) : ∃ g, v = .pointer (some ⟨g, 0, none⟩) := by
  obtain ⟨g, _, _, e, _⟩ := h.row hn; exact ⟨g, e⟩
theorem narrow0 {v : T} {k : Fin 16 → Tr} (h : Tri.there k = []) : Tri.narrowT v k = .leaf [] v := by unfold Tri.narrowT; rw [h]
theorem narrow1 {v : T} {k : Fin 16 → Tr} {i : Fin 16} (h : Tri.there k = [i]) : Tri.narrowT v k = if v = [] then lay [hb i] (k i) else .br v k := by unfold Tri.narrowT; rw [h]
theorem narrow2 {v : T} {k : Fin 16 → Tr} {i j : Fin 16} {r : List (Fin 16)} (h : Tri.there k = i :: j :: r) : Tri.narrowT v k = .br v k := by unfold Tri.narrowT; rw [h]
set_option maxRecDepth 100000 in
set_option maxHeartbeats 2000000 in
theorem narrow_any {y : T} {k : Fin 16 → Tr} {g : Nat} (w : World) (F : Fm) (hF : F.fresh w) (h : PAt w F false (.br y k) (ptr g)) (hlow : ∀ i, (k i).low) :
    Calls Tryd.prog 53 #[ptr g] w (MadeT w F (Tri.narrowT y k)) := by
  obtain ⟨g', s', K, e, -, -, hr, hk⟩ := h.row id
  obtain rfl := ptr_inj e
  have HR := Lib.hid hr
  have HK : Hid (∀ i, PAt w F false (k i) (K i)) := Lib.hid (fun i => (hk i).weak)
  have HH := Lib.hid h
  have HRG := Lib.hid hr.range
  have HI := Lib.hid (kcl_info K)
  have HKE := Lib.hid (fun (i : Fin 16) w => index_kids K i w)
  have HLF := Lib.hid (leaf_any [] y w F hF)
  have HBH : Hid (∀ (i : Fin 16) w', Below w.heap.size w w' → ¬ (k i).isNil → Calls Tryd.prog 51 #[K i, .string ⟨[hb i].toArray⟩] w' (MadeT w' F (lay [hb i] (k i)))) := Lib.hid (fun i w' hbw hn =>
    behind_any [hb i] w' F (hF.size hbw.size) ((hk i).weak.below hbw) (Or.inr hn) (by simp) (by
      have := hlow i
      cases hki : k i <;> simp_all [Tri.Tr.low, Tri.Tr.pth] <;> omega))
  obtain ⟨NT, hNT⟩ : ∃ NT, Tri.narrowT y k = NT := ⟨_, rfl⟩
  rw [hNT]
  have HNT := Lib.hid hNT
  clear hNT
  unfold MadeT at HLF HBH ⊢
  unfold ptr
  have hcl := hk
  clear h hr hk hcl
  go_enter Tryd.func53, Tryd.ntmps53
  go_wp2_with (refine wpList_load_mid (by rfl) _ _ (by rfl) g 3 (by rfl) (kcl K) _ HRG.out Tryd.underlying71 (by rfl) HI.out ?_)
  obtain ⟨KC, hKC⟩ : ∃ KC, kcl K = KC := ⟨_, rfl⟩
  rw [hKC] at HKE HI HRG ⊢
  clear hKC
  go_loop [3, 4, 11] (fun a hs i => ∃ n : Nat, n ≤ 16 ∧ i = .int .i64 n ∧ a = .int .i64 (lastT (seenT k n)) ∧ hs = .int .i64 ((seenT k n).length : Nat)) (fun _ _ i => 16 - (intOf i).toNat)
  case atStart => exact ⟨0, Nat.zero_le _, rfl, rfl, rfl⟩
  case round =>
    obtain ⟨n, hn, rfl, rfl, rfl⟩ := hrel
    by_cases hlt : n < 16
    · obtain ⟨i, hi⟩ : ∃ i : Fin 16, i.val = n := ⟨⟨n, hlt⟩, rfl⟩
      have h1 : (n : Int) < 16 := by omega
      have h0 : (0 : Int) ≤ (n : Int) := by omega
      have n0 := HKE.out i
      rw [hi] at n0
      have HST := Lib.hid (seen_succ k i)
      rw [hi] at HST
      have HLA := Lib.hid (last_append (seenT k n) i)
      rw [hi] at HLA
      have hsl := seen_len k n
      obtain ⟨L, hL⟩ : ∃ L, seenT k n = L := ⟨_, rfl⟩
      rw [hL] at HST hsl HLA ⊢
      have z0 : IntKind.i64.wrap ((L.length : Int) + 1) = (L.length : Int) + 1 := IntWalk.i64_in _ (by omega)
      have hki := HK.out i
      by_cases hnl : (k i).isNil
      · have e : K i = .pointer none := by rw [Tri.isNil_eq hnl] at hki; exact hki
        rw [e] at n0
        rw [if_pos ((Tri.nilB_iff _).2 hnl)] at HST
        clear hki hnl hL e hsl
        go_wp2
        exact ⟨⟨n + 1, by omega, by go_num, by rw [HST.out], by rw [HST.out]⟩, by simp [intOf]; omega⟩
      · obtain ⟨g6, e⟩ := hki.ptr hnl
        rw [e] at n0
        have hnb : (k i).nilB = false := by
          cases hh : (k i).nilB with
          | false => rfl
          | true => exact absurd ((Tri.nilB_iff _).1 hh) hnl
        rw [if_neg (by rw [hnb]; decide)] at HST
        clear hki hnl hL e hsl hnb
        go_wp2
        exact ⟨⟨n + 1, by omega, by go_num, by rw [HST.out, HLA.out], by rw [HST.out, List.length_append]; go_num⟩, by simp [intOf]; omega⟩
    · obtain rfl : n = 16 := by omega
      rw [seen_all]
      have HTH : Hid (∀ i, i ∈ Tri.there k → ¬ (k i).isNil) := Lib.hid (fun i hi => Tri.mem_there.1 hi)
      have n2 := HR.out.val
      have n2' : w.cell? ⟨g, 2, none⟩ = some (.string ⟨y.toArray⟩) := n2
      clear n2
      cases hL : Tri.there k with
      | nil =>
        replace HNT : Hid (NT = .leaf [] y) := Lib.hid (HNT.out.symm.trans (narrow0 hL))
        have e1 : ((lastT ([] : List (Fin 16)) : Nat) : Int) = 0 := rfl
        clear hL
        go_wp2_with fail
        refine HLF.out.mono ?_
        rintro r w1 ⟨v, rfl, hp, hb⟩
        go_wp2
        go_ret
        rw [HNT.out]
        exact ⟨v, rfl, hp, hb⟩
      | cons i r =>
        cases r with
        | cons j r =>
          replace HNT : Hid (NT = .br y k) := Lib.hid (HNT.out.symm.trans (narrow2 hL))
          have e2 : (((i :: j :: r).length : Nat) : Int) = (r.length : Int) + 2 := by simp; omega
          have e3 : ((r.length : Int) + 2 == 0) = false := by rw [beq_eq_false_iff_ne]; omega
          have e4 : ((r.length : Int) + 2 == 1) = false := by rw [beq_eq_false_iff_ne]; omega
          obtain ⟨la, hla⟩ : ∃ la, lastT (i :: j :: r) = la := ⟨_, rfl⟩
          rw [e2, hla]
          clear hL hla e2
          go_wp2
          go_ret
          rw [HNT.out]
          exact ⟨_, rfl, HH.out, Below.refl _ _⟩
        | nil =>
          have HNI := Lib.hid (HTH.out i (by rw [hL]; exact List.mem_singleton.2 rfl))
          replace HNT : Hid (NT = if y = [] then lay [hb i] (k i) else .br y k) := Lib.hid (HNT.out.symm.trans (narrow1 hL))
          have e1 : lastT [i] = i.val := rfl
          rw [e1]
          have e2 : (([i].length : Nat) : Int) = 1 := rfl
          rw [e2]
          clear hL HTH e2
          by_cases hy : y = []
          · subst hy
            rw [if_pos rfl] at HNT
            have hi := i.isLt
            have n3 := HR.out.kid i
            obtain ⟨vk, hvk⟩ : ∃ vk, K i = vk := ⟨_, rfl⟩
            rw [hvk] at n3
            have HBI : Hid (∀ w', Below w.heap.size w w' → Calls Tryd.prog 51 #[vk, .string ⟨[hb i].toArray⟩] w' fun e w'' => ∃ v, e = .returned v ∧ PAt w'' F false (lay [hb i] (k i)) v ∧ Below w'.heap.size w' w'') := Lib.hid (fun w' hbw => by rw [← hvk]; exact HBH.out i w' hbw HNI.out)
            have HHF := Lib.hid (fun w => half_any i w)
            have HCB : Hid (∀ w', Below w.heap.size w w' → w'.cell? ⟨g, 3 + i.val, none⟩ = some vk) := Lib.hid (fun w' hbw => by rw [← hvk]; exact (HR.out.below hbw).kid i)
            have z0 : (0 : Int) ≤ (i.val : Int) := by omega
            have z1 : (i.val : Int) < 16 := by omega
            obtain ⟨n, hn⟩ : ∃ n, i.val = n := ⟨_, rfl⟩
            rw [hn] at n3 HHF HCB z0 z1 ⊢
            clear hvk hi HBH hn
            go_upto_region 12 with fail
            have BD : Below w.heap.size w w.drew := (Below.refl _ _).drew
            have n4 : w.drew.cell? ⟨g, 3 + n, none⟩ = some vk := n3
            go_region_held3 (fun w' => w'.cell? ⟨g, 3 + n, none⟩ = some vk)
              ((first | (with_reducible exact n4) | (with_reducible exact n5) | (with_reducible exact n7)))
              (first | (go_at_call 67; refine (HHF.out _).mono ?_; rintro e w6 ⟨rfl, hb6⟩; have hb6' := bchain BD hb6; have n5 := HCB.out _ hb6') | (go_at_call 51; refine (HBI.out _ ?_).mono ?_; (with_reducible exact hb6'); rintro e w7 ⟨v7, rfl, hp7, hb7⟩; have hb7' := bchain hb6' hb7; have n7 := HCB.out _ hb7'))
            all_goals
              go_wp2
              go_ret
              rw [HNT.out]
              exact ⟨v7, rfl, hp7, hb7'⟩
          · rw [if_neg hy] at HNT
            have hye : (y == []) = false := by rw [beq_eq_false_iff_ne]; exact hy
            clear HBH
            go_wp2
            go_ret
            rw [HNT.out]
            exact ⟨_, rfl, HH.out, Below.refl _ _⟩
end Go.Proofs.YtikabacebmbacaaDoor
