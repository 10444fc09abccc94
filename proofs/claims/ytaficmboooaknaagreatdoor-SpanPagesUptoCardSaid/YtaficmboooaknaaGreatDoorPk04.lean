/- TriText, TriCode, OwnStr, NodeBase, NodeEq, NibFit -/
import Derived.Test.YtaficmboooaknaaGreatDoorPk02
import Derived.Test.YtaficmboooaknaaGreatDoorPk03
import Derived.Deep.WholeRow
import Derived.Laws.StructEq
import Derived.Test.YtaficmboooaknaaGreatDoorChecked
import Derived.Test.YtaficmboooaknaaGreatDoorPk01
import Derived.WalkKit
import Derived.WalkSpells
import Derived.WalkLawsBesides
import Derived.ShutString
import Derived.Lib.Hide
namespace Go.Proofs.YtaficmboooaknaaGreatDoor.Tri
open Sto (T St Rising keys)
open Go.Proofs.YtaficmboooaknaaGreatDoor.Nd (N)

def Tr.small : Tr → Prop
  | .nil => True
  | .leaf p v => p.length ≤ 16 ∧ v.length ≤ 32
  | .ext p t => p.length ≤ 16 ∧ t.small
  | .br v k => v.length ≤ 32 ∧ ∀ i, (k i).small
theorem small_of {t : Tr} (h : t.canon) (hs : ∀ x ∈ t.items, x.1.length ≤ 16 ∧ x.2.length ≤ 32) : t.small := by
  induction t with
  | nil => trivial
  | leaf p v => exact hs (p, v) (List.mem_singleton.2 rfl)
  | ext p t ih =>
    have ht : ¬ t.isNil := by have := h.2.1; cases t <;> simp_all [Tr.isBr, Tr.isNil]
    have hne : t.items ≠ [] := fun e => ht ((items_nil h.2.2).1 e)
    obtain ⟨a, l, e⟩ := List.exists_cons_of_ne_nil hne
    refine ⟨?_, ih h.2.2 fun x hx => ?_⟩
    · have := (hs (p ++ a.1, a.2) (mem_behind.2 ⟨a.1, by rw [e]; exact List.mem_cons_self .., rfl⟩)).1
      simp at this; omega
    · have := hs (p ++ x.1, x.2) (mem_behind.2 ⟨x.1, hx, rfl⟩)
      simp at this; exact ⟨by omega, this.2⟩
  | br v k ih =>
    refine ⟨?_, fun i => ih i (h.1 i) fun x hx => ?_⟩
    · by_cases e : v = []
      · rw [e]; simp
      · exact (hs ([], v) (mem_br.2 (Or.inl ⟨rfl, rfl, e⟩))).2
    · have := hs (hb i :: x.1, x.2) (mem_br.2 (Or.inr ⟨i, x.1, rfl, hx⟩))
      simp at this; exact ⟨by omega, this.2⟩
theorem two_le {L : List T} {i j : Nat} (hij : i < j) (hj : j < L.length) (h1 : L[i]'(by omega) ≠ []) (h2 : L[j] ≠ []) : 2 ≤ (Nd.kidsL L).length := by
  induction L generalizing i j with
  | nil => simp at hj
  | cons a L ih =>
    rw [Nd.kidsL_cons]
    cases j with
    | zero => omega
    | succ j =>
      have hj' : j < L.length := by simpa using hj
      have h2' : L[j] ≠ [] := by simpa using h2
      have one : 1 ≤ (Nd.kidsL L).length := List.length_pos_iff.2 (List.ne_nil_of_mem (a := L[j]) (by unfold Nd.kidsL; rw [List.mem_filter]; exact ⟨List.getElem_mem hj', by simpa using h2'⟩))
      cases i with
      | zero =>
        have : a ≠ [] := by simpa using h1
        rw [if_neg this, List.length_cons]; omega
      | succ i =>
        have := ih (i := i) (j := j) (by omega) hj' (by simpa using h1) h2'
        split
        · exact this
        · rw [List.length_cons]; omega
theorem one_le {L : List T} {i : Nat} (hi : i < L.length) (h : L[i] ≠ []) : 1 ≤ (Nd.kidsL L).length :=
  List.length_pos_iff.2 (List.ne_nil_of_mem (a := L[i]) (by unfold Nd.kidsL; rw [List.mem_filter]; exact ⟨List.getElem_mem hi, by simpa using h⟩))
theorem ofFn_at (f : Fin 16 → T) (i : Fin 16) : (List.ofFn f)[i.val]'(by rw [List.length_ofFn]; exact i.isLt) = f i := List.getElem_ofFn _
theorem ofFn_inj {f g : Fin 16 → T} (h : List.ofFn f = List.ofFn g) (i : Fin 16) : f i = g i := by
  have := List.getElem_of_eq h (i := i.val) (by rw [List.length_ofFn]; exact i.isLt)
  rwa [ofFn_at, ofFn_at] at this
theorem node_kids (dg : N → T) (t : Tr) : (t.node dg).kids.length = 16 := by
  cases t <;> simp [Tr.node, Nd.zero]
/-- Each node of a trie may be. -/
theorem node_fine (dg : N → T) (hd : ∀ n : N, n.kids.length = 16 → Nd.fine n = true → (dg n).length = 32) {t : Tr} (hc : t.canon) (hf : t.fits) (hs : t.small) (hn : ¬ t.isNil) : Nd.fine (t.node dg) = true := by
  induction t with
  | nil => exact absurd trivial hn
  | leaf p v =>
    rw [Nd.fine_kinds _ (node_kids dg _)]
    have h1 : v ≠ [] := hc
    have h2 : Nib.fitL p = true := hf
    have h3 := hs.1
    have h4 := hs.2
    simp [Tr.node, Nd.leafB, Nd.pathB, Nd.none16, h1, h2, h3, h4]
  | ext p t ih =>
    have ht : ¬ t.isNil := by have := hc.2.1; cases t <;> simp_all [Tr.isBr, Tr.isNil]
    have h32 : (t.sum dg).length = 32 := by rw [sum_node dg ht]; exact hd _ (node_kids dg t) (ih hc.2.2 hf.2 hs.2 ht)
    rw [Nd.fine_kinds _ (node_kids dg _)]
    have h1 : p ≠ [] := hc.1
    have h2 : Nib.fitL p = true := hf.1
    have h3 := hs.1
    simp [Tr.node, Nd.extB, Nd.pathB, Nd.none16, h1, h2, h3, h32, List.replicate]
  | br v k ih =>
    have hsum : ∀ i, ((k i).sum dg = [] ∧ (k i).isNil) ∨ (((k i).sum dg).length = 32 ∧ ¬ (k i).isNil) := fun i => by
      by_cases e : (k i).isNil
      · refine Or.inl ⟨?_, e⟩
        cases hk : k i with
        | nil => rfl
        | _ => rw [hk] at e; cases e
      · exact Or.inr ⟨by rw [sum_node dg e]; exact hd _ (node_kids dg _) (ih i (hc.1 i) (hf i) (hs.2 i) e), e⟩
    have hne : ∀ i, ¬ (k i).isNil → (k i).sum dg ≠ [] := fun i h e => by
      rcases hsum i with h2 | h2
      · exact h h2.2
      · rw [e] at h2; simp at h2
    rw [Nd.fine_kinds _ (node_kids dg _)]
    have h4 := hs.1
    have hall : Nd.all32 (List.ofFn fun i => (k i).sum dg) = true := by
      unfold Nd.all32
      rw [List.all_eq_true]
      intro x hx
      obtain ⟨i, rfl⟩ := List.mem_ofFn.1 hx
      rcases hsum i with h | h
      · simp [h.1]
      · simp [h.1]
    have htwo : 2 ≤ (if v = [] then 0 else 1) + (Nd.kidsL (List.ofFn fun i => (k i).sum dg)).length := by
      rcases hc.2 with ⟨i, j, hij, hi, hj⟩ | ⟨hv, i, hi⟩
      · have := two_le (L := List.ofFn fun i => (k i).sum dg) (i := i.val) (j := j.val) hij (by rw [List.length_ofFn]; exact j.isLt) (by rw [ofFn_at (fun i => (k i).sum dg) i]; exact hne i hi) (by rw [ofFn_at (fun i => (k i).sum dg) j]; exact hne j hj)
        omega
      · have := one_le (L := List.ofFn fun i => (k i).sum dg) (i := i.val) (by rw [List.length_ofFn]; exact i.isLt) (by rw [ofFn_at (fun i => (k i).sum dg) i]; exact hne i hi)
        rw [if_neg hv]; omega
    have fin : ∀ K : List T, Nd.all32 K = true → 2 ≤ (if v = [] then 0 else 1) + (Nd.kidsL K).length → Nd.branchB ⟨3, [], v, K⟩ = true := fun K h1 h2 => by
      simp [Nd.branchB, h4, h1, h2]
    rw [if_neg (by simp [Tr.node]), if_neg (by simp [Tr.node]), if_pos (show (Tr.node dg (Tr.br v k)).kind = 3 from rfl)]
    exact fin _ hall htwo
/-- The nodes of a tree, in order. -/
def Tr.nodes (dg : N → T) : Tr → List N
  | .nil => []
  | .leaf q v => [Tr.node dg (.leaf q v)]
  | .ext q t => Tr.node dg (.ext q t) :: t.nodes dg
  | .br v k => Tr.node dg (.br v k) :: (List.finRange 16).flatMap fun i => (k i).nodes dg
theorem spots_nodes (dg : N → T) (t : Tr) (p : T) : (t.spots dg p).map (·.2) = t.nodes dg := by
  induction t generalizing p with
  | nil => rfl
  | leaf q v => rfl
  | ext q t ih => rw [Tr.spots, Tr.nodes, List.map_cons, ih]
  | br v k ih =>
    rw [Tr.spots, Tr.nodes, List.map_cons, List.map_flatMap]
    simp only [ih]
theorem nil_of_isNil {t : Tr} (h : t.isNil) : t = .nil := by cases t <;> first | rfl | cases h
end Go.Proofs.YtaficmboooaknaaGreatDoor.Tri
namespace Go.Proofs.YtaficmboooaknaaGreatDoor.Tri
open Sto (T St Rising keys)

/-- A tree behind a path. -/
def lay (p : T) : Tr → Tr
  | .nil => .nil
  | .leaf q v => .leaf (p ++ q) v
  | .ext q t => .ext (p ++ q) t
  | .br v k => above p (.br v k)
theorem lay_nil (t : Tr) : lay [] t = t := by cases t <;> simp [lay, above]
theorem lay_br {p : T} {t : Tr} (h : t.isBr) : lay p t = above p t := by cases t <;> simp_all [Tr.isBr, lay]
theorem lay_nn {p : T} {t : Tr} (h : ¬ t.isNil) : ¬ (lay p t).isNil := by
  cases t with
  | nil => exact absurd trivial h
  | leaf q v => exact id
  | ext q t => exact id
  | br v k => rw [lay]; unfold above; split <;> exact id
/-- A branch with the items of a leaf or an extension alone, whose path goes on behind n half bytes. -/
def splitT (n : Nat) : Tr → Tr
  | .leaf p v => (match p.drop n with | [] => .br v bare | a :: r => .br [] (upd bare (ix a) (.leaf r v)))
  | .ext p t => (match p.drop n with | [] => .br [] bare | a :: r => .br [] (upd bare (ix a) (lay r t)))
  | _ => .br [] bare
theorem split_leaf0 {n : Nat} {p v : T} (h : p.drop n = []) : splitT n (.leaf p v) = .br v bare := by unfold splitT; simp only [h]
theorem split_leaf1 {n : Nat} {p v r : T} {a : UInt8} (h : p.drop n = a :: r) : splitT n (.leaf p v) = .br [] (upd bare (ix a) (.leaf r v)) := by unfold splitT; simp only [h]
theorem split_ext0 {n : Nat} {p : T} {t : Tr} (h : p.drop n = []) : splitT n (.ext p t) = .br [] bare := by unfold splitT; simp only [h]
theorem split_ext1 {n : Nat} {p r : T} {t : Tr} {a : UInt8} (h : p.drop n = a :: r) : splitT n (.ext p t) = .br [] (upd bare (ix a) (lay r t)) := by unfold splitT; simp only [h]
theorem split_br (n : Nat) (t : Tr) : (splitT n t).isBr := by
  cases t with
  | nil => trivial
  | br v k => trivial
  | leaf p v =>
    cases h : p.drop n with
    | nil => rw [split_leaf0 h]; trivial
    | cons a r => rw [split_leaf1 h]; trivial
  | ext p v =>
    cases h : p.drop n with
    | nil => rw [split_ext0 h]; trivial
    | cons a r => rw [split_ext1 h]; trivial
theorem bare_at (i : Fin 16) : bare i = .nil := rfl
theorem upd_nil (a b : UInt8) (t : Tr) (h : ix a ≠ ix b) : upd bare (ix a) t (ix b) = .nil := upd_ne _ _ (fun e => h e.symm)
theorem put_leaf_same (p v w : T) : (Tr.leaf p v).put p w = lay p (Tr.put .nil [] w) := by
  simp [Tr.put, lay]
theorem put_leaf_split {q v p w : T} (hq : Nib.fitL q = true) (hp : Nib.fitL p = true) (h : q ≠ p) :
    (Tr.leaf q v).put p w = lay (p.take (Nib.commonL q p)) ((splitT (Nib.commonL q p) (.leaf q v)).put (p.drop (Nib.commonL q p)) w) := by
  rw [Tr.put, if_neg h]
  obtain ⟨h1, h2, h3⟩ := common_split q p
  have ht2 := common_take q p
  generalize Nib.commonL q p = c at h1 h2 h3 ht2 ⊢
  rw [ht2]
  have fq := fit_drop c hq
  have fp := fit_drop c hp
  cases hd : q.drop c with
  | nil =>
    rw [split_leaf0 hd]
    cases he : p.drop c with
    | nil => exact absurd (by rw [h1, h2, hd, he, ht2]) h
    | cons b s => simp only [Tr.put, bare_at, fork2, lay]
  | cons a r =>
    rw [split_leaf1 hd]
    cases he : p.drop c with
    | nil => simp only [Tr.put, fork2, fork, lay]
    | cons b s =>
      have hne := h3 a r b s hd he
      have hix : ix a ≠ ix b := fun e => hne (ix_inj (fit_cons.1 (hd ▸ fq)).1 (fit_cons.1 (he ▸ fp)).1 e)
      simp only [Tr.put, upd_nil _ _ _ hix, fork2, fork, lay]
theorem put_ext_whole {q p w : T} {t : Tr} (ht : t.isBr) (hq : q ≠ []) (hc : Nib.commonL q p = q.length) :
    (Tr.ext q t).put p w = lay (p.take (Nib.commonL q p)) (t.put (p.drop (Nib.commonL q p)) w) := by
  rw [Tr.put, ← common_take, hc, List.drop_length, List.take_length]
  simp only
  have hb : (t.put (p.drop q.length) w).isBr := by
    cases t with
    | br v k => cases p.drop q.length <;> trivial
    | nil => cases ht
    | leaf q v => cases ht
    | ext q t => cases ht
  rw [lay_br hb, above, if_neg hq]
theorem put_ext_split {q p w : T} {t : Tr} (ht : t.isBr) (hq : Nib.fitL q = true) (hp : Nib.fitL p = true) (hc : Nib.commonL q p < q.length) :
    (Tr.ext q t).put p w = lay (p.take (Nib.commonL q p)) ((splitT (Nib.commonL q p) (.ext q t)).put (p.drop (Nib.commonL q p)) w) := by
  rw [Tr.put]
  obtain ⟨h1, h2, h3⟩ := common_split q p
  have ht2 := common_take q p
  generalize Nib.commonL q p = c at h1 h2 h3 ht2 hc ⊢
  rw [ht2]
  have fq := fit_drop c hq
  have fp := fit_drop c hp
  cases hd : q.drop c with
  | nil => have := congrArg List.length hd; simp at this; omega
  | cons a r =>
    simp only
    rw [split_ext1 hd, lay_br ht]
    cases he : p.drop c with
    | nil => simp only [Tr.put, fork, lay]
    | cons b s =>
      have hne := h3 a r b s hd he
      have hix : ix a ≠ ix b := fun e => hne (ix_inj (fit_cons.1 (hd ▸ fq)).1 (fit_cons.1 (he ▸ fp)).1 e)
      simp only [Tr.put, upd_nil _ _ _ hix, fork, lay]
theorem ite_two {p q : Prop} [Decidable p] [Decidable q] {α : Type} (a b : α) : (if p then if q then a else b else b) = if p ∧ q then a else b := by
  by_cases h : p <;> by_cases h2 : q <;> simp [h, h2]
theorem get_lay {p : T} {t : Tr} {x : T} : (lay p t).get x = if x.take p.length = p then t.get (x.drop p.length) else none := by
  cases t with
  | nil => simp [lay, Tr.get]
  | leaf q v =>
    simp only [lay, Tr.get]
    rw [ite_two]
    congr 1
    rw [cut_eq x (p ++ q) p.length]; simp
  | ext q t =>
    simp only [lay, Tr.get]
    rw [ite_two]
    have e : x.take (p ++ q).length = p ++ q ↔ x.take p.length = p ∧ (x.drop p.length).take q.length = q := by
      rw [List.length_append, List.take_add]
      constructor
      · intro h
        have h1 := congrArg (List.take p.length) h
        have hl := congrArg List.length h
        simp at hl
        have hl2 : p.length ≤ x.length := by omega
        have l2 : (x.take p.length).length = p.length := by simp; omega
        obtain ⟨a, b⟩ := List.append_inj h l2
        exact ⟨a, b⟩
      · rintro ⟨a, b⟩; rw [a, b]
    by_cases h : x.take (p ++ q).length = p ++ q
    · rw [if_pos h, if_pos (e.1 h), List.length_append, ← List.drop_drop]
    · rw [if_neg h, if_neg (fun h2 => h (e.2 h2))]
  | br v k => exact get_above
theorem lay_canon {p : T} {t : Tr} (h : t.canon) : (lay p t).canon := by
  cases t with
  | nil => trivial
  | leaf q v => exact h
  | ext q t => exact ⟨fun e => h.1 (List.append_eq_nil_iff.1 e).2, h.2⟩
  | br v k => exact (above_canon h trivial).1
theorem lay_fits {p : T} {t : Tr} (hp : Nib.fitL p = true) (h : t.fits) : (lay p t).fits := by
  cases t with
  | nil => trivial
  | leaf q v => exact fit_append.2 ⟨hp, h⟩
  | ext q t => exact ⟨fit_append.2 ⟨hp, h.1⟩, h.2⟩
  | br v k => exact above_fits hp h

/-- The kids that are there. -/
def there (k : Fin 16 → Tr) : List (Fin 16) := (List.finRange 16).filter fun i => !(k i).nilB
theorem mem_there {k : Fin 16 → Tr} {i : Fin 16} : i ∈ there k ↔ ¬ (k i).isNil := by
  unfold there
  rw [List.mem_filter, ← nilB_iff]
  simp [List.mem_finRange]
/-- The node of a branch's items, that may be too few for one. -/
def narrowT (v : T) (k : Fin 16 → Tr) : Tr :=
  match there k with
  | [] => .leaf [] v
  | [i] => if v = [] then lay [hb i] (k i) else .br v k
  | _ => .br v k
theorem narrow_nn (v : T) (k : Fin 16 → Tr) : ¬ (narrowT v k).isNil := by
  unfold narrowT
  split
  · exact id
  · rename_i i hi
    split
    · exact lay_nn (mem_there.1 (by rw [hi]; exact List.mem_singleton.2 rfl))
    · exact id
  · exact id
theorem narrow_fits {v : T} {k : Fin 16 → Tr} (hk : ∀ i, (k i).fits) : (narrowT v k).fits := by
  unfold narrowT
  split
  · rfl
  · rename_i i hi
    split
    · exact lay_fits (by have := i.isLt; exact fit_cons.2 ⟨by rw [hb_toNat]; omega, rfl⟩) (hk i)
    · exact hk
  · exact hk
theorem narrow_canon {v : T} {k : Fin 16 → Tr} (hk : ∀ i, (k i).canon) (h : v ≠ [] ∨ ∃ i, ¬ (k i).isNil) : (narrowT v k).canon := by
  unfold narrowT
  split
  · rename_i hi
    refine h.resolve_right ?_
    rintro ⟨i, hn⟩
    have := mem_there.2 hn
    rw [hi] at this; cases this
  · rename_i i hi
    split
    · exact lay_canon (hk i)
    · rename_i hv
      exact ⟨hk, Or.inr ⟨hv, i, mem_there.1 (by rw [hi]; exact List.mem_singleton.2 rfl)⟩⟩
  · rename_i h0 h1
    refine ⟨hk, Or.inl ?_⟩
    cases hl : there k with
    | nil => exact absurd hl h0
    | cons a r =>
      cases r with
      | nil => exact absurd hl (h1 a)
      | cons b s =>
        have hp : (there k).Pairwise (· < ·) := fin_rise.filter _
        rw [hl] at hp
        exact ⟨a, b, (List.pairwise_cons.1 hp).1 b (List.mem_cons_self ..), mem_there.1 (by rw [hl]; simp), mem_there.1 (by rw [hl]; simp)⟩
theorem isNil_eq {t : Tr} (h : t.isNil) : t = .nil := by cases t <;> simp_all [Tr.isNil]
theorem get_narrow {v : T} {k : Fin 16 → Tr} (y : T) (hv : v ≠ [] ∨ ∃ i, ¬ (k i).isNil) : (narrowT v k).get y = (Tr.br v k).get y := by
  unfold narrowT
  split
  · rename_i hi
    have hk : ∀ i, k i = .nil := fun i => by
      refine isNil_eq (Classical.byContradiction fun hn => ?_)
      have := mem_there.2 hn
      rw [hi] at this; cases this
    have hvn : v ≠ [] := hv.resolve_right (fun ⟨i, hn⟩ => hn (by rw [hk i]; trivial))
    cases y with
    | nil => simp [Tr.get, hvn]
    | cons b q => simp [Tr.get, hk]
  · rename_i i hi
    split
    · rename_i e
      subst e
      rw [get_lay]
      cases y with
      | nil => simp [Tr.get]
      | cons b q =>
        simp only [Tr.get, List.length_cons, List.length_nil, Nat.zero_add, List.take_succ_cons, List.take_zero, List.drop_succ_cons, List.drop_zero, List.cons.injEq, and_true]
        by_cases hb1 : b.toNat ≤ 15
        · rw [if_pos hb1]
          by_cases e : b = hb i
          · rw [if_pos e, e, ix_hb]
          · rw [if_neg e]
            have : ¬ ix b ∈ there k := by
              rw [hi, List.mem_singleton]
              intro e2
              exact e (by rw [← e2, hb_ix hb1])
            rw [isNil_eq (Classical.byContradiction fun hn => this (mem_there.2 hn))]; rfl
        · rw [if_neg hb1, if_neg]
          intro e
          exact hb1 (by rw [e, hb_toNat]; have := i.isLt; omega)
    · rfl
  · rfl
/-- A tree without the item of a path. -/
def Tr.del : Tr → T → Tr
  | .nil, _ => .nil
  | .leaf _ _, _ => .nil
  | .ext q t, p => lay q (t.del (p.drop q.length))
  | .br _ k, [] => narrowT [] k
  | .br v k, b :: p => narrowT v (upd k (ix b) ((k (ix b)).del p))
theorem del_good {t : Tr} {p : T} (ht : t.canon) (hf : t.fits) (hp : Nib.fitL p = true) (hg : t.get p ≠ none) :
    (t.del p).canon ∧ (t.del p).fits ∧ (t.isBr → ¬ (t.del p).isNil) ∧ ∀ x, (t.del p).get x = if x = p then none else t.get x := by
  induction t generalizing p with
  | nil => exact absurd rfl hg
  | leaf q v =>
    refine ⟨trivial, trivial, (fun h => by cases h), fun x => ?_⟩
    simp only [Tr.get, Tr.del] at hg ⊢
    by_cases e : p = q
    · subst e
      by_cases e2 : x = p <;> simp [e2]
    · rw [if_neg e] at hg; exact absurd rfl hg
  | ext q t ih =>
    obtain ⟨hq, hbt, hct⟩ := ht
    simp only [Tr.get] at hg
    by_cases e : p.take q.length = q
    · rw [if_pos e] at hg
      obtain ⟨g1, g2, g3, g4⟩ := ih hct hf.2 (fit_drop _ hp) hg
      refine ⟨lay_canon g1, lay_fits hf.1 g2, (fun h => by cases h), fun x => ?_⟩
      rw [Tr.del, get_lay, g4]
      simp only [Tr.get]
      simp only [cut_eq x p q.length, e]
      by_cases e1 : x.take q.length = q
      · simp [e1]
      · simp [e1]
    · rw [if_neg e] at hg; exact absurd rfl hg
  | br v k ih =>
    obtain ⟨hk, hT⟩ := ht
    cases p with
    | nil =>
      have hs : ∃ i, ¬ (k i).isNil := by
        rcases hT with ⟨i, _, _, h, _⟩ | ⟨_, i, h⟩ <;> exact ⟨i, h⟩
      refine ⟨narrow_canon hk (Or.inr hs), narrow_fits hf, fun _ => narrow_nn _ _, fun x => ?_⟩
      rw [Tr.del, get_narrow _ (Or.inr hs)]
      cases x with
      | nil => simp [Tr.get]
      | cons b q => simp [Tr.get]
    | cons b p =>
      obtain ⟨hb1, hp1⟩ := fit_cons.1 hp
      simp only [Tr.get, if_pos hb1] at hg
      obtain ⟨g1, g2, g3, g4⟩ := ih (ix b) (hk _) (hf _) hp1 hg
      have hs : v ≠ [] ∨ ∃ i, ¬ (upd k (ix b) ((k (ix b)).del p) i).isNil := by
        rcases hT with ⟨i, j, hij, h1, h2⟩ | ⟨h, _⟩
        · by_cases e : i = ix b
          · exact Or.inr ⟨j, by rw [upd_ne _ _ (fun e2 => by rw [e, e2] at hij; exact absurd hij (Nat.lt_irrefl _))]; exact h2⟩
          · exact Or.inr ⟨i, by rw [upd_ne _ _ e]; exact h1⟩
        · exact Or.inl h
      have hk2 : ∀ i, (upd k (ix b) ((k (ix b)).del p) i).canon := fun i => by
        unfold upd; split
        · exact g1
        · exact hk i
      refine ⟨narrow_canon hk2 hs, narrow_fits (upd_fits hf g2), fun _ => narrow_nn _ _, fun x => ?_⟩
      rw [Tr.del, get_narrow _ hs]
      cases x with
      | nil => simp [Tr.get]
      | cons c q =>
        simp only [Tr.get, List.cons.injEq]
        by_cases hc : c.toNat ≤ 15
        · rw [if_pos hc]
          by_cases e : ix c = ix b
          · have e2 := ix_inj hc hb1 e
            subst e2
            rw [upd_at, g4, if_pos hc]; simp
          · rw [upd_ne _ _ e, if_neg (fun h => e (by rw [h.1])), if_pos hc]
        · rw [if_neg hc, if_neg hc]; simp
theorem del_items {t : Tr} {p : T} (ht : t.canon) (hf : t.fits) (hp : Nib.fitL p = true) (hg : t.get p ≠ none) : (t.del p).items = del t.items p :=
  look_ext (items_rising _) (del_rising (items_rising _) _) fun x => by
    rw [look_items, (del_good ht hf hp hg).2.2.2 x, look_del (items_rising _), look_items]
theorem TreeOf.del {S : St} {t : Tr} (h : TreeOf S t) (hS : Rising S) {k : T} (hg : Sto.look S k ≠ none) : TreeOf (Tri.del S k) (t.del (Nib.ofL k)) := by
  have hg2 : t.get (Nib.ofL k) ≠ none := by rw [h.get hS]; exact hg
  exact ⟨(del_good h.1 h.2.1 (ofL_fit k) hg2).1, (del_good h.1 h.2.1 (ofL_fit k) hg2).2.1, by rw [del_items h.1 h.2.1 (ofL_fit k) hg2, h.2.2, paths_del]⟩
/-- What the program asks of a tree that it changes: an extension's child is a branch. -/
def Tr.firm : Tr → Prop
  | .nil => True
  | .leaf _ _ => True
  | .ext p t => p ≠ [] ∧ t.isBr ∧ t.firm
  | .br _ k => ∀ i, (k i).firm
theorem canon_firm {t : Tr} (h : t.canon) : t.firm := by
  induction t with
  | nil => trivial
  | leaf p v => trivial
  | ext p t ih => exact ⟨h.1, h.2.1, ih h.2.2⟩
  | br v k ih => exact fun i => ih i (h.1 i)
theorem lay_firm {p : T} {t : Tr} (h : t.firm) : (lay p t).firm := by
  cases t with
  | nil => trivial
  | leaf q v => trivial
  | ext q t => exact ⟨fun e => h.1 (List.append_eq_nil_iff.1 e).2, h.2⟩
  | br v k =>
    rw [lay]
    unfold above
    split
    · exact h
    · rename_i e; exact ⟨e, trivial, h⟩
theorem split_firm {n : Nat} {t : Tr} (h : t.firm) : (splitT n t).firm := by
  cases t with
  | nil => exact fun i => trivial
  | br v k => exact fun i => trivial
  | leaf p v =>
    cases hd : p.drop n with
    | nil => rw [split_leaf0 hd]; exact fun i => trivial
    | cons a r => rw [split_leaf1 hd]; intro i; unfold upd; split <;> trivial
  | ext p t =>
    cases hd : p.drop n with
    | nil => rw [split_ext0 hd]; exact fun i => trivial
    | cons a r =>
      rw [split_ext1 hd]
      intro i
      unfold upd
      split
      · exact lay_firm h.2.2
      · trivial
theorem split_fits {n : Nat} {t : Tr} (h : t.fits) : (splitT n t).fits := by
  cases t with
  | nil => exact fun i => trivial
  | br v k => exact fun i => trivial
  | leaf p v =>
    have h2 := fit_drop n h
    cases hd : p.drop n with
    | nil => rw [split_leaf0 hd]; exact fun i => trivial
    | cons a r => rw [split_leaf1 hd]; exact upd_fits (fun _ => trivial) (fit_cons.1 (hd ▸ h2)).2
  | ext p t =>
    have h2 := fit_drop n h.1
    cases hd : p.drop n with
    | nil => rw [split_ext0 hd]; exact fun i => trivial
    | cons a r => rw [split_ext1 hd]; exact upd_fits (fun _ => trivial) (lay_fits (fit_cons.1 (hd ▸ h2)).2 h.2)
theorem fork_nn (a : UInt8) (t : Tr) (p w : T) : ¬ (fork a t p w).isNil := by cases p <;> exact id
theorem above_nn {p : T} {t : Tr} (h : ¬ t.isNil) : ¬ (above p t).isNil := by unfold above; split; exact h; exact id
theorem put_nn (t : Tr) (p w : T) : ¬ (t.put p w).isNil := by
  cases t with
  | nil => exact id
  | leaf q v =>
    rw [Tr.put]
    split
    · exact id
    · rename_i hne
      obtain ⟨h1, h2, h3⟩ := common_split q p
      have ht2 := common_take q p
      generalize Nib.commonL q p = c at h1 h2 h3 ht2 ⊢
      refine above_nn ?_
      cases hd : q.drop c with
      | cons a r => exact fork_nn _ _ _ _
      | nil =>
        cases he : p.drop c with
        | cons b s => exact id
        | nil => exact absurd (by rw [h1, h2, hd, he, ht2]) hne
  | ext q t =>
    rw [Tr.put]
    split
    · exact id
    · exact above_nn (fork_nn _ _ _ _)
  | br v k => cases p <;> exact id
/-- No path of a node is longer than a key's. -/
def Tr.low : Tr → Prop
  | .nil => True
  | .leaf p _ => p.length ≤ 16
  | .ext p t => p.length ≤ 16 ∧ t.low
  | .br _ k => ∀ i, (k i).low
theorem small_low {t : Tr} (h : t.small) : t.low := by
  induction t with
  | nil => trivial
  | leaf p v => exact h.1
  | ext p t ih => exact ⟨h.1, ih h.2⟩
  | br v k ih => exact fun i => ih i (h.2 i)
structure Trim (t : Tr) : Prop where
  firm : t.firm
  fits : t.fits
  low : t.low
theorem Trim.br {v : T} {k : Fin 16 → Tr} (h : Trim (.br v k)) (i : Fin 16) : Trim (k i) := ⟨h.firm i, h.fits i, h.low i⟩
theorem Trim.ext {p : T} {t : Tr} (h : Trim (.ext p t)) : Trim t := ⟨h.firm.2.2, h.fits.2, h.low.2⟩
theorem low_split {n : Nat} {t : Tr} (h : t.low) (hf : t.firm) : (splitT n t).low := by
  cases t with
  | nil => exact fun i => trivial
  | br v k => exact fun i => trivial
  | leaf p v =>
    cases hd : p.drop n with
    | nil => rw [split_leaf0 hd]; exact fun i => trivial
    | cons a r =>
      rw [split_leaf1 hd]
      have := congrArg List.length hd
      have h2 : p.length ≤ 16 := h
      simp at this
      intro i; unfold upd; split
      · show r.length ≤ 16
        omega
      · trivial
  | ext p t =>
    cases hd : p.drop n with
    | nil => rw [split_ext0 hd]; exact fun i => trivial
    | cons a r =>
      rw [split_ext1 hd, lay_br hf.2.1]
      have := congrArg List.length hd
      have h2 : p.length ≤ 16 := h.1
      simp at this
      intro i; unfold upd; split
      · unfold above; split
        · exact h.2
        · exact ⟨by omega, h.2⟩
      · trivial
theorem Trim.split {n : Nat} {t : Tr} (h : Trim t) : Trim (splitT n t) := ⟨split_firm h.firm, split_fits h.fits, low_split h.low h.firm⟩
theorem Trim.nil : Trim .nil := ⟨trivial, trivial, trivial⟩
/-- What falls from one call of with to the next. -/
def rank : Tr → T → Nat
  | .leaf _ _, p => 2 * p.length + 1
  | .ext _ _, p => 2 * p.length + 1
  | _, p => 2 * p.length
theorem rank_br {t : Tr} (h : t.isBr) (p : T) : rank t p = 2 * p.length := by cases t <;> simp_all [Tr.isBr, rank]
theorem rank_le (t : Tr) (p : T) : rank t p ≤ 2 * p.length + 1 := by cases t <;> simp [rank]
/-- Where a leaf's or an extension's path ends within what it has in common with another one, nothing is split. -/
def splits (t : Tr) (p : T) : Bool := match t with
  | .leaf q _ => decide (Nib.commonL q p < q.length) || decide (Nib.commonL q p < p.length)
  | .ext q _ => decide (Nib.commonL q p < q.length)
  | _ => false
theorem put_leaf_plan {q v p x : T} (hq : Nib.fitL q = true) (hp : Nib.fitL p = true) :
    (Tr.leaf q v).put p x = lay (p.take (Nib.commonL q p)) (((if splits (.leaf q v) p then splitT (Nib.commonL q p) (.leaf q v) else .nil)).put (p.drop (Nib.commonL q p)) x) := by
  have hle := Nib.commonL_le q p
  by_cases h : splits (.leaf q v) p = true
  · rw [if_pos h]
    refine put_leaf_split hq hp fun e => ?_
    subst e
    have : Nib.commonL q q = q.length := by have := common_append q [] []; simpa [Nib.commonL] using this
    simp [splits, this] at h
  · rw [if_neg h]
    simp only [splits, Bool.or_eq_true, decide_eq_true_eq, not_or] at h
    obtain ⟨h1, h2, _⟩ := common_split q p
    have e1 : Nib.commonL q p = q.length := by omega
    have e2 : Nib.commonL q p = p.length := by omega
    have e : q = p := by
      have t2 := common_take q p
      rw [e1, List.take_length] at t2
      rw [t2, ← e1, e2, List.take_length]
    subst e
    rw [put_leaf_same, e1, List.take_length, List.drop_length]
theorem put_ext_plan {q p x : T} {t : Tr} (ht : t.isBr) (hq0 : q ≠ []) (hq : Nib.fitL q = true) (hp : Nib.fitL p = true) :
    (Tr.ext q t).put p x = lay (p.take (Nib.commonL q p)) (((if splits (.ext q t) p then splitT (Nib.commonL q p) (.ext q t) else t)).put (p.drop (Nib.commonL q p)) x) := by
  have hle := Nib.commonL_le q p
  by_cases h : splits (.ext q t) p = true
  · rw [if_pos h]
    exact put_ext_split ht hq hp (by simpa [splits] using h)
  · rw [if_neg h]
    exact put_ext_whole ht hq0 (by simp [splits] at h; omega)
theorem put_br {t : Tr} (h : t.isBr) (p x : T) : (t.put p x).isBr := by
  cases t with
  | br v k => cases p <;> trivial
  | _ => cases h
end Go.Proofs.YtaficmboooaknaaGreatDoor.Tri
namespace Go.Proofs.YtaficmboooaknaaGreatDoor
open Go.RowKit

def scells (L : List (List UInt8)) : List Value := L.map fun l => .string ⟨l.toArray⟩
theorem scells_length (L : List (List UInt8)) : (scells L).length = L.length := by simp [scells]
theorem scells_append (L K : List (List UInt8)) : scells (L ++ K) = scells L ++ scells K := by simp [scells]
/-- A row of texts of the call's own, in a block from B on. -/
def Own (w : World) (B : Nat) (s : Value) (L : List (List UInt8)) : Prop := w.ownsRow B 9 1 s L.length (scells L)
theorem Own.nil (w : World) (B : Nat) : Own w B (.slice none 0 0) [] := ⟨rfl, Or.inl ⟨rfl, rfl⟩⟩
theorem Own.strs {w : World} {B : Nat} {s : Value} {L : List (List UInt8)} (h : Own w B s L) : Strs w s L := by
  obtain ⟨A, cap, rfl⟩ := own_form h
  refine ⟨A, cap, rfl, fun i hi => ?_⟩
  obtain ⟨g, cap', hv, hB, hlt⟩ := World.ownsRow.form h (by omega)
  obtain ⟨rfl, rfl⟩ : A = some ⟨g, 0, none⟩ ∧ cap = cap' := by simpa using hv
  exact ⟨_, rfl, World.ownsRow.cells h rfl i _ (by simp [scells, hi])⟩
theorem Own.below {w w' : World} {B : Nat} {s : Value} {L : List (List UInt8)} (h : Own w B s L) (hb : Below w.heap.size w w') : Own w' B s L :=
  row_out (G := fun _ => False) h (Out.of hb) (fun _ _ _ _ hf => hf.elim)
theorem Own.lt {w : World} {B : Nat} {s : Value} {L : List (List UInt8)} (h : Own w B s L) (k : Nat) (hk : s.ownBlock = some k) : B ≤ k ∧ k < w.heap.size := World.ownsRow.lt h k hk
theorem Own.strs_at {w w' : World} {B : Nat} {A : Option Addr} {n cap : Nat} {L : List (List UInt8)} (h : Own w B (.slice A n cap) L) (hb : Below w.heap.size w w') (k : Nat) (hk : k < L.length) : ∃ a, A = some a ∧ w'.cell? (a.add k) = some (.string ⟨L[k].toArray⟩) := by
  obtain ⟨A', cap', hv, hc⟩ := (h.below hb).strs
  obtain ⟨rfl, _⟩ : A = A' ∧ _ := by simpa using hv
  exact hc k hk
end Go.Proofs.YtaficmboooaknaaGreatDoor
namespace Go.Proofs.YtaficmboooaknaaGreatDoor
open Go.RowKit
open Go.Proofs.YtaficmboooaknaaGreatDoor.Nd (N)

def ncl (n : N) : List Value := .int .i64 n.kind :: .string ⟨n.path.toArray⟩ :: .string ⟨n.val.toArray⟩ :: scells n.kids
def ndval (n : N) : Value := .agg (ncl n).toArray
theorem ncl_length (n : N) (h : n.kids.length = 16) : (ncl n).length = 19 := by simp [ncl, scells_length, h]
/-- A node in a block. -/
def NodeAt (w : World) (g : Nat) (n : N) : Prop := w.heap[g]? = some (.cells (ncl n).toArray 110 (0, 0))
theorem NodeAt.kind {w : World} {g : Nat} {n : N} (h : NodeAt w g n) : w.cell? ⟨g, 0, none⟩ = some (.int .i64 n.kind) := by
  rw [cell_of_row w g 0 _ _ _ h]
  rfl
theorem NodeAt.path {w : World} {g : Nat} {n : N} (h : NodeAt w g n) : w.cell? ⟨g, 1, none⟩ = some (.string ⟨n.path.toArray⟩) := by
  rw [cell_of_row w g 1 _ _ _ h]
  rfl
theorem NodeAt.val {w : World} {g : Nat} {n : N} (h : NodeAt w g n) : w.cell? ⟨g, 2, none⟩ = some (.string ⟨n.val.toArray⟩) := by
  rw [cell_of_row w g 2 _ _ _ h]
  rfl
theorem NodeAt.kid {w : World} {g : Nat} {n : N} (h : NodeAt w g n) (i : Nat) (hi : i < n.kids.length) : w.cell? ⟨g, 3 + i, none⟩ = some (.string ⟨n.kids[i].toArray⟩) := by
  rw [cell_of_row w g (3 + i) _ _ _ h, List.getElem?_toArray, Nat.add_comm 3 i]
  show (scells n.kids)[i]? = _
  simp [scells, hi]
theorem NodeAt.below {w w' : World} {g : Nat} {n : N} (h : NodeAt w g n) (hb : Below w.heap.size w w') : NodeAt w' g n := (hb.block g (lt_of_heap h)).trans h
theorem Nd.kids_take (l : List (List UInt8)) (k : Nat) (hk : k < l.length) : Nd.kidsL (l.take (k + 1)) = if l[k] = [] then Nd.kidsL (l.take k) else Nd.kidsL (l.take k) ++ [l[k]] := by
  unfold Nd.kidsL
  rw [List.take_succ_eq_append_getElem hk, List.filter_append]
  by_cases h : l[k] = [] <;> simp [h]
theorem own_lowS {w : World} {B B' : Nat} {s : Value} {L : List (List UInt8)} (h : Own w B s L) (hB : B' ≤ B) : Own w B' s L := by
  refine ⟨h.1, ?_⟩
  rcases h.2 with hn | ⟨k, cap, cur, hv, hb, hk, hr⟩
  · exact Or.inl hn
  · exact Or.inr ⟨k, cap, cur, hv, Nat.le_trans hB hb, hk, hr⟩
end Go.Proofs.YtaficmboooaknaaGreatDoor
namespace Go.Proofs.YtaficmboooaknaaGreatDoor
open Go.RowKit
open Go.Proofs.YtaficmboooaknaaGreatDoor.Nd (N)

theorem drop_beq (L K : List (List UInt8)) (i : Nat) (hL : i < L.length) (hK : i < K.length) : (L.drop i == K.drop i) = ((L[i] == K[i]) && (L.drop (i + 1) == K.drop (i + 1))) := by
  rw [List.drop_eq_getElem_cons hL, List.drop_eq_getElem_cons hK, List.cons_beq_cons]
theorem eq_strs (d : Nat) (L K : List (List UInt8)) (w : World) (hL : L.length = 16) (hK : K.length = 16) :
    (Op.equalIn (d + 2) 108 (.agg (scells L).toArray) (.agg (scells K).toArray)).run Tryz.prog w = .ok (L == K) w := by
  have hu := Tryz.underlying108
  have hs := Tryz.sizeOf9
  have ha := Tryz.isAgg9
  unfold Op.equalIn
  go_simp
  generalize hF : (fun (i : Nat) (__s : Option Bool × PUnit) => _) = F
  have hstep : ∀ i (hi : i < 16) s, (F i s).run Tryz.prog w = .ok (if (L[i]'(by omega) == K[i]'(by omega)) = true then ForInStep.yield (none, ()) else ForInStep.done (some false, ())) w := by
    intro i hi s
    rw [← hF]
    have e1 : (scells L)[i]? = some (.string ⟨(L[i]'(by omega)).toArray⟩) := by simp [scells, hL, hi]
    have e2 : (scells K)[i]? = some (.string ⟨(K[i]'(by omega)).toArray⟩) := by simp [scells, hK, hi]
    simp only [Sem.run_bind, e1, e2]
    go_simp
    by_cases hc : (L[i]'(by omega)) = (K[i]'(by omega)) <;> simp [hc]
  clear hF
  have key : ∀ n a, a + n = 16 → (forIn (List.range' a n) (none, ()) F).run Tryz.prog w = .ok (if (L.drop a == K.drop a) = true then (none, ()) else (some false, ())) w := by
    intro n
    induction n with
    | zero =>
      intro a h
      rw [List.drop_of_length_le (by omega), List.drop_of_length_le (by omega)]
      simp
    | succ n ih =>
      intro a h
      rw [List.range'_succ, List.forIn_cons, Sem.run_bind, hstep a (by omega), drop_beq L K a (by omega) (by omega)]
      cases hc : (L[a]'(by omega) == K[a]'(by omega))
      · simp
      · simp [ih (a + 1) (by omega)]
  rw [key 16 0 rfl]
  simp only [List.drop_zero]
  cases (L == K) <;> simp
end Go.Proofs.YtaficmboooaknaaGreatDoor
namespace Go.Proofs.YtaficmboooaknaaGreatDoor
open Go.RowKit

set_option maxHeartbeats 400000 in
theorem fit_any (l : List UInt8) (w : World) (hl : l.length ≤ 1000000) :
    Calls Tryz.prog 125 #[.string ⟨l.toArray⟩] w fun e w' => e = .returned (.bool (Nib.fitL l)) ∧ w = w' := by
  go_enter Tryz.func125, Tryz.ntmps125
  go_wp2
  go_loop [6] (fun i => ∃ k : Nat, k ≤ l.length ∧ Nib.fitL (l.take k) = true ∧ i = .int .i64 k) (fun i => l.length - (intOf i).toNat)
  case atStart => exact ⟨0, Nat.zero_le _, rfl, rfl⟩
  case round =>
    obtain ⟨k, hk, hf, rfl⟩ := hrel
    have HF := Lib.hid hf; clear hf
    by_cases hlt : k < l.length
    · go_wp2
      · go_ret
        have hb : (15 : Int) < ((l[k].toNat : Nat) : Int) := by assumption
        exact ⟨by rw [Nib.fitL_false l k hlt (by omega)]; rfl, rfl⟩
      · go_round
        case rel =>
          have hb : ((l[k].toNat : Nat) : Int) ≤ 15 := by assumption
          exact ⟨k + 1, by omega, by rw [Nib.fitL_take_succ l k hlt, HF.out]; simp; omega, by go_num⟩
        case measure => simp [intOf]; omega
    · go_wp2
      go_ret
      have := HF.out
      rw [List.take_of_length_le (by omega)] at this
      exact ⟨by rw [this]; rfl, rfl⟩

end Go.Proofs.YtaficmboooaknaaGreatDoor
