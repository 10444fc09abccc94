/- TriCode, NodeBase, NodeEq, NibFit, NodeChk, NibSpread, NibJoin -/
import Derived.Test.YtlckcfpdiigjiaaGreatDoorPk10
import Derived.Test.YtlckcfpdiigjiaaGreatDoorPk04
import Derived.Deep.WholeRow
import Derived.Laws.StructEq
import Derived.Test.YtlckcfpdiigjiaaGreatDoorChecked
import Derived.Test.YtlckcfpdiigjiaaGreatDoorPk01
import Derived.WalkKit
import Derived.WalkSpells
import Derived.WalkLawsBesides
import Derived.ShutString
import Derived.Lib.Hide
import Derived.Deep.RegionLaw
import Derived.Deep.AppendLies
import Derived.WalkSmall
namespace Go.Proofs.YtlckcfpdiigjiaaGreatDoor.Tri
open Sto (T St Rising keys)

/-- A tree behind a path. -/
def lay (p : T) : Tr → Tr
  | .nil => .nil
  | .leaf q v => .leaf (p ++ q) v
  | .ext q t => .ext (p ++ q) t
  | .br v k => above p (.br v k)
theorem lay_nil (t : Tr) : lay [] t = t := by cases t <;> simp [lay, above]
theorem lay_br {p : T} {t : Tr} (h : t.isBr) : lay p t = above p t := by cases t <;> simp_all [Tr.isBr, lay]
theorem lay_nn {p : T} {t : Tr} (h : ¬ t.isNil) : ¬ (lay p t).isNil := by
  cases t with
  | nil => exact absurd trivial h
  | leaf q v => exact id
  | ext q t => exact id
  | br v k => rw [lay]; unfold above; split <;> exact id
/-- A branch with the items of a leaf or an extension alone, whose path goes on behind n half bytes. -/
def splitT (n : Nat) : Tr → Tr
  | .leaf p v => (match p.drop n with | [] => .br v bare | a :: r => .br [] (upd bare (ix a) (.leaf r v)))
  | .ext p t => (match p.drop n with | [] => .br [] bare | a :: r => .br [] (upd bare (ix a) (lay r t)))
  | _ => .br [] bare
theorem split_leaf0 {n : Nat} {p v : T} (h : p.drop n = []) : splitT n (.leaf p v) = .br v bare := by unfold splitT; simp only [h]
theorem split_leaf1 {n : Nat} {p v r : T} {a : UInt8} (h : p.drop n = a :: r) : splitT n (.leaf p v) = .br [] (upd bare (ix a) (.leaf r v)) := by unfold splitT; simp only [h]
theorem split_ext0 {n : Nat} {p : T} {t : Tr} (h : p.drop n = []) : splitT n (.ext p t) = .br [] bare := by unfold splitT; simp only [h]
theorem split_ext1 {n : Nat} {p r : T} {t : Tr} {a : UInt8} (h : p.drop n = a :: r) : splitT n (.ext p t) = .br [] (upd bare (ix a) (lay r t)) := by unfold splitT; simp only [h]
theorem split_br (n : Nat) (t : Tr) : (splitT n t).isBr := by
  cases t with
  | nil => trivial
  | br v k => trivial
  | leaf p v =>
    cases h : p.drop n with
    | nil => rw [split_leaf0 h]; trivial
    | cons a r => rw [split_leaf1 h]; trivial
  | ext p v =>
    cases h : p.drop n with
    | nil => rw [split_ext0 h]; trivial
    | cons a r => rw [split_ext1 h]; trivial
theorem bare_at (i : Fin 16) : bare i = .nil := rfl
theorem upd_nil (a b : UInt8) (t : Tr) (h : ix a ≠ ix b) : upd bare (ix a) t (ix b) = .nil := upd_ne _ _ (fun e => h e.symm)
theorem put_leaf_same (p v w : T) : (Tr.leaf p v).put p w = lay p (Tr.put .nil [] w) := by
  simp [Tr.put, lay]
theorem put_leaf_split {q v p w : T} (hq : Nib.fitL q = true) (hp : Nib.fitL p = true) (h : q ≠ p) :
    (Tr.leaf q v).put p w = lay (p.take (Nib.commonL q p)) ((splitT (Nib.commonL q p) (.leaf q v)).put (p.drop (Nib.commonL q p)) w) := by
  rw [Tr.put, if_neg h]
  obtain ⟨h1, h2, h3⟩ := common_split q p
  have ht2 := common_take q p
  generalize Nib.commonL q p = c at h1 h2 h3 ht2 ⊢
  rw [ht2]
  have fq := fit_drop c hq
  have fp := fit_drop c hp
  cases hd : q.drop c with
  | nil =>
    rw [split_leaf0 hd]
    cases he : p.drop c with
    | nil => exact absurd (by rw [h1, h2, hd, he, ht2]) h
    | cons b s => simp only [Tr.put, bare_at, fork2, lay]
  | cons a r =>
    rw [split_leaf1 hd]
    cases he : p.drop c with
    | nil => simp only [Tr.put, fork2, fork, lay]
    | cons b s =>
      have hne := h3 a r b s hd he
      have hix : ix a ≠ ix b := fun e => hne (ix_inj (fit_cons.1 (hd ▸ fq)).1 (fit_cons.1 (he ▸ fp)).1 e)
      simp only [Tr.put, upd_nil _ _ _ hix, fork2, fork, lay]
theorem put_ext_whole {q p w : T} {t : Tr} (ht : t.isBr) (hq : q ≠ []) (hc : Nib.commonL q p = q.length) :
    (Tr.ext q t).put p w = lay (p.take (Nib.commonL q p)) (t.put (p.drop (Nib.commonL q p)) w) := by
  rw [Tr.put, ← common_take, hc, List.drop_length, List.take_length]
  simp only
  have hb : (t.put (p.drop q.length) w).isBr := by
    cases t with
    | br v k => cases p.drop q.length <;> trivial
    | nil => cases ht
    | leaf q v => cases ht
    | ext q t => cases ht
  rw [lay_br hb, above, if_neg hq]
theorem put_ext_split {q p w : T} {t : Tr} (ht : t.isBr) (hq : Nib.fitL q = true) (hp : Nib.fitL p = true) (hc : Nib.commonL q p < q.length) :
    (Tr.ext q t).put p w = lay (p.take (Nib.commonL q p)) ((splitT (Nib.commonL q p) (.ext q t)).put (p.drop (Nib.commonL q p)) w) := by
  rw [Tr.put]
  obtain ⟨h1, h2, h3⟩ := common_split q p
  have ht2 := common_take q p
  generalize Nib.commonL q p = c at h1 h2 h3 ht2 hc ⊢
  rw [ht2]
  have fq := fit_drop c hq
  have fp := fit_drop c hp
  cases hd : q.drop c with
  | nil => have := congrArg List.length hd; simp at this; omega
  | cons a r =>
    simp only
    rw [split_ext1 hd, lay_br ht]
    cases he : p.drop c with
    | nil => simp only [Tr.put, fork, lay]
    | cons b s =>
      have hne := h3 a r b s hd he
      have hix : ix a ≠ ix b := fun e => hne (ix_inj (fit_cons.1 (hd ▸ fq)).1 (fit_cons.1 (he ▸ fp)).1 e)
      simp only [Tr.put, upd_nil _ _ _ hix, fork, lay]
theorem ite_two {p q : Prop} [Decidable p] [Decidable q] {α : Type} (a b : α) : (if p then if q then a else b else b) = if p ∧ q then a else b := by
  by_cases h : p <;> by_cases h2 : q <;> simp [h, h2]
theorem get_lay {p : T} {t : Tr} {x : T} : (lay p t).get x = if x.take p.length = p then t.get (x.drop p.length) else none := by
  cases t with
  | nil => simp [lay, Tr.get]
  | leaf q v =>
    simp only [lay, Tr.get]
    rw [ite_two]
    congr 1
    rw [cut_eq x (p ++ q) p.length]; simp
  | ext q t =>
    simp only [lay, Tr.get]
    rw [ite_two]
    have e : x.take (p ++ q).length = p ++ q ↔ x.take p.length = p ∧ (x.drop p.length).take q.length = q := by
      rw [List.length_append, List.take_add]
      constructor
      · intro h
        have h1 := congrArg (List.take p.length) h
        have hl := congrArg List.length h
        simp at hl
        have hl2 : p.length ≤ x.length := by omega
        have l2 : (x.take p.length).length = p.length := by simp; omega
        obtain ⟨a, b⟩ := List.append_inj h l2
        exact ⟨a, b⟩
      · rintro ⟨a, b⟩; rw [a, b]
    by_cases h : x.take (p ++ q).length = p ++ q
    · rw [if_pos h, if_pos (e.1 h), List.length_append, ← List.drop_drop]
    · rw [if_neg h, if_neg (fun h2 => h (e.2 h2))]
  | br v k => exact get_above
theorem lay_canon {p : T} {t : Tr} (h : t.canon) : (lay p t).canon := by
  cases t with
  | nil => trivial
  | leaf q v => exact h
  | ext q t => exact ⟨fun e => h.1 (List.append_eq_nil_iff.1 e).2, h.2⟩
  | br v k => exact (above_canon h trivial).1
theorem lay_fits {p : T} {t : Tr} (hp : Nib.fitL p = true) (h : t.fits) : (lay p t).fits := by
  cases t with
  | nil => trivial
  | leaf q v => exact fit_append.2 ⟨hp, h⟩
  | ext q t => exact ⟨fit_append.2 ⟨hp, h.1⟩, h.2⟩
  | br v k => exact above_fits hp h

/-- The kids that are there. -/
def there (k : Fin 16 → Tr) : List (Fin 16) := (List.finRange 16).filter fun i => !(k i).nilB
theorem mem_there {k : Fin 16 → Tr} {i : Fin 16} : i ∈ there k ↔ ¬ (k i).isNil := by
  unfold there
  rw [List.mem_filter, ← nilB_iff]
  simp [List.mem_finRange]
/-- The node of a branch's items, that may be too few for one. -/
def narrowT (v : T) (k : Fin 16 → Tr) : Tr :=
  match there k with
  | [] => .leaf [] v
  | [i] => if v = [] then lay [hb i] (k i) else .br v k
  | _ => .br v k
theorem narrow_nn (v : T) (k : Fin 16 → Tr) : ¬ (narrowT v k).isNil := by
  unfold narrowT
  split
  · exact id
  · rename_i i hi
    split
    · exact lay_nn (mem_there.1 (by rw [hi]; exact List.mem_singleton.2 rfl))
    · exact id
  · exact id
theorem narrow_fits {v : T} {k : Fin 16 → Tr} (hk : ∀ i, (k i).fits) : (narrowT v k).fits := by
  unfold narrowT
  split
  · rfl
  · rename_i i hi
    split
    · exact lay_fits (by have := i.isLt; exact fit_cons.2 ⟨by rw [hb_toNat]; omega, rfl⟩) (hk i)
    · exact hk
  · exact hk
theorem narrow_canon {v : T} {k : Fin 16 → Tr} (hk : ∀ i, (k i).canon) (h : v ≠ [] ∨ ∃ i, ¬ (k i).isNil) : (narrowT v k).canon := by
  unfold narrowT
  split
  · rename_i hi
    refine h.resolve_right ?_
    rintro ⟨i, hn⟩
    have := mem_there.2 hn
    rw [hi] at this; cases this
  · rename_i i hi
    split
    · exact lay_canon (hk i)
    · rename_i hv
      exact ⟨hk, Or.inr ⟨hv, i, mem_there.1 (by rw [hi]; exact List.mem_singleton.2 rfl)⟩⟩
  · rename_i h0 h1
    refine ⟨hk, Or.inl ?_⟩
    cases hl : there k with
    | nil => exact absurd hl h0
    | cons a r =>
      cases r with
      | nil => exact absurd hl (h1 a)
      | cons b s =>
        have hp : (there k).Pairwise (· < ·) := fin_rise.filter _
        rw [hl] at hp
        exact ⟨a, b, (List.pairwise_cons.1 hp).1 b (List.mem_cons_self ..), mem_there.1 (by rw [hl]; simp), mem_there.1 (by rw [hl]; simp)⟩
theorem isNil_eq {t : Tr} (h : t.isNil) : t = .nil := by cases t <;> simp_all [Tr.isNil]
theorem get_narrow {v : T} {k : Fin 16 → Tr} (y : T) (hv : v ≠ [] ∨ ∃ i, ¬ (k i).isNil) : (narrowT v k).get y = (Tr.br v k).get y := by
  unfold narrowT
  split
  · rename_i hi
    have hk : ∀ i, k i = .nil := fun i => by
      refine isNil_eq (Classical.byContradiction fun hn => ?_)
      have := mem_there.2 hn
      rw [hi] at this; cases this
    have hvn : v ≠ [] := hv.resolve_right (fun ⟨i, hn⟩ => hn (by rw [hk i]; trivial))
    cases y with
    | nil => simp [Tr.get, hvn]
    | cons b q => simp [Tr.get, hk]
  · rename_i i hi
    split
    · rename_i e
      subst e
      rw [get_lay]
      cases y with
      | nil => simp [Tr.get]
      | cons b q =>
        simp only [Tr.get, List.length_cons, List.length_nil, Nat.zero_add, List.take_succ_cons, List.take_zero, List.drop_succ_cons, List.drop_zero, List.cons.injEq, and_true]
        by_cases hb1 : b.toNat ≤ 15
        · rw [if_pos hb1]
          by_cases e : b = hb i
          · rw [if_pos e, e, ix_hb]
          · rw [if_neg e]
            have : ¬ ix b ∈ there k := by
              rw [hi, List.mem_singleton]
              intro e2
              exact e (by rw [← e2, hb_ix hb1])
            rw [isNil_eq (Classical.byContradiction fun hn => this (mem_there.2 hn))]; rfl
        · rw [if_neg hb1, if_neg]
          intro e
          exact hb1 (by rw [e, hb_toNat]; have := i.isLt; omega)
    · rfl
  · rfl
/-- A tree without the item of a path. -/
def Tr.del : Tr → T → Tr
  | .nil, _ => .nil
  | .leaf _ _, _ => .nil
  | .ext q t, p => lay q (t.del (p.drop q.length))
  | .br _ k, [] => narrowT [] k
  | .br v k, b :: p => narrowT v (upd k (ix b) ((k (ix b)).del p))
theorem del_good {t : Tr} {p : T} (ht : t.canon) (hf : t.fits) (hp : Nib.fitL p = true) (hg : t.get p ≠ none) :
    (t.del p).canon ∧ (t.del p).fits ∧ (t.isBr → ¬ (t.del p).isNil) ∧ ∀ x, (t.del p).get x = if x = p then none else t.get x := by
  induction t generalizing p with
  | nil => exact absurd rfl hg
  | leaf q v =>
    refine ⟨trivial, trivial, (fun h => by cases h), fun x => ?_⟩
    simp only [Tr.get, Tr.del] at hg ⊢
    by_cases e : p = q
    · subst e
      by_cases e2 : x = p <;> simp [e2]
    · rw [if_neg e] at hg; exact absurd rfl hg
  | ext q t ih =>
    obtain ⟨hq, hbt, hct⟩ := ht
    simp only [Tr.get] at hg
    by_cases e : p.take q.length = q
    · rw [if_pos e] at hg
      obtain ⟨g1, g2, g3, g4⟩ := ih hct hf.2 (fit_drop _ hp) hg
      refine ⟨lay_canon g1, lay_fits hf.1 g2, (fun h => by cases h), fun x => ?_⟩
      rw [Tr.del, get_lay, g4]
      simp only [Tr.get]
      simp only [cut_eq x p q.length, e]
      by_cases e1 : x.take q.length = q
      · simp [e1]
      · simp [e1]
    · rw [if_neg e] at hg; exact absurd rfl hg
  | br v k ih =>
    obtain ⟨hk, hT⟩ := ht
    cases p with
    | nil =>
      have hs : ∃ i, ¬ (k i).isNil := by
        rcases hT with ⟨i, _, _, h, _⟩ | ⟨_, i, h⟩ <;> exact ⟨i, h⟩
      refine ⟨narrow_canon hk (Or.inr hs), narrow_fits hf, fun _ => narrow_nn _ _, fun x => ?_⟩
      rw [Tr.del, get_narrow _ (Or.inr hs)]
      cases x with
      | nil => simp [Tr.get]
      | cons b q => simp [Tr.get]
    | cons b p =>
      obtain ⟨hb1, hp1⟩ := fit_cons.1 hp
      simp only [Tr.get, if_pos hb1] at hg
      obtain ⟨g1, g2, g3, g4⟩ := ih (ix b) (hk _) (hf _) hp1 hg
      have hs : v ≠ [] ∨ ∃ i, ¬ (upd k (ix b) ((k (ix b)).del p) i).isNil := by
        rcases hT with ⟨i, j, hij, h1, h2⟩ | ⟨h, _⟩
        · by_cases e : i = ix b
          · exact Or.inr ⟨j, by rw [upd_ne _ _ (fun e2 => by rw [e, e2] at hij; exact absurd hij (Nat.lt_irrefl _))]; exact h2⟩
          · exact Or.inr ⟨i, by rw [upd_ne _ _ e]; exact h1⟩
        · exact Or.inl h
      have hk2 : ∀ i, (upd k (ix b) ((k (ix b)).del p) i).canon := fun i => by
        unfold upd; split
        · exact g1
        · exact hk i
      refine ⟨narrow_canon hk2 hs, narrow_fits (upd_fits hf g2), fun _ => narrow_nn _ _, fun x => ?_⟩
      rw [Tr.del, get_narrow _ hs]
      cases x with
      | nil => simp [Tr.get]
      | cons c q =>
        simp only [Tr.get, List.cons.injEq]
        by_cases hc : c.toNat ≤ 15
        · rw [if_pos hc]
          by_cases e : ix c = ix b
          · have e2 := ix_inj hc hb1 e
            subst e2
            rw [upd_at, g4, if_pos hc]; simp
          · rw [upd_ne _ _ e, if_neg (fun h => e (by rw [h.1])), if_pos hc]
        · rw [if_neg hc, if_neg hc]; simp
theorem del_items {t : Tr} {p : T} (ht : t.canon) (hf : t.fits) (hp : Nib.fitL p = true) (hg : t.get p ≠ none) : (t.del p).items = del t.items p :=
  look_ext (items_rising _) (del_rising (items_rising _) _) fun x => by
    rw [look_items, (del_good ht hf hp hg).2.2.2 x, look_del (items_rising _), look_items]
theorem TreeOf.del {S : St} {t : Tr} (h : TreeOf S t) (hS : Rising S) {k : T} (hg : Sto.look S k ≠ none) : TreeOf (Tri.del S k) (t.del (Nib.ofL k)) := by
  have hg2 : t.get (Nib.ofL k) ≠ none := by rw [h.get hS]; exact hg
  exact ⟨(del_good h.1 h.2.1 (ofL_fit k) hg2).1, (del_good h.1 h.2.1 (ofL_fit k) hg2).2.1, by rw [del_items h.1 h.2.1 (ofL_fit k) hg2, h.2.2, paths_del]⟩
/-- What the program asks of a tree that it changes: an extension's child is a branch. -/
def Tr.firm : Tr → Prop
  | .nil => True
  | .leaf _ _ => True
  | .ext p t => p ≠ [] ∧ t.isBr ∧ t.firm
  | .br _ k => ∀ i, (k i).firm
theorem canon_firm {t : Tr} (h : t.canon) : t.firm := by
  induction t with
  | nil => trivial
  | leaf p v => trivial
  | ext p t ih => exact ⟨h.1, h.2.1, ih h.2.2⟩
  | br v k ih => exact fun i => ih i (h.1 i)
theorem lay_firm {p : T} {t : Tr} (h : t.firm) : (lay p t).firm := by
  cases t with
  | nil => trivial
  | leaf q v => trivial
  | ext q t => exact ⟨fun e => h.1 (List.append_eq_nil_iff.1 e).2, h.2⟩
  | br v k =>
    rw [lay]
    unfold above
    split
    · exact h
    · rename_i e; exact ⟨e, trivial, h⟩
theorem split_firm {n : Nat} {t : Tr} (h : t.firm) : (splitT n t).firm := by
  cases t with
  | nil => exact fun i => trivial
  | br v k => exact fun i => trivial
  | leaf p v =>
    cases hd : p.drop n with
    | nil => rw [split_leaf0 hd]; exact fun i => trivial
    | cons a r => rw [split_leaf1 hd]; intro i; unfold upd; split <;> trivial
  | ext p t =>
    cases hd : p.drop n with
    | nil => rw [split_ext0 hd]; exact fun i => trivial
    | cons a r =>
      rw [split_ext1 hd]
      intro i
      unfold upd
      split
      · exact lay_firm h.2.2
      · trivial
theorem split_fits {n : Nat} {t : Tr} (h : t.fits) : (splitT n t).fits := by
  cases t with
  | nil => exact fun i => trivial
  | br v k => exact fun i => trivial
  | leaf p v =>
    have h2 := fit_drop n h
    cases hd : p.drop n with
    | nil => rw [split_leaf0 hd]; exact fun i => trivial
    | cons a r => rw [split_leaf1 hd]; exact upd_fits (fun _ => trivial) (fit_cons.1 (hd ▸ h2)).2
  | ext p t =>
    have h2 := fit_drop n h.1
    cases hd : p.drop n with
    | nil => rw [split_ext0 hd]; exact fun i => trivial
    | cons a r => rw [split_ext1 hd]; exact upd_fits (fun _ => trivial) (lay_fits (fit_cons.1 (hd ▸ h2)).2 h.2)
theorem fork_nn (a : UInt8) (t : Tr) (p w : T) : ¬ (fork a t p w).isNil := by cases p <;> exact id
theorem above_nn {p : T} {t : Tr} (h : ¬ t.isNil) : ¬ (above p t).isNil := by unfold above; split; exact h; exact id
theorem put_nn (t : Tr) (p w : T) : ¬ (t.put p w).isNil := by
  cases t with
  | nil => exact id
  | leaf q v =>
    rw [Tr.put]
    split
    · exact id
    · rename_i hne
      obtain ⟨h1, h2, h3⟩ := common_split q p
      have ht2 := common_take q p
      generalize Nib.commonL q p = c at h1 h2 h3 ht2 ⊢
      refine above_nn ?_
      cases hd : q.drop c with
      | cons a r => exact fork_nn _ _ _ _
      | nil =>
        cases he : p.drop c with
        | cons b s => exact id
        | nil => exact absurd (by rw [h1, h2, hd, he, ht2]) hne
  | ext q t =>
    rw [Tr.put]
    split
    · exact id
    · exact above_nn (fork_nn _ _ _ _)
  | br v k => cases p <;> exact id
/-- No path of a node is longer than a key's. -/
def Tr.low : Tr → Prop
  | .nil => True
  | .leaf p _ => p.length ≤ 16
  | .ext p t => p.length ≤ 16 ∧ t.low
  | .br _ k => ∀ i, (k i).low
theorem small_low {t : Tr} (h : t.small) : t.low := by
  induction t with
  | nil => trivial
  | leaf p v => exact h.1
  | ext p t ih => exact ⟨h.1, ih h.2⟩
  | br v k ih => exact fun i => ih i (h.2 i)
structure Trim (t : Tr) : Prop where
  firm : t.firm
  fits : t.fits
  low : t.low
theorem Trim.br {v : T} {k : Fin 16 → Tr} (h : Trim (.br v k)) (i : Fin 16) : Trim (k i) := ⟨h.firm i, h.fits i, h.low i⟩
theorem Trim.ext {p : T} {t : Tr} (h : Trim (.ext p t)) : Trim t := ⟨h.firm.2.2, h.fits.2, h.low.2⟩
theorem low_split {n : Nat} {t : Tr} (h : t.low) (hf : t.firm) : (splitT n t).low := by
  cases t with
  | nil => exact fun i => trivial
  | br v k => exact fun i => trivial
  | leaf p v =>
    cases hd : p.drop n with
    | nil => rw [split_leaf0 hd]; exact fun i => trivial
    | cons a r =>
      rw [split_leaf1 hd]
      have := congrArg List.length hd
      have h2 : p.length ≤ 16 := h
      simp at this
      intro i; unfold upd; split
      · show r.length ≤ 16
        omega
      · trivial
  | ext p t =>
    cases hd : p.drop n with
    | nil => rw [split_ext0 hd]; exact fun i => trivial
    | cons a r =>
      rw [split_ext1 hd, lay_br hf.2.1]
      have := congrArg List.length hd
      have h2 : p.length ≤ 16 := h.1
      simp at this
      intro i; unfold upd; split
      · unfold above; split
        · exact h.2
        · exact ⟨by omega, h.2⟩
      · trivial
theorem Trim.split {n : Nat} {t : Tr} (h : Trim t) : Trim (splitT n t) := ⟨split_firm h.firm, split_fits h.fits, low_split h.low h.firm⟩
theorem Trim.nil : Trim .nil := ⟨trivial, trivial, trivial⟩
/-- What falls from one call of with to the next. -/
def rank : Tr → T → Nat
  | .leaf _ _, p => 2 * p.length + 1
  | .ext _ _, p => 2 * p.length + 1
  | _, p => 2 * p.length
theorem rank_br {t : Tr} (h : t.isBr) (p : T) : rank t p = 2 * p.length := by cases t <;> simp_all [Tr.isBr, rank]
theorem rank_le (t : Tr) (p : T) : rank t p ≤ 2 * p.length + 1 := by cases t <;> simp [rank]
/-- Where a leaf's or an extension's path ends within what it has in common with another one, nothing is split. -/
def splits (t : Tr) (p : T) : Bool := match t with
  | .leaf q _ => decide (Nib.commonL q p < q.length) || decide (Nib.commonL q p < p.length)
  | .ext q _ => decide (Nib.commonL q p < q.length)
  | _ => false
theorem put_leaf_plan {q v p x : T} (hq : Nib.fitL q = true) (hp : Nib.fitL p = true) :
    (Tr.leaf q v).put p x = lay (p.take (Nib.commonL q p)) (((if splits (.leaf q v) p then splitT (Nib.commonL q p) (.leaf q v) else .nil)).put (p.drop (Nib.commonL q p)) x) := by
  have hle := Nib.commonL_le q p
  by_cases h : splits (.leaf q v) p = true
  · rw [if_pos h]
    refine put_leaf_split hq hp fun e => ?_
    subst e
    have : Nib.commonL q q = q.length := by have := common_append q [] []; simpa [Nib.commonL] using this
    simp [splits, this] at h
  · rw [if_neg h]
    simp only [splits, Bool.or_eq_true, decide_eq_true_eq, not_or] at h
    obtain ⟨h1, h2, _⟩ := common_split q p
    have e1 : Nib.commonL q p = q.length := by omega
    have e2 : Nib.commonL q p = p.length := by omega
    have e : q = p := by
      have t2 := common_take q p
      rw [e1, List.take_length] at t2
      rw [t2, ← e1, e2, List.take_length]
    subst e
    rw [put_leaf_same, e1, List.take_length, List.drop_length]
theorem put_ext_plan {q p x : T} {t : Tr} (ht : t.isBr) (hq0 : q ≠ []) (hq : Nib.fitL q = true) (hp : Nib.fitL p = true) :
    (Tr.ext q t).put p x = lay (p.take (Nib.commonL q p)) (((if splits (.ext q t) p then splitT (Nib.commonL q p) (.ext q t) else t)).put (p.drop (Nib.commonL q p)) x) := by
  have hle := Nib.commonL_le q p
  by_cases h : splits (.ext q t) p = true
  · rw [if_pos h]
    exact put_ext_split ht hq hp (by simpa [splits] using h)
  · rw [if_neg h]
    exact put_ext_whole ht hq0 (by simp [splits] at h; omega)
theorem put_br {t : Tr} (h : t.isBr) (p x : T) : (t.put p x).isBr := by
  cases t with
  | br v k => cases p <;> trivial
  | _ => cases h
end Go.Proofs.YtlckcfpdiigjiaaGreatDoor.Tri
namespace Go.Proofs.YtlckcfpdiigjiaaGreatDoor
open Go.RowKit
open Go.Proofs.YtlckcfpdiigjiaaGreatDoor.Nd (N)

def ncl (n : N) : List Value := .int .i64 n.kind :: .string ⟨n.path.toArray⟩ :: .string ⟨n.val.toArray⟩ :: scells n.kids
def ndval (n : N) : Value := .agg (ncl n).toArray
theorem ncl_length (n : N) (h : n.kids.length = 16) : (ncl n).length = 19 := by simp [ncl, scells_length, h]
/-- A node in a block. -/
def NodeAt (w : World) (g : Nat) (n : N) : Prop := w.heap[g]? = some (.cells (ncl n).toArray 126 (0, 0))
theorem NodeAt.kind {w : World} {g : Nat} {n : N} (h : NodeAt w g n) : w.cell? ⟨g, 0, none⟩ = some (.int .i64 n.kind) := by
  rw [cell_of_row w g 0 _ _ _ h]
  rfl
theorem NodeAt.path {w : World} {g : Nat} {n : N} (h : NodeAt w g n) : w.cell? ⟨g, 1, none⟩ = some (.string ⟨n.path.toArray⟩) := by
  rw [cell_of_row w g 1 _ _ _ h]
  rfl
theorem NodeAt.val {w : World} {g : Nat} {n : N} (h : NodeAt w g n) : w.cell? ⟨g, 2, none⟩ = some (.string ⟨n.val.toArray⟩) := by
  rw [cell_of_row w g 2 _ _ _ h]
  rfl
theorem NodeAt.kid {w : World} {g : Nat} {n : N} (h : NodeAt w g n) (i : Nat) (hi : i < n.kids.length) : w.cell? ⟨g, 3 + i, none⟩ = some (.string ⟨n.kids[i].toArray⟩) := by
  rw [cell_of_row w g (3 + i) _ _ _ h, List.getElem?_toArray, Nat.add_comm 3 i]
  show (scells n.kids)[i]? = _
  simp [scells, hi]
theorem NodeAt.below {w w' : World} {g : Nat} {n : N} (h : NodeAt w g n) (hb : Below w.heap.size w w') : NodeAt w' g n := (hb.block g (lt_of_heap h)).trans h
theorem Nd.kids_take (l : List (List UInt8)) (k : Nat) (hk : k < l.length) : Nd.kidsL (l.take (k + 1)) = if l[k] = [] then Nd.kidsL (l.take k) else Nd.kidsL (l.take k) ++ [l[k]] := by
  unfold Nd.kidsL
  rw [List.take_succ_eq_append_getElem hk, List.filter_append]
  by_cases h : l[k] = [] <;> simp [h]
end Go.Proofs.YtlckcfpdiigjiaaGreatDoor
namespace Go.Proofs.YtlckcfpdiigjiaaGreatDoor
open Go.RowKit
open Go.Proofs.YtlckcfpdiigjiaaGreatDoor.Nd (N)

theorem drop_beq (L K : List (List UInt8)) (i : Nat) (hL : i < L.length) (hK : i < K.length) : (L.drop i == K.drop i) = ((L[i] == K[i]) && (L.drop (i + 1) == K.drop (i + 1))) := by
  rw [List.drop_eq_getElem_cons hL, List.drop_eq_getElem_cons hK, List.cons_beq_cons]
theorem eq_strs (d : Nat) (L K : List (List UInt8)) (w : World) (hL : L.length = 16) (hK : K.length = 16) :
    (Op.equalIn (d + 2) 124 (.agg (scells L).toArray) (.agg (scells K).toArray)).run Tryz.prog w = .ok (L == K) w := by
  have hu := Tryz.underlying124
  have hs := Tryz.sizeOf9
  have ha := Tryz.isAgg9
  unfold Op.equalIn
  go_simp
  generalize hF : (fun (i : Nat) (__s : Option Bool × PUnit) => _) = F
  have hstep : ∀ i (hi : i < 16) s, (F i s).run Tryz.prog w = .ok (if (L[i]'(by omega) == K[i]'(by omega)) = true then ForInStep.yield (none, ()) else ForInStep.done (some false, ())) w := by
    intro i hi s
    rw [← hF]
    have e1 : (scells L)[i]? = some (.string ⟨(L[i]'(by omega)).toArray⟩) := by simp [scells, hL, hi]
    have e2 : (scells K)[i]? = some (.string ⟨(K[i]'(by omega)).toArray⟩) := by simp [scells, hK, hi]
    simp only [Sem.run_bind, e1, e2]
    go_simp
    by_cases hc : (L[i]'(by omega)) = (K[i]'(by omega)) <;> simp [hc]
  clear hF
  have key : ∀ n a, a + n = 16 → (forIn (List.range' a n) (none, ()) F).run Tryz.prog w = .ok (if (L.drop a == K.drop a) = true then (none, ()) else (some false, ())) w := by
    intro n
    induction n with
    | zero =>
      intro a h
      rw [List.drop_of_length_le (by omega), List.drop_of_length_le (by omega)]
      simp
    | succ n ih =>
      intro a h
      rw [List.range'_succ, List.forIn_cons, Sem.run_bind, hstep a (by omega), drop_beq L K a (by omega) (by omega)]
      cases hc : (L[a]'(by omega) == K[a]'(by omega))
      · simp
      · simp [ih (a + 1) (by omega)]
  rw [key 16 0 rfl]
  simp only [List.drop_zero]
  cases (L == K) <;> simp
end Go.Proofs.YtlckcfpdiigjiaaGreatDoor
namespace Go.Proofs.YtlckcfpdiigjiaaGreatDoor
open Go.RowKit

set_option maxHeartbeats 400000 in
theorem fit_any (l : List UInt8) (w : World) (hl : l.length ≤ 1000000) :
    Calls Tryz.prog 65 #[.string ⟨l.toArray⟩] w fun e w' => e = .returned (.bool (Nib.fitL l)) ∧ w = w' := by
  go_enter Tryz.func65, Tryz.ntmps65
  go_wp2
  go_loop [6] (fun i => ∃ k : Nat, k ≤ l.length ∧ Nib.fitL (l.take k) = true ∧ i = .int .i64 k) (fun i => l.length - (intOf i).toNat)
  case atStart => exact ⟨0, Nat.zero_le _, rfl, rfl⟩
  case round =>
    obtain ⟨k, hk, hf, rfl⟩ := hrel
    have HF := Lib.hid hf; clear hf
    by_cases hlt : k < l.length
    · go_wp2
      · go_ret
        have hb : (15 : Int) < ((l[k].toNat : Nat) : Int) := by assumption
        exact ⟨by rw [Nib.fitL_false l k hlt (by omega)]; rfl, rfl⟩
      · go_round
        case rel =>
          have hb : ((l[k].toNat : Nat) : Int) ≤ 15 := by assumption
          exact ⟨k + 1, by omega, by rw [Nib.fitL_take_succ l k hlt, HF.out]; simp; omega, by go_num⟩
        case measure => simp [intOf]; omega
    · go_wp2
      go_ret
      have := HF.out
      rw [List.take_of_length_le (by omega)] at this
      exact ⟨by rw [this]; rfl, rfl⟩

end Go.Proofs.YtlckcfpdiigjiaaGreatDoor
namespace Go.Proofs.YtlckcfpdiigjiaaGreatDoor
open Go.RowKit
open Go.Proofs.YtlckcfpdiigjiaaGreatDoor.Nd (N)

set_option maxRecDepth 100000 in
theorem npath_any (p : List UInt8) (w : World) :
    Calls Tryz.prog 130 #[.string ⟨p.toArray⟩] w fun e w' => e = .returned (.bool (Nd.pathB p)) ∧ w = w' := by
  by_cases h : p.length ≤ 16
  · have h1 : (p.length : Int) ≤ 16 := by omega
    have hr : Nd.pathB p = Nib.fitL p := by simp [Nd.pathB, h]
    rw [hr]
    have HF := Lib.hid (fun w => fit_any p w (by omega))
    clear hr h
    go_enter Tryz.func130, Tryz.ntmps130
    go_wp2_with fail
    refine (HF.out _).mono ?_
    rintro e w1 ⟨rfl, rfl⟩
    go_wp2
    go_ret
    exact ⟨rfl, rfl⟩
  · have h1 : ¬ ((p.length : Int) ≤ 16) := by omega
    have hr : Nd.pathB p = false := by simp [Nd.pathB, h]
    rw [hr]
    clear hr h
    go_enter Tryz.func130, Tryz.ntmps130
    go_wp2
    go_ret
    exact ⟨rfl, rfl⟩

def aval (L : List (List UInt8)) : Value := .agg (scells L).toArray
set_option maxRecDepth 100000 in
theorem nempty_any (L : List (List UInt8)) (w : World) (hL : L.length = 16) :
    Calls Tryz.prog 131 #[aval L] w fun e w' => e = .returned (.bool (L == Nd.none16)) ∧ Below w.heap.size w w' := by
  unfold aval
  have h1 := fun w => eq_strs 9998 L Nd.none16 w hL rfl
  have hz : (scells Nd.none16).toArray = #[.string ⟨#[]⟩, .string ⟨#[]⟩, .string ⟨#[]⟩, .string ⟨#[]⟩, .string ⟨#[]⟩, .string ⟨#[]⟩, .string ⟨#[]⟩, .string ⟨#[]⟩, .string ⟨#[]⟩, .string ⟨#[]⟩, .string ⟨#[]⟩, .string ⟨#[]⟩, .string ⟨#[]⟩, .string ⟨#[]⟩, .string ⟨#[]⟩, .string ⟨#[]⟩] := rfl
  rw [hz] at h1
  have hcs : (scells L).toArray.size = 16 := by rw [List.size_toArray, scells_length, hL]
  have HI : Hid ((Tryz.prog.info? 124).map (·.size) = some (scells L).toArray.size) := Lib.hid (by rw [hcs]; kernel_rfl)
  have HRO : Hid ((w.alloc (.cells (scells L).toArray 124)).heap[w.heap.size]? = some (.cells (scells L).toArray 124 (0, 0))) := Lib.hid (heap_new_at w _ _ rfl)
  have HB : Hid (Below w.heap.size w (w.alloc (.cells (scells L).toArray 124))) := Lib.hid ((Below.refl _ w).alloc (Nat.le_refl _) _)
  obtain ⟨C, hC⟩ : ∃ C, (scells L).toArray = C := ⟨_, rfl⟩
  obtain ⟨b, hb⟩ : ∃ b, (L == Nd.none16) = b := ⟨_, rfl⟩
  rw [hC] at HI HRO HB h1 ⊢
  rw [hb] at h1 ⊢
  clear hC hb hcs hz hL
  go_enter Tryz.func131, Tryz.ntmps131
  go_wp2_with (refine wpList_load_row (by rfl) _ _ (by rfl) w.heap.size (by rfl) _ C _ _ HRO.out Tryz.underlying124 (by rfl) HI.out ?_)
  go_ret
  exact ⟨rfl, HB.out⟩

theorem wpList_load_mid_w {P : Program} {ops : Array Oper} {rest : List Oper} {op : Oper} {a : Act} {w : World} {Q : Exit → Act → World → Prop} (hw : Region.wanted op (yielded ops a.tmps) = true) (ty : TypeId) (x : Operand) (ho : op.op = .load ty x)
    (b o : Nat) (hx : a.eval x = .pointer (some ⟨b, o, none⟩)) (cs : List Value) (d : TypeDesc) (hc : w.rangeAt b o cs)
    (hu : P.underlying ty = some d) (hd : d.isRow = true) (hi : (P.info? ty).map (·.size) = some cs.length)
    (h : wpList P ops Q rest (a.put op.dst (.agg cs.toArray)) w) : wpList P ops Q (op :: rest) a w :=
  wpList_step fun _ hK => by rw [if_pos hw]; exact wp_load_mid ty x ho b o hx cs d hc hu hd hi (hK _ _ h)
theorem nbox (n : N) (w : World) (hn : n.kids.length = 16) : ∃ C, (ncl n).toArray = C ∧ Hid (Below w.heap.size w (w.alloc (.cells C 126))) ∧
    Hid (∀ w', Below (w.alloc (.cells C 126)).heap.size (w.alloc (.cells C 126)) w' → w'.cell? ⟨w.heap.size, 0, none⟩ = some (.int .i64 n.kind) ∧ w'.cell? ⟨w.heap.size, 1, none⟩ = some (.string ⟨n.path.toArray⟩) ∧ w'.cell? ⟨w.heap.size, 2, none⟩ = some (.string ⟨n.val.toArray⟩) ∧ w'.cell? ⟨w.heap.size, 3, none⟩ = some (.string ⟨(n.kids.getD 0 []).toArray⟩) ∧
      w'.rangeAt w.heap.size 3 (scells n.kids) ∧ w'.heap[w.heap.size]? = some (.cells C 126 (0, 0))) ∧
    Hid ((Tryz.prog.info? 126).map (·.size) = some C.size) ∧ Hid ((Tryz.prog.info? 124).map (·.size) = some (scells n.kids).length) := by
  have hat : NodeAt (w.alloc (.cells (ncl n).toArray 126)) w.heap.size n := heap_new_at w _ _ rfl
  have hkid : ∀ w' g, NodeAt w' g n → w'.cell? ⟨g, 3, none⟩ = some (.string ⟨(n.kids.getD 0 []).toArray⟩) := fun w' g h => by
    have h1 := h.kid 0 (by omega)
    have h2 : n.kids.getD 0 [] = n.kids[0]'(by omega) := by
      rw [List.getD_eq_getElem?_getD, List.getElem?_eq_getElem (by omega)]
      rfl
    rw [h2]
    exact h1
  refine ⟨_, rfl, Lib.hid ((Below.refl _ w).alloc (Nat.le_refl _) _), Lib.hid (fun w' h => ?_), Lib.hid ?_, Lib.hid ?_⟩
  · have h1 := hat.below h
    refine ⟨h1.kind, h1.path, h1.val, hkid w' _ h1, fun j v hv => ?_, h1⟩
    rw [cell_of_row w' _ (3 + j) _ _ _ h1, List.getElem?_toArray, Nat.add_comm 3 j]
    exact hv
  · rw [List.size_toArray, ncl_length n hn]; kernel_rfl
  · rw [scells_length, hn]; kernel_rfl
set_option maxRecDepth 100000 in
set_option maxHeartbeats 1000000 in
theorem nleaf_any (n : N) (w : World) (hn : n.kids.length = 16) :
    Calls Tryz.prog 121 #[ndval n] w fun e w' => e = .returned (.bool (Nd.leafB n)) ∧ Below w.heap.size w w' := by
  obtain ⟨C, hC, HB0, HCE, HI, HI2⟩ := nbox n w hn
  have HEM := Lib.hid (fun w => nempty_any n.kids w hn)
  have HPA := Lib.hid (fun w => npath_any n.path w)
  obtain ⟨c0, c1, c2, c3, cR, -⟩ := HCE.out _ (Below.refl _ _)
  have HCR := Lib.hid cR
  obtain ⟨P, hP⟩ : ∃ P, Nd.pathB n.path = P := ⟨_, rfl⟩
  obtain ⟨E, hE⟩ : ∃ E, (n.kids == Nd.none16) = E := ⟨_, rfl⟩
  unfold Nd.leafB ndval
  unfold aval at HEM
  rw [hC, hP, hE]
  rw [hP] at HPA
  rw [hE] at HEM
  clear hC hP hE cR c0 c3
  cases P with
  | false =>
    go_enter Tryz.func121, Tryz.ntmps121
    go_wp2_with fail
    refine (HPA.out _).mono ?_
    rintro e w1 ⟨rfl, rfl⟩
    go_wp2
    go_ret
    exact ⟨rfl, HB0.out⟩
  | true =>
    by_cases hv : n.val = []
    · rw [hv] at c2
      rw [hv]
      go_enter Tryz.func121, Tryz.ntmps121
      go_wp2_with fail
      refine (HPA.out _).mono ?_
      rintro e w1 ⟨rfl, rfl⟩
      go_wp2
      go_ret
      exact ⟨rfl, HB0.out⟩
    · have hv1 : (n.val == []) = false := by rw [beq_eq_false_iff_ne]; exact hv
      rw [decide_eq_true (p := n.val ≠ []) hv, Bool.true_and, Bool.true_and]
      by_cases hl : n.val.length ≤ 32
      · have hl1 : (n.val.length : Int) ≤ 32 := by omega
        rw [decide_eq_true hl, Bool.true_and]
        clear hl
        go_enter Tryz.func121, Tryz.ntmps121
        go_wp2_with fail
        refine (HPA.out _).mono ?_
        rintro e w1 ⟨rfl, rfl⟩
        go_wp2_with (refine wpList_load_mid_w (by rfl) _ _ (by rfl) w.heap.size 3 (by rfl) (scells n.kids) _ HCR.out Tryz.underlying124 (by rfl) HI2.out ?_)
        refine (HEM.out _).mono ?_
        rintro e w2 ⟨rfl, hb2⟩
        go_wp2
        go_ret
        exact ⟨rfl, bchain HB0.out hb2⟩
      · have hl1 : ¬ ((n.val.length : Int) ≤ 32) := by omega
        rw [decide_eq_false hl]
        clear hl
        go_enter Tryz.func121, Tryz.ntmps121
        go_wp2_with fail
        refine (HPA.out _).mono ?_
        rintro e w1 ⟨rfl, rfl⟩
        go_wp2
        go_ret
        exact ⟨rfl, HB0.out⟩
theorem wpList_load_row_w {P : Program} {ops : Array Oper} {rest : List Oper} {o : Oper} {a : Act} {w : World} {Q : Exit → Act → World → Prop} (hw : Region.wanted o (yielded ops a.tmps) = true) (ty : TypeId) (x : Operand) (ho : o.op = .load ty x)
    (g : Nat) (hx : a.eval x = .pointer (some ⟨g, 0, none⟩)) (t : TypeId) (cells : Array Value) (fr : Nat × Nat) (d : TypeDesc) (hg : w.heap[g]? = some (.cells cells t fr))
    (hu : P.underlying ty = some d) (hd : (match d with | .struct _ | .array _ _ => true | _ => false) = true) (hi : (P.info? ty).map (·.size) = some cells.size)
    (h : wpList P ops Q rest (a.put o.dst (.agg cells)) w) : wpList P ops Q (o :: rest) a w :=
  wpList_step fun _ hK => by rw [if_pos hw]; exact wp_load_row ty x ho g hx t cells fr d hg hu hd hi (hK _ _ h)
theorem wpList_store_fresh {P : Program} {ops : Array Oper} {rest : List Oper} {o : Oper} {a : Act} {w : World} {Q : Exit → Act → World → Prop} (hgd : o.guard = none) (ty : TypeId) (x y : Operand) (ho : o.op = .store ty x y)
    (g : Nat) (hg : g = w.heap.size) (cells : Array Value) (hx : a.eval x = .pointer (some ⟨g, 0, none⟩)) (hy : a.eval y = .agg cells)
    (t : TypeId) (old : Array Value) (hi : (P.info? ty).map (·.size) = some cells.size)
    (hold : old.size = cells.size) (h1 : cells.all (·.oneCell') = true)
    (h : wpList P ops Q rest (a.put o.dst undef) (w.alloc (.cells cells t))) : wpList P ops Q (o :: rest) a (w.alloc (.cells old t)) := by
  subst hg
  exact wpList_store_row hgd ty x y ho w.heap.size cells hx hy t old (heap_alloc_new w _) hi hold h1 (by rw [World.setRow_alloc_new]; exact h)
theorem scells_one (L : List (List UInt8)) : (scells L).toArray.all (·.oneCell') = true := by
  simp [scells, Value.oneCell']
theorem scells_set (L : List (List UInt8)) (i : Nat) (x : List UInt8) : scells (L.set i x) = (scells L).set i (.string ⟨x.toArray⟩) := by
  simp [scells, List.map_set]
set_option maxRecDepth 100000 in
set_option maxHeartbeats 1000000 in
theorem next_any (n : N) (w : World) (hn : n.kids.length = 16) :
    Calls Tryz.prog 122 #[ndval n] w fun e w' => e = .returned (.bool (Nd.extB n)) ∧ Below w.heap.size w w' := by
  obtain ⟨C, hC, HB0, HCE, HI, HI2⟩ := nbox n w hn
  have HEM := Lib.hid (fun w => nempty_any (n.kids.set 0 []) w (by simpa using hn))
  have HPA := Lib.hid (fun w => npath_any n.path w)
  have HL := Lib.hid (scells_length n.kids)
  have HON := Lib.hid (scells_one n.kids)
  have HST := Lib.hid (scells_set n.kids 0 [])
  obtain ⟨P, hP⟩ : ∃ P, Nd.pathB n.path = P := ⟨_, rfl⟩
  obtain ⟨E, hE⟩ : ∃ E, (n.kids.set 0 [] == Nd.none16) = E := ⟨_, rfl⟩
  obtain ⟨Z, hZ⟩ : ∃ Z, n.kids.getD 0 [] = Z := ⟨_, rfl⟩
  obtain ⟨R, hR⟩ : ∃ R, Nd.extB n = R := ⟨_, rfl⟩
  have HR := Lib.hid hR
  rw [hR]
  unfold Nd.extB at HR
  unfold ndval
  unfold aval at HEM
  have HSZ : Hid ((scells n.kids).toArray.size = 16) := Lib.hid (by rw [List.size_toArray, scells_length, hn])
  rw [hZ] at HCE HR
  rw [hC]
  rw [hP, hE] at HR
  rw [hP] at HPA
  rw [hE] at HEM
  clear hC hP hE hZ hR
  obtain ⟨O, hO⟩ : ∃ O, scells (n.kids.set 0 []) = O := ⟨_, rfl⟩
  obtain ⟨K, hK⟩ : ∃ K, scells n.kids = K := ⟨_, rfl⟩
  rw [hO] at HST HEM
  rw [hK] at HI2 HL HON HCE HST HSZ
  clear hO hK
  obtain ⟨c0, c1, c2, c3, cR, -⟩ := HCE.out _ (Below.refl _ _)
  have HCR := Lib.hid cR
  have hb2 : Below (w.alloc (.cells C 126)).heap.size (w.alloc (.cells C 126)) ((w.alloc (.cells C 126)).alloc (.cells (K.set 0 (.string ⟨#[]⟩)).toArray 124)) := (Below.refl _ _).alloc (Nat.le_refl _) _
  obtain ⟨e0, e1, e2, e3, -, -⟩ := HCE.out _ hb2
  have HB2 := Lib.hid (bchain HB0.out hb2)
  have HN2 := Lib.hid (heap_new_at (w.alloc (.cells C 126)) (.cells (K.set 0 (.string ⟨#[]⟩)).toArray 124) (w.heap.size + 1) (by simp))
  have HI3 : Hid ((Tryz.prog.info? 124).map (·.size) = some (K.set 0 (.string ⟨#[]⟩)).toArray.size) := Lib.hid (HI2.out.trans (by simp))
  have hKl : K.length = 16 := by have := HSZ.out; simpa using this
  have HEQ : Hid (O = K.set 0 (.string ⟨#[]⟩)) := Lib.hid HST.out
  clear c0 c1 c2 c3 e0 cR hb2
  by_cases hp : n.path = []
  · obtain rfl : R = false := by rw [← HR.out, hp]; rfl
    rw [hp] at e1
    go_enter Tryz.func122, Tryz.ntmps122
    go_wp2_with (first | (refine wpList_load_mid_w (by rfl) _ _ (by rfl) w.heap.size 3 (by rfl) K _ HCR.out Tryz.underlying124 (by rfl) HI2.out ?_) | (refine wpList_store_fresh (by rfl) _ _ _ (by rfl) (w.heap.size + 1) (by simp) K.toArray (by rfl) (by rfl) _ _ (HI2.out.trans (by simp)) HSZ.out.symm HON.out ?_))
    go_ret
    exact ⟨rfl, HB2.out⟩
  · have hp1 : (n.path == []) = false := by rw [beq_eq_false_iff_ne]; exact hp
    rw [decide_eq_true (p := n.path ≠ []) hp, Bool.true_and] at HR
    clear hp
    go_enter Tryz.func122, Tryz.ntmps122
    go_wp2_with (first | (refine wpList_load_mid_w (by rfl) _ _ (by rfl) w.heap.size 3 (by rfl) K _ HCR.out Tryz.underlying124 (by rfl) HI2.out ?_) | (refine wpList_store_fresh (by rfl) _ _ _ (by rfl) (w.heap.size + 1) (by simp) K.toArray (by rfl) (by rfl) _ _ (HI2.out.trans (by simp)) HSZ.out.symm HON.out ?_))
    refine (HPA.out _).mono ?_
    rintro e w1 ⟨rfl, rfl⟩
    cases P with
    | false =>
      obtain rfl : R = false := HR.out.symm
      go_wp2
      go_ret
      exact ⟨rfl, HB2.out⟩
    | true =>
      by_cases hv : n.val = []
      · rw [hv] at e2
        rw [decide_eq_true (p := n.val = []) hv, Bool.true_and, Bool.true_and] at HR
        by_cases hl : Z.length = 32
        · have hl1 : (Z.length : Int) = 32 := by omega
          rw [decide_eq_true hl, Bool.true_and] at HR
          obtain rfl : E = R := HR.out
          clear hl hv
          go_wp2_with (refine wpList_load_row_w (by rfl) _ _ (by rfl) (w.heap.size + 1) (by rfl) _ (K.set 0 (.string ⟨#[]⟩)).toArray _ _ HN2.out Tryz.underlying124 (by rfl) HI3.out ?_)
          have HB3 := HB2.out
          rw [← HEQ.out] at HB3 ⊢
          refine (HEM.out _).mono ?_
          rintro e w2 ⟨rfl, hb2⟩
          go_wp2
          go_ret
          exact ⟨rfl, bchain HB3 hb2⟩
        · have hl1 : ((Z.length : Int) == 32) = false := by rw [beq_eq_false_iff_ne]; omega
          have hl2 : ¬ ((Z.length : Int) = 32) := by omega
          obtain rfl : R = false := by rw [← HR.out, decide_eq_false hl]; rfl
          clear hl hv
          go_wp2
          go_ret
          exact ⟨rfl, HB2.out⟩
      · have hv1 : (n.val == []) = false := by rw [beq_eq_false_iff_ne]; exact hv
        obtain rfl : R = false := by rw [← HR.out, decide_eq_false (p := n.val = []) hv]; rfl
        clear hv
        go_wp2
        go_ret
        exact ⟨rfl, HB2.out⟩
theorem idx_strs (L : List (List UInt8)) (hL : L.length = 16) (k : Nat) (hk : k < 16) (w : World) : (Instr.index 124 (.agg (scells L).toArray) (.int .i64 k)).run Tryz.prog w = .ok (.string ⟨(L[k]'(by omega)).toArray⟩) w := by
  have hu := Tryz.underlying124
  have hk0 : (0 : Int) ≤ (k : Int) := by omega
  have hk8 : (k : Int) < 16 := by omega
  have hat : (scells L)[k]? = some (.string ⟨(L[k]'(by omega)).toArray⟩) := by simp [scells, hL, hk]
  have hs := Tryz.sizeOf9
  have ha := Tryz.isAgg9
  unfold Instr.index
  go_simp
set_option maxRecDepth 100000 in
set_option maxHeartbeats 1000000 in
theorem nbranch_any (n : N) (w : World) (hn : n.kids.length = 16) :
    Calls Tryz.prog 123 #[ndval n] w fun e w' => e = .returned (.bool (Nd.branchB n)) ∧ Below w.heap.size w w' := by
  obtain ⟨C, hC, HB0, HCE, HI, HI2⟩ := nbox n w hn
  obtain ⟨R, hR⟩ : ∃ R, Nd.branchB n = R := ⟨_, rfl⟩
  have HR := Lib.hid hR
  rw [hR]
  unfold Nd.branchB at HR
  unfold ndval
  rw [hC]
  clear hC hR
  obtain ⟨c0, c1, c2, c3, cR, -⟩ := HCE.out _ (Below.refl _ _)
  have HCR := Lib.hid cR
  clear c0 c3 cR
  by_cases hp : n.path = []
  case neg =>
    have hp1 : (n.path == []) = false := by rw [beq_eq_false_iff_ne]; exact hp
    obtain rfl : R = false := by rw [← HR.out, decide_eq_false hp]; rfl
    clear hp
    go_enter Tryz.func123, Tryz.ntmps123
    go_wp2
    go_ret
    exact ⟨rfl, HB0.out⟩
  rw [hp] at c1
  rw [decide_eq_true hp, Bool.true_and] at HR
  clear hp
  by_cases hl : n.val.length ≤ 32
  case neg =>
    have hl1 : (32 : Int) < (n.val.length : Int) := by omega
    obtain rfl : R = false := by rw [← HR.out, decide_eq_false hl]; rfl
    clear hl
    go_enter Tryz.func123, Tryz.ntmps123
    go_wp2
    go_ret
    exact ⟨rfl, HB0.out⟩
  have hl1 : ¬ ((32 : Int) < (n.val.length : Int)) := by omega
  rw [decide_eq_true hl, Bool.true_and] at HR
  clear hl
  obtain ⟨q, hq⟩ : ∃ q : Nat, (if n.val = [] then 0 else 1) = q := ⟨_, rfl⟩
  have hq1 : q ≤ 1 := by rw [← hq]; split <;> omega
  rw [hq] at HR
  have hvd : n.val = [] ∧ q = 0 ∨ (n.val == []) = false ∧ q = 1 := by
    by_cases h : n.val = []
    · exact Or.inl ⟨h, by rw [← hq, if_pos h]⟩
    · exact Or.inr ⟨by rw [beq_eq_false_iff_ne]; exact h, by rw [← hq, if_neg h]⟩
  clear hq
  have HKE : Hid (∀ (k : Nat) (hk : k < 16), ∀ w, (Instr.index 124 (.agg (scells n.kids).toArray) (.int .i64 k)).run Tryz.prog w = .ok (.string ⟨(n.kids[k]'(by omega)).toArray⟩) w) := Lib.hid (fun k hk w => idx_strs n.kids hn k hk w)
  have HN := Lib.hid hn
  go_enter Tryz.func123, Tryz.ntmps123
  rcases hvd with ⟨hv, rfl⟩ | ⟨hv, rfl⟩
  · rw [hv] at c2
    go_wp2_with (refine wpList_load_mid (by rfl) _ _ (by rfl) w.heap.size 3 (by rfl) (scells n.kids) _ HCR.out Tryz.underlying124 (by rfl) HI2.out ?_)
    obtain ⟨K, hK⟩ : ∃ K, scells n.kids = K := ⟨_, rfl⟩
    rw [hK] at HKE ⊢
    clear hK HCR HI2 HCE
    go_loopw [3, 22] (fun h i wr => ∃ k c : Nat, k ≤ 16 ∧ i = .int .i64 k ∧ h = .int .i64 c ∧ c = 0 + (Nd.kidsL (n.kids.take k)).length ∧ Nd.all32 (n.kids.take k) = true ∧ wr = w.alloc (.cells C 126)) (fun _ i _ => 16 - (intOf i).toNat)
    case atStart => exact ⟨0, 0, Nat.zero_le _, rfl, rfl, rfl, rfl, rfl⟩
    case round =>
      obtain ⟨k, c, hk, rfl, rfl, hc, hall, rfl⟩ := hrel
      have HALL := Lib.hid hall
      clear hall
      have hln : (Nd.kidsL (n.kids.take k)).length ≤ 16 := by
        unfold Nd.kidsL
        refine Nat.le_trans (List.length_filter_le _ _) ?_
        rw [List.length_take]
        omega
      have hc17 : (c : Int) ≤ 17 := by omega
      have HC := Lib.hid hc
      clear hc hln
      by_cases hlt : k < 16
      · have h1 : (k : Int) < 16 := by omega
        have h0 : (0 : Int) ≤ (k : Int) := by omega
        have n0 := HKE.out k hlt
        have HST := Lib.hid (Nd.kids_take n.kids k (by omega))
        have HAS := Lib.hid (Nd.all32_take n.kids k (by omega))
        have HAB : Hid (∀ (h : Nd.all32 (n.kids.take (k + 1)) = false), Nd.all32 n.kids = false) := Lib.hid (fun h => by
          unfold Nd.all32 at h ⊢
          have : n.kids = n.kids.take (k + 1) ++ n.kids.drop (k + 1) := (List.take_append_drop _ _).symm
          rw [this, List.all_append, h]
          rfl)
        obtain ⟨x, hx⟩ : ∃ x, n.kids[k]'(by omega) = x := ⟨_, rfl⟩
        rw [hx] at n0 HST HAS
        clear hx
        by_cases he : x = []
        · subst he
          rw [if_pos rfl] at HST
          go_wp2
          refine ⟨⟨k + 1, c, by omega, by go_num, rfl, by rw [HST.out, HC.out], by rw [HAS.out, HALL.out]; rfl, trivial⟩, by simp [intOf]; omega⟩
        · rw [if_neg he] at HST
          have he1 : (x == []) = false := by rw [beq_eq_false_iff_ne]; exact he
          by_cases h32 : x.length = 32
          · have h33 : (x.length : Int) = 32 := by omega
            have HHH : Hid (Nd.all32 (n.kids.take (k + 1)) = true) := Lib.hid (by rw [HAS.out, HALL.out]; simp [h32])
            clear he h32
            go_wp2
            refine ⟨⟨k + 1, c + 1, by omega, by go_num, by go_num, by rw [HST.out, List.length_append, HC.out]; rfl, HHH.out, trivial⟩, by simp [intOf]; omega⟩
          · have h33 : ¬ ((x.length : Int) = 32) := by omega
            have h34 : ((x.length : Int) == 32) = false := by rw [beq_eq_false_iff_ne]; exact h33
            obtain rfl : R = false := by
              rw [← HR.out, HAB.out (by rw [HAS.out, HALL.out]; simp [h32, he])]; rfl
            clear he h32
            go_wp2
            go_ret
            exact ⟨rfl, HB0.out⟩
      · have h1 : ¬ ((k : Int) < 16) := by omega
        obtain rfl : k = 16 := by omega
        rw [List.take_of_length_le (by have := HN.out; omega)] at HALL HC
        rw [HALL.out, Bool.true_and, ← HC.out] at HR
        by_cases h2 : 2 ≤ c
        · have h3 : (2 : Int) ≤ (c : Int) := by omega
          obtain rfl : R = true := by rw [← HR.out, decide_eq_true h2]
          clear h2
          go_wp2
          go_ret
          exact ⟨by simp, HB0.out⟩
        · have h3 : ¬ ((2 : Int) ≤ (c : Int)) := by omega
          obtain rfl : R = false := by rw [← HR.out, decide_eq_false h2]
          clear h2
          go_wp2
          go_ret
          exact ⟨by simp, HB0.out⟩
  · go_wp2_with (refine wpList_load_mid (by rfl) _ _ (by rfl) w.heap.size 3 (by rfl) (scells n.kids) _ HCR.out Tryz.underlying124 (by rfl) HI2.out ?_)
    obtain ⟨K, hK⟩ : ∃ K, scells n.kids = K := ⟨_, rfl⟩
    rw [hK] at HKE ⊢
    clear hK HCR HI2 HCE
    go_loopw [3, 22] (fun h i wr => ∃ k c : Nat, k ≤ 16 ∧ i = .int .i64 k ∧ h = .int .i64 c ∧ c = 1 + (Nd.kidsL (n.kids.take k)).length ∧ Nd.all32 (n.kids.take k) = true ∧ wr = w.alloc (.cells C 126)) (fun _ i _ => 16 - (intOf i).toNat)
    case atStart => exact ⟨0, 1, Nat.zero_le _, rfl, rfl, rfl, rfl, rfl⟩
    case round =>
      obtain ⟨k, c, hk, rfl, rfl, hc, hall, rfl⟩ := hrel
      have HALL := Lib.hid hall
      clear hall
      have hln : (Nd.kidsL (n.kids.take k)).length ≤ 16 := by
        unfold Nd.kidsL
        refine Nat.le_trans (List.length_filter_le _ _) ?_
        rw [List.length_take]
        omega
      have hc17 : (c : Int) ≤ 17 := by omega
      have HC := Lib.hid hc
      clear hc hln
      by_cases hlt : k < 16
      · have h1 : (k : Int) < 16 := by omega
        have h0 : (0 : Int) ≤ (k : Int) := by omega
        have n0 := HKE.out k hlt
        have HST := Lib.hid (Nd.kids_take n.kids k (by omega))
        have HAS := Lib.hid (Nd.all32_take n.kids k (by omega))
        have HAB : Hid (∀ (h : Nd.all32 (n.kids.take (k + 1)) = false), Nd.all32 n.kids = false) := Lib.hid (fun h => by
          unfold Nd.all32 at h ⊢
          have : n.kids = n.kids.take (k + 1) ++ n.kids.drop (k + 1) := (List.take_append_drop _ _).symm
          rw [this, List.all_append, h]
          rfl)
        obtain ⟨x, hx⟩ : ∃ x, n.kids[k]'(by omega) = x := ⟨_, rfl⟩
        rw [hx] at n0 HST HAS
        clear hx
        by_cases he : x = []
        · subst he
          rw [if_pos rfl] at HST
          go_wp2
          refine ⟨⟨k + 1, c, by omega, by go_num, rfl, by rw [HST.out, HC.out], by rw [HAS.out, HALL.out]; rfl, trivial⟩, by simp [intOf]; omega⟩
        · rw [if_neg he] at HST
          have he1 : (x == []) = false := by rw [beq_eq_false_iff_ne]; exact he
          by_cases h32 : x.length = 32
          · have h33 : (x.length : Int) = 32 := by omega
            have HHH : Hid (Nd.all32 (n.kids.take (k + 1)) = true) := Lib.hid (by rw [HAS.out, HALL.out]; simp [h32])
            clear he h32
            go_wp2
            refine ⟨⟨k + 1, c + 1, by omega, by go_num, by go_num, by rw [HST.out, List.length_append, HC.out]; rfl, HHH.out, trivial⟩, by simp [intOf]; omega⟩
          · have h33 : ¬ ((x.length : Int) = 32) := by omega
            have h34 : ((x.length : Int) == 32) = false := by rw [beq_eq_false_iff_ne]; exact h33
            obtain rfl : R = false := by
              rw [← HR.out, HAB.out (by rw [HAS.out, HALL.out]; simp [h32, he])]; rfl
            clear he h32
            go_wp2
            go_ret
            exact ⟨rfl, HB0.out⟩
      · have h1 : ¬ ((k : Int) < 16) := by omega
        obtain rfl : k = 16 := by omega
        rw [List.take_of_length_le (by have := HN.out; omega)] at HALL HC
        rw [HALL.out, Bool.true_and, ← HC.out] at HR
        by_cases h2 : 2 ≤ c
        · have h3 : (2 : Int) ≤ (c : Int) := by omega
          obtain rfl : R = true := by rw [← HR.out, decide_eq_true h2]
          clear h2
          go_wp2
          go_ret
          exact ⟨by simp, HB0.out⟩
        · have h3 : ¬ ((2 : Int) ≤ (c : Int)) := by omega
          obtain rfl : R = false := by rw [← HR.out, decide_eq_false h2]
          clear h2
          go_wp2
          go_ret
          exact ⟨by simp, HB0.out⟩
set_option maxRecDepth 100000 in
set_option maxHeartbeats 1000000 in
theorem ncheck_any (n : N) (w : World) (hn : n.kids.length = 16) :
    Calls Tryz.prog 111 #[ndval n] w fun e w' => e = .returned (.int .i64 (if Nd.fine n then 0 else 80)) ∧ Below w.heap.size w w' := by
  obtain ⟨C, hC, HB0, HCE, HI, HI2⟩ := nbox n w hn
  have HLE := Lib.hid (fun w => nleaf_any n w hn)
  have HEX := Lib.hid (fun w => next_any n w hn)
  have HBR := Lib.hid (fun w => nbranch_any n w hn)
  rw [Nd.fine_kinds n hn]
  unfold ndval at HLE HEX HBR ⊢
  rw [hC] at HLE HEX HBR ⊢
  obtain ⟨c0, -, -, -, -, cR⟩ := HCE.out _ (Below.refl _ _)
  have HRO := Lib.hid cR
  clear hC cR
  by_cases k1 : n.kind = 1
  · rw [if_pos k1]
    rw [k1] at c0
    obtain ⟨b, hb⟩ : ∃ b, Nd.leafB n = b := ⟨_, rfl⟩
    rw [hb] at HLE ⊢
    clear hb
    go_enter Tryz.func111, Tryz.ntmps111
    go_wp2_with (refine wpList_load_row (by rfl) _ _ (by rfl) w.heap.size (by rfl) _ C _ _ HRO.out Tryz.underlying126 (by rfl) HI.out ?_)
    refine (HLE.out _).mono ?_
    rintro e w1 ⟨rfl, hb1⟩
    have HB1 := Lib.hid (bchain HB0.out hb1)
    cases b
    all_goals go_wp2
    all_goals go_ret
    all_goals exact ⟨rfl, HB1.out⟩
  rw [if_neg k1]
  have e1 : (n.kind == 1) = false := by rw [beq_eq_false_iff_ne]; exact k1
  by_cases k2 : n.kind = 2
  · rw [if_pos k2]
    rw [k2] at c0
    obtain ⟨b, hb⟩ : ∃ b, Nd.extB n = b := ⟨_, rfl⟩
    rw [hb] at HEX ⊢
    clear hb
    go_enter Tryz.func111, Tryz.ntmps111
    go_wp2_with (refine wpList_load_row (by rfl) _ _ (by rfl) w.heap.size (by rfl) _ C _ _ HRO.out Tryz.underlying126 (by rfl) HI.out ?_)
    refine (HEX.out _).mono ?_
    rintro e w1 ⟨rfl, hb1⟩
    have HB1 := Lib.hid (bchain HB0.out hb1)
    cases b
    all_goals go_wp2
    all_goals go_ret
    all_goals exact ⟨rfl, HB1.out⟩
  rw [if_neg k2]
  have e2 : (n.kind == 2) = false := by rw [beq_eq_false_iff_ne]; exact k2
  by_cases k3 : n.kind = 3
  · rw [if_pos k3]
    rw [k3] at c0
    obtain ⟨b, hb⟩ : ∃ b, Nd.branchB n = b := ⟨_, rfl⟩
    rw [hb] at HBR ⊢
    clear hb
    go_enter Tryz.func111, Tryz.ntmps111
    go_wp2_with (refine wpList_load_row (by rfl) _ _ (by rfl) w.heap.size (by rfl) _ C _ _ HRO.out Tryz.underlying126 (by rfl) HI.out ?_)
    refine (HBR.out _).mono ?_
    rintro e w1 ⟨rfl, hb1⟩
    have HB1 := Lib.hid (bchain HB0.out hb1)
    cases b
    all_goals go_wp2
    all_goals go_ret
    all_goals exact ⟨rfl, HB1.out⟩
  rw [if_neg k3]
  have e3 : (n.kind == 3) = false := by rw [beq_eq_false_iff_ne]; exact k3
  go_enter Tryz.func111, Tryz.ntmps111
  go_wp2
  go_ret
  exact ⟨rfl, HB0.out⟩
end Go.Proofs.YtlckcfpdiigjiaaGreatDoor
namespace Go.Proofs.YtlckcfpdiigjiaaGreatDoor
open Go.RowKit

set_option maxHeartbeats 400000 in
theorem spread_any (l : List UInt8) (B : Nat) (v : Value) (xs : List UInt8) (w : World) (hB : B ≤ w.heap.size) (hl : l.length ≤ 2000000) (hx : xs.length ≤ 1000000)
    (hown : w.ownsRow B 5 1 v xs.length (cellsL xs)) :
    Calls Tryz.prog 88 #[v, .string ⟨l.toArray⟩] w fun e w' => ∃ v', e = .returned v' ∧ w'.ownsRow B 5 1 v' (xs ++ Nib.ofL l).length (cellsL (xs ++ Nib.ofL l)) ∧ Below B w w' := by
  obtain ⟨i0, hi, hz0, hz1, hz2⟩ := info_parts Tryz.infoByte
  go_enter Tryz.func88, Tryz.ntmps88
  go_wp2
  go_loopw [0, 8] (fun u i wr => ∃ k : Nat, k ≤ l.length ∧ i = .int .i64 k ∧ wr.ownsRow B 5 1 u (xs ++ Nib.ofL (l.take k)).length (cellsL (xs ++ Nib.ofL (l.take k))) ∧ Below B w wr) (fun _ i _ => l.length - (intOf i).toNat)
  case atStart => exact ⟨0, Nat.zero_le _, rfl, by simpa [Nib.ofL] using hown, Below.refl _ _⟩
  case round =>
    obtain ⟨k, hk, rfl, hrow, hbel⟩ := hrel
    by_cases hlt : k < l.length
    · have h1 : (k : Int) < (l.length : Int) := by omega
      have hsn := Lib.hid (Nib.ofL_snoc l k hlt)
      have hlen := Nib.ofL_length (l.take k)
      have hb := hbel.size
      obtain ⟨ys, hys⟩ : ∃ ys, xs ++ Nib.ofL (l.take k) = ys := ⟨_, rfl⟩
      have hyl : ys.length ≤ 6000000 := by rw [← hys]; simp [hlen]; omega
      rw [hys] at hrow
      have HY := Lib.hid hys
      clear hys hlen
      go_wp2
      go_region_law ((refine step_append_lies _ rfl (.tmp 11) (.tmp 20) 110 rfl B 5 i0 (.int .u8 0) 1 1 Tryz.underlying110 hi hz0 hz1 hz2 rfl (by decide) u0 ys.length (cellsL ys) (by simp [Act.eval]) ((hrow.alloc _).drew) ⟨wr.heap.size, 0, none⟩ 2 2 [.int .u8 (l[k].toNat / 16 : Int), .int .u8 (bits BinOp.and IntKind.u8 (l[k].toNat : Int) 15)] (by simp [Act.eval]) rfl (cell_two_new _ _ _ _) (by simp [Value.oneCell']) (by decide) (by unfold maxLen; omega) (by omega) (by simp; omega) _ rfl ?_; intro g cap w1 hown1 hgrow1 _ _))
      all_goals
        rw [byte_and15, ← Nib.toNat_div16] at hown1
        have hrow1 : w1.ownsRow B 5 1 (.slice (some ⟨g, 0, none⟩) (ys.length + 2) cap) (xs ++ Nib.ofL (l.take (k + 1))).length (cellsL (xs ++ Nib.ofL (l.take (k + 1)))) := by
          rw [hsn.out, ← List.append_assoc, HY.out]
          simpa [cellsL] using hown1
        have hbel1 : Below B w w1 := ((hbel.alloc (by omega) _).drew).grown hgrow1 (by simp; omega) (fun g hg => (hrow.lt g hg).1)
        clear hown1 hgrow1
        go_wp2
        go_roundw
        case rel => exact ⟨k + 1, by omega, by go_num, hrow1, hbel1⟩
        case measure => simp [intOf]; omega
    · go_wp2
      go_ret
      rw [List.take_of_length_le (by omega)] at hrow
      exact ⟨_, rfl, hrow, hbel⟩

end Go.Proofs.YtlckcfpdiigjiaaGreatDoor
namespace Go.Proofs.YtlckcfpdiigjiaaGreatDoor
open Go.RowKit

set_option maxRecDepth 100000 in
set_option maxHeartbeats 400000 in
theorem join_any (l : List UInt8) (B : Nat) (v : Value) (xs : List UInt8) (w : World) (hB : B ≤ w.heap.size) (hl : l.length ≤ 1000000) (hx : xs.length ≤ 1000000) (hfit : Nib.fitL l = true)
    (hown : w.ownsRow B 5 1 v xs.length (cellsL xs)) :
    Calls Tryz.prog 66 #[v, .string ⟨l.toArray⟩] w fun e w' => ∃ v', e = .returned v' ∧ w'.ownsRow B 5 1 v' (xs ++ Nib.joinL l).length (cellsL (xs ++ Nib.joinL l)) ∧ Below B w w' := by
  obtain ⟨i0, hi, hz0, hz1, hz2⟩ := info_parts Tryz.infoByte
  have HF := Lib.hid hfit; clear hfit
  go_enter Tryz.func66, Tryz.ntmps66
  go_wp2
  go_loopw [0, 9] (fun u i wr => ∃ k : Nat, 2 * k ≤ l.length ∧ i = .int .i64 k ∧ wr.ownsRow B 5 1 u (xs ++ Nib.joinL (l.take (2 * k))).length (cellsL (xs ++ Nib.joinL (l.take (2 * k)))) ∧ Below B w wr) (fun _ i _ => l.length / 2 - (intOf i).toNat)
  case atStart => exact ⟨0, by omega, rfl, by simpa [Nib.joinL] using hown, Below.refl _ _⟩
  case round =>
    obtain ⟨k, hk, rfl, hrow, hbel⟩ := hrel
    by_cases hlt : k < l.length / 2
    · have h1 : (2 : Int) * (k : Int) < (l.length : Int) := by omega
      have h2 : (2 : Int) * (k : Int) + 1 < (l.length : Int) := by omega
      have hsn := Lib.hid (Nib.joinL_snoc l k (by omega))
      have hlen := Nib.joinL_length (l.take (2 * k))
      have HA := Lib.hid (Nib.fitL_get l HF.out (2 * k) (by omega))
      have HC := Lib.hid (Nib.fitL_get l HF.out (2 * k + 1) (by omega))
      have hb := hbel.size
      obtain ⟨ys, hys⟩ : ∃ ys, xs ++ Nib.joinL (l.take (2 * k)) = ys := ⟨_, rfl⟩
      have hyl : ys.length ≤ 4000000 := by rw [← hys]; simp [hlen]; omega
      rw [hys] at hrow
      have HY := Lib.hid hys
      clear hys hlen
      go_wp2
      have e1 : IntKind.i64.wrap (2 * (k : Int)) = 2 * (k : Int) := IntWalk.i64_in _ (by omega)
      have e2 : IntKind.i64.wrap (2 * (k : Int) + 1) = 2 * (k : Int) + 1 := IntWalk.i64_in _ (by omega)
      have e3 : (0 : Int) ≤ 2 * (k : Int) := by omega
      have e4 : (0 : Int) ≤ 2 * (k : Int) + 1 := by omega
      have e5 : (2 * (k : Int)).toNat = 2 * k := by omega
      have e6 : (2 * (k : Int) + 1).toNat = 2 * k + 1 := by omega
      have s1 : ys.length + 1 ≤ maxLen := by unfold maxLen; omega
      have s2 : (ys.length + 1) * 1 ≤ 140737488355328 := by omega
      have s3 : B ≤ wr.heap.size + 1 := by omega
      go_region_law ((refine step_append_lies _ rfl (.tmp 12) (.tmp 24) 110 rfl B 5 i0 (.int .u8 0) 1 1 Tryz.underlying110 hi hz0 hz1 hz2 rfl (by decide) u0 ys.length (cellsL ys) (by simp [Act.eval]) ((hrow.alloc _).drew) ⟨wr.heap.size, 0, none⟩ 1 1 [.int .u8 (bits BinOp.or IntKind.u8 ((l[2 * k].toNat : Int) * 16 % 256) (l[2 * k + 1].toNat : Int))] (by simp [Act.eval]) rfl (cell_one_new _ _ _) (by simp [Value.oneCell']) (by decide) s1 s2 (by simpa using s3) _ rfl ?_; intro g cap w1 hown1 hgrow1 _ _))
      all_goals
        rw [byte_join _ _ HA.out HC.out] at hown1
        have hrow1 : w1.ownsRow B 5 1 (.slice (some ⟨g, 0, none⟩) (ys.length + 1) cap) (xs ++ Nib.joinL (l.take (2 * (k + 1)))).length (cellsL (xs ++ Nib.joinL (l.take (2 * (k + 1))))) := by
          rw [hsn.out, ← List.append_assoc, HY.out]
          simpa [cellsL] using hown1
        have hbel1 : Below B w w1 := ((hbel.alloc (by omega) _).drew).grown hgrow1 (by simp; omega) (fun g hg => (hrow.lt g hg).1)
        clear hown1 hgrow1
        go_wp2
        go_roundw
        case rel => exact ⟨k + 1, by omega, by go_num, hrow1, hbel1⟩
        case measure => simp [intOf]; omega
    · go_wp2
      go_ret
      have e : Nib.joinL (l.take (2 * k)) = Nib.joinL l := Nib.joinL_take_end l k (by omega)
      rw [e] at hrow
      exact ⟨_, rfl, hrow, hbel⟩

end Go.Proofs.YtlckcfpdiigjiaaGreatDoor
