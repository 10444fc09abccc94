/- TriPut, NibLess, NibOrderMath, NibBackMath, NodeMath, TriSpots, TriKeys, NodeKind, NodeRead, NodePrefix, TriText -/
import Derived.Test.YtlckcfpdiigjiaaGreatDoorPk09
import Derived.Test.YtlckcfpdiigjiaaGreatDoorPk01
import GoSem.Op.String
import Derived.Test.YtlckcfpdiigjiaaGreatDoorPk02
namespace Go.Proofs.YtlckcfpdiigjiaaGreatDoor.Tri
open Sto (T St Rising keys)

def ix (b : UInt8) : Fin 16 := ⟨b.toNat % 16, by omega⟩
theorem ix_hb (i : Fin 16) : ix (hb i) = i := Fin.ext (by have := i.isLt; simp only [ix, hb_toNat]; omega)
theorem hb_ix {b : UInt8} (h : b.toNat ≤ 15) : hb (ix b) = b := by rw [← UInt8.toNat_inj, hb_toNat]; simp only [ix]; omega
def Tr.get : Tr → T → Option T
  | .nil, _ => none
  | .leaf p v, x => if x = p then some v else none
  | .ext p t, x => if x.take p.length = p then t.get (x.drop p.length) else none
  | .br v _, [] => if v = [] then none else some v
  | .br _ k, b :: q => if b.toNat ≤ 15 then (k (ix b)).get q else none
theorem get_mem {t : Tr} {x v : T} : t.get x = some v ↔ (x, v) ∈ t.items := by
  induction t generalizing x with
  | nil => simp [Tr.get, Tr.items]
  | leaf p w =>
    simp only [Tr.get, Tr.items, List.mem_singleton, Prod.mk.injEq]
    by_cases e : x = p
    · simp only [e, if_true, Option.some.injEq, true_and]; exact eq_comm
    · simp [e]
  | ext p t ih =>
    simp only [Tr.get, Tr.items]
    rw [mem_behind]
    by_cases e : x.take p.length = p
    · rw [if_pos e, ih]
      constructor
      · intro h; exact ⟨_, h, (by rw [e] : x.take p.length ++ x.drop p.length = p ++ x.drop p.length) ▸ (List.take_append_drop p.length x).symm⟩
      · rintro ⟨q, hq, h⟩
        have : x = p ++ q := h
        rw [this]; simpa using hq
    · rw [if_neg e]
      refine ⟨(fun h => by cases h), ?_⟩
      rintro ⟨q, hq, h⟩
      have : x = p ++ q := h
      exact absurd (by rw [this]; simp) e
  | br w k ih =>
    rw [mem_br]
    cases x with
    | nil =>
      simp only [Tr.get]
      by_cases e : w = []
      · simp [e]
      · rw [if_neg e]
        constructor
        · intro h; exact Or.inl ⟨trivial, (Option.some.inj h).symm, e⟩
        · rintro (⟨_, h, _⟩ | ⟨i, q, h, _⟩)
          · rw [h]
          · cases h
    | cons b q =>
      simp only [Tr.get]
      by_cases e : b.toNat ≤ 15
      · rw [if_pos e, ih]
        constructor
        · intro h; exact Or.inr ⟨ix b, q, by rw [hb_ix e], h⟩
        · rintro (⟨h, _⟩ | ⟨i, r, h, hr⟩)
          · cases h
          · obtain ⟨rfl, rfl⟩ := List.cons.inj h
            rw [ix_hb]; exact hr
      · rw [if_neg e]
        refine ⟨(fun h => by cases h), ?_⟩
        rintro (⟨h, _⟩ | ⟨i, r, h, hr⟩)
        · cases h
        · obtain ⟨rfl, rfl⟩ := List.cons.inj h
          exact absurd (by rw [hb_toNat]; omega) e
theorem look_items (t : Tr) (x : T) : Sto.look t.items x = t.get x := by
  cases h : t.get x with
  | some v => exact (Sto.look_mem (items_rising t) x v).2 (get_mem.1 h)
  | none =>
    cases h2 : Sto.look t.items x with
    | none => rfl
    | some v => rw [get_mem.2 ((Sto.look_mem (items_rising t) x v).1 h2)] at h; cases h

/-- A kid set. -/
def upd (k : Fin 16 → Tr) (i : Fin 16) (t : Tr) : Fin 16 → Tr := fun j => if j = i then t else k j
def bare : Fin 16 → Tr := fun _ => .nil
theorem upd_at (k : Fin 16 → Tr) (i : Fin 16) (t : Tr) : upd k i t i = t := if_pos rfl
theorem upd_ne (k : Fin 16 → Tr) {i j : Fin 16} (t : Tr) (h : j ≠ i) : upd k i t j = k j := if_neg h
/-- A branch below a path, that may be empty. -/
def above (p : T) (t : Tr) : Tr := if p = [] then t else .ext p t
theorem get_above {p : T} {t : Tr} {x : T} : (above p t).get x = if x.take p.length = p then t.get (x.drop p.length) else none := by
  unfold above
  by_cases h : p = []
  · subst h; simp
  · rw [if_neg h, Tr.get]
theorem common_take (p q : T) : p.take (Nib.commonL p q) = q.take (Nib.commonL p q) := by
  induction p generalizing q with
  | nil => cases q <;> simp [Nib.commonL]
  | cons a p ih =>
    cases q with
    | nil => simp [Nib.commonL]
    | cons b q =>
      unfold Nib.commonL
      by_cases h : a = b
      · rw [if_pos h, List.take_succ_cons, List.take_succ_cons, h, ih q]
      · rw [if_neg h]; rfl
theorem common_split (p q : T) : p = p.take (Nib.commonL p q) ++ p.drop (Nib.commonL p q) ∧ q = p.take (Nib.commonL p q) ++ q.drop (Nib.commonL p q) ∧
    ∀ a s b r, p.drop (Nib.commonL p q) = a :: s → q.drop (Nib.commonL p q) = b :: r → a ≠ b := by
  refine ⟨(List.take_append_drop _ p).symm, by rw [common_take]; exact (List.take_append_drop _ q).symm, ?_⟩
  induction p generalizing q with
  | nil => intro a s b r h; simp at h
  | cons c p ih =>
    cases q with
    | nil => intro a s b r _ h; simp at h
    | cons d q =>
      intro a s b r h1 h2
      rw [Nib.commonL.eq_1] at h1 h2
      by_cases h : c = d
      · rw [if_pos h, List.drop_succ_cons] at h1 h2
        exact ih q a s b r h1 h2
      · rw [if_neg h, List.drop_zero] at h1 h2
        obtain ⟨rfl, _⟩ := List.cons.inj h1
        obtain ⟨rfl, _⟩ := List.cons.inj h2
        exact h
theorem cut_eq (x p : T) (n : Nat) : x = p ↔ x.take n = p.take n ∧ x.drop n = p.drop n :=
  ⟨fun h => by rw [h]; exact ⟨rfl, rfl⟩, fun ⟨h1, h2⟩ => by rw [← List.take_append_drop n x, h1, h2, List.take_append_drop]⟩
def Tr.fits : Tr → Prop
  | .nil => True
  | .leaf p _ => Nib.fitL p = true
  | .ext p t => Nib.fitL p = true ∧ t.fits
  | .br _ k => ∀ i, (k i).fits
theorem fit_cons {b : UInt8} {p : T} : Nib.fitL (b :: p) = true ↔ b.toNat ≤ 15 ∧ Nib.fitL p = true := by simp [Nib.fitL]
theorem fit_append {p q : T} : Nib.fitL (p ++ q) = true ↔ Nib.fitL p = true ∧ Nib.fitL q = true := by simp [Nib.fitL]
theorem fit_take {p : T} (n : Nat) (h : Nib.fitL p = true) : Nib.fitL (p.take n) = true := (fit_append.1 (by rwa [List.take_append_drop] : Nib.fitL (p.take n ++ p.drop n) = true)).1
theorem fit_drop {p : T} (n : Nat) (h : Nib.fitL p = true) : Nib.fitL (p.drop n) = true := (fit_append.1 (by rwa [List.take_append_drop] : Nib.fitL (p.take n ++ p.drop n) = true)).2
/-- A branch of a kid behind a half byte, and an item. -/
def fork (a : UInt8) (t : Tr) (p w : T) : Tr :=
  match p with
  | [] => .br w (upd bare (ix a) t)
  | b :: s => .br [] (upd (upd bare (ix a) t) (ix b) (.leaf s w))
/-- A branch of two items. -/
def fork2 (q v p w : T) : Tr :=
  match q with
  | [] => (match p with | [] => .nil | b :: s => .br v (upd bare (ix b) (.leaf s w)))
  | a :: r => fork a (.leaf r v) p w
theorem ix_inj {a b : UInt8} (ha : a.toNat ≤ 15) (hb : b.toNat ≤ 15) (h : ix a = ix b) : a = b := by rw [← hb_ix ha, ← hb_ix hb, h]
theorem get_fork {a : UInt8} {t : Tr} {p w y : T} (ha : a.toNat ≤ 15) (hp : Nib.fitL p = true) (hw : w ≠ []) (hd : ∀ b s, p = b :: s → a ≠ b) :
    (fork a t p w).get y = if y = p then some w else match y with | [] => none | c :: z => if c = a then t.get z else none := by
  cases p with
  | nil =>
    unfold fork
    cases y with
    | nil => simp [Tr.get, hw]
    | cons c z =>
      simp only [Tr.get]
      rw [if_neg (show ¬ (c :: z = []) by simp)]
      by_cases hc : c.toNat ≤ 15
      · rw [if_pos hc]
        by_cases e : c = a
        · rw [if_pos e, e, upd_at]
        · rw [if_neg e, upd_ne _ _ (fun h => e (ix_inj hc ha h))]; rfl
      · rw [if_neg hc, if_neg (fun (e : c = a) => hc (by rw [e]; exact ha))]
  | cons b s =>
    obtain ⟨hb, hs⟩ := fit_cons.1 hp
    have hab := hd b s rfl
    unfold fork
    cases y with
    | nil => simp [Tr.get]
    | cons c z =>
      simp only [Tr.get]
      by_cases hc : c.toNat ≤ 15
      · rw [if_pos hc]
        by_cases e : c = b
        · subst e
          rw [upd_at, if_neg (fun e2 : c = a => hab e2.symm)]
          simp [Tr.get]
        · rw [upd_ne _ _ (fun h => e (ix_inj hc hb h)), if_neg (fun e2 => e (List.cons.inj e2).1)]
          by_cases e2 : c = a
          · rw [if_pos e2, e2, upd_at]
          · rw [if_neg e2, upd_ne _ _ (fun h => e2 (ix_inj hc ha h))]; rfl
      · rw [if_neg hc, if_neg (fun e2 => hc (by rw [(List.cons.inj e2).1]; exact hb)), if_neg (fun (e : c = a) => hc (by rw [e]; exact ha))]
theorem get_fork2 {q v p w y : T} (hq : Nib.fitL q = true) (hp : Nib.fitL p = true) (hv : v ≠ []) (hw : w ≠ []) (hn : q ≠ p) (hd : ∀ a r b s, q = a :: r → p = b :: s → a ≠ b) :
    (fork2 q v p w).get y = if y = p then some w else if y = q then some v else none := by
  cases q with
  | nil =>
    cases p with
    | nil => exact absurd rfl hn
    | cons b s =>
      obtain ⟨hb, hs⟩ := fit_cons.1 hp
      unfold fork2
      cases y with
      | nil => simp [Tr.get, hv]
      | cons c z =>
        simp only [Tr.get]
        rw [if_neg (show ¬ (c :: z = []) by simp)]
        by_cases hc : c.toNat ≤ 15
        · rw [if_pos hc]
          by_cases e : c = b
          · subst e; rw [upd_at]; simp [Tr.get]
          · rw [upd_ne _ _ (fun h => e (ix_inj hc hb h)), if_neg (fun e2 => e (List.cons.inj e2).1)]; rfl
        · rw [if_neg hc, if_neg (fun e2 => hc (by rw [(List.cons.inj e2).1]; exact hb))]
  | cons a r =>
    obtain ⟨ha, hr⟩ := fit_cons.1 hq
    unfold fork2
    rw [get_fork ha hp hw (fun b s e => hd a r b s rfl e)]
    congr 1
    cases y with
    | nil => simp
    | cons c z =>
      simp only
      by_cases e : c = a
      · subst e; simp [Tr.get]
      · rw [if_neg e, if_neg (fun e2 => e (List.cons.inj e2).1)]
theorem fork_canon {a : UInt8} {t : Tr} {p w : T} (ha : a.toNat ≤ 15) (hp : Nib.fitL p = true) (ht : t.canon) (htn : ¬ t.isNil) (hw : w ≠ []) (hd : ∀ b s, p = b :: s → a ≠ b) : (fork a t p w).canon ∧ (fork a t p w).isBr := by
  cases p with
  | nil =>
    refine ⟨⟨fun i => ?_, Or.inr ⟨hw, ix a, by rw [upd_at]; exact htn⟩⟩, trivial⟩
    by_cases e : i = ix a
    · rw [e, upd_at]; exact ht
    · rw [upd_ne _ _ e]; trivial
  | cons b s =>
    obtain ⟨hb, hs⟩ := fit_cons.1 hp
    have hne : ix a ≠ ix b := fun e => hd b s rfl (ix_inj ha hb e)
    refine ⟨⟨fun i => ?_, Or.inl ?_⟩, trivial⟩
    · by_cases e : i = ix b
      · rw [e, upd_at]; exact hw
      · rw [upd_ne _ _ e]
        by_cases e : i = ix a
        · rw [e, upd_at]; exact ht
        · rw [upd_ne _ _ e]; trivial
    · have n1 : ¬ (upd (upd bare (ix a) t) (ix b) (.leaf s w) (ix a)).isNil := by rw [upd_ne _ _ hne, upd_at]; exact htn
      have n2 : ¬ (upd (upd bare (ix a) t) (ix b) (.leaf s w) (ix b)).isNil := by rw [upd_at]; exact id
      rcases Nat.lt_or_gt_of_ne (fun e : (ix a).val = (ix b).val => hne (Fin.ext e)) with h | h
      · exact ⟨ix a, ix b, h, n1, n2⟩
      · exact ⟨ix b, ix a, h, n2, n1⟩
theorem fork2_canon {q v p w : T} (hq : Nib.fitL q = true) (hp : Nib.fitL p = true) (hv : v ≠ []) (hw : w ≠ []) (hn : q ≠ p) (hd : ∀ a r b s, q = a :: r → p = b :: s → a ≠ b) : (fork2 q v p w).canon ∧ (fork2 q v p w).isBr := by
  cases q with
  | nil =>
    cases p with
    | nil => exact absurd rfl hn
    | cons b s =>
      refine ⟨⟨fun i => ?_, Or.inr ⟨hv, ix b, by rw [upd_at]; exact id⟩⟩, trivial⟩
      by_cases e : i = ix b
      · rw [e, upd_at]; exact hw
      · rw [upd_ne _ _ e]; trivial
  | cons a r =>
    exact fork_canon (fit_cons.1 hq).1 hp hv id hw (fun b s e => hd a r b s rfl e)
theorem above_canon {p : T} {t : Tr} (ht : t.canon) (hb : t.isBr) : (above p t).canon ∧ ¬ (above p t).isNil := by
  unfold above
  by_cases h : p = []
  · rw [if_pos h]; exact ⟨ht, by cases t <;> simp_all [Tr.isBr, Tr.isNil]⟩
  · rw [if_neg h]; exact ⟨⟨h, hb, ht⟩, id⟩
/-- What is put into a tree. -/
def Tr.put : Tr → T → T → Tr
  | .nil, p, w => .leaf p w
  | .leaf q v, p, w => if q = p then .leaf p w else above (q.take (Nib.commonL q p)) (fork2 (q.drop (Nib.commonL q p)) v (p.drop (Nib.commonL q p)) w)
  | .ext q t, p, w => (match q.drop (Nib.commonL q p) with
    | [] => .ext q (t.put (p.drop q.length) w)
    | a :: r => above (q.take (Nib.commonL q p)) (fork a (above r t) (p.drop (Nib.commonL q p)) w))
  | .br _ k, [], w => .br w k
  | .br v k, b :: p, w => .br v (upd k (ix b) ((k (ix b)).put p w))
theorem put_good {t : Tr} {p w : T} (ht : t.canon) (hf : t.fits) (hp : Nib.fitL p = true) (hw : w ≠ []) :
    (t.put p w).canon ∧ (t.isBr → (t.put p w).isBr) ∧ ¬ (t.put p w).isNil ∧ ∀ x, (t.put p w).get x = if x = p then some w else t.get x := by
  induction t generalizing p with
  | nil => exact ⟨hw, id, id, fun x => rfl⟩
  | leaf q v =>
    rw [Tr.put]
    by_cases e : q = p
    · rw [if_pos e]
      subst e
      refine ⟨hw, id, id, fun x => ?_⟩
      simp only [Tr.get]
      by_cases e : x = q <;> simp [e]
    · rw [if_neg e]
      obtain ⟨h1, h2, h3⟩ := common_split q p
      have hcl := Nib.commonL_le q p
      generalize Nib.commonL q p = c at h1 h2 h3 hcl ⊢
      have hn : q.drop c ≠ p.drop c := fun e2 => e (by rw [h1, h2, e2])
      have ht2 : q.take c = p.take c := by
        have := congrArg (List.take c) h2
        rw [List.take_append_of_le_length (by simp; omega), List.take_take, Nat.min_self] at this
        exact this.symm
      have hc2 := fork2_canon (fit_drop c hf) (fit_drop c hp) ht hw hn (fun a r b s ha hb => h3 a r b s ha hb)
      have hab := above_canon (p := q.take c) hc2.1 hc2.2
      refine ⟨hab.1, (fun h => by cases h), hab.2, fun x => ?_⟩
      rw [get_above, get_fork2 (fit_drop c hf) (fit_drop c hp) ht hw hn (fun a r b s ha hb => h3 a r b s ha hb), show (q.take c).length = c by simp; omega]
      simp only [Tr.get]
      simp only [cut_eq x p c, cut_eq x q c]
      by_cases e1 : x.take c = q.take c
      · rw [if_pos e1, e1, ← ht2]; simp
      · rw [if_neg e1, if_neg (fun h => e1 (h.1.trans ht2.symm)), if_neg (fun h => e1 h.1)]
  | ext q t ih =>
    obtain ⟨hq, hbt, hct⟩ := ht
    rw [Tr.put]
    obtain ⟨h1, h2, h3⟩ := common_split q p
    have hcl := Nib.commonL_le q p
    generalize Nib.commonL q p = c at h1 h2 h3 hcl ⊢
    have ht2 : q.take c = p.take c := by
      have := congrArg (List.take c) h2
      rw [List.take_append_of_le_length (by simp; omega), List.take_take, Nat.min_self] at this
      exact this.symm
    cases hd : q.drop c with
    | nil =>
      have hcq : c = q.length := by have := congrArg List.length hd; simp at this; omega
      obtain ⟨g1, g2, g3, g4⟩ := ih hct hf.2 (fit_drop q.length hp)
      refine ⟨⟨hq, g2 hbt, g1⟩, (fun h => by cases h), id, fun x => ?_⟩
      simp only [Tr.get]
      rw [g4]
      simp only [cut_eq x p q.length]
      have hqp : p.take q.length = q := by rw [← hcq, ← ht2, hcq]; exact List.take_length
      rw [hqp]
      by_cases e1 : x.take q.length = q
      · simp [e1]
      · simp [e1]
    | cons a r =>
      have hfq := fit_cons.1 (hd ▸ fit_drop c hf.1)
      have hd3 : ∀ b s, p.drop c = b :: s → a ≠ b := fun b s hb => h3 a r b s hd hb
      have ha := above_canon (p := r) hct hbt
      have hc2 := fork_canon (w := w) hfq.1 (fit_drop c hp) ha.1 ha.2 hw hd3
      have hab := above_canon (p := q.take c) hc2.1 hc2.2
      refine ⟨hab.1, (fun h => by cases h), hab.2, fun x => ?_⟩
      simp only
      rw [get_above, get_fork hfq.1 (fit_drop c hp) hw hd3, show (q.take c).length = c by simp; omega]
      simp only [Tr.get]
      simp only [cut_eq x p c, ← ht2]
      have hql : q.length = c + (r.length + 1) := by have := congrArg List.length hd; simp at this; omega
      have hsp : q = q.take c ++ a :: r := by rw [← hd]; exact (List.take_append_drop c q).symm
      by_cases e1 : x.take c = q.take c
      · rw [if_pos e1]
        simp only [e1, true_and]
        congr 1
        have hx : x = q.take c ++ x.drop c := by rw [← e1]; exact (List.take_append_drop c x).symm
        cases hy : x.drop c with
        | nil =>
          rw [if_neg]
          intro e2
          have := congrArg List.length e2
          have l2 := congrArg List.length hy
          simp at this l2; omega
        | cons b z =>
          have l1 : (q.take c).length = c := by simp; omega
          have hxz : x = q.take c ++ b :: z := by rw [← hy]; exact hx
          have t1 : x.take q.length = q.take c ++ b :: z.take r.length := by
            rw [hxz, hql, List.take_append, l1, List.take_of_length_le (by omega), show c + (r.length + 1) - c = r.length + 1 by omega, List.take_succ_cons]
          have d1 : x.drop q.length = z.drop r.length := by
            rw [hxz, hql, List.drop_append, l1, List.drop_of_length_le (by omega), show c + (r.length + 1) - c = r.length + 1 by omega]; rfl
          rw [t1, d1]
          show (if b = a then (above r t).get z else none) = _
          by_cases e2 : b = a
          · subst e2
            rw [if_pos rfl, get_above]
            by_cases e3 : z.take r.length = r
            · rw [if_pos e3, if_pos (by rw [e3]; exact hsp.symm)]
            · rw [if_neg e3, if_neg (fun e4 => e3 (List.cons.inj (List.append_cancel_left (e4.trans hsp))).2)]
          · rw [if_neg e2, if_neg (fun e4 => e2 (by
              have e5 : q.take c ++ b :: z.take r.length = q.take c ++ a :: r := e4.trans hsp
              exact (List.cons.inj (List.append_cancel_left e5)).1))]
      · rw [if_neg e1]
        simp only [e1, false_and, if_false]
        rw [if_neg]
        intro e2
        apply e1
        have := congrArg (List.take c) e2
        rwa [List.take_take, Nat.min_eq_left (by omega)] at this
  | br v k ih =>
    obtain ⟨h1, h2⟩ := ht
    cases p with
    | nil =>
      refine ⟨⟨h1, ?_⟩, id, id, fun x => ?_⟩
      · rcases h2 with h | ⟨_, i, h⟩
        · exact Or.inl h
        · exact Or.inr ⟨hw, i, h⟩
      · cases x with
        | nil => simp [Tr.put, Tr.get, hw]
        | cons c z => simp [Tr.put, Tr.get]
    | cons b p =>
      obtain ⟨hb, hpf⟩ := fit_cons.1 hp
      obtain ⟨g1, g2, g3, g4⟩ := ih (ix b) (h1 _) (hf _) hpf
      have keep : ∀ i, ¬ (k i).isNil → ¬ (upd k (ix b) ((k (ix b)).put p w) i).isNil := fun i hi => by
        by_cases e : i = ix b
        · rw [e, upd_at]; exact g3
        · rw [upd_ne _ _ e]; exact hi
      refine ⟨⟨fun i => ?_, ?_⟩, id, id, fun x => ?_⟩
      · by_cases e : i = ix b
        · rw [e, upd_at]; exact g1
        · rw [upd_ne _ _ e]; exact h1 i
      · rcases h2 with ⟨i, j, hij, hi, hj⟩ | ⟨hv, i, hi⟩
        · exact Or.inl ⟨i, j, hij, keep i hi, keep j hj⟩
        · exact Or.inr ⟨hv, i, keep i hi⟩
      · cases x with
        | nil => simp [Tr.put, Tr.get]
        | cons c z =>
          simp only [Tr.put, Tr.get]
          by_cases hc : c.toNat ≤ 15
          · rw [if_pos hc, if_pos hc]
            by_cases e : c = b
            · subst e; rw [upd_at, g4]; simp
            · rw [upd_ne _ _ (fun h => e (ix_inj hc hb h)), if_neg (fun e2 => e (List.cons.inj e2).1)]
          · rw [if_neg hc, if_neg hc, if_neg (fun e2 => hc (by rw [(List.cons.inj e2).1]; exact hb))]
end Go.Proofs.YtlckcfpdiigjiaaGreatDoor.Tri
namespace Go.Proofs.YtlckcfpdiigjiaaGreatDoor.Nib

theorem less_nil (a : List UInt8) : Op.bytesLess a [] = false := by cases a <;> rfl
theorem less_cons (a b : UInt8) (x y : List UInt8) : Op.bytesLess (a :: x) (b :: y) = (decide (a < b) || (a == b && Op.bytesLess x y)) := rfl
end Go.Proofs.YtlckcfpdiigjiaaGreatDoor.Nib
namespace Go.Proofs.YtlckcfpdiigjiaaGreatDoor.Nib

theorem ofL_cons (b : UInt8) (t : List UInt8) : ofL (b :: t) = b / 16 :: b % 16 :: ofL t := by simp [ofL]
theorem ofL_nil : ofL [] = [] := rfl
theorem split_lt (a b : UInt8) (r : Bool) : (decide (a / 16 < b / 16) || (a / 16 == b / 16 && (decide (a % 16 < b % 16) || (a % 16 == b % 16 && r)))) = (decide (a < b) || (a == b && r)) := by
  have e1 : (a / 16 < b / 16) ↔ a.toNat / 16 < b.toNat / 16 := by rw [UInt8.lt_iff_toNat_lt]; simp
  have e2 : (a % 16 < b % 16) ↔ a.toNat % 16 < b.toNat % 16 := by rw [UInt8.lt_iff_toNat_lt]; simp
  have e3 : (a < b) ↔ a.toNat < b.toNat := UInt8.lt_iff_toNat_lt
  have e4 : (a / 16 = b / 16) ↔ a.toNat / 16 = b.toNat / 16 := by rw [← UInt8.toNat_inj]; simp
  have e5 : (a % 16 = b % 16) ↔ a.toNat % 16 = b.toNat % 16 := by rw [← UInt8.toNat_inj]; simp
  have e6 : (a = b) ↔ a.toNat = b.toNat := UInt8.toNat_inj.symm
  rw [Bool.eq_iff_iff]
  simp only [Bool.or_eq_true, Bool.and_eq_true, decide_eq_true_eq, beq_iff_eq, e1, e2, e3, e4, e5, e6]
  constructor
  · rintro (h | ⟨h1, h | ⟨h2, h3⟩⟩)
    · exact Or.inl (by omega)
    · exact Or.inl (by omega)
    · exact Or.inr ⟨by omega, h3⟩
  · rintro (h | ⟨h1, h2⟩)
    · by_cases h' : a.toNat / 16 < b.toNat / 16
      · exact Or.inl h'
      · exact Or.inr ⟨by omega, Or.inl (by omega)⟩
    · exact Or.inr ⟨by omega, Or.inr ⟨by omega, h2⟩⟩
theorem less_of (a b : List UInt8) : Op.bytesLess (ofL a) (ofL b) = Op.bytesLess a b := by
  induction a generalizing b with
  | nil => cases b with
    | nil => rfl
    | cons y t => rw [ofL_cons]; rfl
  | cons x s ih => cases b with
    | nil => rw [ofL_nil, less_nil, less_nil]
    | cons y t => rw [ofL_cons, ofL_cons, less_cons, less_cons, less_cons, ih t, split_lt]
theorem byte_halves {a b : UInt8} (h1 : a / 16 = b / 16) (h2 : a % 16 = b % 16) : a = b := by
  rw [← UInt8.toNat_inj] at *
  simp at h1 h2
  omega
theorem ofL_inj (a b : List UInt8) : (ofL a == ofL b) = (a == b) := by
  rw [Bool.eq_iff_iff]
  simp only [beq_iff_eq]
  refine ⟨?_, fun h => by rw [h]⟩
  induction a generalizing b with
  | nil => cases b with
    | nil => simp
    | cons y t => rw [ofL_cons, ofL_nil]; simp
  | cons x s ih => cases b with
    | nil => rw [ofL_cons, ofL_nil]; simp
    | cons y t =>
      rw [ofL_cons, ofL_cons]
      intro h
      simp only [List.cons.injEq] at h
      rw [byte_halves h.1 h.2.1, ih t h.2.2]
end Go.Proofs.YtlckcfpdiigjiaaGreatDoor.Nib
namespace Go.Proofs.YtlckcfpdiigjiaaGreatDoor.Nib

theorem halves_join (b : UInt8) : b / 16 * 16 + b % 16 = b := by
  rw [← UInt8.toNat_inj]
  have := b.toNat_lt
  simp [UInt8.toNat_add, UInt8.toNat_mul]
  omega
theorem join_of (l : List UInt8) : joinL (ofL l) = l := by
  induction l with
  | nil => rfl
  | cons b t ih => rw [ofL_cons, joinL_two, ih, halves_join]
theorem packL_length (p : List UInt8) (leaf : Bool) : (packL p leaf).length = p.length / 2 + 1 := by
  rcases Nat.mod_two_eq_zero_or_one p.length with h | h
  · rw [packL_even p leaf h]; simp [joinL_length]
  · match p, h with
    | a :: t, h =>
      rw [packL_odd a t leaf (by simp at h; omega)]; simp [joinL_length]; simp at h; omega
theorem fit_cons (a : UInt8) (t : List UInt8) (ha : a.toNat ≤ 15) (h : fitL t = true) : fitL (a :: t) = true := by
  unfold fitL at *; rw [List.all_cons, h]; simpa using ha
end Go.Proofs.YtlckcfpdiigjiaaGreatDoor.Nib
namespace Go.Proofs.YtlckcfpdiigjiaaGreatDoor.Nd
open Go.Proofs.YtlckcfpdiigjiaaGreatDoor.Nib (fitL packL)

abbrev S := List UInt8
/-- A node: its sixteen places in a list. -/
structure N where
  kind : Int
  path : S
  val : S
  kids : List S
  deriving DecidableEq
instance : Inhabited N := ⟨⟨0, [], [], List.replicate 16 []⟩⟩
def zero : N := ⟨0, [], [], List.replicate 16 []⟩
def kidsL (l : List S) : List S := l.filter fun k => decide (k ≠ [])
def all32 (l : List S) : Bool := l.all fun k => decide (k = []) || decide (k.length = 32)
def fine (n : N) : Bool :=
  all32 n.kids && (fitL n.path && (decide (n.path.length ≤ 16) && (decide (n.val.length ≤ 32) &&
  (if n.kind = 1 then decide ((kidsL n.kids).length = 0) && decide (n.val ≠ [])
  else if n.kind = 2 then decide ((kidsL n.kids).length = 1) && (decide (n.kids.getD 0 [] ≠ []) && (decide (1 ≤ n.path.length) && decide (n.val = [])))
  else if n.kind = 3 then decide (n.path.length = 0) && (decide (2 ≤ (kidsL n.kids).length) || (decide ((kidsL n.kids).length = 1) && decide (n.val ≠ [])))
  else false))))
/-- Which of eight places are taken, the highest first. -/
def bits8 (l : List S) : Nat := l.foldl (fun a k => a * 2 + if k = [] then 0 else 1) 0
def byteN (n : Nat) : UInt8 := UInt8.ofNat n
def branchL (n : N) : S := byteN (bits8 (n.kids.take 8)) :: byteN (bits8 (n.kids.drop 8)) :: (n.kids.flatten ++ Code.textL n.val)
def written (n : N) : S :=
  UInt8.ofNat (n.kind % 256).toNat :: (if n.kind = 3 then branchL n else Code.textL (packL n.path (decide (n.kind = 1))) ++ (if n.kind = 1 then Code.textL n.val else n.kids.getD 0 []))

/-! ### what the sixteen bits say -/
def bitAt (b i : Nat) : Bool := decide (b / 2 ^ (7 - i) % 2 = 1)
theorem bits8_eq (a b c d e f g h : S) : bits8 [a, b, c, d, e, f, g, h] = (((((((if a = [] then 0 else 1) * 2 + (if b = [] then 0 else 1)) * 2 + (if c = [] then 0 else 1)) * 2 + (if d = [] then 0 else 1)) * 2 + (if e = [] then 0 else 1)) * 2 + (if f = [] then 0 else 1)) * 2 + (if g = [] then 0 else 1)) * 2 + (if h = [] then 0 else 1) := by
  simp [bits8]
def num8 (a b c d e f g h : Bool) : Nat := (((((((a.toNat * 2 + b.toNat) * 2 + c.toNat) * 2 + d.toNat) * 2 + e.toNat) * 2 + f.toNat) * 2 + g.toNat) * 2 + h.toNat)
theorem num8_bits : ∀ a b c d e f g h : Bool, num8 a b c d e f g h < 256 ∧ bitAt (num8 a b c d e f g h) 0 = a ∧ bitAt (num8 a b c d e f g h) 1 = b ∧ bitAt (num8 a b c d e f g h) 2 = c ∧ bitAt (num8 a b c d e f g h) 3 = d ∧ bitAt (num8 a b c d e f g h) 4 = e ∧ bitAt (num8 a b c d e f g h) 5 = f ∧ bitAt (num8 a b c d e f g h) 6 = g ∧ bitAt (num8 a b c d e f g h) 7 = h := by
  decide +kernel
theorem bits8_num (l : List S) (h : l.length = 8) : bits8 l = num8 (decide (l[0] ≠ [])) (decide (l[1] ≠ [])) (decide (l[2] ≠ [])) (decide (l[3] ≠ [])) (decide (l[4] ≠ [])) (decide (l[5] ≠ [])) (decide (l[6] ≠ [])) (decide (l[7] ≠ [])) := by
  match l, h with
  | [a, b, c, d, e, f, g, i], _ =>
    rw [bits8_eq]
    have key : ∀ x : S, (if x = [] then 0 else 1) = (decide (x ≠ [])).toNat := fun x => by by_cases hx : x = [] <;> simp [hx]
    simp only [key, num8]
    rfl
theorem bits8_lt (l : List S) (h : l.length = 8) : bits8 l < 256 := by
  rw [bits8_num l h]
  exact (num8_bits ..).1
/-- The bytes that are left, and what was wrong first. -/
abbrev St := S × Int
def rdB (n : Nat) (st : St) : S × St := if st.2 ≠ 0 then ([], st) else if st.1.length < n then ([], st.1, 20) else (st.1.take n, st.1.drop n, 0)
/-- The sixteen places, one by one. -/
def rdKids (b : Nat → Bool) : Nat → St → List S × St
  | 0, st => ([], st)
  | k + 1, st =>
    let p := rdKids b k st
    if b k then (p.1 ++ [(rdB 32 p.2).1], (rdB 32 p.2).2) else (p.1 ++ [[]], p.2)
end Go.Proofs.YtlckcfpdiigjiaaGreatDoor.Nd
namespace Go.Proofs.YtlckcfpdiigjiaaGreatDoor.Tri
open Sto (T St Rising keys)
open Go.Proofs.YtlckcfpdiigjiaaGreatDoor.Nd (N)

/-- The sum of a tree's topmost node; none of no items. -/
def Tr.sum (dg : N → T) : Tr → T
  | .nil => []
  | .leaf p v => dg ⟨1, p, v, List.replicate 16 []⟩
  | .ext p t => dg ⟨2, p, [], t.sum dg :: List.replicate 15 []⟩
  | .br v k => dg ⟨3, [], v, List.ofFn fun i => (k i).sum dg⟩
def Tr.node (dg : N → T) : Tr → N
  | .nil => Nd.zero
  | .leaf p v => ⟨1, p, v, List.replicate 16 []⟩
  | .ext p t => ⟨2, p, [], t.sum dg :: List.replicate 15 []⟩
  | .br v k => ⟨3, [], v, List.ofFn fun i => (k i).sum dg⟩
/-- Each node with its place. -/
def Tr.spots (dg : N → T) : T → Tr → List (T × N)
  | _, .nil => []
  | p, .leaf q v => [(p, Tr.node dg (.leaf q v))]
  | p, .ext q t => (p, Tr.node dg (.ext q t)) :: t.spots dg (p ++ q)
  | p, .br v k => (p, Tr.node dg (.br v k)) :: (List.finRange 16).flatMap fun i => (k i).spots dg (p ++ [hb i])
theorem sum_node (dg : N → T) {t : Tr} (h : ¬ t.isNil) : t.sum dg = dg (t.node dg) := by
  cases t with
  | nil => exact absurd trivial h
  | leaf q v => rfl
  | ext q t => rfl
  | br v k => rfl
/-- The items of a branch's kids. -/
def Tr.kids (k : Fin 16 → Tr) : St := (List.finRange 16).flatMap fun i => behind [hb i] (k i).items
theorem common_append (p a b : T) : Nib.commonL (p ++ a) (p ++ b) = p.length + Nib.commonL a b := by
  induction p with
  | nil => simp
  | cons x p ih => rw [List.cons_append, List.cons_append, Nib.commonL.eq_1, if_pos rfl, ih, List.length_cons]; omega
end Go.Proofs.YtlckcfpdiigjiaaGreatDoor.Tri
namespace Go.Proofs.YtlckcfpdiigjiaaGreatDoor.Tri
open Sto (T St Rising keys)

theorem above_fits {p : T} {t : Tr} (hp : Nib.fitL p = true) (ht : t.fits) : (above p t).fits := by
  unfold above; split
  · exact ht
  · exact ⟨hp, ht⟩
theorem upd_fits {k : Fin 16 → Tr} {i : Fin 16} {t : Tr} (hk : ∀ i, (k i).fits) (ht : t.fits) : ∀ j, (upd k i t j).fits := fun j => by
  unfold upd; split
  · exact ht
  · exact hk j
theorem fork_fits {a : UInt8} {t : Tr} {p w : T} (ht : t.fits) (hp : Nib.fitL p = true) : (fork a t p w).fits := by
  cases p with
  | nil => exact upd_fits (fun _ => trivial) ht
  | cons b s => exact upd_fits (upd_fits (fun _ => trivial) ht) (fit_cons.1 hp).2
theorem fork2_fits {q v p w : T} (hq : Nib.fitL q = true) (hp : Nib.fitL p = true) : (fork2 q v p w).fits := by
  cases q with
  | nil =>
    cases p with
    | nil => trivial
    | cons b s => exact upd_fits (fun _ => trivial) (fit_cons.1 hp).2
  | cons a r => exact fork_fits (t := .leaf r v) (fit_cons.1 hq).2 hp
theorem put_fits {t : Tr} {p w : T} (ht : t.fits) (hp : Nib.fitL p = true) : (t.put p w).fits := by
  induction t generalizing p with
  | nil => exact hp
  | leaf q v =>
    rw [Tr.put]; split
    · exact hp
    · exact above_fits (fit_take _ ht) (fork2_fits (fit_drop _ ht) (fit_drop _ hp))
  | ext q t ih =>
    rw [Tr.put]
    cases hd : q.drop (Nib.commonL q p) with
    | nil => exact ⟨ht.1, ih ht.2 (fit_drop _ hp)⟩
    | cons a r =>
      have hf := fit_cons.1 (hd ▸ fit_drop (Nib.commonL q p) ht.1)
      exact above_fits (fit_take _ ht.1) (fork_fits (above_fits hf.2 ht.2) (fit_drop _ hp))
  | br v k ih =>
    cases p with
    | nil => exact ht
    | cons b p => exact upd_fits ht (ih (ix b) (ht _) (fit_cons.1 hp).2)
theorem put_items {t : Tr} {p w : T} (ht : t.canon) (hf : t.fits) (hp : Nib.fitL p = true) (hw : w ≠ []) : (t.put p w).items = put t.items p w :=
  look_ext (items_rising _) (put_rising (items_rising _) _ _) fun x => by
    rw [look_items, (put_good ht hf hp hw).2.2.2 x, look_put _ _ _ _ (items_rising _), look_items]
/-- Each list of items that rises has its tree. -/
theorem tree_of (S : St) (hS : Rising S) (hf : ∀ p ∈ S, Nib.fitL p.1 = true) (hv : ∀ p ∈ S, p.2 ≠ []) : ∃ t : Tr, t.canon ∧ t.fits ∧ t.items = S := by
  induction S with
  | nil => exact ⟨.nil, trivial, trivial, rfl⟩
  | cons a r ih =>
    obtain ⟨h1, h2⟩ := List.pairwise_cons.1 hS
    obtain ⟨t, c1, c2, c3⟩ := ih h2 (fun p h => hf p (List.mem_cons_of_mem _ h)) (fun p h => hv p (List.mem_cons_of_mem _ h))
    have ha := hf a (List.mem_cons_self ..)
    have hw := hv a (List.mem_cons_self ..)
    refine ⟨t.put a.1 a.2, (put_good c1 c2 ha hw).1, put_fits c2 ha, ?_⟩
    rw [put_items c1 c2 ha hw, c3]
    cases r with
    | nil => rfl
    | cons b r =>
      have hab := h1 b (List.mem_cons_self ..)
      rw [put, if_neg (fun h => List.lt_irrefl _ (List.lt_trans h hab)), if_neg (fun e => Sto.lt_ne hab e.symm)]
/-- Items by their paths. -/
def paths (S : St) : St := S.map fun x => (Nib.ofL x.1, x.2)
theorem ofL_lt (a b : T) : Nib.ofL a < Nib.ofL b ↔ a < b := by
  have := Nib.less_of a b
  rw [less_lt, less_lt] at this
  exact decide_eq_decide.1 this
theorem ofL_eq (a b : T) : Nib.ofL a = Nib.ofL b ↔ a = b := by
  have := Nib.ofL_inj a b
  rw [Bool.eq_iff_iff] at this
  simpa using this
theorem paths_rising {S : St} : Rising (paths S) ↔ Rising S := by
  unfold Rising paths
  rw [List.pairwise_map]
  simp only [ofL_lt]
theorem paths_put (S : St) (k v : T) : paths (put S k v) = put (paths S) (Nib.ofL k) v := by
  induction S with
  | nil => rfl
  | cons a r ih =>
    have e : paths (a :: r) = (Nib.ofL a.1, a.2) :: paths r := rfl
    rw [e, put, put]
    simp only [ofL_lt, ofL_eq]
    by_cases h1 : a.1 < k
    · rw [if_pos h1, if_pos h1, ← ih]; rfl
    · rw [if_neg h1, if_neg h1]
      by_cases h2 : a.1 = k
      · rw [if_pos h2, if_pos h2]; rfl
      · rw [if_neg h2, if_neg h2]; rfl
theorem paths_del (S : St) (k : T) : paths (del S k) = del (paths S) (Nib.ofL k) := by
  induction S with
  | nil => rfl
  | cons a r ih =>
    have e : paths (a :: r) = (Nib.ofL a.1, a.2) :: paths r := rfl
    rw [e, del, del]
    simp only [ofL_eq]
    by_cases h2 : a.1 = k
    · rw [if_pos h2, if_pos h2]
    · rw [if_neg h2, if_neg h2, ← ih]; rfl
theorem ofL_fit (x : T) : Nib.fitL (Nib.ofL x) = true := by
  induction x with
  | nil => rfl
  | cons b t ih =>
    rw [Nib.ofL_cons, fit_cons, fit_cons]
    have := b.toNat_lt
    refine ⟨?_, ?_, ih⟩
    · simp; omega
    · simp; omega
/-- The tree of items: it is there, and the only one. -/
def TreeOf (S : St) (t : Tr) : Prop := t.canon ∧ t.fits ∧ t.items = paths S
theorem TreeOf.of (S : St) (hS : Rising S) (hv : ∀ p ∈ S, p.2 ≠ []) : ∃ t, TreeOf S t := by
  refine tree_of (paths S) (paths_rising.2 hS) (fun p hp => ?_) (fun p hp => ?_)
  · obtain ⟨q, _, rfl⟩ := List.mem_map.1 hp; exact ofL_fit _
  · obtain ⟨q, hq, rfl⟩ := List.mem_map.1 hp; exact hv q hq
theorem TreeOf.one {S : St} {t u : Tr} (ht : TreeOf S t) (hu : TreeOf S u) : t = u := canon_one ht.1 hu.1 (ht.2.2.trans hu.2.2.symm)
theorem TreeOf.get {S : St} {t : Tr} (h : TreeOf S t) (hS : Rising S) (k : T) : t.get (Nib.ofL k) = Sto.look S k := by
  rw [← look_items, h.2.2]
  cases hl : Sto.look S k with
  | some v =>
    refine (Sto.look_mem (paths_rising.2 hS) _ _).2 (List.mem_map.2 ⟨(k, v), (Sto.look_mem hS k v).1 hl, rfl⟩)
  | none =>
    rw [Sto.look_none] at hl ⊢
    intro hm
    obtain ⟨p, hp, e⟩ := List.mem_map.1 hm
    obtain ⟨q, hq, rfl⟩ := List.mem_map.1 hp
    exact hl (List.mem_map.2 ⟨q, hq, (ofL_eq _ _).1 e⟩)
theorem TreeOf.put {S : St} {t : Tr} (h : TreeOf S t) {k v : T} (hv : v ≠ []) : TreeOf (Tri.put S k v) (t.put (Nib.ofL k) v) :=
  ⟨(put_good h.1 h.2.1 (ofL_fit k) hv).1, put_fits h.2.1 (ofL_fit k), by rw [put_items h.1 h.2.1 (ofL_fit k) hv, h.2.2, paths_put]⟩
end Go.Proofs.YtlckcfpdiigjiaaGreatDoor.Tri
namespace Go.Proofs.YtlckcfpdiigjiaaGreatDoor
open Go.Proofs.YtlckcfpdiigjiaaGreatDoor.Nd (N)
def Nd.pathB (p : List UInt8) : Bool := decide (p.length ≤ 16) && Nib.fitL p
def Nd.none16 : List (List UInt8) := List.replicate 16 []
def Nd.leafB (n : N) : Bool := Nd.pathB n.path && (decide (n.val ≠ []) && (decide (n.val.length ≤ 32) && (n.kids == Nd.none16)))
def Nd.extB (n : N) : Bool := decide (n.path ≠ []) && (Nd.pathB n.path && (decide (n.val = []) && (decide ((n.kids.getD 0 []).length = 32) && (n.kids.set 0 [] == Nd.none16))))
def Nd.branchB (n : N) : Bool := decide (n.path = []) && (decide (n.val.length ≤ 32) && (Nd.all32 n.kids && decide (2 ≤ (if n.val = [] then 0 else 1) + (Nd.kidsL n.kids).length)))
theorem Nd.all32_take (l : List (List UInt8)) (k : Nat) (hk : k < l.length) : Nd.all32 (l.take (k + 1)) = (Nd.all32 (l.take k) && (decide (l[k] = []) || decide (l[k].length = 32))) := by
  unfold Nd.all32
  rw [List.take_succ_eq_append_getElem hk, List.all_append]
  simp
theorem Nd.kidsL_nil (l : List (List UInt8)) : Nd.kidsL l = [] ↔ l = List.replicate l.length [] := by
  unfold Nd.kidsL
  rw [List.filter_eq_nil_iff, List.eq_replicate_iff]
  simp
theorem Nd.all32_none (k : Nat) : Nd.all32 (List.replicate k []) = true := by
  simp [Nd.all32]
theorem Nd.all32_cons (x : List UInt8) (l : List (List UInt8)) : Nd.all32 (x :: l) = ((decide (x = []) || decide (x.length = 32)) && Nd.all32 l) := rfl
theorem Nd.kidsL_cons (x : List UInt8) (l : List (List UInt8)) : Nd.kidsL (x :: l) = if x = [] then Nd.kidsL l else x :: Nd.kidsL l := by
  unfold Nd.kidsL
  by_cases h : x = [] <;> simp [h]
theorem Nd.fine_kinds (n : N) (hn : n.kids.length = 16) : Nd.fine n = if n.kind = 1 then Nd.leafB n else if n.kind = 2 then Nd.extB n else if n.kind = 3 then Nd.branchB n else false := by
  obtain ⟨kd, p, v, ks⟩ := n
  simp only at hn
  by_cases k1 : kd = 1
  · subst k1
    rw [if_pos rfl, Bool.eq_iff_iff]
    have h0 := Nd.kidsL_nil ks
    rw [hn] at h0
    simp only [Nd.fine, Nd.leafB, Nd.pathB, Nd.none16, if_pos, Bool.and_eq_true, decide_eq_true_eq, List.length_eq_zero_iff, beq_iff_eq, h0]
    constructor
    · rintro ⟨-, a, b, c, d, e⟩
      exact ⟨⟨b, a⟩, e, c, d⟩
    · rintro ⟨⟨b, a⟩, e, c, d⟩
      exact ⟨by rw [d]; exact Nd.all32_none 16, a, b, c, d, e⟩
  rw [if_neg k1]
  by_cases k2 : kd = 2
  · subst k2
    rw [if_pos rfl, Bool.eq_iff_iff]
    match ks, hn with
    | z :: l, hn =>
      have hl : l.length = 15 := by simpa using hn
      have h0 := Nd.kidsL_nil l
      rw [hl] at h0
      have h1 : ((z :: l).set 0 [] = Nd.none16) ↔ l = List.replicate 15 [] := by
        simp [Nd.none16, List.replicate_succ]
      simp only [Nd.fine, Nd.extB, Nd.pathB, if_neg (show ¬ (2 : Int) = 1 by decide), if_pos, Bool.and_eq_true, decide_eq_true_eq, beq_iff_eq, h1, Nd.all32_cons, Nd.kidsL_cons, List.getD_cons_zero, Bool.or_eq_true]
      constructor
      · rintro ⟨⟨a1, a2⟩, b, c, d, e, f, g, h⟩
        rw [if_neg f, List.length_cons] at e
        have e0 : Nd.kidsL l = [] := List.eq_nil_of_length_eq_zero (by omega)
        exact ⟨fun q => by rw [q] at g; simp at g, ⟨c, b⟩, h, a1.resolve_left f, h0.1 e0⟩
      · rintro ⟨a, ⟨c, b⟩, h, d, e⟩
        have hz : z ≠ [] := fun q => by rw [q] at d; simp at d
        refine ⟨⟨Or.inr d, by rw [e]; exact Nd.all32_none 15⟩, b, c, by rw [h]; simp, ?_, hz, ?_, h⟩
        · rw [if_neg hz, h0.2 e]; rfl
        · cases p with
          | nil => exact absurd rfl a
          | cons x y => simp
  rw [if_neg k2]
  by_cases k3 : kd = 3
  · subst k3
    rw [if_pos rfl, Bool.eq_iff_iff]
    simp only [Nd.fine, Nd.branchB, if_neg (show ¬ (3 : Int) = 1 by decide), if_neg (show ¬ (3 : Int) = 2 by decide), if_pos, Bool.and_eq_true, decide_eq_true_eq, Bool.or_eq_true]
    constructor
    · rintro ⟨a, b, c, d, e, f⟩
      refine ⟨List.eq_nil_of_length_eq_zero e, d, a, ?_⟩
      by_cases hv : v = []
      · rw [if_pos hv]
        rcases f with f | f
        · omega
        · exact absurd hv f.2
      · rw [if_neg hv]
        omega
    · rintro ⟨a, b, c, d⟩
      subst a
      refine ⟨c, rfl, Nat.zero_le _, b, rfl, ?_⟩
      by_cases hv : v = []
      · rw [if_pos hv] at d
        exact Or.inl (by omega)
      · rw [if_neg hv] at d
        by_cases h2 : 2 ≤ (Nd.kidsL ks).length
        · exact Or.inl h2
        · exact Or.inr ⟨by omega, hv⟩
  rw [if_neg k3]
  simp [Nd.fine, k1, k2, k3]
end Go.Proofs.YtlckcfpdiigjiaaGreatDoor
namespace Go.Proofs.YtlckcfpdiigjiaaGreatDoor
open Go.Proofs.YtlckcfpdiigjiaaGreatDoor.Nd (N)

def Nd.rdT (most : Int) (st : Nd.St) : List UInt8 × Nd.St := if st.2 ≠ 0 then ([], st) else ((Code.textR most st.1).1, (Code.textR most st.1).2.1, (Code.textR most st.1).2.2)
def Nd.unp (leaf : Bool) (p : List UInt8) : List UInt8 × Bool :=
  match Nib.unpackL p with
  | none => ([], false)
  | some (q, is) => (q, is == leaf)
def Nd.rdP (leaf : Bool) (st : Nd.St) : (List UInt8 × Bool) × Nd.St := (Nd.unp leaf (Nd.rdT 9 st).1, (Nd.rdT 9 st).2)
def Nd.bitf (n i : Nat) : Bool := decide (n / 2 ^ (15 - i) % 2 = 1)
/-- Two bytes, the higher first, as a number: none, if there are none. -/
def Nd.num2 : List UInt8 → Nat
  | [x, y] => x.toNat * 256 + y.toNat
  | _ => 0
def Nd.rdK (st : Nd.St) : List (List UInt8) × Nd.St := Nd.rdKids (Nd.bitf (Nd.num2 (Nd.rdB 2 st).1)) 16 (Nd.rdB 2 st).2

def Nd.rdN (k : UInt8) (r : List UInt8) : (N × Bool) × Nd.St :=
  if k.toNat = 1 then ((⟨1, (Nd.rdP true (r, 0)).1.1, (Nd.rdT 32 (Nd.rdP true (r, 0)).2).1, Nd.none16⟩, (Nd.rdP true (r, 0)).1.2), (Nd.rdT 32 (Nd.rdP true (r, 0)).2).2)
  else if k.toNat = 2 then ((⟨2, (Nd.rdP false (r, 0)).1.1, [], Nd.none16.set 0 (Nd.rdB 32 (Nd.rdP false (r, 0)).2).1⟩, (Nd.rdP false (r, 0)).1.2), (Nd.rdB 32 (Nd.rdP false (r, 0)).2).2)
  else if k.toNat = 3 then ((⟨3, [], (Nd.rdT 32 (Nd.rdK (r, 0)).2).1, (Nd.rdK (r, 0)).1⟩, true), (Nd.rdT 32 (Nd.rdK (r, 0)).2).2)
  else ((⟨(k.toNat : Int), [], [], Nd.none16⟩, true), (r, 0))
end Go.Proofs.YtlckcfpdiigjiaaGreatDoor
namespace Go.Proofs.YtlckcfpdiigjiaaGreatDoor
open Go.Proofs.YtlckcfpdiigjiaaGreatDoor.Nd (N)

end Go.Proofs.YtlckcfpdiigjiaaGreatDoor
namespace Go.Proofs.YtlckcfpdiigjiaaGreatDoor
open Go.Proofs.YtlckcfpdiigjiaaGreatDoor.Nd (N)
end Go.Proofs.YtlckcfpdiigjiaaGreatDoor
namespace Go.Proofs.YtlckcfpdiigjiaaGreatDoor.Tri
open Sto (T St Rising keys)
open Go.Proofs.YtlckcfpdiigjiaaGreatDoor.Nd (N)

def Tr.small : Tr → Prop
  | .nil => True
  | .leaf p v => p.length ≤ 16 ∧ v.length ≤ 32
  | .ext p t => p.length ≤ 16 ∧ t.small
  | .br v k => v.length ≤ 32 ∧ ∀ i, (k i).small
theorem small_of {t : Tr} (h : t.canon) (hs : ∀ x ∈ t.items, x.1.length ≤ 16 ∧ x.2.length ≤ 32) : t.small := by
  induction t with
  | nil => trivial
  | leaf p v => exact hs (p, v) (List.mem_singleton.2 rfl)
  | ext p t ih =>
    have ht : ¬ t.isNil := by have := h.2.1; cases t <;> simp_all [Tr.isBr, Tr.isNil]
    have hne : t.items ≠ [] := fun e => ht ((items_nil h.2.2).1 e)
    obtain ⟨a, l, e⟩ := List.exists_cons_of_ne_nil hne
    refine ⟨?_, ih h.2.2 fun x hx => ?_⟩
    · have := (hs (p ++ a.1, a.2) (mem_behind.2 ⟨a.1, by rw [e]; exact List.mem_cons_self .., rfl⟩)).1
      simp at this; omega
    · have := hs (p ++ x.1, x.2) (mem_behind.2 ⟨x.1, hx, rfl⟩)
      simp at this; exact ⟨by omega, this.2⟩
  | br v k ih =>
    refine ⟨?_, fun i => ih i (h.1 i) fun x hx => ?_⟩
    · by_cases e : v = []
      · rw [e]; simp
      · exact (hs ([], v) (mem_br.2 (Or.inl ⟨rfl, rfl, e⟩))).2
    · have := hs (hb i :: x.1, x.2) (mem_br.2 (Or.inr ⟨i, x.1, rfl, hx⟩))
      simp at this; exact ⟨by omega, this.2⟩
theorem two_le {L : List T} {i j : Nat} (hij : i < j) (hj : j < L.length) (h1 : L[i]'(by omega) ≠ []) (h2 : L[j] ≠ []) : 2 ≤ (Nd.kidsL L).length := by
  induction L generalizing i j with
  | nil => simp at hj
  | cons a L ih =>
    rw [Nd.kidsL_cons]
    cases j with
    | zero => omega
    | succ j =>
      have hj' : j < L.length := by simpa using hj
      have h2' : L[j] ≠ [] := by simpa using h2
      have one : 1 ≤ (Nd.kidsL L).length := List.length_pos_iff.2 (List.ne_nil_of_mem (a := L[j]) (by unfold Nd.kidsL; rw [List.mem_filter]; exact ⟨List.getElem_mem hj', by simpa using h2'⟩))
      cases i with
      | zero =>
        have : a ≠ [] := by simpa using h1
        rw [if_neg this, List.length_cons]; omega
      | succ i =>
        have := ih (i := i) (j := j) (by omega) hj' (by simpa using h1) h2'
        split
        · exact this
        · rw [List.length_cons]; omega
theorem one_le {L : List T} {i : Nat} (hi : i < L.length) (h : L[i] ≠ []) : 1 ≤ (Nd.kidsL L).length :=
  List.length_pos_iff.2 (List.ne_nil_of_mem (a := L[i]) (by unfold Nd.kidsL; rw [List.mem_filter]; exact ⟨List.getElem_mem hi, by simpa using h⟩))
theorem ofFn_at (f : Fin 16 → T) (i : Fin 16) : (List.ofFn f)[i.val]'(by rw [List.length_ofFn]; exact i.isLt) = f i := List.getElem_ofFn _
theorem node_kids (dg : N → T) (t : Tr) : (t.node dg).kids.length = 16 := by
  cases t <;> simp [Tr.node, Nd.zero]
/-- Each node of a trie may be. -/
theorem node_fine (dg : N → T) (hd : ∀ n : N, n.kids.length = 16 → Nd.fine n = true → (dg n).length = 32) {t : Tr} (hc : t.canon) (hf : t.fits) (hs : t.small) (hn : ¬ t.isNil) : Nd.fine (t.node dg) = true := by
  induction t with
  | nil => exact absurd trivial hn
  | leaf p v =>
    rw [Nd.fine_kinds _ (node_kids dg _)]
    have h1 : v ≠ [] := hc
    have h2 : Nib.fitL p = true := hf
    have h3 := hs.1
    have h4 := hs.2
    simp [Tr.node, Nd.leafB, Nd.pathB, Nd.none16, h1, h2, h3, h4]
  | ext p t ih =>
    have ht : ¬ t.isNil := by have := hc.2.1; cases t <;> simp_all [Tr.isBr, Tr.isNil]
    have h32 : (t.sum dg).length = 32 := by rw [sum_node dg ht]; exact hd _ (node_kids dg t) (ih hc.2.2 hf.2 hs.2 ht)
    rw [Nd.fine_kinds _ (node_kids dg _)]
    have h1 : p ≠ [] := hc.1
    have h2 : Nib.fitL p = true := hf.1
    have h3 := hs.1
    simp [Tr.node, Nd.extB, Nd.pathB, Nd.none16, h1, h2, h3, h32, List.replicate]
  | br v k ih =>
    have hsum : ∀ i, ((k i).sum dg = [] ∧ (k i).isNil) ∨ (((k i).sum dg).length = 32 ∧ ¬ (k i).isNil) := fun i => by
      by_cases e : (k i).isNil
      · refine Or.inl ⟨?_, e⟩
        cases hk : k i with
        | nil => rfl
        | _ => rw [hk] at e; cases e
      · exact Or.inr ⟨by rw [sum_node dg e]; exact hd _ (node_kids dg _) (ih i (hc.1 i) (hf i) (hs.2 i) e), e⟩
    have hne : ∀ i, ¬ (k i).isNil → (k i).sum dg ≠ [] := fun i h e => by
      rcases hsum i with h2 | h2
      · exact h h2.2
      · rw [e] at h2; simp at h2
    rw [Nd.fine_kinds _ (node_kids dg _)]
    have h4 := hs.1
    have hall : Nd.all32 (List.ofFn fun i => (k i).sum dg) = true := by
      unfold Nd.all32
      rw [List.all_eq_true]
      intro x hx
      obtain ⟨i, rfl⟩ := List.mem_ofFn.1 hx
      rcases hsum i with h | h
      · simp [h.1]
      · simp [h.1]
    have htwo : 2 ≤ (if v = [] then 0 else 1) + (Nd.kidsL (List.ofFn fun i => (k i).sum dg)).length := by
      rcases hc.2 with ⟨i, j, hij, hi, hj⟩ | ⟨hv, i, hi⟩
      · have := two_le (L := List.ofFn fun i => (k i).sum dg) (i := i.val) (j := j.val) hij (by rw [List.length_ofFn]; exact j.isLt) (by rw [ofFn_at (fun i => (k i).sum dg) i]; exact hne i hi) (by rw [ofFn_at (fun i => (k i).sum dg) j]; exact hne j hj)
        omega
      · have := one_le (L := List.ofFn fun i => (k i).sum dg) (i := i.val) (by rw [List.length_ofFn]; exact i.isLt) (by rw [ofFn_at (fun i => (k i).sum dg) i]; exact hne i hi)
        rw [if_neg hv]; omega
    have fin : ∀ K : List T, Nd.all32 K = true → 2 ≤ (if v = [] then 0 else 1) + (Nd.kidsL K).length → Nd.branchB ⟨3, [], v, K⟩ = true := fun K h1 h2 => by
      simp [Nd.branchB, h4, h1, h2]
    rw [if_neg (by simp [Tr.node]), if_neg (by simp [Tr.node]), if_pos (show (Tr.node dg (Tr.br v k)).kind = 3 from rfl)]
    exact fin _ hall htwo
/-- The nodes of a tree, in order. -/
def Tr.nodes (dg : N → T) : Tr → List N
  | .nil => []
  | .leaf q v => [Tr.node dg (.leaf q v)]
  | .ext q t => Tr.node dg (.ext q t) :: t.nodes dg
  | .br v k => Tr.node dg (.br v k) :: (List.finRange 16).flatMap fun i => (k i).nodes dg
end Go.Proofs.YtlckcfpdiigjiaaGreatDoor.Tri
