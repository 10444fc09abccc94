/- Sets of validators as plain functions on lists: what may be, the power of all, a quorum, what may be faulty, the power of those named, what two lists have in common. No program is named here. -/
import Derived.Test.YteolephlajhghaaChecked
namespace Go.Proofs.Yteolephlajhghaa.Pw

abbrev S := List UInt8
structure M where
  name : S
  power : Int
instance : Inhabited M := ⟨⟨[], 0⟩⟩
theorem M.ext' {a b : M} (h : a.name = b.name) (k : a.power = b.power) : a = b := by cases a; cases b; simp_all
instance : DecidableEq M := fun a b =>
  if h : a.name = b.name ∧ a.power = b.power then isTrue (M.ext' h.1 h.2) else isFalse (fun e => h (by subst e; exact ⟨rfl, rfl⟩))

def okM (p : S) (m : M) : Bool := decide (p < m.name) && decide (m.name.length ≤ 6) && decide (1 ≤ m.power) && decide (m.power ≤ 1000)
def okFrom : S → List M → Bool
  | _, [] => true
  | p, m :: t => okM p m && okFrom m.name t
def okL (L : List M) : Bool := decide (1 ≤ L.length) && decide (L.length ≤ 7) && okFrom [] L
def checkC (L : List M) : Int := if okL L then 0 else 50
def lastOf (p : S) (L : List M) : S := L.foldl (fun _ m => m.name) p
theorem lastOf_snoc (p : S) (L : List M) (m : M) : lastOf p (L ++ [m]) = m.name := by simp [lastOf]
theorem okFrom_append (p : S) (A B : List M) : okFrom p (A ++ B) = (okFrom p A && okFrom (lastOf p A) B) := by
  induction A generalizing p with
  | nil => rfl
  | cons m A ih => simp only [List.cons_append, okFrom, ih, Bool.and_assoc, lastOf, List.foldl_cons]
theorem okFrom_take (L : List M) (k : Nat) (h : k < L.length) : okFrom [] (L.take (k + 1)) = (okFrom [] (L.take k) && okM (lastOf [] (L.take k)) L[k]) := by
  rw [List.take_succ_eq_append_getElem h, okFrom_append]
  simp [okFrom]
theorem okFrom_bad (L : List M) (k : Nat) (h : k < L.length) (hb : okM (lastOf [] (L.take k)) L[k] = false) : okFrom [] L = false := by
  rw [← List.take_append_drop k L, okFrom_append, List.drop_eq_getElem_cons h]
  simp [okFrom, hb]
theorem lastOf_take (L : List M) (k : Nat) (h : k < L.length) : lastOf [] (L.take (k + 1)) = L[k].name := by
  rw [List.take_succ_eq_append_getElem h, lastOf_snoc]
theorem lt_nil (s : S) : ([] < s) ↔ s ≠ [] := by cases s <;> simp
theorem not_lt_nil (s : S) : ¬ s < [] := by cases s <;> simp

/-- What a set that may be is. -/
theorem okFrom_mem {p : S} {L : List M} (h : okFrom p L = true) : ∀ m ∈ L, p < m.name ∧ m.name.length ≤ 6 ∧ 1 ≤ m.power ∧ m.power ≤ 1000 := by
  induction L generalizing p with
  | nil => simp
  | cons a L ih =>
    simp only [okFrom, okM, Bool.and_eq_true, decide_eq_true_eq] at h
    intro m hm
    rcases List.mem_cons.1 hm with rfl | hm
    · exact ⟨h.1.1.1.1, h.1.1.1.2, h.1.1.2, h.1.2⟩
    · have := ih h.2 m hm
      exact ⟨List.lt_trans h.1.1.1.1 this.1, this.2⟩
theorem okFrom_pair {p : S} {L : List M} (h : okFrom p L = true) : L.Pairwise (fun a b => a.name < b.name) := by
  induction L generalizing p with
  | nil => exact .nil
  | cons a L ih =>
    simp only [okFrom, Bool.and_eq_true] at h
    exact .cons (fun b hb => (okFrom_mem h.2 b hb).1) (ih h.2)
theorem okL_mem {L : List M} (h : okL L = true) : ∀ m ∈ L, m.name ≠ [] ∧ m.name.length ≤ 6 ∧ 1 ≤ m.power ∧ m.power ≤ 1000 := by
  simp only [okL, Bool.and_eq_true] at h
  intro m hm
  have := okFrom_mem h.2 m hm
  exact ⟨(lt_nil _).1 this.1, this.2⟩
theorem okL_pair {L : List M} (h : okL L = true) : L.Pairwise (fun a b => a.name < b.name) := by
  simp only [okL, Bool.and_eq_true] at h
  exact okFrom_pair h.2
theorem okL_len {L : List M} (h : okL L = true) : 1 ≤ L.length ∧ L.length ≤ 7 := by
  simp only [okL, Bool.and_eq_true, decide_eq_true_eq] at h
  exact h.1
theorem okL_names {L : List M} (h : okL L = true) {a b : M} (ha : a ∈ L) (hb : b ∈ L) (e : a.name = b.name) : a = b := by
  have hp := okL_pair h
  obtain ⟨i, hi, rfl⟩ := List.mem_iff_getElem.1 ha
  obtain ⟨j, hj, rfl⟩ := List.mem_iff_getElem.1 hb
  rw [List.pairwise_iff_getElem] at hp
  rcases Nat.lt_trichotomy i j with hlt | rfl | hlt
  · have := hp i j hi hj hlt
    rw [e] at this
    exact absurd this (List.lt_irrefl _)
  · rfl
  · have := hp j i hj hi hlt
    rw [e] at this
    exact absurd this (List.lt_irrefl _)

/-! ### the power of all -/
def sumP (L : List M) : Int := L.foldr (fun m n => m.power + n) 0
theorem sumP_append (A B : List M) : sumP (A ++ B) = sumP A + sumP B := by
  induction A with
  | nil => simp [sumP]
  | cons m A ih => simp only [sumP, List.cons_append, List.foldr_cons] at ih ⊢; omega
theorem sumP_take (L : List M) (k : Nat) (h : k < L.length) : sumP (L.take (k + 1)) = sumP (L.take k) + L[k].power := by
  rw [List.take_succ_eq_append_getElem h, sumP_append]; simp [sumP]
theorem sumP_range {L : List M} (h : ∀ m ∈ L, 1 ≤ m.power ∧ m.power ≤ 1000) : (L.length : Int) ≤ sumP L ∧ sumP L ≤ 1000 * L.length := by
  induction L with
  | nil => simp [sumP]
  | cons m L ih =>
    have h1 := ih (fun x hx => h x (List.mem_cons_of_mem _ hx))
    have h2 := h m (List.mem_cons_self ..)
    simp only [sumP, List.foldr_cons, List.length_cons] at h1 ⊢
    omega
theorem sumP_take_range {L : List M} (h : okL L = true) (k : Nat) : 0 ≤ sumP (L.take k) ∧ sumP (L.take k) ≤ 7000 := by
  have h1 := sumP_range (L := L.take k) (fun m hm => (okL_mem h m (List.mem_of_mem_take hm)).2.2)
  have h2 := (okL_len h).2
  have h3 : (L.take k).length ≤ 7 := by simp; omega
  omega
def tot (L : List M) : Nat := if okL L then (sumP L).toNat else 0
def quo (L : List M) : Nat := if tot L = 0 then 0 else 2 * tot L / 3 + 1
def mos (L : List M) : Nat := (tot L - 1) / 3
theorem tot_range (L : List M) : tot L ≤ 7000 ∧ (okL L = true → 1 ≤ tot L ∧ (tot L : Int) = sumP L) ∧ (okL L = false → tot L = 0) := by
  unfold tot
  cases h : okL L with
  | false => simp
  | true =>
    have h1 := sumP_range (L := L) (fun m hm => (okL_mem h m hm).2.2)
    have h2 := okL_len h
    simp
    omega

/-! ### those who are named -/
def pick (L : List M) (names : List S) : List M := L.filter fun m => decide (m.name ∈ names)
def ofL (L : List M) (names : List S) : Nat := if okL L then (sumP (pick L names)).toNat else 0
theorem sumP_filter_split (L : List M) (p : M → Bool) : sumP L = sumP (L.filter p) + sumP (L.filter fun m => !p m) := by
  induction L with
  | nil => rfl
  | cons m L ih =>
    simp only [List.filter_cons]
    cases p m <;> simp [sumP] at ih ⊢ <;> omega
theorem sumP_nonneg {L : List M} (h : ∀ m ∈ L, 0 ≤ m.power) : 0 ≤ sumP L := by
  induction L with
  | nil => simp [sumP]
  | cons m L ih =>
    have h1 := ih (fun x hx => h x (List.mem_cons_of_mem _ hx))
    have h2 := h m (List.mem_cons_self ..)
    simp only [sumP, List.foldr_cons] at h1 ⊢
    omega
theorem sumP_filter_le {L : List M} (p q : M → Bool) (h : ∀ m ∈ L, 0 ≤ m.power) (hpq : ∀ m ∈ L, p m = true → q m = true) : sumP (L.filter p) ≤ sumP (L.filter q) := by
  induction L with
  | nil => exact Int.le_refl _
  | cons m L ih =>
    have h1 := ih (fun x hx => h x (List.mem_cons_of_mem _ hx)) (fun x hx => hpq x (List.mem_cons_of_mem _ hx))
    have h2 := h m (List.mem_cons_self ..)
    have h3 := hpq m (List.mem_cons_self ..)
    simp only [List.filter_cons]
    cases hp : p m <;> cases hq : q m <;> simp [sumP, hp, hq] at h1 h3 ⊢ <;> omega
theorem pick_range {L : List M} (h : okL L = true) (names : List S) : 0 ≤ sumP (pick L names) ∧ sumP (pick L names) ≤ sumP L ∧ sumP L ≤ 7000 := by
  have hnn : ∀ m ∈ L, 0 ≤ m.power := fun m hm => by have := (okL_mem h m hm).2.2; omega
  have h1 := sumP_nonneg (L := pick L names) (fun m hm => hnn m (List.mem_filter.1 hm).1)
  have h2 := sumP_filter_split L (fun m => decide (m.name ∈ names))
  have h3 := sumP_nonneg (L := L.filter fun m => !decide (m.name ∈ names)) (fun m hm => hnn m (List.mem_filter.1 hm).1)
  have h4 := sumP_range (L := L) (fun m hm => (okL_mem h m hm).2.2)
  have h5 := (okL_len h).2
  refine ⟨h1, ?_, by omega⟩
  unfold pick
  omega
/-- One name more: no member new, or one. -/
theorem pick_no (L : List M) (names : List S) (s : S) (h : ∀ m ∈ L, m.name = s → s ∈ names) : pick L (names ++ [s]) = pick L names := by
  unfold pick
  apply List.filter_congr
  intro m hm
  have : (m.name ∈ names ++ [s]) ↔ m.name ∈ names := by
    simp only [List.mem_append, List.mem_singleton]
    exact ⟨fun hh => hh.elim id (fun e => e ▸ h m hm e), Or.inl⟩
  simp [this]
theorem pick_one {L : List M} (hL : okL L = true) (names : List S) {m : M} (hm : m ∈ L) (hn : m.name ∉ names) : sumP (pick L (names ++ [m.name])) = sumP (pick L names) + m.power := by
  have hnm : ∀ b ∈ L, b.name = m.name → b = m := fun b hb e => okL_names hL hb hm e
  have hp : L.Nodup := (okL_pair hL).imp (fun {a b} h e => by subst e; exact absurd h (List.lt_irrefl _))
  clear hL
  unfold pick
  induction L with
  | nil => simp at hm
  | cons a L ih =>
    rw [List.nodup_cons] at hp
    by_cases e : a.name = m.name
    · obtain rfl : a = m := hnm a (List.mem_cons_self ..) e
      have hrest : L.filter (fun x => decide (x.name ∈ names ++ [a.name])) = L.filter (fun x => decide (x.name ∈ names)) := by
        apply List.filter_congr
        intro x hx
        have hne : x.name ≠ a.name := fun e => by
          have := hnm x (List.mem_cons_of_mem _ hx) e
          subst this
          exact hp.1 hx
        simp [hne]
      simp only [List.filter_cons]
      rw [hrest]
      simp [sumP, hn]
      omega
    · have hmL : m ∈ L := by
        rcases List.mem_cons.1 hm with rfl | h
        · exact absurd rfl e
        · exact h
      have := ih hmL (fun b hb => hnm b (List.mem_cons_of_mem _ hb)) hp.2
      simp only [List.filter_cons]
      by_cases ha : a.name ∈ names
      · simp [sumP, ha, e] at this ⊢; omega
      · simp [sumP, ha, e] at this ⊢; omega

/-! ### what two lists have in common -/
def keepI (b : List S) (out : List S) (s : S) : List S := if s ∈ b ∧ s ∉ out then out ++ [s] else out
def uniq (a b : List S) : List S := a.foldl (keepI b) []
theorem uniq_take (a b : List S) (k : Nat) (h : k < a.length) : uniq (a.take (k + 1)) b = keepI b (uniq (a.take k) b) a[k] := by
  unfold uniq
  rw [List.take_succ_eq_append_getElem h, List.foldl_append]; rfl
theorem snocInd {α : Type} {p : List α → Prop} (h0 : p []) (h1 : ∀ l d, p l → p (l ++ [d])) (l : List α) : p l := by
  have h : ∀ r : List α, p r.reverse := by
    intro r
    induction r with
    | nil => exact h0
    | cons d r ih => rw [List.reverse_cons]; exact h1 _ _ ih
  have := h l.reverse
  rwa [List.reverse_reverse] at this
theorem uniq_snoc (a b : List S) (s : S) : uniq (a ++ [s]) b = keepI b (uniq a b) s := by simp [uniq]
theorem uniq_mem (a b : List S) (s : S) : s ∈ uniq a b ↔ s ∈ a ∧ s ∈ b := by
  induction a using snocInd with
  | h0 => simp [uniq]
  | h1 a d ih =>
    rw [uniq_snoc, keepI]
    split
    · simp only [List.mem_append, List.mem_singleton, ih]
      constructor
      · rintro (h | rfl)
        · exact ⟨Or.inl h.1, h.2⟩
        · rename_i h; exact ⟨Or.inr rfl, h.1⟩
      · rintro ⟨h | rfl, hb⟩
        · exact Or.inl ⟨h, hb⟩
        · exact Or.inr rfl
    · rename_i h
      simp only [List.mem_append, List.mem_singleton, ih]
      constructor
      · rintro h; exact ⟨Or.inl h.1, h.2⟩
      · rintro ⟨h' | rfl, hb⟩
        · exact ⟨h', hb⟩
        · by_cases hu : s ∈ uniq a b
          · exact ih.1 hu
          · exact absurd ⟨hb, hu⟩ h
theorem uniq_nodup (a b : List S) : (uniq a b).Nodup := by
  induction a using snocInd with
  | h0 => simp [uniq]
  | h1 a d ih =>
    rw [uniq_snoc, keepI]
    split
    · rename_i h
      rw [List.nodup_append]
      exact ⟨ih, by simp, fun x hx y hy e => by simp at hy; subst hy; subst e; exact h.2 hx⟩
    · exact ih
theorem uniq_length (a b : List S) : (uniq a b).length ≤ a.length := by
  induction a using snocInd with
  | h0 => simp [uniq]
  | h1 a d ih =>
    rw [uniq_snoc, keepI]
    split
    · simp; exact ih
    · simp; omega
def leB (x y : S) : Bool := decide (x ≤ y)
def both (a b : List S) : List S := (uniq a b).mergeSort fun x y => decide (x ≤ y)
theorem both_perm (a b : List S) : (both a b).Perm (uniq a b) := List.mergeSort_perm _ _
theorem both_mem (a b : List S) (s : S) : s ∈ both a b ↔ s ∈ a ∧ s ∈ b := by rw [(both_perm a b).mem_iff, uniq_mem]
theorem both_nodup (a b : List S) : (both a b).Nodup := (both_perm a b).nodup_iff.2 (uniq_nodup a b)
theorem both_length (a b : List S) : (both a b).length ≤ a.length := by rw [(both_perm a b).length_eq]; exact uniq_length a b
theorem both_sorted (a b : List S) : (both a b).Pairwise (· ≤ ·) := by
  have h := List.pairwise_mergeSort (le := fun x y : S => decide (x ≤ y)) (fun x y z h1 h2 => by
    simp only [decide_eq_true_eq] at h1 h2 ⊢; exact List.le_trans h1 h2) (fun x y => by
    simp only [Bool.or_eq_true, decide_eq_true_eq]; exact List.le_total x y) (uniq a b)
  exact h.imp (fun h => by simpa using h)
/-- A list that rises and has just what is in both. -/
theorem both_unique (a b out : List S) (hs : out.Pairwise (· < ·)) (hm : ∀ s, s ∈ out ↔ s ∈ a ∧ s ∈ b) : out = both a b := by
  have hnd : out.Nodup := hs.imp (fun {x y} h e => by subst e; exact absurd h (List.lt_irrefl _))
  have hp : out.Perm (both a b) := (List.perm_ext_iff_of_nodup hnd (both_nodup a b)).2 (fun s => by rw [hm, both_mem])
  exact hp.eq_of_pairwise (le := (· ≤ ·)) (fun x y _ _ h1 h2 => List.le_antisymm h1 h2) (hs.imp (fun h => List.le_of_lt h)) (both_sorted a b)
end Go.Proofs.Yteolephlajhghaa.Pw
