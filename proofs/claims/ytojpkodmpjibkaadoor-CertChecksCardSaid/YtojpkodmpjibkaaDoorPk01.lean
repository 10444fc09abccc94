/- PowMath, PowOverMath, OraMath, ShaSumMath, CertMath, NibMath -/
import Derived.Test.YtojpkodmpjibkaaDoorChecked
import Derived.KernelRfl
import Derived.WalkKit
namespace Go.Proofs.YtojpkodmpjibkaaDoor.Pw

abbrev S := List UInt8
structure M where
  name : S
  power : Int
instance : Inhabited M := ⟨⟨[], 0⟩⟩
theorem M.ext' {a b : M} (h : a.name = b.name) (k : a.power = b.power) : a = b := by cases a; cases b; simp_all
instance : DecidableEq M := fun a b =>
  if h : a.name = b.name ∧ a.power = b.power then isTrue (M.ext' h.1 h.2) else isFalse (fun e => h (by subst e; exact ⟨rfl, rfl⟩))

def okM (p : S) (m : M) : Bool := decide (p < m.name) && decide (m.name.length ≤ 6) && decide (1 ≤ m.power) && decide (m.power ≤ 1000)
def okFrom : S → List M → Bool
  | _, [] => true
  | p, m :: t => okM p m && okFrom m.name t
def okL (L : List M) : Bool := decide (1 ≤ L.length) && decide (L.length ≤ 7) && okFrom [] L
def checkC (L : List M) : Int := if okL L then 0 else 50
def lastOf (p : S) (L : List M) : S := L.foldl (fun _ m => m.name) p
theorem lastOf_snoc (p : S) (L : List M) (m : M) : lastOf p (L ++ [m]) = m.name := by simp [lastOf]
theorem okFrom_append (p : S) (A B : List M) : okFrom p (A ++ B) = (okFrom p A && okFrom (lastOf p A) B) := by
  induction A generalizing p with
  | nil => rfl
  | cons m A ih => simp only [List.cons_append, okFrom, ih, Bool.and_assoc, lastOf, List.foldl_cons]
theorem okFrom_take (L : List M) (k : Nat) (h : k < L.length) : okFrom [] (L.take (k + 1)) = (okFrom [] (L.take k) && okM (lastOf [] (L.take k)) L[k]) := by
  rw [List.take_succ_eq_append_getElem h, okFrom_append]
  simp [okFrom]
theorem okFrom_bad (L : List M) (k : Nat) (h : k < L.length) (hb : okM (lastOf [] (L.take k)) L[k] = false) : okFrom [] L = false := by
  rw [← List.take_append_drop k L, okFrom_append, List.drop_eq_getElem_cons h]
  simp [okFrom, hb]
theorem lastOf_take (L : List M) (k : Nat) (h : k < L.length) : lastOf [] (L.take (k + 1)) = L[k].name := by
  rw [List.take_succ_eq_append_getElem h, lastOf_snoc]
theorem lt_nil (s : S) : ([] < s) ↔ s ≠ [] := by cases s <;> simp
/-- What a set that may be is. -/
theorem okFrom_mem {p : S} {L : List M} (h : okFrom p L = true) : ∀ m ∈ L, p < m.name ∧ m.name.length ≤ 6 ∧ 1 ≤ m.power ∧ m.power ≤ 1000 := by
  induction L generalizing p with
  | nil => simp
  | cons a L ih =>
    simp only [okFrom, okM, Bool.and_eq_true, decide_eq_true_eq] at h
    intro m hm
    rcases List.mem_cons.1 hm with rfl | hm
    · exact ⟨h.1.1.1.1, h.1.1.1.2, h.1.1.2, h.1.2⟩
    · have := ih h.2 m hm
      exact ⟨List.lt_trans h.1.1.1.1 this.1, this.2⟩
theorem okFrom_pair {p : S} {L : List M} (h : okFrom p L = true) : L.Pairwise (fun a b => a.name < b.name) := by
  induction L generalizing p with
  | nil => exact .nil
  | cons a L ih =>
    simp only [okFrom, Bool.and_eq_true] at h
    exact .cons (fun b hb => (okFrom_mem h.2 b hb).1) (ih h.2)
theorem okL_mem {L : List M} (h : okL L = true) : ∀ m ∈ L, m.name ≠ [] ∧ m.name.length ≤ 6 ∧ 1 ≤ m.power ∧ m.power ≤ 1000 := by
  simp only [okL, Bool.and_eq_true] at h
  intro m hm
  have := okFrom_mem h.2 m hm
  exact ⟨(lt_nil _).1 this.1, this.2⟩
theorem okL_pair {L : List M} (h : okL L = true) : L.Pairwise (fun a b => a.name < b.name) := by
  simp only [okL, Bool.and_eq_true] at h
  exact okFrom_pair h.2
theorem okL_len {L : List M} (h : okL L = true) : 1 ≤ L.length ∧ L.length ≤ 7 := by
  simp only [okL, Bool.and_eq_true, decide_eq_true_eq] at h
  exact h.1
theorem okL_names {L : List M} (h : okL L = true) {a b : M} (ha : a ∈ L) (hb : b ∈ L) (e : a.name = b.name) : a = b := by
  have hp := okL_pair h
  obtain ⟨i, hi, rfl⟩ := List.mem_iff_getElem.1 ha
  obtain ⟨j, hj, rfl⟩ := List.mem_iff_getElem.1 hb
  rw [List.pairwise_iff_getElem] at hp
  rcases Nat.lt_trichotomy i j with hlt | rfl | hlt
  · have := hp i j hi hj hlt
    rw [e] at this
    exact absurd this (List.lt_irrefl _)
  · rfl
  · have := hp j i hj hi hlt
    rw [e] at this
    exact absurd this (List.lt_irrefl _)

/-! ### the power of all -/
def sumP (L : List M) : Int := L.foldr (fun m n => m.power + n) 0
theorem sumP_append (A B : List M) : sumP (A ++ B) = sumP A + sumP B := by
  induction A with
  | nil => simp [sumP]
  | cons m A ih => simp only [sumP, List.cons_append, List.foldr_cons] at ih ⊢; omega
theorem sumP_take (L : List M) (k : Nat) (h : k < L.length) : sumP (L.take (k + 1)) = sumP (L.take k) + L[k].power := by
  rw [List.take_succ_eq_append_getElem h, sumP_append]; simp [sumP]
theorem sumP_range {L : List M} (h : ∀ m ∈ L, 1 ≤ m.power ∧ m.power ≤ 1000) : (L.length : Int) ≤ sumP L ∧ sumP L ≤ 1000 * L.length := by
  induction L with
  | nil => simp [sumP]
  | cons m L ih =>
    have h1 := ih (fun x hx => h x (List.mem_cons_of_mem _ hx))
    have h2 := h m (List.mem_cons_self ..)
    simp only [sumP, List.foldr_cons, List.length_cons] at h1 ⊢
    omega
theorem sumP_take_range {L : List M} (h : okL L = true) (k : Nat) : 0 ≤ sumP (L.take k) ∧ sumP (L.take k) ≤ 7000 := by
  have h1 := sumP_range (L := L.take k) (fun m hm => (okL_mem h m (List.mem_of_mem_take hm)).2.2)
  have h2 := (okL_len h).2
  have h3 : (L.take k).length ≤ 7 := by simp; omega
  omega
def tot (L : List M) : Nat := if okL L then (sumP L).toNat else 0
def quo (L : List M) : Nat := if tot L = 0 then 0 else 2 * tot L / 3 + 1
def mos (L : List M) : Nat := (tot L - 1) / 3
theorem tot_range (L : List M) : tot L ≤ 7000 ∧ (okL L = true → 1 ≤ tot L ∧ (tot L : Int) = sumP L) ∧ (okL L = false → tot L = 0) := by
  unfold tot
  cases h : okL L with
  | false => simp
  | true =>
    have h1 := sumP_range (L := L) (fun m hm => (okL_mem h m hm).2.2)
    have h2 := okL_len h
    simp
    omega

/-! ### those who are named -/
def pick (L : List M) (names : List S) : List M := L.filter fun m => decide (m.name ∈ names)
def ofL (L : List M) (names : List S) : Nat := if okL L then (sumP (pick L names)).toNat else 0
theorem sumP_filter_split (L : List M) (p : M → Bool) : sumP L = sumP (L.filter p) + sumP (L.filter fun m => !p m) := by
  induction L with
  | nil => rfl
  | cons m L ih =>
    simp only [List.filter_cons]
    cases p m <;> simp [sumP] at ih ⊢ <;> omega
theorem sumP_nonneg {L : List M} (h : ∀ m ∈ L, 0 ≤ m.power) : 0 ≤ sumP L := by
  induction L with
  | nil => simp [sumP]
  | cons m L ih =>
    have h1 := ih (fun x hx => h x (List.mem_cons_of_mem _ hx))
    have h2 := h m (List.mem_cons_self ..)
    simp only [sumP, List.foldr_cons] at h1 ⊢
    omega
theorem sumP_filter_le {L : List M} (p q : M → Bool) (h : ∀ m ∈ L, 0 ≤ m.power) (hpq : ∀ m ∈ L, p m = true → q m = true) : sumP (L.filter p) ≤ sumP (L.filter q) := by
  induction L with
  | nil => exact Int.le_refl _
  | cons m L ih =>
    have h1 := ih (fun x hx => h x (List.mem_cons_of_mem _ hx)) (fun x hx => hpq x (List.mem_cons_of_mem _ hx))
    have h2 := h m (List.mem_cons_self ..)
    have h3 := hpq m (List.mem_cons_self ..)
    simp only [List.filter_cons]
    cases hp : p m <;> cases hq : q m <;> simp [sumP, hp, hq] at h1 h3 ⊢ <;> omega
theorem pick_range {L : List M} (h : okL L = true) (names : List S) : 0 ≤ sumP (pick L names) ∧ sumP (pick L names) ≤ sumP L ∧ sumP L ≤ 7000 := by
  have hnn : ∀ m ∈ L, 0 ≤ m.power := fun m hm => by have := (okL_mem h m hm).2.2; omega
  have h1 := sumP_nonneg (L := pick L names) (fun m hm => hnn m (List.mem_filter.1 hm).1)
  have h2 := sumP_filter_split L (fun m => decide (m.name ∈ names))
  have h3 := sumP_nonneg (L := L.filter fun m => !decide (m.name ∈ names)) (fun m hm => hnn m (List.mem_filter.1 hm).1)
  have h4 := sumP_range (L := L) (fun m hm => (okL_mem h m hm).2.2)
  have h5 := (okL_len h).2
  refine ⟨h1, ?_, by omega⟩
  unfold pick
  omega
/-- One name more: no member new, or one. -/
theorem pick_no (L : List M) (names : List S) (s : S) (h : ∀ m ∈ L, m.name = s → s ∈ names) : pick L (names ++ [s]) = pick L names := by
  unfold pick
  apply List.filter_congr
  intro m hm
  have : (m.name ∈ names ++ [s]) ↔ m.name ∈ names := by
    simp only [List.mem_append, List.mem_singleton]
    exact ⟨fun hh => hh.elim id (fun e => e ▸ h m hm e), Or.inl⟩
  simp [this]
theorem pick_one {L : List M} (hL : okL L = true) (names : List S) {m : M} (hm : m ∈ L) (hn : m.name ∉ names) : sumP (pick L (names ++ [m.name])) = sumP (pick L names) + m.power := by
  have hnm : ∀ b ∈ L, b.name = m.name → b = m := fun b hb e => okL_names hL hb hm e
  have hp : L.Nodup := (okL_pair hL).imp (fun {a b} h e => by subst e; exact absurd h (List.lt_irrefl _))
  clear hL
  unfold pick
  induction L with
  | nil => simp at hm
  | cons a L ih =>
    rw [List.nodup_cons] at hp
    by_cases e : a.name = m.name
    · obtain rfl : a = m := hnm a (List.mem_cons_self ..) e
      have hrest : L.filter (fun x => decide (x.name ∈ names ++ [a.name])) = L.filter (fun x => decide (x.name ∈ names)) := by
        apply List.filter_congr
        intro x hx
        have hne : x.name ≠ a.name := fun e => by
          have := hnm x (List.mem_cons_of_mem _ hx) e
          subst this
          exact hp.1 hx
        simp [hne]
      simp only [List.filter_cons]
      rw [hrest]
      simp [sumP, hn]
      omega
    · have hmL : m ∈ L := by
        rcases List.mem_cons.1 hm with rfl | h
        · exact absurd rfl e
        · exact h
      have := ih hmL (fun b hb => hnm b (List.mem_cons_of_mem _ hb)) hp.2
      simp only [List.filter_cons]
      by_cases ha : a.name ∈ names
      · simp [sumP, ha, e] at this ⊢; omega
      · simp [sumP, ha, e] at this ⊢; omega

/-! ### what two lists have in common -/
def keepI (b : List S) (out : List S) (s : S) : List S := if s ∈ b ∧ s ∉ out then out ++ [s] else out
def uniq (a b : List S) : List S := a.foldl (keepI b) []
theorem uniq_take (a b : List S) (k : Nat) (h : k < a.length) : uniq (a.take (k + 1)) b = keepI b (uniq (a.take k) b) a[k] := by
  unfold uniq
  rw [List.take_succ_eq_append_getElem h, List.foldl_append]; rfl
theorem snocInd {α : Type} {p : List α → Prop} (h0 : p []) (h1 : ∀ l d, p l → p (l ++ [d])) (l : List α) : p l := by
  have h : ∀ r : List α, p r.reverse := by
    intro r
    induction r with
    | nil => exact h0
    | cons d r ih => rw [List.reverse_cons]; exact h1 _ _ ih
  have := h l.reverse
  rwa [List.reverse_reverse] at this
theorem uniq_snoc (a b : List S) (s : S) : uniq (a ++ [s]) b = keepI b (uniq a b) s := by simp [uniq]
theorem uniq_mem (a b : List S) (s : S) : s ∈ uniq a b ↔ s ∈ a ∧ s ∈ b := by
  induction a using snocInd with
  | h0 => simp [uniq]
  | h1 a d ih =>
    rw [uniq_snoc, keepI]
    split
    · simp only [List.mem_append, List.mem_singleton, ih]
      constructor
      · rintro (h | rfl)
        · exact ⟨Or.inl h.1, h.2⟩
        · rename_i h; exact ⟨Or.inr rfl, h.1⟩
      · rintro ⟨h | rfl, hb⟩
        · exact Or.inl ⟨h, hb⟩
        · exact Or.inr rfl
    · rename_i h
      simp only [List.mem_append, List.mem_singleton, ih]
      constructor
      · rintro h; exact ⟨Or.inl h.1, h.2⟩
      · rintro ⟨h' | rfl, hb⟩
        · exact ⟨h', hb⟩
        · by_cases hu : s ∈ uniq a b
          · exact ih.1 hu
          · exact absurd ⟨hb, hu⟩ h
theorem uniq_nodup (a b : List S) : (uniq a b).Nodup := by
  induction a using snocInd with
  | h0 => simp [uniq]
  | h1 a d ih =>
    rw [uniq_snoc, keepI]
    split
    · rename_i h
      rw [List.nodup_append]
      exact ⟨ih, by simp, fun x hx y hy e => by simp at hy; subst hy; subst e; exact h.2 hx⟩
    · exact ih
theorem uniq_length (a b : List S) : (uniq a b).length ≤ a.length := by
  induction a using snocInd with
  | h0 => simp [uniq]
  | h1 a d ih =>
    rw [uniq_snoc, keepI]
    split
    · simp; exact ih
    · simp; omega
def both (a b : List S) : List S := (uniq a b).mergeSort fun x y => decide (x ≤ y)
theorem both_perm (a b : List S) : (both a b).Perm (uniq a b) := List.mergeSort_perm _ _
theorem both_mem (a b : List S) (s : S) : s ∈ both a b ↔ s ∈ a ∧ s ∈ b := by rw [(both_perm a b).mem_iff, uniq_mem]
theorem both_nodup (a b : List S) : (both a b).Nodup := (both_perm a b).nodup_iff.2 (uniq_nodup a b)
theorem both_length (a b : List S) : (both a b).length ≤ a.length := by rw [(both_perm a b).length_eq]; exact uniq_length a b
end Go.Proofs.YtojpkodmpjibkaaDoor.Pw
namespace Go.Proofs.YtojpkodmpjibkaaDoor.Pw

theorem pick_le_tot {L : List M} (h : okL L = true) (N : List S) : ofL L N ≤ tot L := by
  have h1 := pick_range h N
  have h2 := (tot_range L).2.1 h
  simp only [ofL, h, if_true]
  omega
theorem ofL_eq {L : List M} (h : okL L = true) (N : List S) : (ofL L N : Int) = sumP (pick L N) := by
  have h1 := pick_range h N
  simp only [ofL, h, if_true]
  omega
theorem ofL_mono {L : List M} (h : okL L = true) {A B : List S} (hs : ∀ m ∈ L, m.name ∈ A → m.name ∈ B) : ofL L A ≤ ofL L B := by
  have h1 := ofL_eq h A
  have h2 := ofL_eq h B
  have h3 := sumP_filter_le (L := L) (fun m => decide (m.name ∈ A)) (fun m => decide (m.name ∈ B)) (fun m hm => by have := (okL_mem h m hm).2.2; omega) (fun m hm hA => by
    simp only [decide_eq_true_eq] at hA ⊢
    exact hs m hm hA)
  unfold pick at h1 h2
  omega
/-- What is in both, and what is in either. -/
theorem both_count {L : List M} (h : okL L = true) (a b : List S) : ofL L a + ofL L b ≤ tot L + ofL L (both a b) := by
  have h1 := ofL_eq h a
  have h2 := ofL_eq h b
  have h3 := ofL_eq h (both a b)
  have h4 := ((tot_range L).2.1 h).2
  have hnn : ∀ m ∈ L, 0 ≤ m.power := fun m hm => by have := (okL_mem h m hm).2.2; omega
  have key : ∀ K : List M, (∀ m ∈ K, 0 ≤ m.power) → sumP (pick K a) + sumP (pick K b) ≤ sumP K + sumP (pick K (both a b)) := by
    intro K
    induction K with
    | nil => intro _; simp [pick, sumP]
    | cons m K ih =>
      intro hk
      have h5 := ih (fun x hx => hk x (List.mem_cons_of_mem _ hx))
      have h6 := hk m (List.mem_cons_self ..)
      have hb : m.name ∈ both a b ↔ m.name ∈ a ∧ m.name ∈ b := both_mem a b m.name
      unfold pick at h5 ⊢
      simp only [List.filter_cons]
      by_cases ha : m.name ∈ a <;> by_cases hbb : m.name ∈ b
      · have : m.name ∈ both a b := hb.2 ⟨ha, hbb⟩
        simp [ha, hbb, this, sumP] at h5 ⊢; omega
      · have : m.name ∉ both a b := fun h => hbb (hb.1 h).2
        simp [ha, hbb, this, sumP] at h5 ⊢; omega
      · have : m.name ∉ both a b := fun h => ha (hb.1 h).1
        simp [ha, hbb, this, sumP] at h5 ⊢; omega
      · have : m.name ∉ both a b := fun h => ha (hb.1 h).1
        simp [ha, hbb, this, sumP] at h5 ⊢; omega
  have := key L hnn
  omega
theorem quorums {L : List M} (h : okL L = true) (a b : List S) (ha : quo L ≤ ofL L a) (hb : quo L ≤ ofL L b) : mos L < ofL L (both a b) ∧ tot L < 3 * ofL L (both a b) := by
  have h1 := both_count h a b
  have h2 := ((tot_range L).2.1 h).1
  unfold quo at ha hb
  rw [if_neg (by omega)] at ha hb
  unfold mos
  omega

/-! ### those who are faulty, and the others -/
/-- The members that are not among bad, up to k. -/
def good (L : List M) (bad : List S) : List S := (L.filter fun m => !decide (m.name ∈ bad)).map (·.name)
theorem good_mem (L : List M) (bad : List S) (s : S) : s ∈ good L bad ↔ (∃ m ∈ L, m.name = s) ∧ s ∉ bad := by
  simp only [good, List.mem_map, List.mem_filter, Bool.not_eq_true', decide_eq_false_iff_not]
  constructor
  · rintro ⟨m, ⟨h1, h2⟩, rfl⟩; exact ⟨⟨m, h1, rfl⟩, h2⟩
  · rintro ⟨⟨m, h1, rfl⟩, h2⟩; exact ⟨m, ⟨h1, h2⟩, rfl⟩
/-- What they have in common with some. -/
def met (L : List M) (bad some : List S) : List S := (good L bad).flatMap fun s => both [s] some
theorem met_empty {L : List M} {bad some : List S} (h : met L bad some = []) : ∀ m ∈ L, m.name ∉ bad → m.name ∉ some := by
  intro m hm hb hs
  have hg := (good_mem L bad m.name).2 ⟨⟨m, hm, rfl⟩, hb⟩
  have hin : m.name ∈ met L bad some := List.mem_flatMap.2 ⟨m.name, hg, (both_mem _ _ _).2 ⟨by simp, hs⟩⟩
  rw [h] at hin
  cases hin
theorem good_count {L : List M} (h : okL L = true) (bad : List S) : ofL L (good L bad) + ofL L bad = tot L := by
  have h1 := ofL_eq h (good L bad)
  have h2 := ofL_eq h bad
  have h4 := ((tot_range L).2.1 h).2
  have h5 := sumP_filter_split L (fun m => decide (m.name ∈ bad))
  have e : pick L (good L bad) = L.filter (fun m => !decide (m.name ∈ bad)) := by
    unfold pick
    apply List.filter_congr
    intro m hm
    have := good_mem L bad m.name
    by_cases hb : m.name ∈ bad
    · have hn : m.name ∉ good L bad := fun hh => (this.1 hh).2 hb
      simp [hb, hn]
    · have hy : m.name ∈ good L bad := this.2 ⟨⟨m, hm, rfl⟩, hb⟩
      simp [hb, hy]
  rw [e] at h1
  unfold pick at h2
  omega
theorem others {L : List M} (h : okL L = true) (bad some : List S) (hbad : ofL L bad ≤ mos L) :
    quo L ≤ ofL L (good L bad) ∧ (ofL L some ≤ mos L ∨ 0 < (met L bad some).length) ∧ 3 * mos L < tot L ∧ 2 * tot L < 3 * quo L := by
  have h1 := good_count h bad
  have h2 := ((tot_range L).2.1 h).1
  have h3 : quo L = 2 * tot L / 3 + 1 := by unfold quo; rw [if_neg (by omega)]
  have h4 : mos L = (tot L - 1) / 3 := rfl
  refine ⟨by omega, ?_, by omega, by omega⟩
  by_cases hm : met L bad some = []
  · left
    have h5 := met_empty hm
    have h6 : ofL L some ≤ ofL L bad := ofL_mono h (fun m hm hs => by
      by_cases hb : m.name ∈ bad
      · exact hb
      · exact absurd hs (h5 m hm hb))
    omega
  · right
    exact Nat.pos_of_ne_zero (fun e => hm (List.eq_nil_of_length_eq_zero e))
end Go.Proofs.YtojpkodmpjibkaaDoor.Pw
namespace Go.Proofs.YtojpkodmpjibkaaDoor
namespace Ora

abbrev K := List UInt8 × List UInt8
abbrev Sig := K × Bool
def kLt (a b : K) : Bool := decide (a.1 < b.1) || (decide (a.1 = b.1) && decide (a.2 < b.2))
theorem kLt_iff (a b : K) : kLt a b = true ↔ a.1 < b.1 ∨ (a.1 = b.1 ∧ a.2 < b.2) := by simp [kLt]
theorem kLt_irrefl (a : K) : kLt a a = false := by
  cases h : kLt a a with
  | false => rfl
  | true =>
    rcases (kLt_iff a a).1 h with h | ⟨_, h⟩
    · exact absurd h (List.lt_irrefl _)
    · exact absurd h (List.lt_irrefl _)
theorem kLt_trans {a b c : K} (h : kLt a b = true) (k : kLt b c = true) : kLt a c = true := by
  rw [kLt_iff] at *
  rcases h with h | ⟨h1, h2⟩
  · rcases k with k | ⟨k1, k2⟩
    · exact Or.inl (List.lt_trans h k)
    · exact Or.inl (k1 ▸ h)
  · rcases k with k | ⟨k1, k2⟩
    · exact Or.inl (h1 ▸ k)
    · exact Or.inr ⟨h1.trans k1, List.lt_trans h2 k2⟩
theorem kLt_ne {a b : K} (h : kLt a b = true) : a ≠ b := by
  rintro rfl
  rw [kLt_irrefl] at h; cases h
theorem kLt_asymm {a b : K} (h : kLt a b = true) : kLt b a = false := by
  cases k : kLt b a with
  | false => rfl
  | true => exact absurd rfl (kLt_ne (kLt_trans h k))
theorem tri (x y : List UInt8) : x < y ∨ x = y ∨ y < x := by
  by_cases h : x < y
  · exact Or.inl h
  · rcases List.le_iff_lt_or_eq.1 (List.not_lt.1 h) with h | h
    · exact Or.inr (Or.inr h)
    · exact Or.inr (Or.inl h.symm)
theorem kLt_total {a b : K} (h : kLt a b = false) (hn : a ≠ b) : kLt b a = true := by
  rw [kLt_iff]
  have h' : ¬ (a.1 < b.1 ∨ (a.1 = b.1 ∧ a.2 < b.2)) := fun k => by rw [(kLt_iff a b).2 k] at h; cases h
  rcases tri a.1 b.1 with h1 | h1 | h1
  · exact absurd (Or.inl h1) h'
  · rcases tri a.2 b.2 with h2 | h2 | h2
    · exact absurd (Or.inr ⟨h1, h2⟩) h'
    · exact absurd (Prod.ext h1 h2) hn
    · exact Or.inr ⟨h1.symm, h2⟩
  · exact Or.inl h1

def look : List Sig → K → Option Bool
  | [], _ => none
  | a :: r, k => if k = a.1 then some a.2 else look r k
def put : List Sig → K → Bool → List Sig
  | [], k, h => [(k, h)]
  | a :: r, k, h => if k = a.1 then (k, a.2 && h) :: r else if kLt k a.1 then (k, h) :: a :: r else a :: put r k h
def Rising (S : List Sig) : Prop := S.Pairwise fun a b => kLt a.1 b.1 = true
theorem rising_nil : Rising [] := List.Pairwise.nil
theorem look_none_of {S : List Sig} {k : K} (h : ∀ a ∈ S, a.1 ≠ k) : look S k = none := by
  induction S with
  | nil => rfl
  | cons a r ih =>
    rw [look, if_neg (fun e => h a (List.mem_cons_self ..) e.symm)]
    exact ih fun b hb => h b (List.mem_cons_of_mem _ hb)
theorem look_mem {S : List Sig} (hS : Rising S) (k : K) (b : Bool) : look S k = some b ↔ (k, b) ∈ S := by
  induction S with
  | nil => simp [look]
  | cons a r ih =>
    obtain ⟨h1, h2⟩ := List.pairwise_cons.1 hS
    rw [look]
    by_cases e : k = a.1
    · rw [if_pos e]
      constructor
      · intro h
        simp only [Option.some.injEq] at h
        exact List.mem_cons.2 (Or.inl (Prod.ext e h.symm))
      · intro h
        rcases List.mem_cons.1 h with h | h
        · rw [← h]
        · exact absurd e.symm (kLt_ne (h1 _ h))
    · rw [if_neg e, ih h2]
      constructor
      · exact fun h => List.mem_cons_of_mem _ h
      · intro h
        rcases List.mem_cons.1 h with h | h
        · exact absurd (by rw [← h]) e
        · exact h
theorem put_keys {S : List Sig} {k : K} {h : Bool} {x : Sig} (hx : x ∈ put S k h) : x.1 = k ∨ ∃ y ∈ S, y.1 = x.1 := by
  induction S with
  | nil => simp [put] at hx; exact Or.inl (by rw [hx])
  | cons a r ih =>
    rw [put] at hx
    split at hx
    · rcases List.mem_cons.1 hx with rfl | hx
      · exact Or.inl rfl
      · exact Or.inr ⟨x, List.mem_cons_of_mem _ hx, rfl⟩
    · split at hx
      · rcases List.mem_cons.1 hx with rfl | hx
        · exact Or.inl rfl
        · exact Or.inr ⟨x, hx, rfl⟩
      · rcases List.mem_cons.1 hx with rfl | hx
        · exact Or.inr ⟨x, List.mem_cons_self .., rfl⟩
        · rcases ih hx with h | ⟨y, hy, e⟩
          · exact Or.inl h
          · exact Or.inr ⟨y, List.mem_cons_of_mem _ hy, e⟩
theorem put_rising {S : List Sig} (hS : Rising S) (k : K) (h : Bool) : Rising (put S k h) := by
  induction S with
  | nil => simp [put, Rising]
  | cons a r ih =>
    obtain ⟨h1, h2⟩ := List.pairwise_cons.1 hS
    rw [put]
    split
    · rename_i e
      exact List.pairwise_cons.2 ⟨fun b hb => by show kLt k b.1 = true; rw [e]; exact h1 b hb, h2⟩
    · rename_i e
      split
      · rename_i l
        refine List.pairwise_cons.2 ⟨fun b hb => ?_, hS⟩
        rcases List.mem_cons.1 hb with rfl | hb
        · exact l
        · exact kLt_trans l (h1 b hb)
      · rename_i l
        refine List.pairwise_cons.2 ⟨fun b hb => ?_, ih h2⟩
        rcases put_keys hb with e' | ⟨y, hy, e'⟩
        · rw [e']; exact kLt_total (by simpa using l) e
        · rw [← e']; exact h1 y hy
/-- What an honest or other step makes of what was there. -/
def over (o : Option Bool) (h : Bool) : Bool := match o with | some b => b && h | none => h
theorem look_put {S : List Sig} (hS : Rising S) (k : K) (h : Bool) (x : K) : look (put S k h) x = if x = k then some (over (look S k) h) else look S x := by
  induction S with
  | nil =>
    simp only [put, look, over]
  | cons a r ih =>
    obtain ⟨h1, h2⟩ := List.pairwise_cons.1 hS
    rw [put]
    by_cases e : k = a.1
    · rw [if_pos e]
      simp only [look]
      rw [if_pos e]
      by_cases ex : x = k
      · rw [if_pos ex, if_pos ex]; rfl
      · rw [if_neg ex, if_neg ex, if_neg (fun q => ex (q.trans e.symm))]
    · rw [if_neg e]
      by_cases l : kLt k a.1 = true
      · rw [if_pos l]
        have hn : look (a :: r) k = none := look_none_of fun b hb => by
          rcases List.mem_cons.1 hb with rfl | hb
          · exact fun q => e q.symm
          · exact fun q => kLt_ne (kLt_trans l (h1 b hb)) q.symm
        rw [hn]
        rw [look]
        rfl
      · rw [if_neg l]
        simp only [look]
        rw [if_neg e, ih h2]
        by_cases ex : x = k
        · rw [if_pos ex, if_pos ex, if_neg (fun q => e (ex.symm.trans q))]
        · rw [if_neg ex, if_neg ex]
theorem put_length (S : List Sig) (k : K) (h : Bool) : (put S k h).length ≤ S.length + 1 := by
  induction S with
  | nil => simp [put]
  | cons a r ih =>
    rw [put]
    split
    · simp
    · split
      · simp
      · simp; omega
/-- Whatever is as the signatures are, in some order, and rises: the signatures. -/
theorem rising_of_perm {S T : List Sig} (hS : Rising S) (hp : T.Perm S) (hT : T.Pairwise fun a b => kLt b.1 a.1 = false) : T = S := by
  refine List.Perm.eq_of_pairwise (le := fun (a b : Sig) => kLt b.1 a.1 = false) ?_ hT (List.Pairwise.imp (fun {a b} h => kLt_asymm h) hS) hp
  intro a b ha hb h1 h2
  have ha' := hp.subset ha
  have e : a.1 = b.1 := by
    by_cases e : a.1 = b.1
    · exact e
    · exact absurd (kLt_total h1 (fun q => e q.symm)) (by rw [h2]; simp)
  obtain ⟨k, x⟩ := a
  obtain ⟨k', y⟩ := b
  obtain rfl : k = k' := e
  have q1 := (look_mem hS k x).2 ha'
  have q2 := (look_mem hS k y).2 hb
  rw [q1] at q2
  cases q2
  rfl

/-- Sign: what is there then, and its code. -/
def signP (S : List Sig) (k : K) (h : Bool) : List Sig × Int :=
  if k.1.length < 1 ∨ 6 < k.1.length then (S, 1) else if k.2.length ≠ 32 then (S, 3) else if look S k = none ∧ 1024 ≤ S.length then (S, 2) else (put S k h, 0)
theorem sign_rising {S : List Sig} (hS : Rising S) (k : K) (h : Bool) : Rising (signP S k h).1 := by
  unfold signP
  split
  · exact hS
  · split
    · exact hS
    · split
      · exact hS
      · exact put_rising hS k h
theorem sign_length (S : List Sig) (k : K) (h : Bool) : (signP S k h).1.length ≤ S.length + 1 := by
  unfold signP
  split
  · simp
  · split
    · simp
    · split
      · simp
      · exact put_length S k h
/-- A step that signs. -/
structure St where
  who : List UInt8
  mark : List UInt8
  honest : Bool
  fork : Bool
instance : Inhabited St := ⟨⟨[], [], false, false⟩⟩
def St.key (s : St) : K := (s.who, s.mark)
def St.may (s : St) : Bool := decide (1 ≤ s.who.length) && decide (s.who.length ≤ 6) && decide (s.mark.length = 32)
def step (S : List Sig) (s : St) : List Sig := (signP S s.key s.honest).1
def fillP (l : List St) : List Sig := l.foldl step []
theorem fill_snoc (l : List St) (s : St) : fillP (l ++ [s]) = step (fillP l) s := by simp [fillP]
theorem fill_take (l : List St) (k : Nat) (hk : k < l.length) : fillP (l.take (k + 1)) = step (fillP (l.take k)) l[k] := by
  rw [List.take_succ_eq_append_getElem hk, fill_snoc]
theorem fold_length (l : List St) (S : List Sig) : (l.foldl step S).length ≤ S.length + l.length := by
  induction l generalizing S with
  | nil => simp
  | cons s r ih =>
    have h1 := ih (step S s)
    have h2 := sign_length S s.key s.honest
    simp only [List.foldl_cons, List.length_cons]
    unfold step at h1 h2 ⊢
    omega
theorem fill_length (l : List St) : (fillP l).length ≤ l.length := by
  have := fold_length l []
  simpa [fillP] using this
end Ora
end Go.Proofs.YtojpkodmpjibkaaDoor
namespace Go.Proofs.YtojpkodmpjibkaaDoor.Sha
open Go

/-- x turned down by n bits. -/
def rotI (x n : Int) : Int := bits .or .u32 (x * 2 ^ (32 - n).toNat % 4294967296) (x / 2 ^ n.toNat)
/-- The 64 constants. -/
def kTab : List Int := [1116352408, 1899447441, 3049323471, 3921009573, 961987163, 1508970993, 2453635748, 2870763221, 3624381080, 310598401, 607225278, 1426881987, 1925078388, 2162078206, 2614888103, 3248222580, 3835390401, 4022224774, 264347078, 604807628, 770255983, 1249150122, 1555081692, 1996064986, 2554220882, 2821834349, 2952996808, 3210313671, 3336571891, 3584528711, 113926993, 338241895, 666307205, 773529912, 1294757372, 1396182291, 1695183700, 1986661051, 2177026350, 2456956037, 2730485921, 2820302411, 3259730800, 3345764771, 3516065817, 3600352804, 4094571909, 275423344, 430227734, 506948616, 659060556, 883997877, 958139571, 1322822218, 1537002063, 1747873779, 1955562222, 2024104815, 2227730452, 2361852424, 2428436474, 2756734187, 3204031479, 3329325298]
structure St where
  a : Int
  b : Int
  c : Int
  d : Int
  e : Int
  f : Int
  g : Int
  h : Int
def notI (x : Int) : Int := bits .xor .u32 IntKind.u32.max x
def uP (s : St) (k w : Int) : Int :=
  (s.h + bits .xor .u32 (bits .xor .u32 (rotI s.e 6) (rotI s.e 11)) (rotI s.e 25) + bits .xor .u32 (bits .and .u32 s.e s.f) (bits .and .u32 (notI s.e) s.g) + k + w) % 4294967296
def vP (s : St) : Int :=
  (bits .xor .u32 (bits .xor .u32 (rotI s.a 2) (rotI s.a 13)) (rotI s.a 22) + bits .xor .u32 (bits .xor .u32 (bits .and .u32 s.a s.b) (bits .and .u32 s.a s.c)) (bits .and .u32 s.b s.c)) % 4294967296
def step (s : St) (k w : Int) : St := ⟨(uP s k w + vP s) % 4294967296, s.a, s.b, s.c, (s.d + uP s k w) % 4294967296, s.e, s.f, s.g⟩
def rounds (s : St) (W : List Int) : Nat → St
  | 0 => s
  | i + 1 => step (rounds s W i) (kTab.getD i 0) (W.getD i 0)
def St.list (s : St) : List Int := [s.a, s.b, s.c, s.d, s.e, s.f, s.g, s.h]
/-- What the eight words are behind all 64 of W. -/
def turnP (s : St) (W : List Int) : St := rounds s W 64
/-- The word of four bytes, the highest first. -/
def word4 (a b c d : UInt8) : Int := bits .or .u32 (bits .or .u32 (bits .or .u32 ((a.toNat : Int) * 16777216) ((b.toNat : Int) * 65536)) ((c.toNat : Int) * 256)) (d.toNat : Int)
/-- The block's words, 16 of them, as they are laid one by one. -/
def fill (b : List UInt8) : Nat → List Int
  | 0 => List.replicate 64 0
  | k + 1 => (fill b k).set k (word4 (b.getD (4 * k) 0) (b.getD (4 * k + 1) 0) (b.getD (4 * k + 2) 0) (b.getD (4 * k + 3) 0))
def sP (x : Int) : Int := bits .xor .u32 (bits .xor .u32 (rotI x 7) (rotI x 18)) (x / 8)
def tP (y : Int) : Int := bits .xor .u32 (bits .xor .u32 (rotI y 17) (rotI y 19)) (y / 1024)
def more (L : List Int) (n : Nat) : Int := (L.getD (n - 16) 0 + sP (L.getD (n - 15) 0) + L.getD (n - 7) 0 + tP (L.getD (n - 2) 0)) % 4294967296
/-- The further words, up to w(63). -/
def ext (L : List Int) : Nat → List Int
  | 0 => L
  | k + 1 => (ext L k).set (16 + k) (more (ext L k) (16 + k))
def widenP (b : List UInt8) : List Int := ext (fill b 16) 48
def addTo (H T : List Int) : Nat → List Int
  | 0 => H
  | k + 1 => (addTo H T k).set k (((addTo H T k).getD k 0 + T.getD k 0) % 4294967296)
def addP (s t : St) : St := ⟨(s.a + t.a) % 4294967296, (s.b + t.b) % 4294967296, (s.c + t.c) % 4294967296, (s.d + t.d) % 4294967296, (s.e + t.e) % 4294967296, (s.f + t.f) % 4294967296, (s.g + t.g) % 4294967296, (s.h + t.h) % 4294967296⟩
/-- What the words s are behind the block b. -/
def blockP (s : St) (b : List UInt8) : St := addP s (turnP s (widenP b))
theorem addTo_length (H T : List Int) (k : Nat) : (addTo H T k).length = H.length := by
  induction k with
  | zero => rfl
  | succ k ih => simp [addTo, ih]
/-- The first words. -/
def first : St := ⟨1779033703, 3144134277, 1013904242, 2773480762, 1359893119, 2600822924, 528734635, 1541459225⟩
/-- The byte of a number. -/
def byteOf (z : Int) : UInt8 := UInt8.ofNat (z % 256).toNat
theorem byteOf_toNat (z : Int) : ((byteOf z).toNat : Int) = z % 256 := by
  have h0 := Int.emod_nonneg z (show (256 : Int) ≠ 0 by decide)
  have h1 := Int.emod_lt_of_pos z (show (0 : Int) < 256 by decide)
  simp only [byteOf, UInt8.toNat_ofNat']
  omega
/-- The words' bytes, as they are laid four at a time. -/
def joinFill (L : List Int) : Nat → List UInt8
  | 0 => List.replicate 32 0
  | k + 1 => ((((joinFill L k).set (4 * k) (byteOf (L.getD k 0 / 16777216))).set (4 * k + 1) (byteOf (L.getD k 0 / 65536))).set (4 * k + 2) (byteOf (L.getD k 0 / 256))).set (4 * k + 3) (byteOf (L.getD k 0))
theorem joinFill_length (L : List Int) (k : Nat) : (joinFill L k).length = 32 := by
  induction k with
  | zero => simp [joinFill]
  | succ k ih => simp [joinFill, ih]
def joinP (s : St) : List UInt8 := joinFill s.list 8
/-- How many bytes stand before the length in what fills a text of n bytes. -/
def padN (n : Nat) : Nat := 1 + (119 - n % 64) % 64
def tailFill (n : Nat) : Nat → List UInt8
  | 0 => (List.replicate 72 0).set 0 128
  | k + 1 => (tailFill n k).set (padN n + k) (byteOf ((n : Int) * 8 / 2 ^ (8 * (7 - k))))
theorem tailFill_length (n k : Nat) : (tailFill n k).length = 72 := by
  induction k with
  | zero => simp [tailFill]
  | succ k ih => simp [tailFill, ih]
/-- What fills a text of n bytes up to whole blocks. -/
def tailP (n : Nat) : List UInt8 := (tailFill n 8).take (padN n + 8)
theorem tailP_length (n : Nat) : (tailP n).length = padN n + 8 := by
  simp only [tailP, List.length_take, tailFill_length, padN]
  omega
/-- The words behind the first k blocks of the text t. -/
def absorb (t : List UInt8) : Nat → St
  | 0 => first
  | k + 1 => blockP (absorb t k) ((t.drop (64 * k)).take 64)
theorem absorb_append (t u : List UInt8) (k : Nat) (h : 64 * k ≤ t.length) : absorb (t ++ u) k = absorb t k := by
  induction k with
  | zero => rfl
  | succ k ih =>
    simp only [absorb]
    rw [ih (by omega), List.drop_append_of_le_length (by omega), List.take_append_of_le_length (by rw [List.length_drop]; omega)]
/-- The words behind all whole blocks of the text, and what is no whole block. -/
def wordsP (t : List UInt8) : St := absorb t (t.length / 64)
def restP (t : List UInt8) : List UInt8 := t.drop (64 * (t.length / 64))
theorem words_same (t u : List UInt8) (h : t.length % 64 + u.length < 64) : wordsP (t ++ u) = wordsP t ∧ restP (t ++ u) = restP t ++ u := by
  have e : (t ++ u).length / 64 = t.length / 64 := by rw [List.length_append]; omega
  refine ⟨?_, ?_⟩
  · unfold wordsP
    rw [e, absorb_append t u _ (by omega)]
  · unfold restP
    rw [e, List.drop_append_of_le_length (by omega)]
theorem words_next (t u : List UInt8) (h : t.length % 64 + u.length = 64) : wordsP (t ++ u) = blockP (wordsP t) (restP t ++ u) ∧ restP (t ++ u) = [] := by
  have e : (t ++ u).length / 64 = t.length / 64 + 1 := by rw [List.length_append]; omega
  refine ⟨?_, ?_⟩
  · unfold wordsP restP
    rw [e, absorb, absorb_append t u _ (by omega), List.drop_append_of_le_length (by omega), List.take_of_length_le (by rw [List.length_append, List.length_drop]; omega)]
  · unfold restP
    rw [e]
    exact List.drop_eq_nil_of_le (by rw [List.length_append]; omega)
/-- The text's sum. -/
def sumP (t : List UInt8) : List UInt8 := joinP (wordsP (t ++ tailP t.length))
theorem sumP_length (t : List UInt8) : (sumP t).length = 32 := joinFill_length _ _
end Go.Proofs.YtojpkodmpjibkaaDoor.Sha
namespace Go.Proofs.YtojpkodmpjibkaaDoor.Sha
open Go

theorem bits_or_comm (k : IntKind) (x y : Int) : bits .or k x y = bits .or k y x := by
  unfold bits
  simp only [BitVec.or_comm]
theorem wrap_u32_nat (n : Nat) (h : n < 4294967296) : IntKind.u32.wrap (n : Int) = (n : Int) := by
  simp [IntKind.wrap, IntKind.signed, IntKind.bits]
  omega
theorem u32_or_nat (a b : Nat) (ha : a < 4294967296) (hb : b < 4294967296) : bits .or .u32 (a : Int) (b : Int) = ((a ||| b : Nat) : Int) := by
  unfold bits
  have e : ((BitVec.ofInt IntKind.u32.bits (a : Int) ||| BitVec.ofInt IntKind.u32.bits (b : Int)).toNat) = a ||| b := by
    simp only [BitVec.toNat_or, BitVec.ofInt_natCast, BitVec.toNat_ofNat]
    rw [Nat.mod_eq_of_lt (by simpa [IntKind.bits] using ha), Nat.mod_eq_of_lt (by simpa [IntKind.bits] using hb)]
  simp only [e]
  exact wrap_u32_nat _ (Nat.or_lt_two_pow (n := 32) ha hb)
/-- Four bytes, the highest first: by or, or by sums. -/
theorem word4_sum (a b c d : UInt8) : word4 a b c d = ((((a.toNat * 256 + b.toNat) * 256 + c.toNat) * 256 + d.toNat : Nat) : Int) := by
  have ha := a.toNat_lt
  have hb := b.toNat_lt
  have hc := c.toNat_lt
  have hd := d.toNat_lt
  have e1 := Nat.two_pow_add_eq_or_of_lt (i := 24) (b := b.toNat * 65536) (by omega) a.toNat
  have e2 := Nat.two_pow_add_eq_or_of_lt (i := 16) (b := c.toNat * 256) (by omega) (a.toNat * 256 + b.toNat)
  have e3 := Nat.two_pow_add_eq_or_of_lt (i := 8) (b := d.toNat) (by omega) ((a.toNat * 256 + b.toNat) * 256 + c.toNat)
  unfold word4
  rw [show (a.toNat : Int) * 16777216 = ((2 ^ 24 * a.toNat : Nat) : Int) by omega, show (b.toNat : Int) * 65536 = ((b.toNat * 65536 : Nat) : Int) by omega,
    show (c.toNat : Int) * 256 = ((c.toNat * 256 : Nat) : Int) by omega, u32_or_nat _ _ (by omega) (by omega), ← e1,
    show 2 ^ 24 * a.toNat + b.toNat * 65536 = 2 ^ 16 * (a.toNat * 256 + b.toNat) by omega, u32_or_nat _ _ (by omega) (by omega), ← e2,
    show 2 ^ 16 * (a.toNat * 256 + b.toNat) + c.toNat * 256 = 2 ^ 8 * ((a.toNat * 256 + b.toNat) * 256 + c.toNat) by omega, u32_or_nat _ _ (by omega) (by omega), ← e3]
  omega

/-- The first 16 words, a byte at a time. -/
def fillR (b : List UInt8) : Nat → List Int
  | 0 => List.replicate 16 0
  | k + 1 => (fillR b k).set (k / 4) (((fillR b k).getD (k / 4) 0 * 256 + ((b.getD k 0).toNat : Int)) % 4294967296)
theorem fillR_length (b : List UInt8) (k : Nat) : (fillR b k).length = 16 := by
  induction k with
  | zero => simp [fillR]
  | succ k ih => simp [fillR, ih]
/-- The window that moves on. -/
def winNext (V : List Int) (i : Nat) : List Int :=
  if 16 ≤ i then V.set (i % 16) ((V.getD (i % 16) 0 + sP (V.getD ((i + 1) % 16) 0) + V.getD ((i + 9) % 16) 0 + tP (V.getD ((i + 14) % 16) 0)) % 4294967296) else V
def win (V : List Int) : Nat → List Int
  | 0 => V
  | i + 1 => winNext (win V i) i
theorem win_length (V : List Int) (i : Nat) : (win V i).length = V.length := by
  induction i with
  | zero => rfl
  | succ i ih =>
    simp only [win, winNext]
    split <;> simp [ih]
def roundsR (s : St) (V : List Int) : Nat → St
  | 0 => s
  | i + 1 => step (roundsR s V i) (kTab.getD i 0) ((win V (i + 1)).getD (i % 16) 0)
def blockR (s : St) (b : List UInt8) : St := addP s (roundsR s (fillR b 64) 64)

theorem getD_set (l : List Int) (i j : Nat) (v : Int) (hi : i < l.length) : (l.set i v).getD j 0 = if i = j then v else l.getD j 0 := by
  by_cases h : i = j
  · subst h
    simp [hi]
  · simp [h]
theorem fillR_early (b : List UInt8) (j : Nat) (hj : j < 16) : ∀ k, k ≤ 4 * j → (fillR b k).getD j 0 = 0
  | 0, _ => by
    unfold fillR
    simp only [List.getD_eq_getElem?_getD, List.getElem?_replicate, hj, if_true, Option.getD_some]
  | k + 1, h => by
    rw [fillR, getD_set _ _ _ _ (by rw [fillR_length]; omega), if_neg (by omega)]
    exact fillR_early b j hj k (by omega)
theorem fillR_late (b : List UInt8) (j : Nat) : ∀ n, 4 * j + 4 + n ≤ 64 → (fillR b (4 * j + 4 + n)).getD j 0 = (fillR b (4 * j + 4)).getD j 0
  | 0, _ => rfl
  | n + 1, h => by
    rw [← Nat.add_assoc, fillR, getD_set _ _ _ _ (by rw [fillR_length]; omega), if_neg (by omega)]
    exact fillR_late b j n (by omega)
theorem fillR_at (b : List UInt8) (j : Nat) (hj : j < 16) : (fillR b 64).getD j 0 = word4 (b.getD (4 * j) 0) (b.getD (4 * j + 1) 0) (b.getD (4 * j + 2) 0) (b.getD (4 * j + 3) 0) := by
  have h := fillR_late b j (60 - 4 * j) (by omega)
  rw [show 4 * j + 4 + (60 - 4 * j) = 64 by omega] at h
  have s0 := fillR_early b j hj (4 * j) (Nat.le_refl _)
  have st : ∀ k, 4 * j ≤ k → k < 4 * j + 4 → (fillR b (k + 1)).getD j 0 = ((fillR b k).getD j 0 * 256 + ((b.getD k 0).toNat : Int)) % 4294967296 := fun k h1 h2 => by
    have e : k / 4 = j := by omega
    rw [fillR, getD_set _ _ _ _ (by rw [fillR_length]; omega), e, if_pos rfl]
  have s1 := st (4 * j) (by omega) (by omega)
  have s2 := st (4 * j + 1) (by omega) (by omega)
  have s3 := st (4 * j + 2) (by omega) (by omega)
  have s4 := st (4 * j + 3) (by omega) (by omega)
  rw [h, s4, s3, s2, s1, s0, word4_sum]
  have h0 := (b.getD (4 * j) 0).toNat_lt
  have h1 := (b.getD (4 * j + 1) 0).toNat_lt
  have h2 := (b.getD (4 * j + 2) 0).toNat_lt
  have h3 := (b.getD (4 * j + 3) 0).toNat_lt
  generalize (b.getD (4 * j) 0).toNat = x0 at *
  generalize (b.getD (4 * j + 1) 0).toNat = x1 at *
  generalize (b.getD (4 * j + 2) 0).toNat = x2 at *
  generalize (b.getD (4 * j + 3) 0).toNat = x3 at *
  omega

theorem fill_len (b : List UInt8) (k : Nat) : (fill b k).length = 64 := by
  induction k with
  | zero => simp [fill]
  | succ k ih => simp [fill, ih]
theorem ext_len (L : List Int) (k : Nat) : (ext L k).length = L.length := by
  induction k with
  | zero => rfl
  | succ k ih => simp [ext, ih]
theorem fill_late (b : List UInt8) (j : Nat) : ∀ n, j + 1 + n ≤ 64 → (fill b (j + 1 + n)).getD j 0 = (fill b (j + 1)).getD j 0
  | 0, _ => rfl
  | n + 1, h => by
    rw [← Nat.add_assoc, fill, getD_set _ _ _ _ (by rw [fill_len]; omega), if_neg (by omega)]
    exact fill_late b j n (by omega)
theorem fill_at (b : List UInt8) (j : Nat) (hj : j < 16) : (fill b 16).getD j 0 = word4 (b.getD (4 * j) 0) (b.getD (4 * j + 1) 0) (b.getD (4 * j + 2) 0) (b.getD (4 * j + 3) 0) := by
  have h := fill_late b j (15 - j) (by omega)
  rw [show j + 1 + (15 - j) = 16 by omega] at h
  rw [h, fill, getD_set _ _ _ _ (by rw [fill_len]; omega), if_pos rfl]
theorem ext_keep (L : List Int) (hL : L.length = 64) (j : Nat) : ∀ k n, j < 16 + k → k + n ≤ 48 → (ext L (k + n)).getD j 0 = (ext L k).getD j 0
  | _, 0, _, _ => rfl
  | k, n + 1, h, hk => by
    rw [← Nat.add_assoc, ext, getD_set _ _ _ _ (by rw [ext_len]; omega), if_neg (by omega)]
    exact ext_keep L hL j k n h (by omega)
theorem ext_low (L : List Int) (hL : L.length = 64) (j : Nat) (hj : j < 16) : (ext L 48).getD j 0 = L.getD j 0 := by
  have := ext_keep L hL j 0 48 (by omega) (by omega)
  simpa [ext] using this
theorem ext_next (L : List Int) (hL : L.length = 64) (i : Nat) (h0 : 16 ≤ i) (h1 : i < 64) : (ext L 48).getD i 0 = more (ext L 48) i := by
  have e1 := ext_keep L hL i (i - 16 + 1) (64 - 1 - i) (by omega) (by omega)
  rw [show i - 16 + 1 + (64 - 1 - i) = 48 by omega] at e1
  rw [e1, ext, getD_set _ _ _ _ (by rw [ext_len]; omega), if_pos (by omega), show 16 + (i - 16) = i by omega]
  have keep : ∀ j, j < i → (ext L (i - 16)).getD j 0 = (ext L 48).getD j 0 := fun j hj => by
    have := ext_keep L hL j (i - 16) (64 - i) (by omega) (by omega)
    rw [show i - 16 + (64 - i) = 48 by omega] at this
    exact this.symm
  unfold more
  rw [keep (i - 16) (by omega), keep (i - 15) (by omega), keep (i - 7) (by omega), keep (i - 2) (by omega)]
/-- The window holds the last 16 words. -/
theorem win_is (b : List UInt8) (i : Nat) (hi : i ≤ 64) : ∀ m, m < 64 → (m < i ∨ m < 16) → (i ≤ m + 16) → (win (fillR b 64) i).getD (m % 16) 0 = (widenP b).getD m 0 := by
  have hfl : (fill b 16).length = 64 := fill_len b 16
  induction i with
  | zero =>
    intro m hm h1 _
    have hm16 : m < 16 := by omega
    rw [win, Nat.mod_eq_of_lt hm16, fillR_at b m hm16, widenP, ext_low _ hfl m hm16, fill_at b m hm16]
  | succ i ih =>
    intro m hm h1 h2
    have ih' := ih (by omega)
    rw [win, winNext]
    by_cases h16 : 16 ≤ i
    · rw [if_pos h16, getD_set _ _ _ _ (by rw [win_length, fillR_length]; omega)]
      by_cases hmi : m = i
      · subst hmi
        rw [if_pos rfl, widenP, ext_next _ hfl m h16 hm, ← widenP]
        unfold more
        rw [← ih' (m - 16) (by omega) (by omega) (by omega), ← ih' (m - 15) (by omega) (by omega) (by omega), ← ih' (m - 7) (by omega) (by omega) (by omega), ← ih' (m - 2) (by omega) (by omega) (by omega),
          show (m - 16) % 16 = m % 16 by omega, show (m - 15) % 16 = (m + 1) % 16 by omega, show (m - 7) % 16 = (m + 9) % 16 by omega, show (m - 2) % 16 = (m + 14) % 16 by omega]
      · rw [if_neg (by omega)]
        exact ih' m hm (by omega) (by omega)
    · rw [if_neg h16]
      exact ih' m hm (by omega) (by omega)
theorem roundsR_is (s : St) (b : List UInt8) (i : Nat) (hi : i ≤ 64) : roundsR s (fillR b 64) i = rounds s (widenP b) i := by
  induction i with
  | zero => rfl
  | succ i ih => rw [roundsR, rounds, ih (by omega), win_is b (i + 1) hi i (by omega) (by omega) (by omega)]
theorem blockR_is (s : St) (b : List UInt8) : blockR s b = blockP s b := by
  unfold blockR blockP turnP
  rw [roundsR_is s b 64 (by omega)]
end Go.Proofs.YtojpkodmpjibkaaDoor.Sha
namespace Go.Proofs.YtojpkodmpjibkaaDoor.Sha
open Go

/-- A number's last k bytes, the highest first. -/
def endR (N : Nat) : Nat → List UInt8
  | 0 => []
  | k + 1 => byteOf ((N / 256 ^ k : Nat) : Int) :: endR N k
theorem endR_length (N k : Nat) : (endR N k).length = k := by
  induction k with
  | zero => rfl
  | succ k ih => simp [endR, ih]
theorem set8 (A B : List UInt8) (b0 b1 b2 b3 b4 b5 b6 b7 : UInt8) (n : Nat) (hA : A.length = n) :
    ((((((((A ++ 0 :: 0 :: 0 :: 0 :: 0 :: 0 :: 0 :: 0 :: B).set (n + 0) b0).set (n + 1) b1).set (n + 2) b2).set (n + 3) b3).set (n + 4) b4).set (n + 5) b5).set (n + 6) b6).set (n + 7) b7 = (A ++ [b0, b1, b2, b3, b4, b5, b6, b7]) ++ B := by
  subst hA
  simp
theorem tail_base (z : Nat) (hz : z ≤ 63) : (List.replicate 72 (0 : UInt8)).set 0 128 = (128 :: List.replicate z 0) ++ 0 :: 0 :: 0 :: 0 :: 0 :: 0 :: 0 :: 0 :: List.replicate (63 - z) 0 := by
  have e : (List.replicate 72 (0 : UInt8)) = 0 :: (List.replicate z 0 ++ 0 :: 0 :: 0 :: 0 :: 0 :: 0 :: 0 :: 0 :: List.replicate (63 - z) 0) := by
    apply List.ext_getElem
    · simp; omega
    · intro i h1 h2
      rw [List.getElem_replicate]
      have : ∀ x ∈ (0 : UInt8) :: (List.replicate z 0 ++ 0 :: 0 :: 0 :: 0 :: 0 :: 0 :: 0 :: 0 :: List.replicate (63 - z) 0), x = 0 := by
        intro x hx
        simp [List.mem_replicate] at hx
        rcases hx with h | h | h | h <;> simp_all
      exact (this _ (List.getElem_mem h2)).symm
  rw [e]
  rfl
theorem tailP_is (n z : Nat) (hz : z = (119 - n % 64) % 64) : tailP n = (128 :: List.replicate z 0) ++ endR (n * 8) 8 := by
  have hp : padN n = 1 + z := by rw [hz]; rfl
  have hA : ((128 : UInt8) :: List.replicate z 0).length = 1 + z := by simp; omega
  have h8 := set8 (128 :: List.replicate z 0) (List.replicate (63 - z) 0) (byteOf ((n : Int) * 8 / 2 ^ (8 * (7 - 0)))) (byteOf ((n : Int) * 8 / 2 ^ (8 * (7 - 1)))) (byteOf ((n : Int) * 8 / 2 ^ (8 * (7 - 2)))) (byteOf ((n : Int) * 8 / 2 ^ (8 * (7 - 3)))) (byteOf ((n : Int) * 8 / 2 ^ (8 * (7 - 4)))) (byteOf ((n : Int) * 8 / 2 ^ (8 * (7 - 5)))) (byteOf ((n : Int) * 8 / 2 ^ (8 * (7 - 6)))) (byteOf ((n : Int) * 8 / 2 ^ (8 * (7 - 7)))) (1 + z) hA
  have ht : tailFill n 8 = ((128 :: List.replicate z 0) ++ [byteOf ((n : Int) * 8 / 2 ^ (8 * (7 - 0))), byteOf ((n : Int) * 8 / 2 ^ (8 * (7 - 1))), byteOf ((n : Int) * 8 / 2 ^ (8 * (7 - 2))), byteOf ((n : Int) * 8 / 2 ^ (8 * (7 - 3))), byteOf ((n : Int) * 8 / 2 ^ (8 * (7 - 4))), byteOf ((n : Int) * 8 / 2 ^ (8 * (7 - 5))), byteOf ((n : Int) * 8 / 2 ^ (8 * (7 - 6))), byteOf ((n : Int) * 8 / 2 ^ (8 * (7 - 7)))]) ++ List.replicate (63 - z) 0 := by
    rw [← h8, ← tail_base z (by omega)]
    simp only [tailFill, hp]
  rw [tailP, ht, hp, List.take_append_of_le_length (by simp; omega), List.take_of_length_le (by simp; omega)]
  congr 1
/-- A block, byte by byte. -/
def copyR (X : List UInt8) : Nat → List UInt8
  | 0 => List.replicate 64 0
  | j + 1 => (copyR X j).set j (X.getD j 0)
theorem copyR_length (X : List UInt8) (j : Nat) : (copyR X j).length = 64 := by
  induction j with
  | zero => simp [copyR]
  | succ j ih => simp [copyR, ih]
theorem copyR_is (X : List UInt8) (hX : X.length = 64) (j : Nat) (hj : j ≤ 64) : copyR X j = X.take j ++ List.replicate (64 - j) 0 := by
  induction j with
  | zero => simp [copyR]
  | succ j ih =>
    rw [copyR, ih (by omega), show 64 - j = (64 - (j + 1)) + 1 by omega, List.replicate_succ, List.set_append_right _ _ (by simp; omega),
      List.take_succ_eq_append_getElem (by omega)]
    have e : j - (X.take j).length = 0 := by simp; omega
    rw [e, List.set_cons_zero, List.getD_eq_getElem?_getD, List.getElem?_eq_getElem (by omega), Option.getD_some, List.append_assoc]
    rfl
theorem copyR_all (X : List UInt8) (hX : X.length = 64) : copyR X 64 = X := by
  rw [copyR_is X hX 64 (by omega), List.take_of_length_le (by omega)]
  simp
end Go.Proofs.YtojpkodmpjibkaaDoor.Sha
namespace Go.Proofs.YtojpkodmpjibkaaDoor.Ct
open Go.Proofs.YtojpkodmpjibkaaDoor.Pw (S M okL okFrom okFrom_mem okFrom_pair okL_mem okL_pair okL_len okM ofL tot quo mos both)
open Go.Proofs.YtojpkodmpjibkaaDoor.Ora (Sig)

/-- A certificate. -/
structure C where
  dig : S
  sig : List S
instance : Inhabited C := ⟨⟨[], []⟩⟩
def toM (s : S) : M := ⟨s, 1⟩
/-- Names that rise. -/
def okNs (L : List S) : Bool := okFrom [] (L.map toM)
def may (c : C) : Bool := decide (c.dig.length = 32) && decide (c.sig.length ≤ 7) && okNs c.sig
theorem okNs_mem {L : List S} (h : okNs L = true) : ∀ s ∈ L, s ≠ [] ∧ s.length ≤ 6 := by
  intro s hs
  have := okFrom_mem h (toM s) (List.mem_map.2 ⟨s, hs, rfl⟩)
  exact ⟨(Pw.lt_nil _).1 this.1, this.2.1⟩
theorem okNs_pair {L : List S} (h : okNs L = true) : L.Pairwise (· < ·) := by
  have := okFrom_pair h
  rw [List.pairwise_map] at this
  exact this
theorem okNs_nodup {L : List S} (h : okNs L = true) : L.Nodup := List.Pairwise.imp (fun {a b} hab => fun (e : a = b) => List.lt_irrefl b (e ▸ hab)) (okNs_pair h)
theorem okFrom_of {p : S} {L : List S} (hp : ∀ s ∈ L, p < s ∧ s.length ≤ 6) (h : L.Pairwise (· < ·)) : okFrom p (L.map toM) = true := by
  induction L generalizing p with
  | nil => rfl
  | cons a r ih =>
    obtain ⟨h1, h2⟩ := List.pairwise_cons.1 h
    have ha := hp a (List.mem_cons_self ..)
    simp only [List.map_cons, okFrom, okM, toM, Bool.and_eq_true, decide_eq_true_eq]
    exact ⟨⟨⟨⟨ha.1, ha.2⟩, by omega⟩, by omega⟩, ih (fun s hs => ⟨h1 s hs, (hp s (List.mem_cons_of_mem _ hs)).2⟩) h2⟩
theorem okNs_of {L : List S} (hm : ∀ s ∈ L, s ≠ [] ∧ s.length ≤ 6) (h : L.Pairwise (· < ·)) : okNs L = true := okFrom_of (fun s hs => ⟨(Pw.lt_nil s).2 (hm s hs).1, (hm s hs).2⟩) h
theorem may_len {c : C} (h : may c = true) : c.dig.length = 32 ∧ c.sig.length ≤ 7 ∧ okNs c.sig = true := by
  simp only [may, Bool.and_eq_true, decide_eq_true_eq] at h
  exact ⟨h.1.1, h.1.2, h.2⟩

def isT (t : Int) : Bool := decide (t = 5) || decide (t = 6)
/-- The mark of a digest of 32 bytes. -/
def markP (t : Int) (s : S) : S := Sha.sumP (Sha.byteOf t :: s)
def markC (t : Int) (s : S) : Int := if isT t then (if s.length = 32 then 0 else 3) else 1
def names (L : List M) : List S := L.map (·.name)
theorem names_mem {L : List M} {s : S} : s ∈ names L ↔ ∃ m ∈ L, m.name = s := by simp [names]
def signedBy (t : Int) (d : S) (T : List Sig) (s : S) : Bool := (Ora.look T (s, markP t d)).isSome
/-- Check's code. -/
def checkP (t : Int) (L : List M) (c : C) (T : List Sig) : Int :=
  if isT t = false then 1 else if okL L = false then 50 else if may c = false then 3 else if (c.sig.all fun s => decide (s ∈ names L)) = false then 5
  else if (c.sig.all fun s => signedBy t c.dig T s) = false then 70 else if 3 * ofL L c.sig ≤ 2 * tot L then 71 else 0
theorem check_good {t : Int} {L : List M} {c : C} {T : List Sig} : checkP t L c T = 0 ↔ isT t = true ∧ okL L = true ∧ may c = true ∧ (∀ s ∈ c.sig, s ∈ names L) ∧ (∀ s ∈ c.sig, signedBy t c.dig T s = true) ∧ 2 * tot L < 3 * ofL L c.sig := by
  unfold checkP
  constructor
  · intro h
    split at h
    · cases h
    split at h
    · cases h
    split at h
    · cases h
    split at h
    · cases h
    split at h
    · cases h
    split at h
    · cases h
    rename_i h1 h2 h3 h4 h5 h6
    simp only [Bool.not_eq_false] at h1 h2 h3 h4 h5
    refine ⟨h1, h2, h3, fun s hs => by simpa using List.all_eq_true.1 h4 s hs, fun s hs => List.all_eq_true.1 h5 s hs, by omega⟩
  · rintro ⟨h1, h2, h3, h4, h5, h6⟩
    have e4 : (c.sig.all fun s => decide (s ∈ names L)) = true := List.all_eq_true.2 fun s hs => by simpa using h4 s hs
    have e5 : (c.sig.all fun s => signedBy t c.dig T s) = true := List.all_eq_true.2 h5
    simp only [h1, h2, h3, e4, e5, Bool.true_eq_false, if_false]
    rw [if_neg (by omega)]
theorem check1 {t : Int} {L : List M} {c : C} {T : List Sig} (h : isT t = false) : checkP t L c T = 1 := if_pos h
theorem check50 {t : Int} {L : List M} {c : C} {T : List Sig} (h : isT t = true) (h2 : okL L = false) : checkP t L c T = 50 := by
  unfold checkP
  rw [if_neg (by simp [h]), if_pos h2]
theorem check3 {t : Int} {L : List M} {c : C} {T : List Sig} (h : isT t = true) (h2 : okL L = true) (h3 : may c = false) : checkP t L c T = 3 := by
  unfold checkP
  rw [if_neg (by simp [h]), if_neg (by simp [h2]), if_pos h3]
theorem check5 {t : Int} {L : List M} {c : C} {T : List Sig} (h : isT t = true) (h2 : okL L = true) (h3 : may c = true) {s : S} (hs : s ∈ c.sig) (hn : s ∉ names L) : checkP t L c T = 5 := by
  unfold checkP
  rw [if_neg (by simp [h]), if_neg (by simp [h2]), if_neg (by simp [h3]), if_pos]
  rw [List.all_eq_false]
  exact ⟨s, hs, by simpa using hn⟩
theorem check70 {t : Int} {L : List M} {c : C} {T : List Sig} (h : isT t = true) (h2 : okL L = true) (h3 : may c = true) (h4 : ∀ s ∈ c.sig, s ∈ names L) {s : S} (hs : s ∈ c.sig) (hn : signedBy t c.dig T s = false) : checkP t L c T = 70 := by
  unfold checkP
  have e4 : (c.sig.all fun s => decide (s ∈ names L)) = true := List.all_eq_true.2 fun s hs => by simpa using h4 s hs
  rw [if_neg (by simp [h]), if_neg (by simp [h2]), if_neg (by simp [h3]), if_neg (by simp only [e4]; simp), if_pos]
  rw [List.all_eq_false]
  exact ⟨s, hs, by simp [hn]⟩
theorem check71 {t : Int} {L : List M} {c : C} {T : List Sig} (h : isT t = true) (h2 : okL L = true) (h3 : may c = true) (h4 : ∀ s ∈ c.sig, s ∈ names L) (h5 : ∀ s ∈ c.sig, signedBy t c.dig T s = true) : checkP t L c T = if 3 * ofL L c.sig ≤ 2 * tot L then 71 else 0 := by
  unfold checkP
  have e4 : (c.sig.all fun s => decide (s ∈ names L)) = true := List.all_eq_true.2 fun s hs => by simpa using h4 s hs
  have e5 : (c.sig.all fun s => signedBy t c.dig T s) = true := List.all_eq_true.2 h5
  simp only [h, h2, h3, e4, e5, Bool.true_eq_false, if_false]
/-- All who signed. -/
def gatherS (t : Int) (L : List M) (d : S) (T : List Sig) : List S := (names L).filter fun s => signedBy t d T s
def gatherP (t : Int) (L : List M) (d : S) (T : List Sig) : C × Int :=
  if isT t = false then (⟨[], []⟩, 1) else if okL L = false then (⟨[], []⟩, 50) else if d.length ≠ 32 then (⟨[], []⟩, 3) else if 3 * ofL L (gatherS t L d T) ≤ 2 * tot L then (⟨[], []⟩, 71) else (⟨d, gatherS t L d T⟩, 0)
theorem names_pair {L : List M} (h : okL L = true) : (names L).Pairwise (· < ·) := List.pairwise_map.2 (okL_pair h)
theorem gather_may {t : Int} {L : List M} {d : S} {T : List Sig} (hL : okL L = true) (hd : d.length = 32) : may ⟨d, gatherS t L d T⟩ = true := by
  have h1 : (gatherS t L d T).length ≤ 7 := by
    have := (okL_len hL).2
    have h2 := List.length_filter_le (fun s => signedBy t d T s) (names L)
    unfold gatherS
    simp only [names, List.length_map] at h2 ⊢
    omega
  have h2 : okNs (gatherS t L d T) = true := okNs_of (fun s hs => by
    obtain ⟨m, hm, rfl⟩ := names_mem.1 ((List.mem_filter.1 hs).1)
    have := okL_mem hL m hm
    exact ⟨this.1, this.2.1⟩) (List.Pairwise.sublist List.filter_sublist (names_pair hL))
  simp [may, hd, h1, h2]
theorem gather_check {t : Int} {L : List M} {d : S} {T : List Sig} (ht : isT t = true) (hL : okL L = true) (hd : d.length = 32) : checkP t L ⟨d, gatherS t L d T⟩ T = if 3 * ofL L (gatherS t L d T) ≤ 2 * tot L then 71 else 0 := by
  have h1 := gather_may (t := t) (T := T) hL hd
  have e4 : ((gatherS t L d T).all fun s => decide (s ∈ names L)) = true := List.all_eq_true.2 fun s hs => by simpa using (List.mem_filter.1 hs).1
  have e5 : ((gatherS t L d T).all fun s => signedBy t d T s) = true := List.all_eq_true.2 fun s hs => (List.mem_filter.1 hs).2
  unfold checkP
  simp only [ht, hL, h1, e4, e5, Bool.true_eq_false, if_false]
theorem gather_good {t : Int} {L : List M} {d : S} {T : List Sig} (h : (gatherP t L d T).2 = 0) : gatherP t L d T = (⟨d, gatherS t L d T⟩, 0) ∧ checkP t L (gatherP t L d T).1 T = 0 := by
  unfold gatherP at h ⊢
  by_cases h1 : isT t = false
  · rw [if_pos h1] at h; cases h
  rw [if_neg h1] at h ⊢
  by_cases h2 : okL L = false
  · rw [if_pos h2] at h; cases h
  rw [if_neg h2] at h ⊢
  by_cases h3 : d.length ≠ 32
  · rw [if_pos h3] at h; cases h
  rw [if_neg h3] at h ⊢
  by_cases h4 : 3 * ofL L (gatherS t L d T) ≤ 2 * tot L
  · rw [if_pos h4] at h; cases h
  rw [if_neg h4]
  refine ⟨rfl, ?_⟩
  rw [gather_check (by simpa using h1) (by simpa using h2) (by simpa using h3), if_neg h4]
/-- If any certificate of a digest is good, all who signed are told, and have its signers. -/
theorem good_gathers {t : Int} {L : List M} {c : C} {T : List Sig} (h : checkP t L c T = 0) : gatherP t L c.dig T = (⟨c.dig, gatherS t L c.dig T⟩, 0) ∧ (both (gatherS t L c.dig T) c.sig).length = c.sig.length := by
  obtain ⟨h1, h2, h3, h4, h5, h6⟩ := check_good.1 h
  obtain ⟨m1, m2, m3⟩ := may_len h3
  have hs : ∀ s ∈ c.sig, s ∈ gatherS t L c.dig T := fun s hs => List.mem_filter.2 ⟨h4 s hs, h5 s hs⟩
  have hmono := Pw.ofL_mono h2 (A := c.sig) (B := gatherS t L c.dig T) (fun m _ hm => hs m.name hm)
  refine ⟨?_, ?_⟩
  · unfold gatherP
    rw [if_neg (by simp [h1]), if_neg (by simp [h2]), if_neg (by simp [m1]), if_neg (by omega)]
  · have hp : (both (gatherS t L c.dig T) c.sig).Perm c.sig := (List.perm_ext_iff_of_nodup (Pw.both_nodup _ _) (okNs_nodup m3)).2 fun s => by
      rw [Pw.both_mem]
      exact ⟨fun q => q.2, fun q => ⟨hs s q, q⟩⟩
    exact hp.length_eq
/-- Two good ones. -/
theorem two_good {t : Int} {L : List M} {a b : C} {T : List Sig} (ha : checkP t L a T = 0) (hb : checkP t L b T = 0) :
    mos L < ofL L (both a.sig b.sig) ∧ tot L < 3 * ofL L (both a.sig b.sig) ∧ (∀ s ∈ both a.sig b.sig, signedBy t a.dig T s = true ∧ signedBy t b.dig T s = true) := by
  obtain ⟨_, h2, _, _, a5, a6⟩ := check_good.1 ha
  obtain ⟨_, _, _, _, b5, b6⟩ := check_good.1 hb
  have q : ∀ n, 2 * tot L < 3 * n → quo L ≤ n := fun n hn => by unfold quo; split <;> omega
  have := Pw.quorums h2 a.sig b.sig (q _ a6) (q _ b6)
  exact ⟨this.1, this.2, fun s hs => ⟨a5 s ((Pw.both_mem _ _ _).1 hs).1, b5 s ((Pw.both_mem _ _ _).1 hs).2⟩⟩
/-- What is good stays so. -/
theorem more_good {t : Int} {L : List M} {c : C} {T T' : List Sig} (h : checkP t L c T = 0) (hm : ∀ k, (Ora.look T k).isSome = true → (Ora.look T' k).isSome = true) : checkP t L c T' = 0 := by
  obtain ⟨h1, h2, h3, h4, h5, h6⟩ := check_good.1 h
  exact check_good.2 ⟨h1, h2, h3, h4, fun s hs => hm _ (h5 s hs), h6⟩
theorem sign_more {T : List Sig} (hT : Ora.Rising T) (k : Ora.K) (b : Bool) (x : Ora.K) (h : (Ora.look T x).isSome = true) : (Ora.look (Ora.signP T k b).1 x).isSome = true := by
  unfold Ora.signP
  split
  · exact h
  · split
    · exact h
    · split
      · exact h
      · dsimp only
        rw [Ora.look_put hT]
        split
        · rfl
        · exact h
end Go.Proofs.YtojpkodmpjibkaaDoor.Ct
namespace Go.Proofs.YtojpkodmpjibkaaDoor.Nib

def ofL (l : List UInt8) : List UInt8 := l.flatMap fun (b : UInt8) => [b / 16, b % 16]
end Go.Proofs.YtojpkodmpjibkaaDoor.Nib
