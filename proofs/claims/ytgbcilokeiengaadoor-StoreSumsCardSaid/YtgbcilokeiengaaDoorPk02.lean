/- NodeMath, StoreMath, NodeKind, CodeShelf, CodeThere, ReadSt -/
import Derived.Test.YtgbcilokeiengaaDoorPk01
import Derived.Shelf.Strconv.Itoa0
import Derived.Shelf.LaysM
import Derived.Shelf.Strconv.Clone
import Derived.Test.YtgbcilokeiengaaDoorChecked
import Derived.OneCell
import Derived.Lib.Hide
import Derived.WalkSpells
import Derived.WalkLawsBesides
import Derived.Lib.Strings
namespace Go.Proofs.YtgbcilokeiengaaDoor.Nd
open Go.Proofs.YtgbcilokeiengaaDoor.Nib (fitL packL)

abbrev S := List UInt8
/-- A node: its sixteen places in a list. -/
structure N where
  kind : Int
  path : S
  val : S
  kids : List S
  deriving DecidableEq
instance : Inhabited N := ⟨⟨0, [], [], List.replicate 16 []⟩⟩
def zero : N := ⟨0, [], [], List.replicate 16 []⟩
def kidsL (l : List S) : List S := l.filter fun k => decide (k ≠ [])
def all32 (l : List S) : Bool := l.all fun k => decide (k = []) || decide (k.length = 32)
def fine (n : N) : Bool :=
  all32 n.kids && (fitL n.path && (decide (n.path.length ≤ 16) && (decide (n.val.length ≤ 32) &&
  (if n.kind = 1 then decide ((kidsL n.kids).length = 0) && decide (n.val ≠ [])
  else if n.kind = 2 then decide ((kidsL n.kids).length = 1) && (decide (n.kids.getD 0 [] ≠ []) && (decide (1 ≤ n.path.length) && decide (n.val = [])))
  else if n.kind = 3 then decide (n.path.length = 0) && (decide (2 ≤ (kidsL n.kids).length) || (decide ((kidsL n.kids).length = 1) && decide (n.val ≠ [])))
  else false))))
/-- Which of eight places are taken, the highest first. -/
def bits8 (l : List S) : Nat := l.foldl (fun a k => a * 2 + if k = [] then 0 else 1) 0
def byteN (n : Nat) : UInt8 := UInt8.ofNat n
def branchL (n : N) : S := byteN (bits8 (n.kids.take 8)) :: byteN (bits8 (n.kids.drop 8)) :: (n.kids.flatten ++ Code.textL n.val)
def written (n : N) : S :=
  UInt8.ofNat (n.kind % 256).toNat :: (if n.kind = 3 then branchL n else Code.textL (packL n.path (decide (n.kind = 1))) ++ (if n.kind = 1 then Code.textL n.val else n.kids.getD 0 []))

/-! ### what the sixteen bits say -/
def bitAt (b i : Nat) : Bool := decide (b / 2 ^ (7 - i) % 2 = 1)
theorem bits8_eq (a b c d e f g h : S) : bits8 [a, b, c, d, e, f, g, h] = (((((((if a = [] then 0 else 1) * 2 + (if b = [] then 0 else 1)) * 2 + (if c = [] then 0 else 1)) * 2 + (if d = [] then 0 else 1)) * 2 + (if e = [] then 0 else 1)) * 2 + (if f = [] then 0 else 1)) * 2 + (if g = [] then 0 else 1)) * 2 + (if h = [] then 0 else 1) := by
  simp [bits8]
def num8 (a b c d e f g h : Bool) : Nat := (((((((a.toNat * 2 + b.toNat) * 2 + c.toNat) * 2 + d.toNat) * 2 + e.toNat) * 2 + f.toNat) * 2 + g.toNat) * 2 + h.toNat)
theorem num8_bits : ∀ a b c d e f g h : Bool, num8 a b c d e f g h < 256 ∧ bitAt (num8 a b c d e f g h) 0 = a ∧ bitAt (num8 a b c d e f g h) 1 = b ∧ bitAt (num8 a b c d e f g h) 2 = c ∧ bitAt (num8 a b c d e f g h) 3 = d ∧ bitAt (num8 a b c d e f g h) 4 = e ∧ bitAt (num8 a b c d e f g h) 5 = f ∧ bitAt (num8 a b c d e f g h) 6 = g ∧ bitAt (num8 a b c d e f g h) 7 = h := by
  decide +kernel
theorem num8_back : ∀ n : Fin 256, num8 (bitAt n.val 0) (bitAt n.val 1) (bitAt n.val 2) (bitAt n.val 3) (bitAt n.val 4) (bitAt n.val 5) (bitAt n.val 6) (bitAt n.val 7) = n.val := by
  decide +kernel
theorem bits8_num (l : List S) (h : l.length = 8) : bits8 l = num8 (decide (l[0] ≠ [])) (decide (l[1] ≠ [])) (decide (l[2] ≠ [])) (decide (l[3] ≠ [])) (decide (l[4] ≠ [])) (decide (l[5] ≠ [])) (decide (l[6] ≠ [])) (decide (l[7] ≠ [])) := by
  match l, h with
  | [a, b, c, d, e, f, g, i], _ =>
    rw [bits8_eq]
    have key : ∀ x : S, (if x = [] then 0 else 1) = (decide (x ≠ [])).toNat := fun x => by by_cases hx : x = [] <;> simp [hx]
    simp only [key, num8]
    rfl
theorem bits8_lt (l : List S) (h : l.length = 8) : bits8 l < 256 := by
  rw [bits8_num l h]
  exact (num8_bits ..).1
theorem bits8_at (l : List S) (h : l.length = 8) (i : Nat) (hi : i < 8) : bitAt (bits8 l) i = decide (l[i] ≠ []) := by
  rw [bits8_num l h]
  obtain ⟨_, h0, h1, h2, h3, h4, h5, h6, h7⟩ := num8_bits (decide (l[0] ≠ [])) (decide (l[1] ≠ [])) (decide (l[2] ≠ [])) (decide (l[3] ≠ [])) (decide (l[4] ≠ [])) (decide (l[5] ≠ [])) (decide (l[6] ≠ [])) (decide (l[7] ≠ []))
  match i, hi with
  | 0, _ => exact h0
  | 1, _ => exact h1
  | 2, _ => exact h2
  | 3, _ => exact h3
  | 4, _ => exact h4
  | 5, _ => exact h5
  | 6, _ => exact h6
  | 7, _ => exact h7
theorem bits8_back (l : List S) (h : l.length = 8) (b : UInt8) (hb : ∀ i (hi : i < 8), decide (l[i] ≠ []) = bitAt b.toNat i) : bits8 l = b.toNat := by
  rw [bits8_num l h, hb 0 (by omega), hb 1 (by omega), hb 2 (by omega), hb 3 (by omega), hb 4 (by omega), hb 5 (by omega), hb 6 (by omega), hb 7 (by omega)]
  exact num8_back ⟨b.toNat, b.toNat_lt⟩

/-! ### reading a node's bytes -/
/-- The bytes that are left, and what was wrong first. -/
abbrev St := S × Int
def rdB (n : Nat) (st : St) : S × St := if st.2 ≠ 0 then ([], st) else if st.1.length < n then ([], st.1, 20) else (st.1.take n, st.1.drop n, 0)
theorem rdB_app (a r : S) (n : Nat) (h : a.length = n) : rdB n (a ++ r, 0) = (a, r, 0) := by
  subst h
  simp [rdB]
theorem rdB_ok {n : Nat} {st : St} (h : (rdB n st).2.2 = 0) : st.2 = 0 ∧ st.1 = (rdB n st).1 ++ (rdB n st).2.1 ∧ (rdB n st).1.length = n := by
  unfold rdB at h ⊢
  split at h
  · rename_i hc; exact absurd h hc
  · rename_i hc
    rw [if_neg hc]
    split at h
    · cases h
    · rename_i hl
      rw [if_neg hl]
      simp only [ne_eq, Decidable.not_not] at hc
      exact ⟨hc, by simp, by simp; omega⟩
/-- The sixteen places, one by one. -/
def rdKids (b : Nat → Bool) : Nat → St → List S × St
  | 0, st => ([], st)
  | k + 1, st =>
    let p := rdKids b k st
    if b k then (p.1 ++ [(rdB 32 p.2).1], (rdB 32 p.2).2) else (p.1 ++ [[]], p.2)
theorem rdKids_len (b : Nat → Bool) (k : Nat) (st : St) : (rdKids b k st).1.length = k := by
  induction k with
  | zero => rfl
  | succ k ih =>
    simp only [rdKids]
    split <;> simp [ih]
theorem rdKids_app (l : List S) (h : all32 l = true) (b : Nat → Bool) (k : Nat) (hk : k ≤ l.length) (hb : ∀ i (hi : i < k), b i = decide (l[i]'(by omega) ≠ [])) (r : S) : rdKids b k ((l.take k).flatten ++ r, 0) = (l.take k, r, 0) := by
  induction k generalizing r with
  | zero => simp [rdKids]
  | succ k ih =>
    have hlt : k < l.length := by omega
    have h1 := List.take_succ_eq_append_getElem hlt
    have h2 : ∀ r, rdKids b k ((l.take k).flatten ++ r, 0) = (l.take k, r, 0) := fun r => ih (by omega) (fun i hi => hb i (by omega)) r
    have h3 : l[k] = [] ∨ l[k].length = 32 := by
      have := List.all_eq_true.1 h l[k] (List.getElem_mem hlt)
      simpa using this
    simp only [rdKids]
    rw [h1, List.flatten_append, List.append_assoc, h2, hb k (Nat.lt_succ_self k)]
    by_cases he : l[k] = []
    · simp [he]
    · have h4 := h3.resolve_left he
      rw [if_pos (by simpa using he)]
      have h5 := rdB_app l[k] r 32 h4
      simp only [List.flatten_cons, List.flatten_nil, List.append_nil]
      rw [h5]
theorem rdKids_ok (b : Nat → Bool) (k : Nat) (st : St) (h : (rdKids b k st).2.2 = 0) : st.2 = 0 ∧ st.1 = (rdKids b k st).1.flatten ++ (rdKids b k st).2.1 ∧ all32 (rdKids b k st).1 = true ∧ ∀ i (hi : i < k), b i = decide ((rdKids b k st).1[i]'(by rw [rdKids_len]; exact hi) ≠ []) := by
  induction k with
  | zero => exact ⟨h, by simp [rdKids], rfl, fun i hi => absurd hi (by omega)⟩
  | succ k ih =>
    have hl := rdKids_len b k st
    by_cases hb : b k = true
    · have e : rdKids b (k + 1) st = ((rdKids b k st).1 ++ [(rdB 32 (rdKids b k st).2).1], (rdB 32 (rdKids b k st).2).2) := by simp [rdKids, hb]
      simp only [e] at h ⊢
      obtain ⟨h1, h2, h3⟩ := rdB_ok h
      obtain ⟨i1, i2, i3, i4⟩ := ih h1
      refine ⟨i1, ?_, ?_, ?_⟩
      · rw [i2]
        simp only [List.flatten_append, List.flatten_cons, List.flatten_nil, List.append_nil, List.append_assoc]
        rw [← h2]
      · simp only [all32, List.all_append, Bool.and_eq_true] at i3 ⊢
        exact ⟨i3, by simp [h3]⟩
      · intro i hi
        by_cases hik : i < k
        · rw [List.getElem_append_left (by omega)]
          exact i4 i hik
        · obtain rfl : i = k := by omega
          rw [List.getElem_append_right (by omega)]
          have : (rdB 32 (rdKids b i st).2).1 ≠ [] := fun q => by rw [q] at h3; simp at h3
          simp [hb, this]
    · have hbf : b k = false := by simpa using hb
      have e : rdKids b (k + 1) st = ((rdKids b k st).1 ++ [[]], (rdKids b k st).2) := by simp [rdKids, hbf]
      simp only [e] at h ⊢
      obtain ⟨i1, i2, i3, i4⟩ := ih h
      refine ⟨i1, by rw [i2]; simp, ?_, ?_⟩
      · simp only [all32, List.all_append, Bool.and_eq_true] at i3 ⊢
        exact ⟨i3, by simp⟩
      · intro i hi
        by_cases hik : i < k
        · rw [List.getElem_append_left (by omega)]
          exact i4 i hik
        · obtain rfl : i = k := by omega
          rw [List.getElem_append_right (by omega)]
          simp [hbf, hl]
end Go.Proofs.YtgbcilokeiengaaDoor.Nd
namespace Go.Proofs.YtgbcilokeiengaaDoor.Sto
def On (m : List Bool) (j : Nat) : Prop := m[j]? = some true
instance (m : List Bool) (j : Nat) : Decidable (On m j) := inferInstanceAs (Decidable (m[j]? = some true))
def mark (m : List Bool) (ks : List Nat) : List Bool := ks.foldl (fun m k => m.set k true) m
def pass1 (K : Nat → List Nat) (m : List Bool) (i : Nat) : List Bool := if On m i then mark m (K i) else m
def pass (K : Nat → List Nat) (l : List Nat) (m : List Bool) : List Bool := l.foldl (pass1 K) m
def rounds (K : Nat → List Nat) (l : List Nat) : Nat → List Bool → List Bool
  | 0, m => m
  | t + 1, m => rounds K l t (pass K l m)
inductive Rch (K : Nat → List Nat) (p : Nat → Prop) : Nat → Prop
  | here {i} : p i → Rch K p i
  | step {i k} : Rch K p i → k ∈ K i → Rch K p k

theorem On.lt {m : List Bool} {j : Nat} (h : On m j) : j < m.length := by
  unfold On at h
  exact (List.getElem?_eq_some_iff.1 h).1
theorem set_on (m : List Bool) (k j : Nat) : On (m.set k true) j ↔ On m j ∨ (j = k ∧ j < m.length) := by
  unfold On
  rw [List.getElem?_set]
  by_cases h : k = j
  · subst h
    by_cases hl : k < m.length
    · simp [hl]
    · simp [hl]
  · have : ¬ j = k := fun e => h e.symm
    simp [h, this]
theorem mark_len (ks : List Nat) : ∀ m : List Bool, (mark m ks).length = m.length := by
  induction ks with
  | nil => intro m; rfl
  | cons k r ih => intro m; show (mark (m.set k true) r).length = _; rw [ih]; simp
theorem mark_on (ks : List Nat) : ∀ (m : List Bool) (j : Nat), On (mark m ks) j ↔ On m j ∨ (j ∈ ks ∧ j < m.length) := by
  induction ks with
  | nil => intro m j; simp [mark]
  | cons k r ih =>
    intro m j
    show On (mark (m.set k true) r) j ↔ _
    rw [ih, set_on, List.length_set, List.mem_cons]
    constructor
    · rintro ((h | ⟨h, hl⟩) | ⟨h, hl⟩)
      · exact .inl h
      · exact .inr ⟨.inl h, hl⟩
      · exact .inr ⟨.inr h, hl⟩
    · rintro (h | ⟨h | h, hl⟩)
      · exact .inl (.inl h)
      · exact .inl (.inr ⟨h, hl⟩)
      · exact .inr ⟨h, hl⟩
def Le (m m' : List Bool) : Prop := m.length = m'.length ∧ ∀ j, On m j → On m' j
theorem Le.refl (m : List Bool) : Le m m := ⟨rfl, fun _ h => h⟩
theorem Le.trans {a b c : List Bool} (h : Le a b) (g : Le b c) : Le a c := ⟨h.1.trans g.1, fun j x => g.2 j (h.2 j x)⟩
theorem pass1_le (K : Nat → List Nat) (m : List Bool) (i : Nat) : Le m (pass1 K m i) := by
  unfold pass1
  split
  · exact ⟨(mark_len _ _).symm, fun j h => (mark_on _ _ _).2 (.inl h)⟩
  · exact Le.refl m
theorem pass_le (K : Nat → List Nat) (l : List Nat) : ∀ m, Le m (pass K l m) := by
  induction l with
  | nil => intro m; exact Le.refl m
  | cons i r ih => intro m; exact (pass1_le K m i).trans (ih _)
theorem rounds_le (K : Nat → List Nat) (l : List Nat) : ∀ t m, Le m (rounds K l t m) := by
  intro t
  induction t with
  | zero => intro m; exact Le.refl m
  | succ t ih => intro m; exact (pass_le K l m).trans (ih _)
theorem pass1_sound (K : Nat → List Nat) (p : Nat → Prop) (m : List Bool) (i : Nat) (h : ∀ j, On m j → Rch K p j) : ∀ j, On (pass1 K m i) j → Rch K p j := by
  intro j hj
  unfold pass1 at hj
  split at hj
  · rcases (mark_on _ _ _).1 hj with hj | ⟨hj, -⟩
    · exact h j hj
    · exact .step (h i ‹_›) hj
  · exact h j hj
theorem pass_sound (K : Nat → List Nat) (p : Nat → Prop) (l : List Nat) : ∀ m : List Bool, (∀ j, On m j → Rch K p j) → ∀ j, On (pass K l m) j → Rch K p j := by
  induction l with
  | nil => intro m h; exact h
  | cons i r ih => intro m h; exact ih _ (pass1_sound K p m i h)
theorem rounds_sound (K : Nat → List Nat) (p : Nat → Prop) (l : List Nat) : ∀ (t : Nat) (m : List Bool), (∀ j, On m j → Rch K p j) → ∀ j, On (rounds K l t m) j → Rch K p j := by
  intro t
  induction t with
  | zero => intro m h; exact h
  | succ t ih => intro m h; exact ih _ (pass_sound K p l m h)
/-- What a pass leaves as it was is closed. -/
def Closed (K : Nat → List Nat) (l : List Nat) (m : List Bool) : Prop := ∀ i ∈ l, On m i → ∀ k ∈ K i, k < m.length → On m k
theorem pass_closed (K : Nat → List Nat) (l : List Nat) : ∀ m : List Bool, Closed K l m → Le (pass K l m) m := by
  induction l with
  | nil => intro m _; exact Le.refl m
  | cons i r ih =>
    intro m h
    have e : Le (pass1 K m i) m := by
      unfold pass1
      split
      · rename_i hi
        refine ⟨mark_len _ _, fun j hj => ?_⟩
        rcases (mark_on _ _ _).1 hj with hj | ⟨hj, hl⟩
        · exact hj
        · exact h i (by simp) hi j hj hl
      · exact Le.refl m
    have c : Closed K r (pass1 K m i) := fun a ha hon k hk hl => by
      have := h a (by simp [ha]) (e.2 a hon) k hk (by rw [← e.1]; exact hl)
      exact (pass1_le K m i).2 k this
    exact (ih _ c).trans e
theorem closed_of_pass (K : Nat → List Nat) (l : List Nat) : ∀ m m0 : List Bool, Le m0 m → Le (pass K l m) m0 → Closed K l m0 := by
  induction l with
  | nil => intro m m0 _ _ i hi; simp at hi
  | cons a r ih =>
    intro m m0 h0 h i hi hon k hk hl
    rcases List.mem_cons.1 hi with rfl | hi
    · have hp : On (pass1 K m i) k := by
        unfold pass1
        rw [if_pos (h0.2 i hon)]
        exact (mark_on _ _ _).2 (.inr ⟨hk, by rw [← h0.1]; exact hl⟩)
      exact h.2 k ((pass_le K r (pass1 K m i)).2 k hp)
    · exact ih (pass1 K m a) m0 (h0.trans (pass1_le K m a)) h i hi hon k hk hl
def ons (m : List Bool) : Nat := m.countP id
theorem ons_le_of : ∀ m m' : List Bool, Le m m' → ons m ≤ ons m' := by
  intro m
  induction m with
  | nil => intro m' h; simp [ons]
  | cons a r ih =>
    intro m' h
    cases m' with
    | nil => simp [Le] at h
    | cons b q =>
      have hr : Le r q := ⟨by have := h.1; simpa using this, fun j hj => by have := h.2 (j + 1); simpa [On] using this (by simpa [On] using hj)⟩
      have := ih q hr
      have hab : a = true → b = true := fun e => by have := h.2 0; simpa [On, e] using this
      cases a <;> cases b <;> simp [ons] at * <;> omega
theorem le_of_ons : ∀ m m' : List Bool, Le m m' → ons m' ≤ ons m → Le m' m := by
  intro m
  induction m with
  | nil => intro m' h _; cases m' with
    | nil => exact Le.refl _
    | cons b q => simp [Le] at h
  | cons a r ih =>
    intro m' h hc
    cases m' with
    | nil => simp [Le] at h
    | cons b q =>
      have hr : Le r q := ⟨by have := h.1; simpa using this, fun j hj => by have := h.2 (j + 1); simpa [On] using this (by simpa [On] using hj)⟩
      have hle := ons_le_of r q hr
      have hab : a = true → b = true := fun e => by have := h.2 0; simpa [On, e] using this
      have key : b = a ∧ ons q ≤ ons r := by
        cases a <;> cases b <;> simp [ons] at * <;> omega
      obtain ⟨rfl, hq⟩ := key
      have hb := ih q hr hq
      refine ⟨h.1.symm, fun j hj => ?_⟩
      cases j with
      | zero => simpa [On] using hj
      | succ j => have := hb.2 j; simpa [On] using this (by simpa [On] using hj)
theorem ons_le_len (m : List Bool) : ons m ≤ m.length := List.countP_le_length
theorem all_on (m : List Bool) (h : m.length ≤ ons m) (j : Nat) (hj : j < m.length) : On m j := by
  have e : ons m = m.length := Nat.le_antisymm (ons_le_len m) h
  have := (List.countP_eq_length.1 e) m[j] (List.getElem_mem hj)
  unfold On
  rw [List.getElem?_eq_getElem hj]
  simpa using this
theorem rounds_closed (K : Nat → List Nat) (l : List Nat) : ∀ (t : Nat) (m : List Bool), m.length ≤ ons m + t → Closed K l (rounds K l t m) := by
  intro t
  induction t with
  | zero => intro m h i _ _ k _ hl; exact all_on m h k hl
  | succ t ih =>
    intro m h
    by_cases hc : ons m < ons (pass K l m)
    · refine ih _ ?_
      rw [← (pass_le K l m).1]
      omega
    · have hback := le_of_ons m _ (pass_le K l m) (by omega)
      have hcl : Closed K l m := closed_of_pass K l m m (Le.refl m) hback
      -- closed stays
      have stay : ∀ t (m' : List Bool), Le m m' → Le m' m → Le (rounds K l t m') m := by
        intro t
        induction t with
        | zero => intro m' _ h'; exact h'
        | succ t iht =>
          intro m' h1 h2
          have c' : Closed K l m' := fun a ha hon k hk hl' => h1.2 k (hcl a ha (h2.2 a hon) k hk (by rw [h1.1]; exact hl'))
          exact iht _ (h1.trans (pass_le K l m')) ((pass_closed K l m' c').trans h2)
      have hs := stay (t + 1) m (Le.refl m) (Le.refl m)
      have hle := rounds_le K l (t + 1) m
      intro a ha hon k hk hl'
      exact hle.2 k (hcl a ha (hs.2 a hon) k hk (by rw [hle.1]; exact hl'))
/-- As many rounds as there are places: just what is reached is marked. -/
theorem rounds_reach (K : Nat → List Nat) (n : Nat) (m : List Bool) (hm : m.length = n) (hK : ∀ i k, k ∈ K i → k < n) (j : Nat) :
    On (rounds K (List.range n) n m) j ↔ Rch K (On m) j := by
  have hlen : (rounds K (List.range n) n m).length = n := by rw [← (rounds_le K (List.range n) n m).1, hm]
  constructor
  · exact rounds_sound K (On m) _ n m (fun j h => .here h) j
  · intro h
    induction h with
    | here h => exact (rounds_le K _ n m).2 _ h
    | step _ hk ih =>
      refine rounds_closed K (List.range n) n m (by omega) _ (List.mem_range.2 ?_) ih _ hk (by rw [hlen]; exact hK _ _ hk)
      have := ih.lt
      omega
end Go.Proofs.YtgbcilokeiengaaDoor.Sto
namespace Go.Proofs.YtgbcilokeiengaaDoor
open Go.Proofs.YtgbcilokeiengaaDoor.Nd (N)
def Nd.pathB (p : List UInt8) : Bool := decide (p.length ≤ 16) && Nib.fitL p
def Nd.none16 : List (List UInt8) := List.replicate 16 []
def Nd.leafB (n : N) : Bool := Nd.pathB n.path && (decide (n.val ≠ []) && (decide (n.val.length ≤ 32) && (n.kids == Nd.none16)))
def Nd.extB (n : N) : Bool := decide (n.path ≠ []) && (Nd.pathB n.path && (decide (n.val = []) && (decide ((n.kids.getD 0 []).length = 32) && (n.kids.set 0 [] == Nd.none16))))
def Nd.branchB (n : N) : Bool := decide (n.path = []) && (decide (n.val.length ≤ 32) && (Nd.all32 n.kids && decide (2 ≤ (if n.val = [] then 0 else 1) + (Nd.kidsL n.kids).length)))
theorem Nd.all32_take (l : List (List UInt8)) (k : Nat) (hk : k < l.length) : Nd.all32 (l.take (k + 1)) = (Nd.all32 (l.take k) && (decide (l[k] = []) || decide (l[k].length = 32))) := by
  unfold Nd.all32
  rw [List.take_succ_eq_append_getElem hk, List.all_append]
  simp
def Nd.takenL (L : List (List UInt8)) : List UInt8 := [Nd.byteN (Nd.bits8 (L.take 8)), Nd.byteN (Nd.bits8 (L.drop 8))]
theorem Nd.kidsL_nil (l : List (List UInt8)) : Nd.kidsL l = [] ↔ l = List.replicate l.length [] := by
  unfold Nd.kidsL
  rw [List.filter_eq_nil_iff, List.eq_replicate_iff]
  simp
theorem Nd.all32_none (k : Nat) : Nd.all32 (List.replicate k []) = true := by
  simp [Nd.all32]
theorem Nd.all32_cons (x : List UInt8) (l : List (List UInt8)) : Nd.all32 (x :: l) = ((decide (x = []) || decide (x.length = 32)) && Nd.all32 l) := rfl
theorem Nd.kidsL_cons (x : List UInt8) (l : List (List UInt8)) : Nd.kidsL (x :: l) = if x = [] then Nd.kidsL l else x :: Nd.kidsL l := by
  unfold Nd.kidsL
  by_cases h : x = [] <;> simp [h]
theorem Nd.fine_kinds (n : N) (hn : n.kids.length = 16) : Nd.fine n = if n.kind = 1 then Nd.leafB n else if n.kind = 2 then Nd.extB n else if n.kind = 3 then Nd.branchB n else false := by
  obtain ⟨kd, p, v, ks⟩ := n
  simp only at hn
  by_cases k1 : kd = 1
  · subst k1
    rw [if_pos rfl, Bool.eq_iff_iff]
    have h0 := Nd.kidsL_nil ks
    rw [hn] at h0
    simp only [Nd.fine, Nd.leafB, Nd.pathB, Nd.none16, if_pos, Bool.and_eq_true, decide_eq_true_eq, List.length_eq_zero_iff, beq_iff_eq, h0]
    constructor
    · rintro ⟨-, a, b, c, d, e⟩
      exact ⟨⟨b, a⟩, e, c, d⟩
    · rintro ⟨⟨b, a⟩, e, c, d⟩
      exact ⟨by rw [d]; exact Nd.all32_none 16, a, b, c, d, e⟩
  rw [if_neg k1]
  by_cases k2 : kd = 2
  · subst k2
    rw [if_pos rfl, Bool.eq_iff_iff]
    match ks, hn with
    | z :: l, hn =>
      have hl : l.length = 15 := by simpa using hn
      have h0 := Nd.kidsL_nil l
      rw [hl] at h0
      have h1 : ((z :: l).set 0 [] = Nd.none16) ↔ l = List.replicate 15 [] := by
        simp [Nd.none16, List.replicate_succ]
      simp only [Nd.fine, Nd.extB, Nd.pathB, if_neg (show ¬ (2 : Int) = 1 by decide), if_pos, Bool.and_eq_true, decide_eq_true_eq, beq_iff_eq, h1, Nd.all32_cons, Nd.kidsL_cons, List.getD_cons_zero, Bool.or_eq_true]
      constructor
      · rintro ⟨⟨a1, a2⟩, b, c, d, e, f, g, h⟩
        rw [if_neg f, List.length_cons] at e
        have e0 : Nd.kidsL l = [] := List.eq_nil_of_length_eq_zero (by omega)
        exact ⟨fun q => by rw [q] at g; simp at g, ⟨c, b⟩, h, a1.resolve_left f, h0.1 e0⟩
      · rintro ⟨a, ⟨c, b⟩, h, d, e⟩
        have hz : z ≠ [] := fun q => by rw [q] at d; simp at d
        refine ⟨⟨Or.inr d, by rw [e]; exact Nd.all32_none 15⟩, b, c, by rw [h]; simp, ?_, hz, ?_, h⟩
        · rw [if_neg hz, h0.2 e]; rfl
        · cases p with
          | nil => exact absurd rfl a
          | cons x y => simp
  rw [if_neg k2]
  by_cases k3 : kd = 3
  · subst k3
    rw [if_pos rfl, Bool.eq_iff_iff]
    simp only [Nd.fine, Nd.branchB, if_neg (show ¬ (3 : Int) = 1 by decide), if_neg (show ¬ (3 : Int) = 2 by decide), if_pos, Bool.and_eq_true, decide_eq_true_eq, Bool.or_eq_true]
    constructor
    · rintro ⟨a, b, c, d, e, f⟩
      refine ⟨List.eq_nil_of_length_eq_zero e, d, a, ?_⟩
      by_cases hv : v = []
      · rw [if_pos hv]
        rcases f with f | f
        · omega
        · exact absurd hv f.2
      · rw [if_neg hv]
        omega
    · rintro ⟨a, b, c, d⟩
      subst a
      refine ⟨c, rfl, Nat.zero_le _, b, rfl, ?_⟩
      by_cases hv : v = []
      · rw [if_pos hv] at d
        exact Or.inl (by omega)
      · rw [if_neg hv] at d
        by_cases h2 : 2 ≤ (Nd.kidsL ks).length
        · exact Or.inl h2
        · exact Or.inr ⟨by omega, hv⟩
  rw [if_neg k3]
  simp [Nd.fine, k1, k2, k3]
end Go.Proofs.YtgbcilokeiengaaDoor
namespace Go.Proofs.YtgbcilokeiengaaDoor
open Go.Shelf Go.RowKit
def ren316 : Go.Shelf.Ren := ⟨fun | 316 => 32 | n => n, fun | 9 => 9 | 3 => 3 | 4 => 4 | 37 => 65 | 0 => 0 | 127 => 93 | 5 => 5 | n => n, fun | n => n⟩
theorem lays316 : Go.Proofs.LaysM.n316 Tryd.prog ren316 := {
  mixed := by kernel_rfl
  f316 := Tryd.func32.trans (congrArg some (by kernel_rfl))
  t0 := Tryd.underlying0
  a0 := Tryd.isAgg0
  z0 := Tryd.sizeOf0
  v0 := Tryd.zeroValue0
  t3 := Tryd.underlying3
  a3 := Tryd.isAgg3
  z3 := Tryd.sizeOf3
  v3 := Tryd.zeroValue3
  t4 := Tryd.underlying4
  a4 := Tryd.isAgg4
  z4 := Tryd.sizeOf4
  v4 := Tryd.zeroValue4
  t9 := Tryd.underlying9
  a9 := Tryd.isAgg9
  z9 := Tryd.sizeOf9
  v9 := Tryd.zeroValue9
  t37 := Tryd.underlying65
  a37 := Tryd.isAgg65
  z37 := Tryd.sizeOf65
  v37 := Tryd.zeroValue65
  t127 := Tryd.underlying93
  a127 := Tryd.isAgg93
  z127 := Tryd.sizeOf93
  v127 := Tryd.zeroValue93
  t5 := Tryd.underlying5
  a5 := Tryd.isAgg5
  z5 := Tryd.sizeOf5
  v5 := Tryd.zeroValue5
  i0 := by kernel_rfl
  i3 := by kernel_rfl
  i4 := by kernel_rfl
  i5 := by kernel_rfl
  i9 := by kernel_rfl
  i37 := by kernel_rfl
  i127 := by kernel_rfl }
theorem shelf_clone (s : ByteArray) (w : World) (hlim : s.size ≤ 281474976710656) :
    Calls Tryd.prog 32 #[.string s] w fun e w' => e = .returned (.string s) ∧ Below w.heap.size w w' := Any.stringslite_Clone lays316 s w hlim

end Go.Proofs.YtgbcilokeiengaaDoor
namespace Go.Proofs.YtgbcilokeiengaaDoor
open Go.RowKit

def Rd (w : World) (g : Nat) (s : List UInt8) (c : Int) : Prop := w.heap[g]? = some (.cells #[.string ⟨s.toArray⟩, .int .i64 c] 99 (0, 0))
theorem Rd.lt {w : World} {g : Nat} {s : List UInt8} {c : Int} (h : Rd w g s c) : g < w.heap.size := lt_of_block h
theorem Rd.left {w : World} {g : Nat} {s : List UInt8} {c : Int} (h : Rd w g s c) : w.cell? ⟨g, 0, none⟩ = some (.string ⟨s.toArray⟩) := by unfold Rd at h; simp [World.cell?, h]
theorem Rd.code {w : World} {g : Nat} {s : List UInt8} {c : Int} (h : Rd w g s c) : w.cell? ⟨g, 1, none⟩ = some (.int .i64 c) := by unfold Rd at h; simp [World.cell?, h]
theorem Rd.free0 {w : World} {g : Nat} {s : List UInt8} {c : Int} (h : Rd w g s c) : w.frozen? ⟨g, 0, none⟩ = false := by unfold Rd at h; simp [World.frozen?, h]
theorem Rd.free1 {w : World} {g : Nat} {s : List UInt8} {c : Int} (h : Rd w g s c) : w.frozen? ⟨g, 1, none⟩ = false := by unfold Rd at h; simp [World.frozen?, h]
theorem Rd.setLeft {w : World} {g : Nat} {s : List UInt8} {c : Int} (h : Rd w g s c) (t : List UInt8) : Rd (w.setCell ⟨g, 0, none⟩ (.string ⟨t.toArray⟩)) g t c := by
  have hlt := h.lt
  unfold Rd at h
  have h' : w.heap[g] = .cells #[.string ⟨s.toArray⟩, .int .i64 c] 99 (0, 0) := by simpa [Array.getElem?_eq_getElem hlt] using h
  show (w.heap.modify g _)[g]? = _
  rw [Array.getElem?_eq_getElem (by simpa using hlt), Array.getElem_modify_self, h']
  rfl
theorem Rd.setCode {w : World} {g : Nat} {s : List UInt8} {c : Int} (h : Rd w g s c) (d : Int) : Rd (w.setCell ⟨g, 1, none⟩ (.int .i64 d)) g s d := by
  have hlt := h.lt
  unfold Rd at h
  have h' : w.heap[g] = .cells #[.string ⟨s.toArray⟩, .int .i64 c] 99 (0, 0) := by simpa [Array.getElem?_eq_getElem hlt] using h
  show (w.heap.modify g _)[g]? = _
  rw [Array.getElem?_eq_getElem (by simpa using hlt), Array.getElem_modify_self, h']
  rfl
theorem Rd.new (w : World) (s : List UInt8) (c : Int) : Rd (w.alloc (.cells #[.string ⟨s.toArray⟩, .int .i64 c] 99)) w.heap.size s c := heap_alloc_new w _

theorem Rd.below {w w' : World} {g : Nat} {s : List UInt8} {c : Int} (h : Rd w g s c) (hb : Below w.heap.size w w') : Rd w' g s c := (hb.block g h.lt).trans h

end Go.Proofs.YtgbcilokeiengaaDoor
namespace Go.Proofs.YtgbcilokeiengaaDoor
open Go.RowKit

theorem read_any (s : List UInt8) (w : World) :
    Calls Tryd.prog 40 #[.string ⟨s.toArray⟩] w fun e w' => e = .returned (.pointer (some ⟨w.heap.size, 0, none⟩)) ∧ Rd w' w.heap.size s 0 ∧ Below w.heap.size w w' := by
  go_enter Tryd.func40, Tryd.ntmps40
  go_wp2
  go_ret
  exact ⟨rfl, Rd.new w s 0, (Below.refl _ w).alloc (Nat.le_refl _) _⟩
theorem i64_or_nat (a b : Nat) (ha : a < 9223372036854775808) (hb : b < 9223372036854775808) : bits .or .i64 (a : Int) (b : Int) = ((a ||| b : Nat) : Int) := by
  have hx : a ||| b < 2 ^ 63 := Nat.or_lt_two_pow (by omega) (by omega)
  show IntKind.i64.wrap ((BitVec.ofInt 64 (a : Int) ||| BitVec.ofInt 64 (b : Int)).toNat : Int) = _
  rw [BitVec.toNat_or, BitVec.ofInt_natCast, BitVec.toNat_ofNat, BitVec.ofInt_natCast, BitVec.toNat_ofNat, Nat.mod_eq_of_lt (by omega), Nat.mod_eq_of_lt (by omega)]
  simp only [IntKind.wrap, IntKind.bits, IntKind.signed]
  simp
  omega
theorem or_low (a b : Nat) (hb : b < 256) : a * 256 ||| b = a * 256 + b := by
  have := Nat.two_pow_add_eq_or_of_lt (i := 8) (b := b) (by omega) a
  rw [Nat.mul_comm] at this
  exact this.symm

set_option maxHeartbeats 400000 in
theorem lead_nil (w : World) : Calls Tryd.prog 64 #[.string ⟨#[]⟩] w fun e w' => e = .returned (.tuple #[.int .i64 0, .int .i64 0, .int .i64 20]) ∧ w' = w := by
  go_enter Tryd.func64, Tryd.ntmps64
  go_wp2
  go_ret3
  exact ⟨rfl, rfl⟩
set_option maxHeartbeats 400000 in
theorem lead_big (c : UInt8) (r : List UInt8) (w : World) (hc : c.toNat > 8) : Calls Tryd.prog 64 #[.string ⟨(c :: r).toArray⟩] w fun e w' => e = .returned (.tuple #[.int .i64 0, .int .i64 0, .int .i64 3]) ∧ w' = w := by
  have hh : ∀ h, (⟨(c :: r).toArray⟩ : ByteArray)[0]'h = c := fun _ => rfl
  have hcb := c.toNat_lt
  have hc1 : (c.toNat : Int) > 8 := by omega
  clear hc
  go_enter Tryd.func64, Tryd.ntmps64
  go_wp2
  go_ret3
  exact ⟨rfl, rfl⟩
set_option maxHeartbeats 400000 in
theorem lead_short (c : UInt8) (r : List UInt8) (w : World) (hc : c.toNat ≤ 8) (hr : r.length < c.toNat) (hl : r.length ≤ 100000000) : Calls Tryd.prog 64 #[.string ⟨(c :: r).toArray⟩] w fun e w' => e = .returned (.tuple #[.int .i64 0, .int .i64 0, .int .i64 20]) ∧ w' = w := by
  have hh : ∀ h, (⟨(c :: r).toArray⟩ : ByteArray)[0]'h = c := fun _ => rfl
  have hc1 : ¬ ((c.toNat : Int) > 8) := by omega
  have hc2 : (r.length : Int) < (c.toNat : Int) := by omega
  go_enter Tryd.func64, Tryd.ntmps64
  go_wp2
  go_ret3
  exact ⟨rfl, rfl⟩
set_option maxHeartbeats 400000 in
theorem lead_zero (r : List UInt8) (w : World) (hl : r.length ≤ 100000000) : Calls Tryd.prog 64 #[.string ⟨((0 : UInt8) :: r).toArray⟩] w fun e w' => e = .returned (.tuple #[.int .i64 0, .int .i64 1, .int .i64 0]) ∧ w' = w := by
  have hh : ∀ h, (⟨((0 : UInt8) :: r).toArray⟩ : ByteArray)[0]'h = 0 := fun _ => rfl
  go_enter Tryd.func64, Tryd.ntmps64
  go_wp2
  go_loop [2, 40] (fun n i => n = .int .i64 0 ∧ i = .int .i64 0) (fun _ _ => 0)
  case atStart => exact ⟨rfl, rfl⟩
  case round =>
    obtain ⟨rfl, rfl⟩ := hrel
    go_wp2
    go_ret3
    exact ⟨rfl, rfl⟩
theorem ext_head (c : UInt8) (d r2 : List UInt8) : (⟨(c :: (d ++ r2)).toArray⟩ : ByteArray).extract 1 (1 + d.length) = ⟨d.toArray⟩ := by
  rw [Lib.extract_eq]; simp
set_option maxHeartbeats 400000 in
theorem lead_bad (c x : UInt8) (d q r2 : List UInt8) (w : World) (hd : d = x :: q) (hc : c.toNat = d.length) (h8 : d.length ≤ 8) (hl : r2.length ≤ 100000000) (hb : x.toNat = 0 ∨ d.length = 8 ∧ 128 ≤ x.toNat) :
    Calls Tryd.prog 64 #[.string ⟨(c :: (d ++ r2)).toArray⟩] w fun e w' => e = .returned (.tuple #[.int .i64 0, .int .i64 0, .int .i64 3]) ∧ w' = w := by
  have hh : ∀ h, (⟨(c :: (d ++ r2)).toArray⟩ : ByteArray)[0]'h = c := fun _ => rfl
  have hx : ∀ h, (⟨d.toArray⟩ : ByteArray)[0]'h = x := by subst hd; exact fun _ => rfl
  have he := ext_head c d r2
  have hxb := x.toNat_lt
  have hpos : 0 < d.length := by subst hd; simp
  clear hd
  obtain ⟨s, hs⟩ : ∃ s, c :: (d ++ r2) = s := ⟨_, rfl⟩
  have hsl : s.length = d.length + 1 + r2.length := by rw [← hs]; simp; omega
  have hse : s.isEmpty = false := by rw [← hs]; rfl
  rw [hs] at hh he ⊢
  clear hs
  rcases hb with h0 | ⟨h80, h128⟩
  · go_enter Tryd.func64, Tryd.ntmps64
    go_wp2
    go_ret3
    exact ⟨rfl, rfl⟩
  · rw [h80] at he hc hsl
    have he9 : (⟨s.toArray⟩ : ByteArray).extract 1 9 = ⟨d.toArray⟩ := he
    have hd0 : ((x.toNat : Int) == 0) = false := by rw [beq_eq_false_iff_ne]; omega
    have hd1 : decide (128 ≤ (x.toNat : Int)) = true := decide_eq_true (by omega)
    clear he h8 hpos
    go_enter Tryd.func64, Tryd.ntmps64
    go_wp2
    go_ret3
    exact ⟨rfl, rfl⟩
theorem val_take_lt (d : List UInt8) (h8 : d.length ≤ 8) (h : d.length = 8 → (d.headD 0).toNat < 128) (j : Nat) : Code.val (d.take j) < 2 ^ 63 := by
  have e : (256 : Nat) ^ 7 = 2 ^ 56 := by decide
  by_cases hj : (d.take j).length ≤ 7
  · have := Code.val_lt (d.take j)
    have := Nat.pow_le_pow_right (n := 256) (by omega) hj
    omega
  · rw [List.length_take] at hj
    rw [List.take_of_length_le (by omega)]
    match d, h8, h, hj with
    | [], _, _, hj => simp at hj
    | x :: q, h8, h, hj =>
      simp only [List.length_cons] at h8 h hj
      have hx := h (by omega)
      simp at hx
      have ⟨_, g⟩ := Code.val_ge x q
      rw [show q.length = 7 by omega, e] at g
      omega
theorem val_step (d : List UInt8) (k : Nat) (h : k < d.length) : Code.val (d.take (k + 1)) = Code.val (d.take k) * 256 + d[k].toNat := by
  rw [List.take_succ_eq_append_getElem h, Code.val_append]
theorem or_int (a b : Nat) (ha : a * 256 + b < 9223372036854775808) (hb : b < 256) : bits .or .i64 ((a : Int) * 256) (b : Int) = ((a * 256 + b : Nat) : Int) := by
  have h1 : a * 256 < 9223372036854775808 := Nat.lt_of_le_of_lt (Nat.le_add_right _ _) ha
  have h2 : b < 9223372036854775808 := Nat.lt_trans hb (by decide)
  have h3 := i64_or_nat (a * 256) b h1 h2
  rw [or_low a b hb, Int.natCast_mul] at h3
  exact h3
set_option maxHeartbeats 1000000 in
theorem lead_good (c x : UInt8) (d q r2 : List UInt8) (w : World) (hd : d = x :: q) (hc : c.toNat = d.length) (h8 : d.length ≤ 8) (hl : r2.length ≤ 100000000) (h0 : x.toNat ≠ 0) (hb : d.length = 8 → x.toNat < 128) :
    Calls Tryd.prog 64 #[.string ⟨(c :: (d ++ r2)).toArray⟩] w fun e w' => e = .returned (.tuple #[.int .i64 (Code.val d : Nat), .int .i64 (1 + d.length : Nat), .int .i64 0]) ∧ w' = w := by
  have hh : ∀ h, (⟨(c :: (d ++ r2)).toArray⟩ : ByteArray)[0]'h = c := fun _ => rfl
  have hx : ∀ h, (⟨d.toArray⟩ : ByteArray)[0]'h = x := by subst hd; exact fun _ => rfl
  have he := ext_head c d r2
  have hxb := x.toNat_lt
  have hvl := val_take_lt d h8 (by subst hd; exact hb)
  have hpos : 0 < d.length := by subst hd; simp
  clear hd
  obtain ⟨s, hs⟩ : ∃ s, c :: (d ++ r2) = s := ⟨_, rfl⟩
  have hsl : s.length = d.length + 1 + r2.length := by rw [← hs]; simp; omega
  have hse : s.isEmpty = false := by rw [← hs]; rfl
  rw [hs] at hh he ⊢
  clear hs
  have hvl' : ∀ j, Code.val (d.take j) < 2 ^ 63 := hvl
  clear hvl
  rcases Nat.lt_or_ge d.length 8 with h7 | h7
  · have hd0 : ((x.toNat : Int) == 0) = false := by rw [beq_eq_false_iff_ne]; omega
    clear hb
    go_enter Tryd.func64, Tryd.ntmps64
    go_wp2
    go_loop [2, 40] (fun n i => ∃ k : Nat, k ≤ d.length ∧ n = .int .i64 (Code.val (d.take k) : Nat) ∧ i = .int .i64 k) (fun _ i => d.length - (intOf i).toNat)
    case atStart => exact ⟨0, Nat.zero_le _, rfl, rfl⟩
    case round =>
      obtain ⟨k, hk, rfl, rfl⟩ := hrel
      by_cases hlt : k < d.length
      · have h1 : (k : Int) < (d.length : Int) := by omega
        have hst := val_step d k hlt
        have hvk := hvl' (k + 1)
        rw [hst] at hvk
        have hst' := Lib.hid hst
        have hi : ∀ h, (⟨d.toArray⟩ : ByteArray)[k]'h = d[k] := fun _ => rfl
        have hdk := d[k].toNat_lt
        obtain ⟨V, hV⟩ : ∃ V, Code.val (d.take k) = V := ⟨_, rfl⟩
        rw [hV] at hst' hvk ⊢
        clear hst hV
        have hor : bits .or .i64 ((V : Int) * 256) (d[k].toNat : Int) = ((V * 256 + d[k].toNat : Nat) : Int) := or_int V d[k].toNat (by omega) (by omega)
        go_wp2
        go_round
        case rel => exact ⟨k + 1, by omega, by rw [hst'.out]; simp, by go_num⟩
        case measure => simp [intOf]; omega
      · go_wp2
        go_ret3
        have e : k = d.length := by omega
        subst e
        rw [List.take_length]
        exact ⟨by simp, rfl⟩
  · have hb2 := hb (by omega)
    have h88 : d.length = 8 := by omega
    rw [h88] at he hc hsl
    have he9 : (⟨s.toArray⟩ : ByteArray).extract 1 9 = ⟨d.toArray⟩ := he
    have hd0 : ((x.toNat : Int) == 0) = false := by rw [beq_eq_false_iff_ne]; omega
    have hd1 : decide (128 ≤ (x.toNat : Int)) = false := decide_eq_false (by omega)
    clear hb he h8 hpos h7
    go_enter Tryd.func64, Tryd.ntmps64
    go_wp2
    go_loop [2, 40] (fun n i => ∃ k : Nat, k ≤ d.length ∧ n = .int .i64 (Code.val (d.take k) : Nat) ∧ i = .int .i64 k) (fun _ i => d.length - (intOf i).toNat)
    case atStart => exact ⟨0, Nat.zero_le _, rfl, rfl⟩
    case round =>
      obtain ⟨k, hk, rfl, rfl⟩ := hrel
      by_cases hlt : k < d.length
      · have h1 : (k : Int) < (d.length : Int) := by omega
        have hst := val_step d k hlt
        have hvk := hvl' (k + 1)
        rw [hst] at hvk
        have hst' := Lib.hid hst
        have hi : ∀ h, (⟨d.toArray⟩ : ByteArray)[k]'h = d[k] := fun _ => rfl
        have hdk := d[k].toNat_lt
        obtain ⟨V, hV⟩ : ∃ V, Code.val (d.take k) = V := ⟨_, rfl⟩
        rw [hV] at hst' hvk ⊢
        clear hst hV
        have hor : bits .or .i64 ((V : Int) * 256) (d[k].toNat : Int) = ((V * 256 + d[k].toNat : Nat) : Int) := or_int V d[k].toNat (by omega) (by omega)
        go_wp2
        go_round
        case rel => exact ⟨k + 1, by omega, by rw [hst'.out]; simp, by go_num⟩
        case measure => simp [intOf]; omega
      · go_wp2
        go_ret3
        have e : k = d.length := by omega
        subst e
        rw [List.take_length]
        exact ⟨by simp, rfl⟩

end Go.Proofs.YtgbcilokeiengaaDoor
namespace Go.Proofs.YtgbcilokeiengaaDoor
open Go.RowKit

theorem lead_any (s : List UInt8) (w : World) (hl : s.length ≤ 100000000) :
    Calls Tryd.prog 64 #[.string ⟨s.toArray⟩] w fun e w' => e = .returned (.tuple #[.int .i64 ((Code.leadL s).1 : Nat), .int .i64 ((Code.leadL s).2.1 : Nat), .int .i64 (Code.leadL s).2.2]) ∧ w' = w := by
  match s, hl with
  | [], _ => exact lead_nil w
  | c :: r, hl =>
    simp only [List.length_cons] at hl
    by_cases h1 : c.toNat > 8
    · rw [Code.leadL, if_pos h1]
      exact lead_big c r w h1
    · by_cases h2 : r.length < c.toNat
      · rw [Code.leadL, if_neg h1, if_pos h2]
        exact lead_short c r w (by omega) h2 (by omega)
      · have hr : r = r.take c.toNat ++ r.drop c.toNat := (List.take_append_drop _ _).symm
        have hdl : (r.take c.toNat).length = c.toNat := by rw [List.length_take]; omega
        have hd2 : (r.drop c.toNat).length ≤ 100000000 := by rw [List.length_drop]; omega
        rw [Code.leadL, if_neg h1, if_neg h2]
        by_cases h0 : c.toNat = 0
        · have hb : Code.bad c.toNat (r.take c.toNat) = false := by simp [Code.bad, h0]
          have hc0 : c = 0 := by
            have := UInt8.ofNat_toNat (x := c)
            rw [h0] at this
            exact this.symm
          subst hc0
          rw [hb]
          exact lead_zero r w (by omega)
        · match hd : r.take c.toNat with
          | [] => rw [hd] at hdl; simp at hdl; omega
          | x :: q =>
            rw [hd] at hr hdl
            rcases hb : Code.bad c.toNat (x :: q) with _ | _
            · simp only [Code.bad, List.headD_cons, Bool.or_eq_false_iff, Bool.and_eq_false_iff, decide_eq_false_iff_not, beq_eq_false_iff_ne] at hb
              have h := lead_good c x (x :: q) q (r.drop c.toNat) w rfl hdl.symm (by omega) hd2 (by rcases hb.1 with a | a; omega; exact a) (fun h8 => by rcases hb.2 with a | a; omega; exact Nat.not_le.1 (of_decide_eq_false a))
              rw [← hr, hdl] at h
              exact h
            · simp only [Code.bad, List.headD_cons, Bool.or_eq_true, Bool.and_eq_true, decide_eq_true_eq, beq_iff_eq] at hb
              have h := lead_bad c x (x :: q) q (r.drop c.toNat) w rfl hdl.symm (by omega) hd2 (by rcases hb with a | a; exact .inl a.2; exact .inr ⟨by omega, of_decide_eq_true a.2⟩)
              rw [← hr] at h
              exact h

def Code.countL (most : Int) (s : List UInt8) : Nat × List UInt8 × Int :=
  if (Code.leadL s).2.2 ≠ 0 then (0, s, (Code.leadL s).2.2) else if ((Code.leadL s).1 : Int) > most then (0, s, 2) else ((Code.leadL s).1, s.drop (Code.leadL s).2.1, 0)
theorem Code.lead_range (s : List UInt8) : (Code.leadL s).1 < 2 ^ 63 ∧ (Code.leadL s).2.1 ≤ s.length := by
  by_cases h : (Code.leadL s).2.2 = 0
  · have := Code.lead_ok s h
    exact ⟨this.1, this.2.1⟩
  · match s with
    | [] => simp [Code.leadL]
    | c :: r =>
      simp only [Code.leadL] at h ⊢
      split <;> (try (simp; done))
      split <;> (try (simp; done))
      split <;> (try (simp; done))
      simp_all

set_option maxHeartbeats 400000 in
theorem count_stuck (most : Int) (s : List UInt8) (c : Int) (g : Nat) (w : World) (h : Rd w g s c) (hc : c ≠ 0) :
    Calls Tryd.prog 53 #[.pointer (some ⟨g, 0, none⟩), .int .i64 most] w fun e w' => e = .returned (.int .i64 0) ∧ w' = w := by
  have h1 := h.code
  go_enter Tryd.func53, Tryd.ntmps53
  go_wp2
  go_ret
  exact ⟨rfl, rfl⟩

set_option maxHeartbeats 400000 in
theorem count_any (most : Int) (s : List UInt8) (g : Nat) (w : World) (h : Rd w g s 0) (hl : s.length ≤ 100000000) :
    Calls Tryd.prog 53 #[.pointer (some ⟨g, 0, none⟩), .int .i64 most] w fun e w' => e = .returned (.int .i64 ((Code.countL most s).1 : Nat)) ∧ Rd w' g (Code.countL most s).2.1 (Code.countL most s).2.2 ∧ Only g w w' := by
  have h0 := h.left
  have h1 := h.code
  have hf0 := h.free0
  have hf1 := h.free1
  obtain ⟨hn, hk⟩ := Code.lead_range s
  have hlead := Lib.hid (lead_any s w hl)
  have he := ext_drop s (Code.leadL s).2.1
  unfold Code.countL
  generalize (Code.leadL s) = p at hn hk hlead he ⊢
  obtain ⟨n, k, e⟩ := p
  simp only at hn hk hlead he ⊢
  by_cases h2 : e = 0
  · subst h2
    rw [if_neg (by simp)]
    by_cases h3 : (n : Int) > most
    · rw [if_pos h3]
      go_enter Tryd.func53, Tryd.ntmps53
      go_wp2_with fail
      refine hlead.out.mono ?_
      rintro e w1 ⟨rfl, rfl⟩
      go_wp2
      go_ret
      exact ⟨rfl, h.setCode 2, (Only.refl g _).setCell rfl _⟩
    · rw [if_neg h3]
      go_enter Tryd.func53, Tryd.ntmps53
      go_wp2_with fail
      refine hlead.out.mono ?_
      rintro e w1 ⟨rfl, rfl⟩
      go_wp2
      go_ret
      exact ⟨rfl, h.setLeft _, (Only.refl g _).setCell rfl _⟩
  · rw [if_pos h2]
    go_enter Tryd.func53, Tryd.ntmps53
    go_wp2_with fail
    refine hlead.out.mono ?_
    rintro e w1 ⟨rfl, rfl⟩
    go_wp2
    go_ret
    exact ⟨rfl, h.setCode _, (Only.refl g _).setCell rfl _⟩

end Go.Proofs.YtgbcilokeiengaaDoor
namespace Go.Proofs.YtgbcilokeiengaaDoor
open Go.RowKit

theorem clone_any (s : List UInt8) (w : World) (hl : s.length ≤ 100000000) :
    Calls Tryd.prog 22 #[.string ⟨s.toArray⟩] w fun e w' => e = .returned (.string ⟨s.toArray⟩) ∧ Below w.heap.size w w' := by
  go_enter Tryd.func22, Tryd.ntmps22
  go_wp2_with fail
  refine (shelf_clone ⟨s.toArray⟩ w (by rw [size_of_list]; omega)).mono ?_
  rintro e w1 ⟨rfl, hb⟩
  go_wp2
  go_ret
  exact ⟨rfl, hb⟩

def Code.bytesR (n : Int) (s : List UInt8) : List UInt8 × List UInt8 × Int :=
  if n < 0 then ([], s, 1) else if n.toNat > s.length then ([], s, 20) else (s.take n.toNat, s.drop n.toNat, 0)
def Code.textR (most : Int) (s : List UInt8) : List UInt8 × List UInt8 × Int :=
  if (Code.countL most s).2.2 ≠ 0 then ([], s, (Code.countL most s).2.2) else
  if (Code.countL most s).1 > (Code.countL most s).2.1.length then ([], s, 20) else
  ((Code.countL most s).2.1.take (Code.countL most s).1, (Code.countL most s).2.1.drop (Code.countL most s).1, 0)
theorem ext_take (s : List UInt8) (k : Nat) : (⟨s.toArray⟩ : ByteArray).extract 0 k = ⟨(s.take k).toArray⟩ := by
  rw [Lib.extract_eq]
  simp only [List.drop_zero, Nat.sub_zero]

set_option maxHeartbeats 400000 in
theorem bytes_stuck (n : Int) (s : List UInt8) (c : Int) (g : Nat) (w : World) (h : Rd w g s c) (hc : c ≠ 0) :
    Calls Tryd.prog 41 #[.pointer (some ⟨g, 0, none⟩), .int .i64 n] w fun e w' => e = .returned (.string ⟨#[]⟩) ∧ w' = w := by
  have h1 := h.code
  have hc1 : (c != 0) = true := by rw [bne_iff_ne]; exact hc
  clear hc
  go_enter Tryd.func41, Tryd.ntmps41
  go_wp2
  go_ret
  exact ⟨rfl, rfl⟩
set_option maxHeartbeats 400000 in
theorem bytes_any (n : Int) (s : List UInt8) (g : Nat) (w : World) (h : Rd w g s 0) (hl : s.length ≤ 100000000) :
    Calls Tryd.prog 41 #[.pointer (some ⟨g, 0, none⟩), .int .i64 n] w fun e w' => e = .returned (.string ⟨(Code.bytesR n s).1.toArray⟩) ∧ Rd w' g (Code.bytesR n s).2.1 (Code.bytesR n s).2.2 ∧ Only g w w' := by
  have h0 := h.left
  have h1 := h.code
  have hf1 := h.free1
  unfold Code.bytesR
  by_cases hn : n < 0
  · rw [if_pos hn]
    go_enter Tryd.func41, Tryd.ntmps41
    go_wp2
    go_ret
    exact ⟨rfl, h.setCode 1, (Only.refl g _).setCell rfl _⟩
  · rw [if_neg hn]
    obtain ⟨k, rfl⟩ := Int.eq_ofNat_of_zero_le (by omega : 0 ≤ n)
    simp only [Int.toNat_natCast]
    by_cases hk : k > s.length
    · rw [if_pos hk]
      have hk1 : (k : Int) > (s.length : Int) := by omega
      have hk0 : ((k : Int) < 0) = False := by simp
      go_enter Tryd.func41, Tryd.ntmps41
      go_wp2
      go_ret
      exact ⟨rfl, h.setCode 20, (Only.refl g _).setCell rfl _⟩
    · rw [if_neg hk]
      have hk1 : ¬ ((k : Int) > (s.length : Int)) := by omega
      have hk0 : ((k : Int) < 0) = False := by simp
      have he1 := ext_take s k
      have he2 := ext_drop s k
      go_enter Tryd.func41, Tryd.ntmps41
      go_wp2_with fail
      refine (clone_any (s.take k) w (by rw [List.length_take]; omega)).mono ?_
      rintro e w1 ⟨rfl, hb⟩
      have hr := h.below hb
      have g0 := hr.left
      have gf := hr.free0
      go_wp2
      go_ret
      exact ⟨rfl, hr.setLeft _, Only.setCell (g := g) (Only.of hb) rfl _⟩

theorem count_rest (most : Int) (s : List UInt8) : (Code.countL most s).2.1.length ≤ s.length := by
  unfold Code.countL
  split
  · exact Nat.le_refl _
  · split
    · exact Nat.le_refl _
    · simp only [List.length_drop]; omega

set_option maxHeartbeats 400000 in
theorem rtext_any (most : Int) (s : List UInt8) (g : Nat) (w : World) (h : Rd w g s 0) (hl : s.length ≤ 100000000) :
    Calls Tryd.prog 43 #[.pointer (some ⟨g, 0, none⟩), .int .i64 most] w fun e w' => e = .returned (.string ⟨(Code.textR most s).1.toArray⟩) ∧ Rd w' g (Code.textR most s).2.1 (Code.textR most s).2.2 ∧ Only g w w' := by
  have h0 := h.left
  have hcl := count_rest most s
  unfold Code.textR
  have hcount := Lib.hid (count_any most s g w h hl)
  generalize Code.countL most s = p at hcount hcl ⊢
  obtain ⟨n, r, e⟩ := p
  simp only at hcount hcl ⊢
  by_cases he : e = 0
  · subst he
    rw [if_neg (by simp)]
    go_enter Tryd.func43, Tryd.ntmps43
    go_wp2_with fail
    refine hcount.out.mono ?_
    rintro e w1 ⟨rfl, hr1, ho1⟩
    go_wp2_with fail
    refine (bytes_any n r g w1 hr1 (by omega)).mono ?_
    rintro e w2 ⟨rfl, hr2, ho2⟩
    have ho := ho1.trans ho2
    clear ho1 ho2 h0
    unfold Code.bytesR at hr2 ⊢
    have hn0 : ¬ ((n : Int) < 0) := by omega
    rw [if_neg hn0] at hr2 ⊢
    simp only [Int.toNat_natCast] at hr2 ⊢
    by_cases hk : n > r.length
    · rw [if_pos hk] at hr2 ⊢
      simp only at hr2 ⊢
      have h1 := hr2.code
      have h2 := hr2.left
      have hf := hr2.free0
      go_wp2
      go_ret
      exact ⟨rfl, hr2.setLeft s, ho.setCell rfl _⟩
    · rw [if_neg hk] at hr2 ⊢
      simp only at hr2 ⊢
      have h1 := hr2.code
      go_wp2
      go_ret
      exact ⟨rfl, hr2, ho⟩
  · rw [if_pos he]
    have he1 : (e != 0) = true := by rw [bne_iff_ne]; exact he
    go_enter Tryd.func43, Tryd.ntmps43
    go_wp2_with fail
    refine hcount.out.mono ?_
    rintro e w1 ⟨rfl, hr1, ho1⟩
    go_wp2_with fail
    refine (bytes_stuck n r _ g w1 hr1 he).mono ?_
    rintro e w2 ⟨rfl, rfl⟩
    have h1 := hr1.code
    have h2 := hr1.left
    have hf := hr1.free0
    clear h0
    go_wp2
    go_ret
    exact ⟨rfl, hr1.setLeft s, ho1.setCell rfl _⟩

end Go.Proofs.YtgbcilokeiengaaDoor
namespace Go.Proofs.YtgbcilokeiengaaDoor
open Go.RowKit

theorem Only.then {g : Nat} {a b c : World} (h : Only g a b) (k : Below a.heap.size b c) : Only g a c :=
  ⟨k.os.trans h.os, k.tape.trans h.tape, k.output.trans h.output, Nat.le_trans h.size k.size, fun i hi hg => (k.block i hi).trans (h.block i hi hg)⟩
end Go.Proofs.YtgbcilokeiengaaDoor
namespace Go.Proofs.YtgbcilokeiengaaDoor.Code

theorem count_num (most : Int) (n : Nat) (r : List UInt8) (h : n < 2 ^ 63) (hm : (n : Int) ≤ most) : countL most (numL n ++ r) = (n, r, 0) := by
  have e := lead_num n h r
  have hd : (numL n ++ r).drop (1 + sz n) = r := by
    rw [← numL_length, List.drop_left]
  unfold countL
  rw [e]
  simp only [ne_eq, not_true_eq_false, if_false]
  rw [if_neg (by omega), hd]
theorem text_text (most : Int) (t r : List UInt8) (h : t.length < 2 ^ 63) (hm : (t.length : Int) ≤ most) : textR most (textL t ++ r) = (t, r, 0) := by
  have e := count_num most t.length (t ++ r) h hm
  unfold textR textL
  rw [List.append_assoc, e]
  simp
end Go.Proofs.YtgbcilokeiengaaDoor.Code
namespace Go.Proofs.YtgbcilokeiengaaDoor

abbrev Pw.St := List UInt8 × Int
def Pw.rdN (st : Pw.St) : Nat × Pw.St := if st.2 ≠ 0 then (0, st) else ((Code.countL 9223372036854775807 st.1).1, (Code.countL 9223372036854775807 st.1).2.1, (Code.countL 9223372036854775807 st.1).2.2)
def Pw.rdT (st : Pw.St) : List UInt8 × Pw.St := if st.2 ≠ 0 then ([], st) else ((Code.textR 6 st.1).1, (Code.textR 6 st.1).2.1, (Code.textR 6 st.1).2.2)
def Pw.endC (st : Pw.St) : Int := if st.2 = 0 ∧ st.1 ≠ [] then 3 else st.2
theorem Pw.textR_le (most : Int) (s : List UInt8) : (Code.textR most s).2.1.length ≤ s.length := by
  have h := count_rest most s
  unfold Code.textR
  split
  · exact Nat.le_refl _
  · split
    · exact Nat.le_refl _
    · simp only [List.length_drop]; omega
theorem Pw.rdT_le (st : Pw.St) : (Pw.rdT st).2.1.length ≤ st.1.length := by
  unfold Pw.rdT
  split
  · exact Nat.le_refl _
  · exact Pw.textR_le _ _
theorem Pw.rdT_ok {st : Pw.St} (h : (Pw.rdT st).2.2 = 0) : st.2 = 0 ∧ st.1 = Code.textL (Pw.rdT st).1 ++ (Pw.rdT st).2.1 := by
  unfold Pw.rdT at h ⊢
  by_cases h0 : st.2 = 0
  · rw [if_neg (by simpa using h0)] at h ⊢
    refine ⟨h0, ?_⟩
    simp only at h ⊢
    unfold Code.textR at h ⊢
    by_cases h1 : (Code.countL 6 st.1).2.2 = 0
    · rw [if_neg (by simpa using h1)] at h ⊢
      by_cases h2 : (Code.countL 6 st.1).1 > (Code.countL 6 st.1).2.1.length
      · rw [if_pos h2] at h; simp at h
      · rw [if_neg h2]
        simp only
        have hs : st.1 = Code.numL (Code.countL 6 st.1).1 ++ (Code.countL 6 st.1).2.1 := by
          unfold Code.countL at h1 ⊢
          split at h1
          · rename_i h3; exact absurd h1 h3
          · rename_i h3
            split at h1
            · simp at h1
            · rename_i h4
              have h5 := Code.lead_ok st.1 (by simpa using h3)
              rw [if_neg h3, if_neg h4]
              simp only
              rw [← h5.2.2, List.take_append_drop]
        have hl : ((Code.countL 6 st.1).2.1.take (Code.countL 6 st.1).1).length = (Code.countL 6 st.1).1 := by rw [List.length_take]; omega
        rw [Code.textL, hl, List.append_assoc, List.take_append_drop]
        exact hs
    · rw [if_pos h1] at h; exact absurd h h1
  · rw [if_pos h0] at h
    exact absurd h h0
theorem Pw.rdT_text (t r : List UInt8) (h : t.length ≤ 6) : Pw.rdT (Code.textL t ++ r, 0) = (t, r, 0) := by
  have h1 := Code.text_text 6 t r (by omega) (by omega)
  simp [Pw.rdT, h1]
end Go.Proofs.YtgbcilokeiengaaDoor
namespace Go.Proofs.YtgbcilokeiengaaDoor
open Go.RowKit

theorem Only.out {g : Nat} {w w' : World} (h : Only g w w') : Out (fun k => k = g) w w' := ⟨h.os, h.tape, h.output, h.size, h.block⟩
theorem rend_st (st : Pw.St) (g : Nat) (w : World) (h : Rd w g st.1 st.2) :
    Calls Tryd.prog 45 #[.pointer (some ⟨g, 0, none⟩)] w fun e w' => e = .returned (.int .i64 (Pw.endC st)) ∧ Only g w w' := by
  obtain ⟨s, c⟩ := st
  dsimp only at h
  have h0 := h.left
  have h1 := h.code
  have hf1 := h.free1
  unfold Pw.endC
  dsimp only
  by_cases hc : c = 0
  · subst hc
    cases s with
    | nil =>
      rw [if_neg (by simp)]
      go_enter Tryd.func45, Tryd.ntmps45
      go_wp2
      go_ret
      exact ⟨rfl, Only.refl _ _⟩
    | cons a s =>
      rw [if_pos (by simp)]
      have hrd := (h.setCode 3).code
      go_enter Tryd.func45, Tryd.ntmps45
      go_wp2
      go_ret
      exact ⟨rfl, (Only.refl g _).setCell rfl _⟩
  · rw [if_neg (fun h => hc h.1)]
    have hc1 : (c == 0) = false := by rw [beq_eq_false_iff_ne]; exact hc
    go_enter Tryd.func45, Tryd.ntmps45
    go_wp2
    go_ret
    exact ⟨rfl, Only.refl _ _⟩
end Go.Proofs.YtgbcilokeiengaaDoor
