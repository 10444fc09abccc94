/- Rise, NibMath, NibLess, NibOrderMath, NibBackMath, CodeMath, NodeMath, StoreMath, NodeKind -/
import GoSem.Op.String
import Derived.Test.YtjfefphgikncnaaGreatDoorChecked
namespace Go.Proofs.YtjfefphgikncnaaGreatDoor.Sto
abbrev T := List UInt8
abbrev St := List (T × T)
def Rising (S : St) : Prop := S.Pairwise fun a b => a.1 < b.1
def look : St → T → Option T
  | [], _ => none
  | a :: r, x => if x = a.1 then some a.2 else look r x
def put : St → T → T → St
  | [], k, t => [(k, t)]
  | a :: r, k, t => if k = a.1 then a :: r else if k < a.1 then (k, t) :: a :: r else a :: put r k t
def keys (S : St) : List T := S.map (·.1)

theorem tri (x y : T) : x < y ∨ x = y ∨ y < x := by
  by_cases h : x < y
  · exact Or.inl h
  · rcases List.le_iff_lt_or_eq.1 (List.not_lt.1 h) with h | h
    · exact Or.inr (Or.inr h)
    · exact Or.inr (Or.inl h.symm)
theorem lt_ne {x y : T} (h : x < y) : x ≠ y := fun e => by subst e; exact List.lt_irrefl _ h
theorem rising_nil : Rising [] := List.Pairwise.nil
theorem keys_rise {S : St} (h : Rising S) : (keys S).Pairwise (· < ·) := List.pairwise_map.2 h
/-- Two lists that rise and have the same members. -/
theorem rise_unique {a b : List T} (ha : a.Pairwise (· < ·)) (hb : b.Pairwise (· < ·)) (h : ∀ x, x ∈ a ↔ x ∈ b) : a = b := by
  have na : a.Nodup := ha.imp fun h => lt_ne h
  have nb : b.Nodup := hb.imp fun h => lt_ne h
  have hp : a.Perm b := (List.perm_ext_iff_of_nodup na nb).2 h
  exact hp.eq_of_pairwise (le := (· ≤ ·)) (fun x y _ _ h1 h2 => List.le_antisymm h1 h2) (ha.imp fun h => List.le_of_lt h) (hb.imp fun h => List.le_of_lt h)

theorem look_isSome (S : St) (x : T) : (look S x).isSome = true ↔ x ∈ keys S := by
  induction S with
  | nil => simp [look, keys]
  | cons a r ih =>
    rw [look]
    by_cases e : x = a.1
    · rw [if_pos e]; simp [keys, e]
    · rw [if_neg e, ih]
      simp only [keys, List.map_cons, List.mem_cons]
      exact ⟨Or.inr, fun h => h.resolve_left e⟩
theorem look_none (S : St) (x : T) : look S x = none ↔ x ∉ keys S := by
  rw [← look_isSome]; cases look S x <;> simp
theorem look_mem {S : St} (hS : Rising S) (x t : T) : look S x = some t ↔ (x, t) ∈ S := by
  induction S with
  | nil => simp [look]
  | cons a r ih =>
    obtain ⟨h1, h2⟩ := List.pairwise_cons.1 hS
    rw [look]
    by_cases e : x = a.1
    · rw [if_pos e]
      constructor
      · intro h
        simp only [Option.some.injEq] at h
        exact List.mem_cons.2 (Or.inl (Prod.ext e h.symm))
      · intro h
        rcases List.mem_cons.1 h with h | h
        · rw [← h]
        · exact absurd e.symm (lt_ne (h1 _ h))
    · rw [if_neg e, ih h2]
      constructor
      · exact fun h => List.mem_cons_of_mem _ h
      · intro h
        rcases List.mem_cons.1 h with h | h
        · exact absurd (by rw [← h]) e
        · exact h
theorem look_at {S : St} (hS : Rising S) (i : Nat) (hi : i < S.length) : look S S[i].1 = some S[i].2 := (look_mem hS _ _).2 (List.getElem_mem hi)
theorem put_mem {S : St} {k t : T} {p : T × T} (h : p ∈ put S k t) : p ∈ S ∨ p = (k, t) := by
  induction S with
  | nil => simp [put] at h; exact Or.inr h
  | cons a r ih =>
    rw [put] at h
    split at h
    · exact Or.inl h
    · split at h
      · rcases List.mem_cons.1 h with h | h
        · exact Or.inr h
        · exact Or.inl h
      · rcases List.mem_cons.1 h with h | h
        · exact Or.inl (by rw [h]; exact List.mem_cons_self ..)
        · exact (ih h).imp (List.mem_cons_of_mem _) id
theorem put_rising {S : St} (hS : Rising S) (k t : T) : Rising (put S k t) := by
  induction S with
  | nil => simp [put, Rising]
  | cons a r ih =>
    obtain ⟨h1, h2⟩ := List.pairwise_cons.1 hS
    rw [put]
    split
    · exact hS
    · rename_i e
      split
      · rename_i l
        refine List.pairwise_cons.2 ⟨fun b hb => ?_, hS⟩
        rcases List.mem_cons.1 hb with rfl | hb
        · exact l
        · exact List.lt_trans l (h1 b hb)
      · rename_i l
        refine List.pairwise_cons.2 ⟨fun b hb => ?_, ih h2⟩
        rcases put_mem hb with hb | rfl
        · exact h1 b hb
        · exact ((tri k a.1).resolve_left l).resolve_left e
theorem look_put {S : St} (hS : Rising S) (k t x : T) : look (put S k t) x = if x = k then some ((look S k).getD t) else look S x := by
  induction S with
  | nil => simp only [put, look, Option.getD]
  | cons a r ih =>
    obtain ⟨h1, h2⟩ := List.pairwise_cons.1 hS
    rw [put]
    by_cases e : k = a.1
    · rw [if_pos e]
      by_cases ex : x = k
      · rw [if_pos ex, ex]
        simp only [look]
        rw [if_pos e]
        rfl
      · rw [if_neg ex]
    · rw [if_neg e]
      by_cases l : k < a.1
      · rw [if_pos l]
        have hn : look (a :: r) k = none := (look_none _ _).2 fun h => by
          obtain ⟨b, hb, e1⟩ := List.mem_map.1 h
          rcases List.mem_cons.1 hb with rfl | hb
          · exact e e1.symm
          · exact lt_ne (List.lt_trans l (h1 b hb)) e1.symm
        rw [hn]
        simp only [look, Option.getD]
      · rw [if_neg l]
        simp only [look]
        by_cases ex : x = a.1
        · have : x ≠ k := fun q => e (q.symm.trans ex)
          rw [if_pos ex, if_neg this, if_pos ex]
        · rw [if_neg ex, ih h2, if_neg e, if_neg ex]
theorem put_same {S : St} {k : T} (h : (look S k).isSome = true) (t : T) : Rising S → put S k t = S := by
  induction S with
  | nil => simp [look] at h
  | cons a r ih =>
    intro hS
    obtain ⟨h1, h2⟩ := List.pairwise_cons.1 hS
    rw [put]
    by_cases e : k = a.1
    · rw [if_pos e]
    · rw [if_neg e]
      rw [look, if_neg e] at h
      have hm := (look_isSome r k).1 h
      obtain ⟨b, hb, e1⟩ := List.mem_map.1 hm
      have hlt : a.1 < k := e1 ▸ h1 b hb
      rw [if_neg (fun l => List.lt_irrefl _ (List.lt_trans l hlt)), ih h h2]
theorem put_len (S : St) (k t : T) : (put S k t).length ≤ S.length + 1 := by
  induction S with
  | nil => simp [put]
  | cons a r ih =>
    rw [put]
    split
    · simp
    · split
      · simp
      · simp only [List.length_cons]; omega
theorem put_keys {S : St} (hS : Rising S) (k t x : T) : x ∈ keys (put S k t) ↔ x = k ∨ x ∈ keys S := by
  rw [← look_isSome, look_put hS, ← look_isSome]
  by_cases e : x = k
  · rw [if_pos e]; simp [e]
  · rw [if_neg e]; simp [e]

end Go.Proofs.YtjfefphgikncnaaGreatDoor.Sto
namespace Go.Proofs.YtjfefphgikncnaaGreatDoor
theorem less_lt : ∀ (x y : List UInt8), Op.bytesLess x y = decide (x < y)
  | [], [] => by simp [Op.bytesLess]
  | _ :: _, [] => by simp [Op.bytesLess]
  | [], _ :: _ => by simp [Op.bytesLess]
  | a :: x, b :: y => by
    rw [Op.bytesLess, less_lt x y, Bool.eq_iff_iff]
    simp only [Bool.or_eq_true, Bool.and_eq_true, decide_eq_true_eq, beq_iff_eq, List.cons_lt_cons_iff]
end Go.Proofs.YtjfefphgikncnaaGreatDoor
namespace Go.Proofs.YtjfefphgikncnaaGreatDoor.Nib

def fitL (l : List UInt8) : Bool := l.all fun b => decide (b.toNat ≤ 15)
def ofL (l : List UInt8) : List UInt8 := l.flatMap fun (b : UInt8) => [b / 16, b % 16]
def joinL : List UInt8 → List UInt8
  | a :: b :: t => (a * 16 + b) :: joinL t
  | _ => []
def commonL : List UInt8 → List UInt8 → Nat
  | a :: s, b :: t => if a = b then commonL s t + 1 else 0
  | _, _ => 0

theorem take_snoc {α : Type} (l : List α) (k : Nat) (h : k < l.length) : l.take (k + 1) = l.take k ++ [l[k]] := List.take_succ_eq_append_getElem h

theorem fitL_take_succ (l : List UInt8) (k : Nat) (h : k < l.length) : fitL (l.take (k + 1)) = (fitL (l.take k) && decide (l[k].toNat ≤ 15)) := by
  unfold fitL; rw [take_snoc l k h, List.all_append]; simp
theorem fitL_false (l : List UInt8) (k : Nat) (h : k < l.length) (hb : 15 < l[k].toNat) : fitL l = false := by
  unfold fitL
  rw [List.all_eq_false]
  exact ⟨l[k], List.getElem_mem h, by simp; omega⟩

theorem commonL_le (a b : List UInt8) : commonL a b ≤ a.length ∧ commonL a b ≤ b.length := by
  induction a generalizing b with
  | nil => simp [commonL]
  | cons x s ih =>
    cases b with
    | nil => simp [commonL]
    | cons y t =>
      unfold commonL
      split
      · have := ih t; simp; omega
      · simp
theorem commonL_of_diff (a b : List UInt8) (k : Nat) (ha : k < a.length) (hb : k < b.length) (h : a.take k = b.take k) (hd : a[k] ≠ b[k]) : commonL a b = k := by
  induction k generalizing a b with
  | zero =>
    cases a with
    | nil => simp at ha
    | cons x s =>
      cases b with
      | nil => simp at hb
      | cons y t => simp at hd; simp [commonL, hd]
  | succ k ih =>
    cases a with
    | nil => simp at ha
    | cons x s =>
      cases b with
      | nil => simp at hb
      | cons y t =>
        simp at h hd
        obtain ⟨rfl, h⟩ := h
        simp [commonL, ih s t (by simpa using ha) (by simpa using hb) h hd]
theorem commonL_of_end (a b : List UInt8) (k : Nat) (hk : k = min a.length b.length) (h : a.take k = b.take k) : commonL a b = k := by
  induction k generalizing a b with
  | zero =>
    cases a with
    | nil => simp [commonL]
    | cons x s =>
      cases b with
      | nil => simp [commonL]
      | cons y t => simp at hk
  | succ k ih =>
    cases a with
    | nil => simp at hk
    | cons x s =>
      cases b with
      | nil => simp at hk
      | cons y t =>
        simp at h
        obtain ⟨rfl, h⟩ := h
        have : k = min s.length t.length := by simp at hk; omega
        simp [commonL, ih s t this h]
theorem take_eq_succ (a b : List UInt8) (k : Nat) (ha : k < a.length) (hb : k < b.length) (h : a.take k = b.take k) (he : a[k] = b[k]) : a.take (k + 1) = b.take (k + 1) := by
  rw [take_snoc a k ha, take_snoc b k hb, h, he]

theorem byte_ne {x y : UInt8} (h : ((x.toNat : Int) != (y.toNat : Int)) = true) : x ≠ y := by rintro rfl; simp at h
theorem byte_eq {x y : UInt8} (h : ((x.toNat : Int) != (y.toNat : Int)) = false) : x = y := by
  simp at h; exact UInt8.toNat_inj.1 (by omega)
theorem ofL_length (l : List UInt8) : (ofL l).length = 2 * l.length := by
  induction l with
  | nil => rfl
  | cons b t ih =>
    have : ofL (b :: t) = b / 16 :: b % 16 :: ofL t := by simp [ofL]
    rw [this]; simp [ih]; omega
theorem ofL_snoc (l : List UInt8) (k : Nat) (h : k < l.length) : ofL (l.take (k + 1)) = ofL (l.take k) ++ [l[k] / 16, l[k] % 16] := by
  rw [take_snoc l k h]; unfold ofL; rw [List.flatMap_append]; simp

theorem toNat_div16 (b : UInt8) : (((b / 16).toNat : Nat) : Int) = (b.toNat : Int) / 16 := by simp
theorem toNat_mod16 (b : UInt8) : (((b % 16).toNat : Nat) : Int) = (b.toNat : Int) % 16 := by simp

theorem fitL_get (l : List UInt8) (h : fitL l = true) (k : Nat) (hk : k < l.length) : l[k].toNat ≤ 15 := by
  unfold fitL at h; rw [List.all_eq_true] at h; simpa using h l[k] (List.getElem_mem hk)
theorem fitL_tail (a : UInt8) (t : List UInt8) (h : fitL (a :: t) = true) : fitL t = true := by
  simp [fitL] at h ⊢; exact h.2
theorem joinL_two (a b : UInt8) (t : List UInt8) : joinL (a :: b :: t) = (a * 16 + b) :: joinL t := rfl
theorem joinL_snoc (l : List UInt8) (k : Nat) (h : 2 * k + 1 < l.length) : joinL (l.take (2 * (k + 1))) = joinL (l.take (2 * k)) ++ [l[2 * k] * 16 + l[2 * k + 1]] := by
  induction k generalizing l with
  | zero =>
    match l, h with
    | a :: b :: t, _ => rfl
  | succ k ih =>
    match l, h with
    | a :: b :: t, h =>
      have h' : 2 * k + 1 < t.length := by simp at h; omega
      have e1 : 2 * (k + 1 + 1) = 2 * (k + 1) + 2 := by omega
      have e2 : 2 * (k + 1) = 2 * k + 2 := by omega
      have e3 : 2 * (k + 1) + 1 = 2 * k + 1 + 2 := by omega
      have r1 : joinL ((a :: b :: t).take (2 * (k + 1 + 1))) = (a * 16 + b) :: joinL (t.take (2 * (k + 1))) := by
        rw [e1, List.take_succ_cons, List.take_succ_cons]; rfl
      have r2 : joinL ((a :: b :: t).take (2 * (k + 1))) = (a * 16 + b) :: joinL (t.take (2 * k)) := by
        rw [e2, List.take_succ_cons, List.take_succ_cons]; rfl
      rw [r1, r2, ih t h']
      simp [e2]
theorem joinL_length (l : List UInt8) : (joinL l).length = l.length / 2 := by
  match l with
  | [] => rfl
  | [_] => simp [joinL]
  | a :: b :: t => simp [joinL_two, joinL_length t]; omega
theorem joinL_take_end (l : List UInt8) (k : Nat) (h : k = l.length / 2) : joinL (l.take (2 * k)) = joinL l := by
  induction k generalizing l with
  | zero =>
    match l, h with
    | [], _ => rfl
    | [_], _ => simp [joinL]
    | a :: b :: t, h => simp at h; omega
  | succ k ih =>
    match l, h with
    | [], h => simp at h
    | [_], h => simp at h
    | a :: b :: t, h =>
      have e1 : 2 * (k + 1) = 2 * k + 2 := by omega
      rw [e1, List.take_succ_cons, List.take_succ_cons, joinL_two, joinL_two, ih t (by simp at h; omega)]
theorem or_join (a b : Nat) (hb : b < 16) : (a * 16) ||| b = a * 16 + b := by
  have := Nat.two_pow_add_eq_or_of_lt (i := 4) (b := b) (by simpa using hb) a
  simp at this; rw [Nat.mul_comm a 16]; omega

def kindL (n : Nat) (leaf : Bool) : UInt8 := (if n % 2 = 1 then 1 else 0) + (if leaf then 2 else 0)
def headL (p : List UInt8) (leaf : Bool) : List UInt8 := if p.length % 2 = 1 then [kindL p.length leaf] else [kindL p.length leaf, 0]
def packL (p : List UInt8) (leaf : Bool) : List UInt8 := joinL (headL p leaf ++ p)
def unpackL : List UInt8 → Option (List UInt8 × Bool)
  | [] => none
  | b :: t => if b.toNat / 16 > 3 ∨ (b.toNat / 16 % 2 = 0 ∧ b.toNat % 16 ≠ 0) then none
    else if b.toNat / 16 % 2 = 1 then some ((b % 16) :: ofL t, decide (2 ≤ b.toNat / 16)) else some (ofL t, decide (2 ≤ b.toNat / 16))
def mayL (b : UInt8) : Bool := decide (b.toNat / 16 ≤ 3) && (decide (b.toNat / 16 % 2 = 1) || decide (b.toNat % 16 = 0))
theorem unpackL_bad (b : UInt8) (t : List UInt8) (h : mayL b = false) : unpackL (b :: t) = none := by
  simp only [unpackL]
  rw [if_pos]
  simp [mayL] at h
  omega
theorem mayL_le (b : UInt8) (h : mayL b = true) : b.toNat / 16 ≤ 3 ∧ (b.toNat / 16 % 2 = 1 ∨ b.toNat % 16 = 0) := by
  simpa [mayL] using h
theorem unpackL_odd (b : UInt8) (t : List UInt8) (h : mayL b = true) (h1 : b.toNat / 16 % 2 = 1) : unpackL (b :: t) = some ((b % 16) :: ofL t, decide (2 ≤ b.toNat / 16)) := by
  have := mayL_le b h
  simp only [unpackL]
  rw [if_neg (by omega), if_pos h1]
theorem unpackL_even (b : UInt8) (t : List UInt8) (h : mayL b = true) (h1 : b.toNat / 16 % 2 = 0) : unpackL (b :: t) = some (ofL t, decide (2 ≤ b.toNat / 16)) := by
  have := mayL_le b h
  simp only [unpackL]
  rw [if_neg (by omega), if_neg (by omega)]
theorem packL_odd (a : UInt8) (t : List UInt8) (leaf : Bool) (h : t.length % 2 = 0) : packL (a :: t) leaf = ((if leaf then 48 else 16) + a) :: joinL t := by
  have : (t.length + 1) % 2 = 1 := by omega
  cases leaf <;> simp [packL, headL, kindL, this, joinL_two]
theorem packL_even (p : List UInt8) (leaf : Bool) (h : p.length % 2 = 0) : packL p leaf = (if leaf then 32 else 0) :: joinL p := by
  have : ¬ p.length % 2 = 1 := by omega
  cases leaf <;> simp [packL, headL, kindL, this, joinL_two]

end Go.Proofs.YtjfefphgikncnaaGreatDoor.Nib
namespace Go.Proofs.YtjfefphgikncnaaGreatDoor.Nib

theorem less_nil (a : List UInt8) : Op.bytesLess a [] = false := by cases a <;> rfl
theorem less_cons (a b : UInt8) (x y : List UInt8) : Op.bytesLess (a :: x) (b :: y) = (decide (a < b) || (a == b && Op.bytesLess x y)) := rfl
end Go.Proofs.YtjfefphgikncnaaGreatDoor.Nib
namespace Go.Proofs.YtjfefphgikncnaaGreatDoor.Nib

theorem ofL_cons (b : UInt8) (t : List UInt8) : ofL (b :: t) = b / 16 :: b % 16 :: ofL t := by simp [ofL]
theorem ofL_nil : ofL [] = [] := rfl
theorem split_lt (a b : UInt8) (r : Bool) : (decide (a / 16 < b / 16) || (a / 16 == b / 16 && (decide (a % 16 < b % 16) || (a % 16 == b % 16 && r)))) = (decide (a < b) || (a == b && r)) := by
  have e1 : (a / 16 < b / 16) ↔ a.toNat / 16 < b.toNat / 16 := by rw [UInt8.lt_iff_toNat_lt]; simp
  have e2 : (a % 16 < b % 16) ↔ a.toNat % 16 < b.toNat % 16 := by rw [UInt8.lt_iff_toNat_lt]; simp
  have e3 : (a < b) ↔ a.toNat < b.toNat := UInt8.lt_iff_toNat_lt
  have e4 : (a / 16 = b / 16) ↔ a.toNat / 16 = b.toNat / 16 := by rw [← UInt8.toNat_inj]; simp
  have e5 : (a % 16 = b % 16) ↔ a.toNat % 16 = b.toNat % 16 := by rw [← UInt8.toNat_inj]; simp
  have e6 : (a = b) ↔ a.toNat = b.toNat := UInt8.toNat_inj.symm
  rw [Bool.eq_iff_iff]
  simp only [Bool.or_eq_true, Bool.and_eq_true, decide_eq_true_eq, beq_iff_eq, e1, e2, e3, e4, e5, e6]
  constructor
  · rintro (h | ⟨h1, h | ⟨h2, h3⟩⟩)
    · exact Or.inl (by omega)
    · exact Or.inl (by omega)
    · exact Or.inr ⟨by omega, h3⟩
  · rintro (h | ⟨h1, h2⟩)
    · by_cases h' : a.toNat / 16 < b.toNat / 16
      · exact Or.inl h'
      · exact Or.inr ⟨by omega, Or.inl (by omega)⟩
    · exact Or.inr ⟨by omega, Or.inr ⟨by omega, h2⟩⟩
theorem less_of (a b : List UInt8) : Op.bytesLess (ofL a) (ofL b) = Op.bytesLess a b := by
  induction a generalizing b with
  | nil => cases b with
    | nil => rfl
    | cons y t => rw [ofL_cons]; rfl
  | cons x s ih => cases b with
    | nil => rw [ofL_nil, less_nil, less_nil]
    | cons y t => rw [ofL_cons, ofL_cons, less_cons, less_cons, less_cons, ih t, split_lt]
theorem byte_halves {a b : UInt8} (h1 : a / 16 = b / 16) (h2 : a % 16 = b % 16) : a = b := by
  rw [← UInt8.toNat_inj] at *
  simp at h1 h2
  omega
theorem ofL_inj (a b : List UInt8) : (ofL a == ofL b) = (a == b) := by
  rw [Bool.eq_iff_iff]
  simp only [beq_iff_eq]
  refine ⟨?_, fun h => by rw [h]⟩
  induction a generalizing b with
  | nil => cases b with
    | nil => simp
    | cons y t => rw [ofL_cons, ofL_nil]; simp
  | cons x s ih => cases b with
    | nil => rw [ofL_cons, ofL_nil]; simp
    | cons y t =>
      rw [ofL_cons, ofL_cons]
      intro h
      simp only [List.cons.injEq] at h
      rw [byte_halves h.1 h.2.1, ih t h.2.2]
end Go.Proofs.YtjfefphgikncnaaGreatDoor.Nib
namespace Go.Proofs.YtjfefphgikncnaaGreatDoor.Nib

theorem halves_join (b : UInt8) : b / 16 * 16 + b % 16 = b := by
  rw [← UInt8.toNat_inj]
  have := b.toNat_lt
  simp [UInt8.toNat_add, UInt8.toNat_mul]
  omega
theorem join_of (l : List UInt8) : joinL (ofL l) = l := by
  induction l with
  | nil => rfl
  | cons b t ih => rw [ofL_cons, joinL_two, ih, halves_join]
theorem fit_of (l : List UInt8) : fitL (ofL l) = true := by
  induction l with
  | nil => rfl
  | cons b t ih =>
    rw [ofL_cons]
    have h1 : (b / 16).toNat ≤ 15 := by have := b.toNat_lt; simp; omega
    have h2 : (b % 16).toNat ≤ 15 := by simp; omega
    unfold fitL at ih ⊢
    simp only [List.all_cons, ih, Bool.and_true, Bool.and_eq_true, decide_eq_true_eq]
    exact ⟨h1, h2⟩
theorem join_div (a b : UInt8) (ha : a.toNat ≤ 15) (hb : b.toNat ≤ 15) : (a * 16 + b) / 16 = a := by
  rw [← UInt8.toNat_inj]; simp [UInt8.toNat_add, UInt8.toNat_mul]; omega
theorem join_mod (a b : UInt8) (_ha : a.toNat ≤ 15) (hb : b.toNat ≤ 15) : (a * 16 + b) % 16 = b := by
  rw [← UInt8.toNat_inj]; simp [UInt8.toNat_add, UInt8.toNat_mul]; omega
theorem of_join (l : List UInt8) (hf : fitL l = true) (he : l.length % 2 = 0) : ofL (joinL l) = l := by
  match l, hf, he with
  | [], _, _ => rfl
  | [_], _, he => simp at he
  | a :: b :: t, hf, he =>
    have ha := fitL_get (a :: b :: t) hf 0 (by simp)
    have hb := fitL_get (a :: b :: t) hf 1 (by simp)
    simp at ha hb
    rw [joinL_two, ofL_cons, join_div a b ha hb, join_mod a b ha hb, of_join t (fitL_tail b t (fitL_tail a (b :: t) hf)) (by simp at he; omega)]

theorem unpack_pack (p : List UInt8) (leaf : Bool) (hf : fitL p = true) : unpackL (packL p leaf) = some (p, leaf) := by
  rcases Nat.mod_two_eq_zero_or_one p.length with h | h
  · rw [packL_even p leaf h]
    cases leaf
    · rw [if_neg (by simp), unpackL_even _ _ (by decide) (by decide), of_join p hf h]; rfl
    · rw [if_pos rfl, unpackL_even _ _ (by decide) (by decide), of_join p hf h]; rfl
  · match p, hf, h with
    | a :: t, hf, h =>
      have ht : t.length % 2 = 0 := by simp at h; omega
      have ha := fitL_get (a :: t) hf 0 (by simp)
      simp at ha
      rw [packL_odd a t leaf ht]
      cases leaf
      · rw [if_neg (by simp)]
        have e : (16 + a).toNat = 16 + a.toNat := by simp [UInt8.toNat_add]; omega
        have em : (16 + a) % 16 = a := by rw [← UInt8.toNat_inj]; simp [UInt8.toNat_add]; omega
        rw [unpackL_odd _ _ (by simp [mayL, e]; omega) (by rw [e]; omega), of_join t (fitL_tail a t hf) ht, em, e]
        simp; omega
      · rw [if_pos rfl]
        have e : (48 + a).toNat = 48 + a.toNat := by simp [UInt8.toNat_add]; omega
        have em : (48 + a) % 16 = a := by rw [← UInt8.toNat_inj]; simp [UInt8.toNat_add]; omega
        rw [unpackL_odd _ _ (by simp [mayL, e]; omega) (by rw [e]; omega), of_join t (fitL_tail a t hf) ht, em, e]
        simp; omega
theorem packL_length (p : List UInt8) (leaf : Bool) : (packL p leaf).length = p.length / 2 + 1 := by
  rcases Nat.mod_two_eq_zero_or_one p.length with h | h
  · rw [packL_even p leaf h]; simp [joinL_length]
  · match p, h with
    | a :: t, h =>
      rw [packL_odd a t leaf (by simp at h; omega)]; simp [joinL_length]; simp at h; omega
theorem unpackL_may (b : UInt8) (t p : List UInt8) (is : Bool) (h : unpackL (b :: t) = some (p, is)) : mayL b = true := by
  rcases hm : mayL b with _ | _
  · rw [unpackL_bad b t hm] at h; cases h
  · rfl
theorem fit_cons (a : UInt8) (t : List UInt8) (ha : a.toNat ≤ 15) (h : fitL t = true) : fitL (a :: t) = true := by
  unfold fitL at *; rw [List.all_cons, h]; simpa using ha
theorem unpack_fit (s p : List UInt8) (is : Bool) (h : unpackL s = some (p, is)) : fitL p = true ∧ packL p is = s := by
  match s, h with
  | b :: t, h =>
    have hm := unpackL_may b t p is h
    have hle := mayL_le b hm
    rcases Nat.mod_two_eq_zero_or_one (b.toNat / 16) with h1 | h1
    · rw [unpackL_even b t hm h1] at h
      simp only [Option.some.injEq, Prod.mk.injEq] at h
      obtain ⟨rfl, rfl⟩ := h
      refine ⟨fit_of t, ?_⟩
      rw [packL_even _ _ (by rw [ofL_length]; omega), join_of]
      congr 1
      rw [← UInt8.toNat_inj]
      by_cases h2 : 2 ≤ b.toNat / 16
      · simp [h2]; omega
      · simp [h2]; omega
    · rw [unpackL_odd b t hm h1] at h
      simp only [Option.some.injEq, Prod.mk.injEq] at h
      obtain ⟨rfl, rfl⟩ := h
      refine ⟨fit_cons _ _ (by simp; omega) (fit_of t), ?_⟩
      rw [packL_odd _ _ _ (by rw [ofL_length]; omega), join_of]
      congr 1
      rw [← UInt8.toNat_inj]
      by_cases h2 : 2 ≤ b.toNat / 16
      · simp [h2, UInt8.toNat_add]; omega
      · simp [h2, UInt8.toNat_add]; omega
end Go.Proofs.YtjfefphgikncnaaGreatDoor.Nib
namespace Go.Proofs.YtjfefphgikncnaaGreatDoor.Code

def sz (n : Nat) : Nat := if _h : n = 0 then 0 else sz (n / 256) + 1
def be : Nat → Nat → List UInt8
  | 0, _ => []
  | k + 1, n => be k (n / 256) ++ [UInt8.ofNat (n % 256)]
def numL (n : Nat) : List UInt8 := UInt8.ofNat (sz n) :: be (sz n) n
def textL (s : List UInt8) : List UInt8 := numL s.length ++ s
def val (l : List UInt8) : Nat := l.foldl (fun a d => a * 256 + d.toNat) 0
def lenN (n : Nat) : Nat := if n = 0 then 0 else n.log2 + 1

theorem sz_zero : sz 0 = 0 := by rw [sz]; simp
theorem sz_pos (n : Nat) (h : n ≠ 0) : sz n = sz (n / 256) + 1 := by rw [sz]; simp [h]
theorem be_length (k n : Nat) : (be k n).length = k := by
  induction k generalizing n with
  | zero => rfl
  | succ k ih => simp [be, ih]
theorem be_step (k i n : Nat) (h : i < k) : be i (n / 256 ^ (k - i)) ++ [UInt8.ofNat (n / 256 ^ (k - 1 - i) % 256)] = be (i + 1) (n / 256 ^ (k - (i + 1))) := by
  have e : k - i = (k - (i + 1)) + 1 := by omega
  have e2 : k - 1 - i = k - (i + 1) := by omega
  rw [be, e, e2, Nat.pow_succ, ← Nat.div_div_eq_div_mul]
theorem sz_iff (n : Nat) : ∀ k, (n < 256 ^ k ∧ (k ≠ 0 → 256 ^ (k - 1) ≤ n)) → sz n = k := by
  induction n using Nat.strongRecOn with
  | _ n ih =>
    intro k ⟨h1, h2⟩
    by_cases h : n = 0
    · subst h
      rw [sz_zero]
      by_cases hk : k = 0
      · exact hk.symm
      · have := h2 hk
        have p : 0 < 256 ^ (k - 1) := Nat.pow_pos (by omega)
        omega
    · rw [sz_pos n h]
      obtain ⟨j, rfl⟩ : ∃ j, k = j + 1 := by
        cases k with
        | zero => simp at h1; omega
        | succ j => exact ⟨j, rfl⟩
      have h3 := h2 (by omega)
      simp at h3
      rw [ih (n / 256) (by omega) j ⟨?_, ?_⟩]
      · rw [Nat.pow_succ] at h1; omega
      · intro hj
        obtain ⟨i, rfl⟩ : ∃ i, j = i + 1 := ⟨j - 1, by omega⟩
        rw [Nat.pow_succ] at h3
        simp
        omega
theorem sz_bounds (n : Nat) : n < 256 ^ sz n ∧ (sz n ≠ 0 → 256 ^ (sz n - 1) ≤ n) := by
  induction n using Nat.strongRecOn with
  | _ n ih =>
    by_cases h : n = 0
    · subst h; simp [sz_zero]
    · rw [sz_pos n h]
      obtain ⟨h1, h2⟩ := ih (n / 256) (by omega)
      refine ⟨?_, fun _ => ?_⟩
      · rw [Nat.pow_succ]; omega
      · simp
        by_cases h0 : sz (n / 256) = 0
        · rw [h0]; simp; omega
        · have h3 := h2 h0
          obtain ⟨i, hi⟩ : ∃ i, sz (n / 256) = i + 1 := ⟨sz (n / 256) - 1, by omega⟩
          rw [hi] at h3 ⊢
          simp at h3
          rw [Nat.pow_succ]; omega
theorem sz_le8 (n : Nat) (h : n < 2 ^ 64) : sz n ≤ 8 := by
  have ⟨_, h2⟩ := sz_bounds n
  by_cases hk : sz n ≤ 8
  · exact hk
  · have h3 := h2 (by omega)
    have := Nat.pow_le_pow_right (n := 256) (by omega) (show 8 ≤ sz n - 1 by omega)
    have e : (256 : Nat) ^ 8 = 2 ^ 64 := by decide
    omega
theorem len_bounds (n : Nat) : n < 2 ^ lenN n ∧ (lenN n ≠ 0 → 2 ^ (lenN n - 1) ≤ n) := by
  unfold lenN
  by_cases h : n = 0
  · simp [h]
  · simp only [h, if_false, Nat.add_sub_cancel]
    exact ⟨Nat.lt_log2_self, fun _ => Nat.log2_self_le h⟩
theorem len_sz (n : Nat) : (lenN n + 7) / 8 = sz n := by
  refine (sz_iff n _ ⟨?_, fun hk => ?_⟩).symm
  · refine Nat.lt_of_lt_of_le (len_bounds n).1 ?_
    rw [show (256 : Nat) = 2 ^ 8 by decide, ← Nat.pow_mul]
    exact Nat.pow_le_pow_right (by omega) (by omega)
  · refine Nat.le_trans ?_ ((len_bounds n).2 (by omega))
    rw [show (256 : Nat) = 2 ^ 8 by decide, ← Nat.pow_mul]
    exact Nat.pow_le_pow_right (by omega) (by omega)
theorem len_shift (n j : Nat) (h : 2 ^ j ≤ n) : lenN n = j + lenN (n / 2 ^ j) := by
  have p : 0 < 2 ^ j := Nat.pow_pos (by omega)
  have hq : n / 2 ^ j ≠ 0 := by have := Nat.div_pos h p; omega
  have hn : n ≠ 0 := by omega
  unfold lenN
  simp only [hn, hq, if_false]
  have a := Nat.log2_self_le hq
  have b := Nat.lt_log2_self (n := n / 2 ^ j)
  have e : n.log2 = j + (n / 2 ^ j).log2 := by
    rw [Nat.log2_eq_iff hn]
    rw [Nat.pow_add]
    refine ⟨?_, ?_⟩
    · have := (Nat.le_div_iff_mul_le p).1 a
      rw [Nat.mul_comm]; exact this
    · have := (Nat.div_lt_iff_lt_mul p).1 b
      rw [Nat.add_assoc, Nat.pow_add, Nat.mul_comm]; exact this
  omega
theorem val_append (a : List UInt8) (d : UInt8) : val (a ++ [d]) = val a * 256 + d.toNat := by simp [val]
theorem ofNat_toNat (n : Nat) (h : n < 256) : (UInt8.ofNat n).toNat = n := by simp; omega
theorem val_be (k n : Nat) (h : n < 256 ^ k) : val (be k n) = n := by
  induction k generalizing n with
  | zero => simp [be, val]; simp at h; omega
  | succ k ih =>
    rw [be, val_append, ofNat_toNat _ (by omega), ih]
    · omega
    · rw [Nat.pow_succ] at h; omega
theorem snocInd {p : List UInt8 → Prop} (h0 : p []) (h1 : ∀ l d, p l → p (l ++ [d])) (l : List UInt8) : p l := by
  have h : ∀ r : List UInt8, p r.reverse := by
    intro r
    induction r with
    | nil => exact h0
    | cons d r ih => rw [List.reverse_cons]; exact h1 _ _ ih
  have := h l.reverse
  rwa [List.reverse_reverse] at this
theorem val_lt (l : List UInt8) : val l < 256 ^ l.length := by
  induction l using snocInd with
  | h0 => simp [val]
  | h1 l d ih =>
    rw [val_append]
    simp [Nat.pow_succ]
    have := d.toNat_lt
    omega
theorem be_val (l : List UInt8) : be l.length (val l) = l := by
  induction l using snocInd with
  | h0 => simp [val, be]
  | h1 l d ih =>
    have hd := d.toNat_lt
    rw [val_append]
    simp only [List.length_append, List.length_singleton, be]
    rw [show (val l * 256 + d.toNat) / 256 = val l by omega, ih, show (val l * 256 + d.toNat) % 256 = d.toNat by omega]
    simp
theorem val_ge (c : UInt8) (l : List UInt8) : c.toNat * 256 ^ l.length ≤ val (c :: l) ∧ val (c :: l) < (c.toNat + 1) * 256 ^ l.length := by
  induction l using snocInd with
  | h0 => simp [val]
  | h1 l d ih =>
    have hd := d.toNat_lt
    rw [← List.cons_append, val_append]
    simp only [List.length_append, List.length_singleton, Nat.pow_succ, ← Nat.mul_assoc]
    omega

/-- What the program's lead tells of bytes: the number, how many bytes it takes, the code. -/
def bad (k : Nat) (d : List UInt8) : Bool := (decide (0 < k) && (d.headD 0).toNat == 0) || (k == 8 && decide (128 ≤ (d.headD 0).toNat))
def leadL : List UInt8 → Nat × Nat × Int
  | [] => (0, 0, 20)
  | c :: r => if c.toNat > 8 then (0, 0, 3) else if r.length < c.toNat then (0, 0, 20) else if bad c.toNat (r.take c.toNat) then (0, 0, 3) else (val (r.take c.toNat), 1 + c.toNat, 0)

theorem numL_length (n : Nat) : (numL n).length = 1 + sz n := by simp [numL, be_length]; omega
theorem be_head (n : Nat) (h : n ≠ 0) : ∃ c r, be (sz n) n = c :: r ∧ r.length = sz n - 1 ∧ c.toNat ≠ 0 ∧ (n < 2 ^ 63 → sz n = 8 → c.toNat < 128) := by
  have hs := sz_pos n h
  obtain ⟨h1, h2⟩ := sz_bounds n
  have h3 := h2 (by omega)
  have hl := be_length (sz n) n
  match hb : be (sz n) n with
  | [] => rw [hb] at hl; simp at hl; omega
  | c :: r =>
    rw [hb] at hl
    simp at hl
    have hv := val_be (sz n) n h1
    have ⟨g1, g2⟩ := val_ge c r
    rw [← hb, hv] at g1 g2
    refine ⟨c, r, rfl, by omega, ?_, ?_⟩
    · intro hc
      rw [hc] at g2
      rw [show r.length = sz n - 1 by omega] at g2
      omega
    · intro hn h8
      rw [show r.length = 7 by omega] at g1
      have e : (256 : Nat) ^ 7 = 2 ^ 56 := by decide
      rw [e] at g1
      omega
theorem lead_num (n : Nat) (h : n < 2 ^ 63) (r : List UInt8) : leadL (numL n ++ r) = (n, 1 + sz n, 0) := by
  have h8 := sz_le8 n (by omega)
  have hb := (sz_bounds n).1
  have hl := be_length (sz n) n
  have ht : (be (sz n) n ++ r).take (sz n) = be (sz n) n := by
    rw [List.take_append_of_le_length (by omega), List.take_of_length_le (by omega)]
  have hbad : bad (sz n) (be (sz n) n) = false := by
    by_cases h0 : n = 0
    · subst h0; simp [bad, sz_zero]
    · obtain ⟨c, q, e, _, hc, hd⟩ := be_head n h0
      rw [e]
      simp only [bad, List.headD_cons, Bool.or_eq_false_iff, Bool.and_eq_false_iff, decide_eq_false_iff_not, beq_eq_false_iff_ne]
      refine ⟨Or.inr hc, ?_⟩
      by_cases h8 : sz n = 8
      · exact Or.inr (decide_eq_false (Nat.not_le.2 (hd h h8)))
      · exact Or.inl h8
  simp only [numL, List.cons_append, leadL]
  rw [ofNat_toNat _ (by omega), ht, hbad, val_be _ _ hb]
  simp only [List.length_append, hl]
  rw [if_neg (by omega), if_neg (by omega)]
  simp
theorem lead_ok (s : List UInt8) (h : (leadL s).2.2 = 0) : (leadL s).1 < 2 ^ 63 ∧ (leadL s).2.1 ≤ s.length ∧ s.take (leadL s).2.1 = numL (leadL s).1 := by
  match s with
  | [] => simp [leadL] at h
  | c :: r =>
    simp only [leadL] at h ⊢
    split at h
    · simp at h
    · split at h
      · simp at h
      · split at h
        · simp at h
        · rename_i h1 h2 h3
          rw [if_neg h1, if_neg h2, if_neg h3]
          simp only [Bool.not_eq_true] at h3
          have hl : (r.take c.toNat).length = c.toNat := by rw [List.length_take]; omega
          have hsz : sz (val (r.take c.toNat)) = c.toNat := by
            refine sz_iff _ _ ⟨by have := val_lt (r.take c.toNat); rw [hl] at this; exact this, fun hk => ?_⟩
            match hd : r.take c.toNat with
            | [] => rw [hd] at hl; simp at hl; omega
            | x :: q =>
              rw [hd] at hl h3
              simp at hl
              simp only [bad, List.headD_cons, Bool.or_eq_false_iff, Bool.and_eq_false_iff, decide_eq_false_iff_not, beq_eq_false_iff_ne] at h3
              have hx : x.toNat ≠ 0 := by rcases h3.1 with a | a; omega; exact a
              have ⟨g, _⟩ := val_ge x q
              rw [show c.toNat - 1 = q.length by omega]
              have : 1 * 256 ^ q.length ≤ x.toNat * 256 ^ q.length := Nat.mul_le_mul_right _ (by omega)
              omega
          refine ⟨?_, by simp; omega, ?_⟩
          · by_cases h8 : c.toNat = 8
            · match hd : r.take c.toNat with
              | [] => rw [hd] at hl; simp at hl; omega
              | x :: q =>
                rw [hd] at hl h3
                simp at hl
                simp only [bad, List.headD_cons, Bool.or_eq_false_iff, Bool.and_eq_false_iff, decide_eq_false_iff_not, beq_eq_false_iff_ne] at h3
                have hx : x.toNat < 128 := by rcases h3.2 with a | a; exact absurd h8 a; exact Nat.not_le.1 (of_decide_eq_false a)
                have ⟨_, g⟩ := val_ge x q
                have e : (256 : Nat) ^ 7 = 2 ^ 56 := by decide
                rw [show q.length = 7 by omega, e] at g
                omega
            · have := val_lt (r.take c.toNat)
              rw [hl] at this
              have e : (256 : Nat) ^ 7 = 2 ^ 56 := by decide
              have := Nat.pow_le_pow_right (n := 256) (by omega) (show c.toNat ≤ 7 by omega)
              omega
          · rw [Nat.add_comm, List.take_succ_cons, numL, hsz]
            have hb := be_val (r.take c.toNat)
            rw [hl] at hb
            rw [hb]
            simp

end Go.Proofs.YtjfefphgikncnaaGreatDoor.Code
namespace Go.Proofs.YtjfefphgikncnaaGreatDoor.Nd
open Go.Proofs.YtjfefphgikncnaaGreatDoor.Nib (fitL packL)

abbrev S := List UInt8
/-- A node: its sixteen places in a list. -/
structure N where
  kind : Int
  path : S
  val : S
  kids : List S
  deriving DecidableEq
instance : Inhabited N := ⟨⟨0, [], [], List.replicate 16 []⟩⟩
def zero : N := ⟨0, [], [], List.replicate 16 []⟩
def kidsL (l : List S) : List S := l.filter fun k => decide (k ≠ [])
def all32 (l : List S) : Bool := l.all fun k => decide (k = []) || decide (k.length = 32)
def fine (n : N) : Bool :=
  all32 n.kids && (fitL n.path && (decide (n.path.length ≤ 16) && (decide (n.val.length ≤ 32) &&
  (if n.kind = 1 then decide ((kidsL n.kids).length = 0) && decide (n.val ≠ [])
  else if n.kind = 2 then decide ((kidsL n.kids).length = 1) && (decide (n.kids.getD 0 [] ≠ []) && (decide (1 ≤ n.path.length) && decide (n.val = [])))
  else if n.kind = 3 then decide (n.path.length = 0) && (decide (2 ≤ (kidsL n.kids).length) || (decide ((kidsL n.kids).length = 1) && decide (n.val ≠ [])))
  else false))))
/-- Which of eight places are taken, the highest first. -/
def bits8 (l : List S) : Nat := l.foldl (fun a k => a * 2 + if k = [] then 0 else 1) 0
def byteN (n : Nat) : UInt8 := UInt8.ofNat n
def branchL (n : N) : S := byteN (bits8 (n.kids.take 8)) :: byteN (bits8 (n.kids.drop 8)) :: (n.kids.flatten ++ Code.textL n.val)
def written (n : N) : S :=
  UInt8.ofNat (n.kind % 256).toNat :: (if n.kind = 3 then branchL n else Code.textL (packL n.path (decide (n.kind = 1))) ++ (if n.kind = 1 then Code.textL n.val else n.kids.getD 0 []))

/-! ### what the sixteen bits say -/
def bitAt (b i : Nat) : Bool := decide (b / 2 ^ (7 - i) % 2 = 1)
theorem bits8_eq (a b c d e f g h : S) : bits8 [a, b, c, d, e, f, g, h] = (((((((if a = [] then 0 else 1) * 2 + (if b = [] then 0 else 1)) * 2 + (if c = [] then 0 else 1)) * 2 + (if d = [] then 0 else 1)) * 2 + (if e = [] then 0 else 1)) * 2 + (if f = [] then 0 else 1)) * 2 + (if g = [] then 0 else 1)) * 2 + (if h = [] then 0 else 1) := by
  simp [bits8]
def num8 (a b c d e f g h : Bool) : Nat := (((((((a.toNat * 2 + b.toNat) * 2 + c.toNat) * 2 + d.toNat) * 2 + e.toNat) * 2 + f.toNat) * 2 + g.toNat) * 2 + h.toNat)
theorem num8_bits : ∀ a b c d e f g h : Bool, num8 a b c d e f g h < 256 ∧ bitAt (num8 a b c d e f g h) 0 = a ∧ bitAt (num8 a b c d e f g h) 1 = b ∧ bitAt (num8 a b c d e f g h) 2 = c ∧ bitAt (num8 a b c d e f g h) 3 = d ∧ bitAt (num8 a b c d e f g h) 4 = e ∧ bitAt (num8 a b c d e f g h) 5 = f ∧ bitAt (num8 a b c d e f g h) 6 = g ∧ bitAt (num8 a b c d e f g h) 7 = h := by
  decide +kernel
theorem num8_back : ∀ n : Fin 256, num8 (bitAt n.val 0) (bitAt n.val 1) (bitAt n.val 2) (bitAt n.val 3) (bitAt n.val 4) (bitAt n.val 5) (bitAt n.val 6) (bitAt n.val 7) = n.val := by
  decide +kernel
theorem bits8_num (l : List S) (h : l.length = 8) : bits8 l = num8 (decide (l[0] ≠ [])) (decide (l[1] ≠ [])) (decide (l[2] ≠ [])) (decide (l[3] ≠ [])) (decide (l[4] ≠ [])) (decide (l[5] ≠ [])) (decide (l[6] ≠ [])) (decide (l[7] ≠ [])) := by
  match l, h with
  | [a, b, c, d, e, f, g, i], _ =>
    rw [bits8_eq]
    have key : ∀ x : S, (if x = [] then 0 else 1) = (decide (x ≠ [])).toNat := fun x => by by_cases hx : x = [] <;> simp [hx]
    simp only [key, num8]
    rfl
theorem bits8_lt (l : List S) (h : l.length = 8) : bits8 l < 256 := by
  rw [bits8_num l h]
  exact (num8_bits ..).1
theorem bits8_at (l : List S) (h : l.length = 8) (i : Nat) (hi : i < 8) : bitAt (bits8 l) i = decide (l[i] ≠ []) := by
  rw [bits8_num l h]
  obtain ⟨_, h0, h1, h2, h3, h4, h5, h6, h7⟩ := num8_bits (decide (l[0] ≠ [])) (decide (l[1] ≠ [])) (decide (l[2] ≠ [])) (decide (l[3] ≠ [])) (decide (l[4] ≠ [])) (decide (l[5] ≠ [])) (decide (l[6] ≠ [])) (decide (l[7] ≠ []))
  match i, hi with
  | 0, _ => exact h0
  | 1, _ => exact h1
  | 2, _ => exact h2
  | 3, _ => exact h3
  | 4, _ => exact h4
  | 5, _ => exact h5
  | 6, _ => exact h6
  | 7, _ => exact h7
theorem bits8_back (l : List S) (h : l.length = 8) (b : UInt8) (hb : ∀ i (hi : i < 8), decide (l[i] ≠ []) = bitAt b.toNat i) : bits8 l = b.toNat := by
  rw [bits8_num l h, hb 0 (by omega), hb 1 (by omega), hb 2 (by omega), hb 3 (by omega), hb 4 (by omega), hb 5 (by omega), hb 6 (by omega), hb 7 (by omega)]
  exact num8_back ⟨b.toNat, b.toNat_lt⟩

/-! ### reading a node's bytes -/
/-- The bytes that are left, and what was wrong first. -/
abbrev St := S × Int
def rdB (n : Nat) (st : St) : S × St := if st.2 ≠ 0 then ([], st) else if st.1.length < n then ([], st.1, 20) else (st.1.take n, st.1.drop n, 0)
theorem rdB_app (a r : S) (n : Nat) (h : a.length = n) : rdB n (a ++ r, 0) = (a, r, 0) := by
  subst h
  simp [rdB]
theorem rdB_ok {n : Nat} {st : St} (h : (rdB n st).2.2 = 0) : st.2 = 0 ∧ st.1 = (rdB n st).1 ++ (rdB n st).2.1 ∧ (rdB n st).1.length = n := by
  unfold rdB at h ⊢
  split at h
  · rename_i hc; exact absurd h hc
  · rename_i hc
    rw [if_neg hc]
    split at h
    · cases h
    · rename_i hl
      rw [if_neg hl]
      simp only [ne_eq, Decidable.not_not] at hc
      exact ⟨hc, by simp, by simp; omega⟩
/-- The sixteen places, one by one. -/
def rdKids (b : Nat → Bool) : Nat → St → List S × St
  | 0, st => ([], st)
  | k + 1, st =>
    let p := rdKids b k st
    if b k then (p.1 ++ [(rdB 32 p.2).1], (rdB 32 p.2).2) else (p.1 ++ [[]], p.2)
theorem rdKids_len (b : Nat → Bool) (k : Nat) (st : St) : (rdKids b k st).1.length = k := by
  induction k with
  | zero => rfl
  | succ k ih =>
    simp only [rdKids]
    split <;> simp [ih]
theorem rdKids_app (l : List S) (h : all32 l = true) (b : Nat → Bool) (k : Nat) (hk : k ≤ l.length) (hb : ∀ i (hi : i < k), b i = decide (l[i]'(by omega) ≠ [])) (r : S) : rdKids b k ((l.take k).flatten ++ r, 0) = (l.take k, r, 0) := by
  induction k generalizing r with
  | zero => simp [rdKids]
  | succ k ih =>
    have hlt : k < l.length := by omega
    have h1 := List.take_succ_eq_append_getElem hlt
    have h2 : ∀ r, rdKids b k ((l.take k).flatten ++ r, 0) = (l.take k, r, 0) := fun r => ih (by omega) (fun i hi => hb i (by omega)) r
    have h3 : l[k] = [] ∨ l[k].length = 32 := by
      have := List.all_eq_true.1 h l[k] (List.getElem_mem hlt)
      simpa using this
    simp only [rdKids]
    rw [h1, List.flatten_append, List.append_assoc, h2, hb k (Nat.lt_succ_self k)]
    by_cases he : l[k] = []
    · simp [he]
    · have h4 := h3.resolve_left he
      rw [if_pos (by simpa using he)]
      have h5 := rdB_app l[k] r 32 h4
      simp only [List.flatten_cons, List.flatten_nil, List.append_nil]
      rw [h5]
theorem rdKids_ok (b : Nat → Bool) (k : Nat) (st : St) (h : (rdKids b k st).2.2 = 0) : st.2 = 0 ∧ st.1 = (rdKids b k st).1.flatten ++ (rdKids b k st).2.1 ∧ all32 (rdKids b k st).1 = true ∧ ∀ i (hi : i < k), b i = decide ((rdKids b k st).1[i]'(by rw [rdKids_len]; exact hi) ≠ []) := by
  induction k with
  | zero => exact ⟨h, by simp [rdKids], rfl, fun i hi => absurd hi (by omega)⟩
  | succ k ih =>
    have hl := rdKids_len b k st
    by_cases hb : b k = true
    · have e : rdKids b (k + 1) st = ((rdKids b k st).1 ++ [(rdB 32 (rdKids b k st).2).1], (rdB 32 (rdKids b k st).2).2) := by simp [rdKids, hb]
      simp only [e] at h ⊢
      obtain ⟨h1, h2, h3⟩ := rdB_ok h
      obtain ⟨i1, i2, i3, i4⟩ := ih h1
      refine ⟨i1, ?_, ?_, ?_⟩
      · rw [i2]
        simp only [List.flatten_append, List.flatten_cons, List.flatten_nil, List.append_nil, List.append_assoc]
        rw [← h2]
      · simp only [all32, List.all_append, Bool.and_eq_true] at i3 ⊢
        exact ⟨i3, by simp [h3]⟩
      · intro i hi
        by_cases hik : i < k
        · rw [List.getElem_append_left (by omega)]
          exact i4 i hik
        · obtain rfl : i = k := by omega
          rw [List.getElem_append_right (by omega)]
          have : (rdB 32 (rdKids b i st).2).1 ≠ [] := fun q => by rw [q] at h3; simp at h3
          simp [hb, this]
    · have hbf : b k = false := by simpa using hb
      have e : rdKids b (k + 1) st = ((rdKids b k st).1 ++ [[]], (rdKids b k st).2) := by simp [rdKids, hbf]
      simp only [e] at h ⊢
      obtain ⟨i1, i2, i3, i4⟩ := ih h
      refine ⟨i1, by rw [i2]; simp, ?_, ?_⟩
      · simp only [all32, List.all_append, Bool.and_eq_true] at i3 ⊢
        exact ⟨i3, by simp⟩
      · intro i hi
        by_cases hik : i < k
        · rw [List.getElem_append_left (by omega)]
          exact i4 i hik
        · obtain rfl : i = k := by omega
          rw [List.getElem_append_right (by omega)]
          simp [hbf, hl]
end Go.Proofs.YtjfefphgikncnaaGreatDoor.Nd
namespace Go.Proofs.YtjfefphgikncnaaGreatDoor.Sto
def On (m : List Bool) (j : Nat) : Prop := m[j]? = some true
instance (m : List Bool) (j : Nat) : Decidable (On m j) := inferInstanceAs (Decidable (m[j]? = some true))
def mark (m : List Bool) (ks : List Nat) : List Bool := ks.foldl (fun m k => m.set k true) m
def pass1 (K : Nat → List Nat) (m : List Bool) (i : Nat) : List Bool := if On m i then mark m (K i) else m
def pass (K : Nat → List Nat) (l : List Nat) (m : List Bool) : List Bool := l.foldl (pass1 K) m
def rounds (K : Nat → List Nat) (l : List Nat) : Nat → List Bool → List Bool
  | 0, m => m
  | t + 1, m => rounds K l t (pass K l m)
inductive Rch (K : Nat → List Nat) (p : Nat → Prop) : Nat → Prop
  | here {i} : p i → Rch K p i
  | step {i k} : Rch K p i → k ∈ K i → Rch K p k

theorem On.lt {m : List Bool} {j : Nat} (h : On m j) : j < m.length := by
  unfold On at h
  exact (List.getElem?_eq_some_iff.1 h).1
theorem set_on (m : List Bool) (k j : Nat) : On (m.set k true) j ↔ On m j ∨ (j = k ∧ j < m.length) := by
  unfold On
  rw [List.getElem?_set]
  by_cases h : k = j
  · subst h
    by_cases hl : k < m.length
    · simp [hl]
    · simp [hl]
  · have : ¬ j = k := fun e => h e.symm
    simp [h, this]
theorem mark_len (ks : List Nat) : ∀ m : List Bool, (mark m ks).length = m.length := by
  induction ks with
  | nil => intro m; rfl
  | cons k r ih => intro m; show (mark (m.set k true) r).length = _; rw [ih]; simp
theorem mark_on (ks : List Nat) : ∀ (m : List Bool) (j : Nat), On (mark m ks) j ↔ On m j ∨ (j ∈ ks ∧ j < m.length) := by
  induction ks with
  | nil => intro m j; simp [mark]
  | cons k r ih =>
    intro m j
    show On (mark (m.set k true) r) j ↔ _
    rw [ih, set_on, List.length_set, List.mem_cons]
    constructor
    · rintro ((h | ⟨h, hl⟩) | ⟨h, hl⟩)
      · exact .inl h
      · exact .inr ⟨.inl h, hl⟩
      · exact .inr ⟨.inr h, hl⟩
    · rintro (h | ⟨h | h, hl⟩)
      · exact .inl (.inl h)
      · exact .inl (.inr ⟨h, hl⟩)
      · exact .inr ⟨h, hl⟩
def Le (m m' : List Bool) : Prop := m.length = m'.length ∧ ∀ j, On m j → On m' j
theorem Le.refl (m : List Bool) : Le m m := ⟨rfl, fun _ h => h⟩
theorem Le.trans {a b c : List Bool} (h : Le a b) (g : Le b c) : Le a c := ⟨h.1.trans g.1, fun j x => g.2 j (h.2 j x)⟩
theorem pass1_le (K : Nat → List Nat) (m : List Bool) (i : Nat) : Le m (pass1 K m i) := by
  unfold pass1
  split
  · exact ⟨(mark_len _ _).symm, fun j h => (mark_on _ _ _).2 (.inl h)⟩
  · exact Le.refl m
theorem pass_le (K : Nat → List Nat) (l : List Nat) : ∀ m, Le m (pass K l m) := by
  induction l with
  | nil => intro m; exact Le.refl m
  | cons i r ih => intro m; exact (pass1_le K m i).trans (ih _)
theorem rounds_le (K : Nat → List Nat) (l : List Nat) : ∀ t m, Le m (rounds K l t m) := by
  intro t
  induction t with
  | zero => intro m; exact Le.refl m
  | succ t ih => intro m; exact (pass_le K l m).trans (ih _)
theorem pass1_sound (K : Nat → List Nat) (p : Nat → Prop) (m : List Bool) (i : Nat) (h : ∀ j, On m j → Rch K p j) : ∀ j, On (pass1 K m i) j → Rch K p j := by
  intro j hj
  unfold pass1 at hj
  split at hj
  · rcases (mark_on _ _ _).1 hj with hj | ⟨hj, -⟩
    · exact h j hj
    · exact .step (h i ‹_›) hj
  · exact h j hj
theorem pass_sound (K : Nat → List Nat) (p : Nat → Prop) (l : List Nat) : ∀ m : List Bool, (∀ j, On m j → Rch K p j) → ∀ j, On (pass K l m) j → Rch K p j := by
  induction l with
  | nil => intro m h; exact h
  | cons i r ih => intro m h; exact ih _ (pass1_sound K p m i h)
theorem rounds_sound (K : Nat → List Nat) (p : Nat → Prop) (l : List Nat) : ∀ (t : Nat) (m : List Bool), (∀ j, On m j → Rch K p j) → ∀ j, On (rounds K l t m) j → Rch K p j := by
  intro t
  induction t with
  | zero => intro m h; exact h
  | succ t ih => intro m h; exact ih _ (pass_sound K p l m h)
/-- What a pass leaves as it was is closed. -/
def Closed (K : Nat → List Nat) (l : List Nat) (m : List Bool) : Prop := ∀ i ∈ l, On m i → ∀ k ∈ K i, k < m.length → On m k
theorem pass_closed (K : Nat → List Nat) (l : List Nat) : ∀ m : List Bool, Closed K l m → Le (pass K l m) m := by
  induction l with
  | nil => intro m _; exact Le.refl m
  | cons i r ih =>
    intro m h
    have e : Le (pass1 K m i) m := by
      unfold pass1
      split
      · rename_i hi
        refine ⟨mark_len _ _, fun j hj => ?_⟩
        rcases (mark_on _ _ _).1 hj with hj | ⟨hj, hl⟩
        · exact hj
        · exact h i (by simp) hi j hj hl
      · exact Le.refl m
    have c : Closed K r (pass1 K m i) := fun a ha hon k hk hl => by
      have := h a (by simp [ha]) (e.2 a hon) k hk (by rw [← e.1]; exact hl)
      exact (pass1_le K m i).2 k this
    exact (ih _ c).trans e
theorem closed_of_pass (K : Nat → List Nat) (l : List Nat) : ∀ m m0 : List Bool, Le m0 m → Le (pass K l m) m0 → Closed K l m0 := by
  induction l with
  | nil => intro m m0 _ _ i hi; simp at hi
  | cons a r ih =>
    intro m m0 h0 h i hi hon k hk hl
    rcases List.mem_cons.1 hi with rfl | hi
    · have hp : On (pass1 K m i) k := by
        unfold pass1
        rw [if_pos (h0.2 i hon)]
        exact (mark_on _ _ _).2 (.inr ⟨hk, by rw [← h0.1]; exact hl⟩)
      exact h.2 k ((pass_le K r (pass1 K m i)).2 k hp)
    · exact ih (pass1 K m a) m0 (h0.trans (pass1_le K m a)) h i hi hon k hk hl
def ons (m : List Bool) : Nat := m.countP id
theorem ons_le_of : ∀ m m' : List Bool, Le m m' → ons m ≤ ons m' := by
  intro m
  induction m with
  | nil => intro m' h; simp [ons]
  | cons a r ih =>
    intro m' h
    cases m' with
    | nil => simp [Le] at h
    | cons b q =>
      have hr : Le r q := ⟨by have := h.1; simpa using this, fun j hj => by have := h.2 (j + 1); simpa [On] using this (by simpa [On] using hj)⟩
      have := ih q hr
      have hab : a = true → b = true := fun e => by have := h.2 0; simpa [On, e] using this
      cases a <;> cases b <;> simp [ons] at * <;> omega
theorem le_of_ons : ∀ m m' : List Bool, Le m m' → ons m' ≤ ons m → Le m' m := by
  intro m
  induction m with
  | nil => intro m' h _; cases m' with
    | nil => exact Le.refl _
    | cons b q => simp [Le] at h
  | cons a r ih =>
    intro m' h hc
    cases m' with
    | nil => simp [Le] at h
    | cons b q =>
      have hr : Le r q := ⟨by have := h.1; simpa using this, fun j hj => by have := h.2 (j + 1); simpa [On] using this (by simpa [On] using hj)⟩
      have hle := ons_le_of r q hr
      have hab : a = true → b = true := fun e => by have := h.2 0; simpa [On, e] using this
      have key : b = a ∧ ons q ≤ ons r := by
        cases a <;> cases b <;> simp [ons] at * <;> omega
      obtain ⟨rfl, hq⟩ := key
      have hb := ih q hr hq
      refine ⟨h.1.symm, fun j hj => ?_⟩
      cases j with
      | zero => simpa [On] using hj
      | succ j => have := hb.2 j; simpa [On] using this (by simpa [On] using hj)
theorem ons_le_len (m : List Bool) : ons m ≤ m.length := List.countP_le_length
theorem all_on (m : List Bool) (h : m.length ≤ ons m) (j : Nat) (hj : j < m.length) : On m j := by
  have e : ons m = m.length := Nat.le_antisymm (ons_le_len m) h
  have := (List.countP_eq_length.1 e) m[j] (List.getElem_mem hj)
  unfold On
  rw [List.getElem?_eq_getElem hj]
  simpa using this
theorem rounds_closed (K : Nat → List Nat) (l : List Nat) : ∀ (t : Nat) (m : List Bool), m.length ≤ ons m + t → Closed K l (rounds K l t m) := by
  intro t
  induction t with
  | zero => intro m h i _ _ k _ hl; exact all_on m h k hl
  | succ t ih =>
    intro m h
    by_cases hc : ons m < ons (pass K l m)
    · refine ih _ ?_
      rw [← (pass_le K l m).1]
      omega
    · have hback := le_of_ons m _ (pass_le K l m) (by omega)
      have hcl : Closed K l m := closed_of_pass K l m m (Le.refl m) hback
      -- closed stays
      have stay : ∀ t (m' : List Bool), Le m m' → Le m' m → Le (rounds K l t m') m := by
        intro t
        induction t with
        | zero => intro m' _ h'; exact h'
        | succ t iht =>
          intro m' h1 h2
          have c' : Closed K l m' := fun a ha hon k hk hl' => h1.2 k (hcl a ha (h2.2 a hon) k hk (by rw [h1.1]; exact hl'))
          exact iht _ (h1.trans (pass_le K l m')) ((pass_closed K l m' c').trans h2)
      have hs := stay (t + 1) m (Le.refl m) (Le.refl m)
      have hle := rounds_le K l (t + 1) m
      intro a ha hon k hk hl'
      exact hle.2 k (hcl a ha (hs.2 a hon) k hk (by rw [hle.1]; exact hl'))
/-- As many rounds as there are places: just what is reached is marked. -/
theorem rounds_reach (K : Nat → List Nat) (n : Nat) (m : List Bool) (hm : m.length = n) (hK : ∀ i k, k ∈ K i → k < n) (j : Nat) :
    On (rounds K (List.range n) n m) j ↔ Rch K (On m) j := by
  have hlen : (rounds K (List.range n) n m).length = n := by rw [← (rounds_le K (List.range n) n m).1, hm]
  constructor
  · exact rounds_sound K (On m) _ n m (fun j h => .here h) j
  · intro h
    induction h with
    | here h => exact (rounds_le K _ n m).2 _ h
    | step _ hk ih =>
      refine rounds_closed K (List.range n) n m (by omega) _ (List.mem_range.2 ?_) ih _ hk (by rw [hlen]; exact hK _ _ hk)
      have := ih.lt
      omega
end Go.Proofs.YtjfefphgikncnaaGreatDoor.Sto
namespace Go.Proofs.YtjfefphgikncnaaGreatDoor
open Go.Proofs.YtjfefphgikncnaaGreatDoor.Nd (N)
def Nd.pathB (p : List UInt8) : Bool := decide (p.length ≤ 16) && Nib.fitL p
def Nd.none16 : List (List UInt8) := List.replicate 16 []
def Nd.leafB (n : N) : Bool := Nd.pathB n.path && (decide (n.val ≠ []) && (decide (n.val.length ≤ 32) && (n.kids == Nd.none16)))
def Nd.extB (n : N) : Bool := decide (n.path ≠ []) && (Nd.pathB n.path && (decide (n.val = []) && (decide ((n.kids.getD 0 []).length = 32) && (n.kids.set 0 [] == Nd.none16))))
def Nd.branchB (n : N) : Bool := decide (n.path = []) && (decide (n.val.length ≤ 32) && (Nd.all32 n.kids && decide (2 ≤ (if n.val = [] then 0 else 1) + (Nd.kidsL n.kids).length)))
theorem Nd.all32_take (l : List (List UInt8)) (k : Nat) (hk : k < l.length) : Nd.all32 (l.take (k + 1)) = (Nd.all32 (l.take k) && (decide (l[k] = []) || decide (l[k].length = 32))) := by
  unfold Nd.all32
  rw [List.take_succ_eq_append_getElem hk, List.all_append]
  simp
def Nd.takenL (L : List (List UInt8)) : List UInt8 := [Nd.byteN (Nd.bits8 (L.take 8)), Nd.byteN (Nd.bits8 (L.drop 8))]
theorem Nd.kidsL_nil (l : List (List UInt8)) : Nd.kidsL l = [] ↔ l = List.replicate l.length [] := by
  unfold Nd.kidsL
  rw [List.filter_eq_nil_iff, List.eq_replicate_iff]
  simp
theorem Nd.all32_none (k : Nat) : Nd.all32 (List.replicate k []) = true := by
  simp [Nd.all32]
theorem Nd.all32_cons (x : List UInt8) (l : List (List UInt8)) : Nd.all32 (x :: l) = ((decide (x = []) || decide (x.length = 32)) && Nd.all32 l) := rfl
theorem Nd.kidsL_cons (x : List UInt8) (l : List (List UInt8)) : Nd.kidsL (x :: l) = if x = [] then Nd.kidsL l else x :: Nd.kidsL l := by
  unfold Nd.kidsL
  by_cases h : x = [] <;> simp [h]
theorem Nd.fine_kinds (n : N) (hn : n.kids.length = 16) : Nd.fine n = if n.kind = 1 then Nd.leafB n else if n.kind = 2 then Nd.extB n else if n.kind = 3 then Nd.branchB n else false := by
  obtain ⟨kd, p, v, ks⟩ := n
  simp only at hn
  by_cases k1 : kd = 1
  · subst k1
    rw [if_pos rfl, Bool.eq_iff_iff]
    have h0 := Nd.kidsL_nil ks
    rw [hn] at h0
    simp only [Nd.fine, Nd.leafB, Nd.pathB, Nd.none16, if_pos, Bool.and_eq_true, decide_eq_true_eq, List.length_eq_zero_iff, beq_iff_eq, h0]
    constructor
    · rintro ⟨-, a, b, c, d, e⟩
      exact ⟨⟨b, a⟩, e, c, d⟩
    · rintro ⟨⟨b, a⟩, e, c, d⟩
      exact ⟨by rw [d]; exact Nd.all32_none 16, a, b, c, d, e⟩
  rw [if_neg k1]
  by_cases k2 : kd = 2
  · subst k2
    rw [if_pos rfl, Bool.eq_iff_iff]
    match ks, hn with
    | z :: l, hn =>
      have hl : l.length = 15 := by simpa using hn
      have h0 := Nd.kidsL_nil l
      rw [hl] at h0
      have h1 : ((z :: l).set 0 [] = Nd.none16) ↔ l = List.replicate 15 [] := by
        simp [Nd.none16, List.replicate_succ]
      simp only [Nd.fine, Nd.extB, Nd.pathB, if_neg (show ¬ (2 : Int) = 1 by decide), if_pos, Bool.and_eq_true, decide_eq_true_eq, beq_iff_eq, h1, Nd.all32_cons, Nd.kidsL_cons, List.getD_cons_zero, Bool.or_eq_true]
      constructor
      · rintro ⟨⟨a1, a2⟩, b, c, d, e, f, g, h⟩
        rw [if_neg f, List.length_cons] at e
        have e0 : Nd.kidsL l = [] := List.eq_nil_of_length_eq_zero (by omega)
        exact ⟨fun q => by rw [q] at g; simp at g, ⟨c, b⟩, h, a1.resolve_left f, h0.1 e0⟩
      · rintro ⟨a, ⟨c, b⟩, h, d, e⟩
        have hz : z ≠ [] := fun q => by rw [q] at d; simp at d
        refine ⟨⟨Or.inr d, by rw [e]; exact Nd.all32_none 15⟩, b, c, by rw [h]; simp, ?_, hz, ?_, h⟩
        · rw [if_neg hz, h0.2 e]; rfl
        · cases p with
          | nil => exact absurd rfl a
          | cons x y => simp
  rw [if_neg k2]
  by_cases k3 : kd = 3
  · subst k3
    rw [if_pos rfl, Bool.eq_iff_iff]
    simp only [Nd.fine, Nd.branchB, if_neg (show ¬ (3 : Int) = 1 by decide), if_neg (show ¬ (3 : Int) = 2 by decide), if_pos, Bool.and_eq_true, decide_eq_true_eq, Bool.or_eq_true]
    constructor
    · rintro ⟨a, b, c, d, e, f⟩
      refine ⟨List.eq_nil_of_length_eq_zero e, d, a, ?_⟩
      by_cases hv : v = []
      · rw [if_pos hv]
        rcases f with f | f
        · omega
        · exact absurd hv f.2
      · rw [if_neg hv]
        omega
    · rintro ⟨a, b, c, d⟩
      subst a
      refine ⟨c, rfl, Nat.zero_le _, b, rfl, ?_⟩
      by_cases hv : v = []
      · rw [if_pos hv] at d
        exact Or.inl (by omega)
      · rw [if_neg hv] at d
        by_cases h2 : 2 ≤ (Nd.kidsL ks).length
        · exact Or.inl h2
        · exact Or.inr ⟨by omega, hv⟩
  rw [if_neg k3]
  simp [Nd.fine, k1, k2, k3]
end Go.Proofs.YtjfefphgikncnaaGreatDoor
