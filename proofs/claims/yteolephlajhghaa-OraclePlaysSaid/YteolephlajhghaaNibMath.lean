/-
  Plain functions on lists of bytes for layer 1 (half bytes), and what follows for them. No program is named here.
-/
namespace Go.Proofs.Yteolephlajhghaa.Nib

def fitL (l : List UInt8) : Bool := l.all fun b => decide (b.toNat ≤ 15)
def ofL (l : List UInt8) : List UInt8 := l.flatMap fun (b : UInt8) => [b / 16, b % 16]
def joinL : List UInt8 → List UInt8
  | a :: b :: t => (a * 16 + b) :: joinL t
  | _ => []
def commonL : List UInt8 → List UInt8 → Nat
  | a :: s, b :: t => if a = b then commonL s t + 1 else 0
  | _, _ => 0

theorem take_snoc {α : Type} (l : List α) (k : Nat) (h : k < l.length) : l.take (k + 1) = l.take k ++ [l[k]] := List.take_succ_eq_append_getElem h

theorem fitL_take_succ (l : List UInt8) (k : Nat) (h : k < l.length) : fitL (l.take (k + 1)) = (fitL (l.take k) && decide (l[k].toNat ≤ 15)) := by
  unfold fitL; rw [take_snoc l k h, List.all_append]; simp
theorem fitL_false (l : List UInt8) (k : Nat) (h : k < l.length) (hb : 15 < l[k].toNat) : fitL l = false := by
  unfold fitL
  rw [List.all_eq_false]
  exact ⟨l[k], List.getElem_mem h, by simp; omega⟩

theorem commonL_le (a b : List UInt8) : commonL a b ≤ a.length ∧ commonL a b ≤ b.length := by
  induction a generalizing b with
  | nil => simp [commonL]
  | cons x s ih =>
    cases b with
    | nil => simp [commonL]
    | cons y t =>
      unfold commonL
      split
      · have := ih t; simp; omega
      · simp
theorem commonL_of_diff (a b : List UInt8) (k : Nat) (ha : k < a.length) (hb : k < b.length) (h : a.take k = b.take k) (hd : a[k] ≠ b[k]) : commonL a b = k := by
  induction k generalizing a b with
  | zero =>
    cases a with
    | nil => simp at ha
    | cons x s =>
      cases b with
      | nil => simp at hb
      | cons y t => simp at hd; simp [commonL, hd]
  | succ k ih =>
    cases a with
    | nil => simp at ha
    | cons x s =>
      cases b with
      | nil => simp at hb
      | cons y t =>
        simp at h hd
        obtain ⟨rfl, h⟩ := h
        simp [commonL, ih s t (by simpa using ha) (by simpa using hb) h hd]
theorem commonL_of_end (a b : List UInt8) (k : Nat) (hk : k = min a.length b.length) (h : a.take k = b.take k) : commonL a b = k := by
  induction k generalizing a b with
  | zero =>
    cases a with
    | nil => simp [commonL]
    | cons x s =>
      cases b with
      | nil => simp [commonL]
      | cons y t => simp at hk
  | succ k ih =>
    cases a with
    | nil => simp at hk
    | cons x s =>
      cases b with
      | nil => simp at hk
      | cons y t =>
        simp at h
        obtain ⟨rfl, h⟩ := h
        have : k = min s.length t.length := by simp at hk; omega
        simp [commonL, ih s t this h]
theorem take_eq_succ (a b : List UInt8) (k : Nat) (ha : k < a.length) (hb : k < b.length) (h : a.take k = b.take k) (he : a[k] = b[k]) : a.take (k + 1) = b.take (k + 1) := by
  rw [take_snoc a k ha, take_snoc b k hb, h, he]

theorem byte_ne {x y : UInt8} (h : ((x.toNat : Int) != (y.toNat : Int)) = true) : x ≠ y := by rintro rfl; simp at h
theorem byte_eq {x y : UInt8} (h : ((x.toNat : Int) != (y.toNat : Int)) = false) : x = y := by
  simp at h; exact UInt8.toNat_inj.1 (by omega)
theorem byte_eq' {x y : UInt8} (h : ((x.toNat : Int) == (y.toNat : Int)) = true) : x = y := by
  simp at h; exact UInt8.toNat_inj.1 (by omega)
theorem byte_ne' {x y : UInt8} (h : ((x.toNat : Int) == (y.toNat : Int)) = false) : x ≠ y := by rintro rfl; simp at h

theorem ofL_length (l : List UInt8) : (ofL l).length = 2 * l.length := by
  induction l with
  | nil => rfl
  | cons b t ih =>
    have : ofL (b :: t) = b / 16 :: b % 16 :: ofL t := by simp [ofL]
    rw [this]; simp [ih]; omega
theorem ofL_snoc (l : List UInt8) (k : Nat) (h : k < l.length) : ofL (l.take (k + 1)) = ofL (l.take k) ++ [l[k] / 16, l[k] % 16] := by
  rw [take_snoc l k h]; unfold ofL; rw [List.flatMap_append]; simp

theorem toNat_div16 (b : UInt8) : (((b / 16).toNat : Nat) : Int) = (b.toNat : Int) / 16 := by simp
theorem toNat_mod16 (b : UInt8) : (((b % 16).toNat : Nat) : Int) = (b.toNat : Int) % 16 := by simp

theorem fitL_get (l : List UInt8) (h : fitL l = true) (k : Nat) (hk : k < l.length) : l[k].toNat ≤ 15 := by
  unfold fitL at h; rw [List.all_eq_true] at h; simpa using h l[k] (List.getElem_mem hk)
theorem fitL_tail (a : UInt8) (t : List UInt8) (h : fitL (a :: t) = true) : fitL t = true := by
  simp [fitL] at h ⊢; exact h.2
theorem joinL_two (a b : UInt8) (t : List UInt8) : joinL (a :: b :: t) = (a * 16 + b) :: joinL t := rfl
theorem joinL_snoc (l : List UInt8) (k : Nat) (h : 2 * k + 1 < l.length) : joinL (l.take (2 * (k + 1))) = joinL (l.take (2 * k)) ++ [l[2 * k] * 16 + l[2 * k + 1]] := by
  induction k generalizing l with
  | zero =>
    match l, h with
    | a :: b :: t, _ => rfl
  | succ k ih =>
    match l, h with
    | a :: b :: t, h =>
      have h' : 2 * k + 1 < t.length := by simp at h; omega
      have e1 : 2 * (k + 1 + 1) = 2 * (k + 1) + 2 := by omega
      have e2 : 2 * (k + 1) = 2 * k + 2 := by omega
      have e3 : 2 * (k + 1) + 1 = 2 * k + 1 + 2 := by omega
      have r1 : joinL ((a :: b :: t).take (2 * (k + 1 + 1))) = (a * 16 + b) :: joinL (t.take (2 * (k + 1))) := by
        rw [e1, List.take_succ_cons, List.take_succ_cons]; rfl
      have r2 : joinL ((a :: b :: t).take (2 * (k + 1))) = (a * 16 + b) :: joinL (t.take (2 * k)) := by
        rw [e2, List.take_succ_cons, List.take_succ_cons]; rfl
      rw [r1, r2, ih t h']
      simp [e2]
theorem joinL_length (l : List UInt8) : (joinL l).length = l.length / 2 := by
  match l with
  | [] => rfl
  | [_] => simp [joinL]
  | a :: b :: t => simp [joinL_two, joinL_length t]; omega
theorem joinL_take_end (l : List UInt8) (k : Nat) (h : k = l.length / 2) : joinL (l.take (2 * k)) = joinL l := by
  induction k generalizing l with
  | zero =>
    match l, h with
    | [], _ => rfl
    | [_], _ => simp [joinL]
    | a :: b :: t, h => simp at h; omega
  | succ k ih =>
    match l, h with
    | [], h => simp at h
    | [_], h => simp at h
    | a :: b :: t, h =>
      have e1 : 2 * (k + 1) = 2 * k + 2 := by omega
      rw [e1, List.take_succ_cons, List.take_succ_cons, joinL_two, joinL_two, ih t (by simp at h; omega)]
theorem or_join (a b : Nat) (hb : b < 16) : (a * 16) ||| b = a * 16 + b := by
  have := Nat.two_pow_add_eq_or_of_lt (i := 4) (b := b) (by simpa using hb) a
  simp at this; rw [Nat.mul_comm a 16]; omega

def kindL (n : Nat) (leaf : Bool) : UInt8 := (if n % 2 = 1 then 1 else 0) + (if leaf then 2 else 0)
def headL (p : List UInt8) (leaf : Bool) : List UInt8 := if p.length % 2 = 1 then [kindL p.length leaf] else [kindL p.length leaf, 0]
def packL (p : List UInt8) (leaf : Bool) : List UInt8 := joinL (headL p leaf ++ p)
def unpackL : List UInt8 → Option (List UInt8 × Bool)
  | [] => none
  | b :: t => if b.toNat / 16 > 3 ∨ (b.toNat / 16 % 2 = 0 ∧ b.toNat % 16 ≠ 0) then none
    else if b.toNat / 16 % 2 = 1 then some ((b % 16) :: ofL t, decide (2 ≤ b.toNat / 16)) else some (ofL t, decide (2 ≤ b.toNat / 16))
def mayL (b : UInt8) : Bool := decide (b.toNat / 16 ≤ 3) && (decide (b.toNat / 16 % 2 = 1) || decide (b.toNat % 16 = 0))
theorem unpackL_bad (b : UInt8) (t : List UInt8) (h : mayL b = false) : unpackL (b :: t) = none := by
  simp only [unpackL]
  rw [if_pos]
  simp [mayL] at h
  omega
theorem mayL_le (b : UInt8) (h : mayL b = true) : b.toNat / 16 ≤ 3 ∧ (b.toNat / 16 % 2 = 1 ∨ b.toNat % 16 = 0) := by
  simpa [mayL] using h
theorem unpackL_odd (b : UInt8) (t : List UInt8) (h : mayL b = true) (h1 : b.toNat / 16 % 2 = 1) : unpackL (b :: t) = some ((b % 16) :: ofL t, decide (2 ≤ b.toNat / 16)) := by
  have := mayL_le b h
  simp only [unpackL]
  rw [if_neg (by omega), if_pos h1]
theorem unpackL_even (b : UInt8) (t : List UInt8) (h : mayL b = true) (h1 : b.toNat / 16 % 2 = 0) : unpackL (b :: t) = some (ofL t, decide (2 ≤ b.toNat / 16)) := by
  have := mayL_le b h
  simp only [unpackL]
  rw [if_neg (by omega), if_neg (by omega)]
theorem packL_odd (a : UInt8) (t : List UInt8) (leaf : Bool) (h : t.length % 2 = 0) : packL (a :: t) leaf = ((if leaf then 48 else 16) + a) :: joinL t := by
  have : (t.length + 1) % 2 = 1 := by omega
  cases leaf <;> simp [packL, headL, kindL, this, joinL_two]
theorem packL_even (p : List UInt8) (leaf : Bool) (h : p.length % 2 = 0) : packL p leaf = (if leaf then 32 else 0) :: joinL p := by
  have : ¬ p.length % 2 = 1 := by omega
  cases leaf <;> simp [packL, headL, kindL, this, joinL_two]

end Go.Proofs.Yteolephlajhghaa.Nib
