/- NibMath, NibLess, NibOrderMath, NibBackMath, CodeMath, NodeMath, NibBase, Only, MapBase, ArgStrs, OwnStr, NodeBase, NodeEq -/
import GoSem.Op.String
import Derived.Test.YtjbagjhadmbjnaaChecked
import Derived.WalkKit
import Derived.WalkSmall
import Derived.ShutString
import Derived.Laws.IdiomStrings
import Derived.Laws.BytesArg
import Derived.Lib.Hide
import Derived.Lib.Strings
import Derived.Maps.Keyed
import Derived.SizedLaws
import Derived.DeepKeys4
import Derived.Deep.AppendLies
import Derived.Deep.QuietTactic
import Derived.BigQuiet
import Derived.Deep.WholeRow
import Derived.Deep.MidRow
import Derived.Laws.CopyOwn
import Derived.Deep.RegionHeld3
import Derived.Deep.DrawnRows
import Derived.Deep.Cut
import Derived.Deep.CutRange
import Derived.SliceStrings
import Derived.OpenShut
import Derived.Laws.StructEq
namespace Go.Proofs.Ytjbagjhadmbjnaa.Nib

def fitL (l : List UInt8) : Bool := l.all fun b => decide (b.toNat ≤ 15)
def ofL (l : List UInt8) : List UInt8 := l.flatMap fun (b : UInt8) => [b / 16, b % 16]
def joinL : List UInt8 → List UInt8
  | a :: b :: t => (a * 16 + b) :: joinL t
  | _ => []
theorem take_snoc {α : Type} (l : List α) (k : Nat) (h : k < l.length) : l.take (k + 1) = l.take k ++ [l[k]] := List.take_succ_eq_append_getElem h

theorem fitL_take_succ (l : List UInt8) (k : Nat) (h : k < l.length) : fitL (l.take (k + 1)) = (fitL (l.take k) && decide (l[k].toNat ≤ 15)) := by
  unfold fitL; rw [take_snoc l k h, List.all_append]; simp
theorem fitL_false (l : List UInt8) (k : Nat) (h : k < l.length) (hb : 15 < l[k].toNat) : fitL l = false := by
  unfold fitL
  rw [List.all_eq_false]
  exact ⟨l[k], List.getElem_mem h, by simp; omega⟩

theorem ofL_length (l : List UInt8) : (ofL l).length = 2 * l.length := by
  induction l with
  | nil => rfl
  | cons b t ih =>
    have : ofL (b :: t) = b / 16 :: b % 16 :: ofL t := by simp [ofL]
    rw [this]; simp [ih]; omega
theorem ofL_snoc (l : List UInt8) (k : Nat) (h : k < l.length) : ofL (l.take (k + 1)) = ofL (l.take k) ++ [l[k] / 16, l[k] % 16] := by
  rw [take_snoc l k h]; unfold ofL; rw [List.flatMap_append]; simp

theorem toNat_div16 (b : UInt8) : (((b / 16).toNat : Nat) : Int) = (b.toNat : Int) / 16 := by simp
theorem toNat_mod16 (b : UInt8) : (((b % 16).toNat : Nat) : Int) = (b.toNat : Int) % 16 := by simp

theorem fitL_get (l : List UInt8) (h : fitL l = true) (k : Nat) (hk : k < l.length) : l[k].toNat ≤ 15 := by
  unfold fitL at h; rw [List.all_eq_true] at h; simpa using h l[k] (List.getElem_mem hk)
theorem fitL_tail (a : UInt8) (t : List UInt8) (h : fitL (a :: t) = true) : fitL t = true := by
  simp [fitL] at h ⊢; exact h.2
theorem joinL_two (a b : UInt8) (t : List UInt8) : joinL (a :: b :: t) = (a * 16 + b) :: joinL t := rfl
theorem joinL_snoc (l : List UInt8) (k : Nat) (h : 2 * k + 1 < l.length) : joinL (l.take (2 * (k + 1))) = joinL (l.take (2 * k)) ++ [l[2 * k] * 16 + l[2 * k + 1]] := by
  induction k generalizing l with
  | zero =>
    match l, h with
    | a :: b :: t, _ => rfl
  | succ k ih =>
    match l, h with
    | a :: b :: t, h =>
      have h' : 2 * k + 1 < t.length := by simp at h; omega
      have e1 : 2 * (k + 1 + 1) = 2 * (k + 1) + 2 := by omega
      have e2 : 2 * (k + 1) = 2 * k + 2 := by omega
      have e3 : 2 * (k + 1) + 1 = 2 * k + 1 + 2 := by omega
      have r1 : joinL ((a :: b :: t).take (2 * (k + 1 + 1))) = (a * 16 + b) :: joinL (t.take (2 * (k + 1))) := by
        rw [e1, List.take_succ_cons, List.take_succ_cons]; rfl
      have r2 : joinL ((a :: b :: t).take (2 * (k + 1))) = (a * 16 + b) :: joinL (t.take (2 * k)) := by
        rw [e2, List.take_succ_cons, List.take_succ_cons]; rfl
      rw [r1, r2, ih t h']
      simp [e2]
theorem joinL_length (l : List UInt8) : (joinL l).length = l.length / 2 := by
  match l with
  | [] => rfl
  | [_] => simp [joinL]
  | a :: b :: t => simp [joinL_two, joinL_length t]; omega
theorem joinL_take_end (l : List UInt8) (k : Nat) (h : k = l.length / 2) : joinL (l.take (2 * k)) = joinL l := by
  induction k generalizing l with
  | zero =>
    match l, h with
    | [], _ => rfl
    | [_], _ => simp [joinL]
    | a :: b :: t, h => simp at h; omega
  | succ k ih =>
    match l, h with
    | [], h => simp at h
    | [_], h => simp at h
    | a :: b :: t, h =>
      have e1 : 2 * (k + 1) = 2 * k + 2 := by omega
      rw [e1, List.take_succ_cons, List.take_succ_cons, joinL_two, joinL_two, ih t (by simp at h; omega)]
theorem or_join (a b : Nat) (hb : b < 16) : (a * 16) ||| b = a * 16 + b := by
  have := Nat.two_pow_add_eq_or_of_lt (i := 4) (b := b) (by simpa using hb) a
  simp at this; rw [Nat.mul_comm a 16]; omega

def kindL (n : Nat) (leaf : Bool) : UInt8 := (if n % 2 = 1 then 1 else 0) + (if leaf then 2 else 0)
def headL (p : List UInt8) (leaf : Bool) : List UInt8 := if p.length % 2 = 1 then [kindL p.length leaf] else [kindL p.length leaf, 0]
def packL (p : List UInt8) (leaf : Bool) : List UInt8 := joinL (headL p leaf ++ p)
def unpackL : List UInt8 → Option (List UInt8 × Bool)
  | [] => none
  | b :: t => if b.toNat / 16 > 3 ∨ (b.toNat / 16 % 2 = 0 ∧ b.toNat % 16 ≠ 0) then none
    else if b.toNat / 16 % 2 = 1 then some ((b % 16) :: ofL t, decide (2 ≤ b.toNat / 16)) else some (ofL t, decide (2 ≤ b.toNat / 16))
def mayL (b : UInt8) : Bool := decide (b.toNat / 16 ≤ 3) && (decide (b.toNat / 16 % 2 = 1) || decide (b.toNat % 16 = 0))
theorem unpackL_bad (b : UInt8) (t : List UInt8) (h : mayL b = false) : unpackL (b :: t) = none := by
  simp only [unpackL]
  rw [if_pos]
  simp [mayL] at h
  omega
theorem mayL_le (b : UInt8) (h : mayL b = true) : b.toNat / 16 ≤ 3 ∧ (b.toNat / 16 % 2 = 1 ∨ b.toNat % 16 = 0) := by
  simpa [mayL] using h
theorem unpackL_odd (b : UInt8) (t : List UInt8) (h : mayL b = true) (h1 : b.toNat / 16 % 2 = 1) : unpackL (b :: t) = some ((b % 16) :: ofL t, decide (2 ≤ b.toNat / 16)) := by
  have := mayL_le b h
  simp only [unpackL]
  rw [if_neg (by omega), if_pos h1]
theorem unpackL_even (b : UInt8) (t : List UInt8) (h : mayL b = true) (h1 : b.toNat / 16 % 2 = 0) : unpackL (b :: t) = some (ofL t, decide (2 ≤ b.toNat / 16)) := by
  have := mayL_le b h
  simp only [unpackL]
  rw [if_neg (by omega), if_neg (by omega)]
theorem packL_odd (a : UInt8) (t : List UInt8) (leaf : Bool) (h : t.length % 2 = 0) : packL (a :: t) leaf = ((if leaf then 48 else 16) + a) :: joinL t := by
  have : (t.length + 1) % 2 = 1 := by omega
  cases leaf <;> simp [packL, headL, kindL, this, joinL_two]
theorem packL_even (p : List UInt8) (leaf : Bool) (h : p.length % 2 = 0) : packL p leaf = (if leaf then 32 else 0) :: joinL p := by
  have : ¬ p.length % 2 = 1 := by omega
  cases leaf <;> simp [packL, headL, kindL, this, joinL_two]

end Go.Proofs.Ytjbagjhadmbjnaa.Nib
namespace Go.Proofs.Ytjbagjhadmbjnaa.Nib

end Go.Proofs.Ytjbagjhadmbjnaa.Nib
namespace Go.Proofs.Ytjbagjhadmbjnaa.Nib

theorem ofL_cons (b : UInt8) (t : List UInt8) : ofL (b :: t) = b / 16 :: b % 16 :: ofL t := by simp [ofL]
end Go.Proofs.Ytjbagjhadmbjnaa.Nib
namespace Go.Proofs.Ytjbagjhadmbjnaa.Nib

theorem halves_join (b : UInt8) : b / 16 * 16 + b % 16 = b := by
  rw [← UInt8.toNat_inj]
  have := b.toNat_lt
  simp [UInt8.toNat_add, UInt8.toNat_mul]
  omega
theorem join_of (l : List UInt8) : joinL (ofL l) = l := by
  induction l with
  | nil => rfl
  | cons b t ih => rw [ofL_cons, joinL_two, ih, halves_join]
theorem fit_of (l : List UInt8) : fitL (ofL l) = true := by
  induction l with
  | nil => rfl
  | cons b t ih =>
    rw [ofL_cons]
    have h1 : (b / 16).toNat ≤ 15 := by have := b.toNat_lt; simp; omega
    have h2 : (b % 16).toNat ≤ 15 := by simp; omega
    unfold fitL at ih ⊢
    simp only [List.all_cons, ih, Bool.and_true, Bool.and_eq_true, decide_eq_true_eq]
    exact ⟨h1, h2⟩
theorem join_div (a b : UInt8) (ha : a.toNat ≤ 15) (hb : b.toNat ≤ 15) : (a * 16 + b) / 16 = a := by
  rw [← UInt8.toNat_inj]; simp [UInt8.toNat_add, UInt8.toNat_mul]; omega
theorem join_mod (a b : UInt8) (_ha : a.toNat ≤ 15) (hb : b.toNat ≤ 15) : (a * 16 + b) % 16 = b := by
  rw [← UInt8.toNat_inj]; simp [UInt8.toNat_add, UInt8.toNat_mul]; omega
theorem of_join (l : List UInt8) (hf : fitL l = true) (he : l.length % 2 = 0) : ofL (joinL l) = l := by
  match l, hf, he with
  | [], _, _ => rfl
  | [_], _, he => simp at he
  | a :: b :: t, hf, he =>
    have ha := fitL_get (a :: b :: t) hf 0 (by simp)
    have hb := fitL_get (a :: b :: t) hf 1 (by simp)
    simp at ha hb
    rw [joinL_two, ofL_cons, join_div a b ha hb, join_mod a b ha hb, of_join t (fitL_tail b t (fitL_tail a (b :: t) hf)) (by simp at he; omega)]

theorem unpack_pack (p : List UInt8) (leaf : Bool) (hf : fitL p = true) : unpackL (packL p leaf) = some (p, leaf) := by
  rcases Nat.mod_two_eq_zero_or_one p.length with h | h
  · rw [packL_even p leaf h]
    cases leaf
    · rw [if_neg (by simp), unpackL_even _ _ (by decide) (by decide), of_join p hf h]; rfl
    · rw [if_pos rfl, unpackL_even _ _ (by decide) (by decide), of_join p hf h]; rfl
  · match p, hf, h with
    | a :: t, hf, h =>
      have ht : t.length % 2 = 0 := by simp at h; omega
      have ha := fitL_get (a :: t) hf 0 (by simp)
      simp at ha
      rw [packL_odd a t leaf ht]
      cases leaf
      · rw [if_neg (by simp)]
        have e : (16 + a).toNat = 16 + a.toNat := by simp [UInt8.toNat_add]; omega
        have em : (16 + a) % 16 = a := by rw [← UInt8.toNat_inj]; simp [UInt8.toNat_add]; omega
        rw [unpackL_odd _ _ (by simp [mayL, e]; omega) (by rw [e]; omega), of_join t (fitL_tail a t hf) ht, em, e]
        simp; omega
      · rw [if_pos rfl]
        have e : (48 + a).toNat = 48 + a.toNat := by simp [UInt8.toNat_add]; omega
        have em : (48 + a) % 16 = a := by rw [← UInt8.toNat_inj]; simp [UInt8.toNat_add]; omega
        rw [unpackL_odd _ _ (by simp [mayL, e]; omega) (by rw [e]; omega), of_join t (fitL_tail a t hf) ht, em, e]
        simp; omega
theorem packL_length (p : List UInt8) (leaf : Bool) : (packL p leaf).length = p.length / 2 + 1 := by
  rcases Nat.mod_two_eq_zero_or_one p.length with h | h
  · rw [packL_even p leaf h]; simp [joinL_length]
  · match p, h with
    | a :: t, h =>
      rw [packL_odd a t leaf (by simp at h; omega)]; simp [joinL_length]; simp at h; omega
theorem unpackL_may (b : UInt8) (t p : List UInt8) (is : Bool) (h : unpackL (b :: t) = some (p, is)) : mayL b = true := by
  rcases hm : mayL b with _ | _
  · rw [unpackL_bad b t hm] at h; cases h
  · rfl
theorem fit_cons (a : UInt8) (t : List UInt8) (ha : a.toNat ≤ 15) (h : fitL t = true) : fitL (a :: t) = true := by
  unfold fitL at *; rw [List.all_cons, h]; simpa using ha
theorem unpack_fit (s p : List UInt8) (is : Bool) (h : unpackL s = some (p, is)) : fitL p = true ∧ packL p is = s := by
  match s, h with
  | b :: t, h =>
    have hm := unpackL_may b t p is h
    have hle := mayL_le b hm
    rcases Nat.mod_two_eq_zero_or_one (b.toNat / 16) with h1 | h1
    · rw [unpackL_even b t hm h1] at h
      simp only [Option.some.injEq, Prod.mk.injEq] at h
      obtain ⟨rfl, rfl⟩ := h
      refine ⟨fit_of t, ?_⟩
      rw [packL_even _ _ (by rw [ofL_length]; omega), join_of]
      congr 1
      rw [← UInt8.toNat_inj]
      by_cases h2 : 2 ≤ b.toNat / 16
      · simp [h2]; omega
      · simp [h2]; omega
    · rw [unpackL_odd b t hm h1] at h
      simp only [Option.some.injEq, Prod.mk.injEq] at h
      obtain ⟨rfl, rfl⟩ := h
      refine ⟨fit_cons _ _ (by simp; omega) (fit_of t), ?_⟩
      rw [packL_odd _ _ _ (by rw [ofL_length]; omega), join_of]
      congr 1
      rw [← UInt8.toNat_inj]
      by_cases h2 : 2 ≤ b.toNat / 16
      · simp [h2, UInt8.toNat_add]; omega
      · simp [h2, UInt8.toNat_add]; omega
theorem unpack_len (s p : List UInt8) (is : Bool) (h : unpackL s = some (p, is)) : p.length ≤ 2 * s.length := by
  have := (unpack_fit s p is h).2
  rw [← this, packL_length]; omega

end Go.Proofs.Ytjbagjhadmbjnaa.Nib
namespace Go.Proofs.Ytjbagjhadmbjnaa.Code

def sz (n : Nat) : Nat := if _h : n = 0 then 0 else sz (n / 256) + 1
def be : Nat → Nat → List UInt8
  | 0, _ => []
  | k + 1, n => be k (n / 256) ++ [UInt8.ofNat (n % 256)]
def numL (n : Nat) : List UInt8 := UInt8.ofNat (sz n) :: be (sz n) n
def textL (s : List UInt8) : List UInt8 := numL s.length ++ s
def val (l : List UInt8) : Nat := l.foldl (fun a d => a * 256 + d.toNat) 0
def lenN (n : Nat) : Nat := if n = 0 then 0 else n.log2 + 1

theorem sz_zero : sz 0 = 0 := by rw [sz]; simp
theorem sz_pos (n : Nat) (h : n ≠ 0) : sz n = sz (n / 256) + 1 := by rw [sz]; simp [h]
theorem be_length (k n : Nat) : (be k n).length = k := by
  induction k generalizing n with
  | zero => rfl
  | succ k ih => simp [be, ih]
theorem be_step (k i n : Nat) (h : i < k) : be i (n / 256 ^ (k - i)) ++ [UInt8.ofNat (n / 256 ^ (k - 1 - i) % 256)] = be (i + 1) (n / 256 ^ (k - (i + 1))) := by
  have e : k - i = (k - (i + 1)) + 1 := by omega
  have e2 : k - 1 - i = k - (i + 1) := by omega
  rw [be, e, e2, Nat.pow_succ, ← Nat.div_div_eq_div_mul]
theorem sz_iff (n : Nat) : ∀ k, (n < 256 ^ k ∧ (k ≠ 0 → 256 ^ (k - 1) ≤ n)) → sz n = k := by
  induction n using Nat.strongRecOn with
  | _ n ih =>
    intro k ⟨h1, h2⟩
    by_cases h : n = 0
    · subst h
      rw [sz_zero]
      by_cases hk : k = 0
      · exact hk.symm
      · have := h2 hk
        have p : 0 < 256 ^ (k - 1) := Nat.pow_pos (by omega)
        omega
    · rw [sz_pos n h]
      obtain ⟨j, rfl⟩ : ∃ j, k = j + 1 := by
        cases k with
        | zero => simp at h1; omega
        | succ j => exact ⟨j, rfl⟩
      have h3 := h2 (by omega)
      simp at h3
      rw [ih (n / 256) (by omega) j ⟨?_, ?_⟩]
      · rw [Nat.pow_succ] at h1; omega
      · intro hj
        obtain ⟨i, rfl⟩ : ∃ i, j = i + 1 := ⟨j - 1, by omega⟩
        rw [Nat.pow_succ] at h3
        simp
        omega
theorem sz_bounds (n : Nat) : n < 256 ^ sz n ∧ (sz n ≠ 0 → 256 ^ (sz n - 1) ≤ n) := by
  induction n using Nat.strongRecOn with
  | _ n ih =>
    by_cases h : n = 0
    · subst h; simp [sz_zero]
    · rw [sz_pos n h]
      obtain ⟨h1, h2⟩ := ih (n / 256) (by omega)
      refine ⟨?_, fun _ => ?_⟩
      · rw [Nat.pow_succ]; omega
      · simp
        by_cases h0 : sz (n / 256) = 0
        · rw [h0]; simp; omega
        · have h3 := h2 h0
          obtain ⟨i, hi⟩ : ∃ i, sz (n / 256) = i + 1 := ⟨sz (n / 256) - 1, by omega⟩
          rw [hi] at h3 ⊢
          simp at h3
          rw [Nat.pow_succ]; omega
theorem sz_le8 (n : Nat) (h : n < 2 ^ 64) : sz n ≤ 8 := by
  have ⟨_, h2⟩ := sz_bounds n
  by_cases hk : sz n ≤ 8
  · exact hk
  · have h3 := h2 (by omega)
    have := Nat.pow_le_pow_right (n := 256) (by omega) (show 8 ≤ sz n - 1 by omega)
    have e : (256 : Nat) ^ 8 = 2 ^ 64 := by decide
    omega
theorem len_bounds (n : Nat) : n < 2 ^ lenN n ∧ (lenN n ≠ 0 → 2 ^ (lenN n - 1) ≤ n) := by
  unfold lenN
  by_cases h : n = 0
  · simp [h]
  · simp only [h, if_false, Nat.add_sub_cancel]
    exact ⟨Nat.lt_log2_self, fun _ => Nat.log2_self_le h⟩
theorem len_sz (n : Nat) : (lenN n + 7) / 8 = sz n := by
  refine (sz_iff n _ ⟨?_, fun hk => ?_⟩).symm
  · refine Nat.lt_of_lt_of_le (len_bounds n).1 ?_
    rw [show (256 : Nat) = 2 ^ 8 by decide, ← Nat.pow_mul]
    exact Nat.pow_le_pow_right (by omega) (by omega)
  · refine Nat.le_trans ?_ ((len_bounds n).2 (by omega))
    rw [show (256 : Nat) = 2 ^ 8 by decide, ← Nat.pow_mul]
    exact Nat.pow_le_pow_right (by omega) (by omega)
theorem len_shift (n j : Nat) (h : 2 ^ j ≤ n) : lenN n = j + lenN (n / 2 ^ j) := by
  have p : 0 < 2 ^ j := Nat.pow_pos (by omega)
  have hq : n / 2 ^ j ≠ 0 := by have := Nat.div_pos h p; omega
  have hn : n ≠ 0 := by omega
  unfold lenN
  simp only [hn, hq, if_false]
  have a := Nat.log2_self_le hq
  have b := Nat.lt_log2_self (n := n / 2 ^ j)
  have e : n.log2 = j + (n / 2 ^ j).log2 := by
    rw [Nat.log2_eq_iff hn]
    rw [Nat.pow_add]
    refine ⟨?_, ?_⟩
    · have := (Nat.le_div_iff_mul_le p).1 a
      rw [Nat.mul_comm]; exact this
    · have := (Nat.div_lt_iff_lt_mul p).1 b
      rw [Nat.add_assoc, Nat.pow_add, Nat.mul_comm]; exact this
  omega
theorem val_append (a : List UInt8) (d : UInt8) : val (a ++ [d]) = val a * 256 + d.toNat := by simp [val]
theorem ofNat_toNat (n : Nat) (h : n < 256) : (UInt8.ofNat n).toNat = n := by simp; omega
theorem val_be (k n : Nat) (h : n < 256 ^ k) : val (be k n) = n := by
  induction k generalizing n with
  | zero => simp [be, val]; simp at h; omega
  | succ k ih =>
    rw [be, val_append, ofNat_toNat _ (by omega), ih]
    · omega
    · rw [Nat.pow_succ] at h; omega
theorem snocInd {p : List UInt8 → Prop} (h0 : p []) (h1 : ∀ l d, p l → p (l ++ [d])) (l : List UInt8) : p l := by
  have h : ∀ r : List UInt8, p r.reverse := by
    intro r
    induction r with
    | nil => exact h0
    | cons d r ih => rw [List.reverse_cons]; exact h1 _ _ ih
  have := h l.reverse
  rwa [List.reverse_reverse] at this
theorem val_lt (l : List UInt8) : val l < 256 ^ l.length := by
  induction l using snocInd with
  | h0 => simp [val]
  | h1 l d ih =>
    rw [val_append]
    simp [Nat.pow_succ]
    have := d.toNat_lt
    omega
theorem be_val (l : List UInt8) : be l.length (val l) = l := by
  induction l using snocInd with
  | h0 => simp [val, be]
  | h1 l d ih =>
    have hd := d.toNat_lt
    rw [val_append]
    simp only [List.length_append, List.length_singleton, be]
    rw [show (val l * 256 + d.toNat) / 256 = val l by omega, ih, show (val l * 256 + d.toNat) % 256 = d.toNat by omega]
    simp
theorem val_ge (c : UInt8) (l : List UInt8) : c.toNat * 256 ^ l.length ≤ val (c :: l) ∧ val (c :: l) < (c.toNat + 1) * 256 ^ l.length := by
  induction l using snocInd with
  | h0 => simp [val]
  | h1 l d ih =>
    have hd := d.toNat_lt
    rw [← List.cons_append, val_append]
    simp only [List.length_append, List.length_singleton, Nat.pow_succ, ← Nat.mul_assoc]
    omega

/-- What the program's lead tells of bytes: the number, how many bytes it takes, the code. -/
def bad (k : Nat) (d : List UInt8) : Bool := (decide (0 < k) && (d.headD 0).toNat == 0) || (k == 8 && decide (128 ≤ (d.headD 0).toNat))
def leadL : List UInt8 → Nat × Nat × Int
  | [] => (0, 0, 20)
  | c :: r => if c.toNat > 8 then (0, 0, 3) else if r.length < c.toNat then (0, 0, 20) else if bad c.toNat (r.take c.toNat) then (0, 0, 3) else (val (r.take c.toNat), 1 + c.toNat, 0)

theorem numL_length (n : Nat) : (numL n).length = 1 + sz n := by simp [numL, be_length]; omega
theorem be_head (n : Nat) (h : n ≠ 0) : ∃ c r, be (sz n) n = c :: r ∧ r.length = sz n - 1 ∧ c.toNat ≠ 0 ∧ (n < 2 ^ 63 → sz n = 8 → c.toNat < 128) := by
  have hs := sz_pos n h
  obtain ⟨h1, h2⟩ := sz_bounds n
  have h3 := h2 (by omega)
  have hl := be_length (sz n) n
  match hb : be (sz n) n with
  | [] => rw [hb] at hl; simp at hl; omega
  | c :: r =>
    rw [hb] at hl
    simp at hl
    have hv := val_be (sz n) n h1
    have ⟨g1, g2⟩ := val_ge c r
    rw [← hb, hv] at g1 g2
    refine ⟨c, r, rfl, by omega, ?_, ?_⟩
    · intro hc
      rw [hc] at g2
      rw [show r.length = sz n - 1 by omega] at g2
      omega
    · intro hn h8
      rw [show r.length = 7 by omega] at g1
      have e : (256 : Nat) ^ 7 = 2 ^ 56 := by decide
      rw [e] at g1
      omega
theorem lead_num (n : Nat) (h : n < 2 ^ 63) (r : List UInt8) : leadL (numL n ++ r) = (n, 1 + sz n, 0) := by
  have h8 := sz_le8 n (by omega)
  have hb := (sz_bounds n).1
  have hl := be_length (sz n) n
  have ht : (be (sz n) n ++ r).take (sz n) = be (sz n) n := by
    rw [List.take_append_of_le_length (by omega), List.take_of_length_le (by omega)]
  have hbad : bad (sz n) (be (sz n) n) = false := by
    by_cases h0 : n = 0
    · subst h0; simp [bad, sz_zero]
    · obtain ⟨c, q, e, _, hc, hd⟩ := be_head n h0
      rw [e]
      simp only [bad, List.headD_cons, Bool.or_eq_false_iff, Bool.and_eq_false_iff, decide_eq_false_iff_not, beq_eq_false_iff_ne]
      refine ⟨Or.inr hc, ?_⟩
      by_cases h8 : sz n = 8
      · exact Or.inr (decide_eq_false (Nat.not_le.2 (hd h h8)))
      · exact Or.inl h8
  simp only [numL, List.cons_append, leadL]
  rw [ofNat_toNat _ (by omega), ht, hbad, val_be _ _ hb]
  simp only [List.length_append, hl]
  rw [if_neg (by omega), if_neg (by omega)]
  simp
theorem lead_ok (s : List UInt8) (h : (leadL s).2.2 = 0) : (leadL s).1 < 2 ^ 63 ∧ (leadL s).2.1 ≤ s.length ∧ s.take (leadL s).2.1 = numL (leadL s).1 := by
  match s with
  | [] => simp [leadL] at h
  | c :: r =>
    simp only [leadL] at h ⊢
    split at h
    · simp at h
    · split at h
      · simp at h
      · split at h
        · simp at h
        · rename_i h1 h2 h3
          rw [if_neg h1, if_neg h2, if_neg h3]
          simp only [Bool.not_eq_true] at h3
          have hl : (r.take c.toNat).length = c.toNat := by rw [List.length_take]; omega
          have hsz : sz (val (r.take c.toNat)) = c.toNat := by
            refine sz_iff _ _ ⟨by have := val_lt (r.take c.toNat); rw [hl] at this; exact this, fun hk => ?_⟩
            match hd : r.take c.toNat with
            | [] => rw [hd] at hl; simp at hl; omega
            | x :: q =>
              rw [hd] at hl h3
              simp at hl
              simp only [bad, List.headD_cons, Bool.or_eq_false_iff, Bool.and_eq_false_iff, decide_eq_false_iff_not, beq_eq_false_iff_ne] at h3
              have hx : x.toNat ≠ 0 := by rcases h3.1 with a | a; omega; exact a
              have ⟨g, _⟩ := val_ge x q
              rw [show c.toNat - 1 = q.length by omega]
              have : 1 * 256 ^ q.length ≤ x.toNat * 256 ^ q.length := Nat.mul_le_mul_right _ (by omega)
              omega
          refine ⟨?_, by simp; omega, ?_⟩
          · by_cases h8 : c.toNat = 8
            · match hd : r.take c.toNat with
              | [] => rw [hd] at hl; simp at hl; omega
              | x :: q =>
                rw [hd] at hl h3
                simp at hl
                simp only [bad, List.headD_cons, Bool.or_eq_false_iff, Bool.and_eq_false_iff, decide_eq_false_iff_not, beq_eq_false_iff_ne] at h3
                have hx : x.toNat < 128 := by rcases h3.2 with a | a; exact absurd h8 a; exact Nat.not_le.1 (of_decide_eq_false a)
                have ⟨_, g⟩ := val_ge x q
                have e : (256 : Nat) ^ 7 = 2 ^ 56 := by decide
                rw [show q.length = 7 by omega, e] at g
                omega
            · have := val_lt (r.take c.toNat)
              rw [hl] at this
              have e : (256 : Nat) ^ 7 = 2 ^ 56 := by decide
              have := Nat.pow_le_pow_right (n := 256) (by omega) (show c.toNat ≤ 7 by omega)
              omega
          · rw [Nat.add_comm, List.take_succ_cons, numL, hsz]
            have hb := be_val (r.take c.toNat)
            rw [hl] at hb
            rw [hb]
            simp

end Go.Proofs.Ytjbagjhadmbjnaa.Code
namespace Go.Proofs.Ytjbagjhadmbjnaa.Nd
open Go.Proofs.Ytjbagjhadmbjnaa.Nib (fitL packL)

abbrev S := List UInt8
/-- A node: its sixteen places in a list. -/
structure N where
  kind : Int
  path : S
  val : S
  kids : List S
  deriving DecidableEq
instance : Inhabited N := ⟨⟨0, [], [], List.replicate 16 []⟩⟩
def zero : N := ⟨0, [], [], List.replicate 16 []⟩
def kidsL (l : List S) : List S := l.filter fun k => decide (k ≠ [])
def all32 (l : List S) : Bool := l.all fun k => decide (k = []) || decide (k.length = 32)
def fine (n : N) : Bool :=
  all32 n.kids && (fitL n.path && (decide (n.path.length ≤ 16) && (decide (n.val.length ≤ 32) &&
  (if n.kind = 1 then decide ((kidsL n.kids).length = 0) && decide (n.val ≠ [])
  else if n.kind = 2 then decide ((kidsL n.kids).length = 1) && (decide (n.kids.getD 0 [] ≠ []) && (decide (1 ≤ n.path.length) && decide (n.val = [])))
  else if n.kind = 3 then decide (n.path.length = 0) && (decide (2 ≤ (kidsL n.kids).length) || (decide ((kidsL n.kids).length = 1) && decide (n.val ≠ [])))
  else false))))
/-- Which of eight places are taken, the highest first. -/
def bits8 (l : List S) : Nat := l.foldl (fun a k => a * 2 + if k = [] then 0 else 1) 0
def byteN (n : Nat) : UInt8 := UInt8.ofNat n
def branchL (n : N) : S := byteN (bits8 (n.kids.take 8)) :: byteN (bits8 (n.kids.drop 8)) :: (n.kids.flatten ++ Code.textL n.val)
def written (n : N) : S :=
  UInt8.ofNat (n.kind % 256).toNat :: (if n.kind = 3 then branchL n else Code.textL (packL n.path (decide (n.kind = 1))) ++ (if n.kind = 1 then Code.textL n.val else n.kids.getD 0 []))

/-! ### what the sixteen bits say -/
def bitAt (b i : Nat) : Bool := decide (b / 2 ^ (7 - i) % 2 = 1)
theorem bits8_eq (a b c d e f g h : S) : bits8 [a, b, c, d, e, f, g, h] = (((((((if a = [] then 0 else 1) * 2 + (if b = [] then 0 else 1)) * 2 + (if c = [] then 0 else 1)) * 2 + (if d = [] then 0 else 1)) * 2 + (if e = [] then 0 else 1)) * 2 + (if f = [] then 0 else 1)) * 2 + (if g = [] then 0 else 1)) * 2 + (if h = [] then 0 else 1) := by
  simp [bits8]
def num8 (a b c d e f g h : Bool) : Nat := (((((((a.toNat * 2 + b.toNat) * 2 + c.toNat) * 2 + d.toNat) * 2 + e.toNat) * 2 + f.toNat) * 2 + g.toNat) * 2 + h.toNat)
theorem num8_bits : ∀ a b c d e f g h : Bool, num8 a b c d e f g h < 256 ∧ bitAt (num8 a b c d e f g h) 0 = a ∧ bitAt (num8 a b c d e f g h) 1 = b ∧ bitAt (num8 a b c d e f g h) 2 = c ∧ bitAt (num8 a b c d e f g h) 3 = d ∧ bitAt (num8 a b c d e f g h) 4 = e ∧ bitAt (num8 a b c d e f g h) 5 = f ∧ bitAt (num8 a b c d e f g h) 6 = g ∧ bitAt (num8 a b c d e f g h) 7 = h := by
  decide +kernel
theorem num8_back : ∀ n : Fin 256, num8 (bitAt n.val 0) (bitAt n.val 1) (bitAt n.val 2) (bitAt n.val 3) (bitAt n.val 4) (bitAt n.val 5) (bitAt n.val 6) (bitAt n.val 7) = n.val := by
  decide +kernel
theorem bits8_num (l : List S) (h : l.length = 8) : bits8 l = num8 (decide (l[0] ≠ [])) (decide (l[1] ≠ [])) (decide (l[2] ≠ [])) (decide (l[3] ≠ [])) (decide (l[4] ≠ [])) (decide (l[5] ≠ [])) (decide (l[6] ≠ [])) (decide (l[7] ≠ [])) := by
  match l, h with
  | [a, b, c, d, e, f, g, i], _ =>
    rw [bits8_eq]
    have key : ∀ x : S, (if x = [] then 0 else 1) = (decide (x ≠ [])).toNat := fun x => by by_cases hx : x = [] <;> simp [hx]
    simp only [key, num8]
    rfl
theorem bits8_lt (l : List S) (h : l.length = 8) : bits8 l < 256 := by
  rw [bits8_num l h]
  exact (num8_bits ..).1
theorem bits8_at (l : List S) (h : l.length = 8) (i : Nat) (hi : i < 8) : bitAt (bits8 l) i = decide (l[i] ≠ []) := by
  rw [bits8_num l h]
  obtain ⟨_, h0, h1, h2, h3, h4, h5, h6, h7⟩ := num8_bits (decide (l[0] ≠ [])) (decide (l[1] ≠ [])) (decide (l[2] ≠ [])) (decide (l[3] ≠ [])) (decide (l[4] ≠ [])) (decide (l[5] ≠ [])) (decide (l[6] ≠ [])) (decide (l[7] ≠ []))
  match i, hi with
  | 0, _ => exact h0
  | 1, _ => exact h1
  | 2, _ => exact h2
  | 3, _ => exact h3
  | 4, _ => exact h4
  | 5, _ => exact h5
  | 6, _ => exact h6
  | 7, _ => exact h7
theorem bits8_back (l : List S) (h : l.length = 8) (b : UInt8) (hb : ∀ i (hi : i < 8), decide (l[i] ≠ []) = bitAt b.toNat i) : bits8 l = b.toNat := by
  rw [bits8_num l h, hb 0 (by omega), hb 1 (by omega), hb 2 (by omega), hb 3 (by omega), hb 4 (by omega), hb 5 (by omega), hb 6 (by omega), hb 7 (by omega)]
  exact num8_back ⟨b.toNat, b.toNat_lt⟩

/-! ### reading a node's bytes -/
/-- The bytes that are left, and what was wrong first. -/
abbrev St := S × Int
def rdB (n : Nat) (st : St) : S × St := if st.2 ≠ 0 then ([], st) else if st.1.length < n then ([], st.1, 20) else (st.1.take n, st.1.drop n, 0)
theorem rdB_app (a r : S) (n : Nat) (h : a.length = n) : rdB n (a ++ r, 0) = (a, r, 0) := by
  subst h
  simp [rdB]
theorem rdB_ok {n : Nat} {st : St} (h : (rdB n st).2.2 = 0) : st.2 = 0 ∧ st.1 = (rdB n st).1 ++ (rdB n st).2.1 ∧ (rdB n st).1.length = n := by
  unfold rdB at h ⊢
  split at h
  · rename_i hc; exact absurd h hc
  · rename_i hc
    rw [if_neg hc]
    split at h
    · cases h
    · rename_i hl
      rw [if_neg hl]
      simp only [ne_eq, Decidable.not_not] at hc
      exact ⟨hc, by simp, by simp; omega⟩
/-- The sixteen places, one by one. -/
def rdKids (b : Nat → Bool) : Nat → St → List S × St
  | 0, st => ([], st)
  | k + 1, st =>
    let p := rdKids b k st
    if b k then (p.1 ++ [(rdB 32 p.2).1], (rdB 32 p.2).2) else (p.1 ++ [[]], p.2)
theorem rdKids_len (b : Nat → Bool) (k : Nat) (st : St) : (rdKids b k st).1.length = k := by
  induction k with
  | zero => rfl
  | succ k ih =>
    simp only [rdKids]
    split <;> simp [ih]
theorem rdKids_app (l : List S) (h : all32 l = true) (b : Nat → Bool) (k : Nat) (hk : k ≤ l.length) (hb : ∀ i (hi : i < k), b i = decide (l[i]'(by omega) ≠ [])) (r : S) : rdKids b k ((l.take k).flatten ++ r, 0) = (l.take k, r, 0) := by
  induction k generalizing r with
  | zero => simp [rdKids]
  | succ k ih =>
    have hlt : k < l.length := by omega
    have h1 := List.take_succ_eq_append_getElem hlt
    have h2 : ∀ r, rdKids b k ((l.take k).flatten ++ r, 0) = (l.take k, r, 0) := fun r => ih (by omega) (fun i hi => hb i (by omega)) r
    have h3 : l[k] = [] ∨ l[k].length = 32 := by
      have := List.all_eq_true.1 h l[k] (List.getElem_mem hlt)
      simpa using this
    simp only [rdKids]
    rw [h1, List.flatten_append, List.append_assoc, h2, hb k (Nat.lt_succ_self k)]
    by_cases he : l[k] = []
    · simp [he]
    · have h4 := h3.resolve_left he
      rw [if_pos (by simpa using he)]
      have h5 := rdB_app l[k] r 32 h4
      simp only [List.flatten_cons, List.flatten_nil, List.append_nil]
      rw [h5]
theorem rdKids_ok (b : Nat → Bool) (k : Nat) (st : St) (h : (rdKids b k st).2.2 = 0) : st.2 = 0 ∧ st.1 = (rdKids b k st).1.flatten ++ (rdKids b k st).2.1 ∧ all32 (rdKids b k st).1 = true ∧ ∀ i (hi : i < k), b i = decide ((rdKids b k st).1[i]'(by rw [rdKids_len]; exact hi) ≠ []) := by
  induction k with
  | zero => exact ⟨h, by simp [rdKids], rfl, fun i hi => absurd hi (by omega)⟩
  | succ k ih =>
    have hl := rdKids_len b k st
    by_cases hb : b k = true
    · have e : rdKids b (k + 1) st = ((rdKids b k st).1 ++ [(rdB 32 (rdKids b k st).2).1], (rdB 32 (rdKids b k st).2).2) := by simp [rdKids, hb]
      simp only [e] at h ⊢
      obtain ⟨h1, h2, h3⟩ := rdB_ok h
      obtain ⟨i1, i2, i3, i4⟩ := ih h1
      refine ⟨i1, ?_, ?_, ?_⟩
      · rw [i2]
        simp only [List.flatten_append, List.flatten_cons, List.flatten_nil, List.append_nil, List.append_assoc]
        rw [← h2]
      · simp only [all32, List.all_append, Bool.and_eq_true] at i3 ⊢
        exact ⟨i3, by simp [h3]⟩
      · intro i hi
        by_cases hik : i < k
        · rw [List.getElem_append_left (by omega)]
          exact i4 i hik
        · obtain rfl : i = k := by omega
          rw [List.getElem_append_right (by omega)]
          have : (rdB 32 (rdKids b i st).2).1 ≠ [] := fun q => by rw [q] at h3; simp at h3
          simp [hb, this]
    · have hbf : b k = false := by simpa using hb
      have e : rdKids b (k + 1) st = ((rdKids b k st).1 ++ [[]], (rdKids b k st).2) := by simp [rdKids, hbf]
      simp only [e] at h ⊢
      obtain ⟨i1, i2, i3, i4⟩ := ih h
      refine ⟨i1, by rw [i2]; simp, ?_, ?_⟩
      · simp only [all32, List.all_append, Bool.and_eq_true] at i3 ⊢
        exact ⟨i3, by simp⟩
      · intro i hi
        by_cases hik : i < k
        · rw [List.getElem_append_left (by omega)]
          exact i4 i hik
        · obtain rfl : i = k := by omega
          rw [List.getElem_append_right (by omega)]
          simp [hbf, hl]
end Go.Proofs.Ytjbagjhadmbjnaa.Nd
namespace Go.Proofs.Ytjbagjhadmbjnaa
open Go.RowKit

def cellsL (l : List UInt8) : List Value := l.map fun b => .int .u8 (b.toNat : Int)
theorem cellsL_append (a b : List UInt8) : cellsL (a ++ b) = cellsL a ++ cellsL b := by simp [cellsL]
theorem Try.infoByte : (Try.prog.info? 5).map (fun i => (i.zero, i.size, i.bytes)) = some (some (.int .u8 0), 1, 1) := by kernel_rfl
theorem byte_lt (b : UInt8) : (b.toNat : Int) < 256 := by have := b.toNat_lt; simp at this; omega
theorem byte_and15 (b : UInt8) : bits .and .u8 (b.toNat : Int) 15 = (((b % 16).toNat : Nat) : Int) := by
  rw [Nib.toNat_mod16]; exact u8_and15 (x := (b.toNat : Int)) (Int.natCast_nonneg _) (byte_lt b)
theorem byte_join (a b : UInt8) (ha : a.toNat ≤ 15) (hb : b.toNat ≤ 15) : bits .or .u8 ((a.toNat : Int) * 16 % 256) (b.toNat : Int) = (((a * 16 + b).toNat : Nat) : Int) := by
  have e : ((a.toNat : Int) * 16 % 256) = ((a.toNat * 16 : Nat) : Int) := by omega
  rw [e, u8_or_nat _ _ (by omega) (by omega), Nib.or_join _ _ (by omega)]
  simp [UInt8.toNat_add, UInt8.toNat_mul]
  omega
set_option maxRecDepth 100000 in
theorem conv_own {w : World} {B : Nat} {v : Value} {ys : List UInt8} (h : w.ownsRow B 5 1 v ys.length (cellsL ys)) : (convert 49 9 v).run Try.prog w = .ok (.string ⟨ys.toArray⟩) w := by
  rcases h.2 with ⟨rfl, h0⟩ | ⟨g, cap, cur, rfl, _⟩
  · obtain rfl : ys = [] := List.eq_nil_of_length_eq_zero h0
    rfl
  · refine run_convert_bytes_back w 49 9 5 ⟨g, 0, none⟩ cap ys Try.underlying49 Try.underlying5 Try.underlying9 ?_
    intro j hj
    exact h.cells (g := g) rfl j _ (by simp [cellsL, hj])
theorem ownsNil (w : World) (B : Nat) : w.ownsRow B 5 1 (.slice none 0 0) ([] : List UInt8).length (cellsL []) := ⟨rfl, Or.inl ⟨rfl, rfl⟩⟩
theorem ownsOne (w : World) (B : Nat) (hB : B ≤ w.heap.size) (b : UInt8) (z : Int) (hz : z = (b.toNat : Int)) : (w.alloc (.cells #[.int .u8 z] 5)).ownsRow B 5 1 (.slice (some ⟨w.heap.size, 0, none⟩) 1 1) [b].length (cellsL [b]) := by
  subst hz
  exact ⟨rfl, Or.inr ⟨w.heap.size, 1, #[.int .u8 (b.toNat : Int)], rfl, hB, heap_alloc_new w _, Nat.le_refl _, by unfold maxLen; omega, rfl, rfl⟩⟩
theorem or_16 (a : UInt8) (ha : a.toNat ≤ 15) : bits .or .u8 16 (a.toNat : Int) = ((16 + a.toNat : Nat) : Int) := by
  have := u8_or_nat 16 a.toNat (by omega) (by omega)
  have e := Nib.or_join 1 a.toNat (by omega)
  rw [show (16 : Int) = ((16 : Nat) : Int) from rfl, this]
  simp at e; omega
theorem or_head0 (a : UInt8) (ha : a.toNat ≤ 15) : bits .or .u8 0 (bits .or .u8 16 (a.toNat : Int)) = (((16 + a).toNat : Nat) : Int) := by
  rw [or_16 a ha, show (0 : Int) = ((0 : Nat) : Int) from rfl, u8_or_nat _ _ (by omega) (by omega)]
  simp [UInt8.toNat_add]; omega
theorem or_head2 (a : UInt8) (ha : a.toNat ≤ 15) : bits .or .u8 (bits .or .u8 0 32) (bits .or .u8 16 (a.toNat : Int)) = (((48 + a).toNat : Nat) : Int) := by
  have e0 : bits .or .u8 0 32 = ((32 : Nat) : Int) := by decide +kernel
  have e := Nat.two_pow_add_eq_or_of_lt (i := 5) (b := 16 + a.toNat) (by omega) 1
  rw [or_16 a ha, e0, u8_or_nat _ _ (by omega) (by omega)]
  simp [UInt8.toNat_add]; simp at e; omega
theorem or_0_32 : bits .or .u8 0 32 = (((32 : UInt8).toNat : Nat) : Int) := by decide +kernel
theorem bytes_list (a : ByteArray) : ∃ l : List UInt8, a = ⟨l.toArray⟩ := ⟨a.data.toList, by simp⟩
theorem ownsTwo (w : World) (B : Nat) (hB : B ≤ w.heap.size) (a b : UInt8) (x y : Int) (hx : x = (a.toNat : Int)) (hy : y = (b.toNat : Int)) : (w.alloc (.cells #[.int .u8 x, .int .u8 y] 5)).ownsRow B 5 1 (.slice (some ⟨w.heap.size, 0, none⟩) 2 2) [a, b].length (cellsL [a, b]) := by
  subst hx; subst hy
  exact ⟨rfl, Or.inr ⟨w.heap.size, 2, #[.int .u8 (a.toNat : Int), .int .u8 (b.toNat : Int)], rfl, hB, heap_alloc_new w _, Nat.le_refl _, by unfold maxLen; omega, rfl, rfl⟩⟩
theorem conv_two (w : World) (a b : UInt8) (x y : Int) (hx : x = (a.toNat : Int)) (hy : y = (b.toNat : Int)) :
    (convert 49 9 (.slice (some ⟨w.heap.size, 0, none⟩) 2 2)).run Try.prog (w.alloc (.cells #[.int .u8 x, .int .u8 y] 5)).drew = .ok (.string ⟨[a, b].toArray⟩) (w.alloc (.cells #[.int .u8 x, .int .u8 y] 5)).drew :=
  conv_own ((ownsTwo w w.heap.size (Nat.le_refl _) a b x y hx hy).drew)
theorem conv_one (w : World) (a : UInt8) (x : Int) (hx : x = (a.toNat : Int)) :
    (convert 49 9 (.slice (some ⟨w.heap.size, 0, none⟩) 1 1)).run Try.prog (w.alloc (.cells #[.int .u8 x] 5)).drew = .ok (.string ⟨[a].toArray⟩) (w.alloc (.cells #[.int .u8 x] 5)).drew :=
  conv_own ((ownsOne w w.heap.size (Nat.le_refl _) a x hx).drew)
theorem conv_two' (w : World) (a b : UInt8) (x y : Int) (hx : x = (a.toNat : Int)) (hy : y = (b.toNat : Int)) :
    (convert 49 9 (.slice (some ⟨w.heap.size, 0, none⟩) 2 2)).run Try.prog (w.alloc (.cells #[.int .u8 x, .int .u8 y] 5)) = .ok (.string ⟨[a, b].toArray⟩) (w.alloc (.cells #[.int .u8 x, .int .u8 y] 5)) :=
  conv_own (ownsTwo w w.heap.size (Nat.le_refl _) a b x y hx hy)
theorem conv_one' (w : World) (a : UInt8) (x : Int) (hx : x = (a.toNat : Int)) (n : Nat) (hn : n = w.heap.size) :
    (convert 49 9 (.slice (some ⟨n, 0, none⟩) 1 1)).run Try.prog (w.alloc (.cells #[.int .u8 x] 5)) = .ok (.string ⟨[a].toArray⟩) (w.alloc (.cells #[.int .u8 x] 5)) := by
  subst hn
  exact conv_own (ownsOne w w.heap.size (Nat.le_refl _) a x hx)
theorem cat_mk (p x : List UInt8) : ((⟨p.toArray⟩ : ByteArray) ++ (⟨x.toArray⟩ : ByteArray)) = ⟨(p ++ x).toArray⟩ := by
  apply ByteArray.ext; simp
theorem join_toNat (c d : UInt8) (hc : c.toNat ≤ 15) (hd : d.toNat ≤ 15) : (c.toNat : Int) * 16 + (d.toNat : Int) = (((c * 16 + d).toNat : Nat) : Int) := by
  simp [UInt8.toNat_add, UInt8.toNat_mul]; omega
theorem bchain {w w1 w2 : World} (h : Below w.heap.size w w1) (k : Below w1.heap.size w1 w2) : Below w.heap.size w w2 := h.trans (k.mono h.size)
theorem and16_fin : ∀ n : Fin 256, (bits .and .u8 (n.val : Int) 16 != 0) = decide (n.val / 16 % 2 = 1) := by decide +kernel
theorem and32_fin : ∀ n : Fin 256, n.val / 16 ≤ 3 → (bits .and .u8 (n.val : Int) 32 != 0) = decide (2 ≤ n.val / 16) := by decide +kernel
theorem and15_fin : ∀ n : Fin 256, (bits .and .u8 (n.val : Int) 15 == 0) = decide (n.val % 16 = 0) := by decide +kernel
theorem and16 (b : UInt8) : (bits .and .u8 (b.toNat : Int) 16 != 0) = decide (b.toNat / 16 % 2 = 1) := and16_fin ⟨b.toNat, b.toNat_lt⟩
theorem and32 (b : UInt8) (h : b.toNat / 16 ≤ 3) : (bits .and .u8 (b.toNat : Int) 32 != 0) = decide (2 ≤ b.toNat / 16) := and32_fin ⟨b.toNat, b.toNat_lt⟩ h
theorem and15 (b : UInt8) : (bits .and .u8 (b.toNat : Int) 15 == 0) = decide (b.toNat % 16 = 0) := and15_fin ⟨b.toNat, b.toNat_lt⟩
end Go.Proofs.Ytjbagjhadmbjnaa
namespace Go.Proofs.Ytjbagjhadmbjnaa
open Go.RowKit

theorem lt_of_heap {w : World} {g : Nat} {o : Obj} (h : w.heap[g]? = some o) : g < w.heap.size := by
  rcases Nat.lt_or_ge g w.heap.size with hlt | hge
  · exact hlt
  · rw [Array.getElem?_eq_none hge] at h; cases h
theorem heap_new_at (w : World) (o : Obj) (i : Nat) (h : i = w.heap.size) : (w.alloc o).heap[i]? = some o := by subst h; exact heap_alloc_new w o
theorem heap_old_at {w : World} {i : Nat} {x : Obj} (o : Obj) (h : w.heap[i]? = some x) : (w.alloc o).heap[i]? = some x := (Below.heap_alloc w o i (lt_of_heap h)).trans h

/-- The world but for block g. -/
structure Only (g : Nat) (w w' : World) : Prop where
  os : w'.os = w.os
  tape : w'.tape = w.tape
  output : w'.output = w.output
  size : w.heap.size ≤ w'.heap.size
  block : ∀ k, k < w.heap.size → k ≠ g → w'.heap[k]? = w.heap[k]?
theorem Only.refl (g : Nat) (w : World) : Only g w w := ⟨rfl, rfl, rfl, Nat.le_refl _, fun _ _ _ => rfl⟩
theorem Only.trans {g : Nat} {a b c : World} (h : Only g a b) (k : Only g b c) : Only g a c :=
  ⟨k.os.trans h.os, k.tape.trans h.tape, k.output.trans h.output, Nat.le_trans h.size k.size, fun i hi hg => (k.block i (Nat.lt_of_lt_of_le hi h.size) hg).trans (h.block i hi hg)⟩
theorem Only.of {g : Nat} {a b : World} (h : Below a.heap.size a b) : Only g a b := ⟨h.os, h.tape, h.output, h.size, fun i hi _ => h.block i hi⟩
theorem Only.below {B g : Nat} {a b : World} (h : Only g a b) (hB : B ≤ g) (hs : B ≤ a.heap.size) : Below B a b := ⟨h.os, h.tape, h.output, h.size, fun i hi => h.block i (by omega) (by omega)⟩
theorem Only.setCell {g : Nat} {a w : World} (h : Only g a w) {p : Addr} (hp : p.block = g) (u : Value) : Only g a (w.setCell p u) :=
  ⟨h.os, h.tape, h.output, by have := h.size; simpa [World.setCell] using this, fun i hi hg => (Below.heap_setCell w p u i (by rw [hp]; exact hg)).trans (h.block i hi hg)⟩
theorem Only.drew {g : Nat} {a w : World} (h : Only g a w) : Only g a w.drew := ⟨h.os, h.tape, h.output, h.size, h.block⟩
theorem Only.cell {g : Nat} {w w' : World} (h : Only g w w') {p : Addr} {v : Value} (hc : w.cell? p = some v) (hp : p.block ≠ g) : w'.cell? p = some v :=
  (World.cell?_of_block (w := w) (h.block p.block (World.block_lt_of_cell? _ _ hc) hp)).trans hc
theorem ext_drop (s : List UInt8) (k : Nat) : (⟨s.toArray⟩ : ByteArray).extract k s.length = ⟨(s.drop k).toArray⟩ := by
  rw [Lib.extract_eq]
  simp only
  rw [List.take_of_length_le (by simp)]
end Go.Proofs.Ytjbagjhadmbjnaa
namespace Go.Proofs.Ytjbagjhadmbjnaa
open Go.RowKit Go.MapKept
open Go.ChangeMaps (setBlock heap_setBlock_same heap_setBlock_other)
open Go.Maps (Keyed)

/-- The world but for the blocks of F. -/
structure Out (F : Nat → Prop) (w w' : World) : Prop where
  os : w'.os = w.os
  tape : w'.tape = w.tape
  output : w'.output = w.output
  size : w.heap.size ≤ w'.heap.size
  block : ∀ k, k < w.heap.size → ¬ F k → w'.heap[k]? = w.heap[k]?
theorem Out.refl (F : Nat → Prop) (w : World) : Out F w w := ⟨rfl, rfl, rfl, Nat.le_refl _, fun _ _ _ => rfl⟩
theorem Out.trans {F : Nat → Prop} {a b c : World} (h : Out F a b) (k : Out F b c) : Out F a c :=
  ⟨k.os.trans h.os, k.tape.trans h.tape, k.output.trans h.output, Nat.le_trans h.size k.size, fun i hi hg => (k.block i (Nat.lt_of_lt_of_le hi h.size) hg).trans (h.block i hi hg)⟩
theorem Out.mono {F G : Nat → Prop} {a b : World} (h : Out F a b) (hi : ∀ k, k < a.heap.size → F k → G k) : Out G a b :=
  ⟨h.os, h.tape, h.output, h.size, fun i hl hg => h.block i hl (fun hf => hg (hi i hl hf))⟩
theorem Out.of {F : Nat → Prop} {a b : World} (h : Below a.heap.size a b) : Out F a b := ⟨h.os, h.tape, h.output, h.size, fun i hi _ => h.block i hi⟩
theorem Out.below {B : Nat} {F : Nat → Prop} {a b : World} (h : Out F a b) (hB : ∀ k, F k → B ≤ k) (hs : B ≤ a.heap.size) : Below B a b :=
  ⟨h.os, h.tape, h.output, h.size, fun i hi => h.block i (by omega) (fun hf => absurd (hB i hf) (by omega))⟩
theorem Out.drew {F : Nat → Prop} {a w : World} (h : Out F a w) : Out F a w.drew := ⟨h.os, h.tape, h.output, h.size, h.block⟩
theorem Out.alloc {F : Nat → Prop} {a w : World} (h : Out F a w) (o : Obj) : Out F a (w.alloc o) := h.trans (Out.of ((Below.refl _ w).alloc (Nat.le_refl _) o))
theorem Out.setCell {F : Nat → Prop} {a w : World} (h : Out F a w) {p : Addr} (hp : F p.block) (u : Value) : Out F a (w.setCell p u) :=
  ⟨h.os, h.tape, h.output, by have := h.size; simpa [World.setCell] using this, fun i hi hg => (Below.heap_setCell w p u i (fun e => hg (e ▸ hp))).trans (h.block i hi hg)⟩
theorem Out.grown {F : Nat → Prop} {w w' : World} {row : Option Nat} (h : w.grownBy w' row) (hr : ∀ k, row = some k → F k) : Out F w w' :=
  ⟨h.os, h.tape, h.output, h.size, fun i hi hg => h.block i hi (fun e => hg (hr i e.symm))⟩
theorem Out.heap {F : Nat → Prop} {w w' : World} (h : Out F w w') {k : Nat} {o : Obj} (hk : w.heap[k]? = some o) (hF : ¬ F k) : w'.heap[k]? = some o := (h.block k (lt_of_heap hk) hF).trans hk
theorem Out.cell {F : Nat → Prop} {w w' : World} (h : Out F w w') {p : Addr} {v : Value} (hc : w.cell? p = some v) (hp : ¬ F p.block) : w'.cell? p = some v :=
  (World.cell?_of_block (w := w) (h.block p.block (World.block_lt_of_cell? _ _ hc) hp)).trans hc

/-- Block b is a map of these entries, in the order in which they came. -/
def MapIs (w : World) (b : Nat) (E : List (Value × Value)) : Prop :=
  ∃ es clock, w.heap[b]? = some (.map es clock) ∧ es.toList.map (fun e => (e.key, e.val)) = E
theorem MapIs.lt {w : World} {b : Nat} {E : List (Value × Value)} (h : MapIs w b E) : b < w.heap.size := by
  obtain ⟨_, _, h1, _⟩ := h; exact lt_of_heap h1
theorem MapIs.out {F : Nat → Prop} {w w' : World} {b : Nat} {E : List (Value × Value)} (h : MapIs w b E) (ho : Out F w w') (hF : ¬ F b) : MapIs w' b E := by
  obtain ⟨es, clock, h1, h2⟩ := h
  exact ⟨es, clock, ho.heap h1 hF, h2⟩
theorem MapIs.drew {w : World} {b : Nat} {E : List (Value × Value)} (h : MapIs w b E) : MapIs w.drew b E := h
theorem MapIs.alloc {w : World} {b : Nat} {E : List (Value × Value)} (h : MapIs w b E) (o : Obj) : MapIs (w.alloc o) b E := by
  obtain ⟨es, clock, h1, h2⟩ := h
  exact ⟨es, clock, heap_old_at o h1, h2⟩
theorem MapIs.store {P : Program} {w : World} {b : Nat} {E : List (Value × Value)} {k t e : TypeId} (h : MapIs w b E) (K : Keyed P k) (ht : P.underlying t = some (.map k e))
    (hks : ∀ p ∈ E, ∃ l, keyOf P k p.1 = some l) {key : Value} {kl : Lit} (hkey : keyOf P k key = some kl) (hno : ∀ p ∈ E, p.1 ≠ key) (val : Value) :
    ∃ w', (Instr.mapUpdate t (.map (some b)) key val).run P w = .ok () w' ∧ MapIs w' b (E ++ [(key, val)]) ∧ Out (fun i => i = b) w w' ∧ w'.heap.size = w.heap.size := by
  obtain ⟨es, clock, hb, rfl⟩ := h
  have hk' : ∀ x ∈ es.toList, ∃ l, keyOf P k x.key = some l := fun x hx => hks (x.key, x.val) (List.mem_map.2 ⟨x, hx, rfl⟩)
  rcases K.find w hkey es.toList hk' with ⟨h1, h2⟩ | ⟨j, e0, h1, h2, h3⟩
  · refine ⟨setBlock w b (.map (es.push ⟨key, val, clock⟩) (clock + 1)), ?_, ⟨_, _, heap_setBlock_same hb _, by simp⟩, ⟨rfl, rfl, rfl, by simp [setBlock], fun i _ hi => heap_setBlock_other hb _ hi⟩, by simp [setBlock]⟩
    simp [Instr.mapUpdate, run_underlying ht, MapKept.run_getObj_map hb, K.check w false hkey, h1, MapKept.run_setObj_map _ hb, Result.andThen, setBlock]
  · exact absurd h3 (hno (e0.key, e0.val) (List.mem_map.2 ⟨e0, List.mem_of_getElem? h2, rfl⟩))

theorem own_form {w : World} {B : Nat} {e : TypeId} {z : Nat} {s : Value} {n : Nat} {xs : List Value} (h : w.ownsRow B e z s n xs) : ∃ A cap, s = .slice A n cap := by
  rcases h.2 with ⟨rfl, rfl⟩ | ⟨k, cap, cur, rfl, _⟩
  · exact ⟨none, 0, rfl⟩
  · exact ⟨_, cap, rfl⟩
theorem row_out {G : Nat → Prop} {w w' : World} {B : Nat} {e : TypeId} {z : Nat} {s : Value} {n : Nat} {xs : List Value} (h : w.ownsRow B e z s n xs) (ho : Out G w w') (hd : ∀ k cs t f, G k → w.heap[k]? ≠ some (.cells cs t f)) : w'.ownsRow B e z s n xs := by
  refine ⟨h.1, ?_⟩
  rcases h.2 with hn | ⟨k, cap, cur, hv, hb, hk, hr⟩
  · exact Or.inl hn
  · exact Or.inr ⟨k, cap, cur, hv, hb, ho.heap hk (fun hg => hd k _ _ _ hg hk), hr⟩
end Go.Proofs.Ytjbagjhadmbjnaa
namespace Go.Proofs.Ytjbagjhadmbjnaa
open Go.RowKit

def Strs (w : World) (v : Value) (L : List (List UInt8)) : Prop :=
  ∃ (A : Option Addr) (cap : Nat), v = .slice A L.length cap ∧ ∀ i (h : i < L.length), ∃ a, A = some a ∧ w.cell? (a.add i) = some (.string ⟨L[i].toArray⟩)
theorem Strs.below {w w' : World} {v : Value} {L : List (List UInt8)} (h : Strs w v L) (hb : Below w.heap.size w w') : Strs w' v L := by
  obtain ⟨A, cap, rfl, hc⟩ := h
  refine ⟨A, cap, rfl, fun i hi => ?_⟩
  obtain ⟨a, ha, hcell⟩ := hc i hi
  exact ⟨a, ha, (hb.cell (World.block_lt_of_cell? _ _ hcell)).trans hcell⟩
theorem Strs.nil (w : World) : Strs w (.slice none 0 0) [] := ⟨none, 0, rfl, fun i h => absurd h (Nat.not_lt_zero i)⟩
theorem Code.textL_length (s : List UInt8) : (Code.textL s).length = 1 + Code.sz s.length + s.length := by simp [Code.textL, Code.numL_length]
end Go.Proofs.Ytjbagjhadmbjnaa
namespace Go.Proofs.Ytjbagjhadmbjnaa
open Go.RowKit Go.ChangeShapes Go.WideShapes

end Go.Proofs.Ytjbagjhadmbjnaa
namespace Go.Proofs.Ytjbagjhadmbjnaa
open Go.RowKit

def scells (L : List (List UInt8)) : List Value := L.map fun l => .string ⟨l.toArray⟩
theorem scells_length (L : List (List UInt8)) : (scells L).length = L.length := by simp [scells]
theorem scells_append (L K : List (List UInt8)) : scells (L ++ K) = scells L ++ scells K := by simp [scells]
/-- A row of texts of the call's own, in a block from B on. -/
def Own (w : World) (B : Nat) (s : Value) (L : List (List UInt8)) : Prop := w.ownsRow B 9 1 s L.length (scells L)
theorem Own.nil (w : World) (B : Nat) : Own w B (.slice none 0 0) [] := ⟨rfl, Or.inl ⟨rfl, rfl⟩⟩
theorem Own.strs {w : World} {B : Nat} {s : Value} {L : List (List UInt8)} (h : Own w B s L) : Strs w s L := by
  obtain ⟨A, cap, rfl⟩ := own_form h
  refine ⟨A, cap, rfl, fun i hi => ?_⟩
  obtain ⟨g, cap', hv, hB, hlt⟩ := World.ownsRow.form h (by omega)
  obtain ⟨rfl, rfl⟩ : A = some ⟨g, 0, none⟩ ∧ cap = cap' := by simpa using hv
  exact ⟨_, rfl, World.ownsRow.cells h rfl i _ (by simp [scells, hi])⟩
theorem Own.below {w w' : World} {B : Nat} {s : Value} {L : List (List UInt8)} (h : Own w B s L) (hb : Below w.heap.size w w') : Own w' B s L :=
  row_out (G := fun _ => False) h (Out.of hb) (fun _ _ _ _ hf => hf.elim)
theorem Own.lt {w : World} {B : Nat} {s : Value} {L : List (List UInt8)} (h : Own w B s L) (k : Nat) (hk : s.ownBlock = some k) : B ≤ k ∧ k < w.heap.size := World.ownsRow.lt h k hk
theorem Own.strs_at {w w' : World} {B : Nat} {A : Option Addr} {n cap : Nat} {L : List (List UInt8)} (h : Own w B (.slice A n cap) L) (hb : Below w.heap.size w w') (k : Nat) (hk : k < L.length) : ∃ a, A = some a ∧ w'.cell? (a.add k) = some (.string ⟨L[k].toArray⟩) := by
  obtain ⟨A', cap', hv, hc⟩ := (h.below hb).strs
  obtain ⟨rfl, _⟩ : A = A' ∧ _ := by simpa using hv
  exact hc k hk
end Go.Proofs.Ytjbagjhadmbjnaa
namespace Go.Proofs.Ytjbagjhadmbjnaa
open Go.RowKit
open Go.Proofs.Ytjbagjhadmbjnaa.Nd (N)

def ncl (n : N) : List Value := .int .i64 n.kind :: .string ⟨n.path.toArray⟩ :: .string ⟨n.val.toArray⟩ :: scells n.kids
def nval (n : N) : Value := .agg (ncl n).toArray
theorem ncl_length (n : N) (h : n.kids.length = 16) : (ncl n).length = 19 := by simp [ncl, scells_length, h]
set_option maxRecDepth 100000 in
theorem Try.infoStrN : (Try.prog.info? 9).map (fun i => (i.zero, i.size, i.bytes)) = some (some (.string ⟨#[]⟩), 1, 16) := by kernel_rfl
/-- A node in a block. -/
def NodeAt (w : World) (g : Nat) (n : N) : Prop := w.heap[g]? = some (.cells (ncl n).toArray 25 (0, 0))
theorem NodeAt.kind {w : World} {g : Nat} {n : N} (h : NodeAt w g n) : w.cell? ⟨g, 0, none⟩ = some (.int .i64 n.kind) := by
  rw [cell_of_row w g 0 _ _ _ h]
  rfl
theorem NodeAt.path {w : World} {g : Nat} {n : N} (h : NodeAt w g n) : w.cell? ⟨g, 1, none⟩ = some (.string ⟨n.path.toArray⟩) := by
  rw [cell_of_row w g 1 _ _ _ h]
  rfl
theorem NodeAt.val {w : World} {g : Nat} {n : N} (h : NodeAt w g n) : w.cell? ⟨g, 2, none⟩ = some (.string ⟨n.val.toArray⟩) := by
  rw [cell_of_row w g 2 _ _ _ h]
  rfl
theorem NodeAt.kid {w : World} {g : Nat} {n : N} (h : NodeAt w g n) (i : Nat) (hi : i < n.kids.length) : w.cell? ⟨g, 3 + i, none⟩ = some (.string ⟨n.kids[i].toArray⟩) := by
  rw [cell_of_row w g (3 + i) _ _ _ h, List.getElem?_toArray, Nat.add_comm 3 i]
  show (scells n.kids)[i]? = _
  simp [scells, hi]
theorem NodeAt.below {w w' : World} {g : Nat} {n : N} (h : NodeAt w g n) (hb : Below w.heap.size w w') : NodeAt w' g n := (hb.block g (lt_of_heap h)).trans h
theorem Nd.kids_take (l : List (List UInt8)) (k : Nat) (hk : k < l.length) : Nd.kidsL (l.take (k + 1)) = if l[k] = [] then Nd.kidsL (l.take k) else Nd.kidsL (l.take k) ++ [l[k]] := by
  unfold Nd.kidsL
  rw [List.take_succ_eq_append_getElem hk, List.filter_append]
  by_cases h : l[k] = [] <;> simp [h]
theorem own_lowS {w : World} {B B' : Nat} {s : Value} {L : List (List UInt8)} (h : Own w B s L) (hB : B' ≤ B) : Own w B' s L := by
  refine ⟨h.1, ?_⟩
  rcases h.2 with hn | ⟨k, cap, cur, hv, hb, hk, hr⟩
  · exact Or.inl hn
  · exact Or.inr ⟨k, cap, cur, hv, Nat.le_trans hB hb, hk, hr⟩
def KidsPost (n : N) (w : World) (e : Ending) (w' : World) : Prop := ∃ z, e = .returned z ∧ Own w' w.heap.size z (Nd.kidsL n.kids) ∧ Below w.heap.size w w'

set_option maxRecDepth 100000 in
set_option maxHeartbeats 1000000 in
theorem rKids_any (n : N) (w : World) (hn : n.kids.length = 16) :
    Calls Try.prog 34 #[nval n] w (KidsPost n w) := by
  unfold KidsPost nval
  obtain ⟨i0, hi, hz0, hz1, hz2⟩ := info_parts Try.infoStrN
  have hat : NodeAt (w.alloc (.cells (ncl n).toArray 25)) w.heap.size n := heap_new_at w _ _ rfl
  have HAT := Lib.hid hat
  have hb0 : Below w.heap.size w (w.alloc (.cells (ncl n).toArray 25)) := (Below.refl _ w).alloc (Nat.le_refl _) _
  have HB0 := Lib.hid hb0
  have hcs : (ncl n).toArray.size = 19 := by rw [List.size_toArray, ncl_length n hn]
  obtain ⟨C, hC⟩ : ∃ C, (ncl n).toArray = C := ⟨_, rfl⟩
  rw [hC] at HAT HB0 hcs ⊢
  clear hat hb0 hC
  go_enter Try.func34, Try.ntmps34
  go_wp2
  generalize (w.alloc (.cells C 25)) = w0 at *
  have HSZ : Hid (w.heap.size < w0.heap.size) := Lib.hid (lt_of_heap (HAT.out))
  have HRW : Hid (∀ w', Below w0.heap.size w0 w' → ∀ i (hi : i < n.kids.length), w'.cell? ⟨w.heap.size, 3 + i, none⟩ = some (.string ⟨n.kids[i].toArray⟩)) := Lib.hid (fun w' h i hi => (HAT.out.below h).kid i hi)
  go_loopw [3, 4] (fun sl i wr => ∃ (k : Nat) (z : Value), z = sl ∧ k ≤ 16 ∧ i = .int .i64 k ∧ Own wr w0.heap.size z (Nd.kidsL (n.kids.take k)) ∧ Below w0.heap.size w0 wr) (fun _ i _ => 16 - (intOf i).toNat)
  case atStart => exact ⟨0, _, rfl, Nat.zero_le _, rfl, Own.nil _ _, Below.refl _ _⟩
  case round =>
    obtain ⟨k, z, rfl, hk, rfl, hown, hb⟩ := hrel
    have HBk := Lib.hid hb
    have HOW := Lib.hid hown
    by_cases hlt : k < 16
    · have h1 : (k : Int) < 16 := by omega
      have h0 : (0 : Int) ≤ (k : Int) := by omega
      have n0 := HRW.out wr hb k (by omega)
      have HST := Lib.hid (Nd.kids_take n.kids k (by omega))
      have hln : (Nd.kidsL (n.kids.take k)).length ≤ 16 := by
        unfold Nd.kidsL
        refine Nat.le_trans (List.length_filter_le _ _) ?_
        rw [List.length_take]
        omega
      obtain ⟨x, hx⟩ : ∃ x, n.kids[k]'(by omega) = x := ⟨_, rfl⟩
      rw [hx] at n0 HST
      obtain ⟨O, hO⟩ : ∃ O, Nd.kidsL (n.kids.take k) = O := ⟨_, rfl⟩
      rw [hO] at HOW HST hln
      have HSZr : Hid (w0.heap.size ≤ wr.heap.size) := Lib.hid hb.size
      have HLN := Lib.hid hln
      clear hx hO hown hln hb
      by_cases he : x = []
      · subst he
        rw [if_pos rfl] at HST
        go_wp2
        exact ⟨⟨k + 1, z, rfl, by omega, by go_num, by rw [HST.out]; exact HOW.out, HBk.out⟩, by simp [intOf]; omega⟩
      · rw [if_neg he] at HST
        have hx1 : (x == []) = false := by rw [beq_eq_false_iff_ne]; exact he
        have hx2 : ¬ (x = []) := he
        go_wp2_with (at_builtin; refine wpList_append_lies _ rfl _ _ _ rfl w0.heap.size 9 i0 (.string ⟨#[]⟩) 1 16 Try.underlying54 hi hz0 hz1 hz2 rfl (by decide) z O.length (scells O) (by rfl) (World.ownsRow.alloc HOW.out _) ⟨wr.heap.size, 0, none⟩ 1 1 (scells [x]) (by rfl) rfl (World.news_of_block (heap_new_at _ _ _ rfl)) (by simp [scells, Value.oneCell']) (by decide) (by have := HLN.out; unfold maxLen; omega) (by have := HLN.out; omega) (by have := HSZr.out; simp; omega) (wr.heap.size + 1) (by simp) ?_; intro g' cap' w5 hown5 hgrow5 hat5 hlt5)
        have hB5 : Below w0.heap.size w0 w5 := HBk.out.trans (((Out.of ((Below.refl _ wr).alloc (Nat.le_refl _) _)).trans (Out.grown hgrow5 (F := fun j => z.ownBlock = some j) (fun j e => e))).below (fun j hj => (HOW.out.lt j hj).1) HSZr.out)
        refine ⟨⟨k + 1, _, rfl, by omega, by go_num, ?_, hB5⟩, by simp [intOf]; omega⟩
        rw [HST.out]
        unfold Own
        rw [scells_append, List.length_append]
        exact hown5
    · have h1 : ¬ ((k : Int) < 16) := by omega
      obtain rfl : k = 16 := by omega
      rw [List.take_of_length_le (by omega)] at HOW
      clear hown hb
      go_wp2
      go_ret
      exact ⟨z, rfl, (own_lowS HOW.out (Nat.le_of_lt HSZ.out)), HB0.out.trans (HBk.out.mono (Nat.le_of_lt HSZ.out))⟩
end Go.Proofs.Ytjbagjhadmbjnaa
namespace Go.Proofs.Ytjbagjhadmbjnaa
open Go.RowKit
open Go.Proofs.Ytjbagjhadmbjnaa.Nd (N)

theorem drop_beq (L K : List (List UInt8)) (i : Nat) (hL : i < L.length) (hK : i < K.length) : (L.drop i == K.drop i) = ((L[i] == K[i]) && (L.drop (i + 1) == K.drop (i + 1))) := by
  rw [List.drop_eq_getElem_cons hL, List.drop_eq_getElem_cons hK, List.cons_beq_cons]
theorem eq_strs (d : Nat) (L K : List (List UInt8)) (w : World) (hL : L.length = 16) (hK : K.length = 16) :
    (Op.equalIn (d + 2) 23 (.agg (scells L).toArray) (.agg (scells K).toArray)).run Try.prog w = .ok (L == K) w := by
  have hu := Try.underlying23
  have hs := Try.sizeOf9
  have ha := Try.isAgg9
  unfold Op.equalIn
  go_simp
  generalize hF : (fun (i : Nat) (__s : Option Bool × PUnit) => _) = F
  have hstep : ∀ i (hi : i < 16) s, (F i s).run Try.prog w = .ok (if (L[i]'(by omega) == K[i]'(by omega)) = true then ForInStep.yield (none, ()) else ForInStep.done (some false, ())) w := by
    intro i hi s
    rw [← hF]
    have e1 : (scells L)[i]? = some (.string ⟨(L[i]'(by omega)).toArray⟩) := by simp [scells, hL, hi]
    have e2 : (scells K)[i]? = some (.string ⟨(K[i]'(by omega)).toArray⟩) := by simp [scells, hK, hi]
    simp only [Sem.run_bind, e1, e2]
    go_simp
    by_cases hc : (L[i]'(by omega)) = (K[i]'(by omega)) <;> simp [hc]
  clear hF
  have key : ∀ n a, a + n = 16 → (forIn (List.range' a n) (none, ()) F).run Try.prog w = .ok (if (L.drop a == K.drop a) = true then (none, ()) else (some false, ())) w := by
    intro n
    induction n with
    | zero =>
      intro a h
      rw [List.drop_of_length_le (by omega), List.drop_of_length_le (by omega)]
      simp
    | succ n ih =>
      intro a h
      rw [List.range'_succ, List.forIn_cons, Sem.run_bind, hstep a (by omega), drop_beq L K a (by omega) (by omega)]
      cases hc : (L[a]'(by omega) == K[a]'(by omega))
      · simp
      · simp [ih (a + 1) (by omega)]
  rw [key 16 0 rfl]
  simp only [List.drop_zero]
  cases (L == K) <;> simp
theorem Nd.beq_eq (n m : N) : decide (n = m) = ((n.kind == m.kind) && ((n.path == m.path) && ((n.val == m.val) && (n.kids == m.kids)))) := by
  obtain ⟨a, b, c, d⟩ := n
  obtain ⟨e, f, g, h⟩ := m
  simp only [Nd.N.mk.injEq]
  by_cases h1 : a = e <;> by_cases h2 : b = f <;> by_cases h3 : c = g <;> by_cases h4 : d = h <;> simp [h1, h2, h3, h4]
theorem kids_part (n : N) (hn : n.kids.length = 16) : List.take 16 (List.drop 3 (ncl n)) = scells n.kids := by
  show List.take 16 (scells n.kids) = _
  rw [List.take_of_length_le (by rw [scells_length, hn]; omega)]
set_option maxRecDepth 100000 in
theorem eq_nodes (n m : N) (w : World) (hn : n.kids.length = 16) (hm : m.kids.length = 16) :
    (Op.equalIn 10000 25 (nval n) (nval m)).run Try.prog w = .ok (decide (n = m)) w := by
  have hu := Try.underlying25
  have hs := Try.sizeOf23
  have ha := Try.isAgg23
  have ha1 := Try.isAgg3
  have ha2 := Try.isAgg9
  have h1 := eq_strs 9997 n.kids m.kids w hn hm
  have k1 := kids_part n hn
  have k2 := kids_part m hm
  have c0 : (ncl n)[0]? = some (.int .i64 n.kind) := rfl
  have c1 : (ncl n)[1]? = some (.string ⟨n.path.toArray⟩) := rfl
  have c2 : (ncl n)[2]? = some (.string ⟨n.val.toArray⟩) := rfl
  have d0 : (ncl m)[0]? = some (.int .i64 m.kind) := rfl
  have d1 : (ncl m)[1]? = some (.string ⟨m.path.toArray⟩) := rfl
  have d2 : (ncl m)[2]? = some (.string ⟨m.val.toArray⟩) := rfl
  rw [Nd.beq_eq]
  unfold nval
  rw [run_equalIn_agg w 9999 _ _ _ (by rfl) (by kernel_rfl)]
  generalize ncl n = A at *
  generalize ncl m = B at *
  go_simp
  by_cases e0 : n.kind = m.kind
  · by_cases e1 : n.path = m.path
    · by_cases e2 : n.val = m.val
      · by_cases hk : n.kids = m.kids <;> simp [e0, e1, e2, hk]
      · simp [e0, e1, e2]
    · simp [e0, e1]
  · simp [e0]
end Go.Proofs.Ytjbagjhadmbjnaa
