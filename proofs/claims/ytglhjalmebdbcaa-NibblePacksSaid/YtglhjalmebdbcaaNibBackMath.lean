/- There and back, for the plain functions on lists of bytes. -/
import Derived.Test.YtglhjalmebdbcaaNibOrderMath
namespace Go.Proofs.Ytglhjalmebdbcaa.Nib

theorem halves_join (b : UInt8) : b / 16 * 16 + b % 16 = b := by
  rw [← UInt8.toNat_inj]
  have := b.toNat_lt
  simp [UInt8.toNat_add, UInt8.toNat_mul]
  omega
theorem join_of (l : List UInt8) : joinL (ofL l) = l := by
  induction l with
  | nil => rfl
  | cons b t ih => rw [ofL_cons, joinL_two, ih, halves_join]
theorem fit_of (l : List UInt8) : fitL (ofL l) = true := by
  induction l with
  | nil => rfl
  | cons b t ih =>
    rw [ofL_cons]
    have h1 : (b / 16).toNat ≤ 15 := by have := b.toNat_lt; simp; omega
    have h2 : (b % 16).toNat ≤ 15 := by simp; omega
    unfold fitL at ih ⊢
    simp only [List.all_cons, ih, Bool.and_true, Bool.and_eq_true, decide_eq_true_eq]
    exact ⟨h1, h2⟩
theorem join_div (a b : UInt8) (ha : a.toNat ≤ 15) (hb : b.toNat ≤ 15) : (a * 16 + b) / 16 = a := by
  rw [← UInt8.toNat_inj]; simp [UInt8.toNat_add, UInt8.toNat_mul]; omega
theorem join_mod (a b : UInt8) (_ha : a.toNat ≤ 15) (hb : b.toNat ≤ 15) : (a * 16 + b) % 16 = b := by
  rw [← UInt8.toNat_inj]; simp [UInt8.toNat_add, UInt8.toNat_mul]; omega
theorem of_join (l : List UInt8) (hf : fitL l = true) (he : l.length % 2 = 0) : ofL (joinL l) = l := by
  match l, hf, he with
  | [], _, _ => rfl
  | [_], _, he => simp at he
  | a :: b :: t, hf, he =>
    have ha := fitL_get (a :: b :: t) hf 0 (by simp)
    have hb := fitL_get (a :: b :: t) hf 1 (by simp)
    simp at ha hb
    rw [joinL_two, ofL_cons, join_div a b ha hb, join_mod a b ha hb, of_join t (fitL_tail b t (fitL_tail a (b :: t) hf)) (by simp at he; omega)]

theorem unpack_pack (p : List UInt8) (leaf : Bool) (hf : fitL p = true) : unpackL (packL p leaf) = some (p, leaf) := by
  rcases Nat.mod_two_eq_zero_or_one p.length with h | h
  · rw [packL_even p leaf h]
    cases leaf
    · rw [if_neg (by simp), unpackL_even _ _ (by decide) (by decide), of_join p hf h]; rfl
    · rw [if_pos rfl, unpackL_even _ _ (by decide) (by decide), of_join p hf h]; rfl
  · match p, hf, h with
    | a :: t, hf, h =>
      have ht : t.length % 2 = 0 := by simp at h; omega
      have ha := fitL_get (a :: t) hf 0 (by simp)
      simp at ha
      rw [packL_odd a t leaf ht]
      cases leaf
      · rw [if_neg (by simp)]
        have e : (16 + a).toNat = 16 + a.toNat := by simp [UInt8.toNat_add]; omega
        have em : (16 + a) % 16 = a := by rw [← UInt8.toNat_inj]; simp [UInt8.toNat_add]; omega
        rw [unpackL_odd _ _ (by simp [mayL, e]; omega) (by rw [e]; omega), of_join t (fitL_tail a t hf) ht, em, e]
        simp; omega
      · rw [if_pos rfl]
        have e : (48 + a).toNat = 48 + a.toNat := by simp [UInt8.toNat_add]; omega
        have em : (48 + a) % 16 = a := by rw [← UInt8.toNat_inj]; simp [UInt8.toNat_add]; omega
        rw [unpackL_odd _ _ (by simp [mayL, e]; omega) (by rw [e]; omega), of_join t (fitL_tail a t hf) ht, em, e]
        simp; omega
theorem packL_length (p : List UInt8) (leaf : Bool) : (packL p leaf).length = p.length / 2 + 1 := by
  rcases Nat.mod_two_eq_zero_or_one p.length with h | h
  · rw [packL_even p leaf h]; simp [joinL_length]
  · match p, h with
    | a :: t, h =>
      rw [packL_odd a t leaf (by simp at h; omega)]; simp [joinL_length]; simp at h; omega
theorem unpackL_may (b : UInt8) (t p : List UInt8) (is : Bool) (h : unpackL (b :: t) = some (p, is)) : mayL b = true := by
  rcases hm : mayL b with _ | _
  · rw [unpackL_bad b t hm] at h; cases h
  · rfl
theorem fit_cons (a : UInt8) (t : List UInt8) (ha : a.toNat ≤ 15) (h : fitL t = true) : fitL (a :: t) = true := by
  unfold fitL at *; rw [List.all_cons, h]; simpa using ha
theorem unpack_fit (s p : List UInt8) (is : Bool) (h : unpackL s = some (p, is)) : fitL p = true ∧ packL p is = s := by
  match s, h with
  | b :: t, h =>
    have hm := unpackL_may b t p is h
    have hle := mayL_le b hm
    rcases Nat.mod_two_eq_zero_or_one (b.toNat / 16) with h1 | h1
    · rw [unpackL_even b t hm h1] at h
      simp only [Option.some.injEq, Prod.mk.injEq] at h
      obtain ⟨rfl, rfl⟩ := h
      refine ⟨fit_of t, ?_⟩
      rw [packL_even _ _ (by rw [ofL_length]; omega), join_of]
      congr 1
      rw [← UInt8.toNat_inj]
      by_cases h2 : 2 ≤ b.toNat / 16
      · simp [h2]; omega
      · simp [h2]; omega
    · rw [unpackL_odd b t hm h1] at h
      simp only [Option.some.injEq, Prod.mk.injEq] at h
      obtain ⟨rfl, rfl⟩ := h
      refine ⟨fit_cons _ _ (by simp; omega) (fit_of t), ?_⟩
      rw [packL_odd _ _ _ (by rw [ofL_length]; omega), join_of]
      congr 1
      rw [← UInt8.toNat_inj]
      by_cases h2 : 2 ≤ b.toNat / 16
      · simp [h2, UInt8.toNat_add]; omega
      · simp [h2, UInt8.toNat_add]; omega
theorem unpack_len (s p : List UInt8) (is : Bool) (h : unpackL s = some (p, is)) : p.length ≤ 2 * s.length := by
  have := (unpack_fit s p is h).2
  rw [← this, packL_length]; omega

end Go.Proofs.Ytglhjalmebdbcaa.Nib
