/- There and back, as plain functions: what was written is read. -/
import Derived.Test.YtdnceliakppcpaaCodeReadList
namespace Go.Proofs.Ytdnceliakppcpaa.Code

theorem count_num (most : Int) (n : Nat) (r : List UInt8) (h : n < 2 ^ 63) (hm : (n : Int) ≤ most) : countL most (numL n ++ r) = (n, r, 0) := by
  have e := lead_num n h r
  have hd : (numL n ++ r).drop (1 + sz n) = r := by
    rw [← numL_length, List.drop_left]
  unfold countL
  rw [e]
  simp only [ne_eq, not_true_eq_false, if_false]
  rw [if_neg (by omega), hd]
theorem text_text (most : Int) (t r : List UInt8) (h : t.length < 2 ^ 63) (hm : (t.length : Int) ≤ most) : textR most (textL t ++ r) = (t, r, 0) := by
  have e := count_num most t.length (t ++ r) h hm
  unfold textR textL
  rw [List.append_assoc, e]
  simp
theorem read_texts (each : Int) (L : List (List UInt8)) (r : List UInt8) (h : ∀ t ∈ L, t.length < 2 ^ 63 ∧ (t.length : Int) ≤ each) : readN L.length each (textsL L ++ r) = (L, r, 0) := by
  induction L with
  | nil => simp [readN, textsL]
  | cons t L ih =>
    have e : textsL (t :: L) ++ r = textL t ++ (textsL L ++ r) := by simp [textsL]
    have h1 := h t (List.mem_cons_self ..)
    have h2 := ih (fun x hx => h x (List.mem_cons_of_mem _ hx))
    rw [e, List.length_cons, readN, text_text each t _ h1.1 h1.2]
    simp [h2]
theorem list_list (most each : Int) (L : List (List UInt8)) (r : List UInt8) (hl : L.length < 2 ^ 63) (hm : (L.length : Int) ≤ most) (h : ∀ t ∈ L, t.length < 2 ^ 63 ∧ (t.length : Int) ≤ each) : listR most each (listL L ++ r) = (L, r, 0) := by
  have e := count_num most L.length (textsL L ++ r) hl hm
  unfold listR listL
  rw [List.append_assoc, e]
  simp only
  rw [read_texts each L r h]
  simp
theorem list_inj (most each : Int) (A B : List (List UInt8)) (ha : A.length < 2 ^ 63) (hb : B.length < 2 ^ 63) (ham : (A.length : Int) ≤ most) (hbm : (B.length : Int) ≤ most)
    (h1 : ∀ t ∈ A, t.length < 2 ^ 63 ∧ (t.length : Int) ≤ each) (h2 : ∀ t ∈ B, t.length < 2 ^ 63 ∧ (t.length : Int) ≤ each) : listL A = listL B ↔ A = B := by
  constructor
  · intro h
    have e1 := list_list most each A [] ha ham h1
    have e2 := list_list most each B [] hb hbm h2
    rw [h, e2] at e1
    simp at e1
    exact e1.symm
  · intro h; rw [h]
theorem flag_flag (b : Bool) (r : List UInt8) : flagR ([if b then 1 else 0] ++ r) = (b, r, 0) := by
  cases b <;> rfl
theorem list_bound (L : List (List UInt8)) (n e : Nat) (hn : L.length ≤ n) (he : e < 2 ^ 60) (h : ∀ s ∈ L, s.length ≤ e) (hn2 : n < 2 ^ 60) : (listL L).length ≤ 9 + n * (e + 9) := by
  have h1 := texts_bound L e he h
  have h2 := numL_length L.length
  have h3 := sz_le8 L.length (by omega)
  have h4 := Nat.mul_le_mul_right (e + 9) hn
  rw [listL, List.length_append]
  omega

end Go.Proofs.Ytdnceliakppcpaa.Code
