/- The document's answer for a block, plainly; it is that of the program. -/
import Derived.Test.YtebjckodfbailaaDoorShaMath
namespace Go.Proofs.YtebjckodfbailaaDoor.Sha
open Go

theorem bits_or_comm (k : IntKind) (x y : Int) : bits .or k x y = bits .or k y x := by
  unfold bits
  simp only [BitVec.or_comm]
theorem wrap_u32_nat (n : Nat) (h : n < 4294967296) : IntKind.u32.wrap (n : Int) = (n : Int) := by
  simp [IntKind.wrap, IntKind.signed, IntKind.bits]
  omega
theorem u32_or_nat (a b : Nat) (ha : a < 4294967296) (hb : b < 4294967296) : bits .or .u32 (a : Int) (b : Int) = ((a ||| b : Nat) : Int) := by
  unfold bits
  have e : ((BitVec.ofInt IntKind.u32.bits (a : Int) ||| BitVec.ofInt IntKind.u32.bits (b : Int)).toNat) = a ||| b := by
    simp only [BitVec.toNat_or, BitVec.ofInt_natCast, BitVec.toNat_ofNat]
    rw [Nat.mod_eq_of_lt (by simpa [IntKind.bits] using ha), Nat.mod_eq_of_lt (by simpa [IntKind.bits] using hb)]
  simp only [e]
  exact wrap_u32_nat _ (Nat.or_lt_two_pow (n := 32) ha hb)
/-- Four bytes, the highest first: by or, or by sums. -/
theorem word4_sum (a b c d : UInt8) : word4 a b c d = ((((a.toNat * 256 + b.toNat) * 256 + c.toNat) * 256 + d.toNat : Nat) : Int) := by
  have ha := a.toNat_lt
  have hb := b.toNat_lt
  have hc := c.toNat_lt
  have hd := d.toNat_lt
  have e1 := Nat.two_pow_add_eq_or_of_lt (i := 24) (b := b.toNat * 65536) (by omega) a.toNat
  have e2 := Nat.two_pow_add_eq_or_of_lt (i := 16) (b := c.toNat * 256) (by omega) (a.toNat * 256 + b.toNat)
  have e3 := Nat.two_pow_add_eq_or_of_lt (i := 8) (b := d.toNat) (by omega) ((a.toNat * 256 + b.toNat) * 256 + c.toNat)
  unfold word4
  rw [show (a.toNat : Int) * 16777216 = ((2 ^ 24 * a.toNat : Nat) : Int) by omega, show (b.toNat : Int) * 65536 = ((b.toNat * 65536 : Nat) : Int) by omega,
    show (c.toNat : Int) * 256 = ((c.toNat * 256 : Nat) : Int) by omega, u32_or_nat _ _ (by omega) (by omega), ← e1,
    show 2 ^ 24 * a.toNat + b.toNat * 65536 = 2 ^ 16 * (a.toNat * 256 + b.toNat) by omega, u32_or_nat _ _ (by omega) (by omega), ← e2,
    show 2 ^ 16 * (a.toNat * 256 + b.toNat) + c.toNat * 256 = 2 ^ 8 * ((a.toNat * 256 + b.toNat) * 256 + c.toNat) by omega, u32_or_nat _ _ (by omega) (by omega), ← e3]
  omega

/-- The first 16 words, a byte at a time. -/
def fillR (b : List UInt8) : Nat → List Int
  | 0 => List.replicate 16 0
  | k + 1 => (fillR b k).set (k / 4) (((fillR b k).getD (k / 4) 0 * 256 + ((b.getD k 0).toNat : Int)) % 4294967296)
theorem fillR_length (b : List UInt8) (k : Nat) : (fillR b k).length = 16 := by
  induction k with
  | zero => simp [fillR]
  | succ k ih => simp [fillR, ih]
/-- The window that moves on. -/
def winNext (V : List Int) (i : Nat) : List Int :=
  if 16 ≤ i then V.set (i % 16) ((V.getD (i % 16) 0 + sP (V.getD ((i + 1) % 16) 0) + V.getD ((i + 9) % 16) 0 + tP (V.getD ((i + 14) % 16) 0)) % 4294967296) else V
def win (V : List Int) : Nat → List Int
  | 0 => V
  | i + 1 => winNext (win V i) i
theorem win_length (V : List Int) (i : Nat) : (win V i).length = V.length := by
  induction i with
  | zero => rfl
  | succ i ih =>
    simp only [win, winNext]
    split <;> simp [ih]
def roundsR (s : St) (V : List Int) : Nat → St
  | 0 => s
  | i + 1 => step (roundsR s V i) (kTab.getD i 0) ((win V (i + 1)).getD (i % 16) 0)
def blockR (s : St) (b : List UInt8) : St := addP s (roundsR s (fillR b 64) 64)

theorem getD_set (l : List Int) (i j : Nat) (v : Int) (hi : i < l.length) : (l.set i v).getD j 0 = if i = j then v else l.getD j 0 := by
  by_cases h : i = j
  · subst h
    simp [hi]
  · simp [h]
theorem fillR_early (b : List UInt8) (j : Nat) (hj : j < 16) : ∀ k, k ≤ 4 * j → (fillR b k).getD j 0 = 0
  | 0, _ => by
    unfold fillR
    simp only [List.getD_eq_getElem?_getD, List.getElem?_replicate, hj, if_true, Option.getD_some]
  | k + 1, h => by
    rw [fillR, getD_set _ _ _ _ (by rw [fillR_length]; omega), if_neg (by omega)]
    exact fillR_early b j hj k (by omega)
theorem fillR_late (b : List UInt8) (j : Nat) : ∀ n, 4 * j + 4 + n ≤ 64 → (fillR b (4 * j + 4 + n)).getD j 0 = (fillR b (4 * j + 4)).getD j 0
  | 0, _ => rfl
  | n + 1, h => by
    rw [← Nat.add_assoc, fillR, getD_set _ _ _ _ (by rw [fillR_length]; omega), if_neg (by omega)]
    exact fillR_late b j n (by omega)
theorem fillR_at (b : List UInt8) (j : Nat) (hj : j < 16) : (fillR b 64).getD j 0 = word4 (b.getD (4 * j) 0) (b.getD (4 * j + 1) 0) (b.getD (4 * j + 2) 0) (b.getD (4 * j + 3) 0) := by
  have h := fillR_late b j (60 - 4 * j) (by omega)
  rw [show 4 * j + 4 + (60 - 4 * j) = 64 by omega] at h
  have s0 := fillR_early b j hj (4 * j) (Nat.le_refl _)
  have st : ∀ k, 4 * j ≤ k → k < 4 * j + 4 → (fillR b (k + 1)).getD j 0 = ((fillR b k).getD j 0 * 256 + ((b.getD k 0).toNat : Int)) % 4294967296 := fun k h1 h2 => by
    have e : k / 4 = j := by omega
    rw [fillR, getD_set _ _ _ _ (by rw [fillR_length]; omega), e, if_pos rfl]
  have s1 := st (4 * j) (by omega) (by omega)
  have s2 := st (4 * j + 1) (by omega) (by omega)
  have s3 := st (4 * j + 2) (by omega) (by omega)
  have s4 := st (4 * j + 3) (by omega) (by omega)
  rw [h, s4, s3, s2, s1, s0, word4_sum]
  have h0 := (b.getD (4 * j) 0).toNat_lt
  have h1 := (b.getD (4 * j + 1) 0).toNat_lt
  have h2 := (b.getD (4 * j + 2) 0).toNat_lt
  have h3 := (b.getD (4 * j + 3) 0).toNat_lt
  generalize (b.getD (4 * j) 0).toNat = x0 at *
  generalize (b.getD (4 * j + 1) 0).toNat = x1 at *
  generalize (b.getD (4 * j + 2) 0).toNat = x2 at *
  generalize (b.getD (4 * j + 3) 0).toNat = x3 at *
  omega

theorem fill_len (b : List UInt8) (k : Nat) : (fill b k).length = 64 := by
  induction k with
  | zero => simp [fill]
  | succ k ih => simp [fill, ih]
theorem ext_len (L : List Int) (k : Nat) : (ext L k).length = L.length := by
  induction k with
  | zero => rfl
  | succ k ih => simp [ext, ih]
theorem fill_late (b : List UInt8) (j : Nat) : ∀ n, j + 1 + n ≤ 64 → (fill b (j + 1 + n)).getD j 0 = (fill b (j + 1)).getD j 0
  | 0, _ => rfl
  | n + 1, h => by
    rw [← Nat.add_assoc, fill, getD_set _ _ _ _ (by rw [fill_len]; omega), if_neg (by omega)]
    exact fill_late b j n (by omega)
theorem fill_at (b : List UInt8) (j : Nat) (hj : j < 16) : (fill b 16).getD j 0 = word4 (b.getD (4 * j) 0) (b.getD (4 * j + 1) 0) (b.getD (4 * j + 2) 0) (b.getD (4 * j + 3) 0) := by
  have h := fill_late b j (15 - j) (by omega)
  rw [show j + 1 + (15 - j) = 16 by omega] at h
  rw [h, fill, getD_set _ _ _ _ (by rw [fill_len]; omega), if_pos rfl]
theorem ext_keep (L : List Int) (hL : L.length = 64) (j : Nat) : ∀ k n, j < 16 + k → k + n ≤ 48 → (ext L (k + n)).getD j 0 = (ext L k).getD j 0
  | _, 0, _, _ => rfl
  | k, n + 1, h, hk => by
    rw [← Nat.add_assoc, ext, getD_set _ _ _ _ (by rw [ext_len]; omega), if_neg (by omega)]
    exact ext_keep L hL j k n h (by omega)
theorem ext_low (L : List Int) (hL : L.length = 64) (j : Nat) (hj : j < 16) : (ext L 48).getD j 0 = L.getD j 0 := by
  have := ext_keep L hL j 0 48 (by omega) (by omega)
  simpa [ext] using this
theorem ext_next (L : List Int) (hL : L.length = 64) (i : Nat) (h0 : 16 ≤ i) (h1 : i < 64) : (ext L 48).getD i 0 = more (ext L 48) i := by
  have e1 := ext_keep L hL i (i - 16 + 1) (64 - 1 - i) (by omega) (by omega)
  rw [show i - 16 + 1 + (64 - 1 - i) = 48 by omega] at e1
  rw [e1, ext, getD_set _ _ _ _ (by rw [ext_len]; omega), if_pos (by omega), show 16 + (i - 16) = i by omega]
  have keep : ∀ j, j < i → (ext L (i - 16)).getD j 0 = (ext L 48).getD j 0 := fun j hj => by
    have := ext_keep L hL j (i - 16) (64 - i) (by omega) (by omega)
    rw [show i - 16 + (64 - i) = 48 by omega] at this
    exact this.symm
  unfold more
  rw [keep (i - 16) (by omega), keep (i - 15) (by omega), keep (i - 7) (by omega), keep (i - 2) (by omega)]
/-- The window holds the last 16 words. -/
theorem win_is (b : List UInt8) (i : Nat) (hi : i ≤ 64) : ∀ m, m < 64 → (m < i ∨ m < 16) → (i ≤ m + 16) → (win (fillR b 64) i).getD (m % 16) 0 = (widenP b).getD m 0 := by
  have hfl : (fill b 16).length = 64 := fill_len b 16
  induction i with
  | zero =>
    intro m hm h1 _
    have hm16 : m < 16 := by omega
    rw [win, Nat.mod_eq_of_lt hm16, fillR_at b m hm16, widenP, ext_low _ hfl m hm16, fill_at b m hm16]
  | succ i ih =>
    intro m hm h1 h2
    have ih' := ih (by omega)
    rw [win, winNext]
    by_cases h16 : 16 ≤ i
    · rw [if_pos h16, getD_set _ _ _ _ (by rw [win_length, fillR_length]; omega)]
      by_cases hmi : m = i
      · subst hmi
        rw [if_pos rfl, widenP, ext_next _ hfl m h16 hm, ← widenP]
        unfold more
        rw [← ih' (m - 16) (by omega) (by omega) (by omega), ← ih' (m - 15) (by omega) (by omega) (by omega), ← ih' (m - 7) (by omega) (by omega) (by omega), ← ih' (m - 2) (by omega) (by omega) (by omega),
          show (m - 16) % 16 = m % 16 by omega, show (m - 15) % 16 = (m + 1) % 16 by omega, show (m - 7) % 16 = (m + 9) % 16 by omega, show (m - 2) % 16 = (m + 14) % 16 by omega]
      · rw [if_neg (by omega)]
        exact ih' m hm (by omega) (by omega)
    · rw [if_neg h16]
      exact ih' m hm (by omega) (by omega)
theorem roundsR_is (s : St) (b : List UInt8) (i : Nat) (hi : i ≤ 64) : roundsR s (fillR b 64) i = rounds s (widenP b) i := by
  induction i with
  | zero => rfl
  | succ i ih => rw [roundsR, rounds, ih (by omega), win_is b (i + 1) hi i (by omega) (by omega) (by omega)]
theorem blockR_is (s : St) (b : List UInt8) : blockR s b = blockP s b := by
  unfold blockR blockP turnP
  rw [roundsR_is s b 64 (by omega)]
end Go.Proofs.YtebjckodfbailaaDoor.Sha
