/- The walks of Read, Left, Code, End, lead, count, Num, Flag. -/
import Derived.Test.YtdnceliakppcpaaCodeRd
import Derived.WalkSpells
import Derived.WalkLawsBesides
import Derived.Lib.Strings
namespace Go.Proofs.Ytdnceliakppcpaa
open Go.RowKit

theorem read_any (s : List UInt8) (w : World) :
    Calls Try.prog 17 #[.string ⟨s.toArray⟩] w fun e w' => e = .returned (.pointer (some ⟨w.heap.size, 0, none⟩)) ∧ Rd w' w.heap.size s 0 ∧ Below w.heap.size w w' := by
  go_enter Try.func17, Try.ntmps17
  go_wp2
  go_ret
  exact ⟨rfl, Rd.new w s 0, (Below.refl _ w).alloc (Nat.le_refl _) _⟩
theorem left_any (s : List UInt8) (c : Int) (g : Nat) (w : World) (h : Rd w g s c) :
    Calls Try.prog 23 #[.pointer (some ⟨g, 0, none⟩)] w fun e w' => e = .returned (.int .i64 s.length) ∧ w' = w := by
  have h0 := h.left
  go_enter Try.func23, Try.ntmps23
  go_wp2
  go_ret
  exact ⟨rfl, rfl⟩
theorem code_any (s : List UInt8) (c : Int) (g : Nat) (w : World) (h : Rd w g s c) :
    Calls Try.prog 25 #[.pointer (some ⟨g, 0, none⟩)] w fun e w' => e = .returned (.int .i64 c) ∧ w' = w := by
  have h0 := h.code
  go_enter Try.func25, Try.ntmps25
  go_wp2
  go_ret
  exact ⟨rfl, rfl⟩
theorem end_any (g : Nat) (w : World) (h : Rd w g [] 0) :
    Calls Try.prog 24 #[.pointer (some ⟨g, 0, none⟩)] w fun e w' => e = .returned (.int .i64 0) ∧ w' = w := by
  have h0 := h.code
  have h1 := h.left
  go_enter Try.func24, Try.ntmps24
  go_wp2
  go_ret
  exact ⟨rfl, rfl⟩

theorem i64_or_nat (a b : Nat) (ha : a < 9223372036854775808) (hb : b < 9223372036854775808) : bits .or .i64 (a : Int) (b : Int) = ((a ||| b : Nat) : Int) := by
  have hx : a ||| b < 2 ^ 63 := Nat.or_lt_two_pow (by omega) (by omega)
  show IntKind.i64.wrap ((BitVec.ofInt 64 (a : Int) ||| BitVec.ofInt 64 (b : Int)).toNat : Int) = _
  rw [BitVec.toNat_or, BitVec.ofInt_natCast, BitVec.toNat_ofNat, BitVec.ofInt_natCast, BitVec.toNat_ofNat, Nat.mod_eq_of_lt (by omega), Nat.mod_eq_of_lt (by omega)]
  simp only [IntKind.wrap, IntKind.bits, IntKind.signed]
  simp
  omega
theorem or_low (a b : Nat) (hb : b < 256) : a * 256 ||| b = a * 256 + b := by
  have := Nat.two_pow_add_eq_or_of_lt (i := 8) (b := b) (by omega) a
  rw [Nat.mul_comm] at this
  exact this.symm

set_option maxHeartbeats 400000 in
theorem lead_nil (w : World) : Calls Try.prog 32 #[.string ⟨#[]⟩] w fun e w' => e = .returned (.tuple #[.int .i64 0, .int .i64 0, .int .i64 20]) ∧ w' = w := by
  go_enter Try.func32, Try.ntmps32
  go_wp2
  go_ret3
  exact ⟨rfl, rfl⟩
set_option maxHeartbeats 400000 in
theorem lead_big (c : UInt8) (r : List UInt8) (w : World) (hc : c.toNat > 8) : Calls Try.prog 32 #[.string ⟨(c :: r).toArray⟩] w fun e w' => e = .returned (.tuple #[.int .i64 0, .int .i64 0, .int .i64 3]) ∧ w' = w := by
  have hh : ∀ h, (⟨(c :: r).toArray⟩ : ByteArray)[0]'h = c := fun _ => rfl
  have hcb := c.toNat_lt
  have hc1 : (c.toNat : Int) > 8 := by omega
  clear hc
  go_enter Try.func32, Try.ntmps32
  go_wp2
  go_ret3
  exact ⟨rfl, rfl⟩
set_option maxHeartbeats 400000 in
theorem lead_short (c : UInt8) (r : List UInt8) (w : World) (hc : c.toNat ≤ 8) (hr : r.length < c.toNat) (hl : r.length ≤ 100000000) : Calls Try.prog 32 #[.string ⟨(c :: r).toArray⟩] w fun e w' => e = .returned (.tuple #[.int .i64 0, .int .i64 0, .int .i64 20]) ∧ w' = w := by
  have hh : ∀ h, (⟨(c :: r).toArray⟩ : ByteArray)[0]'h = c := fun _ => rfl
  have hc1 : ¬ ((c.toNat : Int) > 8) := by omega
  have hc2 : (r.length : Int) < (c.toNat : Int) := by omega
  go_enter Try.func32, Try.ntmps32
  go_wp2
  go_ret3
  exact ⟨rfl, rfl⟩
set_option maxHeartbeats 400000 in
theorem lead_zero (r : List UInt8) (w : World) (hl : r.length ≤ 100000000) : Calls Try.prog 32 #[.string ⟨((0 : UInt8) :: r).toArray⟩] w fun e w' => e = .returned (.tuple #[.int .i64 0, .int .i64 1, .int .i64 0]) ∧ w' = w := by
  have hh : ∀ h, (⟨((0 : UInt8) :: r).toArray⟩ : ByteArray)[0]'h = 0 := fun _ => rfl
  go_enter Try.func32, Try.ntmps32
  go_wp2
  go_loop [2, 40] (fun n i => n = .int .i64 0 ∧ i = .int .i64 0) (fun _ _ => 0)
  case atStart => exact ⟨rfl, rfl⟩
  case round =>
    obtain ⟨rfl, rfl⟩ := hrel
    go_wp2
    go_ret3
    exact ⟨rfl, rfl⟩
theorem ext_head (c : UInt8) (d r2 : List UInt8) : (⟨(c :: (d ++ r2)).toArray⟩ : ByteArray).extract 1 (1 + d.length) = ⟨d.toArray⟩ := by
  rw [Lib.extract_eq]; simp
set_option maxHeartbeats 400000 in
theorem lead_bad (c x : UInt8) (d q r2 : List UInt8) (w : World) (hd : d = x :: q) (hc : c.toNat = d.length) (h8 : d.length ≤ 8) (hl : r2.length ≤ 100000000) (hb : x.toNat = 0 ∨ d.length = 8 ∧ 128 ≤ x.toNat) :
    Calls Try.prog 32 #[.string ⟨(c :: (d ++ r2)).toArray⟩] w fun e w' => e = .returned (.tuple #[.int .i64 0, .int .i64 0, .int .i64 3]) ∧ w' = w := by
  have hh : ∀ h, (⟨(c :: (d ++ r2)).toArray⟩ : ByteArray)[0]'h = c := fun _ => rfl
  have hx : ∀ h, (⟨d.toArray⟩ : ByteArray)[0]'h = x := by subst hd; exact fun _ => rfl
  have he := ext_head c d r2
  have hxb := x.toNat_lt
  have hpos : 0 < d.length := by subst hd; simp
  clear hd
  obtain ⟨s, hs⟩ : ∃ s, c :: (d ++ r2) = s := ⟨_, rfl⟩
  have hsl : s.length = d.length + 1 + r2.length := by rw [← hs]; simp; omega
  have hse : s.isEmpty = false := by rw [← hs]; rfl
  rw [hs] at hh he ⊢
  clear hs
  rcases hb with h0 | ⟨h80, h128⟩
  · go_enter Try.func32, Try.ntmps32
    go_wp2
    go_ret3
    exact ⟨rfl, rfl⟩
  · rw [h80] at he hc hsl
    have he9 : (⟨s.toArray⟩ : ByteArray).extract 1 9 = ⟨d.toArray⟩ := he
    have hd0 : ((x.toNat : Int) == 0) = false := by rw [beq_eq_false_iff_ne]; omega
    have hd1 : decide (128 ≤ (x.toNat : Int)) = true := decide_eq_true (by omega)
    clear he h8 hpos
    go_enter Try.func32, Try.ntmps32
    go_wp2
    go_ret3
    exact ⟨rfl, rfl⟩
theorem val_take_lt (d : List UInt8) (h8 : d.length ≤ 8) (h : d.length = 8 → (d.headD 0).toNat < 128) (j : Nat) : Code.val (d.take j) < 2 ^ 63 := by
  have e : (256 : Nat) ^ 7 = 2 ^ 56 := by decide
  by_cases hj : (d.take j).length ≤ 7
  · have := Code.val_lt (d.take j)
    have := Nat.pow_le_pow_right (n := 256) (by omega) hj
    omega
  · rw [List.length_take] at hj
    rw [List.take_of_length_le (by omega)]
    match d, h8, h, hj with
    | [], _, _, hj => simp at hj
    | x :: q, h8, h, hj =>
      simp only [List.length_cons] at h8 h hj
      have hx := h (by omega)
      simp at hx
      have ⟨_, g⟩ := Code.val_ge x q
      rw [show q.length = 7 by omega, e] at g
      omega
theorem val_step (d : List UInt8) (k : Nat) (h : k < d.length) : Code.val (d.take (k + 1)) = Code.val (d.take k) * 256 + d[k].toNat := by
  rw [List.take_succ_eq_append_getElem h, Code.val_append]
theorem or_int (a b : Nat) (ha : a * 256 + b < 9223372036854775808) (hb : b < 256) : bits .or .i64 ((a : Int) * 256) (b : Int) = ((a * 256 + b : Nat) : Int) := by
  have h1 : a * 256 < 9223372036854775808 := Nat.lt_of_le_of_lt (Nat.le_add_right _ _) ha
  have h2 : b < 9223372036854775808 := Nat.lt_trans hb (by decide)
  have h3 := i64_or_nat (a * 256) b h1 h2
  rw [or_low a b hb, Int.natCast_mul] at h3
  exact h3
set_option maxHeartbeats 1000000 in
theorem lead_good (c x : UInt8) (d q r2 : List UInt8) (w : World) (hd : d = x :: q) (hc : c.toNat = d.length) (h8 : d.length ≤ 8) (hl : r2.length ≤ 100000000) (h0 : x.toNat ≠ 0) (hb : d.length = 8 → x.toNat < 128) :
    Calls Try.prog 32 #[.string ⟨(c :: (d ++ r2)).toArray⟩] w fun e w' => e = .returned (.tuple #[.int .i64 (Code.val d : Nat), .int .i64 (1 + d.length : Nat), .int .i64 0]) ∧ w' = w := by
  have hh : ∀ h, (⟨(c :: (d ++ r2)).toArray⟩ : ByteArray)[0]'h = c := fun _ => rfl
  have hx : ∀ h, (⟨d.toArray⟩ : ByteArray)[0]'h = x := by subst hd; exact fun _ => rfl
  have he := ext_head c d r2
  have hxb := x.toNat_lt
  have hvl := val_take_lt d h8 (by subst hd; exact hb)
  have hpos : 0 < d.length := by subst hd; simp
  clear hd
  obtain ⟨s, hs⟩ : ∃ s, c :: (d ++ r2) = s := ⟨_, rfl⟩
  have hsl : s.length = d.length + 1 + r2.length := by rw [← hs]; simp; omega
  have hse : s.isEmpty = false := by rw [← hs]; rfl
  rw [hs] at hh he ⊢
  clear hs
  have hvl' : ∀ j, Code.val (d.take j) < 2 ^ 63 := hvl
  clear hvl
  rcases Nat.lt_or_ge d.length 8 with h7 | h7
  · have hd0 : ((x.toNat : Int) == 0) = false := by rw [beq_eq_false_iff_ne]; omega
    clear hb
    go_enter Try.func32, Try.ntmps32
    go_wp2
    go_loop [2, 40] (fun n i => ∃ k : Nat, k ≤ d.length ∧ n = .int .i64 (Code.val (d.take k) : Nat) ∧ i = .int .i64 k) (fun _ i => d.length - (intOf i).toNat)
    case atStart => exact ⟨0, Nat.zero_le _, rfl, rfl⟩
    case round =>
      obtain ⟨k, hk, rfl, rfl⟩ := hrel
      by_cases hlt : k < d.length
      · have h1 : (k : Int) < (d.length : Int) := by omega
        have hst := val_step d k hlt
        have hvk := hvl' (k + 1)
        rw [hst] at hvk
        have hst' := Lib.hid hst
        have hi : ∀ h, (⟨d.toArray⟩ : ByteArray)[k]'h = d[k] := fun _ => rfl
        have hdk := d[k].toNat_lt
        obtain ⟨V, hV⟩ : ∃ V, Code.val (d.take k) = V := ⟨_, rfl⟩
        rw [hV] at hst' hvk ⊢
        clear hst hV
        have hor : bits .or .i64 ((V : Int) * 256) (d[k].toNat : Int) = ((V * 256 + d[k].toNat : Nat) : Int) := or_int V d[k].toNat (by omega) (by omega)
        go_wp2
        go_round
        case rel => exact ⟨k + 1, by omega, by rw [hst'.out]; simp, by go_num⟩
        case measure => simp [intOf]; omega
      · go_wp2
        go_ret3
        have e : k = d.length := by omega
        subst e
        rw [List.take_length]
        exact ⟨by simp, rfl⟩
  · have hb2 := hb (by omega)
    have h88 : d.length = 8 := by omega
    rw [h88] at he hc hsl
    have he9 : (⟨s.toArray⟩ : ByteArray).extract 1 9 = ⟨d.toArray⟩ := he
    have hd0 : ((x.toNat : Int) == 0) = false := by rw [beq_eq_false_iff_ne]; omega
    have hd1 : decide (128 ≤ (x.toNat : Int)) = false := decide_eq_false (by omega)
    clear hb he h8 hpos h7
    go_enter Try.func32, Try.ntmps32
    go_wp2
    go_loop [2, 40] (fun n i => ∃ k : Nat, k ≤ d.length ∧ n = .int .i64 (Code.val (d.take k) : Nat) ∧ i = .int .i64 k) (fun _ i => d.length - (intOf i).toNat)
    case atStart => exact ⟨0, Nat.zero_le _, rfl, rfl⟩
    case round =>
      obtain ⟨k, hk, rfl, rfl⟩ := hrel
      by_cases hlt : k < d.length
      · have h1 : (k : Int) < (d.length : Int) := by omega
        have hst := val_step d k hlt
        have hvk := hvl' (k + 1)
        rw [hst] at hvk
        have hst' := Lib.hid hst
        have hi : ∀ h, (⟨d.toArray⟩ : ByteArray)[k]'h = d[k] := fun _ => rfl
        have hdk := d[k].toNat_lt
        obtain ⟨V, hV⟩ : ∃ V, Code.val (d.take k) = V := ⟨_, rfl⟩
        rw [hV] at hst' hvk ⊢
        clear hst hV
        have hor : bits .or .i64 ((V : Int) * 256) (d[k].toNat : Int) = ((V * 256 + d[k].toNat : Nat) : Int) := or_int V d[k].toNat (by omega) (by omega)
        go_wp2
        go_round
        case rel => exact ⟨k + 1, by omega, by rw [hst'.out]; simp, by go_num⟩
        case measure => simp [intOf]; omega
      · go_wp2
        go_ret3
        have e : k = d.length := by omega
        subst e
        rw [List.take_length]
        exact ⟨by simp, rfl⟩

end Go.Proofs.Ytdnceliakppcpaa
