/- CodeThere, ReadSt, ReadTm, PowTotal -/
import Derived.Test.YtddjkiejekfekaaDoorPk01
import Derived.OneCell
import Derived.Lib.Hide
import Derived.WalkSpells
import Derived.WalkLawsBesides
import Derived.Lib.Strings
import Derived.Deep.QuietTactic
namespace Go.Proofs.YtddjkiejekfekaaDoor
open Go.RowKit

def Rd (w : World) (g : Nat) (s : List UInt8) (c : Int) : Prop := w.heap[g]? = some (.cells #[.string ⟨s.toArray⟩, .int .i64 c] 72 (0, 0))
theorem Rd.lt {w : World} {g : Nat} {s : List UInt8} {c : Int} (h : Rd w g s c) : g < w.heap.size := lt_of_block h
theorem Rd.left {w : World} {g : Nat} {s : List UInt8} {c : Int} (h : Rd w g s c) : w.cell? ⟨g, 0, none⟩ = some (.string ⟨s.toArray⟩) := by unfold Rd at h; simp [World.cell?, h]
theorem Rd.code {w : World} {g : Nat} {s : List UInt8} {c : Int} (h : Rd w g s c) : w.cell? ⟨g, 1, none⟩ = some (.int .i64 c) := by unfold Rd at h; simp [World.cell?, h]
theorem Rd.free0 {w : World} {g : Nat} {s : List UInt8} {c : Int} (h : Rd w g s c) : w.frozen? ⟨g, 0, none⟩ = false := by unfold Rd at h; simp [World.frozen?, h]
theorem Rd.free1 {w : World} {g : Nat} {s : List UInt8} {c : Int} (h : Rd w g s c) : w.frozen? ⟨g, 1, none⟩ = false := by unfold Rd at h; simp [World.frozen?, h]
theorem Rd.setLeft {w : World} {g : Nat} {s : List UInt8} {c : Int} (h : Rd w g s c) (t : List UInt8) : Rd (w.setCell ⟨g, 0, none⟩ (.string ⟨t.toArray⟩)) g t c := by
  have hlt := h.lt
  unfold Rd at h
  have h' : w.heap[g] = .cells #[.string ⟨s.toArray⟩, .int .i64 c] 72 (0, 0) := by simpa [Array.getElem?_eq_getElem hlt] using h
  show (w.heap.modify g _)[g]? = _
  rw [Array.getElem?_eq_getElem (by simpa using hlt), Array.getElem_modify_self, h']
  rfl
theorem Rd.setCode {w : World} {g : Nat} {s : List UInt8} {c : Int} (h : Rd w g s c) (d : Int) : Rd (w.setCell ⟨g, 1, none⟩ (.int .i64 d)) g s d := by
  have hlt := h.lt
  unfold Rd at h
  have h' : w.heap[g] = .cells #[.string ⟨s.toArray⟩, .int .i64 c] 72 (0, 0) := by simpa [Array.getElem?_eq_getElem hlt] using h
  show (w.heap.modify g _)[g]? = _
  rw [Array.getElem?_eq_getElem (by simpa using hlt), Array.getElem_modify_self, h']
  rfl
theorem Rd.new (w : World) (s : List UInt8) (c : Int) : Rd (w.alloc (.cells #[.string ⟨s.toArray⟩, .int .i64 c] 72)) w.heap.size s c := heap_alloc_new w _

theorem Rd.below {w w' : World} {g : Nat} {s : List UInt8} {c : Int} (h : Rd w g s c) (hb : Below w.heap.size w w') : Rd w' g s c := (hb.block g h.lt).trans h

end Go.Proofs.YtddjkiejekfekaaDoor
namespace Go.Proofs.YtddjkiejekfekaaDoor
open Go.RowKit

theorem read_any (s : List UInt8) (w : World) :
    Calls Tryd.prog 31 #[.string ⟨s.toArray⟩] w fun e w' => e = .returned (.pointer (some ⟨w.heap.size, 0, none⟩)) ∧ Rd w' w.heap.size s 0 ∧ Below w.heap.size w w' := by
  go_enter Tryd.func31, Tryd.ntmps31
  go_wp2
  go_ret
  exact ⟨rfl, Rd.new w s 0, (Below.refl _ w).alloc (Nat.le_refl _) _⟩
theorem i64_or_nat (a b : Nat) (ha : a < 9223372036854775808) (hb : b < 9223372036854775808) : bits .or .i64 (a : Int) (b : Int) = ((a ||| b : Nat) : Int) := by
  have hx : a ||| b < 2 ^ 63 := Nat.or_lt_two_pow (by omega) (by omega)
  show IntKind.i64.wrap ((BitVec.ofInt 64 (a : Int) ||| BitVec.ofInt 64 (b : Int)).toNat : Int) = _
  rw [BitVec.toNat_or, BitVec.ofInt_natCast, BitVec.toNat_ofNat, BitVec.ofInt_natCast, BitVec.toNat_ofNat, Nat.mod_eq_of_lt (by omega), Nat.mod_eq_of_lt (by omega)]
  simp only [IntKind.wrap, IntKind.bits, IntKind.signed]
  simp
  omega
theorem or_low (a b : Nat) (hb : b < 256) : a * 256 ||| b = a * 256 + b := by
  have := Nat.two_pow_add_eq_or_of_lt (i := 8) (b := b) (by omega) a
  rw [Nat.mul_comm] at this
  exact this.symm

set_option maxHeartbeats 400000 in
theorem lead_nil (w : World) : Calls Tryd.prog 70 #[.string ⟨#[]⟩] w fun e w' => e = .returned (.tuple #[.int .i64 0, .int .i64 0, .int .i64 20]) ∧ w' = w := by
  go_enter Tryd.func70, Tryd.ntmps70
  go_wp2
  go_ret3
  exact ⟨rfl, rfl⟩
set_option maxHeartbeats 400000 in
theorem lead_big (c : UInt8) (r : List UInt8) (w : World) (hc : c.toNat > 8) : Calls Tryd.prog 70 #[.string ⟨(c :: r).toArray⟩] w fun e w' => e = .returned (.tuple #[.int .i64 0, .int .i64 0, .int .i64 3]) ∧ w' = w := by
  have hh : ∀ h, (⟨(c :: r).toArray⟩ : ByteArray)[0]'h = c := fun _ => rfl
  have hcb := c.toNat_lt
  have hc1 : (c.toNat : Int) > 8 := by omega
  clear hc
  go_enter Tryd.func70, Tryd.ntmps70
  go_wp2
  go_ret3
  exact ⟨rfl, rfl⟩
set_option maxHeartbeats 400000 in
theorem lead_short (c : UInt8) (r : List UInt8) (w : World) (hc : c.toNat ≤ 8) (hr : r.length < c.toNat) (hl : r.length ≤ 100000000) : Calls Tryd.prog 70 #[.string ⟨(c :: r).toArray⟩] w fun e w' => e = .returned (.tuple #[.int .i64 0, .int .i64 0, .int .i64 20]) ∧ w' = w := by
  have hh : ∀ h, (⟨(c :: r).toArray⟩ : ByteArray)[0]'h = c := fun _ => rfl
  have hc1 : ¬ ((c.toNat : Int) > 8) := by omega
  have hc2 : (r.length : Int) < (c.toNat : Int) := by omega
  go_enter Tryd.func70, Tryd.ntmps70
  go_wp2
  go_ret3
  exact ⟨rfl, rfl⟩
set_option maxHeartbeats 400000 in
theorem lead_zero (r : List UInt8) (w : World) (hl : r.length ≤ 100000000) : Calls Tryd.prog 70 #[.string ⟨((0 : UInt8) :: r).toArray⟩] w fun e w' => e = .returned (.tuple #[.int .i64 0, .int .i64 1, .int .i64 0]) ∧ w' = w := by
  have hh : ∀ h, (⟨((0 : UInt8) :: r).toArray⟩ : ByteArray)[0]'h = 0 := fun _ => rfl
  go_enter Tryd.func70, Tryd.ntmps70
  go_wp2
  go_loop [2, 40] (fun n i => n = .int .i64 0 ∧ i = .int .i64 0) (fun _ _ => 0)
  case atStart => exact ⟨rfl, rfl⟩
  case round =>
    obtain ⟨rfl, rfl⟩ := hrel
    go_wp2
    go_ret3
    exact ⟨rfl, rfl⟩
theorem ext_head (c : UInt8) (d r2 : List UInt8) : (⟨(c :: (d ++ r2)).toArray⟩ : ByteArray).extract 1 (1 + d.length) = ⟨d.toArray⟩ := by
  rw [Lib.extract_eq]; simp
set_option maxHeartbeats 400000 in
theorem lead_bad (c x : UInt8) (d q r2 : List UInt8) (w : World) (hd : d = x :: q) (hc : c.toNat = d.length) (h8 : d.length ≤ 8) (hl : r2.length ≤ 100000000) (hb : x.toNat = 0 ∨ d.length = 8 ∧ 128 ≤ x.toNat) :
    Calls Tryd.prog 70 #[.string ⟨(c :: (d ++ r2)).toArray⟩] w fun e w' => e = .returned (.tuple #[.int .i64 0, .int .i64 0, .int .i64 3]) ∧ w' = w := by
  have hh : ∀ h, (⟨(c :: (d ++ r2)).toArray⟩ : ByteArray)[0]'h = c := fun _ => rfl
  have hx : ∀ h, (⟨d.toArray⟩ : ByteArray)[0]'h = x := by subst hd; exact fun _ => rfl
  have he := ext_head c d r2
  have hxb := x.toNat_lt
  have hpos : 0 < d.length := by subst hd; simp
  clear hd
  obtain ⟨s, hs⟩ : ∃ s, c :: (d ++ r2) = s := ⟨_, rfl⟩
  have hsl : s.length = d.length + 1 + r2.length := by rw [← hs]; simp; omega
  have hse : s.isEmpty = false := by rw [← hs]; rfl
  rw [hs] at hh he ⊢
  clear hs
  rcases hb with h0 | ⟨h80, h128⟩
  · go_enter Tryd.func70, Tryd.ntmps70
    go_wp2
    go_ret3
    exact ⟨rfl, rfl⟩
  · rw [h80] at he hc hsl
    have he9 : (⟨s.toArray⟩ : ByteArray).extract 1 9 = ⟨d.toArray⟩ := he
    have hd0 : ((x.toNat : Int) == 0) = false := by rw [beq_eq_false_iff_ne]; omega
    have hd1 : decide (128 ≤ (x.toNat : Int)) = true := decide_eq_true (by omega)
    clear he h8 hpos
    go_enter Tryd.func70, Tryd.ntmps70
    go_wp2
    go_ret3
    exact ⟨rfl, rfl⟩
theorem val_take_lt (d : List UInt8) (h8 : d.length ≤ 8) (h : d.length = 8 → (d.headD 0).toNat < 128) (j : Nat) : Code.val (d.take j) < 2 ^ 63 := by
  have e : (256 : Nat) ^ 7 = 2 ^ 56 := by decide
  by_cases hj : (d.take j).length ≤ 7
  · have := Code.val_lt (d.take j)
    have := Nat.pow_le_pow_right (n := 256) (by omega) hj
    omega
  · rw [List.length_take] at hj
    rw [List.take_of_length_le (by omega)]
    match d, h8, h, hj with
    | [], _, _, hj => simp at hj
    | x :: q, h8, h, hj =>
      simp only [List.length_cons] at h8 h hj
      have hx := h (by omega)
      simp at hx
      have ⟨_, g⟩ := Code.val_ge x q
      rw [show q.length = 7 by omega, e] at g
      omega
theorem val_step (d : List UInt8) (k : Nat) (h : k < d.length) : Code.val (d.take (k + 1)) = Code.val (d.take k) * 256 + d[k].toNat := by
  rw [List.take_succ_eq_append_getElem h, Code.val_append]
theorem or_int (a b : Nat) (ha : a * 256 + b < 9223372036854775808) (hb : b < 256) : bits .or .i64 ((a : Int) * 256) (b : Int) = ((a * 256 + b : Nat) : Int) := by
  have h1 : a * 256 < 9223372036854775808 := Nat.lt_of_le_of_lt (Nat.le_add_right _ _) ha
  have h2 : b < 9223372036854775808 := Nat.lt_trans hb (by decide)
  have h3 := i64_or_nat (a * 256) b h1 h2
  rw [or_low a b hb, Int.natCast_mul] at h3
  exact h3
set_option maxHeartbeats 1000000 in
theorem lead_good (c x : UInt8) (d q r2 : List UInt8) (w : World) (hd : d = x :: q) (hc : c.toNat = d.length) (h8 : d.length ≤ 8) (hl : r2.length ≤ 100000000) (h0 : x.toNat ≠ 0) (hb : d.length = 8 → x.toNat < 128) :
    Calls Tryd.prog 70 #[.string ⟨(c :: (d ++ r2)).toArray⟩] w fun e w' => e = .returned (.tuple #[.int .i64 (Code.val d : Nat), .int .i64 (1 + d.length : Nat), .int .i64 0]) ∧ w' = w := by
  have hh : ∀ h, (⟨(c :: (d ++ r2)).toArray⟩ : ByteArray)[0]'h = c := fun _ => rfl
  have hx : ∀ h, (⟨d.toArray⟩ : ByteArray)[0]'h = x := by subst hd; exact fun _ => rfl
  have he := ext_head c d r2
  have hxb := x.toNat_lt
  have hvl := val_take_lt d h8 (by subst hd; exact hb)
  have hpos : 0 < d.length := by subst hd; simp
  clear hd
  obtain ⟨s, hs⟩ : ∃ s, c :: (d ++ r2) = s := ⟨_, rfl⟩
  have hsl : s.length = d.length + 1 + r2.length := by rw [← hs]; simp; omega
  have hse : s.isEmpty = false := by rw [← hs]; rfl
  rw [hs] at hh he ⊢
  clear hs
  have hvl' : ∀ j, Code.val (d.take j) < 2 ^ 63 := hvl
  clear hvl
  rcases Nat.lt_or_ge d.length 8 with h7 | h7
  · have hd0 : ((x.toNat : Int) == 0) = false := by rw [beq_eq_false_iff_ne]; omega
    clear hb
    go_enter Tryd.func70, Tryd.ntmps70
    go_wp2
    go_loop [2, 40] (fun n i => ∃ k : Nat, k ≤ d.length ∧ n = .int .i64 (Code.val (d.take k) : Nat) ∧ i = .int .i64 k) (fun _ i => d.length - (intOf i).toNat)
    case atStart => exact ⟨0, Nat.zero_le _, rfl, rfl⟩
    case round =>
      obtain ⟨k, hk, rfl, rfl⟩ := hrel
      by_cases hlt : k < d.length
      · have h1 : (k : Int) < (d.length : Int) := by omega
        have hst := val_step d k hlt
        have hvk := hvl' (k + 1)
        rw [hst] at hvk
        have hst' := Lib.hid hst
        have hi : ∀ h, (⟨d.toArray⟩ : ByteArray)[k]'h = d[k] := fun _ => rfl
        have hdk := d[k].toNat_lt
        obtain ⟨V, hV⟩ : ∃ V, Code.val (d.take k) = V := ⟨_, rfl⟩
        rw [hV] at hst' hvk ⊢
        clear hst hV
        have hor : bits .or .i64 ((V : Int) * 256) (d[k].toNat : Int) = ((V * 256 + d[k].toNat : Nat) : Int) := or_int V d[k].toNat (by omega) (by omega)
        go_wp2
        go_round
        case rel => exact ⟨k + 1, by omega, by rw [hst'.out]; simp, by go_num⟩
        case measure => simp [intOf]; omega
      · go_wp2
        go_ret3
        have e : k = d.length := by omega
        subst e
        rw [List.take_length]
        exact ⟨by simp, rfl⟩
  · have hb2 := hb (by omega)
    have h88 : d.length = 8 := by omega
    rw [h88] at he hc hsl
    have he9 : (⟨s.toArray⟩ : ByteArray).extract 1 9 = ⟨d.toArray⟩ := he
    have hd0 : ((x.toNat : Int) == 0) = false := by rw [beq_eq_false_iff_ne]; omega
    have hd1 : decide (128 ≤ (x.toNat : Int)) = false := decide_eq_false (by omega)
    clear hb he h8 hpos h7
    go_enter Tryd.func70, Tryd.ntmps70
    go_wp2
    go_loop [2, 40] (fun n i => ∃ k : Nat, k ≤ d.length ∧ n = .int .i64 (Code.val (d.take k) : Nat) ∧ i = .int .i64 k) (fun _ i => d.length - (intOf i).toNat)
    case atStart => exact ⟨0, Nat.zero_le _, rfl, rfl⟩
    case round =>
      obtain ⟨k, hk, rfl, rfl⟩ := hrel
      by_cases hlt : k < d.length
      · have h1 : (k : Int) < (d.length : Int) := by omega
        have hst := val_step d k hlt
        have hvk := hvl' (k + 1)
        rw [hst] at hvk
        have hst' := Lib.hid hst
        have hi : ∀ h, (⟨d.toArray⟩ : ByteArray)[k]'h = d[k] := fun _ => rfl
        have hdk := d[k].toNat_lt
        obtain ⟨V, hV⟩ : ∃ V, Code.val (d.take k) = V := ⟨_, rfl⟩
        rw [hV] at hst' hvk ⊢
        clear hst hV
        have hor : bits .or .i64 ((V : Int) * 256) (d[k].toNat : Int) = ((V * 256 + d[k].toNat : Nat) : Int) := or_int V d[k].toNat (by omega) (by omega)
        go_wp2
        go_round
        case rel => exact ⟨k + 1, by omega, by rw [hst'.out]; simp, by go_num⟩
        case measure => simp [intOf]; omega
      · go_wp2
        go_ret3
        have e : k = d.length := by omega
        subst e
        rw [List.take_length]
        exact ⟨by simp, rfl⟩

end Go.Proofs.YtddjkiejekfekaaDoor
namespace Go.Proofs.YtddjkiejekfekaaDoor
open Go.RowKit

theorem lead_any (s : List UInt8) (w : World) (hl : s.length ≤ 100000000) :
    Calls Tryd.prog 70 #[.string ⟨s.toArray⟩] w fun e w' => e = .returned (.tuple #[.int .i64 ((Code.leadL s).1 : Nat), .int .i64 ((Code.leadL s).2.1 : Nat), .int .i64 (Code.leadL s).2.2]) ∧ w' = w := by
  match s, hl with
  | [], _ => exact lead_nil w
  | c :: r, hl =>
    simp only [List.length_cons] at hl
    by_cases h1 : c.toNat > 8
    · rw [Code.leadL, if_pos h1]
      exact lead_big c r w h1
    · by_cases h2 : r.length < c.toNat
      · rw [Code.leadL, if_neg h1, if_pos h2]
        exact lead_short c r w (by omega) h2 (by omega)
      · have hr : r = r.take c.toNat ++ r.drop c.toNat := (List.take_append_drop _ _).symm
        have hdl : (r.take c.toNat).length = c.toNat := by rw [List.length_take]; omega
        have hd2 : (r.drop c.toNat).length ≤ 100000000 := by rw [List.length_drop]; omega
        rw [Code.leadL, if_neg h1, if_neg h2]
        by_cases h0 : c.toNat = 0
        · have hb : Code.bad c.toNat (r.take c.toNat) = false := by simp [Code.bad, h0]
          have hc0 : c = 0 := by
            have := UInt8.ofNat_toNat (x := c)
            rw [h0] at this
            exact this.symm
          subst hc0
          rw [hb]
          exact lead_zero r w (by omega)
        · match hd : r.take c.toNat with
          | [] => rw [hd] at hdl; simp at hdl; omega
          | x :: q =>
            rw [hd] at hr hdl
            rcases hb : Code.bad c.toNat (x :: q) with _ | _
            · simp only [Code.bad, List.headD_cons, Bool.or_eq_false_iff, Bool.and_eq_false_iff, decide_eq_false_iff_not, beq_eq_false_iff_ne] at hb
              have h := lead_good c x (x :: q) q (r.drop c.toNat) w rfl hdl.symm (by omega) hd2 (by rcases hb.1 with a | a; omega; exact a) (fun h8 => by rcases hb.2 with a | a; omega; exact Nat.not_le.1 (of_decide_eq_false a))
              rw [← hr, hdl] at h
              exact h
            · simp only [Code.bad, List.headD_cons, Bool.or_eq_true, Bool.and_eq_true, decide_eq_true_eq, beq_iff_eq] at hb
              have h := lead_bad c x (x :: q) q (r.drop c.toNat) w rfl hdl.symm (by omega) hd2 (by rcases hb with a | a; exact .inl a.2; exact .inr ⟨by omega, of_decide_eq_true a.2⟩)
              rw [← hr] at h
              exact h

def Code.countL (most : Int) (s : List UInt8) : Nat × List UInt8 × Int :=
  if (Code.leadL s).2.2 ≠ 0 then (0, s, (Code.leadL s).2.2) else if ((Code.leadL s).1 : Int) > most then (0, s, 2) else ((Code.leadL s).1, s.drop (Code.leadL s).2.1, 0)
theorem Code.lead_range (s : List UInt8) : (Code.leadL s).1 < 2 ^ 63 ∧ (Code.leadL s).2.1 ≤ s.length := by
  by_cases h : (Code.leadL s).2.2 = 0
  · have := Code.lead_ok s h
    exact ⟨this.1, this.2.1⟩
  · match s with
    | [] => simp [Code.leadL]
    | c :: r =>
      simp only [Code.leadL] at h ⊢
      split <;> (try (simp; done))
      split <;> (try (simp; done))
      split <;> (try (simp; done))
      simp_all

set_option maxHeartbeats 400000 in
theorem count_stuck (most : Int) (s : List UInt8) (c : Int) (g : Nat) (w : World) (h : Rd w g s c) (hc : c ≠ 0) :
    Calls Tryd.prog 59 #[.pointer (some ⟨g, 0, none⟩), .int .i64 most] w fun e w' => e = .returned (.int .i64 0) ∧ w' = w := by
  have h1 := h.code
  go_enter Tryd.func59, Tryd.ntmps59
  go_wp2
  go_ret
  exact ⟨rfl, rfl⟩

set_option maxHeartbeats 400000 in
theorem count_any (most : Int) (s : List UInt8) (g : Nat) (w : World) (h : Rd w g s 0) (hl : s.length ≤ 100000000) :
    Calls Tryd.prog 59 #[.pointer (some ⟨g, 0, none⟩), .int .i64 most] w fun e w' => e = .returned (.int .i64 ((Code.countL most s).1 : Nat)) ∧ Rd w' g (Code.countL most s).2.1 (Code.countL most s).2.2 ∧ Only g w w' := by
  have h0 := h.left
  have h1 := h.code
  have hf0 := h.free0
  have hf1 := h.free1
  obtain ⟨hn, hk⟩ := Code.lead_range s
  have hlead := Lib.hid (lead_any s w hl)
  have he := ext_drop s (Code.leadL s).2.1
  unfold Code.countL
  generalize (Code.leadL s) = p at hn hk hlead he ⊢
  obtain ⟨n, k, e⟩ := p
  simp only at hn hk hlead he ⊢
  by_cases h2 : e = 0
  · subst h2
    rw [if_neg (by simp)]
    by_cases h3 : (n : Int) > most
    · rw [if_pos h3]
      go_enter Tryd.func59, Tryd.ntmps59
      go_wp2_with fail
      refine hlead.out.mono ?_
      rintro e w1 ⟨rfl, rfl⟩
      go_wp2
      go_ret
      exact ⟨rfl, h.setCode 2, (Only.refl g _).setCell rfl _⟩
    · rw [if_neg h3]
      go_enter Tryd.func59, Tryd.ntmps59
      go_wp2_with fail
      refine hlead.out.mono ?_
      rintro e w1 ⟨rfl, rfl⟩
      go_wp2
      go_ret
      exact ⟨rfl, h.setLeft _, (Only.refl g _).setCell rfl _⟩
  · rw [if_pos h2]
    go_enter Tryd.func59, Tryd.ntmps59
    go_wp2_with fail
    refine hlead.out.mono ?_
    rintro e w1 ⟨rfl, rfl⟩
    go_wp2
    go_ret
    exact ⟨rfl, h.setCode _, (Only.refl g _).setCell rfl _⟩

theorem rnum_any (s : List UInt8) (g : Nat) (w : World) (h : Rd w g s 0) (hl : s.length ≤ 100000000) :
    Calls Tryd.prog 34 #[.pointer (some ⟨g, 0, none⟩)] w fun e w' => e = .returned (.int .i64 ((Code.countL 9223372036854775807 s).1 : Nat)) ∧ Rd w' g (Code.countL 9223372036854775807 s).2.1 (Code.countL 9223372036854775807 s).2.2 ∧ Only g w w' := by
  go_enter Tryd.func34, Tryd.ntmps34
  go_wp2_with fail
  refine (count_any 9223372036854775807 s g w h hl).mono ?_
  rintro e w1 ⟨rfl, h1, h2⟩
  go_wp2
  go_ret
  exact ⟨rfl, h1, h2⟩

end Go.Proofs.YtddjkiejekfekaaDoor
namespace Go.Proofs.YtddjkiejekfekaaDoor
open Go.RowKit

theorem clone_any (s : List UInt8) (w : World) (hl : s.length ≤ 100000000) :
    Calls Tryd.prog 58 #[.string ⟨s.toArray⟩] w fun e w' => e = .returned (.string ⟨s.toArray⟩) ∧ Below w.heap.size w w' := by
  go_enter Tryd.func58, Tryd.ntmps58
  go_wp2_with fail
  refine (shelf_clone ⟨s.toArray⟩ w (by rw [size_of_list]; omega)).mono ?_
  rintro e w1 ⟨rfl, hb⟩
  go_wp2
  go_ret
  exact ⟨rfl, hb⟩

def Code.bytesR (n : Int) (s : List UInt8) : List UInt8 × List UInt8 × Int :=
  if n < 0 then ([], s, 1) else if n.toNat > s.length then ([], s, 20) else (s.take n.toNat, s.drop n.toNat, 0)
def Code.textR (most : Int) (s : List UInt8) : List UInt8 × List UInt8 × Int :=
  if (Code.countL most s).2.2 ≠ 0 then ([], s, (Code.countL most s).2.2) else
  if (Code.countL most s).1 > (Code.countL most s).2.1.length then ([], s, 20) else
  ((Code.countL most s).2.1.take (Code.countL most s).1, (Code.countL most s).2.1.drop (Code.countL most s).1, 0)
theorem ext_take (s : List UInt8) (k : Nat) : (⟨s.toArray⟩ : ByteArray).extract 0 k = ⟨(s.take k).toArray⟩ := by
  rw [Lib.extract_eq]
  simp only [List.drop_zero, Nat.sub_zero]

set_option maxHeartbeats 400000 in
theorem bytes_stuck (n : Int) (s : List UInt8) (c : Int) (g : Nat) (w : World) (h : Rd w g s c) (hc : c ≠ 0) :
    Calls Tryd.prog 32 #[.pointer (some ⟨g, 0, none⟩), .int .i64 n] w fun e w' => e = .returned (.string ⟨#[]⟩) ∧ w' = w := by
  have h1 := h.code
  have hc1 : (c != 0) = true := by rw [bne_iff_ne]; exact hc
  clear hc
  go_enter Tryd.func32, Tryd.ntmps32
  go_wp2
  go_ret
  exact ⟨rfl, rfl⟩
set_option maxHeartbeats 400000 in
theorem bytes_any (n : Int) (s : List UInt8) (g : Nat) (w : World) (h : Rd w g s 0) (hl : s.length ≤ 100000000) :
    Calls Tryd.prog 32 #[.pointer (some ⟨g, 0, none⟩), .int .i64 n] w fun e w' => e = .returned (.string ⟨(Code.bytesR n s).1.toArray⟩) ∧ Rd w' g (Code.bytesR n s).2.1 (Code.bytesR n s).2.2 ∧ Only g w w' := by
  have h0 := h.left
  have h1 := h.code
  have hf1 := h.free1
  unfold Code.bytesR
  by_cases hn : n < 0
  · rw [if_pos hn]
    go_enter Tryd.func32, Tryd.ntmps32
    go_wp2
    go_ret
    exact ⟨rfl, h.setCode 1, (Only.refl g _).setCell rfl _⟩
  · rw [if_neg hn]
    obtain ⟨k, rfl⟩ := Int.eq_ofNat_of_zero_le (by omega : 0 ≤ n)
    simp only [Int.toNat_natCast]
    by_cases hk : k > s.length
    · rw [if_pos hk]
      have hk1 : (k : Int) > (s.length : Int) := by omega
      have hk0 : ((k : Int) < 0) = False := by simp
      go_enter Tryd.func32, Tryd.ntmps32
      go_wp2
      go_ret
      exact ⟨rfl, h.setCode 20, (Only.refl g _).setCell rfl _⟩
    · rw [if_neg hk]
      have hk1 : ¬ ((k : Int) > (s.length : Int)) := by omega
      have hk0 : ((k : Int) < 0) = False := by simp
      have he1 := ext_take s k
      have he2 := ext_drop s k
      go_enter Tryd.func32, Tryd.ntmps32
      go_wp2_with fail
      refine (clone_any (s.take k) w (by rw [List.length_take]; omega)).mono ?_
      rintro e w1 ⟨rfl, hb⟩
      have hr := h.below hb
      have g0 := hr.left
      have gf := hr.free0
      go_wp2
      go_ret
      exact ⟨rfl, hr.setLeft _, Only.setCell (g := g) (Only.of hb) rfl _⟩

theorem count_rest (most : Int) (s : List UInt8) : (Code.countL most s).2.1.length ≤ s.length := by
  unfold Code.countL
  split
  · exact Nat.le_refl _
  · split
    · exact Nat.le_refl _
    · simp only [List.length_drop]; omega

set_option maxHeartbeats 400000 in
theorem rtext_any (most : Int) (s : List UInt8) (g : Nat) (w : World) (h : Rd w g s 0) (hl : s.length ≤ 100000000) :
    Calls Tryd.prog 33 #[.pointer (some ⟨g, 0, none⟩), .int .i64 most] w fun e w' => e = .returned (.string ⟨(Code.textR most s).1.toArray⟩) ∧ Rd w' g (Code.textR most s).2.1 (Code.textR most s).2.2 ∧ Only g w w' := by
  have h0 := h.left
  have hcl := count_rest most s
  unfold Code.textR
  have hcount := Lib.hid (count_any most s g w h hl)
  generalize Code.countL most s = p at hcount hcl ⊢
  obtain ⟨n, r, e⟩ := p
  simp only at hcount hcl ⊢
  by_cases he : e = 0
  · subst he
    rw [if_neg (by simp)]
    go_enter Tryd.func33, Tryd.ntmps33
    go_wp2_with fail
    refine hcount.out.mono ?_
    rintro e w1 ⟨rfl, hr1, ho1⟩
    go_wp2_with fail
    refine (bytes_any n r g w1 hr1 (by omega)).mono ?_
    rintro e w2 ⟨rfl, hr2, ho2⟩
    have ho := ho1.trans ho2
    clear ho1 ho2 h0
    unfold Code.bytesR at hr2 ⊢
    have hn0 : ¬ ((n : Int) < 0) := by omega
    rw [if_neg hn0] at hr2 ⊢
    simp only [Int.toNat_natCast] at hr2 ⊢
    by_cases hk : n > r.length
    · rw [if_pos hk] at hr2 ⊢
      simp only at hr2 ⊢
      have h1 := hr2.code
      have h2 := hr2.left
      have hf := hr2.free0
      go_wp2
      go_ret
      exact ⟨rfl, hr2.setLeft s, ho.setCell rfl _⟩
    · rw [if_neg hk] at hr2 ⊢
      simp only at hr2 ⊢
      have h1 := hr2.code
      go_wp2
      go_ret
      exact ⟨rfl, hr2, ho⟩
  · rw [if_pos he]
    have he1 : (e != 0) = true := by rw [bne_iff_ne]; exact he
    go_enter Tryd.func33, Tryd.ntmps33
    go_wp2_with fail
    refine hcount.out.mono ?_
    rintro e w1 ⟨rfl, hr1, ho1⟩
    go_wp2_with fail
    refine (bytes_stuck n r _ g w1 hr1 he).mono ?_
    rintro e w2 ⟨rfl, rfl⟩
    have h1 := hr1.code
    have h2 := hr1.left
    have hf := hr1.free0
    clear h0
    go_wp2
    go_ret
    exact ⟨rfl, hr1.setLeft s, ho1.setCell rfl _⟩

end Go.Proofs.YtddjkiejekfekaaDoor
namespace Go.Proofs.YtddjkiejekfekaaDoor
open Go.RowKit

def cellsStr (L : List (List UInt8)) : List Value := L.map fun s => .string ⟨s.toArray⟩
theorem Tryd.infoString : (Tryd.prog.info? 9).map (fun i => (i.zero, i.size, i.bytes)) = some (some (.string ⟨#[]⟩), 1, 16) := by kernel_rfl
theorem owns_only {w w' : World} {B g : Nat} {e : TypeId} {size : Nat} {v : Value} {n : Nat} {xs : List Value} (h : w.ownsRow B e size v n xs) (ho : Only g w w') (hg : g < B) : w'.ownsRow B e size v n xs := by
  obtain ⟨h1, h2⟩ := h
  refine ⟨h1, ?_⟩
  rcases h2 with h2 | ⟨b, cap, cur, hv, hb, hh, r⟩
  · exact Or.inl h2
  · exact Or.inr ⟨b, cap, cur, hv, hb, (ho.block b (lt_of_block hh) (by omega)).trans hh, r⟩
theorem Only.then {g : Nat} {a b c : World} (h : Only g a b) (k : Below a.heap.size b c) : Only g a c :=
  ⟨k.os.trans h.os, k.tape.trans h.tape, k.output.trans h.output, Nat.le_trans h.size k.size, fun i hi hg => (k.block i hi).trans (h.block i hi hg)⟩
theorem Rd.belowB {w w' : World} {B g : Nat} {s : List UInt8} {c : Int} (h : Rd w g s c) (hb : Below B w w') (hg : g < B) : Rd w' g s c := (hb.block g hg).trans h

def Code.readN : Nat → Int → List UInt8 → List (List UInt8) × List UInt8 × Int
  | 0, _, r => ([], r, 0)
  | n + 1, each, r => if (Code.textR each r).2.2 ≠ 0 then ([], r, (Code.textR each r).2.2) else
      ((Code.textR each r).1 :: (Code.readN n each (Code.textR each r).2.1).1, (Code.readN n each (Code.textR each r).2.1).2.1, (Code.readN n each (Code.textR each r).2.1).2.2)
def Code.listR (most each : Int) (s : List UInt8) : List (List UInt8) × List UInt8 × Int :=
  if (Code.countL most s).2.2 ≠ 0 then ([], s, (Code.countL most s).2.2) else
  if (Code.readN (Code.countL most s).1 each (Code.countL most s).2.1).2.2 ≠ 0 then ([], s, (Code.readN (Code.countL most s).1 each (Code.countL most s).2.1).2.2) else
  Code.readN (Code.countL most s).1 each (Code.countL most s).2.1
theorem Code.text_less (each : Int) (r : List UInt8) (h : (Code.textR each r).2.2 = 0) : (Code.textR each r).2.1.length + 1 ≤ r.length := by
  unfold Code.textR at h ⊢
  split at h
  · rename_i h1; exact absurd h h1
  · rename_i h1
    rw [if_neg h1]
    split at h
    · simp at h
    · rename_i h2
      rw [if_neg h2]
      have h3 : (Code.countL each r).2.1.length + 1 ≤ r.length := by
        unfold Code.countL at h1 ⊢
        split at h1
        · rename_i h4; exact absurd h4 h1
        · rename_i h4
          rw [if_neg h4]
          split at h1
          · simp at h1
          · rename_i h5
            rw [if_neg h5]
            have h6 := Code.lead_ok r (by omega)
            simp only [List.length_drop]
            have h7 := congrArg List.length h6.2.2
            rw [List.length_take, Code.numL_length] at h7
            omega
      simp only [List.length_drop]
      omega

set_option maxHeartbeats 1000000 in
theorem rlist_any (most each : Int) (s : List UInt8) (g : Nat) (w : World) (h : Rd w g s 0) (hl : s.length ≤ 100000000) :
    Calls Tryd.prog 45 #[.pointer (some ⟨g, 0, none⟩), .int .i64 most, .int .i64 each] w fun e w' => ∃ v, e = .returned v ∧ w'.ownsRow w.heap.size 9 1 v (Code.listR most each s).1.length (cellsStr (Code.listR most each s).1) ∧ Rd w' g (Code.listR most each s).2.1 (Code.listR most each s).2.2 ∧ Only g w w' := by
  obtain ⟨i0, hi, hz0, hz1, hz2⟩ := info_parts Tryd.infoString
  have h0 := h.left
  have hg := h.lt
  have hcl := count_rest most s
  have hcn : (Code.countL most s).1 < 2 ^ 63 := by
    have := (Code.lead_range s).1
    unfold Code.countL
    split
    · simp
    · split
      · simp
      · exact this
  have hcz : (Code.countL most s).2.2 ≠ 0 → (Code.countL most s).1 = 0 ∧ (Code.countL most s).2.1 = s := by
    unfold Code.countL
    split
    · exact fun _ => ⟨rfl, rfl⟩
    · split
      · exact fun _ => ⟨rfl, rfl⟩
      · intro h; exact absurd rfl h
  obtain ⟨X, hX⟩ : ∃ X, Code.listR most each s = X := ⟨_, rfl⟩
  rw [hX]
  unfold Code.listR at hX
  have hcount := Lib.hid (count_any most s g w h hl)
  generalize Code.countL most s = p at hcount hcl hcn hcz hX
  obtain ⟨n, r, e⟩ := p
  simp only at hcount hcl hcn hcz hX
  by_cases he : e = 0
  · subst he
    simp only [ne_eq, not_true_eq_false, if_false] at hX
    have HX := Lib.hid hX
    clear hX
    have hn9 : (n : Int) ≤ 9223372036854775807 := by omega
    clear hcn hcz
    go_enter Tryd.func45, Tryd.ntmps45
    go_wp2_with fail
    refine hcount.out.mono ?_
    rintro e w1 ⟨rfl, hr1, ho1⟩
    clear h0
    go_wp2
    go_loopw [9, 19] (fun v i wr => ∃ (k : Nat) (acc : List (List UInt8)) (rk : List UInt8), k ≤ n ∧ i = .int .i64 k ∧ acc.length + rk.length ≤ r.length ∧
      Code.readN n each r = (acc ++ (Code.readN (n - k) each rk).1, (Code.readN (n - k) each rk).2.1, (Code.readN (n - k) each rk).2.2) ∧
      wr.ownsRow w.heap.size 9 1 v acc.length (cellsStr acc) ∧ Rd wr g rk 0 ∧ Only g w wr) (fun _ i _ => n - (intOf i).toNat)
    case atStart => exact ⟨0, [], r, Nat.zero_le _, rfl, by simp, by simp, ⟨rfl, Or.inl ⟨rfl, rfl⟩⟩, hr1, ho1⟩
    case round =>
      obtain ⟨k, acc, rk, hk, rfl, hlen, hread, hown, hrk, hok⟩ := hrel
      have HR := Lib.hid hread
      clear hread
      by_cases hlt : k < n
      · have h1 : (k : Int) < (n : Int) := by omega
        obtain ⟨m, hm⟩ : ∃ m, n - k = m + 1 := ⟨n - k - 1, by omega⟩
        have hq := Code.text_less each rk
        have HS := Lib.hid (show Code.readN (m + 1) each rk = if (Code.textR each rk).2.2 ≠ 0 then ([], rk, (Code.textR each rk).2.2) else
          ((Code.textR each rk).1 :: (Code.readN m each (Code.textR each rk).2.1).1, (Code.readN m each (Code.textR each rk).2.1).2.1, (Code.readN m each (Code.textR each rk).2.1).2.2) from rfl)
        by_cases he' : (Code.textR each rk).2.2 = 0
        · have HS2 := HS.out
          rw [if_neg (by simpa using he')] at HS2
          have HS3 := Lib.hid HS2
          clear HS HS2
          have HR2 := HR.out
          rw [hm, HS3.out] at HR2
          have hq2 := hq he'
          clear hq HS3
          have hm2 : n - (k + 1) = m := by omega
          simp only at HR2
          have HR3 := Lib.hid HR2
          clear HR2 HR hm
          have hq := hq2
          clear hq2
          generalize hqq : Code.textR each rk = qq at he' hq HR3
          obtain ⟨t, r', e'⟩ := qq
          simp only at he' hq HR3
          subst he'
          go_wp2_with fail
          refine (rtext_any each rk g wr hrk (by omega)).mono ?_
          rintro e w2 ⟨rfl, hr2, ho2⟩
          have hs2 := ho2.size
          have hs1 := hok.size
          have hown2 := owns_only hown ho2 hg
          have hok2 := hok.trans ho2
          clear hown ho2 hrk hok
          rw [hqq] at hr2 ⊢
          simp only at hr2 ⊢
          clear hqq
          go_wp2_with ((at_builtin; refine wpList_append_own _ rfl _ _ 61 rfl w.heap.size 9 i0 (.string ⟨#[]⟩) 1 16 Tryd.underlying61 hi hz0 hz1 hz2 rfl (by decide) _ acc.length (cellsStr acc) rfl (hown2.alloc _) ⟨w2.heap.size, 0, none⟩ 1 1 [.string ⟨t.toArray⟩] rfl rfl ?c1 ?c2 ?c3 ?c4 ?c5 ?_))
          case c1 => exact cell_one_new _ _ _
          case c2 => simp [Value.oneCell']
          case c3 => unfold maxLen; omega
          case c4 => omega
          case c5 => simp; omega
          intro v3 w3 hown3 hgrow3 _
          have hb3 : Below w.heap.size w2 w3 := ((Below.refl w.heap.size w2).alloc (by omega) _).grown hgrow3 (by simp; omega) (fun b hb => (hown2.lt b hb).1)
          have hr3 := hr2.belowB hb3 hg
          have ho3 := hok2.then hb3
          have hrow : w3.ownsRow w.heap.size 9 1 v3 (acc ++ [t]).length (cellsStr (acc ++ [t])) := by
            simpa [cellsStr] using hown3
          have c3 := hr3.code
          clear hown3 hgrow3 hown2 hok2 hr2 hb3
          go_wp2
          go_roundw
          case rel => exact ⟨k + 1, acc ++ [t], r', by omega, by go_num, by simp; omega, by rw [hm2, HR3.out]; simp, hrow, hr3, ho3⟩
          case measure => simp [intOf]; omega
        · have HS2 := HS.out
          rw [if_pos he'] at HS2
          have HR2 := HR.out
          rw [hm, HS2] at HR2
          simp only [List.append_nil] at HR2
          have HR3 := Lib.hid HR2
          clear HR2 HR hm HS HS2 hq
          generalize hqq : Code.textR each rk = qq at he' HR3
          obtain ⟨t, r', e'⟩ := qq
          simp only at he' HR3
          have he2 : (e' != 0) = true := by rw [bne_iff_ne]; exact he'
          go_wp2_with fail
          refine (rtext_any each rk g wr hrk (by omega)).mono ?_
          rintro e w2 ⟨rfl, hr2, ho2⟩
          have hs2 := ho2.size
          have hs1 := hok.size
          have hown2 := owns_only hown ho2 hg
          have hok2 := hok.trans ho2
          clear hown ho2 hrk hok
          rw [hqq] at hr2 ⊢
          simp only at hr2 ⊢
          clear hqq
          go_wp2_with ((at_builtin; refine wpList_append_own _ rfl _ _ 61 rfl w.heap.size 9 i0 (.string ⟨#[]⟩) 1 16 Tryd.underlying61 hi hz0 hz1 hz2 rfl (by decide) _ acc.length (cellsStr acc) rfl (hown2.alloc _) ⟨w2.heap.size, 0, none⟩ 1 1 [.string ⟨t.toArray⟩] rfl rfl ?c1 ?c2 ?c3 ?c4 ?c5 ?_))
          case c1 => exact cell_one_new _ _ _
          case c2 => simp [Value.oneCell']
          case c3 => unfold maxLen; omega
          case c4 => omega
          case c5 => simp; omega
          intro v3 w3 hown3 hgrow3 _
          have hb3 : Below w.heap.size w2 w3 := ((Below.refl w.heap.size w2).alloc (by omega) _).grown hgrow3 (by simp; omega) (fun b hb => (hown2.lt b hb).1)
          have hr3 := hr2.belowB hb3 hg
          have ho3 := hok2.then hb3
          have hrow : w3.ownsRow w.heap.size 9 1 v3 (acc ++ [t]).length (cellsStr (acc ++ [t])) := by
            simpa [cellsStr] using hown3
          have c3 := hr3.code
          clear hown3 hgrow3 hown2 hok2 hr2 hb3
          have l3 := hr3.left
          have f3 := hr3.free0
          go_wp2
          go_ret
          have e := HX.out
          rw [HR3.out] at e
          simp only at e
          rw [if_pos he'] at e
          subst e
          exact ⟨_, rfl, ⟨rfl, Or.inl ⟨rfl, rfl⟩⟩, hr3.setLeft s, ho3.setCell rfl _⟩
      · have e : k = n := by omega
        subst e
        go_wp2
        go_ret
        have HR2 := HR.out
        rw [Nat.sub_self] at HR2
        simp only [Code.readN, List.append_nil] at HR2
        have e := HX.out
        rw [HR2] at e
        simp only [not_true_eq_false, if_false] at e
        subst e
        exact ⟨_, rfl, hown, hrk, hok⟩
  · rw [if_pos he] at hX
    subst hX
    obtain ⟨rfl, rfl⟩ := hcz he
    clear hcz
    go_enter Tryd.func45, Tryd.ntmps45
    go_wp2_with fail
    refine hcount.out.mono ?_
    rintro e w1 ⟨rfl, hr1, ho1⟩
    clear h0
    go_wp2
    go_loop [9, 19] (fun v i => v = .slice none 0 0 ∧ i = .int .i64 0) (fun _ _ => 0)
    case atStart => exact ⟨rfl, rfl⟩
    case round =>
      obtain ⟨rfl, rfl⟩ := hrel
      go_wp2
      go_ret
      exact ⟨_, rfl, ⟨rfl, Or.inl ⟨rfl, rfl⟩⟩, hr1, ho1⟩

end Go.Proofs.YtddjkiejekfekaaDoor
namespace Go.Proofs.YtddjkiejekfekaaDoor.Code

theorem count_num (most : Int) (n : Nat) (r : List UInt8) (h : n < 2 ^ 63) (hm : (n : Int) ≤ most) : countL most (numL n ++ r) = (n, r, 0) := by
  have e := lead_num n h r
  have hd : (numL n ++ r).drop (1 + sz n) = r := by
    rw [← numL_length, List.drop_left]
  unfold countL
  rw [e]
  simp only [ne_eq, not_true_eq_false, if_false]
  rw [if_neg (by omega), hd]
theorem text_text (most : Int) (t r : List UInt8) (h : t.length < 2 ^ 63) (hm : (t.length : Int) ≤ most) : textR most (textL t ++ r) = (t, r, 0) := by
  have e := count_num most t.length (t ++ r) h hm
  unfold textR textL
  rw [List.append_assoc, e]
  simp
theorem read_texts (each : Int) (L : List (List UInt8)) (r : List UInt8) (h : ∀ t ∈ L, t.length < 2 ^ 63 ∧ (t.length : Int) ≤ each) : readN L.length each (textsL L ++ r) = (L, r, 0) := by
  induction L with
  | nil => simp [readN, textsL]
  | cons t L ih =>
    have e : textsL (t :: L) ++ r = textL t ++ (textsL L ++ r) := by simp [textsL]
    have h1 := h t (List.mem_cons_self ..)
    have h2 := ih (fun x hx => h x (List.mem_cons_of_mem _ hx))
    rw [e, List.length_cons, readN, text_text each t _ h1.1 h1.2]
    simp [h2]
theorem list_list (most each : Int) (L : List (List UInt8)) (r : List UInt8) (hl : L.length < 2 ^ 63) (hm : (L.length : Int) ≤ most) (h : ∀ t ∈ L, t.length < 2 ^ 63 ∧ (t.length : Int) ≤ each) : listR most each (listL L ++ r) = (L, r, 0) := by
  have e := count_num most L.length (textsL L ++ r) hl hm
  unfold listR listL
  rw [List.append_assoc, e]
  simp only
  rw [read_texts each L r h]
  simp
end Go.Proofs.YtddjkiejekfekaaDoor.Code
namespace Go.Proofs.YtddjkiejekfekaaDoor

abbrev Pw.St := List UInt8 × Int
def Pw.rdN (st : Pw.St) : Nat × Pw.St := if st.2 ≠ 0 then (0, st) else ((Code.countL 9223372036854775807 st.1).1, (Code.countL 9223372036854775807 st.1).2.1, (Code.countL 9223372036854775807 st.1).2.2)
def Pw.rdT (st : Pw.St) : List UInt8 × Pw.St := if st.2 ≠ 0 then ([], st) else ((Code.textR 6 st.1).1, (Code.textR 6 st.1).2.1, (Code.textR 6 st.1).2.2)
def Pw.endC (st : Pw.St) : Int := if st.2 = 0 ∧ st.1 ≠ [] then 3 else st.2
theorem Pw.rdN_le (st : Pw.St) : (Pw.rdN st).2.1.length ≤ st.1.length := by
  unfold Pw.rdN
  split
  · exact Nat.le_refl _
  · exact count_rest _ _
theorem Pw.textR_le (most : Int) (s : List UInt8) : (Code.textR most s).2.1.length ≤ s.length := by
  have h := count_rest most s
  unfold Code.textR
  split
  · exact Nat.le_refl _
  · split
    · exact Nat.le_refl _
    · simp only [List.length_drop]; omega
theorem Pw.rdT_le (st : Pw.St) : (Pw.rdT st).2.1.length ≤ st.1.length := by
  unfold Pw.rdT
  split
  · exact Nat.le_refl _
  · exact Pw.textR_le _ _
theorem Pw.countL_lt (s : List UInt8) : (Code.countL 9223372036854775807 s).1 < 2 ^ 63 := by
  unfold Code.countL
  split
  · simp
  · split
    · simp
    · exact (Code.lead_range s).1
theorem Pw.rdN_lt (st : Pw.St) : (Pw.rdN st).1 < 2 ^ 63 := by
  unfold Pw.rdN
  split
  · simp
  · exact Pw.countL_lt _

/-! ### what was read is what was written -/
theorem Pw.rdN_ok {st : Pw.St} (h : (Pw.rdN st).2.2 = 0) : st.2 = 0 ∧ st.1 = Code.numL (Pw.rdN st).1 ++ (Pw.rdN st).2.1 := by
  unfold Pw.rdN at h ⊢
  by_cases h0 : st.2 = 0
  · rw [if_neg (by simpa using h0)] at h ⊢
    refine ⟨h0, ?_⟩
    simp only at h ⊢
    unfold Code.countL at h ⊢
    split at h
    · rename_i h1; exact absurd h h1
    · rename_i h1
      split at h
      · simp at h
      · rename_i h2
        have h3 := Code.lead_ok st.1 (by simpa using h1)
        rw [if_neg h1, if_neg h2]
        simp only
        rw [← h3.2.2, List.take_append_drop]
  · rw [if_pos h0] at h
    exact absurd h h0
theorem Pw.rdT_ok {st : Pw.St} (h : (Pw.rdT st).2.2 = 0) : st.2 = 0 ∧ st.1 = Code.textL (Pw.rdT st).1 ++ (Pw.rdT st).2.1 := by
  unfold Pw.rdT at h ⊢
  by_cases h0 : st.2 = 0
  · rw [if_neg (by simpa using h0)] at h ⊢
    refine ⟨h0, ?_⟩
    simp only at h ⊢
    unfold Code.textR at h ⊢
    by_cases h1 : (Code.countL 6 st.1).2.2 = 0
    · rw [if_neg (by simpa using h1)] at h ⊢
      by_cases h2 : (Code.countL 6 st.1).1 > (Code.countL 6 st.1).2.1.length
      · rw [if_pos h2] at h; simp at h
      · rw [if_neg h2]
        simp only
        have hs : st.1 = Code.numL (Code.countL 6 st.1).1 ++ (Code.countL 6 st.1).2.1 := by
          unfold Code.countL at h1 ⊢
          split at h1
          · rename_i h3; exact absurd h1 h3
          · rename_i h3
            split at h1
            · simp at h1
            · rename_i h4
              have h5 := Code.lead_ok st.1 (by simpa using h3)
              rw [if_neg h3, if_neg h4]
              simp only
              rw [← h5.2.2, List.take_append_drop]
        have hl : ((Code.countL 6 st.1).2.1.take (Code.countL 6 st.1).1).length = (Code.countL 6 st.1).1 := by rw [List.length_take]; omega
        rw [Code.textL, hl, List.append_assoc, List.take_append_drop]
        exact hs
    · rw [if_pos h1] at h; exact absurd h h1
  · rw [if_pos h0] at h
    exact absurd h h0
theorem Pw.rdN_num (n : Nat) (r : List UInt8) (h : n < 2 ^ 63) : Pw.rdN (Code.numL n ++ r, 0) = (n, r, 0) := by
  have h1 := Code.count_num 9223372036854775807 n r h (by omega)
  simp [Pw.rdN, h1]
theorem Pw.rdT_text (t r : List UInt8) (h : t.length ≤ 6) : Pw.rdT (Code.textL t ++ r, 0) = (t, r, 0) := by
  have h1 := Code.text_text 6 t r (by omega) (by omega)
  simp [Pw.rdT, h1]
end Go.Proofs.YtddjkiejekfekaaDoor
namespace Go.Proofs.YtddjkiejekfekaaDoor
open Go.RowKit

theorem Only.out {g : Nat} {w w' : World} (h : Only g w w') : Out (fun k => k = g) w w' := ⟨h.os, h.tape, h.output, h.size, h.block⟩
theorem rnum_st (st : Pw.St) (g : Nat) (w : World) (h : Rd w g st.1 st.2) (hl : st.1.length ≤ 100000000) :
    Calls Tryd.prog 34 #[.pointer (some ⟨g, 0, none⟩)] w fun e w' => e = .returned (.int .i64 ((Pw.rdN st).1 : Nat)) ∧ Rd w' g (Pw.rdN st).2.1 (Pw.rdN st).2.2 ∧ Only g w w' := by
  unfold Pw.rdN
  by_cases hc : st.2 = 0
  · rw [if_neg (by simpa using hc)]
    rw [hc] at h
    exact rnum_any st.1 g w h hl
  · rw [if_pos hc]
    go_enter Tryd.func34, Tryd.ntmps34
    go_wp2_with fail
    refine (count_stuck 9223372036854775807 st.1 st.2 g w h hc).mono ?_
    rintro e w1 ⟨rfl, rfl⟩
    go_wp2
    go_ret
    exact ⟨rfl, h, Only.refl _ _⟩
theorem rtext_st (st : Pw.St) (g : Nat) (w : World) (h : Rd w g st.1 st.2) (hl : st.1.length ≤ 100000000) :
    Calls Tryd.prog 33 #[.pointer (some ⟨g, 0, none⟩), .int .i64 6] w fun e w' => e = .returned (.string ⟨(Pw.rdT st).1.toArray⟩) ∧ Rd w' g (Pw.rdT st).2.1 (Pw.rdT st).2.2 ∧ Only g w w' := by
  unfold Pw.rdT
  by_cases hc : st.2 = 0
  · rw [if_neg (by simpa using hc)]
    rw [hc] at h
    exact rtext_any 6 st.1 g w h hl
  · rw [if_pos hc]
    obtain ⟨s, c⟩ := st
    dsimp only at h hc hl ⊢
    have h0 := h.left
    have h1 := h.code
    have hf0 := h.free0
    have hc1 : (c != 0) = true := by rw [bne_iff_ne]; exact hc
    go_enter Tryd.func33, Tryd.ntmps33
    go_wp2_with fail
    refine (count_stuck 6 s c g w h hc).mono ?_
    rintro e w1 ⟨rfl, rfl⟩
    go_wp2_with fail
    refine (bytes_stuck 0 s c g w1 h hc).mono ?_
    rintro e w2 ⟨rfl, rfl⟩
    go_wp2
    go_ret
    exact ⟨rfl, h.setLeft s, (Only.refl g _).setCell rfl _⟩
theorem rend_st (st : Pw.St) (g : Nat) (w : World) (h : Rd w g st.1 st.2) :
    Calls Tryd.prog 36 #[.pointer (some ⟨g, 0, none⟩)] w fun e w' => e = .returned (.int .i64 (Pw.endC st)) ∧ Only g w w' := by
  obtain ⟨s, c⟩ := st
  dsimp only at h
  have h0 := h.left
  have h1 := h.code
  have hf1 := h.free1
  unfold Pw.endC
  dsimp only
  by_cases hc : c = 0
  · subst hc
    cases s with
    | nil =>
      rw [if_neg (by simp)]
      go_enter Tryd.func36, Tryd.ntmps36
      go_wp2
      go_ret
      exact ⟨rfl, Only.refl _ _⟩
    | cons a s =>
      rw [if_pos (by simp)]
      have hrd := (h.setCode 3).code
      go_enter Tryd.func36, Tryd.ntmps36
      go_wp2
      go_ret
      exact ⟨rfl, (Only.refl g _).setCell rfl _⟩
  · rw [if_neg (fun h => hc h.1)]
    have hc1 : (c == 0) = false := by rw [beq_eq_false_iff_ne]; exact hc
    go_enter Tryd.func36, Tryd.ntmps36
    go_wp2
    go_ret
    exact ⟨rfl, Only.refl _ _⟩
theorem row_keep {G : Nat → Prop} {w w' : World} {B : Nat} {e : TypeId} {z : Nat} {s : Value} {n : Nat} {xs : List Value} (h : w.ownsRow B e z s n xs) (ho : Out G w w') (hd : ∀ k, s.ownBlock = some k → ¬ G k) : w'.ownsRow B e z s n xs := by
  refine ⟨h.1, ?_⟩
  rcases h.2 with hn | ⟨k, cap, cur, hv, hb, hk, hr⟩
  · exact Or.inl hn
  · exact Or.inr ⟨k, cap, cur, hv, hb, ho.heap hk (hd k (by rw [hv]; rfl)), hr⟩
end Go.Proofs.YtddjkiejekfekaaDoor
namespace Go.Proofs.YtddjkiejekfekaaDoor

def Tm.rdT (most : Int) (st : Pw.St) : List UInt8 × Pw.St := if st.2 ≠ 0 then ([], st) else ((Code.textR most st.1).1, (Code.textR most st.1).2.1, (Code.textR most st.1).2.2)
theorem Tm.count_ok (most : Int) (s : List UInt8) (h : (Code.countL most s).2.2 = 0) : s = Code.numL (Code.countL most s).1 ++ (Code.countL most s).2.1 := by
  unfold Code.countL at h ⊢
  by_cases h1 : (Code.leadL s).2.2 = 0
  · rw [if_neg (by simpa using h1)] at h ⊢
    by_cases h2 : ((Code.leadL s).1 : Int) > most
    · rw [if_pos h2] at h
      cases h
    · rw [if_neg h2]
      have h3 := (Code.lead_ok s h1).2.2
      dsimp only
      rw [← h3, List.take_append_drop]
  · rw [if_pos h1] at h
    exact absurd h h1
theorem Tm.text_ok (most : Int) (s : List UInt8) (h : (Code.textR most s).2.2 = 0) : s = Code.textL (Code.textR most s).1 ++ (Code.textR most s).2.1 := by
  unfold Code.textR at h ⊢
  by_cases h1 : (Code.countL most s).2.2 = 0
  · rw [if_neg (by simpa using h1)] at h ⊢
    by_cases h2 : (Code.countL most s).1 > (Code.countL most s).2.1.length
    · rw [if_pos h2] at h; simp at h
    · rw [if_neg h2]
      dsimp only
      have hs := Tm.count_ok most s h1
      have hl : ((Code.countL most s).2.1.take (Code.countL most s).1).length = (Code.countL most s).1 := by rw [List.length_take]; omega
      rw [Code.textL, hl, List.append_assoc, List.take_append_drop]
      exact hs
  · rw [if_pos h1] at h; exact absurd h h1
theorem Tm.rdT_ok {most : Int} {st : Pw.St} (h : (Tm.rdT most st).2.2 = 0) : st.2 = 0 ∧ st.1 = Code.textL (Tm.rdT most st).1 ++ (Tm.rdT most st).2.1 := by
  unfold Tm.rdT at h ⊢
  by_cases h0 : st.2 = 0
  · rw [if_neg (by simpa using h0)] at h ⊢
    exact ⟨h0, Tm.text_ok _ _ h⟩
  · rw [if_pos h0] at h
    exact absurd h h0
theorem Tm.rdT_text (most : Nat) (t r : List UInt8) (h : t.length ≤ most) (hm : most ≤ 1000000) : Tm.rdT most (Code.textL t ++ r, 0) = (t, r, 0) := by
  have h1 := Code.text_text most t r (by omega) (by omega)
  simp [Tm.rdT, h1]
theorem Tm.readN_ok (n : Nat) (each : Int) (r : List UInt8) (h : (Code.readN n each r).2.2 = 0) : (Code.readN n each r).1.length = n ∧ r = Code.textsL (Code.readN n each r).1 ++ (Code.readN n each r).2.1 := by
  induction n generalizing r with
  | zero => simp [Code.readN, Code.textsL]
  | succ n ih =>
    rw [Code.readN] at h ⊢
    by_cases ht : (Code.textR each r).2.2 = 0
    · rw [if_neg (by simpa using ht)] at h ⊢
      obtain ⟨h1, h2⟩ := ih _ h
      refine ⟨by simp [h1], ?_⟩
      have h3 := Tm.text_ok each r ht
      simp only [Code.textsL, List.flatMap_cons, List.append_assoc]
      rw [show List.flatMap Code.textL (Code.readN n each (Code.textR each r).2.1).1 = Code.textsL (Code.readN n each (Code.textR each r).2.1).1 from rfl, ← h2]
      exact h3
    · rw [if_pos ht] at h
      exact absurd h ht
theorem Tm.list_ok (most each : Int) (s : List UInt8) (h : (Code.listR most each s).2.2 = 0) : s = Code.listL (Code.listR most each s).1 ++ (Code.listR most each s).2.1 ∧ ((Code.listR most each s).1.length : Int) ≤ most := by
  unfold Code.listR at h ⊢
  by_cases h1 : (Code.countL most s).2.2 = 0
  · rw [if_neg (by simpa using h1)] at h ⊢
    by_cases h2 : (Code.readN (Code.countL most s).1 each (Code.countL most s).2.1).2.2 = 0
    · rw [if_neg (by simpa using h2)] at h ⊢
      obtain ⟨h3, h4⟩ := Tm.readN_ok _ _ _ h2
      refine ⟨?_, ?_⟩
      · rw [Code.listL, h3, List.append_assoc, ← h4]
        exact Tm.count_ok most s h1
      · rw [h3]
        unfold Code.countL at h1 ⊢
        by_cases h5 : (Code.leadL s).2.2 = 0
        · rw [if_neg (by simpa using h5)] at h1 ⊢
          by_cases h6 : ((Code.leadL s).1 : Int) > most
          · rw [if_pos h6] at h1; cases h1
          · rw [if_neg h6]; dsimp only; omega
        · rw [if_pos h5] at h1; exact absurd h1 h5
    · rw [if_pos h2] at h
      exact absurd h h2
  · rw [if_pos h1] at h
    exact absurd h h1
end Go.Proofs.YtddjkiejekfekaaDoor
namespace Go.Proofs.YtddjkiejekfekaaDoor
open Go.RowKit
open Go.Proofs.YtddjkiejekfekaaDoor.Pw (M)

set_option maxRecDepth 8000 in
set_option maxHeartbeats 1000000 in
theorem check_any (L : List M) (v : Value) (w : World) (hv : Mems w v L) :
    Calls Tryd.prog 60 #[v] w fun e w' => e = .returned (.int .i64 (Pw.checkC L)) ∧ Below w.heap.size w w' := by
  have HV := Lib.hid hv
  obtain ⟨A, cap, rfl, -⟩ := hv
  obtain ⟨C, hC⟩ : ∃ C, Pw.checkC L = C := ⟨_, rfl⟩
  rw [hC]
  have HC := Lib.hid hC
  clear hC
  by_cases h0 : L.length = 0
  · obtain rfl : C = 50 := by rw [← HC.out]; simp [Pw.checkC, Pw.okL, h0]
    rw [h0]
    go_enter Tryd.func60, Tryd.ntmps60
    go_wp2
    go_ret
    exact ⟨rfl, Below.refl _ _⟩
  by_cases h7 : 7 < L.length
  · obtain rfl : C = 50 := by rw [← HC.out]; simp [Pw.checkC, Pw.okL]; intros; omega
    have h0' : ((L.length : Int) == 0) = false := by rw [beq_eq_false_iff_ne]; omega
    have h7' : (7 : Int) < (L.length : Int) := by omega
    go_enter Tryd.func60, Tryd.ntmps60
    go_wp2
    go_ret
    exact ⟨rfl, Below.refl _ _⟩
  have h0' : ((L.length : Int) == 0) = false := by rw [beq_eq_false_iff_ne]; omega
  have h7' : ¬ ((7 : Int) < (L.length : Int)) := by omega
  have HL : Hid (1 ≤ L.length ∧ L.length ≤ 7) := Lib.hid (by omega)
  clear h0 h7
  go_enter Tryd.func60, Tryd.ntmps60
  go_wp2
  go_loopw [3, 16] (fun s i wr => ∃ k : Nat, k ≤ L.length ∧ i = .int .i64 k ∧ s = .string ⟨(Pw.lastOf [] (L.take k)).toArray⟩ ∧ Pw.okFrom [] (L.take k) = true ∧ Below w.heap.size w wr) (fun _ i _ => L.length - (intOf i).toNat)
  case atStart => exact ⟨0, Nat.zero_le _, rfl, rfl, rfl, Below.refl _ _⟩
  case round =>
    obtain ⟨k, hk, rfl, rfl, hok, hb⟩ := hrel
    have HB := Lib.hid hb
    have HOK := Lib.hid hok
    clear hok hb
    by_cases hlt : k < L.length
    · have h1 : (k : Int) < (L.length : Int) := by omega
      have h0 : (0 : Int) ≤ (k : Int) := by omega
      obtain ⟨b, o, rfl, n0, n1⟩ := HV.out.at HB.out k hlt
      have HT := Lib.hid (Pw.okFrom_take L k hlt)
      have HBAD := Lib.hid (Pw.okFrom_bad L k hlt)
      have HLA := Lib.hid (Pw.lastOf_take L k hlt)
      obtain ⟨p, hp⟩ : ∃ p, Pw.lastOf [] (L.take k) = p := ⟨_, rfl⟩
      obtain ⟨⟨x, q⟩, hm⟩ : ∃ m, L[k] = m := ⟨_, rfl⟩
      rw [hp, hm] at HT HBAD
      rw [hp]
      rw [hm] at n0 n1 HLA
      clear hp hm
      dsimp only at n0 n1
      have HBN := Lib.hid (HB.out.alloc HB.out.size (.cells #[.string ⟨x.toArray⟩, .int .i64 q] 44))
      have HFAIL : Hid (Pw.okM p ⟨x, q⟩ = false → C = 50) := Lib.hid (fun h => by rw [← HC.out]; simp [Pw.checkC, Pw.okL, HBAD.out h])
      by_cases hA : p < x
      · have e1 : Op.bytesLess x p = false := by rw [less_lt]; simpa using List.le_of_lt hA
        have e2 : (x == p) = false := by rw [beq_eq_false_iff_ne]; rintro rfl; exact absurd hA (List.lt_irrefl _)
        have e2' : ¬ (x = p) := by rintro rfl; exact absurd hA (List.lt_irrefl _)
        have HA := Lib.hid hA
        clear hA
        by_cases h6 : 6 < x.length
        · obtain rfl : C = 50 := HFAIL.out (by simp [Pw.okM, HA.out]; omega)
          have h6' : (6 : Int) < (x.length : Int) := by omega
          go_wp2
          go_ret
          exact ⟨rfl, HBN.out⟩
        have h6' : ¬ ((6 : Int) < (x.length : Int)) := by omega
        by_cases hq1 : q < 1
        · obtain rfl : C = 50 := HFAIL.out (by simp [Pw.okM, HA.out]; omega)
          go_wp2
          go_ret
          exact ⟨rfl, HBN.out⟩
        by_cases hq2 : 1000 < q
        · obtain rfl : C = 50 := HFAIL.out (by simp [Pw.okM, HA.out]; omega)
          go_wp2
          go_ret
          exact ⟨rfl, HBN.out⟩
        have hM : Hid (Pw.okM p ⟨x, q⟩ = true) := Lib.hid (by simp [Pw.okM, HA.out]; omega)
        go_wp2
        refine ⟨⟨k + 1, by omega, by go_num, by rw [HLA.out], by rw [HT.out, HOK.out, hM.out]; rfl, HBN.out⟩, by simp [intOf]; omega⟩
      · obtain rfl : C = 50 := HFAIL.out (by simp [Pw.okM, hA])
        have hle : x ≤ p := List.not_lt.1 hA
        clear hA
        rcases List.le_iff_lt_or_eq.1 hle with hA | rfl
        · have e1 : Op.bytesLess x p = true := by rw [less_lt]; simpa using hA
          clear hA hle
          go_wp2
          go_ret
          exact ⟨rfl, HBN.out⟩
        · have e1 : Op.bytesLess x x = false := by rw [less_lt]; simp
          clear hle
          go_wp2
          go_ret
          exact ⟨rfl, HBN.out⟩
    · have h1 : ¬ ((k : Int) < (L.length : Int)) := by omega
      obtain rfl : k = L.length := by omega
      obtain rfl : C = 0 := by
        rw [← HC.out]
        have := HOK.out
        rw [List.take_length] at this
        have hL := HL.out
        simp [Pw.checkC, Pw.okL, this]
        omega
      go_wp2
      go_ret
      exact ⟨rfl, HB.out⟩
end Go.Proofs.YtddjkiejekfekaaDoor
namespace Go.Proofs.YtddjkiejekfekaaDoor
open Go.RowKit
open Go.Proofs.YtddjkiejekfekaaDoor.Pw (M)

theorem Pw.checkC_ok {L : List M} (h : Pw.okL L = true) : Pw.checkC L = 0 := by simp [Pw.checkC, h]
theorem Pw.checkC_bad {L : List M} (h : Pw.okL L = false) : Pw.checkC L = 50 := by simp [Pw.checkC, h]

end Go.Proofs.YtddjkiejekfekaaDoor
