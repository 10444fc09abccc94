/- The reader in memory: a block of two cells; what a store into it leaves; the world but for it; The walks of Read, Left, Code, End, lead, count, Num, Flag; The walks of lead (as a whole), count, Num; The walks of the reader's Bytes, Text, Flag; The walk of the reader's List: so many texts, by the reader's own method as a value; There and back, as plain functions: what was written is read. -/
import Derived.Test.YtbjfihbjfoaghaaDoorNibBase
import Derived.Test.YtbjfihbjfoaghaaDoorCodeMath
import Derived.Test.YtbjfihbjfoaghaaDoorOnly
import Derived.Test.YtbjfihbjfoaghaaDoorCodeShelf
import Derived.Test.YtbjfihbjfoaghaaDoorArgStrs
import Derived.OneCell
import Derived.Lib.Hide
import Derived.WalkSpells
import Derived.WalkLawsBesides
import Derived.Lib.Strings
namespace Go.Proofs.YtbjfihbjfoaghaaDoor
open Go.RowKit

def Rd (w : World) (g : Nat) (s : List UInt8) (c : Int) : Prop := w.heap[g]? = some (.cells #[.string ⟨s.toArray⟩, .int .i64 c] 67 (0, 0))
theorem Rd.lt {w : World} {g : Nat} {s : List UInt8} {c : Int} (h : Rd w g s c) : g < w.heap.size := lt_of_block h
theorem Rd.left {w : World} {g : Nat} {s : List UInt8} {c : Int} (h : Rd w g s c) : w.cell? ⟨g, 0, none⟩ = some (.string ⟨s.toArray⟩) := by unfold Rd at h; simp [World.cell?, h]
theorem Rd.code {w : World} {g : Nat} {s : List UInt8} {c : Int} (h : Rd w g s c) : w.cell? ⟨g, 1, none⟩ = some (.int .i64 c) := by unfold Rd at h; simp [World.cell?, h]
theorem Rd.free0 {w : World} {g : Nat} {s : List UInt8} {c : Int} (h : Rd w g s c) : w.frozen? ⟨g, 0, none⟩ = false := by unfold Rd at h; simp [World.frozen?, h]
theorem Rd.free1 {w : World} {g : Nat} {s : List UInt8} {c : Int} (h : Rd w g s c) : w.frozen? ⟨g, 1, none⟩ = false := by unfold Rd at h; simp [World.frozen?, h]
theorem Rd.setLeft {w : World} {g : Nat} {s : List UInt8} {c : Int} (h : Rd w g s c) (t : List UInt8) : Rd (w.setCell ⟨g, 0, none⟩ (.string ⟨t.toArray⟩)) g t c := by
  have hlt := h.lt
  unfold Rd at h
  have h' : w.heap[g] = .cells #[.string ⟨s.toArray⟩, .int .i64 c] 67 (0, 0) := by simpa [Array.getElem?_eq_getElem hlt] using h
  show (w.heap.modify g _)[g]? = _
  rw [Array.getElem?_eq_getElem (by simpa using hlt), Array.getElem_modify_self, h']
  rfl
theorem Rd.setCode {w : World} {g : Nat} {s : List UInt8} {c : Int} (h : Rd w g s c) (d : Int) : Rd (w.setCell ⟨g, 1, none⟩ (.int .i64 d)) g s d := by
  have hlt := h.lt
  unfold Rd at h
  have h' : w.heap[g] = .cells #[.string ⟨s.toArray⟩, .int .i64 c] 67 (0, 0) := by simpa [Array.getElem?_eq_getElem hlt] using h
  show (w.heap.modify g _)[g]? = _
  rw [Array.getElem?_eq_getElem (by simpa using hlt), Array.getElem_modify_self, h']
  rfl
theorem Rd.new (w : World) (s : List UInt8) (c : Int) : Rd (w.alloc (.cells #[.string ⟨s.toArray⟩, .int .i64 c] 67)) w.heap.size s c := heap_alloc_new w _

theorem Rd.below {w w' : World} {g : Nat} {s : List UInt8} {c : Int} (h : Rd w g s c) (hb : Below w.heap.size w w') : Rd w' g s c := (hb.block g h.lt).trans h

end Go.Proofs.YtbjfihbjfoaghaaDoor
namespace Go.Proofs.YtbjfihbjfoaghaaDoor
open Go.RowKit

theorem read_any (s : List UInt8) (w : World) :
    Calls Tryd.prog 40 #[.string ⟨s.toArray⟩] w fun e w' => e = .returned (.pointer (some ⟨w.heap.size, 0, none⟩)) ∧ Rd w' w.heap.size s 0 ∧ Below w.heap.size w w' := by
  go_enter Tryd.func40, Tryd.ntmps40
  go_wp2
  go_ret
  exact ⟨rfl, Rd.new w s 0, (Below.refl _ w).alloc (Nat.le_refl _) _⟩
theorem end_any (g : Nat) (w : World) (h : Rd w g [] 0) :
    Calls Tryd.prog 43 #[.pointer (some ⟨g, 0, none⟩)] w fun e w' => e = .returned (.int .i64 0) ∧ w' = w := by
  have h0 := h.code
  have h1 := h.left
  go_enter Tryd.func43, Tryd.ntmps43
  go_wp2
  go_ret
  exact ⟨rfl, rfl⟩

theorem i64_or_nat (a b : Nat) (ha : a < 9223372036854775808) (hb : b < 9223372036854775808) : bits .or .i64 (a : Int) (b : Int) = ((a ||| b : Nat) : Int) := by
  have hx : a ||| b < 2 ^ 63 := Nat.or_lt_two_pow (by omega) (by omega)
  show IntKind.i64.wrap ((BitVec.ofInt 64 (a : Int) ||| BitVec.ofInt 64 (b : Int)).toNat : Int) = _
  rw [BitVec.toNat_or, BitVec.ofInt_natCast, BitVec.toNat_ofNat, BitVec.ofInt_natCast, BitVec.toNat_ofNat, Nat.mod_eq_of_lt (by omega), Nat.mod_eq_of_lt (by omega)]
  simp only [IntKind.wrap, IntKind.bits, IntKind.signed]
  simp
  omega
theorem or_low (a b : Nat) (hb : b < 256) : a * 256 ||| b = a * 256 + b := by
  have := Nat.two_pow_add_eq_or_of_lt (i := 8) (b := b) (by omega) a
  rw [Nat.mul_comm] at this
  exact this.symm

set_option maxHeartbeats 400000 in
theorem lead_nil (w : World) : Calls Tryd.prog 72 #[.string ⟨#[]⟩] w fun e w' => e = .returned (.tuple #[.int .i64 0, .int .i64 0, .int .i64 20]) ∧ w' = w := by
  go_enter Tryd.func72, Tryd.ntmps72
  go_wp2
  go_ret3
  exact ⟨rfl, rfl⟩
set_option maxHeartbeats 400000 in
theorem lead_big (c : UInt8) (r : List UInt8) (w : World) (hc : c.toNat > 8) : Calls Tryd.prog 72 #[.string ⟨(c :: r).toArray⟩] w fun e w' => e = .returned (.tuple #[.int .i64 0, .int .i64 0, .int .i64 3]) ∧ w' = w := by
  have hh : ∀ h, (⟨(c :: r).toArray⟩ : ByteArray)[0]'h = c := fun _ => rfl
  have hcb := c.toNat_lt
  have hc1 : (c.toNat : Int) > 8 := by omega
  clear hc
  go_enter Tryd.func72, Tryd.ntmps72
  go_wp2
  go_ret3
  exact ⟨rfl, rfl⟩
set_option maxHeartbeats 400000 in
theorem lead_short (c : UInt8) (r : List UInt8) (w : World) (hc : c.toNat ≤ 8) (hr : r.length < c.toNat) (hl : r.length ≤ 100000000) : Calls Tryd.prog 72 #[.string ⟨(c :: r).toArray⟩] w fun e w' => e = .returned (.tuple #[.int .i64 0, .int .i64 0, .int .i64 20]) ∧ w' = w := by
  have hh : ∀ h, (⟨(c :: r).toArray⟩ : ByteArray)[0]'h = c := fun _ => rfl
  have hc1 : ¬ ((c.toNat : Int) > 8) := by omega
  have hc2 : (r.length : Int) < (c.toNat : Int) := by omega
  go_enter Tryd.func72, Tryd.ntmps72
  go_wp2
  go_ret3
  exact ⟨rfl, rfl⟩
set_option maxHeartbeats 400000 in
theorem lead_zero (r : List UInt8) (w : World) (hl : r.length ≤ 100000000) : Calls Tryd.prog 72 #[.string ⟨((0 : UInt8) :: r).toArray⟩] w fun e w' => e = .returned (.tuple #[.int .i64 0, .int .i64 1, .int .i64 0]) ∧ w' = w := by
  have hh : ∀ h, (⟨((0 : UInt8) :: r).toArray⟩ : ByteArray)[0]'h = 0 := fun _ => rfl
  go_enter Tryd.func72, Tryd.ntmps72
  go_wp2
  go_loop [2, 40] (fun n i => n = .int .i64 0 ∧ i = .int .i64 0) (fun _ _ => 0)
  case atStart => exact ⟨rfl, rfl⟩
  case round =>
    obtain ⟨rfl, rfl⟩ := hrel
    go_wp2
    go_ret3
    exact ⟨rfl, rfl⟩
theorem ext_head (c : UInt8) (d r2 : List UInt8) : (⟨(c :: (d ++ r2)).toArray⟩ : ByteArray).extract 1 (1 + d.length) = ⟨d.toArray⟩ := by
  rw [Lib.extract_eq]; simp
set_option maxHeartbeats 400000 in
theorem lead_bad (c x : UInt8) (d q r2 : List UInt8) (w : World) (hd : d = x :: q) (hc : c.toNat = d.length) (h8 : d.length ≤ 8) (hl : r2.length ≤ 100000000) (hb : x.toNat = 0 ∨ d.length = 8 ∧ 128 ≤ x.toNat) :
    Calls Tryd.prog 72 #[.string ⟨(c :: (d ++ r2)).toArray⟩] w fun e w' => e = .returned (.tuple #[.int .i64 0, .int .i64 0, .int .i64 3]) ∧ w' = w := by
  have hh : ∀ h, (⟨(c :: (d ++ r2)).toArray⟩ : ByteArray)[0]'h = c := fun _ => rfl
  have hx : ∀ h, (⟨d.toArray⟩ : ByteArray)[0]'h = x := by subst hd; exact fun _ => rfl
  have he := ext_head c d r2
  have hxb := x.toNat_lt
  have hpos : 0 < d.length := by subst hd; simp
  clear hd
  obtain ⟨s, hs⟩ : ∃ s, c :: (d ++ r2) = s := ⟨_, rfl⟩
  have hsl : s.length = d.length + 1 + r2.length := by rw [← hs]; simp; omega
  have hse : s.isEmpty = false := by rw [← hs]; rfl
  rw [hs] at hh he ⊢
  clear hs
  rcases hb with h0 | ⟨h80, h128⟩
  · go_enter Tryd.func72, Tryd.ntmps72
    go_wp2
    go_ret3
    exact ⟨rfl, rfl⟩
  · rw [h80] at he hc hsl
    have he9 : (⟨s.toArray⟩ : ByteArray).extract 1 9 = ⟨d.toArray⟩ := he
    have hd0 : ((x.toNat : Int) == 0) = false := by rw [beq_eq_false_iff_ne]; omega
    have hd1 : decide (128 ≤ (x.toNat : Int)) = true := decide_eq_true (by omega)
    clear he h8 hpos
    go_enter Tryd.func72, Tryd.ntmps72
    go_wp2
    go_ret3
    exact ⟨rfl, rfl⟩
theorem val_take_lt (d : List UInt8) (h8 : d.length ≤ 8) (h : d.length = 8 → (d.headD 0).toNat < 128) (j : Nat) : Code.val (d.take j) < 2 ^ 63 := by
  have e : (256 : Nat) ^ 7 = 2 ^ 56 := by decide
  by_cases hj : (d.take j).length ≤ 7
  · have := Code.val_lt (d.take j)
    have := Nat.pow_le_pow_right (n := 256) (by omega) hj
    omega
  · rw [List.length_take] at hj
    rw [List.take_of_length_le (by omega)]
    match d, h8, h, hj with
    | [], _, _, hj => simp at hj
    | x :: q, h8, h, hj =>
      simp only [List.length_cons] at h8 h hj
      have hx := h (by omega)
      simp at hx
      have ⟨_, g⟩ := Code.val_ge x q
      rw [show q.length = 7 by omega, e] at g
      omega
theorem val_step (d : List UInt8) (k : Nat) (h : k < d.length) : Code.val (d.take (k + 1)) = Code.val (d.take k) * 256 + d[k].toNat := by
  rw [List.take_succ_eq_append_getElem h, Code.val_append]
theorem or_int (a b : Nat) (ha : a * 256 + b < 9223372036854775808) (hb : b < 256) : bits .or .i64 ((a : Int) * 256) (b : Int) = ((a * 256 + b : Nat) : Int) := by
  have h1 : a * 256 < 9223372036854775808 := Nat.lt_of_le_of_lt (Nat.le_add_right _ _) ha
  have h2 : b < 9223372036854775808 := Nat.lt_trans hb (by decide)
  have h3 := i64_or_nat (a * 256) b h1 h2
  rw [or_low a b hb, Int.natCast_mul] at h3
  exact h3
set_option maxHeartbeats 1000000 in
theorem lead_good (c x : UInt8) (d q r2 : List UInt8) (w : World) (hd : d = x :: q) (hc : c.toNat = d.length) (h8 : d.length ≤ 8) (hl : r2.length ≤ 100000000) (h0 : x.toNat ≠ 0) (hb : d.length = 8 → x.toNat < 128) :
    Calls Tryd.prog 72 #[.string ⟨(c :: (d ++ r2)).toArray⟩] w fun e w' => e = .returned (.tuple #[.int .i64 (Code.val d : Nat), .int .i64 (1 + d.length : Nat), .int .i64 0]) ∧ w' = w := by
  have hh : ∀ h, (⟨(c :: (d ++ r2)).toArray⟩ : ByteArray)[0]'h = c := fun _ => rfl
  have hx : ∀ h, (⟨d.toArray⟩ : ByteArray)[0]'h = x := by subst hd; exact fun _ => rfl
  have he := ext_head c d r2
  have hxb := x.toNat_lt
  have hvl := val_take_lt d h8 (by subst hd; exact hb)
  have hpos : 0 < d.length := by subst hd; simp
  clear hd
  obtain ⟨s, hs⟩ : ∃ s, c :: (d ++ r2) = s := ⟨_, rfl⟩
  have hsl : s.length = d.length + 1 + r2.length := by rw [← hs]; simp; omega
  have hse : s.isEmpty = false := by rw [← hs]; rfl
  rw [hs] at hh he ⊢
  clear hs
  have hvl' : ∀ j, Code.val (d.take j) < 2 ^ 63 := hvl
  clear hvl
  rcases Nat.lt_or_ge d.length 8 with h7 | h7
  · have hd0 : ((x.toNat : Int) == 0) = false := by rw [beq_eq_false_iff_ne]; omega
    clear hb
    go_enter Tryd.func72, Tryd.ntmps72
    go_wp2
    go_loop [2, 40] (fun n i => ∃ k : Nat, k ≤ d.length ∧ n = .int .i64 (Code.val (d.take k) : Nat) ∧ i = .int .i64 k) (fun _ i => d.length - (intOf i).toNat)
    case atStart => exact ⟨0, Nat.zero_le _, rfl, rfl⟩
    case round =>
      obtain ⟨k, hk, rfl, rfl⟩ := hrel
      by_cases hlt : k < d.length
      · have h1 : (k : Int) < (d.length : Int) := by omega
        have hst := val_step d k hlt
        have hvk := hvl' (k + 1)
        rw [hst] at hvk
        have hst' := Lib.hid hst
        have hi : ∀ h, (⟨d.toArray⟩ : ByteArray)[k]'h = d[k] := fun _ => rfl
        have hdk := d[k].toNat_lt
        obtain ⟨V, hV⟩ : ∃ V, Code.val (d.take k) = V := ⟨_, rfl⟩
        rw [hV] at hst' hvk ⊢
        clear hst hV
        have hor : bits .or .i64 ((V : Int) * 256) (d[k].toNat : Int) = ((V * 256 + d[k].toNat : Nat) : Int) := or_int V d[k].toNat (by omega) (by omega)
        go_wp2
        go_round
        case rel => exact ⟨k + 1, by omega, by rw [hst'.out]; simp, by go_num⟩
        case measure => simp [intOf]; omega
      · go_wp2
        go_ret3
        have e : k = d.length := by omega
        subst e
        rw [List.take_length]
        exact ⟨by simp, rfl⟩
  · have hb2 := hb (by omega)
    have h88 : d.length = 8 := by omega
    rw [h88] at he hc hsl
    have he9 : (⟨s.toArray⟩ : ByteArray).extract 1 9 = ⟨d.toArray⟩ := he
    have hd0 : ((x.toNat : Int) == 0) = false := by rw [beq_eq_false_iff_ne]; omega
    have hd1 : decide (128 ≤ (x.toNat : Int)) = false := decide_eq_false (by omega)
    clear hb he h8 hpos h7
    go_enter Tryd.func72, Tryd.ntmps72
    go_wp2
    go_loop [2, 40] (fun n i => ∃ k : Nat, k ≤ d.length ∧ n = .int .i64 (Code.val (d.take k) : Nat) ∧ i = .int .i64 k) (fun _ i => d.length - (intOf i).toNat)
    case atStart => exact ⟨0, Nat.zero_le _, rfl, rfl⟩
    case round =>
      obtain ⟨k, hk, rfl, rfl⟩ := hrel
      by_cases hlt : k < d.length
      · have h1 : (k : Int) < (d.length : Int) := by omega
        have hst := val_step d k hlt
        have hvk := hvl' (k + 1)
        rw [hst] at hvk
        have hst' := Lib.hid hst
        have hi : ∀ h, (⟨d.toArray⟩ : ByteArray)[k]'h = d[k] := fun _ => rfl
        have hdk := d[k].toNat_lt
        obtain ⟨V, hV⟩ : ∃ V, Code.val (d.take k) = V := ⟨_, rfl⟩
        rw [hV] at hst' hvk ⊢
        clear hst hV
        have hor : bits .or .i64 ((V : Int) * 256) (d[k].toNat : Int) = ((V * 256 + d[k].toNat : Nat) : Int) := or_int V d[k].toNat (by omega) (by omega)
        go_wp2
        go_round
        case rel => exact ⟨k + 1, by omega, by rw [hst'.out]; simp, by go_num⟩
        case measure => simp [intOf]; omega
      · go_wp2
        go_ret3
        have e : k = d.length := by omega
        subst e
        rw [List.take_length]
        exact ⟨by simp, rfl⟩

end Go.Proofs.YtbjfihbjfoaghaaDoor
namespace Go.Proofs.YtbjfihbjfoaghaaDoor
open Go.RowKit

theorem lead_any (s : List UInt8) (w : World) (hl : s.length ≤ 100000000) :
    Calls Tryd.prog 72 #[.string ⟨s.toArray⟩] w fun e w' => e = .returned (.tuple #[.int .i64 ((Code.leadL s).1 : Nat), .int .i64 ((Code.leadL s).2.1 : Nat), .int .i64 (Code.leadL s).2.2]) ∧ w' = w := by
  match s, hl with
  | [], _ => exact lead_nil w
  | c :: r, hl =>
    simp only [List.length_cons] at hl
    by_cases h1 : c.toNat > 8
    · rw [Code.leadL, if_pos h1]
      exact lead_big c r w h1
    · by_cases h2 : r.length < c.toNat
      · rw [Code.leadL, if_neg h1, if_pos h2]
        exact lead_short c r w (by omega) h2 (by omega)
      · have hr : r = r.take c.toNat ++ r.drop c.toNat := (List.take_append_drop _ _).symm
        have hdl : (r.take c.toNat).length = c.toNat := by rw [List.length_take]; omega
        have hd2 : (r.drop c.toNat).length ≤ 100000000 := by rw [List.length_drop]; omega
        rw [Code.leadL, if_neg h1, if_neg h2]
        by_cases h0 : c.toNat = 0
        · have hb : Code.bad c.toNat (r.take c.toNat) = false := by simp [Code.bad, h0]
          have hc0 : c = 0 := by
            have := UInt8.ofNat_toNat (x := c)
            rw [h0] at this
            exact this.symm
          subst hc0
          rw [hb]
          exact lead_zero r w (by omega)
        · match hd : r.take c.toNat with
          | [] => rw [hd] at hdl; simp at hdl; omega
          | x :: q =>
            rw [hd] at hr hdl
            rcases hb : Code.bad c.toNat (x :: q) with _ | _
            · simp only [Code.bad, List.headD_cons, Bool.or_eq_false_iff, Bool.and_eq_false_iff, decide_eq_false_iff_not, beq_eq_false_iff_ne] at hb
              have h := lead_good c x (x :: q) q (r.drop c.toNat) w rfl hdl.symm (by omega) hd2 (by rcases hb.1 with a | a; omega; exact a) (fun h8 => by rcases hb.2 with a | a; omega; exact Nat.not_le.1 (of_decide_eq_false a))
              rw [← hr, hdl] at h
              exact h
            · simp only [Code.bad, List.headD_cons, Bool.or_eq_true, Bool.and_eq_true, decide_eq_true_eq, beq_iff_eq] at hb
              have h := lead_bad c x (x :: q) q (r.drop c.toNat) w rfl hdl.symm (by omega) hd2 (by rcases hb with a | a; exact .inl a.2; exact .inr ⟨by omega, of_decide_eq_true a.2⟩)
              rw [← hr] at h
              exact h

def Code.countL (most : Int) (s : List UInt8) : Nat × List UInt8 × Int :=
  if (Code.leadL s).2.2 ≠ 0 then (0, s, (Code.leadL s).2.2) else if ((Code.leadL s).1 : Int) > most then (0, s, 2) else ((Code.leadL s).1, s.drop (Code.leadL s).2.1, 0)
theorem Code.lead_range (s : List UInt8) : (Code.leadL s).1 < 2 ^ 63 ∧ (Code.leadL s).2.1 ≤ s.length := by
  by_cases h : (Code.leadL s).2.2 = 0
  · have := Code.lead_ok s h
    exact ⟨this.1, this.2.1⟩
  · match s with
    | [] => simp [Code.leadL]
    | c :: r =>
      simp only [Code.leadL] at h ⊢
      split <;> (try (simp; done))
      split <;> (try (simp; done))
      split <;> (try (simp; done))
      simp_all

set_option maxHeartbeats 400000 in
theorem count_stuck (most : Int) (s : List UInt8) (c : Int) (g : Nat) (w : World) (h : Rd w g s c) (hc : c ≠ 0) :
    Calls Tryd.prog 53 #[.pointer (some ⟨g, 0, none⟩), .int .i64 most] w fun e w' => e = .returned (.int .i64 0) ∧ w' = w := by
  have h1 := h.code
  go_enter Tryd.func53, Tryd.ntmps53
  go_wp2
  go_ret
  exact ⟨rfl, rfl⟩

set_option maxHeartbeats 400000 in
theorem count_any (most : Int) (s : List UInt8) (g : Nat) (w : World) (h : Rd w g s 0) (hl : s.length ≤ 100000000) :
    Calls Tryd.prog 53 #[.pointer (some ⟨g, 0, none⟩), .int .i64 most] w fun e w' => e = .returned (.int .i64 ((Code.countL most s).1 : Nat)) ∧ Rd w' g (Code.countL most s).2.1 (Code.countL most s).2.2 ∧ Only g w w' := by
  have h0 := h.left
  have h1 := h.code
  have hf0 := h.free0
  have hf1 := h.free1
  obtain ⟨hn, hk⟩ := Code.lead_range s
  have hlead := Lib.hid (lead_any s w hl)
  have he := ext_drop s (Code.leadL s).2.1
  unfold Code.countL
  generalize (Code.leadL s) = p at hn hk hlead he ⊢
  obtain ⟨n, k, e⟩ := p
  simp only at hn hk hlead he ⊢
  by_cases h2 : e = 0
  · subst h2
    rw [if_neg (by simp)]
    by_cases h3 : (n : Int) > most
    · rw [if_pos h3]
      go_enter Tryd.func53, Tryd.ntmps53
      go_wp2_with fail
      refine hlead.out.mono ?_
      rintro e w1 ⟨rfl, rfl⟩
      go_wp2
      go_ret
      exact ⟨rfl, h.setCode 2, (Only.refl g _).setCell rfl _⟩
    · rw [if_neg h3]
      go_enter Tryd.func53, Tryd.ntmps53
      go_wp2_with fail
      refine hlead.out.mono ?_
      rintro e w1 ⟨rfl, rfl⟩
      go_wp2
      go_ret
      exact ⟨rfl, h.setLeft _, (Only.refl g _).setCell rfl _⟩
  · rw [if_pos h2]
    go_enter Tryd.func53, Tryd.ntmps53
    go_wp2_with fail
    refine hlead.out.mono ?_
    rintro e w1 ⟨rfl, rfl⟩
    go_wp2
    go_ret
    exact ⟨rfl, h.setCode _, (Only.refl g _).setCell rfl _⟩

theorem rnum_any (s : List UInt8) (g : Nat) (w : World) (h : Rd w g s 0) (hl : s.length ≤ 100000000) :
    Calls Tryd.prog 41 #[.pointer (some ⟨g, 0, none⟩)] w fun e w' => e = .returned (.int .i64 ((Code.countL 9223372036854775807 s).1 : Nat)) ∧ Rd w' g (Code.countL 9223372036854775807 s).2.1 (Code.countL 9223372036854775807 s).2.2 ∧ Only g w w' := by
  go_enter Tryd.func41, Tryd.ntmps41
  go_wp2_with fail
  refine (count_any 9223372036854775807 s g w h hl).mono ?_
  rintro e w1 ⟨rfl, h1, h2⟩
  go_wp2
  go_ret
  exact ⟨rfl, h1, h2⟩

end Go.Proofs.YtbjfihbjfoaghaaDoor
namespace Go.Proofs.YtbjfihbjfoaghaaDoor
open Go.RowKit

theorem clone_any (s : List UInt8) (w : World) (hl : s.length ≤ 100000000) :
    Calls Tryd.prog 33 #[.string ⟨s.toArray⟩] w fun e w' => e = .returned (.string ⟨s.toArray⟩) ∧ Below w.heap.size w w' := by
  go_enter Tryd.func33, Tryd.ntmps33
  go_wp2_with fail
  refine (shelf_clone ⟨s.toArray⟩ w (by rw [size_of_list]; omega)).mono ?_
  rintro e w1 ⟨rfl, hb⟩
  go_wp2
  go_ret
  exact ⟨rfl, hb⟩

def Code.bytesR (n : Int) (s : List UInt8) : List UInt8 × List UInt8 × Int :=
  if n < 0 then ([], s, 1) else if n.toNat > s.length then ([], s, 20) else (s.take n.toNat, s.drop n.toNat, 0)
def Code.textR (most : Int) (s : List UInt8) : List UInt8 × List UInt8 × Int :=
  if (Code.countL most s).2.2 ≠ 0 then ([], s, (Code.countL most s).2.2) else
  if (Code.countL most s).1 > (Code.countL most s).2.1.length then ([], s, 20) else
  ((Code.countL most s).2.1.take (Code.countL most s).1, (Code.countL most s).2.1.drop (Code.countL most s).1, 0)
theorem ext_take (s : List UInt8) (k : Nat) : (⟨s.toArray⟩ : ByteArray).extract 0 k = ⟨(s.take k).toArray⟩ := by
  rw [Lib.extract_eq]
  simp only [List.drop_zero, Nat.sub_zero]

set_option maxHeartbeats 400000 in
theorem bytes_stuck (n : Int) (s : List UInt8) (c : Int) (g : Nat) (w : World) (h : Rd w g s c) (hc : c ≠ 0) :
    Calls Tryd.prog 54 #[.pointer (some ⟨g, 0, none⟩), .int .i64 n] w fun e w' => e = .returned (.string ⟨#[]⟩) ∧ w' = w := by
  have h1 := h.code
  have hc1 : (c != 0) = true := by rw [bne_iff_ne]; exact hc
  clear hc
  go_enter Tryd.func54, Tryd.ntmps54
  go_wp2
  go_ret
  exact ⟨rfl, rfl⟩
set_option maxHeartbeats 400000 in
theorem bytes_any (n : Int) (s : List UInt8) (g : Nat) (w : World) (h : Rd w g s 0) (hl : s.length ≤ 100000000) :
    Calls Tryd.prog 54 #[.pointer (some ⟨g, 0, none⟩), .int .i64 n] w fun e w' => e = .returned (.string ⟨(Code.bytesR n s).1.toArray⟩) ∧ Rd w' g (Code.bytesR n s).2.1 (Code.bytesR n s).2.2 ∧ Only g w w' := by
  have h0 := h.left
  have h1 := h.code
  have hf1 := h.free1
  unfold Code.bytesR
  by_cases hn : n < 0
  · rw [if_pos hn]
    go_enter Tryd.func54, Tryd.ntmps54
    go_wp2
    go_ret
    exact ⟨rfl, h.setCode 1, (Only.refl g _).setCell rfl _⟩
  · rw [if_neg hn]
    obtain ⟨k, rfl⟩ := Int.eq_ofNat_of_zero_le (by omega : 0 ≤ n)
    simp only [Int.toNat_natCast]
    by_cases hk : k > s.length
    · rw [if_pos hk]
      have hk1 : (k : Int) > (s.length : Int) := by omega
      have hk0 : ((k : Int) < 0) = False := by simp
      go_enter Tryd.func54, Tryd.ntmps54
      go_wp2
      go_ret
      exact ⟨rfl, h.setCode 20, (Only.refl g _).setCell rfl _⟩
    · rw [if_neg hk]
      have hk1 : ¬ ((k : Int) > (s.length : Int)) := by omega
      have hk0 : ((k : Int) < 0) = False := by simp
      have he1 := ext_take s k
      have he2 := ext_drop s k
      go_enter Tryd.func54, Tryd.ntmps54
      go_wp2_with fail
      refine (clone_any (s.take k) w (by rw [List.length_take]; omega)).mono ?_
      rintro e w1 ⟨rfl, hb⟩
      have hr := h.below hb
      have g0 := hr.left
      have gf := hr.free0
      go_wp2
      go_ret
      exact ⟨rfl, hr.setLeft _, Only.setCell (g := g) (Only.of hb) rfl _⟩

theorem count_rest (most : Int) (s : List UInt8) : (Code.countL most s).2.1.length ≤ s.length := by
  unfold Code.countL
  split
  · exact Nat.le_refl _
  · split
    · exact Nat.le_refl _
    · simp only [List.length_drop]; omega

set_option maxHeartbeats 400000 in
theorem rtext_any (most : Int) (s : List UInt8) (g : Nat) (w : World) (h : Rd w g s 0) (hl : s.length ≤ 100000000) :
    Calls Tryd.prog 42 #[.pointer (some ⟨g, 0, none⟩), .int .i64 most] w fun e w' => e = .returned (.string ⟨(Code.textR most s).1.toArray⟩) ∧ Rd w' g (Code.textR most s).2.1 (Code.textR most s).2.2 ∧ Only g w w' := by
  have h0 := h.left
  have hcl := count_rest most s
  unfold Code.textR
  have hcount := Lib.hid (count_any most s g w h hl)
  generalize Code.countL most s = p at hcount hcl ⊢
  obtain ⟨n, r, e⟩ := p
  simp only at hcount hcl ⊢
  by_cases he : e = 0
  · subst he
    rw [if_neg (by simp)]
    go_enter Tryd.func42, Tryd.ntmps42
    go_wp2_with fail
    refine hcount.out.mono ?_
    rintro e w1 ⟨rfl, hr1, ho1⟩
    go_wp2_with fail
    refine (bytes_any n r g w1 hr1 (by omega)).mono ?_
    rintro e w2 ⟨rfl, hr2, ho2⟩
    have ho := ho1.trans ho2
    clear ho1 ho2 h0
    unfold Code.bytesR at hr2 ⊢
    have hn0 : ¬ ((n : Int) < 0) := by omega
    rw [if_neg hn0] at hr2 ⊢
    simp only [Int.toNat_natCast] at hr2 ⊢
    by_cases hk : n > r.length
    · rw [if_pos hk] at hr2 ⊢
      simp only at hr2 ⊢
      have h1 := hr2.code
      have h2 := hr2.left
      have hf := hr2.free0
      go_wp2
      go_ret
      exact ⟨rfl, hr2.setLeft s, ho.setCell rfl _⟩
    · rw [if_neg hk] at hr2 ⊢
      simp only at hr2 ⊢
      have h1 := hr2.code
      go_wp2
      go_ret
      exact ⟨rfl, hr2, ho⟩
  · rw [if_pos he]
    have he1 : (e != 0) = true := by rw [bne_iff_ne]; exact he
    go_enter Tryd.func42, Tryd.ntmps42
    go_wp2_with fail
    refine hcount.out.mono ?_
    rintro e w1 ⟨rfl, hr1, ho1⟩
    go_wp2_with fail
    refine (bytes_stuck n r _ g w1 hr1 he).mono ?_
    rintro e w2 ⟨rfl, rfl⟩
    have h1 := hr1.code
    have h2 := hr1.left
    have hf := hr1.free0
    clear h0
    go_wp2
    go_ret
    exact ⟨rfl, hr1.setLeft s, ho1.setCell rfl _⟩

def Code.flagR : List UInt8 → Bool × List UInt8 × Int
  | [] => (false, [], 20)
  | c :: r => if c.toNat > 1 then (false, c :: r, 3) else (c.toNat == 1, r, 0)
end Go.Proofs.YtbjfihbjfoaghaaDoor
namespace Go.Proofs.YtbjfihbjfoaghaaDoor
open Go.RowKit

def cellsStr (L : List (List UInt8)) : List Value := L.map fun s => .string ⟨s.toArray⟩
theorem Tryd.infoString : (Tryd.prog.info? 9).map (fun i => (i.zero, i.size, i.bytes)) = some (some (.string ⟨#[]⟩), 1, 16) := by kernel_rfl
theorem strs_of_own {w : World} {B : Nat} {v : Value} {L : List (List UInt8)} (h : w.ownsRow B 9 1 v L.length (cellsStr L)) : Strs w v L := by
  rcases h.2 with ⟨rfl, h0⟩ | ⟨g, cap, cur, rfl, _⟩
  · obtain rfl : L = [] := List.eq_nil_of_length_eq_zero h0
    exact Strs.nil w
  · refine ⟨some ⟨g, 0, none⟩, cap, rfl, fun i hi => ⟨_, rfl, ?_⟩⟩
    exact h.cells (g := g) rfl i _ (by simp [cellsStr, hi])
theorem owns_only {w w' : World} {B g : Nat} {e : TypeId} {size : Nat} {v : Value} {n : Nat} {xs : List Value} (h : w.ownsRow B e size v n xs) (ho : Only g w w') (hg : g < B) : w'.ownsRow B e size v n xs := by
  obtain ⟨h1, h2⟩ := h
  refine ⟨h1, ?_⟩
  rcases h2 with h2 | ⟨b, cap, cur, hv, hb, hh, r⟩
  · exact Or.inl h2
  · exact Or.inr ⟨b, cap, cur, hv, hb, (ho.block b (lt_of_block hh) (by omega)).trans hh, r⟩
theorem Only.then {g : Nat} {a b c : World} (h : Only g a b) (k : Below a.heap.size b c) : Only g a c :=
  ⟨k.os.trans h.os, k.tape.trans h.tape, k.output.trans h.output, Nat.le_trans h.size k.size, fun i hi hg => (k.block i hi).trans (h.block i hi hg)⟩
theorem Rd.belowB {w w' : World} {B g : Nat} {s : List UInt8} {c : Int} (h : Rd w g s c) (hb : Below B w w') (hg : g < B) : Rd w' g s c := (hb.block g hg).trans h

def Code.readN : Nat → Int → List UInt8 → List (List UInt8) × List UInt8 × Int
  | 0, _, r => ([], r, 0)
  | n + 1, each, r => if (Code.textR each r).2.2 ≠ 0 then ([], r, (Code.textR each r).2.2) else
      ((Code.textR each r).1 :: (Code.readN n each (Code.textR each r).2.1).1, (Code.readN n each (Code.textR each r).2.1).2.1, (Code.readN n each (Code.textR each r).2.1).2.2)
def Code.listR (most each : Int) (s : List UInt8) : List (List UInt8) × List UInt8 × Int :=
  if (Code.countL most s).2.2 ≠ 0 then ([], s, (Code.countL most s).2.2) else
  if (Code.readN (Code.countL most s).1 each (Code.countL most s).2.1).2.2 ≠ 0 then ([], s, (Code.readN (Code.countL most s).1 each (Code.countL most s).2.1).2.2) else
  Code.readN (Code.countL most s).1 each (Code.countL most s).2.1
theorem Code.text_less (each : Int) (r : List UInt8) (h : (Code.textR each r).2.2 = 0) : (Code.textR each r).2.1.length + 1 ≤ r.length := by
  unfold Code.textR at h ⊢
  split at h
  · rename_i h1; exact absurd h h1
  · rename_i h1
    rw [if_neg h1]
    split at h
    · simp at h
    · rename_i h2
      rw [if_neg h2]
      have h3 : (Code.countL each r).2.1.length + 1 ≤ r.length := by
        unfold Code.countL at h1 ⊢
        split at h1
        · rename_i h4; exact absurd h4 h1
        · rename_i h4
          rw [if_neg h4]
          split at h1
          · simp at h1
          · rename_i h5
            rw [if_neg h5]
            have h6 := Code.lead_ok r (by omega)
            simp only [List.length_drop]
            have h7 := congrArg List.length h6.2.2
            rw [List.length_take, Code.numL_length] at h7
            omega
      simp only [List.length_drop]
      omega

end Go.Proofs.YtbjfihbjfoaghaaDoor
namespace Go.Proofs.YtbjfihbjfoaghaaDoor.Code

theorem count_num (most : Int) (n : Nat) (r : List UInt8) (h : n < 2 ^ 63) (hm : (n : Int) ≤ most) : countL most (numL n ++ r) = (n, r, 0) := by
  have e := lead_num n h r
  have hd : (numL n ++ r).drop (1 + sz n) = r := by
    rw [← numL_length, List.drop_left]
  unfold countL
  rw [e]
  simp only [ne_eq, not_true_eq_false, if_false]
  rw [if_neg (by omega), hd]
theorem text_text (most : Int) (t r : List UInt8) (h : t.length < 2 ^ 63) (hm : (t.length : Int) ≤ most) : textR most (textL t ++ r) = (t, r, 0) := by
  have e := count_num most t.length (t ++ r) h hm
  unfold textR textL
  rw [List.append_assoc, e]
  simp
theorem read_texts (each : Int) (L : List (List UInt8)) (r : List UInt8) (h : ∀ t ∈ L, t.length < 2 ^ 63 ∧ (t.length : Int) ≤ each) : readN L.length each (textsL L ++ r) = (L, r, 0) := by
  induction L with
  | nil => simp [readN, textsL]
  | cons t L ih =>
    have e : textsL (t :: L) ++ r = textL t ++ (textsL L ++ r) := by simp [textsL]
    have h1 := h t (List.mem_cons_self ..)
    have h2 := ih (fun x hx => h x (List.mem_cons_of_mem _ hx))
    rw [e, List.length_cons, readN, text_text each t _ h1.1 h1.2]
    simp [h2]
theorem list_list (most each : Int) (L : List (List UInt8)) (r : List UInt8) (hl : L.length < 2 ^ 63) (hm : (L.length : Int) ≤ most) (h : ∀ t ∈ L, t.length < 2 ^ 63 ∧ (t.length : Int) ≤ each) : listR most each (listL L ++ r) = (L, r, 0) := by
  have e := count_num most L.length (textsL L ++ r) hl hm
  unfold listR listL
  rw [List.append_assoc, e]
  simp only
  rw [read_texts each L r h]
  simp
theorem list_inj (most each : Int) (A B : List (List UInt8)) (ha : A.length < 2 ^ 63) (hb : B.length < 2 ^ 63) (ham : (A.length : Int) ≤ most) (hbm : (B.length : Int) ≤ most)
    (h1 : ∀ t ∈ A, t.length < 2 ^ 63 ∧ (t.length : Int) ≤ each) (h2 : ∀ t ∈ B, t.length < 2 ^ 63 ∧ (t.length : Int) ≤ each) : listL A = listL B ↔ A = B := by
  constructor
  · intro h
    have e1 := list_list most each A [] ha ham h1
    have e2 := list_list most each B [] hb hbm h2
    rw [h, e2] at e1
    simp at e1
    exact e1.symm
  · intro h; rw [h]
theorem flag_flag (b : Bool) (r : List UInt8) : flagR ([if b then 1 else 0] ++ r) = (b, r, 0) := by
  cases b <;> rfl
theorem list_bound (L : List (List UInt8)) (n e : Nat) (hn : L.length ≤ n) (he : e < 2 ^ 60) (h : ∀ s ∈ L, s.length ≤ e) (hn2 : n < 2 ^ 60) : (listL L).length ≤ 9 + n * (e + 9) := by
  have h1 := texts_bound L e he h
  have h2 := numL_length L.length
  have h3 := sz_le8 L.length (by omega)
  have h4 := Nat.mul_le_mul_right (e + 9) hn
  rw [listL, List.length_append]
  omega

end Go.Proofs.YtbjfihbjfoaghaaDoor.Code
