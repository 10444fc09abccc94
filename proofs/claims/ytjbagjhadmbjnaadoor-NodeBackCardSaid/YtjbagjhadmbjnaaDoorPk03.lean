/- CodeText, CodeThere, JoinShelf, NodeEnc, NodeEncode -/
import Derived.Test.YtjbagjhadmbjnaaDoorPk01
import Derived.Test.YtjbagjhadmbjnaaDoorPk02
import Derived.Lib.Hide
import Derived.WalkSpells
import Derived.WalkLawsBesides
import Derived.Deep.RegionLaw
import Derived.Deep.AppendLies
import Derived.Lib.AppendStr
import Derived.OneCell
import Derived.Lib.Strings
import Derived.Shelf.Strings.Builder1
import Derived.Shelf.Strings.Builder2
import Derived.Shelf.Strings.OnBuilder
import Derived.Test.YtjbagjhadmbjnaaDoorChecked
import Derived.Deep.RegionWith
namespace Go.Proofs.YtjbagjhadmbjnaaDoor
open Go.RowKit

theorem bitLenAux_eq (f n : Nat) (h : n < 2 ^ f) : Lib.bitLenAux f n = Code.lenN n := by
  induction f generalizing n with
  | zero => simp at h; subst h; rfl
  | succ f ih =>
    simp only [Lib.bitLenAux]
    by_cases h0 : n = 0
    · simp [h0, Code.lenN]
    · rw [if_neg h0, ih (n / 2) (by rw [Nat.pow_succ] at h; omega)]
      by_cases h1 : 2 ≤ n
      · rw [Code.len_shift n 1 (by simpa using h1)]
      · have e : n = 1 := by omega
        subst e
        decide
theorem len64_any (n : Nat) (w : World) (hn : n < 2 ^ 63) :
    Calls Tryd.prog 72 #[.int .u64 (n : Int)] w fun e w' => e = .returned (.int .i64 (Code.lenN n : Nat)) ∧ w' = w := by
  have h := shelf_len64 (n : Int) w (by omega) (by omega)
  rw [Int.toNat_natCast, Lib.bitLen, bitLenAux_eq 64 n (by omega)] at h
  exact h

end Go.Proofs.YtjbagjhadmbjnaaDoor
namespace Go.Proofs.YtjbagjhadmbjnaaDoor
open Go.RowKit

theorem shr_byte (n k j : Nat) : (n : Int) / 2 ^ (8 * (k - 1 - j)) % 256 = ((UInt8.ofNat (n / 256 ^ (k - 1 - j) % 256)).toNat : Nat) := by
  have e : (2 : Nat) ^ (8 * (k - 1 - j)) = 256 ^ (k - 1 - j) := by rw [Nat.pow_mul]
  have e2 : (2 : Int) ^ (8 * (k - 1 - j)) = ((256 ^ (k - 1 - j) : Nat) : Int) := by rw [← e]; simp
  rw [Code.ofNat_toNat _ (by omega), e2]
  simp

set_option maxHeartbeats 400000 in
theorem addNum_any (n : Nat) (hn : n < 2 ^ 63) (B : Nat) (v : Value) (xs : List UInt8) (w : World) (hB : B ≤ w.heap.size) (hx : xs.length ≤ 100000000)
    (hown : w.ownsRow B 5 1 v xs.length (cellsL xs)) :
    Calls Tryd.prog 58 #[v, .int .i64 n] w fun e w' => ∃ v', e = .returned v' ∧ w'.ownsRow B 5 1 v' (xs ++ Code.numL n).length (cellsL (xs ++ Code.numL n)) ∧ Below B w w' := by
  obtain ⟨i0, hi, hz0, hz1, hz2⟩ := info_parts Tryd.infoByte
  obtain ⟨L, hL⟩ : ∃ L, Code.lenN n = L := ⟨_, rfl⟩
  have hs := Code.len_sz n
  have h8 := Code.sz_le8 n (by omega)
  obtain ⟨k, hk⟩ : ∃ k, Code.sz n = k := ⟨_, rfl⟩
  rw [hL, hk] at hs
  have hL8 : L ≤ 64 := by omega
  have hsi : ((L : Int) + 7) / 8 = (k : Int) := by omega
  clear hs
  rw [hk] at h8
  have HL := Lib.hid hL
  have HK := Lib.hid hk
  clear hL hk
  go_enter Tryd.func58, Tryd.ntmps58
  go_wp2_with fail
  refine (len64_any n w hn).mono ?_
  rintro e w1 ⟨rfl, rfl⟩
  rw [HL.out]
  go_wp2_with ((at_builtin; refine wpList_append_own _ rfl _ _ 40 rfl B 5 i0 (.int .u8 0) 1 1 Tryd.underlying40 hi hz0 hz1 hz2 rfl (by decide) v xs.length (cellsL xs) rfl (hown.alloc _) ⟨w1.heap.size, 0, none⟩ 1 1 [.int .u8 (k : Int)] rfl rfl ?c1 ?c2 ?c3 ?c4 ?c5 ?_))
  case c1 => exact cell_one_new _ _ _
  case c2 => simp [Value.oneCell']
  case c3 => unfold maxLen; omega
  case c4 => omega
  case c5 => simp; omega
  intro v1 w2 hown1 hgrow1 _
  have hrow1 : w2.ownsRow B 5 1 v1 (xs ++ [UInt8.ofNat k] ++ Code.be 0 (n / 256 ^ (k - 0))).length (cellsL (xs ++ [UInt8.ofNat k] ++ Code.be 0 (n / 256 ^ (k - 0)))) := by
    have e := Code.ofNat_toNat k (by omega)
    simpa [cellsL, Code.be, Nat.mod_eq_of_lt (show k < 256 by omega)] using hown1
  have hbel1 : Below B w1 w2 := ((Below.refl B w1).alloc (by omega) _).grown hgrow1 (by simp; omega) (fun g hg => (hown.lt g hg).1)
  clear hown1 hgrow1 hown
  go_wp2
  go_loopw [0, 18] (fun u i wr => ∃ j : Nat, j ≤ k ∧ i = .int .i64 j ∧ wr.ownsRow B 5 1 u (xs ++ [UInt8.ofNat k] ++ Code.be j (n / 256 ^ (k - j))).length (cellsL (xs ++ [UInt8.ofNat k] ++ Code.be j (n / 256 ^ (k - j)))) ∧ Below B w1 wr) (fun _ i _ => k - (intOf i).toNat)
  case atStart => exact ⟨0, Nat.zero_le _, rfl, hrow1, hbel1⟩
  case round =>
    obtain ⟨j, hj, rfl, hrow, hbel⟩ := hrel
    by_cases hlt : j < k
    · have h1 : (j : Int) < (k : Int) := by omega
      have hsn := Lib.hid (Code.be_step k j n hlt)
      have hlen := Code.be_length j (n / 256 ^ (k - j))
      have hb := hbel.size
      obtain ⟨ys, hys⟩ : ∃ ys, xs ++ [UInt8.ofNat k] ++ Code.be j (n / 256 ^ (k - j)) = ys := ⟨_, rfl⟩
      have hyl : ys.length ≤ 200000000 := by rw [← hys]; simp [hlen]; omega
      rw [hys] at hrow
      have HY := Lib.hid hys
      clear hys hlen
      go_wp2_with ((at_builtin; refine wpList_append_own _ rfl _ _ 40 rfl B 5 i0 (.int .u8 0) 1 1 Tryd.underlying40 hi hz0 hz1 hz2 rfl (by decide) u0 ys.length (cellsL ys) rfl (hrow.alloc _) ⟨wr.heap.size, 0, none⟩ 1 1 [.int .u8 ((n : Int) / 2 ^ (8 * (k - 1 - j)) % 256)] rfl rfl ?c1 ?c2 ?c3 ?c4 ?c5 ?_))
      case c1 => exact cell_one_new _ _ _
      case c2 => simp [Value.oneCell']
      case c3 => unfold maxLen; omega
      case c4 => omega
      case c5 => simp; omega
      intro v2 w3 hown2 hgrow2 _
      rw [shr_byte] at hown2
      have hrow2 : w3.ownsRow B 5 1 v2 (xs ++ [UInt8.ofNat k] ++ Code.be (j + 1) (n / 256 ^ (k - (j + 1)))).length (cellsL (xs ++ [UInt8.ofNat k] ++ Code.be (j + 1) (n / 256 ^ (k - (j + 1))))) := by
        rw [← hsn.out, ← List.append_assoc, HY.out, cellsL_append, List.length_append]
        exact hown2
      have hbel2 : Below B w1 w3 := (hbel.alloc (by omega) _).grown hgrow2 (by simp; omega) (fun g hg => (hrow.lt g hg).1)
      clear hown2 hgrow2 hrow
      go_wp2
      go_roundw
      case rel => exact ⟨j + 1, by omega, by go_num, hrow2, hbel2⟩
      case measure => simp [intOf]; omega
    · go_wp2
      go_ret
      have e : j = k := by omega
      subst e
      rw [Nat.sub_self, Nat.pow_zero, Nat.div_one, List.append_assoc, List.singleton_append] at hrow
      refine ⟨_, rfl, ?_, hbel⟩
      rw [Code.numL, HK.out]
      exact hrow

end Go.Proofs.YtjbagjhadmbjnaaDoor
namespace Go.Proofs.YtjbagjhadmbjnaaDoor
open Go.RowKit

theorem strCells_mk (l : List UInt8) : Lib.strCells ⟨l.toArray⟩ = cellsL l := by simp [Lib.strCells, cellsL]

set_option maxHeartbeats 400000 in
theorem addText_any (s : List UInt8) (B : Nat) (v : Value) (xs : List UInt8) (w : World) (hB : B ≤ w.heap.size) (hx : xs.length ≤ 100000000) (hl : s.length ≤ 100000000)
    (hown : w.ownsRow B 5 1 v xs.length (cellsL xs)) :
    Calls Tryd.prog 40 #[v, .string ⟨s.toArray⟩] w fun e w' => ∃ v', e = .returned v' ∧ w'.ownsRow B 5 1 v' (xs ++ Code.textL s).length (cellsL (xs ++ Code.textL s)) ∧ Below B w w' := by
  obtain ⟨i0, hi, hz0, hz1, hz2⟩ := info_parts Tryd.infoByte
  go_enter Tryd.func40, Tryd.ntmps40
  go_wp2_with fail
  refine (addNum_any s.length (by omega) B v xs w hB hx hown).mono ?_
  rintro e w1 ⟨v', rfl, hown1, hbel⟩
  have hb := hbel.size
  have hlen : (xs ++ Code.numL s.length).length ≤ 100000010 := by
    have := Code.sz_le8 s.length (by omega)
    have := Code.numL_length s.length
    rw [List.length_append]; omega
  obtain ⟨ys, hys⟩ : ∃ ys, xs ++ Code.numL s.length = ys := ⟨_, rfl⟩
  rw [hys] at hown1 hlen
  have HY := Lib.hid hys
  clear hys hown
  go_wp2_with ((at_builtin; refine Lib.wpList_append_own_string _ rfl _ _ 40 9 rfl B 5 i0 Tryd.underlying40 Tryd.underlying9 hi hz0 hz1 hz2 v' ys.length (cellsL ys) rfl hown1 ⟨s.toArray⟩ rfl ?c3 ?c4 ?c5 ?_))
  case c3 => rw [size_of_list]; unfold maxLen; omega
  case c4 => rw [size_of_list]; omega
  case c5 => omega
  intro v2 w2 hown2 hgrow2 _
  rw [strCells_mk] at hown2
  have hrow : w2.ownsRow B 5 1 v2 (xs ++ Code.textL s).length (cellsL (xs ++ Code.textL s)) := by
    rw [Code.textL, ← List.append_assoc, HY.out, List.length_append, cellsL_append]
    exact hown2
  have hbel2 : Below B w w2 := hbel.grown hgrow2 (by omega) (fun g hg => (hown1.lt g hg).1)
  clear hown2 hgrow2
  go_wp2
  go_ret
  exact ⟨_, rfl, hrow, hbel2⟩

theorem text_any (s : List UInt8) (w : World) (hl : s.length ≤ 100000000) :
    Calls Tryd.prog 21 #[.string ⟨s.toArray⟩] w fun e w' => e = .returned (.string ⟨(Code.textL s).toArray⟩) ∧ Below w.heap.size w w' := by
  go_enter Tryd.func21, Tryd.ntmps21
  go_wp2_with fail
  refine (addText_any s w.heap.size _ [] w (Nat.le_refl _) (by simp) hl (ownsNil w _)).mono ?_
  rintro e w1 ⟨v', rfl, hown, hbel⟩
  have hc := conv_own hown
  go_wp2
  go_ret
  exact ⟨rfl, hbel⟩

end Go.Proofs.YtjbagjhadmbjnaaDoor
namespace Go.Proofs.YtjbagjhadmbjnaaDoor
open Go.RowKit

def Rd (w : World) (g : Nat) (s : List UInt8) (c : Int) : Prop := w.heap[g]? = some (.cells #[.string ⟨s.toArray⟩, .int .i64 c] 69 (0, 0))
theorem Rd.lt {w : World} {g : Nat} {s : List UInt8} {c : Int} (h : Rd w g s c) : g < w.heap.size := lt_of_block h
theorem Rd.left {w : World} {g : Nat} {s : List UInt8} {c : Int} (h : Rd w g s c) : w.cell? ⟨g, 0, none⟩ = some (.string ⟨s.toArray⟩) := by unfold Rd at h; simp [World.cell?, h]
theorem Rd.code {w : World} {g : Nat} {s : List UInt8} {c : Int} (h : Rd w g s c) : w.cell? ⟨g, 1, none⟩ = some (.int .i64 c) := by unfold Rd at h; simp [World.cell?, h]
theorem Rd.free0 {w : World} {g : Nat} {s : List UInt8} {c : Int} (h : Rd w g s c) : w.frozen? ⟨g, 0, none⟩ = false := by unfold Rd at h; simp [World.frozen?, h]
theorem Rd.free1 {w : World} {g : Nat} {s : List UInt8} {c : Int} (h : Rd w g s c) : w.frozen? ⟨g, 1, none⟩ = false := by unfold Rd at h; simp [World.frozen?, h]
theorem Rd.setLeft {w : World} {g : Nat} {s : List UInt8} {c : Int} (h : Rd w g s c) (t : List UInt8) : Rd (w.setCell ⟨g, 0, none⟩ (.string ⟨t.toArray⟩)) g t c := by
  have hlt := h.lt
  unfold Rd at h
  have h' : w.heap[g] = .cells #[.string ⟨s.toArray⟩, .int .i64 c] 69 (0, 0) := by simpa [Array.getElem?_eq_getElem hlt] using h
  show (w.heap.modify g _)[g]? = _
  rw [Array.getElem?_eq_getElem (by simpa using hlt), Array.getElem_modify_self, h']
  rfl
theorem Rd.setCode {w : World} {g : Nat} {s : List UInt8} {c : Int} (h : Rd w g s c) (d : Int) : Rd (w.setCell ⟨g, 1, none⟩ (.int .i64 d)) g s d := by
  have hlt := h.lt
  unfold Rd at h
  have h' : w.heap[g] = .cells #[.string ⟨s.toArray⟩, .int .i64 c] 69 (0, 0) := by simpa [Array.getElem?_eq_getElem hlt] using h
  show (w.heap.modify g _)[g]? = _
  rw [Array.getElem?_eq_getElem (by simpa using hlt), Array.getElem_modify_self, h']
  rfl
theorem Rd.new (w : World) (s : List UInt8) (c : Int) : Rd (w.alloc (.cells #[.string ⟨s.toArray⟩, .int .i64 c] 69)) w.heap.size s c := heap_alloc_new w _

theorem Rd.below {w w' : World} {g : Nat} {s : List UInt8} {c : Int} (h : Rd w g s c) (hb : Below w.heap.size w w') : Rd w' g s c := (hb.block g h.lt).trans h

end Go.Proofs.YtjbagjhadmbjnaaDoor
namespace Go.Proofs.YtjbagjhadmbjnaaDoor
open Go.RowKit

theorem read_any (s : List UInt8) (w : World) :
    Calls Tryd.prog 31 #[.string ⟨s.toArray⟩] w fun e w' => e = .returned (.pointer (some ⟨w.heap.size, 0, none⟩)) ∧ Rd w' w.heap.size s 0 ∧ Below w.heap.size w w' := by
  go_enter Tryd.func31, Tryd.ntmps31
  go_wp2
  go_ret
  exact ⟨rfl, Rd.new w s 0, (Below.refl _ w).alloc (Nat.le_refl _) _⟩
theorem i64_or_nat (a b : Nat) (ha : a < 9223372036854775808) (hb : b < 9223372036854775808) : bits .or .i64 (a : Int) (b : Int) = ((a ||| b : Nat) : Int) := by
  have hx : a ||| b < 2 ^ 63 := Nat.or_lt_two_pow (by omega) (by omega)
  show IntKind.i64.wrap ((BitVec.ofInt 64 (a : Int) ||| BitVec.ofInt 64 (b : Int)).toNat : Int) = _
  rw [BitVec.toNat_or, BitVec.ofInt_natCast, BitVec.toNat_ofNat, BitVec.ofInt_natCast, BitVec.toNat_ofNat, Nat.mod_eq_of_lt (by omega), Nat.mod_eq_of_lt (by omega)]
  simp only [IntKind.wrap, IntKind.bits, IntKind.signed]
  simp
  omega
theorem or_low (a b : Nat) (hb : b < 256) : a * 256 ||| b = a * 256 + b := by
  have := Nat.two_pow_add_eq_or_of_lt (i := 8) (b := b) (by omega) a
  rw [Nat.mul_comm] at this
  exact this.symm

set_option maxHeartbeats 400000 in
theorem lead_nil (w : World) : Calls Tryd.prog 68 #[.string ⟨#[]⟩] w fun e w' => e = .returned (.tuple #[.int .i64 0, .int .i64 0, .int .i64 20]) ∧ w' = w := by
  go_enter Tryd.func68, Tryd.ntmps68
  go_wp2
  go_ret3
  exact ⟨rfl, rfl⟩
set_option maxHeartbeats 400000 in
theorem lead_big (c : UInt8) (r : List UInt8) (w : World) (hc : c.toNat > 8) : Calls Tryd.prog 68 #[.string ⟨(c :: r).toArray⟩] w fun e w' => e = .returned (.tuple #[.int .i64 0, .int .i64 0, .int .i64 3]) ∧ w' = w := by
  have hh : ∀ h, (⟨(c :: r).toArray⟩ : ByteArray)[0]'h = c := fun _ => rfl
  have hcb := c.toNat_lt
  have hc1 : (c.toNat : Int) > 8 := by omega
  clear hc
  go_enter Tryd.func68, Tryd.ntmps68
  go_wp2
  go_ret3
  exact ⟨rfl, rfl⟩
set_option maxHeartbeats 400000 in
theorem lead_short (c : UInt8) (r : List UInt8) (w : World) (hc : c.toNat ≤ 8) (hr : r.length < c.toNat) (hl : r.length ≤ 100000000) : Calls Tryd.prog 68 #[.string ⟨(c :: r).toArray⟩] w fun e w' => e = .returned (.tuple #[.int .i64 0, .int .i64 0, .int .i64 20]) ∧ w' = w := by
  have hh : ∀ h, (⟨(c :: r).toArray⟩ : ByteArray)[0]'h = c := fun _ => rfl
  have hc1 : ¬ ((c.toNat : Int) > 8) := by omega
  have hc2 : (r.length : Int) < (c.toNat : Int) := by omega
  go_enter Tryd.func68, Tryd.ntmps68
  go_wp2
  go_ret3
  exact ⟨rfl, rfl⟩
set_option maxHeartbeats 400000 in
theorem lead_zero (r : List UInt8) (w : World) (hl : r.length ≤ 100000000) : Calls Tryd.prog 68 #[.string ⟨((0 : UInt8) :: r).toArray⟩] w fun e w' => e = .returned (.tuple #[.int .i64 0, .int .i64 1, .int .i64 0]) ∧ w' = w := by
  have hh : ∀ h, (⟨((0 : UInt8) :: r).toArray⟩ : ByteArray)[0]'h = 0 := fun _ => rfl
  go_enter Tryd.func68, Tryd.ntmps68
  go_wp2
  go_loop [2, 40] (fun n i => n = .int .i64 0 ∧ i = .int .i64 0) (fun _ _ => 0)
  case atStart => exact ⟨rfl, rfl⟩
  case round =>
    obtain ⟨rfl, rfl⟩ := hrel
    go_wp2
    go_ret3
    exact ⟨rfl, rfl⟩
theorem ext_head (c : UInt8) (d r2 : List UInt8) : (⟨(c :: (d ++ r2)).toArray⟩ : ByteArray).extract 1 (1 + d.length) = ⟨d.toArray⟩ := by
  rw [Lib.extract_eq]; simp
set_option maxHeartbeats 400000 in
theorem lead_bad (c x : UInt8) (d q r2 : List UInt8) (w : World) (hd : d = x :: q) (hc : c.toNat = d.length) (h8 : d.length ≤ 8) (hl : r2.length ≤ 100000000) (hb : x.toNat = 0 ∨ d.length = 8 ∧ 128 ≤ x.toNat) :
    Calls Tryd.prog 68 #[.string ⟨(c :: (d ++ r2)).toArray⟩] w fun e w' => e = .returned (.tuple #[.int .i64 0, .int .i64 0, .int .i64 3]) ∧ w' = w := by
  have hh : ∀ h, (⟨(c :: (d ++ r2)).toArray⟩ : ByteArray)[0]'h = c := fun _ => rfl
  have hx : ∀ h, (⟨d.toArray⟩ : ByteArray)[0]'h = x := by subst hd; exact fun _ => rfl
  have he := ext_head c d r2
  have hxb := x.toNat_lt
  have hpos : 0 < d.length := by subst hd; simp
  clear hd
  obtain ⟨s, hs⟩ : ∃ s, c :: (d ++ r2) = s := ⟨_, rfl⟩
  have hsl : s.length = d.length + 1 + r2.length := by rw [← hs]; simp; omega
  have hse : s.isEmpty = false := by rw [← hs]; rfl
  rw [hs] at hh he ⊢
  clear hs
  rcases hb with h0 | ⟨h80, h128⟩
  · go_enter Tryd.func68, Tryd.ntmps68
    go_wp2
    go_ret3
    exact ⟨rfl, rfl⟩
  · rw [h80] at he hc hsl
    have he9 : (⟨s.toArray⟩ : ByteArray).extract 1 9 = ⟨d.toArray⟩ := he
    have hd0 : ((x.toNat : Int) == 0) = false := by rw [beq_eq_false_iff_ne]; omega
    have hd1 : decide (128 ≤ (x.toNat : Int)) = true := decide_eq_true (by omega)
    clear he h8 hpos
    go_enter Tryd.func68, Tryd.ntmps68
    go_wp2
    go_ret3
    exact ⟨rfl, rfl⟩
theorem val_take_lt (d : List UInt8) (h8 : d.length ≤ 8) (h : d.length = 8 → (d.headD 0).toNat < 128) (j : Nat) : Code.val (d.take j) < 2 ^ 63 := by
  have e : (256 : Nat) ^ 7 = 2 ^ 56 := by decide
  by_cases hj : (d.take j).length ≤ 7
  · have := Code.val_lt (d.take j)
    have := Nat.pow_le_pow_right (n := 256) (by omega) hj
    omega
  · rw [List.length_take] at hj
    rw [List.take_of_length_le (by omega)]
    match d, h8, h, hj with
    | [], _, _, hj => simp at hj
    | x :: q, h8, h, hj =>
      simp only [List.length_cons] at h8 h hj
      have hx := h (by omega)
      simp at hx
      have ⟨_, g⟩ := Code.val_ge x q
      rw [show q.length = 7 by omega, e] at g
      omega
theorem val_step (d : List UInt8) (k : Nat) (h : k < d.length) : Code.val (d.take (k + 1)) = Code.val (d.take k) * 256 + d[k].toNat := by
  rw [List.take_succ_eq_append_getElem h, Code.val_append]
theorem or_int (a b : Nat) (ha : a * 256 + b < 9223372036854775808) (hb : b < 256) : bits .or .i64 ((a : Int) * 256) (b : Int) = ((a * 256 + b : Nat) : Int) := by
  have h1 : a * 256 < 9223372036854775808 := Nat.lt_of_le_of_lt (Nat.le_add_right _ _) ha
  have h2 : b < 9223372036854775808 := Nat.lt_trans hb (by decide)
  have h3 := i64_or_nat (a * 256) b h1 h2
  rw [or_low a b hb, Int.natCast_mul] at h3
  exact h3
set_option maxHeartbeats 1000000 in
theorem lead_good (c x : UInt8) (d q r2 : List UInt8) (w : World) (hd : d = x :: q) (hc : c.toNat = d.length) (h8 : d.length ≤ 8) (hl : r2.length ≤ 100000000) (h0 : x.toNat ≠ 0) (hb : d.length = 8 → x.toNat < 128) :
    Calls Tryd.prog 68 #[.string ⟨(c :: (d ++ r2)).toArray⟩] w fun e w' => e = .returned (.tuple #[.int .i64 (Code.val d : Nat), .int .i64 (1 + d.length : Nat), .int .i64 0]) ∧ w' = w := by
  have hh : ∀ h, (⟨(c :: (d ++ r2)).toArray⟩ : ByteArray)[0]'h = c := fun _ => rfl
  have hx : ∀ h, (⟨d.toArray⟩ : ByteArray)[0]'h = x := by subst hd; exact fun _ => rfl
  have he := ext_head c d r2
  have hxb := x.toNat_lt
  have hvl := val_take_lt d h8 (by subst hd; exact hb)
  have hpos : 0 < d.length := by subst hd; simp
  clear hd
  obtain ⟨s, hs⟩ : ∃ s, c :: (d ++ r2) = s := ⟨_, rfl⟩
  have hsl : s.length = d.length + 1 + r2.length := by rw [← hs]; simp; omega
  have hse : s.isEmpty = false := by rw [← hs]; rfl
  rw [hs] at hh he ⊢
  clear hs
  have hvl' : ∀ j, Code.val (d.take j) < 2 ^ 63 := hvl
  clear hvl
  rcases Nat.lt_or_ge d.length 8 with h7 | h7
  · have hd0 : ((x.toNat : Int) == 0) = false := by rw [beq_eq_false_iff_ne]; omega
    clear hb
    go_enter Tryd.func68, Tryd.ntmps68
    go_wp2
    go_loop [2, 40] (fun n i => ∃ k : Nat, k ≤ d.length ∧ n = .int .i64 (Code.val (d.take k) : Nat) ∧ i = .int .i64 k) (fun _ i => d.length - (intOf i).toNat)
    case atStart => exact ⟨0, Nat.zero_le _, rfl, rfl⟩
    case round =>
      obtain ⟨k, hk, rfl, rfl⟩ := hrel
      by_cases hlt : k < d.length
      · have h1 : (k : Int) < (d.length : Int) := by omega
        have hst := val_step d k hlt
        have hvk := hvl' (k + 1)
        rw [hst] at hvk
        have hst' := Lib.hid hst
        have hi : ∀ h, (⟨d.toArray⟩ : ByteArray)[k]'h = d[k] := fun _ => rfl
        have hdk := d[k].toNat_lt
        obtain ⟨V, hV⟩ : ∃ V, Code.val (d.take k) = V := ⟨_, rfl⟩
        rw [hV] at hst' hvk ⊢
        clear hst hV
        have hor : bits .or .i64 ((V : Int) * 256) (d[k].toNat : Int) = ((V * 256 + d[k].toNat : Nat) : Int) := or_int V d[k].toNat (by omega) (by omega)
        go_wp2
        go_round
        case rel => exact ⟨k + 1, by omega, by rw [hst'.out]; simp, by go_num⟩
        case measure => simp [intOf]; omega
      · go_wp2
        go_ret3
        have e : k = d.length := by omega
        subst e
        rw [List.take_length]
        exact ⟨by simp, rfl⟩
  · have hb2 := hb (by omega)
    have h88 : d.length = 8 := by omega
    rw [h88] at he hc hsl
    have he9 : (⟨s.toArray⟩ : ByteArray).extract 1 9 = ⟨d.toArray⟩ := he
    have hd0 : ((x.toNat : Int) == 0) = false := by rw [beq_eq_false_iff_ne]; omega
    have hd1 : decide (128 ≤ (x.toNat : Int)) = false := decide_eq_false (by omega)
    clear hb he h8 hpos h7
    go_enter Tryd.func68, Tryd.ntmps68
    go_wp2
    go_loop [2, 40] (fun n i => ∃ k : Nat, k ≤ d.length ∧ n = .int .i64 (Code.val (d.take k) : Nat) ∧ i = .int .i64 k) (fun _ i => d.length - (intOf i).toNat)
    case atStart => exact ⟨0, Nat.zero_le _, rfl, rfl⟩
    case round =>
      obtain ⟨k, hk, rfl, rfl⟩ := hrel
      by_cases hlt : k < d.length
      · have h1 : (k : Int) < (d.length : Int) := by omega
        have hst := val_step d k hlt
        have hvk := hvl' (k + 1)
        rw [hst] at hvk
        have hst' := Lib.hid hst
        have hi : ∀ h, (⟨d.toArray⟩ : ByteArray)[k]'h = d[k] := fun _ => rfl
        have hdk := d[k].toNat_lt
        obtain ⟨V, hV⟩ : ∃ V, Code.val (d.take k) = V := ⟨_, rfl⟩
        rw [hV] at hst' hvk ⊢
        clear hst hV
        have hor : bits .or .i64 ((V : Int) * 256) (d[k].toNat : Int) = ((V * 256 + d[k].toNat : Nat) : Int) := or_int V d[k].toNat (by omega) (by omega)
        go_wp2
        go_round
        case rel => exact ⟨k + 1, by omega, by rw [hst'.out]; simp, by go_num⟩
        case measure => simp [intOf]; omega
      · go_wp2
        go_ret3
        have e : k = d.length := by omega
        subst e
        rw [List.take_length]
        exact ⟨by simp, rfl⟩

end Go.Proofs.YtjbagjhadmbjnaaDoor
namespace Go.Proofs.YtjbagjhadmbjnaaDoor
open Go.RowKit

theorem lead_any (s : List UInt8) (w : World) (hl : s.length ≤ 100000000) :
    Calls Tryd.prog 68 #[.string ⟨s.toArray⟩] w fun e w' => e = .returned (.tuple #[.int .i64 ((Code.leadL s).1 : Nat), .int .i64 ((Code.leadL s).2.1 : Nat), .int .i64 (Code.leadL s).2.2]) ∧ w' = w := by
  match s, hl with
  | [], _ => exact lead_nil w
  | c :: r, hl =>
    simp only [List.length_cons] at hl
    by_cases h1 : c.toNat > 8
    · rw [Code.leadL, if_pos h1]
      exact lead_big c r w h1
    · by_cases h2 : r.length < c.toNat
      · rw [Code.leadL, if_neg h1, if_pos h2]
        exact lead_short c r w (by omega) h2 (by omega)
      · have hr : r = r.take c.toNat ++ r.drop c.toNat := (List.take_append_drop _ _).symm
        have hdl : (r.take c.toNat).length = c.toNat := by rw [List.length_take]; omega
        have hd2 : (r.drop c.toNat).length ≤ 100000000 := by rw [List.length_drop]; omega
        rw [Code.leadL, if_neg h1, if_neg h2]
        by_cases h0 : c.toNat = 0
        · have hb : Code.bad c.toNat (r.take c.toNat) = false := by simp [Code.bad, h0]
          have hc0 : c = 0 := by
            have := UInt8.ofNat_toNat (x := c)
            rw [h0] at this
            exact this.symm
          subst hc0
          rw [hb]
          exact lead_zero r w (by omega)
        · match hd : r.take c.toNat with
          | [] => rw [hd] at hdl; simp at hdl; omega
          | x :: q =>
            rw [hd] at hr hdl
            rcases hb : Code.bad c.toNat (x :: q) with _ | _
            · simp only [Code.bad, List.headD_cons, Bool.or_eq_false_iff, Bool.and_eq_false_iff, decide_eq_false_iff_not, beq_eq_false_iff_ne] at hb
              have h := lead_good c x (x :: q) q (r.drop c.toNat) w rfl hdl.symm (by omega) hd2 (by rcases hb.1 with a | a; omega; exact a) (fun h8 => by rcases hb.2 with a | a; omega; exact Nat.not_le.1 (of_decide_eq_false a))
              rw [← hr, hdl] at h
              exact h
            · simp only [Code.bad, List.headD_cons, Bool.or_eq_true, Bool.and_eq_true, decide_eq_true_eq, beq_iff_eq] at hb
              have h := lead_bad c x (x :: q) q (r.drop c.toNat) w rfl hdl.symm (by omega) hd2 (by rcases hb with a | a; exact .inl a.2; exact .inr ⟨by omega, of_decide_eq_true a.2⟩)
              rw [← hr] at h
              exact h

def Code.countL (most : Int) (s : List UInt8) : Nat × List UInt8 × Int :=
  if (Code.leadL s).2.2 ≠ 0 then (0, s, (Code.leadL s).2.2) else if ((Code.leadL s).1 : Int) > most then (0, s, 2) else ((Code.leadL s).1, s.drop (Code.leadL s).2.1, 0)
theorem Code.lead_range (s : List UInt8) : (Code.leadL s).1 < 2 ^ 63 ∧ (Code.leadL s).2.1 ≤ s.length := by
  by_cases h : (Code.leadL s).2.2 = 0
  · have := Code.lead_ok s h
    exact ⟨this.1, this.2.1⟩
  · match s with
    | [] => simp [Code.leadL]
    | c :: r =>
      simp only [Code.leadL] at h ⊢
      split <;> (try (simp; done))
      split <;> (try (simp; done))
      split <;> (try (simp; done))
      simp_all

set_option maxHeartbeats 400000 in
theorem count_stuck (most : Int) (s : List UInt8) (c : Int) (g : Nat) (w : World) (h : Rd w g s c) (hc : c ≠ 0) :
    Calls Tryd.prog 52 #[.pointer (some ⟨g, 0, none⟩), .int .i64 most] w fun e w' => e = .returned (.int .i64 0) ∧ w' = w := by
  have h1 := h.code
  go_enter Tryd.func52, Tryd.ntmps52
  go_wp2
  go_ret
  exact ⟨rfl, rfl⟩

set_option maxHeartbeats 400000 in
theorem count_any (most : Int) (s : List UInt8) (g : Nat) (w : World) (h : Rd w g s 0) (hl : s.length ≤ 100000000) :
    Calls Tryd.prog 52 #[.pointer (some ⟨g, 0, none⟩), .int .i64 most] w fun e w' => e = .returned (.int .i64 ((Code.countL most s).1 : Nat)) ∧ Rd w' g (Code.countL most s).2.1 (Code.countL most s).2.2 ∧ Only g w w' := by
  have h0 := h.left
  have h1 := h.code
  have hf0 := h.free0
  have hf1 := h.free1
  obtain ⟨hn, hk⟩ := Code.lead_range s
  have hlead := Lib.hid (lead_any s w hl)
  have he := ext_drop s (Code.leadL s).2.1
  unfold Code.countL
  generalize (Code.leadL s) = p at hn hk hlead he ⊢
  obtain ⟨n, k, e⟩ := p
  simp only at hn hk hlead he ⊢
  by_cases h2 : e = 0
  · subst h2
    rw [if_neg (by simp)]
    by_cases h3 : (n : Int) > most
    · rw [if_pos h3]
      go_enter Tryd.func52, Tryd.ntmps52
      go_wp2_with fail
      refine hlead.out.mono ?_
      rintro e w1 ⟨rfl, rfl⟩
      go_wp2
      go_ret
      exact ⟨rfl, h.setCode 2, (Only.refl g _).setCell rfl _⟩
    · rw [if_neg h3]
      go_enter Tryd.func52, Tryd.ntmps52
      go_wp2_with fail
      refine hlead.out.mono ?_
      rintro e w1 ⟨rfl, rfl⟩
      go_wp2
      go_ret
      exact ⟨rfl, h.setLeft _, (Only.refl g _).setCell rfl _⟩
  · rw [if_pos h2]
    go_enter Tryd.func52, Tryd.ntmps52
    go_wp2_with fail
    refine hlead.out.mono ?_
    rintro e w1 ⟨rfl, rfl⟩
    go_wp2
    go_ret
    exact ⟨rfl, h.setCode _, (Only.refl g _).setCell rfl _⟩

end Go.Proofs.YtjbagjhadmbjnaaDoor
namespace Go.Proofs.YtjbagjhadmbjnaaDoor
open Go.RowKit

theorem clone_any (s : List UInt8) (w : World) (hl : s.length ≤ 100000000) :
    Calls Tryd.prog 26 #[.string ⟨s.toArray⟩] w fun e w' => e = .returned (.string ⟨s.toArray⟩) ∧ Below w.heap.size w w' := by
  go_enter Tryd.func26, Tryd.ntmps26
  go_wp2_with fail
  refine (shelf_clone ⟨s.toArray⟩ w (by rw [size_of_list]; omega)).mono ?_
  rintro e w1 ⟨rfl, hb⟩
  go_wp2
  go_ret
  exact ⟨rfl, hb⟩

def Code.bytesR (n : Int) (s : List UInt8) : List UInt8 × List UInt8 × Int :=
  if n < 0 then ([], s, 1) else if n.toNat > s.length then ([], s, 20) else (s.take n.toNat, s.drop n.toNat, 0)
def Code.textR (most : Int) (s : List UInt8) : List UInt8 × List UInt8 × Int :=
  if (Code.countL most s).2.2 ≠ 0 then ([], s, (Code.countL most s).2.2) else
  if (Code.countL most s).1 > (Code.countL most s).2.1.length then ([], s, 20) else
  ((Code.countL most s).2.1.take (Code.countL most s).1, (Code.countL most s).2.1.drop (Code.countL most s).1, 0)
theorem ext_take (s : List UInt8) (k : Nat) : (⟨s.toArray⟩ : ByteArray).extract 0 k = ⟨(s.take k).toArray⟩ := by
  rw [Lib.extract_eq]
  simp only [List.drop_zero, Nat.sub_zero]

set_option maxHeartbeats 400000 in
theorem bytes_stuck (n : Int) (s : List UInt8) (c : Int) (g : Nat) (w : World) (h : Rd w g s c) (hc : c ≠ 0) :
    Calls Tryd.prog 32 #[.pointer (some ⟨g, 0, none⟩), .int .i64 n] w fun e w' => e = .returned (.string ⟨#[]⟩) ∧ w' = w := by
  have h1 := h.code
  have hc1 : (c != 0) = true := by rw [bne_iff_ne]; exact hc
  clear hc
  go_enter Tryd.func32, Tryd.ntmps32
  go_wp2
  go_ret
  exact ⟨rfl, rfl⟩
set_option maxHeartbeats 400000 in
theorem bytes_any (n : Int) (s : List UInt8) (g : Nat) (w : World) (h : Rd w g s 0) (hl : s.length ≤ 100000000) :
    Calls Tryd.prog 32 #[.pointer (some ⟨g, 0, none⟩), .int .i64 n] w fun e w' => e = .returned (.string ⟨(Code.bytesR n s).1.toArray⟩) ∧ Rd w' g (Code.bytesR n s).2.1 (Code.bytesR n s).2.2 ∧ Only g w w' := by
  have h0 := h.left
  have h1 := h.code
  have hf1 := h.free1
  unfold Code.bytesR
  by_cases hn : n < 0
  · rw [if_pos hn]
    go_enter Tryd.func32, Tryd.ntmps32
    go_wp2
    go_ret
    exact ⟨rfl, h.setCode 1, (Only.refl g _).setCell rfl _⟩
  · rw [if_neg hn]
    obtain ⟨k, rfl⟩ := Int.eq_ofNat_of_zero_le (by omega : 0 ≤ n)
    simp only [Int.toNat_natCast]
    by_cases hk : k > s.length
    · rw [if_pos hk]
      have hk1 : (k : Int) > (s.length : Int) := by omega
      have hk0 : ((k : Int) < 0) = False := by simp
      go_enter Tryd.func32, Tryd.ntmps32
      go_wp2
      go_ret
      exact ⟨rfl, h.setCode 20, (Only.refl g _).setCell rfl _⟩
    · rw [if_neg hk]
      have hk1 : ¬ ((k : Int) > (s.length : Int)) := by omega
      have hk0 : ((k : Int) < 0) = False := by simp
      have he1 := ext_take s k
      have he2 := ext_drop s k
      go_enter Tryd.func32, Tryd.ntmps32
      go_wp2_with fail
      refine (clone_any (s.take k) w (by rw [List.length_take]; omega)).mono ?_
      rintro e w1 ⟨rfl, hb⟩
      have hr := h.below hb
      have g0 := hr.left
      have gf := hr.free0
      go_wp2
      go_ret
      exact ⟨rfl, hr.setLeft _, Only.setCell (g := g) (Only.of hb) rfl _⟩

theorem count_rest (most : Int) (s : List UInt8) : (Code.countL most s).2.1.length ≤ s.length := by
  unfold Code.countL
  split
  · exact Nat.le_refl _
  · split
    · exact Nat.le_refl _
    · simp only [List.length_drop]; omega

set_option maxHeartbeats 400000 in
theorem rtext_any (most : Int) (s : List UInt8) (g : Nat) (w : World) (h : Rd w g s 0) (hl : s.length ≤ 100000000) :
    Calls Tryd.prog 34 #[.pointer (some ⟨g, 0, none⟩), .int .i64 most] w fun e w' => e = .returned (.string ⟨(Code.textR most s).1.toArray⟩) ∧ Rd w' g (Code.textR most s).2.1 (Code.textR most s).2.2 ∧ Only g w w' := by
  have h0 := h.left
  have hcl := count_rest most s
  unfold Code.textR
  have hcount := Lib.hid (count_any most s g w h hl)
  generalize Code.countL most s = p at hcount hcl ⊢
  obtain ⟨n, r, e⟩ := p
  simp only at hcount hcl ⊢
  by_cases he : e = 0
  · subst he
    rw [if_neg (by simp)]
    go_enter Tryd.func34, Tryd.ntmps34
    go_wp2_with fail
    refine hcount.out.mono ?_
    rintro e w1 ⟨rfl, hr1, ho1⟩
    go_wp2_with fail
    refine (bytes_any n r g w1 hr1 (by omega)).mono ?_
    rintro e w2 ⟨rfl, hr2, ho2⟩
    have ho := ho1.trans ho2
    clear ho1 ho2 h0
    unfold Code.bytesR at hr2 ⊢
    have hn0 : ¬ ((n : Int) < 0) := by omega
    rw [if_neg hn0] at hr2 ⊢
    simp only [Int.toNat_natCast] at hr2 ⊢
    by_cases hk : n > r.length
    · rw [if_pos hk] at hr2 ⊢
      simp only at hr2 ⊢
      have h1 := hr2.code
      have h2 := hr2.left
      have hf := hr2.free0
      go_wp2
      go_ret
      exact ⟨rfl, hr2.setLeft s, ho.setCell rfl _⟩
    · rw [if_neg hk] at hr2 ⊢
      simp only at hr2 ⊢
      have h1 := hr2.code
      go_wp2
      go_ret
      exact ⟨rfl, hr2, ho⟩
  · rw [if_pos he]
    have he1 : (e != 0) = true := by rw [bne_iff_ne]; exact he
    go_enter Tryd.func34, Tryd.ntmps34
    go_wp2_with fail
    refine hcount.out.mono ?_
    rintro e w1 ⟨rfl, hr1, ho1⟩
    go_wp2_with fail
    refine (bytes_stuck n r _ g w1 hr1 he).mono ?_
    rintro e w2 ⟨rfl, rfl⟩
    have h1 := hr1.code
    have h2 := hr1.left
    have hf := hr1.free0
    clear h0
    go_wp2
    go_ret
    exact ⟨rfl, hr1.setLeft s, ho1.setCell rfl _⟩

end Go.Proofs.YtjbagjhadmbjnaaDoor
namespace Go.Proofs.YtjbagjhadmbjnaaDoor
open Go.RowKit

theorem Only.then {g : Nat} {a b c : World} (h : Only g a b) (k : Below a.heap.size b c) : Only g a c :=
  ⟨k.os.trans h.os, k.tape.trans h.tape, k.output.trans h.output, Nat.le_trans h.size k.size, fun i hi hg => (k.block i hi).trans (h.block i hi hg)⟩
end Go.Proofs.YtjbagjhadmbjnaaDoor
namespace Go.Proofs.YtjbagjhadmbjnaaDoor.Code

theorem count_num (most : Int) (n : Nat) (r : List UInt8) (h : n < 2 ^ 63) (hm : (n : Int) ≤ most) : countL most (numL n ++ r) = (n, r, 0) := by
  have e := lead_num n h r
  have hd : (numL n ++ r).drop (1 + sz n) = r := by
    rw [← numL_length, List.drop_left]
  unfold countL
  rw [e]
  simp only [ne_eq, not_true_eq_false, if_false]
  rw [if_neg (by omega), hd]
theorem text_text (most : Int) (t r : List UInt8) (h : t.length < 2 ^ 63) (hm : (t.length : Int) ≤ most) : textR most (textL t ++ r) = (t, r, 0) := by
  have e := count_num most t.length (t ++ r) h hm
  unfold textR textL
  rw [List.append_assoc, e]
  simp
end Go.Proofs.YtjbagjhadmbjnaaDoor.Code
namespace Go.Proofs.YtjbagjhadmbjnaaDoor
open Go.Shelf Go.RowKit
def lays156_ren : Go.Shelf.Ren := ⟨fun | 156 => 23 | 165 => 41 | 166 => 42 | 169 => 43 | 240 => 59 | 241 => 60 | 276 => 73 | 277 => 74 | n => n, fun | 31 => 30 | 9 => 9 | 3 => 3 | 4 => 4 | 0 => 0 | 20 => 20 | 72 => 59 | 76 => 63 | 70 => 57 | 37 => 40 | 75 => 62 | 127 => 82 | 164 => 92 | 5 => 5 | 80 => 65 | n => n, fun | n => n⟩
theorem lays156 : Go.Proofs.Lays.n156 Tryd.prog lays156_ren := {
  mixed := by kernel_rfl
  f156 := Tryd.func23.trans (congrArg some (by kernel_rfl))
  f165 := Tryd.func41.trans (congrArg some (by kernel_rfl))
  f166 := Tryd.func42.trans (congrArg some (by kernel_rfl))
  f169 := Tryd.func43.trans (congrArg some (by kernel_rfl))
  f240 := Tryd.func59.trans (congrArg some (by kernel_rfl))
  f241 := Tryd.func60.trans (congrArg some (by kernel_rfl))
  f276 := Tryd.func73.trans (congrArg some (by kernel_rfl))
  f277 := Tryd.func74.trans (congrArg some (by kernel_rfl))
  t0 := Tryd.underlying0
  a0 := Tryd.isAgg0
  z0 := Tryd.sizeOf0
  v0 := Tryd.zeroValue0
  t3 := Tryd.underlying3
  a3 := Tryd.isAgg3
  z3 := Tryd.sizeOf3
  v3 := Tryd.zeroValue3
  t4 := Tryd.underlying4
  a4 := Tryd.isAgg4
  z4 := Tryd.sizeOf4
  v4 := Tryd.zeroValue4
  t9 := Tryd.underlying9
  a9 := Tryd.isAgg9
  z9 := Tryd.sizeOf9
  v9 := Tryd.zeroValue9
  t20 := Tryd.underlying20
  a20 := Tryd.isAgg20
  z20 := Tryd.sizeOf20
  v20 := Tryd.zeroValue20
  t31 := Tryd.underlying30
  a31 := Tryd.isAgg30
  z31 := Tryd.sizeOf30
  v31 := Tryd.zeroValue30
  t37 := Tryd.underlying40
  a37 := Tryd.isAgg40
  z37 := Tryd.sizeOf40
  v37 := Tryd.zeroValue40
  t70 := Tryd.underlying57
  a70 := Tryd.isAgg57
  z70 := Tryd.sizeOf57
  v70 := Tryd.zeroValue57
  t72 := Tryd.underlying59
  a72 := Tryd.isAgg59
  z72 := Tryd.sizeOf59
  v72 := Tryd.zeroValue59
  t75 := Tryd.underlying62
  a75 := Tryd.isAgg62
  z75 := Tryd.sizeOf62
  v75 := Tryd.zeroValue62
  t76 := Tryd.underlying63
  a76 := Tryd.isAgg63
  z76 := Tryd.sizeOf63
  v76 := Tryd.zeroValue63
  t127 := Tryd.underlying82
  a127 := Tryd.isAgg82
  z127 := Tryd.sizeOf82
  v127 := Tryd.zeroValue82
  t164 := Tryd.underlying92
  a164 := Tryd.isAgg92
  z164 := Tryd.sizeOf92
  v164 := Tryd.zeroValue92 }
theorem shelf_Builder_Extra_156 : Builder.Extra Tryd.prog lays156_ren := {
  sizeBuilder := by kernel_rfl
  liesBuilder := by kernel_rfl
  t5 := Tryd.underlying5
  a5 := Tryd.isAgg5
  z5 := Tryd.sizeOf5
  v5 := Tryd.zeroValue5
  infoByte := by kernel_rfl
  cellsByte := by kernel_rfl
  sizeByte := by kernel_rfl
  neB5 := by decide }
open Go.RowKit in
open Go.RowKit in
theorem shelf_strings_Join (bk o c : Nat) (xs : List ByteArray) (sep : ByteArray) (w : World) (hcells : ∀ (j : Nat) x, xs[j]? = some x → w.cell? ⟨bk, o + j, none⟩ = some (.string x)) (hbk : bk < w.heap.size) (hN : xs.length ≤ 140737488355328) (hcap : xs.length ≤ c) (hlen : (Lib.join (xs.map (·.data.toList)) sep.data.toList).length ≤ 140737488355328) :
    Calls Tryd.prog 23 #[.slice (some ⟨bk, o, none⟩) xs.length c, .string sep] w fun e w' => e = .returned (.string ⟨(Lib.join (xs.map (·.data.toList)) sep.data.toList).toArray⟩) ∧ Below w.heap.size w w' := Any.strings_Join lays156 shelf_Builder_Extra_156 bk o c xs sep w hcells hbk hN hcap hlen
end Go.Proofs.YtjbagjhadmbjnaaDoor
namespace Go.Proofs.YtjbagjhadmbjnaaDoor
open Go.RowKit
open Go.Proofs.YtjbagjhadmbjnaaDoor.Nd (N)

set_option maxRecDepth 100000 in
theorem npacked_any (p : List UInt8) (leaf : Bool) (w : World) (hp : p.length ≤ 16) (hf : Nib.fitL p = true) :
    Calls Tryd.prog 20 #[.string ⟨p.toArray⟩, .bool leaf] w fun e w' => e = .returned (.string ⟨(Code.textL (Nib.packL p leaf)).toArray⟩) ∧ Below w.heap.size w w' := by
  have HPK := Lib.hid (fun w => pack_good p leaf w (by omega) hf)
  have hl : (Nib.packL p leaf).length ≤ 9 := by rw [Nib.packL_length]; omega
  have HT := Lib.hid (fun w => text_any (Nib.packL p leaf) w (by omega))
  clear hp hf hl
  go_enter Tryd.func20, Tryd.ntmps20
  go_wp2_with fail
  refine (HPK.out _).mono ?_
  rintro e w1 ⟨rfl, hb1⟩
  go_wp2_with fail
  refine (HT.out _).mono ?_
  rintro e w2 ⟨rfl, hb2⟩
  have HB := Lib.hid (bchain hb1 hb2)
  go_wp2
  go_ret
  exact ⟨rfl, HB.out⟩

theorem Nd.bits8_step (l : List (List UInt8)) (k : Nat) (hk : k < l.length) : Nd.bits8 (l.take (k + 1)) = Nd.bits8 (l.take k) * 2 + if l[k] = [] then 0 else 1 := by
  unfold Nd.bits8
  rw [List.take_succ_eq_append_getElem hk, List.foldl_append]
  rfl
theorem Nd.bits8_app (a b : List (List UInt8)) : Nd.bits8 (a ++ b) = Nd.bits8 a * 2 ^ b.length + Nd.bits8 b := by
  have key : ∀ (b : List (List UInt8)) (s : Nat), b.foldl (fun a k => a * 2 + if k = [] then 0 else 1) s = s * 2 ^ b.length + b.foldl (fun a k => a * 2 + if k = [] then 0 else 1) 0 := by
    intro b
    induction b with
    | nil => intro s; simp
    | cons x b ih =>
      intro s
      rw [List.foldl_cons, List.foldl_cons, ih (s * 2 + _), ih (0 * 2 + _), List.length_cons, Nat.pow_succ]
      generalize (if x = [] then 0 else 1) = q
      rw [Nat.add_mul, Nat.zero_mul, Nat.zero_add, Nat.mul_assoc s 2, Nat.mul_comm 2]
      omega
  unfold Nd.bits8
  rw [List.foldl_append]
  exact key b _
theorem Nd.bits16 (L : List (List UInt8)) (hL : L.length = 16) : Nd.bits8 L = Nd.bits8 (L.take 8) * 256 + Nd.bits8 (L.drop 8) ∧ Nd.bits8 (L.take 8) < 256 ∧ Nd.bits8 (L.drop 8) < 256 := by
  have h := Nd.bits8_app (L.take 8) (L.drop 8)
  have hd : (L.drop 8).length = 8 := by rw [List.length_drop, hL]
  rw [List.take_append_drop, hd] at h
  exact ⟨h, Nd.bits8_lt _ (by rw [List.length_take, hL]; rfl), Nd.bits8_lt _ hd⟩
theorem or_one (b : Nat) (h : b < 65536) : bits .or .i64 ((b : Int) * 2) 1 = ((b * 2 + 1 : Nat) : Int) := by
  have h3 := i64_or_nat (b * 2) 1 (by omega) (by decide)
  have h4 : b * 2 ||| 1 = b * 2 + 1 := by
    have h5 := Nat.shiftLeft_add_eq_or_of_lt (show 1 < 2 ^ 1 by decide) b
    rw [Nat.shiftLeft_eq] at h5
    exact h5.symm
  rw [h4, Int.natCast_mul] at h3
  exact h3
set_option maxRecDepth 100000 in
theorem ntaken_any (L : List (List UInt8)) (w : World) (hL : L.length = 16) :
    Calls Tryd.prog 22 #[aval L] w fun e w' => e = .returned (.string ⟨[Nd.byteN (Nd.bits8 (L.take 8)), Nd.byteN (Nd.bits8 (L.drop 8))].toArray⟩) ∧ Below w.heap.size w w' := by
  unfold aval
  have HKE : Hid (∀ (k : Nat) (hk : k < 16), ∀ w, (Instr.index 22 (.agg (scells L).toArray) (.int .i64 k)).run Tryd.prog w = .ok (.string ⟨(L[k]'(by omega)).toArray⟩) w) := Lib.hid (fun k hk w => idx_strs L hL k hk w)
  have hcs : (scells L).toArray.size = 16 := by rw [List.size_toArray, scells_length, hL]
  have HI : Hid ((Tryd.prog.info? 22).map (·.size) = some (scells L).toArray.size) := Lib.hid (by rw [hcs]; kernel_rfl)
  have HRO : Hid ((w.alloc (.cells (scells L).toArray 22)).heap[w.heap.size]? = some (.cells (scells L).toArray 22 (0, 0))) := Lib.hid (heap_new_at w _ _ rfl)
  have HB : Hid (Below w.heap.size w (w.alloc (.cells (scells L).toArray 22))) := Lib.hid ((Below.refl _ w).alloc (Nat.le_refl _) _)
  obtain ⟨C, hC⟩ : ∃ C, (scells L).toArray = C := ⟨_, rfl⟩
  rw [hC] at HI HRO HB HKE ⊢
  have HN := Lib.hid hL
  clear hC hcs
  go_enter Tryd.func22, Tryd.ntmps22
  go_wp2_with (refine wpList_load_row (by rfl) _ _ (by rfl) w.heap.size (by rfl) _ C _ _ HRO.out Tryd.underlying22 (by rfl) HI.out ?_)
  generalize (w.alloc (.cells C 22)) = w0 at *
  go_loopw [3, 7] (fun b i wr => ∃ k c : Nat, k ≤ 16 ∧ i = .int .i64 k ∧ b = .int .i64 c ∧ c = Nd.bits8 (L.take k) ∧ c < 2 ^ k ∧ wr = w0) (fun _ i _ => 16 - (intOf i).toNat)
  case atStart => exact ⟨0, 0, Nat.zero_le _, rfl, rfl, rfl, by decide, rfl⟩
  case round =>
    obtain ⟨k, c, hk, rfl, rfl, hc, hc2, rfl⟩ := hrel
    have HC := Lib.hid hc
    have hcb : (c : Int) < 65536 := by
      have h1 : 2 ^ k ≤ 2 ^ 16 := Nat.pow_le_pow_right (by decide) hk
      have h2 : (2 : Nat) ^ 16 = 65536 := rfl
      omega
    have hc0 : (0 : Int) ≤ (c : Int) := by omega
    have HC2 := Lib.hid hc2
    clear hc hc2
    by_cases hlt : k < 16
    · have h1 : (k : Int) < 16 := by omega
      have h0 : (0 : Int) ≤ (k : Int) := by omega
      have n0 := HKE.out k hlt
      have HST := Lib.hid (Nd.bits8_step L k (by have := HN.out; omega))
      obtain ⟨x, hx⟩ : ∃ x, L[k]'(by have := HN.out; omega) = x := ⟨_, rfl⟩
      rw [hx] at n0 HST
      clear hx
      by_cases he : x = []
      · subst he
        rw [if_pos rfl] at HST
        go_wp2
        exact ⟨⟨k + 1, c * 2, by omega, by go_num, by go_num, by rw [HST.out, HC.out]; rfl, by rw [Nat.pow_succ]; have := HC2.out; omega, trivial⟩, by simp [intOf]; omega⟩
      · rw [if_neg he] at HST
        have he1 : (x == []) = false := by rw [beq_eq_false_iff_ne]; exact he
        have ho := or_one c (by omega)
        go_wp2
        exact ⟨⟨k + 1, c * 2 + 1, by omega, by go_num, by go_num, by rw [HST.out, HC.out], by rw [Nat.pow_succ]; have := HC2.out; omega, trivial⟩, by simp [intOf]; omega⟩
    · have h1 : ¬ ((k : Int) < 16) := by omega
      obtain rfl : k = 16 := by omega
      rw [List.take_of_length_le (by have := HN.out; omega)] at HC
      obtain ⟨b1, b2, b3⟩ := Nd.bits16 L HN.out
      rw [← HC.out] at b1
      obtain ⟨h, hh⟩ : ∃ h, Nd.bits8 (L.take 8) = h := ⟨_, rfl⟩
      obtain ⟨l, hll⟩ : ∃ l, Nd.bits8 (L.drop 8) = l := ⟨_, rfl⟩
      have HH := Lib.hid hh
      have HL := Lib.hid hll
      rw [hh, hll] at b1
      rw [hh] at b2
      rw [hll] at b3
      have kc := conv_two' wr (Nd.byteN h) (Nd.byteN l) ((c : Int) / 256) ((c : Int) % 256) (by rw [Nd.byteN, Code.ofNat_toNat _ b2]; omega) (by rw [Nd.byteN, Code.ofNat_toNat _ b3]; omega)
      clear hh hll b1 b2 b3
      go_wp2
      go_ret
      exact ⟨by rw [HH.out, HL.out]; rfl, HB.out.alloc HB.out.size _⟩
theorem Nd.join_flat (l : List (List UInt8)) : Lib.join l [] = l.flatten := by
  induction l with
  | nil => rfl
  | cons a l ih =>
    rw [Lib.join_cons, List.flatten_cons]
    simp [Lib.joinTail]
theorem njoin_any (L : List (List UInt8)) (g : Nat) (w : World) (hL : L.length = 16) (hg : g < w.heap.size) (hr : w.rangeAt g 3 (scells L)) (hl : L.flatten.length ≤ 1000000) :
    Calls Tryd.prog 23 #[.slice (some ⟨g, 3, none⟩) 16 16, .string ⟨#[]⟩] w fun e w' => e = .returned (.string ⟨L.flatten.toArray⟩) ∧ Below w.heap.size w w' := by
  have h1 : (L.map fun l => (⟨l.toArray⟩ : ByteArray)).length = 16 := by rw [List.length_map, hL]
  have h2 : (L.map fun l => (⟨l.toArray⟩ : ByteArray)).map (·.data.toList) = L := by
    rw [List.map_map]
    exact (List.map_congr_left (fun a _ => by simp)).trans (List.map_id _)
  have h3 := shelf_strings_Join g 3 16 (L.map fun l => ⟨l.toArray⟩) ⟨#[]⟩ w (fun j x hx => by
    rw [List.getElem?_map] at hx
    obtain ⟨l, hl1, rfl⟩ := Option.map_eq_some_iff.1 hx
    exact hr j _ (by simp [scells, hl1])) hg (by rw [h1]; omega) (by rw [h1]; omega) (by
    rw [h2]
    show (Lib.join L []).length ≤ _
    rw [Nd.join_flat]
    omega)
  rw [h1, h2] at h3
  rw [← Nd.join_flat]
  exact h3
theorem Nd.all32_flat (l : List (List UInt8)) (h : Nd.all32 l = true) : l.flatten.length ≤ 32 * l.length := by
  induction l with
  | nil => simp
  | cons a l ih =>
    rw [Nd.all32_cons, Bool.and_eq_true] at h
    have h1 := ih h.2
    have h2 : a.length ≤ 32 := by
      have := h.1
      simp only [Bool.or_eq_true, decide_eq_true_eq] at this
      rcases this with q | q
      · rw [q]; simp
      · omega
    rw [List.flatten_cons, List.length_append, List.length_cons]
    omega
theorem Nd.fine_parts {n : N} (h : Nd.fine n = true) : Nd.all32 n.kids = true ∧ Nib.fitL n.path = true ∧ n.path.length ≤ 16 ∧ n.val.length ≤ 32 ∧ (n.kind = 1 ∨ n.kind = 2 ∨ n.kind = 3) := by
  simp only [Nd.fine, Bool.and_eq_true, decide_eq_true_eq] at h
  obtain ⟨a, b, c, d, e⟩ := h
  refine ⟨a, b, c, d, ?_⟩
  by_cases k1 : n.kind = 1
  · exact Or.inl k1
  by_cases k2 : n.kind = 2
  · exact Or.inr (Or.inl k2)
  by_cases k3 : n.kind = 3
  · exact Or.inr (Or.inr k3)
  rw [if_neg k1, if_neg k2, if_neg k3] at e
  cases e
theorem Code.textL_le' (s : List UInt8) (n : Nat) (h : s.length ≤ n) (hn : n ≤ 100) : (Code.textL s).length ≤ n + 9 := by
  rw [Code.textL, List.length_append, Code.numL_length]
  have : Code.sz s.length ≤ 8 := Code.sz_le8 s.length (by omega)
  omega
end Go.Proofs.YtjbagjhadmbjnaaDoor
namespace Go.Proofs.YtjbagjhadmbjnaaDoor
open Go.RowKit
open Go.Proofs.YtjbagjhadmbjnaaDoor.Nd (N)
attribute [local go_sem ↓] Go.wp_at_zero Go.wp_at_succ

def load16 (v : Value) : Sem Value := Instr.loadAt 22 v
theorem wp_load16 {P : Program} {dst : Option Tmp} {x : Operand} {ty : TypeId} {pos : String} {after : Array Edge} {guard : Option (Nat × Bool)} {a : Act} {w : World} {K : Act → World → Prop} {Q : Exit → Act → World → Prop} :
    Oper.wp P { dst := dst, op := .load 22 x, type := ty, pos := pos, after := after, guard := guard } a w K Q = Oper.upon P { dst := dst, op := .load 22 x, type := ty, pos := pos, after := after, guard := guard } a K Q (((load16 (a.eval x)).run P w).andThen fun v w' => .ok (.value v) w') := by
  unfold Oper.wp execOp load16
  simp only [Sem.run_bind, Sem.run_pure]
attribute [local go_sem ↓] wp_load16
theorem run_l16 {w : World} {g o : Nat} {L : List (List UInt8)} (hc : w.rangeAt g o (scells L)) (hi : (Tryd.prog.info? 22).map (·.size) = some (scells L).length) : (load16 (.pointer (some ⟨g, o, none⟩))).run Tryd.prog w = .ok (aval L) w :=
  run_loadAt_mid (P := Tryd.prog) w g o 22 (scells L) _ hc Tryd.underlying22 rfl hi
def Nd.encS (n : N) : List UInt8 := if Nd.fine n then Nd.written n else []
def Nd.encC (n : N) : Int := if Nd.fine n then 0 else 80
set_option maxRecDepth 100000 in
set_option maxHeartbeats 2000000 in
theorem nencode_any (n : N) (w : World) (hn : n.kids.length = 16) :
    Calls Tryd.prog 8 #[nval n] w fun e w' => e = .returned (.tuple #[.string ⟨(Nd.encS n).toArray⟩, .int .i64 (Nd.encC n)]) ∧ Below w.heap.size w w' := by
  obtain ⟨C, hC, HB0, HCE, HI, HI2⟩ := nbox n w hn
  have HCK := Lib.hid (fun w => ncheck_any n w hn)
  unfold Nd.encS Nd.encC
  unfold nval at HCK ⊢
  rw [hC] at HCK ⊢
  clear hC
  obtain ⟨-, -, -, -, -, cR⟩ := HCE.out _ (Below.refl _ _)
  have HRO := Lib.hid cR
  clear cR
  cases hf : Nd.fine n with
  | false =>
    rw [hf] at HCK
    rw [if_neg (by decide), if_neg (by decide)]
    rw [if_neg (by decide)] at HCK
    clear hf
    go_enter Tryd.func8, Tryd.ntmps8
    go_wp2_with (refine wpList_load_row (by rfl) _ _ (by rfl) w.heap.size (by rfl) _ C _ _ HRO.out Tryd.underlying24 (by rfl) HI.out ?_)
    refine (HCK.out _).mono ?_
    rintro e w1 ⟨rfl, hb1⟩
    go_wp2
    go_ret2
    exact ⟨rfl, bchain HB0.out hb1⟩
  | true =>
    rw [hf] at HCK
    rw [if_pos rfl, if_pos rfl]
    rw [if_pos rfl] at HCK
    obtain ⟨hall, hfit, hp16, hv32, hkd⟩ := Nd.fine_parts hf
    have HTX := Lib.hid (fun w => text_any n.val w (by omega))
    have HPL := Lib.hid (fun w => npacked_any n.path true w hp16 hfit)
    have HPE := Lib.hid (fun w => npacked_any n.path false w hp16 hfit)
    have HTK := Lib.hid (fun w => ntaken_any n.kids w hn)
    have hfl := Nd.all32_flat n.kids hall
    have HJN := Lib.hid (fun g w hg hr => njoin_any n.kids g w hn hg hr (by omega))
    have ht1 := Code.textL_le' (Nib.packL n.path true) 9 (by rw [Nib.packL_length]; omega) (by omega)
    have ht2 := Code.textL_le' (Nib.packL n.path false) 9 (by rw [Nib.packL_length]; omega) (by omega)
    have ht3 := Code.textL_le' n.val 32 hv32 (by omega)
    have hw : Nd.written n = if n.kind = 3 then [3] ++ (([Nd.byteN (Nd.bits8 (n.kids.take 8)), Nd.byteN (Nd.bits8 (n.kids.drop 8))] ++ n.kids.flatten) ++ Code.textL n.val) else if n.kind = 1 then [1] ++ (Code.textL (Nib.packL n.path true) ++ Code.textL n.val) else [2] ++ (Code.textL (Nib.packL n.path false) ++ n.kids.getD 0 []) := by
      unfold Nd.written Nd.branchL
      rcases hkd with k | k | k <;> rw [k] <;> simp
    rw [hw]
    have hz32 : (n.kids.getD 0 []).length ≤ 32 := by
      have := List.all_eq_true.1 hall (n.kids[0]'(by omega)) (List.getElem_mem _)
      rw [List.getD_eq_getElem?_getD, List.getElem?_eq_getElem (by omega)]
      simp only [Bool.or_eq_true, decide_eq_true_eq] at this
      show (n.kids[0]'(by omega)).length ≤ 32
      rcases this with q | q
      · rw [q]; simp
      · omega
    clear hw hall hfit hp16 hv32 hf
    rcases hkd with hk | hk | hk
    · rw [if_neg (by rw [hk]; decide), if_pos hk]
      have HCF : Hid (∀ w', Below (w.alloc (.cells C 24)).heap.size (w.alloc (.cells C 24)) w' → w'.cell? ⟨w.heap.size, 0, none⟩ = some (.int .i64 1) ∧ w'.cell? ⟨w.heap.size, 1, none⟩ = some (.string ⟨n.path.toArray⟩) ∧ w'.cell? ⟨w.heap.size, 2, none⟩ = some (.string ⟨n.val.toArray⟩)) := Lib.hid (fun w' h => by obtain ⟨a, b, c, -⟩ := HCE.out w' h; rw [hk] at a; exact ⟨a, b, c⟩)
      obtain ⟨T1, hT1⟩ : ∃ T, Code.textL (Nib.packL n.path true) = T := ⟨_, rfl⟩
      obtain ⟨T2, hT2⟩ : ∃ T, Code.textL n.val = T := ⟨_, rfl⟩
      rw [hT1] at HPL ht1 ⊢
      rw [hT2] at HTX ht3 ⊢
      have h1 := cat_mk T1 T2
      have h2 := cat_mk [1] (T1 ++ T2)
      have hX1 : (T1 ++ T2).length ≤ 59 := by rw [List.length_append]; omega
      have hY1 : ([1] ++ (T1 ++ T2) : List UInt8).length ≤ 60 := by rw [List.length_append]; simp only [List.length_singleton]; omega
      obtain ⟨X, hX⟩ : ∃ X, T1 ++ T2 = X := ⟨_, rfl⟩
      rw [hX] at h1 h2 hX1 hY1 ⊢
      obtain ⟨Y, hY⟩ : ∃ Y, ([1] ++ X : List UInt8) = Y := ⟨_, rfl⟩
      rw [hY] at h2 hY1 ⊢
      clear hT1 hT2 hX hY HPE HTK HJN hz32 ht2 hfl
      go_enter Tryd.func8, Tryd.ntmps8
      go_wp2_with (refine wpList_load_row (by rfl) _ _ (by rfl) w.heap.size (by rfl) _ C _ _ HRO.out Tryd.underlying24 (by rfl) HI.out ?_)
      refine (HCK.out _).mono ?_
      rintro e w1 ⟨rfl, hb1⟩
      generalize (w.alloc (.cells C 24)) = w0 at *
      have hb2 : Below w0.heap.size w0 (w1.alloc (.cells #[.int .u8 1] 5)) := hb1.alloc hb1.size _
      obtain ⟨c0, c1, c2⟩ := HCF.out _ hb1
      obtain ⟨d0, d1, d2⟩ := HCF.out _ hb2
      have HB1 := Lib.hid hb1
      have HFI : Hid (∀ w', Below w0.heap.size w0 w' → Below w.heap.size w w') := Lib.hid (fun w' h => bchain HB0.out h)
      have HBD := Lib.hid hb2.drew
      have HPL' : Hid (∀ w', Below w0.heap.size w0 w' → Calls Tryd.prog 20 #[.string ⟨n.path.toArray⟩, .bool true] w' fun e w'' => e = .returned (.string ⟨T1.toArray⟩) ∧ Below w0.heap.size w0 w'') := Lib.hid (fun w' h => (HPL.out w').mono fun e w'' q => ⟨q.1, h.trans (q.2.mono h.size)⟩)
      have HTX' : Hid (∀ w', Below w0.heap.size w0 w' → Calls Tryd.prog 21 #[.string ⟨n.val.toArray⟩] w' fun e w'' => e = .returned (.string ⟨T2.toArray⟩) ∧ Below w0.heap.size w0 w'') := Lib.hid (fun w' h => (HTX.out w').mono fun e w'' q => ⟨q.1, h.trans (q.2.mono h.size)⟩)
      have kc := conv_one' w1 1 1 rfl w1.heap.size rfl
      clear hb1 hb2
      go_wp2
      have BD := HBD.out
      go_region_with (first | (go_at_call 20; refine (HPL'.out _ (by with_reducible assumption)).mono ?_; rintro e w2 ⟨rfl, hb2⟩; have e1 := (HCF.out _ hb2).2.1; have e2 := (HCF.out _ hb2).2.2) | (go_at_call 21; refine (HTX'.out _ (by with_reducible assumption)).mono ?_; rintro e w3 ⟨rfl, hb3⟩; have f1 := (HCF.out _ hb3).2.1; have f2 := (HCF.out _ hb3).2.2))
      all_goals
        go_wp2
        go_ret2
        first | exact ⟨rfl, HFI.out _ hb3⟩ | exact ⟨rfl, HFI.out _ hb2⟩
    · rw [if_neg (by rw [hk]; decide), if_neg (by rw [hk]; decide)]
      have HCF : Hid (∀ w', Below (w.alloc (.cells C 24)).heap.size (w.alloc (.cells C 24)) w' → w'.cell? ⟨w.heap.size, 0, none⟩ = some (.int .i64 2) ∧ w'.cell? ⟨w.heap.size, 1, none⟩ = some (.string ⟨n.path.toArray⟩) ∧ w'.cell? ⟨w.heap.size, 3, none⟩ = some (.string ⟨(n.kids.getD 0 []).toArray⟩)) := Lib.hid (fun w' h => by obtain ⟨a, b, -, c, -⟩ := HCE.out w' h; rw [hk] at a; exact ⟨a, b, c⟩)
      obtain ⟨T1, hT1⟩ : ∃ T, Code.textL (Nib.packL n.path false) = T := ⟨_, rfl⟩
      obtain ⟨T2, hT2⟩ : ∃ T, n.kids.getD 0 [] = T := ⟨_, rfl⟩
      rw [hT1] at HPE ht2 ⊢
      rw [hT2] at HCF hz32 ⊢
      have h1 := cat_mk T1 T2
      have h2 := cat_mk [2] (T1 ++ T2)
      have hX1 : (T1 ++ T2).length ≤ 59 := by rw [List.length_append]; omega
      have hY1 : ([2] ++ (T1 ++ T2) : List UInt8).length ≤ 60 := by rw [List.length_append]; simp only [List.length_singleton]; omega
      obtain ⟨X, hX⟩ : ∃ X, T1 ++ T2 = X := ⟨_, rfl⟩
      rw [hX] at h1 h2 hX1 hY1 ⊢
      obtain ⟨Y, hY⟩ : ∃ Y, ([2] ++ X : List UInt8) = Y := ⟨_, rfl⟩
      rw [hY] at h2 hY1 ⊢
      clear hT1 hT2 hX hY HPL HTK HJN HTX ht1 ht3 hfl
      go_enter Tryd.func8, Tryd.ntmps8
      go_wp2_with (refine wpList_load_row (by rfl) _ _ (by rfl) w.heap.size (by rfl) _ C _ _ HRO.out Tryd.underlying24 (by rfl) HI.out ?_)
      refine (HCK.out _).mono ?_
      rintro e w1 ⟨rfl, hb1⟩
      generalize (w.alloc (.cells C 24)) = w0 at *
      have hb2 : Below w0.heap.size w0 (w1.alloc (.cells #[.int .u8 2] 5)) := hb1.alloc hb1.size _
      obtain ⟨c0, c1, c2⟩ := HCF.out _ hb1
      obtain ⟨d0, d1, d2⟩ := HCF.out _ hb2
      have HFI : Hid (∀ w', Below w0.heap.size w0 w' → Below w.heap.size w w') := Lib.hid (fun w' h => bchain HB0.out h)
      have HBD := Lib.hid hb2.drew
      have HPL' : Hid (∀ w', Below w0.heap.size w0 w' → Calls Tryd.prog 20 #[.string ⟨n.path.toArray⟩, .bool false] w' fun e w'' => e = .returned (.string ⟨T1.toArray⟩) ∧ Below w0.heap.size w0 w'') := Lib.hid (fun w' h => (HPE.out w').mono fun e w'' q => ⟨q.1, h.trans (q.2.mono h.size)⟩)
      have kc := conv_one' w1 2 2 rfl w1.heap.size rfl
      clear hb1 hb2
      go_wp2
      have BD := HBD.out
      go_region_with (go_at_call 20; refine (HPL'.out _ (by with_reducible assumption)).mono ?_; rintro e w2 ⟨rfl, hb2⟩; have e1 := (HCF.out _ hb2).2.1; have e2 := (HCF.out _ hb2).2.2)
      all_goals
        go_wp2
        go_ret2
        exact ⟨rfl, HFI.out _ hb2⟩
    · rw [if_pos hk]
      have HCF : Hid (∀ w', Below (w.alloc (.cells C 24)).heap.size (w.alloc (.cells C 24)) w' → w'.cell? ⟨w.heap.size, 0, none⟩ = some (.int .i64 3) ∧ w'.cell? ⟨w.heap.size, 2, none⟩ = some (.string ⟨n.val.toArray⟩) ∧ (load16 (.pointer (some ⟨w.heap.size, 3, none⟩))).run Tryd.prog w' = .ok (aval n.kids) w') := Lib.hid (fun w' h => by obtain ⟨a, -, b, -, c, -⟩ := HCE.out w' h; rw [hk] at a; exact ⟨a, b, run_l16 c HI2.out⟩)
      obtain ⟨AV, hAV⟩ : ∃ v, aval n.kids = v := ⟨_, rfl⟩
      rw [hAV] at HCF HTK
      obtain ⟨T1, hT1⟩ : ∃ T, [Nd.byteN (Nd.bits8 (n.kids.take 8)), Nd.byteN (Nd.bits8 (n.kids.drop 8))] = T := ⟨_, rfl⟩
      obtain ⟨J, hJ⟩ : ∃ T, n.kids.flatten = T := ⟨_, rfl⟩
      obtain ⟨T2, hT2⟩ : ∃ T, Code.textL n.val = T := ⟨_, rfl⟩
      have hT1l : T1.length = 2 := by rw [← hT1]; rfl
      rw [hT1] at HTK ⊢
      rw [hJ] at HJN hfl ⊢
      rw [hT2] at HTX ht3 ⊢
      rw [hn] at hfl
      have h0 := cat_mk T1 J
      have h1 := cat_mk (T1 ++ J) T2
      have h2 := cat_mk [3] (T1 ++ J ++ T2)
      have hZ1 : (T1 ++ J).length ≤ 514 := by rw [List.length_append]; omega
      have hX1 : (T1 ++ J ++ T2).length ≤ 600 := by rw [List.length_append]; omega
      have hY1 : ([3] ++ (T1 ++ J ++ T2) : List UInt8).length ≤ 601 := by rw [List.length_append]; simp only [List.length_singleton]; omega
      obtain ⟨Z, hZ⟩ : ∃ Z, T1 ++ J = Z := ⟨_, rfl⟩
      rw [hZ] at h0 h1 h2 hZ1 hX1 hY1 ⊢
      obtain ⟨X, hX⟩ : ∃ X, Z ++ T2 = X := ⟨_, rfl⟩
      rw [hX] at h1 h2 hX1 hY1 ⊢
      obtain ⟨Y, hY⟩ : ∃ Y, ([3] ++ X : List UInt8) = Y := ⟨_, rfl⟩
      rw [hY] at h2 hY1 ⊢
      have hsz : w.heap.size < (w.alloc (.cells C 24)).heap.size := by simp
      clear hT1 hT2 hJ hZ hX hY HPL HPE ht1 ht2 hz32 hAV
      go_enter Tryd.func8, Tryd.ntmps8
      go_wp2_with (refine wpList_load_row (by rfl) _ _ (by rfl) w.heap.size (by rfl) _ C _ _ HRO.out Tryd.underlying24 (by rfl) HI.out ?_)
      refine (HCK.out _).mono ?_
      rintro e w1 ⟨rfl, hb1⟩
      generalize (w.alloc (.cells C 24)) = w0 at *
      have hb2 : Below w0.heap.size w0 (w1.alloc (.cells #[.int .u8 3] 5)) := hb1.alloc hb1.size _
      obtain ⟨c0, c1, c2⟩ := HCF.out _ hb1
      obtain ⟨d0, d1, d2⟩ := HCF.out _ hb2
      have HFI : Hid (∀ w', Below w0.heap.size w0 w' → Below w.heap.size w w') := Lib.hid (fun w' h => bchain HB0.out h)
      have HBD := Lib.hid hb2.drew
      have HTK' : Hid (∀ w', Below w0.heap.size w0 w' → Calls Tryd.prog 22 #[AV] w' fun e w'' => e = .returned (.string ⟨T1.toArray⟩) ∧ Below w0.heap.size w0 w'') := Lib.hid (fun w' h => (HTK.out w').mono fun e w'' q => ⟨q.1, h.trans (q.2.mono h.size)⟩)
      have HTX' : Hid (∀ w', Below w0.heap.size w0 w' → Calls Tryd.prog 21 #[.string ⟨n.val.toArray⟩] w' fun e w'' => e = .returned (.string ⟨T2.toArray⟩) ∧ Below w0.heap.size w0 w'') := Lib.hid (fun w' h => (HTX.out w').mono fun e w'' q => ⟨q.1, h.trans (q.2.mono h.size)⟩)
      have HJN' : Hid (∀ w', Below w0.heap.size w0 w' → Calls Tryd.prog 23 #[.slice (some ⟨w.heap.size, 3, none⟩) 16 16, .string ⟨#[]⟩] w' fun e w'' => e = .returned (.string ⟨J.toArray⟩) ∧ Below w0.heap.size w0 w'') := Lib.hid (fun w' h => (HJN.out w.heap.size w' (Nat.lt_of_lt_of_le hsz h.size) (HCE.out w' h).2.2.2.2.1).mono fun e w'' q => ⟨q.1, h.trans (q.2.mono h.size)⟩)
      have kc := conv_one' w1 3 3 rfl w1.heap.size rfl
      have e2 : (load16 (.pointer (some ⟨w.heap.size, 3, none⟩))).run Tryd.prog (w1.alloc (.cells #[.int .u8 3] 5)).drew = .ok AV (w1.alloc (.cells #[.int .u8 3] 5)).drew := (HCF.out _ HBD.out).2.2
      clear hb1 hb2 hsz hn
      go_wp2
      have BD := HBD.out
      go_region_with (first | (go_at_call 22; refine (HTK'.out _ (by with_reducible assumption)).mono ?_; rintro e w2 ⟨rfl, hb2⟩; have e1 := (HCF.out _ hb2).2.1; have e2 := (HCF.out _ hb2).2.2) | (go_at_call 23; refine (HJN'.out _ (by with_reducible assumption)).mono ?_; rintro e w3 ⟨rfl, hb3⟩; have f1 := (HCF.out _ hb3).2.1; have f2 := (HCF.out _ hb3).2.2) | (go_at_call 21; refine (HTX'.out _ (by with_reducible assumption)).mono ?_; rintro e w4 ⟨rfl, hb4⟩; have q1 := (HCF.out _ hb4).2.1; have q2 := (HCF.out _ hb4).2.2))
      all_goals
        go_wp2
        go_ret2
        first | exact ⟨rfl, HFI.out _ hb4⟩ | exact ⟨rfl, HFI.out _ hb3⟩ | exact ⟨rfl, HFI.out _ hb2⟩
end Go.Proofs.YtjbagjhadmbjnaaDoor
