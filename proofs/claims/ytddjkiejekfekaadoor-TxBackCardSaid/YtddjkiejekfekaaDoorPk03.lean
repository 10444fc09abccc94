/- CodeText, DigMath, ShaSumMath, ShaRot, ShaBase, ShaHash, ShaTurn -/
import Derived.Test.YtddjkiejekfekaaDoorPk01
import Derived.Lib.Hide
import Derived.WalkSpells
import Derived.WalkLawsBesides
import Derived.Deep.RegionLaw
import Derived.Deep.AppendLies
import Derived.Lib.AppendStr
import Derived.WalkKit
import Derived.Test.YtddjkiejekfekaaDoorProg
import Derived.Deep.QuietTactic
import Derived.BigQuiet
import Derived.Deep.WholeRow
import Derived.Deep.MidRow
import Derived.Laws.CopyOwn
import Derived.Deep.RegionHeld3
import Derived.Deep.DrawnRows
import Derived.Deep.Cut
import Derived.Deep.CutRange
namespace Go.Proofs.YtddjkiejekfekaaDoor
open Go.RowKit

theorem bitLenAux_eq (f n : Nat) (h : n < 2 ^ f) : Lib.bitLenAux f n = Code.lenN n := by
  induction f generalizing n with
  | zero => simp at h; subst h; rfl
  | succ f ih =>
    simp only [Lib.bitLenAux]
    by_cases h0 : n = 0
    · simp [h0, Code.lenN]
    · rw [if_neg h0, ih (n / 2) (by rw [Nat.pow_succ] at h; omega)]
      by_cases h1 : 2 ≤ n
      · rw [Code.len_shift n 1 (by simpa using h1)]
      · have e : n = 1 := by omega
        subst e
        decide
theorem len64_any (n : Nat) (w : World) (hn : n < 2 ^ 63) :
    Calls Tryd.prog 71 #[.int .u64 (n : Int)] w fun e w' => e = .returned (.int .i64 (Code.lenN n : Nat)) ∧ w' = w := by
  have h := shelf_len64 (n : Int) w (by omega) (by omega)
  rw [Int.toNat_natCast, Lib.bitLen, bitLenAux_eq 64 n (by omega)] at h
  exact h

end Go.Proofs.YtddjkiejekfekaaDoor
namespace Go.Proofs.YtddjkiejekfekaaDoor
open Go.RowKit

theorem shr_byte (n k j : Nat) : (n : Int) / 2 ^ (8 * (k - 1 - j)) % 256 = ((UInt8.ofNat (n / 256 ^ (k - 1 - j) % 256)).toNat : Nat) := by
  have e : (2 : Nat) ^ (8 * (k - 1 - j)) = 256 ^ (k - 1 - j) := by rw [Nat.pow_mul]
  have e2 : (2 : Int) ^ (8 * (k - 1 - j)) = ((256 ^ (k - 1 - j) : Nat) : Int) := by rw [← e]; simp
  rw [Code.ofNat_toNat _ (by omega), e2]
  simp

set_option maxHeartbeats 400000 in
theorem addNum_any (n : Nat) (hn : n < 2 ^ 63) (B : Nat) (v : Value) (xs : List UInt8) (w : World) (hB : B ≤ w.heap.size) (hx : xs.length ≤ 100000000)
    (hown : w.ownsRow B 5 1 v xs.length (cellsL xs)) :
    Calls Tryd.prog 64 #[v, .int .i64 n] w fun e w' => ∃ v', e = .returned v' ∧ w'.ownsRow B 5 1 v' (xs ++ Code.numL n).length (cellsL (xs ++ Code.numL n)) ∧ Below B w w' := by
  obtain ⟨i0, hi, hz0, hz1, hz2⟩ := info_parts Tryd.infoByte
  obtain ⟨L, hL⟩ : ∃ L, Code.lenN n = L := ⟨_, rfl⟩
  have hs := Code.len_sz n
  have h8 := Code.sz_le8 n (by omega)
  obtain ⟨k, hk⟩ : ∃ k, Code.sz n = k := ⟨_, rfl⟩
  rw [hL, hk] at hs
  have hL8 : L ≤ 64 := by omega
  have hsi : ((L : Int) + 7) / 8 = (k : Int) := by omega
  clear hs
  rw [hk] at h8
  have HL := Lib.hid hL
  have HK := Lib.hid hk
  clear hL hk
  go_enter Tryd.func64, Tryd.ntmps64
  go_wp2_with fail
  refine (len64_any n w hn).mono ?_
  rintro e w1 ⟨rfl, rfl⟩
  rw [HL.out]
  go_wp2_with ((at_builtin; refine wpList_append_own _ rfl _ _ 46 rfl B 5 i0 (.int .u8 0) 1 1 Tryd.underlying46 hi hz0 hz1 hz2 rfl (by decide) v xs.length (cellsL xs) rfl (hown.alloc _) ⟨w1.heap.size, 0, none⟩ 1 1 [.int .u8 (k : Int)] rfl rfl ?c1 ?c2 ?c3 ?c4 ?c5 ?_))
  case c1 => exact cell_one_new _ _ _
  case c2 => simp [Value.oneCell']
  case c3 => unfold maxLen; omega
  case c4 => omega
  case c5 => simp; omega
  intro v1 w2 hown1 hgrow1 _
  have hrow1 : w2.ownsRow B 5 1 v1 (xs ++ [UInt8.ofNat k] ++ Code.be 0 (n / 256 ^ (k - 0))).length (cellsL (xs ++ [UInt8.ofNat k] ++ Code.be 0 (n / 256 ^ (k - 0)))) := by
    have e := Code.ofNat_toNat k (by omega)
    simpa [cellsL, Code.be, Nat.mod_eq_of_lt (show k < 256 by omega)] using hown1
  have hbel1 : Below B w1 w2 := ((Below.refl B w1).alloc (by omega) _).grown hgrow1 (by simp; omega) (fun g hg => (hown.lt g hg).1)
  clear hown1 hgrow1 hown
  go_wp2
  go_loopw [0, 18] (fun u i wr => ∃ j : Nat, j ≤ k ∧ i = .int .i64 j ∧ wr.ownsRow B 5 1 u (xs ++ [UInt8.ofNat k] ++ Code.be j (n / 256 ^ (k - j))).length (cellsL (xs ++ [UInt8.ofNat k] ++ Code.be j (n / 256 ^ (k - j)))) ∧ Below B w1 wr) (fun _ i _ => k - (intOf i).toNat)
  case atStart => exact ⟨0, Nat.zero_le _, rfl, hrow1, hbel1⟩
  case round =>
    obtain ⟨j, hj, rfl, hrow, hbel⟩ := hrel
    by_cases hlt : j < k
    · have h1 : (j : Int) < (k : Int) := by omega
      have hsn := Lib.hid (Code.be_step k j n hlt)
      have hlen := Code.be_length j (n / 256 ^ (k - j))
      have hb := hbel.size
      obtain ⟨ys, hys⟩ : ∃ ys, xs ++ [UInt8.ofNat k] ++ Code.be j (n / 256 ^ (k - j)) = ys := ⟨_, rfl⟩
      have hyl : ys.length ≤ 200000000 := by rw [← hys]; simp [hlen]; omega
      rw [hys] at hrow
      have HY := Lib.hid hys
      clear hys hlen
      go_wp2_with ((at_builtin; refine wpList_append_own _ rfl _ _ 46 rfl B 5 i0 (.int .u8 0) 1 1 Tryd.underlying46 hi hz0 hz1 hz2 rfl (by decide) u0 ys.length (cellsL ys) rfl (hrow.alloc _) ⟨wr.heap.size, 0, none⟩ 1 1 [.int .u8 ((n : Int) / 2 ^ (8 * (k - 1 - j)) % 256)] rfl rfl ?c1 ?c2 ?c3 ?c4 ?c5 ?_))
      case c1 => exact cell_one_new _ _ _
      case c2 => simp [Value.oneCell']
      case c3 => unfold maxLen; omega
      case c4 => omega
      case c5 => simp; omega
      intro v2 w3 hown2 hgrow2 _
      rw [shr_byte] at hown2
      have hrow2 : w3.ownsRow B 5 1 v2 (xs ++ [UInt8.ofNat k] ++ Code.be (j + 1) (n / 256 ^ (k - (j + 1)))).length (cellsL (xs ++ [UInt8.ofNat k] ++ Code.be (j + 1) (n / 256 ^ (k - (j + 1))))) := by
        rw [← hsn.out, ← List.append_assoc, HY.out, cellsL_append, List.length_append]
        exact hown2
      have hbel2 : Below B w1 w3 := (hbel.alloc (by omega) _).grown hgrow2 (by simp; omega) (fun g hg => (hrow.lt g hg).1)
      clear hown2 hgrow2 hrow
      go_wp2
      go_roundw
      case rel => exact ⟨j + 1, by omega, by go_num, hrow2, hbel2⟩
      case measure => simp [intOf]; omega
    · go_wp2
      go_ret
      have e : j = k := by omega
      subst e
      rw [Nat.sub_self, Nat.pow_zero, Nat.div_one, List.append_assoc, List.singleton_append] at hrow
      refine ⟨_, rfl, ?_, hbel⟩
      rw [Code.numL, HK.out]
      exact hrow

theorem num_any (n : Nat) (hn : n < 2 ^ 63) (w : World) :
    Calls Tryd.prog 51 #[.int .i64 n] w fun e w' => e = .returned (.tuple #[.string ⟨(Code.numL n).toArray⟩, .int .i64 0]) ∧ Below w.heap.size w w' := by
  have h0 : ((n : Int) < 0) = False := by simp
  go_enter Tryd.func51, Tryd.ntmps51
  go_wp2_with fail
  refine (addNum_any n hn w.heap.size _ [] w (Nat.le_refl _) (by simp) (ownsNil w _)).mono ?_
  rintro e w1 ⟨v', rfl, hown, hbel⟩
  have hc := conv_own hown
  go_wp2
  go_ret2
  exact ⟨rfl, hbel⟩
end Go.Proofs.YtddjkiejekfekaaDoor
namespace Go.Proofs.YtddjkiejekfekaaDoor
open Go.RowKit

theorem strCells_mk (l : List UInt8) : Lib.strCells ⟨l.toArray⟩ = cellsL l := by simp [Lib.strCells, cellsL]

set_option maxHeartbeats 400000 in
theorem addText_any (s : List UInt8) (B : Nat) (v : Value) (xs : List UInt8) (w : World) (hB : B ≤ w.heap.size) (hx : xs.length ≤ 100000000) (hl : s.length ≤ 100000000)
    (hown : w.ownsRow B 5 1 v xs.length (cellsL xs)) :
    Calls Tryd.prog 50 #[v, .string ⟨s.toArray⟩] w fun e w' => ∃ v', e = .returned v' ∧ w'.ownsRow B 5 1 v' (xs ++ Code.textL s).length (cellsL (xs ++ Code.textL s)) ∧ Below B w w' := by
  obtain ⟨i0, hi, hz0, hz1, hz2⟩ := info_parts Tryd.infoByte
  go_enter Tryd.func50, Tryd.ntmps50
  go_wp2_with fail
  refine (addNum_any s.length (by omega) B v xs w hB hx hown).mono ?_
  rintro e w1 ⟨v', rfl, hown1, hbel⟩
  have hb := hbel.size
  have hlen : (xs ++ Code.numL s.length).length ≤ 100000010 := by
    have := Code.sz_le8 s.length (by omega)
    have := Code.numL_length s.length
    rw [List.length_append]; omega
  obtain ⟨ys, hys⟩ : ∃ ys, xs ++ Code.numL s.length = ys := ⟨_, rfl⟩
  rw [hys] at hown1 hlen
  have HY := Lib.hid hys
  clear hys hown
  go_wp2_with ((at_builtin; refine Lib.wpList_append_own_string _ rfl _ _ 46 9 rfl B 5 i0 Tryd.underlying46 Tryd.underlying9 hi hz0 hz1 hz2 v' ys.length (cellsL ys) rfl hown1 ⟨s.toArray⟩ rfl ?c3 ?c4 ?c5 ?_))
  case c3 => rw [size_of_list]; unfold maxLen; omega
  case c4 => rw [size_of_list]; omega
  case c5 => omega
  intro v2 w2 hown2 hgrow2 _
  rw [strCells_mk] at hown2
  have hrow : w2.ownsRow B 5 1 v2 (xs ++ Code.textL s).length (cellsL (xs ++ Code.textL s)) := by
    rw [Code.textL, ← List.append_assoc, HY.out, List.length_append, cellsL_append]
    exact hown2
  have hbel2 : Below B w w2 := hbel.grown hgrow2 (by omega) (fun g hg => (hown1.lt g hg).1)
  clear hown2 hgrow2
  go_wp2
  go_ret
  exact ⟨_, rfl, hrow, hbel2⟩

theorem text_any (s : List UInt8) (w : World) (hl : s.length ≤ 100000000) :
    Calls Tryd.prog 26 #[.string ⟨s.toArray⟩] w fun e w' => e = .returned (.string ⟨(Code.textL s).toArray⟩) ∧ Below w.heap.size w w' := by
  go_enter Tryd.func26, Tryd.ntmps26
  go_wp2_with fail
  refine (addText_any s w.heap.size _ [] w (Nat.le_refl _) (by simp) hl (ownsNil w _)).mono ?_
  rintro e w1 ⟨v', rfl, hown, hbel⟩
  have hc := conv_own hown
  go_wp2
  go_ret
  exact ⟨rfl, hbel⟩

set_option maxHeartbeats 400000 in
theorem list_any (L : List (List UInt8)) (v : Value) (w : World) (hs : Strs w v L) (hl : L.length ≤ 100000000) (ht : (Code.textsL L).length ≤ 90000000) :
    Calls Tryd.prog 43 #[v] w fun e w' => e = .returned (.string ⟨(Code.listL L).toArray⟩) ∧ Below w.heap.size w w' := by
  obtain ⟨A, cap, rfl, hc⟩ := hs
  go_enter Tryd.func43, Tryd.ntmps43
  go_wp2_with fail
  refine (addNum_any L.length (by omega) w.heap.size _ [] w (Nat.le_refl _) (by simp) (ownsNil w _)).mono ?_
  rintro e w1 ⟨v', rfl, hown, hbel⟩
  rw [List.nil_append] at hown
  go_wp2
  go_loopw [3, 11] (fun u i wr => ∃ k : Nat, k ≤ L.length ∧ i = .int .i64 k ∧ wr.ownsRow w.heap.size 5 1 u (Code.numL L.length ++ Code.textsL (L.take k)).length (cellsL (Code.numL L.length ++ Code.textsL (L.take k))) ∧ Below w.heap.size w wr) (fun _ i _ => L.length - (intOf i).toNat)
  case atStart => exact ⟨0, Nat.zero_le _, rfl, by simpa [Code.textsL] using hown, hbel⟩
  case round =>
    obtain ⟨k, hk, rfl, hrow, hb⟩ := hrel
    by_cases hlt : k < L.length
    · have h1 : (k : Int) < (L.length : Int) := by omega
      obtain ⟨a, rfl, hcell⟩ := hc k hlt
      have hcell1 : wr.cell? (a.add k) = some (.string ⟨L[k].toArray⟩) := (hb.cell (World.block_lt_of_cell? _ _ hcell)).trans hcell
      have hsn := Lib.hid (Code.texts_snoc L k hlt)
      have hle := Code.texts_take_le L k
      have hle2 := Code.text_le_texts L k hlt
      have hsz := Code.sz_le8 L.length (by omega)
      have hnl := Code.numL_length L.length
      have hyl : (Code.numL L.length ++ Code.textsL (L.take k)).length ≤ 100000000 := by rw [List.length_append]; omega
      clear hle hsz hnl hc hcell
      obtain ⟨t, ht⟩ : ∃ t, L[k] = t := ⟨_, rfl⟩
      rw [ht] at hcell1 hsn hle2
      clear ht
      go_wp2_with fail
      refine (addText_any t w.heap.size _ _ wr hb.size hyl (by omega) hrow).mono ?_
      rintro e w2 ⟨v2, rfl, hown2, hbel2⟩
      rw [List.append_assoc, hsn.out] at hown2
      have hb2 := hb.trans hbel2
      go_wp2
      go_roundw
      case rel => exact ⟨k + 1, by omega, by go_num, hown2, hb2⟩
      case measure => simp [intOf]; omega
    · rw [List.take_of_length_le (by omega)] at hrow
      have hcv := conv_own hrow
      go_wp2
      go_ret
      exact ⟨rfl, hb⟩

end Go.Proofs.YtddjkiejekfekaaDoor
namespace Go.Proofs.YtddjkiejekfekaaDoor.Dig

/-- A thing that is noted. -/
structure N where
  tag : Int
  text : List UInt8
  dig : List UInt8
theorem N.ext' {a b : N} (h1 : a.tag = b.tag) (h2 : a.text = b.text) (h3 : a.dig = b.dig) : a = b := by
  cases a; cases b; simp_all
instance : DecidableEq N := fun a b =>
  if h : a.tag = b.tag ∧ a.text = b.text ∧ a.dig = b.dig then isTrue (N.ext' h.1 h.2.1 h.2.2) else isFalse (fun e => h (by subst e; exact ⟨rfl, rfl, rfl⟩))
def zero : N := ⟨0, [], []⟩
def isTag (t : Int) : Bool := decide (1 ≤ t) && decide (t ≤ 255)
def taken (L : List N) (n : N) : Prop := isTag n.tag = true ∧ n.dig.length = 32 ∧ n ∉ L ∧ L.length < 1024
instance (L : List N) (n : N) : Decidable (taken L n) := by unfold taken; exact inferInstance
def find (L : List N) (d : List UInt8) : Option N := L.find? (fun n => decide (n.dig = d))
/-- By a sum the first of the things that has it. -/
structure Firsts (M L : List N) : Prop where
  here : ∀ n ∈ M, find L n.dig = some n
  all : ∀ n ∈ L, ∃ m ∈ M, m.dig = n.dig
theorem find_none {L : List N} {d : List UInt8} : find L d = none ↔ ∀ n ∈ L, n.dig ≠ d := by
  simp [find]
theorem find_snoc (L : List N) (n : N) (d : List UInt8) : find (L ++ [n]) d = (find L d).or (if n.dig = d then some n else none) := by
  simp only [find, List.find?_append, List.find?_cons, List.find?_nil]
  by_cases h : n.dig = d <;> simp [h]
theorem Firsts.nil : Firsts [] [] := ⟨fun _ h => by simp at h, fun _ h => by simp at h⟩
theorem Firsts.lost {M L : List N} (h : Firsts M L) {d : List UInt8} (hn : ∀ m ∈ M, m.dig ≠ d) : find L d = none := by
  rw [find_none]
  intro n hnL e
  obtain ⟨m, hm, hmd⟩ := h.all n hnL
  exact hn m hm (hmd.trans e)
theorem Firsts.new {M L : List N} (h : Firsts M L) {n : N} (hn : ∀ m ∈ M, m.dig ≠ n.dig) : Firsts (M ++ [n]) (L ++ [n]) := by
  have hl := h.lost hn
  constructor
  · intro m hm
    rw [find_snoc]
    rcases List.mem_append.1 hm with hm | hm
    · rw [h.here m hm]; rfl
    · obtain rfl : m = n := by simpa using hm
      rw [hl]; simp
  · intro k hk
    rcases List.mem_append.1 hk with hk | hk
    · obtain ⟨m, hm, e⟩ := h.all k hk
      exact ⟨m, List.mem_append_left _ hm, e⟩
    · exact ⟨n, List.mem_append_right _ (by simp), by obtain rfl : k = n := (by simpa using hk); rfl⟩
theorem Firsts.old {M L : List N} (h : Firsts M L) {n m : N} (hm : m ∈ M) (e : m.dig = n.dig) : Firsts M (L ++ [n]) := by
  constructor
  · intro k hk
    rw [find_snoc, h.here k hk]; rfl
  · intro k hk
    rcases List.mem_append.1 hk with hk | hk
    · exact h.all k hk
    · exact ⟨m, hm, by obtain rfl : k = n := (by simpa using hk); exact e⟩
end Go.Proofs.YtddjkiejekfekaaDoor.Dig
namespace Go.Proofs.YtddjkiejekfekaaDoor.Sha
open Go

/-- x turned down by n bits. -/
def rotI (x n : Int) : Int := bits .or .u32 (x * 2 ^ (32 - n).toNat % 4294967296) (x / 2 ^ n.toNat)
/-- The 64 constants. -/
def kTab : List Int := [1116352408, 1899447441, 3049323471, 3921009573, 961987163, 1508970993, 2453635748, 2870763221, 3624381080, 310598401, 607225278, 1426881987, 1925078388, 2162078206, 2614888103, 3248222580, 3835390401, 4022224774, 264347078, 604807628, 770255983, 1249150122, 1555081692, 1996064986, 2554220882, 2821834349, 2952996808, 3210313671, 3336571891, 3584528711, 113926993, 338241895, 666307205, 773529912, 1294757372, 1396182291, 1695183700, 1986661051, 2177026350, 2456956037, 2730485921, 2820302411, 3259730800, 3345764771, 3516065817, 3600352804, 4094571909, 275423344, 430227734, 506948616, 659060556, 883997877, 958139571, 1322822218, 1537002063, 1747873779, 1955562222, 2024104815, 2227730452, 2361852424, 2428436474, 2756734187, 3204031479, 3329325298]
structure St where
  a : Int
  b : Int
  c : Int
  d : Int
  e : Int
  f : Int
  g : Int
  h : Int
def notI (x : Int) : Int := bits .xor .u32 IntKind.u32.max x
def uP (s : St) (k w : Int) : Int :=
  (s.h + bits .xor .u32 (bits .xor .u32 (rotI s.e 6) (rotI s.e 11)) (rotI s.e 25) + bits .xor .u32 (bits .and .u32 s.e s.f) (bits .and .u32 (notI s.e) s.g) + k + w) % 4294967296
def vP (s : St) : Int :=
  (bits .xor .u32 (bits .xor .u32 (rotI s.a 2) (rotI s.a 13)) (rotI s.a 22) + bits .xor .u32 (bits .xor .u32 (bits .and .u32 s.a s.b) (bits .and .u32 s.a s.c)) (bits .and .u32 s.b s.c)) % 4294967296
def step (s : St) (k w : Int) : St := ⟨(uP s k w + vP s) % 4294967296, s.a, s.b, s.c, (s.d + uP s k w) % 4294967296, s.e, s.f, s.g⟩
def rounds (s : St) (W : List Int) : Nat → St
  | 0 => s
  | i + 1 => step (rounds s W i) (kTab.getD i 0) (W.getD i 0)
def St.list (s : St) : List Int := [s.a, s.b, s.c, s.d, s.e, s.f, s.g, s.h]
/-- What the eight words are behind all 64 of W. -/
def turnP (s : St) (W : List Int) : St := rounds s W 64
/-- The word of four bytes, the highest first. -/
def word4 (a b c d : UInt8) : Int := bits .or .u32 (bits .or .u32 (bits .or .u32 ((a.toNat : Int) * 16777216) ((b.toNat : Int) * 65536)) ((c.toNat : Int) * 256)) (d.toNat : Int)
/-- The block's words, 16 of them, as they are laid one by one. -/
def fill (b : List UInt8) : Nat → List Int
  | 0 => List.replicate 64 0
  | k + 1 => (fill b k).set k (word4 (b.getD (4 * k) 0) (b.getD (4 * k + 1) 0) (b.getD (4 * k + 2) 0) (b.getD (4 * k + 3) 0))
def sP (x : Int) : Int := bits .xor .u32 (bits .xor .u32 (rotI x 7) (rotI x 18)) (x / 8)
def tP (y : Int) : Int := bits .xor .u32 (bits .xor .u32 (rotI y 17) (rotI y 19)) (y / 1024)
def more (L : List Int) (n : Nat) : Int := (L.getD (n - 16) 0 + sP (L.getD (n - 15) 0) + L.getD (n - 7) 0 + tP (L.getD (n - 2) 0)) % 4294967296
/-- The further words, up to w(63). -/
def ext (L : List Int) : Nat → List Int
  | 0 => L
  | k + 1 => (ext L k).set (16 + k) (more (ext L k) (16 + k))
def widenP (b : List UInt8) : List Int := ext (fill b 16) 48
def addTo (H T : List Int) : Nat → List Int
  | 0 => H
  | k + 1 => (addTo H T k).set k (((addTo H T k).getD k 0 + T.getD k 0) % 4294967296)
def addP (s t : St) : St := ⟨(s.a + t.a) % 4294967296, (s.b + t.b) % 4294967296, (s.c + t.c) % 4294967296, (s.d + t.d) % 4294967296, (s.e + t.e) % 4294967296, (s.f + t.f) % 4294967296, (s.g + t.g) % 4294967296, (s.h + t.h) % 4294967296⟩
/-- What the words s are behind the block b. -/
def blockP (s : St) (b : List UInt8) : St := addP s (turnP s (widenP b))
theorem addTo_length (H T : List Int) (k : Nat) : (addTo H T k).length = H.length := by
  induction k with
  | zero => rfl
  | succ k ih => simp [addTo, ih]
/-- The first words. -/
def first : St := ⟨1779033703, 3144134277, 1013904242, 2773480762, 1359893119, 2600822924, 528734635, 1541459225⟩
/-- The byte of a number. -/
def byteOf (z : Int) : UInt8 := UInt8.ofNat (z % 256).toNat
theorem byteOf_toNat (z : Int) : ((byteOf z).toNat : Int) = z % 256 := by
  have h0 := Int.emod_nonneg z (show (256 : Int) ≠ 0 by decide)
  have h1 := Int.emod_lt_of_pos z (show (0 : Int) < 256 by decide)
  simp only [byteOf, UInt8.toNat_ofNat']
  omega
/-- The words' bytes, as they are laid four at a time. -/
def joinFill (L : List Int) : Nat → List UInt8
  | 0 => List.replicate 32 0
  | k + 1 => ((((joinFill L k).set (4 * k) (byteOf (L.getD k 0 / 16777216))).set (4 * k + 1) (byteOf (L.getD k 0 / 65536))).set (4 * k + 2) (byteOf (L.getD k 0 / 256))).set (4 * k + 3) (byteOf (L.getD k 0))
theorem joinFill_length (L : List Int) (k : Nat) : (joinFill L k).length = 32 := by
  induction k with
  | zero => simp [joinFill]
  | succ k ih => simp [joinFill, ih]
def joinP (s : St) : List UInt8 := joinFill s.list 8
/-- How many bytes stand before the length in what fills a text of n bytes. -/
def padN (n : Nat) : Nat := 1 + (119 - n % 64) % 64
def tailFill (n : Nat) : Nat → List UInt8
  | 0 => (List.replicate 72 0).set 0 128
  | k + 1 => (tailFill n k).set (padN n + k) (byteOf ((n : Int) * 8 / 2 ^ (8 * (7 - k))))
theorem tailFill_length (n k : Nat) : (tailFill n k).length = 72 := by
  induction k with
  | zero => simp [tailFill]
  | succ k ih => simp [tailFill, ih]
/-- What fills a text of n bytes up to whole blocks. -/
def tailP (n : Nat) : List UInt8 := (tailFill n 8).take (padN n + 8)
theorem tailP_length (n : Nat) : (tailP n).length = padN n + 8 := by
  simp only [tailP, List.length_take, tailFill_length, padN]
  omega
/-- The words behind the first k blocks of the text t. -/
def absorb (t : List UInt8) : Nat → St
  | 0 => first
  | k + 1 => blockP (absorb t k) ((t.drop (64 * k)).take 64)
theorem absorb_append (t u : List UInt8) (k : Nat) (h : 64 * k ≤ t.length) : absorb (t ++ u) k = absorb t k := by
  induction k with
  | zero => rfl
  | succ k ih =>
    simp only [absorb]
    rw [ih (by omega), List.drop_append_of_le_length (by omega), List.take_append_of_le_length (by rw [List.length_drop]; omega)]
/-- The words behind all whole blocks of the text, and what is no whole block. -/
def wordsP (t : List UInt8) : St := absorb t (t.length / 64)
def restP (t : List UInt8) : List UInt8 := t.drop (64 * (t.length / 64))
theorem words_same (t u : List UInt8) (h : t.length % 64 + u.length < 64) : wordsP (t ++ u) = wordsP t ∧ restP (t ++ u) = restP t ++ u := by
  have e : (t ++ u).length / 64 = t.length / 64 := by rw [List.length_append]; omega
  refine ⟨?_, ?_⟩
  · unfold wordsP
    rw [e, absorb_append t u _ (by omega)]
  · unfold restP
    rw [e, List.drop_append_of_le_length (by omega)]
theorem words_next (t u : List UInt8) (h : t.length % 64 + u.length = 64) : wordsP (t ++ u) = blockP (wordsP t) (restP t ++ u) ∧ restP (t ++ u) = [] := by
  have e : (t ++ u).length / 64 = t.length / 64 + 1 := by rw [List.length_append]; omega
  refine ⟨?_, ?_⟩
  · unfold wordsP restP
    rw [e, absorb, absorb_append t u _ (by omega), List.drop_append_of_le_length (by omega), List.take_of_length_le (by rw [List.length_append, List.length_drop]; omega)]
  · unfold restP
    rw [e]
    exact List.drop_eq_nil_of_le (by rw [List.length_append]; omega)
/-- The text's sum. -/
def sumP (t : List UInt8) : List UInt8 := joinP (wordsP (t ++ tailP t.length))
theorem sumP_length (t : List UInt8) : (sumP t).length = 32 := joinFill_length _ _
end Go.Proofs.YtddjkiejekfekaaDoor.Sha
namespace Go.Proofs.YtddjkiejekfekaaDoor.Sha
open Go

theorem bits_or_comm (k : IntKind) (x y : Int) : bits .or k x y = bits .or k y x := by
  unfold bits
  simp only [BitVec.or_comm]
theorem wrap_u32_nat (n : Nat) (h : n < 4294967296) : IntKind.u32.wrap (n : Int) = (n : Int) := by
  simp [IntKind.wrap, IntKind.signed, IntKind.bits]
  omega
theorem u32_or_nat (a b : Nat) (ha : a < 4294967296) (hb : b < 4294967296) : bits .or .u32 (a : Int) (b : Int) = ((a ||| b : Nat) : Int) := by
  unfold bits
  have e : ((BitVec.ofInt IntKind.u32.bits (a : Int) ||| BitVec.ofInt IntKind.u32.bits (b : Int)).toNat) = a ||| b := by
    simp only [BitVec.toNat_or, BitVec.ofInt_natCast, BitVec.toNat_ofNat]
    rw [Nat.mod_eq_of_lt (by simpa [IntKind.bits] using ha), Nat.mod_eq_of_lt (by simpa [IntKind.bits] using hb)]
  simp only [e]
  exact wrap_u32_nat _ (Nat.or_lt_two_pow (n := 32) ha hb)
/-- Four bytes, the highest first: by or, or by sums. -/
theorem word4_sum (a b c d : UInt8) : word4 a b c d = ((((a.toNat * 256 + b.toNat) * 256 + c.toNat) * 256 + d.toNat : Nat) : Int) := by
  have ha := a.toNat_lt
  have hb := b.toNat_lt
  have hc := c.toNat_lt
  have hd := d.toNat_lt
  have e1 := Nat.two_pow_add_eq_or_of_lt (i := 24) (b := b.toNat * 65536) (by omega) a.toNat
  have e2 := Nat.two_pow_add_eq_or_of_lt (i := 16) (b := c.toNat * 256) (by omega) (a.toNat * 256 + b.toNat)
  have e3 := Nat.two_pow_add_eq_or_of_lt (i := 8) (b := d.toNat) (by omega) ((a.toNat * 256 + b.toNat) * 256 + c.toNat)
  unfold word4
  rw [show (a.toNat : Int) * 16777216 = ((2 ^ 24 * a.toNat : Nat) : Int) by omega, show (b.toNat : Int) * 65536 = ((b.toNat * 65536 : Nat) : Int) by omega,
    show (c.toNat : Int) * 256 = ((c.toNat * 256 : Nat) : Int) by omega, u32_or_nat _ _ (by omega) (by omega), ← e1,
    show 2 ^ 24 * a.toNat + b.toNat * 65536 = 2 ^ 16 * (a.toNat * 256 + b.toNat) by omega, u32_or_nat _ _ (by omega) (by omega), ← e2,
    show 2 ^ 16 * (a.toNat * 256 + b.toNat) + c.toNat * 256 = 2 ^ 8 * ((a.toNat * 256 + b.toNat) * 256 + c.toNat) by omega, u32_or_nat _ _ (by omega) (by omega), ← e3]
  omega

/-- The first 16 words, a byte at a time. -/
def fillR (b : List UInt8) : Nat → List Int
  | 0 => List.replicate 16 0
  | k + 1 => (fillR b k).set (k / 4) (((fillR b k).getD (k / 4) 0 * 256 + ((b.getD k 0).toNat : Int)) % 4294967296)
theorem fillR_length (b : List UInt8) (k : Nat) : (fillR b k).length = 16 := by
  induction k with
  | zero => simp [fillR]
  | succ k ih => simp [fillR, ih]
/-- The window that moves on. -/
def winNext (V : List Int) (i : Nat) : List Int :=
  if 16 ≤ i then V.set (i % 16) ((V.getD (i % 16) 0 + sP (V.getD ((i + 1) % 16) 0) + V.getD ((i + 9) % 16) 0 + tP (V.getD ((i + 14) % 16) 0)) % 4294967296) else V
def win (V : List Int) : Nat → List Int
  | 0 => V
  | i + 1 => winNext (win V i) i
theorem win_length (V : List Int) (i : Nat) : (win V i).length = V.length := by
  induction i with
  | zero => rfl
  | succ i ih =>
    simp only [win, winNext]
    split <;> simp [ih]
def roundsR (s : St) (V : List Int) : Nat → St
  | 0 => s
  | i + 1 => step (roundsR s V i) (kTab.getD i 0) ((win V (i + 1)).getD (i % 16) 0)
def blockR (s : St) (b : List UInt8) : St := addP s (roundsR s (fillR b 64) 64)

theorem getD_set (l : List Int) (i j : Nat) (v : Int) (hi : i < l.length) : (l.set i v).getD j 0 = if i = j then v else l.getD j 0 := by
  by_cases h : i = j
  · subst h
    simp [hi]
  · simp [h]
theorem fillR_early (b : List UInt8) (j : Nat) (hj : j < 16) : ∀ k, k ≤ 4 * j → (fillR b k).getD j 0 = 0
  | 0, _ => by
    unfold fillR
    simp only [List.getD_eq_getElem?_getD, List.getElem?_replicate, hj, if_true, Option.getD_some]
  | k + 1, h => by
    rw [fillR, getD_set _ _ _ _ (by rw [fillR_length]; omega), if_neg (by omega)]
    exact fillR_early b j hj k (by omega)
theorem fillR_late (b : List UInt8) (j : Nat) : ∀ n, 4 * j + 4 + n ≤ 64 → (fillR b (4 * j + 4 + n)).getD j 0 = (fillR b (4 * j + 4)).getD j 0
  | 0, _ => rfl
  | n + 1, h => by
    rw [← Nat.add_assoc, fillR, getD_set _ _ _ _ (by rw [fillR_length]; omega), if_neg (by omega)]
    exact fillR_late b j n (by omega)
theorem fillR_at (b : List UInt8) (j : Nat) (hj : j < 16) : (fillR b 64).getD j 0 = word4 (b.getD (4 * j) 0) (b.getD (4 * j + 1) 0) (b.getD (4 * j + 2) 0) (b.getD (4 * j + 3) 0) := by
  have h := fillR_late b j (60 - 4 * j) (by omega)
  rw [show 4 * j + 4 + (60 - 4 * j) = 64 by omega] at h
  have s0 := fillR_early b j hj (4 * j) (Nat.le_refl _)
  have st : ∀ k, 4 * j ≤ k → k < 4 * j + 4 → (fillR b (k + 1)).getD j 0 = ((fillR b k).getD j 0 * 256 + ((b.getD k 0).toNat : Int)) % 4294967296 := fun k h1 h2 => by
    have e : k / 4 = j := by omega
    rw [fillR, getD_set _ _ _ _ (by rw [fillR_length]; omega), e, if_pos rfl]
  have s1 := st (4 * j) (by omega) (by omega)
  have s2 := st (4 * j + 1) (by omega) (by omega)
  have s3 := st (4 * j + 2) (by omega) (by omega)
  have s4 := st (4 * j + 3) (by omega) (by omega)
  rw [h, s4, s3, s2, s1, s0, word4_sum]
  have h0 := (b.getD (4 * j) 0).toNat_lt
  have h1 := (b.getD (4 * j + 1) 0).toNat_lt
  have h2 := (b.getD (4 * j + 2) 0).toNat_lt
  have h3 := (b.getD (4 * j + 3) 0).toNat_lt
  generalize (b.getD (4 * j) 0).toNat = x0 at *
  generalize (b.getD (4 * j + 1) 0).toNat = x1 at *
  generalize (b.getD (4 * j + 2) 0).toNat = x2 at *
  generalize (b.getD (4 * j + 3) 0).toNat = x3 at *
  omega

theorem fill_len (b : List UInt8) (k : Nat) : (fill b k).length = 64 := by
  induction k with
  | zero => simp [fill]
  | succ k ih => simp [fill, ih]
theorem ext_len (L : List Int) (k : Nat) : (ext L k).length = L.length := by
  induction k with
  | zero => rfl
  | succ k ih => simp [ext, ih]
theorem fill_late (b : List UInt8) (j : Nat) : ∀ n, j + 1 + n ≤ 64 → (fill b (j + 1 + n)).getD j 0 = (fill b (j + 1)).getD j 0
  | 0, _ => rfl
  | n + 1, h => by
    rw [← Nat.add_assoc, fill, getD_set _ _ _ _ (by rw [fill_len]; omega), if_neg (by omega)]
    exact fill_late b j n (by omega)
theorem fill_at (b : List UInt8) (j : Nat) (hj : j < 16) : (fill b 16).getD j 0 = word4 (b.getD (4 * j) 0) (b.getD (4 * j + 1) 0) (b.getD (4 * j + 2) 0) (b.getD (4 * j + 3) 0) := by
  have h := fill_late b j (15 - j) (by omega)
  rw [show j + 1 + (15 - j) = 16 by omega] at h
  rw [h, fill, getD_set _ _ _ _ (by rw [fill_len]; omega), if_pos rfl]
theorem ext_keep (L : List Int) (hL : L.length = 64) (j : Nat) : ∀ k n, j < 16 + k → k + n ≤ 48 → (ext L (k + n)).getD j 0 = (ext L k).getD j 0
  | _, 0, _, _ => rfl
  | k, n + 1, h, hk => by
    rw [← Nat.add_assoc, ext, getD_set _ _ _ _ (by rw [ext_len]; omega), if_neg (by omega)]
    exact ext_keep L hL j k n h (by omega)
theorem ext_low (L : List Int) (hL : L.length = 64) (j : Nat) (hj : j < 16) : (ext L 48).getD j 0 = L.getD j 0 := by
  have := ext_keep L hL j 0 48 (by omega) (by omega)
  simpa [ext] using this
theorem ext_next (L : List Int) (hL : L.length = 64) (i : Nat) (h0 : 16 ≤ i) (h1 : i < 64) : (ext L 48).getD i 0 = more (ext L 48) i := by
  have e1 := ext_keep L hL i (i - 16 + 1) (64 - 1 - i) (by omega) (by omega)
  rw [show i - 16 + 1 + (64 - 1 - i) = 48 by omega] at e1
  rw [e1, ext, getD_set _ _ _ _ (by rw [ext_len]; omega), if_pos (by omega), show 16 + (i - 16) = i by omega]
  have keep : ∀ j, j < i → (ext L (i - 16)).getD j 0 = (ext L 48).getD j 0 := fun j hj => by
    have := ext_keep L hL j (i - 16) (64 - i) (by omega) (by omega)
    rw [show i - 16 + (64 - i) = 48 by omega] at this
    exact this.symm
  unfold more
  rw [keep (i - 16) (by omega), keep (i - 15) (by omega), keep (i - 7) (by omega), keep (i - 2) (by omega)]
/-- The window holds the last 16 words. -/
theorem win_is (b : List UInt8) (i : Nat) (hi : i ≤ 64) : ∀ m, m < 64 → (m < i ∨ m < 16) → (i ≤ m + 16) → (win (fillR b 64) i).getD (m % 16) 0 = (widenP b).getD m 0 := by
  have hfl : (fill b 16).length = 64 := fill_len b 16
  induction i with
  | zero =>
    intro m hm h1 _
    have hm16 : m < 16 := by omega
    rw [win, Nat.mod_eq_of_lt hm16, fillR_at b m hm16, widenP, ext_low _ hfl m hm16, fill_at b m hm16]
  | succ i ih =>
    intro m hm h1 h2
    have ih' := ih (by omega)
    rw [win, winNext]
    by_cases h16 : 16 ≤ i
    · rw [if_pos h16, getD_set _ _ _ _ (by rw [win_length, fillR_length]; omega)]
      by_cases hmi : m = i
      · subst hmi
        rw [if_pos rfl, widenP, ext_next _ hfl m h16 hm, ← widenP]
        unfold more
        rw [← ih' (m - 16) (by omega) (by omega) (by omega), ← ih' (m - 15) (by omega) (by omega) (by omega), ← ih' (m - 7) (by omega) (by omega) (by omega), ← ih' (m - 2) (by omega) (by omega) (by omega),
          show (m - 16) % 16 = m % 16 by omega, show (m - 15) % 16 = (m + 1) % 16 by omega, show (m - 7) % 16 = (m + 9) % 16 by omega, show (m - 2) % 16 = (m + 14) % 16 by omega]
      · rw [if_neg (by omega)]
        exact ih' m hm (by omega) (by omega)
    · rw [if_neg h16]
      exact ih' m hm (by omega) (by omega)
theorem roundsR_is (s : St) (b : List UInt8) (i : Nat) (hi : i ≤ 64) : roundsR s (fillR b 64) i = rounds s (widenP b) i := by
  induction i with
  | zero => rfl
  | succ i ih => rw [roundsR, rounds, ih (by omega), win_is b (i + 1) hi i (by omega) (by omega) (by omega)]
theorem blockR_is (s : St) (b : List UInt8) : blockR s b = blockP s b := by
  unfold blockR blockP turnP
  rw [roundsR_is s b 64 (by omega)]
end Go.Proofs.YtddjkiejekfekaaDoor.Sha
namespace Go.Proofs.YtddjkiejekfekaaDoor.Sha
open Go

/-- A number's last k bytes, the highest first. -/
def endR (N : Nat) : Nat → List UInt8
  | 0 => []
  | k + 1 => byteOf ((N / 256 ^ k : Nat) : Int) :: endR N k
theorem endR_length (N k : Nat) : (endR N k).length = k := by
  induction k with
  | zero => rfl
  | succ k ih => simp [endR, ih]
theorem set8 (A B : List UInt8) (b0 b1 b2 b3 b4 b5 b6 b7 : UInt8) (n : Nat) (hA : A.length = n) :
    ((((((((A ++ 0 :: 0 :: 0 :: 0 :: 0 :: 0 :: 0 :: 0 :: B).set (n + 0) b0).set (n + 1) b1).set (n + 2) b2).set (n + 3) b3).set (n + 4) b4).set (n + 5) b5).set (n + 6) b6).set (n + 7) b7 = (A ++ [b0, b1, b2, b3, b4, b5, b6, b7]) ++ B := by
  subst hA
  simp
theorem tail_base (z : Nat) (hz : z ≤ 63) : (List.replicate 72 (0 : UInt8)).set 0 128 = (128 :: List.replicate z 0) ++ 0 :: 0 :: 0 :: 0 :: 0 :: 0 :: 0 :: 0 :: List.replicate (63 - z) 0 := by
  have e : (List.replicate 72 (0 : UInt8)) = 0 :: (List.replicate z 0 ++ 0 :: 0 :: 0 :: 0 :: 0 :: 0 :: 0 :: 0 :: List.replicate (63 - z) 0) := by
    apply List.ext_getElem
    · simp; omega
    · intro i h1 h2
      rw [List.getElem_replicate]
      have : ∀ x ∈ (0 : UInt8) :: (List.replicate z 0 ++ 0 :: 0 :: 0 :: 0 :: 0 :: 0 :: 0 :: 0 :: List.replicate (63 - z) 0), x = 0 := by
        intro x hx
        simp [List.mem_replicate] at hx
        rcases hx with h | h | h | h <;> simp_all
      exact (this _ (List.getElem_mem h2)).symm
  rw [e]
  rfl
theorem tailP_is (n z : Nat) (hz : z = (119 - n % 64) % 64) : tailP n = (128 :: List.replicate z 0) ++ endR (n * 8) 8 := by
  have hp : padN n = 1 + z := by rw [hz]; rfl
  have hA : ((128 : UInt8) :: List.replicate z 0).length = 1 + z := by simp; omega
  have h8 := set8 (128 :: List.replicate z 0) (List.replicate (63 - z) 0) (byteOf ((n : Int) * 8 / 2 ^ (8 * (7 - 0)))) (byteOf ((n : Int) * 8 / 2 ^ (8 * (7 - 1)))) (byteOf ((n : Int) * 8 / 2 ^ (8 * (7 - 2)))) (byteOf ((n : Int) * 8 / 2 ^ (8 * (7 - 3)))) (byteOf ((n : Int) * 8 / 2 ^ (8 * (7 - 4)))) (byteOf ((n : Int) * 8 / 2 ^ (8 * (7 - 5)))) (byteOf ((n : Int) * 8 / 2 ^ (8 * (7 - 6)))) (byteOf ((n : Int) * 8 / 2 ^ (8 * (7 - 7)))) (1 + z) hA
  have ht : tailFill n 8 = ((128 :: List.replicate z 0) ++ [byteOf ((n : Int) * 8 / 2 ^ (8 * (7 - 0))), byteOf ((n : Int) * 8 / 2 ^ (8 * (7 - 1))), byteOf ((n : Int) * 8 / 2 ^ (8 * (7 - 2))), byteOf ((n : Int) * 8 / 2 ^ (8 * (7 - 3))), byteOf ((n : Int) * 8 / 2 ^ (8 * (7 - 4))), byteOf ((n : Int) * 8 / 2 ^ (8 * (7 - 5))), byteOf ((n : Int) * 8 / 2 ^ (8 * (7 - 6))), byteOf ((n : Int) * 8 / 2 ^ (8 * (7 - 7)))]) ++ List.replicate (63 - z) 0 := by
    rw [← h8, ← tail_base z (by omega)]
    simp only [tailFill, hp]
  rw [tailP, ht, hp, List.take_append_of_le_length (by simp; omega), List.take_of_length_le (by simp; omega)]
  congr 1
/-- A block, byte by byte. -/
def copyR (X : List UInt8) : Nat → List UInt8
  | 0 => List.replicate 64 0
  | j + 1 => (copyR X j).set j (X.getD j 0)
theorem copyR_length (X : List UInt8) (j : Nat) : (copyR X j).length = 64 := by
  induction j with
  | zero => simp [copyR]
  | succ j ih => simp [copyR, ih]
theorem copyR_is (X : List UInt8) (hX : X.length = 64) (j : Nat) (hj : j ≤ 64) : copyR X j = X.take j ++ List.replicate (64 - j) 0 := by
  induction j with
  | zero => simp [copyR]
  | succ j ih =>
    rw [copyR, ih (by omega), show 64 - j = (64 - (j + 1)) + 1 by omega, List.replicate_succ, List.set_append_right _ _ (by simp; omega),
      List.take_succ_eq_append_getElem (by omega)]
    have e : j - (X.take j).length = 0 := by simp; omega
    rw [e, List.set_cons_zero, List.getD_eq_getElem?_getD, List.getElem?_eq_getElem (by omega), Option.getD_some, List.append_assoc]
    rfl
theorem copyR_all (X : List UInt8) (hX : X.length = 64) : copyR X 64 = X := by
  rw [copyR_is X hX 64 (by omega), List.take_of_length_le (by omega)]
  simp
end Go.Proofs.YtddjkiejekfekaaDoor.Sha
namespace Go.Proofs.YtddjkiejekfekaaDoor
open Go.RowKit

theorem and31_fin : ∀ n : Fin 32, 0 < n.val → bits .and .u64 (IntKind.u64.wrap (-(n.val : Int))) 31 = 32 - (n.val : Int) := by decide +kernel
theorem and31 (n : Int) (h0 : 1 ≤ n) (h1 : n ≤ 31) : bits .and .u64 (IntKind.u64.wrap (-n)) 31 = 32 - n := by
  have := and31_fin ⟨n.toNat, by omega⟩ (by simp; omega)
  simpa [Int.toNat_of_nonneg (show 0 ≤ n by omega)] using this
set_option maxHeartbeats 400000 in
theorem rotl_any (x n : Int) (w : World) (h0 : 1 ≤ n) (h1 : n ≤ 31) :
    Calls Tryd.prog 86 #[.int .u32 x, .int .i64 (-n)] w fun e w' => e = .returned (.int .u32 (Sha.rotI x n)) ∧ w' = w := by
  have hk := and31 n h0 h1
  have e : (32 - (32 - n)).toNat = n.toNat := by omega
  go_enter Tryd.func86, Tryd.ntmps86
  go_wp2
  go_ret
  refine ⟨?_, rfl⟩
  simp [Sha.rotI]
set_option maxHeartbeats 400000 in
theorem rot_any (x n : Int) (w : World) (h0 : 1 ≤ n) (h1 : n ≤ 31) :
    Calls Tryd.prog 85 #[.int .u32 x, .int .i64 n] w fun e w' => e = .returned (.int .u32 (Sha.rotI x n)) ∧ w' = w := by
  go_enter Tryd.func85, Tryd.ntmps85
  go_wp2_with fail
  refine (rotl_any x n _ h0 h1).mono ?_
  rintro e w1 ⟨rfl, rfl⟩
  go_wp2
  go_ret
  exact ⟨rfl, rfl⟩
end Go.Proofs.YtddjkiejekfekaaDoor
namespace Go.Proofs.YtddjkiejekfekaaDoor
open Go.RowKit

/-- The words as cells. -/
def u32s (l : List Int) : Array Value := (l.map fun x => Value.int .u32 x).toArray
theorem u32s_at (l : List Int) (j : Nat) (hj : j < l.length) : (u32s l)[j]? = some (.int .u32 (l.getD j 0)) := by
  simp [u32s, hj]
theorem u32s_size (l : List Int) : (u32s l).size = l.length := by simp [u32s]
theorem u32s_one (l : List Int) : (u32s l).all (·.oneCell') = true := by
  simp only [u32s, List.all_toArray, List.all_map, List.all_eq_true]
  intro x _
  rfl
theorem u32s_set (l : List Int) (j : Nat) (x : Int) : (u32s l).setIfInBounds j (.int .u32 x) = u32s (l.set j x) := by
  simp [u32s, List.map_set]
/-- The bytes as cells. -/
def u8s (l : List UInt8) : Array Value := (cellsL l).toArray
theorem u8s_at (l : List UInt8) (j : Nat) (hj : j < l.length) : (u8s l)[j]? = some (.int .u8 ((l.getD j 0).toNat : Int)) := by
  simp [u8s, cellsL, hj]
theorem u8s_size (l : List UInt8) : (u8s l).size = l.length := by simp [u8s, cellsL]
theorem u8s_set (l : List UInt8) (j : Nat) (x : UInt8) : (u8s l).setIfInBounds j (.int .u8 (x.toNat : Int)) = u8s (l.set j x) := by
  simp [u8s, cellsL, List.map_set]
/-- The table of constants lies where the program has it. -/
def Tab (w : World) : Prop := ∀ i : Nat, i < 64 → w.cell? ⟨0, i, none⟩ = some (.int .u32 (Sha.kTab.getD i 0))
theorem Tab.below {w w' : World} (h : Tab w) (hb : Below w.heap.size w w') : Tab w' := fun i hi => (hb.cell (block_lt_of_cell (h i hi))).trans (h i hi)
theorem Tab.pos {w : World} (h : Tab w) : 0 < w.heap.size := block_lt_of_cell (h 0 (by omega))
theorem wrap_small (n : Int) (h0 : 0 ≤ n) (h1 : n ≤ 1000000) : IntKind.i64.wrap n = n := by
  unfold IntKind.wrap
  simp [IntKind.signed, IntKind.bits]
  omega

end Go.Proofs.YtddjkiejekfekaaDoor
namespace Go.Proofs.YtddjkiejekfekaaDoor
open Go.RowKit

def words8 (s : Sha.St) : List Value := [.int .u32 s.a, .int .u32 s.b, .int .u32 s.c, .int .u32 s.d, .int .u32 s.e, .int .u32 s.f, .int .u32 s.g, .int .u32 s.h]
/-- A hash's cells: the words, the open block, the count. -/
def hashL (s : Sha.St) (o : List UInt8) (n : Nat) : List Value := words8 s ++ (cellsL o ++ [.int .u64 (n : Int)])
theorem hashL_length (s : Sha.St) (o : List UInt8) (n : Nat) (h : o.length = 64) : (hashL s o n).length = 73 := by
  simp [hashL, words8, cellsL_length, h]
theorem hashL_count (s : Sha.St) (o : List UInt8) (n : Nat) (h : o.length = 64) : (hashL s o n).toArray[72]? = some (.int .u64 (n : Int)) := by
  rw [List.getElem?_toArray]
  unfold hashL
  rw [List.getElem?_append_right (by simp [words8]), List.getElem?_append_right (by simp [words8, cellsL_length, h])]
  simp [words8, cellsL_length, h]
theorem hashL_setCount (s : Sha.St) (o : List UInt8) (n m : Nat) (h : o.length = 64) : (hashL s o n).toArray.setIfInBounds 72 (.int .u64 (m : Int)) = (hashL s o m).toArray := by
  rw [List.setIfInBounds_toArray]
  unfold hashL
  rw [List.set_append_right _ _ (by simp [words8]), List.set_append_right _ _ (by simp [words8, cellsL_length, h])]
  simp [words8, cellsL_length, h]
theorem hashL_open (s : Sha.St) (o : List UInt8) (n j : Nat) (hj : j < o.length) : (hashL s o n).toArray[8 + j]? = some (.int .u8 ((o.getD j 0).toNat : Int)) := by
  rw [List.getElem?_toArray]
  unfold hashL
  rw [List.getElem?_append_right (by simp [words8]), List.getElem?_append_left (by simp [words8, cellsL_length, hj])]
  simp [words8, cellsL, hj]
theorem hashL_set8 (s t : Sha.St) (o : List UInt8) (n : Nat) :
    ((((((((hashL s o n).toArray.setIfInBounds 0 (.int .u32 t.a)).setIfInBounds 1 (.int .u32 t.b)).setIfInBounds 2 (.int .u32 t.c)).setIfInBounds 3 (.int .u32 t.d)).setIfInBounds 4 (.int .u32 t.e)).setIfInBounds 5 (.int .u32 t.f)).setIfInBounds 6 (.int .u32 t.g)).setIfInBounds 7 (.int .u32 t.h) = (hashL t o n).toArray := by
  simp [hashL, words8]
/-- Bytes laid over the open block. -/
theorem hashL_copy (s : Sha.St) (o x : List UInt8) (n m : Nat) (ho : o.length = 64) (hm : m + x.length ≤ 64) :
    (hashL s o n).take (8 + m) ++ cellsL x ++ (hashL s o n).drop (8 + m + x.length) = hashL s (o.take m ++ x ++ o.drop (m + x.length)) n := by
  have h8 : (words8 s).length = 8 := rfl
  have hc : (cellsL o).length = 64 := by rw [cellsL_length, ho]
  unfold hashL
  rw [List.take_append, List.drop_append, h8, List.take_of_length_le (by omega), List.drop_eq_nil_of_le (by omega), show 8 + m - 8 = m by omega, show 8 + m + x.length - 8 = m + x.length by omega,
    List.take_append_of_le_length (by omega), List.drop_append_of_le_length (by omega)]
  simp [cellsL]

theorem Only.setRow {g : Nat} {a w : World} (h : Only g a w) (cs : Array Value) : Only g a (w.setRow g cs) :=
  ⟨h.os, h.tape, h.output, by have := h.size; simpa using this, fun i hi hg => (setRow_other w g i cs hg).trans (h.block i hi hg)⟩
theorem Tab.only {w w' : World} {g : Nat} (h : Tab w) (ho : Only g w w') (hg : 0 < g) : Tab w' := fun i hi => ho.cell (h i hi) (by dsimp only; omega)

/-- The hash in block g has the text t. -/
def HashIs (w : World) (g : Nat) (t : List UInt8) : Prop :=
  ∃ o : List UInt8, o.length = 64 ∧ o.take (t.length % 64) = Sha.restP t ∧ w.heap[g]? = some (.cells (hashL (Sha.wordsP t) o t.length).toArray 89 (0, 0))
theorem HashIs.lt {w : World} {g : Nat} {t : List UInt8} (h : HashIs w g t) : g < w.heap.size := by
  obtain ⟨_, _, _, hg⟩ := h
  exact lt_of_heap hg
theorem HashIs.below {w w' : World} {g : Nat} {t : List UInt8} (h : HashIs w g t) (hb : Below w.heap.size w w') : HashIs w' g t := by
  have hlt := h.lt
  obtain ⟨o, h1, h2, hg⟩ := h
  exact ⟨o, h1, h2, (hb.block g hlt).trans hg⟩
theorem HashIs.only {w w' : World} {g g' : Nat} {t : List UInt8} (h : HashIs w g t) (hb : Only g' w w') (hn : g ≠ g') : HashIs w' g t := by
  have hlt := h.lt
  obtain ⟨o, h1, h2, hg⟩ := h
  exact ⟨o, h1, h2, (hb.block g hlt hn).trans hg⟩

/-- copy(dst, s), s a string, dst in row g from place o on: as many bytes as there are, or as fit. -/
theorem run_copy_part {P : Program} (w : World) (dT sT ty elem : TypeId) (g o dLen dCap n : Nat) (l : List UInt8) (cur : Array Value) (t : TypeId)
    (hu : P.underlying dT = some (.slice elem)) (hs : (P.info? elem).map (·.size) = some 1) (hg : w.heap[g]? = some (.cells cur t (0, 0))) (hn : n = Nat.min l.length dLen) (hfit : o + n ≤ cur.size) :
    (Builtin.copy_ #[dT, sT] ty #[.slice (some ⟨g, o, none⟩) dLen dCap, .string ⟨l.toArray⟩]).run P w =
      .ok (goInt n) (w.setRow g (cur.toList.take o ++ cellsL (l.take n) ++ cur.toList.drop (o + n)).toArray) := by
  have hnl : n ≤ l.length := by rw [hn]; exact Nat.min_le_left _ _
  have hlen : (cellsL (l.take n)).length = n := by rw [cellsL_length, List.length_take]; omega
  have hst := run_storeCells_at P g o t (cellsL (l.take n)) 0 cur w hg (by rw [hlen]; simpa using hfit) (by
    intro v hv
    simp only [cellsL, List.mem_map] at hv
    obtain ⟨x, _, rfl⟩ := hv
    rfl)
  rw [hlen] at hst
  simp only [Nat.add_zero] at hst
  have htk : List.take n (List.map (fun b : UInt8 => Value.int IntKind.u8 (b.toNat : Int)) l) = cellsL (l.take n) := by simp [cellsL, List.map_take]
  have hsz : (⟨l.toArray⟩ : ByteArray).size = l.length := by simp [ByteArray.size]
  cases hq : P.info? elem with
  | none => simp [hq] at hs
  | some i =>
    simp [Builtin.copy_, run_underlying hu, Builtin.lenOf, Builtin.firstCells, sizeOf, typeInfo, hq, hsz, ← hn]
    rw [htk, hst]
    simp [Result.andThen]
theorem step_copy_part {P : Program} {ops : Array Oper} {o : Oper} {a : Act} {w : World} {K : Act → World → Prop} {Q : Exit → Act → World → Prop} {E : Prop} (hgd : o.guard = none) (d s : Operand) (dT sT : TypeId)
    (ho : o.op = .call { callee := .builtin .copy, args := #[d, s], argTypes := #[dT, sT] }) (elem : TypeId) (hu : P.underlying dT = some (.slice elem)) (hsz : (P.info? elem).map (·.size) = some 1)
    (g off dLen dCap n : Nat) (l : List UInt8) (hd : a.eval d = .slice (some ⟨g, off, none⟩) dLen dCap) (hs : a.eval s = .string ⟨l.toArray⟩)
    (cur : Array Value) (t : TypeId) (hg : w.heap[g]? = some (.cells cur t (0, 0))) (hn : n = Nat.min l.length dLen) (hfit : off + n ≤ cur.size)
    (h : ∀ w', Hid (w'.heap[g]? = some (.cells (cur.toList.take off ++ cellsL (l.take n) ++ cur.toList.drop (off + n)).toArray t (0, 0))) → Hid (Only g w w') → K (a.put o.dst (goInt n)) w') :
    if Region.wanted o (yielded ops a.tmps) = true then Oper.wp P o a w K Q else E := by
  have hw : Region.wanted o (yielded ops a.tmps) = true := by simp [Region.wanted, hgd]
  rw [if_pos hw]
  have hrun := run_copy_part (P := P) w dT sT o.type elem g off dLen dCap n l cur t hu hsz hg hn hfit
  unfold Oper.wp
  simp [execOp, ho, resolve, invoke, builtin, hd, hs, hrun, Result.andThen]
  exact h _ (Lib.hid (by rw [List.append_assoc]; exact setRow_heap w g _ _ t _ hg)) (Lib.hid ((Only.refl g w).setRow _))
end Go.Proofs.YtddjkiejekfekaaDoor
namespace Go.Proofs.YtddjkiejekfekaaDoor
open Go.RowKit

theorem Tryd.info8 : (Tryd.prog.info? 85).map (·.size) = some 8 := by kernel_rfl

set_option maxRecDepth 100000 in
set_option maxHeartbeats 1000000 in
theorem turn_any (s : Sha.St) (W : List Int) (w : World) (hW : W.length = 64) (hK : Tab w) :
    Calls Tryd.prog 83 #[.agg (u32s s.list), .agg (u32s W)] w fun e w' => e = .returned (.agg (u32s (Sha.turnP s W).list)) ∧ Below w.heap.size w w' := by
  obtain ⟨s0, hs0⟩ : ∃ s0, s = s0 := ⟨_, rfl⟩
  obtain ⟨a, b, c, d, e, f, g, h⟩ := s
  obtain ⟨ws, hws⟩ : ∃ ws, u32s W = ws := ⟨_, rfl⟩
  rw [hws, hs0]
  have HS := Lib.hid hs0
  have HWS := Lib.hid hws
  have HK := Lib.hid hK
  have HLW := Lib.hid hW
  rw [← hs0]
  simp only [Sha.St.list, u32s, List.map_cons, List.map_nil]
  clear hws hK hs0 hW
  go_enter Tryd.func83, Tryd.ntmps83
  go_wp2
  go_quiet (fail)
  go_wp2
  go_quiet (fail)
  go_wp2
  go_loopw [5, 6, 7, 8, 9, 10, 11, 12, 32] (fun xa xb xc xd xe xf xg xh i wr => ∃ k : Nat, k ≤ 64 ∧ i = .int .i64 k ∧ xa = .int .u32 (Sha.rounds s0 W k).a ∧ xb = .int .u32 (Sha.rounds s0 W k).b ∧ xc = .int .u32 (Sha.rounds s0 W k).c ∧ xd = .int .u32 (Sha.rounds s0 W k).d ∧ xe = .int .u32 (Sha.rounds s0 W k).e ∧ xf = .int .u32 (Sha.rounds s0 W k).f ∧ xg = .int .u32 (Sha.rounds s0 W k).g ∧ xh = .int .u32 (Sha.rounds s0 W k).h ∧
      Below w.heap.size w wr ∧ wr.heap[w.heap.size + 1]? = some (.cells ws 102 (0, 0)) ∧ wr.heap[w.heap.size + 1 + 1]? = some (.cells (u32s (List.replicate 8 0)) 85 (0, 0))) (fun _ _ _ _ _ _ _ _ i _ => 64 - (intOf i).toNat)
  case atStart =>
    refine ⟨0, by omega, rfl, by rw [← HS.out]; rfl, by rw [← HS.out]; rfl, by rw [← HS.out]; rfl, by rw [← HS.out]; rfl, by rw [← HS.out]; rfl, by rw [← HS.out]; rfl, by rw [← HS.out]; rfl, by rw [← HS.out]; rfl, ?_, ?_, ?_⟩
    · exact bel_drewN (bel_drewN ((((Below.refl _ w).alloc (Nat.le_refl _) _).alloc (by simp) _).alloc (by simp; omega) _) _) _
    · exact heap_old_at _ (heap_new_at _ _ _ (by simp))
    · exact heap_new_at _ _ _ (by simp)
  case round =>
    obtain ⟨k, hk, rfl, rfl, rfl, rfl, rfl, rfl, rfl, rfl, rfl, hb, hg1, hg2⟩ := hrel
    have HG1 := Lib.hid hg1
    have HG2 := Lib.hid hg2
    have HBe := Lib.hid hb
    have hsz : w.heap.size + 1 < wr.heap.size := lt_of_heap hg1
    by_cases hlt : k < 64
    · obtain ⟨S, hS⟩ : ∃ S, Sha.rounds s0 W k = S := ⟨_, rfl⟩
      have hnext : Sha.rounds s0 W (k + 1) = Sha.step S (Sha.kTab.getD k 0) (W.getD k 0) := by rw [← hS]; rfl
      have hcK : wr.cell? ⟨0, k, none⟩ = some (.int .u32 (Sha.kTab.getD k 0)) := (HK.out.below hb) k hlt
      have hcW : wr.cell? ⟨w.heap.size + 1, k, none⟩ = some (.int .u32 (W.getD k 0)) := by
        rw [cell_of_row wr _ k ws _ _ hg1, ← HWS.out]; exact u32s_at W k (by rw [HLW.out]; exact hlt)
      obtain ⟨kk, hkk⟩ : ∃ kk, Sha.kTab.getD k 0 = kk := ⟨_, rfl⟩
      obtain ⟨ww, hww⟩ : ∃ ww, W.getD k 0 = ww := ⟨_, rfl⟩
      rw [hkk, hww] at hnext
      rw [hkk] at hcK
      rw [hww] at hcW
      rw [hS]
      have HN := Lib.hid hnext
      clear hnext hkk hww hS hb hg1 hg2
      obtain ⟨a, b, c, d, e, f, g, h⟩ := S
      have h1 : (k : Int) < 64 := by omega
      dsimp only
      go_wp2
      go_quiet ((go_at_call 85; exact Calls.quiet_of_same (rot_any _ _ _ (by omega) (by omega))))
      go_wp2_with fail
      refine (rot_any a 2 _ (by omega) (by omega)).mono ?_
      rintro _ _ ⟨rfl, rfl⟩
      go_wp2_with fail
      refine (rot_any a 13 _ (by omega) (by omega)).mono ?_
      rintro _ _ ⟨rfl, rfl⟩
      go_wp2_with fail
      refine (rot_any a 22 _ (by omega) (by omega)).mono ?_
      rintro _ _ ⟨rfl, rfl⟩
      go_wp2
      go_roundw
      case rel =>
        refine ⟨k + 1, by omega, by go_num, ?_, ?_, ?_, ?_, ?_, ?_, ?_, ?_, bel_drewN HBe.out _, HG1.out, HG2.out⟩ <;> rw [HN.out] <;> simp only [Sha.step, Sha.uP, Sha.vP]
        all_goals rfl
      case measure => simp [intOf]; omega
    · obtain rfl : k = 64 := by omega
      have hno : ¬ ((64 : Nat) : Int) < 64 := by omega
      obtain ⟨S, hS⟩ : ∃ S, Sha.rounds s0 W 64 = S := ⟨_, rfl⟩
      have HS64 := Lib.hid hS
      rw [hS]
      clear hS hg1 hg2 hb
      obtain ⟨a, b, c, d, e, f, g, h⟩ := S
      dsimp only
      go_wp2_with (refine wpList_store_row (by rfl) _ _ _ (by rfl) (w.heap.size + 1 + 1) (u32s [a, b, c, d, e, f, g, h]) (by rfl) (by rfl) _ _ HG2.out Tryd.info8 (by rfl) (u32s_one _) ?_)
      refine bodyPost_ret (v := .agg (u32s [a, b, c, d, e, f, g, h])) (results_cell_row rfl _ _ (w.heap.size + 1 + 1) _ _ _ _ rfl (setRow_heap _ _ _ _ _ _ HG2.out) Tryd.underlying85 rfl Tryd.info8) rfl ⟨?_, below_setRow HBe.out (by omega) _⟩
      unfold Sha.turnP
      rw [HS.out, HS64.out]
      rfl
end Go.Proofs.YtddjkiejekfekaaDoor
