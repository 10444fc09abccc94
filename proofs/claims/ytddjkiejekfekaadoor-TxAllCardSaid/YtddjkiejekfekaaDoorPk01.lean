/- PowMath, Rise, NibMath, NibBase, CodeMath, ArgStrs, Only, MapBase, CodeShelf, StrClone, PowBase, ArgMems -/
import Derived.Test.YtddjkiejekfekaaDoorChecked
import GoSem.Op.String
import Derived.WalkKit
import Derived.WalkSmall
import Derived.ShutString
import Derived.Laws.IdiomStrings
import Derived.Laws.BytesArg
import Derived.Lib.Hide
import Derived.SliceStrings
import Derived.OpenShut
import Derived.Lib.Strings
import Derived.Maps.Keyed
import Derived.SizedLaws
import Derived.DeepKeys4
import Derived.Deep.AppendLies
import Derived.Deep.QuietTactic
import Derived.BigQuiet
import Derived.Deep.WholeRow
import Derived.Deep.MidRow
import Derived.Laws.CopyOwn
import Derived.Deep.RegionHeld3
import Derived.Deep.DrawnRows
import Derived.Deep.Cut
import Derived.Deep.CutRange
import Derived.Shelf.Strconv.Itoa0
import Derived.Shelf.LaysM
import Derived.Shelf.Strconv.Clone
import Derived.Deep.RegionWith
import Derived.Deep.Slices
import Derived.DataReads
import Derived.Lib.LaidU8
namespace Go.Proofs.YtddjkiejekfekaaDoor.Pw

abbrev S := List UInt8
structure M where
  name : S
  power : Int
instance : Inhabited M := ⟨⟨[], 0⟩⟩
theorem M.ext' {a b : M} (h : a.name = b.name) (k : a.power = b.power) : a = b := by cases a; cases b; simp_all
instance : DecidableEq M := fun a b =>
  if h : a.name = b.name ∧ a.power = b.power then isTrue (M.ext' h.1 h.2) else isFalse (fun e => h (by subst e; exact ⟨rfl, rfl⟩))

def okM (p : S) (m : M) : Bool := decide (p < m.name) && decide (m.name.length ≤ 6) && decide (1 ≤ m.power) && decide (m.power ≤ 1000)
def okFrom : S → List M → Bool
  | _, [] => true
  | p, m :: t => okM p m && okFrom m.name t
def okL (L : List M) : Bool := decide (1 ≤ L.length) && decide (L.length ≤ 7) && okFrom [] L
def checkC (L : List M) : Int := if okL L then 0 else 50
def lastOf (p : S) (L : List M) : S := L.foldl (fun _ m => m.name) p
theorem lastOf_snoc (p : S) (L : List M) (m : M) : lastOf p (L ++ [m]) = m.name := by simp [lastOf]
theorem okFrom_append (p : S) (A B : List M) : okFrom p (A ++ B) = (okFrom p A && okFrom (lastOf p A) B) := by
  induction A generalizing p with
  | nil => rfl
  | cons m A ih => simp only [List.cons_append, okFrom, ih, Bool.and_assoc, lastOf, List.foldl_cons]
theorem okFrom_take (L : List M) (k : Nat) (h : k < L.length) : okFrom [] (L.take (k + 1)) = (okFrom [] (L.take k) && okM (lastOf [] (L.take k)) L[k]) := by
  rw [List.take_succ_eq_append_getElem h, okFrom_append]
  simp [okFrom]
theorem okFrom_bad (L : List M) (k : Nat) (h : k < L.length) (hb : okM (lastOf [] (L.take k)) L[k] = false) : okFrom [] L = false := by
  rw [← List.take_append_drop k L, okFrom_append, List.drop_eq_getElem_cons h]
  simp [okFrom, hb]
theorem lastOf_take (L : List M) (k : Nat) (h : k < L.length) : lastOf [] (L.take (k + 1)) = L[k].name := by
  rw [List.take_succ_eq_append_getElem h, lastOf_snoc]
theorem lt_nil (s : S) : ([] < s) ↔ s ≠ [] := by cases s <;> simp
/-- What a set that may be is. -/
theorem okFrom_mem {p : S} {L : List M} (h : okFrom p L = true) : ∀ m ∈ L, p < m.name ∧ m.name.length ≤ 6 ∧ 1 ≤ m.power ∧ m.power ≤ 1000 := by
  induction L generalizing p with
  | nil => simp
  | cons a L ih =>
    simp only [okFrom, okM, Bool.and_eq_true, decide_eq_true_eq] at h
    intro m hm
    rcases List.mem_cons.1 hm with rfl | hm
    · exact ⟨h.1.1.1.1, h.1.1.1.2, h.1.1.2, h.1.2⟩
    · have := ih h.2 m hm
      exact ⟨List.lt_trans h.1.1.1.1 this.1, this.2⟩
theorem okL_mem {L : List M} (h : okL L = true) : ∀ m ∈ L, m.name ≠ [] ∧ m.name.length ≤ 6 ∧ 1 ≤ m.power ∧ m.power ≤ 1000 := by
  simp only [okL, Bool.and_eq_true] at h
  intro m hm
  have := okFrom_mem h.2 m hm
  exact ⟨(lt_nil _).1 this.1, this.2⟩
theorem okL_len {L : List M} (h : okL L = true) : 1 ≤ L.length ∧ L.length ≤ 7 := by
  simp only [okL, Bool.and_eq_true, decide_eq_true_eq] at h
  exact h.1
def sumP (L : List M) : Int := L.foldr (fun m n => m.power + n) 0
theorem snocInd {α : Type} {p : List α → Prop} (h0 : p []) (h1 : ∀ l d, p l → p (l ++ [d])) (l : List α) : p l := by
  have h : ∀ r : List α, p r.reverse := by
    intro r
    induction r with
    | nil => exact h0
    | cons d r ih => rw [List.reverse_cons]; exact h1 _ _ ih
  have := h l.reverse
  rwa [List.reverse_reverse] at this
end Go.Proofs.YtddjkiejekfekaaDoor.Pw
namespace Go.Proofs.YtddjkiejekfekaaDoor.Sto
abbrev T := List UInt8
abbrev St := List (T × T)
def put : St → T → T → St
  | [], k, t => [(k, t)]
  | a :: r, k, t => if k = a.1 then a :: r else if k < a.1 then (k, t) :: a :: r else a :: put r k t
end Go.Proofs.YtddjkiejekfekaaDoor.Sto
namespace Go.Proofs.YtddjkiejekfekaaDoor
theorem less_lt : ∀ (x y : List UInt8), Op.bytesLess x y = decide (x < y)
  | [], [] => by simp [Op.bytesLess]
  | _ :: _, [] => by simp [Op.bytesLess]
  | [], _ :: _ => by simp [Op.bytesLess]
  | a :: x, b :: y => by
    rw [Op.bytesLess, less_lt x y, Bool.eq_iff_iff]
    simp only [Bool.or_eq_true, Bool.and_eq_true, decide_eq_true_eq, beq_iff_eq, List.cons_lt_cons_iff]
end Go.Proofs.YtddjkiejekfekaaDoor
namespace Go.Proofs.YtddjkiejekfekaaDoor.Nib

end Go.Proofs.YtddjkiejekfekaaDoor.Nib
namespace Go.Proofs.YtddjkiejekfekaaDoor
open Go.RowKit

def cellsL (l : List UInt8) : List Value := l.map fun b => .int .u8 (b.toNat : Int)
theorem cellsL_append (a b : List UInt8) : cellsL (a ++ b) = cellsL a ++ cellsL b := by simp [cellsL]
theorem cellsL_length (a : List UInt8) : (cellsL a).length = a.length := by simp [cellsL]
theorem Tryd.infoByte : (Tryd.prog.info? 5).map (fun i => (i.zero, i.size, i.bytes)) = some (some (.int .u8 0), 1, 1) := by kernel_rfl
theorem byte_lt (b : UInt8) : (b.toNat : Int) < 256 := by have := b.toNat_lt; simp at this; omega
set_option maxRecDepth 100000 in
theorem conv_own {w : World} {B : Nat} {v : Value} {ys : List UInt8} (h : w.ownsRow B 5 1 v ys.length (cellsL ys)) : (convert 46 9 v).run Tryd.prog w = .ok (.string ⟨ys.toArray⟩) w := by
  rcases h.2 with ⟨rfl, h0⟩ | ⟨g, cap, cur, rfl, _⟩
  · obtain rfl : ys = [] := List.eq_nil_of_length_eq_zero h0
    rfl
  · refine run_convert_bytes_back w 46 9 5 ⟨g, 0, none⟩ cap ys Tryd.underlying46 Tryd.underlying5 Tryd.underlying9 ?_
    intro j hj
    exact h.cells (g := g) rfl j _ (by simp [cellsL, hj])
theorem ownsNil (w : World) (B : Nat) : w.ownsRow B 5 1 (.slice none 0 0) ([] : List UInt8).length (cellsL []) := ⟨rfl, Or.inl ⟨rfl, rfl⟩⟩
theorem ownsOne (w : World) (B : Nat) (hB : B ≤ w.heap.size) (b : UInt8) (z : Int) (hz : z = (b.toNat : Int)) : (w.alloc (.cells #[.int .u8 z] 5)).ownsRow B 5 1 (.slice (some ⟨w.heap.size, 0, none⟩) 1 1) [b].length (cellsL [b]) := by
  subst hz
  exact ⟨rfl, Or.inr ⟨w.heap.size, 1, #[.int .u8 (b.toNat : Int)], rfl, hB, heap_alloc_new w _, Nat.le_refl _, by unfold maxLen; omega, rfl, rfl⟩⟩
theorem bytes_list (a : ByteArray) : ∃ l : List UInt8, a = ⟨l.toArray⟩ := ⟨a.data.toList, by simp⟩
theorem conv_one' (w : World) (a : UInt8) (x : Int) (hx : x = (a.toNat : Int)) (n : Nat) (hn : n = w.heap.size) :
    (convert 46 9 (.slice (some ⟨n, 0, none⟩) 1 1)).run Tryd.prog (w.alloc (.cells #[.int .u8 x] 5)) = .ok (.string ⟨[a].toArray⟩) (w.alloc (.cells #[.int .u8 x] 5)) := by
  subst hn
  exact conv_own (ownsOne w w.heap.size (Nat.le_refl _) a x hx)
theorem cat_mk (p x : List UInt8) : ((⟨p.toArray⟩ : ByteArray) ++ (⟨x.toArray⟩ : ByteArray)) = ⟨(p ++ x).toArray⟩ := by
  apply ByteArray.ext; simp
theorem bchain {w w1 w2 : World} (h : Below w.heap.size w w1) (k : Below w1.heap.size w1 w2) : Below w.heap.size w w2 := h.trans (k.mono h.size)
theorem bel_drewN {B : Nat} {a w : World} (h : Below B a w) (n : Nat) : Below B a (w.drewN n) := h.trans ⟨rfl, rfl, rfl, Nat.le_refl _, fun _ _ => rfl⟩
end Go.Proofs.YtddjkiejekfekaaDoor
namespace Go.Proofs.YtddjkiejekfekaaDoor.Code

def sz (n : Nat) : Nat := if _h : n = 0 then 0 else sz (n / 256) + 1
def be : Nat → Nat → List UInt8
  | 0, _ => []
  | k + 1, n => be k (n / 256) ++ [UInt8.ofNat (n % 256)]
def numL (n : Nat) : List UInt8 := UInt8.ofNat (sz n) :: be (sz n) n
def textL (s : List UInt8) : List UInt8 := numL s.length ++ s
def textsL (l : List (List UInt8)) : List UInt8 := l.flatMap textL
def listL (l : List (List UInt8)) : List UInt8 := numL l.length ++ textsL l
def val (l : List UInt8) : Nat := l.foldl (fun a d => a * 256 + d.toNat) 0
def lenN (n : Nat) : Nat := if n = 0 then 0 else n.log2 + 1

theorem sz_zero : sz 0 = 0 := by rw [sz]; simp
theorem sz_pos (n : Nat) (h : n ≠ 0) : sz n = sz (n / 256) + 1 := by rw [sz]; simp [h]
theorem be_length (k n : Nat) : (be k n).length = k := by
  induction k generalizing n with
  | zero => rfl
  | succ k ih => simp [be, ih]
theorem be_step (k i n : Nat) (h : i < k) : be i (n / 256 ^ (k - i)) ++ [UInt8.ofNat (n / 256 ^ (k - 1 - i) % 256)] = be (i + 1) (n / 256 ^ (k - (i + 1))) := by
  have e : k - i = (k - (i + 1)) + 1 := by omega
  have e2 : k - 1 - i = k - (i + 1) := by omega
  rw [be, e, e2, Nat.pow_succ, ← Nat.div_div_eq_div_mul]
theorem sz_iff (n : Nat) : ∀ k, (n < 256 ^ k ∧ (k ≠ 0 → 256 ^ (k - 1) ≤ n)) → sz n = k := by
  induction n using Nat.strongRecOn with
  | _ n ih =>
    intro k ⟨h1, h2⟩
    by_cases h : n = 0
    · subst h
      rw [sz_zero]
      by_cases hk : k = 0
      · exact hk.symm
      · have := h2 hk
        have p : 0 < 256 ^ (k - 1) := Nat.pow_pos (by omega)
        omega
    · rw [sz_pos n h]
      obtain ⟨j, rfl⟩ : ∃ j, k = j + 1 := by
        cases k with
        | zero => simp at h1; omega
        | succ j => exact ⟨j, rfl⟩
      have h3 := h2 (by omega)
      simp at h3
      rw [ih (n / 256) (by omega) j ⟨?_, ?_⟩]
      · rw [Nat.pow_succ] at h1; omega
      · intro hj
        obtain ⟨i, rfl⟩ : ∃ i, j = i + 1 := ⟨j - 1, by omega⟩
        rw [Nat.pow_succ] at h3
        simp
        omega
theorem sz_bounds (n : Nat) : n < 256 ^ sz n ∧ (sz n ≠ 0 → 256 ^ (sz n - 1) ≤ n) := by
  induction n using Nat.strongRecOn with
  | _ n ih =>
    by_cases h : n = 0
    · subst h; simp [sz_zero]
    · rw [sz_pos n h]
      obtain ⟨h1, h2⟩ := ih (n / 256) (by omega)
      refine ⟨?_, fun _ => ?_⟩
      · rw [Nat.pow_succ]; omega
      · simp
        by_cases h0 : sz (n / 256) = 0
        · rw [h0]; simp; omega
        · have h3 := h2 h0
          obtain ⟨i, hi⟩ : ∃ i, sz (n / 256) = i + 1 := ⟨sz (n / 256) - 1, by omega⟩
          rw [hi] at h3 ⊢
          simp at h3
          rw [Nat.pow_succ]; omega
theorem sz_le8 (n : Nat) (h : n < 2 ^ 64) : sz n ≤ 8 := by
  have ⟨_, h2⟩ := sz_bounds n
  by_cases hk : sz n ≤ 8
  · exact hk
  · have h3 := h2 (by omega)
    have := Nat.pow_le_pow_right (n := 256) (by omega) (show 8 ≤ sz n - 1 by omega)
    have e : (256 : Nat) ^ 8 = 2 ^ 64 := by decide
    omega
theorem len_bounds (n : Nat) : n < 2 ^ lenN n ∧ (lenN n ≠ 0 → 2 ^ (lenN n - 1) ≤ n) := by
  unfold lenN
  by_cases h : n = 0
  · simp [h]
  · simp only [h, if_false, Nat.add_sub_cancel]
    exact ⟨Nat.lt_log2_self, fun _ => Nat.log2_self_le h⟩
theorem len_sz (n : Nat) : (lenN n + 7) / 8 = sz n := by
  refine (sz_iff n _ ⟨?_, fun hk => ?_⟩).symm
  · refine Nat.lt_of_lt_of_le (len_bounds n).1 ?_
    rw [show (256 : Nat) = 2 ^ 8 by decide, ← Nat.pow_mul]
    exact Nat.pow_le_pow_right (by omega) (by omega)
  · refine Nat.le_trans ?_ ((len_bounds n).2 (by omega))
    rw [show (256 : Nat) = 2 ^ 8 by decide, ← Nat.pow_mul]
    exact Nat.pow_le_pow_right (by omega) (by omega)
theorem len_shift (n j : Nat) (h : 2 ^ j ≤ n) : lenN n = j + lenN (n / 2 ^ j) := by
  have p : 0 < 2 ^ j := Nat.pow_pos (by omega)
  have hq : n / 2 ^ j ≠ 0 := by have := Nat.div_pos h p; omega
  have hn : n ≠ 0 := by omega
  unfold lenN
  simp only [hn, hq, if_false]
  have a := Nat.log2_self_le hq
  have b := Nat.lt_log2_self (n := n / 2 ^ j)
  have e : n.log2 = j + (n / 2 ^ j).log2 := by
    rw [Nat.log2_eq_iff hn]
    rw [Nat.pow_add]
    refine ⟨?_, ?_⟩
    · have := (Nat.le_div_iff_mul_le p).1 a
      rw [Nat.mul_comm]; exact this
    · have := (Nat.div_lt_iff_lt_mul p).1 b
      rw [Nat.add_assoc, Nat.pow_add, Nat.mul_comm]; exact this
  omega
theorem val_append (a : List UInt8) (d : UInt8) : val (a ++ [d]) = val a * 256 + d.toNat := by simp [val]
theorem ofNat_toNat (n : Nat) (h : n < 256) : (UInt8.ofNat n).toNat = n := by simp; omega
theorem val_be (k n : Nat) (h : n < 256 ^ k) : val (be k n) = n := by
  induction k generalizing n with
  | zero => simp [be, val]; simp at h; omega
  | succ k ih =>
    rw [be, val_append, ofNat_toNat _ (by omega), ih]
    · omega
    · rw [Nat.pow_succ] at h; omega
theorem snocInd {p : List UInt8 → Prop} (h0 : p []) (h1 : ∀ l d, p l → p (l ++ [d])) (l : List UInt8) : p l := by
  have h : ∀ r : List UInt8, p r.reverse := by
    intro r
    induction r with
    | nil => exact h0
    | cons d r ih => rw [List.reverse_cons]; exact h1 _ _ ih
  have := h l.reverse
  rwa [List.reverse_reverse] at this
theorem val_lt (l : List UInt8) : val l < 256 ^ l.length := by
  induction l using snocInd with
  | h0 => simp [val]
  | h1 l d ih =>
    rw [val_append]
    simp [Nat.pow_succ]
    have := d.toNat_lt
    omega
theorem be_val (l : List UInt8) : be l.length (val l) = l := by
  induction l using snocInd with
  | h0 => simp [val, be]
  | h1 l d ih =>
    have hd := d.toNat_lt
    rw [val_append]
    simp only [List.length_append, List.length_singleton, be]
    rw [show (val l * 256 + d.toNat) / 256 = val l by omega, ih, show (val l * 256 + d.toNat) % 256 = d.toNat by omega]
    simp
theorem val_ge (c : UInt8) (l : List UInt8) : c.toNat * 256 ^ l.length ≤ val (c :: l) ∧ val (c :: l) < (c.toNat + 1) * 256 ^ l.length := by
  induction l using snocInd with
  | h0 => simp [val]
  | h1 l d ih =>
    have hd := d.toNat_lt
    rw [← List.cons_append, val_append]
    simp only [List.length_append, List.length_singleton, Nat.pow_succ, ← Nat.mul_assoc]
    omega

/-- What the program's lead tells of bytes: the number, how many bytes it takes, the code. -/
def bad (k : Nat) (d : List UInt8) : Bool := (decide (0 < k) && (d.headD 0).toNat == 0) || (k == 8 && decide (128 ≤ (d.headD 0).toNat))
def leadL : List UInt8 → Nat × Nat × Int
  | [] => (0, 0, 20)
  | c :: r => if c.toNat > 8 then (0, 0, 3) else if r.length < c.toNat then (0, 0, 20) else if bad c.toNat (r.take c.toNat) then (0, 0, 3) else (val (r.take c.toNat), 1 + c.toNat, 0)

theorem numL_length (n : Nat) : (numL n).length = 1 + sz n := by simp [numL, be_length]; omega
theorem be_head (n : Nat) (h : n ≠ 0) : ∃ c r, be (sz n) n = c :: r ∧ r.length = sz n - 1 ∧ c.toNat ≠ 0 ∧ (n < 2 ^ 63 → sz n = 8 → c.toNat < 128) := by
  have hs := sz_pos n h
  obtain ⟨h1, h2⟩ := sz_bounds n
  have h3 := h2 (by omega)
  have hl := be_length (sz n) n
  match hb : be (sz n) n with
  | [] => rw [hb] at hl; simp at hl; omega
  | c :: r =>
    rw [hb] at hl
    simp at hl
    have hv := val_be (sz n) n h1
    have ⟨g1, g2⟩ := val_ge c r
    rw [← hb, hv] at g1 g2
    refine ⟨c, r, rfl, by omega, ?_, ?_⟩
    · intro hc
      rw [hc] at g2
      rw [show r.length = sz n - 1 by omega] at g2
      omega
    · intro hn h8
      rw [show r.length = 7 by omega] at g1
      have e : (256 : Nat) ^ 7 = 2 ^ 56 := by decide
      rw [e] at g1
      omega
theorem lead_num (n : Nat) (h : n < 2 ^ 63) (r : List UInt8) : leadL (numL n ++ r) = (n, 1 + sz n, 0) := by
  have h8 := sz_le8 n (by omega)
  have hb := (sz_bounds n).1
  have hl := be_length (sz n) n
  have ht : (be (sz n) n ++ r).take (sz n) = be (sz n) n := by
    rw [List.take_append_of_le_length (by omega), List.take_of_length_le (by omega)]
  have hbad : bad (sz n) (be (sz n) n) = false := by
    by_cases h0 : n = 0
    · subst h0; simp [bad, sz_zero]
    · obtain ⟨c, q, e, _, hc, hd⟩ := be_head n h0
      rw [e]
      simp only [bad, List.headD_cons, Bool.or_eq_false_iff, Bool.and_eq_false_iff, decide_eq_false_iff_not, beq_eq_false_iff_ne]
      refine ⟨Or.inr hc, ?_⟩
      by_cases h8 : sz n = 8
      · exact Or.inr (decide_eq_false (Nat.not_le.2 (hd h h8)))
      · exact Or.inl h8
  simp only [numL, List.cons_append, leadL]
  rw [ofNat_toNat _ (by omega), ht, hbad, val_be _ _ hb]
  simp only [List.length_append, hl]
  rw [if_neg (by omega), if_neg (by omega)]
  simp
theorem lead_ok (s : List UInt8) (h : (leadL s).2.2 = 0) : (leadL s).1 < 2 ^ 63 ∧ (leadL s).2.1 ≤ s.length ∧ s.take (leadL s).2.1 = numL (leadL s).1 := by
  match s with
  | [] => simp [leadL] at h
  | c :: r =>
    simp only [leadL] at h ⊢
    split at h
    · simp at h
    · split at h
      · simp at h
      · split at h
        · simp at h
        · rename_i h1 h2 h3
          rw [if_neg h1, if_neg h2, if_neg h3]
          simp only [Bool.not_eq_true] at h3
          have hl : (r.take c.toNat).length = c.toNat := by rw [List.length_take]; omega
          have hsz : sz (val (r.take c.toNat)) = c.toNat := by
            refine sz_iff _ _ ⟨by have := val_lt (r.take c.toNat); rw [hl] at this; exact this, fun hk => ?_⟩
            match hd : r.take c.toNat with
            | [] => rw [hd] at hl; simp at hl; omega
            | x :: q =>
              rw [hd] at hl h3
              simp at hl
              simp only [bad, List.headD_cons, Bool.or_eq_false_iff, Bool.and_eq_false_iff, decide_eq_false_iff_not, beq_eq_false_iff_ne] at h3
              have hx : x.toNat ≠ 0 := by rcases h3.1 with a | a; omega; exact a
              have ⟨g, _⟩ := val_ge x q
              rw [show c.toNat - 1 = q.length by omega]
              have : 1 * 256 ^ q.length ≤ x.toNat * 256 ^ q.length := Nat.mul_le_mul_right _ (by omega)
              omega
          refine ⟨?_, by simp; omega, ?_⟩
          · by_cases h8 : c.toNat = 8
            · match hd : r.take c.toNat with
              | [] => rw [hd] at hl; simp at hl; omega
              | x :: q =>
                rw [hd] at hl h3
                simp at hl
                simp only [bad, List.headD_cons, Bool.or_eq_false_iff, Bool.and_eq_false_iff, decide_eq_false_iff_not, beq_eq_false_iff_ne] at h3
                have hx : x.toNat < 128 := by rcases h3.2 with a | a; exact absurd h8 a; exact Nat.not_le.1 (of_decide_eq_false a)
                have ⟨_, g⟩ := val_ge x q
                have e : (256 : Nat) ^ 7 = 2 ^ 56 := by decide
                rw [show q.length = 7 by omega, e] at g
                omega
            · have := val_lt (r.take c.toNat)
              rw [hl] at this
              have e : (256 : Nat) ^ 7 = 2 ^ 56 := by decide
              have := Nat.pow_le_pow_right (n := 256) (by omega) (show c.toNat ≤ 7 by omega)
              omega
          · rw [Nat.add_comm, List.take_succ_cons, numL, hsz]
            have hb := be_val (r.take c.toNat)
            rw [hl] at hb
            rw [hb]
            simp

end Go.Proofs.YtddjkiejekfekaaDoor.Code
namespace Go.Proofs.YtddjkiejekfekaaDoor
open Go.RowKit

def Strs (w : World) (v : Value) (L : List (List UInt8)) : Prop :=
  ∃ (A : Option Addr) (cap : Nat), v = .slice A L.length cap ∧ ∀ i (h : i < L.length), ∃ a, A = some a ∧ w.cell? (a.add i) = some (.string ⟨L[i].toArray⟩)
theorem Strs.below {w w' : World} {v : Value} {L : List (List UInt8)} (h : Strs w v L) (hb : Below w.heap.size w w') : Strs w' v L := by
  obtain ⟨A, cap, rfl, hc⟩ := h
  refine ⟨A, cap, rfl, fun i hi => ?_⟩
  obtain ⟨a, ha, hcell⟩ := hc i hi
  exact ⟨a, ha, (hb.cell (World.block_lt_of_cell? _ _ hcell)).trans hcell⟩
theorem Strs.nil (w : World) : Strs w (.slice none 0 0) [] := ⟨none, 0, rfl, fun i h => absurd h (Nat.not_lt_zero i)⟩
theorem Code.texts_snoc (L : List (List UInt8)) (k : Nat) (h : k < L.length) : Code.textsL (L.take k) ++ Code.textL L[k] = Code.textsL (L.take (k + 1)) := by
  rw [List.take_succ_eq_append_getElem h, Code.textsL, Code.textsL, List.flatMap_append]
  simp only [List.flatMap_cons, List.flatMap_nil, List.append_nil]
theorem Code.texts_take_le (L : List (List UInt8)) (k : Nat) : (Code.textsL (L.take k)).length ≤ (Code.textsL L).length := by
  have h : (Code.textsL (L.take k) ++ Code.textsL (L.drop k)).length = (Code.textsL L).length := by
    rw [Code.textsL, Code.textsL, ← List.flatMap_append, List.take_append_drop, Code.textsL]
  rw [List.length_append] at h
  omega
theorem Code.textL_length (s : List UInt8) : (Code.textL s).length = 1 + Code.sz s.length + s.length := by simp [Code.textL, Code.numL_length]
theorem Code.text_le_texts (L : List (List UInt8)) (k : Nat) (h : k < L.length) : L[k].length ≤ (Code.textsL L).length := by
  have h1 := Code.texts_take_le L (k + 1)
  rw [← Code.texts_snoc L k h, List.length_append, Code.textL_length] at h1
  omega
end Go.Proofs.YtddjkiejekfekaaDoor
namespace Go.Proofs.YtddjkiejekfekaaDoor
open Go.RowKit Go.ChangeShapes Go.WideShapes

end Go.Proofs.YtddjkiejekfekaaDoor
namespace Go.Proofs.YtddjkiejekfekaaDoor
open Go.RowKit

theorem lt_of_heap {w : World} {g : Nat} {o : Obj} (h : w.heap[g]? = some o) : g < w.heap.size := by
  rcases Nat.lt_or_ge g w.heap.size with hlt | hge
  · exact hlt
  · rw [Array.getElem?_eq_none hge] at h; cases h
theorem heap_new_at (w : World) (o : Obj) (i : Nat) (h : i = w.heap.size) : (w.alloc o).heap[i]? = some o := by subst h; exact heap_alloc_new w o
theorem heap_old_at {w : World} {i : Nat} {x : Obj} (o : Obj) (h : w.heap[i]? = some x) : (w.alloc o).heap[i]? = some x := (Below.heap_alloc w o i (lt_of_heap h)).trans h

theorem keep_cell {w : World} {p q : Addr} {u v : Value} (h : w.cell? q = some v) (hn : q.block ≠ p.block) : (w.setCell p u).cell? q = some v :=
  (World.cell?_setCell_other w p q u (fun e => hn (by rw [e]))).trans h
theorem keep_cell' {w : World} {p q : Addr} {u v : Value} (h : w.cell? q = some v) (hn : q.block ≠ p.block) : (w.setCell p u).drew.cell? q = some v := keep_cell h hn
theorem keep_off {w : World} {p q : Addr} {u v : Value} (h : w.cell? q = some v) (hn : q ≠ p) : (w.setCell p u).cell? q = some v :=
  (World.cell?_setCell_other w p q u (Ne.symm hn)).trans h
theorem keep_offN {w : World} {n : Nat} {p q : Addr} {u v : Value} (h : w.cell? q = some v) (hn : q ≠ p) : ((w.drewN n).setCell p u).cell? q = some v := keep_off (w := w.drewN n) h hn
/-- The world but for block g. -/
structure Only (g : Nat) (w w' : World) : Prop where
  os : w'.os = w.os
  tape : w'.tape = w.tape
  output : w'.output = w.output
  size : w.heap.size ≤ w'.heap.size
  block : ∀ k, k < w.heap.size → k ≠ g → w'.heap[k]? = w.heap[k]?
theorem Only.refl (g : Nat) (w : World) : Only g w w := ⟨rfl, rfl, rfl, Nat.le_refl _, fun _ _ _ => rfl⟩
theorem Only.trans {g : Nat} {a b c : World} (h : Only g a b) (k : Only g b c) : Only g a c :=
  ⟨k.os.trans h.os, k.tape.trans h.tape, k.output.trans h.output, Nat.le_trans h.size k.size, fun i hi hg => (k.block i (Nat.lt_of_lt_of_le hi h.size) hg).trans (h.block i hi hg)⟩
theorem Only.of {g : Nat} {a b : World} (h : Below a.heap.size a b) : Only g a b := ⟨h.os, h.tape, h.output, h.size, fun i hi _ => h.block i hi⟩
theorem Only.below {B g : Nat} {a b : World} (h : Only g a b) (hB : B ≤ g) (hs : B ≤ a.heap.size) : Below B a b := ⟨h.os, h.tape, h.output, h.size, fun i hi => h.block i (by omega) (by omega)⟩
theorem Only.setCell {g : Nat} {a w : World} (h : Only g a w) {p : Addr} (hp : p.block = g) (u : Value) : Only g a (w.setCell p u) :=
  ⟨h.os, h.tape, h.output, by have := h.size; simpa [World.setCell] using this, fun i hi hg => (Below.heap_setCell w p u i (by rw [hp]; exact hg)).trans (h.block i hi hg)⟩
theorem Only.drew {g : Nat} {a w : World} (h : Only g a w) : Only g a w.drew := ⟨h.os, h.tape, h.output, h.size, h.block⟩
theorem Only.of_drew {g : Nat} {a w : World} (h : Only g a.drew w) : Only g a w := ⟨h.os, h.tape, h.output, h.size, h.block⟩
theorem Only.cell {g : Nat} {w w' : World} (h : Only g w w') {p : Addr} {v : Value} (hc : w.cell? p = some v) (hp : p.block ≠ g) : w'.cell? p = some v :=
  (World.cell?_of_block (w := w) (h.block p.block (World.block_lt_of_cell? _ _ hc) hp)).trans hc
theorem ext_drop (s : List UInt8) (k : Nat) : (⟨s.toArray⟩ : ByteArray).extract k s.length = ⟨(s.drop k).toArray⟩ := by
  rw [Lib.extract_eq]
  simp only
  rw [List.take_of_length_le (by simp)]
end Go.Proofs.YtddjkiejekfekaaDoor
namespace Go.Proofs.YtddjkiejekfekaaDoor
open Go.RowKit Go.MapKept
open Go.ChangeMaps (setBlock heap_setBlock_same heap_setBlock_other)
open Go.Maps (Keyed)

/-- The world but for the blocks of F. -/
structure Out (F : Nat → Prop) (w w' : World) : Prop where
  os : w'.os = w.os
  tape : w'.tape = w.tape
  output : w'.output = w.output
  size : w.heap.size ≤ w'.heap.size
  block : ∀ k, k < w.heap.size → ¬ F k → w'.heap[k]? = w.heap[k]?
theorem Out.refl (F : Nat → Prop) (w : World) : Out F w w := ⟨rfl, rfl, rfl, Nat.le_refl _, fun _ _ _ => rfl⟩
theorem Out.trans {F : Nat → Prop} {a b c : World} (h : Out F a b) (k : Out F b c) : Out F a c :=
  ⟨k.os.trans h.os, k.tape.trans h.tape, k.output.trans h.output, Nat.le_trans h.size k.size, fun i hi hg => (k.block i (Nat.lt_of_lt_of_le hi h.size) hg).trans (h.block i hi hg)⟩
theorem Out.mono {F G : Nat → Prop} {a b : World} (h : Out F a b) (hi : ∀ k, k < a.heap.size → F k → G k) : Out G a b :=
  ⟨h.os, h.tape, h.output, h.size, fun i hl hg => h.block i hl (fun hf => hg (hi i hl hf))⟩
theorem Out.of {F : Nat → Prop} {a b : World} (h : Below a.heap.size a b) : Out F a b := ⟨h.os, h.tape, h.output, h.size, fun i hi _ => h.block i hi⟩
theorem Out.below {B : Nat} {F : Nat → Prop} {a b : World} (h : Out F a b) (hB : ∀ k, F k → B ≤ k) (hs : B ≤ a.heap.size) : Below B a b :=
  ⟨h.os, h.tape, h.output, h.size, fun i hi => h.block i (by omega) (fun hf => absurd (hB i hf) (by omega))⟩
theorem Out.drew {F : Nat → Prop} {a w : World} (h : Out F a w) : Out F a w.drew := ⟨h.os, h.tape, h.output, h.size, h.block⟩
theorem Out.of_drew {F : Nat → Prop} {a w : World} (h : Out F a.drew w) : Out F a w := ⟨h.os, h.tape, h.output, h.size, h.block⟩
theorem Out.alloc {F : Nat → Prop} {a w : World} (h : Out F a w) (o : Obj) : Out F a (w.alloc o) := h.trans (Out.of ((Below.refl _ w).alloc (Nat.le_refl _) o))
theorem Out.setCell {F : Nat → Prop} {a w : World} (h : Out F a w) {p : Addr} (hp : F p.block) (u : Value) : Out F a (w.setCell p u) :=
  ⟨h.os, h.tape, h.output, by have := h.size; simpa [World.setCell] using this, fun i hi hg => (Below.heap_setCell w p u i (fun e => hg (e ▸ hp))).trans (h.block i hi hg)⟩
theorem Out.grown {F : Nat → Prop} {w w' : World} {row : Option Nat} (h : w.grownBy w' row) (hr : ∀ k, row = some k → F k) : Out F w w' :=
  ⟨h.os, h.tape, h.output, h.size, fun i hi hg => h.block i hi (fun e => hg (hr i e.symm))⟩
theorem Out.heap {F : Nat → Prop} {w w' : World} (h : Out F w w') {k : Nat} {o : Obj} (hk : w.heap[k]? = some o) (hF : ¬ F k) : w'.heap[k]? = some o := (h.block k (lt_of_heap hk) hF).trans hk
theorem Out.cell {F : Nat → Prop} {w w' : World} (h : Out F w w') {p : Addr} {v : Value} (hc : w.cell? p = some v) (hp : ¬ F p.block) : w'.cell? p = some v :=
  (World.cell?_of_block (w := w) (h.block p.block (World.block_lt_of_cell? _ _ hc) hp)).trans hc

/-- Block b is a map of these entries, in the order in which they came. -/
def MapIs (w : World) (b : Nat) (E : List (Value × Value)) : Prop :=
  ∃ es clock, w.heap[b]? = some (.map es clock) ∧ es.toList.map (fun e => (e.key, e.val)) = E
theorem MapIs.lt {w : World} {b : Nat} {E : List (Value × Value)} (h : MapIs w b E) : b < w.heap.size := by
  obtain ⟨_, _, h1, _⟩ := h; exact lt_of_heap h1
theorem MapIs.made (w : World) (b : Nat) (h : b = w.heap.size) : MapIs (w.alloc (.map #[] 0)) b [] := ⟨#[], 0, heap_new_at w _ _ h, rfl⟩
theorem MapIs.out {F : Nat → Prop} {w w' : World} {b : Nat} {E : List (Value × Value)} (h : MapIs w b E) (ho : Out F w w') (hF : ¬ F b) : MapIs w' b E := by
  obtain ⟨es, clock, h1, h2⟩ := h
  exact ⟨es, clock, ho.heap h1 hF, h2⟩
theorem MapIs.drew {w : World} {b : Nat} {E : List (Value × Value)} (h : MapIs w b E) : MapIs w.drew b E := h
theorem MapIs.alloc {w : World} {b : Nat} {E : List (Value × Value)} (h : MapIs w b E) (o : Obj) : MapIs (w.alloc o) b E := by
  obtain ⟨es, clock, h1, h2⟩ := h
  exact ⟨es, clock, heap_old_at o h1, h2⟩
theorem MapIs.store {P : Program} {w : World} {b : Nat} {E : List (Value × Value)} {k t e : TypeId} (h : MapIs w b E) (K : Keyed P k) (ht : P.underlying t = some (.map k e))
    (hks : ∀ p ∈ E, ∃ l, keyOf P k p.1 = some l) {key : Value} {kl : Lit} (hkey : keyOf P k key = some kl) (hno : ∀ p ∈ E, p.1 ≠ key) (val : Value) :
    ∃ w', (Instr.mapUpdate t (.map (some b)) key val).run P w = .ok () w' ∧ MapIs w' b (E ++ [(key, val)]) ∧ Out (fun i => i = b) w w' ∧ w'.heap.size = w.heap.size := by
  obtain ⟨es, clock, hb, rfl⟩ := h
  have hk' : ∀ x ∈ es.toList, ∃ l, keyOf P k x.key = some l := fun x hx => hks (x.key, x.val) (List.mem_map.2 ⟨x, hx, rfl⟩)
  rcases K.find w hkey es.toList hk' with ⟨h1, h2⟩ | ⟨j, e0, h1, h2, h3⟩
  · refine ⟨setBlock w b (.map (es.push ⟨key, val, clock⟩) (clock + 1)), ?_, ⟨_, _, heap_setBlock_same hb _, by simp⟩, ⟨rfl, rfl, rfl, by simp [setBlock], fun i _ hi => heap_setBlock_other hb _ hi⟩, by simp [setBlock]⟩
    simp [Instr.mapUpdate, run_underlying ht, MapKept.run_getObj_map hb, K.check w false hkey, h1, MapKept.run_setObj_map _ hb, Result.andThen, setBlock]
  · exact absurd h3 (hno (e0.key, e0.val) (List.mem_map.2 ⟨e0, List.mem_of_getElem? h2, rfl⟩))

theorem weights_of_mem {H : Type} {P : Program} {e : TypeId} : ∀ {l : List (DataW H)} {d : DataW H}, d ∈ l → ∀ n ∈ d.weights P e, n ∈ DataW.weightsAll P e l
  | a :: r, d, hd, n, hn => by
    rw [DataW.weightsAll, List.mem_append]
    cases List.mem_cons.1 hd with
    | inl h => exact Or.inl (h ▸ hn)
    | inr h => exact Or.inr (weights_of_mem h n hn)
theorem cellsS : Tryd.prog.cellsOf 9 = 1 := by kernel_rfl
theorem own_form {w : World} {B : Nat} {e : TypeId} {z : Nat} {s : Value} {n : Nat} {xs : List Value} (h : w.ownsRow B e z s n xs) : ∃ A cap, s = .slice A n cap := by
  rcases h.2 with ⟨rfl, rfl⟩ | ⟨k, cap, cur, rfl, _⟩
  · exact ⟨none, 0, rfl⟩
  · exact ⟨_, cap, rfl⟩
theorem row_out {G : Nat → Prop} {w w' : World} {B : Nat} {e : TypeId} {z : Nat} {s : Value} {n : Nat} {xs : List Value} (h : w.ownsRow B e z s n xs) (ho : Out G w w') (hd : ∀ k cs t f, G k → w.heap[k]? ≠ some (.cells cs t f)) : w'.ownsRow B e z s n xs := by
  refine ⟨h.1, ?_⟩
  rcases h.2 with hn | ⟨k, cap, cur, hv, hb, hk, hr⟩
  · exact Or.inl hn
  · exact Or.inr ⟨k, cap, cur, hv, hb, ho.heap hk (fun hg => hd k _ _ _ hg hk), hr⟩
end Go.Proofs.YtddjkiejekfekaaDoor
namespace Go.Proofs.YtddjkiejekfekaaDoor
open Go.Shelf Go.RowKit
def ren129 : Go.Shelf.Ren := ⟨fun | 129 => 71 | n => n, fun | 53 => 83 | 3 => 3 | 4 => 4 | 46 => 95 | 5 => 5 | 9 => 9 | n => n, fun | n => n⟩
theorem lays129 : Go.Proofs.Lays.n129 Tryd.prog ren129 := {
  mixed := by kernel_rfl
  f129 := Tryd.func71.trans (congrArg some (by kernel_rfl))
  t3 := Tryd.underlying3
  a3 := Tryd.isAgg3
  z3 := Tryd.sizeOf3
  v3 := Tryd.zeroValue3
  t4 := Tryd.underlying4
  a4 := Tryd.isAgg4
  z4 := Tryd.sizeOf4
  v4 := Tryd.zeroValue4
  t5 := Tryd.underlying5
  a5 := Tryd.isAgg5
  z5 := Tryd.sizeOf5
  v5 := Tryd.zeroValue5
  t9 := Tryd.underlying9
  a9 := Tryd.isAgg9
  z9 := Tryd.sizeOf9
  v9 := Tryd.zeroValue9
  t46 := Tryd.underlying95
  a46 := Tryd.isAgg95
  z46 := Tryd.sizeOf95
  v46 := Tryd.zeroValue95
  t53 := Tryd.underlying83
  a53 := Tryd.isAgg83
  z53 := Tryd.sizeOf83
  v53 := Tryd.zeroValue83 }
theorem shelf_len64 (x : Int) (w : World) (h0 : 0 ≤ x) (h1 : x ≤ 18446744073709551615) :
    Calls Tryd.prog 71 #[.int .u64 x] w fun e w' => e = .returned (.int .i64 (Lib.bitLen x.toNat)) ∧ w' = w := Any.bits_Len64 lays129 x w h0 h1
def ren316 : Go.Shelf.Ren := ⟨fun | 316 => 69 | n => n, fun | 9 => 9 | 3 => 3 | 4 => 4 | 37 => 46 | 0 => 0 | 127 => 94 | 5 => 5 | n => n, fun | n => n⟩
theorem lays316 : Go.Proofs.LaysM.n316 Tryd.prog ren316 := {
  mixed := by kernel_rfl
  f316 := Tryd.func69.trans (congrArg some (by kernel_rfl))
  t0 := Tryd.underlying0
  a0 := Tryd.isAgg0
  z0 := Tryd.sizeOf0
  v0 := Tryd.zeroValue0
  t3 := Tryd.underlying3
  a3 := Tryd.isAgg3
  z3 := Tryd.sizeOf3
  v3 := Tryd.zeroValue3
  t4 := Tryd.underlying4
  a4 := Tryd.isAgg4
  z4 := Tryd.sizeOf4
  v4 := Tryd.zeroValue4
  t9 := Tryd.underlying9
  a9 := Tryd.isAgg9
  z9 := Tryd.sizeOf9
  v9 := Tryd.zeroValue9
  t37 := Tryd.underlying46
  a37 := Tryd.isAgg46
  z37 := Tryd.sizeOf46
  v37 := Tryd.zeroValue46
  t127 := Tryd.underlying94
  a127 := Tryd.isAgg94
  z127 := Tryd.sizeOf94
  v127 := Tryd.zeroValue94
  t5 := Tryd.underlying5
  a5 := Tryd.isAgg5
  z5 := Tryd.sizeOf5
  v5 := Tryd.zeroValue5
  i0 := by kernel_rfl
  i3 := by kernel_rfl
  i4 := by kernel_rfl
  i5 := by kernel_rfl
  i9 := by kernel_rfl
  i37 := by kernel_rfl
  i127 := by kernel_rfl }
theorem shelf_clone (s : ByteArray) (w : World) (hlim : s.size ≤ 281474976710656) :
    Calls Tryd.prog 69 #[.string s] w fun e w' => e = .returned (.string s) ∧ Below w.heap.size w w' := Any.stringslite_Clone lays316 s w hlim

end Go.Proofs.YtddjkiejekfekaaDoor
namespace Go.Proofs.YtddjkiejekfekaaDoor
open Go.RowKit

end Go.Proofs.YtddjkiejekfekaaDoor
namespace Go.Proofs.YtddjkiejekfekaaDoor
open Go.RowKit Go.ChangeShapes Go.WideShapes
open Go.Proofs.YtddjkiejekfekaaDoor.Pw (M)

def mcells (m : M) : List Value := [.string ⟨m.name.toArray⟩, .int .i64 m.power]
def mrows (L : List M) : List Value := L.flatMap mcells
theorem mrows_append (L K : List M) : mrows (L ++ K) = mrows L ++ mrows K := by simp [mrows]
theorem mrows_cons (a : M) (L : List M) : mrows (a :: L) = .string ⟨a.name.toArray⟩ :: .int .i64 a.power :: mrows L := by simp [mrows, mcells]
theorem mrows_at (L : List M) (i j : Nat) (hi : i < L.length) (hj : j < 2) : (mrows L)[i * 2 + j]? = (mcells L[i])[j]? := by
  induction L generalizing i with
  | nil => simp at hi
  | cons a L ih =>
    have e : mrows (a :: L) = mcells a ++ mrows L := by simp [mrows]
    rw [e]
    cases i with
    | zero =>
      rw [List.getElem?_append_left (by simp [mcells]; omega)]
      simp
    | succ i =>
      rw [List.getElem?_append_right (by simp [mcells]; omega)]
      have : (i + 1) * 2 + j - (mcells a).length = i * 2 + j := by simp [mcells]; omega
      rw [this, ih i (by simpa using hi)]
      simp
theorem mrows_set (L : List M) (k : Nat) (m : M) (hk : k < L.length) :
    ((mrows L).set (k * 2) (.string ⟨m.name.toArray⟩)).set (k * 2 + 1) (.int .i64 m.power) = mrows (L.set k m) := by
  induction L generalizing k with
  | nil => simp at hk
  | cons a L ih =>
    rw [mrows_cons]
    cases k with
    | zero => simp [mrows_cons]
    | succ k =>
      have := ih k (by simpa using hk)
      rw [show (k + 1) * 2 = k * 2 + 2 by omega]
      simp only [List.set_cons_succ, mrows_cons]
      rw [this]
theorem cellsM : Tryd.prog.cellsOf 44 = 2 := by kernel_rfl
theorem Tryd.infoMember : (Tryd.prog.info? 44).map (fun i => (i.zero, i.size, i.bytes)) = some (some (.agg #[.string ⟨#[]⟩, .int .i64 0]), 2, 24) := by kernel_rfl
theorem Tryd.infoStr : (Tryd.prog.info? 9).map (fun i => (i.zero, i.size, i.bytes)) = some (some (.string ⟨#[]⟩), 1, 16) := by kernel_rfl

/-- A slice that has these members. -/
def Mems (w : World) (v : Value) (L : List M) : Prop :=
  ∃ (A : Option Addr) (cap : Nat), v = .slice A L.length cap ∧ (0 < L.length → ∃ b o, A = some ⟨b, o, none⟩ ∧ b < w.heap.size ∧ ∀ i (h : i < L.length),
    w.cell? ⟨b, o + i * 2, none⟩ = some (.string ⟨L[i].name.toArray⟩) ∧ w.cell? ⟨b, o + i * 2 + 1, none⟩ = some (.int .i64 L[i].power))
theorem Mems.nil (w : World) : Mems w (.slice none 0 0) [] := ⟨none, 0, rfl, fun h => absurd h (by simp)⟩
theorem Mems.below {w w' : World} {v : Value} {L : List M} (h : Mems w v L) (hb : Below w.heap.size w w') : Mems w' v L := by
  obtain ⟨A, cap, rfl, hc⟩ := h
  refine ⟨A, cap, rfl, fun h0 => ?_⟩
  obtain ⟨b, o, rfl, hlt, hcell⟩ := hc h0
  refine ⟨b, o, rfl, Nat.lt_of_lt_of_le hlt hb.size, fun i hi => ?_⟩
  obtain ⟨h1, h2⟩ := hcell i hi
  exact ⟨(hb.cell hlt).trans h1, (hb.cell hlt).trans h2⟩
theorem Mems.drew {w : World} {v : Value} {L : List M} (h : Mems w v L) : Mems w.drew v L := h.below (Below.refl _ w).drew
/-- One member's cells. -/
theorem Mems.at {w w' : World} {A : Option Addr} {n cap : Nat} {L : List M} (h : Mems w (.slice A n cap) L) (hb : Below w.heap.size w w') (k : Nat) (hk : k < L.length) :
    ∃ b o, A = some ⟨b, o, none⟩ ∧ w'.cell? ⟨b, o + k * 2, none⟩ = some (.string ⟨L[k].name.toArray⟩) ∧ w'.cell? ⟨b, o + k * 2 + 1, none⟩ = some (.int .i64 L[k].power) := by
  obtain ⟨A', cap', hv, hc⟩ := h.below hb
  obtain ⟨rfl, rfl, rfl⟩ : A = A' ∧ n = L.length ∧ cap = cap' := by simpa using hv
  obtain ⟨b, o, rfl, _, hcell⟩ := hc (by omega)
  exact ⟨b, o, rfl, hcell k hk⟩
theorem Mems.len {w : World} {A : Option Addr} {n cap : Nat} {L : List M} (h : Mems w (.slice A n cap) L) : n = L.length := by
  obtain ⟨A', cap', hv, _⟩ := h
  simp at hv
  exact hv.2.1
theorem Mems.form {w : World} {v : Value} {L : List M} (h : Mems w v L) : ∃ A cap, v = .slice A L.length cap := by
  obtain ⟨A, cap, rfl, _⟩ := h
  exact ⟨A, cap, rfl⟩
theorem mrow_cells {w : World} {B : Nat} {s : Value} {L : List M} (h : w.ownsRow B 44 2 s L.length (mrows L)) (k : Nat) (hk : k < L.length) :
    ∃ b cap, s = .slice (some ⟨b, 0, none⟩) L.length cap ∧ B ≤ b ∧ b < w.heap.size ∧ w.cell? ⟨b, k * 2, none⟩ = some (.string ⟨L[k].name.toArray⟩) ∧ w.cell? ⟨b, k * 2 + 1, none⟩ = some (.int .i64 L[k].power) := by
  obtain ⟨b, cap, hv, hB, hlt⟩ := h.form (by omega)
  have hc := h.cells (g := b) (by rw [hv]; rfl)
  refine ⟨b, cap, hv, hB, hlt, ?_, ?_⟩
  · have := hc (k * 2 + 0) _ (by rw [mrows_at L k 0 hk (by omega)]; rfl)
    rw [Addr.add_mid] at this; simpa using this
  · have := hc (k * 2 + 1) _ (by rw [mrows_at L k 1 hk (by omega)]; rfl)
    rw [Addr.add_mid] at this; simpa using this
theorem Mems.own {w : World} {B : Nat} {s : Value} {L : List M} (h : w.ownsRow B 44 2 s L.length (mrows L)) : Mems w s L := by
  obtain ⟨A, cap, rfl⟩ := own_form h
  refine ⟨A, cap, rfl, fun h0 => ?_⟩
  obtain ⟨b, cap', hv, _, hlt, _⟩ := mrow_cells h 0 h0
  obtain ⟨rfl, rfl⟩ : A = some ⟨b, 0, none⟩ ∧ cap = cap' := by simpa using hv
  refine ⟨b, 0, rfl, hlt, fun i hi => ?_⟩
  obtain ⟨b', cap', hv', _, _, h1, h2⟩ := mrow_cells h i hi
  obtain ⟨rfl, rfl⟩ : b = b' ∧ cap = cap' := by simpa using hv'
  rw [Nat.zero_add]
  exact ⟨h1, h2⟩

/-- A member that fits. -/
structure OkMem (m : M) : Prop where
  power : (Lit.int .i64 m.power).wf = true
  name : m.name.length ≤ 140737488351232
end Go.Proofs.YtddjkiejekfekaaDoor
namespace Go.Proofs.YtddjkiejekfekaaDoor
open Go.RowKit Go.ChangeShapes Go.WideShapes
open Go.Proofs.YtddjkiejekfekaaDoor.Pw (M)

set_option maxRecDepth 100000 in
theorem cellsIn : Tryd.prog.cellsOf 3 = 1 := by kernel_rfl
set_option maxRecDepth 100000 in
theorem cellsMl : Tryd.prog.cellsOf 22 = 1 := by kernel_rfl
set_option maxRecDepth 100000 in
theorem mems_trod {H : Type} {enc : TypeId × Value → H} {W : World} {fuel : Nat} {v : Value} {z : DataW H × List MemPlace}
    (hf : DataW.trod enc Tryd.prog W 0 (fun _ => true) true fuel 22 [v] = some z)
    (hz : ∀ n ∈ z.1.weights Tryd.prog 22, n ≤ reachBytes) :
    ∃ L, Mems W v L ∧ L.length * 24 ≤ reachBytes ∧ ∀ m ∈ L, OkMem m := by
  rcases Go.Deep.open_slice Tryd.underlying22 hf with ⟨hcs, _⟩ | ⟨x, l, c, m, n, D, Pl, hcs, _, hl, hm, hmm, hx, hel⟩
  · obtain rfl : v = .slice none 0 0 := by simpa using hcs
    exact ⟨[], Mems.nil W, by simp, fun n hn => by simp at hn⟩
  · obtain rfl : v = .slice (some x) l c := by simpa using hcs
    simp only [if_true] at hmm
    subst hmm
    rw [cellsM] at hel hx
    have hd : z.1 = _ := congrArg Prod.fst hx
    have hw : ∀ i, i < l → ∀ k ∈ (D i).weights Tryd.prog 44, k ≤ reachBytes := fun i hi k hk => by
      refine hz k ?_
      rw [hd]
      simp only [DataW.weights, Tryd.underlying22, List.mem_cons, List.mem_append]
      exact Or.inr (Or.inl (weights_of_mem (List.mem_map.2 ⟨i, List.mem_range.2 hi, rfl⟩) k hk))
    have hlen24 : l * 24 ≤ reachBytes := by
      have h1 := hz ((((List.range l).map D).length + ((List.range (m - l)).map fun j => D (l + j)).length) * Tryd.prog.bytesOf 44) (by
        rw [hd]; simp [DataW.weights, Tryd.underlying22])
      rw [show Tryd.prog.bytesOf 44 = 24 from by kernel_rfl] at h1
      simp only [List.length_map, List.length_range] at h1
      omega
    have key : ∀ i, i < l → ∃ q : M, OkMem q ∧ W.cell? ((x.add (i * 2)).add 0) = some (.string ⟨q.name.toArray⟩) ∧ W.cell? ((x.add (i * 2)).add 1) = some (.int .i64 q.power) := fun i hi => by
      obtain ⟨cs', hc, ht⟩ := hel i (by omega)
      obtain ⟨ys, n', _, hy, hcl, hyl, hfs⟩ := DataW.trod_struct Tryd.underlying44 ht
      rw [cellsM] at hcl
      obtain ⟨_, _, hat⟩ := World.cells?_some hc
      match cs', hcl, ys, hyl with
      | [v0, v1], _, [y0, y1], _ =>
        have g0 := hfs 0 _ rfl
        have g1 := hfs 1 _ rfl
        simp [cellsIn, cellsS] at g0 g1
        obtain ⟨s0, e0, x0, z0⟩ := DataW.trod_string Tryd.underlying9 g0
        obtain ⟨t, e1, x1, wf⟩ := DataW.trod_int Tryd.underlying3 g1
        obtain rfl : v0 = .string s0 := by simpa using e0
        obtain rfl : v1 = .int .i64 t := by simpa using e1
        have hD : D i = .agg [.lit (.string s0.data.toList), .lit (.int .i64 t)] := by
          have := (Prod.mk.inj hy).1
          simpa [x0, x1] using this
        have hwi := hw i hi
        rw [hD] at hwi
        simp [DataW.weights, DataW.weightsEach, Tryd.underlying44] at hwi
        refine ⟨⟨s0.data.toList, t⟩, ⟨wf, ?_⟩, ?_, ?_⟩
        · have : reachBytes = 140737488351232 := rfl
          simp at hwi ⊢; omega
        · simpa using hat 0 (by omega)
        · simpa using hat 1 (by omega)
    obtain ⟨f, hf⟩ := Go.Deep.choose_lt (fun i hi => key i hi)
    have hlen : ((List.range l).map f).length = l := by simp
    refine ⟨(List.range l).map f, ⟨some x, _, by rw [hlen], fun h0 => ?_⟩, by rw [hlen]; exact hlen24, ?_⟩
    · rw [hlen] at h0
      obtain ⟨b, o, sp⟩ := x
      obtain ⟨_, q0, _⟩ := hf 0 h0
      have hcell' : W.cell? ⟨b, o, sp⟩ = some (.string ⟨(f 0).name.toArray⟩) := by simpa [Addr.add] using q0
      obtain rfl := cell_spot hcell'
      refine ⟨b, o, rfl, block_lt_of_cell hcell', fun i hi => ?_⟩
      rw [hlen] at hi
      obtain ⟨_, q0, q1⟩ := hf i hi
      rw [Addr.add_mid, Addr.add_mid] at q0 q1
      simpa using ⟨q0, q1⟩
    · intro n hn
      obtain ⟨i, hi, rfl⟩ := List.mem_map.1 hn
      exact (hf i (List.mem_range.1 hi)).1
end Go.Proofs.YtddjkiejekfekaaDoor
