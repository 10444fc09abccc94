/- CodeMath, NodeMath, TriSpots, TriKeys, NodeKind, NibBase, Only, CodeShelf, ArgStrs, CodeThere, MapBase, ReadSt, NodeRead, NodePrefix, TriText -/
import Derived.Test.YtikabacebmbacaaDoorChecked
import Derived.Test.YtikabacebmbacaaDoorPk01
import Derived.WalkKit
import Derived.WalkSmall
import Derived.ShutString
import Derived.Laws.IdiomStrings
import Derived.Laws.BytesArg
import Derived.Lib.Hide
import Derived.Lib.Strings
import Derived.Shelf.Strconv.Itoa0
import Derived.Shelf.LaysM
import Derived.Shelf.Strconv.Clone
import Derived.SliceStrings
import Derived.OpenShut
import Derived.OneCell
import Derived.WalkSpells
import Derived.WalkLawsBesides
import Derived.Maps.Keyed
import Derived.SizedLaws
import Derived.DeepKeys4
import Derived.Deep.AppendLies
import Derived.Deep.QuietTactic
import Derived.BigQuiet
import Derived.Deep.WholeRow
import Derived.Deep.MidRow
import Derived.Laws.CopyOwn
import Derived.Deep.RegionHeld3
import Derived.Deep.DrawnRows
import Derived.Deep.Cut
import Derived.Deep.CutRange
namespace Go.Proofs.YtikabacebmbacaaDoor.Code

def sz (n : Nat) : Nat := if _h : n = 0 then 0 else sz (n / 256) + 1
def be : Nat → Nat → List UInt8
  | 0, _ => []
  | k + 1, n => be k (n / 256) ++ [UInt8.ofNat (n % 256)]
def numL (n : Nat) : List UInt8 := UInt8.ofNat (sz n) :: be (sz n) n
def textL (s : List UInt8) : List UInt8 := numL s.length ++ s
def val (l : List UInt8) : Nat := l.foldl (fun a d => a * 256 + d.toNat) 0
def lenN (n : Nat) : Nat := if n = 0 then 0 else n.log2 + 1

theorem sz_zero : sz 0 = 0 := by rw [sz]; simp
theorem sz_pos (n : Nat) (h : n ≠ 0) : sz n = sz (n / 256) + 1 := by rw [sz]; simp [h]
theorem be_length (k n : Nat) : (be k n).length = k := by
  induction k generalizing n with
  | zero => rfl
  | succ k ih => simp [be, ih]
theorem be_step (k i n : Nat) (h : i < k) : be i (n / 256 ^ (k - i)) ++ [UInt8.ofNat (n / 256 ^ (k - 1 - i) % 256)] = be (i + 1) (n / 256 ^ (k - (i + 1))) := by
  have e : k - i = (k - (i + 1)) + 1 := by omega
  have e2 : k - 1 - i = k - (i + 1) := by omega
  rw [be, e, e2, Nat.pow_succ, ← Nat.div_div_eq_div_mul]
theorem sz_iff (n : Nat) : ∀ k, (n < 256 ^ k ∧ (k ≠ 0 → 256 ^ (k - 1) ≤ n)) → sz n = k := by
  induction n using Nat.strongRecOn with
  | _ n ih =>
    intro k ⟨h1, h2⟩
    by_cases h : n = 0
    · subst h
      rw [sz_zero]
      by_cases hk : k = 0
      · exact hk.symm
      · have := h2 hk
        have p : 0 < 256 ^ (k - 1) := Nat.pow_pos (by omega)
        omega
    · rw [sz_pos n h]
      obtain ⟨j, rfl⟩ : ∃ j, k = j + 1 := by
        cases k with
        | zero => simp at h1; omega
        | succ j => exact ⟨j, rfl⟩
      have h3 := h2 (by omega)
      simp at h3
      rw [ih (n / 256) (by omega) j ⟨?_, ?_⟩]
      · rw [Nat.pow_succ] at h1; omega
      · intro hj
        obtain ⟨i, rfl⟩ : ∃ i, j = i + 1 := ⟨j - 1, by omega⟩
        rw [Nat.pow_succ] at h3
        simp
        omega
theorem sz_bounds (n : Nat) : n < 256 ^ sz n ∧ (sz n ≠ 0 → 256 ^ (sz n - 1) ≤ n) := by
  induction n using Nat.strongRecOn with
  | _ n ih =>
    by_cases h : n = 0
    · subst h; simp [sz_zero]
    · rw [sz_pos n h]
      obtain ⟨h1, h2⟩ := ih (n / 256) (by omega)
      refine ⟨?_, fun _ => ?_⟩
      · rw [Nat.pow_succ]; omega
      · simp
        by_cases h0 : sz (n / 256) = 0
        · rw [h0]; simp; omega
        · have h3 := h2 h0
          obtain ⟨i, hi⟩ : ∃ i, sz (n / 256) = i + 1 := ⟨sz (n / 256) - 1, by omega⟩
          rw [hi] at h3 ⊢
          simp at h3
          rw [Nat.pow_succ]; omega
theorem sz_le8 (n : Nat) (h : n < 2 ^ 64) : sz n ≤ 8 := by
  have ⟨_, h2⟩ := sz_bounds n
  by_cases hk : sz n ≤ 8
  · exact hk
  · have h3 := h2 (by omega)
    have := Nat.pow_le_pow_right (n := 256) (by omega) (show 8 ≤ sz n - 1 by omega)
    have e : (256 : Nat) ^ 8 = 2 ^ 64 := by decide
    omega
theorem len_bounds (n : Nat) : n < 2 ^ lenN n ∧ (lenN n ≠ 0 → 2 ^ (lenN n - 1) ≤ n) := by
  unfold lenN
  by_cases h : n = 0
  · simp [h]
  · simp only [h, if_false, Nat.add_sub_cancel]
    exact ⟨Nat.lt_log2_self, fun _ => Nat.log2_self_le h⟩
theorem len_sz (n : Nat) : (lenN n + 7) / 8 = sz n := by
  refine (sz_iff n _ ⟨?_, fun hk => ?_⟩).symm
  · refine Nat.lt_of_lt_of_le (len_bounds n).1 ?_
    rw [show (256 : Nat) = 2 ^ 8 by decide, ← Nat.pow_mul]
    exact Nat.pow_le_pow_right (by omega) (by omega)
  · refine Nat.le_trans ?_ ((len_bounds n).2 (by omega))
    rw [show (256 : Nat) = 2 ^ 8 by decide, ← Nat.pow_mul]
    exact Nat.pow_le_pow_right (by omega) (by omega)
theorem len_shift (n j : Nat) (h : 2 ^ j ≤ n) : lenN n = j + lenN (n / 2 ^ j) := by
  have p : 0 < 2 ^ j := Nat.pow_pos (by omega)
  have hq : n / 2 ^ j ≠ 0 := by have := Nat.div_pos h p; omega
  have hn : n ≠ 0 := by omega
  unfold lenN
  simp only [hn, hq, if_false]
  have a := Nat.log2_self_le hq
  have b := Nat.lt_log2_self (n := n / 2 ^ j)
  have e : n.log2 = j + (n / 2 ^ j).log2 := by
    rw [Nat.log2_eq_iff hn]
    rw [Nat.pow_add]
    refine ⟨?_, ?_⟩
    · have := (Nat.le_div_iff_mul_le p).1 a
      rw [Nat.mul_comm]; exact this
    · have := (Nat.div_lt_iff_lt_mul p).1 b
      rw [Nat.add_assoc, Nat.pow_add, Nat.mul_comm]; exact this
  omega
theorem ofNat_toNat (n : Nat) (h : n < 256) : (UInt8.ofNat n).toNat = n := by simp; omega
/-- What the program's lead tells of bytes: the number, how many bytes it takes, the code. -/
def bad (k : Nat) (d : List UInt8) : Bool := (decide (0 < k) && (d.headD 0).toNat == 0) || (k == 8 && decide (128 ≤ (d.headD 0).toNat))
theorem numL_length (n : Nat) : (numL n).length = 1 + sz n := by simp [numL, be_length]; omega
end Go.Proofs.YtikabacebmbacaaDoor.Code
namespace Go.Proofs.YtikabacebmbacaaDoor.Nd
open Go.Proofs.YtikabacebmbacaaDoor.Nib (fitL packL)

abbrev S := List UInt8
/-- A node: its sixteen places in a list. -/
structure N where
  kind : Int
  path : S
  val : S
  kids : List S
  deriving DecidableEq
instance : Inhabited N := ⟨⟨0, [], [], List.replicate 16 []⟩⟩
def zero : N := ⟨0, [], [], List.replicate 16 []⟩
def kidsL (l : List S) : List S := l.filter fun k => decide (k ≠ [])
def all32 (l : List S) : Bool := l.all fun k => decide (k = []) || decide (k.length = 32)
def fine (n : N) : Bool :=
  all32 n.kids && (fitL n.path && (decide (n.path.length ≤ 16) && (decide (n.val.length ≤ 32) &&
  (if n.kind = 1 then decide ((kidsL n.kids).length = 0) && decide (n.val ≠ [])
  else if n.kind = 2 then decide ((kidsL n.kids).length = 1) && (decide (n.kids.getD 0 [] ≠ []) && (decide (1 ≤ n.path.length) && decide (n.val = [])))
  else if n.kind = 3 then decide (n.path.length = 0) && (decide (2 ≤ (kidsL n.kids).length) || (decide ((kidsL n.kids).length = 1) && decide (n.val ≠ [])))
  else false))))
/-- Which of eight places are taken, the highest first. -/
def bits8 (l : List S) : Nat := l.foldl (fun a k => a * 2 + if k = [] then 0 else 1) 0
def byteN (n : Nat) : UInt8 := UInt8.ofNat n
def branchL (n : N) : S := byteN (bits8 (n.kids.take 8)) :: byteN (bits8 (n.kids.drop 8)) :: (n.kids.flatten ++ Code.textL n.val)
def written (n : N) : S :=
  UInt8.ofNat (n.kind % 256).toNat :: (if n.kind = 3 then branchL n else Code.textL (packL n.path (decide (n.kind = 1))) ++ (if n.kind = 1 then Code.textL n.val else n.kids.getD 0 []))

/-! ### what the sixteen bits say -/
def bitAt (b i : Nat) : Bool := decide (b / 2 ^ (7 - i) % 2 = 1)
theorem bits8_eq (a b c d e f g h : S) : bits8 [a, b, c, d, e, f, g, h] = (((((((if a = [] then 0 else 1) * 2 + (if b = [] then 0 else 1)) * 2 + (if c = [] then 0 else 1)) * 2 + (if d = [] then 0 else 1)) * 2 + (if e = [] then 0 else 1)) * 2 + (if f = [] then 0 else 1)) * 2 + (if g = [] then 0 else 1)) * 2 + (if h = [] then 0 else 1) := by
  simp [bits8]
def num8 (a b c d e f g h : Bool) : Nat := (((((((a.toNat * 2 + b.toNat) * 2 + c.toNat) * 2 + d.toNat) * 2 + e.toNat) * 2 + f.toNat) * 2 + g.toNat) * 2 + h.toNat)
theorem num8_bits : ∀ a b c d e f g h : Bool, num8 a b c d e f g h < 256 ∧ bitAt (num8 a b c d e f g h) 0 = a ∧ bitAt (num8 a b c d e f g h) 1 = b ∧ bitAt (num8 a b c d e f g h) 2 = c ∧ bitAt (num8 a b c d e f g h) 3 = d ∧ bitAt (num8 a b c d e f g h) 4 = e ∧ bitAt (num8 a b c d e f g h) 5 = f ∧ bitAt (num8 a b c d e f g h) 6 = g ∧ bitAt (num8 a b c d e f g h) 7 = h := by
  decide +kernel
theorem bits8_num (l : List S) (h : l.length = 8) : bits8 l = num8 (decide (l[0] ≠ [])) (decide (l[1] ≠ [])) (decide (l[2] ≠ [])) (decide (l[3] ≠ [])) (decide (l[4] ≠ [])) (decide (l[5] ≠ [])) (decide (l[6] ≠ [])) (decide (l[7] ≠ [])) := by
  match l, h with
  | [a, b, c, d, e, f, g, i], _ =>
    rw [bits8_eq]
    have key : ∀ x : S, (if x = [] then 0 else 1) = (decide (x ≠ [])).toNat := fun x => by by_cases hx : x = [] <;> simp [hx]
    simp only [key, num8]
    rfl
theorem bits8_lt (l : List S) (h : l.length = 8) : bits8 l < 256 := by
  rw [bits8_num l h]
  exact (num8_bits ..).1
/-- The bytes that are left, and what was wrong first. -/
abbrev St := S × Int
end Go.Proofs.YtikabacebmbacaaDoor.Nd
namespace Go.Proofs.YtikabacebmbacaaDoor.Tri
open Sto (T St Rising keys)
open Go.Proofs.YtikabacebmbacaaDoor.Nd (N)

/-- The sum of a tree's topmost node; none of no items. -/
def Tr.sum (dg : N → T) : Tr → T
  | .nil => []
  | .leaf p v => dg ⟨1, p, v, List.replicate 16 []⟩
  | .ext p t => dg ⟨2, p, [], t.sum dg :: List.replicate 15 []⟩
  | .br v k => dg ⟨3, [], v, List.ofFn fun i => (k i).sum dg⟩
def Tr.node (dg : N → T) : Tr → N
  | .nil => Nd.zero
  | .leaf p v => ⟨1, p, v, List.replicate 16 []⟩
  | .ext p t => ⟨2, p, [], t.sum dg :: List.replicate 15 []⟩
  | .br v k => ⟨3, [], v, List.ofFn fun i => (k i).sum dg⟩
/-- Each node with its place. -/
def Tr.spots (dg : N → T) : T → Tr → List (T × N)
  | _, .nil => []
  | p, .leaf q v => [(p, Tr.node dg (.leaf q v))]
  | p, .ext q t => (p, Tr.node dg (.ext q t)) :: t.spots dg (p ++ q)
  | p, .br v k => (p, Tr.node dg (.br v k)) :: (List.finRange 16).flatMap fun i => (k i).spots dg (p ++ [hb i])
theorem sum_node (dg : N → T) {t : Tr} (h : ¬ t.isNil) : t.sum dg = dg (t.node dg) := by
  cases t with
  | nil => exact absurd trivial h
  | leaf q v => rfl
  | ext q t => rfl
  | br v k => rfl
/-- The items of a branch's kids. -/
def Tr.kids (k : Fin 16 → Tr) : St := (List.finRange 16).flatMap fun i => behind [hb i] (k i).items
theorem common_append (p a b : T) : Nib.commonL (p ++ a) (p ++ b) = p.length + Nib.commonL a b := by
  induction p with
  | nil => simp
  | cons x p ih => rw [List.cons_append, List.cons_append, Nib.commonL.eq_1, if_pos rfl, ih, List.length_cons]; omega
end Go.Proofs.YtikabacebmbacaaDoor.Tri
namespace Go.Proofs.YtikabacebmbacaaDoor.Tri
open Sto (T St Rising keys)

theorem above_fits {p : T} {t : Tr} (hp : Nib.fitL p = true) (ht : t.fits) : (above p t).fits := by
  unfold above; split
  · exact ht
  · exact ⟨hp, ht⟩
theorem upd_fits {k : Fin 16 → Tr} {i : Fin 16} {t : Tr} (hk : ∀ i, (k i).fits) (ht : t.fits) : ∀ j, (upd k i t j).fits := fun j => by
  unfold upd; split
  · exact ht
  · exact hk j
theorem fork_fits {a : UInt8} {t : Tr} {p w : T} (ht : t.fits) (hp : Nib.fitL p = true) : (fork a t p w).fits := by
  cases p with
  | nil => exact upd_fits (fun _ => trivial) ht
  | cons b s => exact upd_fits (upd_fits (fun _ => trivial) ht) (fit_cons.1 hp).2
theorem fork2_fits {q v p w : T} (hq : Nib.fitL q = true) (hp : Nib.fitL p = true) : (fork2 q v p w).fits := by
  cases q with
  | nil =>
    cases p with
    | nil => trivial
    | cons b s => exact upd_fits (fun _ => trivial) (fit_cons.1 hp).2
  | cons a r => exact fork_fits (t := .leaf r v) (fit_cons.1 hq).2 hp
theorem put_fits {t : Tr} {p w : T} (ht : t.fits) (hp : Nib.fitL p = true) : (t.put p w).fits := by
  induction t generalizing p with
  | nil => exact hp
  | leaf q v =>
    rw [Tr.put]; split
    · exact hp
    · exact above_fits (fit_take _ ht) (fork2_fits (fit_drop _ ht) (fit_drop _ hp))
  | ext q t ih =>
    rw [Tr.put]
    cases hd : q.drop (Nib.commonL q p) with
    | nil => exact ⟨ht.1, ih ht.2 (fit_drop _ hp)⟩
    | cons a r =>
      have hf := fit_cons.1 (hd ▸ fit_drop (Nib.commonL q p) ht.1)
      exact above_fits (fit_take _ ht.1) (fork_fits (above_fits hf.2 ht.2) (fit_drop _ hp))
  | br v k ih =>
    cases p with
    | nil => exact ht
    | cons b p => exact upd_fits ht (ih (ix b) (ht _) (fit_cons.1 hp).2)
theorem put_items {t : Tr} {p w : T} (ht : t.canon) (hf : t.fits) (hp : Nib.fitL p = true) (hw : w ≠ []) : (t.put p w).items = put t.items p w :=
  look_ext (items_rising _) (put_rising (items_rising _) _ _) fun x => by
    rw [look_items, (put_good ht hf hp hw).2.2.2 x, look_put _ _ _ _ (items_rising _), look_items]
/-- Each list of items that rises has its tree. -/
theorem tree_of (S : St) (hS : Rising S) (hf : ∀ p ∈ S, Nib.fitL p.1 = true) (hv : ∀ p ∈ S, p.2 ≠ []) : ∃ t : Tr, t.canon ∧ t.fits ∧ t.items = S := by
  induction S with
  | nil => exact ⟨.nil, trivial, trivial, rfl⟩
  | cons a r ih =>
    obtain ⟨h1, h2⟩ := List.pairwise_cons.1 hS
    obtain ⟨t, c1, c2, c3⟩ := ih h2 (fun p h => hf p (List.mem_cons_of_mem _ h)) (fun p h => hv p (List.mem_cons_of_mem _ h))
    have ha := hf a (List.mem_cons_self ..)
    have hw := hv a (List.mem_cons_self ..)
    refine ⟨t.put a.1 a.2, (put_good c1 c2 ha hw).1, put_fits c2 ha, ?_⟩
    rw [put_items c1 c2 ha hw, c3]
    cases r with
    | nil => rfl
    | cons b r =>
      have hab := h1 b (List.mem_cons_self ..)
      rw [put, if_neg (fun h => List.lt_irrefl _ (List.lt_trans h hab)), if_neg (fun e => Sto.lt_ne hab e.symm)]
/-- Items by their paths. -/
def paths (S : St) : St := S.map fun x => (Nib.ofL x.1, x.2)
theorem ofL_lt (a b : T) : Nib.ofL a < Nib.ofL b ↔ a < b := by
  have := Nib.less_of a b
  rw [less_lt, less_lt] at this
  exact decide_eq_decide.1 this
theorem ofL_eq (a b : T) : Nib.ofL a = Nib.ofL b ↔ a = b := by
  have := Nib.ofL_inj a b
  rw [Bool.eq_iff_iff] at this
  simpa using this
theorem paths_rising {S : St} : Rising (paths S) ↔ Rising S := by
  unfold Rising paths
  rw [List.pairwise_map]
  simp only [ofL_lt]
theorem paths_put (S : St) (k v : T) : paths (put S k v) = put (paths S) (Nib.ofL k) v := by
  induction S with
  | nil => rfl
  | cons a r ih =>
    have e : paths (a :: r) = (Nib.ofL a.1, a.2) :: paths r := rfl
    rw [e, put, put]
    simp only [ofL_lt, ofL_eq]
    by_cases h1 : a.1 < k
    · rw [if_pos h1, if_pos h1, ← ih]; rfl
    · rw [if_neg h1, if_neg h1]
      by_cases h2 : a.1 = k
      · rw [if_pos h2, if_pos h2]; rfl
      · rw [if_neg h2, if_neg h2]; rfl
theorem paths_del (S : St) (k : T) : paths (del S k) = del (paths S) (Nib.ofL k) := by
  induction S with
  | nil => rfl
  | cons a r ih =>
    have e : paths (a :: r) = (Nib.ofL a.1, a.2) :: paths r := rfl
    rw [e, del, del]
    simp only [ofL_eq]
    by_cases h2 : a.1 = k
    · rw [if_pos h2, if_pos h2]
    · rw [if_neg h2, if_neg h2, ← ih]; rfl
theorem ofL_fit (x : T) : Nib.fitL (Nib.ofL x) = true := by
  induction x with
  | nil => rfl
  | cons b t ih =>
    rw [Nib.ofL_cons, fit_cons, fit_cons]
    have := b.toNat_lt
    refine ⟨?_, ?_, ih⟩
    · simp; omega
    · simp; omega
/-- The tree of items: it is there, and the only one. -/
def TreeOf (S : St) (t : Tr) : Prop := t.canon ∧ t.fits ∧ t.items = paths S
theorem TreeOf.of (S : St) (hS : Rising S) (hv : ∀ p ∈ S, p.2 ≠ []) : ∃ t, TreeOf S t := by
  refine tree_of (paths S) (paths_rising.2 hS) (fun p hp => ?_) (fun p hp => ?_)
  · obtain ⟨q, _, rfl⟩ := List.mem_map.1 hp; exact ofL_fit _
  · obtain ⟨q, hq, rfl⟩ := List.mem_map.1 hp; exact hv q hq
theorem TreeOf.one {S : St} {t u : Tr} (ht : TreeOf S t) (hu : TreeOf S u) : t = u := canon_one ht.1 hu.1 (ht.2.2.trans hu.2.2.symm)
theorem TreeOf.get {S : St} {t : Tr} (h : TreeOf S t) (hS : Rising S) (k : T) : t.get (Nib.ofL k) = Sto.look S k := by
  rw [← look_items, h.2.2]
  cases hl : Sto.look S k with
  | some v =>
    refine (Sto.look_mem (paths_rising.2 hS) _ _).2 (List.mem_map.2 ⟨(k, v), (Sto.look_mem hS k v).1 hl, rfl⟩)
  | none =>
    rw [Sto.look_none] at hl ⊢
    intro hm
    obtain ⟨p, hp, e⟩ := List.mem_map.1 hm
    obtain ⟨q, hq, rfl⟩ := List.mem_map.1 hp
    exact hl (List.mem_map.2 ⟨q, hq, (ofL_eq _ _).1 e⟩)
theorem TreeOf.put {S : St} {t : Tr} (h : TreeOf S t) {k v : T} (hv : v ≠ []) : TreeOf (Tri.put S k v) (t.put (Nib.ofL k) v) :=
  ⟨(put_good h.1 h.2.1 (ofL_fit k) hv).1, put_fits h.2.1 (ofL_fit k), by rw [put_items h.1 h.2.1 (ofL_fit k) hv, h.2.2, paths_put]⟩
end Go.Proofs.YtikabacebmbacaaDoor.Tri
namespace Go.Proofs.YtikabacebmbacaaDoor
open Go.Proofs.YtikabacebmbacaaDoor.Nd (N)
def Nd.pathB (p : List UInt8) : Bool := decide (p.length ≤ 16) && Nib.fitL p
def Nd.none16 : List (List UInt8) := List.replicate 16 []
def Nd.leafB (n : N) : Bool := Nd.pathB n.path && (decide (n.val ≠ []) && (decide (n.val.length ≤ 32) && (n.kids == Nd.none16)))
def Nd.extB (n : N) : Bool := decide (n.path ≠ []) && (Nd.pathB n.path && (decide (n.val = []) && (decide ((n.kids.getD 0 []).length = 32) && (n.kids.set 0 [] == Nd.none16))))
def Nd.branchB (n : N) : Bool := decide (n.path = []) && (decide (n.val.length ≤ 32) && (Nd.all32 n.kids && decide (2 ≤ (if n.val = [] then 0 else 1) + (Nd.kidsL n.kids).length)))
theorem Nd.all32_take (l : List (List UInt8)) (k : Nat) (hk : k < l.length) : Nd.all32 (l.take (k + 1)) = (Nd.all32 (l.take k) && (decide (l[k] = []) || decide (l[k].length = 32))) := by
  unfold Nd.all32
  rw [List.take_succ_eq_append_getElem hk, List.all_append]
  simp
theorem Nd.kidsL_nil (l : List (List UInt8)) : Nd.kidsL l = [] ↔ l = List.replicate l.length [] := by
  unfold Nd.kidsL
  rw [List.filter_eq_nil_iff, List.eq_replicate_iff]
  simp
theorem Nd.all32_none (k : Nat) : Nd.all32 (List.replicate k []) = true := by
  simp [Nd.all32]
theorem Nd.all32_cons (x : List UInt8) (l : List (List UInt8)) : Nd.all32 (x :: l) = ((decide (x = []) || decide (x.length = 32)) && Nd.all32 l) := rfl
theorem Nd.kidsL_cons (x : List UInt8) (l : List (List UInt8)) : Nd.kidsL (x :: l) = if x = [] then Nd.kidsL l else x :: Nd.kidsL l := by
  unfold Nd.kidsL
  by_cases h : x = [] <;> simp [h]
theorem Nd.fine_kinds (n : N) (hn : n.kids.length = 16) : Nd.fine n = if n.kind = 1 then Nd.leafB n else if n.kind = 2 then Nd.extB n else if n.kind = 3 then Nd.branchB n else false := by
  obtain ⟨kd, p, v, ks⟩ := n
  simp only at hn
  by_cases k1 : kd = 1
  · subst k1
    rw [if_pos rfl, Bool.eq_iff_iff]
    have h0 := Nd.kidsL_nil ks
    rw [hn] at h0
    simp only [Nd.fine, Nd.leafB, Nd.pathB, Nd.none16, if_pos, Bool.and_eq_true, decide_eq_true_eq, List.length_eq_zero_iff, beq_iff_eq, h0]
    constructor
    · rintro ⟨-, a, b, c, d, e⟩
      exact ⟨⟨b, a⟩, e, c, d⟩
    · rintro ⟨⟨b, a⟩, e, c, d⟩
      exact ⟨by rw [d]; exact Nd.all32_none 16, a, b, c, d, e⟩
  rw [if_neg k1]
  by_cases k2 : kd = 2
  · subst k2
    rw [if_pos rfl, Bool.eq_iff_iff]
    match ks, hn with
    | z :: l, hn =>
      have hl : l.length = 15 := by simpa using hn
      have h0 := Nd.kidsL_nil l
      rw [hl] at h0
      have h1 : ((z :: l).set 0 [] = Nd.none16) ↔ l = List.replicate 15 [] := by
        simp [Nd.none16, List.replicate_succ]
      simp only [Nd.fine, Nd.extB, Nd.pathB, if_neg (show ¬ (2 : Int) = 1 by decide), if_pos, Bool.and_eq_true, decide_eq_true_eq, beq_iff_eq, h1, Nd.all32_cons, Nd.kidsL_cons, List.getD_cons_zero, Bool.or_eq_true]
      constructor
      · rintro ⟨⟨a1, a2⟩, b, c, d, e, f, g, h⟩
        rw [if_neg f, List.length_cons] at e
        have e0 : Nd.kidsL l = [] := List.eq_nil_of_length_eq_zero (by omega)
        exact ⟨fun q => by rw [q] at g; simp at g, ⟨c, b⟩, h, a1.resolve_left f, h0.1 e0⟩
      · rintro ⟨a, ⟨c, b⟩, h, d, e⟩
        have hz : z ≠ [] := fun q => by rw [q] at d; simp at d
        refine ⟨⟨Or.inr d, by rw [e]; exact Nd.all32_none 15⟩, b, c, by rw [h]; simp, ?_, hz, ?_, h⟩
        · rw [if_neg hz, h0.2 e]; rfl
        · cases p with
          | nil => exact absurd rfl a
          | cons x y => simp
  rw [if_neg k2]
  by_cases k3 : kd = 3
  · subst k3
    rw [if_pos rfl, Bool.eq_iff_iff]
    simp only [Nd.fine, Nd.branchB, if_neg (show ¬ (3 : Int) = 1 by decide), if_neg (show ¬ (3 : Int) = 2 by decide), if_pos, Bool.and_eq_true, decide_eq_true_eq, Bool.or_eq_true]
    constructor
    · rintro ⟨a, b, c, d, e, f⟩
      refine ⟨List.eq_nil_of_length_eq_zero e, d, a, ?_⟩
      by_cases hv : v = []
      · rw [if_pos hv]
        rcases f with f | f
        · omega
        · exact absurd hv f.2
      · rw [if_neg hv]
        omega
    · rintro ⟨a, b, c, d⟩
      subst a
      refine ⟨c, rfl, Nat.zero_le _, b, rfl, ?_⟩
      by_cases hv : v = []
      · rw [if_pos hv] at d
        exact Or.inl (by omega)
      · rw [if_neg hv] at d
        by_cases h2 : 2 ≤ (Nd.kidsL ks).length
        · exact Or.inl h2
        · exact Or.inr ⟨by omega, hv⟩
  rw [if_neg k3]
  simp [Nd.fine, k1, k2, k3]
end Go.Proofs.YtikabacebmbacaaDoor
namespace Go.Proofs.YtikabacebmbacaaDoor
open Go.RowKit

def cellsL (l : List UInt8) : List Value := l.map fun b => .int .u8 (b.toNat : Int)
theorem cellsL_append (a b : List UInt8) : cellsL (a ++ b) = cellsL a ++ cellsL b := by simp [cellsL]
theorem cellsL_length (a : List UInt8) : (cellsL a).length = a.length := by simp [cellsL]
theorem Tryd.infoByte : (Tryd.prog.info? 5).map (fun i => (i.zero, i.size, i.bytes)) = some (some (.int .u8 0), 1, 1) := by kernel_rfl
theorem byte_lt (b : UInt8) : (b.toNat : Int) < 256 := by have := b.toNat_lt; simp at this; omega
theorem byte_and15 (b : UInt8) : bits .and .u8 (b.toNat : Int) 15 = (((b % 16).toNat : Nat) : Int) := by
  rw [Nib.toNat_mod16]; exact u8_and15 (x := (b.toNat : Int)) (Int.natCast_nonneg _) (byte_lt b)
theorem byte_join (a b : UInt8) (ha : a.toNat ≤ 15) (hb : b.toNat ≤ 15) : bits .or .u8 ((a.toNat : Int) * 16 % 256) (b.toNat : Int) = (((a * 16 + b).toNat : Nat) : Int) := by
  have e : ((a.toNat : Int) * 16 % 256) = ((a.toNat * 16 : Nat) : Int) := by omega
  rw [e, u8_or_nat _ _ (by omega) (by omega), Nib.or_join _ _ (by omega)]
  simp [UInt8.toNat_add, UInt8.toNat_mul]
  omega
set_option maxRecDepth 100000 in
theorem conv_own {w : World} {B : Nat} {v : Value} {ys : List UInt8} (h : w.ownsRow B 5 1 v ys.length (cellsL ys)) : (convert 42 9 v).run Tryd.prog w = .ok (.string ⟨ys.toArray⟩) w := by
  rcases h.2 with ⟨rfl, h0⟩ | ⟨g, cap, cur, rfl, _⟩
  · obtain rfl : ys = [] := List.eq_nil_of_length_eq_zero h0
    rfl
  · refine run_convert_bytes_back w 42 9 5 ⟨g, 0, none⟩ cap ys Tryd.underlying42 Tryd.underlying5 Tryd.underlying9 ?_
    intro j hj
    exact h.cells (g := g) rfl j _ (by simp [cellsL, hj])
theorem ownsNil (w : World) (B : Nat) : w.ownsRow B 5 1 (.slice none 0 0) ([] : List UInt8).length (cellsL []) := ⟨rfl, Or.inl ⟨rfl, rfl⟩⟩
theorem ownsOne (w : World) (B : Nat) (hB : B ≤ w.heap.size) (b : UInt8) (z : Int) (hz : z = (b.toNat : Int)) : (w.alloc (.cells #[.int .u8 z] 5)).ownsRow B 5 1 (.slice (some ⟨w.heap.size, 0, none⟩) 1 1) [b].length (cellsL [b]) := by
  subst hz
  exact ⟨rfl, Or.inr ⟨w.heap.size, 1, #[.int .u8 (b.toNat : Int)], rfl, hB, heap_alloc_new w _, Nat.le_refl _, by unfold maxLen; omega, rfl, rfl⟩⟩
theorem or_16 (a : UInt8) (ha : a.toNat ≤ 15) : bits .or .u8 16 (a.toNat : Int) = ((16 + a.toNat : Nat) : Int) := by
  have := u8_or_nat 16 a.toNat (by omega) (by omega)
  have e := Nib.or_join 1 a.toNat (by omega)
  rw [show (16 : Int) = ((16 : Nat) : Int) from rfl, this]
  simp at e; omega
theorem or_head0 (a : UInt8) (ha : a.toNat ≤ 15) : bits .or .u8 0 (bits .or .u8 16 (a.toNat : Int)) = (((16 + a).toNat : Nat) : Int) := by
  rw [or_16 a ha, show (0 : Int) = ((0 : Nat) : Int) from rfl, u8_or_nat _ _ (by omega) (by omega)]
  simp [UInt8.toNat_add]; omega
theorem or_head2 (a : UInt8) (ha : a.toNat ≤ 15) : bits .or .u8 (bits .or .u8 0 32) (bits .or .u8 16 (a.toNat : Int)) = (((48 + a).toNat : Nat) : Int) := by
  have e0 : bits .or .u8 0 32 = ((32 : Nat) : Int) := by decide +kernel
  have e := Nat.two_pow_add_eq_or_of_lt (i := 5) (b := 16 + a.toNat) (by omega) 1
  rw [or_16 a ha, e0, u8_or_nat _ _ (by omega) (by omega)]
  simp [UInt8.toNat_add]; simp at e; omega
theorem or_0_32 : bits .or .u8 0 32 = (((32 : UInt8).toNat : Nat) : Int) := by decide +kernel
theorem ownsTwo (w : World) (B : Nat) (hB : B ≤ w.heap.size) (a b : UInt8) (x y : Int) (hx : x = (a.toNat : Int)) (hy : y = (b.toNat : Int)) : (w.alloc (.cells #[.int .u8 x, .int .u8 y] 5)).ownsRow B 5 1 (.slice (some ⟨w.heap.size, 0, none⟩) 2 2) [a, b].length (cellsL [a, b]) := by
  subst hx; subst hy
  exact ⟨rfl, Or.inr ⟨w.heap.size, 2, #[.int .u8 (a.toNat : Int), .int .u8 (b.toNat : Int)], rfl, hB, heap_alloc_new w _, Nat.le_refl _, by unfold maxLen; omega, rfl, rfl⟩⟩
theorem conv_two' (w : World) (a b : UInt8) (x y : Int) (hx : x = (a.toNat : Int)) (hy : y = (b.toNat : Int)) :
    (convert 42 9 (.slice (some ⟨w.heap.size, 0, none⟩) 2 2)).run Tryd.prog (w.alloc (.cells #[.int .u8 x, .int .u8 y] 5)) = .ok (.string ⟨[a, b].toArray⟩) (w.alloc (.cells #[.int .u8 x, .int .u8 y] 5)) :=
  conv_own (ownsTwo w w.heap.size (Nat.le_refl _) a b x y hx hy)
theorem conv_one' (w : World) (a : UInt8) (x : Int) (hx : x = (a.toNat : Int)) (n : Nat) (hn : n = w.heap.size) :
    (convert 42 9 (.slice (some ⟨n, 0, none⟩) 1 1)).run Tryd.prog (w.alloc (.cells #[.int .u8 x] 5)) = .ok (.string ⟨[a].toArray⟩) (w.alloc (.cells #[.int .u8 x] 5)) := by
  subst hn
  exact conv_own (ownsOne w w.heap.size (Nat.le_refl _) a x hx)
theorem cat_mk (p x : List UInt8) : ((⟨p.toArray⟩ : ByteArray) ++ (⟨x.toArray⟩ : ByteArray)) = ⟨(p ++ x).toArray⟩ := by
  apply ByteArray.ext; simp
theorem bchain {w w1 w2 : World} (h : Below w.heap.size w w1) (k : Below w1.heap.size w1 w2) : Below w.heap.size w w2 := h.trans (k.mono h.size)
theorem ret_i64 {a b : Int} (h : a = b) : Ending.returned (.int .i64 a) = .returned (.int .i64 b) := by rw [h]
theorem bel_drewN {B : Nat} {a w : World} (h : Below B a w) (n : Nat) : Below B a (w.drewN n) := h.trans ⟨rfl, rfl, rfl, Nat.le_refl _, fun _ _ => rfl⟩
end Go.Proofs.YtikabacebmbacaaDoor
namespace Go.Proofs.YtikabacebmbacaaDoor
open Go.RowKit

theorem lt_of_heap {w : World} {g : Nat} {o : Obj} (h : w.heap[g]? = some o) : g < w.heap.size := by
  rcases Nat.lt_or_ge g w.heap.size with hlt | hge
  · exact hlt
  · rw [Array.getElem?_eq_none hge] at h; cases h
theorem heap_new_at (w : World) (o : Obj) (i : Nat) (h : i = w.heap.size) : (w.alloc o).heap[i]? = some o := by subst h; exact heap_alloc_new w o
theorem heap_old_at {w : World} {i : Nat} {x : Obj} (o : Obj) (h : w.heap[i]? = some x) : (w.alloc o).heap[i]? = some x := (Below.heap_alloc w o i (lt_of_heap h)).trans h

theorem keep_cell {w : World} {p q : Addr} {u v : Value} (h : w.cell? q = some v) (hn : q.block ≠ p.block) : (w.setCell p u).cell? q = some v :=
  (World.cell?_setCell_other w p q u (fun e => hn (by rw [e]))).trans h
theorem keep_cell' {w : World} {p q : Addr} {u v : Value} (h : w.cell? q = some v) (hn : q.block ≠ p.block) : (w.setCell p u).drew.cell? q = some v := keep_cell h hn
theorem keep_off {w : World} {p q : Addr} {u v : Value} (h : w.cell? q = some v) (hn : q ≠ p) : (w.setCell p u).cell? q = some v :=
  (World.cell?_setCell_other w p q u (Ne.symm hn)).trans h
theorem keep_offN {w : World} {n : Nat} {p q : Addr} {u v : Value} (h : w.cell? q = some v) (hn : q ≠ p) : ((w.drewN n).setCell p u).cell? q = some v := keep_off (w := w.drewN n) h hn
/-- The world but for block g. -/
structure Only (g : Nat) (w w' : World) : Prop where
  os : w'.os = w.os
  tape : w'.tape = w.tape
  output : w'.output = w.output
  size : w.heap.size ≤ w'.heap.size
  block : ∀ k, k < w.heap.size → k ≠ g → w'.heap[k]? = w.heap[k]?
theorem Only.refl (g : Nat) (w : World) : Only g w w := ⟨rfl, rfl, rfl, Nat.le_refl _, fun _ _ _ => rfl⟩
theorem Only.trans {g : Nat} {a b c : World} (h : Only g a b) (k : Only g b c) : Only g a c :=
  ⟨k.os.trans h.os, k.tape.trans h.tape, k.output.trans h.output, Nat.le_trans h.size k.size, fun i hi hg => (k.block i (Nat.lt_of_lt_of_le hi h.size) hg).trans (h.block i hi hg)⟩
theorem Only.of {g : Nat} {a b : World} (h : Below a.heap.size a b) : Only g a b := ⟨h.os, h.tape, h.output, h.size, fun i hi _ => h.block i hi⟩
theorem Only.below {B g : Nat} {a b : World} (h : Only g a b) (hB : B ≤ g) (hs : B ≤ a.heap.size) : Below B a b := ⟨h.os, h.tape, h.output, h.size, fun i hi => h.block i (by omega) (by omega)⟩
theorem Only.setCell {g : Nat} {a w : World} (h : Only g a w) {p : Addr} (hp : p.block = g) (u : Value) : Only g a (w.setCell p u) :=
  ⟨h.os, h.tape, h.output, by have := h.size; simpa [World.setCell] using this, fun i hi hg => (Below.heap_setCell w p u i (by rw [hp]; exact hg)).trans (h.block i hi hg)⟩
theorem Only.drew {g : Nat} {a w : World} (h : Only g a w) : Only g a w.drew := ⟨h.os, h.tape, h.output, h.size, h.block⟩
theorem Only.of_drew {g : Nat} {a w : World} (h : Only g a.drew w) : Only g a w := ⟨h.os, h.tape, h.output, h.size, h.block⟩
theorem Only.cell {g : Nat} {w w' : World} (h : Only g w w') {p : Addr} {v : Value} (hc : w.cell? p = some v) (hp : p.block ≠ g) : w'.cell? p = some v :=
  (World.cell?_of_block (w := w) (h.block p.block (World.block_lt_of_cell? _ _ hc) hp)).trans hc
theorem ext_drop (s : List UInt8) (k : Nat) : (⟨s.toArray⟩ : ByteArray).extract k s.length = ⟨(s.drop k).toArray⟩ := by
  rw [Lib.extract_eq]
  simp only
  rw [List.take_of_length_le (by simp)]
end Go.Proofs.YtikabacebmbacaaDoor
namespace Go.Proofs.YtikabacebmbacaaDoor
open Go.Shelf Go.RowKit
def ren129 : Go.Shelf.Ren := ⟨fun | 129 => 94 | n => n, fun | 53 => 113 | 3 => 3 | 4 => 4 | 46 => 92 | 5 => 5 | 9 => 9 | n => n, fun | n => n⟩
theorem lays129 : Go.Proofs.Lays.n129 Tryd.prog ren129 := {
  mixed := by kernel_rfl
  f129 := Tryd.func94.trans (congrArg some (by kernel_rfl))
  t3 := Tryd.underlying3
  a3 := Tryd.isAgg3
  z3 := Tryd.sizeOf3
  v3 := Tryd.zeroValue3
  t4 := Tryd.underlying4
  a4 := Tryd.isAgg4
  z4 := Tryd.sizeOf4
  v4 := Tryd.zeroValue4
  t5 := Tryd.underlying5
  a5 := Tryd.isAgg5
  z5 := Tryd.sizeOf5
  v5 := Tryd.zeroValue5
  t9 := Tryd.underlying9
  a9 := Tryd.isAgg9
  z9 := Tryd.sizeOf9
  v9 := Tryd.zeroValue9
  t46 := Tryd.underlying92
  a46 := Tryd.isAgg92
  z46 := Tryd.sizeOf92
  v46 := Tryd.zeroValue92
  t53 := Tryd.underlying113
  a53 := Tryd.isAgg113
  z53 := Tryd.sizeOf113
  v53 := Tryd.zeroValue113 }
theorem shelf_len64 (x : Int) (w : World) (h0 : 0 ≤ x) (h1 : x ≤ 18446744073709551615) :
    Calls Tryd.prog 94 #[.int .u64 x] w fun e w' => e = .returned (.int .i64 (Lib.bitLen x.toNat)) ∧ w' = w := Any.bits_Len64 lays129 x w h0 h1
def ren316 : Go.Shelf.Ren := ⟨fun | 316 => 58 | n => n, fun | 9 => 9 | 3 => 3 | 4 => 4 | 37 => 42 | 0 => 0 | 127 => 93 | 5 => 5 | n => n, fun | n => n⟩
theorem lays316 : Go.Proofs.LaysM.n316 Tryd.prog ren316 := {
  mixed := by kernel_rfl
  f316 := Tryd.func58.trans (congrArg some (by kernel_rfl))
  t0 := Tryd.underlying0
  a0 := Tryd.isAgg0
  z0 := Tryd.sizeOf0
  v0 := Tryd.zeroValue0
  t3 := Tryd.underlying3
  a3 := Tryd.isAgg3
  z3 := Tryd.sizeOf3
  v3 := Tryd.zeroValue3
  t4 := Tryd.underlying4
  a4 := Tryd.isAgg4
  z4 := Tryd.sizeOf4
  v4 := Tryd.zeroValue4
  t9 := Tryd.underlying9
  a9 := Tryd.isAgg9
  z9 := Tryd.sizeOf9
  v9 := Tryd.zeroValue9
  t37 := Tryd.underlying42
  a37 := Tryd.isAgg42
  z37 := Tryd.sizeOf42
  v37 := Tryd.zeroValue42
  t127 := Tryd.underlying93
  a127 := Tryd.isAgg93
  z127 := Tryd.sizeOf93
  v127 := Tryd.zeroValue93
  t5 := Tryd.underlying5
  a5 := Tryd.isAgg5
  z5 := Tryd.sizeOf5
  v5 := Tryd.zeroValue5
  i0 := by kernel_rfl
  i3 := by kernel_rfl
  i4 := by kernel_rfl
  i5 := by kernel_rfl
  i9 := by kernel_rfl
  i37 := by kernel_rfl
  i127 := by kernel_rfl }
theorem shelf_clone (s : ByteArray) (w : World) (hlim : s.size ≤ 281474976710656) :
    Calls Tryd.prog 58 #[.string s] w fun e w' => e = .returned (.string s) ∧ Below w.heap.size w w' := Any.stringslite_Clone lays316 s w hlim

end Go.Proofs.YtikabacebmbacaaDoor
namespace Go.Proofs.YtikabacebmbacaaDoor
open Go.RowKit

def Strs (w : World) (v : Value) (L : List (List UInt8)) : Prop :=
  ∃ (A : Option Addr) (cap : Nat), v = .slice A L.length cap ∧ ∀ i (h : i < L.length), ∃ a, A = some a ∧ w.cell? (a.add i) = some (.string ⟨L[i].toArray⟩)
theorem Strs.below {w w' : World} {v : Value} {L : List (List UInt8)} (h : Strs w v L) (hb : Below w.heap.size w w') : Strs w' v L := by
  obtain ⟨A, cap, rfl, hc⟩ := h
  refine ⟨A, cap, rfl, fun i hi => ?_⟩
  obtain ⟨a, ha, hcell⟩ := hc i hi
  exact ⟨a, ha, (hb.cell (World.block_lt_of_cell? _ _ hcell)).trans hcell⟩
theorem Strs.nil (w : World) : Strs w (.slice none 0 0) [] := ⟨none, 0, rfl, fun i h => absurd h (Nat.not_lt_zero i)⟩
end Go.Proofs.YtikabacebmbacaaDoor
namespace Go.Proofs.YtikabacebmbacaaDoor
open Go.RowKit Go.ChangeShapes Go.WideShapes

end Go.Proofs.YtikabacebmbacaaDoor
namespace Go.Proofs.YtikabacebmbacaaDoor
open Go.RowKit

end Go.Proofs.YtikabacebmbacaaDoor
namespace Go.Proofs.YtikabacebmbacaaDoor
open Go.RowKit

theorem i64_or_nat (a b : Nat) (ha : a < 9223372036854775808) (hb : b < 9223372036854775808) : bits .or .i64 (a : Int) (b : Int) = ((a ||| b : Nat) : Int) := by
  have hx : a ||| b < 2 ^ 63 := Nat.or_lt_two_pow (by omega) (by omega)
  show IntKind.i64.wrap ((BitVec.ofInt 64 (a : Int) ||| BitVec.ofInt 64 (b : Int)).toNat : Int) = _
  rw [BitVec.toNat_or, BitVec.ofInt_natCast, BitVec.toNat_ofNat, BitVec.ofInt_natCast, BitVec.toNat_ofNat, Nat.mod_eq_of_lt (by omega), Nat.mod_eq_of_lt (by omega)]
  simp only [IntKind.wrap, IntKind.bits, IntKind.signed]
  simp
  omega
end Go.Proofs.YtikabacebmbacaaDoor
namespace Go.Proofs.YtikabacebmbacaaDoor
open Go.RowKit

end Go.Proofs.YtikabacebmbacaaDoor
namespace Go.Proofs.YtikabacebmbacaaDoor
open Go.RowKit

end Go.Proofs.YtikabacebmbacaaDoor
namespace Go.Proofs.YtikabacebmbacaaDoor
open Go.RowKit

theorem Only.then {g : Nat} {a b c : World} (h : Only g a b) (k : Below a.heap.size b c) : Only g a c :=
  ⟨k.os.trans h.os, k.tape.trans h.tape, k.output.trans h.output, Nat.le_trans h.size k.size, fun i hi hg => (k.block i hi).trans (h.block i hi hg)⟩
end Go.Proofs.YtikabacebmbacaaDoor
namespace Go.Proofs.YtikabacebmbacaaDoor.Code

end Go.Proofs.YtikabacebmbacaaDoor.Code
namespace Go.Proofs.YtikabacebmbacaaDoor
open Go.RowKit Go.MapKept
open Go.ChangeMaps (setBlock heap_setBlock_same heap_setBlock_other)
open Go.Maps (Keyed)

/-- The world but for the blocks of F. -/
structure Out (F : Nat → Prop) (w w' : World) : Prop where
  os : w'.os = w.os
  tape : w'.tape = w.tape
  output : w'.output = w.output
  size : w.heap.size ≤ w'.heap.size
  block : ∀ k, k < w.heap.size → ¬ F k → w'.heap[k]? = w.heap[k]?
theorem Out.refl (F : Nat → Prop) (w : World) : Out F w w := ⟨rfl, rfl, rfl, Nat.le_refl _, fun _ _ _ => rfl⟩
theorem Out.trans {F : Nat → Prop} {a b c : World} (h : Out F a b) (k : Out F b c) : Out F a c :=
  ⟨k.os.trans h.os, k.tape.trans h.tape, k.output.trans h.output, Nat.le_trans h.size k.size, fun i hi hg => (k.block i (Nat.lt_of_lt_of_le hi h.size) hg).trans (h.block i hi hg)⟩
theorem Out.mono {F G : Nat → Prop} {a b : World} (h : Out F a b) (hi : ∀ k, k < a.heap.size → F k → G k) : Out G a b :=
  ⟨h.os, h.tape, h.output, h.size, fun i hl hg => h.block i hl (fun hf => hg (hi i hl hf))⟩
theorem Out.of {F : Nat → Prop} {a b : World} (h : Below a.heap.size a b) : Out F a b := ⟨h.os, h.tape, h.output, h.size, fun i hi _ => h.block i hi⟩
theorem Out.below {B : Nat} {F : Nat → Prop} {a b : World} (h : Out F a b) (hB : ∀ k, F k → B ≤ k) (hs : B ≤ a.heap.size) : Below B a b :=
  ⟨h.os, h.tape, h.output, h.size, fun i hi => h.block i (by omega) (fun hf => absurd (hB i hf) (by omega))⟩
theorem Out.drew {F : Nat → Prop} {a w : World} (h : Out F a w) : Out F a w.drew := ⟨h.os, h.tape, h.output, h.size, h.block⟩
theorem Out.of_drew {F : Nat → Prop} {a w : World} (h : Out F a.drew w) : Out F a w := ⟨h.os, h.tape, h.output, h.size, h.block⟩
theorem Out.alloc {F : Nat → Prop} {a w : World} (h : Out F a w) (o : Obj) : Out F a (w.alloc o) := h.trans (Out.of ((Below.refl _ w).alloc (Nat.le_refl _) o))
theorem Out.setCell {F : Nat → Prop} {a w : World} (h : Out F a w) {p : Addr} (hp : F p.block) (u : Value) : Out F a (w.setCell p u) :=
  ⟨h.os, h.tape, h.output, by have := h.size; simpa [World.setCell] using this, fun i hi hg => (Below.heap_setCell w p u i (fun e => hg (e ▸ hp))).trans (h.block i hi hg)⟩
theorem Out.grown {F : Nat → Prop} {w w' : World} {row : Option Nat} (h : w.grownBy w' row) (hr : ∀ k, row = some k → F k) : Out F w w' :=
  ⟨h.os, h.tape, h.output, h.size, fun i hi hg => h.block i hi (fun e => hg (hr i e.symm))⟩
theorem Out.heap {F : Nat → Prop} {w w' : World} (h : Out F w w') {k : Nat} {o : Obj} (hk : w.heap[k]? = some o) (hF : ¬ F k) : w'.heap[k]? = some o := (h.block k (lt_of_heap hk) hF).trans hk
theorem Out.cell {F : Nat → Prop} {w w' : World} (h : Out F w w') {p : Addr} {v : Value} (hc : w.cell? p = some v) (hp : ¬ F p.block) : w'.cell? p = some v :=
  (World.cell?_of_block (w := w) (h.block p.block (World.block_lt_of_cell? _ _ hc) hp)).trans hc

/-- Block b is a map of these entries, in the order in which they came. -/
def MapIs (w : World) (b : Nat) (E : List (Value × Value)) : Prop :=
  ∃ es clock, w.heap[b]? = some (.map es clock) ∧ es.toList.map (fun e => (e.key, e.val)) = E
theorem MapIs.lt {w : World} {b : Nat} {E : List (Value × Value)} (h : MapIs w b E) : b < w.heap.size := by
  obtain ⟨_, _, h1, _⟩ := h; exact lt_of_heap h1
theorem MapIs.made (w : World) (b : Nat) (h : b = w.heap.size) : MapIs (w.alloc (.map #[] 0)) b [] := ⟨#[], 0, heap_new_at w _ _ h, rfl⟩
theorem MapIs.out {F : Nat → Prop} {w w' : World} {b : Nat} {E : List (Value × Value)} (h : MapIs w b E) (ho : Out F w w') (hF : ¬ F b) : MapIs w' b E := by
  obtain ⟨es, clock, h1, h2⟩ := h
  exact ⟨es, clock, ho.heap h1 hF, h2⟩
theorem MapIs.drew {w : World} {b : Nat} {E : List (Value × Value)} (h : MapIs w b E) : MapIs w.drew b E := h
theorem MapIs.alloc {w : World} {b : Nat} {E : List (Value × Value)} (h : MapIs w b E) (o : Obj) : MapIs (w.alloc o) b E := by
  obtain ⟨es, clock, h1, h2⟩ := h
  exact ⟨es, clock, heap_old_at o h1, h2⟩
theorem MapIs.look {P : Program} {w : World} {b : Nat} {E : List (Value × Value)} {k t e : TypeId} (h : MapIs w b E) (K : Keyed P k) (ht : P.underlying t = some (.map k e))
    (hks : ∀ p ∈ E, ∃ l, keyOf P k p.1 = some l) {key : Value} {kl : Lit} (hkey : keyOf P k key = some kl) (c : Bool) {z : Value} (hz : (zeroValue e).run P w = .ok z w) :
    ((Instr.lookup t (.map (some b)) key c).run P w = .ok (if c then .tuple #[z, .bool false] else z) w ∧ ∀ p ∈ E, p.1 ≠ key) ∨
    ∃ v, (key, v) ∈ E ∧ (Instr.lookup t (.map (some b)) key c).run P w = .ok (if c then .tuple #[v, .bool true] else v) w := by
  obtain ⟨es, clock, hb, rfl⟩ := h
  have hk' : ∀ x ∈ es.toList, ∃ l, keyOf P k x.key = some l := fun x hx => hks (x.key, x.val) (List.mem_map.2 ⟨x, hx, rfl⟩)
  rcases K.find w hkey es.toList hk' with ⟨h1, h2⟩ | ⟨j, e0, h1, h2, h3⟩
  · refine Or.inl ⟨by simp [Instr.lookup, run_underlying ht, MapKept.run_getObj_map hb, K.check w _ hkey, h1, hz, Result.andThen], ?_⟩
    intro p hp
    obtain ⟨x, hx, rfl⟩ := List.mem_map.1 hp
    exact h2 x hx
  · refine Or.inr ⟨e0.val, List.mem_map.2 ⟨e0, List.mem_of_getElem? h2, by rw [h3]⟩, ?_⟩
    simp [Instr.lookup, run_underlying ht, MapKept.run_getObj_map hb, K.check w _ hkey, h1, Result.andThen]
theorem MapIs.look_none {P : Program} {w : World} {b : Nat} {E : List (Value × Value)} {k t e : TypeId} (h : MapIs w b E) (K : Keyed P k) (ht : P.underlying t = some (.map k e))
    (hks : ∀ p ∈ E, ∃ l, keyOf P k p.1 = some l) {key : Value} {kl : Lit} (hkey : keyOf P k key = some kl) (c : Bool) {z : Value} (hz : (zeroValue e).run P w = .ok z w) (hno : ∀ p ∈ E, p.1 ≠ key) :
    (Instr.lookup t (.map (some b)) key c).run P w = .ok (if c then .tuple #[z, .bool false] else z) w := by
  rcases h.look K ht hks hkey c hz with ⟨h1, _⟩ | ⟨v, hv, _⟩
  · exact h1
  · exact absurd rfl (hno _ hv)
theorem MapIs.store {P : Program} {w : World} {b : Nat} {E : List (Value × Value)} {k t e : TypeId} (h : MapIs w b E) (K : Keyed P k) (ht : P.underlying t = some (.map k e))
    (hks : ∀ p ∈ E, ∃ l, keyOf P k p.1 = some l) {key : Value} {kl : Lit} (hkey : keyOf P k key = some kl) (hno : ∀ p ∈ E, p.1 ≠ key) (val : Value) :
    ∃ w', (Instr.mapUpdate t (.map (some b)) key val).run P w = .ok () w' ∧ MapIs w' b (E ++ [(key, val)]) ∧ Out (fun i => i = b) w w' ∧ w'.heap.size = w.heap.size := by
  obtain ⟨es, clock, hb, rfl⟩ := h
  have hk' : ∀ x ∈ es.toList, ∃ l, keyOf P k x.key = some l := fun x hx => hks (x.key, x.val) (List.mem_map.2 ⟨x, hx, rfl⟩)
  rcases K.find w hkey es.toList hk' with ⟨h1, h2⟩ | ⟨j, e0, h1, h2, h3⟩
  · refine ⟨setBlock w b (.map (es.push ⟨key, val, clock⟩) (clock + 1)), ?_, ⟨_, _, heap_setBlock_same hb _, by simp⟩, ⟨rfl, rfl, rfl, by simp [setBlock], fun i _ hi => heap_setBlock_other hb _ hi⟩, by simp [setBlock]⟩
    simp [Instr.mapUpdate, run_underlying ht, MapKept.run_getObj_map hb, K.check w false hkey, h1, MapKept.run_setObj_map _ hb, Result.andThen, setBlock]
  · exact absurd h3 (hno (e0.key, e0.val) (List.mem_map.2 ⟨e0, List.mem_of_getElem? h2, rfl⟩))

theorem str_inj {a b : List UInt8} (h : Value.string ⟨a.toArray⟩ = .string ⟨b.toArray⟩) : a = b := by
  injection h with h; injection h with h; exact List.toArray_inj h
theorem lawS : Keyed Tryd.prog 9 := Go.Maps.string_keyed Tryd.underlying9
theorem keyS (s : List UInt8) (h : s.length ≤ 140737488351232) : ∃ l, keyOf Tryd.prog 9 (.string ⟨s.toArray⟩) = some l := by
  refine ⟨.string s, ?_⟩
  have h' : (⟨s.toArray⟩ : ByteArray).size ≤ maxLen := by simp [ByteArray.size, maxLen]; omega
  simp [keyOf, Tryd.underlying9, mapKey, h']
theorem cellsI : Tryd.prog.cellsOf 3 = 1 := by kernel_rfl
theorem cellsS : Tryd.prog.cellsOf 9 = 1 := by kernel_rfl
theorem own_form {w : World} {B : Nat} {e : TypeId} {z : Nat} {s : Value} {n : Nat} {xs : List Value} (h : w.ownsRow B e z s n xs) : ∃ A cap, s = .slice A n cap := by
  rcases h.2 with ⟨rfl, rfl⟩ | ⟨k, cap, cur, rfl, _⟩
  · exact ⟨none, 0, rfl⟩
  · exact ⟨_, cap, rfl⟩
theorem row_out {G : Nat → Prop} {w w' : World} {B : Nat} {e : TypeId} {z : Nat} {s : Value} {n : Nat} {xs : List Value} (h : w.ownsRow B e z s n xs) (ho : Out G w w') (hd : ∀ k cs t f, G k → w.heap[k]? ≠ some (.cells cs t f)) : w'.ownsRow B e z s n xs := by
  refine ⟨h.1, ?_⟩
  rcases h.2 with hn | ⟨k, cap, cur, hv, hb, hk, hr⟩
  · exact Or.inl hn
  · exact Or.inr ⟨k, cap, cur, hv, hb, ho.heap hk (fun hg => hd k _ _ _ hg hk), hr⟩
end Go.Proofs.YtikabacebmbacaaDoor
namespace Go.Proofs.YtikabacebmbacaaDoor

abbrev Pw.St := List UInt8 × Int
end Go.Proofs.YtikabacebmbacaaDoor
namespace Go.Proofs.YtikabacebmbacaaDoor
open Go.RowKit

theorem Only.out {g : Nat} {w w' : World} (h : Only g w w') : Out (fun k => k = g) w w' := ⟨h.os, h.tape, h.output, h.size, h.block⟩
end Go.Proofs.YtikabacebmbacaaDoor
namespace Go.Proofs.YtikabacebmbacaaDoor
open Go.Proofs.YtikabacebmbacaaDoor.Nd (N)

end Go.Proofs.YtikabacebmbacaaDoor
namespace Go.Proofs.YtikabacebmbacaaDoor
open Go.Proofs.YtikabacebmbacaaDoor.Nd (N)

end Go.Proofs.YtikabacebmbacaaDoor
namespace Go.Proofs.YtikabacebmbacaaDoor
open Go.Proofs.YtikabacebmbacaaDoor.Nd (N)
end Go.Proofs.YtikabacebmbacaaDoor
namespace Go.Proofs.YtikabacebmbacaaDoor.Tri
open Sto (T St Rising keys)
open Go.Proofs.YtikabacebmbacaaDoor.Nd (N)

def Tr.small : Tr → Prop
  | .nil => True
  | .leaf p v => p.length ≤ 16 ∧ v.length ≤ 32
  | .ext p t => p.length ≤ 16 ∧ t.small
  | .br v k => v.length ≤ 32 ∧ ∀ i, (k i).small
theorem small_of {t : Tr} (h : t.canon) (hs : ∀ x ∈ t.items, x.1.length ≤ 16 ∧ x.2.length ≤ 32) : t.small := by
  induction t with
  | nil => trivial
  | leaf p v => exact hs (p, v) (List.mem_singleton.2 rfl)
  | ext p t ih =>
    have ht : ¬ t.isNil := by have := h.2.1; cases t <;> simp_all [Tr.isBr, Tr.isNil]
    have hne : t.items ≠ [] := fun e => ht ((items_nil h.2.2).1 e)
    obtain ⟨a, l, e⟩ := List.exists_cons_of_ne_nil hne
    refine ⟨?_, ih h.2.2 fun x hx => ?_⟩
    · have := (hs (p ++ a.1, a.2) (mem_behind.2 ⟨a.1, by rw [e]; exact List.mem_cons_self .., rfl⟩)).1
      simp at this; omega
    · have := hs (p ++ x.1, x.2) (mem_behind.2 ⟨x.1, hx, rfl⟩)
      simp at this; exact ⟨by omega, this.2⟩
  | br v k ih =>
    refine ⟨?_, fun i => ih i (h.1 i) fun x hx => ?_⟩
    · by_cases e : v = []
      · rw [e]; simp
      · exact (hs ([], v) (mem_br.2 (Or.inl ⟨rfl, rfl, e⟩))).2
    · have := hs (hb i :: x.1, x.2) (mem_br.2 (Or.inr ⟨i, x.1, rfl, hx⟩))
      simp at this; exact ⟨by omega, this.2⟩
theorem two_le {L : List T} {i j : Nat} (hij : i < j) (hj : j < L.length) (h1 : L[i]'(by omega) ≠ []) (h2 : L[j] ≠ []) : 2 ≤ (Nd.kidsL L).length := by
  induction L generalizing i j with
  | nil => simp at hj
  | cons a L ih =>
    rw [Nd.kidsL_cons]
    cases j with
    | zero => omega
    | succ j =>
      have hj' : j < L.length := by simpa using hj
      have h2' : L[j] ≠ [] := by simpa using h2
      have one : 1 ≤ (Nd.kidsL L).length := List.length_pos_iff.2 (List.ne_nil_of_mem (a := L[j]) (by unfold Nd.kidsL; rw [List.mem_filter]; exact ⟨List.getElem_mem hj', by simpa using h2'⟩))
      cases i with
      | zero =>
        have : a ≠ [] := by simpa using h1
        rw [if_neg this, List.length_cons]; omega
      | succ i =>
        have := ih (i := i) (j := j) (by omega) hj' (by simpa using h1) h2'
        split
        · exact this
        · rw [List.length_cons]; omega
theorem one_le {L : List T} {i : Nat} (hi : i < L.length) (h : L[i] ≠ []) : 1 ≤ (Nd.kidsL L).length :=
  List.length_pos_iff.2 (List.ne_nil_of_mem (a := L[i]) (by unfold Nd.kidsL; rw [List.mem_filter]; exact ⟨List.getElem_mem hi, by simpa using h⟩))
theorem ofFn_at (f : Fin 16 → T) (i : Fin 16) : (List.ofFn f)[i.val]'(by rw [List.length_ofFn]; exact i.isLt) = f i := List.getElem_ofFn _
theorem node_kids (dg : N → T) (t : Tr) : (t.node dg).kids.length = 16 := by
  cases t <;> simp [Tr.node, Nd.zero]
/-- Each node of a trie may be. -/
theorem node_fine (dg : N → T) (hd : ∀ n : N, n.kids.length = 16 → Nd.fine n = true → (dg n).length = 32) {t : Tr} (hc : t.canon) (hf : t.fits) (hs : t.small) (hn : ¬ t.isNil) : Nd.fine (t.node dg) = true := by
  induction t with
  | nil => exact absurd trivial hn
  | leaf p v =>
    rw [Nd.fine_kinds _ (node_kids dg _)]
    have h1 : v ≠ [] := hc
    have h2 : Nib.fitL p = true := hf
    have h3 := hs.1
    have h4 := hs.2
    simp [Tr.node, Nd.leafB, Nd.pathB, Nd.none16, h1, h2, h3, h4]
  | ext p t ih =>
    have ht : ¬ t.isNil := by have := hc.2.1; cases t <;> simp_all [Tr.isBr, Tr.isNil]
    have h32 : (t.sum dg).length = 32 := by rw [sum_node dg ht]; exact hd _ (node_kids dg t) (ih hc.2.2 hf.2 hs.2 ht)
    rw [Nd.fine_kinds _ (node_kids dg _)]
    have h1 : p ≠ [] := hc.1
    have h2 : Nib.fitL p = true := hf.1
    have h3 := hs.1
    simp [Tr.node, Nd.extB, Nd.pathB, Nd.none16, h1, h2, h3, h32, List.replicate]
  | br v k ih =>
    have hsum : ∀ i, ((k i).sum dg = [] ∧ (k i).isNil) ∨ (((k i).sum dg).length = 32 ∧ ¬ (k i).isNil) := fun i => by
      by_cases e : (k i).isNil
      · refine Or.inl ⟨?_, e⟩
        cases hk : k i with
        | nil => rfl
        | _ => rw [hk] at e; cases e
      · exact Or.inr ⟨by rw [sum_node dg e]; exact hd _ (node_kids dg _) (ih i (hc.1 i) (hf i) (hs.2 i) e), e⟩
    have hne : ∀ i, ¬ (k i).isNil → (k i).sum dg ≠ [] := fun i h e => by
      rcases hsum i with h2 | h2
      · exact h h2.2
      · rw [e] at h2; simp at h2
    rw [Nd.fine_kinds _ (node_kids dg _)]
    have h4 := hs.1
    have hall : Nd.all32 (List.ofFn fun i => (k i).sum dg) = true := by
      unfold Nd.all32
      rw [List.all_eq_true]
      intro x hx
      obtain ⟨i, rfl⟩ := List.mem_ofFn.1 hx
      rcases hsum i with h | h
      · simp [h.1]
      · simp [h.1]
    have htwo : 2 ≤ (if v = [] then 0 else 1) + (Nd.kidsL (List.ofFn fun i => (k i).sum dg)).length := by
      rcases hc.2 with ⟨i, j, hij, hi, hj⟩ | ⟨hv, i, hi⟩
      · have := two_le (L := List.ofFn fun i => (k i).sum dg) (i := i.val) (j := j.val) hij (by rw [List.length_ofFn]; exact j.isLt) (by rw [ofFn_at (fun i => (k i).sum dg) i]; exact hne i hi) (by rw [ofFn_at (fun i => (k i).sum dg) j]; exact hne j hj)
        omega
      · have := one_le (L := List.ofFn fun i => (k i).sum dg) (i := i.val) (by rw [List.length_ofFn]; exact i.isLt) (by rw [ofFn_at (fun i => (k i).sum dg) i]; exact hne i hi)
        rw [if_neg hv]; omega
    have fin : ∀ K : List T, Nd.all32 K = true → 2 ≤ (if v = [] then 0 else 1) + (Nd.kidsL K).length → Nd.branchB ⟨3, [], v, K⟩ = true := fun K h1 h2 => by
      simp [Nd.branchB, h4, h1, h2]
    rw [if_neg (by simp [Tr.node]), if_neg (by simp [Tr.node]), if_pos (show (Tr.node dg (Tr.br v k)).kind = 3 from rfl)]
    exact fin _ hall htwo
/-- The nodes of a tree, in order. -/
def Tr.nodes (dg : N → T) : Tr → List N
  | .nil => []
  | .leaf q v => [Tr.node dg (.leaf q v)]
  | .ext q t => Tr.node dg (.ext q t) :: t.nodes dg
  | .br v k => Tr.node dg (.br v k) :: (List.finRange 16).flatMap fun i => (k i).nodes dg
end Go.Proofs.YtikabacebmbacaaDoor.Tri
