/- NodeRead, StorePlain, MapFn, MapRange, SortShelf -/
import Derived.Test.YtjfefphgikncnaaGreatDoorPk01
import Derived.Test.YtjfefphgikncnaaGreatDoorPk02
import Derived.Maps.OwnSet
import Derived.Maps.RangeRun
import Derived.Maps.Range
import Derived.Shelf.Strconv.Itoa0
import Derived.Shelf.LaysM
import Derived.Shelf.Strconv.Clone
import Derived.Shelf.Sort.Plain
import Derived.Shelf.Slices.In.SortNone
import Derived.Test.YtjfefphgikncnaaGreatDoorChecked
namespace Go.Proofs.YtjfefphgikncnaaGreatDoor
open Go.Proofs.YtjfefphgikncnaaGreatDoor.Nd (N)

def Nd.rdT (most : Int) (st : Nd.St) : List UInt8 × Nd.St := if st.2 ≠ 0 then ([], st) else ((Code.textR most st.1).1, (Code.textR most st.1).2.1, (Code.textR most st.1).2.2)
theorem Nd.rdT_le (most : Int) (st : Nd.St) : (Nd.rdT most st).2.1.length ≤ st.1.length := by
  unfold Nd.rdT
  split
  · exact Nat.le_refl _
  · exact Pw.textR_le _ _
theorem Nd.rdB_le (n : Nat) (st : Nd.St) : (Nd.rdB n st).2.1.length ≤ st.1.length := by
  unfold Nd.rdB
  split
  · exact Nat.le_refl _
  · split
    · exact Nat.le_refl _
    · simp only [List.length_drop]; omega
theorem Nd.rdT_ok {most : Int} {st : Nd.St} (h : (Nd.rdT most st).2.2 = 0) : st.2 = 0 ∧ st.1 = Code.textL (Nd.rdT most st).1 ++ (Nd.rdT most st).2.1 := by
  unfold Nd.rdT at h ⊢
  by_cases h0 : st.2 = 0
  · rw [if_neg (by simpa using h0)] at h ⊢
    refine ⟨h0, ?_⟩
    simp only at h ⊢
    unfold Code.textR at h ⊢
    by_cases h1 : (Code.countL most st.1).2.2 = 0
    · rw [if_neg (by simpa using h1)] at h ⊢
      by_cases h2 : (Code.countL most st.1).1 > (Code.countL most st.1).2.1.length
      · rw [if_pos h2] at h; simp at h
      · rw [if_neg h2]
        simp only
        have hs : st.1 = Code.numL (Code.countL most st.1).1 ++ (Code.countL most st.1).2.1 := by
          unfold Code.countL at h1 ⊢
          split at h1
          · rename_i h3; exact absurd h1 h3
          · rename_i h3
            split at h1
            · simp at h1
            · rename_i h4
              have h5 := Code.lead_ok st.1 (by simpa using h3)
              rw [if_neg h3, if_neg h4]
              simp only
              rw [← h5.2.2, List.take_append_drop]
        have hl : ((Code.countL most st.1).2.1.take (Code.countL most st.1).1).length = (Code.countL most st.1).1 := by rw [List.length_take]; omega
        rw [Code.textL, hl, List.append_assoc, List.take_append_drop]
        exact hs
    · rw [if_pos h1] at h; exact absurd h h1
  · rw [if_pos h0] at h
    exact absurd h h0
theorem Nd.rdT_text (most : Nat) (t r : List UInt8) (h : t.length ≤ most) (hm : most ≤ 1000) : Nd.rdT most (Code.textL t ++ r, 0) = (t, r, 0) := by
  have h1 := Code.text_text most t r (by omega) (by omega)
  simp [Nd.rdT, h1]

/-! ### a packed path -/
def Nd.unp (leaf : Bool) (p : List UInt8) : List UInt8 × Bool :=
  match Nib.unpackL p with
  | none => ([], false)
  | some (q, is) => (q, is == leaf)
def Nd.rdP (leaf : Bool) (st : Nd.St) : (List UInt8 × Bool) × Nd.St := (Nd.unp leaf (Nd.rdT 9 st).1, (Nd.rdT 9 st).2)
theorem Nd.unp_ok {leaf : Bool} {p : List UInt8} (h : (Nd.unp leaf p).2 = true) : Nib.packL (Nd.unp leaf p).1 leaf = p ∧ Nib.fitL (Nd.unp leaf p).1 = true := by
  unfold Nd.unp at h ⊢
  match hu : Nib.unpackL p with
  | none => rw [hu] at h; cases h
  | some (q, is) =>
    rw [hu] at h
    have h1 := Nib.unpack_fit p q is hu
    obtain rfl : is = leaf := by simpa using h
    exact ⟨h1.2, h1.1⟩
theorem Nd.rdP_ok {leaf : Bool} {st : Nd.St} (h : (Nd.rdP leaf st).1.2 = true) (h2 : (Nd.rdP leaf st).2.2 = 0) : st.2 = 0 ∧ st.1 = Code.textL (Nib.packL (Nd.rdP leaf st).1.1 leaf) ++ (Nd.rdP leaf st).2.1 := by
  have h3 := Nd.rdT_ok h2
  have h4 := Nd.unp_ok h
  refine ⟨h3.1, ?_⟩
  rw [show (Nd.rdP leaf st).1 = Nd.unp leaf (Nd.rdT 9 st).1 from rfl, h4.1]
  exact h3.2
theorem Nd.rdP_pack (leaf : Bool) (p r : List UInt8) (hf : Nib.fitL p = true) (hp : p.length ≤ 16) : Nd.rdP leaf (Code.textL (Nib.packL p leaf) ++ r, 0) = ((p, true), r, 0) := by
  unfold Nd.rdP
  have h := Nd.rdT_text 9 (Nib.packL p leaf) r (by rw [Nib.packL_length]; omega) (by decide)
  rw [show ((9 : Nat) : Int) = 9 from rfl] at h
  rw [h]
  unfold Nd.unp
  rw [Nib.unpack_pack p leaf hf]
  simp

/-! ### the sixteen places -/
def Nd.bitf (n i : Nat) : Bool := decide (n / 2 ^ (15 - i) % 2 = 1)
theorem Nd.bitf_hi (h l i : Nat) (hl : l < 256) (hi : i < 8) : Nd.bitf (h * 256 + l) i = Nd.bitAt h i := by
  unfold Nd.bitf Nd.bitAt
  have e : (h * 256 + l) / 2 ^ (15 - i) = h / 2 ^ (7 - i) := by
    have h1 : (2 : Nat) ^ (15 - i) = 256 * 2 ^ (7 - i) := by
      rw [show 15 - i = 8 + (7 - i) by omega, Nat.pow_add]
    have h2 : (h * 256 + l) / 256 = h := by omega
    rw [h1, ← Nat.div_div_eq_div_mul, h2]
  rw [e]
theorem Nd.bitf_lo (h l i : Nat) (hi : 8 ≤ i) (hi2 : i < 16) : Nd.bitf (h * 256 + l) i = Nd.bitAt l (i - 8) := by
  unfold Nd.bitf Nd.bitAt
  obtain ⟨j, rfl⟩ : ∃ j, i = 8 + j := ⟨i - 8, by omega⟩
  have hj : j < 8 := by omega
  have e1 : 15 - (8 + j) = 7 - j := by omega
  have e2 : 8 + j - 8 = j := by omega
  rw [e1, e2]
  have h1 : h * 256 = 2 ^ (7 - j) * (h * 2 ^ (1 + j)) := by
    have : (256 : Nat) = 2 ^ (7 - j) * 2 ^ (1 + j) := by
      rw [← Nat.pow_add, show 7 - j + (1 + j) = 8 by omega]
    rw [this, Nat.mul_left_comm]
  rw [h1, Nat.mul_add_div (Nat.two_pow_pos _), Nat.pow_add, Nat.mul_left_comm, Nat.pow_one, Nat.mul_add_mod]
/-- Two bytes, the higher first, as a number: none, if there are none. -/
def Nd.num2 : List UInt8 → Nat
  | [x, y] => x.toNat * 256 + y.toNat
  | _ => 0
def Nd.rdK (st : Nd.St) : List (List UInt8) × Nd.St := Nd.rdKids (Nd.bitf (Nd.num2 (Nd.rdB 2 st).1)) 16 (Nd.rdB 2 st).2

theorem Nd.byteN_toNat (x : UInt8) : Nd.byteN x.toNat = x := by simp [Nd.byteN]
theorem Nd.rdK_len (st : Nd.St) : (Nd.rdK st).1.length = 16 := Nd.rdKids_len _ _ _
theorem Nd.rdK_ok {st : Nd.St} (h : (Nd.rdK st).2.2 = 0) : st.2 = 0 ∧ st.1 = Nd.takenL (Nd.rdK st).1 ++ ((Nd.rdK st).1.flatten ++ (Nd.rdK st).2.1) := by
  have h1 := Nd.rdKids_ok _ _ _ h
  obtain ⟨a, b, c, d⟩ := h1
  have h2 := Nd.rdB_ok a
  refine ⟨h2.1, ?_⟩
  have hl := Nd.rdK_len st
  have h3 : Nd.takenL (Nd.rdK st).1 = (Nd.rdB 2 st).1 := by
    match hq : (Nd.rdB 2 st).1, h2.2.2 with
    | [x, y], _ =>
      have hn : Nd.num2 (Nd.rdB 2 st).1 = x.toNat * 256 + y.toNat := by rw [hq]; rfl
      rw [hn] at d
      have hx : Nd.bits8 ((Nd.rdK st).1.take 8) = x.toNat := Nd.bits8_back _ (by rw [List.length_take, hl]; rfl) x (fun i hi => by
        have := d i (by omega)
        rw [Nd.bitf_hi _ _ _ y.toNat_lt hi] at this
        rw [this, List.getElem_take]
        unfold Nd.rdK
        simp only [hn])
      have hy : Nd.bits8 ((Nd.rdK st).1.drop 8) = y.toNat := Nd.bits8_back _ (by rw [List.length_drop, hl]) y (fun i hi => by
        have := d (8 + i) (by omega)
        rw [Nd.bitf_lo _ _ _ (by omega) (by omega), Nat.add_sub_cancel_left] at this
        rw [this, List.getElem_drop]
        unfold Nd.rdK
        simp only [hn])
      unfold Nd.takenL
      rw [hx, hy, Nd.byteN_toNat, Nd.byteN_toNat]
  rw [h3]
  refine h2.2.1.trans ?_
  exact congrArg _ b
set_option maxRecDepth 100000 in
theorem Nd.rdK_taken (L : List (List UInt8)) (r : List UInt8) (hL : L.length = 16) (ha : Nd.all32 L = true) : Nd.rdK (Nd.takenL L ++ (L.flatten ++ r), 0) = (L, r, 0) := by
  unfold Nd.rdK
  rw [Nd.rdB_app (Nd.takenL L) _ 2 rfl]
  have h8 : (L.take 8).length = 8 := by rw [List.length_take, hL]; rfl
  have h8' : (L.drop 8).length = 8 := by rw [List.length_drop, hL]
  have hx := Nd.bits8_lt _ h8
  have hy := Nd.bits8_lt _ h8'
  have hn : Nd.num2 (Nd.takenL L) = Nd.bits8 (L.take 8) * 256 + Nd.bits8 (L.drop 8) := by
    simp only [Nd.takenL, Nd.num2, Nd.byteN]
    rw [Code.ofNat_toNat _ hx, Code.ofNat_toNat _ hy]
  simp only [hn]
  have h := Nd.rdKids_app L ha (Nd.bitf (Nd.bits8 (L.take 8) * 256 + Nd.bits8 (L.drop 8))) 16 (by omega) (fun i hi => by
    by_cases h : i < 8
    · rw [Nd.bitf_hi _ _ _ hy h, Nd.bits8_at _ h8 i h, List.getElem_take]
    · obtain ⟨j, rfl⟩ : ∃ j, i = 8 + j := ⟨i - 8, by omega⟩
      rw [Nd.bitf_lo _ _ (8 + j) (by omega) hi, Nat.add_sub_cancel_left, Nd.bits8_at _ h8' j (by omega), List.getElem_drop]) r
  have e : L.take 16 = L := List.take_of_length_le (by omega)
  rw [e] at h
  exact h

/-! ### a node -/
def Nd.rdN (k : UInt8) (r : List UInt8) : (N × Bool) × Nd.St :=
  if k.toNat = 1 then ((⟨1, (Nd.rdP true (r, 0)).1.1, (Nd.rdT 32 (Nd.rdP true (r, 0)).2).1, Nd.none16⟩, (Nd.rdP true (r, 0)).1.2), (Nd.rdT 32 (Nd.rdP true (r, 0)).2).2)
  else if k.toNat = 2 then ((⟨2, (Nd.rdP false (r, 0)).1.1, [], Nd.none16.set 0 (Nd.rdB 32 (Nd.rdP false (r, 0)).2).1⟩, (Nd.rdP false (r, 0)).1.2), (Nd.rdB 32 (Nd.rdP false (r, 0)).2).2)
  else if k.toNat = 3 then ((⟨3, [], (Nd.rdT 32 (Nd.rdK (r, 0)).2).1, (Nd.rdK (r, 0)).1⟩, true), (Nd.rdT 32 (Nd.rdK (r, 0)).2).2)
  else ((⟨(k.toNat : Int), [], [], Nd.none16⟩, true), (r, 0))
def Nd.decOK (k : UInt8) (r : List UInt8) : Bool := (Nd.rdN k r).1.2 && (decide (Pw.endC (Nd.rdN k r).2 = 0) && Nd.fine (Nd.rdN k r).1.1)
def Nd.dec : List UInt8 → N × Int
  | [] => (Nd.zero, 80)
  | k :: r => if Nd.decOK k r then ((Nd.rdN k r).1.1, 0) else (Nd.zero, 80)
/-- What bytes tell. -/
def Nd.DecIs (s : List UInt8) (p : N × Int) : Prop :=
  (p.2 = 0 ∧ Nd.fine p.1 = true ∧ p.1.kids.length = 16 ∧ Nd.written p.1 = s) ∨ (p.2 = 80 ∧ p.1 = Nd.zero ∧ ∀ m : N, m.kids.length = 16 → Nd.fine m = true → Nd.written m ≠ s)
theorem Nd.endC_ok {st : Nd.St} (h : Pw.endC st = 0) : st.2 = 0 ∧ st.1 = [] := by
  unfold Pw.endC at h
  split at h
  · cases h
  · rename_i hn
    exact ⟨h, Decidable.byContradiction fun e => hn ⟨h, e⟩⟩
theorem Nd.rdN_kids (k : UInt8) (r : List UInt8) : (Nd.rdN k r).1.1.kids.length = 16 := by
  unfold Nd.rdN
  split
  · rfl
  · split
    · simp [Nd.none16]
    · split
      · exact Nd.rdK_len _
      · rfl
theorem Nd.dec_ok {k : UInt8} {r : List UInt8} (h : Nd.decOK k r = true) : Nd.fine (Nd.rdN k r).1.1 = true ∧ Nd.written (Nd.rdN k r).1.1 = k :: r := by
  unfold Nd.decOK at h
  simp only [Bool.and_eq_true, decide_eq_true_eq] at h
  obtain ⟨h1, h2, h3⟩ := h
  refine ⟨h3, ?_⟩
  have h4 := Nd.endC_ok h2
  have hkb : ∀ j : Nat, k.toNat = j → UInt8.ofNat j = k := fun j e => by rw [← e]; simp
  unfold Nd.rdN at h1 h3 h4 ⊢
  by_cases k1 : k.toNat = 1
  · simp only [if_pos k1] at h1 h3 h4 ⊢
    have h5 := Nd.rdT_ok h4.1
    have h6 := Nd.rdP_ok h1 h5.1
    have e : r = Code.textL (Nib.packL (Nd.rdP true (r, 0)).1.1 true) ++ Code.textL (Nd.rdT 32 (Nd.rdP true (r, 0)).2).1 := by
      refine h6.2.trans ?_
      refine congrArg (fun x => Code.textL (Nib.packL (Nd.rdP true (r, 0)).1.1 true) ++ x) ?_
      rw [h5.2, h4.2, List.append_nil]
    have hb : ∀ p v, Nd.written ⟨1, p, v, Nd.none16⟩ = (1 : UInt8) :: (Code.textL (Nib.packL p true) ++ Code.textL v) := fun _ _ => rfl
    rw [hb, ← e]
    exact congrArg (fun x => x :: r) (hkb 1 k1)
  by_cases k2 : k.toNat = 2
  · simp only [if_neg k1, if_pos k2] at h1 h3 h4 ⊢
    have h5 := Nd.rdB_ok h4.1
    have h6 := Nd.rdP_ok h1 h5.1
    have e : r = Code.textL (Nib.packL (Nd.rdP false (r, 0)).1.1 false) ++ (Nd.rdB 32 (Nd.rdP false (r, 0)).2).1 := by
      refine h6.2.trans ?_
      refine congrArg (fun x => Code.textL (Nib.packL (Nd.rdP false (r, 0)).1.1 false) ++ x) ?_
      rw [h5.2.1, h4.2, List.append_nil]
    have hb : ∀ p ks, Nd.written ⟨2, p, [], ks⟩ = (2 : UInt8) :: (Code.textL (Nib.packL p false) ++ ks.getD 0 []) := fun _ _ => rfl
    rw [hb]
    have hz : (Nd.none16.set 0 (Nd.rdB 32 (Nd.rdP false (r, 0)).2).1).getD 0 [] = (Nd.rdB 32 (Nd.rdP false (r, 0)).2).1 := by simp [Nd.none16, List.replicate_succ]
    rw [hz, ← e]
    exact congrArg (fun x => x :: r) (hkb 2 k2)
  by_cases k3 : k.toNat = 3
  · simp only [if_neg k1, if_neg k2, if_pos k3] at h1 h3 h4 ⊢
    have h5 := Nd.rdT_ok h4.1
    have h6 := Nd.rdK_ok h5.1
    have e : r = Nd.takenL (Nd.rdK (r, 0)).1 ++ ((Nd.rdK (r, 0)).1.flatten ++ Code.textL (Nd.rdT 32 (Nd.rdK (r, 0)).2).1) := by
      refine h6.2.trans ?_
      refine congrArg (fun x => Nd.takenL (Nd.rdK (r, 0)).1 ++ ((Nd.rdK (r, 0)).1.flatten ++ x)) ?_
      rw [h5.2, h4.2, List.append_nil]
    have hb : Nd.written ⟨3, [], (Nd.rdT 32 (Nd.rdK (r, 0)).2).1, (Nd.rdK (r, 0)).1⟩ = (3 : UInt8) :: (Nd.takenL (Nd.rdK (r, 0)).1 ++ ((Nd.rdK (r, 0)).1.flatten ++ Code.textL (Nd.rdT 32 (Nd.rdK (r, 0)).2).1)) := rfl
    rw [hb, ← e]
    exact congrArg (fun x => x :: r) (hkb 3 k3)
  · simp only [if_neg k1, if_neg k2, if_neg k3] at h3
    have := (Nd.fine_kinds ⟨(k.toNat : Int), [], [], Nd.none16⟩ rfl).symm.trans h3
    rw [if_neg (by show ¬ ((k.toNat : Int) = 1); omega), if_neg (by show ¬ ((k.toNat : Int) = 2); omega), if_neg (by show ¬ ((k.toNat : Int) = 3); omega)] at this
    cases this
/-- What may be is told by its bytes. -/
theorem Nd.dec_written (m : N) (hm : m.kids.length = 16) (hf : Nd.fine m = true) : Nd.dec (Nd.written m) = (m, 0) := by
  have hf0 := hf
  rw [Nd.fine_kinds m hm] at hf
  obtain ⟨kd, p, v, ks⟩ := m
  simp only at hm hf
  by_cases k1 : kd = 1
  · subst k1
    rw [if_pos rfl] at hf
    simp only [Nd.leafB, Nd.pathB, Bool.and_eq_true, decide_eq_true_eq, beq_iff_eq] at hf
    obtain ⟨⟨a, b⟩, c, d, e⟩ := hf
    subst e
    have hw : Nd.written ⟨1, p, v, Nd.none16⟩ = (1 : UInt8) :: (Code.textL (Nib.packL p true) ++ Code.textL v) := rfl
    have hr : Nd.rdN 1 (Code.textL (Nib.packL p true) ++ Code.textL v) = ((⟨1, p, v, Nd.none16⟩, true), [], 0) := by
      unfold Nd.rdN
      rw [if_pos (by decide), Nd.rdP_pack true p _ b a]
      have ht := Nd.rdT_text 32 v [] d (by decide)
      rw [List.append_nil] at ht
      simp only
      rw [show (32 : Int) = ((32 : Nat) : Int) from rfl, ht]
    rw [hw, Nd.dec, Nd.decOK, hr]
    simp only
    rw [hf0]
    rfl
  rw [if_neg k1] at hf
  by_cases k2 : kd = 2
  · subst k2
    rw [if_pos rfl] at hf
    simp only [Nd.extB, Nd.pathB, Bool.and_eq_true, decide_eq_true_eq, beq_iff_eq] at hf
    obtain ⟨a, ⟨b, c⟩, d, e, f⟩ := hf
    subst d
    have hk : ks = Nd.none16.set 0 (ks.getD 0 []) := by
      match ks, hm with
      | z :: l, hm => rw [← f]; simp
    have hw : Nd.written ⟨2, p, [], ks⟩ = (2 : UInt8) :: (Code.textL (Nib.packL p false) ++ ks.getD 0 []) := rfl
    have hr : Nd.rdN 2 (Code.textL (Nib.packL p false) ++ ks.getD 0 []) = ((⟨2, p, [], ks⟩, true), [], 0) := by
      unfold Nd.rdN
      rw [if_neg (by decide), if_pos (by decide), Nd.rdP_pack false p _ c b]
      have ht := Nd.rdB_app (ks.getD 0 []) [] 32 e
      rw [List.append_nil] at ht
      simp only
      rw [ht]
      simp only
      rw [← hk]
    rw [hw, Nd.dec, Nd.decOK, hr]
    simp only
    rw [hf0]
    rfl
  rw [if_neg k2] at hf
  by_cases k3 : kd = 3
  · subst k3
    rw [if_pos rfl] at hf
    simp only [Nd.branchB, Bool.and_eq_true, decide_eq_true_eq] at hf
    obtain ⟨a, b, c, d⟩ := hf
    subst a
    have hw : Nd.written ⟨3, [], v, ks⟩ = (3 : UInt8) :: (Nd.takenL ks ++ (ks.flatten ++ Code.textL v)) := rfl
    have hr : Nd.rdN 3 (Nd.takenL ks ++ (ks.flatten ++ Code.textL v)) = ((⟨3, [], v, ks⟩, true), [], 0) := by
      unfold Nd.rdN
      rw [if_neg (by decide), if_neg (by decide), if_pos (by decide), Nd.rdK_taken ks _ hm c]
      have ht := Nd.rdT_text 32 v [] b (by decide)
      rw [List.append_nil] at ht
      simp only
      rw [show (32 : Int) = ((32 : Nat) : Int) from rfl, ht]
    rw [hw, Nd.dec, Nd.decOK, hr]
    simp only
    rw [hf0]
    rfl
  rw [if_neg k3] at hf
  cases hf
theorem Nd.dec_is (s : List UInt8) : Nd.DecIs s (Nd.dec s) := by
  match s with
  | [] =>
    refine Or.inr ⟨rfl, rfl, fun m hm hf he => ?_⟩
    have := Nd.dec_written m hm hf
    rw [he] at this
    cases this
  | k :: r =>
    cases h : Nd.decOK k r with
    | true =>
      have h1 := Nd.dec_ok h
      rw [Nd.dec, if_pos h]
      exact Or.inl ⟨rfl, h1.1, Nd.rdN_kids k r, h1.2⟩
    | false =>
      rw [Nd.dec, if_neg (by rw [h]; decide)]
      refine Or.inr ⟨rfl, rfl, fun m hm hf he => ?_⟩
      have := Nd.dec_written m hm hf
      rw [he, Nd.dec, if_neg (by rw [h]; decide)] at this
      cases this
end Go.Proofs.YtjfefphgikncnaaGreatDoor
namespace Go.Proofs.YtjfefphgikncnaaGreatDoor.Sto
/-! ### what is reached -/
/-- The sums that a text names, if it is a node. -/
def kidsT (t : T) : List T := Nd.kidsL (Nd.dec t).1.kids
inductive Reach (S : St) (l : List T) : T → Prop
  | here {x} : x ∈ l → x ∈ keys S → Reach S l x
  | step {x t k} : Reach S l x → look S x = some t → k ∈ kidsT t → k ∈ keys S → Reach S l k
theorem Reach.key {S : St} {l : List T} {x : T} (h : Reach S l x) : x ∈ keys S := by
  cases h <;> assumption
def idx (S : St) (x : T) : Option Nat := S.findIdx? fun a => decide (a.1 = x)
theorem idx_some {S : St} {x : T} {k : Nat} (h : idx S x = some k) : ∃ hk : k < S.length, S[k].1 = x := by
  obtain ⟨h1, h2, _⟩ := List.findIdx?_eq_some_iff_getElem.1 h
  exact ⟨h1, by simpa using h2⟩
theorem idx_of_key {S : St} {x : T} (h : x ∈ keys S) : ∃ k, idx S x = some k := by
  cases hi : idx S x with
  | some k => exact ⟨k, rfl⟩
  | none =>
    obtain ⟨a, ha, e⟩ := List.mem_map.1 h
    have := List.findIdx?_eq_none_iff.1 hi a ha
    simp [e] at this
theorem idx_at {S : St} (hS : Rising S) (i : Nat) (hi : i < S.length) : idx S S[i].1 = some i := by
  obtain ⟨k, hk⟩ := idx_of_key (S := S) (x := S[i].1) (List.mem_map.2 ⟨_, List.getElem_mem hi, rfl⟩)
  obtain ⟨h1, h2⟩ := idx_some hk
  have : k = i := by
    rcases Nat.lt_trichotomy k i with h | h | h
    · exact absurd h2 (lt_ne (List.pairwise_iff_getElem.1 hS k i h1 hi h))
    · exact h
    · exact absurd h2.symm (lt_ne (List.pairwise_iff_getElem.1 hS i k hi h1 h))
  rw [hk, this]
def kidI (S : St) (i : Nat) : List Nat := match S[i]? with | some a => (kidsT a.2).filterMap (idx S) | none => []
theorem kidI_at (S : St) (i : Nat) (hi : i < S.length) : kidI S i = (kidsT S[i].2).filterMap (idx S) := by
  unfold kidI
  rw [List.getElem?_eq_getElem hi]
theorem kidI_lt (S : St) (i k : Nat) (h : k ∈ kidI S i) : k < S.length := by
  unfold kidI at h
  split at h
  · obtain ⟨x, _, hx⟩ := List.mem_filterMap.1 h
    exact (idx_some hx).1
  · cases h
def marks0 (S : St) (l : List T) : List Bool := S.map fun a => decide (a.1 ∈ l)
def marks (S : St) (l : List T) : List Bool := rounds (kidI S) (List.range S.length) S.length (marks0 S l)
theorem marks0_len (S : St) (l : List T) : (marks0 S l).length = S.length := by simp [marks0]
theorem marks_len (S : St) (l : List T) : (marks S l).length = S.length := by
  rw [marks, ← (rounds_le _ _ _ _).1, marks0_len]
def pick (S : St) (m : List Bool) : List T := ((S.zip m).filter (·.2)).map (·.1.1)
def reachL (S : St) (l : List T) : List T := pick S (marks S l)
theorem pick_sub (S : St) (m : List Bool) (h : m.length = S.length) : (pick S m).Sublist (keys S) := by
  have h1 : ((S.zip m).map (·.1.1)) = keys S := by
    rw [keys, show (fun x : (T × T) × Bool => x.1.1) = (fun a : T × T => a.1) ∘ Prod.fst from rfl, ← List.map_map, List.map_fst_zip (by omega)]
  rw [← h1]
  exact (List.filter_sublist).map _
theorem pick_mem (S : St) (m : List Bool) (h : m.length = S.length) (x : T) : x ∈ pick S m ↔ ∃ i, ∃ hi : i < S.length, S[i].1 = x ∧ On m i := by
  unfold pick
  rw [List.mem_map]
  constructor
  · rintro ⟨⟨a, b⟩, hm, rfl⟩
    obtain ⟨h1, h2⟩ := List.mem_filter.1 hm
    obtain ⟨i, hi, e⟩ := List.mem_iff_getElem.1 h1
    simp only [List.length_zip] at hi
    rw [List.getElem_zip] at e
    obtain ⟨e1, e2⟩ := Prod.mk.inj e
    refine ⟨i, by omega, by rw [e1], ?_⟩
    unfold On
    rw [List.getElem?_eq_getElem (by omega), e2]
    simpa using h2
  · rintro ⟨i, hi, rfl, hon⟩
    have hl := hon.lt
    unfold On at hon
    rw [List.getElem?_eq_getElem hl] at hon
    refine ⟨(S[i], m[i]), List.mem_filter.2 ⟨?_, by simpa using hon⟩, rfl⟩
    exact List.mem_iff_getElem.2 ⟨i, by simp; omega, by rw [List.getElem_zip]⟩
theorem on_marks0 (S : St) (l : List T) (i : Nat) : On (marks0 S l) i ↔ ∃ hi : i < S.length, S[i].1 ∈ l := by
  unfold On marks0
  rw [List.getElem?_map]
  by_cases hi : i < S.length
  · rw [List.getElem?_eq_getElem hi]
    simp [hi]
  · rw [List.getElem?_eq_none (by omega)]
    simp [hi]
theorem on_marks {S : St} (hS : Rising S) (l : List T) (i : Nat) : On (marks S l) i ↔ ∃ hi : i < S.length, Reach S l S[i].1 := by
  unfold marks
  rw [rounds_reach (kidI S) S.length (marks0 S l) (marks0_len S l) (fun i k h => kidI_lt S i k h)]
  constructor
  · intro h
    induction h with
    | here h =>
      obtain ⟨hi, hm⟩ := (on_marks0 S l _).1 h
      exact ⟨hi, .here hm (List.mem_map.2 ⟨_, List.getElem_mem hi, rfl⟩)⟩
    | @step i k _ hk ih =>
      obtain ⟨hi, hr⟩ := ih
      rw [kidI_at S i hi] at hk
      obtain ⟨x, hx, hxi⟩ := List.mem_filterMap.1 hk
      obtain ⟨hk', e⟩ := idx_some hxi
      refine ⟨hk', .step hr (look_at hS i hi) (by rw [e]; exact hx) (List.mem_map.2 ⟨_, List.getElem_mem hk', rfl⟩)⟩
  · rintro ⟨hi, h⟩
    have key : ∀ x, Reach S l x → ∀ j, idx S x = some j → Rch (kidI S) (On (marks0 S l)) j := by
      intro x h
      induction h with
      | @here x h1 h2 =>
        intro j hj
        obtain ⟨hl, e⟩ := idx_some hj
        exact .here ((on_marks0 S l j).2 ⟨hl, by rw [e]; exact h1⟩)
      | @step x t k h1 h2 h3 h4 ih =>
        intro j hj
        obtain ⟨a, ha⟩ := idx_of_key h1.key
        obtain ⟨hal, e⟩ := idx_some ha
        have e2 := look_at hS a hal
        rw [e, h2] at e2
        refine .step (ih a ha) ?_
        rw [kidI_at S a hal, ← Option.some.inj e2]
        exact List.mem_filterMap.2 ⟨k, h3, hj⟩
    exact key _ h i (idx_at hS i hi)
theorem reachL_mem {S : St} (hS : Rising S) (l : List T) (x : T) : x ∈ reachL S l ↔ Reach S l x := by
  unfold reachL
  rw [pick_mem S _ (marks_len S l)]
  constructor
  · rintro ⟨i, hi, rfl, hon⟩
    exact ((on_marks hS l i).1 hon).2
  · intro h
    obtain ⟨i, hi⟩ := idx_of_key h.key
    obtain ⟨hl, e⟩ := idx_some hi
    exact ⟨i, hl, e, (on_marks hS l i).2 ⟨hl, by rw [e]; exact h⟩⟩
theorem reachL_rise {S : St} (hS : Rising S) (l : List T) : (reachL S l).Pairwise (· < ·) := (keys_rise hS).sublist (pick_sub S _ (marks_len S l))
def keepL (S : St) (l : List T) : St := S.filter fun a => decide (a.1 ∈ reachL S l)
theorem keepL_rising {S : St} (hS : Rising S) (l : List T) : Rising (keepL S l) := List.Pairwise.sublist List.filter_sublist hS
theorem keepL_sub (S : St) (l : List T) {p : T × T} (h : p ∈ keepL S l) : p ∈ S := (List.mem_filter.1 h).1
theorem keepL_keys {S : St} (hS : Rising S) (l : List T) : keys (keepL S l) = reachL S l := by
  refine rise_unique (keys_rise (keepL_rising hS l)) (reachL_rise hS l) fun x => ?_
  unfold keys keepL
  rw [List.mem_map]
  constructor
  · rintro ⟨a, ha, rfl⟩
    simpa using (List.mem_filter.1 ha).2
  · intro h
    obtain ⟨a, ha, rfl⟩ := List.mem_map.1 ((reachL_mem hS l x).1 h).key
    exact ⟨a, List.mem_filter.2 ⟨ha, by simpa using h⟩, rfl⟩
theorem look_keepL {S : St} (hS : Rising S) (l : List T) (x : T) : look (keepL S l) x = if x ∈ reachL S l then look S x else none := by
  by_cases h : x ∈ reachL S l
  · rw [if_pos h]
    have hk := h
    rw [← keepL_keys hS l] at hk
    obtain ⟨t, ht⟩ := Option.isSome_iff_exists.1 ((look_isSome _ _).2 hk)
    rw [ht]
    exact ((look_mem hS x t).2 (keepL_sub S l ((look_mem (keepL_rising hS l) x t).1 ht))).symm
  · rw [if_neg h, look_none, keepL_keys hS l]
    exact h
/-- What has been reached so far (V), what is still to be looked at (O). -/
structure Work (S : St) (l V O : List T) : Prop where
  nd : V.Nodup
  sub : ∀ x ∈ V, Reach S l x
  opn : ∀ x ∈ O, x ∈ keys S → Reach S l x
  start : ∀ x ∈ l, x ∈ keys S → x ∈ V ∨ x ∈ O
  kids : ∀ x ∈ V, ∀ t, look S x = some t → ∀ k ∈ kidsT t, k ∈ keys S → k ∈ V ∨ k ∈ O
theorem Work.begin (S : St) (l : List T) : Work S l [] l :=
  ⟨List.nodup_nil, fun x h => (by cases h), fun x h hk => .here h hk, fun x h _ => Or.inr h, fun x h => (by cases h)⟩
theorem Work.skip {S : St} {l V O : List T} {x : T} (h : Work S l V (O ++ [x])) (hx : x ∈ V ∨ x ∉ keys S) : Work S l V O := by
  refine ⟨h.nd, h.sub, fun y hy => h.opn y (List.mem_append_left _ hy), fun y hy hk => ?_, fun y hy t ht k hk hkk => ?_⟩
  · rcases h.start y hy hk with h1 | h1
    · exact Or.inl h1
    · rcases List.mem_append.1 h1 with h1 | h1
      · exact Or.inr h1
      · obtain rfl : y = x := by simpa using h1
        exact Or.inl (hx.resolve_right (fun q => q hk))
  · rcases h.kids y hy t ht k hk hkk with h1 | h1
    · exact Or.inl h1
    · rcases List.mem_append.1 h1 with h1 | h1
      · exact Or.inr h1
      · obtain rfl : k = x := by simpa using h1
        exact Or.inl (hx.resolve_right (fun q => q hkk))
theorem Work.take {S : St} {l V O : List T} {x t : T} (h : Work S l V (O ++ [x])) (hx : x ∉ V) (ht : look S x = some t) : Work S l (V ++ [x]) (O ++ kidsT t) := by
  have hkx : x ∈ keys S := (look_isSome S x).1 (by rw [ht]; rfl)
  have hr : Reach S l x := h.opn x (by simp) hkx
  refine ⟨?_, ?_, ?_, ?_, ?_⟩
  · rw [List.nodup_append]
    exact ⟨h.nd, by simp, fun a ha b hb e => hx (by obtain rfl : b = x := (by simpa using hb); rw [← e]; exact ha)⟩
  · intro y hy
    rcases List.mem_append.1 hy with hy | hy
    · exact h.sub y hy
    · obtain rfl : y = x := by simpa using hy
      exact hr
  · intro y hy hk
    rcases List.mem_append.1 hy with hy | hy
    · exact h.opn y (List.mem_append_left _ hy) hk
    · exact .step hr ht hy hk
  · intro y hy hk
    rcases h.start y hy hk with h1 | h1
    · exact Or.inl (List.mem_append_left _ h1)
    · rcases List.mem_append.1 h1 with h1 | h1
      · exact Or.inr (List.mem_append_left _ h1)
      · exact Or.inl (List.mem_append_right _ h1)
  · intro y hy u hu k hk hkk
    rcases List.mem_append.1 hy with hy | hy
    · rcases h.kids y hy u hu k hk hkk with h1 | h1
      · exact Or.inl (List.mem_append_left _ h1)
      · rcases List.mem_append.1 h1 with h1 | h1
        · exact Or.inr (List.mem_append_left _ h1)
        · exact Or.inl (List.mem_append_right _ h1)
    · obtain rfl : y = x := by simpa using hy
      rw [ht] at hu
      obtain rfl := Option.some.inj hu
      exact Or.inr (List.mem_append_right _ hk)
theorem Work.done {S : St} {l V : List T} (h : Work S l V []) (x : T) : x ∈ V ↔ Reach S l x := by
  constructor
  · exact h.sub x
  · intro hr
    induction hr with
    | here h1 h2 => exact (h.start _ h1 h2).resolve_right (by simp)
    | step h1 h2 h3 h4 ih => exact (h.kids _ ih _ h2 _ h3 h4).resolve_right (by simp)
theorem le_of_sub {α : Type} [BEq α] [LawfulBEq α] : ∀ {l M : List α}, l.Nodup → (∀ x ∈ l, x ∈ M) → l.length ≤ M.length
  | [], _, _, _ => Nat.zero_le _
  | a :: r, M, hn, hs => by
    obtain ⟨h1, h2⟩ := List.nodup_cons.1 hn
    have ha := hs a (List.mem_cons_self ..)
    have := le_of_sub (M := M.erase a) h2 fun x hx => (List.mem_erase_of_ne (fun e => h1 (by rw [← e]; exact hx))).2 (hs x (List.mem_cons_of_mem _ hx))
    rw [List.length_erase_of_mem ha] at this
    have hpos : 0 < M.length := List.length_pos_of_mem ha
    simp only [List.length_cons]
    omega
theorem Work.len {S : St} {l V O : List T} (h : Work S l V O) : V.length ≤ S.length := by
  have := le_of_sub (M := keys S) h.nd fun x hx => (h.sub x hx).key
  simpa [keys] using this
theorem kidsT_len (t : T) : (kidsT t).length ≤ 16 := by
  have h16 : (Nd.dec t).1.kids.length = 16 := by
    rcases Nd.dec_is t with ⟨_, _, h, _⟩ | ⟨_, h, _⟩
    · exact h
    · rw [h]; rfl
  unfold kidsT Nd.kidsL
  exact Nat.le_trans (List.length_filter_le _ _) (Nat.le_of_eq h16)
end Go.Proofs.YtjfefphgikncnaaGreatDoor.Sto
namespace Go.Proofs.YtjfefphgikncnaaGreatDoor
open Go.RowKit Go.MapKept
open Go.ChangeMaps (setBlock heap_setBlock_same heap_setBlock_other)
open Go.Maps (Keyed)

/-- How keys and elements lie in the map: the key's value and its law, the element's value. -/
structure MapLaw (P : Program) (k : TypeId) (κ α : Type) where
  enc : κ → Value
  val : α → Value
  ok : κ → Prop
  keyed : Keyed P k
  key : ∀ s, ok s → ∃ l, keyOf P k (enc s) = some l
  inj : ∀ a b, enc a = enc b → a = b

variable {P : Program} {k t e : TypeId} {κ α : Type}

/-- f, but o at s. -/
def updF [DecidableEq κ] (f : κ → Option α) (s : κ) (o : Option α) : κ → Option α := fun x => if x = s then o else f x
theorem updF_same [DecidableEq κ] (f : κ → Option α) (s : κ) (o : Option α) : updF f s o s = o := if_pos rfl
theorem updF_other [DecidableEq κ] (f : κ → Option α) (s x : κ) (o : Option α) (h : x ≠ s) : updF f s o x = f x := if_neg h
/-- Block b is a map that has f's elements at f's keys, and no other. -/
def FnAt (M : MapLaw P k κ α) (w : World) (b : Nat) (f : κ → Option α) : Prop :=
  ∃ es clock, w.heap[b]? = some (.map es clock) ∧ (∀ x ∈ es.toList, ∃ s a, x.key = M.enc s ∧ x.val = M.val a ∧ M.ok s ∧ f s = some a) ∧ (∀ s a, f s = some a → ∃ x ∈ es.toList, x.key = M.enc s) ∧ Stamped es clock

theorem FnAt.lt {M : MapLaw P k κ α} {w : World} {b : Nat} {f : κ → Option α} (h : FnAt M w b f) : b < w.heap.size := by
  obtain ⟨_, _, h1, _⟩ := h; exact lt_of_heap h1
theorem FnAt.no_cells {M : MapLaw P k κ α} {w : World} {b : Nat} {f : κ → Option α} (h : FnAt M w b f) (j : Nat) (cs : Array Value) (t : TypeId) (fr : Nat × Nat) (hk : j = b) : w.heap[j]? ≠ some (.cells cs t fr) := by
  subst hk
  obtain ⟨es, c, he, _⟩ := h
  rw [he]; simp
theorem FnAt.made (M : MapLaw P k κ α) (w : World) (b : Nat) (h : b = w.heap.size) : FnAt M (w.alloc (.map #[] 0)) b (fun _ => none) :=
  ⟨#[], 0, heap_new_at w _ _ h, fun x hx => by simp at hx, fun s a h => by simp at h, stamped_empty 0⟩
theorem FnAt.out {M : MapLaw P k κ α} {F : Nat → Prop} {w w' : World} {b : Nat} {f : κ → Option α} (h : FnAt M w b f) (ho : Out F w w') (hF : ¬ F b) : FnAt M w' b f := by
  obtain ⟨es, clock, h1, h2⟩ := h
  exact ⟨es, clock, ho.heap h1 hF, h2⟩
theorem FnAt.below {M : MapLaw P k κ α} {w w' : World} {b : Nat} {f : κ → Option α} (h : FnAt M w b f) (ho : Below w.heap.size w w') : FnAt M w' b f := h.out (F := fun _ => False) (Out.of ho) id
theorem FnAt.drew {M : MapLaw P k κ α} {w : World} {b : Nat} {f : κ → Option α} (h : FnAt M w b f) : FnAt M w.drew b f := h
theorem FnAt.congr {M : MapLaw P k κ α} {w : World} {b : Nat} {f g : κ → Option α} (h : FnAt M w b f) (e : ∀ s, f s = g s) : FnAt M w b g := by
  obtain rfl : f = g := funext e
  exact h

theorem FnAt.keys {M : MapLaw P k κ α} {es : Array MapEntry} {f : κ → Option α} (h2 : ∀ x ∈ es.toList, ∃ s a, x.key = M.enc s ∧ x.val = M.val a ∧ M.ok s ∧ f s = some a) : ∀ x ∈ es.toList, ∃ l, keyOf P k x.key = some l := by
  intro x hx
  obtain ⟨s, a, e1, _, ho, _⟩ := h2 x hx
  rw [e1]; exact M.key s ho

theorem FnAt.look {M : MapLaw P k κ α} {w : World} {b : Nat} {f : κ → Option α} (h : FnAt M w b f) (ht : P.underlying t = some (.map k e)) {s : κ} (hs : M.ok s) (c : Bool) {z : Value} (hz : (zeroValue e).run P w = .ok z w) :
    (Instr.lookup t (.map (some b)) (M.enc s) c).run P w = .ok (if c then .tuple #[((f s).map M.val).getD z, .bool (f s).isSome] else ((f s).map M.val).getD z) w := by
  obtain ⟨es, clock, hb, h2, h3, h4⟩ := h
  obtain ⟨kl, hkey⟩ := M.key s hs
  rcases M.keyed.find w hkey es.toList (FnAt.keys h2) with ⟨h5, h6⟩ | ⟨j, e0, h5, h6, h7⟩
  · have hn : f s = none := by
      cases hf : f s with
      | none => rfl
      | some a =>
        obtain ⟨x, hx, hxe⟩ := h3 s a hf
        exact absurd hxe (h6 x hx)
    rw [hn]
    simp [Instr.lookup, run_underlying ht, MapKept.run_getObj_map hb, M.keyed.check w _ hkey, h5, hz, Result.andThen]
  · obtain ⟨s', a, e1, e2, ho, hf⟩ := h2 e0 (List.mem_of_getElem? h6)
    obtain rfl : s' = s := M.inj _ _ (e1.symm.trans h7)
    rw [hf]
    simp [Instr.lookup, run_underlying ht, MapKept.run_getObj_map hb, M.keyed.check w _ hkey, h5, e2, Result.andThen]

theorem FnAt.put [DecidableEq κ] {M : MapLaw P k κ α} {w : World} {b : Nat} {f : κ → Option α} (h : FnAt M w b f) (ht : P.underlying t = some (.map k e)) {s : κ} (hs : M.ok s) (a : α) :
    ∃ w', (Instr.mapUpdate t (.map (some b)) (M.enc s) (M.val a)).run P w = .ok () w' ∧ FnAt M w' b (updF f s (some a)) ∧ Out (fun i => i = b) w w' ∧ w'.heap.size = w.heap.size := by
  obtain ⟨es, clock, hb, h2, h3, h4⟩ := h
  obtain ⟨kl, hkey⟩ := M.key s hs
  rcases M.keyed.find w hkey es.toList (FnAt.keys h2) with ⟨h5, h6⟩ | ⟨j, e0, h5, h6, h7⟩
  · refine ⟨setBlock w b (.map (es.push ⟨M.enc s, M.val a, clock⟩) (clock + 1)), ?_, ⟨_, _, heap_setBlock_same hb _, ?_, ?_, ?_⟩, ⟨rfl, rfl, rfl, by simp [setBlock], fun i _ hi => heap_setBlock_other hb _ hi⟩, by simp [setBlock]⟩
    · simp [Instr.mapUpdate, run_underlying ht, MapKept.run_getObj_map hb, M.keyed.check w false hkey, h5, MapKept.run_setObj_map _ hb, Result.andThen, setBlock]
    · intro x hx
      simp only [Array.toList_push, List.mem_append, List.mem_singleton] at hx
      rcases hx with hx | rfl
      · obtain ⟨s', a', e1, e2, ho, hf⟩ := h2 x hx
        have hne : s' ≠ s := fun e => h6 x hx (by rw [e1, e])
        exact ⟨s', a', e1, e2, ho, by rw [updF_other _ _ _ _ hne]; exact hf⟩
      · exact ⟨s, a, rfl, rfl, hs, updF_same _ _ _⟩
    · intro s' a' hf
      simp only [Array.toList_push, List.mem_append, List.mem_singleton]
      by_cases hne : s' = s
      · exact ⟨_, Or.inr rfl, by rw [hne]⟩
      · rw [updF_other _ _ _ _ hne] at hf
        obtain ⟨x, hx, hxe⟩ := h3 s' a' hf
        exact ⟨x, Or.inl hx, hxe⟩
    · exact stamped_push h4 h6
  · have hjl : j < es.toList.length := (List.getElem?_eq_some_iff.1 h6).1
    have hjs : j < es.size := by simpa using hjl
    have he0 : es.toList[j] = e0 := (List.getElem?_eq_some_iff.1 h6).2
    have hj' : es[j]? = some e0 := by rw [← Array.getElem?_toList]; exact h6
    have hml : (es.modify j fun x => { x with key := M.enc s, val := M.val a }).toList = es.toList.set j { e0 with key := M.enc s, val := M.val a } := by
      apply List.ext_getElem?
      intro i
      rw [Array.getElem?_toList, Array.getElem?_modify, List.getElem?_set]
      by_cases hi : j = i
      · subst hi
        have hb0 : es[j].born = e0.born := by rw [← he0]; simp
        simp [hjs, hb0]
      · simp [hi]
    obtain ⟨s0, a0, q1, q2, q3, q4⟩ := h2 e0 (List.mem_of_getElem? h6)
    obtain rfl : s0 = s := M.inj _ _ (q1.symm.trans h7)
    have hkeys : (es.toList.set j { e0 with key := M.enc s0, val := M.val a }).map (·.key) = es.toList.map (·.key) := by
      rw [List.map_set]
      apply List.ext_getElem?
      intro i
      rw [List.getElem?_set]
      by_cases hi : j = i
      · subst hi
        have hk0 : M.enc s0 = es[j].key := by rw [← h7, ← he0]; simp
        simp [hjs, hk0]
      · simp [hi]
    refine ⟨setBlock w b (.map (es.modify j fun x => { x with key := M.enc s0, val := M.val a }) clock), ?_, ⟨_, _, heap_setBlock_same hb _, ?_, ?_, ?_⟩, ⟨rfl, rfl, rfl, by simp [setBlock], fun i _ hi => heap_setBlock_other hb _ hi⟩, by simp [setBlock]⟩
    · simp [Instr.mapUpdate, run_underlying ht, MapKept.run_getObj_map hb, M.keyed.check w false hkey, h5, hj', h7, M.keyed.stays w hkey, MapKept.run_setObj_map _ hb, Result.andThen, setBlock]
    · rw [hml]
      intro x hx
      rcases List.mem_or_eq_of_mem_set hx with hx' | rfl
      · obtain ⟨s', a', e1, e2, ho, hf⟩ := h2 x hx'
        by_cases hne : s' = s0
        · subst hne
          obtain ⟨i, hi, rfl⟩ := List.mem_iff_getElem.1 hx
          have hil : i < es.toList.length := by simpa using hi
          have hkk := congrArg (fun l => l[i]?) hkeys
          simp only [List.getElem?_map] at hkk
          rw [List.getElem?_eq_getElem hi, List.getElem?_eq_getElem hil] at hkk
          have hkk' : (es.toList[i]).key = M.enc s' := by simpa [e1] using hkk.symm
          have hij : i = j := by
            have hn := List.pairwise_iff_getElem.1 h4.2.2
            have lm : (es.toList.map (·.key)).length = es.toList.length := by simp
            rcases Nat.lt_trichotomy i j with hlt | rfl | hlt
            · have := hn i j (by omega) (by omega) hlt
              rw [List.getElem_map, List.getElem_map, hkk', he0, h7] at this
              exact absurd rfl this
            · rfl
            · have := hn j i (by omega) (by omega) hlt
              rw [List.getElem_map, List.getElem_map, hkk', he0, h7] at this
              exact absurd rfl this
          subst hij
          refine ⟨s', a, e1, ?_, ho, updF_same _ _ _⟩
          simp
        · exact ⟨s', a', e1, e2, ho, by rw [updF_other _ _ _ _ hne]; exact hf⟩
      · exact ⟨s0, a, rfl, rfl, hs, updF_same _ _ _⟩
    · rw [hml]
      intro s' a' hf
      by_cases hne : s' = s0
      · subst hne
        exact ⟨_, List.mem_iff_getElem.2 ⟨j, by simpa using hjs, List.getElem_set_self _⟩, rfl⟩
      · rw [updF_other _ _ _ _ hne] at hf
        obtain ⟨x, hx, hxe⟩ := h3 s' a' hf
        obtain ⟨i, hi, rfl⟩ := List.mem_iff_getElem.1 hx
        have hij : j ≠ i := by
          rintro rfl
          rw [he0, h7] at hxe
          exact hne (M.inj _ _ hxe.symm)
        exact ⟨_, List.mem_iff_getElem.2 ⟨i, by simpa using hi, rfl⟩, by rw [List.getElem_set_ne hij]; exact hxe⟩
    · exact stamped_modify h4 j _ (fun e _ => rfl) (fun e _ he => by rw [hj'] at he; cases he; exact h7.symm)

theorem FnAt.drop [DecidableEq κ] {M : MapLaw P k κ α} {w : World} {b : Nat} {f : κ → Option α} (h : FnAt M w b f) (ht : P.underlying t = some (.map k e)) {s : κ} (hs : M.ok s) :
    ∃ w', (∀ ty, (Builtin.delete_ #[t, k] ty #[.map (some b), M.enc s]).run P w = .ok (.tuple #[]) w') ∧ FnAt M w' b (updF f s none) ∧ Out (fun i => i = b) w w' ∧ w'.heap.size = w.heap.size := by
  obtain ⟨es, clock, hb, h2, h3, h4⟩ := h
  obtain ⟨kl, hkey⟩ := M.key s hs
  rcases M.keyed.find w hkey es.toList (FnAt.keys h2) with ⟨h5, h6⟩ | ⟨j, e0, h5, h6, h7⟩
  · refine ⟨setBlock w b (.map es clock), ?_, ⟨_, _, heap_setBlock_same hb _, ?_, ?_, h4⟩, ⟨rfl, rfl, rfl, by simp [setBlock], fun i _ hi => heap_setBlock_other hb _ hi⟩, by simp [setBlock]⟩
    · intro ty
      simp [Builtin.delete_, run_underlying ht, MapKept.run_getObj_map hb, M.keyed.check w _ hkey, h5, MapKept.run_setObj_map _ hb, Result.andThen, setBlock]
    · intro x hx
      obtain ⟨s', a', e1, e2, ho, hf⟩ := h2 x hx
      have hne : s' ≠ s := fun e => h6 x hx (by rw [e1, e])
      exact ⟨s', a', e1, e2, ho, by rw [updF_other _ _ _ _ hne]; exact hf⟩
    · intro s' a' hf
      by_cases hne : s' = s
      · rw [hne, updF_same] at hf; cases hf
      · rw [updF_other _ _ _ _ hne] at hf; exact h3 s' a' hf
  · have hjl : j < es.toList.length := (List.getElem?_eq_some_iff.1 h6).1
    have hjs : j < es.size := by simpa using hjl
    have he0 : es.toList[j] = e0 := (List.getElem?_eq_some_iff.1 h6).2
    have hsub : (es.eraseIdxIfInBounds j).toList = es.toList.eraseIdx j := by
      unfold Array.eraseIdxIfInBounds
      rw [dif_pos hjs]
      simp
    have hn := List.pairwise_iff_getElem.1 h4.2.2
    have lm : (es.toList.map (·.key)).length = es.toList.length := by simp
    have hother : ∀ i (hi : i < es.toList.length), i ≠ j → (es.toList[i]).key ≠ M.enc s := by
      intro i hi hij e
      rcases Nat.lt_or_gt_of_ne hij with hlt | hlt
      · have := hn i j (by omega) (by omega) hlt
        rw [List.getElem_map, List.getElem_map, e, he0, h7] at this
        exact this rfl
      · have := hn j i (by omega) (by omega) hlt
        rw [List.getElem_map, List.getElem_map, e, he0, h7] at this
        exact this rfl
    refine ⟨setBlock w b (.map (es.eraseIdxIfInBounds j) clock), ?_, ⟨_, _, heap_setBlock_same hb _, ?_, ?_, ?_⟩, ⟨rfl, rfl, rfl, by simp [setBlock], fun i _ hi => heap_setBlock_other hb _ hi⟩, by simp [setBlock]⟩
    · intro ty
      simp [Builtin.delete_, run_underlying ht, MapKept.run_getObj_map hb, M.keyed.check w _ hkey, h5, MapKept.run_setObj_map _ hb, Result.andThen, setBlock]
    · rw [hsub]
      intro x hx
      obtain ⟨i, hij, hi⟩ := List.mem_eraseIdx_iff_getElem?.1 hx
      obtain ⟨hil, hie⟩ := List.getElem?_eq_some_iff.1 hi
      obtain ⟨s', a', e1, e2, ho, hf⟩ := h2 x (List.mem_of_getElem? hi)
      have hne : s' ≠ s := fun e => hother i hil hij (by rw [hie, e1, e])
      exact ⟨s', a', e1, e2, ho, by rw [updF_other _ _ _ _ hne]; exact hf⟩
    · rw [hsub]
      intro s' a' hf
      by_cases hne : s' = s
      · rw [hne, updF_same] at hf; cases hf
      · rw [updF_other _ _ _ _ hne] at hf
        obtain ⟨x, hx, hxe⟩ := h3 s' a' hf
        obtain ⟨i, hi, rfl⟩ := List.mem_iff_getElem.1 hx
        have hij : i ≠ j := by
          rintro rfl
          rw [he0, h7] at hxe
          exact hne (M.inj _ _ hxe.symm)
        exact ⟨_, List.mem_eraseIdx_iff_getElem?.2 ⟨i, hij, List.getElem?_eq_getElem hi⟩, hxe⟩
    · exact stamped_erase h4 j

/-- 'delete(m, k)', by an equation of the run. -/
theorem wpList_delete_run {w w' : World} {ops : Array Oper} {rest : List Oper} {o : Oper} {a : Act} {Q : Exit → Act → World → Prop} (hg : o.guard = none) (m x : Operand) (t k : TypeId) (hop : o.op = Op.call { callee := Callee.builtin Builtin.delete, args := #[m, x], argTypes := #[t, k] })
    (mv xv : Value) (hm : a.eval m = mv) (hx : a.eval x = xv) (hrun : ∀ ty, (Builtin.delete_ #[t, k] ty #[mv, xv]).run P w = .ok (.tuple #[]) w') (hK : wpList P ops Q rest (a.put o.dst (.tuple #[])) w') :
    wpList P ops Q (o :: rest) a w := by
  refine wpList_plain hg fun K' hK' => ?_
  unfold Oper.wp
  simp [execOp, hop, resolve, invoke, builtin, hm, hx, hrun, Result.andThen]
  exact hK' _ _ hK

end Go.Proofs.YtjfefphgikncnaaGreatDoor
namespace Go.Proofs.YtjfefphgikncnaaGreatDoor
open Go.RowKit Go.MapKept
open Go.ChangeMaps (setBlock heap_setBlock_same heap_setBlock_other)
open Go.Maps (Keyed)
variable {P : Program} {k t e : TypeId} {κ α : Type}

/-- The map in block b is ranged over by the iterator in block r; the keys in 'done' have come; cnt are still to come. -/
def FnRange (M : MapLaw P k κ α) (w : World) (b r : Nat) (f : κ → Option α) (done : List κ) (cnt : Nat) : Prop :=
  ∃ es clock since seen c0, w.heap[b]? = some (.map es clock) ∧ (∀ x ∈ es.toList, ∃ s a, x.key = M.enc s ∧ x.val = M.val a ∧ M.ok s ∧ f s = some a) ∧ (∀ s a, f s = some a → ∃ x ∈ es.toList, x.key = M.enc s) ∧ Stamped es clock ∧
    w.heap[r]? = some (.mapIter (some b) since seen c0) ∧ (∀ x ∈ es.toList, x.born < since) ∧ since ≤ c0 ∧ since ≤ clock ∧ (leftOf es seen).size = cnt ∧ done.Nodup ∧ (∀ x ∈ es.toList, seen.contains x.born = true ↔ ∃ s ∈ done, x.key = M.enc s) ∧ ∀ s ∈ done, f s ≠ none

theorem FnRange.map {M : MapLaw P k κ α} {w : World} {b r : Nat} {f : κ → Option α} {done : List κ} {cnt : Nat} (h : FnRange M w b r f done cnt) : FnAt M w b f := by
  obtain ⟨es, clock, _, _, _, hb, h2, h3, h4, _⟩ := h
  exact ⟨es, clock, hb, h2, h3, h4⟩
theorem FnRange.left_eq {M : MapLaw P k κ α} {w : World} {b r : Nat} {f : κ → Option α} {done : List κ} {cnt : Nat} (h : FnRange M w b r f done cnt) : w.rangeLeft b r = cnt := by
  obtain ⟨es, clock, since, seen, c0, hb, _, _, _, hr, _, _, _, hc, _⟩ := h
  simp only [World.rangeLeft, hb, hr]
  exact hc
theorem FnRange.lt {M : MapLaw P k κ α} {w : World} {b r : Nat} {f : κ → Option α} {done : List κ} {cnt : Nat} (h : FnRange M w b r f done cnt) : r < w.heap.size := by
  obtain ⟨es, clock, since, seen, c0, hb, _, _, _, hr, _⟩ := h
  exact lt_of_heap hr
theorem FnRange.ne {M : MapLaw P k κ α} {w : World} {b r : Nat} {f : κ → Option α} {done : List κ} {cnt : Nat} (h : FnRange M w b r f done cnt) : r ≠ b := by
  obtain ⟨es, clock, since, seen, c0, hb, _, _, _, hr, _⟩ := h
  rintro rfl
  rw [hb] at hr; cases hr
theorem FnRange.no_cells {M : MapLaw P k κ α} {w : World} {b r : Nat} {f : κ → Option α} {done : List κ} {cnt : Nat} (h : FnRange M w b r f done cnt) (j : Nat) (cs : Array Value) (t : TypeId) (fr : Nat × Nat) (hk : j = r) : w.heap[j]? ≠ some (.cells cs t fr) := by
  subst hk
  obtain ⟨es, clock, since, seen, c0, hb, _, _, _, hr, _⟩ := h
  rw [hr]; simp
theorem FnRange.out {M : MapLaw P k κ α} {F : Nat → Prop} {w w' : World} {b r : Nat} {f : κ → Option α} {done : List κ} {cnt : Nat} (h : FnRange M w b r f done cnt) (ho : Out F w w') (hb : ¬ F b) (hr : ¬ F r) : FnRange M w' b r f done cnt := by
  obtain ⟨es, clock, since, seen, c0, h1, h2, h3, h4, h5, h6⟩ := h
  exact ⟨es, clock, since, seen, c0, ho.heap h1 hb, h2, h3, h4, ho.heap h5 hr, h6⟩
theorem FnRange.below {M : MapLaw P k κ α} {w w' : World} {b r : Nat} {f : κ → Option α} {done : List κ} {cnt : Nat} (h : FnRange M w b r f done cnt) (ho : Below w.heap.size w w') : FnRange M w' b r f done cnt := h.out (F := fun _ => False) (Out.of ho) id id

theorem FnAt.range {M : MapLaw P k κ α} {w : World} {b : Nat} {f : κ → Option α} (h : FnAt M w b f) (ht : P.underlying t = some (.map k e)) :
    ∃ w' cnt, (Instr.range t (.map (some b))).run P w = .ok (.pointer (some ⟨w.heap.size, 0, none⟩)) w' ∧ FnRange M w' b w.heap.size f [] cnt ∧ Below w.heap.size w w' ∧ w'.heap.size = w.heap.size + 1 := by
  obtain ⟨es, clock, hb, h2, h3, h4⟩ := h
  refine ⟨_, _, run_range_map w t k e b es clock ht hb, ⟨es, clock, clock, #[], clock, heap_old_at _ hb, h2, h3, h4, heap_new_at w _ _ rfl, h4.1, Nat.le_refl _, Nat.le_refl _, rfl, List.nodup_nil, fun x _ => by simp, fun s hs => by cases hs⟩, (Below.refl _ w).alloc (Nat.le_refl _) _, by simp⟩

theorem FnRange.next {M : MapLaw P k κ α} {w : World} {b r : Nat} {f : κ → Option α} {done : List κ} {cnt : Nat} (h : FnRange M w b r f done cnt) (ty : TypeId) :
    ((∀ s, f s ≠ none → s ∈ done) ∧ (Instr.next (.pointer (some ⟨r, 0, none⟩)) false ty).run P w = .ok (.tuple #[.bool false]) w) ∨
    ∃ s a w' cnt', f s = some a ∧ M.ok s ∧ s ∉ done ∧ (Instr.next (.pointer (some ⟨r, 0, none⟩)) false ty).run P w = .ok (.tuple #[.bool true, M.enc s, M.val a]) w' ∧ FnRange M w' b r f (done ++ [s]) cnt' ∧ cnt' < cnt ∧
      Out (fun i => i = r) w w' ∧ w'.heap.size = w.heap.size ∧ (Instr.entry (.pointer (some ⟨r, 0, none⟩))).run P w' = .ok (.tuple #[M.enc s, M.val a]) w' := by
  have hne := h.ne
  obtain ⟨es, clock, since, seen, c0, hb, h2, h3, h4, hr, hold, hsc, hsk, rfl, hnd, hseen, hdone⟩ := h
  rcases run_next_at (P := P) w ty r b since c0 seen es clock hr hb hold hsc with ⟨h0, hrun⟩ | ⟨x, hx, w1, hal, hrun⟩
  · refine Or.inl ⟨fun s hs => ?_, hrun⟩
    cases hf : f s with
    | none => exact absurd hf hs
    | some a =>
      obtain ⟨x, hx, hxe⟩ := h3 s a hf
      obtain ⟨s', hs', e⟩ := (hseen x hx).1 (all_seen es seen h0 x hx)
      rw [M.inj _ _ (hxe.symm.trans e)]; exact hs'
  · obtain ⟨hxm, hxs⟩ := mem_left hx
    obtain ⟨s, a, e1, e2, hok, hf⟩ := h2 x hxm
    have hr1 : w1.heap[r]? = some (.mapIter (some b) since seen c0) := by rcases hal with rfl | rfl <;> exact hr
    have hb1 : w1.heap[b]? = some (.map es clock) := by rcases hal with rfl | rfl <;> exact hb
    have hset := heap_set (o' := .mapIter (some b) since (seen.push x.born) clock) hr1
    have hb' : (setBlock w1 r (.mapIter (some b) since (seen.push x.born) clock)).heap[b]? = some (.map es clock) := (hset.2 b (fun e1 => hne e1.symm)).trans hb1
    have hnot : s ∉ done := fun hs => by
      have := (hseen x hxm).2 ⟨s, hs, e1⟩
      rw [hxs] at this; cases this
    rw [e1, e2] at hrun
    have hent := run_entry_at (P := P) (setBlock w1 r (.mapIter (some b) since (seen.push x.born) clock)) r b since seen es clock x hset.1 hb' hxm h4.2.1
    rw [e1, e2] at hent
    refine Or.inr ⟨s, a, _, _, hf, hok, hnot, hrun, ⟨es, clock, since, seen.push x.born, clock, hb', h2, h3, h4, hset.1, hold, hsk, hsk, rfl, ?_, ?_, ?_⟩, left_shrinks es seen x hx, ?_, ?_, hent⟩
    · rw [List.nodup_append]
      exact ⟨hnd, by simp, fun y hy z hz e => hnot (by simp at hz; rw [← hz, ← e]; exact hy)⟩
    · intro y hy
      rw [contains_push]
      constructor
      · intro hc
        simp only [Bool.or_eq_true, beq_iff_eq] at hc
        rcases hc with hc | hc
        · obtain ⟨s', hs', e⟩ := (hseen y hy).1 hc
          exact ⟨s', List.mem_append_left _ hs', e⟩
        · obtain rfl := born_inj h4.2.1 hy hxm hc
          exact ⟨s, by simp, e1⟩
      · rintro ⟨s', hs', e⟩
        simp only [Bool.or_eq_true, beq_iff_eq]
        rcases List.mem_append.1 hs' with hs' | hs'
        · exact Or.inl ((hseen y hy).2 ⟨s', hs', e⟩)
        · obtain rfl : s' = s := by simpa using hs'
          refine Or.inr ?_
          obtain rfl := entry_eq_of_key ((stamped_iff es clock).1 h4).2.2 hy hxm (e.trans e1.symm)
          rfl
    · intro s' hs'
      rcases List.mem_append.1 hs' with hs' | hs'
      · exact hdone s' hs'
      · obtain rfl : s' = s := by simpa using hs'
        rw [hf]; simp
    · rcases hal with rfl | rfl <;> exact ⟨rfl, rfl, rfl, by simp [setBlock], fun i _ hi => hset.2 i hi⟩
    · rcases hal with rfl | rfl <;> simp [setBlock]

/-- The keys, in some order: as many as the map is long. -/
theorem FnAt.len {M : MapLaw P k κ α} {w : World} {b : Nat} {f : κ → Option α} (h : FnAt M w b f) (ht : P.underlying t = some (.map k e)) :
    ∃ ks : List κ, ks.Nodup ∧ (∀ s, s ∈ ks ↔ f s ≠ none) ∧ ∀ ty, (Builtin.len_ #[t] ty #[.map (some b)]).run P w = .ok (.int .i64 (ks.length : Nat)) w := by
  obtain ⟨es, clock, hb, h2, h3, h4⟩ := h
  have hex : ∀ l : List MapEntry, (∀ x ∈ l, ∃ s a, x.key = M.enc s ∧ x.val = M.val a ∧ M.ok s ∧ f s = some a) → ∃ ks : List κ, l.map (·.key) = ks.map M.enc ∧ ∀ s ∈ ks, f s ≠ none := by
    intro l
    induction l with
    | nil => exact fun _ => ⟨[], rfl, fun s hs => by cases hs⟩
    | cons x r ih =>
      intro hl
      obtain ⟨ks, e1, e2⟩ := ih fun y hy => hl y (List.mem_cons_of_mem _ hy)
      obtain ⟨s, a, q1, _, _, q2⟩ := hl x (List.mem_cons_self ..)
      refine ⟨s :: ks, by simp [e1, q1], fun s' hs' => ?_⟩
      rcases List.mem_cons.1 hs' with rfl | hs'
      · rw [q2]; simp
      · exact e2 s' hs'
  obtain ⟨ks, e1, e2⟩ := hex es.toList h2
  have hlen : ks.length = es.size := by
    have := congrArg List.length e1
    simpa using this.symm
  refine ⟨ks, ?_, fun s => ⟨e2 s, fun hs => ?_⟩, fun ty => ?_⟩
  · have h5 := h4.2.2
    rw [e1] at h5
    exact List.Pairwise.imp (fun {a b} hab => fun (e : a = b) => hab (by rw [e])) (List.pairwise_map.1 h5)
  · cases hf : f s with
    | none => exact absurd hf hs
    | some a =>
      obtain ⟨x, hx, hxe⟩ := h3 s a hf
      have : x.key ∈ ks.map M.enc := e1 ▸ List.mem_map.2 ⟨x, hx, rfl⟩
      obtain ⟨s', hs', e⟩ := List.mem_map.1 this
      rw [M.inj _ _ (hxe.symm.trans e.symm)]; exact hs'
  · rw [hlen]
    simp [Builtin.len_, run_underlying ht, MapKept.run_getObj_map hb, goInt, Result.andThen]

/-- What a copy has. -/
theorem FnAt.copy {M : MapLaw P k κ α} {w : World} {b : Nat} {f : κ → Option α} (h : FnAt M w b f) : ∃ es clock, w.heap[b]? = some (.map es clock) ∧ FnAt M (w.alloc (.map es clock)) w.heap.size f := by
  obtain ⟨es, clock, hb, h2, h3, h4⟩ := h
  exact ⟨es, clock, hb, es, clock, heap_new_at w _ _ rfl, h2, h3, h4⟩

end Go.Proofs.YtjfefphgikncnaaGreatDoor
namespace Go.Proofs.YtjfefphgikncnaaGreatDoor
open Go.Shelf Go.RowKit
def lays190_ren : Go.Shelf.Ren := ⟨fun | 190 => 164 | 125 => 108 | 258 => 188 | 128 => 147 | 129 => 148 | 302 => 200 | 303 => 201 | 304 => 202 | 305 => 203 | 306 => 204 | 307 => 205 | 308 => 206 | 309 => 207 | 310 => 208 | 333 => 213 | 329 => 177 | 330 => 178 | 334 => 214 | 335 => 215 | 336 => 216 | 344 => 218 | n => n, fun | 31 => 28 | 9 => 9 | 3 => 3 | 46 => 163 | 0 => 0 | 51 => 167 | 53 => 196 | 4 => 4 | 183 => 188 | 182 => 187 | 131 => 131 | 5 => 5 | 218 => 219 | 222 => 223 | 228 => 236 | 229 => 237 | n => n, fun | n => n⟩
theorem lays190 : Go.Proofs.Lays.n190 Tryz.prog lays190_ren := {
  mixed := by kernel_rfl
  f125 := Tryz.func108.trans (congrArg some (by kernel_rfl))
  f128 := Tryz.func147.trans (congrArg some (by kernel_rfl))
  f129 := Tryz.func148.trans (congrArg some (by kernel_rfl))
  f190 := Tryz.func164.trans (congrArg some (by kernel_rfl))
  f258 := Tryz.func188.trans (congrArg some (by kernel_rfl))
  f302 := Tryz.func200.trans (congrArg some (by kernel_rfl))
  f303 := Tryz.func201.trans (congrArg some (by kernel_rfl))
  f304 := Tryz.func202.trans (congrArg some (by kernel_rfl))
  f305 := Tryz.func203.trans (congrArg some (by kernel_rfl))
  f306 := Tryz.func204.trans (congrArg some (by kernel_rfl))
  f307 := Tryz.func205.trans (congrArg some (by kernel_rfl))
  f308 := Tryz.func206.trans (congrArg some (by kernel_rfl))
  f309 := Tryz.func207.trans (congrArg some (by kernel_rfl))
  f310 := Tryz.func208.trans (congrArg some (by kernel_rfl))
  f329 := Tryz.func177.trans (congrArg some (by kernel_rfl))
  f330 := Tryz.func178.trans (congrArg some (by kernel_rfl))
  f333 := Tryz.func213.trans (congrArg some (by kernel_rfl))
  f334 := Tryz.func214.trans (congrArg some (by kernel_rfl))
  f335 := Tryz.func215.trans (congrArg some (by kernel_rfl))
  f336 := Tryz.func216.trans (congrArg some (by kernel_rfl))
  f344 := Tryz.func218.trans (congrArg some (by kernel_rfl))
  t0 := Tryz.underlying0
  a0 := Tryz.isAgg0
  z0 := Tryz.sizeOf0
  v0 := Tryz.zeroValue0
  t3 := Tryz.underlying3
  a3 := Tryz.isAgg3
  z3 := Tryz.sizeOf3
  v3 := Tryz.zeroValue3
  t4 := Tryz.underlying4
  a4 := Tryz.isAgg4
  z4 := Tryz.sizeOf4
  v4 := Tryz.zeroValue4
  t5 := Tryz.underlying5
  a5 := Tryz.isAgg5
  z5 := Tryz.sizeOf5
  v5 := Tryz.zeroValue5
  t9 := Tryz.underlying9
  a9 := Tryz.isAgg9
  z9 := Tryz.sizeOf9
  v9 := Tryz.zeroValue9
  t31 := Tryz.underlying28
  a31 := Tryz.isAgg28
  z31 := Tryz.sizeOf28
  v31 := Tryz.zeroValue28
  t46 := Tryz.underlying163
  a46 := Tryz.isAgg163
  z46 := Tryz.sizeOf163
  v46 := Tryz.zeroValue163
  t51 := Tryz.underlying167
  a51 := Tryz.isAgg167
  z51 := Tryz.sizeOf167
  v51 := Tryz.zeroValue167
  t53 := Tryz.underlying196
  a53 := Tryz.isAgg196
  z53 := Tryz.sizeOf196
  v53 := Tryz.zeroValue196
  t131 := Tryz.underlying131
  a131 := Tryz.isAgg131
  z131 := Tryz.sizeOf131
  v131 := Tryz.zeroValue131
  t182 := Tryz.underlying187
  a182 := Tryz.isAgg187
  z182 := Tryz.sizeOf187
  v182 := Tryz.zeroValue187
  t183 := Tryz.underlying188
  a183 := Tryz.isAgg188
  z183 := Tryz.sizeOf188
  v183 := Tryz.zeroValue188
  t218 := Tryz.underlying219
  a218 := Tryz.isAgg219
  z218 := Tryz.sizeOf219
  v218 := Tryz.zeroValue219
  t222 := Tryz.underlying223
  a222 := Tryz.isAgg223
  z222 := Tryz.sizeOf223
  v222 := Tryz.zeroValue223
  t228 := Tryz.underlying236
  a228 := Tryz.isAgg236
  z228 := Tryz.sizeOf236
  v228 := Tryz.zeroValue236
  t229 := Tryz.underlying237
  a229 := Tryz.isAgg237
  z229 := Tryz.sizeOf237
  v229 := Tryz.zeroValue237 }
open Go.Sort Go.RowKit in
theorem shelf_slices_Sort_string (blk off cap : Nat) (ss : List (List UInt8)) (w : World) (hH : Holds encStr w blk off ss.toArray) (hblk : blk < w.heap.size) (hsz : ss.length < 4611686018427387904) :
    Calls Tryz.prog 164 #[.slice (some ⟨blk, off, none⟩) ss.length cap] w fun e w' =>
      e = .returned (.tuple #[]) ∧ ∃ n os, w' = grow (putRow encStr (Sort.ahead w n) blk off (ss.mergeSort fun x y => decide (x ≤ y)).toArray) os := Any.slices_Sort_string lays190 blk off cap ss w hH hblk hsz
open Go.RowKit Go.Sort in
/-- .. and plain. (LAID: no walk: one application.) -/
theorem shelf_slices_Sort_string_none (p : Option Addr) (cap : Nat) (w : World) :
    Calls Tryz.prog 164 #[.slice p 0 cap] w fun e w' => e = .returned (.tuple #[]) ∧ w' = w := Any.slices_Sort_string_none lays190 p cap w
end Go.Proofs.YtjfefphgikncnaaGreatDoor
