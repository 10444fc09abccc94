/- ReadSt, NodeRead, NodeRdr -/
import Derived.Test.YtjbagjhadmbjnaaPk03
import Derived.Test.YtjbagjhadmbjnaaPk01
import Derived.Test.YtjbagjhadmbjnaaPk02
import Derived.Laws.IdiomStrings
namespace Go.Proofs.Ytjbagjhadmbjnaa

abbrev Pw.St := List UInt8 × Int
def Pw.rdN (st : Pw.St) : Nat × Pw.St := if st.2 ≠ 0 then (0, st) else ((Code.countL 9223372036854775807 st.1).1, (Code.countL 9223372036854775807 st.1).2.1, (Code.countL 9223372036854775807 st.1).2.2)
def Pw.rdT (st : Pw.St) : List UInt8 × Pw.St := if st.2 ≠ 0 then ([], st) else ((Code.textR 6 st.1).1, (Code.textR 6 st.1).2.1, (Code.textR 6 st.1).2.2)
def Pw.endC (st : Pw.St) : Int := if st.2 = 0 ∧ st.1 ≠ [] then 3 else st.2
theorem Pw.textR_le (most : Int) (s : List UInt8) : (Code.textR most s).2.1.length ≤ s.length := by
  have h := count_rest most s
  unfold Code.textR
  split
  · exact Nat.le_refl _
  · split
    · exact Nat.le_refl _
    · simp only [List.length_drop]; omega
theorem Pw.rdT_le (st : Pw.St) : (Pw.rdT st).2.1.length ≤ st.1.length := by
  unfold Pw.rdT
  split
  · exact Nat.le_refl _
  · exact Pw.textR_le _ _
theorem Pw.rdT_ok {st : Pw.St} (h : (Pw.rdT st).2.2 = 0) : st.2 = 0 ∧ st.1 = Code.textL (Pw.rdT st).1 ++ (Pw.rdT st).2.1 := by
  unfold Pw.rdT at h ⊢
  by_cases h0 : st.2 = 0
  · rw [if_neg (by simpa using h0)] at h ⊢
    refine ⟨h0, ?_⟩
    simp only at h ⊢
    unfold Code.textR at h ⊢
    by_cases h1 : (Code.countL 6 st.1).2.2 = 0
    · rw [if_neg (by simpa using h1)] at h ⊢
      by_cases h2 : (Code.countL 6 st.1).1 > (Code.countL 6 st.1).2.1.length
      · rw [if_pos h2] at h; simp at h
      · rw [if_neg h2]
        simp only
        have hs : st.1 = Code.numL (Code.countL 6 st.1).1 ++ (Code.countL 6 st.1).2.1 := by
          unfold Code.countL at h1 ⊢
          split at h1
          · rename_i h3; exact absurd h1 h3
          · rename_i h3
            split at h1
            · simp at h1
            · rename_i h4
              have h5 := Code.lead_ok st.1 (by simpa using h3)
              rw [if_neg h3, if_neg h4]
              simp only
              rw [← h5.2.2, List.take_append_drop]
        have hl : ((Code.countL 6 st.1).2.1.take (Code.countL 6 st.1).1).length = (Code.countL 6 st.1).1 := by rw [List.length_take]; omega
        rw [Code.textL, hl, List.append_assoc, List.take_append_drop]
        exact hs
    · rw [if_pos h1] at h; exact absurd h h1
  · rw [if_pos h0] at h
    exact absurd h h0
theorem Pw.rdT_text (t r : List UInt8) (h : t.length ≤ 6) : Pw.rdT (Code.textL t ++ r, 0) = (t, r, 0) := by
  have h1 := Code.text_text 6 t r (by omega) (by omega)
  simp [Pw.rdT, h1]
end Go.Proofs.Ytjbagjhadmbjnaa
namespace Go.Proofs.Ytjbagjhadmbjnaa
open Go.RowKit

theorem Only.out {g : Nat} {w w' : World} (h : Only g w w') : Out (fun k => k = g) w w' := ⟨h.os, h.tape, h.output, h.size, h.block⟩
theorem rend_st (st : Pw.St) (g : Nat) (w : World) (h : Rd w g st.1 st.2) :
    Calls Try.prog 16 #[.pointer (some ⟨g, 0, none⟩)] w fun e w' => e = .returned (.int .i64 (Pw.endC st)) ∧ Only g w w' := by
  obtain ⟨s, c⟩ := st
  dsimp only at h
  have h0 := h.left
  have h1 := h.code
  have hf1 := h.free1
  unfold Pw.endC
  dsimp only
  by_cases hc : c = 0
  · subst hc
    cases s with
    | nil =>
      rw [if_neg (by simp)]
      go_enter Try.func16, Try.ntmps16
      go_wp2
      go_ret
      exact ⟨rfl, Only.refl _ _⟩
    | cons a s =>
      rw [if_pos (by simp)]
      have hrd := (h.setCode 3).code
      go_enter Try.func16, Try.ntmps16
      go_wp2
      go_ret
      exact ⟨rfl, (Only.refl g _).setCell rfl _⟩
  · rw [if_neg (fun h => hc h.1)]
    have hc1 : (c == 0) = false := by rw [beq_eq_false_iff_ne]; exact hc
    go_enter Try.func16, Try.ntmps16
    go_wp2
    go_ret
    exact ⟨rfl, Only.refl _ _⟩
end Go.Proofs.Ytjbagjhadmbjnaa
namespace Go.Proofs.Ytjbagjhadmbjnaa
open Go.Proofs.Ytjbagjhadmbjnaa.Nd (N)

def Nd.rdT (most : Int) (st : Nd.St) : List UInt8 × Nd.St := if st.2 ≠ 0 then ([], st) else ((Code.textR most st.1).1, (Code.textR most st.1).2.1, (Code.textR most st.1).2.2)
theorem Nd.rdT_le (most : Int) (st : Nd.St) : (Nd.rdT most st).2.1.length ≤ st.1.length := by
  unfold Nd.rdT
  split
  · exact Nat.le_refl _
  · exact Pw.textR_le _ _
theorem Nd.rdB_le (n : Nat) (st : Nd.St) : (Nd.rdB n st).2.1.length ≤ st.1.length := by
  unfold Nd.rdB
  split
  · exact Nat.le_refl _
  · split
    · exact Nat.le_refl _
    · simp only [List.length_drop]; omega
theorem Nd.rdT_ok {most : Int} {st : Nd.St} (h : (Nd.rdT most st).2.2 = 0) : st.2 = 0 ∧ st.1 = Code.textL (Nd.rdT most st).1 ++ (Nd.rdT most st).2.1 := by
  unfold Nd.rdT at h ⊢
  by_cases h0 : st.2 = 0
  · rw [if_neg (by simpa using h0)] at h ⊢
    refine ⟨h0, ?_⟩
    simp only at h ⊢
    unfold Code.textR at h ⊢
    by_cases h1 : (Code.countL most st.1).2.2 = 0
    · rw [if_neg (by simpa using h1)] at h ⊢
      by_cases h2 : (Code.countL most st.1).1 > (Code.countL most st.1).2.1.length
      · rw [if_pos h2] at h; simp at h
      · rw [if_neg h2]
        simp only
        have hs : st.1 = Code.numL (Code.countL most st.1).1 ++ (Code.countL most st.1).2.1 := by
          unfold Code.countL at h1 ⊢
          split at h1
          · rename_i h3; exact absurd h1 h3
          · rename_i h3
            split at h1
            · simp at h1
            · rename_i h4
              have h5 := Code.lead_ok st.1 (by simpa using h3)
              rw [if_neg h3, if_neg h4]
              simp only
              rw [← h5.2.2, List.take_append_drop]
        have hl : ((Code.countL most st.1).2.1.take (Code.countL most st.1).1).length = (Code.countL most st.1).1 := by rw [List.length_take]; omega
        rw [Code.textL, hl, List.append_assoc, List.take_append_drop]
        exact hs
    · rw [if_pos h1] at h; exact absurd h h1
  · rw [if_pos h0] at h
    exact absurd h h0
theorem Nd.rdT_text (most : Nat) (t r : List UInt8) (h : t.length ≤ most) (hm : most ≤ 1000) : Nd.rdT most (Code.textL t ++ r, 0) = (t, r, 0) := by
  have h1 := Code.text_text most t r (by omega) (by omega)
  simp [Nd.rdT, h1]

/-! ### a packed path -/
def Nd.unp (leaf : Bool) (p : List UInt8) : List UInt8 × Bool :=
  match Nib.unpackL p with
  | none => ([], false)
  | some (q, is) => (q, is == leaf)
def Nd.rdP (leaf : Bool) (st : Nd.St) : (List UInt8 × Bool) × Nd.St := (Nd.unp leaf (Nd.rdT 9 st).1, (Nd.rdT 9 st).2)
theorem Nd.unp_ok {leaf : Bool} {p : List UInt8} (h : (Nd.unp leaf p).2 = true) : Nib.packL (Nd.unp leaf p).1 leaf = p ∧ Nib.fitL (Nd.unp leaf p).1 = true := by
  unfold Nd.unp at h ⊢
  match hu : Nib.unpackL p with
  | none => rw [hu] at h; cases h
  | some (q, is) =>
    rw [hu] at h
    have h1 := Nib.unpack_fit p q is hu
    obtain rfl : is = leaf := by simpa using h
    exact ⟨h1.2, h1.1⟩
theorem Nd.rdP_ok {leaf : Bool} {st : Nd.St} (h : (Nd.rdP leaf st).1.2 = true) (h2 : (Nd.rdP leaf st).2.2 = 0) : st.2 = 0 ∧ st.1 = Code.textL (Nib.packL (Nd.rdP leaf st).1.1 leaf) ++ (Nd.rdP leaf st).2.1 := by
  have h3 := Nd.rdT_ok h2
  have h4 := Nd.unp_ok h
  refine ⟨h3.1, ?_⟩
  rw [show (Nd.rdP leaf st).1 = Nd.unp leaf (Nd.rdT 9 st).1 from rfl, h4.1]
  exact h3.2
theorem Nd.rdP_pack (leaf : Bool) (p r : List UInt8) (hf : Nib.fitL p = true) (hp : p.length ≤ 16) : Nd.rdP leaf (Code.textL (Nib.packL p leaf) ++ r, 0) = ((p, true), r, 0) := by
  unfold Nd.rdP
  have h := Nd.rdT_text 9 (Nib.packL p leaf) r (by rw [Nib.packL_length]; omega) (by decide)
  rw [show ((9 : Nat) : Int) = 9 from rfl] at h
  rw [h]
  unfold Nd.unp
  rw [Nib.unpack_pack p leaf hf]
  simp

/-! ### the sixteen places -/
def Nd.bitf (n i : Nat) : Bool := decide (n / 2 ^ (15 - i) % 2 = 1)
theorem Nd.bitf_hi (h l i : Nat) (hl : l < 256) (hi : i < 8) : Nd.bitf (h * 256 + l) i = Nd.bitAt h i := by
  unfold Nd.bitf Nd.bitAt
  have e : (h * 256 + l) / 2 ^ (15 - i) = h / 2 ^ (7 - i) := by
    have h1 : (2 : Nat) ^ (15 - i) = 256 * 2 ^ (7 - i) := by
      rw [show 15 - i = 8 + (7 - i) by omega, Nat.pow_add]
    have h2 : (h * 256 + l) / 256 = h := by omega
    rw [h1, ← Nat.div_div_eq_div_mul, h2]
  rw [e]
theorem Nd.bitf_lo (h l i : Nat) (hi : 8 ≤ i) (hi2 : i < 16) : Nd.bitf (h * 256 + l) i = Nd.bitAt l (i - 8) := by
  unfold Nd.bitf Nd.bitAt
  obtain ⟨j, rfl⟩ : ∃ j, i = 8 + j := ⟨i - 8, by omega⟩
  have hj : j < 8 := by omega
  have e1 : 15 - (8 + j) = 7 - j := by omega
  have e2 : 8 + j - 8 = j := by omega
  rw [e1, e2]
  have h1 : h * 256 = 2 ^ (7 - j) * (h * 2 ^ (1 + j)) := by
    have : (256 : Nat) = 2 ^ (7 - j) * 2 ^ (1 + j) := by
      rw [← Nat.pow_add, show 7 - j + (1 + j) = 8 by omega]
    rw [this, Nat.mul_left_comm]
  rw [h1, Nat.mul_add_div (Nat.two_pow_pos _), Nat.pow_add, Nat.mul_left_comm, Nat.pow_one, Nat.mul_add_mod]
/-- Two bytes, the higher first, as a number: none, if there are none. -/
def Nd.num2 : List UInt8 → Nat
  | [x, y] => x.toNat * 256 + y.toNat
  | _ => 0
def Nd.rdK (st : Nd.St) : List (List UInt8) × Nd.St := Nd.rdKids (Nd.bitf (Nd.num2 (Nd.rdB 2 st).1)) 16 (Nd.rdB 2 st).2

theorem Nd.byteN_toNat (x : UInt8) : Nd.byteN x.toNat = x := by simp [Nd.byteN]
theorem Nd.rdK_len (st : Nd.St) : (Nd.rdK st).1.length = 16 := Nd.rdKids_len _ _ _
theorem Nd.rdK_ok {st : Nd.St} (h : (Nd.rdK st).2.2 = 0) : st.2 = 0 ∧ st.1 = Nd.takenL (Nd.rdK st).1 ++ ((Nd.rdK st).1.flatten ++ (Nd.rdK st).2.1) := by
  have h1 := Nd.rdKids_ok _ _ _ h
  obtain ⟨a, b, c, d⟩ := h1
  have h2 := Nd.rdB_ok a
  refine ⟨h2.1, ?_⟩
  have hl := Nd.rdK_len st
  have h3 : Nd.takenL (Nd.rdK st).1 = (Nd.rdB 2 st).1 := by
    match hq : (Nd.rdB 2 st).1, h2.2.2 with
    | [x, y], _ =>
      have hn : Nd.num2 (Nd.rdB 2 st).1 = x.toNat * 256 + y.toNat := by rw [hq]; rfl
      rw [hn] at d
      have hx : Nd.bits8 ((Nd.rdK st).1.take 8) = x.toNat := Nd.bits8_back _ (by rw [List.length_take, hl]; rfl) x (fun i hi => by
        have := d i (by omega)
        rw [Nd.bitf_hi _ _ _ y.toNat_lt hi] at this
        rw [this, List.getElem_take]
        unfold Nd.rdK
        simp only [hn])
      have hy : Nd.bits8 ((Nd.rdK st).1.drop 8) = y.toNat := Nd.bits8_back _ (by rw [List.length_drop, hl]) y (fun i hi => by
        have := d (8 + i) (by omega)
        rw [Nd.bitf_lo _ _ _ (by omega) (by omega), Nat.add_sub_cancel_left] at this
        rw [this, List.getElem_drop]
        unfold Nd.rdK
        simp only [hn])
      unfold Nd.takenL
      rw [hx, hy, Nd.byteN_toNat, Nd.byteN_toNat]
  rw [h3]
  refine h2.2.1.trans ?_
  exact congrArg _ b
set_option maxRecDepth 100000 in
theorem Nd.rdK_taken (L : List (List UInt8)) (r : List UInt8) (hL : L.length = 16) (ha : Nd.all32 L = true) : Nd.rdK (Nd.takenL L ++ (L.flatten ++ r), 0) = (L, r, 0) := by
  unfold Nd.rdK
  rw [Nd.rdB_app (Nd.takenL L) _ 2 rfl]
  have h8 : (L.take 8).length = 8 := by rw [List.length_take, hL]; rfl
  have h8' : (L.drop 8).length = 8 := by rw [List.length_drop, hL]
  have hx := Nd.bits8_lt _ h8
  have hy := Nd.bits8_lt _ h8'
  have hn : Nd.num2 (Nd.takenL L) = Nd.bits8 (L.take 8) * 256 + Nd.bits8 (L.drop 8) := by
    simp only [Nd.takenL, Nd.num2, Nd.byteN]
    rw [Code.ofNat_toNat _ hx, Code.ofNat_toNat _ hy]
  simp only [hn]
  have h := Nd.rdKids_app L ha (Nd.bitf (Nd.bits8 (L.take 8) * 256 + Nd.bits8 (L.drop 8))) 16 (by omega) (fun i hi => by
    by_cases h : i < 8
    · rw [Nd.bitf_hi _ _ _ hy h, Nd.bits8_at _ h8 i h, List.getElem_take]
    · obtain ⟨j, rfl⟩ : ∃ j, i = 8 + j := ⟨i - 8, by omega⟩
      rw [Nd.bitf_lo _ _ (8 + j) (by omega) hi, Nat.add_sub_cancel_left, Nd.bits8_at _ h8' j (by omega), List.getElem_drop]) r
  have e : L.take 16 = L := List.take_of_length_le (by omega)
  rw [e] at h
  exact h

/-! ### a node -/
def Nd.rdN (k : UInt8) (r : List UInt8) : (N × Bool) × Nd.St :=
  if k.toNat = 1 then ((⟨1, (Nd.rdP true (r, 0)).1.1, (Nd.rdT 32 (Nd.rdP true (r, 0)).2).1, Nd.none16⟩, (Nd.rdP true (r, 0)).1.2), (Nd.rdT 32 (Nd.rdP true (r, 0)).2).2)
  else if k.toNat = 2 then ((⟨2, (Nd.rdP false (r, 0)).1.1, [], Nd.none16.set 0 (Nd.rdB 32 (Nd.rdP false (r, 0)).2).1⟩, (Nd.rdP false (r, 0)).1.2), (Nd.rdB 32 (Nd.rdP false (r, 0)).2).2)
  else if k.toNat = 3 then ((⟨3, [], (Nd.rdT 32 (Nd.rdK (r, 0)).2).1, (Nd.rdK (r, 0)).1⟩, true), (Nd.rdT 32 (Nd.rdK (r, 0)).2).2)
  else ((⟨(k.toNat : Int), [], [], Nd.none16⟩, true), (r, 0))
def Nd.decOK (k : UInt8) (r : List UInt8) : Bool := (Nd.rdN k r).1.2 && (decide (Pw.endC (Nd.rdN k r).2 = 0) && Nd.fine (Nd.rdN k r).1.1)
def Nd.dec : List UInt8 → N × Int
  | [] => (Nd.zero, 80)
  | k :: r => if Nd.decOK k r then ((Nd.rdN k r).1.1, 0) else (Nd.zero, 80)
/-- What bytes tell. -/
def Nd.DecIs (s : List UInt8) (p : N × Int) : Prop :=
  (p.2 = 0 ∧ Nd.fine p.1 = true ∧ p.1.kids.length = 16 ∧ Nd.written p.1 = s) ∨ (p.2 = 80 ∧ p.1 = Nd.zero ∧ ∀ m : N, m.kids.length = 16 → Nd.fine m = true → Nd.written m ≠ s)
theorem Nd.endC_ok {st : Nd.St} (h : Pw.endC st = 0) : st.2 = 0 ∧ st.1 = [] := by
  unfold Pw.endC at h
  split at h
  · cases h
  · rename_i hn
    exact ⟨h, Decidable.byContradiction fun e => hn ⟨h, e⟩⟩
theorem Nd.rdN_kids (k : UInt8) (r : List UInt8) : (Nd.rdN k r).1.1.kids.length = 16 := by
  unfold Nd.rdN
  split
  · rfl
  · split
    · simp [Nd.none16]
    · split
      · exact Nd.rdK_len _
      · rfl
theorem Nd.dec_ok {k : UInt8} {r : List UInt8} (h : Nd.decOK k r = true) : Nd.fine (Nd.rdN k r).1.1 = true ∧ Nd.written (Nd.rdN k r).1.1 = k :: r := by
  unfold Nd.decOK at h
  simp only [Bool.and_eq_true, decide_eq_true_eq] at h
  obtain ⟨h1, h2, h3⟩ := h
  refine ⟨h3, ?_⟩
  have h4 := Nd.endC_ok h2
  have hkb : ∀ j : Nat, k.toNat = j → UInt8.ofNat j = k := fun j e => by rw [← e]; simp
  unfold Nd.rdN at h1 h3 h4 ⊢
  by_cases k1 : k.toNat = 1
  · simp only [if_pos k1] at h1 h3 h4 ⊢
    have h5 := Nd.rdT_ok h4.1
    have h6 := Nd.rdP_ok h1 h5.1
    have e : r = Code.textL (Nib.packL (Nd.rdP true (r, 0)).1.1 true) ++ Code.textL (Nd.rdT 32 (Nd.rdP true (r, 0)).2).1 := by
      refine h6.2.trans ?_
      refine congrArg (fun x => Code.textL (Nib.packL (Nd.rdP true (r, 0)).1.1 true) ++ x) ?_
      rw [h5.2, h4.2, List.append_nil]
    have hb : ∀ p v, Nd.written ⟨1, p, v, Nd.none16⟩ = (1 : UInt8) :: (Code.textL (Nib.packL p true) ++ Code.textL v) := fun _ _ => rfl
    rw [hb, ← e]
    exact congrArg (fun x => x :: r) (hkb 1 k1)
  by_cases k2 : k.toNat = 2
  · simp only [if_neg k1, if_pos k2] at h1 h3 h4 ⊢
    have h5 := Nd.rdB_ok h4.1
    have h6 := Nd.rdP_ok h1 h5.1
    have e : r = Code.textL (Nib.packL (Nd.rdP false (r, 0)).1.1 false) ++ (Nd.rdB 32 (Nd.rdP false (r, 0)).2).1 := by
      refine h6.2.trans ?_
      refine congrArg (fun x => Code.textL (Nib.packL (Nd.rdP false (r, 0)).1.1 false) ++ x) ?_
      rw [h5.2.1, h4.2, List.append_nil]
    have hb : ∀ p ks, Nd.written ⟨2, p, [], ks⟩ = (2 : UInt8) :: (Code.textL (Nib.packL p false) ++ ks.getD 0 []) := fun _ _ => rfl
    rw [hb]
    have hz : (Nd.none16.set 0 (Nd.rdB 32 (Nd.rdP false (r, 0)).2).1).getD 0 [] = (Nd.rdB 32 (Nd.rdP false (r, 0)).2).1 := by simp [Nd.none16, List.replicate_succ]
    rw [hz, ← e]
    exact congrArg (fun x => x :: r) (hkb 2 k2)
  by_cases k3 : k.toNat = 3
  · simp only [if_neg k1, if_neg k2, if_pos k3] at h1 h3 h4 ⊢
    have h5 := Nd.rdT_ok h4.1
    have h6 := Nd.rdK_ok h5.1
    have e : r = Nd.takenL (Nd.rdK (r, 0)).1 ++ ((Nd.rdK (r, 0)).1.flatten ++ Code.textL (Nd.rdT 32 (Nd.rdK (r, 0)).2).1) := by
      refine h6.2.trans ?_
      refine congrArg (fun x => Nd.takenL (Nd.rdK (r, 0)).1 ++ ((Nd.rdK (r, 0)).1.flatten ++ x)) ?_
      rw [h5.2, h4.2, List.append_nil]
    have hb : Nd.written ⟨3, [], (Nd.rdT 32 (Nd.rdK (r, 0)).2).1, (Nd.rdK (r, 0)).1⟩ = (3 : UInt8) :: (Nd.takenL (Nd.rdK (r, 0)).1 ++ ((Nd.rdK (r, 0)).1.flatten ++ Code.textL (Nd.rdT 32 (Nd.rdK (r, 0)).2).1)) := rfl
    rw [hb, ← e]
    exact congrArg (fun x => x :: r) (hkb 3 k3)
  · simp only [if_neg k1, if_neg k2, if_neg k3] at h3
    have := (Nd.fine_kinds ⟨(k.toNat : Int), [], [], Nd.none16⟩ rfl).symm.trans h3
    rw [if_neg (by show ¬ ((k.toNat : Int) = 1); omega), if_neg (by show ¬ ((k.toNat : Int) = 2); omega), if_neg (by show ¬ ((k.toNat : Int) = 3); omega)] at this
    cases this
/-- What may be is told by its bytes. -/
theorem Nd.dec_written (m : N) (hm : m.kids.length = 16) (hf : Nd.fine m = true) : Nd.dec (Nd.written m) = (m, 0) := by
  have hf0 := hf
  rw [Nd.fine_kinds m hm] at hf
  obtain ⟨kd, p, v, ks⟩ := m
  simp only at hm hf
  by_cases k1 : kd = 1
  · subst k1
    rw [if_pos rfl] at hf
    simp only [Nd.leafB, Nd.pathB, Bool.and_eq_true, decide_eq_true_eq, beq_iff_eq] at hf
    obtain ⟨⟨a, b⟩, c, d, e⟩ := hf
    subst e
    have hw : Nd.written ⟨1, p, v, Nd.none16⟩ = (1 : UInt8) :: (Code.textL (Nib.packL p true) ++ Code.textL v) := rfl
    have hr : Nd.rdN 1 (Code.textL (Nib.packL p true) ++ Code.textL v) = ((⟨1, p, v, Nd.none16⟩, true), [], 0) := by
      unfold Nd.rdN
      rw [if_pos (by decide), Nd.rdP_pack true p _ b a]
      have ht := Nd.rdT_text 32 v [] d (by decide)
      rw [List.append_nil] at ht
      simp only
      rw [show (32 : Int) = ((32 : Nat) : Int) from rfl, ht]
    rw [hw, Nd.dec, Nd.decOK, hr]
    simp only
    rw [hf0]
    rfl
  rw [if_neg k1] at hf
  by_cases k2 : kd = 2
  · subst k2
    rw [if_pos rfl] at hf
    simp only [Nd.extB, Nd.pathB, Bool.and_eq_true, decide_eq_true_eq, beq_iff_eq] at hf
    obtain ⟨a, ⟨b, c⟩, d, e, f⟩ := hf
    subst d
    have hk : ks = Nd.none16.set 0 (ks.getD 0 []) := by
      match ks, hm with
      | z :: l, hm => rw [← f]; simp
    have hw : Nd.written ⟨2, p, [], ks⟩ = (2 : UInt8) :: (Code.textL (Nib.packL p false) ++ ks.getD 0 []) := rfl
    have hr : Nd.rdN 2 (Code.textL (Nib.packL p false) ++ ks.getD 0 []) = ((⟨2, p, [], ks⟩, true), [], 0) := by
      unfold Nd.rdN
      rw [if_neg (by decide), if_pos (by decide), Nd.rdP_pack false p _ c b]
      have ht := Nd.rdB_app (ks.getD 0 []) [] 32 e
      rw [List.append_nil] at ht
      simp only
      rw [ht]
      simp only
      rw [← hk]
    rw [hw, Nd.dec, Nd.decOK, hr]
    simp only
    rw [hf0]
    rfl
  rw [if_neg k2] at hf
  by_cases k3 : kd = 3
  · subst k3
    rw [if_pos rfl] at hf
    simp only [Nd.branchB, Bool.and_eq_true, decide_eq_true_eq] at hf
    obtain ⟨a, b, c, d⟩ := hf
    subst a
    have hw : Nd.written ⟨3, [], v, ks⟩ = (3 : UInt8) :: (Nd.takenL ks ++ (ks.flatten ++ Code.textL v)) := rfl
    have hr : Nd.rdN 3 (Nd.takenL ks ++ (ks.flatten ++ Code.textL v)) = ((⟨3, [], v, ks⟩, true), [], 0) := by
      unfold Nd.rdN
      rw [if_neg (by decide), if_neg (by decide), if_pos (by decide), Nd.rdK_taken ks _ hm c]
      have ht := Nd.rdT_text 32 v [] b (by decide)
      rw [List.append_nil] at ht
      simp only
      rw [show (32 : Int) = ((32 : Nat) : Int) from rfl, ht]
    rw [hw, Nd.dec, Nd.decOK, hr]
    simp only
    rw [hf0]
    rfl
  rw [if_neg k3] at hf
  cases hf
theorem Nd.dec_is (s : List UInt8) : Nd.DecIs s (Nd.dec s) := by
  match s with
  | [] =>
    refine Or.inr ⟨rfl, rfl, fun m hm hf he => ?_⟩
    have := Nd.dec_written m hm hf
    rw [he] at this
    cases this
  | k :: r =>
    cases h : Nd.decOK k r with
    | true =>
      have h1 := Nd.dec_ok h
      rw [Nd.dec, if_pos h]
      exact Or.inl ⟨rfl, h1.1, Nd.rdN_kids k r, h1.2⟩
    | false =>
      rw [Nd.dec, if_neg (by rw [h]; decide)]
      refine Or.inr ⟨rfl, rfl, fun m hm hf he => ?_⟩
      have := Nd.dec_written m hm hf
      rw [he, Nd.dec, if_neg (by rw [h]; decide)] at this
      cases this
theorem Nd.dec_one {s : List UInt8} {p q : N × Int} (hp : Nd.DecIs s p) (hq : Nd.DecIs s q) : p = q := by
  obtain ⟨a, b⟩ := p
  obtain ⟨c, d⟩ := q
  rcases hp with ⟨h1, h2, h3, h4⟩ | ⟨h1, h2, h3⟩ <;> rcases hq with ⟨g1, g2, g3, g4⟩ | ⟨g1, g2, g3⟩
  · have e1 := Nd.dec_written a h3 h2
    have e2 := Nd.dec_written c g3 g2
    simp only at h4 g4
    rw [h4] at e1
    rw [g4] at e2
    have e3 := e1.symm.trans e2
    simp only at h1 g1
    rw [h1, g1]
    exact e3
  · exact absurd h4 (g3 _ h3 h2)
  · exact absurd g4 (h3 _ g3 g2)
  · simp only at h1 h2 g1 g2
    rw [h1, h2, g1, g2]
end Go.Proofs.Ytjbagjhadmbjnaa
namespace Go.Proofs.Ytjbagjhadmbjnaa
open Go.RowKit
open Go.Proofs.Ytjbagjhadmbjnaa.Nd (N)

theorem nrtext_st (most : Int) (st : Nd.St) (g : Nat) (w : World) (h : Rd w g st.1 st.2) (hl : st.1.length ≤ 100000000) :
    Calls Try.prog 14 #[.pointer (some ⟨g, 0, none⟩), .int .i64 most] w fun e w' => e = .returned (.string ⟨(Nd.rdT most st).1.toArray⟩) ∧ Rd w' g (Nd.rdT most st).2.1 (Nd.rdT most st).2.2 ∧ Only g w w' := by
  unfold Nd.rdT
  by_cases hc : st.2 = 0
  · rw [if_neg (by simpa using hc)]
    rw [hc] at h
    exact rtext_any most st.1 g w h hl
  · rw [if_pos hc]
    obtain ⟨s, c⟩ := st
    dsimp only at h hc hl ⊢
    have h0 := h.left
    have h1 := h.code
    have hf0 := h.free0
    have hc1 : (c != 0) = true := by rw [bne_iff_ne]; exact hc
    go_enter Try.func14, Try.ntmps14
    go_wp2_with fail
    refine (count_stuck most s c g w h hc).mono ?_
    rintro e w1 ⟨rfl, rfl⟩
    go_wp2_with fail
    refine (bytes_stuck 0 s c g w1 h hc).mono ?_
    rintro e w2 ⟨rfl, rfl⟩
    go_wp2
    go_ret
    exact ⟨rfl, h.setLeft s, (Only.refl g _).setCell rfl _⟩
theorem nrbytes_st (n : Nat) (st : Nd.St) (g : Nat) (w : World) (h : Rd w g st.1 st.2) (hl : st.1.length ≤ 100000000) :
    Calls Try.prog 12 #[.pointer (some ⟨g, 0, none⟩), .int .i64 n] w fun e w' => e = .returned (.string ⟨(Nd.rdB n st).1.toArray⟩) ∧ Rd w' g (Nd.rdB n st).2.1 (Nd.rdB n st).2.2 ∧ Only g w w' := by
  unfold Nd.rdB
  by_cases hc : st.2 = 0
  · rw [if_neg (by simpa using hc)]
    rw [hc] at h
    refine (bytes_any n st.1 g w h hl).mono ?_
    rintro e w' ⟨rfl, h1, h2⟩
    have hb : Code.bytesR (n : Int) st.1 = if st.1.length < n then ([], st.1, 20) else (st.1.take n, st.1.drop n, 0) := by
      unfold Code.bytesR
      rw [if_neg (by omega)]
      rfl
    rw [hb] at h1 ⊢
    exact ⟨rfl, h1, h2⟩
  · rw [if_pos hc]
    refine (bytes_stuck n st.1 st.2 g w h hc).mono ?_
    rintro e w' ⟨rfl, rfl⟩
    exact ⟨rfl, h, Only.refl _ _⟩
theorem nunpack_any (s : List UInt8) (w : World) (hl : s.length ≤ 1000000) :
    Calls Try.prog 30 #[.string ⟨s.toArray⟩] w fun e w' => ∃ p is c, e = .returned (.tuple #[.string ⟨p.toArray⟩, .bool is, .int .i64 c]) ∧ (∀ leaf, Nd.unp leaf s = (p, c == 0 && is == leaf)) ∧ Below w.heap.size w w' := by
  match h : Nib.unpackL s with
  | none =>
    refine (unpack_none s w hl h).mono ?_
    rintro e w' ⟨rfl, hb⟩
    exact ⟨_, _, _, rfl, fun leaf => by unfold Nd.unp; rw [h]; rfl, hb⟩
  | some (p, is) =>
    refine (unpack_some s p is w hl h).mono ?_
    rintro e w' ⟨rfl, hb⟩
    exact ⟨_, _, _, rfl, fun leaf => by unfold Nd.unp; rw [h]; rfl, hb⟩
theorem Nd.rdT_len (most : Nat) (st : Nd.St) : (Nd.rdT most st).1.length ≤ most := by
  unfold Nd.rdT
  split
  · simp
  · unfold Code.textR
    split
    · simp
    · rename_i h
      split
      · simp
      · simp only [List.length_take]
        unfold Code.countL at h ⊢
        split
        · simp
        · split
          · simp
          · simp only
            omega
def PathPost (leaf : Bool) (st : Nd.St) (g : Nat) (w : World) (e : Ending) (w' : World) : Prop :=
  e = .returned (.tuple #[.string ⟨(Nd.rdP leaf st).1.1.toArray⟩, .bool (Nd.rdP leaf st).1.2]) ∧ Rd w' g (Nd.rdP leaf st).2.1 (Nd.rdP leaf st).2.2 ∧ Only g w w'
set_option maxRecDepth 100000 in
theorem nreadPath_st (leaf : Bool) (st : Nd.St) (g : Nat) (w : World) (h : Rd w g st.1 st.2) (hl : st.1.length ≤ 100000000) :
    Calls Try.prog 13 #[.pointer (some ⟨g, 0, none⟩), .bool leaf] w (PathPost leaf st g w) := by
  unfold PathPost
  have HT := Lib.hid (nrtext_st 9 st g w h hl)
  have hlen := Nd.rdT_len 9 st
  have HU := Lib.hid (fun w => nunpack_any (Nd.rdT 9 st).1 w (by have : (Nd.rdT ((9 : Nat) : Int) st).1.length ≤ 9 := hlen; rw [show ((9 : Nat) : Int) = 9 from rfl] at this; omega))
  obtain ⟨R, hR⟩ : ∃ R, Nd.rdP leaf st = R := ⟨_, rfl⟩
  have HR := Lib.hid hR
  rw [hR]
  unfold Nd.rdP at HR
  obtain ⟨⟨t, st1⟩, hT⟩ : ∃ T, Nd.rdT 9 st = T := ⟨_, rfl⟩
  rw [hT] at HR HT HU
  simp only at HR HT HU
  have HH := Lib.hid h
  clear hR hT hlen h
  go_enter Try.func13, Try.ntmps13
  go_wp2_with fail
  refine HT.out.mono ?_
  rintro e w1 ⟨rfl, hr1, ho1⟩
  have HR1 := Lib.hid hr1
  have HO1 := Lib.hid ho1
  clear hr1 ho1
  go_wp2_with fail
  refine (HU.out _).mono ?_
  rintro e w2 ⟨p, is, c, rfl, hu, hb2⟩
  obtain rfl : R = ((p, c == 0 && is == leaf), st1) := by rw [← HR.out, hu]
  have HF : Hid (Rd w2 g st1.1 st1.2 ∧ Only g w w2) := Lib.hid ⟨HR1.out.below hb2, HO1.out.trans (Only.of hb2)⟩
  clear hu hb2
  by_cases hc : c = 0
  · subst hc
    go_wp2
    go_ret2
    exact ⟨rfl, HF.out.1, HF.out.2⟩
  · have hc1 : (c == 0) = false := by rw [beq_eq_false_iff_ne]; exact hc
    go_wp2
    go_ret2
    first | exact ⟨rfl, HF.out.1, HF.out.2⟩ | exact ⟨by rw [hc1]; rfl, HF.out.1, HF.out.2⟩
theorem bytes_of (s : List UInt8) (w : World) : ∃ c W, (convert 9 49 (.string ⟨s.toArray⟩)).run Try.prog w = .ok (.slice (some ⟨w.heap.size, 0, none⟩) s.length c) W ∧ Below w.heap.size w W ∧ ∀ j (hj : j < s.length), W.cell? ⟨w.heap.size, j, none⟩ = some (.int .u8 (s[j].toNat : Int)) := by
  have h := run_bytes_of_string (P := Try.prog) w 9 49 5 ⟨s.toArray⟩ Try.underlying9 Try.underlying49 Try.underlying5
  have hsz : (⟨s.toArray⟩ : ByteArray).size = s.length := by simp [ByteArray.size]
  rw [hsz] at h
  refine ⟨_, _, h, ((Below.refl _ w).drew).alloc (Nat.le_refl _) _, fun j hj => ?_⟩
  refine (World.cell?_alloc_mark w.drew _ _ _ j).trans ?_
  rw [bytesRow_at _ _ _ (by simpa using hj)]
  simp
/-- The sixteen read so far, the others empty. -/
def Nd.part (L : List (List UInt8)) : List (List UInt8) := L ++ List.replicate (16 - L.length) []
theorem Nd.part_len (L : List (List UInt8)) (h : L.length ≤ 16) : (Nd.part L).length = 16 := by
  unfold Nd.part
  rw [List.length_append, List.length_replicate]
  omega
theorem Nd.part_set (L : List (List UInt8)) (x : List UInt8) (h : L.length < 16) : (Nd.part L).set L.length x = Nd.part (L ++ [x]) := by
  unfold Nd.part
  rw [List.set_append_right _ _ (Nat.le_refl _), Nat.sub_self, List.length_append, List.append_assoc, List.length_singleton]
  obtain ⟨j, hj⟩ : ∃ j, 16 - L.length = j + 1 := ⟨16 - L.length - 1, by omega⟩
  rw [hj, show 16 - (L.length + 1) = j by omega, List.replicate_succ]
  rfl
theorem Nd.part_nil (L : List (List UInt8)) (h : L.length < 16) : Nd.part L = Nd.part (L ++ [[]]) := by
  unfold Nd.part
  rw [List.length_append, List.append_assoc, List.length_singleton]
  obtain ⟨j, hj⟩ : ∃ j, 16 - L.length = j + 1 := ⟨16 - L.length - 1, by omega⟩
  rw [hj, show 16 - (L.length + 1) = j by omega, List.replicate_succ]
  rfl
theorem Nd.part_all (L : List (List UInt8)) (h : L.length = 16) : Nd.part L = L := by
  unfold Nd.part
  rw [h]
  simp
theorem Nd.num2_lt (b : List UInt8) : Nd.num2 b < 65536 := by
  unfold Nd.num2
  split
  · rename_i x y
    have := x.toNat_lt
    have := y.toNat_lt
    omega
  · decide
theorem and_one (m : Nat) (h : m < 9223372036854775808) : bits .and .i64 (m : Int) 1 = ((m % 2 : Nat) : Int) := by
  have hx : m % 2 < 2 := Nat.mod_lt _ (by decide)
  show IntKind.i64.wrap ((BitVec.ofInt 64 (m : Int) &&& BitVec.ofInt 64 ((1 : Nat) : Int)).toNat : Int) = _
  rw [BitVec.toNat_and, BitVec.ofInt_natCast, BitVec.toNat_ofNat, BitVec.ofInt_natCast, BitVec.toNat_ofNat, Nat.mod_eq_of_lt (by omega), Nat.mod_eq_of_lt (by omega), Nat.and_one_is_mod]
  simp only [IntKind.wrap, IntKind.bits, IntKind.signed]
  simp
  omega
theorem bit_int (n k : Nat) (h : n < 65536) : bits .and .i64 ((n : Int) / 2 ^ (15 - k)) 1 = if Nd.bitf n k = true then 1 else 0 := by
  have h1 : (n : Int) / 2 ^ (15 - k) = ((n / 2 ^ (15 - k) : Nat) : Int) := by simp
  have h2 : n / 2 ^ (15 - k) ≤ n := Nat.div_le_self _ _
  rw [h1, and_one _ (by omega)]
  unfold Nd.bitf
  rcases Nat.mod_two_eq_zero_or_one (n / 2 ^ (15 - k)) with e | e <;> simp [e]
theorem Nd.rdKids_le (b : Nat → Bool) (k : Nat) (st : Nd.St) : (Nd.rdKids b k st).2.1.length ≤ st.1.length := by
  induction k with
  | zero => exact Nat.le_refl _
  | succ k ih =>
    simp only [Nd.rdKids]
    split
    · exact Nat.le_trans (Nd.rdB_le _ _) ih
    · exact ih
theorem Out.setRow {F : Nat → Prop} {a w : World} (h : Out F a w) {q : Nat} (hq : F q) (cs : Array Value) : Out F a (w.setRow q cs) :=
  ⟨h.os, h.tape, h.output, by rw [size_setRow]; exact h.size, fun i hi hf => by
    have hne : q ≠ i := fun e => hf (e ▸ hq)
    refine Eq.trans ?_ (h.block i hi hf)
    simp only [World.setRow, Array.getElem?_modify, if_neg hne]⟩
theorem setRow_at {w : World} {q : Nat} {old cs : Array Value} {t : TypeId} {fr : Nat × Nat} (h : w.heap[q]? = some (.cells old t fr)) : (w.setRow q cs).heap[q]? = some (.cells cs t fr) := by
  simp [World.setRow, Array.getElem?_modify, h]
def KidsRPost (st : Nd.St) (g : Nat) (w : World) (e : Ending) (w' : World) : Prop :=
  e = .returned (aval (Nd.rdK st).1) ∧ Rd w' g (Nd.rdK st).2.1 (Nd.rdK st).2.2 ∧ Only g w w'
set_option maxRecDepth 100000 in
set_option maxHeartbeats 1000000 in
theorem nreadKids_st (st : Nd.St) (g : Nat) (w : World) (h : Rd w g st.1 st.2) (hl : st.1.length ≤ 100000000) :
    Calls Try.prog 15 #[.pointer (some ⟨g, 0, none⟩)] w (KidsRPost st g w) := by
  unfold KidsRPost
  obtain ⟨K, hK⟩ : ∃ K, Nd.rdK st = K := ⟨_, rfl⟩
  have HK := Lib.hid hK
  rw [hK]
  have hb0 : Below w.heap.size w (w.alloc (.cells (scells Nd.none16).toArray 23)) := (Below.refl _ w).alloc (Nat.le_refl _) _
  have HT := Lib.hid (fun w h => nrbytes_st 2 st g w h hl)
  have HRD := Lib.hid (h.below hb0)
  have HB0 := Lib.hid hb0
  have hz : (scells Nd.none16).toArray = #[.string ⟨#[]⟩, .string ⟨#[]⟩, .string ⟨#[]⟩, .string ⟨#[]⟩, .string ⟨#[]⟩, .string ⟨#[]⟩, .string ⟨#[]⟩, .string ⟨#[]⟩, .string ⟨#[]⟩, .string ⟨#[]⟩, .string ⟨#[]⟩, .string ⟨#[]⟩, .string ⟨#[]⟩, .string ⟨#[]⟩, .string ⟨#[]⟩, .string ⟨#[]⟩] := rfl
  have hle := Nd.rdB_le 2 st
  unfold Nd.rdK at HK
  obtain ⟨⟨b, st1⟩, hT⟩ : ∃ T, Nd.rdB 2 st = T := ⟨_, rfl⟩
  have hb2 : b = [] ∨ ∃ x y, b = [x, y] := by
    have : (Nd.rdB 2 st).1 = [] ∨ (Nd.rdB 2 st).1.length = 2 := by
      unfold Nd.rdB
      split
      · exact Or.inl rfl
      · split
        · exact Or.inl rfl
        · exact Or.inr (by simp only [List.length_take]; omega)
    rw [hT] at this
    rcases this with h | h
    · exact Or.inl h
    · match b, h with
      | [x, y], _ => exact Or.inr ⟨x, y, rfl⟩
  rw [hT] at HT HK hle
  simp only at HT HK hle
  have HL := Lib.hid (Nat.le_trans hle hl)
  have HGW := Lib.hid h.lt
  rw [hz] at HRD HB0
  clear hK hT hb0 h hl hle
  have HROW := Lib.hid (heap_new_at w (.cells (scells Nd.none16).toArray 23) w.heap.size rfl)
  rw [hz] at HROW
  go_enter Try.func15, Try.ntmps15
  go_wp2_with fail
  have hsz := lt_of_heap HROW.out
  obtain ⟨q, hq⟩ : ∃ q, w.heap.size = q := ⟨_, rfl⟩
  have HQ := Lib.hid hq
  rw [hq] at hsz HROW ⊢
  generalize (w.alloc (.cells #[.string ⟨#[]⟩, .string ⟨#[]⟩, .string ⟨#[]⟩, .string ⟨#[]⟩, .string ⟨#[]⟩, .string ⟨#[]⟩, .string ⟨#[]⟩, .string ⟨#[]⟩, .string ⟨#[]⟩, .string ⟨#[]⟩, .string ⟨#[]⟩, .string ⟨#[]⟩, .string ⟨#[]⟩, .string ⟨#[]⟩, .string ⟨#[]⟩, .string ⟨#[]⟩] 23)) = w0 at *
  refine (HT.out _ HRD.out).mono ?_
  rintro e w1 ⟨rfl, hr1, ho1⟩
  have HR1 := Lib.hid hr1
  have HO1 := Lib.hid ho1
  have HROW1 := Lib.hid (ho1.block)
  clear hr1 ho1 hq hsz hz
  rcases hb2 with rfl | ⟨x, y, rfl⟩
  · obtain ⟨cc, W, hcv, hbW, -⟩ := bytes_of [] w1
    have HBW := Lib.hid hbW
    clear hbW
    go_wp2
    go_loopw [3, 12] (fun b i wr => ∃ n : Nat, b = .int .i64 n ∧ n = 0 ∧ i = .int .i64 0 ∧ wr = W) (fun _ _ _ => 0)
    case atStart => exact ⟨0, rfl, rfl, rfl, rfl⟩
    case round =>
      obtain ⟨n, rfl, hn, rfl, rfl⟩ := hrel
      have HN : Hid (n = Nd.num2 []) := Lib.hid hn
      clear hn
      go_wp2_with fail
      obtain ⟨B, hB⟩ : ∃ B, Nd.num2 ([] : List UInt8) = B := ⟨_, rfl⟩
      rw [hB] at HK HN
      obtain rfl : n = B := HN.out
      have HROW2 := Lib.hid (heap_new_at wr (.cells (scells (Nd.part [])).toArray 23) wr.heap.size rfl)
      have HOW := Lib.hid (HO1.out.trans (Only.of HBW.out))
      have HRW := Lib.hid ((HR1.out.below HBW.out).below ((Below.refl _ wr).alloc (Nat.le_refl _) (.cells (scells (Nd.part [])).toArray 23)))
      have HNL : Hid (n < 65536) := Lib.hid (by have := HN.out; have := Nd.num2_lt ([] : List UInt8); omega)
      have HGQ : Hid (g < wr.heap.size) := Lib.hid ((HR1.out.below HBW.out).lt)
      have HGQ1 : Hid (q ≠ g) := Lib.hid (by have := HGW.out; have := HQ.out; omega)
      have hqw1 : q < w1.heap.size := Nat.lt_of_lt_of_le (lt_of_heap HROW.out) HO1.out.size
      have HQQ : Hid (q ≠ wr.heap.size) := Lib.hid (by have := HBW.out.size; omega)
      have HLE : Hid (w.heap.size ≤ wr.heap.size) := Lib.hid (by have := HBW.out.size; have := HQ.out; omega)
      have HQB : Hid ((wr.alloc (.cells (scells (Nd.part [])).toArray 23)).heap[q]? = some (.cells (scells Nd.none16).toArray 23 (0, 0))) := Lib.hid (heap_old_at _ ((HBW.out.block q hqw1).trans ((HO1.out.block q (lt_of_heap HROW.out) HGQ1.out).trans HROW.out)))
      have HWB : Hid (Only g w (wr.alloc (.cells (scells (Nd.part [])).toArray 23))) := Lib.hid (((Only.of HB0.out).trans (HO1.out.trans (Only.of HBW.out))).trans (Only.of ((Below.refl _ wr).alloc (Nat.le_refl _) _)))
      clear hqw1
      have hwz : wr.alloc (.cells (scells (Nd.part [])).toArray 23) = wr.alloc (.cells #[.string ⟨#[]⟩, .string ⟨#[]⟩, .string ⟨#[]⟩, .string ⟨#[]⟩, .string ⟨#[]⟩, .string ⟨#[]⟩, .string ⟨#[]⟩, .string ⟨#[]⟩, .string ⟨#[]⟩, .string ⟨#[]⟩, .string ⟨#[]⟩, .string ⟨#[]⟩, .string ⟨#[]⟩, .string ⟨#[]⟩, .string ⟨#[]⟩, .string ⟨#[]⟩] 23) := rfl
      rw [← hwz]
      have HBA : Hid (Below wr.heap.size wr (wr.alloc (.cells (scells (Nd.part [])).toArray 23))) := Lib.hid ((Below.refl _ wr).alloc (Nat.le_refl _) _)
      obtain ⟨q2, hq2⟩ : ∃ q2, wr.heap.size = q2 := ⟨_, rfl⟩
      have HQ2 := Lib.hid hq2
      rw [hq2] at HROW2 HGQ HQQ HLE ⊢
      clear hwz hB hq2
      generalize (wr.alloc (.cells (scells (Nd.part [])).toArray 23)) = wB at *
      go_loopw [22] (fun i wv => ∃ k : Nat, k ≤ 16 ∧ i = .int .i64 k ∧ Rd wv g (Nd.rdKids (Nd.bitf n) k st1).2.1 (Nd.rdKids (Nd.bitf n) k st1).2.2 ∧ wv.heap[q2]? = some (.cells (scells (Nd.part (Nd.rdKids (Nd.bitf n) k st1).1)).toArray 23 (0, 0)) ∧ Out (fun j => j = g ∨ j = q2) wB wv) (fun i _ => 16 - (intOf i).toNat)
      case atStart => exact ⟨0, Nat.zero_le _, rfl, HRW.out, HROW2.out, Out.refl _ _⟩
      case round =>
        obtain ⟨k, hk, rfl, hrd, hrow, hout⟩ := hrel
        have HRD2 := Lib.hid hrd
        have HRW2 := Lib.hid hrow
        have HOU := Lib.hid hout
        clear hrd hrow hout
        by_cases hlt : k < 16
        · have h1 : (k : Int) < 16 := by omega
          have h0 : (0 : Int) ≤ (k : Int) := by omega
          have hbit := bit_int n k (by have := HNL.out; omega)
          have HKL := Lib.hid (Nd.rdKids_len (Nd.bitf n) k st1)
          have HSL := Lib.hid (Nd.rdKids_le (Nd.bitf n) k st1)
          have HSU : Hid (Nd.rdKids (Nd.bitf n) (k + 1) st1 = if Nd.bitf n k then ((Nd.rdKids (Nd.bitf n) k st1).1 ++ [(Nd.rdB 32 (Nd.rdKids (Nd.bitf n) k st1).2).1], (Nd.rdB 32 (Nd.rdKids (Nd.bitf n) k st1).2).2) else ((Nd.rdKids (Nd.bitf n) k st1).1 ++ [[]], (Nd.rdKids (Nd.bitf n) k st1).2)) := Lib.hid rfl
          obtain ⟨⟨L, stk⟩, hLS⟩ : ∃ P, Nd.rdKids (Nd.bitf n) k st1 = P := ⟨_, rfl⟩
          rw [hLS] at HRD2 HRW2 HKL HSL HSU
          clear hLS
          cases hbf : Nd.bitf n k with
          | false =>
            rw [hbf] at hbit HSU
            rw [if_neg (by decide)] at hbit
            rw [if_neg (by decide)] at HSU
            clear hbf
            go_wp2_with fail
            refine ⟨⟨k + 1, by omega, by go_num, ?_, ?_, HOU.out⟩, by simp [intOf]; omega⟩
            · rw [HSU.out]; exact HRD2.out
            · rw [HSU.out]
              show wr.heap[q2]? = some (.cells (scells (Nd.part (L ++ [[]]))).toArray 23 (0, 0))
              rw [← Nd.part_nil L (by rw [HKL.out]; exact hlt)]
              exact HRW2.out
          | true =>
            rw [hbf] at hbit HSU
            rw [if_pos rfl] at hbit
            rw [if_pos rfl] at HSU
            clear hbf
            have HBY := Lib.hid (nrbytes_st 32 stk g wr HRD2.out (Nat.le_trans (show stk.1.length ≤ st1.1.length from HSL.out) HL.out))
            obtain ⟨⟨x3, st3⟩, hB3⟩ : ∃ P, Nd.rdB 32 stk = P := ⟨_, rfl⟩
            have hB3' : Nd.rdB 32 (L, stk).2 = (x3, st3) := hB3
            rw [hB3'] at HSU
            rw [hB3] at HBY
            simp only at HSU
            clear hB3 hB3'
            go_wp2_with fail
            refine HBY.out.mono ?_
            rintro e w3 ⟨rfl, hr3, ho3⟩
            have hrow3 : w3.heap[q2]? = some (.cells (scells (Nd.part L)).toArray 23 (0, 0)) := (ho3.block q2 (lt_of_heap HRW2.out) (Nat.ne_of_gt HGQ.out)).trans HRW2.out
            have hplen : (scells (Nd.part L)).length = 16 := by rw [scells_length, Nd.part_len L (by have : L.length = k := HKL.out; omega)]
            have hcell : ∃ v, w3.cell? ⟨q2, k, none⟩ = some v := ⟨(scells (Nd.part L))[k]'(by omega), by rw [cell_of_row w3 q2 k _ _ _ hrow3, List.getElem?_toArray, List.getElem?_eq_getElem]⟩
            obtain ⟨v3, hc3⟩ := hcell
            have hf3 : w3.frozen? ⟨q2, k, none⟩ = false := frozen_of_row w3 q2 k _ _ hrow3
            have HR3 : Hid (Rd (w3.setCell ⟨q2, k, none⟩ (.string ⟨x3.toArray⟩)) g st3.1 st3.2) := Lib.hid ((heap_setCell_other w3 ⟨q2, k, none⟩ g _ (Nat.ne_of_lt HGQ.out)).trans hr3)
            have HO3 : Hid (Out (fun j => j = g ∨ j = q2) wB (w3.setCell ⟨q2, k, none⟩ (.string ⟨x3.toArray⟩))) := Lib.hid ((HOU.out.trans (ho3.out.mono (fun j _ e => Or.inl e))).setCell (p := ⟨q2, k, none⟩) (Or.inr rfl) _)
            have HW3 : Hid ((w3.setCell ⟨q2, k, none⟩ (.string ⟨x3.toArray⟩)).heap[q2]? = some (.cells (scells (Nd.part (L ++ [x3]))).toArray 23 (0, 0))) := Lib.hid (by
              have h1 := heap_setCell_same w3 q2 k _ _ (.string ⟨x3.toArray⟩) hrow3
              rw [h1, ← Nd.part_set L x3 (by have : L.length = k := HKL.out; omega), scells_set, show L.length = k from HKL.out]
              simp)
            clear hr3 ho3 hrow3 hplen
            go_wp2_with fail
            refine ⟨⟨k + 1, by omega, by go_num, ?_, ?_, HO3.out⟩, by simp [intOf]; omega⟩
            · rw [HSU.out]; exact HR3.out
            · rw [HSU.out]; exact HW3.out
        · have h1 : ¬ ((k : Int) < 16) := by omega
          obtain rfl : k = 16 := by omega
          have hKK := HK.out
          have hlen16 := Nd.rdKids_len (Nd.bitf n) 16 st1
          rw [hKK] at HRD2 HRW2 hlen16
          rw [Nd.part_all _ hlen16] at HRW2
          have hcs : (scells K.1).toArray.size = 16 := by rw [List.size_toArray, scells_length, hlen16]
          have HI : Hid ((Try.prog.info? 23).map (·.size) = some (scells K.1).toArray.size) := Lib.hid (by rw [hcs]; kernel_rfl)
          have HON1 := Lib.hid (scells_one K.1)
          have HQR : Hid (wr.heap[q]? = some (.cells (scells Nd.none16).toArray 23 (0, 0))) := Lib.hid ((HOU.out.block q (lt_of_heap HQB.out) (fun e => by rcases e with e | e; exact HGQ1.out e; exact HQQ.out e)).trans HQB.out)
          have hold : (scells Nd.none16).toArray.size = (scells K.1).toArray.size := by rw [hcs]; rfl
          have HOLD := Lib.hid hold
          obtain ⟨A, hA⟩ : ∃ A, (scells K.1).toArray = A := ⟨_, rfl⟩
          rw [hA] at HRW2 HI HON1 HOLD
          have HFIN : Hid (Rd (wr.setRow q A) g K.2.1 K.2.2 ∧ Only g w (wr.setRow q A)) := Lib.hid (by
            refine ⟨?_, ?_⟩
            · have h2 := ((Out.refl (fun j => j = q) wr).setRow (q := q) rfl A).block g (lt_of_heap HRD2.out) (fun e => HGQ1.out e.symm)
              exact h2.trans HRD2.out
            · have h2 := (HOU.out.mono (G := fun j => j = g ∨ j = q2 ∨ j = q) (fun j _ e => e.elim Or.inl (fun e => Or.inr (Or.inl e)))).setRow (q := q) (Or.inr (Or.inr rfl)) A
              refine ⟨h2.os.trans HWB.out.os, h2.tape.trans HWB.out.tape, h2.output.trans HWB.out.output, Nat.le_trans HWB.out.size h2.size, fun i hi hg => ?_⟩
              refine (h2.block i (Nat.lt_of_lt_of_le hi HWB.out.size) (fun e => ?_)).trans (HWB.out.block i hi hg)
              rcases e with e | e | e
              · exact hg e
              · have := HLE.out; omega
              · have := HQ.out; omega)
          have HA := Lib.hid hA
          clear hold hA hcs hKK hlen16
          go_wp2_with (first | (refine wpList_load_row (by rfl) _ _ (by rfl) q2 (by rfl) _ A _ _ HRW2.out Try.underlying23 (by rfl) HI.out ?_) | (refine wpList_store_row (by rfl) _ _ _ (by rfl) q A (by rfl) (by rfl) _ _ HQR.out HI.out HOLD.out HON1.out ?_))
          refine bodyPost_ret (v := .agg A) (results_cell_row rfl _ _ q _ _ _ _ rfl (setRow_at HQR.out) Try.underlying23 rfl HI.out) rfl ⟨by rw [← HA.out]; rfl, HFIN.out.1, HFIN.out.2⟩
  · obtain ⟨cc, W, hcv, hbW, hce⟩ := bytes_of [x, y] w1
    have HBW := Lib.hid hbW
    have e0 := hce 0 (by simp)
    have e1 := hce 1 (by simp)
    simp only [List.getElem_cons_zero, List.getElem_cons_succ] at e0 e1
    have x1 := byte_lt x
    have y1 := byte_lt y
    have w1x : wrap64 (x.toNat : Int) = (x.toNat : Int) := IntWalk.wrap64_in _ (by omega)
    have w1y : wrap64 (y.toNat : Int) = (y.toNat : Int) := IntWalk.wrap64_in _ (by omega)
    have w2x : wrap64 ((x.toNat : Int) * 256) = (x.toNat : Int) * 256 := IntWalk.wrap64_in _ (by omega)
    have o0 : bits .or .i64 0 (x.toNat : Int) = ((x.toNat : Nat) : Int) := by
      have := or_int 0 x.toNat (by omega) (by omega)
      simpa using this
    have o1 : bits .or .i64 ((x.toNat : Int) * 256) (y.toNat : Int) = ((x.toNat * 256 + y.toNat : Nat) : Int) := or_int x.toNat y.toNat (by omega) (by omega)
    clear hbW hce
    go_wp2
    go_loopw [3, 12] (fun b i wr => ∃ k n : Nat, k ≤ 2 ∧ i = .int .i64 k ∧ b = .int .i64 n ∧ n = (if k = 0 then 0 else if k = 1 then x.toNat else x.toNat * 256 + y.toNat) ∧ wr = W) (fun _ i _ => 2 - (intOf i).toNat)
    case atStart => exact ⟨0, 0, Nat.zero_le _, rfl, rfl, rfl, rfl⟩
    case round =>
      obtain ⟨k, n, hk, rfl, rfl, hn, rfl⟩ := hrel
      match k, hk with
      | 0, _ =>
        obtain rfl : n = 0 := by simpa using hn
        clear hn
        go_wp2
        refine ⟨⟨1, x.toNat, by omega, rfl, rfl, rfl, trivial⟩, by simp [intOf]⟩
      | 1, _ =>
        obtain rfl : n = x.toNat := by simpa using hn
        clear hn
        go_wp2
        refine ⟨⟨2, x.toNat * 256 + y.toNat, by omega, rfl, by go_num, rfl, trivial⟩, by simp [intOf]⟩
      | 2, _ =>
        have HN : Hid (n = Nd.num2 [x, y]) := Lib.hid (by simpa [Nd.num2] using hn)
        have h22 : ((2 : Nat) : Int) = 2 := rfl
        rw [h22]
        clear hn h22
        go_wp2_with fail
        obtain ⟨B, hB⟩ : ∃ B, Nd.num2 [x, y] = B := ⟨_, rfl⟩
        rw [hB] at HK HN
        obtain rfl : n = B := HN.out
        have HROW2 := Lib.hid (heap_new_at wr (.cells (scells (Nd.part [])).toArray 23) wr.heap.size rfl)
        have HOW := Lib.hid (HO1.out.trans (Only.of HBW.out))
        have HRW := Lib.hid ((HR1.out.below HBW.out).below ((Below.refl _ wr).alloc (Nat.le_refl _) (.cells (scells (Nd.part [])).toArray 23)))
        have HNL : Hid (n < 65536) := Lib.hid (by have := HN.out; have := Nd.num2_lt [x, y]; omega)
        have HGQ : Hid (g < wr.heap.size) := Lib.hid ((HR1.out.below HBW.out).lt)
        have HGQ1 : Hid (q ≠ g) := Lib.hid (by have := HGW.out; have := HQ.out; omega)
        have hqw1 : q < w1.heap.size := Nat.lt_of_lt_of_le (lt_of_heap HROW.out) HO1.out.size
        have HQQ : Hid (q ≠ wr.heap.size) := Lib.hid (by have := HBW.out.size; omega)
        have HLE : Hid (w.heap.size ≤ wr.heap.size) := Lib.hid (by have := HBW.out.size; have := HQ.out; omega)
        have HQB : Hid ((wr.alloc (.cells (scells (Nd.part [])).toArray 23)).heap[q]? = some (.cells (scells Nd.none16).toArray 23 (0, 0))) := Lib.hid (heap_old_at _ ((HBW.out.block q hqw1).trans ((HO1.out.block q (lt_of_heap HROW.out) HGQ1.out).trans HROW.out)))
        have HWB : Hid (Only g w (wr.alloc (.cells (scells (Nd.part [])).toArray 23))) := Lib.hid (((Only.of HB0.out).trans (HO1.out.trans (Only.of HBW.out))).trans (Only.of ((Below.refl _ wr).alloc (Nat.le_refl _) _)))
        clear hqw1
        have hwz : wr.alloc (.cells (scells (Nd.part [])).toArray 23) = wr.alloc (.cells #[.string ⟨#[]⟩, .string ⟨#[]⟩, .string ⟨#[]⟩, .string ⟨#[]⟩, .string ⟨#[]⟩, .string ⟨#[]⟩, .string ⟨#[]⟩, .string ⟨#[]⟩, .string ⟨#[]⟩, .string ⟨#[]⟩, .string ⟨#[]⟩, .string ⟨#[]⟩, .string ⟨#[]⟩, .string ⟨#[]⟩, .string ⟨#[]⟩, .string ⟨#[]⟩] 23) := rfl
        rw [← hwz]
        have HBA : Hid (Below wr.heap.size wr (wr.alloc (.cells (scells (Nd.part [])).toArray 23))) := Lib.hid ((Below.refl _ wr).alloc (Nat.le_refl _) _)
        obtain ⟨q2, hq2⟩ : ∃ q2, wr.heap.size = q2 := ⟨_, rfl⟩
        have HQ2 := Lib.hid hq2
        rw [hq2] at HROW2 HGQ HQQ HLE ⊢
        clear hwz hB hq2
        generalize (wr.alloc (.cells (scells (Nd.part [])).toArray 23)) = wB at *
        go_loopw [22] (fun i wv => ∃ k : Nat, k ≤ 16 ∧ i = .int .i64 k ∧ Rd wv g (Nd.rdKids (Nd.bitf n) k st1).2.1 (Nd.rdKids (Nd.bitf n) k st1).2.2 ∧ wv.heap[q2]? = some (.cells (scells (Nd.part (Nd.rdKids (Nd.bitf n) k st1).1)).toArray 23 (0, 0)) ∧ Out (fun j => j = g ∨ j = q2) wB wv) (fun i _ => 16 - (intOf i).toNat)
        case atStart => exact ⟨0, Nat.zero_le _, rfl, HRW.out, HROW2.out, Out.refl _ _⟩
        case round =>
          obtain ⟨k, hk, rfl, hrd, hrow, hout⟩ := hrel
          have HRD2 := Lib.hid hrd
          have HRW2 := Lib.hid hrow
          have HOU := Lib.hid hout
          clear hrd hrow hout
          by_cases hlt : k < 16
          · have h1 : (k : Int) < 16 := by omega
            have h0 : (0 : Int) ≤ (k : Int) := by omega
            have hbit := bit_int n k (by have := HNL.out; omega)
            have HKL := Lib.hid (Nd.rdKids_len (Nd.bitf n) k st1)
            have HSL := Lib.hid (Nd.rdKids_le (Nd.bitf n) k st1)
            have HSU : Hid (Nd.rdKids (Nd.bitf n) (k + 1) st1 = if Nd.bitf n k then ((Nd.rdKids (Nd.bitf n) k st1).1 ++ [(Nd.rdB 32 (Nd.rdKids (Nd.bitf n) k st1).2).1], (Nd.rdB 32 (Nd.rdKids (Nd.bitf n) k st1).2).2) else ((Nd.rdKids (Nd.bitf n) k st1).1 ++ [[]], (Nd.rdKids (Nd.bitf n) k st1).2)) := Lib.hid rfl
            obtain ⟨⟨L, stk⟩, hLS⟩ : ∃ P, Nd.rdKids (Nd.bitf n) k st1 = P := ⟨_, rfl⟩
            rw [hLS] at HRD2 HRW2 HKL HSL HSU
            clear hLS
            cases hbf : Nd.bitf n k with
            | false =>
              rw [hbf] at hbit HSU
              rw [if_neg (by decide)] at hbit
              rw [if_neg (by decide)] at HSU
              clear hbf
              go_wp2_with fail
              refine ⟨⟨k + 1, by omega, by go_num, ?_, ?_, HOU.out⟩, by simp [intOf]; omega⟩
              · rw [HSU.out]; exact HRD2.out
              · rw [HSU.out]
                show wr.heap[q2]? = some (.cells (scells (Nd.part (L ++ [[]]))).toArray 23 (0, 0))
                rw [← Nd.part_nil L (by rw [HKL.out]; exact hlt)]
                exact HRW2.out
            | true =>
              rw [hbf] at hbit HSU
              rw [if_pos rfl] at hbit
              rw [if_pos rfl] at HSU
              clear hbf
              have HBY := Lib.hid (nrbytes_st 32 stk g wr HRD2.out (Nat.le_trans (show stk.1.length ≤ st1.1.length from HSL.out) HL.out))
              obtain ⟨⟨x3, st3⟩, hB3⟩ : ∃ P, Nd.rdB 32 stk = P := ⟨_, rfl⟩
              have hB3' : Nd.rdB 32 (L, stk).2 = (x3, st3) := hB3
              rw [hB3'] at HSU
              rw [hB3] at HBY
              simp only at HSU
              clear hB3 hB3'
              go_wp2_with fail
              refine HBY.out.mono ?_
              rintro e w3 ⟨rfl, hr3, ho3⟩
              have hrow3 : w3.heap[q2]? = some (.cells (scells (Nd.part L)).toArray 23 (0, 0)) := (ho3.block q2 (lt_of_heap HRW2.out) (Nat.ne_of_gt HGQ.out)).trans HRW2.out
              have hplen : (scells (Nd.part L)).length = 16 := by rw [scells_length, Nd.part_len L (by have : L.length = k := HKL.out; omega)]
              have hcell : ∃ v, w3.cell? ⟨q2, k, none⟩ = some v := ⟨(scells (Nd.part L))[k]'(by omega), by rw [cell_of_row w3 q2 k _ _ _ hrow3, List.getElem?_toArray, List.getElem?_eq_getElem]⟩
              obtain ⟨v3, hc3⟩ := hcell
              have hf3 : w3.frozen? ⟨q2, k, none⟩ = false := frozen_of_row w3 q2 k _ _ hrow3
              have HR3 : Hid (Rd (w3.setCell ⟨q2, k, none⟩ (.string ⟨x3.toArray⟩)) g st3.1 st3.2) := Lib.hid ((heap_setCell_other w3 ⟨q2, k, none⟩ g _ (Nat.ne_of_lt HGQ.out)).trans hr3)
              have HO3 : Hid (Out (fun j => j = g ∨ j = q2) wB (w3.setCell ⟨q2, k, none⟩ (.string ⟨x3.toArray⟩))) := Lib.hid ((HOU.out.trans (ho3.out.mono (fun j _ e => Or.inl e))).setCell (p := ⟨q2, k, none⟩) (Or.inr rfl) _)
              have HW3 : Hid ((w3.setCell ⟨q2, k, none⟩ (.string ⟨x3.toArray⟩)).heap[q2]? = some (.cells (scells (Nd.part (L ++ [x3]))).toArray 23 (0, 0))) := Lib.hid (by
                have h1 := heap_setCell_same w3 q2 k _ _ (.string ⟨x3.toArray⟩) hrow3
                rw [h1, ← Nd.part_set L x3 (by have : L.length = k := HKL.out; omega), scells_set, show L.length = k from HKL.out]
                simp)
              clear hr3 ho3 hrow3 hplen
              go_wp2_with fail
              refine ⟨⟨k + 1, by omega, by go_num, ?_, ?_, HO3.out⟩, by simp [intOf]; omega⟩
              · rw [HSU.out]; exact HR3.out
              · rw [HSU.out]; exact HW3.out
          · have h1 : ¬ ((k : Int) < 16) := by omega
            obtain rfl : k = 16 := by omega
            have hKK := HK.out
            have hlen16 := Nd.rdKids_len (Nd.bitf n) 16 st1
            rw [hKK] at HRD2 HRW2 hlen16
            rw [Nd.part_all _ hlen16] at HRW2
            have hcs : (scells K.1).toArray.size = 16 := by rw [List.size_toArray, scells_length, hlen16]
            have HI : Hid ((Try.prog.info? 23).map (·.size) = some (scells K.1).toArray.size) := Lib.hid (by rw [hcs]; kernel_rfl)
            have HON1 := Lib.hid (scells_one K.1)
            have HQR : Hid (wr.heap[q]? = some (.cells (scells Nd.none16).toArray 23 (0, 0))) := Lib.hid ((HOU.out.block q (lt_of_heap HQB.out) (fun e => by rcases e with e | e; exact HGQ1.out e; exact HQQ.out e)).trans HQB.out)
            have hold : (scells Nd.none16).toArray.size = (scells K.1).toArray.size := by rw [hcs]; rfl
            have HOLD := Lib.hid hold
            obtain ⟨A, hA⟩ : ∃ A, (scells K.1).toArray = A := ⟨_, rfl⟩
            rw [hA] at HRW2 HI HON1 HOLD
            have HFIN : Hid (Rd (wr.setRow q A) g K.2.1 K.2.2 ∧ Only g w (wr.setRow q A)) := Lib.hid (by
              refine ⟨?_, ?_⟩
              · have h2 := ((Out.refl (fun j => j = q) wr).setRow (q := q) rfl A).block g (lt_of_heap HRD2.out) (fun e => HGQ1.out e.symm)
                exact h2.trans HRD2.out
              · have h2 := (HOU.out.mono (G := fun j => j = g ∨ j = q2 ∨ j = q) (fun j _ e => e.elim Or.inl (fun e => Or.inr (Or.inl e)))).setRow (q := q) (Or.inr (Or.inr rfl)) A
                refine ⟨h2.os.trans HWB.out.os, h2.tape.trans HWB.out.tape, h2.output.trans HWB.out.output, Nat.le_trans HWB.out.size h2.size, fun i hi hg => ?_⟩
                refine (h2.block i (Nat.lt_of_lt_of_le hi HWB.out.size) (fun e => ?_)).trans (HWB.out.block i hi hg)
                rcases e with e | e | e
                · exact hg e
                · have := HLE.out; omega
                · have := HQ.out; omega)
            have HA := Lib.hid hA
            clear hold hA hcs hKK hlen16
            go_wp2_with (first | (refine wpList_load_row (by rfl) _ _ (by rfl) q2 (by rfl) _ A _ _ HRW2.out Try.underlying23 (by rfl) HI.out ?_) | (refine wpList_store_row (by rfl) _ _ _ (by rfl) q A (by rfl) (by rfl) _ _ HQR.out HI.out HOLD.out HON1.out ?_))
            refine bodyPost_ret (v := .agg A) (results_cell_row rfl _ _ q _ _ _ _ rfl (setRow_at HQR.out) Try.underlying23 rfl HI.out) rfl ⟨by rw [← HA.out]; rfl, HFIN.out.1, HFIN.out.2⟩
end Go.Proofs.Ytjbagjhadmbjnaa
