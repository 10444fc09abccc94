/- TriKeys, TriSide, NibSide, NibFit, NibRef, TriRefIn, NodeBase, TriRefTexts, NodeEq, NodeKind -/
import Derived.Test.YtbkanebkobjnnaaGreatDoorPk02
import Derived.Test.YtbkanebkobjnnaaGreatDoorPk01
import Derived.WalkSpells
import Derived.WalkLawsBesides
import Derived.Lib.Hide
import Derived.Lib.Strings
import Derived.Test.YtbkanebkobjnnaaGreatDoorChecked
import Derived.WalkKit
import Derived.ShutString
import Derived.Deep.WholeRow
import Derived.Deep.AppendLies
import Derived.Laws.StructEq
namespace Go.Proofs.YtbkanebkobjnnaaGreatDoor.Tri
open Sto (T St Rising keys)

theorem above_fits {p : T} {t : Tr} (hp : Nib.fitL p = true) (ht : t.fits) : (above p t).fits := by
  unfold above; split
  · exact ht
  · exact ⟨hp, ht⟩
theorem upd_fits {k : Fin 16 → Tr} {i : Fin 16} {t : Tr} (hk : ∀ i, (k i).fits) (ht : t.fits) : ∀ j, (upd k i t j).fits := fun j => by
  unfold upd; split
  · exact ht
  · exact hk j
theorem fork_fits {a : UInt8} {t : Tr} {p w : T} (ht : t.fits) (hp : Nib.fitL p = true) : (fork a t p w).fits := by
  cases p with
  | nil => exact upd_fits (fun _ => trivial) ht
  | cons b s => exact upd_fits (upd_fits (fun _ => trivial) ht) (fit_cons.1 hp).2
theorem fork2_fits {q v p w : T} (hq : Nib.fitL q = true) (hp : Nib.fitL p = true) : (fork2 q v p w).fits := by
  cases q with
  | nil =>
    cases p with
    | nil => trivial
    | cons b s => exact upd_fits (fun _ => trivial) (fit_cons.1 hp).2
  | cons a r => exact fork_fits (t := .leaf r v) (fit_cons.1 hq).2 hp
theorem put_fits {t : Tr} {p w : T} (ht : t.fits) (hp : Nib.fitL p = true) : (t.put p w).fits := by
  induction t generalizing p with
  | nil => exact hp
  | leaf q v =>
    rw [Tr.put]; split
    · exact hp
    · exact above_fits (fit_take _ ht) (fork2_fits (fit_drop _ ht) (fit_drop _ hp))
  | ext q t ih =>
    rw [Tr.put]
    cases hd : q.drop (Nib.commonL q p) with
    | nil => exact ⟨ht.1, ih ht.2 (fit_drop _ hp)⟩
    | cons a r =>
      have hf := fit_cons.1 (hd ▸ fit_drop (Nib.commonL q p) ht.1)
      exact above_fits (fit_take _ ht.1) (fork_fits (above_fits hf.2 ht.2) (fit_drop _ hp))
  | br v k ih =>
    cases p with
    | nil => exact ht
    | cons b p => exact upd_fits ht (ih (ix b) (ht _) (fit_cons.1 hp).2)
theorem put_items {t : Tr} {p w : T} (ht : t.canon) (hf : t.fits) (hp : Nib.fitL p = true) (hw : w ≠ []) : (t.put p w).items = put t.items p w :=
  look_ext (items_rising _) (put_rising (items_rising _) _ _) fun x => by
    rw [look_items, (put_good ht hf hp hw).2.2.2 x, look_put _ _ _ _ (items_rising _), look_items]
/-- Each list of items that rises has its tree. -/
theorem tree_of (S : St) (hS : Rising S) (hf : ∀ p ∈ S, Nib.fitL p.1 = true) (hv : ∀ p ∈ S, p.2 ≠ []) : ∃ t : Tr, t.canon ∧ t.fits ∧ t.items = S := by
  induction S with
  | nil => exact ⟨.nil, trivial, trivial, rfl⟩
  | cons a r ih =>
    obtain ⟨h1, h2⟩ := List.pairwise_cons.1 hS
    obtain ⟨t, c1, c2, c3⟩ := ih h2 (fun p h => hf p (List.mem_cons_of_mem _ h)) (fun p h => hv p (List.mem_cons_of_mem _ h))
    have ha := hf a (List.mem_cons_self ..)
    have hw := hv a (List.mem_cons_self ..)
    refine ⟨t.put a.1 a.2, (put_good c1 c2 ha hw).1, put_fits c2 ha, ?_⟩
    rw [put_items c1 c2 ha hw, c3]
    cases r with
    | nil => rfl
    | cons b r =>
      have hab := h1 b (List.mem_cons_self ..)
      rw [put, if_neg (fun h => List.lt_irrefl _ (List.lt_trans h hab)), if_neg (fun e => Sto.lt_ne hab e.symm)]
/-- Items by their paths. -/
def paths (S : St) : St := S.map fun x => (Nib.ofL x.1, x.2)
theorem ofL_lt (a b : T) : Nib.ofL a < Nib.ofL b ↔ a < b := by
  have := Nib.less_of a b
  rw [less_lt, less_lt] at this
  exact decide_eq_decide.1 this
theorem ofL_eq (a b : T) : Nib.ofL a = Nib.ofL b ↔ a = b := by
  have := Nib.ofL_inj a b
  rw [Bool.eq_iff_iff] at this
  simpa using this
theorem paths_rising {S : St} : Rising (paths S) ↔ Rising S := by
  unfold Rising paths
  rw [List.pairwise_map]
  simp only [ofL_lt]
theorem paths_put (S : St) (k v : T) : paths (put S k v) = put (paths S) (Nib.ofL k) v := by
  induction S with
  | nil => rfl
  | cons a r ih =>
    have e : paths (a :: r) = (Nib.ofL a.1, a.2) :: paths r := rfl
    rw [e, put, put]
    simp only [ofL_lt, ofL_eq]
    by_cases h1 : a.1 < k
    · rw [if_pos h1, if_pos h1, ← ih]; rfl
    · rw [if_neg h1, if_neg h1]
      by_cases h2 : a.1 = k
      · rw [if_pos h2, if_pos h2]; rfl
      · rw [if_neg h2, if_neg h2]; rfl
theorem paths_del (S : St) (k : T) : paths (del S k) = del (paths S) (Nib.ofL k) := by
  induction S with
  | nil => rfl
  | cons a r ih =>
    have e : paths (a :: r) = (Nib.ofL a.1, a.2) :: paths r := rfl
    rw [e, del, del]
    simp only [ofL_eq]
    by_cases h2 : a.1 = k
    · rw [if_pos h2, if_pos h2]
    · rw [if_neg h2, if_neg h2, ← ih]; rfl
theorem ofL_fit (x : T) : Nib.fitL (Nib.ofL x) = true := by
  induction x with
  | nil => rfl
  | cons b t ih =>
    rw [Nib.ofL_cons, fit_cons, fit_cons]
    have := b.toNat_lt
    refine ⟨?_, ?_, ih⟩
    · simp; omega
    · simp; omega
/-- The tree of items: it is there, and the only one. -/
def TreeOf (S : St) (t : Tr) : Prop := t.canon ∧ t.fits ∧ t.items = paths S
theorem TreeOf.of (S : St) (hS : Rising S) (hv : ∀ p ∈ S, p.2 ≠ []) : ∃ t, TreeOf S t := by
  refine tree_of (paths S) (paths_rising.2 hS) (fun p hp => ?_) (fun p hp => ?_)
  · obtain ⟨q, _, rfl⟩ := List.mem_map.1 hp; exact ofL_fit _
  · obtain ⟨q, hq, rfl⟩ := List.mem_map.1 hp; exact hv q hq
theorem TreeOf.one {S : St} {t u : Tr} (ht : TreeOf S t) (hu : TreeOf S u) : t = u := canon_one ht.1 hu.1 (ht.2.2.trans hu.2.2.symm)
theorem TreeOf.get {S : St} {t : Tr} (h : TreeOf S t) (hS : Rising S) (k : T) : t.get (Nib.ofL k) = Sto.look S k := by
  rw [← look_items, h.2.2]
  cases hl : Sto.look S k with
  | some v =>
    refine (Sto.look_mem (paths_rising.2 hS) _ _).2 (List.mem_map.2 ⟨(k, v), (Sto.look_mem hS k v).1 hl, rfl⟩)
  | none =>
    rw [Sto.look_none] at hl ⊢
    intro hm
    obtain ⟨p, hp, e⟩ := List.mem_map.1 hm
    obtain ⟨q, hq, rfl⟩ := List.mem_map.1 hp
    exact hl (List.mem_map.2 ⟨q, hq, (ofL_eq _ _).1 e⟩)
theorem TreeOf.put {S : St} {t : Tr} (h : TreeOf S t) {k v : T} (hv : v ≠ []) : TreeOf (Tri.put S k v) (t.put (Nib.ofL k) v) :=
  ⟨(put_good h.1 h.2.1 (ofL_fit k) hv).1, put_fits h.2.1 (ofL_fit k), by rw [put_items h.1 h.2.1 (ofL_fit k) hv, h.2.2, paths_put]⟩
end Go.Proofs.YtbkanebkobjnnaaGreatDoor.Tri
namespace Go.Proofs.YtbkanebkobjnnaaGreatDoor.Tri
open Sto (T St Rising keys)

def begins (p m : T) : Bool := decide (m.take p.length = p)
def inL (p f e : T) : Bool := !decide (Nib.sideL p (Nib.ofL f) < 0) && (decide (e = []) || decide (Nib.sideL p (Nib.ofL e) < 1))
theorem side_low (p m : T) : Nib.sideL p m < 0 ↔ p < m ∧ m.take p.length ≠ p := by
  unfold Nib.sideL
  rw [less_lt]
  by_cases h : p < m
  · by_cases h2 : m.take p.length = p <;> simp [h, h2]
  · simp [h]
theorem side_high (p m : T) : Nib.sideL p m < 1 ↔ p < m := by
  unfold Nib.sideL
  rw [less_lt]
  by_cases h : p < m
  · by_cases h2 : m.take p.length = p <;> simp [h, h2]
  · simp [h]
theorem take_le (p x : T) (h : x.take p.length = p) : p ≤ x := by
  have e : x = p ++ x.drop p.length := by
    have := (List.take_append_drop p.length x).symm
    rwa [h] at this
  rw [e]
  have : ∀ q r : T, q ≤ q ++ r := fun q r => by
    induction q with
    | nil => exact List.nil_le _
    | cons b q ih => exact List.not_lt.1 fun h => (List.cons_lt_cons_iff.1 h).elim (fun h => absurd h (UInt8.lt_irrefl b)) (fun h => List.not_lt.2 ih h.2)
  exact this _ _
theorem filter_sub {α : Type} (p q : α → Bool) (l : List α) (h : ∀ x, p x = true → q x = true) : (l.filter p).Sublist (l.filter q) := by
  induction l with
  | nil => exact List.Sublist.slnil
  | cons a l ih =>
    rw [List.filter_cons, List.filter_cons]
    by_cases hp : p a = true
    · rw [if_pos hp, if_pos (h a hp)]; exact ih.cons_cons a
    · rw [if_neg hp]
      by_cases hq : q a = true
      · rw [if_pos hq]; exact ih.cons a
      · rw [if_neg hq]; exact ih
end Go.Proofs.YtbkanebkobjnnaaGreatDoor.Tri
namespace Go.Proofs.YtbkanebkobjnnaaGreatDoor
open Go.RowKit

theorem pre_yes {m p : List UInt8} (h : (((⟨m.toArray⟩ : ByteArray).extract 0 p.length).toList == p) = true) : m.take p.length = p := by
  rw [Lib.extract_eq] at h; simpa using h
theorem pre_no {m p : List UInt8} (h : (((⟨m.toArray⟩ : ByteArray).extract 0 p.length).toList == p) = false) : ¬ m.take p.length = p := by
  rw [Lib.extract_eq] at h; simpa using h
theorem side1 {p m : List UInt8} (h : (!Op.bytesLess p m) = true) : Nib.sideL p m = 1 := by
  unfold Nib.sideL; rw [if_pos (by simpa using h)]
theorem side0 {p m : List UInt8} (h : (!Op.bytesLess p m) = false) (h2 : m.take p.length = p) : Nib.sideL p m = 0 := by
  unfold Nib.sideL; rw [if_neg (by simpa using h), if_pos h2]
theorem sideM {p m : List UInt8} (h : (!Op.bytesLess p m) = false) (h2 : ¬ m.take p.length = p) : Nib.sideL p m = -1 := by
  unfold Nib.sideL; rw [if_neg (by simpa using h), if_neg h2]
theorem short_no {p m : List UInt8} (h : ¬ p.length ≤ m.length) : ¬ m.take p.length = p := by
  intro e; have := congrArg List.length e; simp at this; omega

set_option maxHeartbeats 400000 in
theorem side_any (p m : List UInt8) (w : World) :
    Calls Tryz.prog 41 #[.string ⟨p.toArray⟩, .string ⟨m.toArray⟩] w fun e w' => e = .returned (.int .i64 (Nib.sideL p m)) ∧ w = w' := by
  go_enter Tryz.func41, Tryz.ntmps41
  go_wp2
  · go_ret
    exact ⟨by rw [side1 ‹_›]; rfl, rfl⟩
  · go_ret
    exact ⟨by rw [side0 ‹_› (pre_yes ‹_›)]; rfl, rfl⟩
  · go_ret
    exact ⟨by rw [sideM ‹_› (pre_no ‹_›)]; rfl, rfl⟩
  · go_ret
    exact ⟨by rw [sideM ‹_› (short_no ‹_›)]; rfl, rfl⟩

set_option maxHeartbeats 400000 in
theorem rside_any (p m : List UInt8) (w : World) :
    Calls Tryz.prog 66 #[.string ⟨p.toArray⟩, .string ⟨m.toArray⟩] w fun e w' => e = .returned (.int .i64 (Nib.sideL p m)) ∧ w = w' := by
  go_enter Tryz.func66, Tryz.ntmps66
  go_wp2
  · go_ret
    exact ⟨by rw [side1 ‹_›]; rfl, rfl⟩
  · go_ret
    exact ⟨by rw [side0 ‹_› (pre_yes ‹_›)]; rfl, rfl⟩
  · go_ret
    exact ⟨by rw [sideM ‹_› (pre_no ‹_›)]; rfl, rfl⟩
  · go_ret
    exact ⟨by rw [sideM ‹_› (short_no ‹_›)]; rfl, rfl⟩

end Go.Proofs.YtbkanebkobjnnaaGreatDoor
namespace Go.Proofs.YtbkanebkobjnnaaGreatDoor
open Go.RowKit

set_option maxHeartbeats 400000 in
theorem fit_any (l : List UInt8) (w : World) (hl : l.length ≤ 1000000) :
    Calls Tryz.prog 69 #[.string ⟨l.toArray⟩] w fun e w' => e = .returned (.bool (Nib.fitL l)) ∧ w = w' := by
  go_enter Tryz.func69, Tryz.ntmps69
  go_wp2
  go_loop [6] (fun i => ∃ k : Nat, k ≤ l.length ∧ Nib.fitL (l.take k) = true ∧ i = .int .i64 k) (fun i => l.length - (intOf i).toNat)
  case atStart => exact ⟨0, Nat.zero_le _, rfl, rfl⟩
  case round =>
    obtain ⟨k, hk, hf, rfl⟩ := hrel
    have HF := Lib.hid hf; clear hf
    by_cases hlt : k < l.length
    · go_wp2
      · go_ret
        have hb : (15 : Int) < ((l[k].toNat : Nat) : Int) := by assumption
        exact ⟨by rw [Nib.fitL_false l k hlt (by omega)]; rfl, rfl⟩
      · go_round
        case rel =>
          have hb : ((l[k].toNat : Nat) : Int) ≤ 15 := by assumption
          exact ⟨k + 1, by omega, by rw [Nib.fitL_take_succ l k hlt, HF.out]; simp; omega, by go_num⟩
        case measure => simp [intOf]; omega
    · go_wp2
      go_ret
      have := HF.out
      rw [List.take_of_length_le (by omega)] at this
      exact ⟨by rw [this]; rfl, rfl⟩

set_option maxHeartbeats 400000 in
theorem rfit_any (l : List UInt8) (w : World) (hl : l.length ≤ 1000000) :
    Calls Tryz.prog 121 #[.string ⟨l.toArray⟩] w fun e w' => e = .returned (.bool (Nib.fitL l)) ∧ w = w' := by
  go_enter Tryz.func121, Tryz.ntmps121
  go_wp2
  go_loop [3] (fun i => ∃ k : Nat, k ≤ l.length ∧ Nib.fitL (l.take k) = true ∧ i = .int .i64 k) (fun i => l.length - (intOf i).toNat)
  case atStart => exact ⟨0, Nat.zero_le _, rfl, rfl⟩
  case round =>
    obtain ⟨k, hk, hf, rfl⟩ := hrel
    have HF := Lib.hid hf; clear hf
    by_cases hlt : k < l.length
    · go_wp2
      · go_ret
        have hb : (15 : Int) < ((l[k].toNat : Nat) : Int) := by assumption
        exact ⟨by rw [Nib.fitL_false l k hlt (by omega)]; rfl, rfl⟩
      · go_round
        case rel =>
          have hb : ((l[k].toNat : Nat) : Int) ≤ 15 := by assumption
          exact ⟨k + 1, by omega, by rw [Nib.fitL_take_succ l k hlt, HF.out]; simp; omega, by go_num⟩
        case measure => simp [intOf]; omega
    · go_wp2
      go_ret
      have := HF.out
      rw [List.take_of_length_le (by omega)] at this
      exact ⟨by rw [this]; rfl, rfl⟩

end Go.Proofs.YtbkanebkobjnnaaGreatDoor
namespace Go.Proofs.YtbkanebkobjnnaaGreatDoor
open Go.RowKit

set_option maxHeartbeats 400000 in
theorem rof_any (l : List UInt8) (w : World) (hl : l.length ≤ 1000000) :
    Calls Tryz.prog 33 #[.string ⟨l.toArray⟩] w fun e w' => e = .returned (.string ⟨(Nib.ofL l).toArray⟩) ∧ Below w.heap.size w w' := by
  go_enter Tryz.func33, Tryz.ntmps33
  go_wp2
  go_loopw [3, 4] (fun s i wr => ∃ k : Nat, k ≤ l.length ∧ i = .int .i64 k ∧ s = .string ⟨(Nib.ofL (l.take k)).toArray⟩ ∧ Below w.heap.size w wr) (fun _ i _ => l.length - (intOf i).toNat)
  case atStart => exact ⟨0, Nat.zero_le _, rfl, rfl, Below.refl _ _⟩
  case round =>
    obtain ⟨k, hk, rfl, rfl, hbel⟩ := hrel
    by_cases hlt : k < l.length
    · have h1 : (k : Int) < (l.length : Int) := by omega
      have hsn := Lib.hid (Nib.ofL_snoc l k hlt)
      have hlen := Nib.ofL_length (l.take k)
      have hb := hbel.size
      obtain ⟨ys, hys⟩ : ∃ ys, Nib.ofL (l.take k) = ys := ⟨_, rfl⟩
      have hyl : ys.length ≤ 4000000 := by rw [← hys]; simp [hlen]; omega
      have HY := Lib.hid hys
      rw [hys]
      clear hys hlen
      obtain ⟨c, hc⟩ : ∃ c, l[k] = c := ⟨_, rfl⟩
      have hidx : ∀ h, (⟨l.toArray⟩ : ByteArray)[k]'h = c := fun _ => hc
      rw [hc] at hsn
      clear hc
      have hcv := conv_two wr (c / 16) (c % 16) ((c.toNat : Int) / 16 % 256) ((c.toNat : Int) % 16) (by rw [Nib.toNat_div16]; have := byte_lt c; omega) (by rw [Nib.toNat_mod16])
      go_wp2
      go_region
      go_wp2
      go_roundw
      case rel =>
        refine ⟨k + 1, by omega, by go_num, ?_, (hbel.alloc hb _).drew⟩
        rw [hsn.out, HY.out]
        exact congrArg Value.string (cat_mk ys [c / 16, c % 16])
      case measure => simp [intOf]; omega
    · go_wp2
      go_ret
      rw [List.take_of_length_le (by omega)]
      exact ⟨rfl, hbel⟩

set_option maxHeartbeats 400000 in
theorem rkey_good (l : List UInt8) (w : World) (hl : l.length ≤ 1000000) (hf : Nib.fitL l = true) (ho : l.length % 2 = 0) :
    Calls Tryz.prog 122 #[.string ⟨l.toArray⟩] w fun e w' => e = .returned (.tuple #[.string ⟨(Nib.joinL l).toArray⟩, .int .i64 0]) ∧ Below w.heap.size w w' := by
  have HF := Lib.hid hf; clear hf
  have ho1 : ((l.length : Int) % 2 != 0) = false := by simp; omega
  have HO := Lib.hid ho
  clear ho
  go_enter Tryz.func122, Tryz.ntmps122
  go_wp2_with fail
  refine (rfit_any l w hl).mono ?_
  rintro e w1 ⟨rfl, rfl⟩
  rw [HF.out]
  go_wp2
  go_loopw [4, 5] (fun s i wr => ∃ k : Nat, 2 * k ≤ l.length ∧ i = .int .i64 (2 * (k : Int)) ∧ s = .string ⟨(Nib.joinL (l.take (2 * k))).toArray⟩ ∧ Below w.heap.size w wr) (fun _ i _ => l.length - (intOf i).toNat)
  case atStart => exact ⟨0, by omega, rfl, rfl, Below.refl _ _⟩
  case round =>
    obtain ⟨k, hk, rfl, rfl, hbel⟩ := hrel
    have hev := HO.out
    by_cases hlt : 2 * k < l.length
    · have h1 : (2 : Int) * (k : Int) < (l.length : Int) := by omega
      have h2 : (2 : Int) * (k : Int) + 1 < (l.length : Int) := by omega
      have hk2 : 2 * k + 1 < l.length := by omega
      have hsn := Lib.hid (Nib.joinL_snoc l k hk2)
      have hlen := Nib.joinL_length (l.take (2 * k))
      have HA := Nib.fitL_get l HF.out (2 * k) (by omega)
      have HC := Nib.fitL_get l HF.out (2 * k + 1) (by omega)
      have hb := hbel.size
      obtain ⟨ys, hys⟩ : ∃ ys, Nib.joinL (l.take (2 * k)) = ys := ⟨_, rfl⟩
      have hyl : ys.length ≤ 4000000 := by rw [← hys]; simp [hlen]; omega
      have HY := Lib.hid hys
      rw [hys]
      clear hys hlen hev
      obtain ⟨c, hc⟩ : ∃ c, l[2 * k] = c := ⟨_, rfl⟩
      obtain ⟨d, hd⟩ : ∃ d, l[2 * k + 1] = d := ⟨_, rfl⟩
      have hidx : ∀ h, (⟨l.toArray⟩ : ByteArray)[2 * k]'h = c := fun _ => hc
      have hidy : ∀ h, (⟨l.toArray⟩ : ByteArray)[2 * k + 1]'h = d := fun _ => hd
      rw [hc, hd] at hsn
      rw [hc] at HA
      rw [hd] at HC
      clear hc hd
      have e1 : IntKind.i64.wrap (2 * (k : Int) + 1) = 2 * (k : Int) + 1 := IntWalk.i64_in _ (by omega)
      have e3 : (0 : Int) ≤ 2 * (k : Int) := by omega
      have e4 : (0 : Int) ≤ 2 * (k : Int) + 1 := by omega
      have e5 : (2 * (k : Int)).toNat = 2 * k := by omega
      have e6 : (2 * (k : Int) + 1).toNat = 2 * k + 1 := by omega
      have hcv := conv_one wr (c * 16 + d) ((c.toNat : Int) * 16 + (d.toNat : Int)) (join_toNat c d HA HC)
      go_wp2
      go_region
      go_wp2
      go_roundw
      case rel =>
        refine ⟨k + 1, by omega, by go_num, ?_, (hbel.alloc hb _).drew⟩
        rw [hsn.out, HY.out]
        exact congrArg Value.string (cat_mk ys [c * 16 + d])
      case measure => simp [intOf]; omega
    · go_wp2
      go_ret2
      rw [Nib.joinL_take_end l k (by omega)]
      exact ⟨rfl, hbel⟩

end Go.Proofs.YtbkanebkobjnnaaGreatDoor
namespace Go.Proofs.YtbkanebkobjnnaaGreatDoor
open Go.RowKit

set_option maxRecDepth 8000 in
set_option maxHeartbeats 1000000 in
theorem rtIn_any (p f e : List UInt8) (w : World) (hf : f.length ≤ 1000000) (he : e.length ≤ 1000000) :
    Calls Tryz.prog 42 #[.string ⟨p.toArray⟩, .string ⟨f.toArray⟩, .string ⟨e.toArray⟩] w fun x w' => x = .returned (.bool (Tri.inL p f e)) ∧ Below w.heap.size w w' := by
  have HO1 := Lib.hid (fun w => rof_any f w hf)
  have HO2 := Lib.hid (fun w => rof_any e w he)
  have HS1 := Lib.hid (fun w => rside_any p (Nib.ofL f) w)
  have HS2 := Lib.hid (fun w => rside_any p (Nib.ofL e) w)
  have HB0 := Lib.hid (Below.refl w.heap.size w)
  unfold Tri.inL
  obtain ⟨F, hF⟩ : ∃ F, Nib.ofL f = F := ⟨_, rfl⟩
  obtain ⟨E, hE⟩ : ∃ E, Nib.ofL e = E := ⟨_, rfl⟩
  obtain ⟨s1, h1⟩ : ∃ s, Nib.sideL p F = s := ⟨_, rfl⟩
  obtain ⟨s2, h2⟩ : ∃ s, Nib.sideL p E = s := ⟨_, rfl⟩
  rw [hF] at HO1 HS1 ⊢
  rw [hE] at HO2 HS2 ⊢
  rw [h1] at HS1 ⊢
  rw [h2] at HS2 ⊢
  have HE : Hid ((e == []) = decide (e = [])) := Lib.hid (by cases e <;> rfl)
  clear hf he hF hE h1 h2
  by_cases c1 : s1 < 0
  · have d1 : decide (s1 < 0) = true := decide_eq_true c1
    rw [d1]
    go_enter Tryz.func42, Tryz.ntmps42
    go_wp2_with fail
    refine (HO1.out _).mono ?_
    rintro x w1 ⟨rfl, hb1⟩
    have HB1 := Lib.hid hb1
    clear hb1
    go_wp2_with fail
    refine (HS1.out _).mono ?_
    rintro x w2 ⟨rfl, rfl⟩
    go_wp2
    go_ret
    exact ⟨rfl, HB1.out⟩
  · have d1 : decide (s1 < 0) = false := decide_eq_false c1
    rw [d1]
    go_enter Tryz.func42, Tryz.ntmps42
    go_wp2_with fail
    refine (HO1.out _).mono ?_
    rintro x w1 ⟨rfl, hb1⟩
    have HB1 := Lib.hid hb1
    clear hb1
    go_wp2_with fail
    refine (HS1.out _).mono ?_
    rintro x w2 ⟨rfl, rfl⟩
    cases e with
    | nil =>
      go_wp2
      go_ret
      exact ⟨by simp, HB1.out⟩
    | cons a e =>
      go_wp2_with fail
      refine (HO2.out _).mono ?_
      rintro x w3 ⟨rfl, hb3⟩
      have HB3 := Lib.hid (bchain HB1.out hb3)
      clear hb3
      go_wp2_with fail
      refine (HS2.out _).mono ?_
      rintro x w4 ⟨rfl, rfl⟩
      go_wp2
      go_ret
      exact ⟨by simp, HB3.out⟩
end Go.Proofs.YtbkanebkobjnnaaGreatDoor
namespace Go.Proofs.YtbkanebkobjnnaaGreatDoor
open Go.RowKit
open Go.Proofs.YtbkanebkobjnnaaGreatDoor.Nd (N)

def ncl (n : N) : List Value := .int .i64 n.kind :: .string ⟨n.path.toArray⟩ :: .string ⟨n.val.toArray⟩ :: scells n.kids
def ndval (n : N) : Value := .agg (ncl n).toArray
theorem ncl_length (n : N) (h : n.kids.length = 16) : (ncl n).length = 19 := by simp [ncl, scells_length, h]
set_option maxRecDepth 100000 in
theorem Tryz.infoStrN : (Tryz.prog.info? 9).map (fun i => (i.zero, i.size, i.bytes)) = some (some (.string ⟨#[]⟩), 1, 16) := by kernel_rfl
/-- A node in a block. -/
def NodeAt (w : World) (g : Nat) (n : N) : Prop := w.heap[g]? = some (.cells (ncl n).toArray 73 (0, 0))
theorem NodeAt.kind {w : World} {g : Nat} {n : N} (h : NodeAt w g n) : w.cell? ⟨g, 0, none⟩ = some (.int .i64 n.kind) := by
  rw [cell_of_row w g 0 _ _ _ h]
  rfl
theorem NodeAt.path {w : World} {g : Nat} {n : N} (h : NodeAt w g n) : w.cell? ⟨g, 1, none⟩ = some (.string ⟨n.path.toArray⟩) := by
  rw [cell_of_row w g 1 _ _ _ h]
  rfl
theorem NodeAt.val {w : World} {g : Nat} {n : N} (h : NodeAt w g n) : w.cell? ⟨g, 2, none⟩ = some (.string ⟨n.val.toArray⟩) := by
  rw [cell_of_row w g 2 _ _ _ h]
  rfl
theorem NodeAt.kid {w : World} {g : Nat} {n : N} (h : NodeAt w g n) (i : Nat) (hi : i < n.kids.length) : w.cell? ⟨g, 3 + i, none⟩ = some (.string ⟨n.kids[i].toArray⟩) := by
  rw [cell_of_row w g (3 + i) _ _ _ h, List.getElem?_toArray, Nat.add_comm 3 i]
  show (scells n.kids)[i]? = _
  simp [scells, hi]
theorem NodeAt.below {w w' : World} {g : Nat} {n : N} (h : NodeAt w g n) (hb : Below w.heap.size w w') : NodeAt w' g n := (hb.block g (lt_of_heap h)).trans h
theorem Nd.kids_take (l : List (List UInt8)) (k : Nat) (hk : k < l.length) : Nd.kidsL (l.take (k + 1)) = if l[k] = [] then Nd.kidsL (l.take k) else Nd.kidsL (l.take k) ++ [l[k]] := by
  unfold Nd.kidsL
  rw [List.take_succ_eq_append_getElem hk, List.filter_append]
  by_cases h : l[k] = [] <;> simp [h]
theorem own_lowS {w : World} {B B' : Nat} {s : Value} {L : List (List UInt8)} (h : Own w B s L) (hB : B' ≤ B) : Own w B' s L := by
  refine ⟨h.1, ?_⟩
  rcases h.2 with hn | ⟨k, cap, cur, hv, hb, hk, hr⟩
  · exact Or.inl hn
  · exact Or.inr ⟨k, cap, cur, hv, Nat.le_trans hB hb, hk, hr⟩
def KidsPost (n : N) (w : World) (e : Ending) (w' : World) : Prop := ∃ z, e = .returned z ∧ Own w' w.heap.size z (Nd.kidsL n.kids) ∧ Below w.heap.size w w'

set_option maxRecDepth 100000 in
set_option maxHeartbeats 1000000 in
theorem rKids_any (n : N) (w : World) (hn : n.kids.length = 16) :
    Calls Tryz.prog 123 #[ndval n] w (KidsPost n w) := by
  unfold KidsPost ndval
  obtain ⟨i0, hi, hz0, hz1, hz2⟩ := info_parts Tryz.infoStrN
  have hat : NodeAt (w.alloc (.cells (ncl n).toArray 73)) w.heap.size n := heap_new_at w _ _ rfl
  have HAT := Lib.hid hat
  have hb0 : Below w.heap.size w (w.alloc (.cells (ncl n).toArray 73)) := (Below.refl _ w).alloc (Nat.le_refl _) _
  have HB0 := Lib.hid hb0
  have hcs : (ncl n).toArray.size = 19 := by rw [List.size_toArray, ncl_length n hn]
  obtain ⟨C, hC⟩ : ∃ C, (ncl n).toArray = C := ⟨_, rfl⟩
  rw [hC] at HAT HB0 hcs ⊢
  clear hat hb0 hC
  go_enter Tryz.func123, Tryz.ntmps123
  go_wp2
  generalize (w.alloc (.cells C 73)) = w0 at *
  have HSZ : Hid (w.heap.size < w0.heap.size) := Lib.hid (lt_of_heap (HAT.out))
  have HRW : Hid (∀ w', Below w0.heap.size w0 w' → ∀ i (hi : i < n.kids.length), w'.cell? ⟨w.heap.size, 3 + i, none⟩ = some (.string ⟨n.kids[i].toArray⟩)) := Lib.hid (fun w' h i hi => (HAT.out.below h).kid i hi)
  go_loopw [3, 4] (fun sl i wr => ∃ (k : Nat) (z : Value), z = sl ∧ k ≤ 16 ∧ i = .int .i64 k ∧ Own wr w0.heap.size z (Nd.kidsL (n.kids.take k)) ∧ Below w0.heap.size w0 wr) (fun _ i _ => 16 - (intOf i).toNat)
  case atStart => exact ⟨0, _, rfl, Nat.zero_le _, rfl, Own.nil _ _, Below.refl _ _⟩
  case round =>
    obtain ⟨k, z, rfl, hk, rfl, hown, hb⟩ := hrel
    have HBk := Lib.hid hb
    have HOW := Lib.hid hown
    by_cases hlt : k < 16
    · have h1 : (k : Int) < 16 := by omega
      have h0 : (0 : Int) ≤ (k : Int) := by omega
      have n0 := HRW.out wr hb k (by omega)
      have HST := Lib.hid (Nd.kids_take n.kids k (by omega))
      have hln : (Nd.kidsL (n.kids.take k)).length ≤ 16 := by
        unfold Nd.kidsL
        refine Nat.le_trans (List.length_filter_le _ _) ?_
        rw [List.length_take]
        omega
      obtain ⟨x, hx⟩ : ∃ x, n.kids[k]'(by omega) = x := ⟨_, rfl⟩
      rw [hx] at n0 HST
      obtain ⟨O, hO⟩ : ∃ O, Nd.kidsL (n.kids.take k) = O := ⟨_, rfl⟩
      rw [hO] at HOW HST hln
      have HSZr : Hid (w0.heap.size ≤ wr.heap.size) := Lib.hid hb.size
      have HLN := Lib.hid hln
      clear hx hO hown hln hb
      by_cases he : x = []
      · subst he
        rw [if_pos rfl] at HST
        go_wp2
        exact ⟨⟨k + 1, z, rfl, by omega, by go_num, by rw [HST.out]; exact HOW.out, HBk.out⟩, by simp [intOf]; omega⟩
      · rw [if_neg he] at HST
        have hx1 : (x == []) = false := by rw [beq_eq_false_iff_ne]; exact he
        have hx2 : ¬ (x = []) := he
        go_wp2_with (at_builtin; refine wpList_append_lies _ rfl _ _ _ rfl w0.heap.size 9 i0 (.string ⟨#[]⟩) 1 16 Tryz.underlying36 hi hz0 hz1 hz2 rfl (by decide) z O.length (scells O) (by rfl) (World.ownsRow.alloc HOW.out _) ⟨wr.heap.size, 0, none⟩ 1 1 (scells [x]) (by rfl) rfl (World.news_of_block (heap_new_at _ _ _ rfl)) (by simp [scells, Value.oneCell']) (by decide) (by have := HLN.out; unfold maxLen; omega) (by have := HLN.out; omega) (by have := HSZr.out; simp; omega) (wr.heap.size + 1) (by simp) ?_; intro g' cap' w5 hown5 hgrow5 hat5 hlt5)
        have hB5 : Below w0.heap.size w0 w5 := HBk.out.trans (((Out.of ((Below.refl _ wr).alloc (Nat.le_refl _) _)).trans (Out.grown hgrow5 (F := fun j => z.ownBlock = some j) (fun j e => e))).below (fun j hj => (HOW.out.lt j hj).1) HSZr.out)
        refine ⟨⟨k + 1, _, rfl, by omega, by go_num, ?_, hB5⟩, by simp [intOf]; omega⟩
        rw [HST.out]
        unfold Own
        rw [scells_append, List.length_append]
        exact hown5
    · have h1 : ¬ ((k : Int) < 16) := by omega
      obtain rfl : k = 16 := by omega
      rw [List.take_of_length_le (by omega)] at HOW
      clear hown hb
      go_wp2
      go_ret
      exact ⟨z, rfl, (own_lowS HOW.out (Nat.le_of_lt HSZ.out)), HB0.out.trans (HBk.out.mono (Nat.le_of_lt HSZ.out))⟩
end Go.Proofs.YtbkanebkobjnnaaGreatDoor
namespace Go.Proofs.YtbkanebkobjnnaaGreatDoor
open Go.RowKit
open Go.Proofs.YtbkanebkobjnnaaGreatDoor.Nd (N)

/-- A node at its place, as it lies in memory; dg is the sum of a node. -/
def spcl (dg : N → List UInt8) (p : List UInt8 × N) : List Value := if p.2.kids.length = 16 then .string ⟨p.1.toArray⟩ :: .string ⟨(Nd.written p.2).toArray⟩ :: .string ⟨(dg p.2).toArray⟩ :: ncl p.2 else List.replicate 22 (.int .i64 0)
theorem spcl_length (dg : N → List UInt8) (p : List UInt8 × N) : (spcl dg p).length = 22 := by
  unfold spcl
  by_cases h : p.2.kids.length = 16
  · rw [if_pos h]; simp [ncl_length _ h]
  · rw [if_neg h]; rfl
theorem spcl_one (dg : N → List UInt8) (p : List UInt8 × N) : ∀ u ∈ spcl dg p, u.oneCell' = true := by
  intro u hu
  unfold spcl at hu
  by_cases h : p.2.kids.length = 16
  · rw [if_pos h] at hu
    simp only [List.mem_cons] at hu
    rcases hu with rfl | rfl | rfl | hu
    · rfl
    · rfl
    · rfl
    · unfold ncl at hu
      simp only [List.mem_cons] at hu
      rcases hu with rfl | rfl | rfl | hu
      · rfl
      · rfl
      · rfl
      · unfold scells at hu
        obtain ⟨x, _, rfl⟩ := List.mem_map.1 hu
        rfl
  · rw [if_neg h] at hu
    rw [(List.mem_replicate.1 hu).2]; rfl
set_option maxRecDepth 100000 in
theorem Tryz.infoStrT : (Tryz.prog.info? 9).map (fun i => (i.zero, i.size, i.bytes)) = some (some (.string ⟨#[]⟩), 1, 16) := by kernel_rfl
/-- A slice that has these nodes, each at its place. -/
def SpAt (dg : N → List UInt8) (w : World) (v : Value) (L : List (List UInt8 × N)) : Prop := RowsAt 75 22 (spcl dg) w v L
theorem SpAt.at {dg : N → List UInt8} {w : World} {A : Option Addr} {n cap : Nat} {S : List (List UInt8 × N)} (h : SpAt dg w (.slice A n cap) S) (k : Nat) (hk : k < S.length) (h16 : S[k].2.kids.length = 16) :
    ∃ b o, A = some ⟨b, o, none⟩ ∧ w.cell? ⟨b, o + k * 22, none⟩ = some (.string ⟨(S[k].1).toArray⟩) ∧ w.cell? ⟨b, o + k * 22 + 1, none⟩ = some (.string ⟨(Nd.written S[k].2).toArray⟩) ∧ w.cell? ⟨b, o + k * 22 + 2, none⟩ = some (.string ⟨(dg S[k].2).toArray⟩) := by
  obtain ⟨b, o, rfl, h1⟩ := RowsAt.at h k hk
  exact ⟨b, o, rfl, h1 0 _ (by rw [spcl, if_pos h16]; rfl), h1 1 _ (by rw [spcl, if_pos h16]; rfl), h1 2 _ (by rw [spcl, if_pos h16]; rfl)⟩
theorem own_step {w wr w2 : World} {u v' : Value} {O : List (List UInt8)} {y : List UInt8} {o : Obj} (hb : Below w.heap.size w wr) (hs : Own wr w.heap.size u O) (hg : (wr.alloc o).grownBy w2 u.ownBlock)
    (ho : w2.ownsRow w.heap.size 9 1 v' (O.length + 1) (scells O ++ scells [y])) : Own w2 w.heap.size v' (O ++ [y]) ∧ Below w.heap.size w w2 := by
  refine ⟨by unfold Own; rw [scells_append, List.length_append]; exact ho, ?_⟩
  exact (hb.alloc hb.size o).trans ((Out.grown hg (F := fun j => u.ownBlock = some j) (fun j e => e)).below (fun j hj => (hs.lt j hj).1) (hb.alloc hb.size o).size)
def Tri.textsOf (L : List (List UInt8 × N)) : List (List UInt8) := L.map fun p => Nd.written p.2
theorem Tri.textsOf_take {L : List (List UInt8 × N)} {k : Nat} (h : k < L.length) : Tri.textsOf (L.take (k + 1)) = Tri.textsOf (L.take k) ++ [Nd.written L[k].2] := by
  rw [List.take_succ_eq_append_getElem h, Tri.textsOf, List.map_append]; rfl
set_option maxRecDepth 8000 in
set_option maxHeartbeats 2000000 in
theorem rtTexts_any (dg : N → List UInt8) (L : List (List UInt8 × N)) (v : Value) (w : World) (hv : SpAt dg w v L) (hl : L.length ≤ 10000) (h16 : ∀ p ∈ L, p.2.kids.length = 16) :
    Calls Tryz.prog 12 #[v] w fun e w' => ∃ s, e = .returned s ∧ Own w' w.heap.size s (Tri.textsOf L) ∧ Below w.heap.size w w' := by
  have HV := Lib.hid hv
  have HL := Lib.hid hl
  have H16 := Lib.hid h16
  have HB0 := Lib.hid (Below.refl w.heap.size w)
  have HN0 := Lib.hid (Own.nil w w.heap.size)
  obtain ⟨i0, hi, hz0, hz1, hz2⟩ := info_parts Tryz.infoStrT
  obtain ⟨A, cap, rfl, -, -⟩ := hv.form
  clear hv h16
  go_enter Tryz.func12, Tryz.ntmps12
  go_wp2
  go_loopw [3, 4] (fun av iv wr => ∃ (k : Nat) (u : Value), u = av ∧ k ≤ L.length ∧ iv = .int .i64 k ∧ Own wr w.heap.size u (Tri.textsOf (L.take k)) ∧ Below w.heap.size w wr) (fun _ i _ => L.length - (intOf i).toNat)
  case atStart => exact ⟨0, _, rfl, Nat.zero_le _, rfl, HN0.out, HB0.out⟩
  case round =>
    obtain ⟨k, u, rfl, hk, rfl, hu, hb⟩ := hrel
    have HB := Lib.hid hb
    have HU := Lib.hid hu
    by_cases hlt : k < L.length
    · have h1 : (k : Int) < (L.length : Int) := by omega
      have h0 : (0 : Int) ≤ (k : Int) := by omega
      have hnb : (k : Int) ≤ 100000 := by omega
      have HVW := Lib.hid (RowsAt.below HV.out hb)
      obtain ⟨b, o, rfl, n0, n1, n2⟩ := SpAt.at HVW.out k hlt (H16.out _ (List.getElem_mem hlt))
      have HTK := Lib.hid (Tri.textsOf_take hlt)
      obtain ⟨y, hy⟩ : ∃ y, Nd.written L[k].2 = y := ⟨_, rfl⟩
      rw [hy] at HTK n1
      obtain ⟨O, hO⟩ : ∃ O, Tri.textsOf (L.take k) = O := ⟨_, rfl⟩
      have hOl : O.length = k := by rw [← hO]; simp [Tri.textsOf]; omega
      rw [hO] at HTK HU
      have HTL : Hid (O.length ≤ 10000) := Lib.hid (by have := HL.out; omega)
      have HSZ := Lib.hid HB.out.size
      have HSTP := Lib.hid (fun w2 v' => own_step (w2 := w2) (v' := v') (y := y) (o := .cells #[.string ⟨y.toArray⟩] 9) HB.out HU.out)
      clear hu hb hy hO hOl n0 n2
      go_wp2_with (at_builtin; refine wpList_append_lies _ rfl _ _ _ rfl w.heap.size 9 i0 (.string ⟨#[]⟩) 1 16 Tryz.underlying36 hi hz0 hz1 hz2 rfl (by decide) u O.length (scells O) (by rfl) (World.ownsRow.alloc HU.out _) ⟨wr.heap.size, 0, none⟩ 1 1 (scells [y]) (by rfl) rfl (World.news_of_block (heap_new_at _ _ _ (by simp))) (by simp [scells, Value.oneCell']) (by decide) (by have := HTL.out; unfold maxLen; omega) (by have := HTL.out; omega) (by have := HSZ.out; simp; omega) (wr.heap.size + 1) (by simp) ?_; intro g' cap' w5 hown5 hgrow5 hat5 hlt5)
      have HS5 := Lib.hid (HSTP.out w5 _ hgrow5 hown5)
      clear hown5 hgrow5 hat5 hlt5
      refine ⟨⟨k + 1, _, rfl, by omega, by go_num, by rw [HTK.out]; exact HS5.out.1, HS5.out.2⟩, by simp [intOf]; omega⟩
    · obtain rfl : k = L.length := by omega
      have h1 : ¬ ((L.length : Int) < (L.length : Int)) := by omega
      have HEND := Lib.hid hu
      clear hu hb
      go_wp2
      go_ret
      refine ⟨_, rfl, ?_, HB.out⟩
      have := HEND.out
      rwa [List.take_length] at this
end Go.Proofs.YtbkanebkobjnnaaGreatDoor
namespace Go.Proofs.YtbkanebkobjnnaaGreatDoor
open Go.RowKit
open Go.Proofs.YtbkanebkobjnnaaGreatDoor.Nd (N)

theorem drop_beq (L K : List (List UInt8)) (i : Nat) (hL : i < L.length) (hK : i < K.length) : (L.drop i == K.drop i) = ((L[i] == K[i]) && (L.drop (i + 1) == K.drop (i + 1))) := by
  rw [List.drop_eq_getElem_cons hL, List.drop_eq_getElem_cons hK, List.cons_beq_cons]
theorem eq_strs (d : Nat) (L K : List (List UInt8)) (w : World) (hL : L.length = 16) (hK : K.length = 16) :
    (Op.equalIn (d + 2) 71 (.agg (scells L).toArray) (.agg (scells K).toArray)).run Tryz.prog w = .ok (L == K) w := by
  have hu := Tryz.underlying71
  have hs := Tryz.sizeOf9
  have ha := Tryz.isAgg9
  unfold Op.equalIn
  go_simp
  generalize hF : (fun (i : Nat) (__s : Option Bool × PUnit) => _) = F
  have hstep : ∀ i (hi : i < 16) s, (F i s).run Tryz.prog w = .ok (if (L[i]'(by omega) == K[i]'(by omega)) = true then ForInStep.yield (none, ()) else ForInStep.done (some false, ())) w := by
    intro i hi s
    rw [← hF]
    have e1 : (scells L)[i]? = some (.string ⟨(L[i]'(by omega)).toArray⟩) := by simp [scells, hL, hi]
    have e2 : (scells K)[i]? = some (.string ⟨(K[i]'(by omega)).toArray⟩) := by simp [scells, hK, hi]
    simp only [Sem.run_bind, e1, e2]
    go_simp
    by_cases hc : (L[i]'(by omega)) = (K[i]'(by omega)) <;> simp [hc]
  clear hF
  have key : ∀ n a, a + n = 16 → (forIn (List.range' a n) (none, ()) F).run Tryz.prog w = .ok (if (L.drop a == K.drop a) = true then (none, ()) else (some false, ())) w := by
    intro n
    induction n with
    | zero =>
      intro a h
      rw [List.drop_of_length_le (by omega), List.drop_of_length_le (by omega)]
      simp
    | succ n ih =>
      intro a h
      rw [List.range'_succ, List.forIn_cons, Sem.run_bind, hstep a (by omega), drop_beq L K a (by omega) (by omega)]
      cases hc : (L[a]'(by omega) == K[a]'(by omega))
      · simp
      · simp [ih (a + 1) (by omega)]
  rw [key 16 0 rfl]
  simp only [List.drop_zero]
  cases (L == K) <;> simp
end Go.Proofs.YtbkanebkobjnnaaGreatDoor
namespace Go.Proofs.YtbkanebkobjnnaaGreatDoor
open Go.Proofs.YtbkanebkobjnnaaGreatDoor.Nd (N)
def Nd.pathB (p : List UInt8) : Bool := decide (p.length ≤ 16) && Nib.fitL p
def Nd.none16 : List (List UInt8) := List.replicate 16 []
def Nd.leafB (n : N) : Bool := Nd.pathB n.path && (decide (n.val ≠ []) && (decide (n.val.length ≤ 32) && (n.kids == Nd.none16)))
def Nd.extB (n : N) : Bool := decide (n.path ≠ []) && (Nd.pathB n.path && (decide (n.val = []) && (decide ((n.kids.getD 0 []).length = 32) && (n.kids.set 0 [] == Nd.none16))))
def Nd.branchB (n : N) : Bool := decide (n.path = []) && (decide (n.val.length ≤ 32) && (Nd.all32 n.kids && decide (2 ≤ (if n.val = [] then 0 else 1) + (Nd.kidsL n.kids).length)))
theorem Nd.all32_take (l : List (List UInt8)) (k : Nat) (hk : k < l.length) : Nd.all32 (l.take (k + 1)) = (Nd.all32 (l.take k) && (decide (l[k] = []) || decide (l[k].length = 32))) := by
  unfold Nd.all32
  rw [List.take_succ_eq_append_getElem hk, List.all_append]
  simp
def Nd.takenL (L : List (List UInt8)) : List UInt8 := [Nd.byteN (Nd.bits8 (L.take 8)), Nd.byteN (Nd.bits8 (L.drop 8))]
theorem Nd.kidsL_nil (l : List (List UInt8)) : Nd.kidsL l = [] ↔ l = List.replicate l.length [] := by
  unfold Nd.kidsL
  rw [List.filter_eq_nil_iff, List.eq_replicate_iff]
  simp
theorem Nd.all32_none (k : Nat) : Nd.all32 (List.replicate k []) = true := by
  simp [Nd.all32]
theorem Nd.all32_cons (x : List UInt8) (l : List (List UInt8)) : Nd.all32 (x :: l) = ((decide (x = []) || decide (x.length = 32)) && Nd.all32 l) := rfl
theorem Nd.kidsL_cons (x : List UInt8) (l : List (List UInt8)) : Nd.kidsL (x :: l) = if x = [] then Nd.kidsL l else x :: Nd.kidsL l := by
  unfold Nd.kidsL
  by_cases h : x = [] <;> simp [h]
theorem Nd.fine_kinds (n : N) (hn : n.kids.length = 16) : Nd.fine n = if n.kind = 1 then Nd.leafB n else if n.kind = 2 then Nd.extB n else if n.kind = 3 then Nd.branchB n else false := by
  obtain ⟨kd, p, v, ks⟩ := n
  simp only at hn
  by_cases k1 : kd = 1
  · subst k1
    rw [if_pos rfl, Bool.eq_iff_iff]
    have h0 := Nd.kidsL_nil ks
    rw [hn] at h0
    simp only [Nd.fine, Nd.leafB, Nd.pathB, Nd.none16, if_pos, Bool.and_eq_true, decide_eq_true_eq, List.length_eq_zero_iff, beq_iff_eq, h0]
    constructor
    · rintro ⟨-, a, b, c, d, e⟩
      exact ⟨⟨b, a⟩, e, c, d⟩
    · rintro ⟨⟨b, a⟩, e, c, d⟩
      exact ⟨by rw [d]; exact Nd.all32_none 16, a, b, c, d, e⟩
  rw [if_neg k1]
  by_cases k2 : kd = 2
  · subst k2
    rw [if_pos rfl, Bool.eq_iff_iff]
    match ks, hn with
    | z :: l, hn =>
      have hl : l.length = 15 := by simpa using hn
      have h0 := Nd.kidsL_nil l
      rw [hl] at h0
      have h1 : ((z :: l).set 0 [] = Nd.none16) ↔ l = List.replicate 15 [] := by
        simp [Nd.none16, List.replicate_succ]
      simp only [Nd.fine, Nd.extB, Nd.pathB, if_neg (show ¬ (2 : Int) = 1 by decide), if_pos, Bool.and_eq_true, decide_eq_true_eq, beq_iff_eq, h1, Nd.all32_cons, Nd.kidsL_cons, List.getD_cons_zero, Bool.or_eq_true]
      constructor
      · rintro ⟨⟨a1, a2⟩, b, c, d, e, f, g, h⟩
        rw [if_neg f, List.length_cons] at e
        have e0 : Nd.kidsL l = [] := List.eq_nil_of_length_eq_zero (by omega)
        exact ⟨fun q => by rw [q] at g; simp at g, ⟨c, b⟩, h, a1.resolve_left f, h0.1 e0⟩
      · rintro ⟨a, ⟨c, b⟩, h, d, e⟩
        have hz : z ≠ [] := fun q => by rw [q] at d; simp at d
        refine ⟨⟨Or.inr d, by rw [e]; exact Nd.all32_none 15⟩, b, c, by rw [h]; simp, ?_, hz, ?_, h⟩
        · rw [if_neg hz, h0.2 e]; rfl
        · cases p with
          | nil => exact absurd rfl a
          | cons x y => simp
  rw [if_neg k2]
  by_cases k3 : kd = 3
  · subst k3
    rw [if_pos rfl, Bool.eq_iff_iff]
    simp only [Nd.fine, Nd.branchB, if_neg (show ¬ (3 : Int) = 1 by decide), if_neg (show ¬ (3 : Int) = 2 by decide), if_pos, Bool.and_eq_true, decide_eq_true_eq, Bool.or_eq_true]
    constructor
    · rintro ⟨a, b, c, d, e, f⟩
      refine ⟨List.eq_nil_of_length_eq_zero e, d, a, ?_⟩
      by_cases hv : v = []
      · rw [if_pos hv]
        rcases f with f | f
        · omega
        · exact absurd hv f.2
      · rw [if_neg hv]
        omega
    · rintro ⟨a, b, c, d⟩
      subst a
      refine ⟨c, rfl, Nat.zero_le _, b, rfl, ?_⟩
      by_cases hv : v = []
      · rw [if_pos hv] at d
        exact Or.inl (by omega)
      · rw [if_neg hv] at d
        by_cases h2 : 2 ≤ (Nd.kidsL ks).length
        · exact Or.inl h2
        · exact Or.inr ⟨by omega, hv⟩
  rw [if_neg k3]
  simp [Nd.fine, k1, k2, k3]
end Go.Proofs.YtbkanebkobjnnaaGreatDoor
