/- TriList, TriRefList, TriRefGet, TriRefPut, TriRefDel, ExecMath -/
import Derived.Test.YtlckcfpdiigjiaaGreatDoorPk02
import Derived.Test.YtlckcfpdiigjiaaGreatDoorPk04
import Derived.Test.YtlckcfpdiigjiaaGreatDoorPk01
import Derived.WalkSpells
import Derived.WalkLawsBesides
import Derived.Lib.Strings
import Derived.WalkKit
import Derived.Lib.Hide
namespace Go.Proofs.YtlckcfpdiigjiaaGreatDoor.Tri
open Sto (T St Rising keys)

def put : St → T → T → St
  | [], k, v => [(k, v)]
  | a :: r, k, v => if a.1 < k then a :: put r k v else if a.1 = k then (k, v) :: r else (k, v) :: a :: r
def del : St → T → St
  | [], _ => []
  | a :: r, k => if a.1 = k then r else a :: del r k
/-- The place of a key, or of the first one behind it. -/
def pos : St → T → Nat
  | [], _ => 0
  | a :: r, k => if a.1 < k then pos r k + 1 else 0

theorem pos_le (S : St) (k : T) : pos S k ≤ S.length := by
  induction S with
  | nil => simp [pos]
  | cons a r ih => rw [pos]; split <;> simp <;> omega
theorem pos_of (S : St) (k : T) (i : Nat) (hi : i ≤ S.length) (hlo : ∀ j (h : j < i), (S[j]'(by omega)).1 < k) (hhi : ∀ h : i < S.length, ¬ S[i].1 < k) : pos S k = i := by
  induction S generalizing i with
  | nil => simp at hi; simp [pos, hi]
  | cons a r ih =>
    cases i with
    | zero =>
      have := hhi (by simp)
      rw [pos, if_neg (by simpa using this)]
    | succ i =>
      have := hlo 0 (by omega)
      rw [pos, if_pos (by simpa using this), ih i (by simpa using hi) (fun j h => by simpa using hlo (j + 1) (by omega)) (fun h => by have h2 := hhi (by simpa using h); rw [List.getElem_cons_succ] at h2; exact h2)]
/-- Is the key at its place? -/
def at_ (S : St) (k : T) : Bool := (S[pos S k]?.map (·.1)) == some k
theorem at_cons (a : T × T) (r : St) (k : T) : at_ (a :: r) k = if a.1 < k then at_ r k else decide (a.1 = k) := by
  unfold at_
  rw [pos]
  split
  · simp
  · rw [Bool.eq_iff_iff]; simp
theorem at_look {S : St} (hS : Rising S) (k : T) : at_ S k = (Sto.look S k).isSome := by
  induction S with
  | nil => simp [at_, Sto.look]
  | cons a r ih =>
    obtain ⟨h1, h2⟩ := List.pairwise_cons.1 hS
    rw [at_cons, Sto.look, ih h2]
    by_cases e : a.1 < k
    · rw [if_pos e, if_neg (fun h => Sto.lt_ne e h.symm)]
    · rw [if_neg e]
      by_cases e2 : k = a.1
      · simp [e2]
      · rw [if_neg e2]
        have : k < a.1 := ((Sto.tri k a.1).resolve_right (fun h => h.elim e2 e))
        rw [show Sto.look r k = none from (Sto.look_none r k).2 fun hm => by
          obtain ⟨b, hb, rfl⟩ := List.mem_map.1 hm
          exact List.lt_irrefl _ (List.lt_trans this (h1 b hb))]
        simp; exact fun h => e2 h.symm
theorem look_pos {S : St} (hS : Rising S) (k : T) (h : at_ S k = true) : ∃ hp : pos S k < S.length, S[pos S k].1 = k ∧ Sto.look S k = some S[pos S k].2 := by
  unfold at_ at h
  have hp : pos S k < S.length := by
    rcases Nat.lt_or_ge (pos S k) S.length with h2 | h2
    · exact h2
    · rw [List.getElem?_eq_none h2] at h; simp at h
  rw [List.getElem?_eq_getElem hp] at h
  have e : S[pos S k].1 = k := by simpa using h
  exact ⟨hp, e, by
    have := Sto.look_at hS _ hp
    rw [e] at this; exact this⟩
theorem put_eq (S : St) (k v : T) : put S k v = S.take (pos S k) ++ (k, v) :: S.drop (pos S k + if at_ S k then 1 else 0) := by
  induction S with
  | nil => simp [put, pos, at_]
  | cons a r ih =>
    rw [put, at_cons, pos]
    by_cases e : a.1 < k
    · rw [if_pos e, if_pos e, if_pos e, ih, show pos r k + 1 + (if at_ r k = true then 1 else 0) = pos r k + (if at_ r k = true then 1 else 0) + 1 by omega]; simp
    · rw [if_neg e, if_neg e, if_neg e]
      by_cases e2 : a.1 = k
      · simp [e2]
      · simp [e2]
theorem del_eq {S : St} (hS : Rising S) (k : T) (h : at_ S k = true) : del S k = S.take (pos S k) ++ S.drop (pos S k + 1) := by
  induction S with
  | nil => simp [at_, pos] at h
  | cons a r ih =>
    obtain ⟨h1, h2⟩ := List.pairwise_cons.1 hS
    rw [at_cons] at h
    rw [del, pos]
    by_cases e : a.1 < k
    · rw [if_pos e] at h
      rw [if_pos e, if_neg (Sto.lt_ne e), ih h2 h]; simp
    · rw [if_neg e] at h
      rw [if_neg e, if_pos (by simpa using h)]; simp
theorem put_mem {S : St} {k v : T} {p : T × T} (h : p ∈ put S k v) : p ∈ S ∨ p = (k, v) := by
  induction S with
  | nil => simp [put] at h; exact Or.inr h
  | cons a r ih =>
    rw [put] at h
    split at h
    · rcases List.mem_cons.1 h with h | h
      · exact Or.inl (by rw [h]; exact List.mem_cons_self ..)
      · exact (ih h).imp (List.mem_cons_of_mem _) id
    · split at h
      · rcases List.mem_cons.1 h with h | h
        · exact Or.inr h
        · exact Or.inl (List.mem_cons_of_mem _ h)
      · rcases List.mem_cons.1 h with h | h
        · exact Or.inr h
        · exact Or.inl h
theorem put_rising {S : St} (hS : Rising S) (k v : T) : Rising (put S k v) := by
  induction S with
  | nil => simp [put, Rising]
  | cons a r ih =>
    obtain ⟨h1, h2⟩ := List.pairwise_cons.1 hS
    rw [put]
    split
    · rename_i l
      refine List.pairwise_cons.2 ⟨fun b hb => ?_, ih h2⟩
      rcases put_mem hb with hb | rfl
      · exact h1 b hb
      · exact l
    · rename_i l
      split
      · rename_i e
        subst e
        exact List.pairwise_cons.2 ⟨fun b hb => h1 b hb, h2⟩
      · rename_i e
        have l2 : k < a.1 := ((Sto.tri k a.1).resolve_right (fun h => h.elim (fun h => e h.symm) l))
        refine List.pairwise_cons.2 ⟨fun b hb => ?_, hS⟩
        rcases List.mem_cons.1 hb with rfl | hb
        · exact l2
        · exact List.lt_trans l2 (h1 b hb)
theorem look_put (S : St) (k v x : T) : Rising S → Sto.look (put S k v) x = if x = k then some v else Sto.look S x := by
  intro hS
  induction S with
  | nil => simp [put, Sto.look]
  | cons a r ih =>
    obtain ⟨h1, h2⟩ := List.pairwise_cons.1 hS
    rw [put]
    by_cases e : a.1 < k
    · rw [if_pos e, Sto.look, ih h2, Sto.look]
      by_cases ex : x = a.1
      · rw [if_pos ex, if_pos ex, if_neg (fun h => Sto.lt_ne e (ex.symm.trans h))]
      · rw [if_neg ex, if_neg ex]
    · rw [if_neg e]
      by_cases e2 : a.1 = k
      · rw [if_pos e2, Sto.look, Sto.look, e2]
        by_cases ex : x = k <;> simp [ex]
      · rw [if_neg e2, Sto.look, Sto.look]
theorem del_mem {S : St} {k : T} {p : T × T} (h : p ∈ del S k) : p ∈ S := by
  induction S with
  | nil => simp [del] at h
  | cons a r ih =>
    rw [del] at h
    split at h
    · exact List.mem_cons_of_mem _ h
    · rcases List.mem_cons.1 h with h | h
      · rw [h]; exact List.mem_cons_self ..
      · exact List.mem_cons_of_mem _ (ih h)
theorem del_rising {S : St} (hS : Rising S) (k : T) : Rising (del S k) := by
  induction S with
  | nil => simp [del, Rising]
  | cons a r ih =>
    obtain ⟨h1, h2⟩ := List.pairwise_cons.1 hS
    rw [del]
    split
    · exact h2
    · exact List.pairwise_cons.2 ⟨fun b hb => h1 b (del_mem hb), ih h2⟩
theorem look_del {S : St} (hS : Rising S) (k x : T) : Sto.look (del S k) x = if x = k then none else Sto.look S x := by
  induction S with
  | nil => simp [del, Sto.look]
  | cons a r ih =>
    obtain ⟨h1, h2⟩ := List.pairwise_cons.1 hS
    rw [del]
    by_cases e : a.1 = k
    · rw [if_pos e, Sto.look]
      by_cases ex : x = k
      · rw [if_pos ex, ex]
        exact (Sto.look_none r k).2 fun hm => by
          obtain ⟨b, hb, hk⟩ := List.mem_map.1 hm
          exact Sto.lt_ne (h1 b hb) (e.trans hk.symm)
      · rw [if_neg ex, if_neg (fun h => ex (h.trans e))]
    · rw [if_neg e, Sto.look, ih h2, Sto.look]
      by_cases ex : x = a.1
      · rw [if_pos ex, if_pos ex, if_neg (fun h => e (ex.symm.trans h))]
      · rw [if_neg ex, if_neg ex]
/-- A list that rises is told by what it has. -/
theorem look_ext {S R : St} (hS : Rising S) (hR : Rising R) (h : ∀ x, Sto.look S x = Sto.look R x) : S = R := by
  have hm : ∀ p : T × T, p ∈ S ↔ p ∈ R := fun p => by rw [← Sto.look_mem hS p.1 p.2, ← Sto.look_mem hR p.1 p.2, h]
  have nS : S.Nodup := List.Pairwise.imp (R := fun (a b : T × T) => a.1 < b.1) (fun {a b} h e => Sto.lt_ne h (congrArg Prod.fst e)) hS
  have nR : R.Nodup := List.Pairwise.imp (R := fun (a b : T × T) => a.1 < b.1) (fun {a b} h e => Sto.lt_ne h (congrArg Prod.fst e)) hR
  have hp : S.Perm R := (List.perm_ext_iff_of_nodup nS nR).2 hm
  refine hp.eq_of_pairwise (le := fun a b => a.1 ≤ b.1) (fun x y hx hy h1 h2 => ?_) (hS.imp fun h => List.le_of_lt h) (hR.imp fun h => List.le_of_lt h)
  have e : x.1 = y.1 := List.le_antisymm h1 h2
  have a1 := (Sto.look_mem hS x.1 x.2).2 hx
  have a2 := (Sto.look_mem hS y.1 y.2).2 ((hm y).2 hy)
  rw [e, a2] at a1
  exact Prod.ext e (Option.some.inj a1).symm
theorem put_len (S : St) (k v : T) : (put S k v).length = S.length + if at_ S k then 0 else 1 := by
  rw [put_eq]
  have := pos_le S k
  by_cases h : at_ S k
  · have hp : pos S k < S.length := by
      unfold at_ at h
      rcases Nat.lt_or_ge (pos S k) S.length with h2 | h2
      · exact h2
      · rw [List.getElem?_eq_none h2] at h; simp at h
    simp [h]; omega
  · simp [h]; omega
theorem del_len {S : St} (hS : Rising S) (k : T) (h : at_ S k = true) : (del S k).length + 1 = S.length := by
  obtain ⟨hp, _⟩ := look_pos hS k h
  rw [del_eq hS k h]; simp; omega
end Go.Proofs.YtlckcfpdiigjiaaGreatDoor.Tri
namespace Go.Proofs.YtlckcfpdiigjiaaGreatDoor
open Go.RowKit
open Go.Proofs.YtlckcfpdiigjiaaGreatDoor.Sto (St)

def itcl (p : List UInt8 × List UInt8) : List Value := [.string ⟨p.1.toArray⟩, .string ⟨p.2.toArray⟩]
theorem itcl_length (p : List UInt8 × List UInt8) : (itcl p).length = 2 := rfl
theorem itcl_one (p : List UInt8 × List UInt8) : ∀ u ∈ itcl p, u.oneCell' = true := by
  intro u hu
  simp [itcl] at hu
  rcases hu with rfl | rfl <;> rfl
set_option maxRecDepth 100000 in
theorem Tryz.infoItem : (Tryz.prog.info? 68).map (fun i => (i.zero, i.size, i.bytes)) = some (some (.agg #[.string ⟨#[]⟩, .string ⟨#[]⟩]), 2, 32) := by kernel_rfl
/-- A slice that has these items. -/
def ItAt (w : World) (v : Value) (L : St) : Prop := RowsAt 68 2 itcl w v L
theorem ItAt.at {w : World} {A : Option Addr} {n cap : Nat} {S : St} (h : ItAt w (.slice A n cap) S) (k : Nat) (hk : k < S.length) :
    ∃ b o, A = some ⟨b, o, none⟩ ∧ w.cell? ⟨b, o + k * 2, none⟩ = some (.string ⟨(S[k].1).toArray⟩) ∧ w.cell? ⟨b, o + k * 2 + 1, none⟩ = some (.string ⟨(S[k].2).toArray⟩) := by
  obtain ⟨b, o, rfl, h1⟩ := RowsAt.at h k hk
  exact ⟨b, o, rfl, h1 0 _ rfl, h1 1 _ rfl⟩
/-- Items in a block of any type. -/
def ItIn (w : World) (v : Value) (L : St) : Prop := RowsIn 2 itcl w v L
theorem ItAt.inn {w : World} {v : Value} {L : St} (h : ItAt w v L) : ItIn w v L := RowsAt.inn h
theorem ItIn.at {w : World} {A : Option Addr} {n cap : Nat} {S : St} (h : ItIn w (.slice A n cap) S) (k : Nat) (hk : k < S.length) :
    ∃ b o, A = some ⟨b, o, none⟩ ∧ w.cell? ⟨b, o + k * 2, none⟩ = some (.string ⟨(S[k].1).toArray⟩) ∧ w.cell? ⟨b, o + k * 2 + 1, none⟩ = some (.string ⟨(S[k].2).toArray⟩) := by
  obtain ⟨b, o, rfl, h1⟩ := RowsIn.at h k hk
  exact ⟨b, o, rfl, h1 0 _ rfl, h1 1 _ rfl⟩
theorem Tri.pos_at {S : St} {x : List UInt8} {i : Nat} (hi : i ≤ S.length) (hlo : ∀ (j : Nat) (_ : j < i) (h : j < S.length), S[j].1 < x) (hhi : ∀ h : i < S.length, ¬ S[i].1 < x) : Tri.pos S x = i ∧ Tri.at_ S x = (S[i]?.map (·.1) == some x) := by
  have e := Tri.pos_of S x i hi (fun j h => hlo j h (by omega)) hhi
  exact ⟨e, by rw [Tri.at_, e]⟩
def RAtIs (S : St) (x : List UInt8) (w : World) (e : Ending) (w' : World) : Prop :=
  e = .returned (.tuple #[.int .i64 (Tri.pos S x), .bool (Tri.at_ S x)]) ∧ ∃ q, w' = w.drewN q
set_option maxRecDepth 8000 in
set_option maxHeartbeats 1000000 in
theorem rtAt_any (S : St) (v : Value) (x : List UInt8) (w : World) (hv : ItAt w v S) (hl : S.length ≤ 10000) :
    Calls Tryz.prog 48 #[v, .string ⟨x.toArray⟩] w (RAtIs S x w) := by
  have HV := Lib.hid hv
  obtain ⟨A, cap, rfl, -, -⟩ := hv.form
  clear hv
  go_enter Tryz.func48, Tryz.ntmps48
  go_wp2
  go_loop [6] (fun iv => ∃ k : Nat, k ≤ S.length ∧ iv = .int .i64 k ∧ ∀ (j : Nat) (hj : j < k) (hj' : j < S.length), S[j].1 < x) (fun i => S.length - (intOf i).toNat)
  case atStart => exact ⟨0, Nat.zero_le _, rfl, fun j hj => absurd hj (Nat.not_lt_zero j)⟩
  case round =>
    obtain ⟨k, hk, rfl, hall⟩ := hrel
    have HA := Lib.hid hall
    clear hall
    by_cases hlt : k < S.length
    · have h1 : (k : Int) < (S.length : Int) := by omega
      have h0 : (0 : Int) ≤ (k : Int) := by omega
      have hnb : (k : Int) ≤ 100000 := by omega
      obtain ⟨b, o, rfl, n0, n1⟩ := HV.out.at k hlt
      obtain ⟨y, hy⟩ : ∃ y, S[k].1 = y := ⟨_, rfl⟩
      have HY := Lib.hid hy
      rw [hy] at n0
      by_cases hyx : y < x
      · have e1 : Op.bytesLess y x = true := by rw [less_lt]; simpa using hyx
        have HYX := Lib.hid hyx
        clear n1 hy hyx
        go_wp2
        refine ⟨⟨k + 1, by omega, by go_num, ?_⟩, by simp [intOf]; omega⟩
        intro j hj hj'
        by_cases e : j < k
        · exact HA.out j e hj'
        · obtain rfl : j = k := by omega
          rw [HY.out]; exact HYX.out
      · have e1 : Op.bytesLess y x = false := by rw [less_lt]; simpa using hyx
        obtain ⟨c, hc⟩ : ∃ c, (y == x) = c := ⟨_, rfl⟩
        have HC : Hid (Tri.pos S x = k ∧ Tri.at_ S x = c) := Lib.hid (by
          obtain ⟨g1, g2⟩ := Tri.pos_at (x := x) hk (fun j hj hj' => HA.out j hj hj') (fun _ => by rw [hy]; exact hyx)
          refine ⟨g1, ?_⟩
          rw [g2, List.getElem?_eq_getElem hlt, ← hc, Option.map_some, hy]; rfl)
        have m2 : w.drew.cell? ⟨b, o + k * 2, none⟩ = some (.string ⟨y.toArray⟩) := n0
        clear n1 hy hyx
        go_wp2
        go_region
        all_goals
          go_wp2
          go_ret2
          exact ⟨by rw [HC.out.1, HC.out.2]; rfl, _, rfl⟩
    · obtain rfl : k = S.length := by omega
      have h1 : ¬ ((S.length : Int) < (S.length : Int)) := by omega
      have HC : Hid (Tri.pos S x = S.length ∧ Tri.at_ S x = false) := Lib.hid (by
        obtain ⟨g1, g2⟩ := Tri.pos_at (x := x) (Nat.le_refl _) (fun j hj hj' => HA.out j hj hj') (fun h => absurd h (by omega))
        refine ⟨g1, ?_⟩
        rw [g2, List.getElem?_eq_none (Nat.le_refl _)]; rfl)
      go_wp2
      go_ret2
      exact ⟨by rw [HC.out.1, HC.out.2]; rfl, 0, rfl⟩
end Go.Proofs.YtlckcfpdiigjiaaGreatDoor
namespace Go.Proofs.YtlckcfpdiigjiaaGreatDoor
open Go.RowKit
open Go.Proofs.YtlckcfpdiigjiaaGreatDoor.Sto (St)

def Tri.keyed (x : List UInt8) : Bool := decide (1 ≤ x.length) && decide (x.length ≤ 8)
set_option maxRecDepth 8000 in
theorem rKeyed_all (x : List UInt8) (w : World) :
    Calls Tryz.prog 60 #[.string ⟨x.toArray⟩] w fun e w' => e = .returned (.bool (Tri.keyed x)) ∧ w = w' := by
  unfold Tri.keyed
  go_enter Tryz.func60, Tryz.ntmps60
  by_cases h1 : 1 ≤ x.length
  · have g1 : ((x.length : Int) ≥ 1) := by omega
    by_cases h2 : x.length ≤ 8
    · have g2 : ((x.length : Int) ≤ 8) := by omega
      go_wp2
      go_ret
      exact ⟨by simp [h1, h2], rfl⟩
    · have g2 : ¬ ((x.length : Int) ≤ 8) := by omega
      go_wp2
      go_ret
      exact ⟨by simp, rfl⟩
  · have g1 : ¬ ((x.length : Int) ≥ 1) := by omega
    go_wp2
    go_ret
    exact ⟨by simp, rfl⟩
theorem rKeyed_any (x : List UInt8) (w : World) (_ : x.length ≤ 1000000) :
    Calls Tryz.prog 60 #[.string ⟨x.toArray⟩] w fun e w' => e = .returned (.bool (Tri.keyed x)) ∧ w = w' := rKeyed_all x w
/-- What Get tells: the value, or what is wrong. -/
def Tri.getC (S : St) (x : List UInt8) : List UInt8 × Nat := if Tri.keyed x then (match Sto.look S x with | some v => (v, 0) | none => ([], 5)) else ([], 1)
theorem Tri.getC_no {S : St} {x : List UInt8} (h : Tri.keyed x = false) : Tri.getC S x = ([], 1) := by simp [Tri.getC, h]
theorem Tri.getC_none {S : St} {x : List UInt8} (h : Tri.keyed x = true) (h2 : Sto.look S x = none) : Tri.getC S x = ([], 5) := by simp [Tri.getC, h, h2]
theorem Tri.getC_some {S : St} {x y : List UInt8} (h : Tri.keyed x = true) (h2 : Sto.look S x = some y) : Tri.getC S x = (y, 0) := by simp [Tri.getC, h, h2]
set_option maxRecDepth 8000 in
set_option maxHeartbeats 1000000 in
theorem rtGet_any (S : St) (v : Value) (x : List UInt8) (w : World) (hv : ItAt w v S) (hl : S.length ≤ 10000) (hS : Sto.Rising S) (hx : x.length ≤ 1000000) :
    Calls Tryz.prog 52 #[v, .string ⟨x.toArray⟩] w fun e w' => e = .returned (.tuple #[.string ⟨(Tri.getC S x).1.toArray⟩, .int .i64 (Tri.getC S x).2]) ∧ ∃ q, w' = w.drewN q := by
  have HK := Lib.hid (fun w => rKeyed_any x w hx)
  have HV := Lib.hid hv
  have HA := Lib.hid (rtAt_any S v x w hv hl)
  have HLK := Lib.hid (Tri.at_look hS x)
  have HLP := Lib.hid (Tri.look_pos hS x)
  obtain ⟨A, cap, rfl, -, -⟩ := hv.form
  obtain ⟨G, hG⟩ : ∃ G, Tri.getC S x = G := ⟨_, rfl⟩
  have HG := Lib.hid hG
  obtain ⟨kb, hkb⟩ : ∃ kb, Tri.keyed x = kb := ⟨_, rfl⟩
  have HKB := Lib.hid hkb
  rw [hkb] at HK
  rw [hG]
  clear hv hS hl hx hkb hG
  go_enter Tryz.func52, Tryz.ntmps52
  go_wp2_with fail
  refine (HK.out w).mono ?_
  rintro e w1 ⟨rfl, rfl⟩
  cases kb with
  | false =>
    go_wp2
    go_ret2
    exact ⟨by rw [← HG.out, Tri.getC_no HKB.out]; rfl, 0, rfl⟩
  | true =>
    go_wp2_with fail
    refine HA.out.mono ?_
    rintro e w2 ⟨rfl, q, rfl⟩
    obtain ⟨P, hP⟩ : ∃ P, Tri.pos S x = P := ⟨_, rfl⟩
    obtain ⟨b, hb⟩ : ∃ b, Tri.at_ S x = b := ⟨_, rfl⟩
    rw [hb] at HLK HLP ⊢
    have HPQ := Lib.hid hP
    rw [hP]
    cases b with
    | false =>
      have hn : Sto.look S x = none := by have := HLK.out; cases h : Sto.look S x with | none => rfl | some _ => rw [h] at this; cases this
      have HN := Lib.hid hn
      clear hn hP hb
      go_wp2
      go_ret2
      exact ⟨by rw [← HG.out, Tri.getC_none HKB.out HN.out]; rfl, q, rfl⟩
    | true =>
      obtain ⟨hp, he, hlk⟩ := HLP.out rfl
      obtain ⟨b, o, rfl, n0, n1⟩ := HV.out.at _ hp
      have h1 : (P : Int) < (S.length : Int) := by omega
      have h0 : (0 : Int) ≤ (P : Int) := by omega
      obtain ⟨y, hy⟩ : ∃ y, S[Tri.pos S x].2 = y := ⟨_, rfl⟩
      rw [hy] at n1 hlk
      rw [hP] at n1
      have HN := Lib.hid hlk
      have m1 : (w.drewN q).cell? ⟨b, o + P * 2 + 1, none⟩ = some (.string ⟨y.toArray⟩) := n1
      clear n0 n1 hy hlk hp he hP hb
      go_wp2
      go_ret2
      exact ⟨by rw [← HG.out, Tri.getC_some HKB.out HN.out]; rfl, q, rfl⟩
end Go.Proofs.YtlckcfpdiigjiaaGreatDoor
namespace Go.Proofs.YtlckcfpdiigjiaaGreatDoor
open Go.RowKit
open Go.Proofs.YtlckcfpdiigjiaaGreatDoor.Sto (St)

/-- What Put refuses. -/
def Tri.putC (S : St) (x y : List UInt8) : Nat := if Tri.keyed x then (if 1 ≤ y.length ∧ y.length ≤ 32 ∧ (Tri.at_ S x = true ∨ S.length < 1024) then 0 else 2) else 1
def Tri.putL (S : St) (x y : List UInt8) : St := if Tri.putC S x y = 0 then Tri.put S x y else []
theorem Tri.putC_no {S : St} {x y : List UInt8} (h : Tri.keyed x = false) : Tri.putC S x y = 1 := by simp [Tri.putC, h]
theorem Tri.putC_bad {S : St} {x y : List UInt8} (h : Tri.keyed x = true) (h2 : ¬ (1 ≤ y.length ∧ y.length ≤ 32 ∧ (Tri.at_ S x = true ∨ S.length < 1024))) : Tri.putC S x y = 2 := by rw [Tri.putC, if_pos h, if_neg h2]
theorem Tri.putC_ok {S : St} {x y : List UInt8} (h : Tri.keyed x = true) (h2 : 1 ≤ y.length ∧ y.length ≤ 32 ∧ (Tri.at_ S x = true ∨ S.length < 1024)) : Tri.putC S x y = 0 := by rw [Tri.putC, if_pos h, if_pos h2]
def RtPutPost (S : St) (x y : List UInt8) (w : World) (e : Ending) (w' : World) : Prop :=
  ∃ v', e = .returned (.tuple #[v', .int .i64 (Tri.putC S x y)]) ∧ ItAt w' v' (Tri.putL S x y) ∧ Below w.heap.size w w'
theorem RtPutPost.bad {S : St} {x y : List UInt8} {w w' : World} {c : Nat} (h : Tri.putC S x y = c) (hc : c ≠ 0) (hb : Below w.heap.size w w') : RtPutPost S x y w (.returned (.tuple #[.slice none 0 0, .int .i64 c])) w' := by
  subst h
  exact ⟨_, rfl, by rw [Tri.putL, if_neg hc]; exact RowsAt.nil .., hb⟩
theorem RtPutPost.good {S T R : St} {x y : List UInt8} {w w' : World} {v' : Value} (h : Tri.putC S x y = 0) (hp : Tri.put S x y = T ++ (x, y) :: R) (hv : ItAt w' v' (T ++ (x, y) :: R)) (hb : Below w.heap.size w w') : RtPutPost S x y w (.returned (.tuple #[v', .int .i64 0])) w' := by
  refine ⟨v', by rw [h]; rfl, ?_, hb⟩
  rw [Tri.putL, if_pos h, hp]; exact hv
/-- All of a slice of items behind a row of the call's own. -/
theorem append_it {w : World} {v s : Value} {S : St} {B n : Nat} {xs : List Value} (hv : ItAt w v S) (hs : w.ownsRow B 68 2 s n xs) (hl : n + S.length ≤ 1000000) (hB : B ≤ w.heap.size) :
    ∃ v' w', (Builtin.append_ #[24, 24] 24 #[s, v]).run Tryz.prog w = .ok v' w' ∧ w'.ownsRow B 68 2 v' (n + S.length) (xs ++ rowsL itcl S) ∧ w.grownBy w' s.ownBlock ∧ (v'.ownBlock = s.ownBlock ∨ v'.ownBlock = some w.heap.size) := by
  obtain ⟨i0, hi, hz0, hz1, hz2⟩ := info_parts Tryz.infoItem
  exact append_rows 24 68 i0 _ 32 Tryz.underlying24 Tryz.sizeOf68 hi hz0 hz1 hz2 rfl (by decide) (by decide) itcl_length itcl_one hv hs hl hB
/-- The third append: what was there behind the new one. -/
theorem it_third {w w1 w2 : World} {v1 l2 : Value} {T R : St} {one : List UInt8 × List UInt8} {g' cap' B : Nat} {o : Obj} (hB : B ≤ w.heap.size) (hb : Below w.heap.size w w1) (hB1 : ∀ k, v1.ownBlock = some k → w.heap.size ≤ k)
    (h2 : w2.ownsRow B 68 2 (.slice (some ⟨g', 0, none⟩) (T.length + 1) cap') (T.length + 1) (rowsL itcl T ++ rowsL itcl [one])) (hg : (w1.alloc o).grownBy w2 v1.ownBlock) (hg' : w.heap.size ≤ g') (hs : ItAt w l2 R) (hl : T.length + 1 + R.length ≤ 1000000) :
    ∃ v3 w3, (Builtin.append_ #[24, 24] 24 #[.slice (some ⟨g', 0, none⟩) (T.length + 1) cap', l2]).run Tryz.prog w2 = .ok v3 w3 ∧ ItAt w3 v3 (T ++ one :: R) ∧ Below w.heap.size w w3 := by
  have hb1 := hb.alloc hb.size o
  have hb2 : Below w.heap.size w w2 := hb1.trans ((Out.grown hg (F := fun j => v1.ownBlock = some j) (fun j e => e)).below (fun j hj => hB1 j hj) hb1.size)
  obtain ⟨v3, w3, hrun, hown, hgr, _⟩ := append_it (RowsAt.below hs hb2) h2 hl (Nat.le_trans hB hb2.size)
  refine ⟨v3, w3, hrun, ?_, hb2.trans ((Out.grown hgr (F := fun j => j = g') (fun j e => by simp [Value.ownBlock] at e; exact e.symm)).below (fun j hj => hj ▸ hg') hb2.size)⟩
  have e1 : rowsL itcl (T ++ one :: R) = rowsL itcl T ++ rowsL itcl [one] ++ rowsL itcl R := by
    rw [show T ++ one :: R = (T ++ [one]) ++ R by simp, rowsL_append, rowsL_append]
  have e2 : (T ++ one :: R).length = T.length + 1 + R.length := by simp; omega
  refine RowsAt.own (B := B) itcl_length ?_
  rw [e1, e2]
  exact hown
theorem bel_drewI {B : Nat} {a w w' : World} (h : Below B a w) (hq : ∃ q, w' = w.drewN q) : Below B a w' := by
  obtain ⟨q, rfl⟩ := hq
  exact bel_drewN h q
set_option maxRecDepth 8000 in
set_option maxHeartbeats 2000000 in
theorem rtPut_all (S : St) (v : Value) (x y : List UInt8) (w : World) (hv : ItAt w v S) (hl : S.length ≤ 10000) :
    Calls Tryz.prog 29 #[v, .string ⟨x.toArray⟩, .string ⟨y.toArray⟩] w (RtPutPost S x y w) := by
  have HK := Lib.hid (fun w => rKeyed_all x w)
  have HV := Lib.hid hv
  have HL := Lib.hid hl
  have HA := Lib.hid (rtAt_any S v x w hv hl)
  have HPE := Lib.hid (Tri.put_eq S x y)
  obtain ⟨A, cap, rfl, hcap, hcs⟩ := hv.form
  have HCS := Lib.hid hcs
  have HCAP := Lib.hid hcap
  have HPL := Lib.hid (Tri.pos_le S x)
  have HPT : Hid (Tri.at_ S x = true → Tri.pos S x < S.length) := Lib.hid (fun h => by
    unfold Tri.at_ at h
    rcases Nat.lt_or_ge (Tri.pos S x) S.length with h2 | h2
    · exact h2
    · rw [List.getElem?_eq_none h2] at h; simp at h)
  have HB0 := Lib.hid (Below.refl w.heap.size w)
  obtain ⟨kb, hkb⟩ : ∃ kb, Tri.keyed x = kb := ⟨_, rfl⟩
  have HKB := Lib.hid hkb
  rw [hkb] at HK
  clear hv hl hkb hcs hcap
  go_enter Tryz.func29, Tryz.ntmps29
  go_wp2_with fail
  refine (HK.out w).mono ?_
  rintro e w1 ⟨rfl, rfl⟩
  cases kb with
  | false =>
    go_wp2
    go_ret2
    exact RtPutPost.bad (Tri.putC_no HKB.out) (by decide) HB0.out
  | true =>
    go_wp2_with fail
    refine HA.out.mono ?_
    rintro e w1 ⟨rfl, hq⟩
    have HB1 : Hid (Below w.heap.size w w1) := Lib.hid (bel_drewI HB0.out hq)
    have HV1 := Lib.hid (RowsAt.below HV.out HB1.out)
    have HSZ1 := Lib.hid HB1.out.size
    clear hq
    obtain ⟨b, hb⟩ : ∃ b, Tri.at_ S x = b := ⟨_, rfl⟩
    have HBB := Lib.hid hb
    rw [hb] at HPE HPT ⊢
    obtain ⟨P, hP⟩ : ∃ P, Tri.pos S x = P := ⟨_, rfl⟩
    rw [hP] at HPE HPL HPT ⊢
    clear hb hP
    by_cases hbad : 1 ≤ y.length ∧ y.length ≤ 32 ∧ (b = true ∨ S.length < 1024)
    · have HOK : Hid (Tri.putC S x y = 0) := Lib.hid (Tri.putC_ok HKB.out (by rw [HBB.out]; exact hbad))
      have y1 : decide ((y.length : Int) < 1) = false := decide_eq_false (by omega)
      have y2 : decide ((32 : Int) < (y.length : Int)) = false := decide_eq_false (by omega)
      have h0 : (0 : Int) ≤ (P : Int) := by omega
      have hpc : (P : Int) ≤ (cap : Int) := by have := HCAP.out; have := HPL.out; omega
      have hps : (P : Int) ≤ (S.length : Int) := by have := HPL.out; omega
      have ht := HV1.out.take P HPL.out
      have hTl : (S.take P).length = P := by have := HPL.out; simp; omega
      obtain ⟨T, hT⟩ : ∃ T, S.take P = T := ⟨_, rfl⟩
      rw [hT] at ht hTl HPE
      obtain ⟨v1, w2, hrun1, hown1, hgr1, hat1⟩ := append_it ht (World.ownsRow_nil w1 w1.heap.size 68 2) (by have := HL.out; have := HPL.out; omega) (Nat.le_refl _)
      rw [List.nil_append, Nat.zero_add] at hown1
      have hb2 : Below w1.heap.size w1 w2 := (Out.grown hgr1 (F := fun _ => False) (fun j e => by simp [Value.ownBlock] at e)).below (fun _ hf => hf.elim) (Nat.le_refl _)
      obtain ⟨i0, hi, hz0, hz1, hz2⟩ := info_parts Tryz.infoItem
      obtain ⟨A1, cap1, rfl⟩ := own_form hown1
      have HOW1 := Lib.hid hown1
      have HB2 := Lib.hid hb2
      have HTL : Hid (T.length = P ∧ P ≤ 10000) := Lib.hid ⟨hTl, by have := HL.out; have := HPL.out; omega⟩
      cases b with
      | false =>
        have hs1 : decide ((1024 : Int) ≤ (S.length : Int)) = false := decide_eq_false (by have := hbad.2.2; simp at this; omega)
        have hRl : (S.drop P).length ≤ 10000 := by have := HL.out; simp; omega
        obtain ⟨R, hR⟩ : ∃ R, S.drop P = R := ⟨_, rfl⟩
        simp only [Bool.false_eq_true, if_false, Nat.add_zero] at HPE
        rw [hR] at hRl HPE
        have HTH := Lib.hid (fun w3 g' cap' l2 h2 hg hg' hs => it_third (w2 := w3) (l2 := l2) (T := T) (R := R) (one := (x, y)) (g' := g') (cap' := cap') (o := .cells #[.string ⟨x.toArray⟩, .string ⟨y.toArray⟩] 68) (Nat.le_refl _) hb2 (fun k hk => (World.ownsRow.lt hown1 k hk).1) h2 hg hg' hs (by have := HL.out; have := HPL.out; omega))
        have HFIN : Hid (∀ v3 w3, ItAt w3 v3 (T ++ (x, y) :: R) → Below w1.heap.size w1 w3 → RtPutPost S x y w (.returned (.tuple #[v3, .int .i64 0])) w3) := Lib.hid (fun v3 w3 q1 q2 => RtPutPost.good HOK.out HPE.out q1 (HB1.out.trans (q2.mono HSZ1.out)))
        have HRQ := Lib.hid hR
        clear hgr1 hat1 hb2 hown1 hTl hRl ht hT hR hbad
        rcases HCS.out with ⟨hs0, rfl, rfl⟩ | ⟨b, o, rfl⟩
        · have hSl : S.length = 0 := by rw [hs0]; rfl
          obtain rfl : P = 0 := by have := HPL.out; omega
          have HDR : Hid (ItAt w1 (.slice none 0 0) R) := Lib.hid (by rw [← HRQ.out, hs0]; exact RowsAt.nil ..)
          rw [hSl] at hs1 ⊢
          clear hs0 hSl hps hpc
          go_wp2_with (first | (at_builtin; refine wpList_append_run rfl _ _ _ rfl (.slice none 0 0) (.slice none 0 0) (.slice A1 T.length cap1) (by rfl) (by rfl) hrun1 ?_) | (at_builtin; refine wpList_append_lies _ rfl _ _ _ rfl w1.heap.size 68 i0 (.agg #[.string ⟨#[]⟩, .string ⟨#[]⟩]) 2 32 Tryz.underlying24 hi hz0 hz1 hz2 rfl (by decide) (.slice A1 T.length cap1) T.length (rowsL itcl T) (by rfl) (World.ownsRow.alloc HOW1.out _) ⟨w2.heap.size, 0, none⟩ 1 1 (rowsL itcl [(x, y)]) (by rfl) rfl (World.news_of_block (heap_new_at _ _ _ (by simp))) (by simp [rowsL, itcl, Value.oneCell']) (by decide) (by have := HTL.out; unfold maxLen; omega) (by have := HTL.out; omega) (by have := HB2.out.size; simp at this ⊢; omega) (w2.heap.size + 1) (by simp) ?_; intro g' cap' w3 hown3 hgr3 hat3 hlt3) | (at_builtin; obtain ⟨v4, w4, hrun4, hst4, hb4⟩ := HTH.out w3 g' cap' (.slice none 0 0) hown3 hgr3 (World.ownsRow.lt hown3 g' rfl).1 HDR.out; refine wpList_append_run rfl _ _ _ rfl (.slice (some ⟨g', 0, none⟩) (T.length + 1) cap') (.slice none 0 0) v4 (by rfl) (by rfl) hrun4 ?_))
          go_ret2
          exact HFIN.out _ _ hst4 hb4
        · by_cases hPc : P = cap
          · subst hPc
            have hSP : S.length = P := by have := HCAP.out; have := HPL.out; omega
            have HDR : Hid (ItAt w1 (.slice (some ⟨b, o, none⟩) 0 0) R) := Lib.hid (by
              have h := RowsAt.drop HV1.out P (Nat.le_of_eq hSP.symm) b o (fun h => by omega)
              rw [HRQ.out, hSP, Nat.sub_self] at h
              exact h)
            rw [hSP] at hs1 ⊢
            clear hSP hps hpc
            go_wp2_with (first | (at_builtin; refine wpList_append_run rfl _ _ _ rfl (.slice none 0 0) (.slice (some ⟨b, o, none⟩) P P) (.slice A1 T.length cap1) (by rfl) (by rfl) hrun1 ?_) | (at_builtin; refine wpList_append_lies _ rfl _ _ _ rfl w1.heap.size 68 i0 (.agg #[.string ⟨#[]⟩, .string ⟨#[]⟩]) 2 32 Tryz.underlying24 hi hz0 hz1 hz2 rfl (by decide) (.slice A1 T.length cap1) T.length (rowsL itcl T) (by rfl) (World.ownsRow.alloc HOW1.out _) ⟨w2.heap.size, 0, none⟩ 1 1 (rowsL itcl [(x, y)]) (by rfl) rfl (World.news_of_block (heap_new_at _ _ _ (by simp))) (by simp [rowsL, itcl, Value.oneCell']) (by decide) (by have := HTL.out; unfold maxLen; omega) (by have := HTL.out; omega) (by have := HB2.out.size; simp at this ⊢; omega) (w2.heap.size + 1) (by simp) ?_; intro g' cap' w3 hown3 hgr3 hat3 hlt3) | (at_builtin; obtain ⟨v4, w4, hrun4, hst4, hb4⟩ := HTH.out w3 g' cap' (.slice (some ⟨b, o, none⟩) 0 0) hown3 hgr3 (World.ownsRow.lt hown3 g' rfl).1 HDR.out; refine wpList_append_run rfl _ _ _ rfl (.slice (some ⟨g', 0, none⟩) (T.length + 1) cap') (.slice (some ⟨b, o, none⟩) 0 0) v4 (by rfl) (by rfl) hrun4 ?_))
            go_ret2
            exact HFIN.out _ _ hst4 hb4
          · have hPc2 : ¬ ((cap : Int) - (P : Int) = 0) := by have := HCAP.out; have := HPL.out; omega
            have HDR : Hid (ItAt w1 (.slice (some ⟨b, o + P * 2, none⟩) (S.length - P) (cap - P)) R) := Lib.hid (by rw [← HRQ.out]; exact RowsAt.drop HV1.out P HPL.out b (o + P * 2) (fun _ => ⟨rfl, rfl⟩))
            go_wp2_with (first | (at_builtin; refine wpList_append_run rfl _ _ _ rfl (.slice none 0 0) (.slice (some ⟨b, o, none⟩) P cap) (.slice A1 T.length cap1) (by rfl) (by rfl) hrun1 ?_) | (at_builtin; refine wpList_append_lies _ rfl _ _ _ rfl w1.heap.size 68 i0 (.agg #[.string ⟨#[]⟩, .string ⟨#[]⟩]) 2 32 Tryz.underlying24 hi hz0 hz1 hz2 rfl (by decide) (.slice A1 T.length cap1) T.length (rowsL itcl T) (by rfl) (World.ownsRow.alloc HOW1.out _) ⟨w2.heap.size, 0, none⟩ 1 1 (rowsL itcl [(x, y)]) (by rfl) rfl (World.news_of_block (heap_new_at _ _ _ (by simp))) (by simp [rowsL, itcl, Value.oneCell']) (by decide) (by have := HTL.out; unfold maxLen; omega) (by have := HTL.out; omega) (by have := HB2.out.size; simp at this ⊢; omega) (w2.heap.size + 1) (by simp) ?_; intro g' cap' w3 hown3 hgr3 hat3 hlt3) | (at_builtin; obtain ⟨v4, w4, hrun4, hst4, hb4⟩ := HTH.out w3 g' cap' (.slice (some ⟨b, o + P * 2, none⟩) (S.length - P) (cap - P)) hown3 hgr3 (World.ownsRow.lt hown3 g' rfl).1 HDR.out; refine wpList_append_run rfl _ _ _ rfl (.slice (some ⟨g', 0, none⟩) (T.length + 1) cap') (.slice (some ⟨b, o + P * 2, none⟩) (S.length - P) (cap - P)) v4 (by rfl) (by rfl) hrun4 ?_))
            go_ret2
            exact HFIN.out _ _ hst4 hb4
      | true =>
        have hP1 : ((P : Int) + 1) ≤ (S.length : Int) := by have := HPT.out rfl; omega
        have hP2 : ((P : Int) + 1) ≤ (cap : Int) := by have := HPT.out rfl; have := HCAP.out; omega
        have hP3 : (P : Int) + 1 ≤ 100000 := by have := HL.out; have := HPL.out; omega
        have hP0 : (0 : Int) ≤ (P : Int) + 1 := by omega
        have hRl : (S.drop (P + 1)).length ≤ 10000 := by have := HL.out; simp; omega
        obtain ⟨R, hR⟩ : ∃ R, S.drop (P + 1) = R := ⟨_, rfl⟩
        simp only [if_true] at HPE
        rw [hR] at hRl HPE
        have HTH := Lib.hid (fun w3 g' cap' l2 h2 hg hg' hs => it_third (w2 := w3) (l2 := l2) (T := T) (R := R) (one := (x, y)) (g' := g') (cap' := cap') (o := .cells #[.string ⟨x.toArray⟩, .string ⟨y.toArray⟩] 68) (Nat.le_refl _) hb2 (fun k hk => (World.ownsRow.lt hown1 k hk).1) h2 hg hg' hs (by have := HL.out; have := HPL.out; omega))
        have HFIN : Hid (∀ v3 w3, ItAt w3 v3 (T ++ (x, y) :: R) → Below w1.heap.size w1 w3 → RtPutPost S x y w (.returned (.tuple #[v3, .int .i64 0])) w3) := Lib.hid (fun v3 w3 q1 q2 => RtPutPost.good HOK.out HPE.out q1 (HB1.out.trans (q2.mono HSZ1.out)))
        have HRQ := Lib.hid hR
        clear hgr1 hat1 hb2 hown1 hTl hRl ht hT hR hbad
        rcases HCS.out with ⟨hs0, rfl, rfl⟩ | ⟨b, o, rfl⟩
        · exfalso; have := HPT.out rfl; rw [hs0] at this; simp at this
        · by_cases hPc : (P + 1) = cap
          · subst hPc
            have hSP : S.length = P + 1 := by have := HCAP.out; have := HPT.out rfl; omega
            have HDR : Hid (ItAt w1 (.slice (some ⟨b, o, none⟩) 0 0) R) := Lib.hid (by
              have h := RowsAt.drop HV1.out (P + 1) (Nat.le_of_eq hSP.symm) b o (fun h => by omega)
              rw [HRQ.out, hSP, Nat.sub_self] at h
              exact h)
            rw [hSP]
            clear hSP hps
            go_wp2_with (first | (at_builtin; refine wpList_append_run rfl _ _ _ rfl (.slice none 0 0) (.slice (some ⟨b, o, none⟩) P (P + 1)) (.slice A1 T.length cap1) (by rfl) (by rfl) hrun1 ?_) | (at_builtin; refine wpList_append_lies _ rfl _ _ _ rfl w1.heap.size 68 i0 (.agg #[.string ⟨#[]⟩, .string ⟨#[]⟩]) 2 32 Tryz.underlying24 hi hz0 hz1 hz2 rfl (by decide) (.slice A1 T.length cap1) T.length (rowsL itcl T) (by rfl) (World.ownsRow.alloc HOW1.out _) ⟨w2.heap.size, 0, none⟩ 1 1 (rowsL itcl [(x, y)]) (by rfl) rfl (World.news_of_block (heap_new_at _ _ _ (by simp))) (by simp [rowsL, itcl, Value.oneCell']) (by decide) (by have := HTL.out; unfold maxLen; omega) (by have := HTL.out; omega) (by have := HB2.out.size; simp at this ⊢; omega) (w2.heap.size + 1) (by simp) ?_; intro g' cap' w3 hown3 hgr3 hat3 hlt3) | (at_builtin; obtain ⟨v4, w4, hrun4, hst4, hb4⟩ := HTH.out w3 g' cap' (.slice (some ⟨b, o, none⟩) 0 0) hown3 hgr3 (World.ownsRow.lt hown3 g' rfl).1 HDR.out; refine wpList_append_run rfl _ _ _ rfl (.slice (some ⟨g', 0, none⟩) (T.length + 1) cap') (.slice (some ⟨b, o, none⟩) 0 0) v4 (by rfl) (by rfl) hrun4 ?_))
            go_ret2
            exact HFIN.out _ _ hst4 hb4
          · have hPc2 : ¬ ((cap : Int) - ((P : Int) + 1) = 0) := by have := HCAP.out; have := HPT.out rfl; omega
            have HDR : Hid (ItAt w1 (.slice (some ⟨b, o + (P + 1) * 2, none⟩) (S.length - (P + 1)) (cap - (P + 1))) R) := Lib.hid (by rw [← HRQ.out]; exact RowsAt.drop HV1.out (P + 1) (HPT.out rfl) b (o + (P + 1) * 2) (fun _ => ⟨rfl, rfl⟩))
            go_wp2_with (first | (at_builtin; refine wpList_append_run rfl _ _ _ rfl (.slice none 0 0) (.slice (some ⟨b, o, none⟩) P cap) (.slice A1 T.length cap1) (by rfl) (by rfl) hrun1 ?_) | (at_builtin; refine wpList_append_lies _ rfl _ _ _ rfl w1.heap.size 68 i0 (.agg #[.string ⟨#[]⟩, .string ⟨#[]⟩]) 2 32 Tryz.underlying24 hi hz0 hz1 hz2 rfl (by decide) (.slice A1 T.length cap1) T.length (rowsL itcl T) (by rfl) (World.ownsRow.alloc HOW1.out _) ⟨w2.heap.size, 0, none⟩ 1 1 (rowsL itcl [(x, y)]) (by rfl) rfl (World.news_of_block (heap_new_at _ _ _ (by simp))) (by simp [rowsL, itcl, Value.oneCell']) (by decide) (by have := HTL.out; unfold maxLen; omega) (by have := HTL.out; omega) (by have := HB2.out.size; simp at this ⊢; omega) (w2.heap.size + 1) (by simp) ?_; intro g' cap' w3 hown3 hgr3 hat3 hlt3) | (at_builtin; obtain ⟨v4, w4, hrun4, hst4, hb4⟩ := HTH.out w3 g' cap' (.slice (some ⟨b, o + (P + 1) * 2, none⟩) (S.length - (P + 1)) (cap - (P + 1))) hown3 hgr3 (World.ownsRow.lt hown3 g' rfl).1 HDR.out; refine wpList_append_run rfl _ _ _ rfl (.slice (some ⟨g', 0, none⟩) (T.length + 1) cap') (.slice (some ⟨b, o + (P + 1) * 2, none⟩) (S.length - (P + 1)) (cap - (P + 1))) v4 (by rfl) (by rfl) hrun4 ?_))
            go_ret2
            exact HFIN.out _ _ hst4 hb4
    · have HBAD : Hid (Tri.putC S x y = 2) := Lib.hid (Tri.putC_bad HKB.out (by rw [HBB.out]; exact hbad))
      by_cases c1 : 1 ≤ y.length
      · have y1 : decide ((y.length : Int) < 1) = false := decide_eq_false (by omega)
        by_cases c2 : y.length ≤ 32
        · have y2 : decide ((32 : Int) < (y.length : Int)) = false := decide_eq_false (by omega)
          cases b with
          | true => exact absurd ⟨c1, c2, Or.inl rfl⟩ hbad
          | false =>
            have hs1 : decide ((1024 : Int) ≤ (S.length : Int)) = true := decide_eq_true (by have : ¬ S.length < 1024 := fun h => hbad ⟨c1, c2, Or.inr h⟩; omega)
            clear hbad
            go_wp2
            go_ret2
            exact RtPutPost.bad HBAD.out (by decide) HB1.out
        · have y2 : decide ((32 : Int) < (y.length : Int)) = true := decide_eq_true (by omega)
          clear hbad
          go_wp2
          go_ret2
          exact RtPutPost.bad HBAD.out (by decide) HB1.out
      · have y1 : decide ((y.length : Int) < 1) = true := decide_eq_true (by omega)
        clear hbad
        go_wp2
        go_ret2
        exact RtPutPost.bad HBAD.out (by decide) HB1.out
end Go.Proofs.YtlckcfpdiigjiaaGreatDoor
namespace Go.Proofs.YtlckcfpdiigjiaaGreatDoor
open Go.RowKit
open Go.Proofs.YtlckcfpdiigjiaaGreatDoor.Sto (St)

def Tri.delL (S : St) (x : List UInt8) : St := if (Tri.getC S x).2 = 0 then Tri.del S x else []
/-- The second append: what was there behind the one that goes. -/
theorem it_second {w w1 : World} {A1 : Option Addr} {cap1 : Nat} {l2 : Value} {T R : St} (hb : Below w.heap.size w w1)
    (h1 : w1.ownsRow w.heap.size 68 2 (.slice A1 T.length cap1) T.length (rowsL itcl T)) (hs : ItAt w l2 R) (hl : T.length + R.length ≤ 1000000) :
    ∃ v3 w3, (Builtin.append_ #[24, 24] 24 #[.slice A1 T.length cap1, l2]).run Tryz.prog w1 = .ok v3 w3 ∧ ItAt w3 v3 (T ++ R) ∧ Below w.heap.size w w3 := by
  obtain ⟨v3, w3, hrun, hown, hgr, _⟩ := append_it (RowsAt.below hs hb) h1 hl hb.size
  refine ⟨v3, w3, hrun, ?_, hb.trans ((Out.grown hgr (F := fun j => (Value.slice A1 T.length cap1).ownBlock = some j) (fun j e => e)).below (fun j hj => (World.ownsRow.lt h1 j hj).1) hb.size)⟩
  refine RowsAt.own (B := w.heap.size) itcl_length ?_
  rw [rowsL_append, List.length_append]
  exact hown
def RtDelPost (S : St) (x : List UInt8) (w : World) (e : Ending) (w' : World) : Prop :=
  ∃ v', e = .returned (.tuple #[v', .int .i64 (Tri.getC S x).2]) ∧ ItAt w' v' (Tri.delL S x) ∧ Below w.heap.size w w'
theorem RtDelPost.bad {S : St} {x : List UInt8} {w w' : World} {c : Nat} (h : (Tri.getC S x).2 = c) (hc : c ≠ 0) (hb : Below w.heap.size w w') : RtDelPost S x w (.returned (.tuple #[.slice none 0 0, .int .i64 c])) w' := by
  subst h
  exact ⟨_, rfl, by rw [Tri.delL, if_neg hc]; exact RowsAt.nil .., hb⟩
theorem RtDelPost.good {S L : St} {x : List UInt8} {w w' : World} {v' : Value} (h : (Tri.getC S x).2 = 0) (hp : Tri.del S x = L) (hv : ItAt w' v' L) (hb : Below w.heap.size w w') : RtDelPost S x w (.returned (.tuple #[v', .int .i64 0])) w' := by
  refine ⟨v', by rw [h]; rfl, ?_, hb⟩
  rw [Tri.delL, if_pos h, hp]; exact hv
set_option maxRecDepth 8000 in
set_option maxHeartbeats 2000000 in
theorem rtDel_any (S : St) (v : Value) (x : List UInt8) (w : World) (hv : ItAt w v S) (hl : S.length ≤ 10000) (hS : Sto.Rising S) (hx : x.length ≤ 1000000) :
    Calls Tryz.prog 39 #[v, .string ⟨x.toArray⟩] w (RtDelPost S x w) := by
  have HV := Lib.hid hv
  have HL := Lib.hid hl
  have HG := Lib.hid (rtGet_any S v x w hv hl hS hx)
  have HA := Lib.hid (fun w1 (hb : Below w.heap.size w w1) => rtAt_any S v x w1 (RowsAt.below hv hb) hl)
  have HB0 := Lib.hid (Below.refl w.heap.size w)
  have HGA : Hid ((Tri.getC S x).2 = 0 → Tri.at_ S x = true ∧ Tri.pos S x < S.length ∧ Tri.del S x = S.take (Tri.pos S x) ++ S.drop (Tri.pos S x + 1)) := Lib.hid (fun h => by
    have h2 : Tri.at_ S x = true := by
      rw [Tri.at_look hS]
      unfold Tri.getC at h
      by_cases hk : Tri.keyed x = true
      · rw [if_pos hk] at h
        cases hlk : Sto.look S x with
        | some _ => rfl
        | none => rw [hlk] at h; cases h
      · rw [if_neg hk] at h; cases h
    obtain ⟨hp, _⟩ := Tri.look_pos hS x h2
    exact ⟨h2, hp, Tri.del_eq hS x h2⟩)
  obtain ⟨A, cap, rfl, hcap, hcs⟩ := hv.form
  have HCS := Lib.hid hcs
  have HCAP := Lib.hid hcap
  obtain ⟨G, hG⟩ : ∃ G, Tri.getC S x = G := ⟨_, rfl⟩
  obtain ⟨g, c⟩ := G
  have HGC : Hid ((Tri.getC S x).2 = c) := Lib.hid (by rw [hG])
  rw [hG] at HG HGA
  clear hv hl hx hS hcs hcap hG
  go_enter Tryz.func39, Tryz.ntmps39
  go_wp2_with fail
  refine HG.out.mono ?_
  rintro e w1 ⟨rfl, hq⟩
  have HB1 : Hid (Below w.heap.size w w1) := Lib.hid (bel_drewI HB0.out hq)
  clear hq
  by_cases hc : c = 0
  · subst hc
    obtain ⟨hat, hpos, hdel⟩ := HGA.out rfl
    go_wp2_with fail
    refine (HA.out w1 HB1.out).mono ?_
    rintro e w2 ⟨rfl, hq⟩
    have HB2 : Hid (Below w.heap.size w w2) := Lib.hid (bel_drewI HB1.out hq)
    have HV2 := Lib.hid (RowsAt.below HV.out HB2.out)
    have HSZ2 := Lib.hid HB2.out.size
    rw [hat]
    obtain ⟨P, hP⟩ : ∃ P, Tri.pos S x = P := ⟨_, rfl⟩
    rw [hP] at hpos hdel ⊢
    have HPL := Lib.hid hpos
    have h0 : (0 : Int) ≤ (P : Int) := by omega
    have hpc : (P : Int) ≤ (cap : Int) := by have := HCAP.out; omega
    have hps : (P : Int) ≤ (S.length : Int) := by omega
    have hP1 : ((P : Int) + 1) ≤ (S.length : Int) := by omega
    have hP2 : ((P : Int) + 1) ≤ (cap : Int) := by have := HCAP.out; omega
    have hP3 : (P : Int) + 1 ≤ 100000 := by have := HL.out; omega
    have hP0 : (0 : Int) ≤ (P : Int) + 1 := by omega
    have ht := HV2.out.take P (Nat.le_of_lt hpos)
    have hTl : (S.take P).length = P := by simp; omega
    have hRl : (S.drop (P + 1)).length ≤ 10000 := by have := HL.out; simp; omega
    obtain ⟨T, hT⟩ : ∃ T, S.take P = T := ⟨_, rfl⟩
    obtain ⟨R, hR⟩ : ∃ R, S.drop (P + 1) = R := ⟨_, rfl⟩
    rw [hT] at ht hTl hdel
    rw [hR] at hRl hdel
    obtain ⟨v1, w3, hrun1, hown1, hgr1, hat1⟩ := append_it ht (World.ownsRow_nil w2 w2.heap.size 68 2) (by have := HL.out; omega) (Nat.le_refl _)
    rw [List.nil_append, Nat.zero_add] at hown1
    have hb3 : Below w2.heap.size w2 w3 := (Out.grown hgr1 (F := fun _ => False) (fun j e => by simp [Value.ownBlock] at e)).below (fun _ hf => hf.elim) (Nat.le_refl _)
    obtain ⟨A1, cap1, rfl⟩ := own_form hown1
    have HTH : Hid (∀ l2, ItAt w2 l2 R → ∃ v3 w4, (Builtin.append_ #[24, 24] 24 #[.slice A1 T.length cap1, l2]).run Tryz.prog w3 = .ok v3 w4 ∧ ItAt w4 v3 (T ++ R) ∧ Below w2.heap.size w2 w4) := Lib.hid (fun l2 hs => it_second hb3 hown1 hs (by have := HL.out; omega))
    have HFIN : Hid (∀ v3 w4, ItAt w4 v3 (T ++ R) → Below w2.heap.size w2 w4 → RtDelPost S x w (.returned (.tuple #[v3, .int .i64 0])) w4) := Lib.hid (fun v3 w4 q1 q2 => RtDelPost.good HGC.out hdel q1 (HB2.out.trans (q2.mono HSZ2.out)))
    have HRQ := Lib.hid hR
    clear hat hq hgr1 hat1 hb3 hown1 hTl hRl ht hT hR hpos hdel hP
    rcases HCS.out with ⟨hs0, rfl, rfl⟩ | ⟨b, o, rfl⟩
    · exfalso; have := HPL.out; rw [hs0] at this; simp at this
    · by_cases hPc : P + 1 = cap
      · subst hPc
        have hSP : S.length = P + 1 := by have := HCAP.out; have := HPL.out; omega
        have HDR : Hid (ItAt w2 (.slice (some ⟨b, o, none⟩) 0 0) R) := Lib.hid (by
          have h := RowsAt.drop HV2.out (P + 1) (Nat.le_of_eq hSP.symm) b o (fun h => by omega)
          rw [HRQ.out, hSP, Nat.sub_self] at h
          exact h)
        obtain ⟨v4, w4, hrun4, hst4, hb4⟩ := HTH.out _ HDR.out
        rw [hSP]
        clear hSP hps
        go_wp2_with (first | (at_builtin; refine wpList_append_run rfl _ _ _ rfl (.slice none 0 0) (.slice (some ⟨b, o, none⟩) P (P + 1)) (.slice A1 T.length cap1) (by rfl) (by rfl) hrun1 ?_) | (at_builtin; refine wpList_append_run rfl _ _ _ rfl (.slice A1 T.length cap1) (.slice (some ⟨b, o, none⟩) 0 0) v4 (by rfl) (by rfl) hrun4 ?_))
        go_ret2
        exact HFIN.out _ _ hst4 hb4
      · have hPc2 : ¬ ((cap : Int) - ((P : Int) + 1) = 0) := by have := HCAP.out; have := HPL.out; omega
        have HDR : Hid (ItAt w2 (.slice (some ⟨b, o + (P + 1) * 2, none⟩) (S.length - (P + 1)) (cap - (P + 1))) R) := Lib.hid (by rw [← HRQ.out]; exact RowsAt.drop HV2.out (P + 1) HPL.out b (o + (P + 1) * 2) (fun _ => ⟨rfl, rfl⟩))
        obtain ⟨v4, w4, hrun4, hst4, hb4⟩ := HTH.out _ HDR.out
        go_wp2_with (first | (at_builtin; refine wpList_append_run rfl _ _ _ rfl (.slice none 0 0) (.slice (some ⟨b, o, none⟩) P cap) (.slice A1 T.length cap1) (by rfl) (by rfl) hrun1 ?_) | (at_builtin; refine wpList_append_run rfl _ _ _ rfl (.slice A1 T.length cap1) (.slice (some ⟨b, o + (P + 1) * 2, none⟩) (S.length - (P + 1)) (cap - (P + 1))) v4 (by rfl) (by rfl) hrun4 ?_))
        go_ret2
        exact HFIN.out _ _ hst4 hb4
  · have hc1 : ((c : Int) == 0) = false := by simp; omega
    go_wp2
    go_ret2
    exact RtDelPost.bad HGC.out hc HB1.out
end Go.Proofs.YtlckcfpdiigjiaaGreatDoor
namespace Go.Proofs.YtlckcfpdiigjiaaGreatDoor.Exc
open Sto (T St Rising)
open Go.Proofs.YtlckcfpdiigjiaaGreatDoor.Pw (M)
open Go.Proofs.YtlckcfpdiigjiaaGreatDoor.Txn (X)

/-- An account. -/
structure A where
  name : T
  amt : Int
  seq : Int
deriving DecidableEq
def A.zero : A := ⟨[], 0, 0⟩
instance : Inhabited A := ⟨A.zero⟩
def most : Int := 1099511627776
def aK (n : T) : T := 97 :: 58 :: n
def dK (k : T) : T := 100 :: 58 :: k
def sK : T := [115]
def root : T := [114, 111, 111, 116]
def wi (n : Int) : Bool := decide (0 ≤ n) && decide (n ≤ most)
/-- An account's value. -/
def valS (a s : Int) : T := Code.numL a.toNat ++ Code.numL s.toNat
/-- What an item's value tells of an account. -/
def told (v : T) : Option (Int × Int) :=
  if Pw.endC (Pw.rdN (Pw.rdN (v, 0)).2).2 = 0 ∧ wi (Pw.rdN (v, 0)).1 = true ∧ wi (Pw.rdN (Pw.rdN (v, 0)).2).1 = true then some (((Pw.rdN (v, 0)).1 : Nat), ((Pw.rdN (Pw.rdN (v, 0)).2).1 : Nat)) else none
theorem wi_of {n : Int} (h : wi n = true) : 0 ≤ n ∧ n ≤ 1099511627776 := by
  simp only [wi, Bool.and_eq_true, decide_eq_true_eq] at h
  exact h
theorem told_val {a s : Int} (ha : wi a = true) (hs : wi s = true) : told (valS a s) = some (a, s) := by
  obtain ⟨a1, a2⟩ := wi_of ha
  obtain ⟨s1, s2⟩ := wi_of hs
  have e1 : Pw.rdN (valS a s, 0) = (a.toNat, Code.numL s.toNat, 0) := Pw.rdN_num _ _ (by omega)
  have e2 : Pw.rdN (Code.numL s.toNat, 0) = (s.toNat, [], 0) := by
    have := Pw.rdN_num s.toNat [] (by omega)
    rwa [List.append_nil] at this
  have ea : ((a.toNat : Nat) : Int) = a := by omega
  have es : ((s.toNat : Nat) : Int) = s := by omega
  unfold told
  rw [e1]
  dsimp only
  rw [e2]
  dsimp only
  rw [ea, es, if_pos ⟨rfl, ha, hs⟩]
theorem told_wi {v : T} {a s : Int} (h : told v = some (a, s)) : wi a = true ∧ wi s = true := by
  unfold told at h
  split at h
  · rename_i q
    obtain ⟨rfl, rfl⟩ := Prod.mk.inj (Option.some.inj h)
    exact q.2
  · cases h
/-- What is told of an account, with the code. -/
def acc (S : St) (n : T) : A × Int :=
  if Txn.nameB n = false then (A.zero, 1) else
  match Sto.look S (aK n) with
  | none => (⟨n, 0, 0⟩, 0)
  | some v => match told v with
    | none => (A.zero, 3)
    | some (a, s) => (⟨n, a, s⟩, 0)
def dat (S : St) (k : T) : T × Int :=
  if Txn.keyB k = false then ([], 1) else
  match Sto.look S (dK k) with
  | none => ([], 5)
  | some v => (v, 0)
theorem acc_name {S : St} {n : T} (h : (acc S n).2 = 0) : (acc S n).1.name = n ∧ Txn.nameB n = true ∧ wi (acc S n).1.amt = true ∧ wi (acc S n).1.seq = true := by
  unfold acc at h ⊢
  split
  · rename_i h1; rw [if_pos h1] at h; cases h
  · rename_i h1
    rw [if_neg h1] at h
    have hn : Txn.nameB n = true := by simpa using h1
    split
    · exact ⟨rfl, hn, rfl, rfl⟩
    · rename_i v hv
      rw [hv] at h
      dsimp only at h
      split
      · rename_i ht
        rw [ht] at h
        cases h
      · rename_i a s ht
        exact ⟨rfl, hn, told_wi ht⟩
theorem acc_put {S : St} (hS : Rising S) {n : T} (hn : Txn.nameB n = true) {a s : Int} (ha : wi a = true) (hs : wi s = true) : acc (Tri.put S (aK n) (valS a s)) n = (⟨n, a, s⟩, 0) := by
  unfold acc
  rw [hn, if_neg (by decide), Tri.look_put _ _ _ _ hS, if_pos rfl]
  dsimp only
  rw [told_val ha hs]
theorem aK_inj {n m : T} (h : aK n = aK m) : n = m := by unfold aK at h; simpa using h
theorem aK_dK (n m : T) : aK n ≠ dK m := by unfold aK dK; simp
theorem aK_sK (n : T) : aK n ≠ sK := by unfold aK sK; simp
theorem acc_other {S R : St} (n : T) (h : Sto.look R (aK n) = Sto.look S (aK n)) : acc R n = acc S n := by unfold acc; rw [h]
/-- What a kind does: the state, the code, what From's account then has. -/
def kindP (S : St) (x : X) (f t : A) : St × Int × Int :=
  if x.kind = 1 then
    (if f.amt < x.amt then ([], 161, 0) else if x.dst = x.frm then (S, 0, f.amt) else if most < t.amt + x.amt then ([], 1, 0)
      else (Tri.put S (aK x.dst) (valS (t.amt + x.amt) t.seq), (Tri.putC S (aK x.dst) (valS (t.amt + x.amt) t.seq) : Nat), f.amt - x.amt))
  else if x.kind = 2 then (Tri.put S (dK x.key) x.val, (Tri.putC S (dK x.key) x.val : Nat), f.amt)
  else if x.kind = 3 then (Tri.del S (dK x.key), ((Tri.getC S (dK x.key)).2 : Nat), f.amt)
  else if x.frm ≠ root then ([], 162, 0) else (Tri.put S sK (Pw.digL x.mem), (Tri.putC S sK (Pw.digL x.mem) : Nat), f.amt)
/-- A state's last step: From's account. -/
def lastP (n : T) (seq : Int) (k : St × Int × Int) : St × Int :=
  if k.2.1 ≠ 0 then ([], k.2.1) else if Tri.putC k.1 (aK n) (valS k.2.2 (seq + 1)) ≠ 0 then ([], (Tri.putC k.1 (aK n) (valS k.2.2 (seq + 1)) : Nat)) else (Tri.put k.1 (aK n) (valS k.2.2 (seq + 1)), 0)
def doP (S : St) (x : X) : St × Int :=
  if Txn.fine x = false then ([], 150) else
  if (acc S x.frm).2 ≠ 0 ∨ (x.kind = 1 ∧ (acc S x.dst).2 ≠ 0) then ([], 3) else
  if (acc S x.frm).1.seq ≠ x.seq ∨ (acc S x.frm).1.seq = most then ([], 160) else
  lastP x.frm (acc S x.frm).1.seq (kindP S x (acc S x.frm).1 (acc S x.dst).1)
/-- A transaction that is done. -/
structure Done (S : St) (x : X) (R : St) : Prop where
  fine : Txn.fine x = true
  frm : (acc S x.frm).2 = 0
  dst : x.kind = 1 → (acc S x.dst).2 = 0
  seq : (acc S x.frm).1.seq = x.seq
  room : x.seq < most
  kind : (kindP S x (acc S x.frm).1 (acc S x.dst).1).2.1 = 0
  put : R = Tri.put (kindP S x (acc S x.frm).1 (acc S x.dst).1).1 (aK x.frm) (valS (kindP S x (acc S x.frm).1 (acc S x.dst).1).2.2 (x.seq + 1))
theorem do_done {S R : St} {x : X} (h : doP S x = (R, 0)) : Done S x R := by
  unfold doP at h
  split at h
  · cases h
  · rename_i h1
    split at h
    · cases h
    · rename_i h2
      split at h
      · cases h
      · rename_i h3
        have hf : Txn.fine x = true := by simpa using h1
        have ha : (acc S x.frm).2 = 0 := Decidable.not_not.1 (fun e => h2 (Or.inl e))
        have hs : (acc S x.frm).1.seq = x.seq := Decidable.not_not.1 (fun e => h3 (Or.inl e))
        unfold lastP at h
        split at h
        · rename_i h4
          exact absurd (Prod.mk.inj h).2 h4
        · rename_i h4
          split at h
          · rename_i h5
            exact absurd (Prod.mk.inj h).2 (by intro e; exact h5 (by omega))
          · refine ⟨hf, ha, fun hk => Decidable.not_not.1 (fun e => h2 (Or.inr ⟨hk, e⟩)), hs, ?_, by simpa using h4, ?_⟩
            · have h6 := (wi_of (acc_name ha).2.2.2).2
              have h7 : (acc S x.frm).1.seq ≠ most := fun e => h3 (Or.inr e)
              rw [hs] at h6 h7
              have h8 : most = 1099511627776 := rfl
              omega
            · rw [← hs]
              exact (Prod.mk.inj h).1.symm
theorem Done.amt {S R : St} {x : X} (hS : Rising S) (h : Done S x R) : Rising (kindP S x (acc S x.frm).1 (acc S x.dst).1).1 ∧ wi (kindP S x (acc S x.frm).1 (acc S x.dst).1).2.2 = true ∧ wi (x.seq + 1) = true := by
  obtain ⟨-, -, g1, -⟩ := acc_name h.frm
  obtain ⟨g2, g3⟩ := wi_of g1
  obtain ⟨-, -, f3, -, f5⟩ := Txn.fine_of h.fine
  have hk := h.kind
  have hr := h.room
  have hm : most = 1099511627776 := rfl
  have hx : wi (x.seq + 1) = true := by simp only [wi, Bool.and_eq_true, decide_eq_true_eq]; omega
  unfold kindP at hk ⊢
  rcases Txn.kind_of f5 with ⟨k1, q1, q2, q3, q4, -⟩ | ⟨k1, -⟩ | ⟨k1, -⟩ | ⟨k1, -⟩
  · rw [if_pos k1] at hk ⊢
    split at hk
    · cases hk
    · rename_i c1
      split at hk
      · rename_i c2
        rw [if_neg c1, if_pos c2]
        exact ⟨hS, g1, hx⟩
      · rename_i c2
        split at hk
        · cases hk
        · rename_i c3
          rw [if_neg c1, if_neg c2, if_neg c3]
          exact ⟨Tri.put_rising hS _ _, by simp only [wi, Bool.and_eq_true, decide_eq_true_eq]; omega, hx⟩
  · rw [if_neg (by omega), if_pos k1]
    exact ⟨Tri.put_rising hS _ _, g1, hx⟩
  · rw [if_neg (by omega), if_neg (by omega), if_pos k1]
    exact ⟨Tri.del_rising hS _, g1, hx⟩
  · rw [if_neg (by omega), if_neg (by omega), if_neg (by omega)] at hk ⊢
    split at hk
    · cases hk
    · rename_i c
      rw [if_neg c]
      exact ⟨Tri.put_rising hS _ _, g1, hx⟩
theorem Done.rise {S R : St} {x : X} (hS : Rising S) (h : Done S x R) : Rising R := by
  rw [h.put]
  exact Tri.put_rising (h.amt hS).1 _ _
/-- From's account behind it. -/
theorem Done.from_ {S R : St} {x : X} (hS : Rising S) (h : Done S x R) : ∃ a, acc R x.frm = (⟨x.frm, a, x.seq + 1⟩, 0) := by
  obtain ⟨h1, h2, h3⟩ := h.amt hS
  exact ⟨(kindP S x (acc S x.frm).1 (acc S x.dst).1).2.2, by rw [h.put]; exact acc_put h1 (acc_name h.frm).2.1 h2 h3⟩
end Go.Proofs.YtlckcfpdiigjiaaGreatDoor.Exc
