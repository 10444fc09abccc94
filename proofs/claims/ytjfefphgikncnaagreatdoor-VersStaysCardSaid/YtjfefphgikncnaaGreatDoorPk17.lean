/- TriOfT, TriCover, TriWorks, ArgTActs, TriMade, TriMade2, BookItems, CodeFew, TriLaw, TriSave, TriLoadItem -/
import Derived.Test.YtjfefphgikncnaaGreatDoorPk16
import Derived.Test.YtjfefphgikncnaaGreatDoorPk15
import Derived.Deep.RegionHeld3
import Derived.Test.YtjfefphgikncnaaGreatDoorPk02
import Derived.Deep.Slices
import Derived.DataReads
import Derived.OpenShut
import Derived.SizedLaws
import Derived.Lib.LaidU8
import Derived.BigQuiet
import Derived.WalkSpells
import Derived.WalkLawsBesides
import Derived.Deep.QuietTactic
import Derived.Test.YtjfefphgikncnaaGreatDoorPk13
import Derived.Test.YtjfefphgikncnaaGreatDoorPk12
import Derived.Test.YtjfefphgikncnaaGreatDoorPk08
namespace Go.Proofs.YtjfefphgikncnaaGreatDoor
open Go.RowKit
open Sto (T St)
open Tri (Tr Ok upd ix hb lay splitT Trim rank)
open Go.Proofs.YtjfefphgikncnaaGreatDoor.Nd (N)

def TOfPost (L : St) (w : World) (e : Ending) (w' : World) : Prop :=
  ∃ z, e = .returned (.tuple #[z, .int .i64 (Tri.ofR [] L).2]) ∧ ((Tri.ofR [] L).2 = 0 → ∃ g', z = ptr g' ∧ TrAt w' g' (Tri.ofR [] L).1) ∧ ((Tri.ofR [] L).2 ≠ 0 → z = nilp) ∧ Below w.heap.size w w'
theorem TOfPost.bad {L S : St} {c : Nat} {w w' : World} (h : Tri.ofR [] L = (S, c)) (hc : c ≠ 0) (hb : Below w.heap.size w w') : TOfPost L w (.returned (.tuple #[.pointer none, .int .i64 c])) w' := ⟨nilp, by rw [h]; rfl, by rw [h]; exact fun e => absurd e hc, fun _ => rfl, hb⟩
theorem TOfPost.good {L S : St} {g' : Nat} {w w' : World} (h : Tri.ofR [] L = (S, 0)) (hT : TrAt w' g' S) (hb : Below w.heap.size w w') : TOfPost L w (.returned (.tuple #[.pointer (some ⟨g', 0, none⟩), .int .i64 0])) w' := ⟨_, by rw [h]; rfl, by rw [h]; exact fun _ => ⟨g', rfl, hT⟩, by rw [h]; exact fun e => absurd rfl e, hb⟩
end Go.Proofs.YtjfefphgikncnaaGreatDoor
namespace Go.Proofs.YtjfefphgikncnaaGreatDoor
open Go.RowKit
open Sto (T)
open Tri (Tr Ok upd ix hb lay splitT Trim rank)
open Go.Proofs.YtjfefphgikncnaaGreatDoor.Nd (N)

set_option maxRecDepth 100000 in
theorem nodes_wants (w : World) : Wants w 46 #[] (fun _ => true) where
  call := fun _ _ => rfl
  step := fun w' p _ _ _ => by
    show Calls Tryz.prog 46 #[.string ⟨p.toArray⟩] w' _
    go_enter Tryz.func46, Tryz.ntmps46
    go_wp2
    go_ret
    exact ⟨rfl, Below.refl _ _⟩
set_option maxRecDepth 100000 in
theorem nodes_any {g : Nat} {t : Tr} {top n : Value} (w : World) (hg : w.heap[g]? = some (.cells #[top, n] 82 (0, 0))) (hs : Sealed w t top) :
    Calls Tryz.prog 16 #[ptr g] w (TextsPost w (wantedT (fun _ => true) t)) := by
  have HT := Lib.hid (texts_any w hg hs (nodes_wants w) down_all)
  unfold TextsPost ptr at HT
  unfold TextsPost ptr
  clear hg hs
  go_enter Tryz.func16, Tryz.ntmps16
  go_wp2_with fail
  refine HT.out.mono ?_
  rintro e w1 ⟨z, rfl, ho, hb⟩
  go_wp2
  go_ret
  exact ⟨z, rfl, ho, hb⟩
end Go.Proofs.YtjfefphgikncnaaGreatDoor
namespace Go.Proofs.YtjfefphgikncnaaGreatDoor
open Go.RowKit
open Sto (T St)
open Tri (Tr Ok upd ix hb lay splitT Trim rank)
open Go.Proofs.YtjfefphgikncnaaGreatDoor.Nd (N)

namespace Tri
end Tri
theorem wanted_all (t : Tr) : wantedT (fun _ => true) t = (t.spots Nd.sumS []).map fun x => Nd.written x.2 := by
  unfold wantedT
  rw [List.filter_eq_self.2 (fun _ _ => rfl)]
/-- What a trie's nodes are. -/
theorem TrAt.tree {w : World} {g : Nat} {S : St} (h : TrAt w g S) : ∃ top t, TRow w g top S.length ∧ PAt w (Fm.from 0) true t top ∧ TrS S t := h
end Go.Proofs.YtjfefphgikncnaaGreatDoor
namespace Go.Proofs.YtjfefphgikncnaaGreatDoor
open Go.RowKit Go.ChangeShapes Go.WideShapes

/-- An act. -/
structure ActT where
  kind : Int
  key : List UInt8
  val : List UInt8
instance : Inhabited ActT := ⟨⟨0, [], []⟩⟩
def TActs (w : World) (v : Value) (L : List ActT) : Prop :=
  ∃ (A : Option Addr) (cap : Nat), v = .slice A L.length cap ∧ (0 < L.length → ∃ b o, A = some ⟨b, o, none⟩ ∧ b < w.heap.size ∧ ∀ i (h : i < L.length),
    w.cell? ⟨b, o + i * 3, none⟩ = some (.int .i64 L[i].kind) ∧ w.cell? ⟨b, o + i * 3 + 1, none⟩ = some (.string ⟨L[i].key.toArray⟩) ∧ w.cell? ⟨b, o + i * 3 + 2, none⟩ = some (.string ⟨L[i].val.toArray⟩))
theorem TActs.below {w w' : World} {v : Value} {L : List ActT} (h : TActs w v L) (hb : Below w.heap.size w w') : TActs w' v L := by
  obtain ⟨A, cap, rfl, hc⟩ := h
  refine ⟨A, cap, rfl, fun h0 => ?_⟩
  obtain ⟨b, o, rfl, hlt, hcell⟩ := hc h0
  refine ⟨b, o, rfl, Nat.lt_of_lt_of_le hlt hb.size, fun i hi => ?_⟩
  obtain ⟨h1, h2, h3⟩ := hcell i hi
  exact ⟨(hb.cell hlt).trans h1, (hb.cell hlt).trans h2, (hb.cell hlt).trans h3⟩
theorem TActs.form {w : World} {v : Value} {L : List ActT} (h : TActs w v L) : ∃ A cap, v = .slice A L.length cap := by
  obtain ⟨A, cap, rfl, _⟩ := h
  exact ⟨A, cap, rfl⟩
theorem TActs.at {w w' : World} {A : Option Addr} {n cap : Nat} {L : List ActT} (h : TActs w (.slice A n cap) L) (hb : Below w.heap.size w w') (k : Nat) (hk : k < L.length) :
    ∃ b o, A = some ⟨b, o, none⟩ ∧ b < w.heap.size ∧ w'.cell? ⟨b, o + k * 3, none⟩ = some (.int .i64 L[k].kind) ∧ w'.cell? ⟨b, o + k * 3 + 1, none⟩ = some (.string ⟨L[k].key.toArray⟩) ∧ w'.cell? ⟨b, o + k * 3 + 2, none⟩ = some (.string ⟨L[k].val.toArray⟩) := by
  obtain ⟨A0, cap0, hv0, hc0⟩ := h
  obtain ⟨rfl, rfl, rfl⟩ : A = A0 ∧ n = L.length ∧ cap = cap0 := by simpa using hv0
  obtain ⟨b, o, rfl, hlt, hcell⟩ := hc0 (by omega)
  obtain ⟨h1, h2, h3⟩ := hcell k hk
  exact ⟨b, o, rfl, hlt, (hb.cell hlt).trans h1, (hb.cell hlt).trans h2, (hb.cell hlt).trans h3⟩

end Go.Proofs.YtjfefphgikncnaaGreatDoor
namespace Go.Proofs.YtjfefphgikncnaaGreatDoor
open Go.RowKit
open Sto (T St)
open Tri (Tr)

end Go.Proofs.YtjfefphgikncnaaGreatDoor
namespace Go.Proofs.YtjfefphgikncnaaGreatDoor
open Go.RowKit
open Sto (T St)
open Tri (Tr)

end Go.Proofs.YtjfefphgikncnaaGreatDoor
namespace Go.Proofs.YtjfefphgikncnaaGreatDoor
open Go.RowKit
open Sto (T St)

theorem take_snoc_it {L K : St} {k : Nat} (h1 : k < L.length) (h2 : k < K.length) : L.take (k + 1) = K.take (k + 1) ↔ L.take k = K.take k ∧ L[k] = K[k] := by
  rw [List.take_succ_eq_append_getElem h1, List.take_succ_eq_append_getElem h2]
  constructor
  · intro h
    have := List.append_inj' h rfl
    exact ⟨this.1, by simpa using this.2⟩
  · rintro ⟨a, b⟩
    rw [a, b]

set_option maxRecDepth 8000 in
set_option maxHeartbeats 2000000 in
theorem sameI_in (L K : St) (u v : Value) (w : World) (hu : ItIn w u L) (hv : ItIn w v K) (hl : L.length ≤ 1000000) (hk : K.length ≤ 1000000) :
    Calls Tryz.prog 21 #[u, v] w fun x w' => x = .returned (.bool (decide (L = K))) ∧ Below w.heap.size w w' := by
  have HU := Lib.hid hu
  have HV := Lib.hid hv
  obtain ⟨A, cap, rfl, -, -⟩ := hu.form
  obtain ⟨B, cap2, rfl, -, -⟩ := hv.form
  clear hu hv
  by_cases he : L.length = K.length
  · have h0 : ((L.length : Int) == (K.length : Int)) = true := by rw [beq_iff_eq]; omega
    have HE := Lib.hid he
    go_enter Tryz.func21, Tryz.ntmps21
    go_wp2
    go_loopw [5, 6] (fun s i wr => ∃ k : Nat, k ≤ L.length ∧ s = .bool (decide (L.take k = K.take k)) ∧ i = .int .i64 k ∧ Below w.heap.size w wr ∧ (L.take k ≠ K.take k → L ≠ K)) (fun _ i _ => L.length - (intOf i).toNat)
    case atStart => exact ⟨0, Nat.zero_le _, by simp, rfl, Below.refl _ _, by simp⟩
    case round =>
      obtain ⟨k, hk, rfl, rfl, hbel, hno⟩ := hrel
      have HN := Lib.hid hno
      have HB := Lib.hid hbel
      clear hno hbel
      rcases htk : decide (L.take k = K.take k) with _ | _
      · have HT := Lib.hid htk
        clear htk
        go_wp2
        go_ret
        refine ⟨?_, HB.out⟩
        have h := HN.out (of_decide_eq_false HT.out)
        rw [decide_eq_false h]
        rfl
      · have HT := Lib.hid htk
        clear htk
        by_cases hlt : k < L.length
        · have h1 : (k : Int) < (L.length : Int) := by omega
          have h2 : (k : Int) < (K.length : Int) := by omega
          have h3 : (0 : Int) ≤ (k : Int) := by omega
          obtain ⟨b, o, rfl, n0, n1⟩ := ItIn.at (RowsIn.below HU.out HB.out) k hlt
          obtain ⟨b2, o2, rfl, m0, m1⟩ := ItIn.at (RowsIn.below HV.out HB.out) k (by omega)
          have HSN := Lib.hid (take_snoc_it hlt (show k < K.length by omega))
          have HNE : Hid (∀ h : k < K.length, L[k] ≠ K[k] → L ≠ K) := Lib.hid (fun _ h e => by subst e; exact h rfl)
          obtain ⟨⟨x, p⟩, hx⟩ : ∃ m, L[k] = m := ⟨_, rfl⟩
          obtain ⟨⟨y, q⟩, hy⟩ : ∃ m, K[k]'(by omega) = m := ⟨_, rfl⟩
          rw [hx] at n0 n1
          rw [hy] at m0 m1
          rw [hx, hy] at HSN
          rw [hx] at HNE
          have HNE2 : Hid (((x, p) : T × T) ≠ (y, q) → L ≠ K) := Lib.hid (by have := HNE.out (by omega); rwa [hy] at this)
          dsimp only at n0 n1 m0 m1
          clear hx hy HNE
          by_cases exy : x = y
          · have e1 : (x == y) = true := by rw [beq_iff_eq]; exact exy
            have EXY := Lib.hid exy
            clear exy
            by_cases epq : p = q
            · have e2 : (p == q) = true := by rw [beq_iff_eq]; exact epq
              have HR : Hid (decide (L.take (k + 1) = K.take (k + 1)) = true) := Lib.hid (decide_eq_true (HSN.out.2 ⟨of_decide_eq_true HT.out, by rw [EXY.out, epq]⟩))
              clear epq
              go_wp2
              go_quiet (fail)
              go_wp2
              go_roundw
              case rel => exact ⟨k + 1, by omega, by rw [HR.out], by go_num, bel_drewN HB.out _, fun h => absurd (of_decide_eq_true HR.out) h⟩
              case measure => simp [intOf]; omega
            · have e2 : (p == q) = false := by rw [beq_eq_false_iff_ne]; exact epq
              have HD : Hid (L ≠ K) := Lib.hid (HNE2.out (fun e => epq (congrArg Prod.snd e)))
              have HR : Hid (decide (L.take (k + 1) = K.take (k + 1)) = false) := Lib.hid (decide_eq_false (fun h => epq (congrArg Prod.snd (HSN.out.1 h).2)))
              clear epq
              go_wp2
              go_quiet (fail)
              go_wp2
              go_roundw
              case rel => exact ⟨k + 1, by omega, by rw [HR.out], by go_num, bel_drewN HB.out _, fun _ => HD.out⟩
              case measure => simp [intOf]; omega
          · have e1 : (x == y) = false := by rw [beq_eq_false_iff_ne]; exact exy
            have HD : Hid (L ≠ K) := Lib.hid (HNE2.out (fun e => exy (congrArg Prod.fst e)))
            have HR : Hid (decide (L.take (k + 1) = K.take (k + 1)) = false) := Lib.hid (decide_eq_false (fun h => exy (congrArg Prod.fst (HSN.out.1 h).2)))
            clear exy
            go_wp2
            go_quiet (fail)
            go_wp2
            go_roundw
            case rel => exact ⟨k + 1, by omega, by rw [HR.out], by go_num, bel_drewN HB.out _, fun _ => HD.out⟩
            case measure => simp [intOf]; omega
        · have h1 : ¬ ((k : Int) < (L.length : Int)) := by omega
          have HR : Hid (decide (L = K) = true) := Lib.hid (decide_eq_true (by
            have := of_decide_eq_true HT.out
            rwa [List.take_of_length_le (by omega), List.take_of_length_le (by omega)] at this))
          go_wp2
          go_ret
          exact ⟨by rw [HR.out]; rfl, HB.out⟩
  · have h0 : ((L.length : Int) == (K.length : Int)) = false := by rw [beq_eq_false_iff_ne]; omega
    have HD : Hid (decide (L = K) = false) := Lib.hid (decide_eq_false (fun e => he (by rw [e])))
    clear he
    go_enter Tryz.func21, Tryz.ntmps21
    go_wp2
    go_loopw [5, 6] (fun s i wr => s = .bool false ∧ i = .int .i64 0 ∧ Below w.heap.size w wr) (fun _ _ _ => 0)
    case atStart => exact ⟨rfl, rfl, Below.refl _ _⟩
    case round =>
      obtain ⟨rfl, rfl, hb⟩ := hrel
      go_wp2
      go_ret
      exact ⟨by rw [HD.out]; rfl, hb⟩

theorem sameI_any (L K : St) (u v : Value) (w : World) (hu : ItAt w u L) (hv : ItAt w v K) (hl : L.length ≤ 1000000) (hk : K.length ≤ 1000000) :
    Calls Tryz.prog 21 #[u, v] w fun x w' => x = .returned (.bool (decide (L = K))) ∧ Below w.heap.size w w' := sameI_in L K u v w hu.inn hv.inn hl hk
end Go.Proofs.YtjfefphgikncnaaGreatDoor
namespace Go.Proofs.YtjfefphgikncnaaGreatDoor
open Go.RowKit

def Code.few (L : List (List UInt8)) (n e : Nat) : Bool := decide (L.length ≤ n) && L.all fun s => decide (s.length ≤ e)
end Go.Proofs.YtjfefphgikncnaaGreatDoor
namespace Go.Proofs.YtjfefphgikncnaaGreatDoor
open Go.RowKit
open Sto (T St)
open Tri (Tr)

/-- The tree of items. -/
def treeS (S : St) : Tr := S.foldr (fun x t => t.put (Nib.ofL x.1) x.2) .nil
theorem treeS_tree (S : St) (hS : Sto.Rising S) (hv : ∀ p ∈ S, p.2 ≠ []) : Tri.TreeOf S (treeS S) := by
  induction S with
  | nil => exact ⟨trivial, trivial, rfl⟩
  | cons a r ih =>
    obtain ⟨h1, h2⟩ := List.pairwise_cons.1 hS
    have h3 := (ih h2 fun p h => hv p (List.mem_cons_of_mem _ h)).put (k := a.1) (hv a (List.mem_cons_self ..))
    have e : Tri.put r a.1 a.2 = a :: r := by
      cases r with
      | nil => rfl
      | cons b r =>
        have hab := h1 b (List.mem_cons_self ..)
        rw [Tri.put, if_neg (fun h => List.lt_irrefl _ (List.lt_trans h hab)), if_neg (fun e => Sto.lt_ne hab e.symm)]
    rw [e] at h3
    exact h3
theorem treeS_of {S : St} {t : Tr} (h : TrS S t) : treeS S = t :=
  (treeS_tree S h.rise fun p hp e => by have := (h.fair p hp).2.2.1; rw [e] at this; simp at this).one h.tree
def rootS (S : St) : T := (treeS S).sum Nd.sumS
def nodesS (S : St) : List T := wantedT (fun _ => true) (treeS S)
theorem sroot_any {g : Nat} {S : St} (w : World) (h : TrAt w g S) :
    Calls Tryz.prog 20 #[ptr g] w fun e w' => e = .returned (.string ⟨(rootS S).toArray⟩) ∧ Below w.heap.size w w' := by
  obtain ⟨top, t, h1, h2, h3⟩ := h
  unfold rootS
  rw [treeS_of h3]
  exact troot_any w h1 h2 h3.ok
theorem snodes_any {g : Nat} {S : St} (w : World) (h : TrAt w g S) :
    Calls Tryz.prog 16 #[ptr g] w (TextsPost w (nodesS S)) := by
  obtain ⟨top, t, h1, h2, h3⟩ := h
  unfold nodesS
  rw [treeS_of h3]
  exact nodes_any w h1 (h3.sealed h2)
theorem sitems_any {g : Nat} {S : St} (w : World) (h : TrAt w g S) :
    Calls Tryz.prog 22 #[ptr g] w (ItemsPost w S) := by
  obtain ⟨top, t, h1, h2, h3⟩ := h
  exact items_any w h1 (h3.sealed h2) h3.tree
theorem TrAt.nodes_len {w : World} {g : Nat} {S : St} (h : TrAt w g S) : (nodesS S).length ≤ 100000 := by
  obtain ⟨top, t, h1, h2, h3⟩ := h
  unfold nodesS
  rw [treeS_of h3, wanted_all, List.length_map]
  exact h3.spots []
theorem del_le (S : St) (k : T) : (Tri.del S k).length ≤ S.length := by
  induction S with
  | nil => simp [Tri.del]
  | cons b r ih =>
    rw [Tri.del]
    split
    · simp
    · simp only [List.length_cons]; omega
end Go.Proofs.YtjfefphgikncnaaGreatDoor
namespace Go.Proofs.YtjfefphgikncnaaGreatDoor
open Go.RowKit
open Sto (T St)
open Tri (Tr Ok hb)
open Go.Proofs.YtjfefphgikncnaaGreatDoor.Nd (N)

def putAll (st : St) (L : List T) : St := L.foldl (fun s t => Sto.put s (Sto.sumOf t) t) st
theorem putAll_take {st : St} {L : List T} {k : Nat} (h : k < L.length) : putAll st (L.take (k + 1)) = Sto.put (putAll st (L.take k)) (Sto.sumOf L[k]) L[k] := by
  unfold putAll
  rw [List.take_succ_eq_append_getElem h, List.foldl_append]; rfl
/-- Two unlike texts of one sum. -/
def Clash (L : List T) : Prop := ∃ s ∈ L, ∃ t ∈ L, s ≠ t ∧ Sto.sumOf s = Sto.sumOf t
/-- A store that has some of these texts, each at its sum. -/
structure OfTexts (st : St) (C : List T) : Prop where
  rise : Sto.Rising st
  own : OwnSums st
  of : ∀ x t, Sto.look st x = some t → t ∈ C
theorem OfTexts.nil (C : List T) : OfTexts [] C := ⟨Sto.rising_nil, OwnSums.nil, fun x t h => by cases h⟩
theorem OfTexts.put {st : St} {C : List T} (h : OfTexts st C) {t : T} (ht : t ∈ C) (hn : ¬ Clash C) : OfTexts (Sto.put st (Sto.sumOf t) t) C ∧ Sto.look (Sto.put st (Sto.sumOf t) t) (Sto.sumOf t) = some t ∧ ∀ x y, Sto.look st x = some y → Sto.look (Sto.put st (Sto.sumOf t) t) x = some y := by
  have hown := h.own.put h.rise t
  have hkeep : ∀ x y, Sto.look st x = some y → Sto.look (Sto.put st (Sto.sumOf t) t) x = some y := fun x y hl => by
    obtain ⟨s, hs⟩ : ∃ s, Sto.sumOf t = s := ⟨_, rfl⟩
    rw [hs, Sto.look_put h.rise]
    by_cases e : x = s
    · rw [if_pos e, ← e, hl]; rfl
    · rw [if_neg e]; exact hl
  have hit : Sto.look (Sto.put st (Sto.sumOf t) t) (Sto.sumOf t) = some t := by
    obtain ⟨s, hs⟩ : ∃ s, Sto.sumOf t = s := ⟨_, rfl⟩
    rw [hs, Sto.look_put h.rise, if_pos rfl]
    cases hl : Sto.look st s with
    | none => rfl
    | some y =>
      have hy := h.of s y hl
      have hys := h.own s y hl
      by_cases e : y = t
      · rw [e]; rfl
      · exact absurd ⟨y, hy, t, ht, e, hys.trans hs.symm⟩ hn
  refine ⟨⟨Sto.put_rising h.rise _ _, hown, fun x y hl => ?_⟩, hit, hkeep⟩
  obtain ⟨s, hs⟩ : ∃ s, Sto.sumOf t = s := ⟨_, rfl⟩
  rw [hs, Sto.look_put h.rise] at hl
  by_cases e : x = s
  · rw [if_pos e] at hl
    cases hk : Sto.look st s with
    | none =>
      rw [hk] at hl
      have e2 : t = y := Option.some.inj hl
      rw [← e2]; exact ht
    | some z =>
      rw [hk] at hl
      have e2 : z = y := Option.some.inj hl
      rw [← e2]; exact h.of _ _ hk
  · rw [if_neg e] at hl
    exact h.of _ _ hl
theorem putAll_keep {C : List T} (hn : ¬ Clash C) (L : List T) : ∀ {st : St}, OfTexts st C → (∀ t ∈ L, t ∈ C) → OfTexts (putAll st L) C ∧ (∀ t ∈ L, Sto.look (putAll st L) (Sto.sumOf t) = some t) ∧ ∀ x y, Sto.look st x = some y → Sto.look (putAll st L) x = some y := by
  induction L with
  | nil => intro st h _; exact ⟨h, fun t ht => (by cases ht), fun _ _ h => h⟩
  | cons a L ih =>
    intro st h hL
    obtain ⟨h1, h2, h3⟩ := h.put (hL a (List.mem_cons_self ..)) hn
    obtain ⟨g1, g2, g3⟩ := ih h1 (fun t ht => hL t (List.mem_cons_of_mem _ ht))
    refine ⟨g1, fun t ht => ?_, fun x y hl => g3 x y (h3 x y hl)⟩
    rcases List.mem_cons.1 ht with rfl | ht
    · exact g3 _ _ h2
    · exact g2 t ht
theorem putAll_own (L : List T) : ∀ {st : St}, Sto.Rising st → OwnSums st → OwnSums (putAll st L) ∧ Sto.Rising (putAll st L) := by
  induction L with
  | nil => intro st h1 h2; exact ⟨h2, h1⟩
  | cons a L ih => intro st h1 h2; exact ih (Sto.put_rising h1 _ _) (h2.put h1 a)
theorem sumS_of {n : N} (h : Nd.fine n = true) : Nd.sumS n = Sto.sumOf (Nd.written n) := by
  unfold Nd.sumS Sto.sumOf
  rw [if_pos h]
/-- A trie all of whose nodes are there. -/
theorem inS_of {st : St} {t : Tr} (h : Ok t) (hl : ∀ n ∈ t.nodes Nd.sumS, Sto.look st (Sto.sumOf (Nd.written n)) = some (Nd.written n)) : t.inS st := by
  have one : ∀ {t : Tr}, Ok t → ¬ t.isNil → (∀ n ∈ t.nodes Nd.sumS, Sto.look st (Sto.sumOf (Nd.written n)) = some (Nd.written n)) → Sto.look st (t.sum Nd.sumS) = some (Nd.written (t.node Nd.sumS)) := by
    intro t h hn hl
    obtain ⟨r, hr⟩ := Tri.nodes_head Nd.sumS hn
    have h1 := hl (t.node Nd.sumS) (by rw [hr]; exact List.mem_cons_self ..)
    have h2 : Nd.sumS (t.node Nd.sumS) = Sto.sumOf (Nd.written (t.node Nd.sumS)) := sumS_of (h.fine hn)
    rw [Tri.sum_node _ hn, h2]
    exact h1
  induction t with
  | nil => trivial
  | leaf p v => exact one h id hl
  | ext p t ih => exact ⟨one h id hl, ih ⟨h.canon.2.2, h.fits.2, h.small.2⟩ (fun n hn => hl n (List.mem_cons_of_mem _ hn))⟩
  | br v k ih =>
    refine ⟨one h id hl, fun i => ih i ⟨h.canon.1 i, h.fits i, h.small.2 i⟩ (fun n hn => hl n (List.mem_cons_of_mem _ ?_))⟩
    exact List.mem_flatMap.2 ⟨i, List.mem_finRange i, hn⟩
theorem nodesS_nodes {S : St} {t : Tr} (h : TrS S t) : nodesS S = (t.nodes Nd.sumS).map Nd.written := by
  unfold nodesS
  rw [treeS_of h, wanted_all, ← Tri.spots_nodes Nd.sumS t [], List.map_map]
  rfl
theorem nodes_fine {t : Tr} (h : Ok t) : ∀ n ∈ t.nodes Nd.sumS, Nd.fine n = true ∧ n.kids.length = 16 := by
  induction t with
  | nil => intro n hn; cases hn
  | leaf p v => intro n hn; rw [List.mem_singleton.1 hn]; exact ⟨h.fine id, Tri.node_kids ..⟩
  | ext p t ih =>
    intro n hn
    rcases List.mem_cons.1 hn with e | e
    · rw [e]; exact ⟨h.fine id, Tri.node_kids ..⟩
    · exact ih ⟨h.canon.2.2, h.fits.2, h.small.2⟩ n e
  | br v k ih =>
    intro n hn
    rcases List.mem_cons.1 hn with e | e
    · rw [e]; exact ⟨h.fine id, Tri.node_kids ..⟩
    · obtain ⟨i, _, hi⟩ := List.mem_flatMap.1 e
      exact ih i ⟨h.canon.1 i, h.fits i, h.small.2 i⟩ n hi
theorem nodesS_short {S : St} {t : Tr} (h : TrS S t) : ∀ x ∈ nodesS S, x.length ≤ 999 := by
  intro x hx
  rw [nodesS_nodes h] at hx
  obtain ⟨n, hn, rfl⟩ := List.mem_map.1 hx
  obtain ⟨h1, h2⟩ := nodes_fine h.ok n hn
  have := Nd.written_most n h2 h1
  omega
/-- A trie that a map's change leaves as it was. -/
theorem TrAt.out {w w' : World} {g m : Nat} {S : St} (h : TrAt w g S) (ho : Out (fun j => j = m) w w') (hm : ∀ cs t f, w.heap[m]? ≠ some (.cells cs t f)) : TrAt w' g S := by
  obtain ⟨top, t, h1, h2, h3⟩ := h
  refine ⟨top, t, ho.heap h1 (fun e => hm _ _ _ (by rw [← e]; exact h1)), h2.change (fun _ _ _ h => h) fun g k p x K s s2 _ hr => ho.heap hr (fun e => hm _ _ _ (by rw [← e]; exact hr)), h3⟩
theorem tab_out {P : Program} {k : TypeId} {κ α : Type} {M : MapLaw P k κ α} {w w' : World} {m : Nat} {f : κ → Option α} (hT : Tab w) (h : FnAt M w m f) (ho : Out (fun i => i = m) w w') : Tab w' := fun i hi => by
  refine ho.cell (hT i hi) fun e => ?_
  obtain ⟨es, c, he, _⟩ := h
  have hk := hT i hi
  have e' : (0 : Nat) = m := e
  subst e'
  simp [World.cell?, he] at hk
set_option maxRecDepth 100000 in
set_option maxHeartbeats 1000000 in
theorem tsave_any {g gs ms : Nat} {S st : St} (w : World) (h : TrAt w g S) (hs : StoreAt w gs ms st) (hT : Tab w) :
    Calls Tryz.prog 43 #[.pointer (some ⟨g, 0, none⟩), .pointer (some ⟨gs, 0, none⟩)] w fun e w' => e = .returned (.string ⟨(rootS S).toArray⟩) ∧ StoreAt w' gs ms (putAll st (nodesS S)) ∧ Out (fun j => j = ms) w w' := by
  have HH := Lib.hid h
  have HS := Lib.hid hs
  have HT := Lib.hid hT
  have HNO := Lib.hid (snodes_any w h)
  unfold ptr TextsPost at HNO
  have HNL := Lib.hid h.nodes_len
  have HSH : Hid (∀ x ∈ nodesS S, x.length ≤ 999) := Lib.hid (by
    obtain ⟨top, t, -, -, hts⟩ := h
    exact nodesS_short hts)
  have HRO := Lib.hid (fun w' (h' : TrAt w' g S) => sroot_any w' h')
  unfold ptr at HRO
  obtain ⟨NS, hNS⟩ : ∃ NS, nodesS S = NS := ⟨_, rfl⟩
  rw [hNS] at HNO HNL HSH ⊢
  obtain ⟨RS, hRS⟩ : ∃ RS, rootS S = RS := ⟨_, rfl⟩
  rw [hRS] at HRO ⊢
  clear h hs hT hNS hRS
  go_enter Tryz.func43, Tryz.ntmps43
  go_wp2_with fail
  refine HNO.out.mono ?_
  rintro e w1 ⟨z, rfl, o1, hb1⟩
  have HO1 := Lib.hid o1
  have HB1 := Lib.hid hb1
  have HT1 := Lib.hid (HT.out.below hb1)
  have HS1 := Lib.hid (HS.out.below hb1)
  have HH1 := Lib.hid (HH.out.below hb1)
  have HNC : Hid (∀ w', Out (fun j => j = ms) w1 w' → ∀ k cs t f, k = ms → w1.heap[k]? ≠ some (.cells cs t f)) := Lib.hid (fun _ _ k cs t f e => HS1.out.map.no_cells k cs t f e)
  obtain ⟨A, cap, rfl⟩ := own_form o1
  clear o1 hb1
  go_wp2
  go_loopw [10] (fun iv wr => ∃ k : Nat, k ≤ NS.length ∧ iv = .int .i64 k ∧ StoreAt wr gs ms (putAll st (NS.take k)) ∧ Out (fun j => j = ms) w1 wr) (fun i _ => NS.length - (intOf i).toNat)
  case atStart => exact ⟨0, Nat.zero_le _, rfl, HS1.out, Out.refl _ _⟩
  case round =>
    obtain ⟨k, hk, rfl, hst, hou⟩ := hrel
    have HST := Lib.hid hst
    have HOU := Lib.hid hou
    by_cases hlt : k < NS.length
    · have h1 : (k : Int) < (NS.length : Int) := by omega
      have h0 : (0 : Int) ≤ (k : Int) := by omega
      have hnb : (k : Int) ≤ 100000 := by have := HNL.out; omega
      have hown : Own wr w.heap.size (.slice A NS.length cap) NS := row_out HO1.out hou (fun k cs t f e => HNC.out _ hou k cs t f e)
      obtain ⟨a, rfl, hcell⟩ := hown.strs_at (Below.refl _ wr) k hlt
      have HPT := Lib.hid (putAll_take (st := st) hlt)
      have HPU := Lib.hid (stput_any gs ms (putAll st (NS.take k)) NS[k] wr hst (tab_out HT1.out HS1.out.map hou) (by have := HSH.out _ (List.getElem_mem hlt); omega))
      unfold StPutPost at HPU
      rw [← HPT.out] at HPU
      obtain ⟨y, hy⟩ : ∃ y, NS[k] = y := ⟨_, rfl⟩
      rw [hy] at hcell HPU
      clear hst hou hown hy
      go_wp2_with fail
      refine HPU.out.mono ?_
      rintro e w2 ⟨rfl, hst2, hou2⟩
      have HST2 := Lib.hid hst2
      have HOU2 := Lib.hid (HOU.out.trans hou2)
      clear hst2 hou2 hcell
      go_wp2
      exact ⟨⟨k + 1, by omega, by go_num, HST2.out, HOU2.out⟩, by simp [intOf]; omega⟩
    · obtain rfl : k = NS.length := by omega
      have h1 : ¬ ((NS.length : Int) < (NS.length : Int)) := by omega
      rw [List.take_length] at HST
      have HTR := Lib.hid (HH1.out.out hou (fun cs t f => HS1.out.map.no_cells _ cs t f rfl))
      clear hst hou
      go_wp2_with fail
      refine (HRO.out _ HTR.out).mono ?_
      rintro e w2 ⟨rfl, hb2⟩
      have HST2 := Lib.hid (HST.out.below hb2)
      have HOU2 : Hid (Out (fun j => j = ms) w w2) := Lib.hid ((Out.of HB1.out).trans (HOU.out.trans (Out.of hb2)))
      clear hb2
      go_wp2
      go_ret
      exact ⟨rfl, HST2.out, HOU2.out⟩
end Go.Proofs.YtjfefphgikncnaaGreatDoor
namespace Go.Proofs.YtjfefphgikncnaaGreatDoor
open Go.RowKit
open Sto (T St)
open Tri (Tr Ok hb)
open Go.Proofs.YtjfefphgikncnaaGreatDoor.Nd (N)

/-- A loader in block d, over the store in block g, that has counted n items. -/
def LdAt (w : World) (d g n : Nat) : Prop := w.heap[d]? = some (.cells #[.pointer (some ⟨g, 0, none⟩), .int .i64 n] 125 (0, 0))
theorem LdAt.store {w : World} {d g n : Nat} (h : LdAt w d g n) : w.cell? ⟨d, 0, none⟩ = some (.pointer (some ⟨g, 0, none⟩)) := by rw [cell_of_row _ _ _ _ _ _ h]; rfl
theorem LdAt.num {w : World} {d g n : Nat} (h : LdAt w d g n) : w.cell? ⟨d, 1, none⟩ = some (.int .i64 n) := by rw [cell_of_row _ _ _ _ _ _ h]; rfl
theorem LdAt.free {w : World} {d g n : Nat} (h : LdAt w d g n) (i : Nat) : w.frozen? ⟨d, i, none⟩ = false := frozen_of_row _ _ _ _ _ h
theorem LdAt.below {w w' : World} {d g n : Nat} (h : LdAt w d g n) (hb : Below w.heap.size w w') : LdAt w' d g n := (hb.block d (lt_of_heap h)).trans h
theorem LdAt.set {w : World} {d g n : Nat} (h : LdAt w d g n) (m : Nat) : LdAt (w.setCell ⟨d, 1, none⟩ (.int .i64 m)) d g m := by
  have := heap_setCell_same w d 1 _ _ (.int .i64 m) h
  exact this
theorem LdAt.setNew {w : World} {d g n q : Nat} (h : LdAt w d g n) (hq : q ≠ d) (i : Nat) (v : Value) : LdAt (w.setCell ⟨q, i, none⟩ v) d g n := (heap_setCell_other w ⟨q, i, none⟩ d v (fun e => hq e.symm)).trans h
def LItemPost (p : T) (d g n : Nat) (w : World) (e : Ending) (w' : World) : Prop :=
  ∃ c : Int, e = .returned (.int .i64 c) ∧ Only d w w' ∧ ((c = 0 ∧ 1 ≤ p.length ∧ p.length % 2 = 0 ∧ n < 1024 ∧ LdAt w' d g (n + 1)) ∨ (c ≠ 0 ∧ LdAt w' d g n ∧ (p.length = 0 ∨ p.length % 2 = 1 ∨ n = 1024)))
set_option maxRecDepth 100000 in
set_option maxHeartbeats 1000000 in
theorem lditem_any {d g n : Nat} (p : T) (w : World) (h : LdAt w d g n) (hn : n ≤ 1024) (hp : p.length ≤ 1000) :
    Calls Tryz.prog 109 #[.pointer (some ⟨d, 0, none⟩), .string ⟨p.toArray⟩] w (LItemPost p d g n w) := by
  have HH := Lib.hid h
  have HP : Hid (∀ (c : Int) (w' : World), Only d w w' → ((c = 0 ∧ 1 ≤ p.length ∧ p.length % 2 = 0 ∧ n < 1024 ∧ LdAt w' d g (n + 1)) ∨ (c ≠ 0 ∧ LdAt w' d g n ∧ (p.length = 0 ∨ p.length % 2 = 1 ∨ n = 1024))) → LItemPost p d g n w (.returned (.int .i64 c)) w') := Lib.hid (fun c w' a b => ⟨c, rfl, a, b⟩)
  by_cases h0 : p = []
  · have HX : Hid (p.length = 0) := Lib.hid (by rw [h0]; rfl)
    have h1 : (p == []) = true := beq_iff_eq.2 h0
    have h2 : p.isEmpty = true := by rw [h0]; rfl
    clear h h0
    go_enter Tryz.func109, Tryz.ntmps109
    go_wp2
    go_ret
    exact HP.out 4 w (Only.refl _ _) (Or.inr ⟨by decide, HH.out, Or.inl HX.out⟩)
  have h1 : (p == []) = false := by rw [beq_eq_false_iff_ne]; exact h0
  have h2 : p.isEmpty = false := by cases p <;> simp_all
  have hp1 : 1 ≤ p.length := List.length_pos_iff.2 h0
  rcases Nat.mod_two_eq_zero_or_one p.length with hm | hm
  case inr =>
    have r1 : (p.length : Int) % 2 = 1 := by omega
    have r2 : (p.length : Int).tmod 2 = 1 := by rw [Int.tmod_eq_emod_of_nonneg (by omega)]; exact r1
    have HX : Hid (p.length % 2 = 1) := Lib.hid hm
    clear h h0 hm
    go_enter Tryz.func109, Tryz.ntmps109
    go_wp2
    go_ret
    exact HP.out 4 w (Only.refl _ _) (Or.inr ⟨by decide, HH.out, Or.inr (Or.inl HX.out)⟩)
  have r1 : (p.length : Int) % 2 = 0 := by omega
  have r2 : (p.length : Int).tmod 2 = 0 := by rw [Int.tmod_eq_emod_of_nonneg (by omega)]; exact r1
  have HX : Hid (1 ≤ p.length ∧ p.length % 2 = 0) := Lib.hid ⟨hp1, hm⟩
  have c1 := h.num
  have f1 := h.free 1
  by_cases hn2 : n = 1024
  · have n1 : ((n : Int) == 1024) = true := by rw [beq_iff_eq]; omega
    have n2 : (n : Int) = 1024 := by omega
    have HN2 := Lib.hid hn2
    clear h h0 hm hp1 hn hn2
    go_enter Tryz.func109, Tryz.ntmps109
    go_wp2
    go_ret
    exact HP.out 2 w (Only.refl _ _) (Or.inr ⟨by decide, HH.out, Or.inr (Or.inr HN2.out)⟩)
  have n1 : ((n : Int) == 1024) = false := by rw [beq_eq_false_iff_ne]; omega
  have n2 : ¬ ((n : Int) = 1024) := by omega
  have n3 : IntKind.i64.wrap ((n : Int) + 1) = (n : Int) + 1 := IntWalk.i64_in _ (by omega)
  have HN : Hid (n < 1024) := Lib.hid (by omega)
  have HE : Hid (((n + 1 : Nat) : Int) = (n : Int) + 1) := Lib.hid (by omega)
  clear h h0 hm hp1 hn hn2
  go_enter Tryz.func109, Tryz.ntmps109
  go_wp2
  go_ret
  refine HP.out 0 _ ((Only.refl d w).setCell (p := ⟨d, 1, none⟩) rfl _) (Or.inl ⟨rfl, HX.out.1, HX.out.2, HN.out, ?_⟩)
  have := HH.out.set (n + 1)
  rw [HE.out] at this
  exact this
def Fm.up (B : Nat) : Fm := fun _ g => B ≤ g
theorem PAt.up {w w' : World} {B : Nat} {s : Bool} {t : Tr} {v : Value} (h : PAt w (Fm.up B) s t v) (ho : ∀ g, B ≤ g → g < w.heap.size → w'.heap[g]? = w.heap[g]?) : PAt w' (Fm.up B) s t v :=
  h.change (fun _ _ _ h => h) fun g _ _ _ _ _ _ hg hr => (ho g hg (lt_of_heap hr)).trans hr
theorem PAt.upOnly {w w' : World} {B d : Nat} {s : Bool} {t : Tr} {v : Value} (h : PAt w (Fm.up B) s t v) (ho : Only d w w') (hd : d < B) : PAt w' (Fm.up B) s t v :=
  h.up fun g hg hlt => ho.block g hlt (by omega)
theorem PAt.upMono {w : World} {B C : Nat} {s : Bool} {t : Tr} {v : Value} (h : PAt w (Fm.up B) s t v) (hc : C ≤ B) : PAt w (Fm.up C) s t v := h.imp fun _ _ _ hg => Nat.le_trans hc hg
/-- What part answers: the trie that stands there, or a code. -/
def PartPost (S : St) (sum place : T) (inE : Bool) (d g n : Nat) (w : World) (e : Ending) (w' : World) : Prop :=
  ∃ (z : Value) (c : Int) (n' : Nat), e = .returned (.tuple #[z, .int .i64 c]) ∧ LdAt w' d g n' ∧ Only d w w' ∧ n' ≤ 1024 ∧
    ((c = 0 ∧ ∃ t, Loaded S sum place inE t ∧ PAt w' (Fm.up w.heap.size) true t z ∧ n' = n + t.items.length) ∨ (c ≠ 0 ∧ z = nilp ∧ ∀ t, Loaded S sum place inE t → 1024 < n + t.items.length))
def PartIs (S : St) (d g m : Nat) (f : Nat) : Prop := ∀ (sum place : T) (inE : Bool) (n : Nat) (w : World), 16 - place.length < f → place.length ≤ 16 → sum.length ≤ 32 → n ≤ 1024 → LdAt w d g n → StoreAt w g m S →
  Calls Tryz.prog 80 #[.pointer (some ⟨d, 0, none⟩), .string ⟨sum.toArray⟩, .string ⟨place.toArray⟩, .bool inE] w (PartPost S sum place inE d g n w)
set_option maxRecDepth 100000 in
set_option maxHeartbeats 1000000 in
theorem ldkid_any {S : St} {d g m f : Nat} (IH : PartIs S d g m f) (kind : Nat) (sum place : T) (n : Nat) (w : World) (hf : place.length ≤ 16 → 16 - place.length < f) (hpl : place.length ≤ 1000) (hs : sum.length ≤ 32) (hn : n ≤ 1024) (hL : LdAt w d g n) (hS : StoreAt w g m S) :
    Calls Tryz.prog 110 #[.pointer (some ⟨d, 0, none⟩), .int .i64 kind, .string ⟨sum.toArray⟩, .string ⟨place.toArray⟩] w (PartPost S sum place (decide (kind = 2)) d g n w) := by
  by_cases hp : place.length ≤ 16
  · have q1 : ¬ ((place.length : Int) > 16) := by omega
    have q2 : decide ((16 : Int) < (place.length : Int)) = false := decide_eq_false (by omega)
    have q3 : decide (16 < place.length) = false := decide_eq_false (by omega)
    have q4 : ¬ (16 < place.length) := by omega
    have HI := Lib.hid (IH sum place (decide (kind = 2)) n w (hf hp) hp hs hn hL hS)
    clear IH hf hs hn hL hS hp
    by_cases h2 : kind = 2
    · have k1 : ((kind : Int) == 2) = true := by rw [beq_iff_eq]; omega
      have k2 : (kind : Int) = 2 := by omega
      rw [decide_eq_true h2] at HI ⊢
      clear h2
      go_enter Tryz.func110, Tryz.ntmps110
      go_wp2_with fail
      refine HI.out.mono ?_
      rintro e w1 ⟨z, c, n', rfl, r⟩
      have HR := Lib.hid r
      clear r
      go_wp2
      go_ret2
      exact ⟨z, c, n', rfl, HR.out⟩
    · have k1 : ((kind : Int) == 2) = false := by rw [beq_eq_false_iff_ne]; omega
      have k2 : ¬ ((kind : Int) = 2) := by omega
      rw [decide_eq_false h2] at HI ⊢
      clear h2
      go_enter Tryz.func110, Tryz.ntmps110
      go_wp2_with fail
      refine HI.out.mono ?_
      rintro e w1 ⟨z, c, n', rfl, r⟩
      have HR := Lib.hid r
      clear r
      go_wp2
      go_ret2
      exact ⟨z, c, n', rfl, HR.out⟩
  · have q1 : (place.length : Int) > 16 := by omega
    have q2 : decide ((16 : Int) < (place.length : Int)) = true := decide_eq_true (by omega)
    have q3 : decide (16 < place.length) = true := decide_eq_true (by omega)
    have HP : Hid (PartPost S sum place (decide (kind = 2)) d g n w (.returned (.tuple #[.pointer none, .int .i64 4])) w) := Lib.hid ⟨nilp, 4, n, rfl, hL, Only.refl _ _, hn, Or.inr ⟨by decide, rfl, fun t ht => by have := ht.short; omega⟩⟩
    clear IH hf hs hn hL hS hp
    go_enter Tryz.func110, Tryz.ntmps110
    go_wp2
    go_ret2
    exact HP.out
end Go.Proofs.YtjfefphgikncnaaGreatDoor
