/- BookItems, CodeFew, TriLaw, TriSave, TriLoadItem, TriLoadPart, TriLoad, TriGrownMath, TriSavedMath, VerReach, RegionInv, TriCover2, TriShow, ProofMath -/
import Derived.Test.YtaficmboooaknaaGreatDoorPk14
import Derived.Test.YtaficmboooaknaaGreatDoorPk15
import Derived.BigQuiet
import Derived.Test.YtaficmboooaknaaGreatDoorPk02
import Derived.WalkSpells
import Derived.WalkLawsBesides
import Derived.Deep.QuietTactic
import Derived.Test.YtaficmboooaknaaGreatDoorPk12
import Derived.Test.YtaficmboooaknaaGreatDoorPk07
import Derived.Deep.RegionHeld3
import Derived.Test.YtaficmboooaknaaGreatDoorPk11
import Derived.RegionTactic
import Derived.Test.YtaficmboooaknaaGreatDoorPk13
namespace Go.Proofs.YtaficmboooaknaaGreatDoor
open Go.RowKit
open Sto (T St)

theorem take_snoc_it {L K : St} {k : Nat} (h1 : k < L.length) (h2 : k < K.length) : L.take (k + 1) = K.take (k + 1) ↔ L.take k = K.take k ∧ L[k] = K[k] := by
  rw [List.take_succ_eq_append_getElem h1, List.take_succ_eq_append_getElem h2]
  constructor
  · intro h
    have := List.append_inj' h rfl
    exact ⟨this.1, by simpa using this.2⟩
  · rintro ⟨a, b⟩
    rw [a, b]

set_option maxRecDepth 8000 in
set_option maxHeartbeats 2000000 in
theorem sameI_in (L K : St) (u v : Value) (w : World) (hu : ItIn w u L) (hv : ItIn w v K) (hl : L.length ≤ 1000000) (hk : K.length ≤ 1000000) :
    Calls Tryz.prog 21 #[u, v] w fun x w' => x = .returned (.bool (decide (L = K))) ∧ Below w.heap.size w w' := by
  have HU := Lib.hid hu
  have HV := Lib.hid hv
  obtain ⟨A, cap, rfl, -, -⟩ := hu.form
  obtain ⟨B, cap2, rfl, -, -⟩ := hv.form
  clear hu hv
  by_cases he : L.length = K.length
  · have h0 : ((L.length : Int) == (K.length : Int)) = true := by rw [beq_iff_eq]; omega
    have HE := Lib.hid he
    go_enter Tryz.func21, Tryz.ntmps21
    go_wp2
    go_loopw [5, 6] (fun s i wr => ∃ k : Nat, k ≤ L.length ∧ s = .bool (decide (L.take k = K.take k)) ∧ i = .int .i64 k ∧ Below w.heap.size w wr ∧ (L.take k ≠ K.take k → L ≠ K)) (fun _ i _ => L.length - (intOf i).toNat)
    case atStart => exact ⟨0, Nat.zero_le _, by simp, rfl, Below.refl _ _, by simp⟩
    case round =>
      obtain ⟨k, hk, rfl, rfl, hbel, hno⟩ := hrel
      have HN := Lib.hid hno
      have HB := Lib.hid hbel
      clear hno hbel
      rcases htk : decide (L.take k = K.take k) with _ | _
      · have HT := Lib.hid htk
        clear htk
        go_wp2
        go_ret
        refine ⟨?_, HB.out⟩
        have h := HN.out (of_decide_eq_false HT.out)
        rw [decide_eq_false h]
        rfl
      · have HT := Lib.hid htk
        clear htk
        by_cases hlt : k < L.length
        · have h1 : (k : Int) < (L.length : Int) := by omega
          have h2 : (k : Int) < (K.length : Int) := by omega
          have h3 : (0 : Int) ≤ (k : Int) := by omega
          obtain ⟨b, o, rfl, n0, n1⟩ := ItIn.at (RowsIn.below HU.out HB.out) k hlt
          obtain ⟨b2, o2, rfl, m0, m1⟩ := ItIn.at (RowsIn.below HV.out HB.out) k (by omega)
          have HSN := Lib.hid (take_snoc_it hlt (show k < K.length by omega))
          have HNE : Hid (∀ h : k < K.length, L[k] ≠ K[k] → L ≠ K) := Lib.hid (fun _ h e => by subst e; exact h rfl)
          obtain ⟨⟨x, p⟩, hx⟩ : ∃ m, L[k] = m := ⟨_, rfl⟩
          obtain ⟨⟨y, q⟩, hy⟩ : ∃ m, K[k]'(by omega) = m := ⟨_, rfl⟩
          rw [hx] at n0 n1
          rw [hy] at m0 m1
          rw [hx, hy] at HSN
          rw [hx] at HNE
          have HNE2 : Hid (((x, p) : T × T) ≠ (y, q) → L ≠ K) := Lib.hid (by have := HNE.out (by omega); rwa [hy] at this)
          dsimp only at n0 n1 m0 m1
          clear hx hy HNE
          by_cases exy : x = y
          · have e1 : (x == y) = true := by rw [beq_iff_eq]; exact exy
            have EXY := Lib.hid exy
            clear exy
            by_cases epq : p = q
            · have e2 : (p == q) = true := by rw [beq_iff_eq]; exact epq
              have HR : Hid (decide (L.take (k + 1) = K.take (k + 1)) = true) := Lib.hid (decide_eq_true (HSN.out.2 ⟨of_decide_eq_true HT.out, by rw [EXY.out, epq]⟩))
              clear epq
              go_wp2
              go_quiet (fail)
              go_wp2
              go_roundw
              case rel => exact ⟨k + 1, by omega, by rw [HR.out], by go_num, bel_drewN HB.out _, fun h => absurd (of_decide_eq_true HR.out) h⟩
              case measure => simp [intOf]; omega
            · have e2 : (p == q) = false := by rw [beq_eq_false_iff_ne]; exact epq
              have HD : Hid (L ≠ K) := Lib.hid (HNE2.out (fun e => epq (congrArg Prod.snd e)))
              have HR : Hid (decide (L.take (k + 1) = K.take (k + 1)) = false) := Lib.hid (decide_eq_false (fun h => epq (congrArg Prod.snd (HSN.out.1 h).2)))
              clear epq
              go_wp2
              go_quiet (fail)
              go_wp2
              go_roundw
              case rel => exact ⟨k + 1, by omega, by rw [HR.out], by go_num, bel_drewN HB.out _, fun _ => HD.out⟩
              case measure => simp [intOf]; omega
          · have e1 : (x == y) = false := by rw [beq_eq_false_iff_ne]; exact exy
            have HD : Hid (L ≠ K) := Lib.hid (HNE2.out (fun e => exy (congrArg Prod.fst e)))
            have HR : Hid (decide (L.take (k + 1) = K.take (k + 1)) = false) := Lib.hid (decide_eq_false (fun h => exy (congrArg Prod.fst (HSN.out.1 h).2)))
            clear exy
            go_wp2
            go_quiet (fail)
            go_wp2
            go_roundw
            case rel => exact ⟨k + 1, by omega, by rw [HR.out], by go_num, bel_drewN HB.out _, fun _ => HD.out⟩
            case measure => simp [intOf]; omega
        · have h1 : ¬ ((k : Int) < (L.length : Int)) := by omega
          have HR : Hid (decide (L = K) = true) := Lib.hid (decide_eq_true (by
            have := of_decide_eq_true HT.out
            rwa [List.take_of_length_le (by omega), List.take_of_length_le (by omega)] at this))
          go_wp2
          go_ret
          exact ⟨by rw [HR.out]; rfl, HB.out⟩
  · have h0 : ((L.length : Int) == (K.length : Int)) = false := by rw [beq_eq_false_iff_ne]; omega
    have HD : Hid (decide (L = K) = false) := Lib.hid (decide_eq_false (fun e => he (by rw [e])))
    clear he
    go_enter Tryz.func21, Tryz.ntmps21
    go_wp2
    go_loopw [5, 6] (fun s i wr => s = .bool false ∧ i = .int .i64 0 ∧ Below w.heap.size w wr) (fun _ _ _ => 0)
    case atStart => exact ⟨rfl, rfl, Below.refl _ _⟩
    case round =>
      obtain ⟨rfl, rfl, hb⟩ := hrel
      go_wp2
      go_ret
      exact ⟨by rw [HD.out]; rfl, hb⟩

theorem sameI_any (L K : St) (u v : Value) (w : World) (hu : ItAt w u L) (hv : ItAt w v K) (hl : L.length ≤ 1000000) (hk : K.length ≤ 1000000) :
    Calls Tryz.prog 21 #[u, v] w fun x w' => x = .returned (.bool (decide (L = K))) ∧ Below w.heap.size w w' := sameI_in L K u v w hu.inn hv.inn hl hk
end Go.Proofs.YtaficmboooaknaaGreatDoor
namespace Go.Proofs.YtaficmboooaknaaGreatDoor
open Go.RowKit

def Code.few (L : List (List UInt8)) (n e : Nat) : Bool := decide (L.length ≤ n) && L.all fun s => decide (s.length ≤ e)
theorem Code.few_iff (L : List (List UInt8)) (n e : Nat) : Code.few L n e = true ↔ L.length ≤ n ∧ ∀ s ∈ L, s.length ≤ e := by simp [Code.few]
theorem Code.all_snoc (L : List (List UInt8)) (e k : Nat) (h : k < L.length) : ((L.take (k + 1)).all fun s => decide (s.length ≤ e)) = (((L.take k).all fun s => decide (s.length ≤ e)) && decide (L[k].length ≤ e)) := by
  rw [List.take_succ_eq_append_getElem h, List.all_append]
  simp only [List.all_cons, List.all_nil, Bool.and_true]

set_option maxHeartbeats 400000 in
theorem few_any (L : List (List UInt8)) (v : Value) (n e : Nat) (w : World) (hs : Strs w v L) (hl : L.length ≤ maxLen) :
    Calls Tryz.prog 29 #[v, .int .i64 n, .int .i64 e] w fun x w' => x = .returned (.bool (Code.few L n e)) ∧ w' = w := by
  obtain ⟨A, cap, rfl, hc⟩ := hs
  unfold maxLen at hl
  by_cases hbig : L.length > n
  · have hf : Code.few L n e = false := by rw [Code.few, decide_eq_false (by omega)]; rfl
    rw [hf]
    clear hf hc
    have hb : (L.length : Int) > n := by omega
    go_enter Tryz.func29, Tryz.ntmps29
    go_wp2
    go_ret
    exact ⟨rfl, rfl⟩
  · have hf : Code.few L n e = L.all fun s => decide (s.length ≤ e) := by rw [Code.few, decide_eq_true (by omega)]; rfl
    have HF := Lib.hid hf
    have hb : ¬ ((L.length : Int) > n) := by omega
    clear hbig hf
    go_enter Tryz.func29, Tryz.ntmps29
    go_wp2
    go_loop [7] (fun i => ∃ k : Nat, k ≤ L.length ∧ i = .int .i64 k ∧ ((L.take k).all fun s => decide (s.length ≤ e)) = true) (fun i => L.length - (intOf i).toNat)
    case atStart => exact ⟨0, Nat.zero_le _, rfl, rfl⟩
    case round =>
      obtain ⟨k, hk, rfl, hall⟩ := hrel
      have HA := Lib.hid hall
      clear hall
      by_cases hlt : k < L.length
      · have h1 : (k : Int) < (L.length : Int) := by omega
        obtain ⟨a, rfl, hcell⟩ := hc k hlt
        clear hc
        have hsn := Lib.hid (Code.all_snoc L e k hlt)
        have hmem := Lib.hid (List.getElem_mem hlt)
        obtain ⟨t, ht⟩ : ∃ t, L[k] = t := ⟨_, rfl⟩
        rw [ht] at hcell hsn hmem
        clear ht
        by_cases hte : t.length ≤ e
        · have h2 : ¬ ((t.length : Int) > (e : Int)) := by omega
          go_wp2
          go_round
          case rel => exact ⟨k + 1, by omega, by go_num, by rw [hsn.out, HA.out, decide_eq_true hte]; rfl⟩
          case measure => simp [intOf]; omega
        · have h2 : (t.length : Int) > (e : Int) := by omega
          have hno : (L.all fun s => decide (s.length ≤ e)) = false := by
            rw [List.all_eq_false]
            exact ⟨t, hmem.out, by simpa using hte⟩
          have HN := Lib.hid hno
          clear hno
          go_wp2
          go_ret
          refine ⟨?_, rfl⟩
          rw [HF.out, HN.out]
          rfl
      · go_wp2
        go_ret
        refine ⟨?_, rfl⟩
        have HB := HA.out
        rw [List.take_of_length_le (by omega)] at HB
        rw [HF.out, HB]
        rfl

end Go.Proofs.YtaficmboooaknaaGreatDoor
namespace Go.Proofs.YtaficmboooaknaaGreatDoor
open Go.RowKit
open Sto (T St)
open Tri (Tr)

/-- The tree of items. -/
def treeS (S : St) : Tr := S.foldr (fun x t => t.put (Nib.ofL x.1) x.2) .nil
theorem treeS_tree (S : St) (hS : Sto.Rising S) (hv : ∀ p ∈ S, p.2 ≠ []) : Tri.TreeOf S (treeS S) := by
  induction S with
  | nil => exact ⟨trivial, trivial, rfl⟩
  | cons a r ih =>
    obtain ⟨h1, h2⟩ := List.pairwise_cons.1 hS
    have h3 := (ih h2 fun p h => hv p (List.mem_cons_of_mem _ h)).put (k := a.1) (hv a (List.mem_cons_self ..))
    have e : Tri.put r a.1 a.2 = a :: r := by
      cases r with
      | nil => rfl
      | cons b r =>
        have hab := h1 b (List.mem_cons_self ..)
        rw [Tri.put, if_neg (fun h => List.lt_irrefl _ (List.lt_trans h hab)), if_neg (fun e => Sto.lt_ne hab e.symm)]
    rw [e] at h3
    exact h3
theorem treeS_of {S : St} {t : Tr} (h : TrS S t) : treeS S = t :=
  (treeS_tree S h.rise fun p hp e => by have := (h.fair p hp).2.2.1; rw [e] at this; simp at this).one h.tree
def rootS (S : St) : T := (treeS S).sum Nd.sumS
def nodesS (S : St) : List T := wantedT (fun _ => true) (treeS S)
theorem sroot_any {g : Nat} {S : St} (w : World) (h : TrAt w g S) :
    Calls Tryz.prog 23 #[ptr g] w fun e w' => e = .returned (.string ⟨(rootS S).toArray⟩) ∧ Below w.heap.size w w' := by
  obtain ⟨top, t, h1, h2, h3⟩ := h
  unfold rootS
  rw [treeS_of h3]
  exact troot_any w h1 h2 h3.ok
theorem snodes_any {g : Nat} {S : St} (w : World) (h : TrAt w g S) :
    Calls Tryz.prog 26 #[ptr g] w (TextsPost w (nodesS S)) := by
  obtain ⟨top, t, h1, h2, h3⟩ := h
  unfold nodesS
  rw [treeS_of h3]
  exact nodes_any w h1 (h3.sealed h2)
theorem sitems_any {g : Nat} {S : St} (w : World) (h : TrAt w g S) :
    Calls Tryz.prog 49 #[ptr g] w (ItemsPost w S) := by
  obtain ⟨top, t, h1, h2, h3⟩ := h
  exact items_any w h1 (h3.sealed h2) h3.tree
theorem del_le (S : St) (k : T) : (Tri.del S k).length ≤ S.length := by
  induction S with
  | nil => simp [Tri.del]
  | cons b r ih =>
    rw [Tri.del]
    split
    · simp
    · simp only [List.length_cons]; omega
theorem actS_len (S : St) (a : ActT) : (actS S a).length ≤ S.length + 1 := by
  unfold actS
  have := del_le S a.key
  split
  · split <;> omega
  · split
    · rw [Tri.put_len]; split <;> omega
    · omega
theorem fold_len (L : List ActT) (S : St) : (L.foldl actS S).length ≤ S.length + L.length := by
  induction L generalizing S with
  | nil => simp
  | cons a L ih =>
    rw [List.foldl_cons, List.length_cons]
    have := ih (actS S a)
    have := actS_len S a
    omega
end Go.Proofs.YtaficmboooaknaaGreatDoor
namespace Go.Proofs.YtaficmboooaknaaGreatDoor
open Go.RowKit
open Sto (T St)
open Tri (Tr Ok hb)
open Go.Proofs.YtaficmboooaknaaGreatDoor.Nd (N)

/-- Two unlike texts of one sum. -/
def Clash (L : List T) : Prop := ∃ s ∈ L, ∃ t ∈ L, s ≠ t ∧ Sto.sumOf s = Sto.sumOf t
/-- A store that has some of these texts, each at its sum. -/
structure OfTexts (st : St) (C : List T) : Prop where
  rise : Sto.Rising st
  own : OwnSums st
  of : ∀ x t, Sto.look st x = some t → t ∈ C
theorem OfTexts.nil (C : List T) : OfTexts [] C := ⟨Sto.rising_nil, OwnSums.nil, fun x t h => by cases h⟩
theorem OfTexts.put {st : St} {C : List T} (h : OfTexts st C) {t : T} (ht : t ∈ C) (hn : ¬ Clash C) : OfTexts (Sto.put st (Sto.sumOf t) t) C ∧ Sto.look (Sto.put st (Sto.sumOf t) t) (Sto.sumOf t) = some t ∧ ∀ x y, Sto.look st x = some y → Sto.look (Sto.put st (Sto.sumOf t) t) x = some y := by
  have hown := h.own.put h.rise t
  have hkeep : ∀ x y, Sto.look st x = some y → Sto.look (Sto.put st (Sto.sumOf t) t) x = some y := fun x y hl => by
    obtain ⟨s, hs⟩ : ∃ s, Sto.sumOf t = s := ⟨_, rfl⟩
    rw [hs, Sto.look_put h.rise]
    by_cases e : x = s
    · rw [if_pos e, ← e, hl]; rfl
    · rw [if_neg e]; exact hl
  have hit : Sto.look (Sto.put st (Sto.sumOf t) t) (Sto.sumOf t) = some t := by
    obtain ⟨s, hs⟩ : ∃ s, Sto.sumOf t = s := ⟨_, rfl⟩
    rw [hs, Sto.look_put h.rise, if_pos rfl]
    cases hl : Sto.look st s with
    | none => rfl
    | some y =>
      have hy := h.of s y hl
      have hys := h.own s y hl
      by_cases e : y = t
      · rw [e]; rfl
      · exact absurd ⟨y, hy, t, ht, e, hys.trans hs.symm⟩ hn
  refine ⟨⟨Sto.put_rising h.rise _ _, hown, fun x y hl => ?_⟩, hit, hkeep⟩
  obtain ⟨s, hs⟩ : ∃ s, Sto.sumOf t = s := ⟨_, rfl⟩
  rw [hs, Sto.look_put h.rise] at hl
  by_cases e : x = s
  · rw [if_pos e] at hl
    cases hk : Sto.look st s with
    | none =>
      rw [hk] at hl
      have e2 : t = y := Option.some.inj hl
      rw [← e2]; exact ht
    | some z =>
      rw [hk] at hl
      have e2 : z = y := Option.some.inj hl
      rw [← e2]; exact h.of _ _ hk
  · rw [if_neg e] at hl
    exact h.of _ _ hl
theorem sumS_of {n : N} (h : Nd.fine n = true) : Nd.sumS n = Sto.sumOf (Nd.written n) := by
  unfold Nd.sumS Sto.sumOf
  rw [if_pos h]
theorem nodesS_nodes {S : St} {t : Tr} (h : TrS S t) : nodesS S = (t.nodes Nd.sumS).map Nd.written := by
  unfold nodesS
  rw [treeS_of h, wanted_all, ← Tri.spots_nodes Nd.sumS t [], List.map_map]
  rfl
theorem nodes_fine {t : Tr} (h : Ok t) : ∀ n ∈ t.nodes Nd.sumS, Nd.fine n = true ∧ n.kids.length = 16 := by
  induction t with
  | nil => intro n hn; cases hn
  | leaf p v => intro n hn; rw [List.mem_singleton.1 hn]; exact ⟨h.fine id, Tri.node_kids ..⟩
  | ext p t ih =>
    intro n hn
    rcases List.mem_cons.1 hn with e | e
    · rw [e]; exact ⟨h.fine id, Tri.node_kids ..⟩
    · exact ih ⟨h.canon.2.2, h.fits.2, h.small.2⟩ n e
  | br v k ih =>
    intro n hn
    rcases List.mem_cons.1 hn with e | e
    · rw [e]; exact ⟨h.fine id, Tri.node_kids ..⟩
    · obtain ⟨i, _, hi⟩ := List.mem_flatMap.1 e
      exact ih i ⟨h.canon.1 i, h.fits i, h.small.2 i⟩ n hi
theorem nodesS_short {S : St} {t : Tr} (h : TrS S t) : ∀ x ∈ nodesS S, x.length ≤ 999 := by
  intro x hx
  rw [nodesS_nodes h] at hx
  obtain ⟨n, hn, rfl⟩ := List.mem_map.1 hx
  obtain ⟨h1, h2⟩ := nodes_fine h.ok n hn
  have := Nd.written_most n h2 h1
  omega
/-- A trie that a map's change leaves as it was. -/
theorem TrAt.out {w w' : World} {g m : Nat} {S : St} (h : TrAt w g S) (ho : Out (fun j => j = m) w w') (hm : ∀ cs t f, w.heap[m]? ≠ some (.cells cs t f)) : TrAt w' g S := by
  obtain ⟨top, t, h1, h2, h3⟩ := h
  refine ⟨top, t, ho.heap h1 (fun e => hm _ _ _ (by rw [← e]; exact h1)), h2.change (fun _ _ _ h => h) fun g k p x K s s2 _ hr => ho.heap hr (fun e => hm _ _ _ (by rw [← e]; exact hr)), h3⟩
end Go.Proofs.YtaficmboooaknaaGreatDoor
namespace Go.Proofs.YtaficmboooaknaaGreatDoor
open Go.RowKit
open Sto (T St)
open Tri (Tr Ok hb)
open Go.Proofs.YtaficmboooaknaaGreatDoor.Nd (N)

/-- A loader in block d, over the store in block g, that has counted n items. -/
def LdAt (w : World) (d g n : Nat) : Prop := w.heap[d]? = some (.cells #[.pointer (some ⟨g, 0, none⟩), .int .i64 n] 186 (0, 0))
theorem LdAt.store {w : World} {d g n : Nat} (h : LdAt w d g n) : w.cell? ⟨d, 0, none⟩ = some (.pointer (some ⟨g, 0, none⟩)) := by rw [cell_of_row _ _ _ _ _ _ h]; rfl
theorem LdAt.num {w : World} {d g n : Nat} (h : LdAt w d g n) : w.cell? ⟨d, 1, none⟩ = some (.int .i64 n) := by rw [cell_of_row _ _ _ _ _ _ h]; rfl
theorem LdAt.free {w : World} {d g n : Nat} (h : LdAt w d g n) (i : Nat) : w.frozen? ⟨d, i, none⟩ = false := frozen_of_row _ _ _ _ _ h
theorem LdAt.below {w w' : World} {d g n : Nat} (h : LdAt w d g n) (hb : Below w.heap.size w w') : LdAt w' d g n := (hb.block d (lt_of_heap h)).trans h
theorem LdAt.set {w : World} {d g n : Nat} (h : LdAt w d g n) (m : Nat) : LdAt (w.setCell ⟨d, 1, none⟩ (.int .i64 m)) d g m := by
  have := heap_setCell_same w d 1 _ _ (.int .i64 m) h
  exact this
theorem LdAt.setNew {w : World} {d g n q : Nat} (h : LdAt w d g n) (hq : q ≠ d) (i : Nat) (v : Value) : LdAt (w.setCell ⟨q, i, none⟩ v) d g n := (heap_setCell_other w ⟨q, i, none⟩ d v (fun e => hq e.symm)).trans h
def Fm.up (B : Nat) : Fm := fun _ g => B ≤ g
theorem PAt.up {w w' : World} {B : Nat} {s : Bool} {t : Tr} {v : Value} (h : PAt w (Fm.up B) s t v) (ho : ∀ g, B ≤ g → g < w.heap.size → w'.heap[g]? = w.heap[g]?) : PAt w' (Fm.up B) s t v :=
  h.change (fun _ _ _ h => h) fun g _ _ _ _ _ _ hg hr => (ho g hg (lt_of_heap hr)).trans hr
theorem PAt.upOnly {w w' : World} {B d : Nat} {s : Bool} {t : Tr} {v : Value} (h : PAt w (Fm.up B) s t v) (ho : Only d w w') (hd : d < B) : PAt w' (Fm.up B) s t v :=
  h.up fun g hg hlt => ho.block g hlt (by omega)
theorem PAt.upMono {w : World} {B C : Nat} {s : Bool} {t : Tr} {v : Value} (h : PAt w (Fm.up B) s t v) (hc : C ≤ B) : PAt w (Fm.up C) s t v := h.imp fun _ _ _ hg => Nat.le_trans hc hg
/-- What part answers: the trie that stands there, or a code. -/
def PartPost (S : St) (sum place : T) (inE : Bool) (d g n : Nat) (w : World) (e : Ending) (w' : World) : Prop :=
  ∃ (z : Value) (c : Int) (n' : Nat), e = .returned (.tuple #[z, .int .i64 c]) ∧ LdAt w' d g n' ∧ Only d w w' ∧ n' ≤ 1024 ∧
    ((c = 0 ∧ ∃ t, Loaded S sum place inE t ∧ PAt w' (Fm.up w.heap.size) true t z ∧ n' = n + t.items.length) ∨ (c ≠ 0 ∧ z = nilp ∧ ∀ t, Loaded S sum place inE t → 1024 < n + t.items.length))
end Go.Proofs.YtaficmboooaknaaGreatDoor
namespace Go.Proofs.YtaficmboooaknaaGreatDoor
open Go.RowKit
open Sto (T St)
open Tri (Tr Ok hb)
open Go.Proofs.YtaficmboooaknaaGreatDoor.Nd (N)

theorem Loaded.parts {S : St} {sum place : T} {inE : Bool} {t : Tr} {kd : Nat} {P V : T} {L : List T} (h : Loaded S sum place inE t) (hd : Sto.nodeOf S sum = (⟨kd, P, V, L⟩, 0)) : t.kind = kd ∧ t.pth = P ∧ t.vl = V := by
  have e := h.node
  rw [hd, Tri.node_kid _ h.nn] at e
  simp only [Prod.mk.injEq, N.mk.injEq, and_true] at e
  exact ⟨by omega, e.2.1.symm, e.2.2.1.symm⟩
theorem Only.setNew {d q : Nat} {a w : World} (h : Only d a w) (hq : a.heap.size ≤ q) (i : Nat) (u : Value) : Only d a (w.setCell ⟨q, i, none⟩ u) :=
  ⟨h.os, h.tape, h.output, by have := h.size; simpa [World.setCell] using this, fun k hk hg => (Below.heap_setCell w ⟨q, i, none⟩ u k (by show k ≠ q; omega)).trans (h.block k hk hg)⟩
/-- What holds at the loop's round i: the first kids are read. -/
def LdI (S : St) (d g n kd : Nat) (P V E sum : T) (L : List T) (hL : L.length = 16) (q pb : Nat) (w : World) (i : Nat) (wr : World) : Prop :=
  ∃ (k : Fin 16 → Tr) (Kv : Ks) (ni : Nat), RowP wr pb kd P V Kv sum ∧ (∀ j : Fin 16, j.val < i → KidOf S kd E (L[j.val]'(by rw [hL]; exact j.isLt)) j (k j)) ∧ (∀ j, PAt wr (Fm.up (pb + 1)) true (k j) (Kv j)) ∧ (∀ j : Fin 16, i ≤ j.val → k j = .nil) ∧
    LdAt wr d g ni ∧ ni = n + ownN V + cntK k i ∧ ni ≤ 1024 ∧ NodeAt wr q ⟨kd, P, V, L⟩ ∧ Only d w wr
/-- Behind the last kid: the trie that stands there. -/
theorem LdI.done {S : St} {d g n kd : Nat} {P V place sum : T} {L : List T} {hL : L.length = 16} {q pb : Nat} {w wr : World} {inE : Bool} (h : LdI S d g n kd P V (place ++ P) sum L hL q pb w 16 wr) (hf : Nd.fine ⟨kd, P, V, L⟩ = true)
    (hl : Sto.look S sum = some (Nd.written ⟨kd, P, V, L⟩)) (hs : Nd.sumS ⟨kd, P, V, L⟩ = sum) (hp : place.length + P.length ≤ 16) (hE : inE = true → kd = 3) (hv : V ≠ [] → 1 ≤ place.length + P.length ∧ (place.length + P.length) % 2 = 0) (hb : w.heap.size ≤ pb) :
    PartPost S sum place inE d g n w (.returned (.tuple #[.pointer (some ⟨pb, 0, none⟩), .int .i64 0])) wr := by
  obtain ⟨k, Kv, ni, hr, hk, hpa, -, hld, hni, hn, -, ho⟩ := h
  have hk' : ∀ i : Fin 16, KidOf S kd (place ++ P) ((⟨kd, P, V, L⟩ : N).kids[i.val]'(by show i.val < L.length; rw [hL]; exact i.isLt)) i (k i) := fun i => hk i i.isLt
  have hi := mkT_is (n := ⟨kd, P, V, L⟩) hL hf hk'
  have hlo := mkT_loaded (inE := inE) (place := place) hL hf rfl hl hs hk' hp (fun e => by have := hE e; show (kd : Int) = 3; omega) hv
  refine ⟨_, 0, ni, rfl, hld, ho, hn, Or.inl ⟨rfl, _, hlo, ?_, ?_⟩⟩
  · refine (PAt.iff hi.nn).2 ⟨pb, true, Kv, rfl, fun _ => rfl, hb, ?_, fun i => ?_⟩
    · have e1 : (mkT ⟨kd, P, V, L⟩ k).kind = kd := by have := hi.kind; exact Int.ofNat_inj.1 this
      rw [e1, hi.pth, hi.vl, hlo.sum]
      exact hr
    · rw [hi.kid]; exact (hpa i).upMono (by omega)
  · rw [items_count hlo.ok hi.nn, hi.vl, hni, cntK_same (k := (mkT ⟨kd, P, V, L⟩ k).kid) (m := k) (fun i _ => hi.kid i)]
    show n + ownN V + cntK k 16 = n + (ownN V + cntK k 16)
    omega
/-- A kid that is refused: so is the whole. -/
theorem LdI.bad {S : St} {n kd : Nat} {P V place sum : T} {L : List T} {hL : L.length = 16} {inE : Bool} {i : Nat} (hi : i < 16) {k : Fin 16 → Tr} {ni : Nat} (hk : ∀ j : Fin 16, j.val < i → KidOf S kd (place ++ P) (L[j.val]'(by rw [hL]; exact j.isLt)) j (k j)) (hni : ni = n + ownN V + cntK k i)
    (hd : Sto.nodeOf S sum = (⟨kd, P, V, L⟩, 0)) (hx : L[i]'(by omega) ≠ []) (hbad : ∀ t, Loaded S (L[i]'(by omega)) (placeT kd (place ++ P) ⟨i, hi⟩) (decide (kd = 2)) t → 1024 < ni + t.items.length) : ∀ t, Loaded S sum place inE t → 1024 < n + t.items.length := by
  intro t ht
  have hko := fun j => ht.kidOf hd (kind := kd) rfl hL j
  obtain ⟨e1, e2, e3⟩ := ht.parts hd
  have h1 : Loaded S (L[i]'(by omega)) (placeT kd (place ++ P) ⟨i, hi⟩) (decide (kd = 2)) (t.kid ⟨i, hi⟩) := by
    rcases hko ⟨i, hi⟩ with ⟨h, _⟩ | ⟨_, h⟩
    · exact absurd h hx
    · exact h
  have h2 := hbad _ h1
  have h3 := items_count ht.ok ht.nn
  have h4 := cntK_step t.kid i hi
  have h5 := cntK_mono t.kid (i := i + 1) (j := 16) (by omega) (by omega)
  have h6 : cntK k i = cntK t.kid i := cntK_same fun j hj => (hk j hj).one (hko j)
  rw [e3] at h3
  omega
theorem LdI.skip {S : St} {d g n kd : Nat} {P V E sum : T} {L : List T} {hL : L.length = 16} {q pb : Nat} {w wr : World} {i : Nat} (hi : i < 16) (h : LdI S d g n kd P V E sum L hL q pb w i wr) (hx : L[i]'(by omega) = []) : LdI S d g n kd P V E sum L hL q pb w (i + 1) wr := by
  obtain ⟨k, Kv, ni, hr, hk, hpa, hnil, hld, hni, hn, hnd, ho⟩ := h
  refine ⟨k, Kv, ni, hr, fun j hj => ?_, hpa, fun j hj => hnil j (by omega), hld, ?_, hn, hnd, ho⟩
  · by_cases e : j.val = i
    · obtain rfl : j = ⟨i, hi⟩ := Fin.ext e
      exact Or.inl ⟨hx, hnil _ (Nat.le_refl _)⟩
    · exact hk j (by omega)
  · rw [cntK_step k i hi, hnil ⟨i, hi⟩ (Nat.le_refl _), hni]; rfl
theorem LdI.more {S : St} {d g n kd : Nat} {P V E sum : T} {L : List T} {hL : L.length = 16} {q pb : Nat} {w wr wk : World} {i : Nat} (hi : i < 16) {k : Fin 16 → Tr} {Kv : Ks} {ni ni' : Nat} {z : Value} {t : Tr}
    (hr : RowP wr pb kd P V Kv sum) (hk : ∀ j : Fin 16, j.val < i → KidOf S kd E (L[j.val]'(by rw [hL]; exact j.isLt)) j (k j)) (hpa : ∀ j, PAt wr (Fm.up (pb + 1)) true (k j) (Kv j)) (hnil : ∀ j : Fin 16, i ≤ j.val → k j = .nil) (hni : ni = n + ownN V + cntK k i) (hnd : NodeAt wr q ⟨kd, P, V, L⟩) (ho : Only d w wr)
    (hx : L[i]'(by omega) ≠ []) (ht : Loaded S (L[i]'(by omega)) (placeT kd E ⟨i, hi⟩) (decide (kd = 2)) t) (hpt : PAt wk (Fm.up wr.heap.size) true t z) (hn' : ni' = ni + t.items.length) (hle : ni' ≤ 1024) (hld : LdAt wk d g ni') (hok : Only d wr wk)
    (hdp : d < pb) (hdq : d ≠ q) (hqp : q ≠ pb) (hwp : w.heap.size ≤ pb) : LdI S d g n kd P V E sum L hL q pb w (i + 1) (wk.setCell ⟨pb, 3 + i, none⟩ z) := by
  have hpl := lt_of_heap hr
  have hql := lt_of_heap hnd
  have hset : ∀ b, b ≠ pb → (wk.setCell ⟨pb, 3 + i, none⟩ z).heap[b]? = wk.heap[b]? := fun b hb' => heap_setCell_other wk ⟨pb, 3 + i, none⟩ b z hb'
  refine ⟨Tri.upd k ⟨i, hi⟩ t, updK Kv ⟨i, hi⟩ z, ni', ?_, fun j hj => ?_, fun j => ?_, fun j hj => ?_, ?_, ?_, hle, ?_, ?_⟩
  · have h1 : RowP wk pb kd P V Kv sum := (hok.block pb hpl (by omega)).trans hr
    exact h1.setKid ⟨i, hi⟩ z
  · simp only [Tri.upd]
    split
    · rename_i e
      subst e
      exact Or.inr ⟨hx, ht⟩
    · rename_i e
      exact hk j (by have : j.val ≠ i := fun h => e (Fin.ext h); omega)
  · simp only [Tri.upd, updK]
    split
    · exact (hpt.upMono (by omega)).up fun b hb' _ => hset b (by omega)
    · exact ((hpa j).upOnly hok (by omega)).up fun b hb' _ => hset b (by omega)
  · simp only [Tri.upd]
    rw [if_neg (fun e => by have := congrArg Fin.val e; dsimp only at this; omega)]
    exact hnil j (by omega)
  · exact (hset d (by omega)).trans hld
  · rw [cntK_step _ i hi, cntK_same (k := Tri.upd k ⟨i, hi⟩ t) (m := k) (fun j hj => by
      simp only [Tri.upd]
      rw [if_neg (fun e => by have := congrArg Fin.val e; dsimp only at this; omega)])]
    simp only [Tri.upd, if_true]
    omega
  · exact (hset q hqp).trans ((hok.block q hql (fun e => hdq e.symm)).trans hnd)
  · exact (ho.trans hok).setNew hwp _ _
end Go.Proofs.YtaficmboooaknaaGreatDoor
namespace Go.Proofs.YtaficmboooaknaaGreatDoor
open Go.RowKit
open Sto (T St)
open Tri (Tr Ok hb)
open Go.Proofs.YtaficmboooaknaaGreatDoor.Nd (N)

end Go.Proofs.YtaficmboooaknaaGreatDoor
namespace Go.Proofs.YtaficmboooaknaaGreatDoor.Tri
open Sto (T St Rising keys)
open Go.Proofs.YtaficmboooaknaaGreatDoor.Nd (N)

theorem nil_spots (dg : N → T) (p : T) {t : Tr} (h : t.isNil) : t.spots dg p = [] ∧ t.sum dg = [] := by
  cases t with
  | nil => exact ⟨rfl, rfl⟩
  | _ => cases h
theorem spots_few (dg : N → T) {t : Tr} (h : t.canon) (p : T) : (t.spots dg p).length ≤ 3 * t.items.length := by
  by_cases hn : t.isNil
  · rw [(nil_spots dg p hn).1]; simp
  · have := (spots_len dg h hn p).1
    omega
end Go.Proofs.YtaficmboooaknaaGreatDoor.Tri
namespace Go.Proofs.YtaficmboooaknaaGreatDoor
open Go.RowKit
open Sto (T St)
open Tri (Tr Ok hb)

theorem paths_inj {S U : St} (h : Tri.paths S = Tri.paths U) : S = U := by
  unfold Tri.paths at h
  refine (List.map_inj_right fun x y e => ?_).1 h
  have e1 := congrArg Prod.fst e
  have e2 := congrArg Prod.snd e
  exact Prod.ext ((Tri.ofL_eq _ _).1 e1) e2
theorem TrS.one {S U : St} {t : Tr} (h : TrS S t) (k : TrS U t) : S = U := paths_inj (h.tree.2.2.symm.trans k.tree.2.2)
/-- Of tries whose nodes are in one store, those of one sum have the same items. -/
theorem TrS.same {S U st : St} {t u : Tr} (h : TrS S t) (k : TrS U u) (ht : t.inS st) (hu : u.inS st) (e : t.sum Nd.sumS = u.sum Nd.sumS) : S = U := by
  by_cases n1 : t.isNil
  · by_cases n2 : u.isNil
    · rw [Tri.nil_of_isNil n1] at h; rw [Tri.nil_of_isNil n2] at k
      exact h.one k
    · rw [Tri.nil_of_isNil n1] at e
      exact absurd e.symm (k.ok.sum_ne n2)
  · by_cases n2 : u.isNil
    · rw [Tri.nil_of_isNil n2] at e
      exact absurd e (h.ok.sum_ne n1)
    · have := inS_one h.ok k.ok n1 n2 ht hu e
      subst this
      exact h.one k
end Go.Proofs.YtaficmboooaknaaGreatDoor
namespace Go.Proofs.YtaficmboooaknaaGreatDoor
open Sto (T St)
open Tri (Tr Ok hb)
open Go.Proofs.YtaficmboooaknaaGreatDoor.Nd (N)

theorem mem_nodes {dg : N → T} {t : Tr} (h : ¬ t.isNil) (n : N) : n ∈ t.nodes dg ↔ n = t.node dg ∨ ∃ i, n ∈ (t.kid i).nodes dg := by
  cases t with
  | nil => exact absurd trivial h
  | leaf p v => simp [Tri.Tr.nodes, Tri.Tr.kid]
  | ext p t =>
    rw [Tri.Tr.nodes, List.mem_cons]
    refine or_congr Iff.rfl ⟨fun h => ⟨0, by simpa [Tri.Tr.kid] using h⟩, fun ⟨i, hi⟩ => ?_⟩
    simp only [Tri.Tr.kid] at hi
    split at hi
    · exact hi
    · simp [Tri.Tr.nodes] at hi
  | br v k =>
    rw [Tri.Tr.nodes, List.mem_cons]
    refine or_congr Iff.rfl ?_
    rw [List.mem_flatMap]
    exact ⟨fun ⟨i, _, hi⟩ => ⟨i, hi⟩, fun ⟨i, hi⟩ => ⟨i, List.mem_finRange i, hi⟩⟩
theorem sum_text {t : Tr} (h : Ok t) (hn : ¬ t.isNil) : t.sum Nd.sumS = Sto.sumOf (Nd.written (t.node Nd.sumS)) := by
  rw [Tri.sum_node _ hn]
  exact sumS_of (h.fine hn)
end Go.Proofs.YtaficmboooaknaaGreatDoor
namespace Go.Proofs.YtaficmboooaknaaGreatDoor
open Go

theorem cnt_set : ∀ (L : List Bool) (i : Nat), L[i]? = some false → (L.set i true).count false + 1 = L.count false
  | [], i, h => by simp at h
  | b :: L, 0, h => by
    simp at h
    subst h
    simp
  | b :: L, i + 1, h => by
    have := cnt_set L i (by simpa using h)
    simp only [List.set_cons_succ, List.count_cons]
    omega
theorem ready_false {md : Region.Mode} {ops : Array Oper} {L : List Bool} {i : Nat} (h : i ∈ Region.ready md ops L.toArray) : L[i]? = some false := by
  have h2 := (List.mem_filter.1 h).2
  rw [Bool.and_eq_true] at h2
  have h3 := h2.1
  have e : L.toArray.getD i true = L[i]?.getD true := by simp [Array.getD_eq_getD_getElem?]
  rw [e] at h3
  cases hx : L[i]? with
  | none => rw [hx] at h3; simp at h3
  | some b => rw [hx] at h3; cases b <;> simp_all
theorem ready_lt {md : Region.Mode} {ops : Array Oper} {L : List Bool} {i : Nat} (h : i ∈ Region.ready md ops L.toArray) : i < ops.size := by
  have h2 := (List.mem_filter.1 h).1
  simpa using h2
theorem any_inv {P : Program} {md : Region.Mode} {l : List Oper} {Q : Exit → Act → World → Prop} {I : List Bool → Act → World → Prop}
    (hstep : ∀ L a w, L.length = l.length → I L a w → ∀ i o, l[i]? = some o → i ∈ Region.ready md l.toArray L.toArray → ∀ K : Act → World → Prop, (∀ a w, I (L.set i true) a w → K a w) → if Region.wanted o (yielded l.toArray a.tmps) = true then Oper.wp P o a w K Q else K (a.put o.dst undef) w)
    (hend : ∀ L a w, L.length = l.length → Region.ready md l.toArray L.toArray = [] → I L a w → Q .normal a w) :
    ∀ (fuel : Nat) (L : List Bool) (a : Act) (w : World), L.length = l.length → L.count false ≤ fuel → I L a w → wpAny P md l.toArray Q fuel L.toArray a w
  | 0, L, a, w, hl, hc, hI => by
    have hr : Region.ready md l.toArray L.toArray = [] := by
      cases hr : Region.ready md l.toArray L.toArray with
      | nil => rfl
      | cons i is =>
        have := ready_false (md := md) (ops := l.toArray) (L := L) (i := i) (by rw [hr]; simp)
        have := cnt_set L i this
        omega
    exact ⟨hr, hend L a w hl hr hI⟩
  | fuel + 1, L, a, w, hl, hc, hI => by
    refine ⟨fun hr => hend L a w hl hr hI, fun i hi => ?_⟩
    have hf := ready_false hi
    have hlt : i < l.length := by simpa using ready_lt hi
    have hs := cnt_set L i hf
    refine wpOp_step (o := l[i]) (by simp [hlt]) (fun K hK => ?_)
    refine hstep L a w hl hI i l[i] (by simp [hlt]) hi K (fun a' w' h => hK a' w' ?_)
    have e : L.toArray.setIfInBounds i true = (L.set i true).toArray := by simp
    rw [e]
    exact any_inv hstep hend fuel (L.set i true) a' w' (by simpa using hl) (by omega) h
theorem region_inv {P : Program} {id : Nat} {l : List Oper} {Q : Exit → Act → World → Prop} {a : Act} {w : World} (I : List Bool → Act → World → Prop) (hm : P.follows .mixedOrders = true)
    (h0 : I (List.replicate l.length false) a w.drew)
    (hstep : ∀ L a w, L.length = l.length → I L a w → ∀ i o, l[i]? = some o → i ∈ Region.ready .any l.toArray L.toArray → ∀ K : Act → World → Prop, (∀ a w, I (L.set i true) a w → K a w) → if Region.wanted o (yielded l.toArray a.tmps) = true then Oper.wp P o a w K Q else K (a.put o.dst undef) w)
    (hend : ∀ L a w, L.length = l.length → Region.ready .any l.toArray L.toArray = [] → I L a w → Q .normal a w) :
    (Code.region id l.toArray true).wp P Q a w := by
  refine wp_region_any hm ?_
  have e : Array.replicate l.toArray.size false = (List.replicate l.length false).toArray := by simp
  rw [e]
  exact any_inv hstep hend _ _ _ _ (by simp) (by simp) h0
end Go.Proofs.YtaficmboooaknaaGreatDoor
namespace Go.Proofs.YtaficmboooaknaaGreatDoor
open Go.RowKit
open Sto (T)
open Tri (Tr Ok upd ix hb lay splitT Trim rank)
open Go.Proofs.YtaficmboooaknaaGreatDoor.Nd (N)

/-- A variable of the region's own: made once b, and holding P once d. -/
def CovR (w0 w : World) (b d : Option Bool) (P : T) (v : Value) : Prop :=
  b = some true → ∃ c, v = .pointer (some ⟨c, 0, none⟩) ∧ w0.heap.size ≤ c ∧ w.heap[c]? = some (.cells #[.string ⟨(if d = some true then P else []).toArray⟩] 9 (0, 0))
theorem CovR.below {w0 w w' : World} {b d : Option Bool} {P : T} {v : Value} (h : CovR w0 w b d P v) (hb : Below w.heap.size w w') : CovR w0 w' b d P v := fun hx => by
  obtain ⟨c, e, h1, h2⟩ := h hx
  exact ⟨c, e, h1, (hb.block c (lt_of_heap h2)).trans h2⟩
/-- What holds in the region: L tells which of its operations have come up. -/
def CovI (g q : Nat) (f e P Q : T) (w0 : World) (L : List Bool) (a : Act) (w : World) : Prop :=
  ∃ v7 v8 v9 v10 v11 v12 : Value, a = ⟨#[ptr g, .string ⟨f.toArray⟩, .string ⟨e.toArray⟩, undef, undef, .pointer (some ⟨q, 0, none⟩), .slice none 0 0, v7, v8, v9, v10, v11, v12, undef, undef, undef], []⟩ ∧
    Below w0.heap.size w0 w ∧
    (L[0]? = some true → v9 = .string ⟨f.toArray⟩) ∧ (L[1]? = some true → v10 = .string ⟨P.toArray⟩) ∧ (L[2]? = some true → v11 = .string ⟨e.toArray⟩) ∧ (L[3]? = some true → v12 = .string ⟨Q.toArray⟩) ∧
    CovR w0 w L[4]? L[6]? P v7 ∧ CovR w0 w L[5]? L[7]? Q v8 ∧ (L[4]? = some true → L[5]? = some true → v7 ≠ v8) ∧ (L[6]? = some true → L[4]? = some true) ∧ (L[7]? = some true → L[5]? = some true)
theorem ptr_ne {a b : Nat} (h : a ≠ b) : Value.pointer (some ⟨a, 0, none⟩) ≠ Value.pointer (some ⟨b, 0, none⟩) := fun hx => h (by injection hx with hx; injection hx with hx; injection hx)

set_option maxRecDepth 100000 in
set_option maxHeartbeats 1000000 in
theorem cover_any {g : Nat} {t : Tr} {top n : Value} (f e : T) (w : World) (hl : f.length ≤ 2000000) (hl2 : e.length ≤ 2000000) (hg : w.heap[g]? = some (.cells #[top, n] 84 (0, 0))) (hs : Sealed w t top) :
    Calls Tryz.prog 36 #[ptr g, .string ⟨f.toArray⟩, .string ⟨e.toArray⟩] w (TextsPost w (wantedT (fun p => Tri.inL p f e) t)) := by
  have hmf : ∀ (fn : Fn) (first cap : Array Value) (w : World), (Instr.makeFunc fn first cap).run Tryz.prog w = .ok (.func fn first cap) w := fun _ _ _ _ => rfl
  have HT : Hid (∀ w1 cf ce cl, Below w.heap.size w w1 → w1.heap[cf]? = some (.cells #[.string ⟨(Nib.ofL f).toArray⟩] 9 (0, 0)) → w1.heap[ce]? = some (.cells #[.string ⟨e.toArray⟩] 9 (0, 0)) → w1.heap[cl]? = some (.cells #[.string ⟨(Nib.ofL e).toArray⟩] 9 (0, 0)) →
      Calls Tryz.prog 51 #[ptr g, .func (.func 66) #[] #[.pointer (some ⟨cf, 0, none⟩), .pointer (some ⟨ce, 0, none⟩), .pointer (some ⟨cl, 0, none⟩)]] w1 (TextsPost w1 (wantedT (fun p => Tri.inL p f e) t))) := Lib.hid (fun w1 cf ce cl hb h1 h2 h3 =>
    texts_any _ ((hb.block g (lt_of_heap hg)).trans hg) (hs.below hb) (cover_wants _ h1 h2 h3) (down_in f e))
  unfold TextsPost ptr at HT
  unfold TextsPost ptr
  obtain ⟨P, hP⟩ : ∃ P, Nib.ofL f = P := ⟨_, rfl⟩
  obtain ⟨Q, hQ⟩ : ∃ Q, Nib.ofL e = Q := ⟨_, rfl⟩
  have HOF : Hid (∀ w', Calls Tryz.prog 59 #[.string ⟨f.toArray⟩] w' fun r w'' => r = .returned (.string ⟨P.toArray⟩) ∧ Below w'.heap.size w' w'') := Lib.hid (fun w' => by rw [← hP]; exact of_any f w' (by omega))
  have HOE : Hid (∀ w', Calls Tryz.prog 59 #[.string ⟨e.toArray⟩] w' fun r w'' => r = .returned (.string ⟨Q.toArray⟩) ∧ Below w'.heap.size w' w'') := Lib.hid (fun w' => by rw [← hQ]; exact of_any e w' (by omega))
  rw [hP, hQ] at HT
  obtain ⟨WT, hWT⟩ : ∃ WT, wantedT (fun p => Tri.inL p f e) t = WT := ⟨_, rfl⟩
  rw [hWT] at HT ⊢
  clear hg hs hP hQ hWT
  go_enter Tryz.func36, Tryz.ntmps36
  go_upto_region 1 with fail
  obtain ⟨w0, hw0⟩ : ∃ w0, w.alloc (.cells #[.string ⟨e.toArray⟩] 9) = w0 := ⟨_, rfl⟩
  have HE : Hid (w0.heap[w.heap.size]? = some (.cells #[.string ⟨e.toArray⟩] 9 (0, 0))) := Lib.hid (by rw [← hw0]; exact heap_alloc_new w _)
  have HB0 : Hid (Below w.heap.size w w0) := Lib.hid (by rw [← hw0]; exact (Below.refl _ w).alloc (Nat.le_refl _) _)
  obtain ⟨q, hq⟩ : ∃ q, w.heap.size = q := ⟨_, rfl⟩
  have HQ := Lib.hid hq
  rw [hw0, hq]
  rw [hq] at HE
  clear hw0 hq
  refine region_inv (CovI g q f e P Q w0) (by rfl) ?_ ?_ ?_
  · refine ⟨_, _, _, _, _, _, rfl, (Below.refl _ _).drew, ?_, ?_, ?_, ?_, ?_, ?_, ?_, ?_, ?_⟩ <;> (intro h; simp at h)
  · intro L a w1 hL hI i o ho hi K hK
    obtain ⟨v7, v8, v9, v10, v11, v12, rfl, hB, h0, h1, h2, h3, h4, h5, h6, h7, h8⟩ := hI
    obtain ⟨b0, b1, b2, b3, b4, b5, b6, b7, rfl⟩ : ∃ b0 b1 b2 b3 b4 b5 b6 b7, L = [b0, b1, b2, b3, b4, b5, b6, b7] := by
      match L, hL with
      | [b0, b1, b2, b3, b4, b5, b6, b7], _ => exact ⟨b0, b1, b2, b3, b4, b5, b6, b7, rfl⟩
    have hi2 := (List.mem_filter.1 hi).2
    clear hi hL
    rcases i with _ | _ | _ | _ | _ | _ | _ | _ | i
    · obtain rfl := Option.some.inj ho
      clear ho hi2
      rw [if_pos (by rfl)]
      go_simp
      exact hK _ _ ⟨v7, v8, _, v10, v11, v12, rfl, hB, fun _ => rfl, h1, h2, h3, h4, h5, h6, h7, h8⟩
    · obtain rfl := Option.some.inj ho
      simp [Region.binds] at hi2
      obtain rfl := h0 (by simp [hi2])
      clear ho hi2
      rw [if_pos (by rfl)]
      go_simp
      refine (HOF.out _).mono ?_
      rintro r w2 ⟨rfl, hb2⟩
      exact hK _ _ ⟨v7, v8, _, _, v11, v12, rfl, bchain hB hb2, h0, fun _ => rfl, h2, h3, h4.below hb2, h5.below hb2, h6, h7, h8⟩
    · obtain rfl := Option.some.inj ho
      clear ho hi2
      have c0 := cell_of_one ((hB.block q (lt_of_heap HE.out)).trans HE.out)
      rw [if_pos (by rfl)]
      go_simp
      exact hK _ _ ⟨v7, v8, v9, v10, _, v12, rfl, hB, h0, h1, fun _ => rfl, h3, h4, h5, h6, h7, h8⟩
    · obtain rfl := Option.some.inj ho
      simp [Region.binds] at hi2
      obtain rfl := h2 (by simp [hi2])
      clear ho hi2
      rw [if_pos (by rfl)]
      go_simp
      refine (HOE.out _).mono ?_
      rintro r w2 ⟨rfl, hb2⟩
      exact hK _ _ ⟨v7, v8, v9, v10, _, _, rfl, bchain hB hb2, h0, h1, h2, fun _ => rfl, h4.below hb2, h5.below hb2, h6, h7, h8⟩
    · obtain rfl := Option.some.inj ho
      simp [Region.binds] at hi2
      clear ho
      have hb6 : b6 = false := by
        cases b6 with
        | false => rfl
        | true => have := h7 rfl; simp [hi2] at this
      subst hb6
      rw [if_pos (by rfl)]
      go_simp
      have hA : Below w1.heap.size w1 (w1.alloc (.cells #[.string ⟨#[]⟩] 9)) := (Below.refl _ w1).alloc (Nat.le_refl _) _
      refine hK _ _ ⟨_, v8, v9, v10, v11, v12, rfl, bchain hB hA, h0, h1, h2, h3, fun _ => ⟨_, rfl, hB.size, heap_alloc_new _ _⟩, h5.below hA, fun _ hx => ?_, fun hx => by simp at hx, h8⟩
      obtain ⟨c, rfl, _, hc⟩ := h5 hx
      exact ptr_ne (Nat.ne_of_gt (lt_of_heap hc))
    · obtain rfl := Option.some.inj ho
      simp [Region.binds] at hi2
      clear ho
      have hb7 : b7 = false := by
        cases b7 with
        | false => rfl
        | true => have := h8 rfl; simp [hi2] at this
      subst hb7
      rw [if_pos (by rfl)]
      go_simp
      have hA : Below w1.heap.size w1 (w1.alloc (.cells #[.string ⟨#[]⟩] 9)) := (Below.refl _ w1).alloc (Nat.le_refl _) _
      refine hK _ _ ⟨v7, _, v9, v10, v11, v12, rfl, bchain hB hA, h0, h1, h2, h3, h4.below hA, fun _ => ⟨_, rfl, hB.size, heap_alloc_new _ _⟩, fun hx _ => ?_, h7, fun hx => by simp at hx⟩
      obtain ⟨c, rfl, _, hc⟩ := h4 hx
      exact ptr_ne (Nat.ne_of_lt (lt_of_heap hc))
    · obtain rfl := Option.some.inj ho
      simp [Region.binds] at hi2
      clear ho
      obtain ⟨c, rfl, hc0, hc⟩ := h4 (by simp [hi2])
      obtain rfl := h0 (by simp [hi2])
      obtain rfl := h1 (by simp [hi2])
      obtain rfl := h3 (by simp [hi2])
      have c0 := cell_of_one hc
      have f0 := free_of_one hc
      rw [if_pos (by rfl)]
      go_simp
      refine hK _ _ ⟨_, _, _, _, _, _, rfl, hB.setCell (p := ⟨c, 0, none⟩) hc0 _, fun _ => rfl, fun _ => rfl, h2, fun _ => rfl, fun _ => ⟨c, rfl, hc0, one_setCell hc⟩, fun hx => ?_, h6, fun _ => by simp [hi2], h8⟩
      obtain ⟨d, rfl, hd0, hd⟩ := h5 hx
      refine ⟨d, rfl, hd0, ?_⟩
      rw [Below.heap_setCell _ ⟨c, 0, none⟩ _ _ (fun hcd => h6 (by simp [hi2]) hx (by cases hcd; rfl))]
      exact hd
    · obtain rfl := Option.some.inj ho
      simp [Region.binds] at hi2
      clear ho
      obtain ⟨c, rfl, hc0, hc⟩ := h5 (by simp [hi2])
      obtain rfl := h0 (by simp [hi2])
      obtain rfl := h1 (by simp [hi2])
      obtain rfl := h2 (by simp [hi2])
      obtain rfl := h3 (by simp [hi2])
      have c0 := cell_of_one hc
      have f0 := free_of_one hc
      rw [if_pos (by rfl)]
      go_simp
      refine hK _ _ ⟨_, _, _, _, _, _, rfl, hB.setCell (p := ⟨c, 0, none⟩) hc0 _, fun _ => rfl, fun _ => rfl, fun _ => rfl, fun _ => rfl, fun hx => ?_, fun _ => ⟨c, rfl, hc0, one_setCell hc⟩, h6, h7, fun _ => by simp [hi2]⟩
      obtain ⟨d, rfl, hd0, hd⟩ := h4 hx
      refine ⟨d, rfl, hd0, ?_⟩
      rw [Below.heap_setCell _ ⟨c, 0, none⟩ _ _ (fun hcd => h6 hx (by simp [hi2]) (by cases hcd; rfl))]
      exact hd
    · simp at ho
  · intro L a w1 hL hr hI
    obtain ⟨v7, v8, v9, v10, v11, v12, rfl, hB, h0, h1, h2, h3, h4, h5, h6, h7, h8⟩ := hI
    obtain ⟨b0, b1, b2, b3, b4, b5, b6, b7, rfl⟩ : ∃ b0 b1 b2 b3 b4 b5 b6 b7, L = [b0, b1, b2, b3, b4, b5, b6, b7] := by
      match L, hL with
      | [b0, b1, b2, b3, b4, b5, b6, b7], _ => exact ⟨b0, b1, b2, b3, b4, b5, b6, b7, rfl⟩
    have hr2 := List.filter_eq_nil_iff.1 hr
    clear hr hL
    have k0 := hr2 0 (by simp)
    have k1 := hr2 1 (by simp)
    have k2 := hr2 2 (by simp)
    have k3 := hr2 3 (by simp)
    have k4 := hr2 4 (by simp)
    have k5 := hr2 5 (by simp)
    have k6 := hr2 6 (by simp)
    have k7 := hr2 7 (by simp)
    clear hr2
    simp [Region.binds] at k0 k2 k4 k5
    subst k0 k2 k4 k5
    simp [Region.binds] at k1
    subst k1
    simp [Region.binds] at k3
    subst k3
    simp [Region.binds] at k6
    subst k6
    simp [Region.binds] at k7
    subst k7
    obtain rfl := h0 rfl
    obtain rfl := h1 rfl
    obtain rfl := h2 rfl
    obtain rfl := h3 rfl
    obtain ⟨c, rfl, hc0, hc⟩ := h4 rfl
    obtain ⟨d, rfl, hd0, hd⟩ := h5 rfl
    have HX := Lib.hid (HT.out w1 c q d (bchain HB0.out hB) hc ((hB.block q (lt_of_heap HE.out)).trans HE.out) hd)
    have HBW := Lib.hid (bchain HB0.out hB)
    clear h0 h1 h2 h3 h4 h5 h6 h7 h8 hB hc hd hc0 hd0
    go_wp2_with fail
    refine HX.out.mono ?_
    rintro e w2 ⟨z, rfl, ho, hb⟩
    have HB2 : Hid (Below w.heap.size w w2) := Lib.hid (bchain HBW.out hb)
    have HO : Hid (Own w2 w.heap.size z WT) := Lib.hid (own_lowS ho HBW.out.size)
    clear ho hb
    go_wp2
    go_ret
    exact ⟨z, rfl, HO.out, HB2.out⟩
end Go.Proofs.YtaficmboooaknaaGreatDoor
namespace Go.Proofs.YtaficmboooaknaaGreatDoor
open Go.RowKit
open Sto (T St)
open Tri (Tr)

def coverS (S : St) (f e : T) : List T := wantedT (fun p => Tri.inL p f e) (treeS S)
def trailS (S : St) (k : T) : List T := wantedT (fun p => Tri.begins p (Nib.ofL k)) (treeS S)
theorem wanted_sub {P Q : T → Bool} (t : Tr) (h : ∀ x, P x = true → Q x = true) : (wantedT P t).Sublist (wantedT Q t) := (Tri.filter_sub _ _ _ fun x hx => h x.1 hx).map _
theorem cover_all (S : St) : coverS S [] [] = nodesS S := by
  unfold coverS nodesS
  rw [show (fun p => Tri.inL p [] []) = fun _ => true from funext Tri.in_all]
theorem scover_any {g : Nat} {S : St} (f e : T) (w : World) (h : TrAt w g S) (hl : f.length ≤ 2000000) (hl2 : e.length ≤ 2000000) :
    Calls Tryz.prog 36 #[ptr g, .string ⟨f.toArray⟩, .string ⟨e.toArray⟩] w (TextsPost w (coverS S f e)) := by
  obtain ⟨top, t, h1, h2, h3⟩ := h
  unfold coverS
  rw [treeS_of h3]
  exact cover_any f e w hl hl2 h1 (h3.sealed h2)
end Go.Proofs.YtaficmboooaknaaGreatDoor
namespace Go.Proofs.YtaficmboooaknaaGreatDoor
open Sto (T St)
open Tri (Tr Ok hb ix)
open Go.Proofs.YtaficmboooaknaaGreatDoor.Nd (N)
namespace Prf

/-- What a node says of what is left: the sum that is sought next with what is left then, or a value. -/
def next (n : N) (l : T) : (T × T) ⊕ T :=
  if n.kind = 1 then .inr (if n.path = l then n.val else [])
  else if n.kind = 2 then (if l.take n.path.length = n.path then .inl (n.kids.getD 0 [], l.drop n.path.length) else .inr [])
  else match l with
    | [] => .inr n.val
    | b :: q => if n.kids.getD b.toNat [] = [] then .inr [] else .inl (n.kids.getD b.toNat [], q)
/-- To follow what is left from a sum by just these nodes. -/
def follow : T → T → List T → Option T
  | _, _, [] => none
  | s, l, x :: r =>
    if Sto.sumOf x = s ∧ (Nd.dec x).2 = 0 then
      match next (Nd.dec x).1 l with
      | .inl p => follow p.1 p.2 r
      | .inr v => if r = [] then some v else none
    else none
def verify (root key : T) (nodes : List T) : T × Bool × Nat :=
  if Tri.keyed key then
    (if root = [] then (if nodes = [] then ([], false, 0) else ([], false, 130))
    else match follow root (Nib.ofL key) nodes with
      | some v => (v, decide (v ≠ []), 0)
      | none => ([], false, 130))
  else ([], false, 1)
/-! ### the nodes on the way -/
def trail : Tr → T → List N
  | .nil, _ => []
  | .leaf p v, _ => [Tr.node Nd.sumS (.leaf p v)]
  | .ext p t, l => Tr.node Nd.sumS (.ext p t) :: (if l.take p.length = p then trail t (l.drop p.length) else [])
  | .br v k, [] => [Tr.node Nd.sumS (.br v k)]
  | .br v k, b :: q => Tr.node Nd.sumS (.br v k) :: (if b.toNat ≤ 15 then trail (k (ix b)) q else [])
theorem spots_pre (t : Tr) : ∀ (p : T), ∀ x ∈ t.spots Nd.sumS p, ∃ q, x.1 = p ++ q := by
  induction t with
  | nil => intro p x hx; cases hx
  | leaf q v => intro p x hx; rw [List.mem_singleton.1 hx]; exact ⟨[], by simp⟩
  | ext q t ih =>
    intro p x hx
    rcases List.mem_cons.1 hx with rfl | hx
    · exact ⟨[], by simp⟩
    · obtain ⟨r, hr⟩ := ih _ x hx
      exact ⟨q ++ r, by rw [hr, List.append_assoc]⟩
  | br v k ih =>
    intro p x hx
    rcases List.mem_cons.1 hx with rfl | hx
    · exact ⟨[], by simp⟩
    · obtain ⟨i, _, hi⟩ := List.mem_flatMap.1 hx
      obtain ⟨r, hr⟩ := ih i _ x hi
      exact ⟨[hb i] ++ r, by rw [hr, List.append_assoc]⟩
theorem begins_app (p q l : T) : Tri.begins (p ++ q) (p ++ l) = Tri.begins q l := by
  unfold Tri.begins
  rw [List.length_append, List.take_append, List.take_of_length_le (Nat.le_add_right _ _), Nat.add_sub_cancel_left]
  simp
theorem begins_self (p l : T) : Tri.begins p (p ++ l) = true := by
  unfold Tri.begins
  simp
/-- Of a tree at a place that is not ahead of the mark no node is ahead of it. -/
theorem none_of {t : Tr} {p m : T} (h : Tri.begins p m = false) : ((t.spots Nd.sumS p).filter fun x => Tri.begins x.1 m) = [] := by
  rw [List.filter_eq_nil_iff]
  intro x hx
  obtain ⟨q, hq⟩ := spots_pre t p x hx
  have h1 : m.take p.length ≠ p := of_decide_eq_false h
  intro hb
  have h2 : m.take (p ++ q).length = p ++ q := by rw [← hq]; exact of_decide_eq_true hb
  apply h1
  have h3 := congrArg (List.take p.length) h2
  rw [List.take_take, List.length_append, Nat.min_eq_left (by omega), List.take_left] at h3
  exact h3
theorem begins_ext (p q l : T) : Tri.begins (p ++ q) (p ++ l) = decide (l.take q.length = q) := by rw [begins_app]; rfl
theorem flat_one (f : Fin 16 → List (T × N)) (i : Fin 16) (h : ∀ j, j ≠ i → f j = []) : ∀ L : List (Fin 16), L.Nodup → L.flatMap f = if i ∈ L then f i else [] := by
  intro L
  induction L with
  | nil => intro _; rfl
  | cons j L ih =>
    intro hn
    obtain ⟨h1, h2⟩ := List.nodup_cons.1 hn
    rw [List.flatMap_cons, ih h2]
    by_cases e : j = i
    · subst e
      rw [if_neg h1, if_pos (List.mem_cons_self ..), List.append_nil]
    · rw [h j e, List.nil_append]
      by_cases hm : i ∈ L
      · rw [if_pos hm, if_pos (List.mem_cons_of_mem _ hm)]
      · rw [if_neg hm, if_neg (fun e2 => (List.mem_cons.1 e2).elim (fun e3 => e e3.symm) hm)]
theorem flat_none (f : Fin 16 → List (T × N)) (h : ∀ j, f j = []) (L : List (Fin 16)) : L.flatMap f = [] := by
  rw [List.flatMap_eq_nil_iff]
  exact fun j _ => h j
theorem filter_flat (P : T × N → Bool) (f : Fin 16 → List (T × N)) (L : List (Fin 16)) : (L.flatMap f).filter P = L.flatMap fun i => (f i).filter P := by
  induction L with
  | nil => rfl
  | cons a L ih => rw [List.flatMap_cons, List.filter_append, ih, List.flatMap_cons]
theorem trail_spots (t : Tr) : ∀ (p l : T), ((t.spots Nd.sumS p).filter fun x => Tri.begins x.1 (p ++ l)).map (·.2) = trail t l := by
  induction t with
  | nil => intro p l; rfl
  | leaf q v =>
    intro p l
    rw [Tr.spots, List.filter_cons, if_pos (begins_self p l)]
    rfl
  | ext q t ih =>
    intro p l
    rw [Tr.spots, List.filter_cons, if_pos (begins_self p l), List.map_cons, trail]
    congr 1
    by_cases h : l.take q.length = q
    · rw [if_pos h]
      have e : p ++ l = (p ++ q) ++ l.drop q.length := by
        rw [List.append_assoc]
        conv => lhs; rw [← List.take_append_drop q.length l, h]
      rw [e]
      exact ih (p ++ q) (l.drop q.length)
    · rw [if_neg h, none_of (by rw [begins_ext]; exact decide_eq_false h)]
      rfl
  | br v k ih =>
    intro p l
    rw [Tr.spots, List.filter_cons, if_pos (begins_self p l), List.map_cons, filter_flat]
    cases l with
    | nil =>
      rw [trail, flat_none]
      · rfl
      · intro j
        exact none_of (by rw [begins_ext]; simp)
    | cons b q =>
      rw [trail]
      congr 1
      by_cases hb15 : b.toNat ≤ 15
      · rw [if_pos hb15, flat_one _ (ix b) (fun j hj => none_of (by
          rw [begins_ext]
          simp only [List.length_cons, List.length_nil, Nat.zero_add, List.take_succ_cons, List.take_zero, decide_eq_false_iff_not, List.cons.injEq, and_true]
          intro e
          apply hj
          rw [← Tri.ix_hb j, ← e])) _ (List.nodup_finRange 16), if_pos (List.mem_finRange _)]
        have e : p ++ b :: q = (p ++ [hb (ix b)]) ++ q := by rw [Tri.hb_ix hb15]; simp
        rw [e]
        exact ih (ix b) (p ++ [hb (ix b)]) q
      · rw [if_neg hb15, flat_none]
        · rfl
        · intro j
          refine none_of ?_
          rw [begins_ext]
          simp only [List.length_cons, List.length_nil, Nat.zero_add, List.take_succ_cons, List.take_zero, decide_eq_false_iff_not, List.cons.injEq, and_true]
          intro e
          apply hb15
          rw [e, Tri.hb_toNat]
          have := j.isLt
          omega
theorem trail_wanted (t : Tr) (l : T) : wantedT (fun q => Tri.begins q l) t = (trail t l).map Nd.written := by
  unfold wantedT
  have h := trail_spots t [] l
  rw [List.nil_append] at h
  rw [← h, List.map_map]
  rfl
theorem trailS_eq {S : St} {t : Tr} (h : TrS S t) (k : T) : trailS S k = (trail t (Nib.ofL k)).map Nd.written := by
  unfold trailS
  rw [treeS_of h, trail_wanted]
theorem dec_node {t : Tr} (h : Ok t) (hn : ¬ t.isNil) : Nd.dec (Nd.written (t.node Nd.sumS)) = (t.node Nd.sumS, 0) := Nd.dec_written _ (Tri.node_kids _ _) (h.fine hn)
/-- What a tree's topmost node says: where it goes on, a kid that is there, and what that has of what is left then. -/
theorem next_node {t : Tr} (h : Ok t) (hn : ¬ t.isNil) (l : T) (hl : Nib.fitL l = true) :
    (∃ i q, next (t.node Nd.sumS) l = .inl ((t.kid i).sum Nd.sumS, q) ∧ ¬ (t.kid i).isNil ∧ Nib.fitL q = true ∧ t.get l = (t.kid i).get q ∧ trail t l = t.node Nd.sumS :: trail (t.kid i) q) ∨
    (∃ v, next (t.node Nd.sumS) l = .inr v ∧ v = (t.get l).getD [] ∧ trail t l = [t.node Nd.sumS]) := by
  cases t with
  | nil => exact absurd trivial hn
  | leaf p v =>
    refine Or.inr ⟨_, rfl, ?_, rfl⟩
    show (if p = l then v else []) = _
    rw [Tr.get]
    by_cases e : p = l
    · rw [if_pos e, if_pos e.symm]; rfl
    · rw [if_neg e, if_neg (fun e2 => e e2.symm)]; rfl
  | ext p t =>
    obtain ⟨v, k, rfl, _⟩ := Tri.ext_br h.canon
    by_cases e : l.take p.length = p
    · refine Or.inl ⟨0, l.drop p.length, ?_, id, Tri.fit_drop _ hl, ?_, ?_⟩
      · show (if l.take p.length = p then _ else _) = _
        rw [if_pos e]; rfl
      · rw [Tr.get, if_pos e]; rfl
      · rw [trail, if_pos e]; rfl
    · refine Or.inr ⟨[], ?_, ?_, ?_⟩
      · show (if l.take p.length = p then _ else _) = _
        rw [if_neg e]
      · rw [Tr.get, if_neg e]; rfl
      · rw [trail, if_neg e]
  | br v k =>
    cases l with
    | nil =>
      refine Or.inr ⟨v, rfl, ?_, rfl⟩
      rw [Tr.get]
      by_cases e : v = []
      · rw [if_pos e, e]; rfl
      · rw [if_neg e]; rfl
    | cons b q =>
      obtain ⟨hb15, hq⟩ := Tri.fit_cons.1 hl
      have hlt : b.toNat < 16 := by omega
      have hk : (List.ofFn fun i => (k i).sum Nd.sumS).getD b.toNat [] = (k (ix b)).sum Nd.sumS := by
        rw [List.getD_eq_getElem?_getD, List.getElem?_ofFn, dif_pos hlt]
        simp only [Option.getD_some]
        congr 2
        exact Fin.ext (by simp [ix]; omega)
      have hnx : next (Tr.node Nd.sumS (.br v k)) (b :: q) = if (k (ix b)).sum Nd.sumS = [] then .inr [] else .inl ((k (ix b)).sum Nd.sumS, q) := by
        show (if (List.ofFn fun i => (k i).sum Nd.sumS).getD b.toNat [] = [] then Sum.inr [] else Sum.inl ((List.ofFn fun i => (k i).sum Nd.sumS).getD b.toNat [], q)) = _
        rw [hk]
      by_cases e : (k (ix b)).isNil
      · refine Or.inr ⟨[], ?_, ?_, ?_⟩
        · rw [hnx, if_pos (show (k (ix b)).sum Nd.sumS = [] by rw [Tri.nil_of_isNil e]; rfl)]
        · rw [Tr.get, if_pos hb15, Tri.nil_of_isNil e]; rfl
        · rw [trail, if_pos hb15, Tri.nil_of_isNil e]; rfl
      · refine Or.inl ⟨ix b, q, ?_, e, hq, ?_, ?_⟩
        · rw [hnx, if_neg (show (k (ix b)).sum Nd.sumS ≠ [] from (h.kid (ix b)).sum_ne e)]; rfl
        · rw [Tr.get, if_pos hb15]; rfl
        · rw [trail, if_pos hb15]; rfl
/-- What is proved is verified. -/
theorem follow_trail (t : Tr) : Ok t → ¬ t.isNil → ∀ l, Nib.fitL l = true → follow (t.sum Nd.sumS) l ((trail t l).map Nd.written) = some ((t.get l).getD []) := by
  refine Tri.kid_ind (P := fun t => Ok t → ¬ t.isNil → ∀ l, Nib.fitL l = true → follow (t.sum Nd.sumS) l ((trail t l).map Nd.written) = some ((t.get l).getD [])) (fun _ h => absurd trivial h) ?_ t
  intro t hn ih hok _ l hl
  have hc : Sto.sumOf (Nd.written (t.node Nd.sumS)) = t.sum Nd.sumS ∧ (Nd.dec (Nd.written (t.node Nd.sumS))).2 = 0 := ⟨(sum_text hok hn).symm, by rw [dec_node hok hn]⟩
  rcases next_node hok hn l hl with ⟨i, q, h1, h2, h3, h4, h5⟩ | ⟨v, h1, h2, h3⟩
  · rw [h5, List.map_cons, follow, if_pos hc, dec_node hok hn]
    simp only [h1]
    rw [ih i (hok.kid i) h2 q h3, h4]
  · rw [h3, List.map_cons, follow, if_pos hc, dec_node hok hn]
    simp only [h1, List.map_nil, if_true, h2]
theorem clash_mono {C D : List T} (h : ∀ x ∈ C, x ∈ D) (k : Clash C) : Clash D := by
  obtain ⟨s, hs, t, ht, h1, h2⟩ := k
  exact ⟨s, h s hs, t, h t ht, h1, h2⟩
/-- Whatever is verified is as the tree has it, or two unlike texts have one sum. -/
theorem follow_sound (t : Tr) : Ok t → ¬ t.isNil → ∀ l, Nib.fitL l = true → ∀ (L : List T) (v : T), follow (t.sum Nd.sumS) l L = some v → v = (t.get l).getD [] ∨ Clash ((t.nodes Nd.sumS).map Nd.written ++ L) := by
  refine Tri.kid_ind (P := fun t => Ok t → ¬ t.isNil → ∀ l, Nib.fitL l = true → ∀ (L : List T) (v : T), follow (t.sum Nd.sumS) l L = some v → v = (t.get l).getD [] ∨ Clash ((t.nodes Nd.sumS).map Nd.written ++ L)) (fun _ h => absurd trivial h) ?_ t
  intro t hn ih hok _ l hl L v hv
  cases L with
  | nil => cases hv
  | cons x r =>
    rw [follow] at hv
    by_cases hc : Sto.sumOf x = t.sum Nd.sumS ∧ (Nd.dec x).2 = 0
    · rw [if_pos hc] at hv
      by_cases hx : x = Nd.written (t.node Nd.sumS)
      · subst hx
        rw [dec_node hok hn] at hv
        rcases next_node hok hn l hl with ⟨i, q, h1, h2, h3, h4, _⟩ | ⟨u, h1, h2, _⟩
        · simp only [h1] at hv
          rcases ih i (hok.kid i) h2 q h3 r v hv with h | h
          · exact Or.inl (by rw [h, h4])
          · refine Or.inr (clash_mono (fun y hy => ?_) h)
            rcases List.mem_append.1 hy with hy | hy
            · obtain ⟨n, hnn, rfl⟩ := List.mem_map.1 hy
              exact List.mem_append_left _ (List.mem_map.2 ⟨n, (mem_nodes hn n).2 (Or.inr ⟨i, hnn⟩), rfl⟩)
            · exact List.mem_append_right _ (List.mem_cons_of_mem _ hy)
        · simp only [h1] at hv
          by_cases hr : r = []
          · rw [if_pos hr] at hv
            exact Or.inl (by rw [← Option.some.inj hv, h2])
          · rw [if_neg hr] at hv; cases hv
      · refine Or.inr ⟨x, List.mem_append_right _ (List.mem_cons_self ..), Nd.written (t.node Nd.sumS), List.mem_append_left _ (List.mem_map.2 ⟨_, (mem_nodes hn _).2 (Or.inl rfl), rfl⟩), hx, ?_⟩
        rw [hc.1, sum_text hok hn]
    · rw [if_neg hc] at hv; cases hv
/-! ### no more and no less -/
theorem follow_more (L : List T) : ∀ {s l v : T}, follow s l L = some v → ∀ M, M ≠ [] → follow s l (L ++ M) = none := by
  induction L with
  | nil => intro s l v hv; cases hv
  | cons x r ih =>
    intro s l v hv M hM
    rw [follow] at hv
    rw [List.cons_append, follow]
    by_cases hc : Sto.sumOf x = s ∧ (Nd.dec x).2 = 0
    · rw [if_pos hc] at hv ⊢
      cases hx : next (Nd.dec x).1 l with
      | inl p =>
        simp only [hx] at hv ⊢
        exact ih hv M hM
      | inr u =>
        simp only [hx] at hv ⊢
        rw [if_neg]
        intro e
        exact hM (List.append_eq_nil_iff.1 e).2
    · rw [if_neg hc] at hv; cases hv
end Prf
end Go.Proofs.YtaficmboooaknaaGreatDoor
