/- CodeFew, TriLaw, TriCover2, TriShow, TriRefCover, TriRefTrail, BookLend, ShaLaid, ArgItems, ArgNode, ArgTwoS -/
import Derived.Test.YtbkanebkobjnnaaGreatDoorPk01
import Derived.WalkSpells
import Derived.WalkLawsBesides
import Derived.Deep.QuietTactic
import Derived.BigQuiet
import Derived.Test.YtbkanebkobjnnaaGreatDoorPk15
import Derived.Test.YtbkanebkobjnnaaGreatDoorPk09
import Derived.Test.YtbkanebkobjnnaaGreatDoorPk03
import Derived.Test.YtbkanebkobjnnaaGreatDoorPk12
import Derived.Test.YtbkanebkobjnnaaGreatDoorRows
import Derived.Test.YtbkanebkobjnnaaGreatDoorPk06
import Derived.Lib.LaidU8
import Derived.LaidMore
import Derived.Stop.Joined
import Derived.ProofKit
import Derived.Deep.Slices
import Derived.DataReads
import Derived.OpenShut
import Derived.SizedLaws
namespace Go.Proofs.YtbkanebkobjnnaaGreatDoor
open Go.RowKit

def Code.few (L : List (List UInt8)) (n e : Nat) : Bool := decide (L.length ≤ n) && L.all fun s => decide (s.length ≤ e)
theorem Code.take_snoc_eq {L M : List (List UInt8)} {k : Nat} (h1 : k < L.length) (h2 : k < M.length) : L.take (k + 1) = M.take (k + 1) ↔ L.take k = M.take k ∧ L[k] = M[k] := by
  rw [List.take_succ_eq_append_getElem h1, List.take_succ_eq_append_getElem h2]
  constructor
  · intro h
    have := List.append_inj' h rfl
    exact ⟨this.1, by simpa using this.2⟩
  · rintro ⟨a, b⟩
    rw [a, b]

set_option maxHeartbeats 400000 in
theorem same_any (L M : List (List UInt8)) (u v : Value) (w : World) (hu : Strs w u L) (hv : Strs w v M) (hl : L.length ≤ 100000000) (hm : M.length ≤ maxLen) :
    Calls Tryz.prog 11 #[u, v] w fun x w' => x = .returned (.bool (decide (L = M))) ∧ Below w.heap.size w w' := by
  obtain ⟨A, cap, rfl, hc⟩ := hu
  obtain ⟨B, cap2, rfl, hd⟩ := hv
  unfold maxLen at hm
  by_cases he : L.length = M.length
  · have h0 : ((L.length : Int) == (M.length : Int)) = true := by rw [beq_iff_eq]; omega
    have he' := Lib.hid he
    go_enter Tryz.func11, Tryz.ntmps11
    go_wp2
    go_loopw [5, 6] (fun s i wr => ∃ k : Nat, k ≤ L.length ∧ s = .bool (decide (L.take k = M.take k)) ∧ i = .int .i64 k ∧ Below w.heap.size w wr ∧ (L.take k ≠ M.take k → L ≠ M)) (fun _ i _ => L.length - (intOf i).toNat)
    case atStart => exact ⟨0, Nat.zero_le _, by simp, rfl, Below.refl _ _, by simp⟩
    case round =>
      obtain ⟨k, hk, rfl, rfl, hbel, hno⟩ := hrel
      have HN := Lib.hid hno
      clear hno
      rcases htk : decide (L.take k = M.take k) with _ | _
      · have HT := Lib.hid htk
        clear htk
        go_wp2
        go_ret
        refine ⟨?_, hbel⟩
        have h := HN.out (of_decide_eq_false HT.out)
        rw [decide_eq_false h]
        rfl
      · have HT := Lib.hid htk
        clear htk
        by_cases hlt : k < L.length
        · have h1 : (k : Int) < (L.length : Int) := by omega
          have h2 : (k : Int) < (M.length : Int) := by omega
          obtain ⟨a, rfl, hcell⟩ := hc k hlt
          obtain ⟨b, rfl, hdell⟩ := hd k (by omega)
          have hcell1 := (hbel.cell (World.block_lt_of_cell? _ _ hcell)).trans hcell
          have hdell1 := (hbel.cell (World.block_lt_of_cell? _ _ hdell)).trans hdell
          have hsn := Lib.hid (Code.take_snoc_eq hlt (show k < M.length by omega))
          clear hc hd hcell hdell
          obtain ⟨s, hs⟩ : ∃ s, L[k] = s := ⟨_, rfl⟩
          obtain ⟨t, ht⟩ : ∃ t, M[k] = t := ⟨_, rfl⟩
          rw [hs] at hcell1 hsn
          rw [ht] at hdell1 hsn
          clear hs ht
          go_wp2
          go_quiet (fail)
          go_wp2
          go_roundw
          case rel =>
            refine ⟨k + 1, by omega, ?_, by go_num, bel_drewN hbel _, ?_⟩
            · have e := hsn.out
              have e1 := of_decide_eq_true HT.out
              by_cases hst : s = t
              · rw [decide_eq_true (e.2 ⟨e1, hst⟩)]; simp [hst]
              · rw [decide_eq_false (fun h => hst (e.1 h).2)]; simp [hst]
            · intro h hLM
              subst hLM
              exact h rfl
          case measure => simp [intOf]; omega
        · go_wp2
          go_ret
          refine ⟨?_, hbel⟩
          have e := of_decide_eq_true HT.out
          have he2 := he'.out
          rw [List.take_of_length_le (by omega), List.take_of_length_le (by omega)] at e
          rw [decide_eq_true e]
          rfl
  · have h0 : ((L.length : Int) == (M.length : Int)) = false := by rw [beq_eq_false_iff_ne]; omega
    have hne : decide (L = M) = false := decide_eq_false (fun h => he (by rw [h]))
    rw [hne]
    clear he hc hd hne
    go_enter Tryz.func11, Tryz.ntmps11
    go_wp2
    go_loop [5, 6] (fun s i => s = .bool false ∧ i = .int .i64 0) (fun _ _ => 0)
    case atStart => exact ⟨rfl, rfl⟩
    case round =>
      obtain ⟨rfl, rfl⟩ := hrel
      go_wp2
      go_ret
      exact ⟨rfl, Below.refl _ _⟩

end Go.Proofs.YtbkanebkobjnnaaGreatDoor
namespace Go.Proofs.YtbkanebkobjnnaaGreatDoor
open Go.RowKit
open Sto (T St)
open Tri (Tr)

/-- The tree of items. -/
def treeS (S : St) : Tr := S.foldr (fun x t => t.put (Nib.ofL x.1) x.2) .nil
theorem treeS_tree (S : St) (hS : Sto.Rising S) (hv : ∀ p ∈ S, p.2 ≠ []) : Tri.TreeOf S (treeS S) := by
  induction S with
  | nil => exact ⟨trivial, trivial, rfl⟩
  | cons a r ih =>
    obtain ⟨h1, h2⟩ := List.pairwise_cons.1 hS
    have h3 := (ih h2 fun p h => hv p (List.mem_cons_of_mem _ h)).put (k := a.1) (hv a (List.mem_cons_self ..))
    have e : Tri.put r a.1 a.2 = a :: r := by
      cases r with
      | nil => rfl
      | cons b r =>
        have hab := h1 b (List.mem_cons_self ..)
        rw [Tri.put, if_neg (fun h => List.lt_irrefl _ (List.lt_trans h hab)), if_neg (fun e => Sto.lt_ne hab e.symm)]
    rw [e] at h3
    exact h3
theorem treeS_of {S : St} {t : Tr} (h : TrS S t) : treeS S = t :=
  (treeS_tree S h.rise fun p hp e => by have := (h.fair p hp).2.2.1; rw [e] at this; simp at this).one h.tree
def rootS (S : St) : T := (treeS S).sum Nd.sumS
def nodesS (S : St) : List T := wantedT (fun _ => true) (treeS S)
theorem sroot_any {g : Nat} {S : St} (w : World) (h : TrAt w g S) :
    Calls Tryz.prog 18 #[ptr g] w fun e w' => e = .returned (.string ⟨(rootS S).toArray⟩) ∧ Below w.heap.size w w' := by
  obtain ⟨top, t, h1, h2, h3⟩ := h
  unfold rootS
  rw [treeS_of h3]
  exact troot_any w h1 h2 h3.ok
theorem snodes_any {g : Nat} {S : St} (w : World) (h : TrAt w g S) :
    Calls Tryz.prog 10 #[ptr g] w (TextsPost w (nodesS S)) := by
  obtain ⟨top, t, h1, h2, h3⟩ := h
  unfold nodesS
  rw [treeS_of h3]
  exact nodes_any w h1 (h3.sealed h2)
theorem sitems_any {g : Nat} {S : St} (w : World) (h : TrAt w g S) :
    Calls Tryz.prog 20 #[ptr g] w (ItemsPost w S) := by
  obtain ⟨top, t, h1, h2, h3⟩ := h
  exact items_any w h1 (h3.sealed h2) h3.tree
theorem TrAt.nodes_len {w : World} {g : Nat} {S : St} (h : TrAt w g S) : (nodesS S).length ≤ 100000 := by
  obtain ⟨top, t, h1, h2, h3⟩ := h
  unfold nodesS
  rw [treeS_of h3, wanted_all, List.length_map]
  exact h3.spots []
end Go.Proofs.YtbkanebkobjnnaaGreatDoor
namespace Go.Proofs.YtbkanebkobjnnaaGreatDoor
open Go.RowKit
open Sto (T)
open Tri (Tr Ok upd ix hb lay splitT Trim rank)
open Go.Proofs.YtbkanebkobjnnaaGreatDoor.Nd (N)

/-- A variable of the region's own: made once b, and holding P once d. -/
def CovR (w0 w : World) (b d : Option Bool) (P : T) (v : Value) : Prop :=
  b = some true → ∃ c, v = .pointer (some ⟨c, 0, none⟩) ∧ w0.heap.size ≤ c ∧ w.heap[c]? = some (.cells #[.string ⟨(if d = some true then P else []).toArray⟩] 9 (0, 0))
theorem CovR.below {w0 w w' : World} {b d : Option Bool} {P : T} {v : Value} (h : CovR w0 w b d P v) (hb : Below w.heap.size w w') : CovR w0 w' b d P v := fun hx => by
  obtain ⟨c, e, h1, h2⟩ := h hx
  exact ⟨c, e, h1, (hb.block c (lt_of_heap h2)).trans h2⟩
/-- What holds in the region: L tells which of its operations have come up. -/
def CovI (g q : Nat) (f e P Q : T) (w0 : World) (L : List Bool) (a : Act) (w : World) : Prop :=
  ∃ v7 v8 v9 v10 v11 v12 : Value, a = ⟨#[ptr g, .string ⟨f.toArray⟩, .string ⟨e.toArray⟩, undef, undef, .pointer (some ⟨q, 0, none⟩), .slice none 0 0, v7, v8, v9, v10, v11, v12, undef, undef, undef], []⟩ ∧
    Below w0.heap.size w0 w ∧
    (L[0]? = some true → v9 = .string ⟨f.toArray⟩) ∧ (L[1]? = some true → v10 = .string ⟨P.toArray⟩) ∧ (L[2]? = some true → v11 = .string ⟨e.toArray⟩) ∧ (L[3]? = some true → v12 = .string ⟨Q.toArray⟩) ∧
    CovR w0 w L[4]? L[6]? P v7 ∧ CovR w0 w L[5]? L[7]? Q v8 ∧ (L[4]? = some true → L[5]? = some true → v7 ≠ v8) ∧ (L[6]? = some true → L[4]? = some true) ∧ (L[7]? = some true → L[5]? = some true)
theorem ptr_ne {a b : Nat} (h : a ≠ b) : Value.pointer (some ⟨a, 0, none⟩) ≠ Value.pointer (some ⟨b, 0, none⟩) := fun hx => h (by injection hx with hx; injection hx with hx; injection hx)

set_option maxRecDepth 100000 in
set_option maxHeartbeats 1000000 in
theorem cover_any {g : Nat} {t : Tr} {top n : Value} (f e : T) (w : World) (hl : f.length ≤ 1000) (hl2 : e.length ≤ 1000) (hg : w.heap[g]? = some (.cells #[top, n] 65 (0, 0))) (hs : Sealed w t top) :
    Calls Tryz.prog 15 #[ptr g, .string ⟨f.toArray⟩, .string ⟨e.toArray⟩] w (TextsPost w (wantedT (fun p => Tri.inL p f e) t)) := by
  have hmf : ∀ (fn : Fn) (first cap : Array Value) (w : World), (Instr.makeFunc fn first cap).run Tryz.prog w = .ok (.func fn first cap) w := fun _ _ _ _ => rfl
  have HT : Hid (∀ w1 cf ce cl, Below w.heap.size w w1 → w1.heap[cf]? = some (.cells #[.string ⟨(Nib.ofL f).toArray⟩] 9 (0, 0)) → w1.heap[ce]? = some (.cells #[.string ⟨e.toArray⟩] 9 (0, 0)) → w1.heap[cl]? = some (.cells #[.string ⟨(Nib.ofL e).toArray⟩] 9 (0, 0)) →
      Calls Tryz.prog 35 #[ptr g, .func (.func 40) #[] #[.pointer (some ⟨cf, 0, none⟩), .pointer (some ⟨ce, 0, none⟩), .pointer (some ⟨cl, 0, none⟩)]] w1 (TextsPost w1 (wantedT (fun p => Tri.inL p f e) t))) := Lib.hid (fun w1 cf ce cl hb h1 h2 h3 =>
    texts_any _ ((hb.block g (lt_of_heap hg)).trans hg) (hs.below hb) (cover_wants _ h1 h2 h3) (down_in f e))
  unfold TextsPost ptr at HT
  unfold TextsPost ptr
  obtain ⟨P, hP⟩ : ∃ P, Nib.ofL f = P := ⟨_, rfl⟩
  obtain ⟨Q, hQ⟩ : ∃ Q, Nib.ofL e = Q := ⟨_, rfl⟩
  have HOF : Hid (∀ w', Calls Tryz.prog 37 #[.string ⟨f.toArray⟩] w' fun r w'' => r = .returned (.string ⟨P.toArray⟩) ∧ Below w'.heap.size w' w'') := Lib.hid (fun w' => by rw [← hP]; exact of_any f w' (by omega))
  have HOE : Hid (∀ w', Calls Tryz.prog 37 #[.string ⟨e.toArray⟩] w' fun r w'' => r = .returned (.string ⟨Q.toArray⟩) ∧ Below w'.heap.size w' w'') := Lib.hid (fun w' => by rw [← hQ]; exact of_any e w' (by omega))
  rw [hP, hQ] at HT
  obtain ⟨WT, hWT⟩ : ∃ WT, wantedT (fun p => Tri.inL p f e) t = WT := ⟨_, rfl⟩
  rw [hWT] at HT ⊢
  clear hg hs hP hQ hWT
  go_enter Tryz.func15, Tryz.ntmps15
  go_upto_region 1 with fail
  obtain ⟨w0, hw0⟩ : ∃ w0, w.alloc (.cells #[.string ⟨e.toArray⟩] 9) = w0 := ⟨_, rfl⟩
  have HE : Hid (w0.heap[w.heap.size]? = some (.cells #[.string ⟨e.toArray⟩] 9 (0, 0))) := Lib.hid (by rw [← hw0]; exact heap_alloc_new w _)
  have HB0 : Hid (Below w.heap.size w w0) := Lib.hid (by rw [← hw0]; exact (Below.refl _ w).alloc (Nat.le_refl _) _)
  obtain ⟨q, hq⟩ : ∃ q, w.heap.size = q := ⟨_, rfl⟩
  have HQ := Lib.hid hq
  rw [hw0, hq]
  rw [hq] at HE
  clear hw0 hq
  refine region_inv (CovI g q f e P Q w0) (by rfl) ?_ ?_ ?_
  · refine ⟨_, _, _, _, _, _, rfl, (Below.refl _ _).drew, ?_, ?_, ?_, ?_, ?_, ?_, ?_, ?_, ?_⟩ <;> (intro h; simp at h)
  · intro L a w1 hL hI i o ho hi K hK
    obtain ⟨v7, v8, v9, v10, v11, v12, rfl, hB, h0, h1, h2, h3, h4, h5, h6, h7, h8⟩ := hI
    obtain ⟨b0, b1, b2, b3, b4, b5, b6, b7, rfl⟩ : ∃ b0 b1 b2 b3 b4 b5 b6 b7, L = [b0, b1, b2, b3, b4, b5, b6, b7] := by
      match L, hL with
      | [b0, b1, b2, b3, b4, b5, b6, b7], _ => exact ⟨b0, b1, b2, b3, b4, b5, b6, b7, rfl⟩
    have hi2 := (List.mem_filter.1 hi).2
    clear hi hL
    rcases i with _ | _ | _ | _ | _ | _ | _ | _ | i
    · obtain rfl := Option.some.inj ho
      clear ho hi2
      rw [if_pos (by rfl)]
      go_simp
      exact hK _ _ ⟨v7, v8, _, v10, v11, v12, rfl, hB, fun _ => rfl, h1, h2, h3, h4, h5, h6, h7, h8⟩
    · obtain rfl := Option.some.inj ho
      simp [Region.binds] at hi2
      obtain rfl := h0 (by simp [hi2])
      clear ho hi2
      rw [if_pos (by rfl)]
      go_simp
      refine (HOF.out _).mono ?_
      rintro r w2 ⟨rfl, hb2⟩
      exact hK _ _ ⟨v7, v8, _, _, v11, v12, rfl, bchain hB hb2, h0, fun _ => rfl, h2, h3, h4.below hb2, h5.below hb2, h6, h7, h8⟩
    · obtain rfl := Option.some.inj ho
      clear ho hi2
      have c0 := cell_of_one ((hB.block q (lt_of_heap HE.out)).trans HE.out)
      rw [if_pos (by rfl)]
      go_simp
      exact hK _ _ ⟨v7, v8, v9, v10, _, v12, rfl, hB, h0, h1, fun _ => rfl, h3, h4, h5, h6, h7, h8⟩
    · obtain rfl := Option.some.inj ho
      simp [Region.binds] at hi2
      obtain rfl := h2 (by simp [hi2])
      clear ho hi2
      rw [if_pos (by rfl)]
      go_simp
      refine (HOE.out _).mono ?_
      rintro r w2 ⟨rfl, hb2⟩
      exact hK _ _ ⟨v7, v8, v9, v10, _, _, rfl, bchain hB hb2, h0, h1, h2, fun _ => rfl, h4.below hb2, h5.below hb2, h6, h7, h8⟩
    · obtain rfl := Option.some.inj ho
      simp [Region.binds] at hi2
      clear ho
      have hb6 : b6 = false := by
        cases b6 with
        | false => rfl
        | true => have := h7 rfl; simp [hi2] at this
      subst hb6
      rw [if_pos (by rfl)]
      go_simp
      have hA : Below w1.heap.size w1 (w1.alloc (.cells #[.string ⟨#[]⟩] 9)) := (Below.refl _ w1).alloc (Nat.le_refl _) _
      refine hK _ _ ⟨_, v8, v9, v10, v11, v12, rfl, bchain hB hA, h0, h1, h2, h3, fun _ => ⟨_, rfl, hB.size, heap_alloc_new _ _⟩, h5.below hA, fun _ hx => ?_, fun hx => by simp at hx, h8⟩
      obtain ⟨c, rfl, _, hc⟩ := h5 hx
      exact ptr_ne (Nat.ne_of_gt (lt_of_heap hc))
    · obtain rfl := Option.some.inj ho
      simp [Region.binds] at hi2
      clear ho
      have hb7 : b7 = false := by
        cases b7 with
        | false => rfl
        | true => have := h8 rfl; simp [hi2] at this
      subst hb7
      rw [if_pos (by rfl)]
      go_simp
      have hA : Below w1.heap.size w1 (w1.alloc (.cells #[.string ⟨#[]⟩] 9)) := (Below.refl _ w1).alloc (Nat.le_refl _) _
      refine hK _ _ ⟨v7, _, v9, v10, v11, v12, rfl, bchain hB hA, h0, h1, h2, h3, h4.below hA, fun _ => ⟨_, rfl, hB.size, heap_alloc_new _ _⟩, fun hx _ => ?_, h7, fun hx => by simp at hx⟩
      obtain ⟨c, rfl, _, hc⟩ := h4 hx
      exact ptr_ne (Nat.ne_of_lt (lt_of_heap hc))
    · obtain rfl := Option.some.inj ho
      simp [Region.binds] at hi2
      clear ho
      obtain ⟨c, rfl, hc0, hc⟩ := h4 (by simp [hi2])
      obtain rfl := h0 (by simp [hi2])
      obtain rfl := h1 (by simp [hi2])
      obtain rfl := h3 (by simp [hi2])
      have c0 := cell_of_one hc
      have f0 := free_of_one hc
      rw [if_pos (by rfl)]
      go_simp
      refine hK _ _ ⟨_, _, _, _, _, _, rfl, hB.setCell (p := ⟨c, 0, none⟩) hc0 _, fun _ => rfl, fun _ => rfl, h2, fun _ => rfl, fun _ => ⟨c, rfl, hc0, one_setCell hc⟩, fun hx => ?_, h6, fun _ => by simp [hi2], h8⟩
      obtain ⟨d, rfl, hd0, hd⟩ := h5 hx
      refine ⟨d, rfl, hd0, ?_⟩
      rw [Below.heap_setCell _ ⟨c, 0, none⟩ _ _ (fun hcd => h6 (by simp [hi2]) hx (by cases hcd; rfl))]
      exact hd
    · obtain rfl := Option.some.inj ho
      simp [Region.binds] at hi2
      clear ho
      obtain ⟨c, rfl, hc0, hc⟩ := h5 (by simp [hi2])
      obtain rfl := h0 (by simp [hi2])
      obtain rfl := h1 (by simp [hi2])
      obtain rfl := h2 (by simp [hi2])
      obtain rfl := h3 (by simp [hi2])
      have c0 := cell_of_one hc
      have f0 := free_of_one hc
      rw [if_pos (by rfl)]
      go_simp
      refine hK _ _ ⟨_, _, _, _, _, _, rfl, hB.setCell (p := ⟨c, 0, none⟩) hc0 _, fun _ => rfl, fun _ => rfl, fun _ => rfl, fun _ => rfl, fun hx => ?_, fun _ => ⟨c, rfl, hc0, one_setCell hc⟩, h6, h7, fun _ => by simp [hi2]⟩
      obtain ⟨d, rfl, hd0, hd⟩ := h4 hx
      refine ⟨d, rfl, hd0, ?_⟩
      rw [Below.heap_setCell _ ⟨c, 0, none⟩ _ _ (fun hcd => h6 hx (by simp [hi2]) (by cases hcd; rfl))]
      exact hd
    · simp at ho
  · intro L a w1 hL hr hI
    obtain ⟨v7, v8, v9, v10, v11, v12, rfl, hB, h0, h1, h2, h3, h4, h5, h6, h7, h8⟩ := hI
    obtain ⟨b0, b1, b2, b3, b4, b5, b6, b7, rfl⟩ : ∃ b0 b1 b2 b3 b4 b5 b6 b7, L = [b0, b1, b2, b3, b4, b5, b6, b7] := by
      match L, hL with
      | [b0, b1, b2, b3, b4, b5, b6, b7], _ => exact ⟨b0, b1, b2, b3, b4, b5, b6, b7, rfl⟩
    have hr2 := List.filter_eq_nil_iff.1 hr
    clear hr hL
    have k0 := hr2 0 (by simp)
    have k1 := hr2 1 (by simp)
    have k2 := hr2 2 (by simp)
    have k3 := hr2 3 (by simp)
    have k4 := hr2 4 (by simp)
    have k5 := hr2 5 (by simp)
    have k6 := hr2 6 (by simp)
    have k7 := hr2 7 (by simp)
    clear hr2
    simp [Region.binds] at k0 k2 k4 k5
    subst k0 k2 k4 k5
    simp [Region.binds] at k1
    subst k1
    simp [Region.binds] at k3
    subst k3
    simp [Region.binds] at k6
    subst k6
    simp [Region.binds] at k7
    subst k7
    obtain rfl := h0 rfl
    obtain rfl := h1 rfl
    obtain rfl := h2 rfl
    obtain rfl := h3 rfl
    obtain ⟨c, rfl, hc0, hc⟩ := h4 rfl
    obtain ⟨d, rfl, hd0, hd⟩ := h5 rfl
    have HX := Lib.hid (HT.out w1 c q d (bchain HB0.out hB) hc ((hB.block q (lt_of_heap HE.out)).trans HE.out) hd)
    have HBW := Lib.hid (bchain HB0.out hB)
    clear h0 h1 h2 h3 h4 h5 h6 h7 h8 hB hc hd hc0 hd0
    go_wp2_with fail
    refine HX.out.mono ?_
    rintro e w2 ⟨z, rfl, ho, hb⟩
    have HB2 : Hid (Below w.heap.size w w2) := Lib.hid (bchain HBW.out hb)
    have HO : Hid (Own w2 w.heap.size z WT) := Lib.hid (own_lowS ho HBW.out.size)
    clear ho hb
    go_wp2
    go_ret
    exact ⟨z, rfl, HO.out, HB2.out⟩
end Go.Proofs.YtbkanebkobjnnaaGreatDoor
namespace Go.Proofs.YtbkanebkobjnnaaGreatDoor
open Go.RowKit
open Sto (T St)
open Tri (Tr)

def coverS (S : St) (f e : T) : List T := wantedT (fun p => Tri.inL p f e) (treeS S)
def trailS (S : St) (k : T) : List T := wantedT (fun p => Tri.begins p (Nib.ofL k)) (treeS S)
theorem wanted_sub {P Q : T → Bool} (t : Tr) (h : ∀ x, P x = true → Q x = true) : (wantedT P t).Sublist (wantedT Q t) := (Tri.filter_sub _ _ _ fun x hx => h x.1 hx).map _
theorem wantedT_few (P : T → Bool) (t : Tr) : (wantedT P t).length ≤ (wantedT (fun _ => true) t).length := (wanted_sub t fun _ _ => rfl).length_le
theorem scover_any {g : Nat} {S : St} (f e : T) (w : World) (h : TrAt w g S) (hl : f.length ≤ 1000) (hl2 : e.length ≤ 1000) :
    Calls Tryz.prog 15 #[ptr g, .string ⟨f.toArray⟩, .string ⟨e.toArray⟩] w (TextsPost w (coverS S f e)) := by
  obtain ⟨top, t, h1, h2, h3⟩ := h
  unfold coverS
  rw [treeS_of h3]
  exact cover_any f e w hl hl2 h1 (h3.sealed h2)
theorem strail_any {g : Nat} {S : St} (k : T) (w : World) (h : TrAt w g S) (hl : k.length ≤ 1000) :
    Calls Tryz.prog 13 #[ptr g, .string ⟨k.toArray⟩] w (TextsPost w (trailS S k)) := by
  obtain ⟨top, t, h1, h2, h3⟩ := h
  unfold trailS
  rw [treeS_of h3]
  exact trail_any k w hl h1 (h3.sealed h2)
end Go.Proofs.YtbkanebkobjnnaaGreatDoor
namespace Go.Proofs.YtbkanebkobjnnaaGreatDoor
open Go.RowKit
open Go.Proofs.YtbkanebkobjnnaaGreatDoor.Nd (N)

def Tri.pickOf (q : List UInt8 → Bool) (L : List (List UInt8 × N)) : List (List UInt8) := Tri.textsOf (L.filter fun p => q p.1)
theorem Tri.pickOf_take (q : List UInt8 → Bool) {L : List (List UInt8 × N)} {k : Nat} (h : k < L.length) : Tri.pickOf q (L.take (k + 1)) = if q L[k].1 then Tri.pickOf q (L.take k) ++ [Nd.written L[k].2] else Tri.pickOf q (L.take k) := by
  rw [List.take_succ_eq_append_getElem h, Tri.pickOf, List.filter_append, List.filter_cons]
  by_cases hq : q L[k].1 = true
  · rw [if_pos hq, if_pos hq, Tri.textsOf, List.map_append]; rfl
  · rw [if_neg hq, if_neg hq]; simp [Tri.pickOf]
theorem Tri.pickOf_len (q : List UInt8 → Bool) (L : List (List UInt8 × N)) : (Tri.pickOf q L).length ≤ L.length := by
  rw [Tri.pickOf, Tri.textsOf, List.length_map]; exact List.length_filter_le _ _
set_option maxRecDepth 8000 in
set_option maxHeartbeats 2000000 in
theorem rtCover_any (dg : N → List UInt8) (L : List (List UInt8 × N)) (v : Value) (f e : List UInt8) (w : World) (hv : SpAt dg w v L) (hl : L.length ≤ 10000) (h16 : ∀ p ∈ L, p.2.kids.length = 16) (hf : f.length ≤ 1000000) (he : e.length ≤ 1000000) :
    Calls Tryz.prog 16 #[v, .string ⟨f.toArray⟩, .string ⟨e.toArray⟩] w fun x w' => ∃ s, x = .returned s ∧ Own w' w.heap.size s (Tri.pickOf (fun p => Tri.inL p f e) L) ∧ Below w.heap.size w w' := by
  have HV := Lib.hid hv
  have HL := Lib.hid hl
  have H16 := Lib.hid h16
  have HIN := Lib.hid (fun p w => rtIn_any p f e w hf he)
  have HB0 := Lib.hid (Below.refl w.heap.size w)
  have HN0 := Lib.hid (Own.nil w w.heap.size)
  obtain ⟨i0, hi, hz0, hz1, hz2⟩ := info_parts Tryz.infoStrT
  obtain ⟨A, cap, rfl, -, -⟩ := hv.form
  obtain ⟨Q, hQ⟩ : ∃ Q : List UInt8 → Bool, (fun p => Tri.inL p f e) = Q := ⟨_, rfl⟩
  have HIQ : Hid (∀ p w, Calls Tryz.prog 42 #[.string ⟨p.toArray⟩, .string ⟨f.toArray⟩, .string ⟨e.toArray⟩] w fun x w' => x = .returned (.bool (Q p)) ∧ Below w.heap.size w w') := Lib.hid (fun p w => by rw [← hQ]; exact HIN.out p w)
  rw [hQ]
  clear hv h16 hf he HIN hQ
  go_enter Tryz.func16, Tryz.ntmps16
  go_wp2
  go_loopw [7, 8] (fun av iv wr => ∃ (k : Nat) (u : Value), u = av ∧ k ≤ L.length ∧ iv = .int .i64 k ∧ Own wr w.heap.size u (Tri.pickOf Q (L.take k)) ∧ Below w.heap.size w wr) (fun _ i _ => L.length - (intOf i).toNat)
  case atStart => exact ⟨0, _, rfl, Nat.zero_le _, rfl, HN0.out, HB0.out⟩
  case round =>
    obtain ⟨k, u, rfl, hk, rfl, hu, hb⟩ := hrel
    have HB := Lib.hid hb
    have HU := Lib.hid hu
    by_cases hlt : k < L.length
    · have h1 : (k : Int) < (L.length : Int) := by omega
      have h0 : (0 : Int) ≤ (k : Int) := by omega
      have hnb : (k : Int) ≤ 100000 := by omega
      have HVW := Lib.hid (RowsAt.below HV.out hb)
      have HAT := Lib.hid (fun wi (h : Below wr.heap.size wr wi) => SpAt.at (RowsAt.below HVW.out h) k hlt (H16.out _ (List.getElem_mem hlt)))
      obtain ⟨b, o, rfl, n0, n1, n2⟩ := HAT.out wr (Below.refl _ _)
      have HTK := Lib.hid (Tri.pickOf_take Q hlt)
      have hpl := Tri.pickOf_len Q (L.take k)
      obtain ⟨y, hy⟩ : ∃ y, Nd.written L[k].2 = y := ⟨_, rfl⟩
      obtain ⟨x, hx⟩ : ∃ x, L[k].1 = x := ⟨_, rfl⟩
      rw [hy, hx] at HTK HAT
      rw [hx] at n0
      obtain ⟨O, hO⟩ : ∃ O, Tri.pickOf Q (L.take k) = O := ⟨_, rfl⟩
      rw [hO] at HTK HU hpl
      have HTL : Hid (O.length ≤ 10000) := Lib.hid (by have := HL.out; simp at hpl; omega)
      clear hu hb hy hx hO hpl n1 n2
      go_wp2_with fail
      refine (HIQ.out x _).mono ?_
      rintro a wi ⟨rfl, hbi⟩
      obtain ⟨q, hq⟩ : ∃ q, Q x = q := ⟨_, rfl⟩
      rw [hq] at HTK ⊢
      obtain ⟨b', o', hbo, m0, m1, m2⟩ := HAT.out wi hbi
      cases hbo
      have HUI := Lib.hid (HU.out.below hbi)
      have HBI := Lib.hid (HB.out.trans (hbi.mono HB.out.size))
      have HSZI := Lib.hid HBI.out.size
      cases q with
      | true =>
        simp only [if_true] at HTK
        have HSTP := Lib.hid (fun w2 v' => own_step (w2 := w2) (v' := v') (y := y) (o := .cells #[.string ⟨y.toArray⟩] 9) HBI.out HUI.out)
        clear hbi n0 m0 m2 hq
        go_wp2_with (at_builtin; refine wpList_append_lies _ rfl _ _ _ rfl w.heap.size 9 i0 (.string ⟨#[]⟩) 1 16 Tryz.underlying36 hi hz0 hz1 hz2 rfl (by decide) u O.length (scells O) (by rfl) (World.ownsRow.alloc HUI.out _) ⟨wi.heap.size, 0, none⟩ 1 1 (scells [y]) (by rfl) rfl (World.news_of_block (heap_new_at _ _ _ (by simp))) (by simp [scells, Value.oneCell']) (by decide) (by have := HTL.out; unfold maxLen; omega) (by have := HTL.out; omega) (by have := HSZI.out; simp; omega) (wi.heap.size + 1) (by simp) ?_; intro g' cap' w5 hown5 hgrow5 hat5 hlt5)
        have HS5 := Lib.hid (HSTP.out w5 _ hgrow5 hown5)
        clear hown5 hgrow5 hat5 hlt5
        refine ⟨⟨k + 1, _, rfl, by omega, by go_num, by rw [HTK.out]; exact HS5.out.1, HS5.out.2⟩, by simp [intOf]; omega⟩
      | false =>
        simp only [Bool.false_eq_true, if_false] at HTK
        clear hbi n0 m0 m1 m2 hq
        go_wp2
        refine ⟨⟨k + 1, _, rfl, by omega, by go_num, by rw [HTK.out]; exact HUI.out, HBI.out⟩, by simp [intOf]; omega⟩
    · obtain rfl : k = L.length := by omega
      have h1 : ¬ ((L.length : Int) < (L.length : Int)) := by omega
      have HEND := Lib.hid hu
      clear hu hb
      go_wp2
      go_ret
      refine ⟨_, rfl, ?_, HB.out⟩
      have := HEND.out
      rwa [List.take_length] at this
end Go.Proofs.YtbkanebkobjnnaaGreatDoor
namespace Go.Proofs.YtbkanebkobjnnaaGreatDoor
open Go.RowKit
open Go.Proofs.YtbkanebkobjnnaaGreatDoor.Nd (N)

theorem begins_sub (x M : List UInt8) : (((⟨M.toArray⟩ : ByteArray).extract 0 x.length).toList == x) = Tri.begins x M := by
  rw [Lib.extract_eq, Tri.begins, Bool.eq_iff_iff]; simp
theorem begins_long {x M : List UInt8} (h : ¬ x.length ≤ M.length) : Tri.begins x M = false := by
  rw [Tri.begins, decide_eq_false_iff_not]
  intro e
  have := congrArg List.length e
  simp at this; omega
set_option maxRecDepth 8000 in
set_option maxHeartbeats 2000000 in
theorem rtTrail_any (dg : N → List UInt8) (L : List (List UInt8 × N)) (v : Value) (f : List UInt8) (w : World) (hv : SpAt dg w v L) (hl : L.length ≤ 10000) (h16 : ∀ p ∈ L, p.2.kids.length = 16 ∧ p.1.length ≤ 1000000) (hf : f.length ≤ 1000000) :
    Calls Tryz.prog 14 #[v, .string ⟨f.toArray⟩] w fun x w' => ∃ s, x = .returned s ∧ Own w' w.heap.size s (Tri.pickOf (fun p => Tri.begins p (Nib.ofL f)) L) ∧ Below w.heap.size w w' := by
  have HV := Lib.hid hv
  have HL := Lib.hid hl
  have H16 := Lib.hid h16
  have HOF := Lib.hid (rof_any f w hf)
  have hml := Nib.ofL_length f
  have HB0 := Lib.hid (Below.refl w.heap.size w)
  obtain ⟨i0, hi, hz0, hz1, hz2⟩ := info_parts Tryz.infoStrT
  obtain ⟨A, cap, rfl, -, -⟩ := hv.form
  obtain ⟨M, hM⟩ : ∃ M, Nib.ofL f = M := ⟨_, rfl⟩
  rw [hM] at HOF hml ⊢
  have HML : Hid (M.length ≤ 2000000) := Lib.hid (by omega)
  clear hv h16 hf hM hml
  go_enter Tryz.func14, Tryz.ntmps14
  go_wp2_with fail
  refine HOF.out.mono ?_
  rintro a w0 ⟨rfl, hb0⟩
  have HBW := Lib.hid hb0
  have HN0 := Lib.hid (Own.nil w0 w.heap.size)
  clear hb0
  go_wp2
  go_loopw [6, 7] (fun av iv wr => ∃ (k : Nat) (u : Value), u = av ∧ k ≤ L.length ∧ iv = .int .i64 k ∧ Own wr w.heap.size u (Tri.pickOf (fun p => Tri.begins p M) (L.take k)) ∧ Below w.heap.size w wr) (fun _ i _ => L.length - (intOf i).toNat)
  case atStart => exact ⟨0, _, rfl, Nat.zero_le _, rfl, HN0.out, HBW.out⟩
  case round =>
    obtain ⟨k, u, rfl, hk, rfl, hu, hb⟩ := hrel
    have HB := Lib.hid hb
    have HU := Lib.hid hu
    by_cases hlt : k < L.length
    · have h1 : (k : Int) < (L.length : Int) := by omega
      have h0 : (0 : Int) ≤ (k : Int) := by omega
      have hnb : (k : Int) ≤ 100000 := by omega
      have HVW := Lib.hid (RowsAt.below HV.out hb)
      have h2 := H16.out _ (List.getElem_mem hlt)
      obtain ⟨b, o, rfl, n0, n1, n2⟩ := SpAt.at HVW.out k hlt h2.1
      have HTK := Lib.hid (Tri.pickOf_take (fun p => Tri.begins p M) hlt)
      have hpl := Tri.pickOf_len (fun p => Tri.begins p M) (L.take k)
      have hxl := h2.2
      obtain ⟨y, hy⟩ : ∃ y, Nd.written L[k].2 = y := ⟨_, rfl⟩
      obtain ⟨x, hx⟩ : ∃ x, L[k].1 = x := ⟨_, rfl⟩
      rw [hy, hx] at HTK
      rw [hx] at n0 hxl
      rw [hy] at n1
      obtain ⟨O, hO⟩ : ∃ O, Tri.pickOf (fun p => Tri.begins p M) (L.take k) = O := ⟨_, rfl⟩
      rw [hO] at HTK HU hpl
      have HTL : Hid (O.length ≤ 10000) := Lib.hid (by have := HL.out; simp at hpl; omega)
      have HSZ := Lib.hid HB.out.size
      have hsub := begins_sub x M
      have HLG := Lib.hid (fun h => begins_long (x := x) (M := M) h)
      obtain ⟨q, hq⟩ : ∃ q, Tri.begins x M = q := ⟨_, rfl⟩
      rw [hq] at hsub HLG
      simp only [hq] at HTK
      have HSTP := Lib.hid (fun w2 v' => own_step (w2 := w2) (v' := v') (y := y) (o := .cells #[.string ⟨y.toArray⟩] 9) HB.out HU.out)
      clear hu hb hy hx hO hpl n2 h2 hq
      have hx0 : (0 : Int) ≤ (x.length : Int) := by omega
      by_cases hle : x.length ≤ M.length
      · have g1 : (x.length : Int) ≤ (M.length : Int) := by omega
        cases q with
        | true =>
          simp only [if_true] at HTK
          go_wp2_with (at_builtin; refine wpList_append_lies _ rfl _ _ _ rfl w.heap.size 9 i0 (.string ⟨#[]⟩) 1 16 Tryz.underlying36 hi hz0 hz1 hz2 rfl (by decide) u O.length (scells O) (by rfl) (World.ownsRow.alloc HU.out _) ⟨wr.heap.size, 0, none⟩ 1 1 (scells [y]) (by rfl) rfl (World.news_of_block (heap_new_at _ _ _ (by simp))) (by simp [scells, Value.oneCell']) (by decide) (by have := HTL.out; unfold maxLen; omega) (by have := HTL.out; omega) (by have := HSZ.out; simp; omega) (wr.heap.size + 1) (by simp) ?_; intro g' cap' w5 hown5 hgrow5 hat5 hlt5)
          have HS5 := Lib.hid (HSTP.out w5 _ hgrow5 hown5)
          clear hown5 hgrow5 hat5 hlt5
          refine ⟨⟨k + 1, _, rfl, by omega, by go_num, by rw [HTK.out]; exact HS5.out.1, HS5.out.2⟩, by simp [intOf]; omega⟩
        | false =>
          simp only [Bool.false_eq_true, if_false] at HTK
          clear n1
          go_wp2
          refine ⟨⟨k + 1, _, rfl, by omega, by go_num, by rw [HTK.out]; exact HU.out, HB.out⟩, by simp [intOf]; omega⟩
      · obtain rfl := HLG.out hle
        have g1 : ¬ ((x.length : Int) ≤ (M.length : Int)) := by omega
        simp only [Bool.false_eq_true, if_false] at HTK
        clear n1 hsub
        go_wp2
        refine ⟨⟨k + 1, _, rfl, by omega, by go_num, by rw [HTK.out]; exact HU.out, HB.out⟩, by simp [intOf]; omega⟩
    · obtain rfl : k = L.length := by omega
      have h1 : ¬ ((L.length : Int) < (L.length : Int)) := by omega
      have HEND := Lib.hid hu
      clear hu hb
      go_wp2
      go_ret
      refine ⟨_, rfl, ?_, HB.out⟩
      have := HEND.out
      rwa [List.take_length] at this
end Go.Proofs.YtbkanebkobjnnaaGreatDoor
namespace Go.Proofs.YtbkanebkobjnnaaGreatDoor
open Go.RowKit

def behind : List UInt8 := [98, 101, 104, 105, 110, 100]
/-- A list that is lent: its texts, and a mark behind their end. -/
def Lent (w : World) (B : Nat) (s : Value) (L : List (List UInt8)) : Prop :=
  ∃ g cap, s = .slice (some ⟨g, 0, none⟩) L.length cap ∧ Own w B (.slice (some ⟨g, 0, none⟩) (L.length + 1) cap) (L ++ [behind])
theorem Lent.below {w w' : World} {B : Nat} {s : Value} {L : List (List UInt8)} (h : Lent w B s L) (hb : Below w.heap.size w w') : Lent w' B s L := by
  obtain ⟨g, cap, rfl, h1⟩ := h
  exact ⟨g, cap, rfl, h1.below hb⟩
theorem Lent.strs {w : World} {B : Nat} {s : Value} {L : List (List UInt8)} (h : Lent w B s L) : Strs w s L := by
  obtain ⟨g, cap, rfl, h1⟩ := h
  obtain ⟨A, c, hv, hc⟩ := h1.strs
  obtain ⟨rfl, _⟩ : some (⟨g, 0, none⟩ : Addr) = A ∧ _ := by simpa using hv
  refine ⟨_, cap, rfl, fun i hi => ?_⟩
  obtain ⟨a, ha, hcell⟩ := hc i (by simp; omega)
  exact ⟨a, ha, by rw [hcell, List.getElem_append_left hi]⟩
theorem Lent.cap {w : World} {B : Nat} {A : Option Addr} {n c : Nat} {L : List (List UInt8)} (h : Lent w B (.slice A n c) L) : ∃ g, A = some ⟨g, 0, none⟩ ∧ n = L.length ∧ L.length + 1 ≤ c ∧ c ≤ maxLen ∧ B ≤ g ∧ w.cell? ⟨g, L.length, none⟩ = some (.string ⟨behind.toArray⟩) := by
  obtain ⟨g, cap, hv, h1⟩ := h
  obtain ⟨rfl, rfl, rfl⟩ : A = some ⟨g, 0, none⟩ ∧ n = L.length ∧ c = cap := by simpa using hv
  have h2 := World.ownsRow.cells h1 (g := g) rfl L.length (.string ⟨behind.toArray⟩) (by simp [scells])
  rw [Addr.add_mid, Nat.zero_add] at h2
  rcases h1.2 with ⟨h', _⟩ | ⟨g', cap', cur, hv', hB, hh, hn, hcap, hsz, _⟩
  · simp at h'
  · obtain ⟨rfl, rfl⟩ : g = g' ∧ c = cap' := by simpa using hv'
    exact ⟨g, rfl, rfl, by simpa using hn, hcap, hB, h2⟩

/-- One text of a row of the call's own, set. -/
theorem Own.set {w : World} {B g n cap i : Nat} {L : List (List UInt8)} (h : Own w B (.slice (some ⟨g, 0, none⟩) n cap) L) (_hi : i < L.length) (x : List UInt8) :
    Own (w.setCell ⟨g, i, none⟩ (.string ⟨x.toArray⟩)) B (.slice (some ⟨g, 0, none⟩) n cap) (L.set i x) := by
  have hn : n = L.length := by
    obtain ⟨_, _, hv⟩ := own_form h
    simp at hv
    exact hv.2.1
  subst hn
  have := (World.ownsRow.stored h i (.string ⟨x.toArray⟩)).1
  unfold Own
  rw [List.length_set]
  simpa [scells, List.map_set] using this
set_option maxRecDepth 8000 in
set_option maxHeartbeats 1000000 in
theorem spoilTexts_any (L : List (List UInt8)) (s : Value) (B : Nat) (w : World) (hs : Own w B s L) (hl : L.length ≤ 1000000) :
    Calls Tryz.prog 17 #[s] w fun e w' => e = .returned (.tuple #[]) ∧ Below B w w' := by
  have HS := Lib.hid hs
  obtain ⟨A, cap, rfl⟩ := own_form hs
  clear hs
  go_enter Tryz.func17, Tryz.ntmps17
  go_wp2
  go_loopw [2] (fun i wr => ∃ (k : Nat) (K : List (List UInt8)), k ≤ L.length ∧ i = .int .i64 k ∧ K.length = L.length ∧ Own wr B (.slice A L.length cap) K ∧ Below B w wr) (fun i _ => L.length - (intOf i).toNat)
  case atStart => exact ⟨0, L, Nat.zero_le _, rfl, rfl, HS.out, Below.refl _ _⟩
  case round =>
    obtain ⟨k, K, hk, rfl, hK, hown, hb⟩ := hrel
    by_cases hlt : k < L.length
    · have h1 : (k : Int) < (L.length : Int) := by omega
      have h0 : (0 : Int) ≤ (k : Int) := by omega
      have hf := World.ownsRow.form hown (by omega)
      obtain ⟨g, c, hv, hBg, _⟩ := hf
      obtain ⟨rfl, _⟩ : A = some ⟨g, 0, none⟩ ∧ _ := by simpa using hv
      obtain ⟨a, ha, hcell⟩ := hown.strs_at (Below.refl _ wr) k (by omega)
      obtain rfl : a = ⟨g, 0, none⟩ := by simpa using ha.symm
      rw [Addr.add_mid, Nat.zero_add] at hcell
      have hfz := World.ownsRow.frozenAt (n := K.length) (xs := scells K) (cap := cap) (by rw [hK]; have := hown; unfold Own at this; rw [hK] at this; exact this) k
      have HN := Lib.hid (hown.set (show k < K.length by omega) [97, 110, 111, 116, 104, 101, 114, 32, 111, 110, 101])
      have HB := Lib.hid (hb.setCell (p := ⟨g, k, none⟩) hBg (.string ⟨#[97, 110, 111, 116, 104, 101, 114, 32, 111, 110, 101]⟩))
      have HKL := Lib.hid hK
      obtain ⟨y, hy⟩ : ∃ y, K[k]'(by omega) = y := ⟨_, rfl⟩
      rw [hy] at hcell
      clear hv ha hown hb hy hK
      go_wp2
      exact ⟨⟨k + 1, _, by omega, by go_num, by rw [List.length_set]; exact HKL.out, HN.out, HB.out⟩, by simp [intOf]; omega⟩
    · have h1 : ¬ ((k : Int) < (L.length : Int)) := by omega
      have HB := Lib.hid hb
      clear hown hb
      go_wp2
      go_end0
      exact ⟨rfl, HB.out⟩
end Go.Proofs.YtbkanebkobjnnaaGreatDoor
namespace Go.Proofs.YtbkanebkobjnnaaGreatDoor
open Go.ChangeShapes Go.WideShapes Go.ChangeAt Go.RowKit

theorem gK : Tryz.prog.globalNamed "pharos/sha.constants" = some 0 := by kernel_rfl
theorem tK : (Tryz.prog.globals[0]?).map (·.type) = some 163 := by kernel_rfl
theorem cK : Tryz.prog.cellsOf 163 = 64 := by kernel_rfl
theorem cW : Tryz.prog.cellsOf 122 = 1 := by kernel_rfl
def laidK : List (String × DataW Unit) := [("pharos/sha.constants", Rows.laid_pharos_sha_constants)]
theorem tab_of_laid {W : World} (h : laidMetH Tryz.prog laidK W) : Tab W := by
  rw [MakeChecks.laidMetH_plain _ _ _ (by kernel_rfl)] at h
  obtain ⟨g, t, cs, fuel, p, hg, hty, hvar, hd⟩ := Lib.laidMet.reads h (.head _)
  obtain rfl := Option.some.inj (gK.symm.trans hg)
  obtain rfl := Option.some.inj (tK.symm.trans hty)
  have hd' : DataW.trod (fun _ => ()) Tryz.prog W 0 (fun _ => true) false fuel 163 cs.toList = some (Lib.tabData .u32 Sha.kTab, p) := hd
  have hcs := Lib.cells_of_tab Tryz.underlying163 Tryz.underlying122 cW cK hd'
  intro i hi
  have hk : i < Sha.kTab.length := hi
  rw [World.var?_cell hg hvar i, ← Array.getElem?_toList, hcs]
  simp [hk]
/-- The door's own heap meets the condition. -/
theorem door_met (os : Os) (args : Array Value) : laidMetH Tryz.prog laidK ((World.doorLaid Tryz.prog 400 os).forCall (fun _ _ => 0) ⟨#[], args, []⟩).memory :=
  laidMetH_of_parts3 (fuel := 8) (laidMet_of_run' 8 (by kernel_rfl) (by kernel_rfl)) (by kernel_rfl) (by kernel_rfl)
end Go.Proofs.YtbkanebkobjnnaaGreatDoor
namespace Go.Proofs.YtbkanebkobjnnaaGreatDoor
open Go.RowKit Go.ChangeShapes Go.WideShapes
open Sto (T St)

set_option maxRecDepth 100000 in
theorem cellsItem : Tryz.prog.cellsOf 26 = 2 := by kernel_rfl
theorem okWide_slice_at {P : Program} {W : World} {r : Reach} {b0 : Nat} {t e : TypeId} {v : Value} (ht : P.underlying t = some (.slice e)) (h : Value.okWide P W r b0 t v) : v = .slice none 0 0 ∨ ∃ b o len cap, v = .slice (some ⟨b, o, none⟩) len cap ∧ len ≤ cap := by
  obtain ⟨a, len, cap, rfl⟩ := okWide_slice ht h
  simp only [Value.okWide, ht, Cell.okWide, Cell.ok] at h
  cases a with
  | none =>
    left
    cases len <;> cases cap <;> simp_all
  | some a =>
    right
    obtain ⟨h1, _, h2⟩ := h
    obtain ⟨b, o, sp⟩ := a
    have h3 : sp = none := h2.2.1
    subst h3
    exact ⟨b, o, len, cap, rfl, h1⟩
set_option maxRecDepth 100000 in
theorem item_cells {H : Type} {enc : TypeId × Value → H} {W : World} {fuel : Nat} {cs : List Value} {x : DataW H × List MemPlace} (ht : DataW.trod enc Tryz.prog W 0 (fun _ => true) true fuel 26 cs = some x) :
    ∃ s : T × T, cs = itcl s := by
  obtain ⟨ys, n', _, hy, hcl, hyl, hfs⟩ := DataW.trod_struct Tryz.underlying26 ht
  rw [cellsItem] at hcl
  match cs, hcl, ys, hyl with
  | [v0, v1], _, [y0, y1], _ =>
    have g0 := hfs 0 _ rfl
    have g1 := hfs 1 _ rfl
    simp [cellsS] at g0 g1
    obtain ⟨s0, e0, _, _⟩ := DataW.trod_string Tryz.underlying9 g0
    obtain ⟨s1, e1, _, _⟩ := DataW.trod_string Tryz.underlying9 g1
    obtain rfl : v0 = .string s0 := by simpa using e0
    obtain rfl : v1 = .string s1 := by simpa using e1
    exact ⟨(s0.data.toList, s1.data.toList), by simp [itcl]⟩
set_option maxRecDepth 100000 in
theorem items_open {H : Type} {enc : TypeId × Value → H} {W : World} {r : Reach} {b0 : Nat} {v : Value} {d : DataW H} {p : List MemPlace}
    (hv : Value.okWide Tryz.prog W r b0 22 v) (h : DataW.Trod enc Tryz.prog W 0 (fun _ => true) true 22 v d p)
    (hz : ∀ n ∈ d.weights Tryz.prog 22, n ≤ reachBytes) :
    ∃ L, ItIn W v L ∧ L.length * 32 ≤ reachBytes := by
  obtain ⟨fuel, hf⟩ := h
  rcases okWide_slice_at Tryz.underlying22 hv with rfl | ⟨b, o, len, cap, rfl, hlc⟩
  · exact ⟨[], ⟨none, 0, rfl, Nat.le_refl _, fun _ => Or.inl ⟨rfl, rfl⟩, fun h => absurd h (by simp)⟩, by simp⟩
  rcases Go.Deep.open_slice Tryz.underlying22 hf with ⟨hcs, _⟩ | ⟨x, l, c, m, n, D, Pl, hcs, _, hl, hm, hmm, hx, hel⟩
  · simp [Value.cells] at hcs
  · simp [Value.cells] at hcs
    obtain ⟨rfl, rfl, rfl⟩ := hcs
    simp only [if_true] at hmm
    subst hmm
    rw [cellsItem] at hel hx
    obtain ⟨hd, -⟩ := Prod.mk.inj hx
    have hlen32 : len * 32 ≤ reachBytes := by
      have h1 := hz ((((List.range len).map D).length + ((List.range (m - len)).map fun j => D (len + j)).length) * Tryz.prog.bytesOf 26) (by
        rw [hd]; simp [DataW.weights, Tryz.underlying22])
      rw [show Tryz.prog.bytesOf 26 = 32 from by kernel_rfl] at h1
      simp only [List.length_map, List.length_range] at h1
      omega
    have key : ∀ i, i < len → ∃ q : T × T, W.cell? ⟨b, o + i * 2 + 0, none⟩ = some (.string ⟨q.1.toArray⟩) ∧ W.cell? ⟨b, o + i * 2 + 1, none⟩ = some (.string ⟨q.2.toArray⟩) := fun i hi => by
      obtain ⟨cs', hc, ht⟩ := hel i (by omega)
      obtain ⟨_, _, hat⟩ := World.cells?_some hc
      obtain ⟨q, rfl⟩ := item_cells ht
      have q0 := hat 0 (by omega)
      have q1 := hat 1 (by omega)
      rw [Addr.add_mid, Addr.add_mid] at q0 q1
      exact ⟨q, by simpa [itcl] using q0, by simpa [itcl] using q1⟩
    obtain ⟨f, hf⟩ := Go.Deep.choose_lt (fun i hi => key i hi)
    have hlen : ((List.range len).map f).length = len := by simp
    refine ⟨(List.range len).map f, ⟨some ⟨b, o, none⟩, _, by rw [hlen], by rw [hlen]; exact hlc, fun _ => Or.inr ⟨b, o, rfl⟩, fun h0 => ?_⟩, by rw [hlen]; exact hlen32⟩
    rw [hlen] at h0
    obtain ⟨q0, _⟩ := hf 0 h0
    refine ⟨b, o, rfl, block_lt_of_cell q0, fun i hi j u hu => ?_⟩
    rw [hlen] at hi
    obtain ⟨q0, q1⟩ := hf i hi
    have e : ((List.range len).map f)[i]'(by rw [hlen]; exact hi) = f i := by simp
    rw [e] at hu
    match j, hu with
    | 0, hu => simp [itcl] at hu; subst hu; exact q0
    | 1, hu => simp [itcl] at hu; subst hu; exact q1
    | j + 2, hu => simp [itcl] at hu
end Go.Proofs.YtbkanebkobjnnaaGreatDoor
namespace Go.Proofs.YtbkanebkobjnnaaGreatDoor
open Go.RowKit Go.ChangeShapes Go.WideShapes
open Go.Proofs.YtbkanebkobjnnaaGreatDoor.Nd (N)

theorem strs_of_array {H : Type} {enc : TypeId × Value → H} {P : Program} {w : World} {base : Nat} {spare : Nat → Bool} {held : Bool} {fuel : Nat} {t e : TypeId} {n : Nat} {cs : List Value} {x : DataW H × List MemPlace}
    (ht : P.underlying t = some (.array n e)) (he : P.underlying e = some .string) (hce : P.cellsOf e = 1) (hct : P.cellsOf t = n)
    (h : DataW.trod enc P w base spare held fuel t cs = some x) : ∃ L : List (List UInt8), L.length = n ∧ cs = scells L := by
  obtain ⟨xs, m, _, _, hl, hxl, hel⟩ := DataW.trod_array ht h
  rw [hct] at hl
  have key : ∀ i, i < n → ∃ l : List UInt8, cs[i]? = some (.string ⟨l.toArray⟩) := fun i hi => by
    have h1 := hel i hi
    rw [hce, Nat.mul_one, List.getElem?_eq_getElem (by omega)] at h1
    obtain ⟨s, e1, _, _⟩ := DataW.trod_string he h1
    refine ⟨s.data.toList, ?_⟩
    have h2 := congrArg (·[0]?) e1
    simpa [List.getElem?_take, List.getElem?_drop] using h2
  refine ⟨cs.map (fun v => match v with | .string s => s.data.toList | _ => []), by rw [List.length_map, hl], ?_⟩
  apply List.ext_getElem?
  intro i
  by_cases hi : i < n
  · obtain ⟨l, hz⟩ := key i hi
    simp [scells, hz]
  · rw [List.getElem?_eq_none (by omega), List.getElem?_eq_none (by simp [scells]; omega)]
end Go.Proofs.YtbkanebkobjnnaaGreatDoor
namespace Go.Proofs.YtbkanebkobjnnaaGreatDoor
open Go.RowKit

theorem cellsTwoS1 : Tryz.prog.cellsOf 9 = 1 := by kernel_rfl
theorem cellsTwoS : Tryz.prog.cellsOf 23 = 2 := by kernel_rfl
set_option maxRecDepth 100000 in
/-- A pair of strings. -/
theorem twoS_open {H : Type} {enc : TypeId × Value → H} {W : World} {r : Reach} {b0 : Nat} {v : Value} {d : DataW H} {p : List MemPlace}
    (hv : Value.okWide Tryz.prog W r b0 23 v) (h : DataW.Trod enc Tryz.prog W 0 (fun _ => true) true 23 v d p) : ∃ s : List UInt8 × List UInt8, v = .agg #[.string ⟨s.1.toArray⟩, .string ⟨s.2.toArray⟩] := by
  simp only [Value.okWide, Tryz.underlying23] at hv
  obtain ⟨cs, rfl, _, _⟩ := hv
  obtain ⟨fuel, hf⟩ := h
  obtain ⟨zs, hl, hc⟩ := strs_of_array Tryz.underlying23 Tryz.underlying9 cellsTwoS1 cellsTwoS hf
  match zs, hl with
  | [a, b], _ =>
    refine ⟨(a, b), ?_⟩
    have hc' : cs.toList = [a, b].map (fun s => Value.string ⟨s.toArray⟩) := hc
    rw [← Array.toArray_toList (xs := cs), hc']
    rfl
end Go.Proofs.YtbkanebkobjnnaaGreatDoor
