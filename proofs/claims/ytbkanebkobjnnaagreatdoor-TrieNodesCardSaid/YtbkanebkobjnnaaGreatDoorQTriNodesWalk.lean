/- The law TrieNodes, walked. -/
import Derived.Test.YtbkanebkobjnnaaGreatDoorPk15
import Derived.Test.YtbkanebkobjnnaaGreatDoorPk16
import Derived.Test.YtbkanebkobjnnaaGreatDoorPk03
import Derived.Deep.RegionHeld3
namespace Go.Proofs.YtbkanebkobjnnaaGreatDoor
open Go.RowKit
open Sto (T St)
open Tri (Tr Ok hb)
open Go.Proofs.YtbkanebkobjnnaaGreatDoor.Nd (N)

theorem row_zeroI (w : World) : OwnI (w.alloc (.cells #[] 26)) w.heap.size (.slice (some ⟨w.heap.size, 0, none⟩) 0 0) [] :=
  ⟨rfl, Or.inr ⟨w.heap.size, 0, #[], rfl, Nat.le_refl _, heap_new_at _ _ _ rfl, Nat.le_refl _, Nat.zero_le _, rfl, rfl⟩⟩
theorem append_it_in {w : World} {v s : Value} {S : St} {B n : Nat} {xs : List Value} (hv : ItIn w v S) (hs : w.ownsRow B 26 2 s n xs) (hl : n + S.length ≤ 1000000) (hB : B ≤ w.heap.size) :
    ∃ v' w', (Builtin.append_ #[22, 22] 22 #[s, v]).run Tryz.prog w = .ok v' w' ∧ w'.ownsRow B 26 2 v' (n + S.length) (xs ++ rowsL itcl S) ∧ w.grownBy w' s.ownBlock ∧ (v'.ownBlock = s.ownBlock ∨ v'.ownBlock = some w.heap.size) := by
  obtain ⟨i0, hi, hz0, hz1, hz2⟩ := info_parts Tryz.infoItem
  exact append_rowsIn 22 26 i0 _ 32 Tryz.underlying22 Tryz.sizeOf26 hi hz0 hz1 hz2 rfl (by decide) (by decide) itcl_length itcl_one hv hs hl hB
/-- 'append([]api.Item{}, l...)'. -/
theorem own_items {w : World} {v : Value} {L : St} (hv : ItIn w v L) (hl : L.length ≤ 1000) :
    ∃ v' w', (Builtin.append_ #[22, 22] 22 #[.slice (some ⟨w.heap.size, 0, none⟩) 0 0, v]).run Tryz.prog (w.alloc (.cells #[] 26)) = .ok v' w' ∧ OwnI w' w.heap.size v' L ∧ Below w.heap.size w w' := by
  have hA : Below w.heap.size w (w.alloc (.cells #[] 26)) := (Below.refl _ w).alloc (Nat.le_refl _) _
  obtain ⟨v', w', h1, h2, h3, -⟩ := append_it_in (RowsIn.below hv hA) (row_zeroI w) (by simp; omega) (by simp)
  refine ⟨v', w', h1, by simpa [OwnI, rowsL] using h2, hA.trans ((Out.grown h3 (F := fun j => (some j : Option Nat) = (Value.slice (some ⟨w.heap.size, 0, none⟩) 0 0).ownBlock) (fun j e => e.symm)).below (fun j hj => ?_) (by simp))⟩
  simp [Value.ownBlock] at hj
  omega
theorem texts_nodes {S : St} {t : Tr} (h : TrS S t) : Tri.textsOf (t.spots Nd.sumS []) = nodesS S := by
  unfold nodesS
  rw [treeS_of h, wanted_all]
  rfl
theorem pick_trail {S : St} {t : Tr} (h : TrS S t) (key : T) : Tri.pickOf (fun p => Tri.begins p (Nib.ofL key)) (t.spots Nd.sumS []) = trailS S key := by
  unfold trailS
  rw [treeS_of h]
  rfl
theorem pick_cover {S : St} {t : Tr} (h : TrS S t) (f e : T) : Tri.pickOf (fun p => Tri.inL p f e) (t.spots Nd.sumS []) = coverS S f e := by
  unfold coverS
  rw [treeS_of h]
  rfl
theorem rootS_sum {S : St} {t : Tr} (h : TrS S t) : rootS S = t.sum Nd.sumS := by
  unfold rootS
  rw [treeS_of h]
theorem spots_kids (dg : N → T) (t : Tr) (p : T) : ∀ x ∈ t.spots dg p, x.2.kids.length = 16 := by
  intro x hx
  have : x.2 ∈ t.nodes dg := by
    rw [← Tri.spots_nodes dg t p]
    exact List.mem_map.2 ⟨x, hx, rfl⟩
  clear hx
  induction t with
  | nil => cases this
  | leaf q v => rw [List.mem_singleton.1 this]; exact Tri.node_kids ..
  | ext q t ih =>
    rcases List.mem_cons.1 this with e | e
    · rw [e]; exact Tri.node_kids ..
    · exact ih e
  | br v k ih =>
    rcases List.mem_cons.1 this with e | e
    · rw [e]; exact Tri.node_kids ..
    · obtain ⟨i, _, hi⟩ := List.mem_flatMap.1 e
      exact ih i hi
theorem some_item {t : Tr} (hc : t.canon) (hn : ¬ t.isNil) : ∃ y, y ∈ t.items := by
  cases h : t.items with
  | nil => exact absurd ((Tri.items_nil hc).1 h) hn
  | cons a l => exact ⟨a, List.mem_cons_self ..⟩
theorem spots_reach (dg : N → T) {t : Tr} (hc : t.canon) (p : T) (B : Nat) (h : ∀ y ∈ t.items, y.1.length ≤ B) : ∀ x ∈ t.spots dg p, x.1.length ≤ p.length + B := by
  induction t generalizing p B with
  | nil => intro x hx; cases hx
  | leaf q v =>
    intro x hx
    rw [List.mem_singleton.1 hx]; exact Nat.le_add_right ..
  | ext q t ih =>
    intro x hx
    rcases List.mem_cons.1 hx with e | e
    · rw [e]; exact Nat.le_add_right ..
    · have hn : ¬ t.isNil := by have := hc.2.1; cases t <;> simp_all [Tr.isBr, Tr.isNil]
      obtain ⟨y, hy⟩ := some_item hc.2.2 hn
      have h1 := h (q ++ y.1, y.2) (Tri.mem_behind.2 ⟨y.1, hy, rfl⟩)
      have h2 := ih hc.2.2 (p ++ q) (B - q.length) (fun z hz => by
        have := h (q ++ z.1, z.2) (Tri.mem_behind.2 ⟨z.1, hz, rfl⟩)
        simp at this; omega) x e
      simp at h1 h2; omega
  | br v k ih =>
    intro x hx
    rcases List.mem_cons.1 hx with e | e
    · rw [e]; exact Nat.le_add_right ..
    · obtain ⟨i, _, hi⟩ := List.mem_flatMap.1 e
      by_cases hn : (k i).isNil
      · rw [(Tri.nil_spots dg _ hn).1] at hi; cases hi
      · obtain ⟨y, hy⟩ := some_item (hc.1 i) hn
        have h1 := h (hb i :: y.1, y.2) (Tri.kid_item i hy)
        have h2 := ih i (hc.1 i) (p ++ [hb i]) (B - 1) (fun z hz => by
          have := h (hb i :: z.1, z.2) (Tri.kid_item i hz)
          simp at this; omega) x hi
        simp at h1 h2; omega
set_option maxRecDepth 100000 in
set_option maxHeartbeats 8000000 in
theorem trieNodes_walk (v : Value) (L : St) (key : T) (p : T × T) (w : World) (hv : ItIn w v L) (hT : Tab w) :
    Calls Tryz.prog 3 #[v, .string ⟨key.toArray⟩, .agg #[.string ⟨p.1.toArray⟩, .string ⟨p.2.toArray⟩]] w fun e w' => e = .returned (.bool true) ∧ Below w.heap.size w w' := by
  obtain ⟨f, en⟩ := p
  show Calls _ _ #[v, .string ⟨key.toArray⟩, .agg #[.string ⟨f.toArray⟩, .string ⟨en.toArray⟩]] w _
  obtain ⟨w0, hw0⟩ : ∃ w0, w.alloc (.cells #[.string ⟨f.toArray⟩, .string ⟨en.toArray⟩] 23) = w0 := ⟨_, rfl⟩
  have hb0 : Below w.heap.size w w0 := by rw [← hw0]; exact (Below.refl _ w).alloc (Nat.le_refl _) _
  have ra : w0.heap[w.heap.size]? = some (.cells #[.string ⟨f.toArray⟩, .string ⟨en.toArray⟩] 23 (0, 0)) := by rw [← hw0]; exact heap_alloc_new w _
  have HC : Hid (∀ w', Below w0.heap.size w0 w' → w'.cell? ⟨w.heap.size, 0, none⟩ = some (.string ⟨f.toArray⟩) ∧ w'.cell? ⟨w.heap.size, 1, none⟩ = some (.string ⟨en.toArray⟩)) := Lib.hid (fun w' hb => by
    have xa := (hb.block _ (lt_of_heap ra)).trans ra
    refine ⟨?_, ?_⟩
    · rw [cell_of_row _ _ 0 _ _ _ xa]; rfl
    · rw [cell_of_row _ _ 1 _ _ _ xa]; rfl)
  have HV0 := Lib.hid (RowsIn.below hv hb0)
  have HT0 := Lib.hid (hT.below hb0)
  have HB0 := Lib.hid hb0
  have HWK := Lib.hid (fun w' (hb : Below w0.heap.size w0 w') => tworks_any w' (HT0.out.below hb))
  obtain ⟨A, cap, rfl, -, -⟩ := hv.form
  clear ra hb0 hT hv
  obtain ⟨a1, a2⟩ := HC.out _ (Below.refl _ _)
  by_cases hk100 : 20 < L.length
  · have q1L : (L.length : Int) > 20 := by omega
    have q2L : decide ((20 : Int) < (L.length : Int)) = true := decide_eq_true (by omega)
    have q3L : decide (20 < L.length) = true := decide_eq_true hk100
    go_enter Tryz.func3, Tryz.ntmps3
    go_wp2_with fail
    refine (HWK.out _ (Below.refl _ _)).mono ?_
    rintro e w1 ⟨rfl, hb1⟩
    go_wp2
    go_ret
    exact ⟨rfl, bchain HB0.out hb1⟩
  have q1L : ¬ ((L.length : Int) > 20) := by omega
  have q2L : decide ((20 : Int) < (L.length : Int)) = false := decide_eq_false (by omega)
  have q3L : decide (20 < L.length) = false := decide_eq_false hk100
  have HLL : Hid (L.length ≤ 20) := Lib.hid (by omega)
  clear hk100
  by_cases hk100 : 100 < key.length
  · have q1key : (key.length : Int) > 100 := by omega
    have q2key : decide ((100 : Int) < (key.length : Int)) = true := decide_eq_true (by omega)
    have q3key : decide (100 < key.length) = true := decide_eq_true hk100
    go_enter Tryz.func3, Tryz.ntmps3
    go_wp2_with fail
    refine (HWK.out _ (Below.refl _ _)).mono ?_
    rintro e w1 ⟨rfl, hb1⟩
    go_wp2
    go_ret
    exact ⟨rfl, bchain HB0.out hb1⟩
  have q1key : ¬ ((key.length : Int) > 100) := by omega
  have q2key : decide ((100 : Int) < (key.length : Int)) = false := decide_eq_false (by omega)
  have q3key : decide (100 < key.length) = false := decide_eq_false hk100
  have HKL : Hid (key.length ≤ 100) := Lib.hid (by omega)
  clear hk100
  by_cases hk100 : 100 < f.length
  · have q1f : (f.length : Int) > 100 := by omega
    have q2f : decide ((100 : Int) < (f.length : Int)) = true := decide_eq_true (by omega)
    have q3f : decide (100 < f.length) = true := decide_eq_true hk100
    go_enter Tryz.func3, Tryz.ntmps3
    go_wp2_with fail
    refine (HWK.out _ (Below.refl _ _)).mono ?_
    rintro e w1 ⟨rfl, hb1⟩
    go_wp2
    go_ret
    exact ⟨rfl, bchain HB0.out hb1⟩
  have q1f : ¬ ((f.length : Int) > 100) := by omega
  have q2f : decide ((100 : Int) < (f.length : Int)) = false := decide_eq_false (by omega)
  have q3f : decide (100 < f.length) = false := decide_eq_false hk100
  have HFL : Hid (f.length ≤ 100) := Lib.hid (by omega)
  clear hk100
  by_cases hk100 : 100 < en.length
  · have q1en : (en.length : Int) > 100 := by omega
    have q2en : decide ((100 : Int) < (en.length : Int)) = true := decide_eq_true (by omega)
    have q3en : decide (100 < en.length) = true := decide_eq_true hk100
    go_enter Tryz.func3, Tryz.ntmps3
    go_wp2_with fail
    refine (HWK.out _ (Below.refl _ _)).mono ?_
    rintro e w1 ⟨rfl, hb1⟩
    go_wp2
    go_ret
    exact ⟨rfl, bchain HB0.out hb1⟩
  have q1en : ¬ ((en.length : Int) > 100) := by omega
  have q2en : decide ((100 : Int) < (en.length : Int)) = false := decide_eq_false (by omega)
  have q3en : decide (100 < en.length) = false := decide_eq_false hk100
  have HEL : Hid (en.length ≤ 100) := Lib.hid (by omega)
  clear hk100
  go_enter Tryz.func3, Tryz.ntmps3
  go_wp2
  clear hw0 a1 a2 q1L q2L q3L q1key q2key q3key q1f q2f q3f q1en q2en q3en
  go_loopw [7] (fun iv wr => ∃ k : Nat, k ≤ L.length ∧ iv = .int .i64 k ∧ Below w0.heap.size w0 wr ∧ ∀ x ∈ L.take k, x.1.length ≤ 100 ∧ x.2.length ≤ 100) (fun i _ => L.length - (intOf i).toNat)
  case atStart => exact ⟨0, Nat.zero_le _, rfl, Below.refl _ _, by simp⟩
  case round =>
    obtain ⟨k, hk, rfl, hb0, hxs⟩ := hrel
    have HB := Lib.hid hb0
    have HXS := Lib.hid hxs
    have hk20 : k ≤ 20 := by have := HLL.out; omega
    by_cases hlt : k < L.length
    · have h1 : (k : Int) < (L.length : Int) := by omega
      have h0 : (0 : Int) ≤ (k : Int) := by omega
      have hnb : (k : Int) ≤ 100000 := by omega
      obtain ⟨b, o, rfl, n0, n1⟩ := ItIn.at (RowsIn.below HV0.out hb0) k hlt
      have HTK : Hid (L.take (k + 1) = L.take k ++ [L[k]]) := Lib.hid (List.take_succ_eq_append_getElem hlt)
      obtain ⟨⟨x, y⟩, hxy⟩ : ∃ m, L[k] = m := ⟨_, rfl⟩
      rw [hxy] at n0 n1 HTK
      dsimp only at n0 n1
      clear hxy hb0 hxs
      by_cases hx : 100 < x.length
      · have r1 : (x.length : Int) > 100 := by omega
        have r2 : decide ((100 : Int) < (x.length : Int)) = true := decide_eq_true (by omega)
        have r3 : decide (100 < x.length) = true := decide_eq_true hx
        go_wp2_with fail
        refine (HWK.out _ HB.out).mono ?_
        rintro e w1 ⟨rfl, hb1⟩
        go_wp2
        go_ret
        exact ⟨rfl, bchain HB0.out (bchain HB.out hb1)⟩
      have r1 : ¬ ((x.length : Int) > 100) := by omega
      have r2 : decide ((100 : Int) < (x.length : Int)) = false := decide_eq_false (by omega)
      have r3 : decide (100 < x.length) = false := decide_eq_false hx
      by_cases hy : 100 < y.length
      · have s1 : (y.length : Int) > 100 := by omega
        have s2 : decide ((100 : Int) < (y.length : Int)) = true := decide_eq_true (by omega)
        have s3 : decide (100 < y.length) = true := decide_eq_true hy
        go_wp2_with fail
        refine (HWK.out _ HB.out).mono ?_
        rintro e w1 ⟨rfl, hb1⟩
        go_wp2
        go_ret
        exact ⟨rfl, bchain HB0.out (bchain HB.out hb1)⟩
      have s1 : ¬ ((y.length : Int) > 100) := by omega
      have s2 : decide ((100 : Int) < (y.length : Int)) = false := decide_eq_false (by omega)
      have s3 : decide (100 < y.length) = false := decide_eq_false hy
      have HXY : Hid (x.length ≤ 100 ∧ y.length ≤ 100) := Lib.hid ⟨by omega, by omega⟩
      clear hx hy
      go_wp2
      exact ⟨⟨k + 1, by omega, by go_num, HB.out, by
        rw [HTK.out]
        intro z hz
        rcases List.mem_append.1 hz with hz | hz
        · exact HXS.out z hz
        · rw [List.mem_singleton.1 hz]; exact HXY.out⟩, by simp [intOf]; omega⟩
    · obtain rfl : k = L.length := by omega
      have h1 : ¬ ((L.length : Int) < (L.length : Int)) := by omega
      have HXL : Hid (∀ x ∈ L, x.1.length ≤ 1000000 ∧ x.2.length ≤ 1000000) := Lib.hid (fun x hx => by
        have := HXS.out x (by rw [List.take_length]; exact hx)
        omega)
      have hvr := RowsIn.below HV0.out hb0
      obtain ⟨v1, w1, r1, o1, b1⟩ := own_items hvr (by have := HLL.out; omega)
      have HR1 := Lib.hid r1
      have HO1 := Lib.hid o1
      have HB1 : Hid (Below w0.heap.size w0 w1) := Lib.hid (bchain HB.out b1)
      clear hb0 hxs HXS hk20 hvr r1 o1 b1
      go_wp2_with (at_builtin; refine wpList_append_run rfl _ _ _ rfl (.slice (some ⟨wr.heap.size, 0, none⟩) 0 0) (.slice A L.length cap) _ (by rfl) (by rfl) HR1.out ?_)
      refine (tof_any L v1 w1 HO1.out.at_ (by have := HLL.out; omega) (HT0.out.below HB1.out)).mono ?_
      rintro e w2 ⟨z2, rfl, hz1, hz0, hb2⟩
      have HB2 := Lib.hid (bchain HB1.out hb2)
      have HO2 := Lib.hid (HO1.out.below hb2)
      have HTG : Hid ((Tri.ofR [] L).2 = 0 → ∃ g', z2 = ptr g' ∧ TrAt w2 g' (Tri.ofR [] L).1) := Lib.hid hz1
      have HTN : Hid ((Tri.ofR [] L).2 ≠ 0 → z2 = nilp) := Lib.hid hz0
      clear hz1 hz0 hb2
      go_wp2_with fail
      refine (rtOf_in L _ w2 (RowsIn.below HV0.out HB2.out) (by have := HLL.out; omega) HXL.out).mono ?_
      rintro e w3 ⟨v3, rfl, it3, hb3⟩
      have HB3 := Lib.hid (bchain HB2.out hb3)
      have HO3 := Lib.hid (HO2.out.below hb3)
      have HIT := Lib.hid (fun w' (h : Below w3.heap.size w3 w') => RowsAt.below it3 h)
      have HTG3 : Hid ((Tri.ofR [] L).2 = 0 → ∃ g', z2 = ptr g' ∧ TrAt w3 g' (Tri.ofR [] L).1) := Lib.hid (fun h => by
        obtain ⟨g', e, t⟩ := HTG.out h
        exact ⟨g', e, t.below hb3⟩)
      clear it3 hb3 HTG HO1 HO2 HR1
      obtain ⟨⟨S, c⟩, hSc⟩ : ∃ X, Tri.ofR [] L = X := ⟨_, rfl⟩
      rw [hSc] at HIT HTG3 HTN ⊢
      dsimp only at HIT HTG3 HTN ⊢
      clear hSc
      have hcc : ((c : Int) == (c : Int)) = true := beq_self_eq_true _
      have hcn : ((c : Int) != (c : Int)) = false := by simp
      by_cases hc : c = 0
      case neg =>
        have e1 : z2 = nilp := HTN.out hc
        subst e1
        have hc1 : ((c : Int) == 0) = false := by rw [beq_eq_false_iff_ne]; omega
        have hc2 : ((c : Int) != 0) = true := by rw [bne_iff_ne]; omega
        have hc3 : ¬ ((c : Int) = 0) := by omega
        unfold nilp
        go_wp2_with fail
        refine (sameI_in L L _ _ w3 HO3.out.at_.inn (RowsIn.below HV0.out HB3.out) (by have := HLL.out; omega) (by have := HLL.out; omega)).mono ?_
        rintro e w4 ⟨rfl, hb4⟩
        have HB4 := Lib.hid (bchain HB3.out hb4)
        have hde : decide (L = L) = true := decide_eq_true rfl
        rw [hde]
        clear hde hb4
        go_wp2_with fail
        refine (HWK.out _ HB4.out).mono ?_
        rintro e w5 ⟨rfl, hb5⟩
        go_wp2
        go_ret
        exact ⟨rfl, bchain HB0.out (bchain HB4.out hb5)⟩
      subst hc
      obtain ⟨g', rfl, htr⟩ := HTG3.out rfl
      have HTR := Lib.hid (fun w' (h : Below w3.heap.size w3 w') => htr.below h)
      obtain ⟨top, t, -, -, hts⟩ := htr
      have HTS := Lib.hid hts
      have HSF := Lib.hid hts.few
      clear hts HTG3 HTN
      unfold ptr
      go_wp2_with fail
      refine (sameI_in L L _ _ w3 HO3.out.at_.inn (RowsIn.below HV0.out HB3.out) (by have := HLL.out; omega) (by have := HLL.out; omega)).mono ?_
      rintro e w4 ⟨rfl, hb4⟩
      have HB4 := Lib.hid (bchain HB3.out hb4)
      have HK4 := Lib.hid hb4
      have hde : decide (L = L) = true := decide_eq_true rfl
      rw [hde]
      clear hde hb4
      go_wp2_with fail
      refine (rspots_any v3 w4 (HIT.out _ HK4.out) HTS.out).mono ?_
      rintro e w5 ⟨s5, rfl, o5, hb5⟩
      have HB5 := Lib.hid (bchain HB4.out hb5)
      have HK5 := Lib.hid (bchain HK4.out hb5)
      have HO5 := Lib.hid (fun w' (h : Below w5.heap.size w5 w') => OwnSp.at_ (o5.below h))
      clear o5 hb5
      go_wp2_with fail
      refine (snodes_any w5 (HTR.out _ HK5.out)).mono ?_
      rintro e w6 ⟨z6, rfl, o6, hb6⟩
      have HB6 := Lib.hid (bchain HB5.out hb6)
      have HK6 := Lib.hid (bchain HK5.out hb6)
      have HX6 := Lib.hid hb6
      have HO6 := Lib.hid o6
      have HNL := Lib.hid (HTR.out _ HK6.out).nodes_len
      clear o6 hb6
      have HSPF : Hid ((t.spots Nd.sumS []).length ≤ 10000) := Lib.hid (by
        have h1 := Tri.spots_few Nd.sumS HTS.out.tree.1 []
        have h2 := HSF.out
        rw [HTS.out.tree.2.2] at h1
        simp [Tri.paths] at h1
        omega)
      have HSK := Lib.hid (spots_kids Nd.sumS t [])
      have HSPL := Lib.hid (spots_reach Nd.sumS HTS.out.tree.1 [] 16 HTS.out.within)
      have HTX : Hid (∀ w', Below w6.heap.size w6 w' → Calls Tryz.prog 12 #[s5] w' fun e w'' => ∃ s, e = .returned s ∧ Strs w'' s (nodesS S) ∧ Below w6.heap.size w6 w'' ∧ Below w'.heap.size w' w'') := Lib.hid (fun w' h =>
        (rtTexts_any Nd.sumS _ s5 w' (HO5.out _ (bchain HX6.out h)) HSPF.out HSK.out).mono fun e w'' ⟨s, q1, q2, q3⟩ => ⟨s, q1, by rw [← texts_nodes HTS.out]; exact q2.strs, bchain h q3, q3⟩)
      have HTL : Hid (∀ w', Below w6.heap.size w6 w' → Calls Tryz.prog 13 #[ptr g', .string ⟨key.toArray⟩] w' fun e w'' => ∃ s, e = .returned s ∧ Strs w'' s (trailS S key) ∧ Below w6.heap.size w6 w'' ∧ Below w'.heap.size w' w'') := Lib.hid (fun w' h =>
        (strail_any key w' (HTR.out _ (bchain HK6.out h)) (by have := HKL.out; omega)).mono fun e w'' ⟨s, q1, q2, q3⟩ => ⟨s, q1, q2.strs, bchain h q3, q3⟩)
      have HRT : Hid (∀ w', Below w6.heap.size w6 w' → Calls Tryz.prog 14 #[s5, .string ⟨key.toArray⟩] w' fun e w'' => ∃ s, e = .returned s ∧ Strs w'' s (trailS S key) ∧ Below w6.heap.size w6 w'' ∧ Below w'.heap.size w' w'') := Lib.hid (fun w' h =>
        (rtTrail_any Nd.sumS _ s5 key w' (HO5.out _ (bchain HX6.out h)) HSPF.out (fun x hx => ⟨HSK.out x hx, by have := HSPL.out x hx; simp at this; omega⟩) (by have := HKL.out; omega)).mono fun e w'' ⟨s, q1, q2, q3⟩ => ⟨s, q1, by rw [← pick_trail HTS.out]; exact q2.strs, bchain h q3, q3⟩)
      have HCV : Hid (∀ w', Below w6.heap.size w6 w' → Calls Tryz.prog 15 #[ptr g', .string ⟨f.toArray⟩, .string ⟨en.toArray⟩] w' fun e w'' => ∃ s, e = .returned s ∧ Strs w'' s (coverS S f en) ∧ Below w6.heap.size w6 w'' ∧ Below w'.heap.size w' w'') := Lib.hid (fun w' h =>
        (scover_any f en w' (HTR.out _ (bchain HK6.out h)) (by have := HFL.out; omega) (by have := HEL.out; omega)).mono fun e w'' ⟨s, q1, q2, q3⟩ => ⟨s, q1, q2.strs, bchain h q3, q3⟩)
      have HRC : Hid (∀ w', Below w6.heap.size w6 w' → Calls Tryz.prog 16 #[s5, .string ⟨f.toArray⟩, .string ⟨en.toArray⟩] w' fun e w'' => ∃ s, e = .returned s ∧ Strs w'' s (coverS S f en) ∧ Below w6.heap.size w6 w'' ∧ Below w'.heap.size w' w'') := Lib.hid (fun w' h =>
        (rtCover_any Nd.sumS _ s5 f en w' (HO5.out _ (bchain HX6.out h)) HSPF.out HSK.out (by have := HFL.out; omega) (by have := HEL.out; omega)).mono fun e w'' ⟨s, q1, q2, q3⟩ => ⟨s, q1, by rw [← pick_cover HTS.out]; exact q2.strs, bchain h q3, q3⟩)
      have HLT : Hid ((trailS S key).length ≤ 100000) := Lib.hid (Nat.le_trans (wantedT_few _ _) HNL.out)
      have HLC : Hid ((coverS S f en).length ≤ 100000) := Lib.hid (Nat.le_trans (wantedT_few _ _) HNL.out)
      have HSAME : Hid (∀ w' a b, Below w6.heap.size w6 w' → ∀ K : List T, Strs w' a K → Strs w' b K → K.length ≤ 100000 → Calls Tryz.prog 11 #[a, b] w' fun e w'' => e = .returned (.bool true) ∧ Below w6.heap.size w6 w'') := Lib.hid (fun w' a b h K ha hb' hK =>
        (same_any K K a b w' ha hb' (by omega) (by unfold maxLen; omega)).mono fun e w'' ⟨q1, q2⟩ => ⟨by rw [q1, decide_eq_true rfl], bchain h q2⟩)
      obtain ⟨NS, hNS⟩ : ∃ NS, nodesS S = NS := ⟨_, rfl⟩
      obtain ⟨TS, hTS⟩ : ∃ TS, trailS S key = TS := ⟨_, rfl⟩
      obtain ⟨CS, hCS⟩ : ∃ CS, coverS S f en = CS := ⟨_, rfl⟩
      rw [hNS] at HTX HO6 HNL
      rw [hTS] at HTL HRT HLT
      rw [hCS] at HCV HRC HLC
      have HCW : Hid (∀ w', Below w6.heap.size w6 w' → w'.cell? ⟨w.heap.size, 0, none⟩ = some (.string ⟨f.toArray⟩) ∧ w'.cell? ⟨w.heap.size, 1, none⟩ = some (.string ⟨en.toArray⟩)) := Lib.hid (fun w' h => HC.out _ (bchain HB6.out h))
      unfold ptr at HTL HCV
      have BD : Below w6.heap.size w6 w6.drew := (Below.refl _ _).drew
      have cD := HCW.out _ BD
      clear hNS hTS hCS HO5 HSPF HSK HSPL
      go_upto_region 17 with fail
      go_cut [125] from 95 to 125 (fun c wx => c = .bool false ∧ Below w6.heap.size w6 wx)
      case first =>
        go_wp2
        go_region_held3 (fun w' => w'.cell? ⟨w.heap.size, 0, none⟩ = some (.string ⟨f.toArray⟩) ∧ w'.cell? ⟨w.heap.size, 1, none⟩ = some (.string ⟨en.toArray⟩))
          ((first | (with_reducible assumption) | (refine HCW.out _ ?_; with_reducible assumption)))
          (first | (go_at_call 12; refine (HTX.out _ ?_).mono ?_; (with_reducible assumption); rintro e wa ⟨sa, rfl, ta, ha, -⟩; have t6 := (HO6.out.below ha).strs) | (go_at_call 13; refine (HTL.out _ ?_).mono ?_; (with_reducible assumption); rintro e wb ⟨sb, rfl, tb, hb1, rb⟩; (try (have tc2 := Strs.below tc rb))) | (go_at_call 14; refine (HRT.out _ ?_).mono ?_; (with_reducible assumption); rintro e wc ⟨sc, rfl, tc, hc1, rc⟩; (try (have tb2 := Strs.below tb rc))) | (go_at_call 15; refine (HCV.out _ ?_).mono ?_; (with_reducible assumption); rintro e wd ⟨sd, rfl, td, hd1, rd⟩; (try (have te2 := Strs.below te rd))) | (go_at_call 16; refine (HRC.out _ ?_).mono ?_; (with_reducible assumption); rintro e we ⟨se, rfl, te, he1, re⟩; (try (have td2 := Strs.below td re))) | (go_at_call 11; (first | (refine (HSAME.out _ _ _ ?_ NS ?_ ?_ HNL.out).mono ?_; (with_reducible assumption); (with_reducible assumption); (with_reducible assumption)) | (refine (HSAME.out _ _ _ ?_ TS ?_ ?_ HLT.out).mono ?_; (with_reducible assumption); (with_reducible assumption); (with_reducible assumption)) | (refine (HSAME.out _ _ _ ?_ CS ?_ ?_ HLC.out).mono ?_; (with_reducible assumption); (with_reducible assumption); (with_reducible assumption))); rintro e wf ⟨rfl, hf1⟩))
        all_goals
          go_wp2_with fail
          go_meet
          case rel => exact ⟨rfl, by with_reducible assumption⟩
      case rest =>
        obtain ⟨rfl, hbx⟩ := hcut
        obtain ⟨wx, rfl⟩ : ∃ y, y = wc := ⟨_, rfl⟩
        have HSPO := Lib.hid (spoilTexts_any NS z6 w5.heap.size wx (HO6.out.below hbx) (by have := HNL.out; omega))
        have HXX := Lib.hid (bchain HX6.out hbx)
        have HRE := Lib.hid (rootS_sum HTS.out)
        clear hbx cD BD HTX HTL HRT HCV HRC HLT HLC HSAME HCW HO6
        go_wp2_with fail
        refine HSPO.out.mono ?_
        rintro e w7 ⟨rfl, hb7⟩
        have HX7 : Hid (Below w5.heap.size w5 w7) := Lib.hid (HXX.out.trans hb7)
        have HK7 : Hid (Below w3.heap.size w3 w7) := Lib.hid (bchain HK5.out HX7.out)
        have HB7 : Hid (Below w0.heap.size w0 w7) := Lib.hid (bchain HB5.out HX7.out)
        clear hb7 HSPO
        go_wp2_with fail
        refine (sroot_any w7 (HTR.out _ HK7.out)).mono ?_
        rintro e w8 ⟨rfl, hb8⟩
        have HK8 := Lib.hid (bchain HK7.out hb8)
        have HB8 := Lib.hid (bchain HB7.out hb8)
        rw [HRE.out]
        clear hb8
        obtain ⟨RR, hRR⟩ : ∃ RR, t.sum Nd.sumS = RR := ⟨_, rfl⟩
        have HRR := Lib.hid hRR
        rw [hRR]
        clear hRR
        have hre : (RR == RR) = true := beq_self_eq_true _
        go_wp2_with fail
        refine (rroot_any v3 w8 (HIT.out _ HK8.out) HTS.out).mono ?_
        rintro e w9 ⟨rfl, hb9⟩
        have HK9 := Lib.hid (bchain HK8.out hb9)
        have HB9 := Lib.hid (bchain HB8.out hb9)
        rw [HRR.out]
        clear hb9
        go_wp2_with fail
        refine (sitems_any w9 (HTR.out _ HK9.out)).mono ?_
        rintro e w10 ⟨z10, rfl, o10, hb10⟩
        have HK10 := Lib.hid (bchain HK9.out hb10)
        have HB10 := Lib.hid (bchain HB9.out hb10)
        have HO10 := Lib.hid o10
        clear o10 hb10
        go_wp2_with fail
        refine (sameI_any S S _ _ w10 HO10.out.at_ (HIT.out _ HK10.out) (by have := HSF.out; omega) (by have := HSF.out; omega)).mono ?_
        rintro e w11 ⟨rfl, hb11⟩
        have HB11 := Lib.hid (bchain HB10.out hb11)
        have hde : decide (S = S) = true := decide_eq_true rfl
        rw [hde]
        clear hde hb11
        go_wp2_with fail
        refine (HWK.out _ HB11.out).mono ?_
        rintro e w12 ⟨rfl, hb12⟩
        go_wp2
        go_ret
        exact ⟨rfl, bchain HB0.out (bchain HB11.out hb12)⟩
theorem trieNodes_law (v : Value) (L : St) (key : ByteArray) (p : T × T) (w : World) (hv : ItIn w v L) (_ : L.length * 32 ≤ reachBytes) (_ : key.size ≤ maxLen) (hT : Tab w) :
    Calls Tryz.prog 3 #[v, .string key, .agg #[.string ⟨p.1.toArray⟩, .string ⟨p.2.toArray⟩]] w fun e w' => e = .returned (.bool true) ∧ Below w.heap.size w w' := by
  obtain ⟨k, rfl⟩ := bytes_list key
  exact trieNodes_walk v L k p w hv hT
end Go.Proofs.YtbkanebkobjnnaaGreatDoor
