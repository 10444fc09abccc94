/- The law TrieRange, walked. -/
import Derived.Test.YtikabacebmbacaaDoorPk10
import Derived.Test.YtikabacebmbacaaDoorPk11
namespace Go.Proofs.YtikabacebmbacaaDoor
open Go.RowKit
open Sto (T St)
open Tri (Tr)

def coverS (S : St) (f e : T) : List T := wantedT (fun p => Tri.inL p f e) (treeS S)
def trailS (S : St) (k : T) : List T := wantedT (fun p => Tri.begins p (Nib.ofL k)) (treeS S)
theorem wanted_sub {P Q : T → Bool} (t : Tr) (h : ∀ x, P x = true → Q x = true) : (wantedT P t).Sublist (wantedT Q t) := (Tri.filter_sub _ _ _ fun x hx => h x.1 hx).map _
theorem wantedT_few (P : T → Bool) (t : Tr) : (wantedT P t).length ≤ (wantedT (fun _ => true) t).length := (wanted_sub t fun _ _ => rfl).length_le
theorem cover_all (S : St) : coverS S [] [] = nodesS S := by
  unfold coverS nodesS
  rw [show (fun p => Tri.inL p [] []) = fun _ => true from funext Tri.in_all]
theorem cover_from (S : St) (f e : T) : Tri.amongL (coverS S f e) (coverS S f []) = true := Tri.among_sub (wanted_sub _ fun _ h => Tri.in_from h)
theorem cover_end (S : St) (f e : T) : Tri.amongL (coverS S f e) (coverS S [] e) = true := Tri.among_sub (wanted_sub _ fun _ h => Tri.in_end h)
theorem cover_nodes (S : St) (f e : T) : Tri.amongL (coverS S f e) (nodesS S) = true := Tri.among_sub (wanted_sub _ fun _ _ => rfl)
theorem trail_cover (S : St) {k f e : T} (hf : f ≤ k) (he : e = [] ∨ k < e) : Tri.amongL (trailS S k) (coverS S f e) = true := Tri.among_sub (wanted_sub _ fun _ h => Tri.in_trail h hf he)
theorem scover_any {g : Nat} {S : St} (f e : T) (w : World) (h : TrAt w g S) (hl : f.length ≤ 1000) (hl2 : e.length ≤ 1000) :
    Calls Tryd.prog 25 #[ptr g, .string ⟨f.toArray⟩, .string ⟨e.toArray⟩] w (TextsPost w (coverS S f e)) := by
  obtain ⟨top, t, h1, h2, h3⟩ := h
  unfold coverS
  rw [treeS_of h3]
  exact cover_any f e w hl hl2 h1 (h3.sealed h2)
theorem strail_any {g : Nat} {S : St} (k : T) (w : World) (h : TrAt w g S) (hl : k.length ≤ 1000) :
    Calls Tryd.prog 27 #[ptr g, .string ⟨k.toArray⟩] w (TextsPost w (trailS S k)) := by
  obtain ⟨top, t, h1, h2, h3⟩ := h
  unfold trailS
  rw [treeS_of h3]
  exact trail_any k w hl h1 (h3.sealed h2)
set_option maxRecDepth 100000 in
set_option maxHeartbeats 8000000 in
theorem trieRange_walk (v : Value) (L : List ActT) (key : T) (p : T × T) (w : World) (hv : TActs w v L) (hT : Tab w) :
    Calls Tryd.prog 7 #[v, .string ⟨key.toArray⟩, .agg #[.string ⟨p.1.toArray⟩, .string ⟨p.2.toArray⟩]] w fun e w' => e = .returned (.bool true) ∧ Below w.heap.size w w' := by
  obtain ⟨f, en⟩ := p
  show Calls _ _ #[v, .string ⟨key.toArray⟩, .agg #[.string ⟨f.toArray⟩, .string ⟨en.toArray⟩]] w _
  obtain ⟨w0, hw0⟩ : ∃ w0, w.alloc (.cells #[.string ⟨f.toArray⟩, .string ⟨en.toArray⟩] 57) = w0 := ⟨_, rfl⟩
  have hb0 : Below w.heap.size w w0 := by rw [← hw0]; exact (Below.refl _ w).alloc (Nat.le_refl _) _
  have ra : w0.heap[w.heap.size]? = some (.cells #[.string ⟨f.toArray⟩, .string ⟨en.toArray⟩] 57 (0, 0)) := by rw [← hw0]; exact heap_alloc_new w _
  have HC : Hid (∀ w', Below w0.heap.size w0 w' → w'.cell? ⟨w.heap.size, 0, none⟩ = some (.string ⟨f.toArray⟩) ∧ w'.cell? ⟨w.heap.size, 1, none⟩ = some (.string ⟨en.toArray⟩)) := Lib.hid (fun w' hb => by
    have xa := (hb.block _ (lt_of_heap ra)).trans ra
    refine ⟨?_, ?_⟩
    · rw [cell_of_row _ _ 0 _ _ _ xa]; rfl
    · rw [cell_of_row _ _ 1 _ _ _ xa]; rfl)
  have HV0 := Lib.hid (hv.below hb0)
  have HT0 := Lib.hid (hT.below hb0)
  have HB0 := Lib.hid hb0
  have HWK := Lib.hid (fun w' (hb : Below w0.heap.size w0 w') => tworks_any w' (HT0.out.below hb))
  have HLO := Lib.hid (fun w' (hb : Below w0.heap.size w0 w') => long_any L 30 v w' (HV0.out.below hb) (by omega))
  have HMD := Lib.hid (fun (hl : L.length ≤ 30) w' (hb : Below w0.heap.size w0 w') => made_any L v w' (HV0.out.below hb) hl (HT0.out.below hb))
  have HNO := Lib.hid (@long_no L 30)
  clear ra hb0 hT hv
  go_enter Tryd.func7, Tryd.ntmps7
  go_wp2_with fail
  clear hw0
  refine (HWK.out _ (Below.refl _ _)).mono ?_
  rintro e w1 ⟨rfl, hb1⟩
  have HB1 := Lib.hid hb1
  clear hb1
  go_wp2_with fail
  refine (HLO.out _ HB1.out).mono ?_
  rintro e w2 ⟨rfl, hb2⟩
  have HB2 := Lib.hid (bchain HB1.out hb2)
  clear hb2
  obtain ⟨a1, a2⟩ := HC.out _ HB2.out
  obtain ⟨lb, hlb⟩ : ∃ lb, longB L 30 = lb := ⟨_, rfl⟩
  rw [hlb]
  cases lb with
  | true =>
    clear hlb
    go_wp2
    go_ret
    exact ⟨rfl, bchain HB0.out HB2.out⟩
  | false =>
  have HLL := Lib.hid (HNO.out hlb)
  clear hlb HNO HLO
  by_cases hk100 : 100 < key.length
  · have q1key : (key.length : Int) > 100 := by omega
    have q2key : decide ((100 : Int) < (key.length : Int)) = true := decide_eq_true (by omega)
    have q3key : decide (100 < key.length) = true := decide_eq_true hk100
    clear hk100
    go_wp2
    go_ret
    exact ⟨rfl, bchain HB0.out HB2.out⟩
  have q1key : ¬ ((key.length : Int) > 100) := by omega
  have q2key : decide ((100 : Int) < (key.length : Int)) = false := decide_eq_false (by omega)
  have q3key : decide (100 < key.length) = false := decide_eq_false hk100
  have HKL : Hid (key.length ≤ 100) := Lib.hid (by omega)
  clear hk100
  by_cases hk100 : 100 < f.length
  · have q1f : (f.length : Int) > 100 := by omega
    have q2f : decide ((100 : Int) < (f.length : Int)) = true := decide_eq_true (by omega)
    have q3f : decide (100 < f.length) = true := decide_eq_true hk100
    clear hk100
    go_wp2
    go_ret
    exact ⟨rfl, bchain HB0.out HB2.out⟩
  have q1f : ¬ ((f.length : Int) > 100) := by omega
  have q2f : decide ((100 : Int) < (f.length : Int)) = false := decide_eq_false (by omega)
  have q3f : decide (100 < f.length) = false := decide_eq_false hk100
  have HFL : Hid (f.length ≤ 100) := Lib.hid (by omega)
  clear hk100
  by_cases hk100 : 100 < en.length
  · have q1en : (en.length : Int) > 100 := by omega
    have q2en : decide ((100 : Int) < (en.length : Int)) = true := decide_eq_true (by omega)
    have q3en : decide (100 < en.length) = true := decide_eq_true hk100
    clear hk100
    go_wp2
    go_ret
    exact ⟨rfl, bchain HB0.out HB2.out⟩
  have q1en : ¬ ((en.length : Int) > 100) := by omega
  have q2en : decide ((100 : Int) < (en.length : Int)) = false := decide_eq_false (by omega)
  have q3en : decide (100 < en.length) = false := decide_eq_false hk100
  have HEL : Hid (en.length ≤ 100) := Lib.hid (by omega)
  clear hk100
  go_wp2_with fail
  refine (HMD.out HLL.out.1 _ HB2.out).mono ?_
  rintro e w3 ⟨g, rfl, t3, hb3⟩
  obtain ⟨S, hS⟩ : ∃ S, madeS L = S := ⟨_, rfl⟩
  rw [hS] at t3
  have HB3 := Lib.hid (bchain HB2.out hb3)
  have HNL := Lib.hid t3.nodes_len
  have HTR := Lib.hid (fun w' (hb : Below w3.heap.size w3 w') => t3.below hb)
  clear t3 hb3 hS a1 a2 q1key q2key q3key q1f q2f q3f q1en q2en q3en
  unfold ptr
  go_wp2_with fail
  refine (scover_any [] [] _ (HTR.out _ (Below.refl _ _)) (by simp) (by simp)).mono ?_
  rintro e w4 ⟨z1, rfl, o1, hb4⟩
  have HB4 := Lib.hid (bchain HB3.out hb4)
  have HK4 := Lib.hid hb4
  have HO1 := Lib.hid o1
  clear o1 hb4
  go_wp2_with fail
  refine (snodes_any _ (HTR.out _ HK4.out)).mono ?_
  rintro e w5 ⟨z2, rfl, o2, hb5⟩
  have HB5 := Lib.hid (bchain HB4.out hb5)
  have HK5 := Lib.hid (bchain HK4.out hb5)
  have HO1' := Lib.hid (HO1.out.below hb5)
  have HO2 := Lib.hid o2
  clear o2 hb5
  go_wp2_with fail
  refine (same_any (coverS S [] []) (nodesS S) _ _ _ HO1'.out.strs HO2.out.strs (by rw [cover_all]; have := HNL.out; omega) (by have := HNL.out; unfold maxLen; omega)).mono ?_
  rintro e w6 ⟨rfl, hb6⟩
  have hde : decide (coverS S [] [] = nodesS S) = true := decide_eq_true (cover_all S)
  rw [hde]
  have HB6 := Lib.hid (bchain HB5.out hb6)
  have HK6 := Lib.hid (bchain HK5.out hb6)
  clear hb6 hde
  obtain ⟨a1, a2⟩ := HC.out _ HB6.out
  go_wp2_with fail
  refine (scover_any f en _ (HTR.out _ HK6.out) (by have := HFL.out; omega) (by have := HEL.out; omega)).mono ?_
  rintro e w7 ⟨z3, rfl, o3, hb7⟩
  have HB7 := Lib.hid (bchain HB6.out hb7)
  have HK7 := Lib.hid (bchain HK6.out hb7)
  have HOC := Lib.hid (fun w' (hb : Below w7.heap.size w7 w') => o3.below hb)
  clear o3 hb7 a1 a2
  obtain ⟨a1, a2⟩ := HC.out _ HB7.out
  by_cases hk : key = []
  · have e1 : (key == []) = true := beq_iff_eq.2 hk
    have e2 : key.isEmpty = true := by rw [hk]; rfl
    clear hk
    have HBP := HB7
    have HKP := HK7
    have HXP : Hid (Below w7.heap.size w7 w7) := Lib.hid (Below.refl _ _)
    clear a1 a2
    obtain ⟨a1, a2⟩ := HC.out _ HBP.out
    go_wp2_with fail
    refine (scover_any f [] _ (HTR.out _ HKP.out) (by have := HFL.out; omega) (by simp)).mono ?_
    rintro e w21 ⟨z21, rfl, o21, hb21⟩
    have HB21 := Lib.hid (bchain HBP.out hb21)
    have HK21 := Lib.hid (bchain HKP.out hb21)
    have HX21 := Lib.hid (bchain HXP.out hb21)
    have HO21 := Lib.hid o21
    clear o21 hb21 a1 a2
    go_wp2_with fail
    refine (among_any (coverS S f en) (coverS S f []) _ _ _ (HOC.out _ HX21.out).strs HO21.out.strs (by have := HNL.out; have := wantedT_few (fun p => Tri.inL p f en) (treeS S); unfold coverS nodesS at *; omega) (by have := HNL.out; have := wantedT_few (fun p => Tri.inL p f []) (treeS S); unfold coverS nodesS at *; omega)).mono ?_
    rintro e w22 ⟨rfl, hb22⟩
    rw [cover_from]
    have HB22 := Lib.hid (bchain HB21.out hb22)
    have HK22 := Lib.hid (bchain HK21.out hb22)
    have HX22 := Lib.hid (bchain HX21.out hb22)
    clear hb22
    obtain ⟨a1, a2⟩ := HC.out _ HB22.out
    go_wp2_with fail
    refine (scover_any [] en _ (HTR.out _ HK22.out) (by simp) (by have := HEL.out; omega)).mono ?_
    rintro e w23 ⟨z23, rfl, o23, hb23⟩
    have HB23 := Lib.hid (bchain HB22.out hb23)
    have HK23 := Lib.hid (bchain HK22.out hb23)
    have HX23 := Lib.hid (bchain HX22.out hb23)
    have HO23 := Lib.hid o23
    clear o23 hb23 a1 a2
    go_wp2_with fail
    refine (among_any (coverS S f en) (coverS S [] en) _ _ _ (HOC.out _ HX23.out).strs HO23.out.strs (by have := HNL.out; have := wantedT_few (fun p => Tri.inL p f en) (treeS S); unfold coverS nodesS at *; omega) (by have := HNL.out; have := wantedT_few (fun p => Tri.inL p [] en) (treeS S); unfold coverS nodesS at *; omega)).mono ?_
    rintro e w24 ⟨rfl, hb24⟩
    rw [cover_end]
    have HB24 := Lib.hid (bchain HB23.out hb24)
    have HK24 := Lib.hid (bchain HK23.out hb24)
    have HX24 := Lib.hid (bchain HX23.out hb24)
    clear hb24
    go_wp2_with fail
    refine (snodes_any _ (HTR.out _ HK24.out)).mono ?_
    rintro e w25 ⟨z25, rfl, o25, hb25⟩
    have HB25 := Lib.hid (bchain HB24.out hb25)
    have HX25 := Lib.hid (bchain HX24.out hb25)
    have HO25 := Lib.hid o25
    clear o25 hb25
    go_wp2_with fail
    refine (among_any (coverS S f en) (nodesS S) _ _ _ (HOC.out _ HX25.out).strs HO25.out.strs (by have := HNL.out; have := wantedT_few (fun p => Tri.inL p f en) (treeS S); unfold coverS nodesS at *; omega) (by have := HNL.out; omega)).mono ?_
    rintro e w26 ⟨rfl, hb26⟩
    rw [cover_nodes]
    go_wp2
    go_ret
    exact ⟨rfl, bchain HB0.out (bchain HB25.out hb26)⟩
  have e1 : (key == []) = false := beq_eq_false_iff_ne.2 hk
  have e2 : key.isEmpty = false := by cases key <;> simp_all
  by_cases hf : key < f
  · have e3 : Op.bytesLess key f = true := by rw [less_lt]; simpa using hf
    clear hf
    have HBP := HB7
    have HKP := HK7
    have HXP : Hid (Below w7.heap.size w7 w7) := Lib.hid (Below.refl _ _)
    clear a1 a2
    obtain ⟨a1, a2⟩ := HC.out _ HBP.out
    go_wp2_with fail
    refine (scover_any f [] _ (HTR.out _ HKP.out) (by have := HFL.out; omega) (by simp)).mono ?_
    rintro e w21 ⟨z21, rfl, o21, hb21⟩
    have HB21 := Lib.hid (bchain HBP.out hb21)
    have HK21 := Lib.hid (bchain HKP.out hb21)
    have HX21 := Lib.hid (bchain HXP.out hb21)
    have HO21 := Lib.hid o21
    clear o21 hb21 a1 a2
    go_wp2_with fail
    refine (among_any (coverS S f en) (coverS S f []) _ _ _ (HOC.out _ HX21.out).strs HO21.out.strs (by have := HNL.out; have := wantedT_few (fun p => Tri.inL p f en) (treeS S); unfold coverS nodesS at *; omega) (by have := HNL.out; have := wantedT_few (fun p => Tri.inL p f []) (treeS S); unfold coverS nodesS at *; omega)).mono ?_
    rintro e w22 ⟨rfl, hb22⟩
    rw [cover_from]
    have HB22 := Lib.hid (bchain HB21.out hb22)
    have HK22 := Lib.hid (bchain HK21.out hb22)
    have HX22 := Lib.hid (bchain HX21.out hb22)
    clear hb22
    obtain ⟨a1, a2⟩ := HC.out _ HB22.out
    go_wp2_with fail
    refine (scover_any [] en _ (HTR.out _ HK22.out) (by simp) (by have := HEL.out; omega)).mono ?_
    rintro e w23 ⟨z23, rfl, o23, hb23⟩
    have HB23 := Lib.hid (bchain HB22.out hb23)
    have HK23 := Lib.hid (bchain HK22.out hb23)
    have HX23 := Lib.hid (bchain HX22.out hb23)
    have HO23 := Lib.hid o23
    clear o23 hb23 a1 a2
    go_wp2_with fail
    refine (among_any (coverS S f en) (coverS S [] en) _ _ _ (HOC.out _ HX23.out).strs HO23.out.strs (by have := HNL.out; have := wantedT_few (fun p => Tri.inL p f en) (treeS S); unfold coverS nodesS at *; omega) (by have := HNL.out; have := wantedT_few (fun p => Tri.inL p [] en) (treeS S); unfold coverS nodesS at *; omega)).mono ?_
    rintro e w24 ⟨rfl, hb24⟩
    rw [cover_end]
    have HB24 := Lib.hid (bchain HB23.out hb24)
    have HK24 := Lib.hid (bchain HK23.out hb24)
    have HX24 := Lib.hid (bchain HX23.out hb24)
    clear hb24
    go_wp2_with fail
    refine (snodes_any _ (HTR.out _ HK24.out)).mono ?_
    rintro e w25 ⟨z25, rfl, o25, hb25⟩
    have HB25 := Lib.hid (bchain HB24.out hb25)
    have HX25 := Lib.hid (bchain HX24.out hb25)
    have HO25 := Lib.hid o25
    clear o25 hb25
    go_wp2_with fail
    refine (among_any (coverS S f en) (nodesS S) _ _ _ (HOC.out _ HX25.out).strs HO25.out.strs (by have := HNL.out; have := wantedT_few (fun p => Tri.inL p f en) (treeS S); unfold coverS nodesS at *; omega) (by have := HNL.out; omega)).mono ?_
    rintro e w26 ⟨rfl, hb26⟩
    rw [cover_nodes]
    go_wp2
    go_ret
    exact ⟨rfl, bchain HB0.out (bchain HB25.out hb26)⟩
  have HFK : Hid (f ≤ key) := Lib.hid (List.not_lt.1 hf)
  have e3 : Op.bytesLess key f = false := by rw [less_lt]; simpa using hf
  clear hf
  by_cases he : en = []
  · have HTC : Hid (f ≤ key ∧ (en = [] ∨ key < en)) := Lib.hid ⟨HFK.out, Or.inl he⟩
    have e4 : (en == []) = true := beq_iff_eq.2 he
    have e5 : en.isEmpty = true := by rw [he]; rfl
    clear he hk
    go_wp2_with fail
    refine (strail_any key _ (HTR.out _ HK7.out) (by have := HKL.out; omega)).mono ?_
    rintro e w8 ⟨z8, rfl, o8, hb8⟩
    have HB8 := Lib.hid (bchain HB7.out hb8)
    have HK8 := Lib.hid (bchain HK7.out hb8)
    have HX8 := Lib.hid hb8
    have HO8 := Lib.hid o8
    clear o8 hb8 a1 a2
    go_wp2_with fail
    refine (among_any (trailS S key) (coverS S f en) _ _ _ HO8.out.strs (HOC.out _ HX8.out).strs (by have := HNL.out; have := wantedT_few (fun p => Tri.begins p (Nib.ofL key)) (treeS S); unfold trailS nodesS at *; omega) (by have := HNL.out; have := wantedT_few (fun p => Tri.inL p f en) (treeS S); unfold coverS nodesS at *; omega)).mono ?_
    rintro e w9 ⟨rfl, hb9⟩
    rw [trail_cover S HTC.out.1 HTC.out.2]
    have HBP := Lib.hid (bchain HB8.out hb9)
    have HKP := Lib.hid (bchain HK8.out hb9)
    have HXP := Lib.hid (bchain HX8.out hb9)
    clear hb9
    obtain ⟨a1, a2⟩ := HC.out _ HBP.out
    go_wp2_with fail
    refine (scover_any f [] _ (HTR.out _ HKP.out) (by have := HFL.out; omega) (by simp)).mono ?_
    rintro e w21 ⟨z21, rfl, o21, hb21⟩
    have HB21 := Lib.hid (bchain HBP.out hb21)
    have HK21 := Lib.hid (bchain HKP.out hb21)
    have HX21 := Lib.hid (bchain HXP.out hb21)
    have HO21 := Lib.hid o21
    clear o21 hb21 a1 a2
    go_wp2_with fail
    refine (among_any (coverS S f en) (coverS S f []) _ _ _ (HOC.out _ HX21.out).strs HO21.out.strs (by have := HNL.out; have := wantedT_few (fun p => Tri.inL p f en) (treeS S); unfold coverS nodesS at *; omega) (by have := HNL.out; have := wantedT_few (fun p => Tri.inL p f []) (treeS S); unfold coverS nodesS at *; omega)).mono ?_
    rintro e w22 ⟨rfl, hb22⟩
    rw [cover_from]
    have HB22 := Lib.hid (bchain HB21.out hb22)
    have HK22 := Lib.hid (bchain HK21.out hb22)
    have HX22 := Lib.hid (bchain HX21.out hb22)
    clear hb22
    obtain ⟨a1, a2⟩ := HC.out _ HB22.out
    go_wp2_with fail
    refine (scover_any [] en _ (HTR.out _ HK22.out) (by simp) (by have := HEL.out; omega)).mono ?_
    rintro e w23 ⟨z23, rfl, o23, hb23⟩
    have HB23 := Lib.hid (bchain HB22.out hb23)
    have HK23 := Lib.hid (bchain HK22.out hb23)
    have HX23 := Lib.hid (bchain HX22.out hb23)
    have HO23 := Lib.hid o23
    clear o23 hb23 a1 a2
    go_wp2_with fail
    refine (among_any (coverS S f en) (coverS S [] en) _ _ _ (HOC.out _ HX23.out).strs HO23.out.strs (by have := HNL.out; have := wantedT_few (fun p => Tri.inL p f en) (treeS S); unfold coverS nodesS at *; omega) (by have := HNL.out; have := wantedT_few (fun p => Tri.inL p [] en) (treeS S); unfold coverS nodesS at *; omega)).mono ?_
    rintro e w24 ⟨rfl, hb24⟩
    rw [cover_end]
    have HB24 := Lib.hid (bchain HB23.out hb24)
    have HK24 := Lib.hid (bchain HK23.out hb24)
    have HX24 := Lib.hid (bchain HX23.out hb24)
    clear hb24
    go_wp2_with fail
    refine (snodes_any _ (HTR.out _ HK24.out)).mono ?_
    rintro e w25 ⟨z25, rfl, o25, hb25⟩
    have HB25 := Lib.hid (bchain HB24.out hb25)
    have HX25 := Lib.hid (bchain HX24.out hb25)
    have HO25 := Lib.hid o25
    clear o25 hb25
    go_wp2_with fail
    refine (among_any (coverS S f en) (nodesS S) _ _ _ (HOC.out _ HX25.out).strs HO25.out.strs (by have := HNL.out; have := wantedT_few (fun p => Tri.inL p f en) (treeS S); unfold coverS nodesS at *; omega) (by have := HNL.out; omega)).mono ?_
    rintro e w26 ⟨rfl, hb26⟩
    rw [cover_nodes]
    go_wp2
    go_ret
    exact ⟨rfl, bchain HB0.out (bchain HB25.out hb26)⟩
  have e4 : (en == []) = false := beq_eq_false_iff_ne.2 he
  have e5 : en.isEmpty = false := by cases en <;> simp_all
  by_cases hke : key < en
  · have HTC : Hid (f ≤ key ∧ (en = [] ∨ key < en)) := Lib.hid ⟨HFK.out, Or.inr hke⟩
    have e6 : Op.bytesLess key en = true := by rw [less_lt]; simpa using hke
    clear he hk hke
    go_wp2_with fail
    refine (strail_any key _ (HTR.out _ HK7.out) (by have := HKL.out; omega)).mono ?_
    rintro e w8 ⟨z8, rfl, o8, hb8⟩
    have HB8 := Lib.hid (bchain HB7.out hb8)
    have HK8 := Lib.hid (bchain HK7.out hb8)
    have HX8 := Lib.hid hb8
    have HO8 := Lib.hid o8
    clear o8 hb8 a1 a2
    go_wp2_with fail
    refine (among_any (trailS S key) (coverS S f en) _ _ _ HO8.out.strs (HOC.out _ HX8.out).strs (by have := HNL.out; have := wantedT_few (fun p => Tri.begins p (Nib.ofL key)) (treeS S); unfold trailS nodesS at *; omega) (by have := HNL.out; have := wantedT_few (fun p => Tri.inL p f en) (treeS S); unfold coverS nodesS at *; omega)).mono ?_
    rintro e w9 ⟨rfl, hb9⟩
    rw [trail_cover S HTC.out.1 HTC.out.2]
    have HBP := Lib.hid (bchain HB8.out hb9)
    have HKP := Lib.hid (bchain HK8.out hb9)
    have HXP := Lib.hid (bchain HX8.out hb9)
    clear hb9
    obtain ⟨a1, a2⟩ := HC.out _ HBP.out
    go_wp2_with fail
    refine (scover_any f [] _ (HTR.out _ HKP.out) (by have := HFL.out; omega) (by simp)).mono ?_
    rintro e w21 ⟨z21, rfl, o21, hb21⟩
    have HB21 := Lib.hid (bchain HBP.out hb21)
    have HK21 := Lib.hid (bchain HKP.out hb21)
    have HX21 := Lib.hid (bchain HXP.out hb21)
    have HO21 := Lib.hid o21
    clear o21 hb21 a1 a2
    go_wp2_with fail
    refine (among_any (coverS S f en) (coverS S f []) _ _ _ (HOC.out _ HX21.out).strs HO21.out.strs (by have := HNL.out; have := wantedT_few (fun p => Tri.inL p f en) (treeS S); unfold coverS nodesS at *; omega) (by have := HNL.out; have := wantedT_few (fun p => Tri.inL p f []) (treeS S); unfold coverS nodesS at *; omega)).mono ?_
    rintro e w22 ⟨rfl, hb22⟩
    rw [cover_from]
    have HB22 := Lib.hid (bchain HB21.out hb22)
    have HK22 := Lib.hid (bchain HK21.out hb22)
    have HX22 := Lib.hid (bchain HX21.out hb22)
    clear hb22
    obtain ⟨a1, a2⟩ := HC.out _ HB22.out
    go_wp2_with fail
    refine (scover_any [] en _ (HTR.out _ HK22.out) (by simp) (by have := HEL.out; omega)).mono ?_
    rintro e w23 ⟨z23, rfl, o23, hb23⟩
    have HB23 := Lib.hid (bchain HB22.out hb23)
    have HK23 := Lib.hid (bchain HK22.out hb23)
    have HX23 := Lib.hid (bchain HX22.out hb23)
    have HO23 := Lib.hid o23
    clear o23 hb23 a1 a2
    go_wp2_with fail
    refine (among_any (coverS S f en) (coverS S [] en) _ _ _ (HOC.out _ HX23.out).strs HO23.out.strs (by have := HNL.out; have := wantedT_few (fun p => Tri.inL p f en) (treeS S); unfold coverS nodesS at *; omega) (by have := HNL.out; have := wantedT_few (fun p => Tri.inL p [] en) (treeS S); unfold coverS nodesS at *; omega)).mono ?_
    rintro e w24 ⟨rfl, hb24⟩
    rw [cover_end]
    have HB24 := Lib.hid (bchain HB23.out hb24)
    have HK24 := Lib.hid (bchain HK23.out hb24)
    have HX24 := Lib.hid (bchain HX23.out hb24)
    clear hb24
    go_wp2_with fail
    refine (snodes_any _ (HTR.out _ HK24.out)).mono ?_
    rintro e w25 ⟨z25, rfl, o25, hb25⟩
    have HB25 := Lib.hid (bchain HB24.out hb25)
    have HX25 := Lib.hid (bchain HX24.out hb25)
    have HO25 := Lib.hid o25
    clear o25 hb25
    go_wp2_with fail
    refine (among_any (coverS S f en) (nodesS S) _ _ _ (HOC.out _ HX25.out).strs HO25.out.strs (by have := HNL.out; have := wantedT_few (fun p => Tri.inL p f en) (treeS S); unfold coverS nodesS at *; omega) (by have := HNL.out; omega)).mono ?_
    rintro e w26 ⟨rfl, hb26⟩
    rw [cover_nodes]
    go_wp2
    go_ret
    exact ⟨rfl, bchain HB0.out (bchain HB25.out hb26)⟩
  have e6 : Op.bytesLess key en = false := by rw [less_lt]; simpa using hke
  clear he hk hke
  have HBP := HB7
  have HKP := HK7
  have HXP : Hid (Below w7.heap.size w7 w7) := Lib.hid (Below.refl _ _)
  clear a1 a2
  obtain ⟨a1, a2⟩ := HC.out _ HBP.out
  go_wp2_with fail
  refine (scover_any f [] _ (HTR.out _ HKP.out) (by have := HFL.out; omega) (by simp)).mono ?_
  rintro e w21 ⟨z21, rfl, o21, hb21⟩
  have HB21 := Lib.hid (bchain HBP.out hb21)
  have HK21 := Lib.hid (bchain HKP.out hb21)
  have HX21 := Lib.hid (bchain HXP.out hb21)
  have HO21 := Lib.hid o21
  clear o21 hb21 a1 a2
  go_wp2_with fail
  refine (among_any (coverS S f en) (coverS S f []) _ _ _ (HOC.out _ HX21.out).strs HO21.out.strs (by have := HNL.out; have := wantedT_few (fun p => Tri.inL p f en) (treeS S); unfold coverS nodesS at *; omega) (by have := HNL.out; have := wantedT_few (fun p => Tri.inL p f []) (treeS S); unfold coverS nodesS at *; omega)).mono ?_
  rintro e w22 ⟨rfl, hb22⟩
  rw [cover_from]
  have HB22 := Lib.hid (bchain HB21.out hb22)
  have HK22 := Lib.hid (bchain HK21.out hb22)
  have HX22 := Lib.hid (bchain HX21.out hb22)
  clear hb22
  obtain ⟨a1, a2⟩ := HC.out _ HB22.out
  go_wp2_with fail
  refine (scover_any [] en _ (HTR.out _ HK22.out) (by simp) (by have := HEL.out; omega)).mono ?_
  rintro e w23 ⟨z23, rfl, o23, hb23⟩
  have HB23 := Lib.hid (bchain HB22.out hb23)
  have HK23 := Lib.hid (bchain HK22.out hb23)
  have HX23 := Lib.hid (bchain HX22.out hb23)
  have HO23 := Lib.hid o23
  clear o23 hb23 a1 a2
  go_wp2_with fail
  refine (among_any (coverS S f en) (coverS S [] en) _ _ _ (HOC.out _ HX23.out).strs HO23.out.strs (by have := HNL.out; have := wantedT_few (fun p => Tri.inL p f en) (treeS S); unfold coverS nodesS at *; omega) (by have := HNL.out; have := wantedT_few (fun p => Tri.inL p [] en) (treeS S); unfold coverS nodesS at *; omega)).mono ?_
  rintro e w24 ⟨rfl, hb24⟩
  rw [cover_end]
  have HB24 := Lib.hid (bchain HB23.out hb24)
  have HK24 := Lib.hid (bchain HK23.out hb24)
  have HX24 := Lib.hid (bchain HX23.out hb24)
  clear hb24
  go_wp2_with fail
  refine (snodes_any _ (HTR.out _ HK24.out)).mono ?_
  rintro e w25 ⟨z25, rfl, o25, hb25⟩
  have HB25 := Lib.hid (bchain HB24.out hb25)
  have HX25 := Lib.hid (bchain HX24.out hb25)
  have HO25 := Lib.hid o25
  clear o25 hb25
  go_wp2_with fail
  refine (among_any (coverS S f en) (nodesS S) _ _ _ (HOC.out _ HX25.out).strs HO25.out.strs (by have := HNL.out; have := wantedT_few (fun p => Tri.inL p f en) (treeS S); unfold coverS nodesS at *; omega) (by have := HNL.out; omega)).mono ?_
  rintro e w26 ⟨rfl, hb26⟩
  rw [cover_nodes]
  go_wp2
  go_ret
  exact ⟨rfl, bchain HB0.out (bchain HB25.out hb26)⟩
theorem trieRange_law (v : Value) (L : List ActT) (key : ByteArray) (p : T × T) (w : World) (hv : TActs w v L) (_ : L.length * 40 ≤ reachBytes) (_ : ∀ s ∈ L, OkTAct s) (_ : key.size ≤ maxLen) (hT : Tab w) :
    Calls Tryd.prog 7 #[v, .string key, .agg #[.string ⟨p.1.toArray⟩, .string ⟨p.2.toArray⟩]] w fun e w' => e = .returned (.bool true) ∧ Below w.heap.size w w' := by
  obtain ⟨k, rfl⟩ := bytes_list key
  exact trieRange_walk v L k p w hv hT
end Go.Proofs.YtikabacebmbacaaDoor
