/- The law StoreJoined, walked. -/
import Derived.Test.YtgbcilokeiengaaDoorPk10
namespace Go.Proofs.YtgbcilokeiengaaDoor
open Go.RowKit
open Go.Proofs.YtgbcilokeiengaaDoor.Sto (St)

/-! ### how often -/
def cntF (Z : List (List UInt8)) (x : List UInt8) : Option Int := if x ∈ Z then some ((Z.count x : Nat) : Int) else none
theorem cntF_nil (x : List UInt8) : cntF [] x = none := by simp [cntF]
theorem cntF_get (Z : List (List UInt8)) (x : List UInt8) : (cntF Z x).getD 0 = ((Z.count x : Nat) : Int) := by
  unfold cntF
  by_cases h : x ∈ Z
  · rw [if_pos h]; rfl
  · rw [if_neg h, List.count_eq_zero_of_not_mem h]; rfl
theorem cntF_put (Z : List (List UInt8)) (s x : List UInt8) : updF (cntF Z) s (some (((Z.count s : Nat) : Int) + 1)) x = cntF (Z ++ [s]) x := by
  unfold updF cntF
  by_cases h : x = s
  · subst h
    simp [List.count_append]
  · rw [if_neg h, List.count_append]
    simp [h, Ne.symm h]
theorem cntF_iff (Z : List (List UInt8)) (x : List UInt8) : x ∈ Z ↔ cntF Z x ≠ none := by
  unfold cntF; by_cases h : x ∈ Z <;> simp [h]
def cntMap : MapLaw Tryd.prog 9 (List UInt8) Int := ⟨fun s => .string ⟨s.toArray⟩, fun z => .int .i64 z, fun s => s.length ≤ 140737488351232, lawS, keyS, fun _ _ h => str_inj h⟩
set_option maxRecDepth 100000 in
theorem zeroInt (w : World) : (zeroValue 3).run Tryd.prog w = .ok (.int .i64 0) w := by kernel_rfl
theorem lookC {w : World} {b : Nat} {Z : List (List UInt8)} (h : FnAt cntMap w b (cntF Z)) {x : List UInt8} (hx : x.length ≤ 140737488351232) :
    (Instr.lookup 43 (.map (some b)) (.string ⟨x.toArray⟩) false).run Tryd.prog w = .ok (.int .i64 ((Z.count x : Nat) : Int)) w := by
  have h1 := h.look Tryd.underlying43 (s := x) hx false (zeroInt w)
  rw [show (.string ⟨x.toArray⟩ : Value) = cntMap.enc x from rfl, h1, ← cntF_get]
  cases cntF Z x <;> rfl
theorem FnAt.lenOf {w : World} {b : Nat} {Z R : List (List UInt8)} (h : FnAt cntMap w b (cntF Z)) (hn : R.Nodup) (hR : ∀ x, x ∈ R ↔ x ∈ Z) : ∀ ty, (Builtin.len_ #[43] ty #[.map (some b)]).run Tryd.prog w = .ok (.int .i64 (R.length : Nat)) w := by
  obtain ⟨ks, h1, h2, h3⟩ := h.len Tryd.underlying43
  have hl : ks.length = R.length := Nat.le_antisymm (Sto.le_of_sub h1 fun x hx => (hR x).2 ((cntF_iff Z x).2 ((h2 x).1 hx))) (Sto.le_of_sub hn fun x hx => (h2 x).2 ((cntF_iff Z x).1 ((hR x).1 hx)))
  rw [← hl]
  exact h3
/-- Two rows one behind the other, in a new one. -/
theorem twice_run {w : World} {u v : Value} {X Y : List (List UInt8)} (hu : Strs w u X) (hv : Strs w v Y) (hl : X.length + Y.length ≤ 1000000) :
    ∃ v1 w1 v2 w2, (Builtin.append_ #[25, 25] 25 #[.slice (some ⟨w.heap.size, 0, none⟩) 0 0, u]).run Tryd.prog (w.alloc (.cells #[] 9)) = .ok v1 w1 ∧
      (Builtin.append_ #[25, 25] 25 #[v1, v]).run Tryd.prog w1 = .ok v2 w2 ∧ Own w2 w.heap.size v2 (X ++ Y) ∧ Below w.heap.size w w2 := by
  have hB := (Below.refl w.heap.size w).alloc (Nat.le_refl _) (.cells #[] 9)
  obtain ⟨v1, w1, hrun1, hown1, hgrow1, _⟩ := append_strs (hu.below hB) (row_zeroS w _ rfl) (by omega) (by simp)
  simp only [Nat.zero_add, List.nil_append] at hown1
  have hB1 : Below w.heap.size w w1 := hB.trans ((Out.grown hgrow1 (F := fun j => j = w.heap.size) (fun k e => by simp [Value.ownBlock] at e; exact e.symm)).below (fun _ e => Nat.le_of_eq e.symm) (by simp))
  obtain ⟨v2, w2, hrun2, hown2, hgrow2, _⟩ := append_strs (hv.below hB1) hown1 (by omega) hB1.size
  refine ⟨v1, w1, v2, w2, hrun1, hrun2, ?_, hB1.trans ((Out.grown hgrow2 (F := fun j => v1.ownBlock = some j) (fun _ e => e)).below (fun j hj => (hown1.lt j hj).1) hB1.size)⟩
  unfold Own
  rw [scells_append, List.length_append]
  exact hown2

set_option maxRecDepth 100000 in
set_option maxHeartbeats 8000000 in
theorem storeJoined_walk (v : Value) (L : List ActN) (va : Value) (Za : List Int) (vb : Value) (Zb : List Int) (w : World) (hv : Acts w v L) (hl : L.length * 40 ≤ reachBytes) (_ : ∀ s ∈ L, OkAct s)
    (ha : Ints w va Za) (_ : Za.length ≤ maxLen) (_ : ∀ z ∈ Za, (Lit.int .i64 z).wf = true) (hb : Ints w vb Zb) (_ : Zb.length ≤ maxLen) (_ : ∀ z ∈ Zb, (Lit.int .i64 z).wf = true) (hT : Tab w) :
    Calls Tryd.prog 5 #[v, va, vb] w fun e w' => e = .returned (.bool true) ∧ Below w.heap.size w w' := by
  have HT := Lib.hid hT
  have HV := Lib.hid hv
  have HIA := Lib.hid ha
  have HIB := Lib.hid hb
  have HLL : Hid (L.length ≤ 4000000000000) := Lib.hid (by have : reachBytes = 140737488351232 := rfl; omega)
  obtain ⟨i0, hi, hz0, hz1, hz2⟩ := info_parts Tryd.infoStr
  obtain ⟨A, cap, rfl⟩ := hv.form
  obtain ⟨Aa, capa, rfl, -⟩ := ha
  obtain ⟨Ab, capb, rfl, -⟩ := hb
  clear hv hl hT
  go_enter Tryd.func5, Tryd.ntmps5
  go_wp2_with fail
  refine (stworks_any _ HT.out).mono ?_
  rintro e w1 ⟨rfl, hb1⟩
  have HB1 := Lib.hid hb1
  have HF := Lib.hid (stfill_any L _ w1 (HV.out.below hb1) HLL.out (HT.out.below hb1))
  unfold FillPost at HF
  clear hb1
  go_wp2_with fail
  refine HF.out.mono ?_
  rintro e w2 ⟨g, m, S, C, z, rfl, -, -, hs2, hown2, hca, hCl, hb2⟩
  have HB2 := Lib.hid (bchain HB1.out hb2)
  have HS2 := Lib.hid hs2
  have HO2 := Lib.hid hown2
  have HCA := Lib.hid hca
  have HCL := Lib.hid hCl
  have HSL : Hid (S.length ≤ 30) := Lib.hid (by have := hca.len hs2.rise; omega)
  have HRI := Lib.hid hs2.rise
  have HRE := Lib.hid (fun X z w' (h : Below w2.heap.size w2 w') (hz : Strs w' z X) (hX : X.length ≤ 100) (hc : ∀ x ∈ X, x.length ≤ 140737488351232) => streach_any g m S X z w' (hs2.below h) hz (by have := hca.len hs2.rise; omega) (by omega) hc)
  unfold RowPost at HRE
  have HCS : Hid (∀ x ∈ C, x.length ≤ 140737488351232) := Lib.hid (fun x hx => by have := hca.short x hx; omega)
  have HRS : Hid (∀ X, ∀ x ∈ Sto.reachL S X, x.length ≤ 140737488351232) := Lib.hid (fun X x hx => by
    have := ((Sto.reachL_mem hs2.rise X x).1 hx).key
    have := hs2.keysShort x this
    omega)
  have HRL := Lib.hid (fun X => Sto.reachL_len S X)
  obtain ⟨A3, cap3, rfl⟩ := own_form hown2
  clear hs2 hown2 hca hCl hb2
  by_cases hgo : 0 < C.length ∧ Za.length ≤ 30 ∧ Zb.length ≤ 30
  case neg =>
    have HNL := Lib.hid (HRE.out [] (.slice none 0 0) w2 (Below.refl _ _) ⟨none, 0, rfl, fun i hi => (by cases hi)⟩ (by simp) (fun x hx => (by cases hx)))
    rw [Sto.reachL_nil HRI.out] at HNL
    have hor : ((C.length : Int) == 0) = true ∨ (((C.length : Int) == 0) = false ∧ (30 : Int) < (Za.length : Int)) ∨ (((C.length : Int) == 0) = false ∧ ¬ ((30 : Int) < (Za.length : Int)) ∧ (30 : Int) < (Zb.length : Int)) := by
      by_cases h1 : C.length = 0
      · exact Or.inl (by rw [h1]; rfl)
      · have e1 : ((C.length : Int) == 0) = false := by rw [beq_eq_false_iff_ne]; omega
        by_cases h2 : (30 : Int) < (Za.length : Int)
        · exact Or.inr (Or.inl ⟨e1, h2⟩)
        · exact Or.inr (Or.inr ⟨e1, h2, by omega⟩)
    clear hgo
    rcases hor with h1 | ⟨h1, h2⟩ | ⟨h1, h2, h3⟩
    all_goals
      go_wp2_with fail
      refine HNL.out.mono ?_
      rintro e w3 ⟨z3, rfl, hown3, hb3⟩
      obtain ⟨A4, cap4, rfl⟩ := own_form hown3
      have HB3 := Lib.hid (bchain HB2.out hb3)
      simp only [List.length_nil]
      clear hown3 hb3
      go_wp2
      go_ret
      exact ⟨rfl, HB3.out⟩
  obtain ⟨h0, ha30, hb30⟩ := hgo
  have n1 : ((C.length : Int) == 0) = false := by rw [beq_eq_false_iff_ne]; omega
  have n2 : ¬ ((30 : Int) < (Za.length : Int)) := by omega
  have n3 : ¬ ((30 : Int) < (Zb.length : Int)) := by omega
  have H0 := Lib.hid h0
  have HA30 := Lib.hid ha30
  have HB30 := Lib.hid hb30
  have HBE := Lib.hid (fun a w => below_any a C.length w h0 (by have := HCL.out; omega))
  clear h0 ha30 hb30
  go_wp2
  clear n1 n2 n3
  have HBR := Lib.hid (Below.refl w2.heap.size w2)
  go_loopw [9, 49] (fun sv i wr => ∃ (s : Value) (k : Nat) (X : List (List UInt8)), s = sv ∧ k ≤ Za.length ∧ i = .int .i64 k ∧ Own wr w2.heap.size s X ∧ (∀ x ∈ X, x ∈ C) ∧ X.length = k ∧ Below w2.heap.size w2 wr) (fun _ i _ => Za.length - (intOf i).toNat)
  case atStart => exact ⟨_, 0, [], rfl, Nat.zero_le _, rfl, Own.nil _ _, fun x hx => (by cases hx), rfl, Below.refl _ _⟩
  case round =>
    obtain ⟨Xs, k, X, rfl, hk, rfl, hown, hXC, hXl, hb⟩ := hrel
    have HOX := Lib.hid hown
    have HXC := Lib.hid hXC
    have HXL := Lib.hid hXl
    have HBW := Lib.hid (bchain HBR.out hb)
    have HBX := Lib.hid hb
    have HZX := Lib.hid hb.size
    by_cases hlt : k < Za.length
    · have h1 : (k : Int) < (Za.length : Int) := by omega
      have h0 : (0 : Int) ≤ (k : Int) := by omega
      have hnb : (k : Int) ≤ 1000 := by have := HA30.out; omega
      have HKB : Hid (k ≤ 30) := Lib.hid (by have := HA30.out; omega)
      obtain ⟨A', cap', hv', hc'⟩ := HIA.out.below (bchain HB2.out HBW.out)
      obtain ⟨rfl, -⟩ : Aa = A' ∧ _ := by simpa using hv'
      obtain ⟨aa, rfl, hcell⟩ := hc' k hlt
      obtain ⟨a, hza⟩ : ∃ a, Za[k] = a := ⟨_, rfl⟩
      rw [hza] at hcell
      obtain ⟨j, q, e1, l1, hq, g1⟩ := (HO2.out.below HBW.out).strs.place H0.out a
      subst hq
      have HBa := Lib.hid (HBE.out a)
      rw [e1] at HBa
      have HMX := Lib.hid (Sto.placeOf_mem a C H0.out)
      obtain ⟨x, hx⟩ : ∃ x, Sto.placeOf a C = x := ⟨_, rfl⟩
      rw [hx] at g1 HMX
      have u1 : (0 : Int) ≤ (j : Int) := by omega
      have u2 : (j : Int) < (C.length : Int) := by omega
      clear hown hXC hXl hb hv' hc' hza e1 hx
      go_wp2_with fail
      refine (HBa.out _).mono ?_
      rintro e w4 ⟨rfl, rfl⟩
      go_wp2_with (at_builtin; refine wpList_append_lies _ rfl _ _ _ rfl w2.heap.size 9 i0 (.string ⟨#[]⟩) 1 16 Tryd.underlying25 hi hz0 hz1 hz2 rfl (by decide) Xs X.length (scells X) (by rfl) (World.ownsRow.alloc HOX.out _) ⟨w4.heap.size, 0, none⟩ 1 1 (scells [x]) (by rfl) rfl (World.news_of_block (heap_new_at _ _ _ rfl)) (by simp [scells, Value.oneCell']) (by decide) (by have := HXL.out; have := HKB.out; unfold maxLen; omega) (by have := HXL.out; have := HKB.out; omega) (by have := HZX.out; simp; omega) (w4.heap.size + 1) (by simp) ?_; intro g' cap' w5 hown5 hgrow5 hat5 hlt5)
      have ha : Below w4.heap.size w4 (w4.alloc (.cells #[.string ⟨x.toArray⟩] 9)) := (Below.refl _ w4).alloc (Nat.le_refl _) _
      have hB5 : Below w2.heap.size w2 w5 := HBX.out.trans (((Out.of ha).trans (Out.grown hgrow5 (F := fun j => Value.ownBlock Xs = some j) (fun j e => e))).below (fun j hj => (HOX.out.lt j hj).1) HZX.out)
      refine ⟨⟨_, k + 1, X ++ [x], rfl, by omega, by go_num, ?_, ?_, by rw [List.length_append, HXL.out]; rfl, hB5⟩, by simp [intOf]; omega⟩
      · unfold Own
        rw [scells_append, List.length_append]
        exact hown5
      · intro y hy
        rcases List.mem_append.1 hy with hy | hy
        · exact HXC.out y hy
        · obtain rfl : y = x := by simpa using hy
          exact HMX.out
    · have h1 : ¬ ((k : Int) < (Za.length : Int)) := by omega
      have HXL1 : Hid (X.length ≤ 30) := Lib.hid (by have := HA30.out; omega)
      clear hown hXC hXl hb hlt hk
      have HOX1 := Lib.hid HOX.out
      have HXC1 := Lib.hid HXC.out
      obtain ⟨w3, rfl⟩ : ∃ x, x = wr := ⟨_, rfl⟩
      have HBW1 := Lib.hid HBW.out
      clear HOX HXC HXL HBX HZX HBW
      go_wp2
      go_loopw [10, 66] (fun sv i wr => ∃ (s : Value) (k : Nat) (X : List (List UInt8)), s = sv ∧ k ≤ Zb.length ∧ i = .int .i64 k ∧ Own wr w3.heap.size s X ∧ (∀ x ∈ X, x ∈ C) ∧ X.length = k ∧ Below w3.heap.size w3 wr) (fun _ i _ => Zb.length - (intOf i).toNat)
      case atStart => exact ⟨_, 0, [], rfl, Nat.zero_le _, rfl, Own.nil _ _, fun x hx => (by cases hx), rfl, Below.refl _ _⟩
      case round =>
        obtain ⟨Ys, k, Y, rfl, hk, rfl, hown, hXC, hXl, hb⟩ := hrel
        have HOX := Lib.hid hown
        have HXC := Lib.hid hXC
        have HXL := Lib.hid hXl
        have HBW := Lib.hid (bchain HBW1.out hb)
        have HBX := Lib.hid hb
        have HZX := Lib.hid hb.size
        by_cases hlt : k < Zb.length
        · have h1 : (k : Int) < (Zb.length : Int) := by omega
          have h0 : (0 : Int) ≤ (k : Int) := by omega
          have hnb : (k : Int) ≤ 1000 := by have := HB30.out; omega
          have HKB : Hid (k ≤ 30) := Lib.hid (by have := HB30.out; omega)
          obtain ⟨A', cap', hv', hc'⟩ := HIB.out.below (bchain HB2.out HBW.out)
          obtain ⟨rfl, -⟩ : Ab = A' ∧ _ := by simpa using hv'
          obtain ⟨aa, rfl, hcell⟩ := hc' k hlt
          obtain ⟨a, hza⟩ : ∃ a, Zb[k] = a := ⟨_, rfl⟩
          rw [hza] at hcell
          obtain ⟨j, q, e1, l1, hq, g1⟩ := (HO2.out.below HBW.out).strs.place H0.out a
          subst hq
          have HBa := Lib.hid (HBE.out a)
          rw [e1] at HBa
          have HMX := Lib.hid (Sto.placeOf_mem a C H0.out)
          obtain ⟨x, hx⟩ : ∃ x, Sto.placeOf a C = x := ⟨_, rfl⟩
          rw [hx] at g1 HMX
          have u1 : (0 : Int) ≤ (j : Int) := by omega
          have u2 : (j : Int) < (C.length : Int) := by omega
          clear hown hXC hXl hb hv' hc' hza e1 hx
          go_wp2_with fail
          refine (HBa.out _).mono ?_
          rintro e w4 ⟨rfl, rfl⟩
          go_wp2_with (at_builtin; refine wpList_append_lies _ rfl _ _ _ rfl w3.heap.size 9 i0 (.string ⟨#[]⟩) 1 16 Tryd.underlying25 hi hz0 hz1 hz2 rfl (by decide) Ys Y.length (scells Y) (by rfl) (World.ownsRow.alloc HOX.out _) ⟨w4.heap.size, 0, none⟩ 1 1 (scells [x]) (by rfl) rfl (World.news_of_block (heap_new_at _ _ _ rfl)) (by simp [scells, Value.oneCell']) (by decide) (by have := HXL.out; have := HKB.out; unfold maxLen; omega) (by have := HXL.out; have := HKB.out; omega) (by have := HZX.out; simp; omega) (w4.heap.size + 1) (by simp) ?_; intro g' cap' w5 hown5 hgrow5 hat5 hlt5)
          have ha : Below w4.heap.size w4 (w4.alloc (.cells #[.string ⟨x.toArray⟩] 9)) := (Below.refl _ w4).alloc (Nat.le_refl _) _
          have hB5 : Below w3.heap.size w3 w5 := HBX.out.trans (((Out.of ha).trans (Out.grown hgrow5 (F := fun j => Value.ownBlock Ys = some j) (fun j e => e))).below (fun j hj => (HOX.out.lt j hj).1) HZX.out)
          refine ⟨⟨_, k + 1, Y ++ [x], rfl, by omega, by go_num, ?_, ?_, by rw [List.length_append, HXL.out]; rfl, hB5⟩, by simp [intOf]; omega⟩
          · unfold Own
            rw [scells_append, List.length_append]
            exact hown5
          · intro y hy
            rcases List.mem_append.1 hy with hy | hy
            · exact HXC.out y hy
            · obtain rfl : y = x := by simpa using hy
              exact HMX.out
        · have h1 : ¬ ((k : Int) < (Zb.length : Int)) := by omega
          have HYL : Hid (Y.length ≤ 30) := Lib.hid (by have := HB30.out; omega)
          clear hown hXC hXl hb hlt hk
          obtain ⟨w4, rfl⟩ : ∃ x, x = wr := ⟨_, rfl⟩
          have HX4 := Lib.hid (HOX1.out.below HBX.out)
          have HY4 := Lib.hid HOX.out
          have HYC := Lib.hid HXC.out
          have HB4 := Lib.hid HBW.out
          have HXSH : Hid (∀ x ∈ X, x.length ≤ 140737488351232) := Lib.hid (fun x hx => HCS.out x (HXC1.out x hx))
          have HYSH : Hid (∀ x ∈ Y, x.length ≤ 140737488351232) := Lib.hid (fun x hx => HCS.out x (HYC.out x hx))
          have HR1 := Lib.hid (HRE.out X Xs w4 HB4.out HX4.out.strs (by have := HXL1.out; omega) HXSH.out)
          obtain ⟨P, hP⟩ : ∃ P, Sto.reachL S X = P := ⟨_, rfl⟩
          obtain ⟨Q, hQ⟩ : ∃ Q, Sto.reachL S Y = Q := ⟨_, rfl⟩
          obtain ⟨R, hR⟩ : ∃ R, Sto.reachL S (X ++ Y) = R := ⟨_, rfl⟩
          have HPC : Hid (Sto.reachL S P = P) := Lib.hid (by rw [← hP]; exact Sto.reachL_closed HRI.out X)
          have HJO : Hid (∀ x, x ∈ R ↔ x ∈ P ++ Q) := Lib.hid (fun x => by rw [← hP, ← hQ, ← hR, Sto.reachL_join HRI.out, List.mem_append])
          have HRN : Hid R.Nodup := Lib.hid (by rw [← hR]; exact (Sto.reachL_rise HRI.out _).imp fun h => Sto.lt_ne h)
          have HPL : Hid (P.length ≤ 30) := Lib.hid (by rw [← hP]; exact Nat.le_trans (HRL.out X) HSL.out)
          have HQL : Hid (Q.length ≤ 30) := Lib.hid (by rw [← hQ]; exact Nat.le_trans (HRL.out Y) HSL.out)
          have HRL2 : Hid (R.length ≤ 30) := Lib.hid (by rw [← hR]; exact Nat.le_trans (HRL.out _) HSL.out)
          have HPS : Hid (∀ x ∈ P, x.length ≤ 140737488351232) := Lib.hid (by rw [← hP]; exact HRS.out X)
          have HRSS : Hid (∀ x ∈ R, x.length ≤ 140737488351232) := Lib.hid (by rw [← hR]; exact HRS.out _)
          have HZS : Hid (∀ x ∈ P ++ Q, x.length ≤ 140737488351232) := Lib.hid (fun x hx => HRSS.out x ((HJO.out x).2 hx))
          have HPQ := Lib.hid hP
          have HQQ := Lib.hid hQ
          have HRQ := Lib.hid hR
          rw [hP] at HR1
          clear hP hQ hR HOX HXC HXL HBX HZX HBW HOX1 HBW1
          go_wp2_with fail
          refine HR1.out.mono ?_
          rintro e w5 ⟨p, rfl, hown5, hb5⟩
          have HP5 := Lib.hid hown5
          have HY5 := Lib.hid (HY4.out.below hb5)
          have HX5 := Lib.hid (HX4.out.below hb5)
          have HB5 := Lib.hid (bchain HB4.out hb5)
          have HR2 := Lib.hid (HRE.out Y Ys w5 HB5.out HY5.out.strs (by have := HYL.out; omega) HYSH.out)
          rw [HQQ.out] at HR2
          clear hown5 hb5
          go_wp2_with fail
          refine HR2.out.mono ?_
          rintro e w6 ⟨q, rfl, hown6, hb6⟩
          have hbm : Below w6.heap.size w6 (w6.alloc (.map #[] 0)) := (Below.refl _ w6).alloc (Nat.le_refl _) _
          have hmm := @run_makeMap Tryd.prog
          have HM7 : Hid (FnAt cntMap (w6.alloc (.map #[] 0)) w6.heap.size (cntF [])) := Lib.hid ((FnAt.made cntMap w6 w6.heap.size rfl).congr fun s => (cntF_nil s).symm)
          have HQ7 := Lib.hid (hown6.below hbm)
          have HP7 := Lib.hid ((HP5.out.below hb6).below hbm)
          have HY7 := Lib.hid ((HY5.out.below hb6).below hbm)
          have HX7 := Lib.hid ((HX5.out.below hb6).below hbm)
          have HB7 := Lib.hid (bchain (bchain HB5.out hb6) hbm)
          have HMB : Hid (w2.heap.size ≤ w6.heap.size) := Lib.hid (bchain HB5.out hb6).size
          obtain ⟨mb, hmb⟩ : ∃ mb, w6.heap.size = mb := ⟨_, rfl⟩
          rw [hmb] at HM7 HMB
          clear hown6 hb6 hbm
          go_upto_region 19 with fail
          generalize (w6.alloc (.map #[] 0)) = w7 at *
          clear hmm
          obtain ⟨v1, w8, v2, w9, hrun1, hrun2, hown9, hb9⟩ := twice_run HP7.out.strs HQ7.out.strs (by have := HPL.out; have := HQL.out; omega)
          obtain ⟨Z, hZ⟩ : ∃ Z, P ++ Q = Z := ⟨_, rfl⟩
          have HZL : Hid (Z.length ≤ 60) := Lib.hid (by rw [← hZ, List.length_append]; have := HPL.out; have := HQL.out; omega)
          rw [hZ] at hown9 HJO HZS
          clear hZ
          have HR8 := Lib.hid hrun1
          have HR9 := Lib.hid hrun2
          have HZ9 := Lib.hid hown9
          have HM9 := Lib.hid (HM7.out.below hb9)
          have HP9 := Lib.hid (HP7.out.below hb9)
          have HY9 := Lib.hid (HY7.out.below hb9)
          have HX9 := Lib.hid (HX7.out.below hb9)
          have HB9 := Lib.hid (bchain HB7.out hb9)
          obtain ⟨A9, c9, rfl⟩ := own_form hown9
          clear hrun1 hrun2 hown9 hb9
          go_wp2_with (first | (at_builtin; refine wpList_append_run rfl _ _ _ rfl (.slice (some ⟨w7.heap.size, 0, none⟩) 0 0) p _ (by rfl) (by rfl) HR8.out ?_) | (at_builtin; refine wpList_append_run rfl _ _ _ rfl v1 q _ (by rfl) (by rfl) HR9.out ?_))
          go_loopw [94] (fun i wr => ∃ k : Nat, k ≤ Z.length ∧ i = .int .i64 k ∧ FnAt cntMap wr mb (cntF (Z.take k)) ∧ Out (fun i => i = mb) w9 wr) (fun i _ => Z.length - (intOf i).toNat)
          case atStart => exact ⟨0, Nat.zero_le _, rfl, by simpa using HM9.out, Out.refl _ _⟩
          case round =>
            obtain ⟨k, hk, rfl, hf, ho⟩ := hrel
            have HF := Lib.hid hf
            have HO := Lib.hid ho
            by_cases hlt : k < Z.length
            · have h1 : (k : Int) < (Z.length : Int) := by omega
              have h0 : (0 : Int) ≤ (k : Int) := by omega
              have hnb : (k : Int) ≤ 1000 := by have := HZL.out; omega
              obtain ⟨a, rfl, hcell⟩ := (HZ9.out.outMap HM9.out ho).strs_at (Below.refl _ wr) k hlt
              have hxs := HZS.out _ (List.getElem_mem hlt)
              have hlk := lookC hf hxs
              have hcl : (Z.take k).count Z[k] ≤ 60 := by
                have h1 := List.count_le_length (a := Z[k]) (l := Z.take k)
                have h2 := HZL.out
                rw [List.length_take] at h1
                omega
              obtain ⟨w10, hrun, hf10, ho10, hs10⟩ := hf.put Tryd.underlying43 (s := Z[k]) hxs ((((Z.take k).count Z[k] : Nat) : Int) + 1)
              have HF10 : Hid (FnAt cntMap w10 mb (cntF (Z.take (k + 1)))) := Lib.hid (hf10.congr fun y => by rw [cntF_put, List.take_succ_eq_append_getElem hlt])
              have HO10 := Lib.hid (ho.trans ho10)
              dsimp only [cntMap] at hrun
              obtain ⟨x, hx⟩ : ∃ x, Z[k] = x := ⟨_, rfl⟩
              rw [hx] at hcell hlk hrun hcl
              obtain ⟨c, hc⟩ : ∃ c, (Z.take k).count x = c := ⟨_, rfl⟩
              rw [hc] at hlk hrun hcl
              have hcb : (c : Int) ≤ 60 := by omega
              have hc0 : (0 : Int) ≤ (c : Int) := by omega
              clear hf ho hx hc hxs hf10 ho10 hs10 hcl
              go_wp2
              exact ⟨⟨k + 1, by omega, by go_num, HF10.out, HO10.out⟩, by simp [intOf]; omega⟩
            · have h1 : ¬ ((k : Int) < (Z.length : Int)) := by omega
              have hfz : FnAt cntMap wr mb (cntF Z) := by rw [List.take_of_length_le (by omega)] at hf; exact hf
              obtain ⟨w10, rfl⟩ : ∃ x, x = wr := ⟨_, rfl⟩
              have HF10 := Lib.hid hfz
              have HB10 : Hid (Below w2.heap.size w2 w10) := Lib.hid (HB9.out.trans (ho.below (fun j e => by have := HMB.out; omega) HB9.out.size))
              have HP10 := Lib.hid (HP9.out.outMap HM9.out ho)
              have HX10 := Lib.hid (HX9.out.outMap HM9.out ho)
              have HY10 := Lib.hid (HY9.out.outMap HM9.out ho)
              obtain ⟨v3, w11, v4, w12, hrun3, hrun4, hown12, hb12⟩ := twice_run HX10.out.strs HY10.out.strs (by have := HXL1.out; have := HYL.out; omega)
              have HR11 := Lib.hid hrun3
              have HR12 := Lib.hid hrun4
              have HF12 := Lib.hid (HF10.out.below hb12)
              have HP12 := Lib.hid (HP10.out.below hb12)
              have HB12 := Lib.hid (bchain HB10.out hb12)
              have HRB := Lib.hid (HRE.out (X ++ Y) v4 w12 HB12.out hown12.strs (by rw [List.length_append]; have := HXL1.out; have := HYL.out; omega) (fun x hx => by
                rcases List.mem_append.1 hx with hx | hx
                · exact HXSH.out x hx
                · exact HYSH.out x hx))
              rw [HRQ.out] at HRB
              clear hf ho hfz hlt hrun3 hrun4 hown12 hb12
              go_wp2_with (first | (at_builtin; refine wpList_append_run rfl _ _ _ rfl (.slice (some ⟨w10.heap.size, 0, none⟩) 0 0) Xs _ (by rfl) (by rfl) HR11.out ?_) | (at_builtin; refine wpList_append_run rfl _ _ _ rfl v3 Ys _ (by rfl) (by rfl) HR12.out ?_))
              refine HRB.out.mono ?_
              rintro e w13 ⟨z13, rfl, hown13, hb13⟩
              have HO13 := Lib.hid hown13
              have HF13 := Lib.hid (HF12.out.below hb13)
              have HP13 := Lib.hid (HP12.out.below hb13)
              have HB13 := Lib.hid (bchain HB12.out hb13)
              have hlen13 := HF13.out.lenOf HRN.out HJO.out
              have hrr : ((R.length : Int) != (R.length : Int)) = false := by simp
              obtain ⟨A13, c13, rfl⟩ := own_form hown13
              clear hown13 hb13
              go_wp2
              clear hlen13
              go_loopw [117] (fun i wr => ∃ k : Nat, k ≤ R.length ∧ i = .int .i64 k ∧ w13 = wr) (fun i _ => R.length - (intOf i).toNat)
              case atStart => exact ⟨0, Nat.zero_le _, rfl, rfl⟩
              case round =>
                obtain ⟨k, hk, rfl, rfl⟩ := hrel
                by_cases hlt : k < R.length
                · have h1 : (k : Int) < (R.length : Int) := by omega
                  have h0 : (0 : Int) ≤ (k : Int) := by omega
                  have hnb : (k : Int) ≤ 1000 := by have := HRL2.out; omega
                  obtain ⟨a, rfl, hcell⟩ := HO13.out.strs_at (Below.refl _ w13) k hlt
                  have hxs := HRSS.out _ (List.getElem_mem hlt)
                  have hlk := lookC HF13.out hxs
                  have hpos : 0 < Z.count R[k] := List.count_pos_iff.2 ((HJO.out _).1 (List.getElem_mem hlt))
                  obtain ⟨x, hx⟩ : ∃ x, R[k] = x := ⟨_, rfl⟩
                  rw [hx] at hcell hlk hpos
                  obtain ⟨c, hc⟩ : ∃ c, Z.count x = c := ⟨_, rfl⟩
                  rw [hc] at hlk hpos
                  have hc0 : ((c : Int) == 0) = false := by rw [beq_eq_false_iff_ne]; omega
                  clear hx hc hxs hpos
                  go_wp2
                  exact ⟨⟨k + 1, by omega, by go_num, trivial⟩, by simp [intOf]; omega⟩
                · have h1 : ¬ ((k : Int) < (R.length : Int)) := by omega
                  have HRP := Lib.hid (HRE.out P p w13 HB13.out HP13.out.strs (by have := HPL.out; omega) HPS.out)
                  rw [HPC.out] at HRP
                  clear hlt hrr
                  go_wp2_with fail
                  refine HRP.out.mono ?_
                  rintro e w14 ⟨z14, rfl, hown14, hb14⟩
                  have HB14 := Lib.hid (bchain HB13.out hb14)
                  have HSM := Lib.hid (same_any P P z14 p w14 hown14.strs (HP13.out.below hb14).strs (by have := HPL.out; omega) (by have := HPL.out; unfold maxLen; omega))
                  rw [decide_eq_true rfl] at HSM
                  clear hown14 hb14
                  go_wp2_with fail
                  refine HSM.out.mono ?_
                  rintro e w15 ⟨rfl, hb15⟩
                  have HB15 := Lib.hid (bchain HB2.out (bchain HB14.out hb15))
                  clear hb15
                  go_wp2
                  go_ret
                  exact ⟨rfl, HB15.out⟩
end Go.Proofs.YtgbcilokeiengaaDoor
