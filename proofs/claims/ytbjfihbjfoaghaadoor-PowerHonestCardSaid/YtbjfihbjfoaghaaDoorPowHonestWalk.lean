/- The walk of the law on those who are faulty and the others. -/
import Derived.Test.YtbjfihbjfoaghaaDoorPowOverMath
import Derived.Test.YtbjfihbjfoaghaaDoorPowBoth
import Derived.Test.YtbjfihbjfoaghaaDoorPowWorks
import Derived.Test.YtbjfihbjfoaghaaDoorAppendArg
namespace Go.Proofs.YtbjfihbjfoaghaaDoor
open Go.RowKit
open Go.Proofs.YtbjfihbjfoaghaaDoor.Pw (M)

/-- Two rows of texts of the call's own, apart. -/
structure TwoRows (w : World) (B : Nat) (g t : Value) (G T : List (List UInt8)) : Prop where
  rowg : Own w B g G
  rowt : Own w B t T
  apart : ∀ k, g.ownBlock = some k → t.ownBlock ≠ some k
theorem own_keep {F : Nat → Prop} {w w' : World} {B : Nat} {s : Value} {L : List (List UInt8)} (h : Own w B s L) (ho : Out F w w') (hd : ∀ k, s.ownBlock = some k → ¬ F k) : Own w' B s L := by
  refine ⟨h.1, ?_⟩
  rcases h.2 with hn | ⟨k, cap, cur, hv, hb, hk, hr⟩
  · exact Or.inl hn
  · exact Or.inr ⟨k, cap, cur, hv, hb, ho.heap hk (hd k (by rw [hv]; rfl)), hr⟩
theorem TwoRows.below {w w' : World} {B : Nat} {g t : Value} {G T : List (List UInt8)} (h : TwoRows w B g t G T) (hb : Below w.heap.size w w') : TwoRows w' B g t G T :=
  ⟨h.rowg.below hb, h.rowt.below hb, h.apart⟩
theorem TwoRows.growG {w w' : World} {B : Nat} {g g' t : Value} {G G' T : List (List UInt8)} (h : TwoRows w B g t G T) (hg : w.grownBy w' g.ownBlock) (hr : Own w' B g' G') (hat : ∀ k, g'.ownBlock = some k → g.ownBlock = some k ∨ w.heap.size ≤ k) : TwoRows w' B g' t G' T where
  rowg := hr
  rowt := own_keep h.rowt (Out.grown hg (F := fun k => g.ownBlock = some k) (fun _ e => e)) (fun k hk hgk => h.apart k hgk hk)
  apart := fun k hk ht => by
    rcases hat k hk with h1 | h1
    · exact h.apart k h1 ht
    · have := (h.rowt.lt k ht).2
      omega
theorem TwoRows.growT {w w' : World} {B : Nat} {g t t' : Value} {G T T' : List (List UInt8)} (h : TwoRows w B g t G T) (hg : w.grownBy w' t.ownBlock) (hr : Own w' B t' T') (hat : ∀ k, t'.ownBlock = some k → t.ownBlock = some k ∨ w.heap.size ≤ k) : TwoRows w' B g t' G T' where
  rowg := own_keep h.rowg (Out.grown hg (F := fun k => t.ownBlock = some k) (fun _ e => e)) (fun k hk htk => h.apart k hk htk)
  rowt := hr
  apart := fun k hk ht => by
    rcases hat k ht with h1 | h1
    · exact h.apart k hk h1
    · have := (h.rowg.lt k hk).2
      omega
theorem own_bel {w w' : World} {B : Nat} {s : Value} {L : List (List UInt8)} (h : Own w B s L) (hg : w.grownBy w' s.ownBlock) (hB : B ≤ w.heap.size) : Below B w w' :=
  (Out.grown hg (F := fun k => s.ownBlock = some k) (fun _ e => e)).below (fun j hj => (h.lt j hj).1) hB
theorem strs_one (w : World) (x : List UInt8) (n : Nat) (hn : n = w.heap.size) : Strs (w.alloc (.cells #[.string ⟨x.toArray⟩] 9)) (.slice (some ⟨n, 0, none⟩) 1 1) [x] := by
  subst hn
  refine ⟨_, 1, rfl, fun i hi => ⟨_, rfl, ?_⟩⟩
  rw [Addr.add_mid, Nat.zero_add, cell_of_row _ _ _ _ _ _ (heap_new_at w _ _ rfl)]
  match i, hi with
  | 0, _ => rfl
/-- The end of a round of the list of those that they have in common with some. -/
theorem met_step {w : World} {B : Nat} {g t v : Value} {G T O : List (List UInt8)} (h : TwoRows w B g t G T) (hv : Strs w v O) (hl : T.length + O.length ≤ 1000000) (hB : B ≤ w.heap.size) :
    ∃ t' w', (Builtin.append_ #[23, 23] 23 #[t, v]).run Tryd.prog w = .ok t' w' ∧ TwoRows w' B g t' G (T ++ O) ∧ Below B w w' := by
  obtain ⟨t', w', h1, h2, h3, h4⟩ := append_strs hv h.rowt hl hB
  have hown : Own w' B t' (T ++ O) := by
    unfold Own
    rw [scells_append, List.length_append]
    exact h2
  exact ⟨t', w', h1, h.growT h3 hown (fun k hk => by
    rcases h4 with h5 | h5
    · exact Or.inl (by rw [← h5]; exact hk)
    · rw [h5] at hk
      simp at hk
      exact Or.inr (by omega)), own_bel h.rowt h3 hB⟩

set_option maxRecDepth 8000 in
set_option maxHeartbeats 4000000 in
theorem honest_main (u v z : Value) (L : List M) (bad some' : List (List UInt8)) (w : World) (hL : Mems w u L) (ha : Strs w v bad) (hb : Strs w z some') (hT : Tab w) (hok : Pw.okL L = true)
    (hla : bad.length ≤ 50) (hlb : some'.length ≤ 50) (ha2 : ∀ s ∈ bad, s.length ≤ 140737488351232) (hb2 : ∀ s ∈ some', s.length ≤ 140737488351232) (hbad : Pw.ofL L bad ≤ Pw.mos L) :
    Calls Tryd.prog 6 #[u, v, z] w fun e w' => e = .returned (.bool true) ∧ Below w.heap.size w w' := by
  obtain ⟨i0, hi, hz0, hz1, hz2⟩ := info_parts Tryd.infoStr
  have HL := Lib.hid hL
  have HA := Lib.hid ha
  have HB := Lib.hid hb
  have HW := Lib.hid (works_any w hT)
  have H1 := Lib.hid (fun w h => check_any L u w h)
  rw [Pw.checkC_ok hok] at H1
  have H2 := Lib.hid (fun x (hx : x.length ≤ 140737488351232) y w h1 h2 => both_any [x] bad y v w h1 h2 (by intro s hs; simp at hs; subst hs; exact hx) ha2 (by simp) (by omega))
  have H3 := Lib.hid (fun x (hx : x.length ≤ 140737488351232) y w h1 h2 => both_any [x] some' y z w h1 h2 (by intro s hs; simp at hs; subst hs; exact hx) hb2 (by simp) (by omega))
  have H4 := Lib.hid (fun w h1 h2 => of_any L u bad v w h1 h2 ha2 (by omega))
  have H5 := Lib.hid (fun w h1 h2 => of_any L u some' z w h1 h2 hb2 (by omega))
  have H6 := Lib.hid (fun w h => quorum_any L u w h)
  have H7 := Lib.hid (fun w h => most_any L u w h)
  have H8 := Lib.hid (fun w h => total_any L u w h)
  have HNM := Lib.hid (Pw.okL_mem hok)
  have hl7 := (Pw.okL_len hok).2
  have H9 := Lib.hid (fun y w h1 h2 => of_any L u (Pw.good L bad) y w h1 h2 (fun s hs => by
    obtain ⟨⟨m, hm, rfl⟩, _⟩ := (Pw.good_mem L bad s).1 hs
    have := (HNM.out m hm).2.1
    omega) (by have := Pw.good_length L bad; omega))
  have q4 := (Pw.tot_range L).1
  have q5 := Pw.pick_le_tot hok (Pw.good L bad)
  have q6 := Pw.pick_le_tot hok some'
  obtain ⟨i1, i2, i3, i4⟩ := Pw.others hok bad some' hbad
  have HML := Lib.hid (Pw.met_length L bad some')
  have HGT := Lib.hid (Pw.good_take L bad)
  have HMT := Lib.hid (Pw.met_take L bad some')
  have HGL := Lib.hid (fun k => Pw.good_length (L.take k) bad)
  have HMLk := Lib.hid (fun k => Pw.met_length (L.take k) bad some')
  unfold BothPost at H2 H3
  obtain ⟨X, hX⟩ : ∃ X, Pw.ofL L bad = X := ⟨_, rfl⟩
  obtain ⟨Y, hY⟩ : ∃ Y, Pw.ofL L some' = Y := ⟨_, rfl⟩
  obtain ⟨Z, hZ⟩ : ∃ Z, Pw.ofL L (Pw.good L bad) = Z := ⟨_, rfl⟩
  obtain ⟨U, hU⟩ : ∃ U, Pw.quo L = U := ⟨_, rfl⟩
  obtain ⟨V, hV⟩ : ∃ V, Pw.mos L = V := ⟨_, rfl⟩
  obtain ⟨T, hTT⟩ : ∃ T, Pw.tot L = T := ⟨_, rfl⟩
  rw [hX] at H4 hbad
  rw [hY] at H5 i2 q6
  rw [hZ] at H9 i1 q5
  rw [hU] at H6 i1 i4
  rw [hV] at H7 hbad i2 i3
  rw [hTT] at H8 q4 q5 q6 i3 i4
  obtain ⟨Au, cu, rfl⟩ := hL.form
  obtain ⟨Aa, ca, rfl, -⟩ := ha
  obtain ⟨Ab, cb, rfl, -⟩ := hb
  have l1 : decide ((50 : Int) < (bad.length : Int)) = false := decide_eq_false (by omega)
  have l2 : decide ((50 : Int) < (some'.length : Int)) = false := decide_eq_false (by omega)
  have l3 : decide (V < X) = false := decide_eq_false (by omega)
  have l4 : ¬ (V < X) := by omega
  have I := Lib.hid (And.intro i1 (And.intro i2 (And.intro i3 i4)))
  clear hX hY hZ hU hV hTT hL hT hok ha2 hb2 i1 i2 i3 i4 hbad
  go_enter Tryd.func6, Tryd.ntmps6
  go_wp2_with fail
  refine HW.out.mono ?_
  rintro e w1 ⟨rfl, hb1⟩
  have HB1 := Lib.hid hb1
  clear hb1
  go_wp2_with fail
  refine (H1.out _ (HL.out.below HB1.out)).mono ?_
  rintro e w2 ⟨rfl, hb2⟩
  have HB2 := Lib.hid (bchain HB1.out hb2)
  clear hb2
  go_wp2_with fail
  refine (H4.out _ (HL.out.below HB2.out) (HA.out.below HB2.out)).mono ?_
  rintro e w3 ⟨rfl, hb3⟩
  have HB3 := Lib.hid (bchain HB2.out hb3)
  clear hb3
  go_wp2_with fail
  refine (H7.out _ (HL.out.below HB3.out)).mono ?_
  rintro e w4 ⟨rfl, hb4⟩
  have HB4 := Lib.hid (bchain HB3.out hb4)
  clear hb4
  go_wp2
  go_loopw [7, 8, 36] (fun g t i wr => ∃ (k : Nat) (g' t' : Value), g' = g ∧ t' = t ∧ k ≤ L.length ∧ i = .int .i64 k ∧ TwoRows wr w.heap.size g' t' (Pw.good (L.take k) bad) (Pw.met (L.take k) bad some') ∧ Below w.heap.size w wr) (fun _ _ i _ => L.length - (intOf i).toNat)
  case atStart => exact ⟨0, _, _, rfl, rfl, Nat.zero_le _, rfl, ⟨Own.nil _ _, Own.nil _ _, fun k hk => by simp [Value.ownBlock] at hk⟩, HB4.out⟩
  case round =>
    obtain ⟨k, g, t, rfl, rfl, hk, rfl, htr, hb⟩ := hrel
    have HTR := Lib.hid htr
    have HBk := Lib.hid hb
    clear htr hb HB4 HB3 HB2 HB1 l1 l2 l3 l4
    by_cases hlt : k < L.length
    · have h1 : (k : Int) < (L.length : Int) := by omega
      have h0 : (0 : Int) ≤ (k : Int) := by omega
      obtain ⟨b, o, rfl, n0, n1⟩ := HL.out.at HBk.out k hlt
      have HG1 := Lib.hid (HGT.out k hlt)
      have HM1 := Lib.hid (HMT.out k hlt)
      have HX6 := Lib.hid (HNM.out L[k] (List.getElem_mem hlt)).2.1
      have HGk := Lib.hid (HGL.out k)
      have HMk := Lib.hid (HMLk.out k)
      obtain ⟨G, hG⟩ : ∃ G, Pw.good (L.take k) bad = G := ⟨_, rfl⟩
      obtain ⟨Q, hQ⟩ : ∃ Q, Pw.met (L.take k) bad some' = Q := ⟨_, rfl⟩
      obtain ⟨⟨x, q⟩, hm⟩ : ∃ m, L[k] = m := ⟨_, rfl⟩
      rw [hG, hm] at HG1
      rw [hQ, hm] at HM1
      rw [hG, hQ] at HTR
      rw [hG] at HGk
      rw [hQ] at HMk
      rw [hm] at n0 n1 HX6
      dsimp only at n0 n1 HG1 HM1 HX6
      have hx : x.length ≤ 140737488351232 := by have := HX6.out; omega
      have H2x := Lib.hid (H2.out x hx)
      have H3x := Lib.hid (H3.out x hx)
      have HO1 := Lib.hid (Pw.both_one x bad)
      have HLN : Hid (G.length ≤ 7 ∧ Q.length ≤ 7 ∧ (Pw.both [x] some').length ≤ 1) := Lib.hid (by
        have h5 := HGk.out
        have h6 := HMk.out
        have h7 := Pw.both_length [x] some'
        simp only [List.length_take] at h5 h6
        simp only [List.length_cons, List.length_nil] at h7
        omega)
      clear hG hQ hm hx
      have HWS : Hid (w.heap.size ≤ wr.heap.size) := Lib.hid HBk.out.size
      have hbm : Below wr.heap.size wr ((wr.alloc (.cells #[.string ⟨x.toArray⟩, .int .i64 q] 43)).alloc (.cells #[.string ⟨x.toArray⟩] 9)) := ((Below.refl _ wr).alloc (Nat.le_refl _) _).alloc (by simp) _
      have HBM := Lib.hid hbm
      have HBOX : Hid (((wr.alloc (.cells #[.string ⟨x.toArray⟩, .int .i64 q] 43)).alloc (.cells #[.string ⟨x.toArray⟩] 9)).heap[wr.heap.size]? = some (.cells #[.string ⟨x.toArray⟩, .int .i64 q] 43 (0, 0))) := Lib.hid (heap_old_at _ (heap_new_at wr _ _ rfl))
      have HSX := Lib.hid (strs_one (wr.alloc (.cells #[.string ⟨x.toArray⟩, .int .i64 q] 43)) x (wr.heap.size + 1) (by simp))
      clear hbm
      go_wp2_with fail
      refine (H2x.out _ _ HSX.out (HA.out.below (bchain HBk.out HBM.out))).mono ?_
      rintro e w5 ⟨s, rfl, hs, hb5⟩
      have HC5 := Lib.hid (HBM.out.trans (hb5.mono HBM.out.size))
      have HBX5 := Lib.hid ((hb5.block _ (lt_of_heap HBOX.out)).trans HBOX.out)
      obtain ⟨As, cs, rfl⟩ := own_form hs
      obtain ⟨N, hN⟩ : ∃ N, (Pw.both [x] bad).length = N := ⟨_, rfl⟩
      rw [hN] at HO1
      rw [hN]
      have HTR5 := Lib.hid (HTR.out.below HC5.out)
      have HB5 := Lib.hid (bchain HBk.out HC5.out)
      have HMS : Hid (wr.heap.size < w5.heap.size) := Lib.hid (lt_of_heap HBX5.out)
      clear hs hb5 hN
      by_cases hN0 : N = 0
      · subst hN0
        have HXB : Hid (x ∉ bad) := Lib.hid (HO1.out.1 rfl)
        have HG2 : Hid (Pw.good (L.take (k + 1)) bad = G ++ [x]) := Lib.hid (by rw [HG1.out, if_neg HXB.out])
        have HM2 : Hid (Pw.met (L.take (k + 1)) bad some' = Q ++ Pw.both [x] some') := Lib.hid (by rw [HM1.out, if_neg HXB.out])
        have c5 : w5.cell? ⟨wr.heap.size, 0, none⟩ = some (.string ⟨x.toArray⟩) := cell_of_row _ _ _ _ _ _ HBX5.out
        have HGB : Hid (∀ j, g.ownBlock = some j → j < wr.heap.size) := Lib.hid (fun j hj => (HTR.out.rowg.lt j hj).2)
        have HBXF : Hid (∀ w6, (w5.alloc (.cells #[.string ⟨x.toArray⟩] 9)).grownBy w6 g.ownBlock → w6.heap[wr.heap.size]? = some (.cells #[.string ⟨x.toArray⟩, .int .i64 q] 43 (0, 0))) := Lib.hid (fun w6 hg => (Out.grown hg (F := fun j => g.ownBlock = some j) (fun _ e => e)).heap (heap_old_at _ HBX5.out) (fun e => absurd (HGB.out _ e) (by omega)))
        obtain ⟨Ag, cg, rfl⟩ := own_form HTR5.out.rowg
        go_wp2_with (at_builtin; refine wpList_append_lies _ rfl _ _ _ rfl w.heap.size 9 i0 (.string ⟨#[]⟩) 1 16 Tryd.underlying23 hi hz0 hz1 hz2 rfl (by decide) (.slice Ag G.length cg) G.length (scells G) (by rfl) (World.ownsRow.alloc HTR5.out.rowg _) ⟨w5.heap.size, 0, none⟩ 1 1 (scells [x]) (by rfl) rfl (World.news_of_block (heap_new_at _ _ _ rfl)) (by simp [scells, Value.oneCell']) (by decide) (by have := HLN.out; unfold maxLen; omega) (by have := HLN.out; omega) (by have := HB5.out.size; simp; omega) (w5.heap.size + 1) (by simp) ?_; intro g' cap' w6 hown6 hgrow6 hat6 hlt6; have c6 : w6.cell? ⟨wr.heap.size, 0, none⟩ = some (.string ⟨x.toArray⟩) := cell_of_row _ _ _ _ _ _ (HBXF.out w6 hgrow6))
        have hb50 : Below w5.heap.size w5 (w5.alloc (.cells #[.string ⟨x.toArray⟩] 9)) := (Below.refl _ w5).alloc (Nat.le_refl _) _
        have hown6' : Own w6 w.heap.size (.slice (some ⟨g', 0, none⟩) (G.length + 1) cap') (G ++ [x]) := by
          unfold Own
          rw [scells_append, List.length_append]
          exact hown6
        have HTR6 := Lib.hid ((HTR5.out.below hb50).growG hgrow6 hown6' (fun j hj => by
          simp [Value.ownBlock] at hj
          subst hj
          rcases hat6 with h | h
          · exact Or.inl h
          · exact Or.inr (by simp; omega)))
        have HB6 : Hid (Below w.heap.size w w6) := Lib.hid ((bchain HB5.out hb50).trans (own_bel (HTR5.out.below hb50).rowg hgrow6 (by have := HB5.out.size; simp; omega)))
        have hb60 : Below w6.heap.size w6 (w6.alloc (.cells #[.string ⟨x.toArray⟩] 9)) := (Below.refl _ w6).alloc (Nat.le_refl _) _
        have HB60 := Lib.hid hb60
        clear hown6 hgrow6 hat6 hown6' hb50 hb60
        refine (H3x.out _ _ (strs_one w6 x _ rfl) (HB.out.below (bchain HB6.out HB60.out))).mono ?_
        rintro e w7 ⟨s2, rfl, hs2, hb7⟩
        have HTR7 := Lib.hid ((HTR6.out.below HB60.out).below hb7)
        have HB7 := Lib.hid (bchain (bchain HB6.out HB60.out) hb7)
        obtain ⟨t8, w8, hrun8, htr8, hb8⟩ := met_step HTR7.out hs2.strs (by have := HLN.out; omega) HB7.out.size
        have HTR8 := Lib.hid htr8
        have HB8 := Lib.hid (HB7.out.trans hb8)
        have HR8 := Lib.hid hrun8
        clear hs2 hb7 hrun8 htr8 hb8 c5 c6
        go_wp2_with (at_builtin; refine wpList_append_run rfl _ _ _ rfl t s2 _ (by rfl) (by rfl) HR8.out ?_)
        exact ⟨⟨k + 1, _, _, rfl, rfl, by omega, by go_num, by rw [HG2.out, HM2.out]; exact HTR8.out, HB8.out⟩, by simp [intOf]; omega⟩
      · have hN1 : ((N : Int) == 0) = false := by rw [beq_eq_false_iff_ne]; omega
        have HXB : Hid (x ∈ bad) := Lib.hid (by
          by_cases h : x ∈ bad
          · exact h
          · exact absurd (HO1.out.2 h) hN0)
        have HG2 : Hid (Pw.good (L.take (k + 1)) bad = G) := Lib.hid (by rw [HG1.out, if_pos HXB.out])
        have HM2 : Hid (Pw.met (L.take (k + 1)) bad some' = Q) := Lib.hid (by rw [HM1.out, if_pos HXB.out])
        clear hN0
        go_wp2
        exact ⟨⟨k + 1, _, _, rfl, rfl, by omega, by go_num, by rw [HG2.out, HM2.out]; exact HTR5.out, HB5.out⟩, by simp [intOf]; omega⟩
    · have h1 : ¬ ((k : Int) < (L.length : Int)) := by omega
      obtain rfl : k = L.length := by omega
      have HTRL : Hid (TwoRows wr w.heap.size g t (Pw.good L bad) (Pw.met L bad some')) := Lib.hid (by have := HTR.out; rwa [List.take_length] at this)
      obtain ⟨j1, j2, j3, j4⟩ := I.out
      obtain ⟨Ag, cg, rfl⟩ := own_form HTRL.out.rowg
      obtain ⟨At, ct, rfl⟩ := own_form HTRL.out.rowt
      obtain ⟨n, hn⟩ : ∃ n, (Pw.met L bad some').length = n := ⟨_, rfl⟩
      rw [hn] at j2
      have k1 : (U : Int) ≤ (Z : Int) := by omega
      have k3 : 3 * (V : Int) < (T : Int) := by omega
      have k4 : 2 * (T : Int) < 3 * (U : Int) := by omega
      have k5 : (U : Int) ≤ 7000 := by omega
      have HG9 := Lib.hid HTRL.out.rowg.strs
      have hgl : (Pw.good L bad).length ≤ 7 := by have := Pw.good_length L bad; omega
      clear HTR HTRL
      rw [hn]
      go_wp2_with fail
      refine (H9.out _ _ (HL.out.below HBk.out) HG9.out).mono ?_
      rintro e w5 ⟨rfl, hb5⟩
      have HB5 := Lib.hid (bchain HBk.out hb5)
      clear hb5
      go_wp2_with fail
      refine (H6.out _ (HL.out.below HB5.out)).mono ?_
      rintro e w6 ⟨rfl, hb6⟩
      have HB6 := Lib.hid (bchain HB5.out hb6)
      clear hb6
      go_wp2_with fail
      refine (H5.out _ (HL.out.below HB6.out) (HB.out.below HB6.out)).mono ?_
      rintro e w7 ⟨rfl, hb7⟩
      have HB7 := Lib.hid (bchain HB6.out hb7)
      clear hb7
      go_wp2_with fail
      refine (H7.out _ (HL.out.below HB7.out)).mono ?_
      rintro e w8 ⟨rfl, hb8⟩
      have HB8 := Lib.hid (bchain HB7.out hb8)
      clear hb8
      by_cases hYV : Y ≤ V
      · have hYV' : (Y : Int) ≤ (V : Int) := by omega
        go_wp2_with fail
        refine (H7.out _ (HL.out.below HB8.out)).mono ?_
        rintro e w9 ⟨rfl, hb9⟩
        have HB9 := Lib.hid (bchain HB8.out hb9)
        clear hb9
        go_wp2_with fail
        refine (H8.out _ (HL.out.below HB9.out)).mono ?_
        rintro e wa ⟨rfl, hba⟩
        have HBa := Lib.hid (bchain HB9.out hba)
        clear hba
        go_wp2_with fail
        refine (H6.out _ (HL.out.below HBa.out)).mono ?_
        rintro e wb ⟨rfl, hbb⟩
        have HBb := Lib.hid (bchain HBa.out hbb)
        clear hbb
        go_wp2_with fail
        refine (H8.out _ (HL.out.below HBb.out)).mono ?_
        rintro e wc ⟨rfl, hbc⟩
        have HBc := Lib.hid (bchain HBb.out hbc)
        clear hbc
        go_wp2
        go_ret
        exact ⟨rfl, HBc.out⟩
      · have hYV' : ¬ ((Y : Int) ≤ (V : Int)) := by omega
        have hn0 : (0 : Int) < (n : Int) := by omega
        go_wp2_with fail
        refine (H7.out _ (HL.out.below HB8.out)).mono ?_
        rintro e w9 ⟨rfl, hb9⟩
        have HB9 := Lib.hid (bchain HB8.out hb9)
        clear hb9
        go_wp2_with fail
        refine (H8.out _ (HL.out.below HB9.out)).mono ?_
        rintro e wa ⟨rfl, hba⟩
        have HBa := Lib.hid (bchain HB9.out hba)
        clear hba
        go_wp2_with fail
        refine (H6.out _ (HL.out.below HBa.out)).mono ?_
        rintro e wb ⟨rfl, hbb⟩
        have HBb := Lib.hid (bchain HBa.out hbb)
        clear hbb
        go_wp2_with fail
        refine (H8.out _ (HL.out.below HBb.out)).mono ?_
        rintro e wc ⟨rfl, hbc⟩
        have HBc := Lib.hid (bchain HBb.out hbc)
        clear hbc
        go_wp2
        go_ret
        exact ⟨rfl, HBc.out⟩

set_option maxRecDepth 8000 in
set_option maxHeartbeats 1000000 in
theorem honest_walk (u : Value) (L : List M) (v : Value) (a : List (List UInt8)) (z : Value) (b : List (List UInt8)) (w : World) (hL : Mems w u L) (_ : L.length * 24 ≤ reachBytes) (_ : ∀ m ∈ L, OkMem m)
    (ha : Strs w v a) (_ : a.length * 16 ≤ reachBytes) (ha2 : ∀ s ∈ a, s.length ≤ 140737488351232) (hb : Strs w z b) (_ : b.length * 16 ≤ reachBytes) (hb2 : ∀ s ∈ b, s.length ≤ 140737488351232) (hT : Tab w) :
    Calls Tryd.prog 6 #[u, v, z] w fun e w' => e = .returned (.bool true) ∧ Below w.heap.size w w' := by
  have HW := Lib.hid (works_any w hT)
  have H1 := Lib.hid (fun w h => check_any L u w h)
  have HL := Lib.hid hL
  cases hok : Pw.okL L with
  | false =>
    rw [Pw.checkC_bad hok] at H1
    obtain ⟨Au, cu, rfl⟩ := hL.form
    clear hok hL hT
    go_enter Tryd.func6, Tryd.ntmps6
    go_wp2_with fail
    refine HW.out.mono ?_
    rintro e w1 ⟨rfl, hb1⟩
    go_wp2_with fail
    refine (H1.out _ (HL.out.below hb1)).mono ?_
    rintro e w2 ⟨rfl, hb2⟩
    go_wp2
    go_ret
    exact ⟨rfl, bchain hb1 hb2⟩
  | true =>
    rw [Pw.checkC_ok hok] at H1
    by_cases h1 : a.length ≤ 50
    · by_cases h2 : b.length ≤ 50
      · by_cases h3 : Pw.ofL L a ≤ Pw.mos L
        · exact honest_main u v z L a b w hL ha hb hT hok h1 h2 ha2 hb2 h3
        · have HA := Lib.hid ha
          have H4 := Lib.hid (fun w h1 h2 => of_any L u a v w h1 h2 ha2 (by omega))
          have H7 := Lib.hid (fun w h => most_any L u w h)
          obtain ⟨X, hX⟩ : ∃ X, Pw.ofL L a = X := ⟨_, rfl⟩
          obtain ⟨V, hV⟩ : ∃ V, Pw.mos L = V := ⟨_, rfl⟩
          rw [hX] at H4 h3
          rw [hV] at H7 h3
          have l1 : ¬ ((50 : Int) < (a.length : Int)) := by omega
          have l2 : ¬ ((50 : Int) < (b.length : Int)) := by omega
          have l3 : (V : Int) < (X : Int) := by omega
          obtain ⟨Au, cu, rfl⟩ := hL.form
          obtain ⟨Aa, ca, rfl, -⟩ := ha
          obtain ⟨Ab, cb, rfl, -⟩ := hb
          clear hok hL hT ha2 hb2 hX hV
          go_enter Tryd.func6, Tryd.ntmps6
          go_wp2_with fail
          refine HW.out.mono ?_
          rintro e w1 ⟨rfl, hb1⟩
          have HB1 := Lib.hid hb1
          clear hb1
          go_wp2_with fail
          refine (H1.out _ (HL.out.below HB1.out)).mono ?_
          rintro e w2 ⟨rfl, hb2⟩
          have HB2 := Lib.hid (bchain HB1.out hb2)
          clear hb2
          go_wp2_with fail
          refine (H4.out _ (HL.out.below HB2.out) (HA.out.below HB2.out)).mono ?_
          rintro e w3 ⟨rfl, hb3⟩
          have HB3 := Lib.hid (bchain HB2.out hb3)
          clear hb3
          go_wp2_with fail
          refine (H7.out _ (HL.out.below HB3.out)).mono ?_
          rintro e w4 ⟨rfl, hb4⟩
          have HB4 := Lib.hid (bchain HB3.out hb4)
          clear hb4
          go_wp2
          go_ret
          exact ⟨rfl, HB4.out⟩
      · have l1 : ¬ ((50 : Int) < (a.length : Int)) := by omega
        have l2 : (50 : Int) < (b.length : Int) := by omega
        obtain ⟨Au, cu, rfl⟩ := hL.form
        obtain ⟨Aa, ca, rfl, -⟩ := ha
        obtain ⟨Ab, cb, rfl, -⟩ := hb
        clear hok hL hT ha2 hb2
        go_enter Tryd.func6, Tryd.ntmps6
        go_wp2_with fail
        refine HW.out.mono ?_
        rintro e w1 ⟨rfl, hb1⟩
        go_wp2_with fail
        refine (H1.out _ (HL.out.below hb1)).mono ?_
        rintro e w2 ⟨rfl, hb2⟩
        go_wp2
        go_ret
        exact ⟨rfl, bchain hb1 hb2⟩
    · have l1 : (50 : Int) < (a.length : Int) := by omega
      obtain ⟨Au, cu, rfl⟩ := hL.form
      obtain ⟨Aa, ca, rfl, -⟩ := ha
      clear hok hL hT ha2 hb2
      go_enter Tryd.func6, Tryd.ntmps6
      go_wp2_with fail
      refine HW.out.mono ?_
      rintro e w1 ⟨rfl, hb1⟩
      go_wp2_with fail
      refine (H1.out _ (HL.out.below hb1)).mono ?_
      rintro e w2 ⟨rfl, hb2⟩
      go_wp2
      go_ret
      exact ⟨rfl, bchain hb1 hb2⟩
end Go.Proofs.YtbjfihbjfoaghaaDoor
