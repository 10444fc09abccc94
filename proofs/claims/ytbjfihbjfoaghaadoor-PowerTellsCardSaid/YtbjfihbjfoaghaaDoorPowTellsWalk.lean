/- The walk of the law on what is told of sets. -/
import Derived.Test.YtbjfihbjfoaghaaDoorPowBoth
import Derived.Test.YtbjfihbjfoaghaaDoorPowRefBoth
import Derived.Test.YtbjfihbjfoaghaaDoorPowWorks
import Derived.Test.YtbjfihbjfoaghaaDoorBookLend
import Derived.Test.YtbjfihbjfoaghaaDoorBookMems
namespace Go.Proofs.YtbjfihbjfoaghaaDoor
open Go.RowKit
open Go.Proofs.YtbjfihbjfoaghaaDoor.Pw (M)

theorem row_zero (w : World) (n : Nat) (hn : n = w.heap.size) : (w.alloc (.cells #[] 43)).ownsRow n 43 2 (.slice (some ⟨n, 0, none⟩) 0 0) 0 [] := by
  subst hn
  exact ⟨rfl, Or.inr ⟨w.heap.size, 0, #[], rfl, Nat.le_refl _, heap_new_at _ _ _ rfl, Nat.le_refl _, Nat.zero_le _, rfl, rfl⟩⟩

set_option maxRecDepth 8000 in
set_option maxHeartbeats 4000000 in
theorem tells_main (u v z : Value) (L : List M) (a b : List (List UInt8)) (w : World) (hL : Mems w u L) (ha : Strs w v a) (hb : Strs w z b) (hT : Tab w)
    (hl : L.length ≤ 1000) (hla : a.length ≤ 50) (hlb : b.length ≤ 50) (ha2 : ∀ s ∈ a, s.length ≤ 140737488351232) (hb2 : ∀ s ∈ b, s.length ≤ 140737488351232) :
    Calls Tryd.prog 3 #[u, v, z] w fun e w' => e = .returned (.bool true) ∧ Below w.heap.size w w' := by
  have HL := Lib.hid hL
  have HA := Lib.hid ha
  have HB := Lib.hid hb
  have HT := Lib.hid hT
  have hla' : a.length ≤ 1000000 := by omega
  have hlb' : b.length ≤ 1000000 := by omega
  have hll' : L.length ≤ 1000000 := by omega
  have HLA := Lib.hid (fun w h => lend_any a v w h hla')
  have HLB := Lib.hid (fun w h => lend_any b z w h hlb')
  have H2 := Lib.hid (fun x y w h1 h2 => both_any a b x y w h1 h2 ha2 hb2 hla' hlb')
  have H3 := Lib.hid (fun x w h => check_any L x w h)
  have H4 := Lib.hid (fun x w h => rcheck_any L x w h)
  have H5 := Lib.hid (fun x w h => total_any L x w h)
  have H6 := Lib.hid (fun x w h => rtotal_any L x w h)
  have H7 := Lib.hid (fun x w h => quorum_any L x w h)
  have H8 := Lib.hid (fun x w h => rquorum_any L x w h)
  have H9 := Lib.hid (fun x w h => most_any L x w h)
  have H10 := Lib.hid (fun x w h => rmost_any L x w h)
  have H11 := Lib.hid (fun x y w h1 h2 => of_any L x a y w h1 h2 ha2 hla')
  have H12 := Lib.hid (fun x y w h1 h2 => rof_any L x a y w h1 h2 hla')
  have H13 := Lib.hid (fun x y w h1 h2 => rboth_any a b x y w h1 h2 hla' hlb')
  have HOL : Hid ((Pw.both a b).length ≤ 1000000) := Lib.hid (by have := Pw.both_length a b; omega)
  unfold LendPost at HLA HLB
  unfold BothPost at H2
  unfold BothPostR at H13
  obtain ⟨O, hO⟩ : ∃ O, Pw.both a b = O := ⟨_, rfl⟩
  rw [hO] at H2 H13 HOL
  obtain ⟨C, hC⟩ : ∃ C, Pw.checkC L = C := ⟨_, rfl⟩
  obtain ⟨T, hTT⟩ : ∃ T, Pw.tot L = T := ⟨_, rfl⟩
  obtain ⟨U, hU⟩ : ∃ U, Pw.quo L = U := ⟨_, rfl⟩
  obtain ⟨V, hV⟩ : ∃ V, Pw.mos L = V := ⟨_, rfl⟩
  obtain ⟨X, hX⟩ : ∃ X, Pw.ofL L a = X := ⟨_, rfl⟩
  rw [hC] at H3 H4
  rw [hTT] at H5 H6
  rw [hU] at H7 H8
  rw [hV] at H9 H10
  rw [hX] at H11 H12
  have hb0 : Below w.heap.size w (w.alloc (.cells #[] 43)) := (Below.refl _ w).alloc (Nat.le_refl _) _
  obtain ⟨v1, w1, hrun1, hown1, hgrow1, hat1⟩ := append_mems (hL.below hb0) (row_zero w w.heap.size rfl) (by omega) (by simp)
  simp only [Nat.zero_add, List.nil_append] at hown1
  have HO1 : Hid (OwnM w1 w.heap.size v1 L) := Lib.hid hown1
  have HB1 : Hid (Below w.heap.size w w1) := Lib.hid (by
    have h3 : Out (fun j => (Value.slice (some ⟨w.heap.size, 0, none⟩) 0 0).ownBlock = some j) w w1 := (Out.of hb0).trans (Out.grown hgrow1 (fun _ e => e))
    exact h3.below (fun j hj => by simp [Value.ownBlock] at hj; omega) (Nat.le_refl _))
  have HR1 := Lib.hid hrun1
  obtain ⟨Au, cu, rfl⟩ := hL.form
  obtain ⟨Aa, ca, rfl, -⟩ := ha
  obtain ⟨Ab, cb, rfl, -⟩ := hb
  obtain ⟨A1, cap1, rfl⟩ := own_form hown1
  have l1 : ¬ ((50 : Int) < (a.length : Int)) := by omega
  have l2 : ¬ ((50 : Int) < (b.length : Int)) := by omega
  have l3 : ¬ ((1000 : Int) < (L.length : Int)) := by omega
  clear hO hC hTT hU hV hX hL hT ha2 hb2 hrun1 hown1 hgrow1 hat1 hb0
  go_enter Tryd.func3, Tryd.ntmps3
  go_wp2_with (at_builtin; refine wpList_append_run rfl _ _ _ rfl (.slice (some ⟨w.heap.size, 0, none⟩) 0 0) (.slice Au L.length cu) _ (by rfl) (by rfl) HR1.out ?_)
  refine (HLA.out _ (HA.out.below HB1.out)).mono ?_
  rintro e w2 ⟨x, rfl, hx, hb2⟩
  have HB2 := Lib.hid (bchain HB1.out hb2)
  have HX2 := Lib.hid hx
  have HO2 := Lib.hid (HO1.out.below hb2)
  clear hb2 hx
  go_wp2_with fail
  refine (HLB.out _ (HB.out.below HB2.out)).mono ?_
  rintro e w3 ⟨y, rfl, hy, hb3⟩
  have HB3 := Lib.hid (bchain HB2.out hb3)
  have HX3 := Lib.hid (HX2.out.below hb3)
  have HO3 := Lib.hid (HO2.out.below hb3)
  have HY3 := Lib.hid hy
  clear hb3 hy
  have HLW : Hid (∀ w', Below w3.heap.size w3 w' → Below w.heap.size w w') := Lib.hid (fun w' h => HB3.out.trans (h.mono HB3.out.size))
  go_wp2_with fail
  refine (H2.out _ _ _ HX3.out.strs HY3.out.strs).mono ?_
  rintro e w4 ⟨o, rfl, ho, hb4⟩
  have HC4 := Lib.hid hb4
  have HO4 := Lib.hid ho
  have HD4 := Lib.hid (Below.refl w4.heap.size w4)
  obtain ⟨Ao, co, rfl⟩ := own_form ho
  clear hb4 ho
  go_wp2_with fail
  refine (H3.out _ _ (HO3.out.below HC4.out).mems).mono ?_
  rintro e w5 ⟨rfl, hb5⟩
  have HC5 := Lib.hid (bchain HC4.out hb5)
  have HD5 := Lib.hid (bchain HD4.out hb5)
  clear hb5
  go_wp2_with fail
  refine (H4.out _ _ (HL.out.below (HLW.out _ HC5.out))).mono ?_
  rintro e w6 ⟨rfl, hb6⟩
  have HC6 := Lib.hid (bchain HC5.out hb6)
  have HD6 := Lib.hid (bchain HD5.out hb6)
  clear hb6
  go_wp2_with fail
  refine (H5.out _ _ (HO3.out.below HC6.out).mems).mono ?_
  rintro e w7 ⟨rfl, hb7⟩
  have HC7 := Lib.hid (bchain HC6.out hb7)
  have HD7 := Lib.hid (bchain HD6.out hb7)
  clear hb7
  go_wp2_with fail
  refine (H6.out _ _ (HL.out.below (HLW.out _ HC7.out))).mono ?_
  rintro e w8 ⟨rfl, hb8⟩
  have HC8 := Lib.hid (bchain HC7.out hb8)
  have HD8 := Lib.hid (bchain HD7.out hb8)
  clear hb8
  go_wp2_with fail
  refine (H7.out _ _ (HO3.out.below HC8.out).mems).mono ?_
  rintro e w9 ⟨rfl, hb9⟩
  have HC9 := Lib.hid (bchain HC8.out hb9)
  have HD9 := Lib.hid (bchain HD8.out hb9)
  clear hb9
  go_wp2_with fail
  refine (H8.out _ _ (HL.out.below (HLW.out _ HC9.out))).mono ?_
  rintro e w10 ⟨rfl, hb10⟩
  have HC10 := Lib.hid (bchain HC9.out hb10)
  have HD10 := Lib.hid (bchain HD9.out hb10)
  clear hb10
  go_wp2_with fail
  refine (H9.out _ _ (HO3.out.below HC10.out).mems).mono ?_
  rintro e w11 ⟨rfl, hb11⟩
  have HC11 := Lib.hid (bchain HC10.out hb11)
  have HD11 := Lib.hid (bchain HD10.out hb11)
  clear hb11
  go_wp2_with fail
  refine (H10.out _ _ (HL.out.below (HLW.out _ HC11.out))).mono ?_
  rintro e w12 ⟨rfl, hb12⟩
  have HC12 := Lib.hid (bchain HC11.out hb12)
  have HD12 := Lib.hid (bchain HD11.out hb12)
  clear hb12
  go_wp2_with fail
  refine (H11.out _ _ _ (HO3.out.below HC12.out).mems (HX3.out.below HC12.out).strs).mono ?_
  rintro e w13 ⟨rfl, hb13⟩
  have HC13 := Lib.hid (bchain HC12.out hb13)
  have HD13 := Lib.hid (bchain HD12.out hb13)
  clear hb13
  go_wp2_with fail
  refine (H12.out _ _ _ (HL.out.below (HLW.out _ HC13.out)) (HA.out.below (HLW.out _ HC13.out))).mono ?_
  rintro e w14 ⟨rfl, hb14⟩
  have HC14 := Lib.hid (bchain HC13.out hb14)
  have HD14 := Lib.hid (bchain HD13.out hb14)
  have HS : Hid (w3.heap.size ≤ w4.heap.size) := Lib.hid HC4.out.size
  clear hb14
  go_wp2_with fail
  refine (H13.out _ _ _ (HA.out.below (HLW.out _ HC14.out)) (HB.out.below (HLW.out _ HC14.out))).mono ?_
  rintro e w15 ⟨q, rfl, hq, hb15⟩
  have HC15 := Lib.hid (bchain HC14.out hb15)
  have HO15 := Lib.hid (HO4.out.below (bchain HD14.out hb15))
  have HQ15 := Lib.hid hq.strs
  obtain ⟨Aq, cq, rfl⟩ := own_form hq
  clear hb15 hq
  have HST := Lib.hid (same_any O O _ _ w15 HO15.out.strs HQ15.out (by have := HOL.out; omega) (by have := HOL.out; unfold maxLen; omega))
  rw [show decide (O = O) = true from decide_eq_true rfl] at HST
  go_wp2_with fail
  refine HST.out.mono ?_
  rintro e w16 ⟨rfl, hb16⟩
  have HC16 := Lib.hid (bchain HC15.out hb16)
  have HO16 := Lib.hid (HO15.out.below hb16)
  clear hb16
  go_wp2_with fail
  refine (spoilTexts_any O _ _ w16 HO16.out HOL.out).mono ?_
  rintro e w17 ⟨rfl, hb17⟩
  have HC17 := Lib.hid (HC16.out.trans hb17)
  clear hb17
  go_wp2_with fail
  refine (kept_any a _ _ _ w17 (HX3.out.below HC17.out) (HA.out.below (HLW.out _ HC17.out)) hla').mono ?_
  rintro e w18 ⟨rfl, hb18⟩
  have HC18 := Lib.hid (HC17.out.trans (hb18.mono HC17.out.size))
  clear hb18
  go_wp2_with fail
  refine (kept_any b _ _ _ w18 (HY3.out.below HC18.out) (HB.out.below (HLW.out _ HC18.out)) hlb').mono ?_
  rintro e w19 ⟨rfl, hb19⟩
  have HC19 := Lib.hid (HC18.out.trans (hb19.mono HC18.out.size))
  clear hb19
  have HSM := Lib.hid (sameM_any L L _ _ w19 (HO3.out.below HC19.out).mems (HL.out.below (HLW.out _ HC19.out)) hll' hll')
  rw [show decide (L = L) = true from decide_eq_true rfl] at HSM
  go_wp2_with fail
  refine HSM.out.mono ?_
  rintro e w20 ⟨rfl, hb20⟩
  have HC20 := Lib.hid (HC19.out.trans (hb20.mono HC19.out.size))
  clear hb20
  go_wp2_with fail
  refine (works_any _ (HT.out.below (HLW.out _ HC20.out))).mono ?_
  rintro e w21 ⟨rfl, hb21⟩
  have HC21 := Lib.hid (HC20.out.trans (hb21.mono HC20.out.size))
  clear hb21
  go_wp2
  go_ret
  exact ⟨rfl, HLW.out _ HC21.out⟩

set_option maxRecDepth 8000 in
set_option maxHeartbeats 1000000 in
theorem tells_walk (u : Value) (L : List M) (v : Value) (a : List (List UInt8)) (z : Value) (b : List (List UInt8)) (w : World) (hL : Mems w u L) (_ : L.length * 24 ≤ reachBytes) (_ : ∀ m ∈ L, OkMem m)
    (ha : Strs w v a) (_ : a.length * 16 ≤ reachBytes) (ha2 : ∀ s ∈ a, s.length ≤ 140737488351232) (hb : Strs w z b) (_ : b.length * 16 ≤ reachBytes) (hb2 : ∀ s ∈ b, s.length ≤ 140737488351232) (hT : Tab w) :
    Calls Tryd.prog 3 #[u, v, z] w fun e w' => e = .returned (.bool true) ∧ Below w.heap.size w w' := by
  by_cases h1 : a.length ≤ 50
  · by_cases h2 : b.length ≤ 50
    · by_cases h3 : L.length ≤ 1000
      · exact tells_main u v z L a b w hL ha hb hT h3 h1 h2 ha2 hb2
      · have l1 : ¬ ((50 : Int) < (a.length : Int)) := by omega
        have l2 : ¬ ((50 : Int) < (b.length : Int)) := by omega
        have l3 : (1000 : Int) < (L.length : Int) := by omega
        obtain ⟨Au, cu, rfl⟩ := hL.form
        obtain ⟨Aa, ca, rfl, -⟩ := ha
        obtain ⟨Ab, cb, rfl, -⟩ := hb
        go_enter Tryd.func3, Tryd.ntmps3
        go_wp2_with fail
        refine (works_any _ hT).mono ?_
        rintro e w9 ⟨rfl, hb9⟩
        go_wp2
        go_ret
        exact ⟨rfl, hb9⟩
    · have l1 : ¬ ((50 : Int) < (a.length : Int)) := by omega
      have l2 : (50 : Int) < (b.length : Int) := by omega
      obtain ⟨Aa, ca, rfl, -⟩ := ha
      obtain ⟨Ab, cb, rfl, -⟩ := hb
      go_enter Tryd.func3, Tryd.ntmps3
      go_wp2_with fail
      refine (works_any _ hT).mono ?_
      rintro e w9 ⟨rfl, hb9⟩
      go_wp2
      go_ret
      exact ⟨rfl, hb9⟩
  · have l1 : (50 : Int) < (a.length : Int) := by omega
    obtain ⟨Aa, ca, rfl, -⟩ := ha
    go_enter Tryd.func3, Tryd.ntmps3
    go_wp2_with fail
    refine (works_any _ hT).mono ?_
    rintro e w9 ⟨rfl, hb9⟩
    go_wp2
    go_ret
    exact ⟨rfl, hb9⟩
end Go.Proofs.YtbjfihbjfoaghaaDoor
