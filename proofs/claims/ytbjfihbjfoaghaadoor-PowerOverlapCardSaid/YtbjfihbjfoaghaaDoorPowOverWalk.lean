/- The walk of the law on two quorums. -/
import Derived.Test.YtbjfihbjfoaghaaDoorPowOverMath
import Derived.Test.YtbjfihbjfoaghaaDoorPowBoth
import Derived.Test.YtbjfihbjfoaghaaDoorPowWorks
namespace Go.Proofs.YtbjfihbjfoaghaaDoor
open Go.RowKit
open Go.Proofs.YtbjfihbjfoaghaaDoor.Pw (M)

set_option maxRecDepth 8000 in
set_option maxHeartbeats 2000000 in
theorem over_main (u v z : Value) (L : List M) (a b : List (List UInt8)) (w : World) (hL : Mems w u L) (ha : Strs w v a) (hb : Strs w z b) (hT : Tab w) (hok : Pw.okL L = true)
    (hla : a.length ≤ 50) (hlb : b.length ≤ 50) (ha2 : ∀ s ∈ a, s.length ≤ 140737488351232) (hb2 : ∀ s ∈ b, s.length ≤ 140737488351232) :
    Calls Tryd.prog 5 #[u, v, z] w fun e w' => e = .returned (.bool true) ∧ Below w.heap.size w w' := by
  have HL := Lib.hid hL
  have HA := Lib.hid ha
  have HB := Lib.hid hb
  have HW := Lib.hid (works_any w hT)
  have H1 := Lib.hid (fun w h => check_any L u w h)
  rw [Pw.checkC_ok hok] at H1
  have H2 := Lib.hid (fun w h1 h2 => both_any a b v z w h1 h2 ha2 hb2 (by omega) (by omega))
  have H3 := Lib.hid (fun s w h1 h2 => of_any L u (Pw.both a b) s w h1 h2 (fun x hx => ha2 x ((Pw.both_mem a b x).1 hx).1) (by have := Pw.both_length a b; omega))
  have H4 := Lib.hid (fun w h1 h2 => of_any L u a v w h1 h2 ha2 (by omega))
  have H5 := Lib.hid (fun w h1 h2 => of_any L u b z w h1 h2 hb2 (by omega))
  have H6 := Lib.hid (fun w h => quorum_any L u w h)
  have H7 := Lib.hid (fun w h => most_any L u w h)
  have H8 := Lib.hid (fun w h => total_any L u w h)
  unfold BothPost at H2
  have q1 := Pw.both_le_left hok a b
  have q2 := Pw.both_le_right hok a b
  have Q3 := Lib.hid (Pw.quorums hok a b)
  have q4 := (Pw.tot_range L).1
  have q5 := Pw.pick_le_tot hok (Pw.both a b)
  obtain ⟨O, hO⟩ : ∃ O, Pw.both a b = O := ⟨_, rfl⟩
  rw [hO] at H2 H3 q1 q2 Q3 q5
  obtain ⟨K, hK⟩ : ∃ K, Pw.ofL L O = K := ⟨_, rfl⟩
  obtain ⟨X, hX⟩ : ∃ X, Pw.ofL L a = X := ⟨_, rfl⟩
  obtain ⟨Y, hY⟩ : ∃ Y, Pw.ofL L b = Y := ⟨_, rfl⟩
  obtain ⟨U, hU⟩ : ∃ U, Pw.quo L = U := ⟨_, rfl⟩
  obtain ⟨V, hV⟩ : ∃ V, Pw.mos L = V := ⟨_, rfl⟩
  obtain ⟨T, hTT⟩ : ∃ T, Pw.tot L = T := ⟨_, rfl⟩
  rw [hK] at H3 q1 q2 Q3 q5
  rw [hX] at H4 q1 Q3
  rw [hY] at H5 q2 Q3
  rw [hU] at H6 Q3
  rw [hV] at H7 Q3
  rw [hTT] at H8 Q3 q4 q5
  obtain ⟨Au, cu, rfl⟩ := hL.form
  obtain ⟨Aa, ca, rfl, -⟩ := ha
  obtain ⟨Ab, cb, rfl, -⟩ := hb
  have l1 : ¬ ((50 : Int) < (a.length : Int)) := by omega
  have l2 : ¬ ((50 : Int) < (b.length : Int)) := by omega
  clear hO hK hX hY hU hV hTT hL hT hok ha2 hb2
  go_enter Tryd.func5, Tryd.ntmps5
  go_wp2_with fail
  refine HW.out.mono ?_
  rintro e w1 ⟨rfl, hb1⟩
  have HB1 := Lib.hid hb1
  clear hb1
  go_wp2_with fail
  refine (H1.out _ (HL.out.below HB1.out)).mono ?_
  rintro e w2 ⟨rfl, hb2⟩
  have HB2 := Lib.hid (bchain HB1.out hb2)
  clear hb2
  go_wp2_with fail
  refine (H2.out _ (HA.out.below HB2.out) (HB.out.below HB2.out)).mono ?_
  rintro e w3 ⟨s, rfl, hs, hb3⟩
  have HB3 := Lib.hid (bchain HB2.out hb3)
  have HS3 := Lib.hid hs.strs
  obtain ⟨As, cs, rfl⟩ := own_form hs
  clear hb3 hs
  go_wp2_with fail
  refine (H3.out _ _ (HL.out.below HB3.out) HS3.out).mono ?_
  rintro e w4 ⟨rfl, hb4⟩
  have HB4 := Lib.hid (bchain HB3.out hb4)
  clear hb4
  go_wp2_with fail
  refine (H4.out _ (HL.out.below HB4.out) (HA.out.below HB4.out)).mono ?_
  rintro e w5 ⟨rfl, hb5⟩
  have HB5 := Lib.hid (bchain HB4.out hb5)
  clear hb5
  go_wp2_with fail
  refine (H6.out _ (HL.out.below HB5.out)).mono ?_
  rintro e w6 ⟨rfl, hb6⟩
  have HB6 := Lib.hid (bchain HB5.out hb6)
  clear hb6
  by_cases hXU : X < U
  · have hXU' : (X : Int) < (U : Int) := by omega
    have i1 : (K : Int) ≤ (X : Int) := by omega
    have i2 : (K : Int) ≤ (Y : Int) := by omega
    go_wp2_with fail
    refine (H4.out _ (HL.out.below HB6.out) (HA.out.below HB6.out)).mono ?_
    rintro e w7 ⟨rfl, hb7⟩
    have HB7 := Lib.hid (bchain HB6.out hb7)
    clear hb7
    go_wp2_with fail
    refine (H5.out _ (HL.out.below HB7.out) (HB.out.below HB7.out)).mono ?_
    rintro e w8 ⟨rfl, hb8⟩
    have HB8 := Lib.hid (bchain HB7.out hb8)
    clear hb8
    go_wp2
    go_ret
    exact ⟨rfl, HB8.out⟩
  · have hXU' : ¬ ((X : Int) < (U : Int)) := by omega
    go_wp2_with fail
    refine (H5.out _ (HL.out.below HB6.out) (HB.out.below HB6.out)).mono ?_
    rintro e w7 ⟨rfl, hb7⟩
    have HB7 := Lib.hid (bchain HB6.out hb7)
    clear hb7
    go_wp2_with fail
    refine (H6.out _ (HL.out.below HB7.out)).mono ?_
    rintro e w8 ⟨rfl, hb8⟩
    have HB8 := Lib.hid (bchain HB7.out hb8)
    clear hb8
    by_cases hYU : Y < U
    · have hYU' : (Y : Int) < (U : Int) := by omega
      have i1 : (K : Int) ≤ (X : Int) := by omega
      have i2 : (K : Int) ≤ (Y : Int) := by omega
      go_wp2_with fail
      refine (H4.out _ (HL.out.below HB8.out) (HA.out.below HB8.out)).mono ?_
      rintro e w9 ⟨rfl, hb9⟩
      have HB9 := Lib.hid (bchain HB8.out hb9)
      clear hb9
      go_wp2_with fail
      refine (H5.out _ (HL.out.below HB9.out) (HB.out.below HB9.out)).mono ?_
      rintro e wa ⟨rfl, hba⟩
      have HBa := Lib.hid (bchain HB9.out hba)
      clear hba
      go_wp2
      go_ret
      exact ⟨rfl, HBa.out⟩
    · have hYU' : ¬ ((Y : Int) < (U : Int)) := by omega
      obtain ⟨i1, i2⟩ := Q3.out (by omega) (by omega)
      have i1' : (V : Int) < (K : Int) := by omega
      have i2' : (T : Int) < 3 * (K : Int) := by omega
      go_wp2_with fail
      refine (H7.out _ (HL.out.below HB8.out)).mono ?_
      rintro e w9 ⟨rfl, hb9⟩
      have HB9 := Lib.hid (bchain HB8.out hb9)
      clear hb9
      go_wp2_with fail
      refine (H8.out _ (HL.out.below HB9.out)).mono ?_
      rintro e wa ⟨rfl, hba⟩
      have HBa := Lib.hid (bchain HB9.out hba)
      clear hba
      go_wp2
      go_ret
      exact ⟨rfl, HBa.out⟩

set_option maxRecDepth 8000 in
set_option maxHeartbeats 1000000 in
theorem over_walk (u : Value) (L : List M) (v : Value) (a : List (List UInt8)) (z : Value) (b : List (List UInt8)) (w : World) (hL : Mems w u L) (_ : L.length * 24 ≤ reachBytes) (_ : ∀ m ∈ L, OkMem m)
    (ha : Strs w v a) (_ : a.length * 16 ≤ reachBytes) (ha2 : ∀ s ∈ a, s.length ≤ 140737488351232) (hb : Strs w z b) (_ : b.length * 16 ≤ reachBytes) (hb2 : ∀ s ∈ b, s.length ≤ 140737488351232) (hT : Tab w) :
    Calls Tryd.prog 5 #[u, v, z] w fun e w' => e = .returned (.bool true) ∧ Below w.heap.size w w' := by
  cases hok : Pw.okL L with
  | false =>
    have HW := Lib.hid (works_any w hT)
    have H1 := Lib.hid (fun w h => check_any L u w h)
    rw [Pw.checkC_bad hok] at H1
    have HL := Lib.hid hL
    obtain ⟨Au, cu, rfl⟩ := hL.form
    clear hok hL hT
    go_enter Tryd.func5, Tryd.ntmps5
    go_wp2_with fail
    refine HW.out.mono ?_
    rintro e w1 ⟨rfl, hb1⟩
    go_wp2_with fail
    refine (H1.out _ (HL.out.below hb1)).mono ?_
    rintro e w2 ⟨rfl, hb2⟩
    go_wp2
    go_ret
    exact ⟨rfl, bchain hb1 hb2⟩
  | true =>
    by_cases h1 : a.length ≤ 50
    · by_cases h2 : b.length ≤ 50
      · exact over_main u v z L a b w hL ha hb hT hok h1 h2 ha2 hb2
      · have l1 : ¬ ((50 : Int) < (a.length : Int)) := by omega
        have l2 : (50 : Int) < (b.length : Int) := by omega
        have HW := Lib.hid (works_any w hT)
        have H1 := Lib.hid (fun w h => check_any L u w h)
        rw [Pw.checkC_ok hok] at H1
        have HL := Lib.hid hL
        obtain ⟨Au, cu, rfl⟩ := hL.form
        obtain ⟨Aa, ca, rfl, -⟩ := ha
        obtain ⟨Ab, cb, rfl, -⟩ := hb
        clear hok hL hT ha2 hb2
        go_enter Tryd.func5, Tryd.ntmps5
        go_wp2_with fail
        refine HW.out.mono ?_
        rintro e w1 ⟨rfl, hb1⟩
        go_wp2_with fail
        refine (H1.out _ (HL.out.below hb1)).mono ?_
        rintro e w2 ⟨rfl, hb2⟩
        go_wp2
        go_ret
        exact ⟨rfl, bchain hb1 hb2⟩
    · have l1 : (50 : Int) < (a.length : Int) := by omega
      have HW := Lib.hid (works_any w hT)
      have H1 := Lib.hid (fun w h => check_any L u w h)
      rw [Pw.checkC_ok hok] at H1
      have HL := Lib.hid hL
      obtain ⟨Au, cu, rfl⟩ := hL.form
      obtain ⟨Aa, ca, rfl, -⟩ := ha
      clear hok hL hT ha2 hb2
      go_enter Tryd.func5, Tryd.ntmps5
      go_wp2_with fail
      refine HW.out.mono ?_
      rintro e w1 ⟨rfl, hb1⟩
      go_wp2_with fail
      refine (H1.out _ (HL.out.below hb1)).mono ?_
      rintro e w2 ⟨rfl, hb2⟩
      go_wp2
      go_ret
      exact ⟨rfl, bchain hb1 hb2⟩
end Go.Proofs.YtbjfihbjfoaghaaDoor
