/- The walk of the law on sets as bytes. -/
import Derived.Test.YtbjfihbjfoaghaaDoorPowRefDec
import Derived.Test.YtbjfihbjfoaghaaDoorPowWorks
import Derived.Test.YtbjfihbjfoaghaaDoorBookMems
namespace Go.Proofs.YtbjfihbjfoaghaaDoor
open Go.RowKit
open Go.Proofs.YtbjfihbjfoaghaaDoor.Pw (M)

set_option maxRecDepth 8000 in
set_option maxHeartbeats 2000000 in
theorem codes_main (v : Value) (L : List M) (s : List UInt8) (w : World) (hL : Mems w v L) (hT : Tab w) (hl : L.length ≤ 1000) (hs : s.length ≤ 1000) :
    Calls Tryd.prog 4 #[v, .string ⟨s.toArray⟩] w fun e w' => e = .returned (.bool true) ∧ Below w.heap.size w w' := by
  have HL := Lib.hid hL
  have HT := Lib.hid hT
  have H1 := Lib.hid (fun w h => encode_any L v w h)
  have H2 := Lib.hid (fun w h => rencode_any L v w h)
  have H3 := Lib.hid (fun w => decode_any s w (by omega))
  have H4 := Lib.hid (fun w => rdecode_any s w (by omega))
  have H5 := Lib.hid (fun w h hT => digest_any L v w h hT)
  have H6 := Lib.hid (fun w h => rdigest_any L v w h)
  have HDL : Hid ((Pw.decL s).length ≤ 1000000) := Lib.hid (by
    cases h : Pw.decOK s with
    | true => have := Pw.okL_len (Pw.dec_enc h).1; omega
    | false => simp [Pw.decL, h])
  unfold DecPost at H3 H4
  obtain ⟨A, cap, rfl⟩ := hL.form
  obtain ⟨E, hE⟩ : ∃ E, Pw.encL L = E := ⟨_, rfl⟩
  obtain ⟨C, hC⟩ : ∃ C, Pw.checkC L = C := ⟨_, rfl⟩
  obtain ⟨Q, hQ⟩ : ∃ Q, Pw.decL s = Q := ⟨_, rfl⟩
  obtain ⟨F, hF⟩ : ∃ F, Pw.decC s = F := ⟨_, rfl⟩
  obtain ⟨D, hD⟩ : ∃ D, Pw.digL L = D := ⟨_, rfl⟩
  rw [hE, hC] at H1 H2
  rw [hQ, hF] at H3 H4
  rw [hD] at H5 H6
  rw [hQ] at HDL
  have h1 : ¬ ((1000 : Int) < (L.length : Int)) := by omega
  have h2 : ¬ ((1000 : Int) < (s.length : Int)) := by omega
  clear hE hC hQ hF hD hL hT
  go_enter Tryd.func4, Tryd.ntmps4
  go_wp2_with fail
  refine (H1.out _ HL.out).mono ?_
  rintro e w1 ⟨rfl, hb1⟩
  have HB1 := Lib.hid hb1
  have HL1 := Lib.hid (HL.out.below hb1)
  clear hb1
  go_wp2_with fail
  refine (H2.out _ HL1.out).mono ?_
  rintro e w2 ⟨rfl, hb2⟩
  have HB2 := Lib.hid (bchain HB1.out hb2)
  clear hb2
  go_wp2_with fail
  refine (H3.out _).mono ?_
  rintro e w3 ⟨c, rfl, hc, hb3⟩
  have HB3 := Lib.hid (bchain HB2.out hb3)
  have HC3 := Lib.hid hc
  have HS2 : Hid (w.heap.size ≤ w2.heap.size) := Lib.hid HB2.out.size
  obtain ⟨Ac, capc, rfl⟩ := own_form hc
  clear hb3 hc
  go_wp2_with fail
  refine (H4.out _).mono ?_
  rintro e w4 ⟨d, rfl, hd, hb4⟩
  have HB4 := Lib.hid (bchain HB3.out hb4)
  have HC4 := Lib.hid (HC3.out.below hb4)
  have HD4 := Lib.hid hd.mems
  obtain ⟨Ad, capd, rfl⟩ := own_form hd
  clear hb4 hd
  have HSM := Lib.hid (sameM_any Q Q _ _ w4 HC4.out.mems HD4.out HDL.out HDL.out)
  rw [show decide (Q = Q) = true from decide_eq_true rfl] at HSM
  go_wp2_with fail
  refine HSM.out.mono ?_
  rintro e w5 ⟨rfl, hb5⟩
  have HB5 := Lib.hid (bchain HB4.out hb5)
  have HC5 := Lib.hid (HC4.out.below hb5)
  clear hb5
  go_wp2_with fail
  refine (spoilMems_any Q _ _ w5 HC5.out HDL.out).mono ?_
  rintro e w6 ⟨rfl, hb6⟩
  have HB6 := Lib.hid (HB5.out.trans (hb6.mono HS2.out))
  clear hb6
  go_wp2_with fail
  refine (H5.out _ (HL.out.below HB6.out) (HT.out.below HB6.out)).mono ?_
  rintro e w7 ⟨rfl, hb7⟩
  have HB7 := Lib.hid (bchain HB6.out hb7)
  clear hb7
  go_wp2_with fail
  refine (H6.out _ (HL.out.below HB7.out)).mono ?_
  rintro e w8 ⟨rfl, hb8⟩
  have HB8 := Lib.hid (bchain HB7.out hb8)
  clear hb8
  go_wp2_with fail
  refine (works_any _ (HT.out.below HB8.out)).mono ?_
  rintro e w9 ⟨rfl, hb9⟩
  have HB9 := Lib.hid (bchain HB8.out hb9)
  clear hb9
  go_wp2
  go_ret
  exact ⟨rfl, HB9.out⟩

set_option maxRecDepth 8000 in
theorem codes_walk (v : Value) (L : List M) (a : ByteArray) (w : World) (hL : Mems w v L) (_ : L.length * 24 ≤ reachBytes) (_ : ∀ m ∈ L, OkMem m) (_ : a.size ≤ maxLen) (hT : Tab w) :
    Calls Tryd.prog 4 #[v, .string a] w fun e w' => e = .returned (.bool true) ∧ Below w.heap.size w w' := by
  obtain ⟨s, rfl⟩ := bytes_list a
  by_cases hl : L.length ≤ 1000
  · by_cases hs : s.length ≤ 1000
    · exact codes_main v L s w hL hT hl hs
    · have h1 : ¬ ((1000 : Int) < (L.length : Int)) := by omega
      have h2 : (1000 : Int) < (s.length : Int) := by omega
      obtain ⟨A, cap, rfl⟩ := hL.form
      go_enter Tryd.func4, Tryd.ntmps4
      go_wp2_with fail
      refine (works_any _ hT).mono ?_
      rintro e w9 ⟨rfl, hb9⟩
      go_wp2
      go_ret
      exact ⟨rfl, hb9⟩
  · have h1 : (1000 : Int) < (L.length : Int) := by omega
    obtain ⟨A, cap, rfl⟩ := hL.form
    go_enter Tryd.func4, Tryd.ntmps4
    go_wp2_with fail
    refine (works_any _ hT).mono ?_
    rintro e w9 ⟨rfl, hb9⟩
    go_wp2
    go_ret
    exact ⟨rfl, hb9⟩
end Go.Proofs.YtbjfihbjfoaghaaDoor
