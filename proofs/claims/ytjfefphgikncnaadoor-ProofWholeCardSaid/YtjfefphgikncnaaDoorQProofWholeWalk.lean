/- The law ProofWhole, walked. -/
import Derived.Test.YtjfefphgikncnaaDoorPk15
namespace Go.Proofs.YtjfefphgikncnaaDoor
open Go.RowKit
open Sto (T St)

set_option maxRecDepth 100000 in
set_option maxHeartbeats 4000000 in
theorem proofWhole_walk (lv : Value) (I : St) (key : T) (w : World) (hi : ItIn w lv I) (hT : Tab w) :
    Calls Tryd.prog 3 #[lv, .string ⟨key.toArray⟩] w fun e w' => e = .returned (.bool true) ∧ Below w.heap.size w w' := by
  have HWK := Lib.hid (pworks_any w hT)
  have HI := Lib.hid hi
  have HT := Lib.hid hT
  obtain ⟨A0, cap0, hie, -, -⟩ := hi.form
  subst hie
  clear hi hT
  go_enter Tryd.func3, Tryd.ntmps3
  go_wp2_with fail
  refine HWK.out.mono ?_
  rintro e w1 ⟨rfl, hb1⟩
  have HB1 := Lib.hid hb1
  have HSO := Lib.hid (psome_any I _ w1 (RowsIn.below HI.out hb1) (HT.out.below hb1))
  unfold SomePost at HSO
  clear hb1 HWK
  go_wp2_with fail
  refine HSO.out.mono ?_
  rintro e w3 ⟨g, z, rfl, ht, -, hb3⟩
  have HB3 := Lib.hid (bchain HB1.out hb3)
  have HT3 := Lib.hid ht
  obtain ⟨S, hS⟩ : ∃ S, Prf.someS I = S := ⟨_, rfl⟩
  rw [hS] at HT3
  clear ht hb3 hS HSO
  obtain ⟨_, t, _, _, hts⟩ := id HT3.out
  have HTS := Lib.hid hts
  clear hts
  have HPR := Lib.hid (prove_any key w3 HT3.out)
  unfold ProvePost ptr ProveC proveS at HPR
  cases hk : Tri.keyed key with
  | false =>
    rw [hk] at HPR
    simp only [if_neg (show ¬ (false = true) by simp)] at HPR
    clear hk
    go_wp2_with fail
    refine HPR.out.mono ?_
    rintro e w4 ⟨zn, rfl, ho, hb4⟩
    obtain ⟨An, cn, rfl⟩ := own_form ho
    have HB4 := Lib.hid (bchain HB3.out hb4)
    clear ho hb4
    go_wp2
    go_ret
    exact ⟨rfl, HB4.out⟩
  | true =>
  rw [hk] at HPR
  simp only [if_true] at HPR
  have HK := Lib.hid hk
  have HVW := Lib.hid (Prf.verify_whole HTS.out hk)
  have HFW := Lib.hid (Prf.trailS_few HTS.out hk)
  have HSH := Lib.hid (Prf.trailS_short HTS.out key)
  obtain ⟨P, hP⟩ : ∃ P, trailS S key = P := ⟨_, rfl⟩
  rw [hP] at HPR HVW HFW HSH
  clear hk hP
  go_wp2_with fail
  refine HPR.out.mono ?_
  rintro e w4 ⟨zn, rfl, ho, hb4⟩
  have HB4 := Lib.hid (bchain HB3.out hb4)
  have HT4 := Lib.hid (HT3.out.below hb4)
  have HO4 := Lib.hid ho
  obtain ⟨An, cn, rfl⟩ := own_form ho
  clear ho hb4 HPR
  obtain ⟨R, hR⟩ : ∃ R, rootS S = R := ⟨_, rfl⟩
  have HRT := Lib.hid (sroot_any w4 HT4.out)
  rw [hR] at HRT HVW
  unfold ptr at HRT
  clear hR
  go_wp2_with fail
  refine HRT.out.mono ?_
  rintro e w5 ⟨rfl, hb5⟩
  have HB5 := Lib.hid (bchain HB4.out hb5)
  have HT5 := Lib.hid (HT4.out.below hb5)
  have HO5 := Lib.hid (HO4.out.below hb5)
  clear hb5
  have HVE := Lib.hid (verify_any R key _ P w5 (StrsC.of_own HO5.out) (HT.out.below HB5.out) (fun x hx => by have := HSH.out x hx; omega))
  rw [HVW.out] at HVE
  have HGE : Hid (∀ w', TrAt w' g S → Calls Tryd.prog 10 #[.pointer (some ⟨g, 0, none⟩), .string ⟨key.toArray⟩] w' fun e w'' => e = .returned (.tuple #[.string ⟨(Tri.getC S key).1.toArray⟩, .int .i64 (Tri.getC S key).2]) ∧ Below w'.heap.size w' w'') := Lib.hid (fun w' h => tget_any key w' h)
  obtain ⟨⟨G, gc⟩, hG⟩ : ∃ G, Tri.getC S key = G := ⟨_, rfl⟩
  rw [hG] at HVE HGE
  dsimp only at HVE HGE
  obtain ⟨bb, hbb⟩ : ∃ bb, decide (gc = 0) = bb := ⟨_, rfl⟩
  have hgc : ((gc : Int) == 0) = bb := by
    rw [← hbb]
    by_cases h : gc = 0
    · subst h; rfl
    · rw [decide_eq_false h, beq_eq_false_iff_ne]; omega
  rw [hbb] at HVE
  clear hG hbb
  go_wp2_with fail
  refine HVE.out.mono ?_
  rintro e w6 ⟨rfl, hb6⟩
  have HB6 := Lib.hid (bchain HB5.out hb6)
  have HT6 := Lib.hid (HT5.out.below hb6)
  clear hb6
  go_wp2_with fail
  refine (HGE.out w6 HT6.out).mono ?_
  rintro e w7 ⟨rfl, hb7⟩
  have HB7 := Lib.hid (bchain HB6.out hb7)
  clear hb7
  have y1 : (G == G) = true := beq_self_eq_true _
  have y2 : (bb == bb) = true := beq_self_eq_true _
  obtain ⟨pn, hpn⟩ : ∃ pn, P.length = pn := ⟨_, rfl⟩
  have h17 : pn ≤ 17 := by have := HFW.out; omega
  have z1 : (pn : Int) ≤ 17 := by omega
  have z2 : decide ((pn : Int) ≤ 17) = true := decide_eq_true z1
  rw [hpn]
  clear hpn
  go_wp2
  go_ret
  exact ⟨rfl, HB7.out⟩
theorem proofWhole_law (lv : Value) (I : St) (key : ByteArray) (w : World) (hi : ItIn w lv I) (_ : I.length * 32 ≤ reachBytes) (_ : key.size ≤ maxLen) (hT : Tab w) :
    Calls Tryd.prog 3 #[lv, .string key] w fun e w' => e = .returned (.bool true) ∧ Below w.heap.size w w' := by
  obtain ⟨k, rfl⟩ := bytes_list key
  exact proofWhole_walk lv I k w hi hT
end Go.Proofs.YtjfefphgikncnaaDoor
