/- The law ProofSound, walked. -/
import Derived.Test.YtjfefphgikncnaaGreatDoorPk18
import Derived.Test.YtjfefphgikncnaaGreatDoorPk17
namespace Go.Proofs.YtjfefphgikncnaaGreatDoor
open Go.RowKit
open Sto (T St)

theorem nodes_few {S : St} {t : Tri.Tr} (h : TrS S t) : (nodesS S).length ≤ 3100 := by
  rw [nodesS_nodes h, List.length_map, ← Tri.spots_nodes Nd.sumS t [], List.length_map]
  have h1 := Tri.spots_few Nd.sumS h.tree.1 []
  have h2 := h.few
  rw [h.tree.2.2] at h1
  simp [Tri.paths] at h1
  omega
set_option maxRecDepth 100000 in
set_option maxHeartbeats 4000000 in
theorem proofSound_walk (lv : Value) (I : St) (key : T) (v : Value) (L : List T) (w : World) (hi : ItIn w lv I) (hv : StrsC w v L) (hm : L.length ≤ maxLen) (hT : Tab w) :
    Calls Tryz.prog 7 #[lv, .string ⟨key.toArray⟩, v] w fun e w' => e = .returned (.bool true) ∧ Below w.heap.size w w' := by
  have HWK := Lib.hid (pworks_any w hT)
  have HV := Lib.hid hv
  have HI := Lib.hid hi
  have HT := Lib.hid hT
  have HM := Lib.hid hm
  obtain ⟨A, cap, hve, -⟩ := hv.form
  obtain ⟨A0, cap0, hie, -, -⟩ := hi.form
  subst hve
  subst hie
  clear hv hi hT hm
  go_enter Tryz.func7, Tryz.ntmps7
  go_wp2_with fail
  refine HWK.out.mono ?_
  rintro e w1 ⟨rfl, hb1⟩
  have HB1 := Lib.hid hb1
  have HFW := Lib.hid (few_any L _ 30 700 w1 (HV.out.below hb1).strs HM.out)
  clear hb1 HWK
  cases hf : Code.few L 30 700 with
  | false =>
    rw [hf] at HFW
    clear hf
    go_wp2_with fail
    refine HFW.out.mono ?_
    rintro e w2 ⟨rfl, rfl⟩
    go_wp2
    go_ret
    exact ⟨rfl, HB1.out⟩
  | true =>
  rw [hf] at HFW
  have HFF := Lib.hid ((Code.few_iff L 30 700).1 hf)
  clear hf
  go_wp2_with fail
  refine HFW.out.mono ?_
  rintro e w2 ⟨rfl, rfl⟩
  have HSO := Lib.hid (psome_any I _ w2 (RowsIn.below HI.out HB1.out) (HT.out.below HB1.out))
  unfold SomePost at HSO
  go_wp2_with fail
  refine HSO.out.mono ?_
  rintro e w3 ⟨g, z, rfl, ht, -, hb3⟩
  have HB3 := Lib.hid (bchain HB1.out hb3)
  have HT3 := Lib.hid ht
  obtain ⟨S, hS⟩ : ∃ S, Prf.someS I = S := ⟨_, rfl⟩
  rw [hS] at HT3
  clear ht hb3 hS HSO HFW
  obtain ⟨_, t, _, _, hts⟩ := id HT3.out
  have HTS := Lib.hid hts
  clear hts
  obtain ⟨R, hR⟩ : ∃ R, rootS S = R := ⟨_, rfl⟩
  have HRT := Lib.hid (sroot_any w3 HT3.out)
  rw [hR] at HRT
  have HRR := Lib.hid hR
  unfold ptr at HRT
  clear hR
  go_wp2_with fail
  refine HRT.out.mono ?_
  rintro e w4 ⟨rfl, hb4⟩
  have HB4 := Lib.hid (bchain HB3.out hb4)
  have HT4 := Lib.hid (HT3.out.below hb4)
  clear hb4
  have HVE := Lib.hid (verify_any R key _ L w4 (HV.out.below HB4.out) (HT.out.below HB4.out) (fun x hx => by have := HFF.out.2 x hx; omega))
  have HSD : Hid ((Prf.verify R key L).2.2 = 0 → ((Prf.verify R key L).1 = (Tri.getC S key).1 ∧ (Prf.verify R key L).2.1 = decide ((Tri.getC S key).2 = 0)) ∨ Clash (nodesS S ++ L)) := Lib.hid (fun h => by
    rw [← HRR.out] at h ⊢
    exact Prf.verify_sound HTS.out h)
  have HBA : Hid ((Prf.verify R key L).2.2 ≠ 0 → Prf.verify R key L = ([], false, (Prf.verify R key L).2.2)) := Lib.hid Prf.verify_bad
  obtain ⟨⟨X, b, c⟩, hX⟩ : ∃ X, Prf.verify R key L = X := ⟨_, rfl⟩
  rw [hX] at HVE HSD HBA
  dsimp only at HVE HSD HBA
  clear hX
  go_wp2_with fail
  refine HVE.out.mono ?_
  rintro e w5 ⟨rfl, hb5⟩
  have HB5 := Lib.hid (bchain HB4.out hb5)
  have HT5 := Lib.hid (HT4.out.below hb5)
  clear hb5
  by_cases hc : c = 0
  case neg =>
    have e0 := HBA.out hc
    have e1 : X = [] := by injection e0
    have e2 : b = false := by injection e0 with _ e0; injection e0
    subst e1
    subst e2
    have c1 : ((c : Int) != 0) = true := by rw [bne_iff_ne]; omega
    have c2 : ((c : Int) == 0) = false := by rw [beq_eq_false_iff_ne]; omega
    clear hc e0
    go_wp2
    go_ret
    exact ⟨rfl, HB5.out⟩
  subst hc
  have HGT := Lib.hid (tget_any key w5 HT5.out)
  have HSE := Lib.hid (HSD.out rfl)
  obtain ⟨⟨G, gc⟩, hG⟩ : ∃ G, Tri.getC S key = G := ⟨_, rfl⟩
  rw [hG] at HGT HSE
  dsimp only at HGT HSE
  unfold ptr at HGT
  clear hG
  go_wp2_with fail
  refine HGT.out.mono ?_
  rintro e w6 ⟨rfl, hb6⟩
  have HB6 := Lib.hid (bchain HB5.out hb6)
  have HT6 := Lib.hid (HT5.out.below hb6)
  clear hb6
  have hgc : ((gc : Int) == 0) = decide (gc = 0) := by
    by_cases h : gc = 0
    · subst h; rfl
    · rw [decide_eq_false h, beq_eq_false_iff_ne]; omega
  obtain ⟨bb, hbb⟩ : ∃ bb, decide (gc = 0) = bb := ⟨_, rfl⟩
  rw [hbb] at hgc HSE
  by_cases hok : X = G ∧ b = bb
  · obtain ⟨rfl, rfl⟩ := hok
    have y1 : (X == X) = true := beq_self_eq_true _
    have y2 : (b == b) = true := beq_self_eq_true _
    clear hbb
    go_wp2
    go_ret
    exact ⟨rfl, HB6.out⟩
  have HCL : Hid (Clash (nodesS S ++ L)) := Lib.hid (HSE.out.resolve_left hok)
  have HSN := Lib.hid (snodes_any w6 HT6.out)
  unfold TextsPost ptr at HSN
  have HNS := Lib.hid (nodesS_short HTS.out)
  have HNL := Lib.hid (nodes_few HTS.out)
  obtain ⟨NS, hNS⟩ : ∃ NS, nodesS S = NS := ⟨_, rfl⟩
  rw [hNS] at HSN HCL HNS HNL
  clear hNS hbb HSE
  have HAP : Hid (∀ w7 zn, Own w7 w6.heap.size zn NS → Below w6.heap.size w6 w7 → ∃ v' w', (Builtin.append_ #[28, 28] 28 #[zn, .slice A L.length cap]).run Tryz.prog w7 = .ok v' w' ∧ Strs w' v' (NS ++ L) ∧ Below w.heap.size w w') := Lib.hid (fun w7 zn ho hb => by
    have hv7 := (HV.out.below (bchain HB6.out hb)).strs
    obtain ⟨v', w', h1, h2, h3, _⟩ := append_strs hv7 ho (by have := HNL.out; have := HFF.out.1; omega) hb.size
    have ho2 : Own w' w6.heap.size v' (NS ++ L) := by
      unfold Own
      rw [List.length_append, scells_append]
      exact h2
    have hg : Below w6.heap.size w6 w' := own_grown (Nat.le_refl _) ho hb (Below.refl _ _) h3 h2
    exact ⟨v', w', h1, ho2.strs, bchain HB6.out hg⟩)
  have hxg : X = G → (b == bb) = false := fun h => by
    rw [beq_eq_false_iff_ne]
    exact fun e => hok ⟨h, e⟩
  by_cases hxe : X = G
  · have y2 := hxg hxe
    subst hxe
    have y1 : (X == X) = true := beq_self_eq_true _
    clear hok hxg
    go_wp2_with fail
    refine HSN.out.mono ?_
    rintro e w7 ⟨zn, rfl, ho7, hb7⟩
    obtain ⟨v8, w8, hr8, hs8, hb8⟩ := HAP.out w7 zn ho7 hb7
    have HR8 := Lib.hid hr8
    have HB8 := Lib.hid hb8
    have HUN := Lib.hid (runlike_any (NS ++ L) v8 w8 hs8 (by rw [List.length_append]; have := HNL.out; have := HFF.out.1; omega) (fun x hx => by
      rcases List.mem_append.1 hx with hx | hx
      · exact HNS.out x hx
      · have := HFF.out.2 x hx; omega))
    unfold UnlikePost at HUN
    clear hr8 hs8 hb8 ho7 hb7
    go_wp2_with (at_builtin; refine wpList_append_run rfl _ _ _ rfl zn (.slice A L.length cap) _ (by rfl) (by rfl) HR8.out ?_)
    refine HUN.out.mono ?_
    rintro e w9 ⟨ub, rfl, hub, hb9⟩
    obtain rfl := hub HCL.out
    have HB9 := Lib.hid (bchain HB8.out hb9)
    clear hub hb9
    go_wp2
    go_ret
    exact ⟨rfl, HB9.out⟩
  · have y1 : (X == G) = false := beq_eq_false_iff_ne.2 hxe
    clear hok hxg hxe
    go_wp2_with fail
    refine HSN.out.mono ?_
    rintro e w7 ⟨zn, rfl, ho7, hb7⟩
    obtain ⟨v8, w8, hr8, hs8, hb8⟩ := HAP.out w7 zn ho7 hb7
    have HR8 := Lib.hid hr8
    have HB8 := Lib.hid hb8
    have HUN := Lib.hid (runlike_any (NS ++ L) v8 w8 hs8 (by rw [List.length_append]; have := HNL.out; have := HFF.out.1; omega) (fun x hx => by
      rcases List.mem_append.1 hx with hx | hx
      · exact HNS.out x hx
      · have := HFF.out.2 x hx; omega))
    unfold UnlikePost at HUN
    clear hr8 hs8 hb8 ho7 hb7
    go_wp2_with (at_builtin; refine wpList_append_run rfl _ _ _ rfl zn (.slice A L.length cap) _ (by rfl) (by rfl) HR8.out ?_)
    refine HUN.out.mono ?_
    rintro e w9 ⟨ub, rfl, hub, hb9⟩
    obtain rfl := hub HCL.out
    have HB9 := Lib.hid (bchain HB8.out hb9)
    clear hub hb9
    go_wp2
    go_ret
    exact ⟨rfl, HB9.out⟩
theorem proofSound_law (lv : Value) (I : St) (key : ByteArray) (v : Value) (L : List T) (w : World) (hi : ItIn w lv I) (_ : I.length * 32 ≤ reachBytes) (_ : key.size ≤ maxLen) (hv : StrsC w v L) (hm : L.length ≤ maxLen) (_ : ∀ s ∈ L, s.length ≤ maxLen) (hT : Tab w) :
    Calls Tryz.prog 7 #[lv, .string key, v] w fun e w' => e = .returned (.bool true) ∧ Below w.heap.size w w' := by
  obtain ⟨k, rfl⟩ := bytes_list key
  exact proofSound_walk lv I k v L w hi hv hm hT
end Go.Proofs.YtjfefphgikncnaaGreatDoor
