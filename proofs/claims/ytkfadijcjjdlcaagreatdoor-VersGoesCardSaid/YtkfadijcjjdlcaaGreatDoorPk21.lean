/- VersGoesWalk, VersDone, ShaLaid -/
import Derived.Test.YtkfadijcjjdlcaaGreatDoorPk18
import Derived.Test.YtkfadijcjjdlcaaGreatDoorPk20
import Derived.Test.YtkfadijcjjdlcaaGreatDoorRows
import Derived.Test.YtkfadijcjjdlcaaGreatDoorPk08
import Derived.Lib.LaidU8
import Derived.LaidMore
import Derived.Stop.Joined
import Derived.ProofKit
namespace Go.Proofs.YtkfadijcjjdlcaaGreatDoor
open Go.RowKit
open Sto (T St)

theorem IntsO.outNew {F : Nat → Prop} {w w' : World} {B : Nat} {z : Value} {L : List Int} (h : IntsO w B z L) (ho : Out F w w') (hF : ∀ k, F k → k < B) : IntsO w' B z L := by
  refine ⟨h.1, ?_⟩
  rcases h.2 with h0 | ⟨g, cap, cur, hv, hB, hh, hr⟩
  · exact Or.inl h0
  · exact Or.inr ⟨g, cap, cur, hv, hB, ho.heap hh (fun e => by have := hF g e; omega), hr⟩

set_option maxRecDepth 100000 in
set_option maxHeartbeats 8000000 in
theorem versGoes_walk {VAt : World → (Nat → Prop) → Nat → Ver.M → Prop} (HV : VerOkL VAt) (v : Value) (L : List Ver.Act) (b : Int) (w : World) (hv : VActs w v L) (hT : Tab w) :
    Calls Tryz.prog 5 #[v, .int .i64 b] w fun e w' => e = .returned (.bool true) ∧ Below w.heap.size w w' := by
  have HWK := Lib.hid (vworks_any HV w hT)
  have HTT := Lib.hid hT
  have HVV := Lib.hid hv
  have HVO := Lib.hid HV
  obtain ⟨A, cap, rfl⟩ := hv.form
  clear hv hT HV
  go_enter Tryz.func5, Tryz.ntmps5
  go_wp2_with fail
  refine HWK.out.mono ?_
  rintro e w1 ⟨rfl, hb1⟩
  have HB1 := Lib.hid hb1
  clear hb1
  go_wp2_with fail
  have HLO := Lib.hid (vlong_any L _ w1 (HVV.out.below HB1.out))
  unfold LongPost at HLO
  refine HLO.out.mono ?_
  rintro e w1' ⟨lb, rfl, rfl, hfit⟩
  cases lb with
  | true =>
    go_wp2
    go_ret
    exact ⟨rfl, HB1.out⟩
  | false =>
  have HFT := Lib.hid (hfit rfl)
  clear hfit
  go_wp2_with fail
  refine (HVO.out.new w1 (HTT.out.below HB1.out)).mono ?_
  rintro e w2 ⟨g, F2, rfl, hv2, hF2, hb2⟩
  have HINIT : Hid (∃ F, VAt w2 F g .zero ∧ (∀ k, F k → w1.heap.size ≤ k) ∧ Ver.M.zero.Sw 0 ∧ Below w1.heap.size w1 w2 ∧ Tab w2) := Lib.hid ⟨F2, hv2, hF2, Ver.M.Sw.zero, hb2, (HTT.out.below HB1.out).below hb2⟩
  clear hv2 hF2 hb2
  unfold ptr
  go_wp2
  go_loopw [26] (fun iv wr => ∃ (i : Nat) (m : Ver.M) (F : Nat → Prop), iv = .int .i64 i ∧ i ≤ L.length ∧ VAt wr F g m ∧ (∀ k, F k → w1.heap.size ≤ k) ∧ m.Sw i ∧ Below w1.heap.size w1 wr ∧ Tab wr) (fun i _ => L.length - (intOf i).toNat)
  case atStart =>
    obtain ⟨F, h1, h2, h3, h4, h5⟩ := HINIT.out
    exact ⟨0, _, F, rfl, Nat.zero_le _, h1, h2, h3, h4, h5⟩
  case round =>
    obtain ⟨i, m, F, rfl, hi, hva, hF, hsz, hbr, htr⟩ := hrel
    have HVA := Lib.hid hva
    have HFF := Lib.hid hF
    have HSZ := Lib.hid hsz
    have HBR := Lib.hid hbr
    have HTR := Lib.hid htr
    clear hva hF hsz hbr htr
    have h10 := HFT.out.1
    by_cases hlt : i < L.length
    · have g1 : (i : Int) < (L.length : Int) := by omega
      have g0 : (0 : Int) ≤ (i : Int) := by omega
      have g2 : (i : Int) ≤ 100000 := by omega
      have hvr := HVV.out.below (bchain HB1.out HBR.out)
      obtain ⟨bb, o, z, rfl, n0, n1, n2, hz⟩ := hvr.at i hlt
      have HC := Lib.hid (HFT.out.2 L[i] (List.getElem_mem hlt))
      obtain ⟨C, hC⟩ : ∃ C, L[i].chg = C := ⟨_, rfl⟩
      obtain ⟨kd, hkd⟩ : ∃ x, L[i].kind = x := ⟨_, rfl⟩
      obtain ⟨ht, hht⟩ : ∃ x, L[i].height = x := ⟨_, rfl⟩
      rw [hC] at hz HC
      rw [hkd] at n0
      rw [hht] at n1
      have HA : Hid (Below wr.heap.size wr (wr.alloc (.cells #[.int .i64 kd, .int .i64 ht, z] 33))) := Lib.hid ((Below.refl _ wr).alloc (Nat.le_refl _) _)
      have HCM := Lib.hid (HVO.out.commitL ht z C (HVO.out.keep HVA.out HA.out) (HTR.out.below HA.out) (hz.below HA.out) (by have := HC.out.1; omega) (fun x hx => by have := HC.out.2 x hx; omega) (by have := HSZ.out.vs; omega) (by have := HSZ.out.st; omega))
      obtain ⟨A2, cap2, rfl⟩ := hz.form
      have HLT := Lib.hid hlt
      unfold ptr at HCM
      clear hvr hz hC hkd hht hlt
      go_wp2_with fail
      refine HCM.out.mono ?_
      rintro e w5 ⟨m2, c2, r2, hk2, rfl, hn⟩
      have HS2 := Lib.hid (hk2.sw HSZ.out)
      have HBN := Lib.hid (next_below hn (B := w1.heap.size) HFF.out (Nat.le_trans HBR.out.size HA.out.size))
      obtain ⟨F', h1, h2, h3, h4⟩ := hn
      have HFN : Hid (∀ k, F' k → w1.heap.size ≤ k) := Lib.hid (fun k hk => by
        rcases h3 k hk with h | h
        · exact HFF.out k h
        · exact Nat.le_trans HBR.out.size (Nat.le_trans HA.out.size h))
      have HV5 := Lib.hid h1
      have HT5 := Lib.hid h4
      clear h1 h2 h3 h4
      go_wp2
      refine ⟨⟨i + 1, _, F', by go_num, by have := HLT.out; omega, HV5.out, HFN.out, HS2.out, ?_, HT5.out⟩, by have := HLT.out; simp [intOf]; omega⟩
      exact (HBR.out.trans (HA.out.mono HBR.out.size)).trans HBN.out
    · obtain rfl : i = L.length := by omega
      have g1 : ¬ ((L.length : Int) < (L.length : Int)) := by omega
      have HGD := Lib.hid (HVO.out.good HVA.out)
      have hszv := HSZ.out.vs
      have hszs := HSZ.out.st
      have HMV : Hid (m.vs.length ≤ 10 ∧ m.st.length ≤ 30720) := Lib.hid ⟨by omega, by omega⟩
      obtain ⟨wl, rfl⟩ : ∃ y, y = wr := ⟨_, rfl⟩
      clear hlt hszv hszs hi
      go_wp2_with fail
      refine (HVO.out.heights HVA.out (by have := HMV.out.1; omega)).mono ?_
      rintro e w3 ⟨z1, rfl, hz1, hb3⟩
      have HB3 := Lib.hid hb3
      have HZ1 := Lib.hid hz1
      have HV3 := Lib.hid (HVO.out.keep HVA.out hb3)
      have HT3 := Lib.hid (HTR.out.below hb3)
      have HO3 := Lib.hid (HVO.out.old HVA.out)
      obtain ⟨A1, cap1, rfl⟩ := hz1.form
      clear hz1 hb3
      go_wp2_with fail
      refine (HVO.out.prune b HV3.out HT3.out (by have := HMV.out.1; omega) (by have := HMV.out.2; omega)).mono ?_
      rintro e w4 ⟨rfl, hn⟩
      have HB4 := Lib.hid (next_below hn (B := w1.heap.size) HFF.out (Nat.le_trans HBR.out.size HB3.out.size))
      obtain ⟨F', h1, h2, h3, h4⟩ := hn
      have HZ4 := Lib.hid (HZ1.out.outNew h2 HO3.out)
      have HFN : Hid (∀ k, F' k → w1.heap.size ≤ k) := Lib.hid (fun k hk => by
        rcases h3 k hk with h | h
        · exact HFF.out k h
        · exact Nat.le_trans HBR.out.size (Nat.le_trans HB3.out.size h))
      have HV4 := Lib.hid h1
      have HT4 := Lib.hid h4
      have HMP : Hid ((m.prune b).vs.length ≤ m.vs.length ∧ (m.prune b).st.length ≤ 30720) := Lib.hid ⟨Ver.upto_len _ _, by have := (HSZ.out.prune b).st; have := h10; omega⟩
      clear h1 h2 h3 h4
      go_wp2_with fail
      refine (HVO.out.heights HV4.out (by have := HMV.out.1; have := HMP.out.1; omega)).mono ?_
      rintro e w5 ⟨z2, rfl, hz2, hb5⟩
      have HB5 := Lib.hid hb5
      have HZ2 := Lib.hid hz2
      have HZ5 := Lib.hid (HZ4.out.below hb5)
      have HV5 := Lib.hid (HVO.out.keep HV4.out hb5)
      have HT5 := Lib.hid (HT4.out.below hb5)
      obtain ⟨A2, cap2, rfl⟩ := hz2.form
      have hl1 : (m.vs.map (·.1)).length = m.vs.length := List.length_map ..
      have hl2 : ((m.prune b).vs.map (·.1)).length = (m.prune b).vs.length := List.length_map ..
      have HL1 := Lib.hid hl1
      have HL2 := Lib.hid hl2
      rw [hl1] at HZ5
      rw [hl2] at HZ2 ⊢
      clear hz2 hb5 hl1 hl2
      go_wp2
      go_loopw [11, 46] (fun kv iv wr => ∃ i : Nat, i ≤ m.vs.length ∧ iv = .int .i64 i ∧ kv = .int .i64 ((Ver.upto m.vs b i).length : Nat) ∧ Below w5.heap.size w5 wr) (fun _ i _ => m.vs.length - (intOf i).toNat)
      case atStart => exact ⟨0, Nat.zero_le _, rfl, rfl, Below.refl _ _⟩
      case round =>
        obtain ⟨i, hi, rfl, rfl, hbx⟩ := hrel
        have HBX := Lib.hid hbx
        have hm10 := HMV.out.1
        have hk10 : (Ver.upto m.vs b i).length ≤ i := by
          unfold Ver.upto
          refine Nat.le_trans (List.length_filterMap_le _ _) (Nat.le_trans (List.length_filter_le _ _) ?_)
          simp
        have g0 : (0 : Int) ≤ (i : Int) := by omega
        have g2 : (i : Int) ≤ 100000 := by omega
        have g3 : ((Ver.upto m.vs b i).length : Int) ≤ 100000 := by omega
        have g4 : (0 : Int) ≤ ((Ver.upto m.vs b i).length : Int) := by omega
        by_cases hlt : i < m.vs.length
        · have g1 : (i : Int) < (m.vs.length : Int) := by omega
          obtain ⟨bb, oo, rfl, n0⟩ : ∃ bb oo, A1 = some ⟨bb, oo, none⟩ ∧ wr.cell? ⟨bb, oo + i, none⟩ = some (.int .i64 m.vs[i].1) := by
            obtain ⟨bb, oo, e, -, -, q⟩ := (HZ5.out.below hbx).at i (by rw [HL1.out]; exact hlt)
            rw [height_at m i hlt] at q
            exact ⟨bb, oo, e, q⟩
          have HRT := Lib.hid (HVO.out.root m.vs[i].1 (HGD.out.fit _ (List.getElem_mem hlt)).1 (wf_height (HGD.out.fit _ (List.getElem_mem hlt))) (HVO.out.keep HV5.out hbx))
          have HFC : Hid ((m.prune b).findC m.vs[i].1 = if Ver.stay m.vs b i = true then 0 else 120) := Lib.hid (Ver.prune_findC HGD.out b hlt)
          have HUS : Hid (Ver.upto m.vs b (i + 1) = Ver.upto m.vs b i ++ (if Ver.stay m.vs b i = true then [m.vs[i]] else [])) := Lib.hid (Ver.upto_succ m.vs b i hlt)
          have HSI : Hid (Ver.stay m.vs b i = true ↔ b ≤ m.vs[i].1 ∨ i + 1 = m.vs.length) := Lib.hid (Ver.stay_iff hlt)
          have HUA : Hid (Ver.stay m.vs b i = true → ∃ b2 o2, A2 = some ⟨b2, o2, none⟩ ∧ ((Ver.upto m.vs b i).length : Int) < ((m.prune b).vs.length : Int) ∧ ∀ w', Below w5.heap.size w5 w' → w'.cell? ⟨b2, o2 + (Ver.upto m.vs b i).length, none⟩ = some (.int .i64 m.vs[i].1)) := Lib.hid (fun hs => by
            obtain ⟨u1, u2⟩ := Ver.upto_at hlt hs
            have u3 : (Ver.upto m.vs b i).length < ((m.prune b).vs.map (·.1)).length := by rw [HL2.out]; exact u1
            obtain ⟨b2, o2, e, hB2, hlt2, hc⟩ := HZ2.out.at _ u3
            refine ⟨b2, o2, e, by have u1' : (Ver.upto m.vs b i).length < (m.prune b).vs.length := u1; omega, fun w' hb => ?_⟩
            have e2 : ((m.prune b).vs.map (·.1))[(Ver.upto m.vs b i).length]'u3 = m.vs[i].1 := by
              have u2' : (m.prune b).vs[(Ver.upto m.vs b i).length]? = some m.vs[i] := u2
              rw [List.getElem_map]
              obtain ⟨q1, q2⟩ := List.getElem?_eq_some_iff.1 u2'
              rw [q2]
            rw [e2] at hc
            exact (hb.cell hlt2).trans hc)
          obtain ⟨x, hx⟩ : ∃ x, m.vs[i].1 = x := ⟨_, rfl⟩
          obtain ⟨st, hst⟩ : ∃ st, Ver.stay m.vs b i = st := ⟨_, rfl⟩
          rw [hx] at n0 HRT HFC HSI HUA
          rw [hst] at HFC HUS HSI HUA
          have HLT := Lib.hid hlt
          have HUL : Hid ((Ver.upto m.vs b (i + 1)).length = (Ver.upto m.vs b i).length + if st = true then 1 else 0) := Lib.hid (by
            rw [HUS.out]
            split <;> simp)
          have HI10 := Lib.hid hm10
          have g6 : (m.vs.length : Int) ≤ 100000 := by omega
          clear hx hst HUS hlt hbx hm10
          cases st with
          | true =>
            rw [if_pos rfl] at HFC
            rw [HFC.out] at HRT
            obtain ⟨b2, o2, rfl, hlen, hcl⟩ := HUA.out rfl
            have HCL := Lib.hid hcl
            have e1 : (x != x) = false := by simp
            have HREL : Hid (∀ w', Below w5.heap.size w5 w' → ∃ j : Nat, j ≤ m.vs.length ∧ Value.int .i64 ((i : Int) + 1) = .int .i64 (j : Int) ∧ Value.int .i64 (((Ver.upto m.vs b i).length : Int) + 1) = .int .i64 ((Ver.upto m.vs b j).length : Nat) ∧ Below w5.heap.size w5 w') := Lib.hid (fun w' hb => ⟨i + 1, by have := HLT.out; omega, by push_cast; rfl, by rw [HUL.out]; push_cast; rfl, hb⟩)
            obtain ⟨uk, huk⟩ : ∃ uk, (Ver.upto m.vs b i).length = uk := ⟨_, rfl⟩
            rw [huk] at hlen HCL g3 g4 HREL ⊢
            have hnk : ¬ (((m.prune b).vs.length : Int) ≤ (uk : Int)) := by omega
            have hor := HSI.out.1 rfl
            clear hcl huk hk10 HUA HSI HUL HFC
            by_cases hbx : b ≤ x
            · clear hor
              go_wp2_with fail
              refine HRT.out.mono ?_
              rintro e w6 ⟨rfl, hb6⟩
              have HB6 := Lib.hid (bchain HBX.out hb6)
              have m0 := HCL.out _ HB6.out
              clear n0 hb6
              go_wp2
              exact ⟨HREL.out _ HB6.out, by have := HLT.out; simp [intOf]; omega⟩
            · have HIL : Hid ((i : Int) = (m.vs.length : Int) - 1) := Lib.hid (by have := hor.resolve_left hbx; omega)
              have hbx2 : x < b := by omega
              clear hor
              go_upto_region 18 with fail
              have hil := HIL.out
              have hil2 : ((i : Int) == (m.vs.length : Int) - 1) = true := beq_iff_eq.2 hil
              go_upto_region 19 with fail
              clear hil hil2
              go_wp2_with fail
              refine HRT.out.mono ?_
              rintro e w6 ⟨rfl, hb6⟩
              have HB6 := Lib.hid (bchain HBX.out hb6)
              have m0 := HCL.out _ HB6.out
              clear n0 hb6
              go_wp2
              exact ⟨HREL.out _ HB6.out, by have := HLT.out; simp [intOf]; omega⟩
          | false =>
            rw [if_neg (by simp)] at HFC
            rw [HFC.out] at HRT
            have hno : ¬ (b ≤ x ∨ i + 1 = m.vs.length) := fun e => by have := HSI.out.2 e; cases this
            have hbx : ¬ (b ≤ x) := fun e => hno (Or.inl e)
            have hbx2 : x < b := by omega
            have hil : ¬ ((i : Int) = (m.vs.length : Int) - 1) := fun e => hno (Or.inr (by have := HLT.out; omega))
            have hil2 : ((i : Int) == (m.vs.length : Int) - 1) = false := beq_eq_false_iff_ne.2 hil
            have HREL : Hid (∀ w', Below w5.heap.size w5 w' → ∃ j : Nat, j ≤ m.vs.length ∧ Value.int .i64 ((i : Int) + 1) = .int .i64 (j : Int) ∧ Value.int .i64 ((Ver.upto m.vs b i).length : Int) = .int .i64 ((Ver.upto m.vs b j).length : Nat) ∧ Below w5.heap.size w5 w') := Lib.hid (fun w' hb => ⟨i + 1, by have := HLT.out; omega, by push_cast; rfl, by rw [HUL.out]; simp, hb⟩)
            obtain ⟨uk, huk⟩ : ∃ uk, (Ver.upto m.vs b i).length = uk := ⟨_, rfl⟩
            rw [huk] at g3 g4 HREL ⊢
            clear hno huk hk10 HUA HSI HUL HFC
            go_wp2_with fail
            refine HRT.out.mono ?_
            rintro e w6 ⟨rfl, hb6⟩
            have HB6 := Lib.hid (bchain HBX.out hb6)
            clear n0 hb6
            go_wp2
            exact ⟨HREL.out _ HB6.out, by have := HLT.out; simp [intOf]; omega⟩
        · obtain rfl : i = m.vs.length := by omega
          have g1 : ¬ ((m.vs.length : Int) < (m.vs.length : Int)) := by omega
          have HUE : Hid ((Ver.upto m.vs b m.vs.length).length = (m.prune b).vs.length) := Lib.hid rfl
          rw [HUE.out]
          go_wp2_with fail
          have HGP := Lib.hid (HGD.out.prune b)
          have HSP := Lib.hid (HSZ.out.prune b)
          have HLW : Hid (b ≤ (m.prune b).low) := Lib.hid (show b ≤ max m.low b by omega)
          have HLOW := Lib.hid (fun (n : Ver.M) (gn : n.Good) (h1 : b < 1) => Ver.prune_low gn h1)
          have HTW := Lib.hid (Ver.prune_twice m b)
          obtain ⟨hh, hhe⟩ : ∃ hh, min (max b 1) 1048577 - 1 = hh := ⟨_, rfl⟩
          rw [hhe]
          obtain ⟨q, hq⟩ : ∃ q, m.prune b = q := ⟨_, rfl⟩
          have hv5 := HVO.out.keep HV5.out hbx
          have hle : q.vs.length ≤ m.vs.length := by rw [← hq]; exact HMP.out.1
          have HHE := Lib.hid hhe
          rw [hq] at HGP HSP HLW HTW hv5 HMP ⊢
          have HCM := Lib.hid (HVO.out.commitL hh (.slice none 0 0) [] hv5 (HT5.out.below hbx) ⟨none, 0, rfl, fun h => absurd h (by simp)⟩ (by simp) (fun x hx => by cases hx) (by have := HMV.out.1; omega) (by have := HMP.out.2; omega))
          unfold ptr at HCM
          have HSUB : Hid (((m.vs.length - q.vs.length : Nat) : Int) = (m.vs.length : Int) - (q.vs.length : Int)) := Lib.hid (by omega)
          have HFX : Hid (∀ k, F' k → w1.heap.size ≤ k) := HFN
          have HBX := Lib.hid hbx
          clear hv5 hq hlt hbx
          refine HCM.out.mono ?_
          rintro e w7 ⟨r, c, rt, hk7, rfl, hn7⟩
          have HS3 := Lib.hid (hk7.sw HSP.out)
          have HG3 := Lib.hid (hk7.good' HGP.out)
          have HSAME : Hid (c ≠ 0 → r = q) := Lib.hid hk7.same
          have HEND : Hid (1 ≤ b → c ≠ 0) := Lib.hid (fun h1 => by
            rw [← hhe] at hk7
            exact hk7.end_ h1 HLW.out)
          clear hhe hk7
          have HB7 := Lib.hid (next_below hn7 (B := w1.heap.size) HFX.out (Nat.le_trans HBR.out.size (Nat.le_trans HB3.out.size (Nat.le_trans HB4.out.size (Nat.le_trans HB5.out.size HBX.out.size)))))
          obtain ⟨F7, h1, -, h3, h4⟩ := hn7
          have HF7 : Hid (∀ k, F7 k → w1.heap.size ≤ k) := Lib.hid (fun k hk => by
            rcases h3 k hk with h | h
            · exact HFX.out k h
            · exact Nat.le_trans (Nat.le_trans HBR.out.size (Nat.le_trans HB3.out.size (Nat.le_trans HB4.out.size (Nat.le_trans HB5.out.size HBX.out.size)))) h)
          have HZ0 : Hid (((r.vs.length - (r.prune b).vs.length : Nat) : Int) = 0) := Lib.hid (by
            by_cases hb1 : b < 1
            · rw [HLOW.out r HG3.out hb1]; omega
            · rw [HSAME.out (HEND.out (by omega)), HTW.out]; omega)
          have HPR := Lib.hid (HVO.out.prune b h1 h4 (by have := HS3.out.vs; omega) (by have := HS3.out.st; omega))
          rw [HZ0.out] at HPR
          unfold ptr at HPR
          have e1 : ((q.vs.length : Int) == (q.vs.length : Int)) = true := by simp
          have e2 := HSUB.out
          have e3 : (((m.vs.length - q.vs.length : Nat) : Int) == (m.vs.length : Int) - (q.vs.length : Int)) = true := by rw [e2]; simp
          have g6 : (m.vs.length : Int) ≤ 100000 := by have := HMV.out.1; omega
          have g7 : (q.vs.length : Int) ≤ (m.vs.length : Int) := by omega
          have HB8 : Hid (Below w.heap.size w w7) := Lib.hid (bchain HB1.out ((((HBR.out.trans (HB3.out.mono HBR.out.size)).trans HB4.out).trans ((HB5.out.mono (Nat.le_trans HBR.out.size (Nat.le_trans HB3.out.size HB4.out.size))).trans (HBX.out.mono (Nat.le_trans HBR.out.size (Nat.le_trans HB3.out.size (Nat.le_trans HB4.out.size HB5.out.size)))))).trans HB7.out))
          clear h1 h3 h4
          by_cases hb1 : b < 1
          · have e4 : decide (b < 1) = true := decide_eq_true hb1
            go_wp2_with fail
            refine HPR.out.mono ?_
            rintro e w8 ⟨rfl, hn8⟩
            have hb8 := next_below hn8 (B := w.heap.size) (fun k hk => Nat.le_trans HB1.out.size (HF7.out k hk)) HB8.out.size
            go_wp2
            go_ret
            exact ⟨rfl, HB8.out.trans hb8⟩
          · have hc0 := HEND.out (by omega)
            have e4 : decide (b < 1) = false := decide_eq_false hb1
            have e5 : (c != 0) = true := by rw [bne_iff_ne]; exact hc0
            have e6 : ¬ (c = 0) := hc0
            go_wp2_with fail
            refine HPR.out.mono ?_
            rintro e w8 ⟨rfl, hn8⟩
            have hb8 := next_below hn8 (B := w.heap.size) (fun k hk => Nat.le_trans HB1.out.size (HF7.out k hk)) HB8.out.size
            go_wp2
            go_ret
            exact ⟨rfl, HB8.out.trans hb8⟩
end Go.Proofs.YtkfadijcjjdlcaaGreatDoor
namespace Go.Proofs.YtkfadijcjjdlcaaGreatDoor
open Go.RowKit
open Sto (T St)

theorem vers_ok : VerOkL VAt where
  part := fun ⟨gs, ms, mr, lo, h, hF⟩ ho hG => by
    subst hF
    exact ⟨gs, ms, mr, lo, h.part ho (fun k hk => (hG k hk).1), rfl⟩
  old := fun ⟨gs, ms, mr, lo, h, hF⟩ => by subst hF; exact h.old
  bare := fun ⟨gs, ms, mr, lo, h, hF⟩ => by subst hF; exact h.bare
  good := fun ⟨gs, ms, mr, lo, h, hF⟩ => h.good
  new := fun w _ => vnew_any w
  commitL := fun {w F v m} x z C ⟨gs, ms, mr, lo, h, hF⟩ hT hz hl _ _ _ => by
    subst hF
    refine (vcommit_any h x z C hT hz hl).mono ?_
    rintro e w' ⟨m', c, r, h1, rfl, h2, h3, h4⟩
    exact ⟨m', c, r, h1, rfl, _, ⟨gs, ms, mr, lo, h2, rfl⟩, h3, fun k hk => Or.inl hk, h4⟩
  root := fun x h0 hx ⟨gs, ms, mr, lo, h, hF⟩ => vroot_any h x h0 hx
  at_ := fun x h0 hx ⟨gs, ms, mr, lo, h, hF⟩ => vat_any h x h0 hx
  heights := fun ⟨gs, ms, mr, lo, h, hF⟩ hl => vheights_any h hl
  prune := fun {w F v m} b ⟨gs, ms, mr, lo, h, hF⟩ hT hl hs => by
    subst hF
    refine (vprune_any h b hT hl hs).mono ?_
    rintro e w' ⟨rfl, h2, h3⟩
    exact ⟨rfl, _, ⟨gs, ms, mr, _, h2, rfl⟩, h3, fun k hk => Or.inl hk, hT.outside h3 (h.tab hT)⟩
  texts := fun ⟨gs, ms, mr, lo, h, hF⟩ hs => vtexts_any h hs
theorem versGoes_done (v : Value) (L : List Ver.Act) (b : Int) (w : World) (hv : VActs w v L) (_ : L.length * 40 ≤ reachBytes) (_ : ∀ s ∈ L, (Lit.int .i64 s.kind).wf = true ∧ (Lit.int .i64 s.height).wf = true) (_ : (Lit.int .i64 b).wf = true) (hT : Tab w) :
    Calls Tryz.prog 5 #[v, .int .i64 b] w fun e w' => e = .returned (.bool true) ∧ Below w.heap.size w w' :=
  versGoes_walk vers_ok v L b w hv hT
end Go.Proofs.YtkfadijcjjdlcaaGreatDoor
namespace Go.Proofs.YtkfadijcjjdlcaaGreatDoor
open Go.ChangeShapes Go.WideShapes Go.ChangeAt Go.RowKit

theorem gK : Tryz.prog.globalNamed "pharos/sha.constants" = some 0 := by kernel_rfl
theorem tK : (Tryz.prog.globals[0]?).map (·.type) = some 185 := by kernel_rfl
theorem cK : Tryz.prog.cellsOf 185 = 64 := by kernel_rfl
theorem cW : Tryz.prog.cellsOf 131 = 1 := by kernel_rfl
def laidK : List (String × DataW Unit) := [("pharos/sha.constants", Rows.laid_pharos_sha_constants)]
theorem tab_of_laid {W : World} (h : laidMetH Tryz.prog laidK W) : Tab W := by
  rw [MakeChecks.laidMetH_plain _ _ _ (by kernel_rfl)] at h
  obtain ⟨g, t, cs, fuel, p, hg, hty, hvar, hd⟩ := Lib.laidMet.reads h (.head _)
  obtain rfl := Option.some.inj (gK.symm.trans hg)
  obtain rfl := Option.some.inj (tK.symm.trans hty)
  have hd' : DataW.trod (fun _ => ()) Tryz.prog W 0 (fun _ => true) false fuel 185 cs.toList = some (Lib.tabData .u32 Sha.kTab, p) := hd
  have hcs := Lib.cells_of_tab Tryz.underlying185 Tryz.underlying131 cW cK hd'
  intro i hi
  have hk : i < Sha.kTab.length := hi
  rw [World.var?_cell hg hvar i, ← Array.getElem?_toList, hcs]
  simp [hk]
/-- The door's own heap meets the condition. -/
theorem door_met (os : Os) (args : Array Value) : laidMetH Tryz.prog laidK ((World.doorLaid Tryz.prog 400 os).forCall (fun _ _ => 0) ⟨#[], args, []⟩).memory :=
  laidMetH_of_parts3 (fuel := 8) (laidMet_of_run' 8 (by kernel_rfl) (by kernel_rfl)) (by kernel_rfl) (by kernel_rfl)
end Go.Proofs.YtkfadijcjjdlcaaGreatDoor
