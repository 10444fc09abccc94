/- The law StoreKeeps, walked. -/
import Derived.Test.YtgbcilokeiengaaDoorPk10
import Derived.Deep.RegionHeld3
namespace Go.Proofs.YtgbcilokeiengaaDoor
open Go.RowKit
open Go.Proofs.YtgbcilokeiengaaDoor.Sto (St)

theorem two_rel {w : World} {C : List (List UInt8)} {x y : List UInt8} (hx : x ∈ C) (hy : y ∈ C) :
    ∃ sl l, sl = .slice (some ⟨w.heap.size, 0, none⟩) 2 2 ∧ Strs (w.drew.alloc (.cells #[.string ⟨x.toArray⟩, .string ⟨y.toArray⟩] 9)) sl l ∧ (∀ z ∈ l, z ∈ C) ∧ l.length ≤ 2 ∧ Below w.heap.size w (w.drew.alloc (.cells #[.string ⟨x.toArray⟩, .string ⟨y.toArray⟩] 9)) := by
  have hr := heap_new_at w.drew (.cells #[.string ⟨x.toArray⟩, .string ⟨y.toArray⟩] 9) w.heap.size rfl
  refine ⟨_, [x, y], rfl, ⟨some ⟨w.heap.size, 0, none⟩, 2, rfl, fun i hi => ?_⟩, fun z hz => ?_, Nat.le_refl _, ((Below.refl _ w).drew).alloc (Nat.le_refl _) _⟩
  · rcases i with _ | _ | i
    · exact ⟨_, rfl, cell_of_row _ _ 0 _ _ _ hr⟩
    · exact ⟨_, rfl, cell_of_row _ _ 1 _ _ _ hr⟩
    · exact absurd hi (by simp)
  · rcases List.mem_cons.1 hz with rfl | hz
    · exact hx
    · obtain rfl : z = y := by simpa using hz
      exact hy

set_option maxRecDepth 100000 in
set_option maxHeartbeats 4000000 in
theorem storeKeeps_walk (v : Value) (L : List ActN) (s : Int × Int) (w : World) (hv : Acts w v L) (hl : L.length * 40 ≤ reachBytes) (_ : ∀ s ∈ L, OkAct s) (_ : (Lit.int .i64 s.1).wf = true) (_ : (Lit.int .i64 s.2).wf = true) (hT : Tab w) :
    Calls Tryd.prog 4 #[v, .agg #[.int .i64 s.1, .int .i64 s.2]] w fun e w' => e = .returned (.bool true) ∧ Below w.heap.size w w' := by
  obtain ⟨a, b⟩ := s
  dsimp only
  have hb0 : Below w.heap.size w (w.alloc (.cells #[.int .i64 a, .int .i64 b] 35)) := (Below.refl _ w).alloc (Nat.le_refl _) _
  have hr0 := heap_alloc_new w (.cells #[.int .i64 a, .int .i64 b] 35)
  have HT := Lib.hid (hT.below hb0)
  have HV := Lib.hid (hv.below hb0)
  have HB0 := Lib.hid hb0
  have HR0 : Hid (∀ w', Below (w.heap.size + 1) (w.alloc (.cells #[.int .i64 a, .int .i64 b] 35)) w' → w'.cell? ⟨w.heap.size, 0, none⟩ = some (.int .i64 a) ∧ w'.cell? ⟨w.heap.size, 1, none⟩ = some (.int .i64 b)) := Lib.hid (fun w' h => by
    have hr := (h.block w.heap.size (Nat.lt_succ_self _)).trans hr0
    exact ⟨cell_of_row _ _ 0 _ _ _ hr, cell_of_row _ _ 1 _ _ _ hr⟩)
  have HZ0 : Hid ((w.alloc (.cells #[.int .i64 a, .int .i64 b] 35)).heap.size = w.heap.size + 1) := Lib.hid (by simp)
  have HLL : Hid (L.length ≤ 4000000000000) := Lib.hid (by have : reachBytes = 140737488351232 := rfl; omega)
  obtain ⟨A, cap, rfl⟩ := hv.form
  clear hv hl hT hb0 hr0
  go_enter Tryd.func4, Tryd.ntmps4
  go_wp2_with fail
  obtain ⟨p, hp⟩ : ∃ p, w.heap.size = p := ⟨_, rfl⟩
  have HP := Lib.hid hp
  rw [hp] at HB0 HR0 HZ0 ⊢
  generalize (w.alloc (.cells #[.int .i64 a, .int .i64 b] 35)) = w0 at *
  clear hp
  refine (stworks_any _ HT.out).mono ?_
  rintro e w1 ⟨rfl, hb1⟩
  have HB1 := Lib.hid hb1
  have HF := Lib.hid (stfill_any L _ w1 (HV.out.below hb1) HLL.out (HT.out.below hb1))
  unfold FillPost at HF
  clear hb1
  go_wp2_with fail
  refine HF.out.mono ?_
  rintro e w2 ⟨g, m, S, C, z, rfl, hg, hm, hs2, hown2, hca, hCl, hb2⟩
  have HB2 := Lib.hid (bchain HB1.out hb2)
  have HM : Hid (w0.heap.size ≤ m) := Lib.hid (Nat.le_trans HB1.out.size hm)
  have HS2 := Lib.hid hs2
  have HO2 := Lib.hid hown2
  have HCA := Lib.hid hca
  have HCL := Lib.hid hCl
  have HSL : Hid (S.length ≤ 30) := Lib.hid (by have := hca.len hs2.rise; omega)
  have HFK := Lib.hid (stfork_any g m S w2 hs2)
  unfold StNewPost at HFK
  clear hg hm hs2 hown2 hca hCl hb2
  go_wp2_with fail
  refine HFK.out.mono ?_
  rintro e w3 ⟨g2, m2, rfl, hg2, hm2, hs3, hb3⟩
  have HB3 := Lib.hid (bchain HB2.out hb3)
  have HS3 := Lib.hid (HS2.out.below hb3)
  have HW3 := Lib.hid hs3
  have HO3 := Lib.hid (HO2.out.below hb3)
  have HNE : Hid (m2 ≠ m) := Lib.hid (by have := HS2.out.mlt; omega)
  obtain ⟨A3, cap3, rfl⟩ := own_form HO2.out
  clear hg2 hm2 hs3 hb3
  obtain ⟨bb, hbb⟩ : ∃ bb, decide (0 < C.length) = bb := ⟨_, rfl⟩
  go_upto_if 30 with fail
  go_cut [8] from 31 to 47 (fun sv wx => ∃ sl l, sl = sv ∧ Strs wx sl l ∧ (∀ x ∈ l, x ∈ C) ∧ l.length ≤ 2 ∧ Below w3.heap.size w3 wx)
  case first =>
    cases bb with
    | true =>
      have h0 : 0 < C.length := by simpa using hbb
      have hb3' : Below (p + 1) w0 w3 := HB3.out.mono (Nat.le_of_eq HZ0.out.symm)
      obtain ⟨r1, r2⟩ := HR0.out _ hb3'
      obtain ⟨k1, q, e1, l1, hq, g1⟩ := HO3.out.strs.place h0 a
      obtain ⟨k2, q', e2, l2, hq', g2⟩ := HO3.out.strs.place h0 b
      obtain rfl : q = q' := by rw [hq] at hq'; simpa using hq'
      subst hq
      have HBa := Lib.hid (fun w => below_any a C.length w h0 (by have := HCL.out; omega))
      have HBb := Lib.hid (fun w => below_any b C.length w h0 (by have := HCL.out; omega))
      rw [e1] at HBa
      rw [e2] at HBb
      have hm1 := Sto.placeOf_mem a C h0
      have hm2 := Sto.placeOf_mem b C h0
      obtain ⟨x, hx⟩ : ∃ x, Sto.placeOf a C = x := ⟨_, rfl⟩
      obtain ⟨y, hy⟩ : ∃ y, Sto.placeOf b C = y := ⟨_, rfl⟩
      rw [hx] at g1 hm1
      rw [hy] at g2 hm2
      have HM1 := Lib.hid hm1
      have HM2 := Lib.hid hm2
      have u1 : (0 : Int) ≤ (k1 : Int) := by omega
      have u2 : (k1 : Int) < (C.length : Int) := by omega
      have u3 : (0 : Int) ≤ (k2 : Int) := by omega
      have u4 : (k2 : Int) < (C.length : Int) := by omega
      clear hb3' e1 e2 hq' hm1 hm2 hx hy h0 hbb
      have t0 : w3.drew.cell? ⟨p, 0, none⟩ = some (.int .i64 a) := r1
      have t1 : w3.drew.cell? ⟨p, 1, none⟩ = some (.int .i64 b) := r2
      have t2 : w3.drew.cell? (q.add k1) = some (.string ⟨x.toArray⟩) := g1
      have t3 : w3.drew.cell? (q.add k2) = some (.string ⟨y.toArray⟩) := g2
      go_wp2
      have HRW := Lib.hid (two_rel (C := C) (x := x) (y := y) (w := w3) HM1.out HM2.out)
      have hba : Below w3.heap.size w3 (w3.alloc (.cells #[.string ⟨x.toArray⟩, .string ⟨y.toArray⟩] 9)).drew := ((Below.refl _ w3).alloc (Nat.le_refl _) _).drew
      have s0 := (hba.cell (World.block_lt_of_cell? _ _ r1)).trans r1
      have s1 := (hba.cell (World.block_lt_of_cell? _ _ r2)).trans r2
      have s2 := (hba.cell (World.block_lt_of_cell? _ _ g1)).trans g1
      have s3 := (hba.cell (World.block_lt_of_cell? _ _ g2)).trans g2
      clear r1 r2 g1 g2 hba
      go_region_held3 (fun w' => w'.cell? ⟨p, 0, none⟩ = some (.int .i64 a) ∧ w'.cell? ⟨p, 1, none⟩ = some (.int .i64 b) ∧ w'.cell? (q.add k1) = some (.string ⟨x.toArray⟩) ∧ w'.cell? (q.add k2) = some (.string ⟨y.toArray⟩))
        ((first | exact ⟨t0, t1, t2, t3⟩ | exact ⟨s0, s1, s2, s3⟩))
        (first | (go_at_call_of 12 (Value.int .i64 a); refine (HBa.out _).mono ?_; rintro e wa ⟨rfl, rfl⟩) | (go_at_call 12; refine (HBb.out _).mono ?_; rintro e wa ⟨rfl, rfl⟩))
      all_goals
        go_wp2
        go_meet
        case rel => exact HRW.out
    | false =>
      clear hbb
      go_wp2
      go_meet
      case rel => exact ⟨_, [], rfl, ⟨none, 0, rfl, fun i hi => (by cases hi)⟩, fun x hx => (by cases hx), Nat.zero_le _, Below.refl _ _⟩
  case rest =>
    obtain ⟨sl, l, rfl, hst, hlC, hl2, hbc⟩ := hcut
    have HSC := Lib.hid (HS3.out.below hbc)
    have HWC := Lib.hid (HW3.out.below hbc)
    have HBC := Lib.hid (bchain HB3.out hbc)
    have hsh : ∀ x ∈ l, x.length ≤ 140737488351232 := fun x hx => by have := HCA.out.short x (hlC x hx); omega
    have HSH := Lib.hid hsh
    have HST := Lib.hid hst
    have HL2 := Lib.hid hl2
    have HRE := Lib.hid (streach_any g m S l sl wc HSC.out hst (by have := HSL.out; omega) (by omega) hsh)
    have HRI := Lib.hid HSC.out.rise
    have HKK := Lib.hid (Sto.keepL_keys HRI.out l)
    have HKN := Lib.hid (Sto.keepL_len HRI.out l)
    have HRK := Lib.hid (Sto.reachL_keep HRI.out l)
    have HKE := Lib.hid (Sto.keep_keep HRI.out l)
    have HRL := Lib.hid (Sto.reachL_len S l)
    have HLK := Lib.hid (fun x (hx : x ∈ Sto.reachL S l) => show Sto.look (Sto.keepL S l) x = Sto.look S x ∧ (Sto.look S x).isSome = true from ⟨by rw [Sto.look_keepL HRI.out, if_pos hx], (Sto.look_isSome S x).2 ((Sto.reachL_mem HRI.out l x).1 hx).key⟩)
    unfold RowPost at HRE
    obtain ⟨R, hR⟩ : ∃ R, Sto.reachL S l = R := ⟨_, rfl⟩
    rw [hR] at HRE HKK HKN HRK HRL
    simp only [hR] at HLK
    obtain ⟨S', hS'⟩ : ∃ S', Sto.keepL S l = S' := ⟨_, rfl⟩
    rw [hS'] at HKK HKN HRK HKE
    simp only [hS'] at HLK
    have HSS := Lib.hid hS'
    have HKL : Hid ((Sto.keys S).length = S.length) := Lib.hid (by simp [Sto.keys])
    clear hst hlC hl2 hbc hsh hR hS' hbb
    go_wp2_with fail
    refine HRE.out.mono ?_
    rintro e w5 ⟨u, rfl, hown5, hb5⟩
    have HO5 := Lib.hid hown5
    have HS5 := Lib.hid (HSC.out.below hb5)
    have HW5 := Lib.hid (HWC.out.below hb5)
    have HT5 := Lib.hid (HST.out.below hb5)
    have HB5 := Lib.hid (bchain HBC.out hb5)
    have HSU := Lib.hid (stsums_any g m S w5 HS5.out (by have := HSL.out; omega))
    unfold RowPost at HSU
    clear hown5 hb5
    go_wp2_with fail
    refine HSU.out.mono ?_
    rintro e w6 ⟨t, rfl, hown6, hb6⟩
    obtain ⟨K, hK⟩ : ∃ K, Sto.keys S = K := ⟨_, rfl⟩
    rw [hK] at hown6 HKL
    have HKQ := Lib.hid hK
    have HO6 := Lib.hid (HO5.out.below hb6)
    have HP6 := Lib.hid hown6
    have HS6 := Lib.hid (HS5.out.below hb6)
    have HW6 := Lib.hid (HW5.out.below hb6)
    have HT6 := Lib.hid (HT5.out.below hb6)
    have HB6 := Lib.hid (bchain HB5.out hb6)
    have HKP := Lib.hid (stkeep_any g m S l sl w6 HS6.out HT6.out (by have := HSL.out; omega) (by have := HL2.out; omega) HSH.out)
    unfold StKeepPost at HKP
    rw [HSS.out] at HKP
    clear hown6 hb6 hK HSU
    go_wp2_with fail
    refine HKP.out.mono ?_
    rintro e w7 ⟨rfl, hs7, ho7⟩
    have HS7 := Lib.hid hs7
    have HW7 := Lib.hid (HW6.out.outMap HS6.out HNE.out ho7)
    have HT7 := Lib.hid (HT6.out.outMap HS6.out.map ho7)
    have HO7 := Lib.hid (HO6.out.outMap HS6.out.map ho7)
    have HP7 := Lib.hid (HP6.out.outMap HS6.out.map ho7)
    have HB7 : Hid (Below w0.heap.size w0 w7) := Lib.hid (HB6.out.trans (ho7.below (fun j e => by have := HM.out; omega) HB6.out.size))
    obtain ⟨d, hd⟩ : ∃ d, S.length - S'.length = d := ⟨_, rfl⟩
    have hdd : ((d : Int) != (K.length : Int) - (R.length : Int)) = false := by
      have h1 := HKL.out
      have h2 := HKN.out
      have h3 := HRL.out
      have h4 : (d : Int) = (K.length : Int) - (R.length : Int) := by omega
      rw [h4]; simp
    have hkb : (K.length : Int) ≤ 1000 := by have := HKL.out; have := HSL.out; omega
    have hrb : (R.length : Int) ≤ 1000 := by have := HRL.out; have := HSL.out; omega
    rw [hd]
    obtain ⟨A5, c5, rfl⟩ := own_form HO5.out
    obtain ⟨A6, c6, rfl⟩ := own_form HP6.out
    have HSU7 := Lib.hid (fun w' (h : Below w7.heap.size w7 w') => stsums_any g m S' w' (HS7.out.below h) (by have := HKN.out; have := HRL.out; have := HSL.out; omega))
    have HSU8 := Lib.hid (fun w' (h : Below w7.heap.size w7 w') => stsums_any g2 m2 S w' (HW7.out.below h) (by have := HSL.out; omega))
    unfold RowPost at HSU7 HSU8
    rw [HKK.out] at HSU7
    rw [HKQ.out] at HSU8
    have HSA := Lib.hid (fun z w' (h : Below w7.heap.size w7 w') (hz : Strs w' z R) => same_any R R z _ w' hz (HO7.out.below h).strs (by have := HRL.out; have := HSL.out; omega) (by have := HRL.out; have := HSL.out; unfold maxLen; omega))
    have HSB := Lib.hid (fun z w' (h : Below w7.heap.size w7 w') (hz : Strs w' z K) => same_any K K z _ w' hz (HP7.out.below h).strs (by have := HKL.out; have := HSL.out; omega) (by have := HKL.out; have := HSL.out; unfold maxLen; omega))
    rw [decide_eq_true rfl] at HSA HSB
    clear hs7 ho7 hd
    go_wp2_with fail
    refine (HSU7.out _ (Below.refl _ _)).mono ?_
    rintro e w8 ⟨z8, rfl, hown8, hb8⟩
    have HB8 := Lib.hid hb8
    have HC8 := Lib.hid (HSA.out z8 _ hb8 hown8.strs)
    clear hown8 hb8
    go_wp2_with fail
    refine HC8.out.mono ?_
    rintro e w9 ⟨rfl, hb9⟩
    have HB9 := Lib.hid (bchain HB8.out hb9)
    clear hb9
    go_wp2_with fail
    refine (HSU8.out _ HB9.out).mono ?_
    rintro e w10 ⟨z10, rfl, hown10, hb10⟩
    have HB10 := Lib.hid (bchain HB9.out hb10)
    have HC10 := Lib.hid (HSB.out z10 _ HB10.out hown10.strs)
    clear hown10 hb10
    go_wp2_with fail
    refine HC10.out.mono ?_
    rintro e w11 ⟨rfl, hb11⟩
    have HB11 := Lib.hid (bchain HB10.out hb11)
    clear hb11 hdd
    go_wp2
    go_loopw [78] (fun i wr => ∃ k : Nat, k ≤ R.length ∧ i = .int .i64 k ∧ Below w7.heap.size w7 wr) (fun i _ => R.length - (intOf i).toNat)
    case atStart => exact ⟨0, Nat.zero_le _, rfl, HB11.out⟩
    case round =>
      obtain ⟨k, hk, rfl, hb⟩ := hrel
      have HB := Lib.hid hb
      clear HB8 HB9 HB10 HB11 HC8 HC10
      by_cases hlt : k < R.length
      · have h1 : (k : Int) < (R.length : Int) := by omega
        have h0 : (0 : Int) ≤ (k : Int) := by omega
        obtain ⟨q, rfl, hcell⟩ := HO7.out.strs_at hb k hlt
        obtain ⟨e1, e2⟩ := HLK.out R[k] (List.getElem_mem hlt)
        have hxl : R[k].length ≤ 140737488351232 := by
          obtain ⟨y, hy⟩ := Option.isSome_iff_exists.1 e2
          have := (Sto.short_look HRI.out HS6.out.short hy).1
          omega
        have HG1 := Lib.hid (fun w' (h : Below w7.heap.size w7 w') => stget_any g2 m2 S R[k] w' (HW7.out.below h) hxl)
        have HG2 := Lib.hid (fun w' (h : Below w7.heap.size w7 w') => stget_any g m S' R[k] w' (HS7.out.below h) hxl)
        rw [e1] at HG2
        rw [e2] at HG1 HG2
        obtain ⟨x, hx⟩ : ∃ x, R[k] = x := ⟨_, rfl⟩
        rw [hx] at hcell HG1 HG2
        obtain ⟨y, hy⟩ : ∃ y, (Sto.look S x).getD [] = y := ⟨_, rfl⟩
        rw [hy] at HG1 HG2
        have hyy : (y != y) = false := by simp
        clear hx hb hy e1 e2 hxl
        go_wp2_with fail
        refine (HG1.out _ HB.out).mono ?_
        rintro e wa ⟨rfl, ha⟩
        have HA := Lib.hid (bchain HB.out ha)
        clear ha hcell
        go_wp2_with fail
        refine (HG2.out _ HA.out).mono ?_
        rintro e wb ⟨rfl, hwb⟩
        have HWB := Lib.hid (bchain HA.out hwb)
        clear hwb
        go_wp2
        exact ⟨⟨k + 1, by omega, by go_num, HWB.out⟩, by simp [intOf]; omega⟩
      · have h1 : ¬ ((k : Int) < (R.length : Int)) := by omega
        have HKP2 := Lib.hid (stkeep_any g m S' l sl wr (HS7.out.below hb) (HT7.out.below hb) (by have := HKN.out; have := HRL.out; have := HSL.out; omega) (by have := HL2.out; omega) HSH.out)
        unfold StKeepPost at HKP2
        rw [HKE.out, Nat.sub_self] at HKP2
        have HTR := Lib.hid (HT7.out.below hb)
        have HSR := Lib.hid (HS7.out.below hb)
        have HOR := Lib.hid (HO7.out.below hb)
        have HBR : Hid (Below w0.heap.size w0 wr) := Lib.hid (bchain HB7.out hb)
        clear hb
        go_wp2_with fail
        refine HKP2.out.mono ?_
        rintro e wa ⟨rfl, hsa, hoa⟩
        have HBA : Hid (Below w0.heap.size w0 wa) := Lib.hid (HBR.out.trans (hoa.below (fun j e => by have := HM.out; omega) HBR.out.size))
        have HRE2 := Lib.hid (streach_any g m S' l sl wa hsa (HTR.out.outMap HSR.out.map hoa) (by have := HKN.out; have := HRL.out; have := HSL.out; omega) (by have := HL2.out; omega) HSH.out)
        unfold RowPost at HRE2
        rw [HRK.out] at HRE2
        have HOA := Lib.hid (HOR.out.outMap HSR.out.map hoa)
        clear hsa hoa
        go_wp2_with fail
        refine HRE2.out.mono ?_
        rintro e wb ⟨zb, rfl, hownb, hbb⟩
        have HBB := Lib.hid (bchain HBA.out hbb)
        have HSM := Lib.hid (same_any R R zb _ wb hownb.strs (HOA.out.below hbb).strs (by have := HRL.out; have := HSL.out; omega) (by have := HRL.out; have := HSL.out; unfold maxLen; omega))
        rw [decide_eq_true rfl] at HSM
        clear hownb hbb
        go_wp2_with fail
        refine HSM.out.mono ?_
        rintro e wd ⟨rfl, hbd⟩
        have HBD := Lib.hid (bchain HBB.out hbd)
        clear hbd
        go_wp2
        go_ret
        exact ⟨rfl, by rw [HP.out]; exact HB0.out.trans (HBD.out.mono (by have := HB0.out.size; have := HP.out; omega))⟩
end Go.Proofs.YtgbcilokeiengaaDoor
