/- The law TriePlays, walked. -/
import Derived.Test.YtikabacebmbacaaDoorPk12
import Derived.Deep.RegionHeld3
namespace Go.Proofs.YtikabacebmbacaaDoor
open Go.RowKit
open Sto (T St)
open Tri (Tr)

theorem putL_zero {S : St} {x y : T} (h : Tri.putC S x y = 0) : Tri.putL S x y = Tri.put S x y := if_pos h
theorem delL_zero {S : St} {x : T} (h : (Tri.getC S x).2 = 0) : Tri.delL S x = Tri.del S x := if_pos h
set_option maxRecDepth 100000 in
set_option maxHeartbeats 8000000 in
theorem triePlays_walk (v : Value) (L : List ActT) (key : T) (w : World) (hv : TActs w v L) (hT : Tab w) :
    Calls Tryd.prog 3 #[v, .string ⟨key.toArray⟩] w fun e w' => e = .returned (.bool true) ∧ Below w.heap.size w w' := by
  have HV := Lib.hid hv
  have HNW := Lib.hid (tnew_any w)
  have HWK := Lib.hid (fun w' (hb : Below w.heap.size w w') => tworks_any w' (hT.below hb))
  have HLO := Lib.hid (fun w' (hb : Below w.heap.size w w') => long_any L 30 v w' (hv.below hb) (by omega))
  have HTB := Lib.hid (fun w' (hb : Below w.heap.size w w') => hT.below hb)
  have HNO := Lib.hid (@long_no L 30)
  obtain ⟨A, cap, rfl⟩ := hv.form
  unfold ptr at HNW
  clear hv hT
  go_enter Tryd.func3, Tryd.ntmps3
  go_wp2_with fail
  refine HNW.out.mono ?_
  rintro e w1 ⟨g0, rfl, t0, -, hb1⟩
  have HB1 := Lib.hid hb1
  have HT0 := Lib.hid (fun w' (hb : Below w1.heap.size w1 w') => t0.below hb)
  clear t0 hb1
  go_wp2_with fail
  refine (HLO.out _ HB1.out).mono ?_
  rintro e w2 ⟨rfl, hb2⟩
  have HB2 := Lib.hid (bchain HB1.out hb2)
  have HK2 := Lib.hid hb2
  clear hb2
  obtain ⟨lb, hlb⟩ : ∃ lb, longB L 30 = lb := ⟨_, rfl⟩
  rw [hlb]
  cases lb with
  | true =>
    clear hlb
    go_wp2_with fail
    refine (HWK.out _ HB2.out).mono ?_
    rintro e w3 ⟨rfl, hb3⟩
    go_wp2
    go_ret
    exact ⟨rfl, bchain HB2.out hb3⟩
  | false =>
  have HLL := Lib.hid (HNO.out hlb)
  clear hlb HNO HLO
  by_cases hk100 : 100 < key.length
  · have q1 : (key.length : Int) > 100 := by omega
    have q2 : decide ((100 : Int) < (key.length : Int)) = true := decide_eq_true (by omega)
    have q3 : decide (100 < key.length) = true := decide_eq_true hk100
    clear hk100
    go_wp2_with fail
    refine (HWK.out _ HB2.out).mono ?_
    rintro e w3 ⟨rfl, hb3⟩
    go_wp2
    go_ret
    exact ⟨rfl, bchain HB2.out hb3⟩
  have q1 : ¬ ((key.length : Int) > 100) := by omega
  have q2 : decide ((100 : Int) < (key.length : Int)) = false := decide_eq_false (by omega)
  have q3 : decide (100 < key.length) = false := decide_eq_false hk100
  have HKL : Hid (key.length ≤ 100) := Lib.hid (by omega)
  clear hk100
  have hl30 := HLL.out.1
  go_wp2
  go_loopw [5, 6, 7] (fun tv iv kv wr => ∃ (k gk : Nat) (S : St) (vI : Value), tv = .pointer (some ⟨gk, 0, none⟩) ∧ vI = iv ∧ k ≤ L.length ∧ kv = .int .i64 k ∧ TrAt wr gk S ∧ ItAt wr vI S ∧ Below w.heap.size w wr) (fun _ _ i _ => L.length - (intOf i).toNat)
  case atStart => exact ⟨0, g0, [], _, rfl, rfl, Nat.zero_le _, rfl, HT0.out _ HK2.out, RowsAt.nil .., HB2.out⟩
  case round =>
    obtain ⟨k, gk, S, vI, rfl, rfl, hk, rfl, htr, hvI, hb⟩ := hrel
    have HB := Lib.hid hb
    have HTR := Lib.hid (fun w' (hb' : Below wr.heap.size wr w') => htr.below hb')
    have HVI := Lib.hid (fun w' (hb' : Below wr.heap.size wr w') => RowsAt.below hvI hb')
    have HRS := Lib.hid htr.rise
    have HFW := Lib.hid htr.few
    by_cases hlt : k < L.length
    · have h1 : (k : Int) < (L.length : Int) := by omega
      have h0 : (0 : Int) ≤ (k : Int) := by omega
      have hal := HLL.out.2 L[k] (List.getElem_mem hlt)
      have HC : Hid (∃ b o, A = some ⟨b, o, none⟩ ∧ ∀ w', Below w.heap.size w w' → w'.cell? ⟨b, o + k * 3, none⟩ = some (.int .i64 L[k].kind) ∧ w'.cell? ⟨b, o + k * 3 + 1, none⟩ = some (.string ⟨L[k].key.toArray⟩) ∧ w'.cell? ⟨b, o + k * 3 + 2, none⟩ = some (.string ⟨L[k].val.toArray⟩)) := Lib.hid (by
        obtain ⟨b, o, e, -, -, -, -⟩ := HV.out.at (Below.refl _ _) k hlt
        refine ⟨b, o, e, fun w' hb' => ?_⟩
        obtain ⟨b2, o2, e2, -, q⟩ := HV.out.at hb' k hlt
        cases e.symm.trans e2
        exact q)
      obtain ⟨b, o, rfl, hcell⟩ := HC.out
      obtain ⟨⟨kd, x, y⟩, ha⟩ : ∃ a, L[k] = a := ⟨_, rfl⟩
      rw [ha] at hcell hal
      dsimp only at hcell hal
      have HXL : Hid (x.length ≤ 100) := Lib.hid hal.1
      have HYL : Hid (y.length ≤ 100) := Lib.hid hal.2
      have HBW : Hid (∀ w', Below wr.heap.size wr w' → Below w.heap.size w w') := Lib.hid (fun w' hb' => bchain HB.out hb')
      have HCW : Hid (∀ w', Below wr.heap.size wr w' → w'.cell? ⟨b, o + k * 3, none⟩ = some (.int .i64 kd) ∧ w'.cell? ⟨b, o + k * 3 + 1, none⟩ = some (.string ⟨x.toArray⟩) ∧ w'.cell? ⟨b, o + k * 3 + 2, none⟩ = some (.string ⟨y.toArray⟩)) := Lib.hid (fun w' hb' => hcell w' (bchain HB.out hb'))
      have HPU : Hid (∀ w', Below wr.heap.size wr w' → Calls Tryd.prog 11 #[ptr gk, .string ⟨x.toArray⟩, .string ⟨y.toArray⟩] w' fun e w'' => ∃ z, e = .returned (.tuple #[z, .int .i64 (Tri.putC S x y)]) ∧ (Tri.putC S x y = 0 → ∃ g', z = ptr g' ∧ TrAt w'' g' (Tri.put S x y)) ∧ (Tri.putC S x y ≠ 0 → z = nilp) ∧ Below wr.heap.size wr w'') := Lib.hid (fun w' hb' =>
        (tput_any x y w' (HTR.out w' hb') (HTB.out _ (HBW.out _ hb'))).mono fun e w'' ⟨z, q1, q2, q3, q4⟩ => ⟨z, q1, q2, q3, bchain hb' q4⟩)
      have HDE : Hid (∀ w', Below wr.heap.size wr w' → Calls Tryd.prog 13 #[ptr gk, .string ⟨x.toArray⟩] w' fun e w'' => ∃ z, e = .returned (.tuple #[z, .int .i64 (Tri.getC S x).2]) ∧ ((Tri.getC S x).2 = 0 → ∃ g', z = ptr g' ∧ TrAt w'' g' (Tri.del S x)) ∧ ((Tri.getC S x).2 ≠ 0 → z = nilp) ∧ Below wr.heap.size wr w'') := Lib.hid (fun w' hb' =>
        (tdel_any x w' (HTR.out w' hb') (HTB.out _ (HBW.out _ hb'))).mono fun e w'' ⟨z, q1, q2, q3, q4⟩ => ⟨z, q1, q2, q3, bchain hb' q4⟩)
      have HRP : Hid (∀ w', Below wr.heap.size wr w' → Calls Tryd.prog 12 #[vI, .string ⟨x.toArray⟩, .string ⟨y.toArray⟩] w' fun e w'' => ∃ vn, e = .returned (.tuple #[vn, .int .i64 (Tri.putC S x y)]) ∧ ItAt w'' vn (Tri.putL S x y) ∧ Below wr.heap.size wr w'' ∧ Below w'.heap.size w' w'') := Lib.hid (fun w' hb' =>
        (rtPut_any S vI x y w' (HVI.out w' hb') (by have := HFW.out; omega) (by have := HXL.out; omega) (by have := HYL.out; omega)).mono fun e w'' ⟨vn, q1, q2, q3⟩ => ⟨vn, q1, q2, bchain hb' q3, q3⟩)
      have HRD : Hid (∀ w', Below wr.heap.size wr w' → Calls Tryd.prog 14 #[vI, .string ⟨x.toArray⟩] w' fun e w'' => ∃ vn, e = .returned (.tuple #[vn, .int .i64 (Tri.getC S x).2]) ∧ ItAt w'' vn (Tri.delL S x) ∧ Below wr.heap.size wr w'') := Lib.hid (fun w' hb' =>
        (rtDel_any S vI x w' (HVI.out w' hb') (by have := HFW.out; omega) HRS.out (by have := HXL.out; omega)).mono fun e w'' ⟨vn, q1, q2, q3⟩ => ⟨vn, q1, q2, bchain hb' q3⟩)
      have HPL := Lib.hid (@putL_zero S x y)
      have HDL := Lib.hid (@delL_zero S x)
      unfold ptr at HPU HDE
      have BD : Below wr.heap.size wr wr.drew := (Below.refl _ _).drew
      obtain ⟨c0, c1, c2⟩ := HCW.out _ BD
      obtain ⟨cp, hcp⟩ : ∃ cp, Tri.putC S x y = cp := ⟨_, rfl⟩
      obtain ⟨cd, hcd⟩ : ∃ cd, (Tri.getC S x).2 = cd := ⟨_, rfl⟩
      obtain ⟨SP, hSP⟩ : ∃ SP, Tri.put S x y = SP := ⟨_, rfl⟩
      obtain ⟨SD, hSD⟩ : ∃ SD, Tri.del S x = SD := ⟨_, rfl⟩
      rw [hcp] at HPU HRP HPL
      rw [hcd] at HDE HRD HDL
      rw [hSP] at HPU HPL
      rw [hSD] at HDE HDL
      have HCD := Lib.hid hcd
      clear htr hvI hb hcell ha hcp hcd HC hal hSP hSD
      by_cases hkd : 1 < kd
      · have k1 : kd > 1 := hkd
        have k2 : decide ((1 : Int) < kd) = true := decide_eq_true hkd
        have HCDE : Hid ((Tri.getC S x).2 = cd) := HCD
        clear hkd
        go_upto_region 10 with fail
        go_region_held3 (fun w' => w'.cell? ⟨b, o + k * 3 + 1, none⟩ = some (.string ⟨x.toArray⟩) ∧ w'.cell? ⟨b, o + k * 3 + 2, none⟩ = some (.string ⟨y.toArray⟩))
          ((first | (with_reducible exact ⟨c1, c2⟩) | (refine (HCW.out _ ?_).2; with_reducible assumption)))
          ((go_at_call 11; refine (HPU.out _ ?_).mono ?_; (with_reducible exact BD); rintro e w6 ⟨z1, rfl, -, -, hb6⟩))
        all_goals
          have BD6 : Below wr.heap.size wr w6.drew := hb6.drew
          obtain ⟨d0, d1, d2⟩ := HCW.out _ BD6
          clear c0 c1 c2
          go_upto_region 11 with fail
          go_region_held3 (fun w' => w'.cell? ⟨b, o + k * 3 + 1, none⟩ = some (.string ⟨x.toArray⟩) ∧ w'.cell? ⟨b, o + k * 3 + 2, none⟩ = some (.string ⟨y.toArray⟩))
            ((first | (with_reducible exact ⟨d1, d2⟩) | (refine (HCW.out _ ?_).2; with_reducible assumption)))
            ((go_at_call 12; refine (HRP.out _ ?_).mono ?_; (with_reducible exact BD6); rintro e w7 ⟨v1, rfl, -, hb7, -⟩))
          all_goals
          obtain ⟨r0, r1, r2⟩ := HCW.out _ hb7
          have HB7 := Lib.hid hb7
          clear hb6 hb7 BD6 d0 d1 d2
          go_wp2_with fail
          refine (HDE.out _ HB7.out).mono ?_
          rintro e w8 ⟨z2, rfl, hz1, hz0, hb8⟩
          have HB8 := Lib.hid hb8
          have HZ1 := Lib.hid (fun (hc : cd = 0) => hz1 hc)
          clear hb8 hz1 r0 r1 r2
          obtain ⟨r0, r1, r2⟩ := HCW.out _ HB8.out
          go_wp2_with fail
          have HZW : Hid (∀ w9, Below w8.heap.size w8 w9 → cd = 0 → ∃ g', z2 = ptr g' ∧ TrAt w9 g' SD) := Lib.hid (fun w9 hb9 hc => by
            obtain ⟨g', e1, t1⟩ := HZ1.out hc
            exact ⟨g', e1, t1.below hb9⟩)
          refine (rtDel_any S vI x _ (HVI.out _ HB8.out) (by have := HFW.out; omega) HRS.out (by have := HXL.out; omega)).mono ?_
          rintro e w9 ⟨v2, rfl, hit, hb9⟩
          have HBN := Lib.hid (bchain HB8.out hb9)
          have hz1 := HZW.out _ hb9
          rw [HCDE.out] at ⊢
          clear hb9 r0 r1 r2
          have hcc : ((cd : Int) == (cd : Int)) = true := beq_self_eq_true _
          by_cases hc : cd = 0
          · obtain ⟨g', rfl, ht⟩ := hz1 hc
            skip
            have HTN := Lib.hid ht
            have hvn := hit
            rw [HDL.out hc] at hvn
            have HVN := Lib.hid hvn
            subst hc
            clear ht hvn hz1 hz0 hit
            unfold ptr
            go_wp2_with fail
            refine (sitems_any _ (HTR.out _ HBN.out)).mono ?_
            rintro e w20 ⟨zi, rfl, oi, hb20⟩
            have HB20 := Lib.hid (bchain HBN.out hb20)
            have HTN2 := Lib.hid (HTN.out.below hb20)
            have HVN2 := Lib.hid (RowsAt.below HVN.out hb20)
            have HOI := Lib.hid oi
            clear oi hb20
            go_wp2_with fail
            refine (sameI_any S S _ _ _ HOI.out.at_ (HVI.out _ HB20.out) (by have := HFW.out; omega) (by have := HFW.out; omega)).mono ?_
            rintro e w21 ⟨rfl, hb21⟩
            have HB21 := Lib.hid (bchain HB20.out hb21)
            have HTN3 := Lib.hid (HTN2.out.below hb21)
            have HVN3 := Lib.hid (RowsAt.below HVN2.out hb21)
            have hde : decide (S = S) = true := decide_eq_true rfl
            rw [hde]
            clear hb21 hde
            go_wp2_with fail
            refine (has_any v2 key _ HTN3.out HVN3.out (by have := HKL.out; omega)).mono ?_
            rintro e w22 ⟨rfl, hb22⟩
            have HB22 := Lib.hid (bchain HB21.out hb22)
            have HTN4 := Lib.hid (HTN3.out.below hb22)
            have HVN4 := Lib.hid (RowsAt.below HVN3.out hb22)
            obtain ⟨-, r1, -⟩ := HCW.out _ HB22.out
            clear hb22
            go_wp2_with fail
            refine (has_any v2 x _ HTN4.out HVN4.out (by have := HXL.out; omega)).mono ?_
            rintro e w23 ⟨rfl, hb23⟩
            have HB23 := Lib.hid (bchain HB22.out hb23)
            have HTN5 := Lib.hid (HTN4.out.below hb23)
            have HVN5 := Lib.hid (RowsAt.below HVN4.out hb23)
            clear hb23 r1
            go_wp2
            exact ⟨⟨k + 1, g', _, v2, rfl, rfl, by omega, by go_num, HTN5.out, HVN5.out, HBW.out _ HB23.out⟩, by simp [intOf]; omega⟩
          · have hce : ((cd : Int) == 0) = false := by rw [beq_eq_false_iff_ne]; omega
            have e1 : z2 = .pointer none := hz0 hc
            subst e1
            have hcn : ((cd : Int) != 0) = true := by rw [bne_iff_ne]; omega
            have hcz : ¬ ((cd : Int) = 0) := by omega
            clear hz1 hz0 hit
            go_wp2_with fail
            refine (sitems_any _ (HTR.out _ HBN.out)).mono ?_
            rintro e w20 ⟨zi, rfl, oi, hb20⟩
            have HB20 := Lib.hid (bchain HBN.out hb20)
            have HOI := Lib.hid oi
            clear oi hb20
            go_wp2_with fail
            refine (sameI_any S S _ _ _ HOI.out.at_ (HVI.out _ HB20.out) (by have := HFW.out; omega) (by have := HFW.out; omega)).mono ?_
            rintro e w21 ⟨rfl, hb21⟩
            have HB21 := Lib.hid (bchain HB20.out hb21)
            have hde : decide (S = S) = true := decide_eq_true rfl
            rw [hde]
            clear hb21 hde
            go_wp2_with fail
            refine (has_any vI key _ (HTR.out _ HB21.out) (HVI.out _ HB21.out) (by have := HKL.out; omega)).mono ?_
            rintro e w22 ⟨rfl, hb22⟩
            have HB22 := Lib.hid (bchain HB21.out hb22)
            obtain ⟨-, r1, -⟩ := HCW.out _ HB22.out
            clear hb22
            go_wp2_with fail
            refine (has_any vI x _ (HTR.out _ HB22.out) (HVI.out _ HB22.out) (by have := HXL.out; omega)).mono ?_
            rintro e w23 ⟨rfl, hb23⟩
            have HB23 := Lib.hid (bchain HB22.out hb23)
            clear hb23 r1
            go_wp2
            exact ⟨⟨k + 1, gk, S, vI, rfl, rfl, by omega, by go_num, HTR.out _ HB23.out, HVI.out _ HB23.out, HBW.out _ HB23.out⟩, by simp [intOf]; omega⟩
      · have k1 : ¬ (kd > 1) := hkd
        have k2 : decide ((1 : Int) < kd) = false := decide_eq_false hkd
        clear hkd
        go_upto_region 10 with fail
        go_region_held3 (fun w' => w'.cell? ⟨b, o + k * 3 + 1, none⟩ = some (.string ⟨x.toArray⟩) ∧ w'.cell? ⟨b, o + k * 3 + 2, none⟩ = some (.string ⟨y.toArray⟩))
          ((first | (with_reducible exact ⟨c1, c2⟩) | (refine (HCW.out _ ?_).2; with_reducible assumption)))
          ((go_at_call 11; refine (HPU.out _ ?_).mono ?_; (with_reducible exact BD); rintro e w6 ⟨z1, rfl, hz1, hz0, hb6⟩))
        all_goals
          have BD6 : Below wr.heap.size wr w6.drew := hb6.drew
          obtain ⟨d0, d1, d2⟩ := HCW.out _ BD6
          clear c0 c1 c2
          go_upto_region 11 with fail
          go_region_held3 (fun w' => w'.cell? ⟨b, o + k * 3 + 1, none⟩ = some (.string ⟨x.toArray⟩) ∧ w'.cell? ⟨b, o + k * 3 + 2, none⟩ = some (.string ⟨y.toArray⟩))
            ((first | (with_reducible exact ⟨d1, d2⟩) | (refine (HCW.out _ ?_).2; with_reducible assumption)))
            ((go_at_call 12; refine (HRP.out _ ?_).mono ?_; (with_reducible exact BD6); rintro e w7 ⟨v1, rfl, hit, hb7, hrel7'⟩; have hrel7 : Below w6.heap.size w6 w7 := (Below.refl _ w6).drew.trans hrel7'))
          all_goals
          have hz1' : cp = 0 → ∃ g', z1 = ptr g' ∧ TrAt w7 g' SP := fun hc => by
            obtain ⟨g', e1, t1⟩ := hz1 hc
            exact ⟨g', e1, t1.below hrel7⟩
          obtain ⟨r0, r1, r2⟩ := HCW.out _ hb7
          have HBN := Lib.hid hb7
          clear hb6 hb7 BD6 d0 d1 d2 hz1 hrel7
          have hcc : ((cp : Int) == (cp : Int)) = true := beq_self_eq_true _
          by_cases hc : cp = 0
          · obtain ⟨g', rfl, ht⟩ := hz1' hc
            skip
            have HTN := Lib.hid ht
            have hvn := hit
            rw [HPL.out hc] at hvn
            have HVN := Lib.hid hvn
            subst hc
            clear ht hvn hz1' hz0 hit
            unfold ptr
            go_wp2_with fail
            refine (sitems_any _ (HTR.out _ HBN.out)).mono ?_
            rintro e w20 ⟨zi, rfl, oi, hb20⟩
            have HB20 := Lib.hid (bchain HBN.out hb20)
            have HTN2 := Lib.hid (HTN.out.below hb20)
            have HVN2 := Lib.hid (RowsAt.below HVN.out hb20)
            have HOI := Lib.hid oi
            clear oi hb20
            go_wp2_with fail
            refine (sameI_any S S _ _ _ HOI.out.at_ (HVI.out _ HB20.out) (by have := HFW.out; omega) (by have := HFW.out; omega)).mono ?_
            rintro e w21 ⟨rfl, hb21⟩
            have HB21 := Lib.hid (bchain HB20.out hb21)
            have HTN3 := Lib.hid (HTN2.out.below hb21)
            have HVN3 := Lib.hid (RowsAt.below HVN2.out hb21)
            have hde : decide (S = S) = true := decide_eq_true rfl
            rw [hde]
            clear hb21 hde
            go_wp2_with fail
            refine (has_any v1 key _ HTN3.out HVN3.out (by have := HKL.out; omega)).mono ?_
            rintro e w22 ⟨rfl, hb22⟩
            have HB22 := Lib.hid (bchain HB21.out hb22)
            have HTN4 := Lib.hid (HTN3.out.below hb22)
            have HVN4 := Lib.hid (RowsAt.below HVN3.out hb22)
            obtain ⟨-, r1, -⟩ := HCW.out _ HB22.out
            clear hb22
            go_wp2_with fail
            refine (has_any v1 x _ HTN4.out HVN4.out (by have := HXL.out; omega)).mono ?_
            rintro e w23 ⟨rfl, hb23⟩
            have HB23 := Lib.hid (bchain HB22.out hb23)
            have HTN5 := Lib.hid (HTN4.out.below hb23)
            have HVN5 := Lib.hid (RowsAt.below HVN4.out hb23)
            clear hb23 r1
            go_wp2
            exact ⟨⟨k + 1, g', _, v1, rfl, rfl, by omega, by go_num, HTN5.out, HVN5.out, HBW.out _ HB23.out⟩, by simp [intOf]; omega⟩
          · have hce : ((cp : Int) == 0) = false := by rw [beq_eq_false_iff_ne]; omega
            have e1 : z1 = .pointer none := hz0 hc
            subst e1
            have hcn : ((cp : Int) != 0) = true := by rw [bne_iff_ne]; omega
            have hcz : ¬ ((cp : Int) = 0) := by omega
            clear hz1' hz0 hit
            go_wp2_with fail
            refine (sitems_any _ (HTR.out _ HBN.out)).mono ?_
            rintro e w20 ⟨zi, rfl, oi, hb20⟩
            have HB20 := Lib.hid (bchain HBN.out hb20)
            have HOI := Lib.hid oi
            clear oi hb20
            go_wp2_with fail
            refine (sameI_any S S _ _ _ HOI.out.at_ (HVI.out _ HB20.out) (by have := HFW.out; omega) (by have := HFW.out; omega)).mono ?_
            rintro e w21 ⟨rfl, hb21⟩
            have HB21 := Lib.hid (bchain HB20.out hb21)
            have hde : decide (S = S) = true := decide_eq_true rfl
            rw [hde]
            clear hb21 hde
            go_wp2_with fail
            refine (has_any vI key _ (HTR.out _ HB21.out) (HVI.out _ HB21.out) (by have := HKL.out; omega)).mono ?_
            rintro e w22 ⟨rfl, hb22⟩
            have HB22 := Lib.hid (bchain HB21.out hb22)
            obtain ⟨-, r1, -⟩ := HCW.out _ HB22.out
            clear hb22
            go_wp2_with fail
            refine (has_any vI x _ (HTR.out _ HB22.out) (HVI.out _ HB22.out) (by have := HXL.out; omega)).mono ?_
            rintro e w23 ⟨rfl, hb23⟩
            have HB23 := Lib.hid (bchain HB22.out hb23)
            clear hb23 r1
            go_wp2
            exact ⟨⟨k + 1, gk, S, vI, rfl, rfl, by omega, by go_num, HTR.out _ HB23.out, HVI.out _ HB23.out, HBW.out _ HB23.out⟩, by simp [intOf]; omega⟩
    · obtain rfl : k = L.length := by omega
      have h1 : ¬ ((L.length : Int) < (L.length : Int)) := by omega
      clear htr hvI hb
      go_wp2_with fail
      refine (HWK.out _ HB.out).mono ?_
      rintro e w3 ⟨rfl, hb3⟩
      go_wp2
      go_ret
      exact ⟨rfl, bchain HB.out hb3⟩
theorem triePlays_law (v : Value) (L : List ActT) (key : ByteArray) (w : World) (hv : TActs w v L) (_ : L.length * 40 ≤ reachBytes) (_ : ∀ s ∈ L, OkTAct s) (_ : key.size ≤ maxLen) (hT : Tab w) :
    Calls Tryd.prog 3 #[v, .string key] w fun e w' => e = .returned (.bool true) ∧ Below w.heap.size w w' := by
  obtain ⟨k, rfl⟩ := bytes_list key
  exact triePlays_walk v L k w hv hT
end Go.Proofs.YtikabacebmbacaaDoor
