/- The law SpanSound, walked. -/
import Derived.Test.YtaficmboooaknaaGreatDoorPk25
import Derived.Test.YtaficmboooaknaaGreatDoorPk17
import Derived.Test.YtaficmboooaknaaGreatDoorPk24
namespace Go.Proofs.YtaficmboooaknaaGreatDoor
open Go.RowKit
open Sto (T St)

set_option maxRecDepth 100000 in
set_option maxHeartbeats 8000000 in
theorem spanSound_walk (lv : Value) (M : St) (f e : T) (m : Int) (zi : Value) (I : St) (x : T) (zn : Value) (L : List T) (w : World) (hi : ItIn w lv M) (hT : Tab w) (hf : f.length ≤ 2000000) (he : e.length ≤ 2000000) (hI : ItIn w zi I) (hL : StrsC w zn L) (hm : L.length ≤ maxLen) :
    Calls Tryz.prog 6 #[lv, .agg #[.string ⟨f.toArray⟩, .string ⟨e.toArray⟩, .int .i64 m], .agg #[zi, .string ⟨x.toArray⟩, zn]] w fun r w' => r = .returned (.bool true) ∧ Below w.heap.size w w' := by
  obtain ⟨wa, hwa⟩ : ∃ wa, w.alloc (.cells #[.string ⟨f.toArray⟩, .string ⟨e.toArray⟩, .int .i64 m] 24) = wa := ⟨_, rfl⟩
  obtain ⟨q0, hq0⟩ : ∃ q0, w.heap.size = q0 := ⟨_, rfl⟩
  obtain ⟨w0, hw0⟩ : ∃ w0, wa.alloc (.cells #[zi, .string ⟨x.toArray⟩, zn] 31) = w0 := ⟨_, rfl⟩
  obtain ⟨q5, hq5⟩ : ∃ q5, wa.heap.size = q5 := ⟨_, rfl⟩
  have hba : Below w.heap.size w wa := by rw [← hwa]; exact (Below.refl _ w).alloc (Nat.le_refl _) _
  have hbz : Below wa.heap.size wa w0 := by rw [← hw0]; exact (Below.refl _ wa).alloc (Nat.le_refl _) _
  have hb0 : Below w.heap.size w w0 := bchain hba hbz
  have ra : EndsAt w0 q0 f e m := EndsAt.below (by rw [← hwa, ← hq0]; exact heap_alloc_new w _) hbz
  have rp : PageAt w0 q5 zi x zn := by rw [← hw0, ← hq5]; exact heap_alloc_new wa _
  have HB0 := Lib.hid hb0
  have HE0 := Lib.hid ra
  have HP0 := Lib.hid rp
  have HI := Lib.hid (RowsIn.below hi hb0)
  have HT := Lib.hid (hT.below hb0)
  have HIP := Lib.hid (RowsIn.below hI hb0)
  have HLP := Lib.hid (hL.below hb0)
  have HM := Lib.hid hm
  have HWK := Lib.hid (spworks_any w0 HT.out)
  have HFE : Hid (f.length ≤ 2000000 ∧ e.length ≤ 2000000) := Lib.hid ⟨hf, he⟩
  obtain ⟨A0, cap0, rfl, -, -⟩ := hi.form
  clear ra rp hba hbz hb0 hi hT hf he hI hL hm
  go_enter Tryz.func6, Tryz.ntmps6
  go_upto_region 1 with fail
  try rw [hq0]
  try rw [hq5]
  clear hw0 hq0 hwa hq5
  go_wp2_with fail
  refine HWK.out.mono ?_
  rintro r w1 ⟨rfl, hb1⟩
  have HB1 := Lib.hid (bchain HB0.out hb1)
  have HE1 := Lib.hid (HE0.out.below hb1)
  have HP1 := Lib.hid (HP0.out.below hb1)
  have HT1 := Lib.hid (HT.out.below hb1)
  have HI1 := Lib.hid (RowsIn.below HI.out hb1)
  have HIP1 := Lib.hid (RowsIn.below HIP.out hb1)
  have HLP1 := Lib.hid (HLP.out.below hb1)
  have HBG := Lib.hid (spbig_any zi I x zn L w1 HIP1.out HLP1.out HM.out)
  unfold BigPost at HBG
  obtain ⟨s0, s1, s2⟩ := HP1.out.cells
  clear hb1 HWK
  go_wp2_with fail
  refine HBG.out.mono ?_
  rintro r w2 ⟨bb, rfl, hfit, hb2⟩
  have HB2 := Lib.hid (bchain HB1.out hb2)
  have HE2 := Lib.hid (HE1.out.below hb2)
  have HP2 := Lib.hid (HP1.out.below hb2)
  have HT2 := Lib.hid (HT1.out.below hb2)
  have HI2 := Lib.hid (RowsIn.below HI1.out hb2)
  have HIP2 := Lib.hid (RowsIn.below HIP1.out hb2)
  have HLP2 := Lib.hid (HLP1.out.below hb2)
  clear hb2 s0 s1 s2 HBG
  cases bb with
  | true =>
    clear hfit
    go_wp2
    go_ret
    exact ⟨rfl, HB2.out⟩
  | false =>
  have HFIT := Lib.hid (hfit rfl)
  clear hfit
  have HSO := Lib.hid (ssome_any M _ w2 HI2.out HT2.out)
  unfold SSomePost at HSO
  go_wp2_with fail
  refine HSO.out.mono ?_
  rintro r w3 ⟨g, z, rfl, ht, hz, hb3⟩
  obtain ⟨Az, capz, rfl, -, -⟩ := hz.form
  have HB3 := Lib.hid (bchain HB2.out hb3)
  have HE3 := Lib.hid (HE2.out.below hb3)
  have HP3 := Lib.hid (HP2.out.below hb3)
  have HT3 := Lib.hid (HT2.out.below hb3)
  have HIP3 := Lib.hid (RowsIn.below HIP2.out hb3)
  have HLP3 := Lib.hid (HLP2.out.below hb3)
  have HR3 := Lib.hid ht
  obtain ⟨S, hS⟩ : ∃ S, Spn.someS M = S := ⟨_, rfl⟩
  rw [hS] at HR3
  clear ht hz hb3 HSO hS
  obtain ⟨_, t, _, _, hts⟩ := id HR3.out
  have HTS := Lib.hid hts
  clear hts
  go_upto_region 6 with fail
  have HRT : Hid (∀ w', Below w3.heap.size w3 w' → Calls Tryz.prog 23 #[.pointer (some ⟨g, 0, none⟩)] w' fun e w'' => e = .returned (.string ⟨(rootS S).toArray⟩) ∧ Below w3.heap.size w3 w'') := Lib.hid (fun w' h => (sroot_any w' (HR3.out.below h)).mono fun e w'' ⟨a, b⟩ => ⟨a, bchain h b⟩)
  have HVE : Hid (∀ w', Below w3.heap.size w3 w' → Calls Tryz.prog 19 #[.string ⟨(rootS S).toArray⟩, .string ⟨f.toArray⟩, .string ⟨e.toArray⟩, .int .i64 m, .agg #[zi, .string ⟨x.toArray⟩, zn]] w' fun y w'' => ∃ (A : Option Addr) (n cap : Nat), y = .returned (.tuple #[.slice A n cap, .string ⟨(Spn.verifyP (rootS S) f e m I x L).2.1.toArray⟩, .int .i64 (Spn.verifyP (rootS S) f e m I x L).2.2]) ∧ ItAt w'' (.slice A n cap) (Spn.verifyP (rootS S) f e m I x L).1 ∧ Below w3.heap.size w3 w'') := Lib.hid (fun w' h => by
    have h1 := spverify_any (rootS S) f e m zi I x zn L w' (RowsIn.below HIP3.out h) (HLP3.out.below h) (HT3.out.below h) (fun y hy => Nat.le_trans (HFIT.out.2.2.1 y hy) (by decide)) (Nat.le_trans HFIT.out.2.1 (by decide)) HFE.out.1 HFE.out.2
    unfold SVPost at h1
    exact h1.mono fun e w'' ⟨A, n, c, p1, p2, p3⟩ => ⟨A, n, c, p1, p2.at_, bchain h p3⟩)
  have HOK : Hid ((Spn.verifyP (rootS S) f e m I x L).2.2 = 0 → (I.length : Int) ≤ m ∧ Spn.verifyP (rootS S) f e m I x L = (I, x, 0) ∧ (I = Scn.allR S f (Spn.upTo x e) ∨ Clash (nodesS S ++ L))) := Lib.hid (fun h => by
    obtain ⟨h1, h2, _, h3, _⟩ := Spn.verify_ok h
    exact ⟨h2, h3, Spn.verify_sound HTS.out h⟩)
  have HBA : Hid ((Spn.verifyP (rootS S) f e m I x L).2.2 ≠ 0 → Spn.verifyP (rootS S) f e m I x L = ([], [], (Spn.verifyP (rootS S) f e m I x L).2.2)) := Lib.hid Spn.verify_bad
  obtain ⟨RT, hRT⟩ : ∃ RT, rootS S = RT := ⟨_, rfl⟩
  rw [hRT] at HRT HVE HOK HBA
  obtain ⟨⟨J, y, c⟩, hV⟩ : ∃ V, Spn.verifyP RT f e m I x L = V := ⟨_, rfl⟩
  rw [hV] at HVE HOK HBA
  dsimp only at HVE HOK HBA
  have HS : Hid (∀ w', Below w3.heap.size w3 w' → Below w3.heap.size w3 w' ∧ w'.cell? ⟨q0, 0, none⟩ = some (.string ⟨f.toArray⟩) ∧ w'.cell? ⟨q0, 1, none⟩ = some (.string ⟨e.toArray⟩) ∧ w'.cell? ⟨q0, 2, none⟩ = some (.int .i64 m) ∧ w'.cell? ⟨q5, 0, none⟩ = some zi ∧ w'.cell? ⟨q5, 1, none⟩ = some (.string ⟨x.toArray⟩) ∧ w'.cell? ⟨q5, 2, none⟩ = some zn) := Lib.hid (fun w' h => by
    obtain ⟨a1, a2, a3⟩ := (HE3.out.below h).cells
    obtain ⟨a4, a5, a6⟩ := (HP3.out.below h).cells
    exact ⟨h, a1, a2, a3, a4, a5, a6⟩)
  have BD : Below w3.heap.size w3 w3.drew := (Below.refl _ _).drew
  clear hRT hV
  go_region_held3 (fun w' => Below w3.heap.size w3 w' ∧ w'.cell? ⟨q0, 0, none⟩ = some (.string ⟨f.toArray⟩) ∧ w'.cell? ⟨q0, 1, none⟩ = some (.string ⟨e.toArray⟩) ∧ w'.cell? ⟨q0, 2, none⟩ = some (.int .i64 m) ∧ w'.cell? ⟨q5, 0, none⟩ = some zi ∧ w'.cell? ⟨q5, 1, none⟩ = some (.string ⟨x.toArray⟩) ∧ w'.cell? ⟨q5, 2, none⟩ = some zn)
    ((refine HS.out _ ?_; first | (with_reducible assumption) | exact And.left (by with_reducible assumption)))
    (first | (go_at_call 23; refine (HRT.out _ ?_).mono ?_; (first | (with_reducible assumption) | exact And.left (by with_reducible assumption)); rintro r wa ⟨rfl, hba⟩) | (go_at_call 19; refine (HVE.out _ ?_).mono ?_; (first | (with_reducible assumption) | exact And.left (by with_reducible assumption)); rintro r wb ⟨A6, n6, c6, rfl, ho6, hbb⟩))
  all_goals
    obtain ⟨s0, s1, s2⟩ := (HE3.out.below hbb).cells
    obtain ⟨s3, s4, s5⟩ := (HP3.out.below hbb).cells
    have HB7 := Lib.hid (bchain HB3.out hbb)
    have HE7 := Lib.hid (HE3.out.below hbb)
    have HR7 := Lib.hid (HR3.out.below hbb)
    have HP7 := Lib.hid (HP3.out.below hbb)
    have HJ7 := Lib.hid ho6
    have hn6 : n6 = J.length := by obtain ⟨A', c', hz, -, -⟩ := ho6.form; injection hz
    subst hn6
    have HLP7 := Lib.hid (HLP3.out.below hbb)
    clear hbb ho6
    by_cases hc : c = 0
    case neg =>
      have e0 := HBA.out hc
      injection e0 with e1 e0
      injection e0 with e2 e3
      subst e1 e2
      have c1 : ((c : Int) != 0) = true := by rw [bne_iff_ne]; omega
      have c2 : ((c : Int) == 0) = false := by rw [beq_eq_false_iff_ne]; omega
      clear hc e3
      go_wp2
      go_ret
      exact ⟨rfl, HB7.out⟩
    subst hc
    obtain ⟨hm2, hok, hor⟩ := HOK.out rfl
    injection hok with e1 e0
    injection e0 with e2 e3
    subst e1 e2
    clear e3
    -- the end of what the page reaches
    have HWI : Hid (∀ w' (e' : T), TrAt w' g S → Calls Tryz.prog 24 #[.pointer (some ⟨g, 0, none⟩), .string ⟨f.toArray⟩, .string ⟨e'.toArray⟩] w' fun x w'' => ∃ (A : Option Addr) (n c : Nat), x = .returned (.slice A n c) ∧ OwnI w'' w'.heap.size (.slice A n c) (Scn.allR S f e') ∧ Below w'.heap.size w' w'') := Lib.hid (fun w' e' h => spwithin_any f e' w' h)
    have HAL : Hid (∀ e', (Scn.allR S f e').length ≤ S.length) := Lib.hid (fun e' => Scn.allR_len S f e')
    have HFW := Lib.hid HR7.out.few
    have HSN : Hid (∀ w', TrAt w' g S → Calls Tryz.prog 26 #[.pointer (some ⟨g, 0, none⟩)] w' (TextsPost w' (nodesS S))) := Lib.hid (fun w' h => snodes_any w' h)
    have HNS := Lib.hid (nodesS_short HTS.out)
    have HNL := Lib.hid (nodes_few HTS.out)
    obtain ⟨NS, hNS⟩ : ∃ NS, nodesS S = NS := ⟨_, rfl⟩
    rw [hNS] at HSN HNS HNL hor
    have HOR := Lib.hid hor
    have h13 : (decide ((J.length : Int) ≤ m)) = true := decide_eq_true hm2
    have y0 : (y == y) = true := beq_self_eq_true _
    clear hNS hor hm2
    have HEN : ∃ en : T, Spn.upTo y e = en := ⟨_, rfl⟩
    obtain ⟨en, hen⟩ := HEN
    rw [hen] at HOR
    have HEND := Lib.hid hen
    obtain ⟨J2, hJ2⟩ : ∃ J2, Scn.allR S f en = J2 := ⟨_, rfl⟩
    have HWE := Lib.hid (HWI.out wb en HR7.out)
    have HJL : Hid (J.length ≤ 1000000) := Lib.hid (by have := HFIT.out.1; omega)
    have HKL : Hid (J2.length ≤ 1000000) := Lib.hid (by rw [← hJ2]; have := HAL.out en; have := HFW.out; omega)
    rw [hJ2] at HOR HWE
    clear hen hJ2
    by_cases hy : y = []
    · obtain rfl : e = en := by rw [← HEND.out]; unfold Spn.upTo; rw [if_pos hy]
      have y4 : (y == []) = true := beq_iff_eq.2 hy
      have y5 : y.isEmpty = true := by rw [hy]; rfl
      clear hy
      go_wp2_with fail
      refine HWE.out.mono ?_
      rintro r w8 ⟨A8, n8, c8, rfl, ho8, hb8⟩
      obtain rfl : n8 = J2.length := ho8.len
      have HB8 := Lib.hid (bchain HB7.out hb8)
      have HJ8 := Lib.hid (RowsAt.below HJ7.out hb8)
      have HE8 := Lib.hid (HE7.out.below hb8)
      have HP8 := Lib.hid (HP7.out.below hb8)
      have HR8 := Lib.hid (HR7.out.below hb8)
      have HLP8 := Lib.hid (HLP7.out.below hb8)
      have HSI := Lib.hid (sameI_any J J2 _ _ w8 HJ8.out ho8.at_ HJL.out HKL.out)
      clear s0 s1 s2 s3 s4 s5 hb8 ho8
      obtain ⟨bj, hbj⟩ : ∃ bj, decide (J = J2) = bj := ⟨_, rfl⟩
      rw [hbj] at HSI
      have HCL : Hid (bj = false → Clash (NS ++ L)) := Lib.hid (fun h => HOR.out.resolve_left (of_decide_eq_false (hbj.trans h)))
      clear hbj
      go_wp2_with fail
      refine HSI.out.mono ?_
      rintro r w9 ⟨rfl, hb9⟩
      have HB9 := Lib.hid (bchain HB8.out hb9)
      have HE9 := Lib.hid (HE8.out.below hb9)
      have HP9 := Lib.hid (HP8.out.below hb9)
      have HR9 := Lib.hid (HR8.out.below hb9)
      have HLP9 := Lib.hid (HLP8.out.below hb9)
      obtain ⟨s0, s1, s2⟩ := HE9.out.cells
      clear hb9
      cases bj with
      | true =>
        go_wp2
        go_ret
        exact ⟨rfl, HB9.out⟩
      | false =>
        have HCL' := Lib.hid (HCL.out rfl)
        have HSN9 : Hid (∀ w', Below w9.heap.size w9 w' → Calls Tryz.prog 26 #[.pointer (some ⟨g, 0, none⟩)] w' fun r w'' => ∃ zz, r = .returned zz ∧ Own w'' w9.heap.size zz NS ∧ Below w9.heap.size w9 w'') := Lib.hid (fun w' h => (HSN.out w' (HR9.out.below h)).mono fun r w'' ⟨zz, p1, p2, p3⟩ => ⟨zz, p1, own_low p2 h.size, bchain h p3⟩)
        have HAP : Hid (∀ w7 z7, Own w7 w9.heap.size z7 NS → Below w9.heap.size w9 w7 → w7.cell? ⟨q5, 2, none⟩ = some zn ∧ ∃ v' w', (Builtin.append_ #[29, 29] 29 #[z7, zn]).run Tryz.prog w7 = .ok v' w' ∧ Strs w' v' (NS ++ L) ∧ Below w.heap.size w w') := Lib.hid (fun w7 z7 ho hb => by
          have hv7 := (HLP9.out.below hb).strs
          obtain ⟨v', w', h1, h2, h3, _⟩ := append_strs hv7 ho (by have := HNL.out; have := HFIT.out.2.1; omega) hb.size
          have ho2 : Own w' w9.heap.size v' (NS ++ L) := by
            unfold Own
            rw [List.length_append, scells_append]
            exact h2
          have hg : Below w9.heap.size w9 w' := own_grown (Nat.le_refl _) ho hb (Below.refl _ _) h3 h2
          exact ⟨(HP9.out.below hb).cells.2.2, v', w', h1, ho2.strs, bchain HB9.out hg⟩)
        have HUN : Hid (∀ v8 w8, Strs w8 v8 (NS ++ L) → Calls Tryz.prog 25 #[.int .i64 1, v8] w8 fun r w'' => r = .returned (.bool true) ∧ Below w8.heap.size w8 w'') := Lib.hid (fun v8 w8 hs8 => by
          have h1 := runlike_any (NS ++ L) v8 w8 hs8 (by rw [List.length_append]; have := HNL.out; have := HFIT.out.2.1; omega) (fun x hx => by
            rcases List.mem_append.1 hx with hx | hx
            · exact HNS.out x hx
            · have := HFIT.out.2.2.1 x hx; omega)
          unfold UnlikePost at h1
          exact h1.mono fun r w'' ⟨ub, q1, q2, q3⟩ => ⟨by rw [q1, q2 HCL'.out], q3⟩)
        clear s0 s1 s2
        go_upto_region 14 with fail
        have BD : Below w9.heap.size w9 w9.drew := (Below.refl _ _).drew
        have k0 := (HP9.out.below BD).cells.2.2
        go_region_law (first | (refine step_call rfl 26 (.tmp 70) _ rfl (fun _ _ => rfl) _ (HSN9.out _ BD) ?_; rintro r w6 ⟨z6, rfl, ho6, hb6⟩; refine ⟨_, rfl, ?_⟩; obtain ⟨k6, v7, w7, happ, hs7, hb7⟩ := HAP.out _ _ ho6 hb6) | (refine step_append_run rfl (.tmp 71) (.tmp 73) _ rfl _ _ _ ?_ ?_ happ ?_; (first | rfl | (focus (simp [Act.eval]; done)) | fail); (first | rfl | (focus (simp [Act.eval]; done)) | fail)) | (refine step_call2 rfl 25 (.const (.int .i64 1)) (.tmp 74) _ rfl (fun _ _ => rfl) _ (HUN.out _ _ hs7) ?_; rintro r w8' ⟨rfl, hb8'⟩; refine ⟨_, rfl, ?_⟩))
        all_goals
          have HFI := Lib.hid (bchain hb7 hb8')
          clear hb7 hb8'
          go_wp2
          go_ret
          exact ⟨rfl, HFI.out⟩
    · obtain rfl : y = en := by rw [← HEND.out]; unfold Spn.upTo; rw [if_neg hy]
      have y4 : (y == []) = false := beq_eq_false_iff_ne.2 hy
      have y5 : y.isEmpty = false := by cases y <;> simp_all
      clear hy
      go_wp2_with fail
      refine HWE.out.mono ?_
      rintro r w8 ⟨A8, n8, c8, rfl, ho8, hb8⟩
      obtain rfl : n8 = J2.length := ho8.len
      have HB8 := Lib.hid (bchain HB7.out hb8)
      have HJ8 := Lib.hid (RowsAt.below HJ7.out hb8)
      have HE8 := Lib.hid (HE7.out.below hb8)
      have HP8 := Lib.hid (HP7.out.below hb8)
      have HR8 := Lib.hid (HR7.out.below hb8)
      have HLP8 := Lib.hid (HLP7.out.below hb8)
      have HSI := Lib.hid (sameI_any J J2 _ _ w8 HJ8.out ho8.at_ HJL.out HKL.out)
      clear s0 s1 s2 s3 s4 s5 hb8 ho8
      obtain ⟨bj, hbj⟩ : ∃ bj, decide (J = J2) = bj := ⟨_, rfl⟩
      rw [hbj] at HSI
      have HCL : Hid (bj = false → Clash (NS ++ L)) := Lib.hid (fun h => HOR.out.resolve_left (of_decide_eq_false (hbj.trans h)))
      clear hbj
      go_wp2_with fail
      refine HSI.out.mono ?_
      rintro r w9 ⟨rfl, hb9⟩
      have HB9 := Lib.hid (bchain HB8.out hb9)
      have HE9 := Lib.hid (HE8.out.below hb9)
      have HP9 := Lib.hid (HP8.out.below hb9)
      have HR9 := Lib.hid (HR8.out.below hb9)
      have HLP9 := Lib.hid (HLP8.out.below hb9)
      obtain ⟨s0, s1, s2⟩ := HE9.out.cells
      clear hb9
      cases bj with
      | true =>
        go_wp2
        go_ret
        exact ⟨rfl, HB9.out⟩
      | false =>
        have HCL' := Lib.hid (HCL.out rfl)
        have HSN9 : Hid (∀ w', Below w9.heap.size w9 w' → Calls Tryz.prog 26 #[.pointer (some ⟨g, 0, none⟩)] w' fun r w'' => ∃ zz, r = .returned zz ∧ Own w'' w9.heap.size zz NS ∧ Below w9.heap.size w9 w'') := Lib.hid (fun w' h => (HSN.out w' (HR9.out.below h)).mono fun r w'' ⟨zz, p1, p2, p3⟩ => ⟨zz, p1, own_low p2 h.size, bchain h p3⟩)
        have HAP : Hid (∀ w7 z7, Own w7 w9.heap.size z7 NS → Below w9.heap.size w9 w7 → w7.cell? ⟨q5, 2, none⟩ = some zn ∧ ∃ v' w', (Builtin.append_ #[29, 29] 29 #[z7, zn]).run Tryz.prog w7 = .ok v' w' ∧ Strs w' v' (NS ++ L) ∧ Below w.heap.size w w') := Lib.hid (fun w7 z7 ho hb => by
          have hv7 := (HLP9.out.below hb).strs
          obtain ⟨v', w', h1, h2, h3, _⟩ := append_strs hv7 ho (by have := HNL.out; have := HFIT.out.2.1; omega) hb.size
          have ho2 : Own w' w9.heap.size v' (NS ++ L) := by
            unfold Own
            rw [List.length_append, scells_append]
            exact h2
          have hg : Below w9.heap.size w9 w' := own_grown (Nat.le_refl _) ho hb (Below.refl _ _) h3 h2
          exact ⟨(HP9.out.below hb).cells.2.2, v', w', h1, ho2.strs, bchain HB9.out hg⟩)
        have HUN : Hid (∀ v8 w8, Strs w8 v8 (NS ++ L) → Calls Tryz.prog 25 #[.int .i64 1, v8] w8 fun r w'' => r = .returned (.bool true) ∧ Below w8.heap.size w8 w'') := Lib.hid (fun v8 w8 hs8 => by
          have h1 := runlike_any (NS ++ L) v8 w8 hs8 (by rw [List.length_append]; have := HNL.out; have := HFIT.out.2.1; omega) (fun x hx => by
            rcases List.mem_append.1 hx with hx | hx
            · exact HNS.out x hx
            · have := HFIT.out.2.2.1 x hx; omega)
          unfold UnlikePost at h1
          exact h1.mono fun r w'' ⟨ub, q1, q2, q3⟩ => ⟨by rw [q1, q2 HCL'.out], q3⟩)
        clear s0 s1 s2
        go_upto_region 14 with fail
        have BD : Below w9.heap.size w9 w9.drew := (Below.refl _ _).drew
        have k0 := (HP9.out.below BD).cells.2.2
        go_region_law (first | (refine step_call rfl 26 (.tmp 70) _ rfl (fun _ _ => rfl) _ (HSN9.out _ BD) ?_; rintro r w6 ⟨z6, rfl, ho6, hb6⟩; refine ⟨_, rfl, ?_⟩; obtain ⟨k6, v7, w7, happ, hs7, hb7⟩ := HAP.out _ _ ho6 hb6) | (refine step_append_run rfl (.tmp 71) (.tmp 73) _ rfl _ _ _ ?_ ?_ happ ?_; (first | rfl | (focus (simp [Act.eval]; done)) | fail); (first | rfl | (focus (simp [Act.eval]; done)) | fail)) | (refine step_call2 rfl 25 (.const (.int .i64 1)) (.tmp 74) _ rfl (fun _ _ => rfl) _ (HUN.out _ _ hs7) ?_; rintro r w8' ⟨rfl, hb8'⟩; refine ⟨_, rfl, ?_⟩))
        all_goals
          have HFI := Lib.hid (bchain hb7 hb8')
          clear hb7 hb8'
          go_wp2
          go_ret
          exact ⟨rfl, HFI.out⟩
theorem spanSound_law (lv : Value) (M : St) (f e : T) (m : Int) (zi : Value) (I : St) (x : T) (zn : Value) (L : List T) (w : World) (hi : ItIn w lv M) (_ : M.length * 32 ≤ reachBytes) (_ : (Lit.int .i64 m).wf = true) (hI : ItIn w zi I) (_ : I.length ≤ maxLen) (hL : StrsC w zn L) (hm : L.length ≤ maxLen) (hf : f.length ≤ 1048576) (he : e.length ≤ 1048576) (hT : Tab w) :
    Calls Tryz.prog 6 #[lv, .agg #[.string ⟨f.toArray⟩, .string ⟨e.toArray⟩, .int .i64 m], .agg #[zi, .string ⟨x.toArray⟩, zn]] w fun r w' => r = .returned (.bool true) ∧ Below w.heap.size w w' := spanSound_walk lv M f e m zi I x zn L w hi hT (Nat.le_trans hf (by decide)) (Nat.le_trans he (by decide)) hI hL hm
end Go.Proofs.YtaficmboooaknaaGreatDoor
