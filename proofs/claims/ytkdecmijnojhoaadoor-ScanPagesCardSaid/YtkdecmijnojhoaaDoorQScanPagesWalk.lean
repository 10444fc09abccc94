/- The law ScanPages, walked. -/
import Derived.Test.YtkdecmijnojhoaaDoorPk10
import Derived.Test.YtkdecmijnojhoaaDoorPk11
import Derived.BigQuiet
namespace Go.Proofs.YtkdecmijnojhoaaDoor
open Go.RowKit
open Sto (T St)

theorem Tri.ofR_len (L : St) : ∀ S : St, (Tri.ofR S L).1.length ≤ S.length + L.length := by
  induction L with
  | nil => intro S; exact Nat.le_refl _
  | cons a r ih =>
    intro S
    rw [Tri.ofR]
    split
    · have h1 := ih (Tri.put S a.1 a.2)
      have h2 := Tri.put_len S a.1 a.2
      have h3 : (if Tri.at_ S a.1 then 0 else 1) ≤ 1 := by split <;> omega
      rw [List.length_cons]
      omega
    · simp

set_option maxRecDepth 100000 in
set_option maxHeartbeats 8000000 in
theorem scanPages_walk (HBE : BehindOk) (HRA : RangeOk) (HCO : CountOk) (v : Value) (L : St) (p : T × T) (m : Int) (w : World) (hv : ItIn w v L) (hl : L.length ≤ 5000000000000) (hT : Tab w) :
    Calls Tryd.prog 5 #[v, .agg #[.string ⟨p.1.toArray⟩, .string ⟨p.2.toArray⟩], .int .i64 m] w fun e w' => e = .returned (.bool true) ∧ Below w.heap.size w w' := by
  obtain ⟨f, en⟩ := p
  show Calls _ _ #[v, .agg #[.string ⟨f.toArray⟩, .string ⟨en.toArray⟩], .int .i64 m] w _
  obtain ⟨w0, hw0⟩ : ∃ w0, w.alloc (.cells #[.string ⟨f.toArray⟩, .string ⟨en.toArray⟩] 23) = w0 := ⟨_, rfl⟩
  have hb0 : Below w.heap.size w w0 := by rw [← hw0]; exact (Below.refl _ w).alloc (Nat.le_refl _) _
  have ra : w0.heap[w.heap.size]? = some (.cells #[.string ⟨f.toArray⟩, .string ⟨en.toArray⟩] 23 (0, 0)) := by rw [← hw0]; exact heap_alloc_new w _
  have HC : Hid (∀ w', Below w0.heap.size w0 w' → w'.cell? ⟨w.heap.size, 0, none⟩ = some (.string ⟨f.toArray⟩) ∧ w'.cell? ⟨w.heap.size, 1, none⟩ = some (.string ⟨en.toArray⟩)) := Lib.hid (fun w' hb => by
    have xa := (hb.block _ (lt_of_heap ra)).trans ra
    refine ⟨?_, ?_⟩
    · rw [cell_of_row _ _ 0 _ _ _ xa]; rfl
    · rw [cell_of_row _ _ 1 _ _ _ xa]; rfl)
  have HV0 := Lib.hid (RowsIn.below hv hb0)
  have HT0 := Lib.hid (hT.below hb0)
  have HB0 := Lib.hid hb0
  have HLL := Lib.hid hl
  have HWK := Lib.hid (fun w' (hb : Below w0.heap.size w0 w') => scworks_any HBE HRA w' (HT0.out.below hb))
  have HRA := Lib.hid HRA
  have HCO := Lib.hid HCO
  obtain ⟨A, cap, rfl, -, -⟩ := hv.form
  clear ra hb0 hT hv HBE
  go_enter Tryd.func5, Tryd.ntmps5
  go_wp2_with fail
  clear hw0
  refine (HWK.out _ (Below.refl _ _)).mono ?_
  rintro e w1 ⟨rfl, hb1⟩
  have HB1 := Lib.hid hb1
  clear hb1
  go_wp2_with fail
  refine (tof_wide L _ w1 (RowsIn.below HV0.out HB1.out) HLL.out (HT0.out.below HB1.out)).mono ?_
  rintro e w2 ⟨z, rfl, hz1, hz0, hb2⟩
  have HB2 := Lib.hid (bchain HB1.out hb2)
  clear hb2
  have HSL := Lib.hid (Tri.ofR_len L [])
  obtain ⟨⟨S, c⟩, hSc⟩ : ∃ X, Tri.ofR [] L = X := ⟨_, rfl⟩
  rw [hSc] at hz1 hz0 HSL ⊢
  dsimp only [List.length_nil] at hz1 hz0 HSL ⊢
  clear hSc
  by_cases hc : c = 0
  case neg =>
    have e1 : z = nilp := hz0 hc
    subst e1
    have hc1 : ((c : Int) == 0) = false := by rw [beq_eq_false_iff_ne]; omega
    have hc2 : ((c : Int) != 0) = true := by rw [bne_iff_ne]; omega
    have hc3 : ¬ ((c : Int) = 0) := by omega
    unfold nilp
    clear hz1 hz0
    go_wp2
    go_ret
    exact ⟨rfl, bchain HB0.out HB2.out⟩
  subst hc
  obtain ⟨g, rfl, t2⟩ := hz1 rfl
  have HTR := Lib.hid (fun w' (hb : Below w2.heap.size w2 w') => t2.below hb)
  have HSR := Lib.hid t2.rise
  have HS8 : Hid (∀ q ∈ S, q.1.length ≤ 8) := Lib.hid (fun q hq => by
    obtain ⟨_, _, _, _, h⟩ := t2
    exact (h.fair q hq).2.1)
  clear hz1 hz0 t2
  unfold ptr
  by_cases hl40 : 40 < L.length
  · have q1 : (40 : Int) < (L.length : Int) := by omega
    have q2 : decide ((40 : Int) < (L.length : Int)) = true := decide_eq_true q1
    clear hl40 hl
    go_wp2
    go_ret
    exact ⟨rfl, bchain HB0.out HB2.out⟩
  have q1 : ¬ ((40 : Int) < (L.length : Int)) := by omega
  have q2 : decide ((40 : Int) < (L.length : Int)) = false := decide_eq_false q1
  have HS40 : Hid (S.length ≤ 40) := Lib.hid (by have := HSL.out; omega)
  clear hl40 hl HSL
  obtain ⟨k, hk, hk16⟩ := Bk.below_nat m 16 (by decide)
  have HBL := Lib.hid (fun w => below_any m 16 w (by decide) (by decide))
  rw [hk] at HBL
  clear hk
  go_wp2_with fail
  refine (HBL.out w2).mono ?_
  rintro e w3 ⟨rfl, rfl⟩
  go_wp2_with fail
  refine (sitems_any w3 (HTR.out _ (Below.refl _ _))).mono ?_
  rintro e w4 ⟨z4, rfl, o4, hb4⟩
  have HK4 := Lib.hid hb4
  have HO4 := Lib.hid o4
  obtain ⟨A4, cap4, rfl, -, -⟩ := o4.at_.form
  clear o4 hb4
  have HN0 := Lib.hid (OwnI.nil w4 w4.heap.size)
  have HTK : Hid (OwnI w4 w4.heap.size (.slice none 0 0) (Scn.allR (S.take 0) f en)) := Lib.hid (by simpa [Scn.allR] using HN0.out)
  go_wp2
  go_loopw [9, 37] (fun av iv wr => ∃ (i : Nat) (u : Value), u = av ∧ i ≤ S.length ∧ iv = .int .i64 i ∧ OwnI wr w4.heap.size u (Scn.allR (S.take i) f en) ∧ Below w4.heap.size w4 wr) (fun _ i _ => S.length - (intOf i).toNat)
  case atStart => exact ⟨0, _, rfl, Nat.zero_le _, rfl, HTK.out, Below.refl _ _⟩
  case round =>
    obtain ⟨i, u, rfl, hi, rfl, hu, hb⟩ := hrel
    have HB := Lib.hid hb
    have HU := Lib.hid hu
    clear hu hb
    by_cases hlt : i < S.length
    · have h1 : (i : Int) < (S.length : Int) := by omega
      have h0 : (0 : Int) ≤ (i : Int) := by omega
      have hnb : (i : Int) ≤ 100000 := by have := HS40.out; omega
      have HVW := Lib.hid (HO4.out.below HB.out).at_
      obtain ⟨b, o, rfl, n0, n1⟩ := ItAt.at HVW.out i hlt
      have HST := Lib.hid (Scn.allR_take S f en i hlt)
      obtain ⟨⟨x, y⟩, hx⟩ : ∃ p, S[i] = p := ⟨_, rfl⟩
      rw [hx] at HST n0 n1
      dsimp only at HST n0 n1
      have HBA : Hid (Below w4.heap.size w4 (wr.alloc (.cells #[.string ⟨x.toArray⟩, .string ⟨y.toArray⟩] 44))) := Lib.hid (HB.out.trans ((Below.refl _ wr).alloc HB.out.size _))
      obtain ⟨m0, m1⟩ := HC.out _ (bchain HB2.out (bchain HK4.out HBA.out))
      obtain ⟨O, hO⟩ : ∃ O, Scn.allR (S.take i) f en = O := ⟨_, rfl⟩
      have hpl := Scn.allR_len (S.take i) f en
      rw [hO] at HST HU hpl
      have HTL : Hid (O.length ≤ 100000) := Lib.hid (by have := HS40.out; simp at hpl; omega)
      have HUA : Hid (OwnI (wr.alloc (.cells #[.string ⟨x.toArray⟩, .string ⟨y.toArray⟩] 44)) w4.heap.size u O) := Lib.hid (HU.out.below ((Below.refl _ wr).alloc (Nat.le_refl _) _))
      obtain ⟨g5, c5, w5, happ, hown, hb5⟩ := app_item x y HUA.out HTL.out HBA.out.size
      rw [World.size_alloc] at happ
      have HOWN := Lib.hid hown
      have HB5 := Lib.hid (HBA.out.trans hb5)
      obtain ⟨pf, hpf⟩ : ∃ p, decide (x < f) = p := ⟨_, rfl⟩
      obtain ⟨pe, hpe⟩ : ∃ p, decide (x < en) = p := ⟨_, rfl⟩
      have q1 : Op.bytesLess x f = pf := by rw [less_lt]; exact hpf
      have q2 : Op.bytesLess x en = pe := by rw [less_lt]; exact hpe
      have HIN : Hid (Scn.inR f en x = (!pf && (decide (en = []) || pe))) := Lib.hid (by
        have e1 : decide (f ≤ x) = !decide (x < f) := by rw [← decide_not]; exact decide_eq_decide.2 List.not_lt.symm
        unfold Scn.inR
        rw [e1, hpf, hpe])
      have HEN : Hid ((en == []) = true ∧ en.isEmpty = true ∧ decide (en = []) = true ∨ (en == []) = false ∧ en.isEmpty = false ∧ decide (en = []) = false) := Lib.hid (by
        by_cases h : en = []
        · left; subst h; exact ⟨rfl, rfl, rfl⟩
        · exact Or.inr ⟨beq_eq_false_iff_ne.2 h, by cases en <;> simp_all, decide_eq_false h⟩)
      clear hx hO hpl hown hb5 hpf hpe
      cases pf with
      | true =>
        have HSK := HST
        rw [HIN.out] at HSK
        simp only [Bool.not_true, Bool.false_and, Bool.false_eq_true, if_false, List.append_nil] at HSK
        go_wp2
        refine ⟨⟨i + 1, _, rfl, by omega, by go_num, by rw [HSK.out]; exact HUA.out, HBA.out⟩, by simp [intOf]; omega⟩
      | false =>
        rcases HEN.out with ⟨q3, q4, q5⟩ | ⟨q3, q4, q5⟩
        · have HSK := HST
          rw [HIN.out, q5] at HSK
          simp only [Bool.not_false, Bool.true_and, Bool.true_or, if_true] at HSK
          go_wp2_with (at_builtin; refine wpList_append_run rfl _ _ _ rfl u _ _ (by rfl) (by rfl) happ ?_)
          refine ⟨⟨i + 1, _, rfl, by omega, by go_num, by rw [HSK.out]; exact HOWN.out, HB5.out⟩, by simp [intOf]; omega⟩
        · cases pe with
          | true =>
            have HSK := HST
            rw [HIN.out] at HSK
            simp only [Bool.not_false, Bool.true_and, Bool.or_true, if_true] at HSK
            go_wp2_with (at_builtin; refine wpList_append_run rfl _ _ _ rfl u _ _ (by rfl) (by rfl) happ ?_)
            refine ⟨⟨i + 1, _, rfl, by omega, by go_num, by rw [HSK.out]; exact HOWN.out, HB5.out⟩, by simp [intOf]; omega⟩
          | false =>
            have HSK := HST
            rw [HIN.out, q5] at HSK
            simp only [Bool.not_false, Bool.true_and, Bool.or_false, Bool.false_eq_true, if_false, List.append_nil] at HSK
            go_wp2
            refine ⟨⟨i + 1, _, rfl, by omega, by go_num, by rw [HSK.out]; exact HUA.out, HBA.out⟩, by simp [intOf]; omega⟩
    · obtain rfl : i = S.length := by omega
      have h1 : ¬ ((S.length : Int) < (S.length : Int)) := by omega
      obtain ⟨m0, m1⟩ := HC.out _ (bchain HB2.out (bchain HK4.out HB.out))
      have HW : Hid (OwnI wr w4.heap.size u (Scn.allR S f en)) := Lib.hid (by have := HU.out; rwa [List.take_length] at this)
      obtain ⟨wl, rfl⟩ : ∃ y, y = wr := ⟨_, rfl⟩
      have HBL : Hid (Below w3.heap.size w3 wl) := Lib.hid (bchain HK4.out HB.out)
      have HCL : Hid (∀ w', Below wl.heap.size wl w' → w'.cell? ⟨w.heap.size, 0, none⟩ = some (.string ⟨f.toArray⟩) ∧ w'.cell? ⟨w.heap.size, 1, none⟩ = some (.string ⟨en.toArray⟩)) := Lib.hid (fun w' h => HC.out _ (bchain HB2.out (bchain HBL.out h)))
      have HWL : Hid (∀ w', Below wl.heap.size wl w' → ItAt w' u (Scn.allR S f en)) := Lib.hid (fun w' h => (HW.out.below h).at_)
      have HNX := Lib.hid (fun a (h1 : 1 ≤ k + 1) (h2 : k + 1 < (Scn.allR S a en).length) => Scn.allR_next HSR.out HS8.out a en (k + 1) h1 h2)
      have HAL : Hid (∀ a, (Scn.allR S a en).length ≤ 40) := Lib.hid (fun a => Nat.le_trans (Scn.allR_len S a en) HS40.out)
      have hk15 : (k : Int) ≤ 15 := by omega
      obtain ⟨A9, c9, rfl, -, -⟩ := HW.out.at_.form
      have HG0 := Lib.hid (OwnI.nil wl wl.heap.size)
      clear hlt hi
      go_wp2
      go_loopw [10, 13, 65] (fun gv fv iv wr => ∃ (i : Nat) (G : St) (a : T), iv = .int .i64 i ∧ i ≤ G.length ∧ fv = .string ⟨a.toArray⟩ ∧ OwnI wr wl.heap.size gv G ∧ G ++ Scn.allR S a en = Scn.allR S f en ∧ Below wl.heap.size wl wr) (fun _ _ i _ => 50 - (intOf i).toNat)
      case atStart => exact ⟨0, [], f, rfl, Nat.zero_le _, rfl, HG0.out, rfl, Below.refl _ _⟩
      case round =>
        obtain ⟨i, G, a, rfl, hiG, rfl, hG, hGA, hb⟩ := hrel
        have HB3 := Lib.hid hb
        have HG := Lib.hid hG
        have HGA := Lib.hid hGA
        have HGI := Lib.hid hiG
        have hle := congrArg List.length hGA
        rw [List.length_append] at hle
        have hA40 := HAL.out f
        have HGL : Hid (G.length ≤ 40) := Lib.hid (by omega)
        have hi50 : (i : Int) < 50 := by omega
        have hi0 : (0 : Int) ≤ (i : Int) := by omega
        obtain ⟨c0, c1⟩ := HCL.out _ hb
        have HRC := Lib.hid (HRA.out g S a en (1 + (k : Int)) wr (HTR.out _ (bchain HBL.out hb)))
        unfold SPage at HRC
        have hpg : Scn.pageR S a en (1 + (k : Int)) = if (Scn.allR S a en).length ≤ k + 1 then (Scn.allR S a en, [], 0) else ((Scn.allR S a en).take (k + 1), Scn.behind ((Scn.allR S a en).getD k ([], [])).1, 0) := by
          rw [Scn.pageR, if_pos (by omega), show (1 + (k : Int)).toNat = k + 1 from by omega]
          rfl
        rw [hpg] at HRC
        obtain ⟨R, hR⟩ : ∃ R, Scn.allR S a en = R := ⟨_, rfl⟩
        have hRl : R.length ≤ 40 := by rw [← hR]; exact HAL.out a
        rw [hR] at HRC hle HGA
        have HRL : Hid (R.length ≤ 40) := Lib.hid hRl
        have HRE := Lib.hid hR
        clear hG hGA hb hpg hle hA40 hiG hR hRl
        by_cases hlast : R.length ≤ k + 1
        · rw [if_pos hlast] at HRC
          have j1 : (R.length : Int) ≤ 1 + (k : Int) := by omega
          have j2 : ¬ (1 + (k : Int) < (R.length : Int)) := by omega
          clear hlast
          go_wp2_with fail
          refine HRC.out.mono ?_
          rintro e w5 ⟨s, rfl, o5, hb5⟩
          have HB5 := Lib.hid (bchain HB3.out hb5)
          have HI5 := Lib.hid o5.at_
          have HG5 := Lib.hid (HG.out.below hb5)
          obtain ⟨A5, c5, rfl, -, -⟩ := o5.at_.form
          obtain ⟨v6, w6, happ, hown, hgr, -⟩ := append_it HI5.out HG5.out (by have := HGL.out; have := HRL.out; omega) HB5.out.size
          have HB6 : Hid (Below wl.heap.size wl w6) := Lib.hid (HB5.out.trans ((Below.refl wl.heap.size w5).grown hgr HB5.out.size (fun j hj => (OwnI.lt HG5.out j hj).1)))
          have HO6 : Hid (OwnI w6 wl.heap.size v6 (G ++ R)) := Lib.hid (by
            unfold OwnI
            rw [List.length_append, rowsL_append]
            exact hown)
          rw [HGA.out] at HO6
          obtain ⟨d0, d1⟩ := HCL.out _ HB5.out
          obtain ⟨A6, c6, rfl, -, -⟩ := HO6.out.at_.form
          have hdt : decide (Scn.allR S f en = Scn.allR S f en) = true := decide_eq_true rfl
          have HSA := Lib.hid (sameI_any (Scn.allR S f en) (Scn.allR S f en) _ _ w6 HO6.out.at_ (HWL.out _ HB6.out) (by have := HAL.out f; omega) (by have := HAL.out f; omega))
          rw [hdt] at HSA
          clear c0 c1 o5 hb5 hown hgr
          go_wp2_with (at_builtin; refine wpList_append_run rfl _ _ _ rfl _ _ _ (by rfl) (by rfl) happ ?_)
          refine HSA.out.mono ?_
          rintro e w7 ⟨rfl, hb7⟩
          have HB7 := Lib.hid (bchain HB6.out hb7)
          obtain ⟨k0, k1⟩ := HCL.out _ HB7.out
          clear d0 d1
          go_wp2_with fail
          refine (HCO.out g S f en w7 (HTR.out _ (bchain HBL.out HB7.out))).mono ?_
          rintro e w8 ⟨rfl, hb8⟩
          have hcc : (((Scn.allR S f en).length : Int) == ((Scn.allR S f en).length : Int)) = true := by simp
          go_wp2
          go_ret
          exact ⟨rfl, bchain HB0.out (bchain HB2.out (bchain HBL.out (bchain HB7.out hb8)))⟩
        · rw [if_neg hlast] at HRC
          have hRk : k + 1 < R.length := by omega
          obtain ⟨nx, hnx, hne, hnext⟩ : ∃ nx, Scn.behind (R.getD k ([], [])).1 = nx ∧ nx ≠ [] ∧ Scn.allR S nx en = R.drop (k + 1) := by
            have h := HNX.out a (by omega) (by rw [HRE.out]; omega)
            simp only [HRE.out, Nat.add_sub_cancel] at h
            refine ⟨_, rfl, ?_, ?_⟩
            · rw [List.getD_eq_getElem?_getD, List.getElem?_eq_getElem (by omega), Option.getD_some]; exact h.1
            · rw [List.getD_eq_getElem?_getD, List.getElem?_eq_getElem (by omega), Option.getD_some]; exact h.2
          rw [hnx] at HRC
          obtain ⟨P, hP⟩ : ∃ P, R.take (k + 1) = P := ⟨_, rfl⟩
          have hPl : P.length = k + 1 := by rw [← hP, List.length_take]; omega
          have HPD : Hid ((G ++ P) ++ Scn.allR S nx en = Scn.allR S f en) := Lib.hid (by
            rw [hnext, ← hP, List.append_assoc, List.take_append_drop]; exact HGA.out)
          rw [hP] at HRC
          have j0 : (P.length : Int) = 1 + (k : Int) := by omega
          have j2 : ¬ (1 + (k : Int) < (P.length : Int)) := by omega
          have j3 : ((P.length : Int) != 1 + (k : Int)) = false := by rw [j0]; simp
          have j4 : (nx == []) = false := beq_eq_false_iff_ne.2 hne
          have j5 : (nx != []) = true := bne_iff_ne.2 hne
          have j6 : nx.isEmpty = false := by cases nx <;> simp_all
          have HPL : Hid (P.length = k + 1) := Lib.hid hPl
          clear hlast hRk hnx hne hnext hP hPl
          go_wp2_with fail
          refine HRC.out.mono ?_
          rintro e w5 ⟨s, rfl, o5, hb5⟩
          have HB5 := Lib.hid (bchain HB3.out hb5)
          have HI5 := Lib.hid o5.at_
          have HG5 := Lib.hid (HG.out.below hb5)
          obtain ⟨A5, c5, rfl, -, -⟩ := o5.at_.form
          obtain ⟨v6, w6, happ, hown, hgr, -⟩ := append_it HI5.out HG5.out (by have := HGL.out; have := HPL.out; have := hk16; omega) HB5.out.size
          have HB6 : Hid (Below wl.heap.size wl w6) := Lib.hid (HB5.out.trans ((Below.refl wl.heap.size w5).grown hgr HB5.out.size (fun j hj => (OwnI.lt HG5.out j hj).1)))
          have HO6 : Hid (OwnI w6 wl.heap.size v6 (G ++ P)) := Lib.hid (by
            unfold OwnI
            rw [List.length_append, rowsL_append]
            exact hown)
          clear c0 c1 o5 hb5 hown hgr
          dsimp only
          go_wp2_with (at_builtin; refine wpList_append_run rfl _ _ _ rfl _ _ _ (by rfl) (by rfl) happ ?_)
          refine ⟨⟨i + 1, G ++ P, nx, by go_num, ?_, rfl, HO6.out, HPD.out, HB6.out⟩, by simp [intOf]; omega⟩
          have h1 := HGI.out
          have h2 := HPL.out
          rw [List.length_append]
          omega
theorem scanPages_done (v : Value) (L : St) (p : T × T) (m : Int) (w : World) (hv : ItIn w v L) (hl : L.length * 32 ≤ reachBytes) (_ : (Lit.int .i64 m).wf = true) (hT : Tab w) :
    Calls Tryd.prog 5 #[v, .agg #[.string ⟨p.1.toArray⟩, .string ⟨p.2.toArray⟩], .int .i64 m] w fun e w' => e = .returned (.bool true) ∧ Below w.heap.size w w' :=
  scanPages_walk behind_ok range_ok count_ok v L p m w hv (by unfold reachBytes at hl; omega) hT
end Go.Proofs.YtkdecmijnojhoaaDoor
