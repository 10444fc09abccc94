/- OracleOrder. -/
import Derived.Test.YteolephlajhghaaOraFill
import Derived.Test.YteolephlajhghaaOraTwo
import Derived.WalkSpells
import Derived.WalkLawsBesides
import Derived.Lib.Strings
import Derived.Test.YteolephlajhghaaOraOrderMath
namespace Go.Proofs.Yteolephlajhghaa
open Go.RowKit
open Go.Proofs.Yteolephlajhghaa.Ora (K Sig St)

set_option maxRecDepth 8000 in
set_option maxHeartbeats 4000000 in
theorem order_walk (L : List St) (v : Value) (w : World) (hv : Sts w v L) (hl : L.length * 40 ≤ reachBytes) (hok : ∀ s ∈ L, OkSt s) :
    Calls Try.prog 5 #[v] w fun e w' => e = .returned (.bool true) ∧ Below w.heap.size w w' := by
  have hr : reachBytes = 140737488351232 := rfl
  have HV := Lib.hid hv
  have HOK := Lib.hid hok
  have hbig : (L.length : Int) ≤ 140737488351232 := by omega
  obtain ⟨A, cap, rfl, hcap⟩ := hv.form
  have hcap' : (L.length : Int) ≤ (cap : Int) := by omega
  clear hv hok hcap hr hl
  go_enter Try.func5, Try.ntmps5
  go_wp2_with fail
  refine (works_any _).mono ?_
  rintro e w1 ⟨rfl, hb1⟩
  have HB1 := Lib.hid hb1
  have HV1 := Lib.hid (HV.out.below hb1)
  clear hb1
  go_upto_if 13 with fail
  go_cut [0] from 14 to 15 (fun s wx => wx = w1 ∧ ∃ cap', s = .slice A (L.take 40).length cap' ∧ Sts w1 (.slice A (L.take 40).length cap') (L.take 40))
  case first =>
    by_cases h40 : 40 < L.length
    · have h40' : (40 : Int) < (L.length : Int) := by omega
      have HLN : Hid ((L.take 40).length = 40) := Lib.hid (by simp; omega)
      have HS := Lib.hid (HV1.out.take 40 (by omega))
      clear h40
      go_wp2
      go_meet
      case rel => exact ⟨rfl, cap, by rw [HLN.out], by rw [HLN.out]; exact HS.out⟩
    · have h40' : ¬ ((40 : Int) < (L.length : Int)) := by omega
      have HLN : Hid (L.take 40 = L) := Lib.hid (List.take_of_length_le (by omega))
      clear h40
      go_wp2
      go_meet
      case rel => exact ⟨rfl, cap, by rw [HLN.out], by rw [HLN.out]; exact HV1.out⟩
  case rest =>
    obtain ⟨rfl, cap', rfl, hvn⟩ := hcut
    have hn40 : (L.take 40).length ≤ 40 := by simp; omega
    have hokn : ∀ s ∈ L.take 40, OkSt s := fun s hs => HOK.out s (List.take_subset _ _ hs)
    obtain ⟨N, hN⟩ : ∃ N, L.take 40 = N := ⟨_, rfl⟩
    rw [hN] at hvn hn40 hokn ⊢
    clear hN HV1 HV HOK hcap' hbig
    have HVN := Lib.hid hvn
    have HOKN := Lib.hid hokn
    have HFI := Lib.hid (fill_any N _ wc hvn hokn)
    rw [List.take_of_length_le hn40] at HFI
    have HTWO := Lib.hid (Ora.backs_two N (by omega))
    clear hvn hokn
    go_wp2_with fail
    refine HFI.out.mono ?_
    rintro e w2 ⟨g, m, rfl, hg, hm, ht, hb⟩
    have HT2 := Lib.hid ht
    have HBA := Lib.hid hb
    have HB2 := Lib.hid (HB1.out.trans (hb.mono HB1.out.size))
    have HMA : Hid (m < w2.heap.size) := Lib.hid ht.map.lt
    have HM : Hid (wc.heap.size ≤ m) := Lib.hid hm
    clear ht hb hg hm
    go_wp2_with fail
    refine (new_any _).mono ?_
    rintro e w3 ⟨g2, m2, rfl, hg2, hm2, ht, hb⟩
    have HN3 := Lib.hid ht
    have HT3 := Lib.hid (HT2.out.below hb)
    have HNE : Hid (m ≠ m2) := Lib.hid (by have := HMA.out; omega)
    have HM2 : Hid (wc.heap.size ≤ m2) := Lib.hid (by have := HMA.out; have := HM.out; omega)
    have HB3 := Lib.hid (HBA.out.trans (hb.mono HBA.out.size))
    clear ht hb hg2 hm2
    go_wp2
    go_loopw [19] (fun i wr => ∃ r : Nat, r ≤ 2 ∧ i = .int .i64 r ∧ TabAt wr g m (Ora.fillP N) ∧ TabAt wr g2 m2 (Ora.backs N r) ∧ Below wc.heap.size wc wr) (fun i _ => 2 - (intOf i).toNat)
    case atStart => exact ⟨0, by omega, rfl, HT3.out, HN3.out, HB3.out⟩
    case round =>
      obtain ⟨r, hr, rfl, hta, htb, hb⟩ := hrel
      obtain ⟨wo, rfl⟩ : ∃ wo, wo = wr := ⟨wr, rfl⟩
      have HTA := Lib.hid hta
      have HTB := Lib.hid htb
      have HBo := Lib.hid hb
      clear hta htb hb HT3 HN3 HB3 HT2
      by_cases hlt : r < 2
      · have h1 : (r : Int) < 2 := by omega
        have h0 : (0 : Int) ≤ (r : Int) := by omega
        go_wp2
        go_loopw [5] (fun i wr => ∃ j : Nat, j ≤ N.length ∧ ((j = 0 ∧ i = .int .i64 (-1)) ∨ ∃ k : Nat, j = k + 1 ∧ i = .int .i64 k) ∧ TabAt wr g m (Ora.fillP N) ∧ TabAt wr g2 m2 ((N.reverse.take (N.length - j)).foldl Ora.step (Ora.backs N r)) ∧ Below wc.heap.size wc wr) (fun i _ => (intOf i + 1).toNat)
        case atStart =>
          refine ⟨N.length, Nat.le_refl _, ?_, HTA.out, by simpa using HTB.out, HBo.out⟩
          cases hn : N.length with
          | zero => exact Or.inl ⟨rfl, by go_num⟩
          | succ k => exact Or.inr ⟨k, rfl, by go_num⟩
        case round =>
          obtain ⟨j, hj, hcase, hta, htb, hb⟩ := hrel
          have HTA' := Lib.hid hta
          have HB' := Lib.hid hb
          rcases hcase with ⟨rfl, rfl⟩ | ⟨k, rfl, rfl⟩
          · have HTB' : Hid (TabAt wr g2 m2 (Ora.backs N (r + 1))) := Lib.hid (by
              have e : (N.reverse.take (N.length - 0)) = N.reverse := List.take_of_length_le (by simp)
              rw [e] at htb
              exact htb)
            clear hta htb hb
            go_wp2
            exact ⟨⟨r + 1, by omega, by go_num, HTA'.out, HTB'.out, HB'.out⟩, by simp [intOf]; omega⟩
          · have hk : k < N.length := by omega
            have h2 : (k : Int) < (N.length : Int) := by omega
            have h3 : (0 : Int) ≤ (k : Int) := by omega
            have h4 : (N.length : Int) ≤ 40 := by omega
            obtain ⟨b, o, rfl, hblt, -⟩ := HVN.out.at (Below.refl _ wc) k hk
            have HC : Hid (∀ w', Below wc.heap.size wc w' → w'.cell? ⟨b, o + k * 4, none⟩ = some (.string ⟨N[k].who.toArray⟩) ∧ w'.cell? ⟨b, o + k * 4 + 1, none⟩ = some (.string ⟨N[k].mark.toArray⟩) ∧ w'.cell? ⟨b, o + k * 4 + 2, none⟩ = some (.bool N[k].honest)) :=
              Lib.hid (fun w' hb => by obtain ⟨b', o', he, _, q1, q2, q3, _⟩ := HVN.out.at hb k hk; cases he; exact ⟨q1, q2, q3⟩)
            have HS := Lib.hid (Ora.back_step N (Ora.backs N r) k hk)
            have HO := Lib.hid (HOKN.out N[k] (List.getElem_mem hk))
            obtain ⟨⟨x, d, hn, fk⟩, hs⟩ : ∃ s, N[k] = s := ⟨_, rfl⟩
            rw [hs] at HC HS HO
            dsimp only at HC
            obtain ⟨S, hS⟩ : ∃ S, (N.reverse.take (N.length - (k + 1))).foldl Ora.step (Ora.backs N r) = S := ⟨_, rfl⟩
            rw [hS] at htb HS
            have HTB' := Lib.hid htb
            have HSG := Lib.hid (fun w ht => sign_any g2 m2 S (x, d) hn w ht HO.out.key)
            dsimp only at HSG
            obtain ⟨c0, c1, c2⟩ := HC.out wr hb
            have HBD : Hid (Below wc.heap.size wc wr.drew) := Lib.hid hb.drew
            clear hs hS hblt hta htb hb
            go_wp2
            go_region_held3 (fun w' => w'.cell? ⟨b, o + k * 4, none⟩ = some (.string ⟨x.toArray⟩) ∧ w'.cell? ⟨b, o + k * 4 + 1, none⟩ = some (.string ⟨d.toArray⟩) ∧ w'.cell? ⟨b, o + k * 4 + 2, none⟩ = some (.bool hn))
              ((refine HC.out _ ?_; with_reducible (first | exact hB2 | exact HBD.out | fail)))
              ((go_at_call 9; refine (HSG.out _ (HTB'.out.below (Below.refl _ wr).drew)).mono ?_; rintro e w5 ⟨rfl, ht5, ho5⟩; (have hB2 : Below wc.heap.size wc w5 := bsign HBD.out HM2.out (Nat.le_refl _) ho5); (have HA5 := Lib.hid (other_table (HTA'.out.below (Below.refl _ wr).drew) (HTB'.out.below (Below.refl _ wr).drew) HNE.out ho5)); (have HT5 := Lib.hid ht5); clear ht5 ho5))
            all_goals
              go_wp2
              refine ⟨⟨k, by omega, ?_, HA5.out, by rw [HS.out]; exact HT5.out, hB2⟩, by simp [intOf]⟩
              cases k with
              | zero => exact Or.inl ⟨rfl, by go_num⟩
              | succ k => exact Or.inr ⟨k, rfl, by go_num⟩
      · have h1 : ¬ ((r : Int) < 2) := by omega
        obtain rfl : r = 2 := by omega
        rw [HTWO.out] at HTB
        have HRI := Lib.hid (Ora.fill_rising N)
        have hl := Ora.fill_length N
        obtain ⟨S, hS⟩ : ∃ S, Ora.fillP N = S := ⟨_, rfl⟩
        rw [hS] at HTA HTB HRI hl
        have hSl : S.length ≤ 40 := by omega
        clear hlt hr hS hl HFI HTWO
        go_wp2_with fail
        refine (all_any g m S _ HTA.out (by omega)).mono ?_
        rintro e w4 ⟨s4, rfl, hown, hb4⟩
        have HO4 := Lib.hid hown.sgs
        have HTB4 := Lib.hid (HTB.out.below hb4)
        have HB4 := Lib.hid (HBo.out.trans (hb4.mono HBo.out.size))
        obtain ⟨A4, cap4, rfl⟩ := own_form hown
        clear hown hb4
        go_wp2_with fail
        refine (all_any g2 m2 S _ HTB4.out (by omega)).mono ?_
        rintro e w5 ⟨s5, rfl, hown, hb5⟩
        have HR5 := Lib.hid hown.sgs
        have HR4 := Lib.hid (HO4.out.below hb5)
        have HB5 := Lib.hid (HB4.out.trans (hb5.mono HB4.out.size))
        have HB1 := Lib.hid (HB1.out.trans (HB5.out.mono HB1.out.size))
        obtain ⟨A5, cap5, rfl⟩ := own_form hown
        clear hown hb5 HO4
        go_wp2
        go_loopw [57] (fun i wr => ∃ k : Nat, k ≤ S.length ∧ i = .int .i64 k ∧ Below w5.heap.size w5 wr) (fun i _ => S.length - (intOf i).toNat)
        case atStart => exact ⟨0, Nat.zero_le _, rfl, Below.refl _ _⟩
        case round =>
          obtain ⟨k, hk, rfl, hb⟩ := hrel
          have HBk := Lib.hid hb
          by_cases hlt : k < S.length
          · have h1 : (k : Int) < (S.length : Int) := by omega
            have h0 : (0 : Int) ≤ (k : Int) := by omega
            have h2 : (k : Int) ≤ 1000 := by omega
            obtain ⟨b4, o4, rfl, c0, c1, c2⟩ := HR4.out.at hb k hlt
            obtain ⟨b5, o5, rfl, d0, d1, d2⟩ := HR5.out.at hb k hlt
            obtain ⟨⟨⟨x, d⟩, h⟩, hs⟩ : ∃ s, S[k] = s := ⟨_, rfl⟩
            rw [hs] at c0 c1 c2 d0 d1 d2
            dsimp only at c0 c1 c2 d0 d1 d2
            cases k with
            | zero =>
              have h1' : (0 : Int) < (S.length : Int) := by omega
              simp only [Nat.zero_mul, Nat.add_zero] at c0 c1 c2 d0 d1 d2
              clear hs hb h1 h0 h2
              go_wp2
              go_quiet (fail)
              all_goals
                go_wp2
                exact ⟨⟨0 + 1, by omega, by go_num, bel_drewN HBk.out _⟩, by simp [intOf]; omega⟩
            | succ k =>
              obtain ⟨b4', o4', he, p0, p1, -⟩ := HR4.out.at hb k (by omega)
              cases he
              have hpl := List.pairwise_iff_getElem.1 HRI.out k (k + 1) (by omega) hlt (by omega)
              rw [hs] at hpl
              obtain ⟨⟨⟨y, f⟩, h'⟩, hs'⟩ : ∃ s, S[k] = s := ⟨_, rfl⟩
              rw [hs'] at p0 p1 hpl
              dsimp only at p0 p1 hpl
              have hpl' := (Ora.kLt_iff _ _).1 hpl
              dsimp only at hpl'
              have hp1 : (0 : Int) < ((k + 1 : Nat) : Int) := by omega
              clear hs hs' hb hpl
              rcases hpl' with hpl | ⟨he, hpl⟩
              · have e1 : Op.bytesLess x y = false := by rw [less_lt]; simpa using List.le_of_lt hpl
                have e2 : (x == y) = false := by rw [beq_eq_false_iff_ne]; rintro rfl; exact absurd hpl (List.lt_irrefl _)
                clear hpl
                go_wp2
                go_quiet (fail)
                all_goals
                  go_wp2
                  exact ⟨⟨k + 1 + 1, by omega, by go_num, bel_drewN HBk.out _⟩, by simp [intOf]; omega⟩
              · have e1 : Op.bytesLess x y = false := by rw [less_lt, he]; simp
                have e2 : (x == y) = true := by rw [beq_iff_eq]; exact he.symm
                have e3 : Op.bytesLess d f = false := by rw [less_lt]; simpa using List.le_of_lt hpl
                have e4 : (d == f) = false := by rw [beq_eq_false_iff_ne]; rintro rfl; exact absurd hpl (List.lt_irrefl _)
                clear hpl he
                go_wp2
                go_quiet (fail)
                all_goals
                  go_wp2
                  exact ⟨⟨k + 1 + 1, by omega, by go_num, bel_drewN HBk.out _⟩, by simp [intOf]; omega⟩
          · have h1 : ¬ ((k : Int) < (S.length : Int)) := by omega
            go_wp2
            go_ret
            exact ⟨rfl, HB1.out.trans (hb.mono HB1.out.size)⟩

theorem order_law (v : Value) (L : List St) (w : World) (hv : Sts w v L) (hl : L.length * 40 ≤ reachBytes) (hok : ∀ s ∈ L, OkSt s) :
    Calls Try.prog 5 #[v] w fun e w' => e = .returned (.bool true) ∧ Below w.heap.size w w' := order_walk L v w hv hl hok
end Go.Proofs.Yteolephlajhghaa
