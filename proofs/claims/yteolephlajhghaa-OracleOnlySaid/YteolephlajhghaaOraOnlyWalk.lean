/- OracleOnly. -/
import Derived.Test.YteolephlajhghaaOraFill
import Derived.Test.YteolephlajhghaaOraOnlyMath
namespace Go.Proofs.Yteolephlajhghaa
open Go.RowKit
open Go.Proofs.Yteolephlajhghaa.Ora (K Sig St)

theorem may_split (s : St) : (s.may = false ∧ ((s.who.length : Int) < 1 ∨ (1 ≤ (s.who.length : Int) ∧ 6 < (s.who.length : Int)) ∨ (1 ≤ (s.who.length : Int) ∧ (s.who.length : Int) ≤ 6 ∧ ((s.mark.length : Int) == 32) = false))) ∨
    (s.may = true ∧ 1 ≤ (s.who.length : Int) ∧ (s.who.length : Int) ≤ 6 ∧ ((s.mark.length : Int) == 32) = true) := by
  unfold St.may
  by_cases h1 : 1 ≤ s.who.length
  · by_cases h2 : s.who.length ≤ 6
    · by_cases h3 : s.mark.length = 32
      · right; simp [h1, h2, h3]; omega
      · left
        refine ⟨by simp [h3], Or.inr (Or.inr ⟨by omega, by omega, ?_⟩)⟩
        simp; omega
    · left
      exact ⟨by simp [h2], Or.inr (Or.inl ⟨by omega, by omega⟩)⟩
  · left
    exact ⟨by simp [h1], Or.inl (by omega)⟩

set_option maxRecDepth 8000 in
set_option maxHeartbeats 4000000 in
theorem only_walk (L : List St) (v : Value) (who mark : List UInt8) (w : World) (hv : Sts w v L) (_hl : L.length * 40 ≤ reachBytes) (hok : ∀ s ∈ L, OkSt s) (hw : who.length ≤ 140737488351232) (hm : mark.length ≤ 140737488351232) :
    Calls Try.prog 4 #[v, .string ⟨who.toArray⟩, .string ⟨mark.toArray⟩] w fun e w' => e = .returned (.bool true) ∧ Below w.heap.size w w' := by
  have HV := Lib.hid hv
  have HOK := Lib.hid hok
  have HFI := Lib.hid (fun w hv => fill_any L v w hv hok)
  have HK : Hid (OkK (who, mark)) := Lib.hid ⟨hw, hm⟩
  have hT : (L.take 40).length ≤ 1000 := by simp; omega
  have HIS := Lib.hid (Ora.is_fill (L.take 40) hT (who, mark))
  have HHO := Lib.hid (Ora.hon_fill (L.take 40) hT who)
  obtain ⟨A, cap, rfl, hcap⟩ := hv.form
  clear hv hok hcap hT hw hm
  go_enter Try.func4, Try.ntmps4
  go_wp2_with fail
  refine (works_any _).mono ?_
  rintro e w1 ⟨rfl, hb1⟩
  have HB1 := Lib.hid hb1
  clear hb1
  go_wp2_with fail
  refine (HFI.out _ (HV.out.below HB1.out)).mono ?_
  rintro e w2 ⟨g, m, rfl, hg, hm, ht, hb⟩
  have HT := Lib.hid ht
  have HB := Lib.hid (HB1.out.trans (hb.mono HB1.out.size))
  clear ht hb hg hm
  go_wp2
  go_loopw [8, 9, 10] (fun I H i wr => ∃ k : Nat, k ≤ 40 ∧ k ≤ L.length ∧ i = .int .i64 k ∧ I = .bool (Ora.isP (L.take k) (who, mark)) ∧ H = .bool (Ora.honQ (L.take k) who) ∧ TabAt wr g m (Ora.fillP (L.take 40)) ∧ Below w.heap.size w wr) (fun _ _ i _ => 40 - (intOf i).toNat)
  case atStart => exact ⟨0, by omega, Nat.zero_le _, rfl, rfl, rfl, HT.out, HB.out⟩
  case round =>
    obtain ⟨k, hk40, hkL, rfl, rfl, rfl, ht, hb⟩ := hrel
    have HTk := Lib.hid ht
    have HBk := Lib.hid hb
    clear ht hb HT HB
    by_cases hlt : k < L.length ∧ k < 40
    · have h1 : (k : Int) < (L.length : Int) := by omega
      have h2 : (k : Int) < 40 := by omega
      have h0 : (0 : Int) ≤ (k : Int) := by omega
      obtain ⟨b, o, rfl, hblt, c0, c1, c2, -⟩ := HV.out.at HBk.out k hlt.1
      have hsp := may_split L[k]
      have HI := Lib.hid (Ora.is_take L (who, mark) k hlt.1)
      have HH := Lib.hid (Ora.hon_take L who k hlt.1)
      obtain ⟨I, hI⟩ : ∃ I, Ora.isP (L.take k) (who, mark) = I := ⟨_, rfl⟩
      obtain ⟨H, hH⟩ : ∃ H, Ora.honQ (L.take k) who = H := ⟨_, rfl⟩
      obtain ⟨I', hI'⟩ : ∃ I', Ora.isP (L.take (k + 1)) (who, mark) = I' := ⟨_, rfl⟩
      obtain ⟨H', hH'⟩ : ∃ H', Ora.honQ (L.take (k + 1)) who = H' := ⟨_, rfl⟩
      rw [hI, hI'] at HI
      rw [hH, hH'] at HH
      have HI' := Lib.hid hI'
      have HH' := Lib.hid hH'
      rw [hI, hH]
      obtain ⟨s, hs⟩ : ∃ s, L[k] = s := ⟨_, rfl⟩
      rw [hs] at c0 c1 c2 hsp HI HH
      have h3 : k + 1 ≤ 40 := by omega
      have h4 : k + 1 ≤ L.length := by omega
      have HF : Hid (∀ wx, wx = wr → (∃ k_1 : Nat, k_1 ≤ 40 ∧ k_1 ≤ L.length ∧ Value.int .i64 ((k : Int) + 1) = .int .i64 k_1 ∧ Value.bool I' = .bool (Ora.isP (L.take k_1) (who, mark)) ∧ Value.bool H' = .bool (Ora.honQ (L.take k_1) who) ∧ TabAt wx g m (Ora.fillP (L.take 40)) ∧ Below w.heap.size w wx) ∧ 40 - (intOf (Value.int .i64 ((k : Int) + 1))).toNat < 40 - (intOf (Value.int .i64 (k : Int))).toNat) :=
        Lib.hid (fun wx e => ⟨⟨k + 1, h3, h4, by go_num, by rw [HI'.out], by rw [HH'.out], by rw [e]; exact HTk.out, by rw [e]; exact HBk.out⟩, by simp [intOf]; omega⟩)
      clear hs hI hH hI' hH' hblt h3 h4
      rcases hsp with ⟨hm, hsp⟩ | ⟨hm, q1, q2, q3⟩
      · have e1 : I' = I := by rw [HI.out, hm]; simp
        have e2 : H' = H := by rw [HH.out, hm]; simp
        subst e1; subst e2
        rcases hsp with q1 | ⟨q1, q2⟩ | ⟨q1, q2, q3⟩
        all_goals
          clear hm
          cases I'
          all_goals
            cases H'
            all_goals
              go_wp2
              exact HF.out _ rfl
      · by_cases ew : s.who = who
        · have b1 : (s.who == who) = true := by simpa using ew
          by_cases em : s.mark = mark
          · have b2 : (s.mark == mark) = true := by simpa using em
            have e1 : I' = true := by rw [HI.out, hm]; simp [Ora.St.key, ew, em]
            have e2 : H' = (H && s.honest) := by rw [HH.out, hm]; simp [ew]
            obtain ⟨hn, hhn⟩ : ∃ hn, s.honest = hn := ⟨_, rfl⟩
            rw [hhn] at e2 c2
            subst e1; subst e2
            clear hm ew em hhn
            cases I
            all_goals
              cases H
              all_goals
                go_wp2
                exact HF.out _ rfl
          · have b2 : (s.mark == mark) = false := by simpa using em
            have e1 : I' = I := by rw [HI.out, hm]; simp [Ora.St.key, em]
            have e2 : H' = (H && s.honest) := by rw [HH.out, hm]; simp [ew]
            obtain ⟨hn, hhn⟩ : ∃ hn, s.honest = hn := ⟨_, rfl⟩
            rw [hhn] at e2 c2
            subst e1; subst e2
            clear hm ew em hhn
            cases I'
            all_goals
              cases H
              all_goals
                go_wp2
                exact HF.out _ rfl
        · have b1 : (s.who == who) = false := by simpa using ew
          have e1 : I' = I := by rw [HI.out, hm]; simp [Ora.St.key, ew]
          have e2 : H' = H := by rw [HH.out, hm]; simp [ew]
          subst e1; subst e2
          clear hm ew
          cases I'
          all_goals
            cases H'
            all_goals
              go_wp2
              exact HF.out _ rfl
    · have hT := take40 L k hk40 hkL hlt
      obtain ⟨I, hI⟩ : ∃ I, Ora.isP (L.take 40) (who, mark) = I := ⟨_, rfl⟩
      obtain ⟨H, hH⟩ : ∃ H, Ora.honQ (L.take 40) who = H := ⟨_, rfl⟩
      rw [hI] at HIS
      rw [hH] at HHO
      rw [hT, hI, hH]
      have HSI := Lib.hid (fun w ht => signed_any g m (Ora.fillP (L.take 40)) (who, mark) w ht HK.out)
      have HON := Lib.hid (fun w ht => honest_any g m (Ora.fillP (L.take 40)) who w ht)
      rw [HIS.out] at HSI
      rw [HHO.out] at HON
      dsimp only at HSI
      clear hT hI hH
      by_cases hc : k < L.length
      · have h1 : (k : Int) < (L.length : Int) := by omega
        have h2 : ¬ ((k : Int) < 40) := by omega
        clear hlt hc
        go_wp2_with fail
        refine (HSI.out _ HTk.out).mono ?_
        rintro e w3 ⟨rfl, hb3⟩
        have HT3 := Lib.hid (HTk.out.below hb3)
        have HB3 := Lib.hid (HBk.out.trans (hb3.mono HBk.out.size))
        clear hb3
        go_wp2_with fail
        refine (HON.out _ HT3.out).mono ?_
        rintro e w4 ⟨rfl, hb4⟩
        have HB4 := Lib.hid (HB3.out.trans (hb4.mono HB3.out.size))
        go_wp2
        go_ret
        exact ⟨by simp, HB4.out⟩
      · have h1 : ¬ ((k : Int) < (L.length : Int)) := by omega
        clear hlt hc
        go_wp2_with fail
        refine (HSI.out _ HTk.out).mono ?_
        rintro e w3 ⟨rfl, hb3⟩
        have HT3 := Lib.hid (HTk.out.below hb3)
        have HB3 := Lib.hid (HBk.out.trans (hb3.mono HBk.out.size))
        clear hb3
        go_wp2_with fail
        refine (HON.out _ HT3.out).mono ?_
        rintro e w4 ⟨rfl, hb4⟩
        have HB4 := Lib.hid (HB3.out.trans (hb4.mono HB3.out.size))
        go_wp2
        go_ret
        exact ⟨by simp, HB4.out⟩

theorem only_law (v : Value) (L : List St) (who mark : ByteArray) (w : World) (hv : Sts w v L) (hl : L.length * 40 ≤ reachBytes) (hok : ∀ s ∈ L, OkSt s) (_ : who.size ≤ maxLen) (hw : who.data.toList.length ≤ reachBytes) (_ : mark.size ≤ maxLen) (hm : mark.data.toList.length ≤ reachBytes) :
    Calls Try.prog 4 #[v, .string who, .string mark] w fun e w' => e = .returned (.bool true) ∧ Below w.heap.size w w' := by
  have hr : reachBytes = 140737488351232 := rfl
  obtain ⟨l, rfl⟩ := bytes_list who
  obtain ⟨k, rfl⟩ := bytes_list mark
  exact only_walk L v l k w hv hl hok (by simp at hw; omega) (by simp at hm; omega)
end Go.Proofs.Yteolephlajhghaa
