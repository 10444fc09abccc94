/- power.Check, Total, Quorum, Most; power.Total, Quorum, Most. -/
import Derived.Test.YtbjfihbjfoaghaaDoorPowBase
import Derived.Deep.QuietTactic
import Derived.WalkSpells
import Derived.WalkLawsBesides
import Derived.Lib.Strings
namespace Go.Proofs.YtbjfihbjfoaghaaDoor
open Go.RowKit
open Go.Proofs.YtbjfihbjfoaghaaDoor.Pw (M)

set_option maxRecDepth 8000 in
set_option maxHeartbeats 1000000 in
theorem check_any (L : List M) (v : Value) (w : World) (hv : Mems w v L) :
    Calls Tryd.prog 11 #[v] w fun e w' => e = .returned (.int .i64 (Pw.checkC L)) ∧ Below w.heap.size w w' := by
  have HV := Lib.hid hv
  obtain ⟨A, cap, rfl, -⟩ := hv
  obtain ⟨C, hC⟩ : ∃ C, Pw.checkC L = C := ⟨_, rfl⟩
  rw [hC]
  have HC := Lib.hid hC
  clear hC
  by_cases h0 : L.length = 0
  · obtain rfl : C = 50 := by rw [← HC.out]; simp [Pw.checkC, Pw.okL, h0]
    rw [h0]
    go_enter Tryd.func11, Tryd.ntmps11
    go_wp2
    go_ret
    exact ⟨rfl, Below.refl _ _⟩
  by_cases h7 : 7 < L.length
  · obtain rfl : C = 50 := by rw [← HC.out]; simp [Pw.checkC, Pw.okL]; intros; omega
    have h0' : ((L.length : Int) == 0) = false := by rw [beq_eq_false_iff_ne]; omega
    have h7' : (7 : Int) < (L.length : Int) := by omega
    go_enter Tryd.func11, Tryd.ntmps11
    go_wp2
    go_ret
    exact ⟨rfl, Below.refl _ _⟩
  have h0' : ((L.length : Int) == 0) = false := by rw [beq_eq_false_iff_ne]; omega
  have h7' : ¬ ((7 : Int) < (L.length : Int)) := by omega
  have HL : Hid (1 ≤ L.length ∧ L.length ≤ 7) := Lib.hid (by omega)
  clear h0 h7
  go_enter Tryd.func11, Tryd.ntmps11
  go_wp2
  go_loopw [3, 16] (fun s i wr => ∃ k : Nat, k ≤ L.length ∧ i = .int .i64 k ∧ s = .string ⟨(Pw.lastOf [] (L.take k)).toArray⟩ ∧ Pw.okFrom [] (L.take k) = true ∧ Below w.heap.size w wr) (fun _ i _ => L.length - (intOf i).toNat)
  case atStart => exact ⟨0, Nat.zero_le _, rfl, rfl, rfl, Below.refl _ _⟩
  case round =>
    obtain ⟨k, hk, rfl, rfl, hok, hb⟩ := hrel
    have HB := Lib.hid hb
    have HOK := Lib.hid hok
    clear hok hb
    by_cases hlt : k < L.length
    · have h1 : (k : Int) < (L.length : Int) := by omega
      have h0 : (0 : Int) ≤ (k : Int) := by omega
      obtain ⟨b, o, rfl, n0, n1⟩ := HV.out.at HB.out k hlt
      have HT := Lib.hid (Pw.okFrom_take L k hlt)
      have HBAD := Lib.hid (Pw.okFrom_bad L k hlt)
      have HLA := Lib.hid (Pw.lastOf_take L k hlt)
      obtain ⟨p, hp⟩ : ∃ p, Pw.lastOf [] (L.take k) = p := ⟨_, rfl⟩
      obtain ⟨⟨x, q⟩, hm⟩ : ∃ m, L[k] = m := ⟨_, rfl⟩
      rw [hp, hm] at HT HBAD
      rw [hp]
      rw [hm] at n0 n1 HLA
      clear hp hm
      dsimp only at n0 n1
      have HBN := Lib.hid (HB.out.alloc HB.out.size (.cells #[.string ⟨x.toArray⟩, .int .i64 q] 43))
      have HFAIL : Hid (Pw.okM p ⟨x, q⟩ = false → C = 50) := Lib.hid (fun h => by rw [← HC.out]; simp [Pw.checkC, Pw.okL, HBAD.out h])
      by_cases hA : p < x
      · have e1 : Op.bytesLess x p = false := by rw [less_lt]; simpa using List.le_of_lt hA
        have e2 : (x == p) = false := by rw [beq_eq_false_iff_ne]; rintro rfl; exact absurd hA (List.lt_irrefl _)
        have e2' : ¬ (x = p) := by rintro rfl; exact absurd hA (List.lt_irrefl _)
        have HA := Lib.hid hA
        clear hA
        by_cases h6 : 6 < x.length
        · obtain rfl : C = 50 := HFAIL.out (by simp [Pw.okM, HA.out]; omega)
          have h6' : (6 : Int) < (x.length : Int) := by omega
          go_wp2
          go_ret
          exact ⟨rfl, HBN.out⟩
        have h6' : ¬ ((6 : Int) < (x.length : Int)) := by omega
        by_cases hq1 : q < 1
        · obtain rfl : C = 50 := HFAIL.out (by simp [Pw.okM, HA.out]; omega)
          go_wp2
          go_ret
          exact ⟨rfl, HBN.out⟩
        by_cases hq2 : 1000 < q
        · obtain rfl : C = 50 := HFAIL.out (by simp [Pw.okM, HA.out]; omega)
          go_wp2
          go_ret
          exact ⟨rfl, HBN.out⟩
        have hM : Hid (Pw.okM p ⟨x, q⟩ = true) := Lib.hid (by simp [Pw.okM, HA.out]; omega)
        go_wp2
        refine ⟨⟨k + 1, by omega, by go_num, by rw [HLA.out], by rw [HT.out, HOK.out, hM.out]; rfl, HBN.out⟩, by simp [intOf]; omega⟩
      · obtain rfl : C = 50 := HFAIL.out (by simp [Pw.okM, hA])
        have hle : x ≤ p := List.not_lt.1 hA
        clear hA
        rcases List.le_iff_lt_or_eq.1 hle with hA | rfl
        · have e1 : Op.bytesLess x p = true := by rw [less_lt]; simpa using hA
          clear hA hle
          go_wp2
          go_ret
          exact ⟨rfl, HBN.out⟩
        · have e1 : Op.bytesLess x x = false := by rw [less_lt]; simp
          clear hle
          go_wp2
          go_ret
          exact ⟨rfl, HBN.out⟩
    · have h1 : ¬ ((k : Int) < (L.length : Int)) := by omega
      obtain rfl : k = L.length := by omega
      obtain rfl : C = 0 := by
        rw [← HC.out]
        have := HOK.out
        rw [List.take_length] at this
        have hL := HL.out
        simp [Pw.checkC, Pw.okL, this]
        omega
      go_wp2
      go_ret
      exact ⟨rfl, HB.out⟩
end Go.Proofs.YtbjfihbjfoaghaaDoor
namespace Go.Proofs.YtbjfihbjfoaghaaDoor
open Go.RowKit
open Go.Proofs.YtbjfihbjfoaghaaDoor.Pw (M)

theorem Pw.checkC_ok {L : List M} (h : Pw.okL L = true) : Pw.checkC L = 0 := by simp [Pw.checkC, h]
theorem Pw.checkC_bad {L : List M} (h : Pw.okL L = false) : Pw.checkC L = 50 := by simp [Pw.checkC, h]

set_option maxRecDepth 8000 in
set_option maxHeartbeats 1000000 in
theorem total_any (L : List M) (v : Value) (w : World) (hv : Mems w v L) :
    Calls Tryd.prog 13 #[v] w fun e w' => e = .returned (.int .i64 (Pw.tot L : Nat)) ∧ Below w.heap.size w w' := by
  have HV := Lib.hid hv
  obtain ⟨A, cap, rfl, -⟩ := hv
  have HCK := Lib.hid (check_any L _ w HV.out)
  cases hok : Pw.okL L with
  | false =>
    rw [Pw.checkC_bad hok] at HCK
    rw [(Pw.tot_range L).2.2 hok]
    clear hok
    go_enter Tryd.func13, Tryd.ntmps13
    go_wp2_with fail
    refine HCK.out.mono ?_
    rintro e w1 ⟨rfl, hb⟩
    go_wp2
    go_ret
    exact ⟨rfl, hb⟩
  | true =>
    rw [Pw.checkC_ok hok] at HCK
    have HR := Lib.hid (fun k => Pw.sumP_take_range hok k)
    have hl7 := (Pw.okL_len hok).2
    have HT := Lib.hid ((Pw.tot_range L).2.1 hok).2
    obtain ⟨T, hT⟩ : ∃ T, Pw.tot L = T := ⟨_, rfl⟩
    rw [hT] at HT ⊢
    clear hok hT
    go_enter Tryd.func13, Tryd.ntmps13
    go_wp2_with fail
    refine HCK.out.mono ?_
    rintro e w1 ⟨rfl, hb⟩
    have HB1 := Lib.hid hb
    clear hb
    go_wp2
    go_loopw [3, 11] (fun s i wr => ∃ k : Nat, k ≤ L.length ∧ i = .int .i64 k ∧ s = .int .i64 (Pw.sumP (L.take k)) ∧ Below w.heap.size w wr) (fun _ i _ => L.length - (intOf i).toNat)
    case atStart => exact ⟨0, Nat.zero_le _, rfl, rfl, HB1.out⟩
    case round =>
      obtain ⟨k, hk, rfl, rfl, hb⟩ := hrel
      have HB := Lib.hid hb
      clear hb
      by_cases hlt : k < L.length
      · have h1 : (k : Int) < (L.length : Int) := by omega
        have h0 : (0 : Int) ≤ (k : Int) := by omega
        obtain ⟨b, o, rfl, n0, n1⟩ := HV.out.at HB.out k hlt
        have HS := Lib.hid (Pw.sumP_take L k hlt)
        have r1 := HR.out k
        have r2 := HR.out (k + 1)
        obtain ⟨S, hS⟩ : ∃ S, Pw.sumP (L.take k) = S := ⟨_, rfl⟩
        obtain ⟨⟨x, q⟩, hm⟩ : ∃ m, L[k] = m := ⟨_, rfl⟩
        rw [hS, hm] at HS
        rw [hS] at r1 ⊢
        rw [hm] at n0 n1
        rw [HS.out] at r2
        dsimp only at n0 n1 r2
        clear hS hm
        have HBN := Lib.hid (HB.out.alloc HB.out.size (.cells #[.string ⟨x.toArray⟩, .int .i64 q] 43))
        have r3 : Hid (0 ≤ S + q ∧ S + q ≤ 7000) := Lib.hid r2
        go_wp2
        refine ⟨⟨k + 1, by omega, by go_num, by rw [HS.out], HBN.out⟩, by simp [intOf]; omega⟩
      · have h1 : ¬ ((k : Int) < (L.length : Int)) := by omega
        obtain rfl : k = L.length := by omega
        go_wp2
        go_ret
        exact ⟨ret_i64 HT.out.symm, HB.out⟩

set_option maxRecDepth 8000 in
theorem quorum_any (L : List M) (v : Value) (w : World) (hv : Mems w v L) :
    Calls Tryd.prog 15 #[v] w fun e w' => e = .returned (.int .i64 (Pw.quo L : Nat)) ∧ Below w.heap.size w w' := by
  have HT := Lib.hid (total_any L v w hv)
  have hr := (Pw.tot_range L).1
  obtain ⟨A, cap, rfl⟩ := hv.form
  unfold Pw.quo
  obtain ⟨T, hT⟩ : ∃ T, Pw.tot L = T := ⟨_, rfl⟩
  rw [hT] at HT hr ⊢
  clear hT hv
  by_cases h : T = 0
  · subst h
    go_enter Tryd.func15, Tryd.ntmps15
    go_wp2_with fail
    refine HT.out.mono ?_
    rintro e w1 ⟨rfl, hb⟩
    go_wp2
    go_ret
    exact ⟨rfl, hb⟩
  · rw [if_neg h]
    have h0 : ((T : Int) == 0) = false := by rw [beq_eq_false_iff_ne]; omega
    go_enter Tryd.func15, Tryd.ntmps15
    go_wp2_with fail
    refine HT.out.mono ?_
    rintro e w1 ⟨rfl, hb⟩
    go_wp2
    go_ret
    refine ⟨ret_i64 ?_, hb⟩
    go_num

set_option maxRecDepth 8000 in
theorem most_any (L : List M) (v : Value) (w : World) (hv : Mems w v L) :
    Calls Tryd.prog 17 #[v] w fun e w' => e = .returned (.int .i64 (Pw.mos L : Nat)) ∧ Below w.heap.size w w' := by
  have HT := Lib.hid (total_any L v w hv)
  have hr := (Pw.tot_range L).1
  obtain ⟨A, cap, rfl⟩ := hv.form
  unfold Pw.mos
  obtain ⟨T, hT⟩ : ∃ T, Pw.tot L = T := ⟨_, rfl⟩
  rw [hT] at HT hr ⊢
  clear hT hv
  go_enter Tryd.func17, Tryd.ntmps17
  go_wp2_with fail
  refine HT.out.mono ?_
  rintro e w1 ⟨rfl, hb⟩
  go_wp2
  go_ret
  refine ⟨ret_i64 ?_, hb⟩
  go_num
end Go.Proofs.YtbjfihbjfoaghaaDoor
