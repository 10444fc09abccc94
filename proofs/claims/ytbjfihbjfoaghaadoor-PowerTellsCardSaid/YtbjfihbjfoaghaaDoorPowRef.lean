/- The document's answers for sets: Check, Total, Quorum, Most, Has, Of. -/
import Derived.Test.YtbjfihbjfoaghaaDoorPowTotal
import Derived.BigQuiet
namespace Go.Proofs.YtbjfihbjfoaghaaDoor
open Go.RowKit
open Go.Proofs.YtbjfihbjfoaghaaDoor.Pw (M)

theorem bel_drewN {B : Nat} {a w : World} (h : Below B a w) (n : Nat) : Below B a (w.drewN n) := h.trans ⟨rfl, rfl, rfl, Nat.le_refl _, fun _ _ => rfl⟩
theorem Pw.lastOf_succ (L : List M) (j : Nat) (h : j < L.length) : Pw.lastOf [] (L.take (j + 1)) = L[j].name := Pw.lastOf_take L j h

set_option maxRecDepth 8000 in
set_option maxHeartbeats 2000000 in
theorem rcheck_any (L : List M) (v : Value) (w : World) (hv : Mems w v L) :
    Calls Tryd.prog 12 #[v] w fun e w' => e = .returned (.int .i64 (Pw.checkC L)) ∧ Below w.heap.size w w' := by
  have HV := Lib.hid hv
  obtain ⟨A, cap, rfl, -⟩ := hv
  obtain ⟨C, hC⟩ : ∃ C, Pw.checkC L = C := ⟨_, rfl⟩
  rw [hC]
  have HC := Lib.hid hC
  clear hC
  by_cases h0 : L.length = 0
  · obtain rfl : C = 50 := by rw [← HC.out]; simp [Pw.checkC, Pw.okL, h0]
    rw [h0]
    go_enter Tryd.func12, Tryd.ntmps12
    go_wp2
    go_ret
    exact ⟨rfl, Below.refl _ _⟩
  by_cases h7 : 7 < L.length
  · obtain rfl : C = 50 := by rw [← HC.out]; simp [Pw.checkC, Pw.okL]; intros; omega
    have h0' : ¬ ((L.length : Int) < 1) := by omega
    have h7' : (7 : Int) < (L.length : Int) := by omega
    go_enter Tryd.func12, Tryd.ntmps12
    go_wp2
    go_ret
    exact ⟨rfl, Below.refl _ _⟩
  have h0' : ¬ ((L.length : Int) < 1) := by omega
  have h7' : ¬ ((7 : Int) < (L.length : Int)) := by omega
  have HL : Hid (1 ≤ L.length ∧ L.length ≤ 7) := Lib.hid (by omega)
  clear h0 h7
  go_enter Tryd.func12, Tryd.ntmps12
  go_wp2
  go_loopw [3] (fun i wr => ∃ k : Nat, k ≤ L.length ∧ i = .int .i64 k ∧ Pw.okFrom [] (L.take k) = true ∧ Below w.heap.size w wr) (fun i _ => L.length - (intOf i).toNat)
  case atStart => exact ⟨0, Nat.zero_le _, rfl, rfl, Below.refl _ _⟩
  case round =>
    obtain ⟨k, hk, rfl, hok, hb⟩ := hrel
    have HB := Lib.hid hb
    have HOK := Lib.hid hok
    clear hok hb
    by_cases hlt : k < L.length
    · have h1 : (k : Int) < (L.length : Int) := by omega
      have h0 : (0 : Int) ≤ (k : Int) := by omega
      obtain ⟨b, o, rfl, n0, n1⟩ := HV.out.at HB.out k hlt
      have HT := Lib.hid (Pw.okFrom_take L k hlt)
      have HBAD := Lib.hid (Pw.okFrom_bad L k hlt)
      have HP := Lib.hid (fun j (hj : j < L.length) => Pw.lastOf_succ L j hj)
      have HPC : Hid (∀ j (hj : j < L.length), wr.cell? ⟨b, o + j * 2, none⟩ = some (.string ⟨L[j].name.toArray⟩)) := Lib.hid (fun j hj => by
        obtain ⟨b', o', e, m0, _⟩ := HV.out.at HB.out j hj
        obtain ⟨rfl, rfl⟩ : b = b' ∧ o = o' := by simpa using e
        exact m0)
      obtain ⟨p, hp⟩ : ∃ p, Pw.lastOf [] (L.take k) = p := ⟨_, rfl⟩
      have HPP := Lib.hid hp
      obtain ⟨⟨x, q⟩, hm⟩ : ∃ m, L[k] = m := ⟨_, rfl⟩
      rw [hp, hm] at HT HBAD
      rw [hm] at n0 n1
      clear hp hm
      dsimp only at n0 n1
      have HFAIL : Hid (Pw.okM p ⟨x, q⟩ = false → C = 50) := Lib.hid (fun h => by rw [← HC.out]; simp [Pw.checkC, Pw.okL, HBAD.out h])
      by_cases hx0 : x.length < 1
      · obtain rfl : C = 50 := HFAIL.out (by
          obtain rfl : x = [] := List.eq_nil_of_length_eq_zero (by omega)
          simp [Pw.okM])
        have hx0' : (x.length : Int) < 1 := by omega
        go_wp2
        go_ret
        exact ⟨rfl, HB.out⟩
      have hx0' : ¬ ((x.length : Int) < 1) := by omega
      by_cases h6 : 6 < x.length
      · obtain rfl : C = 50 := HFAIL.out (by simp [Pw.okM]; intros; omega)
        have h6' : (6 : Int) < (x.length : Int) := by omega
        go_wp2
        go_ret
        exact ⟨rfl, HB.out⟩
      have h6' : ¬ ((6 : Int) < (x.length : Int)) := by omega
      by_cases hq1 : q < 1
      · obtain rfl : C = 50 := HFAIL.out (by simp [Pw.okM]; intros; omega)
        go_wp2
        go_ret
        exact ⟨rfl, HB.out⟩
      by_cases hq2 : 1000 < q
      · obtain rfl : C = 50 := HFAIL.out (by simp [Pw.okM]; intros; omega)
        go_wp2
        go_ret
        exact ⟨rfl, HB.out⟩
      have HM : Hid (p < x → Pw.okM p ⟨x, q⟩ = true) := Lib.hid (fun hA => by simp [Pw.okM, hA]; omega)
      have HX0 := Lib.hid hx0
      cases k with
      | zero =>
        have hA : p < x := by
          rw [← HPP.out]
          refine (Pw.lt_nil x).2 ?_
          rintro rfl
          exact HX0.out (by simp)
        have HN : Hid (Pw.okFrom [] (L.take (0 + 1)) = true) := Lib.hid (by rw [HT.out, HOK.out, HM.out hA]; rfl)
        simp only [Nat.zero_mul, Nat.add_zero] at n0 n1
        clear hA
        go_wp2
        go_quiet (fail)
        go_wp2
        go_roundw
        case rel => exact ⟨0 + 1, by omega, by go_num, HN.out, bel_drewN HB.out _⟩
        case measure => simp [intOf]; omega
      | succ j =>
        have hpj : p = (L[j]'(by omega)).name := by rw [← HPP.out]; exact HP.out j (by omega)
        have m0 := HPC.out j (by omega)
        rw [← hpj] at m0
        have hj1 : ((j + 1 : Nat) : Int) - 1 = (j : Int) := by omega
        have hjp : (0 : Int) < ((j + 1 : Nat) : Int) := by omega
        have hjl : (j : Int) < (L.length : Int) := by omega
        have hj0 : (0 : Int) ≤ (j : Int) := by omega
        clear hpj
        by_cases hA : p < x
        · have HN : Hid (Pw.okFrom [] (L.take (j + 1 + 1)) = true) := Lib.hid (by rw [HT.out, HOK.out, HM.out hA]; rfl)
          have e1 : Op.bytesLess x p = false := by rw [less_lt]; simpa using List.le_of_lt hA
          have e2 : (x == p) = false := by rw [beq_eq_false_iff_ne]; rintro rfl; exact absurd hA (List.lt_irrefl _)
          clear hA
          go_wp2
          go_quiet (fail)
          go_wp2
          go_roundw
          case rel => exact ⟨j + 1 + 1, by omega, by go_num, HN.out, bel_drewN HB.out _⟩
          case measure => simp [intOf]; omega
        · obtain rfl : C = 50 := HFAIL.out (by simp [Pw.okM, hA])
          have hle : x ≤ p := List.not_lt.1 hA
          clear hA
          rcases List.le_iff_lt_or_eq.1 hle with hA | rfl
          · have e1 : Op.bytesLess x p = true := by rw [less_lt]; simpa using hA
            clear hA hle
            go_wp2
            go_quiet (fail)
            go_wp2
            go_ret
            exact ⟨rfl, bel_drewN HB.out _⟩
          · have e1 : Op.bytesLess x x = false := by rw [less_lt]; simp
            clear hle
            go_wp2
            go_quiet (fail)
            go_wp2
            go_ret
            exact ⟨rfl, bel_drewN HB.out _⟩
    · have h1 : ¬ ((k : Int) < (L.length : Int)) := by omega
      obtain rfl : k = L.length := by omega
      obtain rfl : C = 0 := by
        rw [← HC.out]
        have := HOK.out
        rw [List.take_length] at this
        have hL := HL.out
        simp [Pw.checkC, Pw.okL, this]
        omega
      go_wp2
      go_ret
      exact ⟨rfl, HB.out⟩

set_option maxRecDepth 8000 in
set_option maxHeartbeats 1000000 in
theorem rtotal_any (L : List M) (v : Value) (w : World) (hv : Mems w v L) :
    Calls Tryd.prog 14 #[v] w fun e w' => e = .returned (.int .i64 (Pw.tot L : Nat)) ∧ Below w.heap.size w w' := by
  have HV := Lib.hid hv
  obtain ⟨A, cap, rfl, -⟩ := hv
  have HCK := Lib.hid (rcheck_any L _ w HV.out)
  cases hok : Pw.okL L with
  | false =>
    rw [Pw.checkC_bad hok] at HCK
    rw [(Pw.tot_range L).2.2 hok]
    clear hok
    go_enter Tryd.func14, Tryd.ntmps14
    go_wp2_with fail
    refine HCK.out.mono ?_
    rintro e w1 ⟨rfl, hb⟩
    go_wp2
    go_ret
    exact ⟨rfl, hb⟩
  | true =>
    rw [Pw.checkC_ok hok] at HCK
    have HR := Lib.hid (fun k => Pw.sumP_take_range hok k)
    have hl7 := (Pw.okL_len hok).2
    have HT := Lib.hid ((Pw.tot_range L).2.1 hok).2
    obtain ⟨T, hT⟩ : ∃ T, Pw.tot L = T := ⟨_, rfl⟩
    rw [hT] at HT ⊢
    clear hok hT
    go_enter Tryd.func14, Tryd.ntmps14
    go_wp2_with fail
    refine HCK.out.mono ?_
    rintro e w1 ⟨rfl, hb⟩
    have HB1 := Lib.hid hb
    clear hb
    go_wp2
    go_loopw [3, 4] (fun s i wr => ∃ k : Nat, k ≤ L.length ∧ i = .int .i64 k ∧ s = .int .i64 (Pw.sumP (L.take k)) ∧ Below w.heap.size w wr) (fun _ i _ => L.length - (intOf i).toNat)
    case atStart => exact ⟨0, Nat.zero_le _, rfl, rfl, HB1.out⟩
    case round =>
      obtain ⟨k, hk, rfl, rfl, hb⟩ := hrel
      have HB := Lib.hid hb
      clear hb
      by_cases hlt : k < L.length
      · have h1 : (k : Int) < (L.length : Int) := by omega
        have h0 : (0 : Int) ≤ (k : Int) := by omega
        obtain ⟨b, o, rfl, n0, n1⟩ := HV.out.at HB.out k hlt
        have HS := Lib.hid (Pw.sumP_take L k hlt)
        have r1 := HR.out k
        have r2 := HR.out (k + 1)
        obtain ⟨S, hS⟩ : ∃ S, Pw.sumP (L.take k) = S := ⟨_, rfl⟩
        obtain ⟨⟨x, q⟩, hm⟩ : ∃ m, L[k] = m := ⟨_, rfl⟩
        rw [hS, hm] at HS
        rw [hS] at r1 ⊢
        rw [hm] at n0 n1
        rw [HS.out] at r2
        dsimp only at n0 n1 r2
        clear hS hm
        go_wp2
        refine ⟨⟨k + 1, by omega, by go_num, by rw [HS.out], HB.out⟩, by simp [intOf]; omega⟩
      · have h1 : ¬ ((k : Int) < (L.length : Int)) := by omega
        obtain rfl : k = L.length := by omega
        go_wp2
        go_ret
        exact ⟨ret_i64 HT.out.symm, HB.out⟩

set_option maxRecDepth 8000 in
set_option maxHeartbeats 1000000 in
theorem rquorum_any (L : List M) (v : Value) (w : World) (hv : Mems w v L) :
    Calls Tryd.prog 16 #[v] w fun e w' => e = .returned (.int .i64 (Pw.quo L : Nat)) ∧ Below w.heap.size w w' := by
  have HT := Lib.hid (rtotal_any L v w hv)
  have hr := (Pw.tot_range L).1
  obtain ⟨A, cap, rfl⟩ := hv.form
  unfold Pw.quo
  obtain ⟨T, hT⟩ : ∃ T, Pw.tot L = T := ⟨_, rfl⟩
  rw [hT] at HT hr ⊢
  clear hT hv
  by_cases h : T = 0
  · subst h
    go_enter Tryd.func16, Tryd.ntmps16
    go_wp2_with fail
    refine HT.out.mono ?_
    rintro e w1 ⟨rfl, hb⟩
    go_wp2
    go_loopw [4] (fun i wr => i = .int .i64 0 ∧ Below w.heap.size w wr) (fun _ _ => 0)
    case atStart => exact ⟨rfl, hb⟩
    case round =>
      obtain ⟨rfl, hb⟩ := hrel
      go_wp2
      go_ret
      exact ⟨rfl, hb⟩
  · rw [if_neg h]
    have h0 : (0 : Int) < (T : Int) := by omega
    obtain ⟨K, hK⟩ : ∃ K, 2 * T / 3 = K := ⟨_, rfl⟩
    have hK1 : 3 * K ≤ 2 * T ∧ 2 * T < 3 * (K + 1) := by omega
    rw [hK]
    clear hK
    go_enter Tryd.func16, Tryd.ntmps16
    go_wp2_with fail
    refine HT.out.mono ?_
    rintro e w1 ⟨rfl, hb⟩
    go_wp2
    go_loopw [4] (fun i wr => ∃ k : Nat, k ≤ K + 1 ∧ i = .int .i64 k ∧ Below w.heap.size w wr) (fun i _ => K + 1 - (intOf i).toNat)
    case atStart => exact ⟨0, Nat.zero_le _, rfl, hb⟩
    case round =>
      obtain ⟨k, hk, rfl, hb⟩ := hrel
      have HB := Lib.hid hb
      clear hb
      by_cases hlt : k ≤ K
      · have h1 : 3 * (k : Int) ≤ 2 * (T : Int) := by omega
        have h2 : (k : Int) ≤ 3 * (T : Int) := by omega
        go_wp2
        exact ⟨⟨k + 1, by omega, by go_num, HB.out⟩, by simp [intOf]; omega⟩
      · obtain rfl : k = K + 1 := by omega
        have h1 : ¬ (3 * ((K + 1 : Nat) : Int) ≤ 2 * (T : Int)) := by omega
        go_wp2
        go_ret
        exact ⟨rfl, HB.out⟩

set_option maxRecDepth 8000 in
set_option maxHeartbeats 1000000 in
theorem rmost_any (L : List M) (v : Value) (w : World) (hv : Mems w v L) :
    Calls Tryd.prog 18 #[v] w fun e w' => e = .returned (.int .i64 (Pw.mos L : Nat)) ∧ Below w.heap.size w w' := by
  have HT := Lib.hid (rtotal_any L v w hv)
  have hr := (Pw.tot_range L).1
  obtain ⟨A, cap, rfl⟩ := hv.form
  unfold Pw.mos
  obtain ⟨T, hT⟩ : ∃ T, Pw.tot L = T := ⟨_, rfl⟩
  rw [hT] at HT hr ⊢
  clear hT hv
  obtain ⟨K, hK⟩ : ∃ K, (T - 1) / 3 = K := ⟨_, rfl⟩
  have hK1 : K ≤ T ∧ (∀ k, k < K → 3 * (k + 1) < T) ∧ ¬ (3 * (K + 1) < T) := by
    refine ⟨by omega, fun k hk => by omega, by omega⟩
  obtain ⟨hKT, hK2, hK3⟩ := hK1
  rw [hK]
  clear hK
  go_enter Tryd.func18, Tryd.ntmps18
  go_wp2_with fail
  refine HT.out.mono ?_
  rintro e w1 ⟨rfl, hb⟩
  go_wp2
  go_loopw [4] (fun i wr => ∃ k : Nat, k ≤ K ∧ i = .int .i64 k ∧ Below w.heap.size w wr) (fun i _ => K - (intOf i).toNat)
  case atStart => exact ⟨0, Nat.zero_le _, rfl, hb⟩
  case round =>
    obtain ⟨k, hk, rfl, hb⟩ := hrel
    have HB := Lib.hid hb
    clear hb
    by_cases hlt : k < K
    · have h0 := hK2 k hlt
      have h1 : 3 * ((k : Int) + 1) < (T : Int) := by omega
      have h2 : (k : Int) ≤ (T : Int) := by omega
      clear hK2
      go_wp2
      exact ⟨⟨k + 1, by omega, by go_num, HB.out⟩, by simp [intOf]; omega⟩
    · obtain rfl : k = K := by omega
      have h1 : ¬ (3 * ((k : Int) + 1) < (T : Int)) := by omega
      clear hK2
      go_wp2
      go_ret
      exact ⟨rfl, HB.out⟩

set_option maxRecDepth 8000 in
set_option maxHeartbeats 1000000 in
theorem rhas_any (N : List (List UInt8)) (u : Value) (s : List UInt8) (w : World) (hu : Strs w u N) (hlen : N.length ≤ 1000000) :
    Calls Tryd.prog 35 #[u, .string ⟨s.toArray⟩] w fun e w' => e = .returned (.bool (decide (s ∈ N))) ∧ w' = w := by
  obtain ⟨A, cap, rfl, hc⟩ := hu
  have HC := Lib.hid hc
  clear hc
  go_enter Tryd.func35, Tryd.ntmps35
  go_wp2
  go_loop [5] (fun i => ∃ k : Nat, k ≤ N.length ∧ i = .int .i64 k ∧ s ∉ N.take k) (fun i => N.length - (intOf i).toNat)
  case atStart => exact ⟨0, Nat.zero_le _, rfl, by simp⟩
  case round =>
    obtain ⟨k, hk, rfl, hn⟩ := hrel
    have HN := Lib.hid hn
    clear hn
    by_cases hlt : k < N.length
    · have h1 : (k : Int) < (N.length : Int) := by omega
      obtain ⟨a, rfl, n0⟩ := HC.out k hlt
      have HM := Lib.hid (List.getElem_mem hlt)
      have HT : Hid (s ∈ N.take (k + 1) ↔ s ∈ N.take k ∨ s = N[k]) := Lib.hid (by rw [List.take_succ_eq_append_getElem hlt, List.mem_append, List.mem_singleton])
      obtain ⟨x, hx⟩ : ∃ x, N[k] = x := ⟨_, rfl⟩
      rw [hx] at n0 HM HT
      clear hx
      by_cases e : x = s
      · subst e
        have HD : Hid (decide (x ∈ N) = true) := Lib.hid (decide_eq_true HM.out)
        go_wp2
        go_ret
        exact ⟨by rw [HD.out]; rfl, rfl⟩
      · have e1 : (x == s) = false := by rw [beq_eq_false_iff_ne]; exact e
        have HE := Lib.hid e
        clear e
        go_wp2
        go_round
        case rel => exact ⟨k + 1, by omega, by go_num, fun h => (HT.out.1 h).elim HN.out (fun e => HE.out e.symm)⟩
        case measure => simp [intOf]; omega
    · have h1 : ¬ ((k : Int) < (N.length : Int)) := by omega
      have HD : Hid (decide (s ∈ N) = false) := Lib.hid (decide_eq_false (by have := HN.out; rwa [List.take_of_length_le (by omega)] at this))
      go_wp2
      go_ret
      exact ⟨by rw [HD.out]; rfl, rfl⟩

theorem Pw.pick_take (L : List M) (N : List (List UInt8)) (k : Nat) (h : k < L.length) : Pw.sumP (Pw.pick (L.take (k + 1)) N) = if L[k].name ∈ N then Pw.sumP (Pw.pick (L.take k) N) + L[k].power else Pw.sumP (Pw.pick (L.take k) N) := by
  unfold Pw.pick
  rw [List.take_succ_eq_append_getElem h, List.filter_append, Pw.sumP_append]
  by_cases e : L[k].name ∈ N
  · rw [if_pos e]; simp [Pw.sumP, e]
  · rw [if_neg e]; simp [Pw.sumP, e]
theorem Pw.pick_take_range {L : List M} (h : Pw.okL L = true) (N : List (List UInt8)) (k : Nat) : 0 ≤ Pw.sumP (Pw.pick (L.take k) N) ∧ Pw.sumP (Pw.pick (L.take k) N) ≤ 7000 := by
  have hnn : ∀ m ∈ L.take k, 0 ≤ m.power := fun m hm => by have := (Pw.okL_mem h m (List.mem_of_mem_take hm)).2.2; omega
  have h1 := Pw.sumP_nonneg (L := Pw.pick (L.take k) N) (fun m hm => hnn m (List.mem_filter.1 hm).1)
  have h2 := Pw.sumP_filter_split (L.take k) (fun m => decide (m.name ∈ N))
  have h3 := Pw.sumP_nonneg (L := (L.take k).filter fun m => !decide (m.name ∈ N)) (fun m hm => hnn m (List.mem_filter.1 hm).1)
  have h4 := (Pw.sumP_take_range h k).2
  refine ⟨h1, ?_⟩
  unfold Pw.pick
  omega

set_option maxRecDepth 8000 in
set_option maxHeartbeats 1000000 in
theorem rof_any (L : List M) (v : Value) (N : List (List UInt8)) (u : Value) (w : World) (hv : Mems w v L) (hu : Strs w u N) (hlen : N.length ≤ 1000000) :
    Calls Tryd.prog 20 #[v, u] w fun e w' => e = .returned (.int .i64 (Pw.ofL L N : Nat)) ∧ Below w.heap.size w w' := by
  have HV := Lib.hid hv
  have HU := Lib.hid hu
  obtain ⟨A, cap, rfl⟩ := hv.form
  obtain ⟨A2, cap2, rfl, -⟩ := hu
  have HCK := Lib.hid (rcheck_any L _ w HV.out)
  cases hok : Pw.okL L with
  | false =>
    rw [Pw.checkC_bad hok] at HCK
    rw [show Pw.ofL L N = 0 by simp [Pw.ofL, hok]]
    clear hok hv
    go_enter Tryd.func20, Tryd.ntmps20
    go_wp2_with fail
    refine HCK.out.mono ?_
    rintro e w1 ⟨rfl, hb⟩
    go_wp2
    go_ret
    exact ⟨rfl, hb⟩
  | true =>
    rw [Pw.checkC_ok hok] at HCK
    have HT : Hid ((Pw.ofL L N : Nat) = Pw.sumP (Pw.pick L N)) := Lib.hid (by
      have := (Pw.pick_take_range hok N L.length).1
      rw [List.take_length] at this
      simp only [Pw.ofL, hok, if_true]; omega)
    have HR := Lib.hid (Pw.pick_take_range hok N)
    obtain ⟨T, hT⟩ : ∃ T, Pw.ofL L N = T := ⟨_, rfl⟩
    rw [hT] at HT ⊢
    have hl7 := (Pw.okL_len hok).2
    clear hT hok hv
    go_enter Tryd.func20, Tryd.ntmps20
    go_wp2_with fail
    refine HCK.out.mono ?_
    rintro e w1 ⟨rfl, hb⟩
    have HB1 := Lib.hid hb
    clear hb
    go_wp2
    go_loopw [5, 6] (fun t i wr => ∃ k : Nat, k ≤ L.length ∧ i = .int .i64 k ∧ t = .int .i64 (Pw.sumP (Pw.pick (L.take k) N)) ∧ Below w.heap.size w wr) (fun _ i _ => L.length - (intOf i).toNat)
    case atStart => exact ⟨0, Nat.zero_le _, rfl, rfl, HB1.out⟩
    case round =>
      obtain ⟨k, hk, rfl, rfl, hb⟩ := hrel
      have HB := Lib.hid hb
      clear hb HB1
      by_cases hlt : k < L.length
      · have h1 : (k : Int) < (L.length : Int) := by omega
        have h0 : (0 : Int) ≤ (k : Int) := by omega
        obtain ⟨b, o, rfl, n0, n1⟩ := HV.out.at HB.out k hlt
        have HS := Lib.hid (Pw.pick_take L N k hlt)
        have r1 := HR.out k
        have r2 := HR.out (k + 1)
        obtain ⟨S, hS⟩ : ∃ S, Pw.sumP (Pw.pick (L.take k) N) = S := ⟨_, rfl⟩
        obtain ⟨⟨x, q⟩, hm⟩ : ∃ m, L[k] = m := ⟨_, rfl⟩
        rw [hS, hm] at HS
        rw [hS] at r1 ⊢
        rw [hm] at n0 n1
        rw [HS.out] at r2
        dsimp only at n0 n1 r2 HS
        have HH := Lib.hid (rhas_any N _ x wr (HU.out.below HB.out) hlen)
        clear hS hm
        go_wp2_with fail
        refine HH.out.mono ?_
        rintro e w3 ⟨rfl, rfl⟩
        by_cases hx : x ∈ N
        · rw [if_pos hx] at r2
          have HX : Hid (Pw.sumP (Pw.pick (L.take (k + 1)) N) = S + q) := Lib.hid (by rw [HS.out, if_pos hx])
          rw [decide_eq_true hx]
          clear hx
          go_wp2
          exact ⟨⟨k + 1, by omega, by go_num, by rw [HX.out], HB.out⟩, by simp [intOf]; omega⟩
        · have HX : Hid (Pw.sumP (Pw.pick (L.take (k + 1)) N) = S) := Lib.hid (by rw [HS.out, if_neg hx])
          rw [decide_eq_false hx]
          clear hx r2
          go_wp2
          exact ⟨⟨k + 1, by omega, by go_num, by rw [HX.out], HB.out⟩, by simp [intOf]; omega⟩
      · have h1 : ¬ ((k : Int) < (L.length : Int)) := by omega
        obtain rfl : k = L.length := by omega
        go_wp2
        go_ret
        exact ⟨ret_i64 HT.out.symm, HB.out⟩
end Go.Proofs.YtbjfihbjfoaghaaDoor
