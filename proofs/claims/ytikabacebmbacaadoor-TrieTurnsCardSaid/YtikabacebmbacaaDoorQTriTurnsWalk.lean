/- The law TrieTurns, walked. -/
import Derived.Test.YtikabacebmbacaaDoorPk12
namespace Go.Proofs.YtikabacebmbacaaDoor
open Go.RowKit
open Sto (T St)
open Tri (Tr)

set_option maxRecDepth 100000 in
set_option maxHeartbeats 8000000 in
theorem trieTurns_walk (v : Value) (L : List ActT) (a b : ActT) (w : World) (hv : TActs w v L) (hT : Tab w) :
    Calls Tryd.prog 6 #[v, .agg (tactcl a).toArray, .agg (tactcl b).toArray] w fun e w' => e = .returned (.bool true) ∧ Below w.heap.size w w' := by
  obtain ⟨ka, ak, av⟩ := a
  obtain ⟨kb, bk, bv⟩ := b
  show Calls _ _ #[v, .agg #[.int .i64 ka, .string ⟨ak.toArray⟩, .string ⟨av.toArray⟩], .agg #[.int .i64 kb, .string ⟨bk.toArray⟩, .string ⟨bv.toArray⟩]] w _
  obtain ⟨w0, hw0⟩ : ∃ w0, (w.alloc (.cells #[.int .i64 ka, .string ⟨ak.toArray⟩, .string ⟨av.toArray⟩] 32)).alloc (.cells #[.int .i64 kb, .string ⟨bk.toArray⟩, .string ⟨bv.toArray⟩] 32) = w0 := ⟨_, rfl⟩
  have hb0 : Below w.heap.size w w0 := by rw [← hw0]; exact ((Below.refl _ w).alloc (Nat.le_refl _) _).alloc (by simp) _
  have ra : w0.heap[w.heap.size]? = some (.cells #[.int .i64 ka, .string ⟨ak.toArray⟩, .string ⟨av.toArray⟩] 32 (0, 0)) := by rw [← hw0]; exact heap_old_at _ (heap_alloc_new w _)
  have rb : w0.heap[w.heap.size + 1]? = some (.cells #[.int .i64 kb, .string ⟨bk.toArray⟩, .string ⟨bv.toArray⟩] 32 (0, 0)) := by rw [← hw0]; exact heap_new_at _ _ _ (by simp)
  have HC : Hid (∀ w', Below w0.heap.size w0 w' → w'.cell? ⟨w.heap.size, 0, none⟩ = some (.int .i64 ka) ∧ w'.cell? ⟨w.heap.size, 1, none⟩ = some (.string ⟨ak.toArray⟩) ∧ w'.cell? ⟨w.heap.size, 2, none⟩ = some (.string ⟨av.toArray⟩) ∧ w'.cell? ⟨w.heap.size + 1, 0, none⟩ = some (.int .i64 kb) ∧ w'.cell? ⟨w.heap.size + 1, 1, none⟩ = some (.string ⟨bk.toArray⟩) ∧ w'.cell? ⟨w.heap.size + 1, 2, none⟩ = some (.string ⟨bv.toArray⟩)) := Lib.hid (fun w' hb => by
    have xa := (hb.block _ (lt_of_heap ra)).trans ra
    have xb := (hb.block _ (lt_of_heap rb)).trans rb
    refine ⟨?_, ?_, ?_, ?_, ?_, ?_⟩
    · rw [cell_of_row _ _ 0 _ _ _ xa]; rfl
    · rw [cell_of_row _ _ 1 _ _ _ xa]; rfl
    · rw [cell_of_row _ _ 2 _ _ _ xa]; rfl
    · rw [cell_of_row _ _ 0 _ _ _ xb]; rfl
    · rw [cell_of_row _ _ 1 _ _ _ xb]; rfl
    · rw [cell_of_row _ _ 2 _ _ _ xb]; rfl)
  have HV0 := Lib.hid (hv.below hb0)
  have HT0 := Lib.hid (hT.below hb0)
  have HB0 := Lib.hid hb0
  have HWK := Lib.hid (fun w' (hb : Below w0.heap.size w0 w') => tworks_any w' (HT0.out.below hb))
  have HLO := Lib.hid (fun w' (hb : Below w0.heap.size w0 w') => long_any L 30 v w' (HV0.out.below hb) (by omega))
  have HL2 : Hid (∀ w', Calls Tryd.prog 9 #[.slice (some ⟨w'.heap.size, 0, none⟩) 2 2, .int .i64 2] (w'.alloc (.cells #[.int .i64 ka, .string ⟨ak.toArray⟩, .string ⟨av.toArray⟩, .int .i64 kb, .string ⟨bk.toArray⟩, .string ⟨bv.toArray⟩] 32)) fun e w'' => ∃ x, e = .returned (.bool x) ∧ Below w'.heap.size w' w'') := Lib.hid (fun w' => by
    have hact : TActs (w'.alloc (.cells #[.int .i64 ka, .string ⟨ak.toArray⟩, .string ⟨av.toArray⟩, .int .i64 kb, .string ⟨bk.toArray⟩, .string ⟨bv.toArray⟩] 32)) (.slice (some ⟨w'.heap.size, 0, none⟩) 2 2) [⟨ka, ak, av⟩, ⟨kb, bk, bv⟩] := by
      have hr := heap_alloc_new w' (.cells #[.int .i64 ka, .string ⟨ak.toArray⟩, .string ⟨av.toArray⟩, .int .i64 kb, .string ⟨bk.toArray⟩, .string ⟨bv.toArray⟩] 32)
      refine ⟨_, 2, rfl, fun _ => ⟨_, _, rfl, by simp, fun i hi => ?_⟩⟩
      simp only [List.length_cons, List.length_nil] at hi
      match i, hi with
      | 0, _ => exact ⟨by rw [cell_of_row _ _ _ _ _ _ hr]; rfl, by rw [cell_of_row _ _ _ _ _ _ hr]; rfl, by rw [cell_of_row _ _ _ _ _ _ hr]; rfl⟩
      | 1, _ => exact ⟨by rw [cell_of_row _ _ _ _ _ _ hr]; rfl, by rw [cell_of_row _ _ _ _ _ _ hr]; rfl, by rw [cell_of_row _ _ _ _ _ _ hr]; rfl⟩
    exact (long_any _ 2 _ _ hact (by omega)).mono fun e w'' h => ⟨_, h.1, bchain ((Below.refl _ w').alloc (Nat.le_refl _) _) h.2⟩)
  have HMD := Lib.hid (fun (hl : L.length ≤ 30) w' (hb : Below w0.heap.size w0 w') => made_any L v w' (HV0.out.below hb) hl (HT0.out.below hb))
  have HTB := Lib.hid (fun w' (hb : Below w0.heap.size w0 w') => HT0.out.below hb)
  have HNO := Lib.hid (@long_no L 30)
  clear ra rb hb0 hT hv
  go_enter Tryd.func6, Tryd.ntmps6
  go_wp2_with fail
  clear hw0
  refine (HWK.out _ (Below.refl _ _)).mono ?_
  rintro e w1 ⟨rfl, hb1⟩
  have HB1 := Lib.hid hb1
  clear hb1
  go_wp2_with fail
  refine (HLO.out _ HB1.out).mono ?_
  rintro e w2 ⟨rfl, hb2⟩
  have HB2 := Lib.hid (bchain HB1.out hb2)
  clear hb2
  obtain ⟨lb, hlb⟩ : ∃ lb, longB L 30 = lb := ⟨_, rfl⟩
  rw [hlb]
  cases lb with
  | true =>
    clear hlb
    go_wp2
    go_ret
    exact ⟨rfl, bchain HB0.out HB2.out⟩
  | false =>
    have HLL := Lib.hid (HNO.out hlb).1
    clear hlb
    obtain ⟨a0, a1, a2, b0, b1, b2⟩ := HC.out _ HB2.out
    go_wp2_with fail
    refine (HL2.out _).mono ?_
    rintro e w3 ⟨x, rfl, hb3⟩
    have HB3 := Lib.hid (bchain HB2.out hb3)
    clear hb3 a0 a1 a2 b0 b1 b2
    cases x with
    | true =>
      go_wp2
      go_ret
      exact ⟨rfl, bchain HB0.out HB3.out⟩
    | false =>
      go_wp2_with fail
      refine (HMD.out HLL.out _ HB3.out).mono ?_
      rintro e w4 ⟨g, rfl, t4, hb4⟩
      have HB4 := Lib.hid (bchain HB3.out hb4)
      have hsl := made_len L
      obtain ⟨S, hS⟩ : ∃ S, madeS L = S := ⟨_, rfl⟩
      rw [hS] at t4 hsl
      have HRS := Lib.hid t4.rise
      have HSL : Hid (S.length ≤ 30) := Lib.hid (Nat.le_trans hsl HLL.out)
      have HT4 : Hid (∀ w', Below w4.heap.size w4 w' → TrAt w' g S) := Lib.hid (fun w' hb => t4.below hb)
      have HL1 : Hid ((Tri.put S ak av).length < 1024) := Lib.hid (by rw [Tri.put_len]; have := HSL.out; split <;> omega)
      have HL2' : Hid ((Tri.put S bk bv).length < 1024) := Lib.hid (by rw [Tri.put_len]; have := HSL.out; split <;> omega)
      have HFA : Hid (Tri.putC S ak av = fitC ak av) := Lib.hid (putC_fit (by have := HSL.out; omega) ak av)
      have HFB : Hid (Tri.putC S bk bv = fitC bk bv) := Lib.hid (putC_fit (by have := HSL.out; omega) bk bv)
      clear hb4 t4 hsl hS HMD HL2 HLO HWK HV0 HNO
      obtain ⟨-, a1, a2, -, b1, b2⟩ := HC.out _ HB4.out
      unfold ptr
      go_wp2_with fail
      refine (tput_any ak av _ (HT4.out _ (Below.refl _ _)) (HTB.out _ HB4.out)).mono ?_
      rintro e w5 ⟨zx, rfl, hx1, hx0, hb5⟩
      have HB5 := Lib.hid (bchain HB4.out hb5)
      have HK5 := Lib.hid hb5
      obtain ⟨ca, hca⟩ : ∃ ca, Tri.putC S ak av = ca := ⟨_, rfl⟩
      rw [hca] at hx1 hx0 ⊢
      by_cases hc0 : ca = 0
      · obtain ⟨gx, rfl, tx⟩ := hx1 hc0
        subst hc0
        have HCA := Lib.hid hca
        have HTX : Hid (∀ w', Below w5.heap.size w5 w' → TrAt w' gx (Tri.put S ak av)) := Lib.hid (fun w' hb => tx.below hb)
        clear hx1 hx0 hb5 tx hca a1 a2 b1 b2
        obtain ⟨-, a1, a2, -, b1, b2⟩ := HC.out _ HB5.out
        unfold ptr
        go_wp2_with fail
        refine (tget_any ak _ (HT4.out _ HK5.out)).mono ?_
        rintro e w6 ⟨rfl, hb6⟩
        have HB6 := Lib.hid (bchain HB5.out hb6)
        have HK6 := Lib.hid (bchain HK5.out hb6)
        have HX6 := Lib.hid hb6
        obtain ⟨y, cg, hyc⟩ : ∃ y cg, Tri.getC S ak = (y, cg) := ⟨_, _, rfl⟩
        rw [hyc]
        clear hb6 a1 a2 b1 b2
        by_cases h5 : cg = 5
        · subst h5
          obtain ⟨hkk, hlk⟩ := getC_five (show (Tri.getC S ak).2 = 5 by rw [hyc])
          have HG1 := Lib.hid (getC_put HRS.out av hkk)
          have HDP := Lib.hid (Tri.del_put HRS.out ak av hlk)
          have HPN := Lib.hid (put_len_new HRS.out av hlk)
          clear hkk hlk hyc
          obtain ⟨-, a1, a2, -, b1, b2⟩ := HC.out _ HB6.out
          go_wp2_with fail
          refine (tdel_any ak _ (HTX.out _ HX6.out) (HTB.out _ HB6.out)).mono ?_
          rintro e w7 ⟨zb, rfl, hd1, -, hb7⟩
          rw [HG1.out] at hd1 ⊢
          obtain ⟨gb, rfl, tb⟩ := hd1 rfl
          rw [HDP.out] at tb
          have HB7 := Lib.hid (bchain HB6.out hb7)
          have HK7 := Lib.hid (bchain HK6.out hb7)
          have HX7 := Lib.hid (bchain HX6.out hb7)
          have HTBK := Lib.hid tb
          clear hd1 tb hb7 a1 a2 b1 b2
          unfold ptr
          go_wp2_with fail
          refine (sroot_any _ HTBK.out).mono ?_
          rintro e w8 ⟨rfl, hb8⟩
          have HB8 := Lib.hid (bchain HB7.out hb8)
          have HK8 := Lib.hid (bchain HK7.out hb8)
          have HX8 := Lib.hid (bchain HX7.out hb8)
          have HT8 := Lib.hid (HTBK.out.below hb8)
          clear hb8
          go_wp2_with fail
          refine (sroot_any _ (HT4.out _ HK8.out)).mono ?_
          rintro e w9 ⟨rfl, hb9⟩
          have HB9 := Lib.hid (bchain HB8.out hb9)
          have HK9 := Lib.hid (bchain HK8.out hb9)
          have HX9 := Lib.hid (bchain HX8.out hb9)
          have HT9 := Lib.hid (HT8.out.below hb9)
          have hre : (rootS S == rootS S) = true := beq_self_eq_true _
          obtain ⟨RR, hRR⟩ : ∃ RR, rootS S = RR := ⟨_, rfl⟩
          rw [hRR] at hre ⊢
          clear hb9 hRR
          go_wp2_with fail
          refine (snodes_any _ HT9.out).mono ?_
          rintro e w10 ⟨z1, rfl, o1, hb10⟩
          have HB10 := Lib.hid (bchain HB9.out hb10)
          have HK10 := Lib.hid (bchain HK9.out hb10)
          have HX10 := Lib.hid (bchain HX9.out hb10)
          have HNL := Lib.hid HT9.out.nodes_len
          have HO1 := Lib.hid o1
          clear o1 hb10
          go_wp2_with fail
          refine (snodes_any _ (HT4.out _ HK10.out)).mono ?_
          rintro e w11 ⟨z2, rfl, o2, hb11⟩
          have HB11 := Lib.hid (bchain HB10.out hb11)
          have HK11 := Lib.hid (bchain HK10.out hb11)
          have HX11 := Lib.hid (bchain HX10.out hb11)
          have HO1' := Lib.hid (HO1.out.below hb11)
          have HO2 := Lib.hid o2
          clear o2 hb11
          go_wp2_with fail
          refine (same_any (nodesS S) (nodesS S) _ _ _ HO1'.out.strs HO2.out.strs (by have := HNL.out; omega) (by have := HNL.out; unfold maxLen; omega)).mono ?_
          rintro e w12 ⟨rfl, hb12⟩
          have hde : decide (nodesS S = nodesS S) = true := decide_eq_true rfl
          rw [hde]
          have HB12 := Lib.hid (bchain HB11.out hb12)
          have HK12 := Lib.hid (bchain HK11.out hb12)
          have HX12 := Lib.hid (bchain HX11.out hb12)
          clear hb12 hde
          go_wp2_with fail
          refine (tlen_any _ (HTX.out _ HX12.out)).mono ?_
          rintro e w13 ⟨rfl, rfl⟩
          go_wp2_with fail
          refine (tlen_any _ (HT4.out _ HK12.out)).mono ?_
          rintro e w14 ⟨rfl, rfl⟩
          rw [HPN.out]
          have z8 : IntKind.i64.wrap ((S.length : Int) + 1) = (S.length : Int) + 1 := IntWalk.i64_in _ (by have := HSL.out; omega)
          have z9 : (((S.length + 1 : Nat) : Int) == (S.length : Int) + 1) = true := by rw [beq_iff_eq]; omega
          have z10 : (((S.length : Int) + 1) == (S.length : Int) + 1) = true := beq_self_eq_true _
          have HBK := HB12
          have HK4 := HK12
          have HKX := HX12
          obtain ⟨-, a1, a2, -, b1, b2⟩ := HC.out _ HBK.out
          go_wp2_with fail
          refine (tput_any bk bv _ (HT4.out _ HK4.out) (HTB.out _ HBK.out)).mono ?_
          rintro e w20 ⟨zy, rfl, hy1, hy0, hb20⟩
          have HB20 := Lib.hid (bchain HBK.out hb20)
          have HK20 := Lib.hid (bchain HK4.out hb20)
          have HX20 := Lib.hid ((HTX.out _ HKX.out).below hb20)
          rw [HFB.out] at hy1 hy0 ⊢
          obtain ⟨cb, hcb⟩ : ∃ cb, fitC bk bv = cb := ⟨_, rfl⟩
          rw [hcb] at hy1 hy0 ⊢
          by_cases hc0 : cb = 0
          · obtain ⟨gy, rfl, ty⟩ := hy1 hc0
            subst hc0
            have HTY := Lib.hid ty
            have HCB := Lib.hid hcb
            clear hy1 hy0 hb20 ty hcb
            clear a1 a2 b1 b2
            obtain ⟨-, a1, a2, -, b1, b2⟩ := HC.out _ HB20.out
            by_cases hab : ak = bk
            · have hab2 : (ak == bk) = true := by rw [beq_iff_eq]; exact hab
              go_wp2
              go_ret
              exact ⟨rfl, bchain HB0.out HB20.out⟩
            · have hab2 : (ak == bk) = false := by rw [beq_eq_false_iff_ne]; exact hab
              have HAB := Lib.hid hab
              clear hab
              unfold ptr
              go_wp2_with fail
              refine (tput_any bk bv _ HX20.out (HTB.out _ HB20.out)).mono ?_
              rintro e w21 ⟨zp, rfl, hp1, -, hb21⟩
              have HB21 := Lib.hid (bchain HB20.out hb21)
              have e21 : Tri.putC (Tri.put S ak av) bk bv = 0 := (putC_fit (HL1.out) bk bv).trans HCB.out
              rw [e21]
              obtain ⟨gp, rfl, tp⟩ := hp1 e21
              have HTP := Lib.hid tp
              have HY21 := Lib.hid (HTY.out.below hb21)
              clear hp1 e21 tp hb21 a1 a2 b1 b2
              obtain ⟨-, a1, a2, -, b1, b2⟩ := HC.out _ HB21.out
              unfold ptr
              go_wp2_with fail
              refine (tput_any ak av _ HY21.out (HTB.out _ HB21.out)).mono ?_
              rintro e w22 ⟨zq, rfl, hq1, -, hb22⟩
              have HB22 := Lib.hid (bchain HB21.out hb22)
              have e22 : Tri.putC (Tri.put S bk bv) ak av = 0 := (putC_fit (HL2'.out) ak av).trans (HFA.out.symm.trans HCA.out)
              rw [e22]
              obtain ⟨gq, rfl, tq⟩ := hq1 e22
              rw [← Tri.put_comm HRS.out HAB.out av bv] at tq
              have HTQ := Lib.hid tq
              have HTP2 := Lib.hid (HTP.out.below hb22)
              obtain ⟨SP, hSP⟩ : ∃ SP, Tri.put (Tri.put S ak av) bk bv = SP := ⟨_, rfl⟩
              rw [hSP] at HTQ HTP2
              clear hq1 e22 tq hb22 a1 a2 b1 b2 hSP HTP
              unfold ptr
              go_wp2_with fail
              refine (sroot_any _ HTP2.out).mono ?_
              rintro e w23 ⟨rfl, hb23⟩
              have HB23 := Lib.hid (bchain HB22.out hb23)
              have HTP3 := Lib.hid (HTP2.out.below hb23)
              have HTQ3 := Lib.hid (HTQ.out.below hb23)
              clear hb23
              go_wp2_with fail
              refine (sroot_any _ HTQ3.out).mono ?_
              rintro e w24 ⟨rfl, hb24⟩
              have HB24 := Lib.hid (bchain HB23.out hb24)
              have HTP4 := Lib.hid (HTP3.out.below hb24)
              have HTQ4 := Lib.hid (HTQ3.out.below hb24)
              have hre : (rootS SP == rootS SP) = true := beq_self_eq_true _
              obtain ⟨RR, hRR⟩ : ∃ RR, rootS SP = RR := ⟨_, rfl⟩
              rw [hRR] at hre ⊢
              clear hb24 hRR
              go_wp2_with fail
              refine (sitems_any _ HTP4.out).mono ?_
              rintro e w25 ⟨z1, rfl, o1, hb25⟩
              have HB25 := Lib.hid (bchain HB24.out hb25)
              have HTQ5 := Lib.hid (HTQ4.out.below hb25)
              have HO1 := Lib.hid o1
              clear o1 hb25
              go_wp2_with fail
              refine (sitems_any _ HTQ5.out).mono ?_
              rintro e w26 ⟨z2, rfl, o2, hb26⟩
              have HB26 := Lib.hid (bchain HB25.out hb26)
              have HO1' := Lib.hid (HO1.out.below hb26)
              have HO2 := Lib.hid o2
              have HF26 := Lib.hid (HTQ5.out.few)
              clear o2 hb26
              go_wp2_with fail
              refine (sameI_any SP SP _ _ _ HO1'.out.at_ HO2.out.at_ (by have := HF26.out; omega) (by have := HF26.out; omega)).mono ?_
              rintro e w27 ⟨rfl, hb27⟩
              have hde : decide (SP = SP) = true := decide_eq_true rfl
              rw [hde]
              go_wp2
              go_ret
              exact ⟨rfl, bchain HB0.out (bchain HB26.out hb27)⟩
          · have hce : ((cb : Int) == 0) = false := by rw [beq_eq_false_iff_ne]; omega
            have e1 : zy = .pointer none := hy0 hc0
            subst e1
            have hcn : ((cb : Int) != 0) = true := by rw [bne_iff_ne]; omega
            have hcz : ¬ ((cb : Int) = 0) := by omega
            clear hy1 hy0 hb20 hcb hc0 a1 a2 b1 b2
            obtain ⟨-, a1, a2, -, b1, b2⟩ := HC.out _ HB20.out
            go_wp2
            go_ret
            exact ⟨rfl, bchain HB0.out HB20.out⟩
        · have hc5 : ((cg : Int) == 5) = false := by rw [beq_eq_false_iff_ne]; omega
          clear hyc
          have HBK := HB6
          have HK4 := HK6
          have HKX := HX6
          obtain ⟨-, a1, a2, -, b1, b2⟩ := HC.out _ HBK.out
          go_wp2_with fail
          refine (tput_any bk bv _ (HT4.out _ HK4.out) (HTB.out _ HBK.out)).mono ?_
          rintro e w20 ⟨zy, rfl, hy1, hy0, hb20⟩
          have HB20 := Lib.hid (bchain HBK.out hb20)
          have HK20 := Lib.hid (bchain HK4.out hb20)
          have HX20 := Lib.hid ((HTX.out _ HKX.out).below hb20)
          rw [HFB.out] at hy1 hy0 ⊢
          obtain ⟨cb, hcb⟩ : ∃ cb, fitC bk bv = cb := ⟨_, rfl⟩
          rw [hcb] at hy1 hy0 ⊢
          by_cases hc0 : cb = 0
          · obtain ⟨gy, rfl, ty⟩ := hy1 hc0
            subst hc0
            have HTY := Lib.hid ty
            have HCB := Lib.hid hcb
            clear hy1 hy0 hb20 ty hcb
            clear a1 a2 b1 b2
            obtain ⟨-, a1, a2, -, b1, b2⟩ := HC.out _ HB20.out
            by_cases hab : ak = bk
            · have hab2 : (ak == bk) = true := by rw [beq_iff_eq]; exact hab
              go_wp2
              go_ret
              exact ⟨rfl, bchain HB0.out HB20.out⟩
            · have hab2 : (ak == bk) = false := by rw [beq_eq_false_iff_ne]; exact hab
              have HAB := Lib.hid hab
              clear hab
              unfold ptr
              go_wp2_with fail
              refine (tput_any bk bv _ HX20.out (HTB.out _ HB20.out)).mono ?_
              rintro e w21 ⟨zp, rfl, hp1, -, hb21⟩
              have HB21 := Lib.hid (bchain HB20.out hb21)
              have e21 : Tri.putC (Tri.put S ak av) bk bv = 0 := (putC_fit (HL1.out) bk bv).trans HCB.out
              rw [e21]
              obtain ⟨gp, rfl, tp⟩ := hp1 e21
              have HTP := Lib.hid tp
              have HY21 := Lib.hid (HTY.out.below hb21)
              clear hp1 e21 tp hb21 a1 a2 b1 b2
              obtain ⟨-, a1, a2, -, b1, b2⟩ := HC.out _ HB21.out
              unfold ptr
              go_wp2_with fail
              refine (tput_any ak av _ HY21.out (HTB.out _ HB21.out)).mono ?_
              rintro e w22 ⟨zq, rfl, hq1, -, hb22⟩
              have HB22 := Lib.hid (bchain HB21.out hb22)
              have e22 : Tri.putC (Tri.put S bk bv) ak av = 0 := (putC_fit (HL2'.out) ak av).trans (HFA.out.symm.trans HCA.out)
              rw [e22]
              obtain ⟨gq, rfl, tq⟩ := hq1 e22
              rw [← Tri.put_comm HRS.out HAB.out av bv] at tq
              have HTQ := Lib.hid tq
              have HTP2 := Lib.hid (HTP.out.below hb22)
              obtain ⟨SP, hSP⟩ : ∃ SP, Tri.put (Tri.put S ak av) bk bv = SP := ⟨_, rfl⟩
              rw [hSP] at HTQ HTP2
              clear hq1 e22 tq hb22 a1 a2 b1 b2 hSP HTP
              unfold ptr
              go_wp2_with fail
              refine (sroot_any _ HTP2.out).mono ?_
              rintro e w23 ⟨rfl, hb23⟩
              have HB23 := Lib.hid (bchain HB22.out hb23)
              have HTP3 := Lib.hid (HTP2.out.below hb23)
              have HTQ3 := Lib.hid (HTQ.out.below hb23)
              clear hb23
              go_wp2_with fail
              refine (sroot_any _ HTQ3.out).mono ?_
              rintro e w24 ⟨rfl, hb24⟩
              have HB24 := Lib.hid (bchain HB23.out hb24)
              have HTP4 := Lib.hid (HTP3.out.below hb24)
              have HTQ4 := Lib.hid (HTQ3.out.below hb24)
              have hre : (rootS SP == rootS SP) = true := beq_self_eq_true _
              obtain ⟨RR, hRR⟩ : ∃ RR, rootS SP = RR := ⟨_, rfl⟩
              rw [hRR] at hre ⊢
              clear hb24 hRR
              go_wp2_with fail
              refine (sitems_any _ HTP4.out).mono ?_
              rintro e w25 ⟨z1, rfl, o1, hb25⟩
              have HB25 := Lib.hid (bchain HB24.out hb25)
              have HTQ5 := Lib.hid (HTQ4.out.below hb25)
              have HO1 := Lib.hid o1
              clear o1 hb25
              go_wp2_with fail
              refine (sitems_any _ HTQ5.out).mono ?_
              rintro e w26 ⟨z2, rfl, o2, hb26⟩
              have HB26 := Lib.hid (bchain HB25.out hb26)
              have HO1' := Lib.hid (HO1.out.below hb26)
              have HO2 := Lib.hid o2
              have HF26 := Lib.hid (HTQ5.out.few)
              clear o2 hb26
              go_wp2_with fail
              refine (sameI_any SP SP _ _ _ HO1'.out.at_ HO2.out.at_ (by have := HF26.out; omega) (by have := HF26.out; omega)).mono ?_
              rintro e w27 ⟨rfl, hb27⟩
              have hde : decide (SP = SP) = true := decide_eq_true rfl
              rw [hde]
              go_wp2
              go_ret
              exact ⟨rfl, bchain HB0.out (bchain HB26.out hb27)⟩
          · have hce : ((cb : Int) == 0) = false := by rw [beq_eq_false_iff_ne]; omega
            have e1 : zy = .pointer none := hy0 hc0
            subst e1
            have hcn : ((cb : Int) != 0) = true := by rw [bne_iff_ne]; omega
            have hcz : ¬ ((cb : Int) = 0) := by omega
            clear hy1 hy0 hb20 hcb hc0 a1 a2 b1 b2
            obtain ⟨-, a1, a2, -, b1, b2⟩ := HC.out _ HB20.out
            go_wp2
            go_ret
            exact ⟨rfl, bchain HB0.out HB20.out⟩
      · have hce : ((ca : Int) == 0) = false := by rw [beq_eq_false_iff_ne]; omega
        have e1 : zx = .pointer none := hx0 hc0
        subst e1
        clear hx1 hx0 hb5 hca hc0
        go_wp2
        go_ret
        exact ⟨rfl, bchain HB0.out HB5.out⟩
theorem trieTurns_law (v : Value) (L : List ActT) (a b : ActT) (w : World) (hv : TActs w v L) (_ : L.length * 40 ≤ reachBytes) (_ : ∀ s ∈ L, OkTAct s) (_ : OkTAct a) (_ : OkTAct b) (hT : Tab w) :
    Calls Tryd.prog 6 #[v, .agg (tactcl a).toArray, .agg (tactcl b).toArray] w fun e w' => e = .returned (.bool true) ∧ Below w.heap.size w w' := trieTurns_walk v L a b w hv hT
end Go.Proofs.YtikabacebmbacaaDoor
