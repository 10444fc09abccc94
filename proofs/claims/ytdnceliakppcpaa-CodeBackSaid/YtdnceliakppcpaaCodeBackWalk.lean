/- The walk of the law CodeBack: it answers true, whatever it is given. -/
import Derived.Test.YtdnceliakppcpaaCodeWorks
import Derived.Test.YtdnceliakppcpaaCodeFew
import Derived.Test.YtdnceliakppcpaaCodeThere
import Derived.Test.YtdnceliakppcpaaArgInts
namespace Go.Proofs.Ytdnceliakppcpaa
open Go.RowKit

def Code.numsL (N : List Nat) : List UInt8 := N.flatMap Code.numL
theorem Code.nums_snoc (N : List Nat) (k : Nat) (h : k < N.length) : Code.numsL (N.take k) ++ Code.numL N[k] = Code.numsL (N.take (k + 1)) := by
  rw [List.take_succ_eq_append_getElem h, Code.numsL, Code.numsL, List.flatMap_append]
  simp only [List.flatMap_cons, List.flatMap_nil, List.append_nil]
theorem Code.nums_drop (N : List Nat) (k : Nat) (h : k < N.length) : Code.numsL (N.drop k) = Code.numL N[k] ++ Code.numsL (N.drop (k + 1)) := by
  rw [List.drop_eq_getElem_cons h, Code.numsL, Code.numsL, List.flatMap_cons]
theorem Code.texts_drop (L : List (List UInt8)) (k : Nat) (h : k < L.length) : Code.textsL (L.drop k) = Code.textL L[k] ++ Code.textsL (L.drop (k + 1)) := by
  rw [List.drop_eq_getElem_cons h, Code.textsL, Code.textsL, List.flatMap_cons]
theorem Code.nums_bound (N : List Nat) (h : ∀ n ∈ N, n < 2 ^ 63) : (Code.numsL N).length ≤ 9 * N.length := by
  induction N with
  | nil => simp [Code.numsL]
  | cons n N ih =>
    have h1 := ih (fun t ht => h t (List.mem_cons_of_mem _ ht))
    have h2 := h n (List.mem_cons_self ..)
    have h3 := Code.sz_le8 n (by omega)
    have h4 := Code.numL_length n
    have e1 : Code.numsL (n :: N) = Code.numL n ++ Code.numsL N := by simp [Code.numsL]
    rw [e1, List.length_append, List.length_cons]
    omega
theorem Code.nums_take (N : List Nat) (k : Nat) (h : ∀ n ∈ N, n < 2 ^ 63) : (Code.numsL (N.take k)).length ≤ 9 * N.length := by
  have h1 := Code.nums_bound (N.take k) (fun n hn => h n (List.mem_of_mem_take hn))
  have h2 : (N.take k).length ≤ N.length := by rw [List.length_take]; omega
  omega

set_option maxHeartbeats 1000000 in
theorem back_skip (u v : Value) (Z : List Int) (L : List (List UInt8)) (b : Bool) (w : World) (hu : Ints w u Z) (hv : Strs w v L) (hZ : Z.length ≤ maxLen) (hL : L.length ≤ maxLen)
    (hno : Z.length > 30 ∨ Code.few L 20 200 = false) :
    Calls Try.prog 4 #[u, v, .bool b] w fun e w' => e = .returned (.bool true) ∧ Below w.heap.size w w' := by
  obtain ⟨A, cap, rfl, _⟩ := hu
  unfold maxLen at hZ
  by_cases h30 : Z.length > 30
  · have h30' : (Z.length : Int) > 30 := by omega
    go_enter Try.func4, Try.ntmps4
    go_wp2_with fail
    refine (works_any w).mono ?_
    rintro e w1 ⟨rfl, hb1⟩
    go_wp2
    go_ret
    exact ⟨rfl, hb1⟩
  · have h30' : ¬ ((Z.length : Int) > 30) := by omega
    have hf : Code.few L 20 200 = false := hno.resolve_left h30
    have HF := Lib.hid hf
    clear hno hf h30
    go_enter Try.func4, Try.ntmps4
    go_wp2_with fail
    refine (works_any w).mono ?_
    rintro e w1 ⟨rfl, hb1⟩
    have hv1 := hv.below hb1
    clear hv
    go_wp2_with fail
    refine (few_any L v 20 200 w1 hv1 hL).mono ?_
    rintro e w2 ⟨rfl, rfl⟩
    rw [HF.out]
    go_wp2
    go_ret
    exact ⟨rfl, hb1⟩

theorem max_nat (z : Int) (h : (Lit.int .i64 z).wf = true) : max z 0 = ((z.toNat : Nat) : Int) ∧ z.toNat < 2 ^ 63 := by
  have : -9223372036854775808 ≤ z ∧ z ≤ 9223372036854775807 := by simpa [Lit.wf, IntKind.min, IntKind.max, IntKind.signed, IntKind.bits] using h
  omega

set_option maxHeartbeats 4000000 in
theorem back_main (u v : Value) (Z : List Int) (L : List (List UInt8)) (b : Bool) (w : World) (hu : Ints w u Z) (hv : Strs w v L) (hL : L.length ≤ maxLen)
    (hwf : ∀ z ∈ Z, (Lit.int .i64 z).wf = true) (h30 : Z.length ≤ 30) (hfew : Code.few L 20 200 = true) :
    Calls Try.prog 4 #[u, v, .bool b] w fun e w' => e = .returned (.bool true) ∧ Below w.heap.size w w' := by
  obtain ⟨hL1, hL2⟩ := (Code.few_iff L 20 200).1 hfew
  have hll := Code.list_bound L 20 200 hL1 (by decide) hL2 (by decide)
  have htt : (Code.textsL L).length ≤ 20 * 209 := by
    have := Code.texts_bound L 200 (by decide) hL2
    have := Nat.mul_le_mul_right 209 hL1
    omega
  obtain ⟨N, hN⟩ : ∃ N, Z.map Int.toNat = N := ⟨_, rfl⟩
  have hNl : N.length = Z.length := by rw [← hN]; simp
  have HN : Hid (∀ k (h : k < Z.length) (h2 : k < N.length), max Z[k] 0 = ((N[k] : Nat) : Int) ∧ N[k] < 2 ^ 63) := by
    refine Lib.hid fun k h h2 => ?_
    subst hN
    rw [List.getElem_map]
    exact max_nat _ (hwf _ (List.getElem_mem h))
  have HN2 : Hid (∀ n ∈ N, n < 2 ^ 63) := by
    refine Lib.hid fun n hn => ?_
    subst hN
    obtain ⟨z, hz, rfl⟩ := List.mem_map.1 hn
    exact (max_nat z (hwf z hz)).2
  clear hN hwf
  have HL2 := Lib.hid hL2
  have HLR := Lib.hid (fun r => Code.list_list 20 200 L r (by omega) (by omega) (fun t ht => ⟨by have := hL2 t ht; omega, by have := hL2 t ht; omega⟩))
  have HF := Lib.hid hfew
  clear hfew hL2
  have HU := Lib.hid hu
  have HV := Lib.hid hv
  obtain ⟨A, cap, rfl, hcu⟩ := hu
  obtain ⟨A2, cap2, rfl, hcv⟩ := hv
  have HCU := Lib.hid hcu
  have HCV := Lib.hid hcv
  clear hcu hcv
  go_enter Try.func4, Try.ntmps4
  go_wp2_with fail
  refine (works_any w).mono ?_
  rintro e w1 ⟨rfl, hb1⟩
  go_wp2_with fail
  refine (few_any L _ 20 200 w1 (HV.out.below hb1) hL).mono ?_
  rintro e w2 ⟨rfl, rfl⟩
  rw [HF.out]
  go_wp2
  go_loopw [7, 31] (fun s i wr => ∃ k : Nat, k ≤ Z.length ∧ i = .int .i64 k ∧ s = .string ⟨(Code.numsL (N.take k)).toArray⟩ ∧ Below w.heap.size w wr) (fun _ i _ => Z.length - (intOf i).toNat)
  case atStart => exact ⟨0, Nat.zero_le _, rfl, by simp [Code.numsL], hb1⟩
  case round =>
    obtain ⟨k, hk, rfl, rfl, hb⟩ := hrel
    clear hb1
    by_cases hlt : k < Z.length
    · have h1 : (k : Int) < (Z.length : Int) := by omega
      obtain ⟨a, rfl, hcell⟩ := HCU.out k hlt
      have hcell1 := (hb.cell (World.block_lt_of_cell? _ _ hcell)).trans hcell
      obtain ⟨hmax, hn63⟩ := HN.out k hlt (by omega)
      have hsn := Code.nums_snoc N k (by omega)
      have hxl := Code.nums_take N k HN2.out
      have hnl := Code.numL_length (N[k]'(by omega))
      have hn8 := Code.sz_le8 (N[k]'(by omega)) (by omega)
      clear hcell
      generalize Z[k] = z at hcell1 hmax
      generalize N[k]'(by omega) = n at hmax hn63 hsn hnl hn8
      have hcm := cat_mk (Code.numsL (N.take k)) (Code.numL n)
      rw [hsn] at hcm
      have HM := Lib.hid hcm
      clear hsn hcm
      generalize Code.numsL (N.take k) = xs at HM hxl ⊢
      generalize hys : Code.numsL (N.take (k + 1)) = ys at HM
      have HY := Lib.hid hys
      clear hys
      have hnl9 : (Code.numL n).length ≤ 9 := by omega
      clear hnl hn8
      go_wp2_with fail
      refine (num_any n hn63 wr).mono ?_
      rintro e w2 ⟨rfl, hb2⟩
      have hb3 := bchain hb hb2
      have hcm := HM.out
      generalize Code.numL n = y at hcm hnl9 ⊢
      clear hcell1 hmax hb hb2 hn63
      go_wp2
      go_roundw
      case rel => exact ⟨k + 1, by omega, by go_num, by rw [HY.out], hb3⟩
      case measure => simp [intOf]; omega
    · rw [List.take_of_length_le (by omega)]
      have hxl := Code.nums_bound N HN2.out
      go_wp2_with fail
      refine (list_any L _ _ (HV.out.below hb) (by omega) (by omega)).mono ?_
      rintro e w3 ⟨rfl, hb3⟩
      have hb4 := bchain hb hb3
      clear hb hb3
      go_wp2_with fail
      refine (flag_any b _).mono ?_
      rintro e w4 ⟨rfl, rfl⟩
      have HFL := Lib.hid (Code.flag_flag b)
      generalize (if b = true then (1 : UInt8) else 0) = f at HFL ⊢
      have hcm1 := cat_mk (Code.listL L) [f]
      have hcm2 := cat_mk (Code.numsL N) (Code.listL L ++ [f])
      have hl1 : (Code.listL L ++ [f]).length ≤ 5000 := by rw [List.length_append, List.length_singleton]; omega
      have hl2 : (Code.numsL N ++ (Code.listL L ++ [f])).length ≤ 6000 := by rw [List.length_append]; omega
      obtain ⟨R, hR⟩ : ∃ R, Code.listL L ++ ([f] ++ Code.textsL L) = R := ⟨_, rfl⟩
      have hS : Code.numsL N ++ (Code.listL L ++ [f]) ++ Code.textsL L = Code.numsL (N.drop 0) ++ R := by rw [← hR]; simp
      have HS := Lib.hid hS
      have HR := Lib.hid hR
      clear hS hR
      generalize hm2 : Code.numsL N ++ (Code.listL L ++ [f]) = m2 at hcm2 hl2 HS
      generalize Code.listL L ++ [f] = m1 at hcm1 hcm2 hl1 hm2
      generalize hx : Code.numsL N = x at hcm2 hxl ⊢
      clear hm2 hx
      have HLL := Lib.hid hll
      generalize hlst : Code.listL L = lst at hcm1 hll ⊢
      clear hlst
      go_wp2
      clear hcm1 hcm2 hl1 hxl hll
      go_loopw [7, 56] (fun s i wr => ∃ k : Nat, k ≤ L.length ∧ i = .int .i64 k ∧ s = .string ⟨(m2 ++ Code.textsL (L.take k)).toArray⟩ ∧ Below w.heap.size w wr) (fun _ i _ => L.length - (intOf i).toNat)
      case atStart => exact ⟨0, Nat.zero_le _, rfl, by simp [Code.textsL], hb4⟩
      case round =>
        obtain ⟨k2, hk2, rfl, rfl, hb⟩ := hrel
        clear hb4
        by_cases hlt2 : k2 < L.length
        · have h1 : (k2 : Int) < (L.length : Int) := by omega
          obtain ⟨a, rfl, hcell⟩ := HCV.out k2 hlt2
          have hcell1 := (hb.cell (World.block_lt_of_cell? _ _ hcell)).trans hcell
          have ht200 := HL2.out _ (List.getElem_mem hlt2)
          have hsn := Code.texts_snoc L k2 hlt2
          have hxl2 := Code.texts_take_le L k2
          clear hcell
          generalize L[k2] = q at hcell1 ht200 hsn
          have hcm := cat_mk (m2 ++ Code.textsL (L.take k2)) (Code.textL q)
          rw [List.append_assoc, hsn] at hcm
          have HM := Lib.hid hcm
          have hxl : (m2 ++ Code.textsL (L.take k2)).length ≤ 20000 := by rw [List.length_append]; omega
          have hql : (Code.textL q).length ≤ 300 := by
            have := Code.textL_length q
            have := Code.sz_le8 q.length (by omega)
            omega
          clear hsn hcm hxl2
          generalize m2 ++ Code.textsL (L.take k2) = xs at HM hxl ⊢
          generalize hys : m2 ++ Code.textsL (L.take (k2 + 1)) = ys at HM
          have HY := Lib.hid hys
          clear hys
          go_wp2_with fail
          refine (text_any q wr (by omega)).mono ?_
          rintro e w5 ⟨rfl, hb2⟩
          have hb3 := bchain hb hb2
          have hcm := HM.out
          generalize Code.textL q = y at hcm hql ⊢
          clear hcell1 hb hb2 ht200
          go_wp2
          go_roundw
          case rel => exact ⟨k2 + 1, by omega, by go_num, by rw [HY.out], hb3⟩
          case measure => simp [intOf]; omega
        · rw [List.take_of_length_le (by omega), HS.out]
          have hSl : (Code.numsL (N.drop 0) ++ R).length ≤ 20000 := by rw [← HS.out, List.length_append]; omega
          go_wp2_with fail
          refine (read_any _ wr).mono ?_
          rintro e w6 ⟨rfl, hr6, hb6⟩
          have hb7 := bchain hb hb6
          have hgs := hb.size
          generalize wr.heap.size = g at hr6 hgs ⊢
          clear hb hb6
          go_wp2
          go_loopw [69] (fun i wr => ∃ k : Nat, k ≤ Z.length ∧ i = .int .i64 k ∧ Rd wr g (Code.numsL (N.drop k) ++ R) 0 ∧ (Code.numsL (N.drop k) ++ R).length ≤ 20000 ∧ Below w.heap.size w wr) (fun i _ => Z.length - (intOf i).toNat)
          case atStart => exact ⟨0, Nat.zero_le _, rfl, hr6, hSl, hb7⟩
          case round =>
            obtain ⟨k3, hk3, rfl, hr, hrl, hb⟩ := hrel
            clear hr6 hSl hb7
            by_cases hlt3 : k3 < Z.length
            · have h1 : (k3 : Int) < (Z.length : Int) := by omega
              obtain ⟨a, rfl, hcell⟩ := HCU.out k3 hlt3
              have hcell1 := (hb.cell (World.block_lt_of_cell? _ _ hcell)).trans hcell
              obtain ⟨hmax, hn63⟩ := HN.out k3 hlt3 (by omega)
              have hdr := Code.nums_drop N k3 (by omega)
              clear hcell
              generalize Z[k3] = z at hcell1 hmax
              generalize N[k3]'(by omega) = n at hmax hn63 hdr
              rw [hdr, List.append_assoc] at hr hrl
              have hct := Lib.hid (Code.count_num 9223372036854775807 n (Code.numsL (N.drop (k3 + 1)) ++ R) hn63 (by omega))
              clear hdr
              have hrl2 : (Code.numsL (N.drop (k3 + 1)) ++ R).length ≤ 20000 := by rw [List.length_append] at hrl; omega
              go_wp2_with fail
              refine (rnum_any _ g wr hr (by omega)).mono ?_
              rintro e w7 ⟨rfl, hr7, ho7⟩
              rw [hct.out] at hr7 ⊢
              simp only at hr7 ⊢
              have hb8 := hb.trans (ho7.below hgs hb.size)
              clear hr ho7 hb hn63 hrl hcell1
              go_wp2
              go_roundw
              case rel => exact ⟨k3 + 1, by omega, by go_num, hr7, hrl2, hb8⟩
              case measure => simp [intOf]; omega
            · rw [List.drop_of_length_le (show N.length ≤ k3 by omega)] at hr hrl
              have e0 : Code.numsL [] ++ R = R := rfl
              rw [e0, ← HR.out] at hr hrl
              go_wp2_with fail
              refine (rlist_any 20 200 _ g wr hr (by omega)).mono ?_
              rintro e w7 ⟨l, rfl, hown, hr7, ho7⟩
              rw [HLR.out] at hown hr7
              simp only at hown hr7
              have hl7 := strs_of_own hown
              have hb8 := hb.trans (ho7.below hgs hb.size)
              clear hb ho7 hr hown
              go_wp2_with fail
              refine (same_any L L l _ w7 hl7 (HV.out.below hb8) (by omega) hL).mono ?_
              rintro e w8 ⟨rfl, hb9⟩
              have hr8 := hr7.below hb9
              have hb10 := bchain hb8 hb9
              clear hb8 hb9 hr7 hl7
              rw [decide_eq_true rfl]
              have hfl : ([f] ++ Code.textsL L).length ≤ 20000 := by rw [List.length_append] at hrl; omega
              go_wp2_with fail
              refine (rflag_any _ g w8 hr8 (by omega)).mono ?_
              rintro e w9 ⟨rfl, hr9, ho9⟩
              rw [HFL.out] at hr9 ⊢
              simp only at hr9 ⊢
              have hb11 := hb10.trans (ho9.below hgs hb10.size)
              clear hb10 ho9 hr8
              go_wp2
              go_loopw [92] (fun i wr => ∃ k : Nat, k ≤ L.length ∧ i = .int .i64 k ∧ Rd wr g (Code.textsL (L.drop k)) 0 ∧ (Code.textsL (L.drop k)).length ≤ 20000 ∧ Below w.heap.size w wr) (fun i _ => L.length - (intOf i).toNat)
              case atStart => exact ⟨0, Nat.zero_le _, rfl, hr9, by rw [List.drop_zero]; omega, hb11⟩
              case round =>
                obtain ⟨k4, hk4, rfl, hr, hrl4, hb⟩ := hrel
                clear hr9 hb11
                by_cases hlt4 : k4 < L.length
                · have h1 : (k4 : Int) < (L.length : Int) := by omega
                  obtain ⟨a, rfl, hcell⟩ := HCV.out k4 hlt4
                  have hcell1 := (hb.cell (World.block_lt_of_cell? _ _ hcell)).trans hcell
                  have ht200 := HL2.out _ (List.getElem_mem hlt4)
                  have hdr := Code.texts_drop L k4 hlt4
                  clear hcell
                  generalize L[k4] = q at hcell1 ht200 hdr
                  rw [hdr] at hr hrl4
                  have htr := Lib.hid (Code.text_text (q.length : Int) q (Code.textsL (L.drop (k4 + 1))) (by omega) (by omega))
                  have hrl5 : (Code.textsL (L.drop (k4 + 1))).length ≤ 20000 := by rw [List.length_append] at hrl4; omega
                  clear hdr
                  go_wp2_with fail
                  refine (rtext_any _ _ g wr hr (by omega)).mono ?_
                  rintro e w10 ⟨rfl, hr10, ho10⟩
                  rw [htr.out] at hr10 ⊢
                  simp only at hr10 ⊢
                  have hb12 := hb.trans (ho10.below hgs hb.size)
                  clear hr ho10 hb hrl4 hcell1
                  go_wp2
                  go_roundw
                  case rel => exact ⟨k4 + 1, by omega, by go_num, hr10, hrl5, hb12⟩
                  case measure => simp [intOf]; omega
                · rw [List.drop_of_length_le (by omega)] at hr
                  have hr0 : Rd wr g [] 0 := hr
                  go_wp2_with fail
                  refine (left_any _ _ _ _ hr0).mono ?_
                  rintro e w11 ⟨rfl, rfl⟩
                  go_wp2_with fail
                  refine (end_any _ _ hr0).mono ?_
                  rintro e w12 ⟨rfl, rfl⟩
                  go_wp2
                  go_ret
                  exact ⟨rfl, hb⟩

theorem back_walk (u : Value) (Z : List Int) (v : Value) (L : List (List UInt8)) (b : Bool) (w : World) (hu : Ints w u Z) (hZ : Z.length ≤ maxLen) (hwf : ∀ z ∈ Z, (Lit.int .i64 z).wf = true) (hv : Strs w v L) (hL : L.length ≤ maxLen) (_ : ∀ s ∈ L, s.length ≤ maxLen) :
    Calls Try.prog 4 #[u, v, .bool b] w fun e w' => e = .returned (.bool true) ∧ Below w.heap.size w w' := by
  by_cases h : Z.length > 30
  · exact back_skip u v Z L b w hu hv hZ hL (.inl h)
  · rcases hf : Code.few L 20 200 with _ | _
    · exact back_skip u v Z L b w hu hv hZ hL (.inr hf)
    · exact back_main u v Z L b w hu hv hL hwf (by omega) hf

end Go.Proofs.Ytdnceliakppcpaa
