/- The walk of the law CodeOne: it answers true, whatever it is given. -/
import Derived.Test.YtdnceliakppcpaaCodeWorks
namespace Go.Proofs.Ytdnceliakppcpaa
open Go.RowKit

theorem Code.num_prefix (a b : Nat) (ha : a < 2 ^ 63) (hb : b < 2 ^ 63) (h : (Code.numL b).take (Code.numL a).length = Code.numL a) : a = b := by
  have e : Code.numL b = Code.numL a ++ (Code.numL b).drop (Code.numL a).length := by
    conv => lhs; rw [← List.take_append_drop (Code.numL a).length (Code.numL b), h]
  have h1 := Code.lead_num b hb []
  have h2 := Code.lead_num a ha ((Code.numL b).drop (Code.numL a).length)
  rw [← e] at h2
  rw [List.append_nil] at h1
  rw [h1] at h2
  simp at h2
  exact h2.1.symm

theorem bound_i64 {n : Int} (h : (Lit.int .i64 n).wf = true) : -9223372036854775808 ≤ n ∧ n ≤ 9223372036854775807 := by
  simpa [Lit.wf, IntKind.min, IntKind.max, IntKind.signed, IntKind.bits] using h
theorem Code.count_ok (s : List UInt8) : (Code.countL 9223372036854775807 s).2.2 = 0 → (Code.countL 9223372036854775807 s).1 < 2 ^ 63 ∧ ∃ k, k + (Code.countL 9223372036854775807 s).2.1.length = s.length ∧ (⟨s.toArray⟩ : ByteArray).extract 0 k = ⟨(Code.numL (Code.countL 9223372036854775807 s).1).toArray⟩ := by
  unfold Code.countL
  split
  · rename_i h; intro h2; exact absurd h2 h
  · rename_i h
    have h := Code.lead_ok s (by omega)
    split
    · intro h2; simp at h2
    · intro _
      refine ⟨h.1, (Code.leadL s).2.1, by rw [List.length_drop]; omega, ?_⟩
      rw [Lib.extract_eq]
      simp only [List.drop_zero, Nat.sub_zero]
      rw [h.2.2]

set_option maxHeartbeats 1000000 in
theorem one_walk (a0 : ByteArray) (z1 z2 : Int) (w0 : a0.size ≤ maxLen) (h1 : (Lit.int .i64 z1).wf = true) (h2 : (Lit.int .i64 z2).wf = true) (w : World) :
    Calls Try.prog 5 #[.string a0, .int .i64 z1, .int .i64 z2] w fun e w' => e = .returned (.bool true) ∧ Below w.heap.size w w' := by
  obtain ⟨s, rfl⟩ := bytes_list a0
  rw [size_of_list] at w0
  unfold maxLen at w0
  have h1 := bound_i64 h1
  have h2 := bound_i64 h2
  obtain ⟨A, hA⟩ : ∃ A : Nat, max z1 0 = (A : Int) := ⟨(max z1 0).toNat, by omega⟩
  obtain ⟨B, hB⟩ : ∃ B : Nat, max z2 0 = (B : Int) := ⟨(max z2 0).toNat, by omega⟩
  have hA63 : A < 2 ^ 63 := by omega
  have hB63 : B < 2 ^ 63 := by omega
  clear h1 h2
  by_cases hbig : s.length > 2000
  · go_enter Try.func5, Try.ntmps5
    go_wp2_with fail
    refine (works_any w).mono ?_
    rintro e w1 ⟨rfl, hb1⟩
    go_wp2
    go_ret
    exact ⟨rfl, hb1⟩
  · have hl : s.length ≤ 2000 := by omega
    clear hbig
    go_enter Try.func5, Try.ntmps5
    go_wp2_with fail
    refine (works_any w).mono ?_
    rintro e w1 ⟨rfl, hb1⟩
    go_wp2_with fail
    refine (read_any s w1).mono ?_
    rintro e w2 ⟨rfl, hr2, hb2⟩
    go_wp2_with fail
    refine (rnum_any s _ w2 hr2 (by omega)).mono ?_
    rintro e w3 ⟨rfl, hr3, ho3⟩
    have hb3 := bchain hb1 (hb2.trans (ho3.below (Nat.le_refl _) hb2.size))
    clear hb1 hb2 ho3 hr2
    go_wp2_with fail
    refine (code_any _ _ _ w3 hr3).mono ?_
    rintro e w4 ⟨rfl, rfl⟩
    have hcok := Code.count_ok s
    generalize Code.countL 9223372036854775807 s = p at hr3 hcok ⊢
    obtain ⟨n, rest, c⟩ := p
    simp only at hr3 hcok ⊢
    by_cases hc : c = 0
    · obtain ⟨hn, k, hk, hex⟩ := hcok hc
      subst hc
      have hki : (s.length : Int) - (rest.length : Int) = (k : Int) := by omega
      clear hcok
      go_wp2_with fail
      refine (num_any n hn _).mono ?_
      rintro e w5 ⟨rfl, hb5⟩
      have hr5 := hr3.below hb5
      have hb5' := bchain hb3 hb5
      clear hb3 hb5 hr3
      go_wp2_with fail
      refine (left_any _ _ _ _ hr5).mono ?_
      rintro e w6 ⟨rfl, rfl⟩
      generalize Code.numL n = t at hex ⊢
      go_wp2_with fail
      refine (num_any A hA63 _).mono ?_
      rintro e w5 ⟨rfl, hb5⟩
      go_wp2_with fail
      refine (num_any B hB63 _).mono ?_
      rintro e w6 ⟨rfl, hb6⟩
      have hb7 := bchain hb5' (bchain hb5 hb6)
      clear hb5 hb6
      have hp := Code.num_prefix A B hA63 hB63
      have hxl := Code.numL_length A
      have hx8 := Code.sz_le8 A (by omega)
      have hx1 : 1 ≤ (Code.numL A).length := by omega
      have hx9 : (Code.numL A).length ≤ 9 := by omega
      clear hxl hx8
      have hle : (Code.numL A).length ≤ 100 := by omega
      have hyle : (Code.numL B).length ≤ 100 := by
        have := Code.numL_length B
        have := Code.sz_le8 B (by omega)
        omega
      by_cases hAB : A = B
      · subst hAB
        generalize Code.numL A = x at hp hx1 hx9 hle hyle ⊢
        have hsub : (((⟨x.toArray⟩ : ByteArray).extract 0 x.length).toList == x) = true := by rw [Lib.extract_eq]; simp
        clear hp
        go_wp2
        go_ret
        exact ⟨by show Ending.returned (.bool (decide ((x.length : Int) ≤ 9))) = _; rw [decide_eq_true (by omega)], hb7⟩
      · have hab : ((A : Int) == (B : Int)) = false := by rw [beq_eq_false_iff_ne]; omega
        have hne : ¬ ((Code.numL B).take (Code.numL A).length = Code.numL A) := fun h => hAB (hp h)
        clear hp
        generalize Code.numL A = x at hne hx1 hx9 hle ⊢
        generalize Code.numL B = y at hne hyle ⊢
        have hsub : (((⟨y.toArray⟩ : ByteArray).extract 0 x.length).toList == x) = false := by rw [Lib.extract_eq, beq_eq_false_iff_ne]; simpa using hne
        clear hne
        by_cases hxy : x.length ≤ y.length
        · go_wp2
          go_ret
          exact ⟨by show Ending.returned (.bool (decide ((x.length : Int) ≤ 9))) = _; rw [decide_eq_true (by omega)], hb7⟩
        · go_wp2
          go_ret
          exact ⟨by show Ending.returned (.bool (decide ((x.length : Int) ≤ 9))) = _; rw [decide_eq_true (by omega)], hb7⟩
    · clear hcok
      go_wp2_with fail
      refine (num_any A hA63 _).mono ?_
      rintro e w5 ⟨rfl, hb5⟩
      go_wp2_with fail
      refine (num_any B hB63 _).mono ?_
      rintro e w6 ⟨rfl, hb6⟩
      have hb7 := bchain hb3 (bchain hb5 hb6)
      clear hb5 hb6
      have hp := Code.num_prefix A B hA63 hB63
      have hxl := Code.numL_length A
      have hx8 := Code.sz_le8 A (by omega)
      have hx1 : 1 ≤ (Code.numL A).length := by omega
      have hx9 : (Code.numL A).length ≤ 9 := by omega
      clear hxl hx8
      have hle : (Code.numL A).length ≤ 100 := by omega
      have hyle : (Code.numL B).length ≤ 100 := by
        have := Code.numL_length B
        have := Code.sz_le8 B (by omega)
        omega
      by_cases hAB : A = B
      · subst hAB
        generalize Code.numL A = x at hp hx1 hx9 hle hyle ⊢
        have hsub : (((⟨x.toArray⟩ : ByteArray).extract 0 x.length).toList == x) = true := by rw [Lib.extract_eq]; simp
        clear hp
        go_wp2
        go_ret
        exact ⟨by show Ending.returned (.bool (decide ((x.length : Int) ≤ 9))) = _; rw [decide_eq_true (by omega)], hb7⟩
      · have hab : ((A : Int) == (B : Int)) = false := by rw [beq_eq_false_iff_ne]; omega
        have hne : ¬ ((Code.numL B).take (Code.numL A).length = Code.numL A) := fun h => hAB (hp h)
        clear hp
        generalize Code.numL A = x at hne hx1 hx9 hle ⊢
        generalize Code.numL B = y at hne hyle ⊢
        have hsub : (((⟨y.toArray⟩ : ByteArray).extract 0 x.length).toList == x) = false := by rw [Lib.extract_eq, beq_eq_false_iff_ne]; simpa using hne
        clear hne
        by_cases hxy : x.length ≤ y.length
        · go_wp2
          go_ret
          exact ⟨by show Ending.returned (.bool (decide ((x.length : Int) ≤ 9))) = _; rw [decide_eq_true (by omega)], hb7⟩
        · go_wp2
          go_ret
          exact ⟨by show Ending.returned (.bool (decide ((x.length : Int) ≤ 9))) = _; rw [decide_eq_true (by omega)], hb7⟩

end Go.Proofs.Ytdnceliakppcpaa
