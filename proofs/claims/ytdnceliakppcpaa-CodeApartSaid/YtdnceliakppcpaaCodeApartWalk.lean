/- The walk of the law CodeApart: it answers true, whatever it is given. -/
import Derived.Test.YtdnceliakppcpaaCodeWorks
import Derived.Test.YtdnceliakppcpaaCodeFew
import Derived.Test.YtdnceliakppcpaaCodeThere
namespace Go.Proofs.Ytdnceliakppcpaa
open Go.RowKit

set_option maxHeartbeats 1000000 in
theorem apart_skip (u v : Value) (A B : List (List UInt8)) (m : List UInt8) (w : World) (hu : Strs w u A) (hv : Strs w v B) (hA : A.length ≤ maxLen) (hB : B.length ≤ maxLen)
    (hno : Code.few A 20 200 = false ∨ Code.few B 20 200 = false ∨ m.length > 200) :
    Calls Try.prog 6 #[u, v, .string ⟨m.toArray⟩] w fun e w' => e = .returned (.bool true) ∧ Below w.heap.size w w' := by
  go_enter Try.func6, Try.ntmps6
  go_wp2_with fail
  refine (works_any w).mono ?_
  rintro e w1 ⟨rfl, hb1⟩
  have hu1 := hu.below hb1
  have hv1 := hv.below hb1
  clear hu hv
  go_wp2_with fail
  refine (few_any A u 20 200 w1 hu1 hA).mono ?_
  rintro e w2 ⟨rfl, rfl⟩
  rcases hfa : Code.few A 20 200 with _ | _
  · clear hno hfa
    go_wp2
    go_ret
    exact ⟨rfl, hb1⟩
  · rw [hfa] at hno
    simp only [Bool.true_eq_false, false_or] at hno
    clear hfa
    go_wp2_with fail
    refine (few_any B v 20 200 _ hv1 hB).mono ?_
    rintro e w3 ⟨rfl, rfl⟩
    rcases hfb : Code.few B 20 200 with _ | _
    · clear hno hfb
      go_wp2
      go_ret
      exact ⟨rfl, hb1⟩
    · rw [hfb] at hno
      simp only [Bool.true_eq_false, false_or] at hno
      clear hfb
      have hm : (m.length : Int) > 200 := by omega
      go_wp2
      go_ret
      exact ⟨rfl, hb1⟩

set_option maxHeartbeats 2000000 in
theorem apart_main (u v : Value) (A B : List (List UInt8)) (m : List UInt8) (w : World) (hu : Strs w u A) (hv : Strs w v B) (hA : A.length ≤ maxLen) (hB : B.length ≤ maxLen)
    (hfa : Code.few A 20 200 = true) (hfb : Code.few B 20 200 = true) (hm : m.length ≤ 200) :
    Calls Try.prog 6 #[u, v, .string ⟨m.toArray⟩] w fun e w' => e = .returned (.bool true) ∧ Below w.heap.size w w' := by
  obtain ⟨hA1, hA2⟩ := (Code.few_iff A 20 200).1 hfa
  obtain ⟨hB1, hB2⟩ := (Code.few_iff B 20 200).1 hfb
  have hlA := Code.list_bound A 20 200 hA1 (by decide) hA2 (by decide)
  have htA : (Code.textsL A).length ≤ 90000000 := by
    have := congrArg List.length (show Code.listL A = Code.numL A.length ++ Code.textsL A from rfl)
    rw [List.length_append] at this
    omega
  have htB : (Code.textsL B).length ≤ 90000000 := by
    have h := Code.list_bound B 20 200 hB1 (by decide) hB2 (by decide)
    have := congrArg List.length (show Code.listL B = Code.numL B.length ++ Code.textsL B from rfl)
    rw [List.length_append] at this
    omega
  have HR := Lib.hid (Code.list_list 20 200 A m (by omega) (by omega) (fun t ht => ⟨by have := hA2 t ht; omega, by have := hA2 t ht; omega⟩))
  have HI := Lib.hid (Code.list_inj 20 200 A B (by omega) (by omega) (by omega) (by omega) (fun t ht => ⟨by have := hA2 t ht; omega, by have := hA2 t ht; omega⟩) (fun t ht => ⟨by have := hB2 t ht; omega, by have := hB2 t ht; omega⟩))
  have HFA := Lib.hid hfa
  have HFB := Lib.hid hfb
  clear hfa hfb hA2 hB2
  go_enter Try.func6, Try.ntmps6
  go_wp2_with fail
  refine (works_any w).mono ?_
  rintro e w1 ⟨rfl, hb1⟩
  have hu1 := hu.below hb1
  have hv1 := hv.below hb1
  go_wp2_with fail
  refine (few_any A u 20 200 w1 hu1 hA).mono ?_
  rintro e w2 ⟨rfl, rfl⟩
  rw [HFA.out]
  go_wp2_with fail
  refine (few_any B v 20 200 _ hv1 hB).mono ?_
  rintro e w3 ⟨rfl, rfl⟩
  rw [HFB.out]
  go_wp2_with fail
  refine (list_any A u _ hu1 (by omega) htA).mono ?_
  rintro e w4 ⟨rfl, hb4⟩
  have hv4 := hv1.below hb4
  have hb5 := bchain hb1 hb4
  clear hu1 hv1 hb1 hb4
  go_wp2_with fail
  refine (list_any B v _ hv4 (by omega) htB).mono ?_
  rintro e w5 ⟨rfl, hb6⟩
  have hb7 := bchain hb5 hb6
  clear hb5 hb6 hv4
  have hcm := cat_mk (Code.listL A) m
  obtain ⟨s, hs⟩ : ∃ s, Code.listL A ++ m = s := ⟨_, rfl⟩
  have hsl : s.length ≤ 100000000 := by rw [← hs, List.length_append]; omega
  rw [hs] at hcm HR
  clear hs
  obtain ⟨x, hx⟩ : ∃ x, Code.listL A = x := ⟨_, rfl⟩
  obtain ⟨y, hy⟩ : ∃ y, Code.listL B = y := ⟨_, rfl⟩
  rw [hx] at hcm HI hlA ⊢
  rw [hy] at HI ⊢
  clear hx hy
  have hxm : x.length ≤ 10000 := by omega
  go_wp2_with fail
  refine (read_any s _).mono ?_
  rintro e w6 ⟨rfl, hr6, hb8⟩
  clear hcm
  go_wp2_with fail
  refine (rlist_any 20 200 s _ w6 hr6 hsl).mono ?_
  rintro e w8 ⟨l, rfl, hown, hr8, ho8⟩
  rw [HR.out] at hown hr8
  simp only at hown hr8
  have hl8 := strs_of_own hown
  have hb9 := bchain hb7 (hb8.trans (ho8.below (Nat.le_refl _) hb8.size))
  have hu9 := hu.below hb9
  have hv9 := hv.below hb9
  clear hb7 hb8 ho8 hown hr6
  go_wp2_with fail
  refine (same_any A B u v w8 hu9 hv9 (by omega) hB).mono ?_
  rintro e w9 ⟨rfl, hb10⟩
  have hr9 := hr8.below hb10
  have hl9 := hl8.below hb10
  have hu10 := hu9.below hb10
  have hb11 := bchain hb9 hb10
  clear hr8 hl8 hu9 hv9 hb9 hb10
  have hxy : (x == y) = decide (A = B) := by
    by_cases h : A = B
    · rw [decide_eq_true h, beq_iff_eq]; exact HI.out.2 h
    · rw [decide_eq_false h, beq_eq_false_iff_ne]; exact fun h2 => h (HI.out.1 h2)
  go_wp2_with fail
  refine (same_any A A l u w9 hl9 hu10 (by omega) hA).mono ?_
  rintro e w10 ⟨rfl, hb12⟩
  have hr10 := hr9.below hb12
  have hb13 := bchain hb11 hb12
  clear hr9 hl9 hu10 hb11 hb12 hxy
  have haa : decide (A = A) = true := decide_eq_true rfl
  rw [haa]
  go_wp2_with fail
  refine (left_any _ _ _ _ hr10).mono ?_
  rintro e w11 ⟨rfl, rfl⟩
  go_wp2_with fail
  refine (code_any _ _ _ _ hr10).mono ?_
  rintro e w12 ⟨rfl, rfl⟩
  go_wp2
  go_ret
  exact ⟨rfl, hb13⟩

theorem apart_walk (u : Value) (A : List (List UInt8)) (v : Value) (B : List (List UInt8)) (a2 : ByteArray) (w : World) (hu : Strs w u A) (hA : A.length ≤ maxLen) (_ : ∀ s ∈ A, s.length ≤ maxLen) (hv : Strs w v B) (hB : B.length ≤ maxLen) (_ : ∀ s ∈ B, s.length ≤ maxLen) (_ : a2.size ≤ maxLen) :
    Calls Try.prog 6 #[u, v, .string a2] w fun e w' => e = .returned (.bool true) ∧ Below w.heap.size w w' := by
  obtain ⟨m, rfl⟩ := bytes_list a2
  rcases hfa : Code.few A 20 200 with _ | _
  · exact apart_skip u v A B m w hu hv hA hB (.inl hfa)
  · rcases hfb : Code.few B 20 200 with _ | _
    · exact apart_skip u v A B m w hu hv hA hB (.inr (.inl hfb))
    · by_cases hm : m.length > 200
      · exact apart_skip u v A B m w hu hv hA hB (.inr (.inr hm))
      · exact apart_main u v A B m w hu hv hA hB hfa hfb (by omega)

end Go.Proofs.Ytdnceliakppcpaa
