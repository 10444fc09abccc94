/- The walks of lead (as a whole), count, Num. -/
import Derived.Test.YtdnceliakppcpaaCodeLead
namespace Go.Proofs.Ytdnceliakppcpaa
open Go.RowKit

theorem lead_any (s : List UInt8) (w : World) (hl : s.length ≤ 100000000) :
    Calls Try.prog 32 #[.string ⟨s.toArray⟩] w fun e w' => e = .returned (.tuple #[.int .i64 ((Code.leadL s).1 : Nat), .int .i64 ((Code.leadL s).2.1 : Nat), .int .i64 (Code.leadL s).2.2]) ∧ w' = w := by
  match s, hl with
  | [], _ => exact lead_nil w
  | c :: r, hl =>
    simp only [List.length_cons] at hl
    by_cases h1 : c.toNat > 8
    · rw [Code.leadL, if_pos h1]
      exact lead_big c r w h1
    · by_cases h2 : r.length < c.toNat
      · rw [Code.leadL, if_neg h1, if_pos h2]
        exact lead_short c r w (by omega) h2 (by omega)
      · have hr : r = r.take c.toNat ++ r.drop c.toNat := (List.take_append_drop _ _).symm
        have hdl : (r.take c.toNat).length = c.toNat := by rw [List.length_take]; omega
        have hd2 : (r.drop c.toNat).length ≤ 100000000 := by rw [List.length_drop]; omega
        rw [Code.leadL, if_neg h1, if_neg h2]
        by_cases h0 : c.toNat = 0
        · have hb : Code.bad c.toNat (r.take c.toNat) = false := by simp [Code.bad, h0]
          have hc0 : c = 0 := by
            have := UInt8.ofNat_toNat (x := c)
            rw [h0] at this
            exact this.symm
          subst hc0
          rw [hb]
          exact lead_zero r w (by omega)
        · match hd : r.take c.toNat with
          | [] => rw [hd] at hdl; simp at hdl; omega
          | x :: q =>
            rw [hd] at hr hdl
            rcases hb : Code.bad c.toNat (x :: q) with _ | _
            · simp only [Code.bad, List.headD_cons, Bool.or_eq_false_iff, Bool.and_eq_false_iff, decide_eq_false_iff_not, beq_eq_false_iff_ne] at hb
              have h := lead_good c x (x :: q) q (r.drop c.toNat) w rfl hdl.symm (by omega) hd2 (by rcases hb.1 with a | a; omega; exact a) (fun h8 => by rcases hb.2 with a | a; omega; exact Nat.not_le.1 (of_decide_eq_false a))
              rw [← hr, hdl] at h
              exact h
            · simp only [Code.bad, List.headD_cons, Bool.or_eq_true, Bool.and_eq_true, decide_eq_true_eq, beq_iff_eq] at hb
              have h := lead_bad c x (x :: q) q (r.drop c.toNat) w rfl hdl.symm (by omega) hd2 (by rcases hb with a | a; exact .inl a.2; exact .inr ⟨by omega, of_decide_eq_true a.2⟩)
              rw [← hr] at h
              exact h

def Code.countL (most : Int) (s : List UInt8) : Nat × List UInt8 × Int :=
  if (Code.leadL s).2.2 ≠ 0 then (0, s, (Code.leadL s).2.2) else if ((Code.leadL s).1 : Int) > most then (0, s, 2) else ((Code.leadL s).1, s.drop (Code.leadL s).2.1, 0)
theorem Code.lead_range (s : List UInt8) : (Code.leadL s).1 < 2 ^ 63 ∧ (Code.leadL s).2.1 ≤ s.length := by
  by_cases h : (Code.leadL s).2.2 = 0
  · have := Code.lead_ok s h
    exact ⟨this.1, this.2.1⟩
  · match s with
    | [] => simp [Code.leadL]
    | c :: r =>
      simp only [Code.leadL] at h ⊢
      split <;> (try (simp; done))
      split <;> (try (simp; done))
      split <;> (try (simp; done))
      simp_all
theorem ext_drop (s : List UInt8) (k : Nat) : (⟨s.toArray⟩ : ByteArray).extract k s.length = ⟨(s.drop k).toArray⟩ := by
  rw [Lib.extract_eq]
  simp only
  rw [List.take_of_length_le (by simp)]

set_option maxHeartbeats 400000 in
theorem count_stuck (most : Int) (s : List UInt8) (c : Int) (g : Nat) (w : World) (h : Rd w g s c) (hc : c ≠ 0) :
    Calls Try.prog 29 #[.pointer (some ⟨g, 0, none⟩), .int .i64 most] w fun e w' => e = .returned (.int .i64 0) ∧ w' = w := by
  have h1 := h.code
  go_enter Try.func29, Try.ntmps29
  go_wp2
  go_ret
  exact ⟨rfl, rfl⟩

set_option maxHeartbeats 400000 in
theorem count_any (most : Int) (s : List UInt8) (g : Nat) (w : World) (h : Rd w g s 0) (hl : s.length ≤ 100000000) :
    Calls Try.prog 29 #[.pointer (some ⟨g, 0, none⟩), .int .i64 most] w fun e w' => e = .returned (.int .i64 ((Code.countL most s).1 : Nat)) ∧ Rd w' g (Code.countL most s).2.1 (Code.countL most s).2.2 ∧ Only g w w' := by
  have h0 := h.left
  have h1 := h.code
  have hf0 := h.free0
  have hf1 := h.free1
  obtain ⟨hn, hk⟩ := Code.lead_range s
  have hlead := Lib.hid (lead_any s w hl)
  have he := ext_drop s (Code.leadL s).2.1
  unfold Code.countL
  generalize (Code.leadL s) = p at hn hk hlead he ⊢
  obtain ⟨n, k, e⟩ := p
  simp only at hn hk hlead he ⊢
  by_cases h2 : e = 0
  · subst h2
    rw [if_neg (by simp)]
    by_cases h3 : (n : Int) > most
    · rw [if_pos h3]
      go_enter Try.func29, Try.ntmps29
      go_wp2_with fail
      refine hlead.out.mono ?_
      rintro e w1 ⟨rfl, rfl⟩
      go_wp2
      go_ret
      exact ⟨rfl, h.setCode 2, (Only.refl g _).setCell rfl _⟩
    · rw [if_neg h3]
      go_enter Try.func29, Try.ntmps29
      go_wp2_with fail
      refine hlead.out.mono ?_
      rintro e w1 ⟨rfl, rfl⟩
      go_wp2
      go_ret
      exact ⟨rfl, h.setLeft _, (Only.refl g _).setCell rfl _⟩
  · rw [if_pos h2]
    go_enter Try.func29, Try.ntmps29
    go_wp2_with fail
    refine hlead.out.mono ?_
    rintro e w1 ⟨rfl, rfl⟩
    go_wp2
    go_ret
    exact ⟨rfl, h.setCode _, (Only.refl g _).setCell rfl _⟩

theorem rnum_any (s : List UInt8) (g : Nat) (w : World) (h : Rd w g s 0) (hl : s.length ≤ 100000000) :
    Calls Try.prog 18 #[.pointer (some ⟨g, 0, none⟩)] w fun e w' => e = .returned (.int .i64 ((Code.countL 9223372036854775807 s).1 : Nat)) ∧ Rd w' g (Code.countL 9223372036854775807 s).2.1 (Code.countL 9223372036854775807 s).2.2 ∧ Only g w w' := by
  go_enter Try.func18, Try.ntmps18
  go_wp2_with fail
  refine (count_any 9223372036854775807 s g w h hl).mono ?_
  rintro e w1 ⟨rfl, h1, h2⟩
  go_wp2
  go_ret
  exact ⟨rfl, h1, h2⟩

end Go.Proofs.Ytdnceliakppcpaa
