/- The walks of the reader's Bytes, Text, Flag. -/
import Derived.Test.YtdnceliakppcpaaCodeCount
import Derived.Test.YtdnceliakppcpaaCodeShelf
namespace Go.Proofs.Ytdnceliakppcpaa
open Go.RowKit

theorem clone_any (s : List UInt8) (w : World) (hl : s.length ≤ 100000000) :
    Calls Try.prog 33 #[.string ⟨s.toArray⟩] w fun e w' => e = .returned (.string ⟨s.toArray⟩) ∧ Below w.heap.size w w' := by
  go_enter Try.func33, Try.ntmps33
  go_wp2_with fail
  refine (shelf_clone ⟨s.toArray⟩ w (by rw [size_of_list]; omega)).mono ?_
  rintro e w1 ⟨rfl, hb⟩
  go_wp2
  go_ret
  exact ⟨rfl, hb⟩

def Code.bytesR (n : Int) (s : List UInt8) : List UInt8 × List UInt8 × Int :=
  if n < 0 then ([], s, 1) else if n.toNat > s.length then ([], s, 20) else (s.take n.toNat, s.drop n.toNat, 0)
def Code.textR (most : Int) (s : List UInt8) : List UInt8 × List UInt8 × Int :=
  if (Code.countL most s).2.2 ≠ 0 then ([], s, (Code.countL most s).2.2) else
  if (Code.countL most s).1 > (Code.countL most s).2.1.length then ([], s, 20) else
  ((Code.countL most s).2.1.take (Code.countL most s).1, (Code.countL most s).2.1.drop (Code.countL most s).1, 0)
theorem ext_take (s : List UInt8) (k : Nat) : (⟨s.toArray⟩ : ByteArray).extract 0 k = ⟨(s.take k).toArray⟩ := by
  rw [Lib.extract_eq]
  simp only [List.drop_zero, Nat.sub_zero]

set_option maxHeartbeats 400000 in
theorem bytes_stuck (n : Int) (s : List UInt8) (c : Int) (g : Nat) (w : World) (h : Rd w g s c) (hc : c ≠ 0) :
    Calls Try.prog 30 #[.pointer (some ⟨g, 0, none⟩), .int .i64 n] w fun e w' => e = .returned (.string ⟨#[]⟩) ∧ w' = w := by
  have h1 := h.code
  have hc1 : (c != 0) = true := by rw [bne_iff_ne]; exact hc
  clear hc
  go_enter Try.func30, Try.ntmps30
  go_wp2
  go_ret
  exact ⟨rfl, rfl⟩
set_option maxHeartbeats 400000 in
theorem bytes_any (n : Int) (s : List UInt8) (g : Nat) (w : World) (h : Rd w g s 0) (hl : s.length ≤ 100000000) :
    Calls Try.prog 30 #[.pointer (some ⟨g, 0, none⟩), .int .i64 n] w fun e w' => e = .returned (.string ⟨(Code.bytesR n s).1.toArray⟩) ∧ Rd w' g (Code.bytesR n s).2.1 (Code.bytesR n s).2.2 ∧ Only g w w' := by
  have h0 := h.left
  have h1 := h.code
  have hf1 := h.free1
  unfold Code.bytesR
  by_cases hn : n < 0
  · rw [if_pos hn]
    go_enter Try.func30, Try.ntmps30
    go_wp2
    go_ret
    exact ⟨rfl, h.setCode 1, (Only.refl g _).setCell rfl _⟩
  · rw [if_neg hn]
    obtain ⟨k, rfl⟩ := Int.eq_ofNat_of_zero_le (by omega : 0 ≤ n)
    simp only [Int.toNat_natCast]
    by_cases hk : k > s.length
    · rw [if_pos hk]
      have hk1 : (k : Int) > (s.length : Int) := by omega
      have hk0 : ((k : Int) < 0) = False := by simp
      go_enter Try.func30, Try.ntmps30
      go_wp2
      go_ret
      exact ⟨rfl, h.setCode 20, (Only.refl g _).setCell rfl _⟩
    · rw [if_neg hk]
      have hk1 : ¬ ((k : Int) > (s.length : Int)) := by omega
      have hk0 : ((k : Int) < 0) = False := by simp
      have he1 := ext_take s k
      have he2 := ext_drop s k
      go_enter Try.func30, Try.ntmps30
      go_wp2_with fail
      refine (clone_any (s.take k) w (by rw [List.length_take]; omega)).mono ?_
      rintro e w1 ⟨rfl, hb⟩
      have hr := h.below hb
      have g0 := hr.left
      have gf := hr.free0
      go_wp2
      go_ret
      exact ⟨rfl, hr.setLeft _, Only.setCell (g := g) (Only.of hb) rfl _⟩

theorem count_rest (most : Int) (s : List UInt8) : (Code.countL most s).2.1.length ≤ s.length := by
  unfold Code.countL
  split
  · exact Nat.le_refl _
  · split
    · exact Nat.le_refl _
    · simp only [List.length_drop]; omega

set_option maxHeartbeats 400000 in
theorem rtext_any (most : Int) (s : List UInt8) (g : Nat) (w : World) (h : Rd w g s 0) (hl : s.length ≤ 100000000) :
    Calls Try.prog 22 #[.pointer (some ⟨g, 0, none⟩), .int .i64 most] w fun e w' => e = .returned (.string ⟨(Code.textR most s).1.toArray⟩) ∧ Rd w' g (Code.textR most s).2.1 (Code.textR most s).2.2 ∧ Only g w w' := by
  have h0 := h.left
  have hcl := count_rest most s
  unfold Code.textR
  have hcount := Lib.hid (count_any most s g w h hl)
  generalize Code.countL most s = p at hcount hcl ⊢
  obtain ⟨n, r, e⟩ := p
  simp only at hcount hcl ⊢
  by_cases he : e = 0
  · subst he
    rw [if_neg (by simp)]
    go_enter Try.func22, Try.ntmps22
    go_wp2_with fail
    refine hcount.out.mono ?_
    rintro e w1 ⟨rfl, hr1, ho1⟩
    go_wp2_with fail
    refine (bytes_any n r g w1 hr1 (by omega)).mono ?_
    rintro e w2 ⟨rfl, hr2, ho2⟩
    have ho := ho1.trans ho2
    clear ho1 ho2 h0
    unfold Code.bytesR at hr2 ⊢
    have hn0 : ¬ ((n : Int) < 0) := by omega
    rw [if_neg hn0] at hr2 ⊢
    simp only [Int.toNat_natCast] at hr2 ⊢
    by_cases hk : n > r.length
    · rw [if_pos hk] at hr2 ⊢
      simp only at hr2 ⊢
      have h1 := hr2.code
      have h2 := hr2.left
      have hf := hr2.free0
      go_wp2
      go_ret
      exact ⟨rfl, hr2.setLeft s, ho.setCell rfl _⟩
    · rw [if_neg hk] at hr2 ⊢
      simp only at hr2 ⊢
      have h1 := hr2.code
      go_wp2
      go_ret
      exact ⟨rfl, hr2, ho⟩
  · rw [if_pos he]
    have he1 : (e != 0) = true := by rw [bne_iff_ne]; exact he
    go_enter Try.func22, Try.ntmps22
    go_wp2_with fail
    refine hcount.out.mono ?_
    rintro e w1 ⟨rfl, hr1, ho1⟩
    go_wp2_with fail
    refine (bytes_stuck n r _ g w1 hr1 he).mono ?_
    rintro e w2 ⟨rfl, rfl⟩
    have h1 := hr1.code
    have h2 := hr1.left
    have hf := hr1.free0
    clear h0
    go_wp2
    go_ret
    exact ⟨rfl, hr1.setLeft s, ho1.setCell rfl _⟩

def Code.flagR : List UInt8 → Bool × List UInt8 × Int
  | [] => (false, [], 20)
  | c :: r => if c.toNat > 1 then (false, c :: r, 3) else (c.toNat == 1, r, 0)
set_option maxHeartbeats 400000 in
theorem rflag_any (s : List UInt8) (g : Nat) (w : World) (h : Rd w g s 0) (hl : s.length ≤ 100000000) :
    Calls Try.prog 21 #[.pointer (some ⟨g, 0, none⟩)] w fun e w' => e = .returned (.bool (Code.flagR s).1) ∧ Rd w' g (Code.flagR s).2.1 (Code.flagR s).2.2 ∧ Only g w w' := by
  have h0 := h.left
  have h1 := h.code
  have hf0 := h.free0
  have hf1 := h.free1
  rcases s with _ | ⟨c, r⟩
  · clear hl
    go_enter Try.func21, Try.ntmps21
    go_wp2
    go_ret
    exact ⟨rfl, h.setCode 20, (Only.refl g _).setCell rfl _⟩
  · have hh : ∀ h, (⟨(c :: r).toArray⟩ : ByteArray)[0]'h = c := fun _ => rfl
    simp only [List.length_cons] at hl
    have hcb := c.toNat_lt
    have he := extract_mk_tail c r
    by_cases hc : c.toNat > 1
    · have hc1 : (c.toNat : Int) > 1 := by omega
      rw [Code.flagR, if_pos hc]
      clear he
      go_enter Try.func21, Try.ntmps21
      go_wp2
      go_ret
      exact ⟨rfl, h.setCode 3, (Only.refl g _).setCell rfl _⟩
    · have hc1 : ¬ ((c.toNat : Int) > 1) := by omega
      have hce : ((c.toNat : Int) == 1) = (c.toNat == 1) := by
        by_cases h : c.toNat = 1
        · rw [h]; rfl
        · rw [beq_eq_false_iff_ne.2 h, beq_eq_false_iff_ne.2 (by omega)]
      rw [Code.flagR, if_neg hc]
      go_enter Try.func21, Try.ntmps21
      go_wp2
      go_ret
      exact ⟨by first | rfl | rw [← hce], h.setLeft r, (Only.refl g _).setCell rfl _⟩

end Go.Proofs.Ytdnceliakppcpaa
