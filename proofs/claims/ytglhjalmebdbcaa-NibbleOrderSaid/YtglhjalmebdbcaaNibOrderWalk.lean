/- The walk of the law NibbleOrder: it answers true, whatever it is given; nothing that was in memory is changed. -/
import Derived.Test.YtglhjalmebdbcaaNibWorks
import Derived.Test.YtglhjalmebdbcaaNibCommon
import Derived.Test.YtglhjalmebdbcaaNibOrderMath
namespace Go.Proofs.Ytglhjalmebdbcaa
open Go.RowKit

set_option maxHeartbeats 1000000 in
theorem order_walk (a0 a1 : ByteArray) (w0 : a0.size ≤ maxLen) (w1 : a1.size ≤ maxLen) (w : World) :
    Calls Try.prog 6 #[.string a0, .string a1] w fun e w' => e = .returned (.bool true) ∧ Below w.heap.size w w' := by
  obtain ⟨a, rfl⟩ := bytes_list a0
  obtain ⟨b, rfl⟩ := bytes_list a1
  rw [size_of_list] at w0 w1
  unfold maxLen at w0 w1
  by_cases hbig : a.length > 2000 ∨ b.length > 2000
  · go_enter Try.func6, Try.ntmps6
    go_wp2_with fail
    refine (works_any w).mono ?_
    rintro e w1 ⟨rfl, hb1⟩
    go_wp2_with fail
    all_goals first
      | (go_ret; exact ⟨rfl, hb1⟩)
      | (exfalso; omega)
  · have ha : a.length ≤ 2000 := by omega
    have hb : b.length ≤ 2000 := by omega
    clear hbig
    have L1 := Lib.hid (Nib.less_of a b)
    have L2 := Lib.hid (Nib.ofL_inj a b)
    have L3 := Lib.hid (Nib.common_of a b)
    have L4 := Lib.hid (Nib.common_full a b)
    have L5 := Lib.hid (Nib.common_symm a b)
    have hxa := Nib.ofL_length a
    have hxb := Nib.ofL_length b
    obtain ⟨x, hx⟩ : ∃ x, Nib.ofL a = x := ⟨_, rfl⟩
    obtain ⟨y, hy⟩ : ∃ y, Nib.ofL b = y := ⟨_, rfl⟩
    have HX := Lib.hid hx
    have HY := Lib.hid hy
    rw [hx] at hxa L1 L2 L3 L4
    rw [hy] at hxb L1 L2 L3 L4
    have hxl : x.length ≤ 4000 := by omega
    have hyl : y.length ≤ 4000 := by omega
    clear hx hy hxa hxb
    obtain ⟨n, hn⟩ : ∃ n, Nib.commonL a b = n := ⟨_, rfl⟩
    obtain ⟨m, hm⟩ : ∃ m, Nib.commonL x y = m := ⟨_, rfl⟩
    have HN := Lib.hid hn
    have HM := Lib.hid hm
    have hnl := (Nib.commonL_le a b).1
    have hml := (Nib.commonL_le x y).1
    rw [hn] at L3 L4 L5 hnl
    rw [hm] at L3 L4 hml
    clear hn hm
    have b1 : (Op.bytesLess a b == Op.bytesLess x y) = true := by rw [L1.out]; simp
    have b2 : ((a == b) == (x == y)) = true := by rw [L2.out]; simp
    have b3 : ((m : Int) / 2 == (n : Int)) = true := by have := L3.out; simp; omega
    have b4 : (((n : Int) == (a.length : Int)) == ((m : Int) == (x.length : Int))) = true := by
      have := L4.out
      by_cases h : n = a.length
      · have h' := this.2 h; rw [h, h']; simp
      · have h' : ¬ m = x.length := fun e => h (this.1 e)
        have e1 : ((n : Int) == (a.length : Int)) = false := by simp; omega
        have e2 : ((m : Int) == (x.length : Int)) = false := by simp; omega
        rw [e1, e2]; rfl
    go_enter Try.func6, Try.ntmps6
    go_wp2_with fail
    refine (works_any w).mono ?_
    rintro e w1 ⟨rfl, hb1⟩
    go_wp2_with fail
    refine (of_any a _ (by omega)).mono ?_
    rintro e w2 ⟨rfl, hb2⟩
    rw [HX.out]
    go_wp2_with fail
    refine (of_any b _ (by omega)).mono ?_
    rintro e w3 ⟨rfl, hb3⟩
    rw [HY.out]
    go_wp2_with fail
    refine (common_any a b _ (by omega) (by omega)).mono ?_
    rintro e w4 ⟨rfl, hb4⟩
    rw [HN.out]
    go_wp2_with fail
    refine (common_any x y _ (by omega) (by omega)).mono ?_
    rintro e w5 ⟨rfl, hb5⟩
    rw [HM.out]
    go_wp2_with fail
    refine (common_any b a _ (by omega) (by omega)).mono ?_
    rintro e w6 ⟨rfl, hb6⟩
    rw [L5.out]
    go_wp2
    go_ret
    have s1 := hb1.size
    have s2 := hb2.size
    have s3 := hb3.size
    have s4 := hb4.size
    have s5 := hb5.size
    exact ⟨rfl, ((((hb1.trans (hb2.mono s1)).trans (hb3.mono (by omega))).trans (hb4.mono (by omega))).trans (hb5.mono (by omega))).trans (hb6.mono (by omega))⟩

end Go.Proofs.Ytglhjalmebdbcaa
