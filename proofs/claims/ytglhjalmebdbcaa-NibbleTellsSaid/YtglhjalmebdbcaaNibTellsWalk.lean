/- The walk of the law NibbleTells: it answers true, whatever it is given; nothing that was in memory is changed. -/
import Derived.Test.YtglhjalmebdbcaaNibWorks
import Derived.Test.YtglhjalmebdbcaaNibCommon
import Derived.Test.YtglhjalmebdbcaaNibRef
namespace Go.Proofs.Ytglhjalmebdbcaa
open Go.RowKit

set_option maxHeartbeats 1000000 in
theorem tells_walk (a0 a1 a2 : ByteArray) (w0 : a0.size ≤ maxLen) (w1 : a1.size ≤ maxLen) (w2 : a2.size ≤ maxLen) (w : World) :
    Calls Try.prog 3 #[.string a0, .string a1, .string a2] w fun e w' => e = .returned (.bool true) ∧ Below w.heap.size w w' := by
  obtain ⟨k, rfl⟩ := bytes_list a0
  obtain ⟨p, rfl⟩ := bytes_list a1
  obtain ⟨m, rfl⟩ := bytes_list a2
  rw [size_of_list] at w0 w1 w2
  unfold maxLen at w0 w1 w2
  by_cases hbig : k.length > 2000 ∨ p.length > 2000 ∨ m.length > 2000
  · go_enter Try.func3, Try.ntmps3
    go_wp2_with fail
    all_goals first
      | (refine (works_any w).mono ?_; rintro e w1 ⟨rfl, hb1⟩; go_wp2; go_ret; exact ⟨rfl, hb1⟩)
      | (exfalso; omega)
  · have hk : k.length ≤ 2000 := by omega
    have hp : p.length ≤ 2000 := by omega
    have hm : m.length ≤ 2000 := by omega
    clear hbig
    obtain ⟨x, hx⟩ : ∃ x, Nib.ofL k = x := ⟨_, rfl⟩
    have HX := Lib.hid hx
    clear hx
    obtain ⟨n, hn⟩ : ∃ n, Nib.commonL p m = n := ⟨_, rfl⟩
    have HN := Lib.hid hn
    clear hn
    obtain ⟨d, hd⟩ : ∃ d, Nib.sideL p m = d := ⟨_, rfl⟩
    have HD := Lib.hid hd
    clear hd
    rcases hf : Nib.fitL p with _ | _
    · have HF := Lib.hid hf; clear hf
      go_enter Try.func3, Try.ntmps3
      go_wp2_with fail
      refine (key_bad p _ (by omega) HF.out).mono ?_
      rintro e w1 ⟨rfl, c1⟩
      go_wp2_with fail
      refine (rkey_bad p _ (by omega) HF.out).mono ?_
      rintro e w2 ⟨rfl, hb2⟩
      have c2 := bchain c1 hb2
      clear c1 hb2
      go_wp2_with fail
      refine (of_any k _ (by omega)).mono ?_
      rintro e w3 ⟨rfl, hb3⟩
      rw [HX.out]
      have c3 := bchain c2 hb3
      clear c2 hb3
      go_wp2_with fail
      refine (rof_any k _ (by omega)).mono ?_
      rintro e w4 ⟨rfl, hb4⟩
      rw [HX.out]
      have c4 := bchain c3 hb4
      clear c3 hb4
      go_wp2_with fail
      refine (fit_any p _ (by omega)).mono ?_
      rintro e w5 ⟨rfl, rfl⟩
      rw [HF.out]
      go_wp2_with fail
      refine (rfit_any p _ (by omega)).mono ?_
      rintro e w5 ⟨rfl, rfl⟩
      rw [HF.out]
      go_wp2_with fail
      refine (common_any p m _ (by omega) (by omega)).mono ?_
      rintro e w6 ⟨rfl, hb6⟩
      rw [HN.out]
      have c6 := bchain c4 hb6
      clear c4 hb6
      go_wp2_with fail
      refine (rcommon_any p m _ (by omega) (by omega)).mono ?_
      rintro e w7 ⟨rfl, hb7⟩
      rw [HN.out]
      have c7 := bchain c6 hb7
      clear c6 hb7
      go_wp2_with fail
      refine (side_any p m _).mono ?_
      rintro e w8 ⟨rfl, rfl⟩
      rw [HD.out]
      go_wp2_with fail
      refine (rside_any p m _).mono ?_
      rintro e w8 ⟨rfl, rfl⟩
      rw [HD.out]
      go_wp2_with fail
      refine (works_any _).mono ?_
      rintro e w9 ⟨rfl, hb9⟩
      go_wp2
      go_ret
      exact ⟨rfl, bchain c7 hb9⟩
    · have HF := Lib.hid hf; clear hf
      rcases Nat.mod_two_eq_zero_or_one p.length with ho | ho
      · have HO := Lib.hid ho; clear ho
        go_enter Try.func3, Try.ntmps3
        go_wp2_with fail
        refine (key_good p _ (by omega) HF.out HO.out).mono ?_
        rintro e w1 ⟨rfl, c1⟩
        obtain ⟨q, hq⟩ : ∃ q, Nib.joinL p = q := ⟨_, rfl⟩
        rw [hq]
        have HQ := Lib.hid hq; clear hq
        go_wp2_with fail
        refine (rkey_good p _ (by omega) HF.out HO.out).mono ?_
        rintro e w2 ⟨rfl, hb2⟩
        rw [HQ.out]
        have c2 := bchain c1 hb2
        clear c1 hb2
        go_wp2_with fail
        refine (of_any k _ (by omega)).mono ?_
        rintro e w3 ⟨rfl, hb3⟩
        rw [HX.out]
        have c3 := bchain c2 hb3
        clear c2 hb3
        go_wp2_with fail
        refine (rof_any k _ (by omega)).mono ?_
        rintro e w4 ⟨rfl, hb4⟩
        rw [HX.out]
        have c4 := bchain c3 hb4
        clear c3 hb4
        go_wp2_with fail
        refine (fit_any p _ (by omega)).mono ?_
        rintro e w5 ⟨rfl, rfl⟩
        rw [HF.out]
        go_wp2_with fail
        refine (rfit_any p _ (by omega)).mono ?_
        rintro e w5 ⟨rfl, rfl⟩
        rw [HF.out]
        go_wp2_with fail
        refine (common_any p m _ (by omega) (by omega)).mono ?_
        rintro e w6 ⟨rfl, hb6⟩
        rw [HN.out]
        have c6 := bchain c4 hb6
        clear c4 hb6
        go_wp2_with fail
        refine (rcommon_any p m _ (by omega) (by omega)).mono ?_
        rintro e w7 ⟨rfl, hb7⟩
        rw [HN.out]
        have c7 := bchain c6 hb7
        clear c6 hb7
        go_wp2_with fail
        refine (side_any p m _).mono ?_
        rintro e w8 ⟨rfl, rfl⟩
        rw [HD.out]
        go_wp2_with fail
        refine (rside_any p m _).mono ?_
        rintro e w8 ⟨rfl, rfl⟩
        rw [HD.out]
        go_wp2_with fail
        refine (works_any _).mono ?_
        rintro e w9 ⟨rfl, hb9⟩
        go_wp2
        go_ret
        exact ⟨rfl, bchain c7 hb9⟩
      · have HO := Lib.hid ho; clear ho
        go_enter Try.func3, Try.ntmps3
        go_wp2_with fail
        refine (key_odd p _ (by omega) HF.out HO.out).mono ?_
        rintro e w1 ⟨rfl, c1⟩
        go_wp2_with fail
        refine (rkey_odd p _ (by omega) HF.out HO.out).mono ?_
        rintro e w2 ⟨rfl, hb2⟩
        have c2 := bchain c1 hb2
        clear c1 hb2
        go_wp2_with fail
        refine (of_any k _ (by omega)).mono ?_
        rintro e w3 ⟨rfl, hb3⟩
        rw [HX.out]
        have c3 := bchain c2 hb3
        clear c2 hb3
        go_wp2_with fail
        refine (rof_any k _ (by omega)).mono ?_
        rintro e w4 ⟨rfl, hb4⟩
        rw [HX.out]
        have c4 := bchain c3 hb4
        clear c3 hb4
        go_wp2_with fail
        refine (fit_any p _ (by omega)).mono ?_
        rintro e w5 ⟨rfl, rfl⟩
        rw [HF.out]
        go_wp2_with fail
        refine (rfit_any p _ (by omega)).mono ?_
        rintro e w5 ⟨rfl, rfl⟩
        rw [HF.out]
        go_wp2_with fail
        refine (common_any p m _ (by omega) (by omega)).mono ?_
        rintro e w6 ⟨rfl, hb6⟩
        rw [HN.out]
        have c6 := bchain c4 hb6
        clear c4 hb6
        go_wp2_with fail
        refine (rcommon_any p m _ (by omega) (by omega)).mono ?_
        rintro e w7 ⟨rfl, hb7⟩
        rw [HN.out]
        have c7 := bchain c6 hb7
        clear c6 hb7
        go_wp2_with fail
        refine (side_any p m _).mono ?_
        rintro e w8 ⟨rfl, rfl⟩
        rw [HD.out]
        go_wp2_with fail
        refine (rside_any p m _).mono ?_
        rintro e w8 ⟨rfl, rfl⟩
        rw [HD.out]
        go_wp2_with fail
        refine (works_any _).mono ?_
        rintro e w9 ⟨rfl, hb9⟩
        go_wp2
        go_ret
        exact ⟨rfl, bchain c7 hb9⟩

end Go.Proofs.Ytglhjalmebdbcaa
