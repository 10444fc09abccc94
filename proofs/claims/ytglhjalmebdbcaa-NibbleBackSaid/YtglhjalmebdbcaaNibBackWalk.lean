/- The walk of the law NibbleBack: it answers true, whatever it is given; nothing that was in memory is changed. -/
import Derived.Test.YtglhjalmebdbcaaNibWorks
import Derived.Test.YtglhjalmebdbcaaNibPackU
namespace Go.Proofs.Ytglhjalmebdbcaa
open Go.RowKit

set_option maxHeartbeats 1000000 in
theorem back_walk (a0 a1 : ByteArray) (leaf : Bool) (w0 : a0.size ≤ maxLen) (w1 : a1.size ≤ maxLen) (w : World) :
    Calls Try.prog 5 #[.string a0, .string a1, .bool leaf] w fun e w' => e = .returned (.bool true) ∧ Below w.heap.size w w' := by
  obtain ⟨k, rfl⟩ := bytes_list a0
  obtain ⟨p, rfl⟩ := bytes_list a1
  rw [size_of_list] at w0 w1
  unfold maxLen at w0 w1
  by_cases hbig : k.length > 2000 ∨ p.length > 2000
  · go_enter Try.func5, Try.ntmps5
    go_wp2_with fail
    refine (works_any w).mono ?_
    rintro e w1 ⟨rfl, hb1⟩
    go_wp2_with fail
    all_goals first
      | (go_ret; exact ⟨rfl, hb1⟩)
      | (exfalso; omega)
  · have ha : k.length ≤ 2000 := by omega
    have hb : p.length ≤ 2000 := by omega
    clear hbig
    have L1 := Lib.hid (Nib.join_of k)
    have L2 := Lib.hid (Nib.fit_of k)
    have hxa := Nib.ofL_length k
    obtain ⟨x, hx⟩ : ∃ x, Nib.ofL k = x := ⟨_, rfl⟩
    have HX := Lib.hid hx
    rw [hx] at hxa L1 L2
    clear hx
    have hxl : x.length ≤ 4000 := by omega
    have hev := Lib.hid (show x.length % 2 = 0 by omega)
    have hlen : ((x.length : Int) != 2 * (k.length : Int)) = false := by simp; omega
    clear hxa
    go_enter Try.func5, Try.ntmps5
    go_wp2_with fail
    refine (works_any w).mono ?_
    rintro e w1 ⟨rfl, hb1⟩
    go_wp2_with fail
    refine (of_any k _ (by omega)).mono ?_
    rintro e w2 ⟨rfl, hb2⟩
    rw [HX.out]
    have c2 := bchain hb1 hb2
    clear hb1 hb2
    go_wp2_with fail
    refine (key_good x _ (by omega) L2.out hev.out).mono ?_
    rintro e w3 ⟨rfl, hb3⟩
    rw [L1.out]
    have c3 := bchain c2 hb3
    clear c2 hb3
    go_wp2_with fail
    refine (of_any k _ (by omega)).mono ?_
    rintro e w4 ⟨rfl, hb4⟩
    rw [HX.out]
    have c4 := bchain c3 hb4
    clear c3 hb4
    go_wp2_with fail
    rcases hu : Nib.unpackL k with _ | ⟨q, is⟩
    · have HU0 := Lib.hid hu; clear hu
      refine (unpack_none k _ (by omega) HU0.out).mono ?_
      rintro e w5 ⟨rfl, hb5⟩
      have c5 := bchain c4 hb5
      clear c4 hb5
      rcases hf : Nib.fitL p with _ | _
      · go_wp2_with fail
        refine (pack_bad p leaf _ (by omega) hf).mono ?_
        rintro e w6 ⟨rfl, hb6⟩
        have c6 := bchain c5 hb6
        clear c5 hb6
        go_wp2_with fail
        refine (fit_any p _ (by omega)).mono ?_
        rintro e w7 ⟨rfl, rfl⟩
        rw [hf]
        go_wp2
        go_ret
        exact ⟨rfl, c6⟩
      · have HU := Lib.hid (Nib.unpack_pack p leaf hf)
        have hpl := Nib.packL_length p leaf
        obtain ⟨s, hs⟩ : ∃ s, Nib.packL p leaf = s := ⟨_, rfl⟩
        have HS := Lib.hid hs
        rw [hs] at HU hpl
        clear hs
        have hsl : s.length ≤ 4000 := by omega
        have hq : ((s.length : Int) == (p.length : Int) / 2 + 1) = true := by simp; omega
        have HF := Lib.hid hf
        clear hf hpl
        go_wp2_with fail
        refine (pack_good p leaf _ (by omega) HF.out).mono ?_
        rintro e w6 ⟨rfl, hb6⟩
        rw [HS.out]
        have c6 := bchain c5 hb6
        clear c5 hb6
        go_wp2_with fail
        refine (unpack_some s p leaf _ (by omega) HU.out).mono ?_
        rintro e w7 ⟨rfl, hb7⟩
        have c7 := bchain c6 hb7
        clear c6 hb7
        go_wp2
        go_ret
        exact ⟨rfl, c7⟩
    · have HU0 := Lib.hid hu
      have HP0 := Lib.hid (Nib.unpack_fit k q is hu)
      have hql := Nib.unpack_len k q is hu
      clear hu
      refine (unpack_some k q is _ (by omega) HU0.out).mono ?_
      rintro e w5 ⟨rfl, hb5⟩
      have c5' := bchain c4 hb5
      clear c4 hb5
      go_wp2_with fail
      refine (pack_good q is _ (by omega) HP0.out.1).mono ?_
      rintro e w51 ⟨rfl, hb51⟩
      rw [HP0.out.2]
      have c5 := bchain c5' hb51
      clear c5' hb51
      rcases hf : Nib.fitL p with _ | _
      · go_wp2_with fail
        refine (pack_bad p leaf _ (by omega) hf).mono ?_
        rintro e w6 ⟨rfl, hb6⟩
        have c6 := bchain c5 hb6
        clear c5 hb6
        go_wp2_with fail
        refine (fit_any p _ (by omega)).mono ?_
        rintro e w7 ⟨rfl, rfl⟩
        rw [hf]
        go_wp2
        go_ret
        exact ⟨rfl, c6⟩
      · have HU := Lib.hid (Nib.unpack_pack p leaf hf)
        have hpl := Nib.packL_length p leaf
        obtain ⟨s, hs⟩ : ∃ s, Nib.packL p leaf = s := ⟨_, rfl⟩
        have HS := Lib.hid hs
        rw [hs] at HU hpl
        clear hs
        have hsl : s.length ≤ 4000 := by omega
        have hq : ((s.length : Int) == (p.length : Int) / 2 + 1) = true := by simp; omega
        have HF := Lib.hid hf
        clear hf hpl
        go_wp2_with fail
        refine (pack_good p leaf _ (by omega) HF.out).mono ?_
        rintro e w6 ⟨rfl, hb6⟩
        rw [HS.out]
        have c6 := bchain c5 hb6
        clear c5 hb6
        go_wp2_with fail
        refine (unpack_some s p leaf _ (by omega) HU.out).mono ?_
        rintro e w7 ⟨rfl, hb7⟩
        have c7 := bchain c6 hb7
        clear c6 hb7
        go_wp2
        go_ret
        exact ⟨rfl, c7⟩

end Go.Proofs.Ytglhjalmebdbcaa
