/- The walk of the law NibblePacks: it answers true, whatever it is given; nothing that was in memory is changed. -/
import Derived.Test.YtglhjalmebdbcaaNibWorks
import Derived.Test.YtglhjalmebdbcaaNibPackU
import Derived.Test.YtglhjalmebdbcaaNibRefU
namespace Go.Proofs.Ytglhjalmebdbcaa
open Go.RowKit

set_option maxHeartbeats 1000000 in
theorem packs_walk (a0 : ByteArray) (leaf : Bool) (a2 : ByteArray) (w0 : a0.size ≤ maxLen) (w2 : a2.size ≤ maxLen) (w : World) :
    Calls Try.prog 4 #[.string a0, .bool leaf, .string a2] w fun e w' => e = .returned (.bool true) ∧ Below w.heap.size w w' := by
  obtain ⟨p, rfl⟩ := bytes_list a0
  obtain ⟨s, rfl⟩ := bytes_list a2
  rw [size_of_list] at w0 w2
  unfold maxLen at w0 w2
  by_cases hbig : p.length > 2000 ∨ s.length > 2000
  · go_enter Try.func4, Try.ntmps4
    go_wp2_with fail
    all_goals first
      | (refine (works_any w).mono ?_; rintro e w1 ⟨rfl, hb1⟩; go_wp2; go_ret; exact ⟨rfl, hb1⟩)
      | (exfalso; omega)
  · have hp : p.length ≤ 2000 := by omega
    have hs : s.length ≤ 2000 := by omega
    clear hbig
    rcases hf : Nib.fitL p with _ | _
    · have HF := Lib.hid hf; clear hf
      go_enter Try.func4, Try.ntmps4
      go_wp2_with fail
      refine (pack_bad p leaf _ (by omega) HF.out).mono ?_
      rintro e w1 ⟨rfl, c1⟩
      go_wp2_with fail
      refine (rpack_bad p leaf _ (by omega) HF.out).mono ?_
      rintro e w2 ⟨rfl, hb2⟩
      have c2 := bchain c1 hb2
      clear c1 hb2
      rcases hu : Nib.unpackL s with _ | ⟨q2, is⟩
      · have HU := Lib.hid hu; clear hu
        go_wp2_with fail
        refine (unpack_none s _ (by omega) HU.out).mono ?_
        rintro e w3 ⟨rfl, hb3⟩
        have c3 := bchain c2 hb3
        clear c2 hb3
        go_wp2_with fail
        refine (runpack_none s _ (by omega) HU.out).mono ?_
        rintro e w4 ⟨rfl, hb4⟩
        have c4 := bchain c3 hb4
        clear c3 hb4
        go_wp2_with fail
        refine (works_any _).mono ?_
        rintro e w5 ⟨rfl, hb5⟩
        go_wp2
        go_ret
        exact ⟨rfl, bchain c4 hb5⟩
      · have HU := Lib.hid hu; clear hu
        go_wp2_with fail
        refine (unpack_some s q2 is _ (by omega) HU.out).mono ?_
        rintro e w3 ⟨rfl, hb3⟩
        have c3 := bchain c2 hb3
        clear c2 hb3
        go_wp2_with fail
        refine (runpack_some s q2 is _ (by omega) HU.out).mono ?_
        rintro e w4 ⟨rfl, hb4⟩
        have c4 := bchain c3 hb4
        clear c3 hb4
        go_wp2_with fail
        refine (works_any _).mono ?_
        rintro e w5 ⟨rfl, hb5⟩
        go_wp2
        go_ret
        exact ⟨rfl, bchain c4 hb5⟩
    · have HF := Lib.hid hf; clear hf
      go_enter Try.func4, Try.ntmps4
      go_wp2_with fail
      refine (pack_good p leaf _ (by omega) HF.out).mono ?_
      rintro e w1 ⟨rfl, c1⟩
      obtain ⟨q, hq⟩ : ∃ q, Nib.packL p leaf = q := ⟨_, rfl⟩
      rw [hq]
      have HQ := Lib.hid hq; clear hq
      go_wp2_with fail
      refine (rpack_good p leaf _ (by omega) HF.out).mono ?_
      rintro e w2 ⟨rfl, hb2⟩
      rw [HQ.out]
      have c2 := bchain c1 hb2
      clear c1 hb2
      rcases hu : Nib.unpackL s with _ | ⟨q2, is⟩
      · have HU := Lib.hid hu; clear hu
        go_wp2_with fail
        refine (unpack_none s _ (by omega) HU.out).mono ?_
        rintro e w3 ⟨rfl, hb3⟩
        have c3 := bchain c2 hb3
        clear c2 hb3
        go_wp2_with fail
        refine (runpack_none s _ (by omega) HU.out).mono ?_
        rintro e w4 ⟨rfl, hb4⟩
        have c4 := bchain c3 hb4
        clear c3 hb4
        go_wp2_with fail
        refine (works_any _).mono ?_
        rintro e w5 ⟨rfl, hb5⟩
        go_wp2
        go_ret
        exact ⟨rfl, bchain c4 hb5⟩
      · have HU := Lib.hid hu; clear hu
        go_wp2_with fail
        refine (unpack_some s q2 is _ (by omega) HU.out).mono ?_
        rintro e w3 ⟨rfl, hb3⟩
        have c3 := bchain c2 hb3
        clear c2 hb3
        go_wp2_with fail
        refine (runpack_some s q2 is _ (by omega) HU.out).mono ?_
        rintro e w4 ⟨rfl, hb4⟩
        have c4 := bchain c3 hb4
        clear c3 hb4
        go_wp2_with fail
        refine (works_any _).mono ?_
        rintro e w5 ⟨rfl, hb5⟩
        go_wp2
        go_ret
        exact ⟨rfl, bchain c4 hb5⟩

end Go.Proofs.Ytglhjalmebdbcaa
