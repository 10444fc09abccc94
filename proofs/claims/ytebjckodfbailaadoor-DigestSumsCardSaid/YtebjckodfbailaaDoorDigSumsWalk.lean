/- DigestSums: the sum of any text, and of any list, with any tag, is that of the document. -/
import Derived.Test.YtebjckodfbailaaDoorDigRefSum
import Derived.Test.YtebjckodfbailaaDoorDigWorks
import Derived.Test.YtebjckodfbailaaDoorBookFew
namespace Go.Proofs.YtebjckodfbailaaDoor
open Go.RowKit

set_option maxRecDepth 8000 in
set_option maxHeartbeats 1000000 in
theorem sums_walk (t : Int) (s : ByteArray) (v : Value) (L : List (List UInt8)) (w : World) (_ht : (Lit.int .i64 t).wf = true) (hs : s.size ≤ maxLen) (hv : Strs w v L) (hl : L.length ≤ maxLen) (_he : ∀ x ∈ L, x.length ≤ maxLen) (hT : Tab w) :
    Calls Tryd.prog 3 #[.int .i64 t, .string s, v] w fun e w' => e = .returned (.bool true) ∧ Below w.heap.size w w' := by
  obtain ⟨l, rfl⟩ := bytes_list s
  rw [size_list l] at hs
  have hlmax : (l.length : Int) ≤ 9223372036854775807 := by unfold maxLen at hs; omega
  have HV := Lib.hid hv
  have HT := Lib.hid hT
  have HFEW := Lib.hid (fun w hs => few_any L v 10 60 w hs hl)
  clear hs hv hT _ht
  by_cases hbig : (l.length : Int) > 500
  · have hbd : decide (500 < (l.length : Int)) = true := decide_eq_true hbig
    clear _he hl
    go_enter Tryd.func3, Tryd.ntmps3
    go_wp2_with fail
    refine (works_any _ HT.out).mono ?_
    rintro e w1 ⟨rfl, hb1⟩
    go_wp2
    go_ret
    exact ⟨rfl, hb1⟩
  have hbd : decide (500 < (l.length : Int)) = false := decide_eq_false hbig
  cases hf : Code.few L 10 60 with
  | false =>
    rw [hf] at HFEW
    clear hf _he hl
    go_enter Tryd.func3, Tryd.ntmps3
    go_wp2_with fail
    refine (HFEW.out _ HV.out).mono ?_
    rintro e w0 ⟨rfl, rfl⟩
    go_wp2_with fail
    refine (works_any _ HT.out).mono ?_
    rintro e w1 ⟨rfl, hb1⟩
    go_wp2
    go_ret
    exact ⟨rfl, hb1⟩
  | true =>
    obtain ⟨hn, hE⟩ := (Code.few_iff L 10 60).1 hf
    have htx := Code.texts_bound L 60 (by omega) hE
    have hll : (Code.listL L).length ≤ 999 := by
      have h1 := Code.numL_length L.length
      have h2 := Code.sz_le8 L.length (by omega)
      simp only [Code.listL, List.length_append]
      omega
    have hl500 : l.length ≤ 500 := by omega
    have H1 := Lib.hid (fun w hT => dsum_any t l w hT (by omega))
    have H2 := Lib.hid (fun w => rSum04_any t l w (by omega))
    have H3 := Lib.hid (fun w hT hs => many_any t L v w hT hs (by omega) (by omega))
    have H4 := Lib.hid (fun w hs => rMany04_any t L v w hs hll)
    obtain ⟨R1, hR1⟩ : ∃ R, Dig.sum t l = R := ⟨_, rfl⟩
    obtain ⟨R2, hR2⟩ : ∃ R, Dig.sum t (Code.listL L) = R := ⟨_, rfl⟩
    obtain ⟨C, hC⟩ : ∃ C, Dig.sumC t = C := ⟨_, rfl⟩
    rw [hR1, hC] at H1 H2
    rw [hR2, hC] at H3 H4
    rw [hf] at HFEW
    clear hf _he hl hn hE htx hll hl500 hR1 hR2 hC
    go_enter Tryd.func3, Tryd.ntmps3
    go_wp2_with fail
    refine (HFEW.out _ HV.out).mono ?_
    rintro e w0 ⟨rfl, rfl⟩
    go_wp2_with fail
    refine (H1.out _ HT.out).mono ?_
    rintro e w1 ⟨rfl, hb1⟩
    have HB1 := Lib.hid hb1
    clear hb1
    go_wp2_with fail
    refine (H2.out _).mono ?_
    rintro e w2 ⟨rfl, hb2⟩
    have HB2 := Lib.hid (bchain HB1.out hb2)
    clear hb2
    go_wp2_with fail
    refine (H3.out _ (HT.out.below HB2.out) (HV.out.below HB2.out)).mono ?_
    rintro e w3 ⟨rfl, hb3⟩
    have HB3 := Lib.hid (bchain HB2.out hb3)
    clear hb3
    go_wp2_with fail
    refine (H4.out _ (HV.out.below HB3.out)).mono ?_
    rintro e w4 ⟨rfl, hb4⟩
    have HB4 := Lib.hid (bchain HB3.out hb4)
    clear hb4
    go_wp2_with fail
    refine (works_any _ (HT.out.below HB4.out)).mono ?_
    rintro e w5 ⟨rfl, hb5⟩
    go_wp2
    go_ret
    exact ⟨rfl, bchain HB4.out hb5⟩
end Go.Proofs.YtebjckodfbailaaDoor
