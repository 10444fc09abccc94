/- The walk of the law NibbleSides: it answers true, whatever it is given; nothing that was in memory is changed. -/
import Derived.Test.YtglhjalmebdbcaaNibWorks
namespace Go.Proofs.Ytglhjalmebdbcaa
open Go.RowKit

set_option maxHeartbeats 1000000 in
theorem sides_walk (a0 a1 a2 : ByteArray) (w0 : a0.size ≤ maxLen) (w1 : a1.size ≤ maxLen) (w2 : a2.size ≤ maxLen) (w : World) :
    Calls Try.prog 7 #[.string a0, .string a1, .string a2] w fun e w' => e = .returned (.bool true) ∧ Below w.heap.size w w' := by
  obtain ⟨p, rfl⟩ := bytes_list a0
  obtain ⟨m, rfl⟩ := bytes_list a1
  obtain ⟨x, rfl⟩ := bytes_list a2
  rw [size_of_list] at w0 w1 w2
  unfold maxLen at w0 w1 w2
  by_cases hbig : p.length > 2000 ∨ m.length > 2000 ∨ x.length > 2000
  · go_enter Try.func7, Try.ntmps7
    go_wp2_with fail
    refine (works_any w).mono ?_
    rintro e w1 ⟨rfl, hb1⟩
    go_wp2_with fail
    all_goals first
      | (go_ret; exact ⟨rfl, hb1⟩)
      | (exfalso; omega)
  · have hp : p.length ≤ 2000 := by omega
    have hm : m.length ≤ 2000 := by omega
    have hx : x.length ≤ 2000 := by omega
    clear hbig
    go_enter Try.func7, Try.ntmps7
    go_wp2_with fail
    refine (works_any w).mono ?_
    rintro e w1 ⟨rfl, hb1⟩
    go_wp2_with fail
    refine (side_any p m _).mono ?_
    rintro e w2 ⟨rfl, rfl⟩
    rcases hs : Op.bytesLess p m with _ | _
    · rw [side1 (by rw [hs]; rfl)]
      have hc : Op.bytesLess ((⟨p.toArray⟩ : ByteArray) ++ (⟨x.toArray⟩ : ByteArray)).toList m = false := by rw [cat_list]; exact Nib.less_append_false p x m hs
      go_wp2
      go_ret
      exact ⟨rfl, hb1⟩
    · by_cases ht : m.take p.length = p
      · rw [side0 (by rw [hs]; rfl) ht]
        have hlt := Nib.less_prefix_lt p m hs ht
        have hsub : (((⟨m.toArray⟩ : ByteArray).extract 0 p.length).toList == p) = true := by rw [Lib.extract_eq]; simpa using ht
        clear ht
        go_wp2
        go_ret
        exact ⟨rfl, hb1⟩
      · rw [sideM (by rw [hs]; rfl) ht]
        have hc : Op.bytesLess ((⟨p.toArray⟩ : ByteArray) ++ (⟨x.toArray⟩ : ByteArray)).toList m = true := by rw [cat_list]; exact Nib.less_append_true p x m hs ht
        clear ht
        go_wp2
        go_ret
        exact ⟨rfl, hb1⟩

end Go.Proofs.Ytglhjalmebdbcaa
