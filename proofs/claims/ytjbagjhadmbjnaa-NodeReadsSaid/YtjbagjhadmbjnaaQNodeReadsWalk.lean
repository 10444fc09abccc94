/- The law NodeReads, walked. -/
import Derived.Test.YtjbagjhadmbjnaaPk05
import Derived.Test.YtjbagjhadmbjnaaPk08
namespace Go.Proofs.Ytjbagjhadmbjnaa
open Go.RowKit
open Go.Proofs.Ytjbagjhadmbjnaa.Nd (N)

set_option maxRecDepth 100000 in
set_option maxHeartbeats 2000000 in
theorem nodeReads_walk (s : List UInt8) (w : World) :
    Calls Try.prog 3 #[.string ⟨s.toArray⟩] w fun e w' => e = .returned (.bool true) ∧ Below w.heap.size w w' := by
  by_cases hl : s.length ≤ 2000
  case neg =>
    have h1 : (2000 : Int) < (s.length : Int) := by omega
    clear hl
    go_enter Try.func3, Try.ntmps3
    go_wp2_with fail
    refine (nworks_any _).mono ?_
    rintro e w1 ⟨rfl, hb1⟩
    go_wp2
    go_ret
    exact ⟨rfl, hb1⟩
  have h1 : ¬ ((2000 : Int) < (s.length : Int)) := by omega
  have HD := Lib.hid (fun w => ndecode_any s w (by omega))
  have HR := Lib.hid (fun w => rndecode_any s w (by omega))
  unfold NDecPost at HD HR
  have hk16 : (Nd.dec s).1.kids.length = 16 := by
    rcases Nd.dec_is s with ⟨_, _, h, _⟩ | ⟨_, h, _⟩
    · exact h
    · rw [h]; rfl
  obtain ⟨⟨m, c⟩, hD⟩ : ∃ D, Nd.dec s = D := ⟨_, rfl⟩
  rw [hD] at HD HR hk16
  dsimp only at HD HR hk16
  have heq : ∀ w, (Op.equalIn 10000 25 (nval m) (nval m)).run Try.prog w = .ok true w := fun w => by
    have := eq_nodes m m w hk16 hk16
    rw [decide_eq_true (rfl : m = m)] at this
    exact this
  have HON := Lib.hid (ncl_one m)
  have HSZ : Hid ((ncl m).toArray.size = 19) := Lib.hid (by rw [List.size_toArray, ncl_length m hk16])
  unfold nval at HD HR heq
  obtain ⟨A, hA⟩ : ∃ A, (ncl m).toArray = A := ⟨_, rfl⟩
  rw [hA] at HD HR heq HON HSZ
  have HI : Hid ((Try.prog.info? 25).map (·.size) = some A.size) := Lib.hid (by rw [HSZ.out]; kernel_rfl)
  clear hA hD hk16 hl
  go_enter Try.func3, Try.ntmps3
  go_wp2_with fail
  refine (HD.out _).mono ?_
  rintro e w1 ⟨rfl, hb1⟩
  have HB1 := Lib.hid hb1
  have HB2 : Hid (Below w.heap.size w (w1.alloc (.cells A 25))) := Lib.hid (HB1.out.alloc HB1.out.size _)
  have HR1 : Hid ((w1.alloc (.cells A 25)).heap[w1.heap.size]? = some (.cells A 25 (0, 0))) := Lib.hid (heap_new_at w1 _ _ rfl)
  clear hb1
  go_wp2_with (refine wpList_store_fresh (by rfl) _ _ _ (by rfl) w1.heap.size rfl A (by rfl) (by rfl) _ _ HI.out HSZ.out.symm HON.out ?_)
  refine (HR.out _).mono ?_
  rintro e w2 ⟨rfl, hb2⟩
  have HB3 := Lib.hid (bchain HB2.out hb2)
  have HR2 : Hid ((w2.alloc (.cells A 25)).heap[w1.heap.size]? = some (.cells A 25 (0, 0))) := Lib.hid (heap_old_at _ ((hb2.block _ (lt_of_heap HR1.out)).trans HR1.out))
  have HR3 : Hid ((w2.alloc (.cells A 25)).heap[w2.heap.size]? = some (.cells A 25 (0, 0))) := Lib.hid (heap_new_at w2 _ _ rfl)
  have HB4 : Hid (Below w.heap.size w (w2.alloc (.cells A 25))) := Lib.hid (HB3.out.alloc HB3.out.size _)
  clear hb2
  go_wp2_with (first | (refine wpList_store_fresh (by rfl) _ _ _ (by rfl) w2.heap.size rfl A (by rfl) (by rfl) _ _ HI.out HSZ.out.symm HON.out ?_) | (refine wpList_load_row (by rfl) _ _ (by rfl) w1.heap.size (by rfl) _ A _ _ HR2.out Try.underlying25 (by rfl) HI.out ?_) | (refine wpList_load_row (by rfl) _ _ (by rfl) w2.heap.size (by rfl) _ A _ _ HR3.out Try.underlying25 (by rfl) HI.out ?_))
  refine (nworks_any _).mono ?_
  rintro e w4 ⟨rfl, hb4⟩
  go_wp2
  go_ret
  exact ⟨rfl, bchain HB4.out hb4⟩
theorem nodeReads_law (a : ByteArray) (w : World) (_ : a.size ≤ maxLen) :
    Calls Try.prog 3 #[.string a] w fun e w' => e = .returned (.bool true) ∧ Below w.heap.size w w' := by
  obtain ⟨s, rfl⟩ := bytes_list a
  exact nodeReads_walk s w
end Go.Proofs.Ytjbagjhadmbjnaa
