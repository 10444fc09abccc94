/- The chapter's two examples, reckoned; sha.Sum; the chapter's examples. -/
import Derived.Test.YtbjfihbjfoaghaaDoorShaSumMath
import Derived.Test.YtbjfihbjfoaghaaDoorShaSum
import Derived.KernelRfl
namespace Go.Proofs.YtbjfihbjfoaghaaDoor.Sha
set_option maxRecDepth 100000
theorem sum_nil : (sumP []).take 4 = [227, 176, 196, 66] := by kernel_rfl
theorem sum_abc : (sumP [97, 98, 99]).take 4 = [186, 120, 22, 191] := by kernel_rfl
end Go.Proofs.YtbjfihbjfoaghaaDoor.Sha
namespace Go.Proofs.YtbjfihbjfoaghaaDoor
open Go.RowKit

set_option maxRecDepth 8000 in
set_option maxHeartbeats 1000000 in
theorem sum_any (s : List UInt8) (w : World) (hT : Tab w) (hl : s.length ≤ 1152921504606800000) :
    Calls Tryd.prog 58 #[.string ⟨s.toArray⟩] w fun e w' => e = .returned (.string ⟨(Sha.sumP s).toArray⟩) ∧ Below w.heap.size w w' := by
  have hz := (zero_of_info Tryd.zero73).1
  obtain ⟨Z, hZ⟩ : ∃ Z, (hashL ⟨0, 0, 0, 0, 0, 0, 0, 0⟩ (List.replicate 64 0) 0).toArray = Z := ⟨_, rfl⟩
  obtain ⟨C, hC⟩ : ∃ C, (hashL Sha.first (List.replicate 64 0) 0).toArray = C := ⟨_, rfl⟩
  have hZs : Z.size = 73 := by rw [← hZ, List.size_toArray, hashL_length _ _ _ (by simp)]
  have hCs : C.size = 73 := by rw [← hC, List.size_toArray, hashL_length _ _ _ (by simp)]
  have hC1 : C.all (·.oneCell') = true := by rw [← hC]; exact hash_one _ _ _
  have hi : (Tryd.prog.info? 95).map (·.size) = some C.size := by rw [hCs]; exact (zero_of_info Tryd.zero73).2
  have hst : ∀ w' p, w'.heap[p]? = some (.cells C 95 (0, 0)) → HashIs w' p [] := fun w' p h => HashIs.start (by rw [hC]; exact h)
  have hbu := built_hash
  rw [hC] at hbu
  rw [hZ] at hz
  have HBU := Lib.hid hbu
  have HI := Lib.hid hi
  have HC1 := Lib.hid hC1
  have HZC : Hid (Z.size = C.size) := Lib.hid (by rw [hZs, hCs])
  have HST := Lib.hid hst
  have HT := Lib.hid hT
  clear hi hC1 hZs hCs hst hT hC hZ hbu
  go_enter Tryd.func58, Tryd.ntmps58
  go_wp2_with fail
  refine (first_any _).mono ?_
  rintro e w1 ⟨rfl, hb1⟩
  go_wp2_with (first | (refine wpList_build_to (by rfl) _ _ (by rfl) [(0, .agg (u32s Sha.first.list))] (by first | rfl | (simp [Act.eval]; done) | kernel_rfl) C HBU.out ?_) | (refine wpList_store_new (by rfl) _ _ _ (by rfl) w1.heap.size rfl C (by rfl) (by rfl) _ Z HI.out HZC.out HC1.out ?_))
  have hB2 : Below w.heap.size w (w1.alloc (.cells C 95)) := hb1.alloc hb1.size _
  have hh2 : HashIs (w1.alloc (.cells C 95)) w1.heap.size [] := HST.out _ _ (heap_new_at _ _ _ rfl)
  have hT2 := HT.out.below hB2
  have hp : 0 < w1.heap.size := Nat.lt_of_lt_of_le HT.out.pos hb1.size
  have HW := Lib.hid (write_any [] s w1.heap.size _ hh2 hT2 hp (by simp; omega))
  have HB2 := Lib.hid hB2
  have HS1 := Lib.hid hb1.size
  clear hb1 hB2 hh2 hT2
  refine HW.out.mono ?_
  rintro e w3 ⟨rfl, hh3, ho3⟩
  have hB3 : Below w.heap.size w w3 := HB2.out.trans (ho3.below HS1.out HB2.out.size)
  have HS := Lib.hid (hsum_any s w1.heap.size w3 (by simpa using hh3) (HT.out.below hB3) (by omega))
  have HB3 := Lib.hid hB3
  clear hh3 ho3 hB3
  go_wp2_with fail
  refine HS.out.mono ?_
  rintro e w4 ⟨rfl, hb4⟩
  go_wp2
  go_ret
  exact ⟨rfl, HB3.out.trans (hb4.mono HB3.out.size)⟩

end Go.Proofs.YtbjfihbjfoaghaaDoor
