/- The law NodeUnlike, walked. -/
import Derived.Test.YtjbagjhadmbjnaaPk05
import Derived.Test.YtjbagjhadmbjnaaPk08
namespace Go.Proofs.Ytjbagjhadmbjnaa
open Go.RowKit
open Go.Proofs.Ytjbagjhadmbjnaa.Nd (N)

set_option maxRecDepth 100000 in
set_option maxHeartbeats 4000000 in
theorem nodeUnlike_walk (n m : N) (w : World) (hn : n.kids.length = 16) (hm : m.kids.length = 16) :
    Calls Try.prog 4 #[nval n, nval m] w fun e w' => e = .returned (.bool true) ∧ Below w.heap.size w w' := by
  have HBn := Lib.hid (fun w => nbig_any n w hn)
  have HBm := Lib.hid (fun w => nbig_any m w hm)
  have HEn := Lib.hid (fun w => nencode_any n w hn)
  have HEm := Lib.hid (fun w => nencode_any m w hm)
  have heq := fun w => eq_nodes n m w hn hm
  have HFn := Lib.hid (Nd.enc_two n)
  have HFm := Lib.hid (Nd.enc_two m)
  obtain ⟨T, hT⟩ : ∃ T, Nd.encS n = T := ⟨_, rfl⟩
  obtain ⟨V, hV⟩ : ∃ T, Nd.encS m = T := ⟨_, rfl⟩
  obtain ⟨cn, hcn⟩ : ∃ c, Nd.encC n = c := ⟨_, rfl⟩
  obtain ⟨cm, hcm⟩ : ∃ c, Nd.encC m = c := ⟨_, rfl⟩
  rw [hT, hcn] at HEn HFn
  rw [hV, hcm] at HEm HFm
  clear hT hV hcn hcm
  unfold nval at HBn HBm HEn HEm heq ⊢
  have hSn : (ncl n).toArray.size = 19 := by rw [List.size_toArray, ncl_length n hn]
  have hSm : (ncl m).toArray.size = 19 := by rw [List.size_toArray, ncl_length m hm]
  have HIn : Hid ((Try.prog.info? 25).map (·.size) = some (ncl n).toArray.size) := Lib.hid (by rw [hSn]; kernel_rfl)
  have HIm : Hid ((Try.prog.info? 25).map (·.size) = some (ncl m).toArray.size) := Lib.hid (by rw [hSm]; kernel_rfl)
  obtain ⟨A, hA⟩ : ∃ A, (ncl n).toArray = A := ⟨_, rfl⟩
  obtain ⟨B, hB⟩ : ∃ A, (ncl m).toArray = A := ⟨_, rfl⟩
  rw [hA] at HBn HEn heq HIn ⊢
  rw [hB] at HBm HEm heq HIm ⊢
  clear hA hB hSn hSm
  have HRn : Hid (∀ w', Below ((w.alloc (.cells A 25)).alloc (.cells B 25)).heap.size ((w.alloc (.cells A 25)).alloc (.cells B 25)) w' → w'.heap[w.heap.size]? = some (.cells A 25 (0, 0)) ∧ w'.heap[w.heap.size + 1]? = some (.cells B 25 (0, 0)) ∧ Below w.heap.size w w') := Lib.hid (fun w' h => by
    have h1 : ((w.alloc (.cells A 25)).alloc (.cells B 25)).heap[w.heap.size]? = some (.cells A 25 (0, 0)) := heap_old_at _ (heap_new_at w _ _ rfl)
    have h2 : ((w.alloc (.cells A 25)).alloc (.cells B 25)).heap[w.heap.size + 1]? = some (.cells B 25 (0, 0)) := heap_new_at _ _ _ (by simp)
    have h3 : Below w.heap.size w ((w.alloc (.cells A 25)).alloc (.cells B 25)) := ((Below.refl _ w).alloc (Nat.le_refl _) _).alloc (by simp) _
    exact ⟨(h.block _ (lt_of_heap h1)).trans h1, (h.block _ (lt_of_heap h2)).trans h2, bchain h3 h⟩)
  go_enter Try.func4, Try.ntmps4
  go_wp2_with fail
  generalize ((w.alloc (.cells A 25)).alloc (.cells B 25)) = w0 at *
  refine (nworks_any _).mono ?_
  rintro e w1 ⟨rfl, hb1⟩
  have HX1 := Lib.hid hb1
  have R1 := HRn.out _ hb1
  clear hb1
  go_wp2_with (refine wpList_load_row (by rfl) _ _ (by rfl) w.heap.size (by rfl) _ A _ _ R1.1 Try.underlying25 (by rfl) HIn.out ?_)
  refine (HBn.out _).mono ?_
  rintro e w2 ⟨rfl, hb2⟩
  have HX2 := Lib.hid (bchain HX1.out hb2)
  have R2 := HRn.out _ HX2.out
  clear hb2 R1
  cases hbn : Nd.bigB n with
  | true =>
    clear hbn
    go_wp2
    go_ret
    exact ⟨rfl, R2.2.2⟩
  | false =>
    go_wp2_with (refine wpList_load_row_w (by rfl) _ _ (by rfl) (w.heap.size + 1) (by rfl) _ B _ _ R2.2.1 Try.underlying25 (by rfl) HIm.out ?_)
    refine (HBm.out _).mono ?_
    rintro e w3 ⟨rfl, hb3⟩
    have HX3 := Lib.hid (bchain HX2.out hb3)
    have R3 := HRn.out _ HX3.out
    clear hb3 R2 hbn
    cases hbm : Nd.bigB m with
    | true =>
      clear hbm
      go_wp2
      go_ret
      exact ⟨rfl, R3.2.2⟩
    | false =>
      clear hbm
      go_wp2_with (refine wpList_load_row (by rfl) _ _ (by rfl) w.heap.size (by rfl) _ A _ _ R3.1 Try.underlying25 (by rfl) HIn.out ?_)
      refine (HEn.out _).mono ?_
      rintro e w4 ⟨rfl, hb4⟩
      have HX4 := Lib.hid (bchain HX3.out hb4)
      have R4 := HRn.out _ HX4.out
      clear hb4 R3
      go_wp2_with (refine wpList_load_row (by rfl) _ _ (by rfl) (w.heap.size + 1) (by rfl) _ B _ _ R4.2.1 Try.underlying25 (by rfl) HIm.out ?_)
      refine (HEm.out _).mono ?_
      rintro e w5 ⟨rfl, hb5⟩
      have HX5 := Lib.hid (bchain HX4.out hb5)
      have R5 := HRn.out _ HX5.out
      clear hb5 R4
      rcases HFn.out with rfl | ⟨rfl, hfn, hT⟩
      · go_wp2
        go_ret
        exact ⟨rfl, R5.2.2⟩
      rcases HFm.out with rfl | ⟨rfl, hfm, hV⟩
      · clear hfn hT
        go_wp2
        go_ret
        exact ⟨rfl, R5.2.2⟩
      have hin := fun h => Nd.written_inj hn hm hfn hfm h
      have htk := fun h => Nd.written_take hn hm hfn hfm h
      have hl1 := Nd.written_most n hn hfn
      have hl2 := Nd.written_most m hm hfm
      have het := ext_take V T.length
      rw [← hT, ← hV] at hin htk
      rw [← hT] at hl1
      rw [← hV] at hl2
      have hl3 : (T.length : Int) ≤ 1000 := by omega
      have hl4 : (V.length : Int) ≤ 1000 := by omega
      by_cases hnm : n = m
      · subst hnm
        rw [decide_eq_true rfl] at heq
        obtain rfl : T = V := hT.trans hV.symm
        rw [List.take_length] at het
        clear hin htk hfn hfm hl1 hl2 hT hV HFn HFm
        go_wp2_with (first | (refine wpList_load_row (by rfl) _ _ (by rfl) w.heap.size (by rfl) _ A _ _ R5.1 Try.underlying25 (by rfl) HIn.out ?_) | (refine wpList_load_row (by rfl) _ _ (by rfl) (w.heap.size + 1) (by rfl) _ B _ _ R5.2.1 Try.underlying25 (by rfl) HIm.out ?_))
        go_ret
        exact ⟨rfl, R5.2.2⟩
      · rw [decide_eq_false hnm] at heq
        have hne1 : (T == V) = false := by rw [beq_eq_false_iff_ne]; exact fun h => hnm (hin h)
        have hnt : V.take T.length ≠ T := fun h => hnm (htk h)
        obtain ⟨K, hK⟩ : ∃ K, V.take T.length = K := ⟨_, rfl⟩
        rw [hK] at het hnt
        have hnt1 : (K == T) = false := by rw [beq_eq_false_iff_ne]; exact hnt
        clear hin htk hfn hfm hT hV hK hl1 hl2 hnt HFn HFm
        by_cases hle : (T.length : Int) ≤ (V.length : Int)
        · go_wp2_with (first | (refine wpList_load_row (by rfl) _ _ (by rfl) w.heap.size (by rfl) _ A _ _ R5.1 Try.underlying25 (by rfl) HIn.out ?_) | (refine wpList_load_row (by rfl) _ _ (by rfl) (w.heap.size + 1) (by rfl) _ B _ _ R5.2.1 Try.underlying25 (by rfl) HIm.out ?_))
          go_ret
          exact ⟨rfl, R5.2.2⟩
        · go_wp2_with (first | (refine wpList_load_row (by rfl) _ _ (by rfl) w.heap.size (by rfl) _ A _ _ R5.1 Try.underlying25 (by rfl) HIn.out ?_) | (refine wpList_load_row (by rfl) _ _ (by rfl) (w.heap.size + 1) (by rfl) _ B _ _ R5.2.1 Try.underlying25 (by rfl) HIm.out ?_))
          go_ret
          exact ⟨rfl, R5.2.2⟩
end Go.Proofs.Ytjbagjhadmbjnaa
