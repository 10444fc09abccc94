/- The law NodeSum, walked. -/
import Derived.Test.YtjbagjhadmbjnaaDoorPk09
namespace Go.Proofs.YtjbagjhadmbjnaaDoor
open Go.RowKit
open Go.Proofs.YtjbagjhadmbjnaaDoor.Nd (N)

theorem Nd.kidsL_flat (l : List (List UInt8)) : l.flatten = (Nd.kidsL l).flatten := by
  induction l with
  | nil => rfl
  | cons a l ih =>
    rw [Nd.kidsL_cons]
    by_cases h : a = []
    · rw [if_pos h, h, List.flatten_cons, ih]; rfl
    · rw [if_neg h, List.flatten_cons, List.flatten_cons, ih]
theorem Nd.flat32 (K : List (List UInt8)) (h : ∀ x ∈ K, x.length = 32) : K.flatten.length = 32 * K.length := by
  induction K with
  | nil => rfl
  | cons a K ih =>
    rw [List.flatten_cons, List.length_append, List.length_cons, ih (fun x hx => h x (List.mem_cons_of_mem _ hx)), h a List.mem_cons_self]
    omega
theorem Nd.flat_at (K : List (List UInt8)) (h : ∀ x ∈ K, x.length = 32) (t : List UInt8) (k : Nat) (hk : k < K.length) : ((K.flatten ++ t).drop (32 * k)).take 32 = K[k] := by
  induction K generalizing k with
  | nil => exact absurd hk (Nat.not_lt_zero _)
  | cons a K ih =>
    have ha := h a List.mem_cons_self
    match k, hk with
    | 0, _ =>
      rw [List.flatten_cons, List.append_assoc, Nat.mul_zero, List.drop_zero, List.getElem_cons_zero]
      exact List.take_left' ha
    | k + 1, hk =>
      have h1 := ih (fun x hx => h x (List.mem_cons_of_mem _ hx)) k (by simpa using hk)
      rw [List.flatten_cons, List.append_assoc, List.getElem_cons_succ, ← h1, show 32 * (k + 1) = a.length + 32 * k by omega, ← List.drop_drop, List.drop_left]
theorem Nd.kids32 {n : N} (h : Nd.all32 n.kids = true) : ∀ x ∈ Nd.kidsL n.kids, x.length = 32 := by
  intro x hx
  unfold Nd.kidsL at hx
  rw [List.mem_filter, decide_eq_true_eq] at hx
  have := List.all_eq_true.1 h x hx.1
  simp only [Bool.or_eq_true, decide_eq_true_eq] at this
  exact this.resolve_left hx.2
/-- Where a branch's kids stand in its bytes. -/
theorem Nd.branch_at (n : N) (hk : n.kind = 3) (ha : Nd.all32 n.kids = true) (k : Nat) (h : k < (Nd.kidsL n.kids).length) : 3 + 32 * k + 32 ≤ (Nd.written n).length ∧ ((Nd.written n).drop (3 + 32 * k)).take 32 = (Nd.kidsL n.kids)[k] := by
  have h32 := Nd.kids32 ha
  have hw : Nd.written n = ([3, Nd.byteN (Nd.bits8 (n.kids.take 8)), Nd.byteN (Nd.bits8 (n.kids.drop 8))] : List UInt8) ++ ((Nd.kidsL n.kids).flatten ++ Code.textL n.val) := by
    unfold Nd.written Nd.branchL
    rw [hk, if_pos rfl, Nd.kidsL_flat]
    rfl
  rw [hw]
  constructor
  · rw [List.length_append, List.length_append, Nd.flat32 _ h32]
    simp only [List.length_cons, List.length_nil]
    omega
  · rw [show 3 + 32 * k = ([3, Nd.byteN (Nd.bits8 (n.kids.take 8)), Nd.byteN (Nd.bits8 (n.kids.drop 8))] : List UInt8).length + 32 * k from rfl, ← List.drop_drop, List.drop_left]
    exact Nd.flat_at _ h32 _ k h
theorem Nd.ext_kids (n : N) (hn : n.kids.length = 16) (hk : n.kind = 2) (hf : Nd.fine n = true) : ∃ z, Nd.kidsL n.kids = [z] ∧ z.length = 32 ∧ 32 ≤ (Nd.written n).length ∧ (Nd.written n).drop ((Nd.written n).length - 32) = z := by
  have h := Nd.fine_kinds n hn
  rw [hf, hk, if_neg (by decide), if_pos rfl] at h
  have h' := h.symm
  simp only [Nd.extB, Bool.and_eq_true, decide_eq_true_eq, beq_iff_eq] at h'
  obtain ⟨_, _, _, h4, h5⟩ := h'
  refine ⟨n.kids.getD 0 [], ?_, h4, ?_, ?_⟩
  · match hks : n.kids, hn with
    | z :: l, hn =>
      rw [hks] at h5 h4
      have hz : z ≠ [] := fun q => by rw [q] at h4; simp at h4
      have hl : l = List.replicate 15 [] := by simpa [Nd.none16, List.replicate_succ] using h5
      rw [Nd.kidsL_cons, if_neg hz, (Nd.kidsL_nil l).2 (by rw [hl]; simp)]
      rfl
  · unfold Nd.written
    rw [hk, if_neg (by decide), if_neg (by decide), List.length_cons, List.length_append]
    omega
  · have hw : Nd.written n = ((2 : UInt8) :: Code.textL (Nib.packL n.path false)) ++ n.kids.getD 0 [] := by
      unfold Nd.written
      rw [hk]
      rfl
    rw [hw, List.length_append, h4, Nat.add_sub_cancel, List.drop_left]
set_option maxRecDepth 100000 in
set_option maxHeartbeats 8000000 in
theorem nodeSum_walk (n : N) (w : World) (hn : n.kids.length = 16) (hTab : Tab w) :
    Calls Tryd.prog 5 #[nval n] w fun e w' => e = .returned (.bool true) ∧ Below w.heap.size w w' := by
  have HBn := Lib.hid (fun w => nbig_any n w hn)
  have HCn := Lib.hid (fun w => ncheck_any n w hn)
  have HEn := Lib.hid (fun w => nencode_any n w hn)
  have HGn := Lib.hid (fun w hT => ndigest_any n w hn hT)
  have HKn := Lib.hid (fun w h => nkids_any n w hn h)
  have hat : NodeAt (w.alloc (.cells (ncl n).toArray 24)) w.heap.size n := heap_new_at w _ _ rfl
  have hsn : (ncl n).toArray.size = 19 := by rw [List.size_toArray, ncl_length n hn]
  have HIn : Hid ((Tryd.prog.info? 24).map (·.size) = some (ncl n).toArray.size) := Lib.hid (by rw [hsn]; kernel_rfl)
  have HRn : Hid (∀ w', Below (w.alloc (.cells (ncl n).toArray 24)).heap.size (w.alloc (.cells (ncl n).toArray 24)) w' → w'.heap[w.heap.size]? = some (.cells (ncl n).toArray 24 (0, 0)) ∧ Below w.heap.size w w' ∧ Tab w' ∧ w'.cell? ⟨w.heap.size, 0, none⟩ = some (.int .i64 n.kind)) := Lib.hid (fun w' h => by
    have h3 : Below w.heap.size w (w.alloc (.cells (ncl n).toArray 24)) := (Below.refl _ w).alloc (Nat.le_refl _) _
    exact ⟨hat.below h, bchain h3 h, hTab.below (bchain h3 h), (hat.below h).kind⟩)
  unfold Nd.encS Nd.encC at HEn
  unfold Nd.sumS at HGn
  unfold KidsPost at HKn
  unfold nval at HBn HCn HEn HGn HKn ⊢
  obtain ⟨A, hA⟩ : ∃ A, (ncl n).toArray = A := ⟨_, rfl⟩
  rw [hA] at HBn HCn HEn HGn HKn HIn HRn ⊢
  clear hA hat hsn hTab
  go_enter Tryd.func5, Tryd.ntmps5
  go_wp2_with fail
  generalize (w.alloc (.cells A 24)) = w0 at *
  refine (nworks_any _).mono ?_
  rintro e w1 ⟨rfl, hb1⟩
  have HX1 := Lib.hid hb1
  have R1 := HRn.out _ hb1
  clear hb1
  go_wp2_with (refine wpList_load_row (by rfl) _ _ (by rfl) w.heap.size (by rfl) _ A _ _ R1.1 Tryd.underlying24 (by rfl) HIn.out ?_)
  refine (HBn.out _).mono ?_
  rintro e w2 ⟨rfl, hb2⟩
  have HX2 := Lib.hid (bchain HX1.out hb2)
  have R2 := HRn.out _ HX2.out
  clear hb2 R1
  cases hbn : Nd.bigB n with
  | true =>
    clear hbn
    go_wp2
    go_ret
    exact ⟨rfl, R2.2.1⟩
  | false =>
  have hsm := Nd.small hbn
  cases hf : Nd.fine n with
  | false =>
    rw [hf] at HCn
    rw [if_neg (by decide)] at HCn
    clear hf hbn
    go_wp2_with (refine wpList_load_row_w (by rfl) _ _ (by rfl) w.heap.size (by rfl) _ A _ _ R2.1 Tryd.underlying24 (by rfl) HIn.out ?_)
    refine (HCn.out _).mono ?_
    rintro e w3 ⟨rfl, hb3⟩
    have R3 := HRn.out _ (bchain HX2.out hb3)
    go_wp2
    go_ret
    exact ⟨rfl, R3.2.1⟩
  | true =>
  rw [hf] at HCn HEn HGn
  rw [if_pos rfl] at HCn HGn
  rw [if_pos rfl, if_pos rfl] at HEn
  have hl1 := Nd.written_most n hn hf
  have HKX : Hid (∀ w, Calls Tryd.prog 10 #[.agg A] w fun e w' => ∃ z, e = .returned z ∧ Own w' w.heap.size z (Nd.kidsL n.kids) ∧ Below w.heap.size w w') := Lib.hid (fun w => HKn.out w (fun x hx => by have := hsm.1 x hx; omega))
  obtain ⟨hall, _, _, _, hkd⟩ := Nd.fine_parts hf
  have HK32 := Lib.hid (Nd.kids32 hall)
  have HBR := Lib.hid (fun h k hk => Nd.branch_at n h hall k hk)
  have HEXT := Lib.hid (fun h => Nd.ext_kids n hn h hf)
  have HLF : Hid (n.kind = 1 → Nd.kidsL n.kids = []) := Lib.hid (fun h => by
    have h1 := Nd.fine_kinds n hn
    rw [hf, h, if_pos rfl] at h1
    have h2 := h1.symm
    simp only [Nd.leafB, Bool.and_eq_true, decide_eq_true_eq, beq_iff_eq] at h2
    rw [Nd.kidsL_nil, hn]
    exact h2.2.2.2)
  have hKl : (Nd.kidsL n.kids).length ≤ 16 := by
    unfold Nd.kidsL
    exact Nat.le_trans (List.length_filter_le _ _) (by omega)
  obtain ⟨T, hT⟩ : ∃ T, Nd.written n = T := ⟨_, rfl⟩
  rw [hT] at HEn HGn hl1 HBR HEXT
  obtain ⟨S, hS⟩ : ∃ S, Dig.sum 1 T = S := ⟨_, rfl⟩
  have hS32 : S.length = 32 := by rw [← hS, Dig.sum, if_pos (by decide)]; exact Sha.sumP_length _
  have HSU : Hid (∀ w', Tab w' → Calls Tryd.prog 19 #[.int .i64 1, .string ⟨T.toArray⟩] w' fun e w'' => e = .returned (.tuple #[.string ⟨S.toArray⟩, .int .i64 0]) ∧ Below w'.heap.size w' w'') := Lib.hid (fun w' h => by
    have := dsum_any 1 T w' h (by omega)
    rw [hS, show Dig.sumC 1 = 0 from by decide] at this
    exact this)
  rw [hS] at HGn
  obtain ⟨K, hK⟩ : ∃ K, Nd.kidsL n.kids = K := ⟨_, rfl⟩
  rw [hK] at HKX HK32 HEXT HLF hKl
  have HBR2 : Hid (n.kind = 3 → ∀ k (hk : k < K.length), 3 + 32 * k + 32 ≤ T.length ∧ (T.drop (3 + 32 * k)).take 32 = K[k]) := Lib.hid (fun h => by subst hK; exact HBR.out h)
  have hS33 : (S.length : Int) = 32 := by omega
  have hT700 : (T.length : Int) ≤ 700 := by omega
  have HKL := Lib.hid hKl
  clear hT hS hK hf hbn hsm hall HBR HKn hS32 hl1 hKl
  go_wp2_with (refine wpList_load_row_w (by rfl) _ _ (by rfl) w.heap.size (by rfl) _ A _ _ R2.1 Tryd.underlying24 (by rfl) HIn.out ?_)
  refine (HCn.out _).mono ?_
  rintro e w3 ⟨rfl, hb3⟩
  have HX3 := Lib.hid (bchain HX2.out hb3)
  have R3 := HRn.out _ HX3.out
  clear hb3 R2
  go_wp2_with (refine wpList_load_row (by rfl) _ _ (by rfl) w.heap.size (by rfl) _ A _ _ R3.1 Tryd.underlying24 (by rfl) HIn.out ?_)
  refine (HEn.out _).mono ?_
  rintro e w4 ⟨rfl, hb4⟩
  have HX4 := Lib.hid (bchain HX3.out hb4)
  have R4 := HRn.out _ HX4.out
  clear hb4 R3
  go_wp2_with fail
  refine (HSU.out _ R4.2.2.1).mono ?_
  rintro e w5 ⟨rfl, hb5⟩
  have HX5 := Lib.hid (bchain HX4.out hb5)
  have R5 := HRn.out _ HX5.out
  clear hb5 R4
  go_wp2_with (refine wpList_load_row_w (by rfl) _ _ (by rfl) w.heap.size (by rfl) _ A _ _ R5.1 Tryd.underlying24 (by rfl) HIn.out ?_)
  refine (HGn.out _ R5.2.2.1).mono ?_
  rintro e w6 ⟨rfl, hb6⟩
  have HX6 := Lib.hid (bchain HX5.out hb6)
  have R6 := HRn.out _ HX6.out
  clear hb6 R5
  go_wp2_with (refine wpList_load_row (by rfl) _ _ (by rfl) w.heap.size (by rfl) _ A _ _ R6.1 Tryd.underlying24 (by rfl) HIn.out ?_)
  refine (HKX.out _).mono ?_
  rintro e w7 ⟨z, rfl, hown, hb7⟩
  have HOW := Lib.hid hown
  obtain ⟨P, cap, rfl⟩ := own_form hown
  have HX7 := Lib.hid (bchain HX6.out hb7)
  have R7 := HRn.out _ HX7.out
  obtain ⟨-, hBel, -, hkc⟩ := R7
  have HBEL := Lib.hid hBel
  clear hb7 R6 hown hBel
  go_wp2_with fail
  rcases hkd with hk1 | hk2 | hk3
  · rw [hk1] at hkc
    obtain rfl : K = [] := HLF.out hk1
    go_loopw [8, 47] (fun a i wr => a = .int .i64 3 ∧ i = .int .i64 0 ∧ wr = w7) (fun _ _ _ => 0)
    case atStart => exact ⟨rfl, rfl, rfl⟩
    case round =>
      obtain ⟨rfl, rfl, rfl⟩ := hrel
      clear hk1 HLF HEXT HBR2
      go_wp2
      go_ret
      exact ⟨rfl, HBEL.out⟩
  · obtain ⟨z, rfl, hz32, hT32, hTz⟩ := HEXT.out hk2
    rw [hk2] at hkc
    have hex := ext_drop T (T.length - 32)
    rw [hTz] at hex
    have g1 : (T.length : Int) - 32 = ((T.length - 32 : Nat) : Int) := by omega
    have g2 : ((T.length - 32 : Nat) : Int) ≤ (T.length : Int) := by omega
    have g3 : (z.length : Int) = 32 := by omega
    have g4 : (32 : Int) ≤ (T.length : Int) := by omega
    obtain ⟨j, hj⟩ : ∃ j, T.length - 32 = j := ⟨_, rfl⟩
    rw [hj] at hex g1 g2
    obtain ⟨q, rfl, n0⟩ := HOW.out.strs_at (Below.refl _ _) 0 (by simp)
    rw [List.getElem_cons_zero] at n0
    have n1 : w7.cell? q = some (.string ⟨z.toArray⟩) := by rw [← n0]; congr 1
    clear hj hz32 hT32 hTz HLF HEXT HBR2 hk2 HK32
    go_loopw [8, 47] (fun a i wr => ∃ k : Nat, k ≤ 1 ∧ a = .int .i64 3 ∧ i = .int .i64 k ∧ wr = w7) (fun _ i _ => 1 - (intOf i).toNat)
    case atStart => exact ⟨0, by omega, rfl, rfl, rfl⟩
    case round =>
      obtain ⟨k, hk, rfl, rfl, rfl⟩ := hrel
      by_cases hk0 : k = 0
      · subst hk0
        go_wp2
        exact ⟨⟨1, by omega, rfl, rfl, trivial⟩, by simp [intOf]⟩
      · obtain rfl : k = 1 := by omega
        clear hk0
        go_wp2
        go_ret
        exact ⟨rfl, HBEL.out⟩
  · rw [hk3] at hkc
    go_loopw [8, 47] (fun a i wr => ∃ k b : Nat, k ≤ K.length ∧ a = .int .i64 b ∧ b = 3 + 32 * k ∧ i = .int .i64 k ∧ wr = w7) (fun _ i _ => K.length - (intOf i).toNat)
    case atStart => exact ⟨0, 3, by omega, rfl, rfl, rfl, rfl⟩
    case round =>
      obtain ⟨k, b, hk, rfl, hb, rfl, rfl⟩ := hrel
      by_cases hlt : k < K.length
      · have h1 : (k : Int) < (K.length : Int) := by omega
        have h0 : (0 : Int) ≤ (k : Int) := by omega
        have hK16 : (K.length : Int) ≤ 16 := by have := HKL.out; omega
        obtain ⟨q, rfl, n0⟩ := HOW.out.strs_at (Below.refl _ _) k hlt
        obtain ⟨b1, b2⟩ := HBR2.out hk3 k hlt
        have b3 := HK32.out _ (List.getElem_mem hlt)
        obtain ⟨x, hx⟩ : ∃ x, K[k] = x := ⟨_, rfl⟩
        rw [hx] at n0 b2 b3
        have hex : (⟨T.toArray⟩ : ByteArray).extract b (b + 32) = ⟨x.toArray⟩ := by
          rw [Lib.extract_eq, Nat.add_sub_cancel_left, hb, ← b2]
        have g1 : (x.length : Int) = 32 := by omega
        have g2 : ((b : Int) + 32) ≤ (T.length : Int) := by omega
        have g3 : ¬ ((T.length : Int) < (b : Int) + 32) := by omega
        have HB := Lib.hid hb
        clear hx b1 b2 b3 hb
        go_wp2
        exact ⟨⟨k + 1, b + 32, by omega, by go_num, by rw [HB.out]; omega, by go_num, trivial⟩, by simp [intOf]; omega⟩
      · have h1 : ¬ ((k : Int) < (K.length : Int)) := by omega
        clear hk3 HLF HEXT HBR2
        go_wp2
        go_ret
        exact ⟨rfl, HBEL.out⟩
end Go.Proofs.YtjbagjhadmbjnaaDoor
