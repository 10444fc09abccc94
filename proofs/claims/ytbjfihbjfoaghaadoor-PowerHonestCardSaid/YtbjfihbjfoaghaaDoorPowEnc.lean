/- power.number, Encode, Digest. -/
import Derived.Test.YtbjfihbjfoaghaaDoorPowTotal
import Derived.Test.YtbjfihbjfoaghaaDoorCodeText
import Derived.Test.YtbjfihbjfoaghaaDoorDigSum
import Derived.Deep.RegionWith
namespace Go.Proofs.YtbjfihbjfoaghaaDoor
open Go.RowKit
open Go.Proofs.YtbjfihbjfoaghaaDoor.Pw (M)

def Pw.encM (m : M) : List UInt8 := Code.textL m.name ++ Code.numL m.power.toNat
def Pw.encB (L : List M) : List UInt8 := Code.numL L.length ++ L.flatMap Pw.encM
def Pw.encL (L : List M) : List UInt8 := if Pw.okL L then Pw.encB L else []
theorem Pw.numL_le (n : Nat) (h : n < 2 ^ 63) : (Code.numL n).length ≤ 9 := by
  have := Code.numL_length n
  have := Code.sz_le8 n (by omega)
  omega
theorem Pw.encM_le (m : M) (h : m.name.length ≤ 6) (h1 : m.power ≤ 1000) : (Pw.encM m).length ≤ 24 := by
  have h2 := Pw.numL_le m.power.toNat (by omega)
  have h3 := Pw.numL_le m.name.length (by omega)
  simp only [Pw.encM, Code.textL, List.length_append]
  omega
theorem Pw.encs_le (L : List M) (h : ∀ m ∈ L, m.name.length ≤ 6 ∧ m.power ≤ 1000) : (L.flatMap Pw.encM).length ≤ 24 * L.length := by
  induction L with
  | nil => simp
  | cons m L ih =>
    have h1 := ih (fun x hx => h x (List.mem_cons_of_mem _ hx))
    have h2 := h m (List.mem_cons_self ..)
    have h3 := Pw.encM_le m h2.1 h2.2
    simp only [List.flatMap_cons, List.length_append, List.length_cons]
    omega
theorem Pw.encB_le {L : List M} (h : Pw.okL L = true) (k : Nat) : (Code.numL L.length ++ (L.take k).flatMap Pw.encM).length ≤ 200 := by
  have h1 := (Pw.okL_len h).2
  have h2 := Pw.numL_le L.length (by omega)
  have h3 := Pw.encs_le (L.take k) (fun m hm => by
    have := Pw.okL_mem h m (List.mem_of_mem_take hm)
    exact ⟨this.2.1, this.2.2.2⟩)
  have h4 : (L.take k).length ≤ 7 := by simp; omega
  rw [List.length_append]
  omega
theorem Pw.encL_le (L : List M) : (Pw.encL L).length ≤ 200 := by
  unfold Pw.encL
  split
  · rename_i h
    have := Pw.encB_le h L.length
    rwa [List.take_length] at this
  · simp
theorem Pw.encB_take (L : List M) (k : Nat) (h : k < L.length) : Code.numL L.length ++ (L.take (k + 1)).flatMap Pw.encM = (Code.numL L.length ++ (L.take k).flatMap Pw.encM) ++ (Code.textL L[k].name ++ Code.numL L[k].power.toNat) := by
  rw [List.take_succ_eq_append_getElem h, List.flatMap_append, List.append_assoc]
  simp [Pw.encM]

theorem pnumber_any (n : Nat) (hn : n < 2 ^ 63) (w : World) :
    Calls Tryd.prog 36 #[.int .i64 n] w fun e w' => e = .returned (.string ⟨(Code.numL n).toArray⟩) ∧ Below w.heap.size w w' := by
  go_enter Tryd.func36, Tryd.ntmps36
  go_wp2_with fail
  refine (num_any n hn w).mono ?_
  rintro e w1 ⟨rfl, hb⟩
  go_wp2
  go_ret
  exact ⟨rfl, hb⟩

set_option maxRecDepth 8000 in
set_option maxHeartbeats 2000000 in
theorem encode_any (L : List M) (v : Value) (w : World) (hv : Mems w v L) :
    Calls Tryd.prog 26 #[v] w fun e w' => e = .returned (.tuple #[.string ⟨(Pw.encL L).toArray⟩, .int .i64 (Pw.checkC L)]) ∧ Below w.heap.size w w' := by
  have HV := Lib.hid hv
  obtain ⟨A, cap, rfl⟩ := hv.form
  have HCK := Lib.hid (check_any L _ w HV.out)
  unfold Pw.encL
  cases hok : Pw.okL L with
  | false =>
    rw [Pw.checkC_bad hok] at HCK ⊢
    rw [if_neg (by simp)]
    clear hok hv
    go_enter Tryd.func26, Tryd.ntmps26
    go_wp2_with fail
    refine HCK.out.mono ?_
    rintro e w1 ⟨rfl, hb⟩
    go_wp2
    go_ret2
    exact ⟨rfl, hb⟩
  | true =>
    rw [Pw.checkC_ok hok] at HCK ⊢
    rw [if_pos rfl]
    have HOK := Lib.hid hok
    have hl7 := (Pw.okL_len hok).2
    have HN := Lib.hid (fun w => pnumber_any L.length (by omega) w)
    have HST := Lib.hid (Pw.encB_take L)
    have HLE := Lib.hid (Pw.encB_le hok)
    have HE : Hid (Pw.encB L = Code.numL L.length ++ (L.take L.length).flatMap Pw.encM) := Lib.hid (by rw [List.take_length]; rfl)
    obtain ⟨E, hE⟩ : ∃ E, Pw.encB L = E := ⟨_, rfl⟩
    obtain ⟨P, hP⟩ : ∃ P, Code.numL L.length = P := ⟨_, rfl⟩
    rw [hP] at HN HST HLE HE
    rw [hE] at HE ⊢
    clear hok hv hE hP
    go_enter Tryd.func26, Tryd.ntmps26
    go_wp2_with fail
    refine HCK.out.mono ?_
    rintro e w1 ⟨rfl, hb1⟩
    go_wp2_with fail
    refine (HN.out _).mono ?_
    rintro e w2 ⟨rfl, hb2⟩
    have HB2 := Lib.hid (bchain hb1 hb2)
    clear hb1 hb2
    go_wp2
    go_loopw [5, 18] (fun s i wr => ∃ k : Nat, k ≤ L.length ∧ i = .int .i64 k ∧ s = .string ⟨(P ++ (L.take k).flatMap Pw.encM).toArray⟩ ∧ Below w.heap.size w wr) (fun _ i _ => L.length - (intOf i).toNat)
    case atStart => exact ⟨0, Nat.zero_le _, rfl, by simp, HB2.out⟩
    case round =>
      obtain ⟨k, hk, rfl, rfl, hb⟩ := hrel
      have HB := Lib.hid hb
      clear hb HB2
      by_cases hlt : k < L.length
      · have h1 : (k : Int) < (L.length : Int) := by omega
        have h0 : (0 : Int) ≤ (k : Int) := by omega
        obtain ⟨b, o, rfl, n0, n1⟩ := HV.out.at HB.out k hlt
        have hst := HST.out k hlt
        have hle := HLE.out k
        have hmem := Pw.okL_mem HOK.out L[k] (List.getElem_mem hlt)
        obtain ⟨⟨x, q⟩, hm⟩ : ∃ m, L[k] = m := ⟨_, rfl⟩
        rw [hm] at n0 n1 hst hmem
        dsimp only at n0 n1 hst hmem
        obtain ⟨n, rfl⟩ : ∃ n : Nat, q = n := ⟨q.toNat, by omega⟩
        simp only [Int.toNat_natCast] at hst
        have HTX := Lib.hid (fun w => text_any x w (by omega))
        have HNM := Lib.hid (fun w => pnumber_any n (by omega) w)
        have htl : (Code.textL x).length ≤ 20 := by
          have := Pw.numL_le x.length (by omega)
          simp only [Code.textL, List.length_append]; omega
        have hnl := Pw.numL_le n (by omega)
        obtain ⟨X, hX⟩ : ∃ X, Code.textL x = X := ⟨_, rfl⟩
        obtain ⟨Y, hY⟩ : ∃ Y, Code.numL n = Y := ⟨_, rfl⟩
        rw [hX] at HTX hst htl
        rw [hY] at HNM hst hnl
        obtain ⟨S, hS⟩ : ∃ S, P ++ (L.take k).flatMap Pw.encM = S := ⟨_, rfl⟩
        rw [hS] at hst hle ⊢
        have hcm1 := cat_mk X Y
        have hcm2 := cat_mk S (X ++ Y)
        have hxy : (X ++ Y).length ≤ 40 := by rw [List.length_append]; omega
        obtain ⟨Z, hZ⟩ : ∃ Z, X ++ Y = Z := ⟨_, rfl⟩
        rw [hZ] at hcm1 hcm2 hst hxy
        obtain ⟨S2, hS2⟩ : ∃ S2, S ++ Z = S2 := ⟨_, rfl⟩
        rw [hS2] at hcm2 hst
        have HST2 := Lib.hid hst
        clear hm hX hY hS hZ hS2 hst hmem
        go_wp2_with fail
        have HBN := Lib.hid (HB.out.alloc HB.out.size (.cells #[.string ⟨x.toArray⟩, .int .i64 (n : Int)] 43))
        have c0 : (wr.alloc (.cells #[.string ⟨x.toArray⟩, .int .i64 (n : Int)] 43)).cell? ⟨wr.heap.size, 0, none⟩ = some (.string ⟨x.toArray⟩) := cell_of_row _ _ _ _ _ _ (heap_new_at _ _ _ rfl)
        have c1 : (wr.alloc (.cells #[.string ⟨x.toArray⟩, .int .i64 (n : Int)] 43)).cell? ⟨wr.heap.size, 1, none⟩ = some (.int .i64 (n : Int)) := cell_of_row _ _ _ _ _ _ (heap_new_at _ _ _ rfl)
        have hsz : wr.heap.size < (wr.alloc (.cells #[.string ⟨x.toArray⟩, .int .i64 (n : Int)] 43)).heap.size := by simp
        generalize wr.alloc (.cells #[.string ⟨x.toArray⟩, .int .i64 (n : Int)] 43) = w0 at *
        have HC1 : Hid (∀ w', Below w0.heap.size w0 w' → w'.cell? ⟨wr.heap.size, 1, none⟩ = some (.int .i64 (n : Int))) := Lib.hid (fun w' hb => (hb.cell hsz).trans c1)
        have HBD : Hid (Below w0.heap.size w0 w0.drew) := Lib.hid (Below.refl _ w0).drew
        go_region_with (first | (go_at_call 37; refine (HTX.out _).mono ?_; rintro e wa ⟨rfl, hba⟩; have hBa : Below w0.heap.size w0 wa := bchain HBD.out hba; have hca := HC1.out wa hBa) | (go_at_call 36; refine (HNM.out _).mono ?_; rintro e wb ⟨rfl, hbb⟩))
        all_goals
          have hbn := bchain HBN.out (bchain hBa hbb)
          clear hba hbb hBa hca
          go_wp2
          exact ⟨⟨k + 1, by omega, by go_num, by rw [HST2.out], hbn⟩, by simp [intOf]; omega⟩
      · have h1 : ¬ ((k : Int) < (L.length : Int)) := by omega
        obtain rfl : k = L.length := by omega
        rw [← HE.out]
        go_wp2
        go_ret2
        exact ⟨rfl, HB.out⟩

/-- What Digest answers. -/
def Pw.digL (L : List M) : List UInt8 := if Pw.okL L then Sha.sumP (Sha.byteOf 4 :: Pw.encB L) else []
theorem Pw.digL_length (L : List M) : (Pw.digL L).length = if Pw.okL L then 32 else 0 := by
  unfold Pw.digL
  cases Pw.okL L
  · rfl
  · simp [Sha.sumP_length]
set_option maxRecDepth 8000 in
theorem digest_any (L : List M) (v : Value) (w : World) (hv : Mems w v L) (hT : Tab w) :
    Calls Tryd.prog 31 #[v] w fun e w' => e = .returned (.string ⟨(Pw.digL L).toArray⟩) ∧ Below w.heap.size w w' := by
  have HT := Lib.hid hT
  have HEN := Lib.hid (encode_any L v w hv)
  have hle := Pw.encL_le L
  obtain ⟨A, cap, rfl⟩ := hv.form
  cases hok : Pw.okL L with
  | false =>
    rw [Pw.checkC_bad hok, show Pw.encL L = [] by simp [Pw.encL, hok]] at HEN
    rw [show Pw.digL L = [] by simp [Pw.digL, hok]]
    clear hok hv hT hle
    go_enter Tryd.func31, Tryd.ntmps31
    go_wp2_with fail
    refine HEN.out.mono ?_
    rintro e w1 ⟨rfl, hb⟩
    go_wp2
    go_ret
    exact ⟨rfl, hb⟩
  | true =>
    have e1 : Pw.encL L = Pw.encB L := by simp [Pw.encL, hok]
    rw [Pw.checkC_ok hok, e1] at HEN
    rw [e1] at hle
    rw [show Pw.digL L = Dig.sum 4 (Pw.encB L) by simp [Pw.digL, hok, Dig.sum, Dig.isTag]]
    have HD := Lib.hid (fun w hT => dsum_any 4 (Pw.encB L) w hT (by omega))
    obtain ⟨E, hE⟩ : ∃ E, Pw.encB L = E := ⟨_, rfl⟩
    rw [hE] at HEN HD hle ⊢
    obtain ⟨D, hD⟩ : ∃ D, Dig.sum 4 E = D := ⟨_, rfl⟩
    obtain ⟨C, hC⟩ : ∃ C, Dig.sumC 4 = C := ⟨_, rfl⟩
    rw [hD, hC] at HD
    rw [hD]
    clear hok hv hT hE hD hC e1
    go_enter Tryd.func31, Tryd.ntmps31
    go_wp2_with fail
    refine HEN.out.mono ?_
    rintro e w1 ⟨rfl, hb⟩
    go_wp2_with fail
    refine (HD.out _ (HT.out.below hb)).mono ?_
    rintro e w2 ⟨rfl, hb2⟩
    go_wp2
    go_ret
    exact ⟨rfl, bchain hb hb2⟩
end Go.Proofs.YtbjfihbjfoaghaaDoor
