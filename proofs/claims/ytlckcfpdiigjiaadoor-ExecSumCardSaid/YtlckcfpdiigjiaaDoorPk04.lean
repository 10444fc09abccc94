/- ShaWorks, DigSum, PowEnc, PowDec, TxMath, OwnStr, RowList, TriList, TriRefList, TriRefGet, TriRefPut, TriRefDel -/
import Derived.Test.YtlckcfpdiigjiaaDoorPk02
import Derived.Test.YtlckcfpdiigjiaaDoorPk03
import Derived.KernelRfl
import Derived.Deep.RegionWith
import Derived.Test.YtlckcfpdiigjiaaDoorPk01
import Derived.Maps.AppendAt
import Derived.WalkSpells
import Derived.WalkLawsBesides
import Derived.Lib.Strings
import Derived.WalkKit
import Derived.Lib.Hide
namespace Go.Proofs.YtlckcfpdiigjiaaDoor.Sha
set_option maxRecDepth 100000
end Go.Proofs.YtlckcfpdiigjiaaDoor.Sha
namespace Go.Proofs.YtlckcfpdiigjiaaDoor
open Go.RowKit

set_option maxRecDepth 8000 in
set_option maxHeartbeats 1000000 in
theorem sum_any (s : List UInt8) (w : World) (hT : Tab w) (hl : s.length ≤ 1152921504606800000) :
    Calls Tryd.prog 50 #[.string ⟨s.toArray⟩] w fun e w' => e = .returned (.string ⟨(Sha.sumP s).toArray⟩) ∧ Below w.heap.size w w' := by
  have hz := (zero_of_info Tryd.zero73).1
  obtain ⟨Z, hZ⟩ : ∃ Z, (hashL ⟨0, 0, 0, 0, 0, 0, 0, 0⟩ (List.replicate 64 0) 0).toArray = Z := ⟨_, rfl⟩
  obtain ⟨C, hC⟩ : ∃ C, (hashL Sha.first (List.replicate 64 0) 0).toArray = C := ⟨_, rfl⟩
  have hZs : Z.size = 73 := by rw [← hZ, List.size_toArray, hashL_length _ _ _ (by simp)]
  have hCs : C.size = 73 := by rw [← hC, List.size_toArray, hashL_length _ _ _ (by simp)]
  have hC1 : C.all (·.oneCell') = true := by rw [← hC]; exact hash_one _ _ _
  have hi : (Tryd.prog.info? 107).map (·.size) = some C.size := by rw [hCs]; exact (zero_of_info Tryd.zero73).2
  have hst : ∀ w' p, w'.heap[p]? = some (.cells C 107 (0, 0)) → HashIs w' p [] := fun w' p h => HashIs.start (by rw [hC]; exact h)
  have hbu := built_hash
  rw [hC] at hbu
  rw [hZ] at hz
  have HBU := Lib.hid hbu
  have HI := Lib.hid hi
  have HC1 := Lib.hid hC1
  have HZC : Hid (Z.size = C.size) := Lib.hid (by rw [hZs, hCs])
  have HST := Lib.hid hst
  have HT := Lib.hid hT
  clear hi hC1 hZs hCs hst hT hC hZ hbu
  go_enter Tryd.func50, Tryd.ntmps50
  go_wp2_with fail
  refine (first_any _).mono ?_
  rintro e w1 ⟨rfl, hb1⟩
  go_wp2_with (first | (refine wpList_build_to (by rfl) _ _ (by rfl) [(0, .agg (u32s Sha.first.list))] (by first | rfl | (simp [Act.eval]; done) | kernel_rfl) C HBU.out ?_) | (refine wpList_store_new (by rfl) _ _ _ (by rfl) w1.heap.size rfl C (by rfl) (by rfl) _ Z HI.out HZC.out HC1.out ?_))
  have hB2 : Below w.heap.size w (w1.alloc (.cells C 107)) := hb1.alloc hb1.size _
  have hh2 : HashIs (w1.alloc (.cells C 107)) w1.heap.size [] := HST.out _ _ (heap_new_at _ _ _ rfl)
  have hT2 := HT.out.below hB2
  have hp : 0 < w1.heap.size := Nat.lt_of_lt_of_le HT.out.pos hb1.size
  have HW := Lib.hid (write_any [] s w1.heap.size _ hh2 hT2 hp (by simp; omega))
  have HB2 := Lib.hid hB2
  have HS1 := Lib.hid hb1.size
  clear hb1 hB2 hh2 hT2
  refine HW.out.mono ?_
  rintro e w3 ⟨rfl, hh3, ho3⟩
  have hB3 : Below w.heap.size w w3 := HB2.out.trans (ho3.below HS1.out HB2.out.size)
  have HS := Lib.hid (hsum_any s w1.heap.size w3 (by simpa using hh3) (HT.out.below hB3) (by omega))
  have HB3 := Lib.hid hB3
  clear hh3 ho3 hB3
  go_wp2_with fail
  refine HS.out.mono ?_
  rintro e w4 ⟨rfl, hb4⟩
  go_wp2
  go_ret
  exact ⟨rfl, HB3.out.trans (hb4.mono HB3.out.size)⟩

end Go.Proofs.YtlckcfpdiigjiaaDoor
namespace Go.Proofs.YtlckcfpdiigjiaaDoor
open Go.RowKit

theorem isTag_any (t : Int) (w : World) :
    Calls Tryd.prog 49 #[.int .i64 t] w fun e w' => e = .returned (.bool (Dig.isTag t)) ∧ w' = w := by
  unfold Dig.isTag
  by_cases h1 : 1 ≤ t
  · by_cases h2 : t ≤ 255
    · go_enter Tryd.func49, Tryd.ntmps49
      go_wp2
      go_ret
      simp [h1, h2]
    · go_enter Tryd.func49, Tryd.ntmps49
      go_wp2
      go_ret
      simp [h2]
  · go_enter Tryd.func49, Tryd.ntmps49
    go_wp2
    go_ret
    simp
    omega

/-- What Sum answers. -/
def Dig.sum (t : Int) (s : List UInt8) : List UInt8 := if Dig.isTag t then Sha.sumP (Sha.byteOf t :: s) else []
def Dig.sumC (t : Int) : Int := if Dig.isTag t then 0 else 1
theorem conv_tag (w : World) (x : Int) : (convert 91 9 (.slice (some ⟨w.heap.size, 0, none⟩) 1 1)).run Tryd.prog (w.alloc (.cells #[.int .u8 (x % 256)] 5)) = .ok (.string ⟨[Sha.byteOf x].toArray⟩) (w.alloc (.cells #[.int .u8 (x % 256)] 5)) := by
  have hg := heap_alloc_new w (.cells #[.int .u8 (x % 256)] 5)
  refine run_convert_bytes_back (P := Tryd.prog) _ 91 9 5 ⟨w.heap.size, 0, none⟩ 1 [Sha.byteOf x] Tryd.underlying91 Tryd.underlying5 Tryd.underlying9 ?_
  intro j hj
  rw [Addr.add_mid, Nat.zero_add, cell_of_row _ _ j _ _ _ hg]
  match j, hj with
  | 0, _ => simp [Sha.byteOf_toNat]

set_option maxRecDepth 8000 in
set_option maxHeartbeats 1000000 in
theorem dsum_any (t : Int) (s : List UInt8) (w : World) (hT : Tab w) (hs : s.length ≤ 140737488351232) :
    Calls Tryd.prog 32 #[.int .i64 t, .string ⟨s.toArray⟩] w fun e w' => e = .returned (.tuple #[.string ⟨(Dig.sum t s).toArray⟩, .int .i64 (Dig.sumC t)]) ∧ Below w.heap.size w w' := by
  unfold Dig.sum Dig.sumC
  by_cases ht : Dig.isTag t = true
  · have HT := Lib.hid ht
    have HTB := Lib.hid hT
    rw [if_pos ht, if_pos ht]
    have HS := Lib.hid (fun w hw => sum_any (Sha.byteOf t :: s) w hw (by simp; omega))
    obtain ⟨R, hR⟩ : ∃ R, Sha.sumP (Sha.byteOf t :: s) = R := ⟨_, rfl⟩
    rw [hR] at HS ⊢
    have hcm := cat_mk [Sha.byteOf t] s
    have kc := fun w => conv_tag w t
    rw [List.singleton_append] at hcm
    clear ht hR hT
    go_enter Tryd.func32, Tryd.ntmps32
    go_wp2_with fail
    refine (isTag_any t _).mono ?_
    rintro e w1 ⟨rfl, rfl⟩
    rw [HT.out]
    have hB1 : Below w1.heap.size w1 (w1.alloc (.cells #[.int .u8 (t % 256)] 5)) := (Below.refl _ w1).alloc (Nat.le_refl _) _
    go_wp2_with fail
    refine (HS.out _ (HTB.out.below hB1)).mono ?_
    rintro e w2 ⟨rfl, hb2⟩
    go_wp2
    go_ret2
    exact ⟨rfl, bchain hB1 hb2⟩
  · have hf : Dig.isTag t = false := by simpa using ht
    have HF := Lib.hid hf
    rw [if_neg ht, if_neg ht]
    clear ht hf
    go_enter Tryd.func32, Tryd.ntmps32
    go_wp2_with fail
    refine (isTag_any t _).mono ?_
    rintro e w1 ⟨rfl, rfl⟩
    rw [HF.out]
    go_wp2
    go_ret2
    exact ⟨rfl, Below.refl _ _⟩
end Go.Proofs.YtlckcfpdiigjiaaDoor
namespace Go.Proofs.YtlckcfpdiigjiaaDoor
open Go.RowKit
open Go.Proofs.YtlckcfpdiigjiaaDoor.Pw (M)

def Pw.encM (m : M) : List UInt8 := Code.textL m.name ++ Code.numL m.power.toNat
def Pw.encB (L : List M) : List UInt8 := Code.numL L.length ++ L.flatMap Pw.encM
def Pw.encL (L : List M) : List UInt8 := if Pw.okL L then Pw.encB L else []
theorem Pw.numL_le (n : Nat) (h : n < 2 ^ 63) : (Code.numL n).length ≤ 9 := by
  have := Code.numL_length n
  have := Code.sz_le8 n (by omega)
  omega
theorem Pw.encM_le (m : M) (h : m.name.length ≤ 6) (h1 : m.power ≤ 1000) : (Pw.encM m).length ≤ 24 := by
  have h2 := Pw.numL_le m.power.toNat (by omega)
  have h3 := Pw.numL_le m.name.length (by omega)
  simp only [Pw.encM, Code.textL, List.length_append]
  omega
theorem Pw.encs_le (L : List M) (h : ∀ m ∈ L, m.name.length ≤ 6 ∧ m.power ≤ 1000) : (L.flatMap Pw.encM).length ≤ 24 * L.length := by
  induction L with
  | nil => simp
  | cons m L ih =>
    have h1 := ih (fun x hx => h x (List.mem_cons_of_mem _ hx))
    have h2 := h m (List.mem_cons_self ..)
    have h3 := Pw.encM_le m h2.1 h2.2
    simp only [List.flatMap_cons, List.length_append, List.length_cons]
    omega
theorem Pw.encB_le {L : List M} (h : Pw.okL L = true) (k : Nat) : (Code.numL L.length ++ (L.take k).flatMap Pw.encM).length ≤ 200 := by
  have h1 := (Pw.okL_len h).2
  have h2 := Pw.numL_le L.length (by omega)
  have h3 := Pw.encs_le (L.take k) (fun m hm => by
    have := Pw.okL_mem h m (List.mem_of_mem_take hm)
    exact ⟨this.2.1, this.2.2.2⟩)
  have h4 : (L.take k).length ≤ 7 := by simp; omega
  rw [List.length_append]
  omega
theorem Pw.encL_le (L : List M) : (Pw.encL L).length ≤ 200 := by
  unfold Pw.encL
  split
  · rename_i h
    have := Pw.encB_le h L.length
    rwa [List.take_length] at this
  · simp
theorem Pw.encB_take (L : List M) (k : Nat) (h : k < L.length) : Code.numL L.length ++ (L.take (k + 1)).flatMap Pw.encM = (Code.numL L.length ++ (L.take k).flatMap Pw.encM) ++ (Code.textL L[k].name ++ Code.numL L[k].power.toNat) := by
  rw [List.take_succ_eq_append_getElem h, List.flatMap_append, List.append_assoc]
  simp [Pw.encM]

theorem pnumber_any (n : Nat) (hn : n < 2 ^ 63) (w : World) :
    Calls Tryd.prog 47 #[.int .i64 n] w fun e w' => e = .returned (.string ⟨(Code.numL n).toArray⟩) ∧ Below w.heap.size w w' := by
  go_enter Tryd.func47, Tryd.ntmps47
  go_wp2_with fail
  refine (num_any n hn w).mono ?_
  rintro e w1 ⟨rfl, hb⟩
  go_wp2
  go_ret
  exact ⟨rfl, hb⟩

set_option maxRecDepth 8000 in
set_option maxHeartbeats 2000000 in
theorem encode_any (L : List M) (v : Value) (w : World) (hv : Mems w v L) :
    Calls Tryd.prog 31 #[v] w fun e w' => e = .returned (.tuple #[.string ⟨(Pw.encL L).toArray⟩, .int .i64 (Pw.checkC L)]) ∧ Below w.heap.size w w' := by
  have HV := Lib.hid hv
  obtain ⟨A, cap, rfl⟩ := hv.form
  have HCK := Lib.hid (check_any L _ w HV.out)
  unfold Pw.encL
  cases hok : Pw.okL L with
  | false =>
    rw [Pw.checkC_bad hok] at HCK ⊢
    rw [if_neg (by simp)]
    clear hok hv
    go_enter Tryd.func31, Tryd.ntmps31
    go_wp2_with fail
    refine HCK.out.mono ?_
    rintro e w1 ⟨rfl, hb⟩
    go_wp2
    go_ret2
    exact ⟨rfl, hb⟩
  | true =>
    rw [Pw.checkC_ok hok] at HCK ⊢
    rw [if_pos rfl]
    have HOK := Lib.hid hok
    have hl7 := (Pw.okL_len hok).2
    have HN := Lib.hid (fun w => pnumber_any L.length (by omega) w)
    have HST := Lib.hid (Pw.encB_take L)
    have HLE := Lib.hid (Pw.encB_le hok)
    have HE : Hid (Pw.encB L = Code.numL L.length ++ (L.take L.length).flatMap Pw.encM) := Lib.hid (by rw [List.take_length]; rfl)
    obtain ⟨E, hE⟩ : ∃ E, Pw.encB L = E := ⟨_, rfl⟩
    obtain ⟨P, hP⟩ : ∃ P, Code.numL L.length = P := ⟨_, rfl⟩
    rw [hP] at HN HST HLE HE
    rw [hE] at HE ⊢
    clear hok hv hE hP
    go_enter Tryd.func31, Tryd.ntmps31
    go_wp2_with fail
    refine HCK.out.mono ?_
    rintro e w1 ⟨rfl, hb1⟩
    go_wp2_with fail
    refine (HN.out _).mono ?_
    rintro e w2 ⟨rfl, hb2⟩
    have HB2 := Lib.hid (bchain hb1 hb2)
    clear hb1 hb2
    go_wp2
    go_loopw [5, 18] (fun s i wr => ∃ k : Nat, k ≤ L.length ∧ i = .int .i64 k ∧ s = .string ⟨(P ++ (L.take k).flatMap Pw.encM).toArray⟩ ∧ Below w.heap.size w wr) (fun _ i _ => L.length - (intOf i).toNat)
    case atStart => exact ⟨0, Nat.zero_le _, rfl, by simp, HB2.out⟩
    case round =>
      obtain ⟨k, hk, rfl, rfl, hb⟩ := hrel
      have HB := Lib.hid hb
      clear hb HB2
      by_cases hlt : k < L.length
      · have h1 : (k : Int) < (L.length : Int) := by omega
        have h0 : (0 : Int) ≤ (k : Int) := by omega
        obtain ⟨b, o, rfl, n0, n1⟩ := HV.out.at HB.out k hlt
        have hst := HST.out k hlt
        have hle := HLE.out k
        have hmem := Pw.okL_mem HOK.out L[k] (List.getElem_mem hlt)
        obtain ⟨⟨x, q⟩, hm⟩ : ∃ m, L[k] = m := ⟨_, rfl⟩
        rw [hm] at n0 n1 hst hmem
        dsimp only at n0 n1 hst hmem
        obtain ⟨n, rfl⟩ : ∃ n : Nat, q = n := ⟨q.toNat, by omega⟩
        simp only [Int.toNat_natCast] at hst
        have HTX := Lib.hid (fun w => text_any x w (by omega))
        have HNM := Lib.hid (fun w => pnumber_any n (by omega) w)
        have htl : (Code.textL x).length ≤ 20 := by
          have := Pw.numL_le x.length (by omega)
          simp only [Code.textL, List.length_append]; omega
        have hnl := Pw.numL_le n (by omega)
        obtain ⟨X, hX⟩ : ∃ X, Code.textL x = X := ⟨_, rfl⟩
        obtain ⟨Y, hY⟩ : ∃ Y, Code.numL n = Y := ⟨_, rfl⟩
        rw [hX] at HTX hst htl
        rw [hY] at HNM hst hnl
        obtain ⟨S, hS⟩ : ∃ S, P ++ (L.take k).flatMap Pw.encM = S := ⟨_, rfl⟩
        rw [hS] at hst hle ⊢
        have hcm1 := cat_mk X Y
        have hcm2 := cat_mk S (X ++ Y)
        have hxy : (X ++ Y).length ≤ 40 := by rw [List.length_append]; omega
        obtain ⟨Z, hZ⟩ : ∃ Z, X ++ Y = Z := ⟨_, rfl⟩
        rw [hZ] at hcm1 hcm2 hst hxy
        obtain ⟨S2, hS2⟩ : ∃ S2, S ++ Z = S2 := ⟨_, rfl⟩
        rw [hS2] at hcm2 hst
        have HST2 := Lib.hid hst
        clear hm hX hY hS hZ hS2 hst hmem
        go_wp2_with fail
        have HBN := Lib.hid (HB.out.alloc HB.out.size (.cells #[.string ⟨x.toArray⟩, .int .i64 (n : Int)] 54))
        have c0 : (wr.alloc (.cells #[.string ⟨x.toArray⟩, .int .i64 (n : Int)] 54)).cell? ⟨wr.heap.size, 0, none⟩ = some (.string ⟨x.toArray⟩) := cell_of_row _ _ _ _ _ _ (heap_new_at _ _ _ rfl)
        have c1 : (wr.alloc (.cells #[.string ⟨x.toArray⟩, .int .i64 (n : Int)] 54)).cell? ⟨wr.heap.size, 1, none⟩ = some (.int .i64 (n : Int)) := cell_of_row _ _ _ _ _ _ (heap_new_at _ _ _ rfl)
        have hsz : wr.heap.size < (wr.alloc (.cells #[.string ⟨x.toArray⟩, .int .i64 (n : Int)] 54)).heap.size := by simp
        generalize wr.alloc (.cells #[.string ⟨x.toArray⟩, .int .i64 (n : Int)] 54) = w0 at *
        have HC1 : Hid (∀ w', Below w0.heap.size w0 w' → w'.cell? ⟨wr.heap.size, 1, none⟩ = some (.int .i64 (n : Int))) := Lib.hid (fun w' hb => (hb.cell hsz).trans c1)
        have HBD : Hid (Below w0.heap.size w0 w0.drew) := Lib.hid (Below.refl _ w0).drew
        go_region_with (first | (go_at_call 48; refine (HTX.out _).mono ?_; rintro e wa ⟨rfl, hba⟩; have hBa : Below w0.heap.size w0 wa := bchain HBD.out hba; have hca := HC1.out wa hBa) | (go_at_call 47; refine (HNM.out _).mono ?_; rintro e wb ⟨rfl, hbb⟩))
        all_goals
          have hbn := bchain HBN.out (bchain hBa hbb)
          clear hba hbb hBa hca
          go_wp2
          exact ⟨⟨k + 1, by omega, by go_num, by rw [HST2.out], hbn⟩, by simp [intOf]; omega⟩
      · have h1 : ¬ ((k : Int) < (L.length : Int)) := by omega
        obtain rfl : k = L.length := by omega
        rw [← HE.out]
        go_wp2
        go_ret2
        exact ⟨rfl, HB.out⟩

/-- What Digest answers. -/
def Pw.digL (L : List M) : List UInt8 := if Pw.okL L then Sha.sumP (Sha.byteOf 4 :: Pw.encB L) else []
theorem Pw.digL_length (L : List M) : (Pw.digL L).length = if Pw.okL L then 32 else 0 := by
  unfold Pw.digL
  cases Pw.okL L
  · rfl
  · simp [Sha.sumP_length]
set_option maxRecDepth 8000 in
theorem digest_any (L : List M) (v : Value) (w : World) (hv : Mems w v L) (hT : Tab w) :
    Calls Tryd.prog 16 #[v] w fun e w' => e = .returned (.string ⟨(Pw.digL L).toArray⟩) ∧ Below w.heap.size w w' := by
  have HT := Lib.hid hT
  have HEN := Lib.hid (encode_any L v w hv)
  have hle := Pw.encL_le L
  obtain ⟨A, cap, rfl⟩ := hv.form
  cases hok : Pw.okL L with
  | false =>
    rw [Pw.checkC_bad hok, show Pw.encL L = [] by simp [Pw.encL, hok]] at HEN
    rw [show Pw.digL L = [] by simp [Pw.digL, hok]]
    clear hok hv hT hle
    go_enter Tryd.func16, Tryd.ntmps16
    go_wp2_with fail
    refine HEN.out.mono ?_
    rintro e w1 ⟨rfl, hb⟩
    go_wp2
    go_ret
    exact ⟨rfl, hb⟩
  | true =>
    have e1 : Pw.encL L = Pw.encB L := by simp [Pw.encL, hok]
    rw [Pw.checkC_ok hok, e1] at HEN
    rw [e1] at hle
    rw [show Pw.digL L = Dig.sum 4 (Pw.encB L) by simp [Pw.digL, hok, Dig.sum, Dig.isTag]]
    have HD := Lib.hid (fun w hT => dsum_any 4 (Pw.encB L) w hT (by omega))
    obtain ⟨E, hE⟩ : ∃ E, Pw.encB L = E := ⟨_, rfl⟩
    rw [hE] at HEN HD hle ⊢
    obtain ⟨D, hD⟩ : ∃ D, Dig.sum 4 E = D := ⟨_, rfl⟩
    obtain ⟨C, hC⟩ : ∃ C, Dig.sumC 4 = C := ⟨_, rfl⟩
    rw [hD, hC] at HD
    rw [hD]
    clear hok hv hT hE hD hC e1
    go_enter Tryd.func16, Tryd.ntmps16
    go_wp2_with fail
    refine HEN.out.mono ?_
    rintro e w1 ⟨rfl, hb⟩
    go_wp2_with fail
    refine (HD.out _ (HT.out.below hb)).mono ?_
    rintro e w2 ⟨rfl, hb2⟩
    go_wp2
    go_ret
    exact ⟨rfl, bchain hb hb2⟩
end Go.Proofs.YtlckcfpdiigjiaaDoor
namespace Go.Proofs.YtlckcfpdiigjiaaDoor
open Go.Proofs.YtlckcfpdiigjiaaDoor.Pw (M)

end Go.Proofs.YtlckcfpdiigjiaaDoor
namespace Go.Proofs.YtlckcfpdiigjiaaDoor
open Go.RowKit
open Go.Proofs.YtlckcfpdiigjiaaDoor.Pw (M)

/-- Members of the call's own, in a block from B on. -/
def OwnM (w : World) (B : Nat) (s : Value) (L : List M) : Prop := w.ownsRow B 54 2 s L.length (mrows L)
theorem OwnM.nil (w : World) (B : Nat) : OwnM w B (.slice none 0 0) [] := ⟨rfl, Or.inl ⟨rfl, rfl⟩⟩
theorem OwnM.mems {w : World} {B : Nat} {s : Value} {L : List M} (h : OwnM w B s L) : Mems w s L := Mems.own h
theorem OwnM.below {w w' : World} {B : Nat} {s : Value} {L : List M} (h : OwnM w B s L) (hb : Below w.heap.size w w') : OwnM w' B s L := row_keep (G := fun _ => False) h (Out.of hb) (fun _ _ => id)

/-- The reader in block g, the row t of members. -/
structure DecAt (w : World) (B g : Nat) (t : Value) (L : List M) (st : Pw.St) : Prop where
  rd : Rd w g st.1 st.2
  row : OwnM w B t L
  apart : t.ownBlock ≠ some g
  from_ : B ≤ g
theorem DecAt.read {w w' : World} {B g : Nat} {t : Value} {L : List M} {st st' : Pw.St} (h : DecAt w B g t L st) (hr : Rd w' g st'.1 st'.2) (ho : Only g w w') : DecAt w' B g t L st' :=
  ⟨hr, row_keep h.row ho.out (fun _ hk e => h.apart (e ▸ hk)), h.apart, h.from_⟩
theorem DecAt.below {w w' : World} {B g : Nat} {t : Value} {L : List M} {st : Pw.St} (h : DecAt w B g t L st) (hb : Below w.heap.size w w') : DecAt w' B g t L st :=
  ⟨h.rd.below hb, h.row.below hb, h.apart, h.from_⟩
theorem DecAt.append {w w0 w' : World} {B g g' H n cap : Nat} {t : Value} {L : List M} {st : Pw.St} {m : M} (h : DecAt w B g t L st) (hb : Below w.heap.size w w0) (hg : w0.grownBy w' t.ownBlock) (hown : w'.ownsRow B 54 2 (.slice (some ⟨g', 0, none⟩) n cap) n (mrows L ++ mcells m)) (hn : n = L.length + 1) (hat : t.ownBlock = some g' ∨ g' = H) (hH : w.heap.size ≤ H) : DecAt w' B g (.slice (some ⟨g', 0, none⟩) n cap) (L ++ [m]) st := by
  have h0 := h.below hb
  have hlt := h.rd.lt
  refine ⟨?_, ?_, ?_, h.from_⟩
  · have ho := Out.grown hg (F := fun k => t.ownBlock = some k) (fun _ e => e)
    exact (ho.block g h0.rd.lt (fun e => h.apart e)).trans h0.rd
  · unfold OwnM
    rw [mrows_append, List.length_append, show mrows [m] = mcells m by simp [mrows]]
    subst hn
    exact hown
  · intro e
    simp [Value.ownBlock] at e
    subst e
    rcases hat with h1 | h1
    · exact h.apart h1
    · omega
theorem DecAt.bel {w w' : World} {B g : Nat} {t : Value} {L : List M} {st : Pw.St} (h : DecAt w B g t L st) (hB : B ≤ w.heap.size) (ho : Only g w w') : Below B w w' := ho.below h.from_ hB

end Go.Proofs.YtlckcfpdiigjiaaDoor
namespace Go.Proofs.YtlckcfpdiigjiaaDoor.Txn
open Go.Proofs.YtlckcfpdiigjiaaDoor.Pw (M)

abbrev T := List UInt8
structure X where
  kind : Int
  frm : T
  seq : Int
  dst : T
  amt : Int
  key : T
  val : T
  mem : List M
def zero : X := ⟨0, [], 0, [], 0, [], [], []⟩
instance : Inhabited X := ⟨zero⟩
theorem X.ext' {a b : X} (h1 : a.kind = b.kind) (h2 : a.frm = b.frm) (h3 : a.seq = b.seq) (h4 : a.dst = b.dst) (h5 : a.amt = b.amt) (h6 : a.key = b.key) (h7 : a.val = b.val) (h8 : a.mem = b.mem) : a = b := by cases a; cases b; simp_all
instance : DecidableEq X := fun a b =>
  if h : a.kind = b.kind ∧ a.frm = b.frm ∧ a.seq = b.seq ∧ a.dst = b.dst ∧ a.amt = b.amt ∧ a.key = b.key ∧ a.val = b.val ∧ a.mem = b.mem then isTrue (X.ext' h.1 h.2.1 h.2.2.1 h.2.2.2.1 h.2.2.2.2.1 h.2.2.2.2.2.1 h.2.2.2.2.2.2.1 h.2.2.2.2.2.2.2) else isFalse (fun e => h (by subst e; exact ⟨rfl, rfl, rfl, rfl, rfl, rfl, rfl, rfl⟩))
def nameB (s : T) : Bool := decide (1 ≤ s.length) && decide (s.length ≤ 6)
def amtB (n : Int) : Bool := decide (1 ≤ n) && decide (n ≤ 1099511627776)
def keyB (s : T) : Bool := decide (1 ≤ s.length) && decide (s.length ≤ 6)
def valB (s : T) : Bool := decide (1 ≤ s.length) && decide (s.length ≤ 32)
/-- What each kind asks of the fields that are its own or are not. -/
def kindB (x : X) : Bool :=
  if x.kind = 1 then nameB x.dst && amtB x.amt && x.key.isEmpty && x.val.isEmpty && x.mem.isEmpty
  else if x.kind = 2 then x.dst.isEmpty && decide (x.amt = 0) && keyB x.key && valB x.val && x.mem.isEmpty
  else if x.kind = 3 then x.dst.isEmpty && decide (x.amt = 0) && keyB x.key && x.val.isEmpty && x.mem.isEmpty
  else if x.kind = 4 then x.dst.isEmpty && decide (x.amt = 0) && x.key.isEmpty && x.val.isEmpty && Pw.okL x.mem
  else false
def fine (x : X) : Bool := nameB x.frm && decide (0 ≤ x.seq) && decide (x.seq ≤ 1099511627776) && kindB x
/-- What the kind has, as bytes. -/
def tailB (x : X) : T :=
  if x.kind = 1 then Code.textL x.dst ++ Code.numL x.amt.toNat
  else if x.kind = 2 then Code.textL x.key ++ Code.textL x.val
  else if x.kind = 3 then Code.textL x.key
  else Code.textL (Pw.encB x.mem)
def written (x : X) : T := UInt8.ofNat x.kind.toNat :: (Code.textL x.frm ++ Code.numL x.seq.toNat ++ tailB x)
theorem fine_of {x : X} (h : fine x = true) : 1 ≤ x.frm.length ∧ x.frm.length ≤ 6 ∧ 0 ≤ x.seq ∧ x.seq ≤ 1099511627776 ∧ kindB x = true := by
  simp only [fine, nameB, Bool.and_eq_true, decide_eq_true_eq] at h
  exact ⟨h.1.1.1.1, h.1.1.1.2, h.1.1.2, h.1.2, h.2⟩
theorem kind_of {x : X} (h : kindB x = true) :
    (x.kind = 1 ∧ 1 ≤ x.dst.length ∧ x.dst.length ≤ 6 ∧ 1 ≤ x.amt ∧ x.amt ≤ 1099511627776 ∧ x.key = [] ∧ x.val = [] ∧ x.mem = []) ∨
    (x.kind = 2 ∧ x.dst = [] ∧ x.amt = 0 ∧ 1 ≤ x.key.length ∧ x.key.length ≤ 6 ∧ 1 ≤ x.val.length ∧ x.val.length ≤ 32 ∧ x.mem = []) ∨
    (x.kind = 3 ∧ x.dst = [] ∧ x.amt = 0 ∧ 1 ≤ x.key.length ∧ x.key.length ≤ 6 ∧ x.val = [] ∧ x.mem = []) ∨
    (x.kind = 4 ∧ x.dst = [] ∧ x.amt = 0 ∧ x.key = [] ∧ x.val = [] ∧ Pw.okL x.mem = true) := by
  unfold kindB at h
  split at h
  · rename_i hk
    simp only [nameB, amtB, Bool.and_eq_true, decide_eq_true_eq, List.isEmpty_iff] at h
    exact Or.inl ⟨hk, h.1.1.1.1.1, h.1.1.1.1.2, h.1.1.1.2.1, h.1.1.1.2.2, h.1.1.2, h.1.2, h.2⟩
  · split at h
    · rename_i hk
      simp only [keyB, valB, Bool.and_eq_true, decide_eq_true_eq, List.isEmpty_iff] at h
      exact Or.inr (Or.inl ⟨hk, h.1.1.1.1, h.1.1.1.2, h.1.1.2.1, h.1.1.2.2, h.1.2.1, h.1.2.2, h.2⟩)
    · split at h
      · rename_i hk
        simp only [keyB, Bool.and_eq_true, decide_eq_true_eq, List.isEmpty_iff] at h
        exact Or.inr (Or.inr (Or.inl ⟨hk, h.1.1.1.1, h.1.1.1.2, h.1.1.2.1, h.1.1.2.2, h.1.2, h.2⟩))
      · split at h
        · rename_i hk
          simp only [Bool.and_eq_true, decide_eq_true_eq, List.isEmpty_iff] at h
          exact Or.inr (Or.inr (Or.inr ⟨hk, h.1.1.1.1, h.1.1.1.2, h.1.1.2, h.1.2, h.2⟩))
        · cases h
def fines (L : List X) : Bool := L.all fine
end Go.Proofs.YtlckcfpdiigjiaaDoor.Txn
namespace Go.Proofs.YtlckcfpdiigjiaaDoor
open Go.RowKit

def scells (L : List (List UInt8)) : List Value := L.map fun l => .string ⟨l.toArray⟩
theorem scells_length (L : List (List UInt8)) : (scells L).length = L.length := by simp [scells]
/-- A row of texts of the call's own, in a block from B on. -/
def Own (w : World) (B : Nat) (s : Value) (L : List (List UInt8)) : Prop := w.ownsRow B 9 1 s L.length (scells L)
theorem Own.nil (w : World) (B : Nat) : Own w B (.slice none 0 0) [] := ⟨rfl, Or.inl ⟨rfl, rfl⟩⟩
theorem Own.below {w w' : World} {B : Nat} {s : Value} {L : List (List UInt8)} (h : Own w B s L) (hb : Below w.heap.size w w') : Own w' B s L :=
  row_out (G := fun _ => False) h (Out.of hb) (fun _ _ _ _ hf => hf.elim)
theorem Own.lt {w : World} {B : Nat} {s : Value} {L : List (List UInt8)} (h : Own w B s L) (k : Nat) (hk : s.ownBlock = some k) : B ≤ k ∧ k < w.heap.size := World.ownsRow.lt h k hk
end Go.Proofs.YtlckcfpdiigjiaaDoor
namespace Go.Proofs.YtlckcfpdiigjiaaDoor
open Go.RowKit

def rowsL {α : Type} (f : α → List Value) (L : List α) : List Value := L.flatMap f
theorem rowsL_length {α : Type} {f : α → List Value} {c : Nat} (hf : ∀ a, (f a).length = c) (L : List α) : (rowsL f L).length = L.length * c := by
  induction L with
  | nil => simp [rowsL]
  | cons a L ih =>
    have e : rowsL f (a :: L) = f a ++ rowsL f L := by simp [rowsL]
    rw [e, List.length_append, ih, hf, List.length_cons, Nat.succ_mul, Nat.add_comm]
theorem rowsL_append {α : Type} (f : α → List Value) (S T : List α) : rowsL f (S ++ T) = rowsL f S ++ rowsL f T := by simp [rowsL]
theorem rowsL_at {α : Type} {f : α → List Value} {c : Nat} (hf : ∀ a, (f a).length = c) (S : List α) (i j : Nat) (hi : i < S.length) (hj : j < c) : (rowsL f S)[i * c + j]? = (f S[i])[j]? := by
  induction S generalizing i with
  | nil => simp at hi
  | cons a L ih =>
    have e : rowsL f (a :: L) = f a ++ rowsL f L := by simp [rowsL]
    rw [e]
    cases i with
    | zero =>
      rw [List.getElem?_append_left (by rw [hf]; omega)]
      simp
    | succ i =>
      rw [List.getElem?_append_right (by rw [hf, Nat.succ_mul]; omega)]
      have : (i + 1) * c + j - (f a).length = i * c + j := by rw [hf, Nat.succ_mul]; omega
      rw [this, ih i (by simpa using hi)]
      simp
theorem rowsL_one {α : Type} {f : α → List Value} (h : ∀ a, ∀ u ∈ f a, u.oneCell' = true) (S : List α) : ∀ u ∈ rowsL f S, u.oneCell' = true := by
  intro u hu
  obtain ⟨n, _, hn⟩ := List.mem_flatMap.1 hu
  exact h n u hn
/-- A slice that has the things S. -/
def RowsAt {α : Type} (ty : TypeId) (c : Nat) (f : α → List Value) (w : World) (v : Value) (S : List α) : Prop :=
  ∃ (A : Option Addr) (cap : Nat), v = .slice A S.length cap ∧ S.length ≤ cap ∧ (S = [] → A = none ∧ cap = 0 ∨ ∃ b o, A = some ⟨b, o, none⟩) ∧ (0 < S.length → ∃ b o, A = some ⟨b, o, none⟩ ∧ (∃ cs fl, w.heap[b]? = some (.cells cs ty fl)) ∧ ∀ i (h : i < S.length) j u, (f S[i])[j]? = some u → w.cell? ⟨b, o + i * c + j, none⟩ = some u)
theorem RowsAt.nil {α : Type} (ty : TypeId) (c : Nat) (f : α → List Value) (w : World) : RowsAt ty c f w (.slice none 0 0) [] := ⟨none, 0, rfl, Nat.le_refl _, fun _ => Or.inl ⟨rfl, rfl⟩, fun h => absurd h (by simp)⟩
theorem RowsAt.form {α : Type} {ty : TypeId} {c : Nat} {f : α → List Value} {w : World} {v : Value} {S : List α} (h : RowsAt ty c f w v S) : ∃ A cap, v = .slice A S.length cap ∧ S.length ≤ cap ∧ ((S = [] ∧ A = none ∧ cap = 0) ∨ ∃ b o, A = some ⟨b, o, none⟩) := by
  obtain ⟨A, cap, rfl, hc, h0, h1⟩ := h
  refine ⟨A, cap, rfl, hc, ?_⟩
  by_cases hs : S = []
  · exact (h0 hs).imp (fun h => ⟨hs, h⟩) id
  · obtain ⟨b, o, rfl, _⟩ := h1 (List.length_pos_iff.2 hs)
    exact Or.inr ⟨b, o, rfl⟩
theorem RowsAt.outF {α : Type} {ty : TypeId} {c : Nat} {f : α → List Value} {F : Nat → Prop} {w w' : World} {v : Value} {S : List α} (h : RowsAt ty c f w v S) (ho : Out F w w') (hF : ∀ k cs fl, F k → w.heap[k]? ≠ some (.cells cs ty fl)) : RowsAt ty c f w' v S := by
  obtain ⟨A, cap, rfl, hc, h0, h1⟩ := h
  refine ⟨A, cap, rfl, hc, h0, fun hp => ?_⟩
  obtain ⟨b, o, rfl, ⟨cs, fl, hh⟩, hcell⟩ := h1 hp
  have hb : ¬ F b := fun hf => hF b cs fl hf hh
  exact ⟨b, o, rfl, ⟨cs, fl, ho.heap hh hb⟩, fun i hi j u hu => ho.cell (hcell i hi j u hu) hb⟩
theorem RowsAt.below {α : Type} {ty : TypeId} {c : Nat} {f : α → List Value} {w w' : World} {v : Value} {S : List α} (h : RowsAt ty c f w v S) (hb : Below w.heap.size w w') : RowsAt ty c f w' v S := h.outF (F := fun _ => False) (Out.of hb) fun _ _ _ hf => hf.elim
theorem RowsAt.at {α : Type} {ty : TypeId} {c : Nat} {f : α → List Value} {w : World} {A : Option Addr} {n cap : Nat} {S : List α} (h : RowsAt ty c f w (.slice A n cap) S) (k : Nat) (hk : k < S.length) :
    ∃ b o, A = some ⟨b, o, none⟩ ∧ ∀ j u, (f S[k])[j]? = some u → w.cell? ⟨b, o + k * c + j, none⟩ = some u := by
  obtain ⟨A', cap', hv, _, _, h1⟩ := h
  obtain ⟨rfl, _⟩ : A = A' ∧ _ := by simpa using hv
  obtain ⟨b, o, rfl, _, hcell⟩ := h1 (by omega)
  exact ⟨b, o, rfl, hcell k hk⟩
theorem RowsAt.own {α : Type} {ty : TypeId} {c : Nat} {f : α → List Value} (hf : ∀ a, (f a).length = c) {w : World} {B : Nat} {v : Value} {S : List α} (h : w.ownsRow B ty c v S.length (rowsL f S)) : RowsAt ty c f w v S := by
  rcases h.2 with ⟨rfl, h0⟩ | ⟨g, cap, cur, rfl, hB, hh, hn, _⟩
  · obtain rfl : S = [] := List.eq_nil_of_length_eq_zero h0
    exact RowsAt.nil ty c f w
  · refine ⟨_, cap, rfl, hn, fun _ => Or.inr ⟨_, _, rfl⟩, fun h0 => ⟨g, 0, rfl, ⟨_, _, hh⟩, fun i hi j u hu => ?_⟩⟩
    have hj : j < c := by rw [← hf S[i]]; exact (List.getElem?_eq_some_iff.1 hu).1
    have := h.cells (g := g) rfl (i * c + j) u (by rw [rowsL_at hf S i j hi hj]; exact hu)
    rw [Addr.add_mid] at this; rw [Nat.zero_add]; simpa using this
theorem RowsAt.take {α : Type} {ty : TypeId} {c : Nat} {f : α → List Value} {w : World} {A : Option Addr} {n cap : Nat} {S : List α} (h : RowsAt ty c f w (.slice A n cap) S) (k : Nat) (hk : k ≤ S.length) : RowsAt ty c f w (.slice A k cap) (S.take k) := by
  obtain ⟨A', cap', hv, hcap, h0, h1⟩ := h
  obtain ⟨rfl, rfl, rfl⟩ : A = A' ∧ n = S.length ∧ cap = cap' := by simpa using hv
  have hl : (S.take k).length = k := by simp; omega
  refine ⟨A, cap, by rw [hl], by omega, fun _ => ?_, fun hp => ?_⟩
  · by_cases hs : S = []
    · exact h0 hs
    · obtain ⟨b, o, rfl, _⟩ := h1 (List.length_pos_iff.2 hs)
      exact Or.inr ⟨b, o, rfl⟩
  · obtain ⟨b, o, rfl, hlt, hcell⟩ := h1 (by omega)
    refine ⟨b, o, rfl, hlt, fun i hi j u hu => ?_⟩
    rw [hl] at hi
    exact hcell i (by omega) j u (by simpa using hu)
theorem RowsAt.drop {α : Type} {ty : TypeId} {c : Nat} {f : α → List Value} {w : World} {b o n cap : Nat} {S : List α} (h : RowsAt ty c f w (.slice (some ⟨b, o, none⟩) n cap) S) (k : Nat) (hk : k ≤ S.length) (b' o' : Nat) (hbo : k < S.length → b' = b ∧ o' = o + k * c) : RowsAt ty c f w (.slice (some ⟨b', o', none⟩) (n - k) (cap - k)) (S.drop k) := by
  obtain ⟨A', cap', hv, hcap, h0, h1⟩ := h
  obtain ⟨rfl, rfl, rfl⟩ : some ⟨b, o, none⟩ = A' ∧ n = S.length ∧ cap = cap' := by simpa using hv
  have hl : (S.drop k).length = S.length - k := by simp
  refine ⟨_, _, by rw [hl], by omega, fun _ => Or.inr ⟨_, _, rfl⟩, fun hp => ?_⟩
  rw [hl] at hp
  have hp1 : k < S.length := by omega
  have hp2 : 0 < S.length := by omega
  obtain ⟨rfl, rfl⟩ := hbo hp1
  obtain ⟨b2, o2, he, hlt, hcell⟩ := h1 hp2
  cases he
  refine ⟨_, _, rfl, hlt, fun i hi j u hu => ?_⟩
  have hki : k + i < S.length := by rw [hl] at hi; clear hcell hlt h1 h0; omega
  have := hcell (k + i) hki j u (by simpa using hu)
  rw [Nat.add_mul, ← Nat.add_assoc] at this
  exact this
/-- A slice that has the things S, in a block of any type. -/
def RowsIn {α : Type} (c : Nat) (f : α → List Value) (w : World) (v : Value) (S : List α) : Prop :=
  ∃ (A : Option Addr) (cap : Nat), v = .slice A S.length cap ∧ S.length ≤ cap ∧ (S = [] → A = none ∧ cap = 0 ∨ ∃ b o, A = some ⟨b, o, none⟩) ∧ (0 < S.length → ∃ b o, A = some ⟨b, o, none⟩ ∧ b < w.heap.size ∧ ∀ i (h : i < S.length) j u, (f S[i])[j]? = some u → w.cell? ⟨b, o + i * c + j, none⟩ = some u)
theorem RowsAt.inn {α : Type} {ty : TypeId} {c : Nat} {f : α → List Value} {w : World} {v : Value} {S : List α} (h : RowsAt ty c f w v S) : RowsIn c f w v S := by
  obtain ⟨A, cap, rfl, hc, h0, h1⟩ := h
  refine ⟨A, cap, rfl, hc, h0, fun hp => ?_⟩
  obtain ⟨b, o, rfl, ⟨cs, fl, hh⟩, hcell⟩ := h1 hp
  exact ⟨b, o, rfl, lt_of_heap hh, hcell⟩
theorem RowsIn.form {α : Type} {c : Nat} {f : α → List Value} {w : World} {v : Value} {S : List α} (h : RowsIn c f w v S) : ∃ A cap, v = .slice A S.length cap ∧ S.length ≤ cap ∧ ((S = [] ∧ A = none ∧ cap = 0) ∨ ∃ b o, A = some ⟨b, o, none⟩) := by
  obtain ⟨A, cap, rfl, hc, h0, h1⟩ := h
  refine ⟨A, cap, rfl, hc, ?_⟩
  by_cases hs : S = []
  · exact (h0 hs).imp (fun h => ⟨hs, h⟩) id
  · obtain ⟨b, o, rfl, _⟩ := h1 (List.length_pos_iff.2 hs)
    exact Or.inr ⟨b, o, rfl⟩
theorem RowsIn.below {α : Type} {c : Nat} {f : α → List Value} {w w' : World} {v : Value} {S : List α} (h : RowsIn c f w v S) (hb : Below w.heap.size w w') : RowsIn c f w' v S := by
  obtain ⟨A, cap, rfl, hc, h0, h1⟩ := h
  refine ⟨A, cap, rfl, hc, h0, fun hp => ?_⟩
  obtain ⟨b, o, rfl, hlt, hcell⟩ := h1 hp
  exact ⟨b, o, rfl, Nat.lt_of_lt_of_le hlt hb.size, fun i hi j u hu => (hb.cell hlt).trans (hcell i hi j u hu)⟩
theorem RowsIn.at {α : Type} {c : Nat} {f : α → List Value} {w : World} {A : Option Addr} {n cap : Nat} {S : List α} (h : RowsIn c f w (.slice A n cap) S) (k : Nat) (hk : k < S.length) :
    ∃ b o, A = some ⟨b, o, none⟩ ∧ ∀ j u, (f S[k])[j]? = some u → w.cell? ⟨b, o + k * c + j, none⟩ = some u := by
  obtain ⟨A', cap', hv, _, _, h1⟩ := h
  obtain ⟨rfl, _⟩ : A = A' ∧ _ := by simpa using hv
  obtain ⟨b, o, rfl, _, hcell⟩ := h1 (by omega)
  exact ⟨b, o, rfl, hcell k hk⟩
theorem run_append_nothing_rows {c : Nat} (sty ty : TypeId) (hu : Tryd.prog.underlying sty = some (.slice ty)) (hsz : ∀ w, (sizeOf ty).run Tryd.prog w = .ok c w) (w : World) (v : Value) (n k B : Nat) (xs : List Value) (h : w.ownsRow B ty c v n xs) (tt : TypeId) : (Builtin.append_ #[sty, sty] tt #[v, .slice none 0 k]).run Tryd.prog w = .ok v w := by
  rcases h.2 with ⟨rfl, rfl⟩ | ⟨g, cap, cur, rfl, hB, hh, hn, _⟩
  · simp [Builtin.append_, run_underlying hu, hsz, Builtin.lenOf, Builtin.firstCells, Result.andThen]
  · simp [Builtin.append_, run_underlying hu, hsz, Builtin.lenOf, Builtin.firstCells, Result.andThen, hn, storeCells]
/-- All of a slice behind a row of the call's own. -/
theorem append_rowsIn {α : Type} {f : α → List Value} {c : Nat} {w : World} {v s : Value} {S : List α} {B n : Nat} {xs : List Value} (sty ty : TypeId) (i0 : TypeInfo) (z : Value) (by_ : Nat)
    (hu : Tryd.prog.underlying sty = some (.slice ty)) (hsz : ∀ w, (sizeOf ty).run Tryd.prog w = .ok c w)
    (hi : Tryd.prog.info? ty = some i0) (hz0 : i0.zero = some z) (hz1 : i0.size = c) (hz2 : i0.bytes = by_) (hz : z.cells.size = c) (hc0 : 0 < c) (hby : by_ ≤ 1000)
    (hf : ∀ a, (f a).length = c) (h1 : ∀ a, ∀ u ∈ f a, u.oneCell' = true)
    (hv : RowsIn c f w v S) (hs : w.ownsRow B ty c s n xs) (hl : n + S.length ≤ 1000000) (hB : B ≤ w.heap.size) :
    ∃ v' w', (Builtin.append_ #[sty, sty] sty #[s, v]).run Tryd.prog w = .ok v' w' ∧ w'.ownsRow B ty c v' (n + S.length) (xs ++ rowsL f S) ∧ w.grownBy w' s.ownBlock ∧ (v'.ownBlock = s.ownBlock ∨ v'.ownBlock = some w.heap.size) := by
  obtain ⟨A, cap, rfl, -, -, hc⟩ := hv
  cases A with
  | none =>
    have h0 : S.length = 0 := by
      by_cases h : S.length = 0
      · exact h
      · obtain ⟨b, o, ha, _⟩ := hc (by omega)
        cases ha
    obtain rfl : S = [] := List.eq_nil_of_length_eq_zero h0
    exact ⟨s, w, run_append_nothing_rows sty ty hu hsz w s n cap B xs hs _, by simpa [rowsL] using hs, ⟨rfl, rfl, rfl, Nat.le_refl _, fun _ _ _ => rfl⟩, Or.inl rfl⟩
  | some a =>
    have hbytes : (n + S.length) * by_ ≤ 140737488355328 := Nat.le_trans (Nat.mul_le_mul hl hby) (by omega)
    obtain ⟨v', w', h1, h2, h3, _, h5⟩ := run_append_own_at (P := Tryd.prog) w B sty sty ty i0 z c by_ hu hi hz0 hz1 hz2 hz hc0 s n xs hs a S.length cap (rowsL f S) (rowsL_length hf S)
      (fun j u hu => by
        have hj : j < S.length * c := by
          have := (List.getElem?_eq_some_iff.1 hu).1
          rwa [rowsL_length hf] at this
        have hS : 0 < S.length := Nat.pos_of_ne_zero fun e => by rw [e, Nat.zero_mul] at hj; omega
        obtain ⟨b, o, hb, _, hcell⟩ := hc hS
        cases hb
        have hi' : j / c < S.length := (Nat.div_lt_iff_lt_mul hc0).2 hj
        have hr : j % c < c := Nat.mod_lt _ hc0
        have hjj : j / c * c + j % c = j := by rw [Nat.mul_comm]; exact Nat.div_add_mod j c
        have e := rowsL_at hf S (j / c) (j % c) hi' hr
        rw [hjj, hu] at e
        have := hcell (j / c) hi' (j % c) u e.symm
        rw [Addr.add_mid]
        rw [Nat.add_assoc, hjj] at this
        exact this) (rowsL_one h1 S) (by unfold maxLen; omega) hbytes hB
    exact ⟨v', w', h1, h2, h3, h5⟩
theorem append_rows {α : Type} {f : α → List Value} {c : Nat} {w : World} {v s : Value} {S : List α} {B n : Nat} {xs : List Value} (sty ty : TypeId) (i0 : TypeInfo) (z : Value) (by_ : Nat)
    (hu : Tryd.prog.underlying sty = some (.slice ty)) (hsz : ∀ w, (sizeOf ty).run Tryd.prog w = .ok c w)
    (hi : Tryd.prog.info? ty = some i0) (hz0 : i0.zero = some z) (hz1 : i0.size = c) (hz2 : i0.bytes = by_) (hz : z.cells.size = c) (hc0 : 0 < c) (hby : by_ ≤ 1000)
    (hf : ∀ a, (f a).length = c) (h1 : ∀ a, ∀ u ∈ f a, u.oneCell' = true)
    (hv : RowsAt ty c f w v S) (hs : w.ownsRow B ty c s n xs) (hl : n + S.length ≤ 1000000) (hB : B ≤ w.heap.size) :
    ∃ v' w', (Builtin.append_ #[sty, sty] sty #[s, v]).run Tryd.prog w = .ok v' w' ∧ w'.ownsRow B ty c v' (n + S.length) (xs ++ rowsL f S) ∧ w.grownBy w' s.ownBlock ∧ (v'.ownBlock = s.ownBlock ∨ v'.ownBlock = some w.heap.size) :=
  append_rowsIn sty ty i0 z by_ hu hsz hi hz0 hz1 hz2 hz hc0 hby hf h1 hv.inn hs hl hB
end Go.Proofs.YtlckcfpdiigjiaaDoor
namespace Go.Proofs.YtlckcfpdiigjiaaDoor.Tri
open Sto (T St Rising keys)

def put : St → T → T → St
  | [], k, v => [(k, v)]
  | a :: r, k, v => if a.1 < k then a :: put r k v else if a.1 = k then (k, v) :: r else (k, v) :: a :: r
def del : St → T → St
  | [], _ => []
  | a :: r, k => if a.1 = k then r else a :: del r k
/-- The place of a key, or of the first one behind it. -/
def pos : St → T → Nat
  | [], _ => 0
  | a :: r, k => if a.1 < k then pos r k + 1 else 0

theorem pos_le (S : St) (k : T) : pos S k ≤ S.length := by
  induction S with
  | nil => simp [pos]
  | cons a r ih => rw [pos]; split <;> simp <;> omega
/-- Is the key at its place? -/
def at_ (S : St) (k : T) : Bool := (S[pos S k]?.map (·.1)) == some k
theorem at_cons (a : T × T) (r : St) (k : T) : at_ (a :: r) k = if a.1 < k then at_ r k else decide (a.1 = k) := by
  unfold at_
  rw [pos]
  split
  · simp
  · rw [Bool.eq_iff_iff]; simp
theorem at_look {S : St} (hS : Rising S) (k : T) : at_ S k = (Sto.look S k).isSome := by
  induction S with
  | nil => simp [at_, Sto.look]
  | cons a r ih =>
    obtain ⟨h1, h2⟩ := List.pairwise_cons.1 hS
    rw [at_cons, Sto.look, ih h2]
    by_cases e : a.1 < k
    · rw [if_pos e, if_neg (fun h => Sto.lt_ne e h.symm)]
    · rw [if_neg e]
      by_cases e2 : k = a.1
      · simp [e2]
      · rw [if_neg e2]
        have : k < a.1 := ((Sto.tri k a.1).resolve_right (fun h => h.elim e2 e))
        rw [show Sto.look r k = none from (Sto.look_none r k).2 fun hm => by
          obtain ⟨b, hb, rfl⟩ := List.mem_map.1 hm
          exact List.lt_irrefl _ (List.lt_trans this (h1 b hb))]
        simp; exact fun h => e2 h.symm
theorem look_pos {S : St} (hS : Rising S) (k : T) (h : at_ S k = true) : ∃ hp : pos S k < S.length, S[pos S k].1 = k ∧ Sto.look S k = some S[pos S k].2 := by
  unfold at_ at h
  have hp : pos S k < S.length := by
    rcases Nat.lt_or_ge (pos S k) S.length with h2 | h2
    · exact h2
    · rw [List.getElem?_eq_none h2] at h; simp at h
  rw [List.getElem?_eq_getElem hp] at h
  have e : S[pos S k].1 = k := by simpa using h
  exact ⟨hp, e, by
    have := Sto.look_at hS _ hp
    rw [e] at this; exact this⟩
theorem put_eq (S : St) (k v : T) : put S k v = S.take (pos S k) ++ (k, v) :: S.drop (pos S k + if at_ S k then 1 else 0) := by
  induction S with
  | nil => simp [put, pos, at_]
  | cons a r ih =>
    rw [put, at_cons, pos]
    by_cases e : a.1 < k
    · rw [if_pos e, if_pos e, if_pos e, ih, show pos r k + 1 + (if at_ r k = true then 1 else 0) = pos r k + (if at_ r k = true then 1 else 0) + 1 by omega]; simp
    · rw [if_neg e, if_neg e, if_neg e]
      by_cases e2 : a.1 = k
      · simp [e2]
      · simp [e2]
theorem del_eq {S : St} (hS : Rising S) (k : T) (h : at_ S k = true) : del S k = S.take (pos S k) ++ S.drop (pos S k + 1) := by
  induction S with
  | nil => simp [at_, pos] at h
  | cons a r ih =>
    obtain ⟨h1, h2⟩ := List.pairwise_cons.1 hS
    rw [at_cons] at h
    rw [del, pos]
    by_cases e : a.1 < k
    · rw [if_pos e] at h
      rw [if_pos e, if_neg (Sto.lt_ne e), ih h2 h]; simp
    · rw [if_neg e] at h
      rw [if_neg e, if_pos (by simpa using h)]; simp
theorem put_mem {S : St} {k v : T} {p : T × T} (h : p ∈ put S k v) : p ∈ S ∨ p = (k, v) := by
  induction S with
  | nil => simp [put] at h; exact Or.inr h
  | cons a r ih =>
    rw [put] at h
    split at h
    · rcases List.mem_cons.1 h with h | h
      · exact Or.inl (by rw [h]; exact List.mem_cons_self ..)
      · exact (ih h).imp (List.mem_cons_of_mem _) id
    · split at h
      · rcases List.mem_cons.1 h with h | h
        · exact Or.inr h
        · exact Or.inl (List.mem_cons_of_mem _ h)
      · rcases List.mem_cons.1 h with h | h
        · exact Or.inr h
        · exact Or.inl h
theorem put_rising {S : St} (hS : Rising S) (k v : T) : Rising (put S k v) := by
  induction S with
  | nil => simp [put, Rising]
  | cons a r ih =>
    obtain ⟨h1, h2⟩ := List.pairwise_cons.1 hS
    rw [put]
    split
    · rename_i l
      refine List.pairwise_cons.2 ⟨fun b hb => ?_, ih h2⟩
      rcases put_mem hb with hb | rfl
      · exact h1 b hb
      · exact l
    · rename_i l
      split
      · rename_i e
        subst e
        exact List.pairwise_cons.2 ⟨fun b hb => h1 b hb, h2⟩
      · rename_i e
        have l2 : k < a.1 := ((Sto.tri k a.1).resolve_right (fun h => h.elim (fun h => e h.symm) l))
        refine List.pairwise_cons.2 ⟨fun b hb => ?_, hS⟩
        rcases List.mem_cons.1 hb with rfl | hb
        · exact l2
        · exact List.lt_trans l2 (h1 b hb)
theorem look_put (S : St) (k v x : T) : Rising S → Sto.look (put S k v) x = if x = k then some v else Sto.look S x := by
  intro hS
  induction S with
  | nil => simp [put, Sto.look]
  | cons a r ih =>
    obtain ⟨h1, h2⟩ := List.pairwise_cons.1 hS
    rw [put]
    by_cases e : a.1 < k
    · rw [if_pos e, Sto.look, ih h2, Sto.look]
      by_cases ex : x = a.1
      · rw [if_pos ex, if_pos ex, if_neg (fun h => Sto.lt_ne e (ex.symm.trans h))]
      · rw [if_neg ex, if_neg ex]
    · rw [if_neg e]
      by_cases e2 : a.1 = k
      · rw [if_pos e2, Sto.look, Sto.look, e2]
        by_cases ex : x = k <;> simp [ex]
      · rw [if_neg e2, Sto.look, Sto.look]
theorem del_mem {S : St} {k : T} {p : T × T} (h : p ∈ del S k) : p ∈ S := by
  induction S with
  | nil => simp [del] at h
  | cons a r ih =>
    rw [del] at h
    split at h
    · exact List.mem_cons_of_mem _ h
    · rcases List.mem_cons.1 h with h | h
      · rw [h]; exact List.mem_cons_self ..
      · exact List.mem_cons_of_mem _ (ih h)
theorem del_rising {S : St} (hS : Rising S) (k : T) : Rising (del S k) := by
  induction S with
  | nil => simp [del, Rising]
  | cons a r ih =>
    obtain ⟨h1, h2⟩ := List.pairwise_cons.1 hS
    rw [del]
    split
    · exact h2
    · exact List.pairwise_cons.2 ⟨fun b hb => h1 b (del_mem hb), ih h2⟩
theorem look_del {S : St} (hS : Rising S) (k x : T) : Sto.look (del S k) x = if x = k then none else Sto.look S x := by
  induction S with
  | nil => simp [del, Sto.look]
  | cons a r ih =>
    obtain ⟨h1, h2⟩ := List.pairwise_cons.1 hS
    rw [del]
    by_cases e : a.1 = k
    · rw [if_pos e, Sto.look]
      by_cases ex : x = k
      · rw [if_pos ex, ex]
        exact (Sto.look_none r k).2 fun hm => by
          obtain ⟨b, hb, hk⟩ := List.mem_map.1 hm
          exact Sto.lt_ne (h1 b hb) (e.trans hk.symm)
      · rw [if_neg ex, if_neg (fun h => ex (h.trans e))]
    · rw [if_neg e, Sto.look, ih h2, Sto.look]
      by_cases ex : x = a.1
      · rw [if_pos ex, if_pos ex, if_neg (fun h => e (ex.symm.trans h))]
      · rw [if_neg ex, if_neg ex]
/-- A list that rises is told by what it has. -/
theorem look_ext {S R : St} (hS : Rising S) (hR : Rising R) (h : ∀ x, Sto.look S x = Sto.look R x) : S = R := by
  have hm : ∀ p : T × T, p ∈ S ↔ p ∈ R := fun p => by rw [← Sto.look_mem hS p.1 p.2, ← Sto.look_mem hR p.1 p.2, h]
  have nS : S.Nodup := List.Pairwise.imp (R := fun (a b : T × T) => a.1 < b.1) (fun {a b} h e => Sto.lt_ne h (congrArg Prod.fst e)) hS
  have nR : R.Nodup := List.Pairwise.imp (R := fun (a b : T × T) => a.1 < b.1) (fun {a b} h e => Sto.lt_ne h (congrArg Prod.fst e)) hR
  have hp : S.Perm R := (List.perm_ext_iff_of_nodup nS nR).2 hm
  refine hp.eq_of_pairwise (le := fun a b => a.1 ≤ b.1) (fun x y hx hy h1 h2 => ?_) (hS.imp fun h => List.le_of_lt h) (hR.imp fun h => List.le_of_lt h)
  have e : x.1 = y.1 := List.le_antisymm h1 h2
  have a1 := (Sto.look_mem hS x.1 x.2).2 hx
  have a2 := (Sto.look_mem hS y.1 y.2).2 ((hm y).2 hy)
  rw [e, a2] at a1
  exact Prod.ext e (Option.some.inj a1).symm
theorem put_len (S : St) (k v : T) : (put S k v).length = S.length + if at_ S k then 0 else 1 := by
  rw [put_eq]
  have := pos_le S k
  by_cases h : at_ S k
  · have hp : pos S k < S.length := by
      unfold at_ at h
      rcases Nat.lt_or_ge (pos S k) S.length with h2 | h2
      · exact h2
      · rw [List.getElem?_eq_none h2] at h; simp at h
    simp [h]; omega
  · simp [h]; omega
theorem del_len {S : St} (hS : Rising S) (k : T) (h : at_ S k = true) : (del S k).length + 1 = S.length := by
  obtain ⟨hp, _⟩ := look_pos hS k h
  rw [del_eq hS k h]; simp; omega
end Go.Proofs.YtlckcfpdiigjiaaDoor.Tri
namespace Go.Proofs.YtlckcfpdiigjiaaDoor
open Go.RowKit
open Go.Proofs.YtlckcfpdiigjiaaDoor.Sto (St)

def itcl (p : List UInt8 × List UInt8) : List Value := [.string ⟨p.1.toArray⟩, .string ⟨p.2.toArray⟩]
theorem itcl_length (p : List UInt8 × List UInt8) : (itcl p).length = 2 := rfl
theorem itcl_one (p : List UInt8 × List UInt8) : ∀ u ∈ itcl p, u.oneCell' = true := by
  intro u hu
  simp [itcl] at hu
  rcases hu with rfl | rfl <;> rfl
set_option maxRecDepth 100000 in
theorem Tryd.infoItem : (Tryd.prog.info? 56).map (fun i => (i.zero, i.size, i.bytes)) = some (some (.agg #[.string ⟨#[]⟩, .string ⟨#[]⟩]), 2, 32) := by kernel_rfl
/-- A slice that has these items. -/
def ItAt (w : World) (v : Value) (L : St) : Prop := RowsAt 56 2 itcl w v L
theorem ItAt.at {w : World} {A : Option Addr} {n cap : Nat} {S : St} (h : ItAt w (.slice A n cap) S) (k : Nat) (hk : k < S.length) :
    ∃ b o, A = some ⟨b, o, none⟩ ∧ w.cell? ⟨b, o + k * 2, none⟩ = some (.string ⟨(S[k].1).toArray⟩) ∧ w.cell? ⟨b, o + k * 2 + 1, none⟩ = some (.string ⟨(S[k].2).toArray⟩) := by
  obtain ⟨b, o, rfl, h1⟩ := RowsAt.at h k hk
  exact ⟨b, o, rfl, h1 0 _ rfl, h1 1 _ rfl⟩
/-- Items in a block of any type. -/
def ItIn (w : World) (v : Value) (L : St) : Prop := RowsIn 2 itcl w v L
theorem ItAt.inn {w : World} {v : Value} {L : St} (h : ItAt w v L) : ItIn w v L := RowsAt.inn h
theorem ItIn.at {w : World} {A : Option Addr} {n cap : Nat} {S : St} (h : ItIn w (.slice A n cap) S) (k : Nat) (hk : k < S.length) :
    ∃ b o, A = some ⟨b, o, none⟩ ∧ w.cell? ⟨b, o + k * 2, none⟩ = some (.string ⟨(S[k].1).toArray⟩) ∧ w.cell? ⟨b, o + k * 2 + 1, none⟩ = some (.string ⟨(S[k].2).toArray⟩) := by
  obtain ⟨b, o, rfl, h1⟩ := RowsIn.at h k hk
  exact ⟨b, o, rfl, h1 0 _ rfl, h1 1 _ rfl⟩
end Go.Proofs.YtlckcfpdiigjiaaDoor
namespace Go.Proofs.YtlckcfpdiigjiaaDoor
open Go.RowKit
open Go.Proofs.YtlckcfpdiigjiaaDoor.Sto (St)

def Tri.keyed (x : List UInt8) : Bool := decide (1 ≤ x.length) && decide (x.length ≤ 8)
/-- What Get tells: the value, or what is wrong. -/
def Tri.getC (S : St) (x : List UInt8) : List UInt8 × Nat := if Tri.keyed x then (match Sto.look S x with | some v => (v, 0) | none => ([], 5)) else ([], 1)
theorem Tri.getC_no {S : St} {x : List UInt8} (h : Tri.keyed x = false) : Tri.getC S x = ([], 1) := by simp [Tri.getC, h]
theorem Tri.getC_none {S : St} {x : List UInt8} (h : Tri.keyed x = true) (h2 : Sto.look S x = none) : Tri.getC S x = ([], 5) := by simp [Tri.getC, h, h2]
theorem Tri.getC_some {S : St} {x y : List UInt8} (h : Tri.keyed x = true) (h2 : Sto.look S x = some y) : Tri.getC S x = (y, 0) := by simp [Tri.getC, h, h2]
end Go.Proofs.YtlckcfpdiigjiaaDoor
namespace Go.Proofs.YtlckcfpdiigjiaaDoor
open Go.RowKit
open Go.Proofs.YtlckcfpdiigjiaaDoor.Sto (St)

/-- What Put refuses. -/
def Tri.putC (S : St) (x y : List UInt8) : Nat := if Tri.keyed x then (if 1 ≤ y.length ∧ y.length ≤ 32 ∧ (Tri.at_ S x = true ∨ S.length < 1024) then 0 else 2) else 1
def Tri.putL (S : St) (x y : List UInt8) : St := if Tri.putC S x y = 0 then Tri.put S x y else []
theorem Tri.putC_no {S : St} {x y : List UInt8} (h : Tri.keyed x = false) : Tri.putC S x y = 1 := by simp [Tri.putC, h]
theorem Tri.putC_bad {S : St} {x y : List UInt8} (h : Tri.keyed x = true) (h2 : ¬ (1 ≤ y.length ∧ y.length ≤ 32 ∧ (Tri.at_ S x = true ∨ S.length < 1024))) : Tri.putC S x y = 2 := by rw [Tri.putC, if_pos h, if_neg h2]
theorem Tri.putC_ok {S : St} {x y : List UInt8} (h : Tri.keyed x = true) (h2 : 1 ≤ y.length ∧ y.length ≤ 32 ∧ (Tri.at_ S x = true ∨ S.length < 1024)) : Tri.putC S x y = 0 := by rw [Tri.putC, if_pos h, if_pos h2]
def RtPutPost (S : St) (x y : List UInt8) (w : World) (e : Ending) (w' : World) : Prop :=
  ∃ v', e = .returned (.tuple #[v', .int .i64 (Tri.putC S x y)]) ∧ ItAt w' v' (Tri.putL S x y) ∧ Below w.heap.size w w'
theorem RtPutPost.bad {S : St} {x y : List UInt8} {w w' : World} {c : Nat} (h : Tri.putC S x y = c) (hc : c ≠ 0) (hb : Below w.heap.size w w') : RtPutPost S x y w (.returned (.tuple #[.slice none 0 0, .int .i64 c])) w' := by
  subst h
  exact ⟨_, rfl, by rw [Tri.putL, if_neg hc]; exact RowsAt.nil .., hb⟩
theorem RtPutPost.good {S T R : St} {x y : List UInt8} {w w' : World} {v' : Value} (h : Tri.putC S x y = 0) (hp : Tri.put S x y = T ++ (x, y) :: R) (hv : ItAt w' v' (T ++ (x, y) :: R)) (hb : Below w.heap.size w w') : RtPutPost S x y w (.returned (.tuple #[v', .int .i64 0])) w' := by
  refine ⟨v', by rw [h]; rfl, ?_, hb⟩
  rw [Tri.putL, if_pos h, hp]; exact hv
/-- All of a slice of items behind a row of the call's own. -/
theorem append_it {w : World} {v s : Value} {S : St} {B n : Nat} {xs : List Value} (hv : ItAt w v S) (hs : w.ownsRow B 56 2 s n xs) (hl : n + S.length ≤ 1000000) (hB : B ≤ w.heap.size) :
    ∃ v' w', (Builtin.append_ #[24, 24] 24 #[s, v]).run Tryd.prog w = .ok v' w' ∧ w'.ownsRow B 56 2 v' (n + S.length) (xs ++ rowsL itcl S) ∧ w.grownBy w' s.ownBlock ∧ (v'.ownBlock = s.ownBlock ∨ v'.ownBlock = some w.heap.size) := by
  obtain ⟨i0, hi, hz0, hz1, hz2⟩ := info_parts Tryd.infoItem
  exact append_rows 24 56 i0 _ 32 Tryd.underlying24 Tryd.sizeOf56 hi hz0 hz1 hz2 rfl (by decide) (by decide) itcl_length itcl_one hv hs hl hB
end Go.Proofs.YtlckcfpdiigjiaaDoor
namespace Go.Proofs.YtlckcfpdiigjiaaDoor
open Go.RowKit
open Go.Proofs.YtlckcfpdiigjiaaDoor.Sto (St)

def Tri.delL (S : St) (x : List UInt8) : St := if (Tri.getC S x).2 = 0 then Tri.del S x else []
def RtDelPost (S : St) (x : List UInt8) (w : World) (e : Ending) (w' : World) : Prop :=
  ∃ v', e = .returned (.tuple #[v', .int .i64 (Tri.getC S x).2]) ∧ ItAt w' v' (Tri.delL S x) ∧ Below w.heap.size w w'
theorem RtDelPost.bad {S : St} {x : List UInt8} {w w' : World} {c : Nat} (h : (Tri.getC S x).2 = c) (hc : c ≠ 0) (hb : Below w.heap.size w w') : RtDelPost S x w (.returned (.tuple #[.slice none 0 0, .int .i64 c])) w' := by
  subst h
  exact ⟨_, rfl, by rw [Tri.delL, if_neg hc]; exact RowsAt.nil .., hb⟩
theorem RtDelPost.good {S L : St} {x : List UInt8} {w w' : World} {v' : Value} (h : (Tri.getC S x).2 = 0) (hp : Tri.del S x = L) (hv : ItAt w' v' L) (hb : Below w.heap.size w w') : RtDelPost S x w (.returned (.tuple #[v', .int .i64 0])) w' := by
  refine ⟨v', by rw [h]; rfl, ?_, hb⟩
  rw [Tri.delL, if_pos h, hp]; exact hv
end Go.Proofs.YtlckcfpdiigjiaaDoor
