/- ShaWorks, DigSum, PowEnc, PowDec, TxMath, ArgTx -/
import Derived.Test.YtddjkiejekfekaaDoorPk03
import Derived.Test.YtddjkiejekfekaaDoorPk04
import Derived.KernelRfl
import Derived.Test.YtddjkiejekfekaaDoorPk01
import Derived.Test.YtddjkiejekfekaaDoorPk02
import Derived.Deep.RegionWith
namespace Go.Proofs.YtddjkiejekfekaaDoor.Sha
set_option maxRecDepth 100000
end Go.Proofs.YtddjkiejekfekaaDoor.Sha
namespace Go.Proofs.YtddjkiejekfekaaDoor
open Go.RowKit

set_option maxRecDepth 8000 in
set_option maxHeartbeats 1000000 in
theorem sum_any (s : List UInt8) (w : World) (hT : Tab w) (hl : s.length ≤ 1152921504606800000) :
    Calls Tryd.prog 66 #[.string ⟨s.toArray⟩] w fun e w' => e = .returned (.string ⟨(Sha.sumP s).toArray⟩) ∧ Below w.heap.size w w' := by
  have hz := (zero_of_info Tryd.zero73).1
  obtain ⟨Z, hZ⟩ : ∃ Z, (hashL ⟨0, 0, 0, 0, 0, 0, 0, 0⟩ (List.replicate 64 0) 0).toArray = Z := ⟨_, rfl⟩
  obtain ⟨C, hC⟩ : ∃ C, (hashL Sha.first (List.replicate 64 0) 0).toArray = C := ⟨_, rfl⟩
  have hZs : Z.size = 73 := by rw [← hZ, List.size_toArray, hashL_length _ _ _ (by simp)]
  have hCs : C.size = 73 := by rw [← hC, List.size_toArray, hashL_length _ _ _ (by simp)]
  have hC1 : C.all (·.oneCell') = true := by rw [← hC]; exact hash_one _ _ _
  have hi : (Tryd.prog.info? 89).map (·.size) = some C.size := by rw [hCs]; exact (zero_of_info Tryd.zero73).2
  have hst : ∀ w' p, w'.heap[p]? = some (.cells C 89 (0, 0)) → HashIs w' p [] := fun w' p h => HashIs.start (by rw [hC]; exact h)
  have hbu := built_hash
  rw [hC] at hbu
  rw [hZ] at hz
  have HBU := Lib.hid hbu
  have HI := Lib.hid hi
  have HC1 := Lib.hid hC1
  have HZC : Hid (Z.size = C.size) := Lib.hid (by rw [hZs, hCs])
  have HST := Lib.hid hst
  have HT := Lib.hid hT
  clear hi hC1 hZs hCs hst hT hC hZ hbu
  go_enter Tryd.func66, Tryd.ntmps66
  go_wp2_with fail
  refine (first_any _).mono ?_
  rintro e w1 ⟨rfl, hb1⟩
  go_wp2_with (first | (refine wpList_build_to (by rfl) _ _ (by rfl) [(0, .agg (u32s Sha.first.list))] (by first | rfl | (simp [Act.eval]; done) | kernel_rfl) C HBU.out ?_) | (refine wpList_store_new (by rfl) _ _ _ (by rfl) w1.heap.size rfl C (by rfl) (by rfl) _ Z HI.out HZC.out HC1.out ?_))
  have hB2 : Below w.heap.size w (w1.alloc (.cells C 89)) := hb1.alloc hb1.size _
  have hh2 : HashIs (w1.alloc (.cells C 89)) w1.heap.size [] := HST.out _ _ (heap_new_at _ _ _ rfl)
  have hT2 := HT.out.below hB2
  have hp : 0 < w1.heap.size := Nat.lt_of_lt_of_le HT.out.pos hb1.size
  have HW := Lib.hid (write_any [] s w1.heap.size _ hh2 hT2 hp (by simp; omega))
  have HB2 := Lib.hid hB2
  have HS1 := Lib.hid hb1.size
  clear hb1 hB2 hh2 hT2
  refine HW.out.mono ?_
  rintro e w3 ⟨rfl, hh3, ho3⟩
  have hB3 : Below w.heap.size w w3 := HB2.out.trans (ho3.below HS1.out HB2.out.size)
  have HS := Lib.hid (hsum_any s w1.heap.size w3 (by simpa using hh3) (HT.out.below hB3) (by omega))
  have HB3 := Lib.hid hB3
  clear hh3 ho3 hB3
  go_wp2_with fail
  refine HS.out.mono ?_
  rintro e w4 ⟨rfl, hb4⟩
  go_wp2
  go_ret
  exact ⟨rfl, HB3.out.trans (hb4.mono HB3.out.size)⟩

end Go.Proofs.YtddjkiejekfekaaDoor
namespace Go.Proofs.YtddjkiejekfekaaDoor
open Go.RowKit

theorem isTag_any (t : Int) (w : World) :
    Calls Tryd.prog 65 #[.int .i64 t] w fun e w' => e = .returned (.bool (Dig.isTag t)) ∧ w' = w := by
  unfold Dig.isTag
  by_cases h1 : 1 ≤ t
  · by_cases h2 : t ≤ 255
    · go_enter Tryd.func65, Tryd.ntmps65
      go_wp2
      go_ret
      simp [h1, h2]
    · go_enter Tryd.func65, Tryd.ntmps65
      go_wp2
      go_ret
      simp [h2]
  · go_enter Tryd.func65, Tryd.ntmps65
    go_wp2
    go_ret
    simp
    omega

/-- What Sum answers. -/
def Dig.sum (t : Int) (s : List UInt8) : List UInt8 := if Dig.isTag t then Sha.sumP (Sha.byteOf t :: s) else []
def Dig.sumC (t : Int) : Int := if Dig.isTag t then 0 else 1
theorem conv_tag (w : World) (x : Int) : (convert 46 9 (.slice (some ⟨w.heap.size, 0, none⟩) 1 1)).run Tryd.prog (w.alloc (.cells #[.int .u8 (x % 256)] 5)) = .ok (.string ⟨[Sha.byteOf x].toArray⟩) (w.alloc (.cells #[.int .u8 (x % 256)] 5)) := by
  have hg := heap_alloc_new w (.cells #[.int .u8 (x % 256)] 5)
  refine run_convert_bytes_back (P := Tryd.prog) _ 46 9 5 ⟨w.heap.size, 0, none⟩ 1 [Sha.byteOf x] Tryd.underlying46 Tryd.underlying5 Tryd.underlying9 ?_
  intro j hj
  rw [Addr.add_mid, Nat.zero_add, cell_of_row _ _ j _ _ _ hg]
  match j, hj with
  | 0, _ => simp [Sha.byteOf_toNat]

set_option maxRecDepth 8000 in
set_option maxHeartbeats 1000000 in
theorem dsum_any (t : Int) (s : List UInt8) (w : World) (hT : Tab w) (hs : s.length ≤ 140737488351232) :
    Calls Tryd.prog 48 #[.int .i64 t, .string ⟨s.toArray⟩] w fun e w' => e = .returned (.tuple #[.string ⟨(Dig.sum t s).toArray⟩, .int .i64 (Dig.sumC t)]) ∧ Below w.heap.size w w' := by
  unfold Dig.sum Dig.sumC
  by_cases ht : Dig.isTag t = true
  · have HT := Lib.hid ht
    have HTB := Lib.hid hT
    rw [if_pos ht, if_pos ht]
    have HS := Lib.hid (fun w hw => sum_any (Sha.byteOf t :: s) w hw (by simp; omega))
    obtain ⟨R, hR⟩ : ∃ R, Sha.sumP (Sha.byteOf t :: s) = R := ⟨_, rfl⟩
    rw [hR] at HS ⊢
    have hcm := cat_mk [Sha.byteOf t] s
    have kc := fun w => conv_tag w t
    rw [List.singleton_append] at hcm
    clear ht hR hT
    go_enter Tryd.func48, Tryd.ntmps48
    go_wp2_with fail
    refine (isTag_any t _).mono ?_
    rintro e w1 ⟨rfl, rfl⟩
    rw [HT.out]
    have hB1 : Below w1.heap.size w1 (w1.alloc (.cells #[.int .u8 (t % 256)] 5)) := (Below.refl _ w1).alloc (Nat.le_refl _) _
    go_wp2_with fail
    refine (HS.out _ (HTB.out.below hB1)).mono ?_
    rintro e w2 ⟨rfl, hb2⟩
    go_wp2
    go_ret2
    exact ⟨rfl, bchain hB1 hb2⟩
  · have hf : Dig.isTag t = false := by simpa using ht
    have HF := Lib.hid hf
    rw [if_neg ht, if_neg ht]
    clear ht hf
    go_enter Tryd.func48, Tryd.ntmps48
    go_wp2_with fail
    refine (isTag_any t _).mono ?_
    rintro e w1 ⟨rfl, rfl⟩
    rw [HF.out]
    go_wp2
    go_ret2
    exact ⟨rfl, Below.refl _ _⟩
end Go.Proofs.YtddjkiejekfekaaDoor
namespace Go.Proofs.YtddjkiejekfekaaDoor
open Go.RowKit
open Go.Proofs.YtddjkiejekfekaaDoor.Pw (M)

def Pw.encM (m : M) : List UInt8 := Code.textL m.name ++ Code.numL m.power.toNat
def Pw.encB (L : List M) : List UInt8 := Code.numL L.length ++ L.flatMap Pw.encM
def Pw.encL (L : List M) : List UInt8 := if Pw.okL L then Pw.encB L else []
theorem Pw.numL_le (n : Nat) (h : n < 2 ^ 63) : (Code.numL n).length ≤ 9 := by
  have := Code.numL_length n
  have := Code.sz_le8 n (by omega)
  omega
theorem Pw.encM_le (m : M) (h : m.name.length ≤ 6) (h1 : m.power ≤ 1000) : (Pw.encM m).length ≤ 24 := by
  have h2 := Pw.numL_le m.power.toNat (by omega)
  have h3 := Pw.numL_le m.name.length (by omega)
  simp only [Pw.encM, Code.textL, List.length_append]
  omega
theorem Pw.encs_le (L : List M) (h : ∀ m ∈ L, m.name.length ≤ 6 ∧ m.power ≤ 1000) : (L.flatMap Pw.encM).length ≤ 24 * L.length := by
  induction L with
  | nil => simp
  | cons m L ih =>
    have h1 := ih (fun x hx => h x (List.mem_cons_of_mem _ hx))
    have h2 := h m (List.mem_cons_self ..)
    have h3 := Pw.encM_le m h2.1 h2.2
    simp only [List.flatMap_cons, List.length_append, List.length_cons]
    omega
theorem Pw.encB_le {L : List M} (h : Pw.okL L = true) (k : Nat) : (Code.numL L.length ++ (L.take k).flatMap Pw.encM).length ≤ 200 := by
  have h1 := (Pw.okL_len h).2
  have h2 := Pw.numL_le L.length (by omega)
  have h3 := Pw.encs_le (L.take k) (fun m hm => by
    have := Pw.okL_mem h m (List.mem_of_mem_take hm)
    exact ⟨this.2.1, this.2.2.2⟩)
  have h4 : (L.take k).length ≤ 7 := by simp; omega
  rw [List.length_append]
  omega
theorem Pw.encB_take (L : List M) (k : Nat) (h : k < L.length) : Code.numL L.length ++ (L.take (k + 1)).flatMap Pw.encM = (Code.numL L.length ++ (L.take k).flatMap Pw.encM) ++ (Code.textL L[k].name ++ Code.numL L[k].power.toNat) := by
  rw [List.take_succ_eq_append_getElem h, List.flatMap_append, List.append_assoc]
  simp [Pw.encM]

theorem pnumber_any (n : Nat) (hn : n < 2 ^ 63) (w : World) :
    Calls Tryd.prog 68 #[.int .i64 n] w fun e w' => e = .returned (.string ⟨(Code.numL n).toArray⟩) ∧ Below w.heap.size w w' := by
  go_enter Tryd.func68, Tryd.ntmps68
  go_wp2_with fail
  refine (num_any n hn w).mono ?_
  rintro e w1 ⟨rfl, hb⟩
  go_wp2
  go_ret
  exact ⟨rfl, hb⟩

set_option maxRecDepth 8000 in
set_option maxHeartbeats 2000000 in
theorem encode_any (L : List M) (v : Value) (w : World) (hv : Mems w v L) :
    Calls Tryd.prog 52 #[v] w fun e w' => e = .returned (.tuple #[.string ⟨(Pw.encL L).toArray⟩, .int .i64 (Pw.checkC L)]) ∧ Below w.heap.size w w' := by
  have HV := Lib.hid hv
  obtain ⟨A, cap, rfl⟩ := hv.form
  have HCK := Lib.hid (check_any L _ w HV.out)
  unfold Pw.encL
  cases hok : Pw.okL L with
  | false =>
    rw [Pw.checkC_bad hok] at HCK ⊢
    rw [if_neg (by simp)]
    clear hok hv
    go_enter Tryd.func52, Tryd.ntmps52
    go_wp2_with fail
    refine HCK.out.mono ?_
    rintro e w1 ⟨rfl, hb⟩
    go_wp2
    go_ret2
    exact ⟨rfl, hb⟩
  | true =>
    rw [Pw.checkC_ok hok] at HCK ⊢
    rw [if_pos rfl]
    have HOK := Lib.hid hok
    have hl7 := (Pw.okL_len hok).2
    have HN := Lib.hid (fun w => pnumber_any L.length (by omega) w)
    have HST := Lib.hid (Pw.encB_take L)
    have HLE := Lib.hid (Pw.encB_le hok)
    have HE : Hid (Pw.encB L = Code.numL L.length ++ (L.take L.length).flatMap Pw.encM) := Lib.hid (by rw [List.take_length]; rfl)
    obtain ⟨E, hE⟩ : ∃ E, Pw.encB L = E := ⟨_, rfl⟩
    obtain ⟨P, hP⟩ : ∃ P, Code.numL L.length = P := ⟨_, rfl⟩
    rw [hP] at HN HST HLE HE
    rw [hE] at HE ⊢
    clear hok hv hE hP
    go_enter Tryd.func52, Tryd.ntmps52
    go_wp2_with fail
    refine HCK.out.mono ?_
    rintro e w1 ⟨rfl, hb1⟩
    go_wp2_with fail
    refine (HN.out _).mono ?_
    rintro e w2 ⟨rfl, hb2⟩
    have HB2 := Lib.hid (bchain hb1 hb2)
    clear hb1 hb2
    go_wp2
    go_loopw [5, 18] (fun s i wr => ∃ k : Nat, k ≤ L.length ∧ i = .int .i64 k ∧ s = .string ⟨(P ++ (L.take k).flatMap Pw.encM).toArray⟩ ∧ Below w.heap.size w wr) (fun _ i _ => L.length - (intOf i).toNat)
    case atStart => exact ⟨0, Nat.zero_le _, rfl, by simp, HB2.out⟩
    case round =>
      obtain ⟨k, hk, rfl, rfl, hb⟩ := hrel
      have HB := Lib.hid hb
      clear hb HB2
      by_cases hlt : k < L.length
      · have h1 : (k : Int) < (L.length : Int) := by omega
        have h0 : (0 : Int) ≤ (k : Int) := by omega
        obtain ⟨b, o, rfl, n0, n1⟩ := HV.out.at HB.out k hlt
        have hst := HST.out k hlt
        have hle := HLE.out k
        have hmem := Pw.okL_mem HOK.out L[k] (List.getElem_mem hlt)
        obtain ⟨⟨x, q⟩, hm⟩ : ∃ m, L[k] = m := ⟨_, rfl⟩
        rw [hm] at n0 n1 hst hmem
        dsimp only at n0 n1 hst hmem
        obtain ⟨n, rfl⟩ : ∃ n : Nat, q = n := ⟨q.toNat, by omega⟩
        simp only [Int.toNat_natCast] at hst
        have HTX := Lib.hid (fun w => text_any x w (by omega))
        have HNM := Lib.hid (fun w => pnumber_any n (by omega) w)
        have htl : (Code.textL x).length ≤ 20 := by
          have := Pw.numL_le x.length (by omega)
          simp only [Code.textL, List.length_append]; omega
        have hnl := Pw.numL_le n (by omega)
        obtain ⟨X, hX⟩ : ∃ X, Code.textL x = X := ⟨_, rfl⟩
        obtain ⟨Y, hY⟩ : ∃ Y, Code.numL n = Y := ⟨_, rfl⟩
        rw [hX] at HTX hst htl
        rw [hY] at HNM hst hnl
        obtain ⟨S, hS⟩ : ∃ S, P ++ (L.take k).flatMap Pw.encM = S := ⟨_, rfl⟩
        rw [hS] at hst hle ⊢
        have hcm1 := cat_mk X Y
        have hcm2 := cat_mk S (X ++ Y)
        have hxy : (X ++ Y).length ≤ 40 := by rw [List.length_append]; omega
        obtain ⟨Z, hZ⟩ : ∃ Z, X ++ Y = Z := ⟨_, rfl⟩
        rw [hZ] at hcm1 hcm2 hst hxy
        obtain ⟨S2, hS2⟩ : ∃ S2, S ++ Z = S2 := ⟨_, rfl⟩
        rw [hS2] at hcm2 hst
        have HST2 := Lib.hid hst
        clear hm hX hY hS hZ hS2 hst hmem
        go_wp2_with fail
        have HBN := Lib.hid (HB.out.alloc HB.out.size (.cells #[.string ⟨x.toArray⟩, .int .i64 (n : Int)] 44))
        have c0 : (wr.alloc (.cells #[.string ⟨x.toArray⟩, .int .i64 (n : Int)] 44)).cell? ⟨wr.heap.size, 0, none⟩ = some (.string ⟨x.toArray⟩) := cell_of_row _ _ _ _ _ _ (heap_new_at _ _ _ rfl)
        have c1 : (wr.alloc (.cells #[.string ⟨x.toArray⟩, .int .i64 (n : Int)] 44)).cell? ⟨wr.heap.size, 1, none⟩ = some (.int .i64 (n : Int)) := cell_of_row _ _ _ _ _ _ (heap_new_at _ _ _ rfl)
        have hsz : wr.heap.size < (wr.alloc (.cells #[.string ⟨x.toArray⟩, .int .i64 (n : Int)] 44)).heap.size := by simp
        generalize wr.alloc (.cells #[.string ⟨x.toArray⟩, .int .i64 (n : Int)] 44) = w0 at *
        have HC1 : Hid (∀ w', Below w0.heap.size w0 w' → w'.cell? ⟨wr.heap.size, 1, none⟩ = some (.int .i64 (n : Int))) := Lib.hid (fun w' hb => (hb.cell hsz).trans c1)
        have HBD : Hid (Below w0.heap.size w0 w0.drew) := Lib.hid (Below.refl _ w0).drew
        go_region_with (first | (go_at_call 26; refine (HTX.out _).mono ?_; rintro e wa ⟨rfl, hba⟩; have hBa : Below w0.heap.size w0 wa := bchain HBD.out hba; have hca := HC1.out wa hBa) | (go_at_call 68; refine (HNM.out _).mono ?_; rintro e wb ⟨rfl, hbb⟩))
        all_goals
          have hbn := bchain HBN.out (bchain hBa hbb)
          clear hba hbb hBa hca
          go_wp2
          exact ⟨⟨k + 1, by omega, by go_num, by rw [HST2.out], hbn⟩, by simp [intOf]; omega⟩
      · have h1 : ¬ ((k : Int) < (L.length : Int)) := by omega
        obtain rfl : k = L.length := by omega
        rw [← HE.out]
        go_wp2
        go_ret2
        exact ⟨rfl, HB.out⟩

end Go.Proofs.YtddjkiejekfekaaDoor
namespace Go.Proofs.YtddjkiejekfekaaDoor
open Go.Proofs.YtddjkiejekfekaaDoor.Pw (M)

def Pw.rdM (st : Pw.St) : M × Pw.St := (⟨(Pw.rdT st).1, ((Pw.rdN (Pw.rdT st).2).1 : Nat)⟩, (Pw.rdN (Pw.rdT st).2).2)
def Pw.rdMs : Nat → Pw.St → List M × Pw.St
  | 0, st => ([], st)
  | k + 1, st => ((Pw.rdMs k st).1 ++ [(Pw.rdM (Pw.rdMs k st).2).1], (Pw.rdM (Pw.rdMs k st).2).2)
def Pw.decN (s : List UInt8) : Nat := (Pw.rdN (s, 0)).1
def Pw.decR (s : List UInt8) : List M × Pw.St := Pw.rdMs (Pw.decN s) (Pw.rdN (s, 0)).2
def Pw.decOK (s : List UInt8) : Bool := decide (Pw.decN s ≤ 7) && decide (Pw.endC (Pw.decR s).2 = 0) && Pw.okL (Pw.decR s).1
def Pw.decL (s : List UInt8) : List M := if Pw.decOK s then (Pw.decR s).1 else []
def Pw.decC (s : List UInt8) : Int := if Pw.decOK s then 0 else 3

theorem Pw.rdM_le (st : Pw.St) : (Pw.rdM st).2.1.length ≤ st.1.length := Nat.le_trans (Pw.rdN_le _) (Pw.rdT_le _)
theorem Pw.rdMs_le (k : Nat) (st : Pw.St) : (Pw.rdMs k st).2.1.length ≤ st.1.length := by
  induction k with
  | zero => exact Nat.le_refl _
  | succ k ih => exact Nat.le_trans (Pw.rdM_le _) ih
theorem Pw.rdMs_length (k : Nat) (st : Pw.St) : (Pw.rdMs k st).1.length = k := by
  induction k with
  | zero => rfl
  | succ k ih => simp [Pw.rdMs, ih]
theorem Pw.rdM_ok {st : Pw.St} (h : (Pw.rdM st).2.2 = 0) : st.2 = 0 ∧ st.1 = Pw.encM (Pw.rdM st).1 ++ (Pw.rdM st).2.1 := by
  unfold Pw.rdM at h ⊢
  have h1 := Pw.rdN_ok h
  have h2 := Pw.rdT_ok h1.1
  refine ⟨h2.1, ?_⟩
  rw [h2.2, h1.2]
  simp only [Pw.encM, Int.toNat_natCast, List.append_assoc]
theorem Pw.rdMs_ok {k : Nat} {st : Pw.St} (h : (Pw.rdMs k st).2.2 = 0) : st.2 = 0 ∧ st.1 = (Pw.rdMs k st).1.flatMap Pw.encM ++ (Pw.rdMs k st).2.1 := by
  induction k with
  | zero => exact ⟨h, by simp [Pw.rdMs]⟩
  | succ k ih =>
    have h1 := Pw.rdM_ok (show (Pw.rdM (Pw.rdMs k st).2).2.2 = 0 from h)
    have h2 := ih h1.1
    refine ⟨h2.1, ?_⟩
    rw [h2.2]
    simp only [Pw.rdMs, List.flatMap_append, List.flatMap_cons, List.flatMap_nil, List.append_nil, List.append_assoc]
    rw [← h1.2]
theorem Pw.decR_ok {s : List UInt8} (h : (Pw.decR s).2.2 = 0) : s = Pw.encB (Pw.decR s).1 ++ (Pw.decR s).2.1 := by
  have h1 := Pw.rdMs_ok h
  have h2 := Pw.rdN_ok h1.1
  have e1 : (Pw.decR s).1.length = (Pw.rdN (s, 0)).1 := Pw.rdMs_length _ _
  have h3 := h2.2
  simp only at h3
  rw [Pw.encB, e1, List.append_assoc]
  exact h3.trans (congrArg _ h1.2)
theorem Pw.dec_enc {s : List UInt8} (h : Pw.decOK s = true) : Pw.okL (Pw.decL s) = true ∧ Pw.encB (Pw.decL s) = s := by
  have h' := h
  simp only [Pw.decOK, Bool.and_eq_true, decide_eq_true_eq] at h'
  unfold Pw.decL
  rw [if_pos h]
  refine ⟨h'.2, ?_⟩
  have h1 : (Pw.decR s).2.2 = 0 ∧ (Pw.decR s).2.1 = [] := by
    have h2 := h'.1.2
    unfold Pw.endC at h2
    split at h2
    · simp at h2
    · rename_i h3
      refine ⟨h2, ?_⟩
      by_cases he : (Pw.decR s).2.1 = []
      · exact he
      · exact absurd ⟨h2, he⟩ h3
  have h2 := Pw.decR_ok h1.1
  rw [h1.2, List.append_nil] at h2
  exact h2.symm

/-! ### what was written is read so -/
theorem Pw.rdM_enc (m : M) (r : List UInt8) (h : m.name.length ≤ 6) (h1 : 0 ≤ m.power) (h2 : m.power ≤ 1000) : Pw.rdM (Pw.encM m ++ r, 0) = (m, r, 0) := by
  have e1 := Pw.rdT_text m.name (Code.numL m.power.toNat ++ r) h
  have e2 := Pw.rdN_num m.power.toNat r (by omega)
  unfold Pw.rdM
  rw [Pw.encM, List.append_assoc, e1]
  dsimp only
  rw [e2]
  dsimp only
  rw [show ((m.power.toNat : Nat) : Int) = m.power by omega]
theorem Pw.rdMs_enc (L : List M) (h : ∀ m ∈ L, m.name.length ≤ 6 ∧ 0 ≤ m.power ∧ m.power ≤ 1000) (r : List UInt8) : Pw.rdMs L.length (L.flatMap Pw.encM ++ r, 0) = (L, r, 0) := by
  have key : ∀ k, k ≤ L.length → Pw.rdMs k (L.flatMap Pw.encM ++ r, 0) = (L.take k, (L.drop k).flatMap Pw.encM ++ r, 0) := by
    intro k
    induction k with
    | zero => intro _; simp [Pw.rdMs]
    | succ k ih =>
      intro hk
      have h1 := ih (by omega)
      have hm := h L[k] (List.getElem_mem (by omega))
      have e := Pw.rdM_enc L[k] ((L.drop (k + 1)).flatMap Pw.encM ++ r) hm.1 hm.2.1 hm.2.2
      have ed : (L.drop k).flatMap Pw.encM ++ r = Pw.encM L[k] ++ ((L.drop (k + 1)).flatMap Pw.encM ++ r) := by
        rw [List.drop_eq_getElem_cons (show k < L.length by omega), List.flatMap_cons, List.append_assoc]
      rw [Pw.rdMs, h1]
      dsimp only
      rw [ed, e, List.take_succ_eq_append_getElem (by omega)]
  have := key L.length (Nat.le_refl _)
  simpa using this
theorem Pw.enc_dec {L : List M} (h : Pw.okL L = true) : Pw.decOK (Pw.encB L) = true ∧ Pw.decL (Pw.encB L) = L := by
  have hl := Pw.okL_len h
  have e1 := Pw.rdN_num L.length (L.flatMap Pw.encM) (by omega)
  have e2 := Pw.rdMs_enc L (fun m hm => by have := Pw.okL_mem h m hm; exact ⟨this.2.1, by omega, this.2.2.2⟩) []
  rw [List.append_nil] at e2
  have hn : Pw.decN (Pw.encB L) = L.length := by unfold Pw.decN Pw.encB; rw [e1]
  have hr : Pw.decR (Pw.encB L) = (L, [], 0) := by
    unfold Pw.decR
    rw [hn]
    unfold Pw.encB
    rw [e1]
    exact e2
  have hok : Pw.decOK (Pw.encB L) = true := by
    unfold Pw.decOK
    rw [hn, hr]
    simp [Pw.endC, h]
    omega
  refine ⟨hok, ?_⟩
  unfold Pw.decL
  rw [if_pos hok, hr]
end Go.Proofs.YtddjkiejekfekaaDoor
namespace Go.Proofs.YtddjkiejekfekaaDoor
open Go.RowKit
open Go.Proofs.YtddjkiejekfekaaDoor.Pw (M)

/-- Members of the call's own, in a block from B on. -/
def OwnM (w : World) (B : Nat) (s : Value) (L : List M) : Prop := w.ownsRow B 44 2 s L.length (mrows L)
theorem OwnM.nil (w : World) (B : Nat) : OwnM w B (.slice none 0 0) [] := ⟨rfl, Or.inl ⟨rfl, rfl⟩⟩
theorem OwnM.mems {w : World} {B : Nat} {s : Value} {L : List M} (h : OwnM w B s L) : Mems w s L := Mems.own h
theorem OwnM.below {w w' : World} {B : Nat} {s : Value} {L : List M} (h : OwnM w B s L) (hb : Below w.heap.size w w') : OwnM w' B s L := row_keep (G := fun _ => False) h (Out.of hb) (fun _ _ => id)

/-- The reader in block g, the row t of members. -/
structure DecAt (w : World) (B g : Nat) (t : Value) (L : List M) (st : Pw.St) : Prop where
  rd : Rd w g st.1 st.2
  row : OwnM w B t L
  apart : t.ownBlock ≠ some g
  from_ : B ≤ g
theorem DecAt.read {w w' : World} {B g : Nat} {t : Value} {L : List M} {st st' : Pw.St} (h : DecAt w B g t L st) (hr : Rd w' g st'.1 st'.2) (ho : Only g w w') : DecAt w' B g t L st' :=
  ⟨hr, row_keep h.row ho.out (fun _ hk e => h.apart (e ▸ hk)), h.apart, h.from_⟩
theorem DecAt.below {w w' : World} {B g : Nat} {t : Value} {L : List M} {st : Pw.St} (h : DecAt w B g t L st) (hb : Below w.heap.size w w') : DecAt w' B g t L st :=
  ⟨h.rd.below hb, h.row.below hb, h.apart, h.from_⟩
theorem DecAt.append {w w0 w' : World} {B g g' H n cap : Nat} {t : Value} {L : List M} {st : Pw.St} {m : M} (h : DecAt w B g t L st) (hb : Below w.heap.size w w0) (hg : w0.grownBy w' t.ownBlock) (hown : w'.ownsRow B 44 2 (.slice (some ⟨g', 0, none⟩) n cap) n (mrows L ++ mcells m)) (hn : n = L.length + 1) (hat : t.ownBlock = some g' ∨ g' = H) (hH : w.heap.size ≤ H) : DecAt w' B g (.slice (some ⟨g', 0, none⟩) n cap) (L ++ [m]) st := by
  have h0 := h.below hb
  have hlt := h.rd.lt
  refine ⟨?_, ?_, ?_, h.from_⟩
  · have ho := Out.grown hg (F := fun k => t.ownBlock = some k) (fun _ e => e)
    exact (ho.block g h0.rd.lt (fun e => h.apart e)).trans h0.rd
  · unfold OwnM
    rw [mrows_append, List.length_append, show mrows [m] = mcells m by simp [mrows]]
    subst hn
    exact hown
  · intro e
    simp [Value.ownBlock] at e
    subst e
    rcases hat with h1 | h1
    · exact h.apart h1
    · omega
theorem DecAt.bel {w w' : World} {B g : Nat} {t : Value} {L : List M} {st : Pw.St} (h : DecAt w B g t L st) (hB : B ≤ w.heap.size) (ho : Only g w w') : Below B w w' := ho.below h.from_ hB

def DecPost (s : List UInt8) (w : World) (e : Ending) (w' : World) : Prop := ∃ v, e = .returned (.tuple #[v, .int .i64 (Pw.decC s)]) ∧ OwnM w' w.heap.size v (Pw.decL s) ∧ Below w.heap.size w w'
theorem decPost_bad {s : List UInt8} {w w' : World} (h : Pw.decOK s = false) (hb : Below w.heap.size w w') : DecPost s w (.returned (.tuple #[.slice none 0 0, .int .i64 3])) w' := by
  refine ⟨.slice none 0 0, ?_, ?_, hb⟩
  · simp [Pw.decC, h]
  · rw [show Pw.decL s = [] by simp [Pw.decL, h]]
    exact OwnM.nil _ _

set_option maxRecDepth 8000 in
set_option maxHeartbeats 2000000 in
theorem decode_any (s : List UInt8) (w : World) (hl : s.length ≤ 1000000) :
    Calls Tryd.prog 35 #[.string ⟨s.toArray⟩] w (DecPost s w) := by
  obtain ⟨i0, hi, hz0, hz1, hz2⟩ := info_parts Tryd.infoMember
  have HN := Lib.hid (fun g w h => rnum_st (s, 0) g w h (by dsimp only; omega))
  have hn63 := Pw.rdN_lt (s, 0)
  have HRL := Lib.hid (fun k => Nat.le_trans (Pw.rdMs_le k (Pw.rdN (s, 0)).2) (Pw.rdN_le (s, 0)))
  have HDN : Hid (Pw.decN s = (Pw.rdN (s, 0)).1) := Lib.hid rfl
  have HDR : Hid (Pw.decR s = Pw.rdMs (Pw.decN s) (Pw.rdN (s, 0)).2) := Lib.hid rfl
  obtain ⟨⟨n, st⟩, hp⟩ : ∃ p, Pw.rdN (s, 0) = p := ⟨_, rfl⟩
  rw [hp] at HN hn63 HRL HDN HDR
  dsimp only at HN hn63 HRL HDN HDR
  rw [HDN.out] at HDR
  have hn : (n : Int) ≤ 9223372036854775807 := by omega
  have HL := Lib.hid hl
  clear hp hn63 hl
  go_enter Tryd.func35, Tryd.ntmps35
  go_wp2_with fail
  refine (read_any s w).mono ?_
  rintro e w1 ⟨rfl, hr1, hb1⟩
  obtain ⟨G, hG⟩ : ∃ G, w.heap.size = G := ⟨_, rfl⟩
  rw [hG] at hr1
  have HG := Lib.hid hG
  have HR1 := Lib.hid hr1
  have HB1 : Hid (Below G w w1) := Lib.hid (by rw [← hG]; exact hb1)
  rw [hG]
  have HG1 : Hid (G ≤ w1.heap.size) := Lib.hid (Nat.le_of_lt hr1.lt)
  clear hG hr1 hb1
  go_wp2_with fail
  refine (HN.out G w1 HR1.out).mono ?_
  rintro e w2 ⟨rfl, hr2, ho2⟩
  have HB2 : Hid (Below G w w2) := Lib.hid (HB1.out.trans (ho2.below (Nat.le_refl _) HG1.out))
  have HD2 : Hid (DecAt w2 G G (.slice none 0 0) [] st) := Lib.hid ⟨hr2, OwnM.nil _ _, by simp [Value.ownBlock], Nat.le_refl _⟩
  clear hr2 ho2
  by_cases h7 : 7 < n
  · have h7' : (7 : Int) < (n : Int) := by omega
    go_wp2
    go_ret2
    exact decPost_bad (by simp only [Pw.decOK, HDN.out]; rw [decide_eq_false (by omega)]; rfl) (by rw [HG.out]; exact HB2.out)
  · have h7' : ¬ ((7 : Int) < (n : Int)) := by omega
    go_wp2
    go_loopw [6, 14] (fun t i wr => ∃ (k : Nat) (u : Value), u = t ∧ k ≤ n ∧ i = .int .i64 k ∧ DecAt wr G G u (Pw.rdMs k st).1 (Pw.rdMs k st).2 ∧ Below G w wr) (fun _ i _ => n - (intOf i).toNat)
    case atStart => exact ⟨0, _, rfl, Nat.zero_le _, rfl, HD2.out, HB2.out⟩
    case round =>
      obtain ⟨k, u, rfl, hk, rfl, hd, hb⟩ := hrel
      have HD := Lib.hid hd
      have HB := Lib.hid hb
      have HKL := Lib.hid (Pw.rdMs_length k st)
      have HGS : Hid (G ≤ wr.heap.size) := Lib.hid (Nat.le_of_lt hd.rd.lt)
      clear hd hb HD2 HB2 HR1 HB1
      by_cases hlt : k < n
      · have h1 : (k : Int) < (n : Int) := by omega
        have HSN1 : Hid ((Pw.rdMs (k + 1) st).1 = (Pw.rdMs k st).1 ++ [(Pw.rdM (Pw.rdMs k st).2).1]) := Lib.hid rfl
        have HSN2 : Hid ((Pw.rdMs (k + 1) st).2 = (Pw.rdM (Pw.rdMs k st).2).2) := Lib.hid rfl
        have HLE := Lib.hid (Nat.le_trans (HRL.out k) (Nat.le_trans HL.out (by omega : 1000000 ≤ 100000000)))
        obtain ⟨⟨Q, q⟩, hq⟩ : ∃ q, Pw.rdMs k st = q := ⟨_, rfl⟩
        rw [hq] at HD HKL HSN1 HSN2 HLE
        dsimp only at HD HKL HSN1 HSN2 HLE
        have HT := Lib.hid (fun w h => rtext_st q G w h HLE.out)
        have HNN := Lib.hid (fun w h => rnum_st (Pw.rdT q).2 G w h (Nat.le_trans (Pw.rdT_le q) HLE.out))
        have HM : Hid (Pw.rdM q = (⟨(Pw.rdT q).1, ((Pw.rdN (Pw.rdT q).2).1 : Nat)⟩, (Pw.rdN (Pw.rdT q).2).2)) := Lib.hid rfl
        obtain ⟨⟨x, q1⟩, hx⟩ : ∃ p, Pw.rdT q = p := ⟨_, rfl⟩
        rw [hx] at HT HNN HM
        dsimp only at HT HNN HM
        obtain ⟨⟨p, q2⟩, hp⟩ : ∃ p, Pw.rdN q1 = p := ⟨_, rfl⟩
        rw [hp] at HNN HM
        dsimp only at HNN HM
        rw [HM.out] at HSN1 HSN2
        clear hq hx hp
        have HQ7 : Hid (Q.length ≤ 7) := Lib.hid (by have := HKL.out; omega)
        go_wp2_with fail
        refine (HT.out _ HD.out.rd).mono ?_
        rintro e w3 ⟨rfl, hr3, ho3⟩
        have HD3 := Lib.hid (HD.out.read (st' := q1) hr3 ho3)
        have HB3 := Lib.hid (HB.out.trans (HD.out.bel HGS.out ho3))
        clear hr3 ho3
        go_wp2_with fail
        refine (HNN.out _ HD3.out.rd).mono ?_
        rintro e w4 ⟨rfl, hr4, ho4⟩
        have HD4 := Lib.hid (HD3.out.read (st' := q2) hr4 ho4)
        have HB4 := Lib.hid (HB3.out.trans (HD3.out.bel (Nat.le_of_lt HD3.out.rd.lt) ho4))
        have HG4 : Hid (G ≤ w4.heap.size) := Lib.hid (Nat.le_of_lt HD4.out.rd.lt)
        clear hr4 ho4
        go_wp2_with (at_builtin; refine wpList_append_lies _ rfl _ _ _ rfl G 44 i0 (.agg #[.string ⟨#[]⟩, .int .i64 0]) 2 24 Tryd.underlying22 hi hz0 hz1 hz2 rfl (by decide) u Q.length (mrows Q) (by first | rfl | (simp; done)) (World.ownsRow.alloc HD4.out.row _) ⟨w4.heap.size, 0, none⟩ 1 1 (mcells ⟨x, (p : Nat)⟩) (by rfl) rfl (World.news_of_block (heap_new_at _ _ _ rfl)) (by simp [mcells, Value.oneCell']) (by decide) (by have := HQ7.out; unfold maxLen; omega) (by have := HQ7.out; omega) (by have := HG4.out; simp; omega) (w4.heap.size + 1) (by simp) ?_; intro g' cap' w5 hown5 hgrow5 hat5 hlt5)
        have hb4 := (Below.refl w4.heap.size w4).alloc (Nat.le_refl _) (.cells #[.string ⟨x.toArray⟩, .int .i64 (p : Nat)] 44)
        have hd5 := HD4.out.append hb4 hgrow5 hown5 rfl hat5 (by omega)
        have hb5 : Below G w w5 := by
          have h3 : Out (fun j => u.ownBlock = some j) w4 w5 := (Out.of hb4).trans (Out.grown hgrow5 (fun j e => e))
          exact HB4.out.trans (h3.below (fun j hj => (World.ownsRow.lt HD4.out.row j hj).1) HG4.out)
        exact ⟨⟨k + 1, _, rfl, by omega, by go_num, by rw [HSN1.out, HSN2.out]; exact hd5, hb5⟩, by simp [intOf]; omega⟩
      · have h1 : ¬ ((k : Int) < (n : Int)) := by omega
        obtain rfl : k = n := by omega
        rw [← HDR.out] at HD
        have HOKK : Hid (Pw.decOK s = (decide (Pw.endC (Pw.decR s).2 = 0) && Pw.okL (Pw.decR s).1)) := Lib.hid (by simp only [Pw.decOK, HDN.out]; rw [decide_eq_true (by omega), Bool.true_and])
        have HDL : Hid (Pw.decOK s = true → Pw.decL s = (Pw.decR s).1 ∧ Pw.decC s = 0) := Lib.hid (fun h => by simp [Pw.decL, Pw.decC, h])
        obtain ⟨⟨Q, q⟩, hq⟩ : ∃ q, Pw.decR s = q := ⟨_, rfl⟩
        rw [hq] at HD HOKK HDL
        dsimp only at HD HOKK HDL
        have HE := Lib.hid (fun w h => rend_st q G w h)
        obtain ⟨C, hC⟩ : ∃ C, Pw.endC q = C := ⟨_, rfl⟩
        rw [hC] at HE HOKK
        clear hq hC
        by_cases hC0 : C = 0
        · subst hC0
          go_wp2_with fail
          refine (HE.out _ HD.out.rd).mono ?_
          rintro e w3 ⟨rfl, ho3⟩
          have hrow : OwnM w3 G u Q := row_keep HD.out.row ho3.out (fun k hk e => HD.out.apart (e ▸ hk))
          have HROW := Lib.hid hrow
          have HB3 := Lib.hid (HB.out.trans (HD.out.bel HGS.out ho3))
          clear ho3 hrow
          go_wp2_with fail
          refine (check_any Q u w3 HROW.out.mems).mono ?_
          rintro e w4 ⟨rfl, hb4⟩
          have HROW4 := Lib.hid (HROW.out.below hb4)
          have HB4 : Hid (Below G w w4) := Lib.hid (HB3.out.trans (hb4.mono (by have := HB3.out.size; have := HG.out; omega)))
          clear hb4
          cases hQ : Pw.okL Q with
          | true =>
            rw [Pw.checkC_ok hQ]
            have hdk : Pw.decOK s = true := by rw [HOKK.out, hQ]; rfl
            have HF := Lib.hid (HDL.out hdk)
            clear hQ hdk
            go_wp2
            go_ret2
            refine ⟨u, ?_, ?_, ?_⟩
            · rw [HF.out.2]; rfl
            · rw [HF.out.1, HG.out]; exact HROW4.out
            · rw [HG.out]; exact HB4.out
          | false =>
            rw [Pw.checkC_bad hQ]
            have HF : Hid (Pw.decOK s = false) := Lib.hid (by rw [HOKK.out, hQ]; rfl)
            clear hQ
            go_wp2
            go_ret2
            exact decPost_bad HF.out (by rw [HG.out]; exact HB4.out)
        · have HF : Hid (Pw.decOK s = false) := Lib.hid (by rw [HOKK.out, decide_eq_false hC0]; rfl)
          have hC1 : (C != 0) = true := by rw [bne_iff_ne]; exact hC0
          go_wp2_with fail
          refine (HE.out _ HD.out.rd).mono ?_
          rintro e w3 ⟨rfl, ho3⟩
          have HB3 := Lib.hid (HB.out.trans (HD.out.bel HGS.out ho3))
          clear ho3
          go_wp2
          go_ret2
          exact decPost_bad HF.out (by rw [HG.out]; exact HB3.out)
end Go.Proofs.YtddjkiejekfekaaDoor
namespace Go.Proofs.YtddjkiejekfekaaDoor.Txn
open Go.Proofs.YtddjkiejekfekaaDoor.Pw (M)

abbrev T := List UInt8
structure X where
  kind : Int
  frm : T
  seq : Int
  dst : T
  amt : Int
  key : T
  val : T
  mem : List M
def zero : X := ⟨0, [], 0, [], 0, [], [], []⟩
instance : Inhabited X := ⟨zero⟩
theorem X.ext' {a b : X} (h1 : a.kind = b.kind) (h2 : a.frm = b.frm) (h3 : a.seq = b.seq) (h4 : a.dst = b.dst) (h5 : a.amt = b.amt) (h6 : a.key = b.key) (h7 : a.val = b.val) (h8 : a.mem = b.mem) : a = b := by cases a; cases b; simp_all
instance : DecidableEq X := fun a b =>
  if h : a.kind = b.kind ∧ a.frm = b.frm ∧ a.seq = b.seq ∧ a.dst = b.dst ∧ a.amt = b.amt ∧ a.key = b.key ∧ a.val = b.val ∧ a.mem = b.mem then isTrue (X.ext' h.1 h.2.1 h.2.2.1 h.2.2.2.1 h.2.2.2.2.1 h.2.2.2.2.2.1 h.2.2.2.2.2.2.1 h.2.2.2.2.2.2.2) else isFalse (fun e => h (by subst e; exact ⟨rfl, rfl, rfl, rfl, rfl, rfl, rfl, rfl⟩))
def nameB (s : T) : Bool := decide (1 ≤ s.length) && decide (s.length ≤ 6)
def amtB (n : Int) : Bool := decide (1 ≤ n) && decide (n ≤ 1099511627776)
def keyB (s : T) : Bool := decide (1 ≤ s.length) && decide (s.length ≤ 6)
def valB (s : T) : Bool := decide (1 ≤ s.length) && decide (s.length ≤ 32)
/-- What each kind asks of the fields that are its own or are not. -/
def kindB (x : X) : Bool :=
  if x.kind = 1 then nameB x.dst && amtB x.amt && x.key.isEmpty && x.val.isEmpty && x.mem.isEmpty
  else if x.kind = 2 then x.dst.isEmpty && decide (x.amt = 0) && keyB x.key && valB x.val && x.mem.isEmpty
  else if x.kind = 3 then x.dst.isEmpty && decide (x.amt = 0) && keyB x.key && x.val.isEmpty && x.mem.isEmpty
  else if x.kind = 4 then x.dst.isEmpty && decide (x.amt = 0) && x.key.isEmpty && x.val.isEmpty && Pw.okL x.mem
  else false
def fine (x : X) : Bool := nameB x.frm && decide (0 ≤ x.seq) && decide (x.seq ≤ 1099511627776) && kindB x
/-- What the kind has, as bytes. -/
def tailB (x : X) : T :=
  if x.kind = 1 then Code.textL x.dst ++ Code.numL x.amt.toNat
  else if x.kind = 2 then Code.textL x.key ++ Code.textL x.val
  else if x.kind = 3 then Code.textL x.key
  else Code.textL (Pw.encB x.mem)
def written (x : X) : T := UInt8.ofNat x.kind.toNat :: (Code.textL x.frm ++ Code.numL x.seq.toNat ++ tailB x)
/-- What is read behind the kind's byte. -/
def readT (k : Int) (f : T) (n : Int) (st : Pw.St) : X × Pw.St :=
  if k = 1 then (⟨k, f, n, (Tm.rdT 100 st).1, ((Pw.rdN (Tm.rdT 100 st).2).1 : Nat), [], [], []⟩, (Pw.rdN (Tm.rdT 100 st).2).2)
  else if k = 2 then (⟨k, f, n, [], 0, (Tm.rdT 100 st).1, (Tm.rdT 100 (Tm.rdT 100 st).2).1, []⟩, (Tm.rdT 100 (Tm.rdT 100 st).2).2)
  else if k = 3 then (⟨k, f, n, [], 0, (Tm.rdT 100 st).1, [], []⟩, (Tm.rdT 100 st).2)
  else (⟨k, f, n, [], 0, [], [], Pw.decL (Tm.rdT 100000 st).1⟩, (Tm.rdT 100000 st).2)
def readX (c : UInt8) (r : T) : X × Pw.St := readT (c.toNat : Nat) (Tm.rdT 100 (r, 0)).1 ((Pw.rdN (Tm.rdT 100 (r, 0)).2).1 : Nat) (Pw.rdN (Tm.rdT 100 (r, 0)).2).2
/-- What bytes tell: one that may be, whose bytes these are. -/
def dec : T → Option X
  | [] => none
  | c :: r => if (readX c r).2.2 = 0 ∧ fine (readX c r).1 = true ∧ written (readX c r).1 = c :: r then some (readX c r).1 else none

theorem fine_of {x : X} (h : fine x = true) : 1 ≤ x.frm.length ∧ x.frm.length ≤ 6 ∧ 0 ≤ x.seq ∧ x.seq ≤ 1099511627776 ∧ kindB x = true := by
  simp only [fine, nameB, Bool.and_eq_true, decide_eq_true_eq] at h
  exact ⟨h.1.1.1.1, h.1.1.1.2, h.1.1.2, h.1.2, h.2⟩
theorem kind_of {x : X} (h : kindB x = true) :
    (x.kind = 1 ∧ 1 ≤ x.dst.length ∧ x.dst.length ≤ 6 ∧ 1 ≤ x.amt ∧ x.amt ≤ 1099511627776 ∧ x.key = [] ∧ x.val = [] ∧ x.mem = []) ∨
    (x.kind = 2 ∧ x.dst = [] ∧ x.amt = 0 ∧ 1 ≤ x.key.length ∧ x.key.length ≤ 6 ∧ 1 ≤ x.val.length ∧ x.val.length ≤ 32 ∧ x.mem = []) ∨
    (x.kind = 3 ∧ x.dst = [] ∧ x.amt = 0 ∧ 1 ≤ x.key.length ∧ x.key.length ≤ 6 ∧ x.val = [] ∧ x.mem = []) ∨
    (x.kind = 4 ∧ x.dst = [] ∧ x.amt = 0 ∧ x.key = [] ∧ x.val = [] ∧ Pw.okL x.mem = true) := by
  unfold kindB at h
  split at h
  · rename_i hk
    simp only [nameB, amtB, Bool.and_eq_true, decide_eq_true_eq, List.isEmpty_iff] at h
    exact Or.inl ⟨hk, h.1.1.1.1.1, h.1.1.1.1.2, h.1.1.1.2.1, h.1.1.1.2.2, h.1.1.2, h.1.2, h.2⟩
  · split at h
    · rename_i hk
      simp only [keyB, valB, Bool.and_eq_true, decide_eq_true_eq, List.isEmpty_iff] at h
      exact Or.inr (Or.inl ⟨hk, h.1.1.1.1, h.1.1.1.2, h.1.1.2.1, h.1.1.2.2, h.1.2.1, h.1.2.2, h.2⟩)
    · split at h
      · rename_i hk
        simp only [keyB, Bool.and_eq_true, decide_eq_true_eq, List.isEmpty_iff] at h
        exact Or.inr (Or.inr (Or.inl ⟨hk, h.1.1.1.1, h.1.1.1.2, h.1.1.2.1, h.1.1.2.2, h.1.2, h.2⟩))
      · split at h
        · rename_i hk
          simp only [Bool.and_eq_true, decide_eq_true_eq, List.isEmpty_iff] at h
          exact Or.inr (Or.inr (Or.inr ⟨hk, h.1.1.1.1, h.1.1.1.2, h.1.1.2, h.1.2, h.2⟩))
        · cases h
/-- What was written is read, whatever is behind it. -/
theorem read_written {x : X} (h : fine x = true) (r : T) : ∃ c s, written x = c :: s ∧ readX c (s ++ r) = (x, r, 0) := by
  obtain ⟨h1, h2, h3, h4, h5⟩ := fine_of h
  refine ⟨_, _, rfl, ?_⟩
  have e1 : Tm.rdT 100 (Code.textL x.frm ++ Code.numL x.seq.toNat ++ tailB x ++ r, 0) = (x.frm, Code.numL x.seq.toNat ++ (tailB x ++ r), 0) := by
    rw [List.append_assoc, List.append_assoc]
    exact Tm.rdT_text 100 x.frm _ (by omega) (by decide)
  have e2 : Pw.rdN (Code.numL x.seq.toNat ++ (tailB x ++ r), 0) = (x.seq.toNat, tailB x ++ r, 0) := Pw.rdN_num _ _ (by omega)
  unfold readX
  rw [e1]
  dsimp only
  rw [e2]
  dsimp only
  have e3 : ((x.seq.toNat : Nat) : Int) = x.seq := by omega
  rw [e3]
  rcases kind_of h5 with ⟨hk, q1, q2, q3, q4, q5, q6, q7⟩ | ⟨hk, q1, q2, q3, q4, q5, q6, q7⟩ | ⟨hk, q1, q2, q3, q4, q5, q6⟩ | ⟨hk, q1, q2, q3, q4, q5⟩
  · have ek : (((UInt8.ofNat x.kind.toNat).toNat : Nat) : Int) = 1 := by rw [hk]; rfl
    rw [ek]
    unfold readT tailB
    rw [if_pos rfl, if_pos hk]
    have f1 : Tm.rdT 100 (Code.textL x.dst ++ Code.numL x.amt.toNat ++ r, 0) = (x.dst, Code.numL x.amt.toNat ++ r, 0) := by
      rw [List.append_assoc]; exact Tm.rdT_text 100 x.dst _ (by omega) (by decide)
    have f2 : Pw.rdN (Code.numL x.amt.toNat ++ r, 0) = (x.amt.toNat, r, 0) := Pw.rdN_num _ _ (by omega)
    rw [f1]
    dsimp only
    rw [f2]
    dsimp only
    refine Prod.ext (X.ext' hk.symm rfl rfl rfl ?_ q5.symm q6.symm q7.symm) rfl
    show ((x.amt.toNat : Nat) : Int) = x.amt
    omega
  · have ek : (((UInt8.ofNat x.kind.toNat).toNat : Nat) : Int) = 2 := by rw [hk]; rfl
    rw [ek]
    unfold readT tailB
    rw [if_neg (by decide), if_pos rfl, if_neg (by omega), if_pos hk]
    have f1 : Tm.rdT 100 (Code.textL x.key ++ Code.textL x.val ++ r, 0) = (x.key, Code.textL x.val ++ r, 0) := by
      rw [List.append_assoc]; exact Tm.rdT_text 100 x.key _ (by omega) (by decide)
    have f2 : Tm.rdT 100 (Code.textL x.val ++ r, 0) = (x.val, r, 0) := Tm.rdT_text 100 x.val _ (by omega) (by decide)
    rw [f1]
    dsimp only
    rw [f2]
    exact Prod.ext (X.ext' hk.symm rfl rfl q1.symm q2.symm rfl rfl q7.symm) rfl
  · have ek : (((UInt8.ofNat x.kind.toNat).toNat : Nat) : Int) = 3 := by rw [hk]; rfl
    rw [ek]
    unfold readT tailB
    rw [if_neg (by decide), if_neg (by decide), if_pos rfl, if_neg (by omega), if_neg (by omega), if_pos hk]
    have f1 : Tm.rdT 100 (Code.textL x.key ++ r, 0) = (x.key, r, 0) := Tm.rdT_text 100 x.key _ (by omega) (by decide)
    rw [f1]
    exact Prod.ext (X.ext' hk.symm rfl rfl q1.symm q2.symm rfl q5.symm q6.symm) rfl
  · have ek : (((UInt8.ofNat x.kind.toNat).toNat : Nat) : Int) = 4 := by rw [hk]; rfl
    rw [ek]
    unfold readT tailB
    rw [if_neg (by decide), if_neg (by decide), if_neg (by decide), if_neg (by omega), if_neg (by omega), if_neg (by omega)]
    have hle : (Pw.encB x.mem).length ≤ 200 := by
      have h9 := Pw.encB_le q5 x.mem.length
      rw [List.take_length] at h9
      exact h9
    have f1 : Tm.rdT 100000 (Code.textL (Pw.encB x.mem) ++ r, 0) = (Pw.encB x.mem, r, 0) := Tm.rdT_text 100000 _ _ (by omega) (by decide)
    rw [f1]
    exact Prod.ext (X.ext' hk.symm rfl rfl q1.symm q2.symm q3.symm q4.symm (Pw.enc_dec q5).2) rfl
theorem dec_written {x : X} (h : fine x = true) : dec (written x) = some x := by
  obtain ⟨c, s, e, hr⟩ := read_written h []
  rw [List.append_nil] at hr
  rw [e, dec, hr, if_pos ⟨rfl, h, e⟩]
theorem dec_ok {s : T} {x : X} (h : dec s = some x) : fine x = true ∧ written x = s := by
  cases s with
  | nil => cases h
  | cons c r =>
    rw [dec] at h
    split at h
    · rename_i q
      obtain rfl := Option.some.inj h
      exact q.2
    · cases h
theorem dec_iff {s : T} {x : X} : dec s = some x ↔ fine x = true ∧ written x = s := ⟨dec_ok, fun ⟨h, e⟩ => by rw [← e]; exact dec_written h⟩
/-- No transaction's bytes begin another one's. -/
theorem written_more {x y : X} (hx : fine x = true) (hy : fine y = true) {r : T} (e : written y = written x ++ r) : r = [] := by
  obtain ⟨c, s, e1, h1⟩ := read_written hx r
  obtain ⟨d, t, e2, h2⟩ := read_written hy []
  rw [e1, e2, List.cons_append] at e
  obtain ⟨rfl, rfl⟩ := List.cons.inj e
  rw [List.append_nil, h1] at h2
  exact (Prod.ext_iff.1 (Prod.ext_iff.1 h2).2).1
theorem dec_more {x : X} (h : fine x = true) (c : UInt8) : dec (written x ++ [c]) = none := by
  cases hd : dec (written x ++ [c]) with
  | none => rfl
  | some y =>
    obtain ⟨hy, e⟩ := dec_ok hd
    exact absurd (written_more h hy e) (by simp)
theorem dec_less {x : X} (h : fine x = true) : dec ((written x).take ((written x).length - 1)) = none := by
  cases hd : dec ((written x).take ((written x).length - 1)) with
  | none => rfl
  | some y =>
    obtain ⟨hy, e⟩ := dec_ok hd
    have e2 : written x = written y ++ (written x).drop ((written x).length - 1) := by rw [e, List.take_append_drop]
    have h1 := written_more hy h e2
    have h2 := congrArg List.length h1
    have h3 : 1 ≤ (written x).length := by unfold written; simp
    simp only [List.length_drop, List.length_nil] at h2
    omega
theorem written_len {x : X} (h : fine x = true) : (written x).length ≤ 400 := by
  obtain ⟨h1, h2, h3, h4, h5⟩ := fine_of h
  have b1 : ∀ n : Nat, n < 2 ^ 63 → (Code.numL n).length ≤ 9 := Pw.numL_le
  have b2 : ∀ t : T, t.length ≤ 200 → (Code.textL t).length ≤ 9 + t.length := fun t ht => by
    have := b1 t.length (by omega)
    unfold Code.textL
    rw [List.length_append]; omega
  have c1 := b2 x.frm (by omega)
  have c2 := b1 x.seq.toNat (by omega)
  have c3 : (tailB x).length ≤ 300 := by
    unfold tailB
    rcases kind_of h5 with ⟨hk, q1, q2, q3, q4, q5, q6, q7⟩ | ⟨hk, q1, q2, q3, q4, q5, q6, q7⟩ | ⟨hk, q1, q2, q3, q4, q5, q6⟩ | ⟨hk, q1, q2, q3, q4, q5⟩
    · rw [if_pos hk, List.length_append]
      have := b2 x.dst (by omega)
      have := b1 x.amt.toNat (by omega)
      omega
    · rw [if_neg (by omega), if_pos hk, List.length_append]
      have := b2 x.key (by omega)
      have := b2 x.val (by omega)
      omega
    · rw [if_neg (by omega), if_neg (by omega), if_pos hk]
      have := b2 x.key (by omega)
      omega
    · rw [if_neg (by omega), if_neg (by omega), if_neg (by omega)]
      have hle : (Pw.encB x.mem).length ≤ 200 := by
        have h9 := Pw.encB_le q5 x.mem.length
        rw [List.take_length] at h9
        exact h9
      have := b2 (Pw.encB x.mem) hle
      omega
  unfold written
  simp only [List.length_cons, List.length_append]
  omega

/-! ### lists -/
def fines (L : List X) : Bool := L.all fine
def encAll (L : List X) : T × Nat := if 8 < L.length then ([], 2) else if fines L = true then (Code.listL (L.map written), 0) else ([], 150)
def decs : List T → Option (List X)
  | [] => some []
  | t :: l => match dec t with
    | none => none
    | some x => match decs l with
      | none => none
      | some r => some (x :: r)
def decAll (s : T) : Option (List X) := if (Code.listR 8 100000 s).2.2 = 0 ∧ (Code.listR 8 100000 s).2.1 = [] then decs (Code.listR 8 100000 s).1 else none
theorem decs_iff {l : List T} {L : List X} : decs l = some L ↔ fines L = true ∧ L.map written = l := by
  induction l generalizing L with
  | nil =>
    rw [decs]
    constructor
    · intro h; obtain rfl := Option.some.inj h; exact ⟨rfl, rfl⟩
    · rintro ⟨_, h⟩; rw [List.map_eq_nil_iff] at h; rw [h]
  | cons t l ih =>
    rw [decs]
    constructor
    · intro h
      split at h
      · cases h
      · rename_i x hx
        split at h
        · cases h
        · rename_i r hr
          obtain rfl := Option.some.inj h
          obtain ⟨h1, h2⟩ := dec_ok hx
          obtain ⟨h3, h4⟩ := ih.1 hr
          exact ⟨by simp only [fines, List.all_cons, h1, Bool.true_and]; exact h3, by rw [List.map_cons, h2, h4]⟩
    · rintro ⟨h1, h2⟩
      cases L with
      | nil => cases h2
      | cons x r =>
        rw [List.map_cons] at h2
        obtain ⟨e1, e2⟩ := List.cons.inj h2
        simp only [fines, List.all_cons, Bool.and_eq_true] at h1
        rw [dec_iff.2 ⟨h1.1, e1⟩]
        dsimp only
        rw [ih.2 ⟨h1.2, e2⟩]
theorem decAll_ok {s : T} {L : List X} (h : decAll s = some L) : L.length ≤ 8 ∧ fines L = true ∧ Code.listL (L.map written) = s := by
  unfold decAll at h
  split at h
  · rename_i q
    obtain ⟨h1, h2⟩ := decs_iff.1 h
    obtain ⟨h3, h4⟩ := Tm.list_ok 8 100000 s q.1
    rw [q.2, List.append_nil, ← h2] at h3
    rw [← h2, List.length_map] at h4
    exact ⟨by omega, h1, h3.symm⟩
  · cases h
theorem decAll_list {L : List X} (hl : L.length ≤ 8) (h : fines L = true) : decAll (Code.listL (L.map written)) = some L := by
  have h1 := Code.list_list 8 100000 (L.map written) [] (by rw [List.length_map]; omega) (by rw [List.length_map]; omega) (fun t ht => by
    obtain ⟨x, hx, rfl⟩ := List.mem_map.1 ht
    have := written_len (List.all_eq_true.1 h x hx)
    omega)
  rw [List.append_nil] at h1
  unfold decAll
  rw [h1, if_pos ⟨rfl, rfl⟩]
  exact decs_iff.2 ⟨h, rfl⟩
theorem decAll_iff {s : T} {L : List X} : decAll s = some L ↔ L.length ≤ 8 ∧ fines L = true ∧ Code.listL (L.map written) = s := ⟨decAll_ok, fun ⟨h1, h2, e⟩ => by rw [← e]; exact decAll_list h1 h2⟩
theorem encAll_good {L : List X} (h : (encAll L).2 = 0) : L.length ≤ 8 ∧ fines L = true ∧ (encAll L).1 = Code.listL (L.map written) := by
  unfold encAll at h ⊢
  split
  · rename_i h1; rw [if_pos h1] at h; cases h
  · rename_i h1
    rw [if_neg h1] at h
    split
    · rename_i h2; exact ⟨by omega, h2, rfl⟩
    · rename_i h2; rw [if_neg h2] at h; cases h
theorem encAll_inj {A B : List X} (ha : (encAll A).2 = 0) (hb : (encAll B).2 = 0) : (encAll A).1 = (encAll B).1 ↔ A = B := by
  obtain ⟨a1, a2, a3⟩ := encAll_good ha
  obtain ⟨b1, b2, b3⟩ := encAll_good hb
  refine ⟨fun e => ?_, fun e => by rw [e]⟩
  rw [a3, b3] at e
  have h1 := decAll_list a1 a2
  rw [e, decAll_list b1 b2] at h1
  exact (Option.some.inj h1).symm
/-- One field too many, or one that may not be. -/
theorem spoilt {x y : X} (hx : fine x = true) (h : y = { x with frm := [] } ∨ y = { x with seq := -1 } ∨ y = { x with kind := 5 } ∨ y = { x with dst := if x.kind = 1 then [] else [98] } ∨ y = { x with key := if x.kind = 2 ∨ x.kind = 3 then [] else [107] } ∨ y = { x with mem := if x.kind = 4 then [] else [⟨[97], 1⟩] }) : fine y = false := by
  obtain ⟨h1, h2, h3, h4, h5⟩ := fine_of hx
  cases hf : fine y with
  | false => rfl
  | true =>
    exfalso
    obtain ⟨g1, g2, g3, g4, g5⟩ := fine_of hf
    have hk := kind_of h5
    have gk := kind_of g5
    rcases h with rfl | rfl | rfl | rfl | rfl | rfl
    · simp at g1
    · simp at g3
    · simp at gk
    · rcases hk with ⟨hk, q⟩ | ⟨hk, q⟩ | ⟨hk, q⟩ | ⟨hk, q⟩ <;> simp [hk] at gk
    · rcases hk with ⟨hk, q⟩ | ⟨hk, q⟩ | ⟨hk, q⟩ | ⟨hk, q⟩ <;> simp [hk] at gk
    · rcases hk with ⟨hk, q⟩ | ⟨hk, q⟩ | ⟨hk, q⟩ | ⟨hk, q⟩ <;> simp [hk, Pw.okL] at gk
end Go.Proofs.YtddjkiejekfekaaDoor.Txn
namespace Go.Proofs.YtddjkiejekfekaaDoor
open Go.RowKit Go.ChangeShapes Go.WideShapes
open Go.Proofs.YtddjkiejekfekaaDoor.Pw (M)
open Go.Proofs.YtddjkiejekfekaaDoor.Txn (X)

/-- A transaction as cells, as a value; its members lie in z. -/
def xcl (x : X) (z : Value) : List Value := [.int .i64 x.kind, .string ⟨x.frm.toArray⟩, .int .i64 x.seq, .string ⟨x.dst.toArray⟩, .int .i64 x.amt, .string ⟨x.key.toArray⟩, .string ⟨x.val.toArray⟩, z]
def xval (x : X) (z : Value) : Value := .agg #[.int .i64 x.kind, .string ⟨x.frm.toArray⟩, .int .i64 x.seq, .string ⟨x.dst.toArray⟩, .int .i64 x.amt, .string ⟨x.key.toArray⟩, .string ⟨x.val.toArray⟩, z]
/-- A transaction that fits. -/
structure OkX (x : X) : Prop where
  kind : (Lit.int .i64 x.kind).wf = true
  seq : (Lit.int .i64 x.seq).wf = true
  amt : (Lit.int .i64 x.amt).wf = true
  frm : x.frm.length ≤ maxLen
  dst : x.dst.length ≤ maxLen
  key : x.key.length ≤ maxLen
  val : x.val.length ≤ maxLen
  mems : x.mem.length * 24 ≤ reachBytes
  mem : ∀ m ∈ x.mem, OkMem m
set_option maxRecDepth 100000 in
theorem cellsTx : Tryd.prog.cellsOf 24 = 8 := by kernel_rfl
set_option maxRecDepth 100000 in
theorem tx_cells {H : Type} {enc : TypeId × Value → H} {W : World} {fuel : Nat} {cs : List Value} {y : DataW H × List MemPlace} (ht : DataW.trod enc Tryd.prog W 0 (fun _ => true) true fuel 24 cs = some y)
    (hz : ∀ n ∈ y.1.weights Tryd.prog 24, n ≤ reachBytes) :
    ∃ (x : X) (z : Value), cs = xcl x z ∧ OkX x ∧ Mems W z x.mem := by
  obtain ⟨ys, n', _, hy, hcl, hyl, hfs⟩ := DataW.trod_struct Tryd.underlying24 ht
  rw [cellsTx] at hcl
  match cs, hcl, ys, hyl with
  | [v0, v1, v2, v3, v4, v5, v6, v7], _, [y0, y1, y2, y3, y4, y5, y6, y7], _ =>
    have g0 := hfs 0 _ rfl
    have g1 := hfs 1 _ rfl
    have g2 := hfs 2 _ rfl
    have g3 := hfs 3 _ rfl
    have g4 := hfs 4 _ rfl
    have g5 := hfs 5 _ rfl
    have g6 := hfs 6 _ rfl
    have g7 := hfs 7 _ rfl
    simp [cellsIn, cellsS, cellsMl] at g0 g1 g2 g3 g4 g5 g6 g7
    obtain ⟨t0, e0, x0, w0⟩ := DataW.trod_int Tryd.underlying3 g0
    obtain ⟨s1, e1, x1, z1⟩ := DataW.trod_string Tryd.underlying9 g1
    obtain ⟨t2, e2, x2, w2⟩ := DataW.trod_int Tryd.underlying3 g2
    obtain ⟨s3, e3, x3, z3⟩ := DataW.trod_string Tryd.underlying9 g3
    obtain ⟨t4, e4, x4, w4⟩ := DataW.trod_int Tryd.underlying3 g4
    obtain ⟨s5, e5, x5, z5⟩ := DataW.trod_string Tryd.underlying9 g5
    obtain ⟨s6, e6, x6, z6⟩ := DataW.trod_string Tryd.underlying9 g6
    obtain rfl : v0 = .int .i64 t0 := by simpa using e0
    obtain rfl : v1 = .string s1 := by simpa using e1
    obtain rfl : v2 = .int .i64 t2 := by simpa using e2
    obtain rfl : v3 = .string s3 := by simpa using e3
    obtain rfl : v4 = .int .i64 t4 := by simpa using e4
    obtain rfl : v5 = .string s5 := by simpa using e5
    obtain rfl : v6 = .string s6 := by simpa using e6
    have hd : y.1 = .agg [y0.1, y1.1, y2.1, y3.1, y4.1, y5.1, y6.1, y7.1] := by simpa using congrArg Prod.fst hy
    have hz7 : ∀ n ∈ y7.1.weights Tryd.prog 22, n ≤ reachBytes := fun n hn => hz n (by
      rw [hd]; simp [DataW.weights, DataW.weightsEach, Tryd.underlying24, hn])
    obtain ⟨L, hL, hL2, hL3⟩ := mems_trod g7 hz7
    exact ⟨⟨t0, s1.data.toList, t2, s3.data.toList, t4, s5.data.toList, s6.data.toList, L⟩, v7, by simp [xcl], ⟨w0, w2, w4, by rw [Array.length_toList]; exact z1, by rw [Array.length_toList]; exact z3, by rw [Array.length_toList]; exact z5, by rw [Array.length_toList]; exact z6, hL2, hL3⟩, hL⟩
set_option maxRecDepth 100000 in
/-- A transaction that came in. -/
theorem tx_open {H : Type} {enc : TypeId × Value → H} {W : World} {r : Reach} {b0 : Nat} {v : Value} {d : DataW H} {p : List MemPlace}
    (hv : Value.okWide Tryd.prog W r b0 24 v) (h : DataW.Trod enc Tryd.prog W 0 (fun _ => true) true 24 v d p)
    (hz : ∀ n ∈ d.weights Tryd.prog 24, n ≤ reachBytes) :
    ∃ (x : X) (z : Value), v = xval x z ∧ OkX x ∧ Mems W z x.mem := by
  obtain ⟨cs, rfl, _⟩ := okWide_struct Tryd.underlying24 hv
  obtain ⟨fuel, hf⟩ := h
  obtain ⟨x, z, hc, h1, h2⟩ := tx_cells (y := (d, p)) hf hz
  refine ⟨x, z, ?_, h1, h2⟩
  simp only [Value.cells] at hc
  rw [xval]
  congr 1
  exact Array.ext' hc
/-- A slice of transactions. -/
def Txs (w : World) (v : Value) (L : List X) : Prop :=
  ∃ (A : Option Addr) (cap : Nat), v = .slice A L.length cap ∧ (0 < L.length → ∃ b o, A = some ⟨b, o, none⟩ ∧ b < w.heap.size ∧ ∀ i (h : i < L.length), ∃ z,
    (∀ j u, (xcl L[i] z)[j]? = some u → w.cell? ⟨b, o + i * 8 + j, none⟩ = some u) ∧ Mems w z L[i].mem)
theorem Txs.below {w w' : World} {v : Value} {L : List X} (h : Txs w v L) (hb : Below w.heap.size w w') : Txs w' v L := by
  obtain ⟨A, cap, rfl, hc⟩ := h
  refine ⟨A, cap, rfl, fun h0 => ?_⟩
  obtain ⟨b, o, rfl, hlt, hcell⟩ := hc h0
  refine ⟨b, o, rfl, Nat.lt_of_lt_of_le hlt hb.size, fun i hi => ?_⟩
  obtain ⟨z, h1, h2⟩ := hcell i hi
  exact ⟨z, fun j u hu => (hb.cell hlt).trans (h1 j u hu), h2.below hb⟩
theorem Txs.form {w : World} {v : Value} {L : List X} (h : Txs w v L) : ∃ A cap, v = .slice A L.length cap := by
  obtain ⟨A, cap, rfl, _⟩ := h
  exact ⟨A, cap, rfl⟩
theorem Txs.at {w : World} {A : Option Addr} {n cap : Nat} {L : List X} (h : Txs w (.slice A n cap) L) (k : Nat) (hk : k < L.length) :
    ∃ b o z, A = some ⟨b, o, none⟩ ∧ (∀ j u, (xcl L[k] z)[j]? = some u → w.cell? ⟨b, o + k * 8 + j, none⟩ = some u) ∧ Mems w z L[k].mem := by
  obtain ⟨A', cap', hv, h1⟩ := h
  obtain ⟨rfl, _⟩ : A = A' ∧ _ := by simpa using hv
  obtain ⟨b, o, rfl, _, hcell⟩ := h1 (by omega)
  obtain ⟨z, q1, q2⟩ := hcell k hk
  exact ⟨b, o, z, rfl, q1, q2⟩
set_option maxRecDepth 100000 in
theorem txs_open {H : Type} {enc : TypeId × Value → H} {W : World} {r : Reach} {b0 : Nat} {v : Value} {d : DataW H} {p : List MemPlace}
    (hv : Value.okWide Tryd.prog W r b0 35 v) (h : DataW.Trod enc Tryd.prog W 0 (fun _ => true) true 35 v d p)
    (hz : ∀ n ∈ d.weights Tryd.prog 35, n ≤ reachBytes) :
    ∃ L, Txs W v L ∧ L.length ≤ maxLen ∧ ∀ x ∈ L, OkX x := by
  obtain ⟨a0, len, cap, rfl⟩ := okWide_slice Tryd.underlying35 hv
  obtain ⟨fuel, hf⟩ := h
  rcases Go.Deep.open_slice Tryd.underlying35 hf with ⟨hcs, _⟩ | ⟨x, l, c, m, n, D, Pl, hcs, _, hl, hm, hmm, hx, hel⟩
  · simp [Value.cells] at hcs
    obtain ⟨rfl, rfl, rfl⟩ := hcs
    exact ⟨[], ⟨none, 0, rfl, fun h => absurd h (by simp)⟩, by simp, fun n hn => by simp at hn⟩
  · simp [Value.cells] at hcs
    obtain ⟨rfl, rfl, rfl⟩ := hcs
    simp only [if_true] at hmm
    subst hmm
    rw [cellsTx] at hel hx
    have hd : d = _ := congrArg Prod.fst hx
    have hw : ∀ i, i < len → ∀ k ∈ (D i).weights Tryd.prog 24, k ≤ reachBytes := fun i hi k hk => by
      refine hz k ?_
      rw [hd]
      simp only [DataW.weights, Tryd.underlying35, List.mem_cons, List.mem_append]
      exact Or.inr (Or.inl (weights_of_mem (List.mem_map.2 ⟨i, List.mem_range.2 hi, rfl⟩) k hk))
    have key : ∀ i, i < len → ∃ q : X × Value, OkX q.1 ∧ Mems W q.2 q.1.mem ∧ ∀ j u, (xcl q.1 q.2)[j]? = some u → W.cell? ((x.add (i * 8)).add j) = some u := fun i hi => by
      obtain ⟨cs', hc, ht⟩ := hel i (by omega)
      obtain ⟨_, _, hat⟩ := World.cells?_some hc
      obtain ⟨q, z, rfl, h1, h2⟩ := tx_cells ht (by simpa using hw i hi)
      refine ⟨(q, z), h1, h2, fun j u hu => ?_⟩
      have hj : j < 8 := by
        have := (List.getElem?_eq_some_iff.1 hu).1
        simpa [xcl] using this
      have h3 := hat j hj
      rw [hu] at h3
      exact h3
    obtain ⟨f, hf⟩ := Go.Deep.choose_lt (fun i hi => key i hi)
    have hlen : ((List.range len).map fun i => (f i).1).length = len := by simp
    refine ⟨(List.range len).map fun i => (f i).1, ⟨some x, _, by rw [hlen], fun h0 => ?_⟩, by rw [hlen]; omega, ?_⟩
    · rw [hlen] at h0
      obtain ⟨b, o, sp⟩ := x
      obtain ⟨-, -, q0⟩ := hf 0 h0
      have hcell' : W.cell? ⟨b, o, sp⟩ = some (.int .i64 (f 0).1.kind) := by simpa [Addr.add] using q0 0 _ rfl
      obtain rfl := cell_spot hcell'
      refine ⟨b, o, rfl, block_lt_of_cell hcell', fun i hi => ⟨(f i).2, fun j u hu => ?_, ?_⟩⟩
      · rw [hlen] at hi
        have q1 := (hf i hi).2.2 j u (by simpa using hu)
        rw [Addr.add_mid, Addr.add_mid] at q1
        exact q1
      · rw [hlen] at hi
        simpa using (hf i hi).2.1
    · intro y hy
      obtain ⟨i, hi, rfl⟩ := List.mem_map.1 hy
      exact (hf i (List.mem_range.1 hi)).1
end Go.Proofs.YtddjkiejekfekaaDoor
