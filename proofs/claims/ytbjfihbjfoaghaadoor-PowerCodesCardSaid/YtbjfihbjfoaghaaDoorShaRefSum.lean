/- The document's Sum. -/
import Derived.Test.YtbjfihbjfoaghaaDoorShaTold
import Derived.Test.YtbjfihbjfoaghaaDoorShaSumMath
import Derived.Test.YtbjfihbjfoaghaaDoorShaRefBlock
import Derived.Deep.OwnRows
namespace Go.Proofs.YtbjfihbjfoaghaaDoor
open Go.RowKit

theorem conv_byte (w : World) (x : Int) : (convert 64 9 (.slice (some ⟨w.heap.size, 0, none⟩) 1 1)).run Tryd.prog (w.alloc (.cells #[.int .u8 (x % 256)] 5)) = .ok (.string ⟨[Sha.byteOf x].toArray⟩) (w.alloc (.cells #[.int .u8 (x % 256)] 5)) := by
  have hg := heap_alloc_new w (.cells #[.int .u8 (x % 256)] 5)
  refine run_convert_bytes_back (P := Tryd.prog) _ 64 9 5 ⟨w.heap.size, 0, none⟩ 1 [Sha.byteOf x] Tryd.underlying64 Tryd.underlying5 Tryd.underlying9 ?_
  intro j hj
  rw [Addr.add_mid, Nat.zero_add, cell_of_row _ _ j _ _ _ hg]
  match j, hj with
  | 0, _ => simp [Sha.byteOf_toNat]

theorem conv_zeros (w : World) (z : Nat) : (convert 64 9 (.slice (some ⟨w.heap.size, 0, none⟩) z z)).run Tryd.prog (w.alloc (.cells (madeCells #[.int .u8 0] z) 5)) = .ok (.string ⟨(List.replicate z (0 : UInt8)).toArray⟩) (w.alloc (.cells (madeCells #[.int .u8 0] z) 5)) := by
  obtain ⟨cs, h1, _, h3⟩ := World.rowIs_made w (.int .u8 0) z 5
  have hlz : (List.replicate z (0 : UInt8)).length = z := by simp
  have := run_convert_bytes_back (P := Tryd.prog) (w.alloc (.cells (madeCells #[.int .u8 0] z) 5)) 64 9 5 ⟨w.heap.size, 0, none⟩ z (List.replicate z 0) Tryd.underlying64 Tryd.underlying5 Tryd.underlying9 (by
    intro j hj
    rw [Addr.add_mid, Nat.zero_add, cell_of_row _ _ j _ _ _ h1, h3 j (by simpa using hj)]
    simp)
  rwa [hlz] at this

theorem info64y : (Tryd.prog.info? 93).map (·.size) = some 64 := by kernel_rfl

set_option maxRecDepth 8000 in
set_option maxHeartbeats 800000 in
theorem rsum_any (s : List UInt8) (w : World) (hn : s.length ≤ 1000) :
    Calls Tryd.prog 59 #[.string ⟨s.toArray⟩] w fun e w' => e = .returned (.string ⟨(Sha.sumP s).toArray⟩) ∧ Below w.heap.size w w' := by
  obtain ⟨n, hnn⟩ : ∃ n, s.length = n := ⟨_, rfl⟩
  have hn' : n ≤ 1000 := by omega
  obtain ⟨m, hm⟩ : ∃ m : Nat, n % 64 = m := ⟨_, rfl⟩
  obtain ⟨z, hz⟩ : ∃ z : Nat, z = (119 - n % 64) % 64 := ⟨_, rfl⟩
  have hzb : z ≤ 63 := by omega
  have m1 : (n : Int).tmod 64 = (m : Int) := by rw [Int.tmod_eq_emod_of_nonneg (by omega)]; omega
  have m2 : (n : Int) % 64 = (m : Int) := by omega
  have z1 : (119 - (m : Int)).tmod 64 = (z : Int) := by rw [Int.tmod_eq_emod_of_nonneg (by omega)]; omega
  have z2 : (119 - (m : Int)) % 64 = (z : Int) := by omega
  have htail := Sha.tailP_is n z hz
  have HT : Hid (Sha.sumP s = Sha.joinP (Sha.wordsP (s ++ Sha.tailP n))) := Lib.hid (by unfold Sha.sumP; rw [hnn])
  have HTA := Lib.hid htail
  have hsz : s.length = n := hnn
  have hmb : m < 64 := by omega
  clear htail hz hm hn hnn
  go_enter Tryd.func59, Tryd.ntmps59
  go_wp2
  go_loopw [4, 5, 6] (fun b t i wr => ∃ k : Nat, k ≤ 8 ∧ i = .int .i64 k ∧ b = .int .i64 ((n * 8 / 256 ^ k : Nat) : Int) ∧ t = .string ⟨(Sha.endR (n * 8) k).toArray⟩ ∧ Below w.heap.size w wr) (fun _ _ i _ => 8 - (intOf i).toNat)
  case atStart => exact ⟨0, by omega, rfl, by simp, rfl, Below.refl _ _⟩
  case round =>
    obtain ⟨k, hk, rfl, rfl, rfl, hb⟩ := hrel
    have HB := Lib.hid hb
    clear hb
    by_cases hlt : k < 8
    · have hk8 : (k : Int) < 8 := by omega
      have hnx : Sha.endR (n * 8) (k + 1) = Sha.byteOf ((n * 8 / 256 ^ k : Nat) : Int) :: Sha.endR (n * 8) k := rfl
      have hdv : n * 8 / 256 ^ (k + 1) = n * 8 / 256 ^ k / 256 := by rw [Nat.pow_succ, Nat.div_div_eq_div_mul]
      have hel := Sha.endR_length (n * 8) k
      have hble : n * 8 / 256 ^ k ≤ 8000 := Nat.le_trans (Nat.div_le_self _ _) (by omega)
      obtain ⟨b, hbb⟩ : ∃ b, n * 8 / 256 ^ k = b := ⟨_, rfl⟩
      obtain ⟨E, hE⟩ : ∃ E, Sha.endR (n * 8) k = E := ⟨_, rfl⟩
      obtain ⟨E', hE'⟩ : ∃ E', Sha.endR (n * 8) (k + 1) = E' := ⟨_, rfl⟩
      rw [hbb] at hnx hdv hble ⊢
      rw [hE] at hnx hel ⊢
      rw [hE'] at hnx
      have hcm := cat_mk [Sha.byteOf (b : Int)] E
      have hcons : [Sha.byteOf (b : Int)] ++ E = E' := hnx.symm
      rw [hcons] at hcm
      have kc := fun w => conv_byte w (b : Int)
      have hEl : E.length ≤ 8 := by omega
      have HD := Lib.hid hdv
      have HE := Lib.hid hE'
      have b1 : (b : Int).tmod 256 = (b : Int) % 256 := Int.tmod_eq_emod_of_nonneg (by omega)
      have b2 : (b : Int).tdiv 256 = (b : Int) / 256 := Int.tdiv_eq_ediv_of_nonneg (by omega)
      clear hnx hdv hel hbb hE hE' hcons
      go_wp2
      go_roundw
      case rel => exact ⟨k + 1, by omega, by go_num, by rw [HD.out]; simp, by rw [HE.out], HB.out.alloc HB.out.size _⟩
      case measure => simp [intOf]; omega
    · obtain rfl : k = 8 := by omega
      have hno : ¬ ((8 : Nat) : Int) < 8 := by omega
      have hel := Sha.endR_length (n * 8) 8
      obtain ⟨E, hE⟩ : ∃ E, Sha.endR (n * 8) 8 = E := ⟨_, rfl⟩
      rw [hE] at hel HTA ⊢
      obtain ⟨S1, hS1⟩ : ∃ S1, s ++ [128] = S1 := ⟨_, rfl⟩
      obtain ⟨S2, hS2⟩ : ∃ S2, S1 ++ List.replicate z 0 = S2 := ⟨_, rfl⟩
      obtain ⟨ALL, hALL⟩ : ∃ S3, S2 ++ E = S3 := ⟨_, rfl⟩
      have c1 := cat_mk s [128]
      have c2 := cat_mk S1 (List.replicate z 0)
      have c3 := cat_mk S2 E
      rw [hS1] at c1
      rw [hS2] at c2
      rw [hALL] at c3
      have l1 : S1.length = n + 1 := by rw [← hS1]; simp; omega
      have l2 : S2.length = n + 1 + z := by rw [← hS2]; simp; omega
      have l3 : ALL.length = n + 1 + z + 8 := by rw [← hALL]; simp; omega
      have HALL : Hid (ALL = s ++ Sha.tailP n) := Lib.hid (by rw [HTA.out, ← hALL, ← hS2, ← hS1]; simp)
      obtain ⟨Q, hQ⟩ : ∃ Q, ALL.length = 64 * Q := ⟨(n + 1 + z + 8) / 64, by omega⟩
      have hQb : Q ≤ 20 := by omega
      have hlz : (List.replicate z (0 : UInt8)).length = z := by simp
      have hmk := fun w => run_make_row' (P := Tryd.prog) 64 5 (.int .u8 0) 1 Tryd.underlying64 Tryd.infoByte rfl .i64 .i64 z (by omega) (by omega) w
      have hkz := fun w => conv_zeros w z
      obtain ⟨Zs, hZs⟩ : ∃ Zs, List.replicate z (0 : UInt8) = Zs := ⟨_, rfl⟩
      obtain ⟨MC, hMC⟩ : ∃ MC, madeCells #[.int .u8 0] z = MC := ⟨_, rfl⟩
      rw [hZs] at c2 hlz hkz
      rw [hMC] at hkz hmk
      have b1 : S1.length ≤ 2000 := by omega
      have b2 : S2.length ≤ 2000 := by omega
      have b3 : ALL.length ≤ 2000 := by omega
      have b4 : s.length ≤ 1000 := by omega
      have b5 : Zs.length ≤ 64 := by omega
      have b6 : E.length ≤ 8 := by omega
      have HQ := Lib.hid hQ
      have hf := rfirst_any
      simp only [Sha.St.list, u32s, List.map_cons, List.map_nil, Sha.first] at hf
      have HF := Lib.hid hf
      clear hE hS1 hS2 hALL hlt hk hZs hMC hQ l1 l2 l3 hlz hel hf
      go_wp2_with fail
      refine (HF.out _).mono ?_
      rintro e w2 ⟨rfl, hb2⟩
      have HB2 := Lib.hid ((HB.out.alloc HB.out.size (.cells MC 5)).trans (hb2.mono (HB.out.alloc HB.out.size (.cells MC 5)).size))
      clear hb2 hkz hmk c1 c2 c3 b1 b2 b5 b6
      go_wp2
      obtain ⟨g, hg⟩ : ∃ g, w2.heap.size = g := ⟨_, rfl⟩
      have HGG := Lib.hid hg
      have HGW : Hid (w.heap.size ≤ g) := Lib.hid (by rw [← hg]; exact HB2.out.size)
      rw [hg]
      clear hg
      go_loopw [9] (fun i wr => ∃ k : Nat, k ≤ Q ∧ i = .int .i64 ((64 * k : Nat) : Int) ∧ Below w.heap.size w wr ∧ wr.heap[g]? = some (.cells (u32s (Sha.absorb ALL k).list) 91 (0, 0))) (fun i _ => 64 * Q - (intOf i).toNat)
      case atStart =>
        refine ⟨0, Nat.zero_le _, rfl, HB2.out.alloc HB2.out.size _, ?_⟩
        exact heap_new_at _ _ _ HGG.out.symm
      case round =>
        obtain ⟨k, hk, rfl, hb, hgr⟩ := hrel
        obtain ⟨S, hS⟩ : ∃ S, Sha.absorb ALL k = S := ⟨_, rfl⟩
        obtain ⟨RS, hRS⟩ : ∃ R, u32s S.list = R := ⟨_, rfl⟩
        rw [hS, hRS] at hgr
        have HS := Lib.hid hS
        have HRS := Lib.hid hRS
        have HBR := Lib.hid hb
        have HGR := Lib.hid hgr
        have hRz : RS.size = 8 := by rw [← hRS]; rfl
        have HRI : Hid ((Tryd.prog.info? 91).map (·.size) = some RS.size) := Lib.hid (by rw [hRz]; exact info8w)
        by_cases hlt : k < Q
        · have hle : ((64 * k : Nat) : Int) + 64 ≤ (ALL.length : Int) := by have := HQ.out; omega
          obtain ⟨X, hX⟩ : ∃ X, (ALL.drop (64 * k)).take 64 = X := ⟨_, rfl⟩
          have hXl : X.length = 64 := by rw [← hX]; simp; have := HQ.out; omega
          have hXat : ∀ j, j < 64 → ALL.getD (64 * k + j) 0 = X.getD j 0 := fun j hj => by rw [← hX]; simp [hj]
          have hnx : Sha.absorb ALL (k + 1) = Sha.blockP S X := by rw [← hX, ← hS]; rfl
          have hblk := fun w' => rblock_any S X w' hXl
          rw [Sha.blockR_is] at hblk
          obtain ⟨T, hT⟩ : ∃ T, Sha.blockP S X = T := ⟨_, rfl⟩
          obtain ⟨RT, hRT⟩ : ∃ R, u32s T.list = R := ⟨_, rfl⟩
          rw [hT, hRT, hRS] at hblk
          rw [hT] at hnx
          obtain ⟨XB, hXB⟩ : ∃ X', u8s X = X' := ⟨_, rfl⟩
          rw [hXB] at hblk
          have HBLK := Lib.hid hblk
          have HNX := Lib.hid hnx
          have HRT := Lib.hid hRT
          have HXA := Lib.hid hXat
          have HXL := Lib.hid hXl
          have HXB := Lib.hid hXB
          have hTz : RT.size = 8 := by rw [← hRT]; rfl
          have HTI : Hid ((Tryd.prog.info? 91).map (·.size) = some RT.size) := Lib.hid (by rw [hTz]; exact info8w)
          have HT1 : Hid (RT.all (·.oneCell') = true) := Lib.hid (by rw [← hRT]; exact u32s_one _)
          have HRTz : Hid (RS.size = RT.size) := Lib.hid (by rw [hRz, hTz])
          obtain ⟨i0, hi0⟩ : ∃ i0, 64 * k = i0 := ⟨_, rfl⟩
          rw [hi0] at hle HXA ⊢
          have HI0 := Lib.hid hi0
          have hi2000 : i0 ≤ 2000 := by omega
          clear hS hRS hb hgr hRz hX hXl hXat hnx hblk hT hRT hTz hi0 hXB
          go_wp2
          obtain ⟨pb, hpb⟩ : ∃ pb, wr.heap.size = pb := ⟨_, rfl⟩
          have HGP : Hid (g < pb) := Lib.hid (by rw [← hpb]; exact lt_of_heap HGR.out)
          have HWP : Hid (w.heap.size ≤ pb) := Lib.hid (by rw [← hpb]; exact HBR.out.size)
          have HSt1 : Hid (Below w.heap.size w (wr.alloc (.cells (u8s (List.replicate 64 0)) 93))) := Lib.hid (HBR.out.alloc HBR.out.size _)
          have HSt2 : Hid ((wr.alloc (.cells (u8s (List.replicate 64 0)) 93)).heap[g]? = some (.cells RS 91 (0, 0))) := Lib.hid (heap_old_at _ HGR.out)
          have HSt3 : Hid ((wr.alloc (.cells (u8s (List.replicate 64 0)) 93)).heap[pb]? = some (.cells (u8s (Sha.copyR X 0)) 93 (0, 0))) := Lib.hid (heap_new_at _ _ _ hpb.symm)
          rw [hpb]
          clear hpb
          go_loopw [11] (fun i wr => ∃ j : Nat, j ≤ 64 ∧ i = .int .i64 j ∧ Below w.heap.size w wr ∧ wr.heap[g]? = some (.cells RS 91 (0, 0)) ∧ wr.heap[pb]? = some (.cells (u8s (Sha.copyR X j)) 93 (0, 0))) (fun i _ => 64 - (intOf i).toNat)
          case atStart => exact ⟨0, by omega, rfl, HSt1.out, HSt2.out, HSt3.out⟩
          case round =>
            clear HSt1 HSt2 HSt3 HBR HGR
            obtain ⟨j, hj, rfl, hb, hgr, hpr⟩ := hrel
            obtain ⟨F, hF⟩ : ∃ F, Sha.copyR X j = F := ⟨_, rfl⟩
            have hFl : F.length = 64 := by rw [← hF, Sha.copyR_length]
            rw [hF] at hpr
            have HF := Lib.hid hF
            have HBR := Lib.hid hb
            have HGR := Lib.hid hgr
            have HPR := Lib.hid hpr
            by_cases hj64 : j < 64
            · have hjI : (j : Int) < 64 := by omega
              have co : wr.cell? ⟨pb, j, none⟩ = some (.int .u8 ((F.getD j 0).toNat : Int)) := (cell_of_row wr _ j _ _ _ hpr).trans (u8s_at F j (by omega))
              obtain ⟨old, hold⟩ : ∃ o, ((F.getD j 0).toNat : Int) = o := ⟨_, rfl⟩
              rw [hold] at co
              have fo := frozen_of_row wr _ j _ _ hpr
              have hin : i0 + j < ALL.length := by omega
              have hat := HXA.out j hj64
              have hnn : Sha.copyR X (j + 1) = F.set j (X.getD j 0) := by rw [← hF]; rfl
              obtain ⟨c, hc⟩ : ∃ c, X.getD j 0 = c := ⟨_, rfl⟩
              rw [hc] at hat hnn
              have hix : ∀ h, (⟨ALL.toArray⟩ : ByteArray)[i0 + j]'h = c := fun h => by
                rw [← hat]
                simp [hin]
                rfl
              have e0 : ((i0 : Int) + (j : Int)).toNat = i0 + j := by omega
              have hinI : (i0 : Int) + (j : Int) < (ALL.length : Int) := by omega
              have HNN := Lib.hid hnn
              clear hb hgr hpr hF hFl hold hat hnn hc
              go_wp2
              go_roundw
              case rel =>
                have hgp := HGP.out
                refine ⟨j + 1, by omega, by go_num, HBR.out.setCell HWP.out _, (Below.heap_setCell _ _ _ _ (by dsimp only; omega)).trans HGR.out, ?_⟩
                rw [HNN.out, ← u8s_set]
                exact heap_setCell_same _ _ _ _ _ _ HPR.out
              case measure => simp [intOf]; omega
            · obtain rfl : j = 64 := by omega
              have hno64 : ¬ ((64 : Nat) : Int) < 64 := by omega
              have HXF : Hid (u8s F = XB) := Lib.hid (by rw [← HF.out, Sha.copyR_all X HXL.out, HXB.out])
              rw [HXF.out] at HPR
              have HXI : Hid ((Tryd.prog.info? 93).map (·.size) = some XB.size) := Lib.hid (by rw [← HXB.out, u8s_size, HXL.out]; exact info64y)
              clear hj64 hj hb hgr hpr hF hFl
              go_wp2_with (first | (refine wpList_load_row (by rfl) _ _ (by rfl) g (by rfl) _ RS _ _ HGR.out Tryd.underlying91 (by rfl) HRI.out ?_) | (refine wpList_load_row (by rfl) _ _ (by rfl) pb (by rfl) _ XB _ _ HPR.out Tryd.underlying93 (by rfl) HXI.out ?_))
              refine (HBLK.out _).mono ?_
              rintro e w6 ⟨rfl, hb6⟩
              have HG6 := Lib.hid ((hb6.block g (lt_of_heap HGR.out)).trans HGR.out)
              have HB6 := Lib.hid (HBR.out.trans (hb6.mono HBR.out.size))
              clear hb6
              go_wp2_with (refine wpList_store_row (by rfl) _ _ _ (by rfl) g RT (by rfl) (by rfl) _ _ HG6.out HTI.out HRTz.out HT1.out ?_)
              go_roundw
              case rel => exact ⟨k + 1, by omega, by rw [← HI0.out]; go_num, below_setRow HB6.out HGW.out _, by rw [HNX.out, HRT.out]; exact setRow_heap _ _ _ _ _ _ HG6.out⟩
              case measure => have := HQ.out; have := HI0.out; simp [intOf]; omega
        · obtain rfl : k = Q := by omega
          have hno : ¬ (((64 * k : Nat) : Int) + 64 ≤ (ALL.length : Int)) := by have := HQ.out; omega
          have HTO := Lib.hid (rtold_any S wr)
          rw [hRS] at HTO
          have HFI : Hid (Sha.sumP s = Sha.joinP S) := Lib.hid (by
            rw [HT.out, ← HALL.out, ← HS.out]
            unfold Sha.wordsP
            rw [HQ.out, Nat.mul_div_cancel_left _ (by omega)])
          obtain ⟨i0, hi0⟩ : ∃ i0, 64 * k = i0 := ⟨_, rfl⟩
          rw [hi0] at hno ⊢
          have hi2000 : i0 ≤ 2000 := by omega
          clear hS hRS hb hgr hRz hlt hk hi0
          go_wp2_with (refine wpList_load_row (by rfl) _ _ (by rfl) g (by rfl) _ RS _ _ HGR.out Tryd.underlying91 (by rfl) HRI.out ?_)
          refine HTO.out.mono ?_
          rintro e w6 ⟨rfl, hb6⟩
          go_wp2
          go_ret
          exact ⟨by rw [HFI.out]; rfl, HBR.out.trans (hb6.mono HBR.out.size)⟩
end Go.Proofs.YtbjfihbjfoaghaaDoor
