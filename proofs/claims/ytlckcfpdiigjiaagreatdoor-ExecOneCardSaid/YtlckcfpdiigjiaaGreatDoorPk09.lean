/- ShaRefSum, DigTag, PowRefDec, ExecRef, ExecPlain, TriTree -/
import Derived.Test.YtlckcfpdiigjiaaGreatDoorPk08
import Derived.Test.YtlckcfpdiigjiaaGreatDoorPk02
import Derived.Deep.OwnRows
import Derived.Test.YtlckcfpdiigjiaaGreatDoorPk04
import Derived.Test.YtlckcfpdiigjiaaGreatDoorPk07
import Derived.Test.YtlckcfpdiigjiaaGreatDoorPk06
import Derived.Deep.RegionWith
import Derived.Test.YtlckcfpdiigjiaaGreatDoorPk05
namespace Go.Proofs.YtlckcfpdiigjiaaGreatDoor
open Go.RowKit

theorem conv_byte (w : World) (x : Int) : (convert 110 9 (.slice (some ⟨w.heap.size, 0, none⟩) 1 1)).run Tryz.prog (w.alloc (.cells #[.int .u8 (x % 256)] 5)) = .ok (.string ⟨[Sha.byteOf x].toArray⟩) (w.alloc (.cells #[.int .u8 (x % 256)] 5)) := by
  have hg := heap_alloc_new w (.cells #[.int .u8 (x % 256)] 5)
  refine run_convert_bytes_back (P := Tryz.prog) _ 110 9 5 ⟨w.heap.size, 0, none⟩ 1 [Sha.byteOf x] Tryz.underlying110 Tryz.underlying5 Tryz.underlying9 ?_
  intro j hj
  rw [Addr.add_mid, Nat.zero_add, cell_of_row _ _ j _ _ _ hg]
  match j, hj with
  | 0, _ => simp [Sha.byteOf_toNat]

theorem conv_zeros (w : World) (z : Nat) : (convert 110 9 (.slice (some ⟨w.heap.size, 0, none⟩) z z)).run Tryz.prog (w.alloc (.cells (madeCells #[.int .u8 0] z) 5)) = .ok (.string ⟨(List.replicate z (0 : UInt8)).toArray⟩) (w.alloc (.cells (madeCells #[.int .u8 0] z) 5)) := by
  obtain ⟨cs, h1, _, h3⟩ := World.rowIs_made w (.int .u8 0) z 5
  have hlz : (List.replicate z (0 : UInt8)).length = z := by simp
  have := run_convert_bytes_back (P := Tryz.prog) (w.alloc (.cells (madeCells #[.int .u8 0] z) 5)) 110 9 5 ⟨w.heap.size, 0, none⟩ z (List.replicate z 0) Tryz.underlying110 Tryz.underlying5 Tryz.underlying9 (by
    intro j hj
    rw [Addr.add_mid, Nat.zero_add, cell_of_row _ _ j _ _ _ h1, h3 j (by simpa using hj)]
    simp)
  rwa [hlz] at this

theorem info64y : (Tryz.prog.info? 142).map (·.size) = some 64 := by kernel_rfl

set_option maxRecDepth 8000 in
set_option maxHeartbeats 800000 in
theorem rsum_any (s : List UInt8) (w : World) (hn : s.length ≤ 100000) :
    Calls Tryz.prog 86 #[.string ⟨s.toArray⟩] w fun e w' => e = .returned (.string ⟨(Sha.sumP s).toArray⟩) ∧ Below w.heap.size w w' := by
  obtain ⟨n, hnn⟩ : ∃ n, s.length = n := ⟨_, rfl⟩
  have hn' : n ≤ 100000 := by omega
  obtain ⟨m, hm⟩ : ∃ m : Nat, n % 64 = m := ⟨_, rfl⟩
  obtain ⟨z, hz⟩ : ∃ z : Nat, z = (119 - n % 64) % 64 := ⟨_, rfl⟩
  have hzb : z ≤ 63 := by omega
  have m1 : (n : Int).tmod 64 = (m : Int) := by rw [Int.tmod_eq_emod_of_nonneg (by omega)]; omega
  have m2 : (n : Int) % 64 = (m : Int) := by omega
  have z1 : (119 - (m : Int)).tmod 64 = (z : Int) := by rw [Int.tmod_eq_emod_of_nonneg (by omega)]; omega
  have z2 : (119 - (m : Int)) % 64 = (z : Int) := by omega
  have htail := Sha.tailP_is n z hz
  have HT : Hid (Sha.sumP s = Sha.joinP (Sha.wordsP (s ++ Sha.tailP n))) := Lib.hid (by unfold Sha.sumP; rw [hnn])
  have HTA := Lib.hid htail
  have hsz : s.length = n := hnn
  have hmb : m < 64 := by omega
  clear htail hz hm hn hnn
  go_enter Tryz.func86, Tryz.ntmps86
  go_wp2
  go_loopw [4, 5, 6] (fun b t i wr => ∃ k : Nat, k ≤ 8 ∧ i = .int .i64 k ∧ b = .int .i64 ((n * 8 / 256 ^ k : Nat) : Int) ∧ t = .string ⟨(Sha.endR (n * 8) k).toArray⟩ ∧ Below w.heap.size w wr) (fun _ _ i _ => 8 - (intOf i).toNat)
  case atStart => exact ⟨0, by omega, rfl, by simp, rfl, Below.refl _ _⟩
  case round =>
    obtain ⟨k, hk, rfl, rfl, rfl, hb⟩ := hrel
    have HB := Lib.hid hb
    clear hb
    by_cases hlt : k < 8
    · have hk8 : (k : Int) < 8 := by omega
      have hnx : Sha.endR (n * 8) (k + 1) = Sha.byteOf ((n * 8 / 256 ^ k : Nat) : Int) :: Sha.endR (n * 8) k := rfl
      have hdv : n * 8 / 256 ^ (k + 1) = n * 8 / 256 ^ k / 256 := by rw [Nat.pow_succ, Nat.div_div_eq_div_mul]
      have hel := Sha.endR_length (n * 8) k
      have hble : n * 8 / 256 ^ k ≤ 800000 := Nat.le_trans (Nat.div_le_self _ _) (by omega)
      obtain ⟨b, hbb⟩ : ∃ b, n * 8 / 256 ^ k = b := ⟨_, rfl⟩
      obtain ⟨E, hE⟩ : ∃ E, Sha.endR (n * 8) k = E := ⟨_, rfl⟩
      obtain ⟨E', hE'⟩ : ∃ E', Sha.endR (n * 8) (k + 1) = E' := ⟨_, rfl⟩
      rw [hbb] at hnx hdv hble ⊢
      rw [hE] at hnx hel ⊢
      rw [hE'] at hnx
      have hcm := cat_mk [Sha.byteOf (b : Int)] E
      have hcons : [Sha.byteOf (b : Int)] ++ E = E' := hnx.symm
      rw [hcons] at hcm
      have kc := fun w => conv_byte w (b : Int)
      have hEl : E.length ≤ 8 := by omega
      have HD := Lib.hid hdv
      have HE := Lib.hid hE'
      have b1 : (b : Int).tmod 256 = (b : Int) % 256 := Int.tmod_eq_emod_of_nonneg (by omega)
      have b2 : (b : Int).tdiv 256 = (b : Int) / 256 := Int.tdiv_eq_ediv_of_nonneg (by omega)
      clear hnx hdv hel hbb hE hE' hcons
      go_wp2
      go_roundw
      case rel => exact ⟨k + 1, by omega, by go_num, by rw [HD.out]; simp, by rw [HE.out], HB.out.alloc HB.out.size _⟩
      case measure => simp [intOf]; omega
    · obtain rfl : k = 8 := by omega
      have hno : ¬ ((8 : Nat) : Int) < 8 := by omega
      have hel := Sha.endR_length (n * 8) 8
      obtain ⟨E, hE⟩ : ∃ E, Sha.endR (n * 8) 8 = E := ⟨_, rfl⟩
      rw [hE] at hel HTA ⊢
      obtain ⟨S1, hS1⟩ : ∃ S1, s ++ [128] = S1 := ⟨_, rfl⟩
      obtain ⟨S2, hS2⟩ : ∃ S2, S1 ++ List.replicate z 0 = S2 := ⟨_, rfl⟩
      obtain ⟨ALL, hALL⟩ : ∃ S3, S2 ++ E = S3 := ⟨_, rfl⟩
      have c1 := cat_mk s [128]
      have c2 := cat_mk S1 (List.replicate z 0)
      have c3 := cat_mk S2 E
      rw [hS1] at c1
      rw [hS2] at c2
      rw [hALL] at c3
      have l1 : S1.length = n + 1 := by rw [← hS1]; simp; omega
      have l2 : S2.length = n + 1 + z := by rw [← hS2]; simp; omega
      have l3 : ALL.length = n + 1 + z + 8 := by rw [← hALL]; simp; omega
      have HALL : Hid (ALL = s ++ Sha.tailP n) := Lib.hid (by rw [HTA.out, ← hALL, ← hS2, ← hS1]; simp)
      obtain ⟨Q, hQ⟩ : ∃ Q, ALL.length = 64 * Q := ⟨(n + 1 + z + 8) / 64, by omega⟩
      have hQb : Q ≤ 2000 := by omega
      have hlz : (List.replicate z (0 : UInt8)).length = z := by simp
      have hmk := fun w => run_make_row' (P := Tryz.prog) 110 5 (.int .u8 0) 1 Tryz.underlying110 Tryz.infoByte rfl .i64 .i64 z (by omega) (by omega) w
      have hkz := fun w => conv_zeros w z
      obtain ⟨Zs, hZs⟩ : ∃ Zs, List.replicate z (0 : UInt8) = Zs := ⟨_, rfl⟩
      obtain ⟨MC, hMC⟩ : ∃ MC, madeCells #[.int .u8 0] z = MC := ⟨_, rfl⟩
      rw [hZs] at c2 hlz hkz
      rw [hMC] at hkz hmk
      have b1 : S1.length ≤ 200000 := by omega
      have b2 : S2.length ≤ 200000 := by omega
      have b3 : ALL.length ≤ 200000 := by omega
      have b4 : s.length ≤ 100000 := by omega
      have b5 : Zs.length ≤ 64 := by omega
      have b6 : E.length ≤ 8 := by omega
      have HQ := Lib.hid hQ
      have hf := rfirst_any
      simp only [Sha.St.list, u32s, List.map_cons, List.map_nil, Sha.first] at hf
      have HF := Lib.hid hf
      clear hE hS1 hS2 hALL hlt hk hZs hMC hQ l1 l2 l3 hlz hel hf
      go_wp2_with fail
      refine (HF.out _).mono ?_
      rintro e w2 ⟨rfl, hb2⟩
      have HB2 := Lib.hid ((HB.out.alloc HB.out.size (.cells MC 5)).trans (hb2.mono (HB.out.alloc HB.out.size (.cells MC 5)).size))
      clear hb2 hkz hmk c1 c2 c3 b1 b2 b5 b6
      go_wp2
      obtain ⟨g, hg⟩ : ∃ g, w2.heap.size = g := ⟨_, rfl⟩
      have HGG := Lib.hid hg
      have HGW : Hid (w.heap.size ≤ g) := Lib.hid (by rw [← hg]; exact HB2.out.size)
      rw [hg]
      clear hg
      go_loopw [9] (fun i wr => ∃ k : Nat, k ≤ Q ∧ i = .int .i64 ((64 * k : Nat) : Int) ∧ Below w.heap.size w wr ∧ wr.heap[g]? = some (.cells (u32s (Sha.absorb ALL k).list) 140 (0, 0))) (fun i _ => 64 * Q - (intOf i).toNat)
      case atStart =>
        refine ⟨0, Nat.zero_le _, rfl, HB2.out.alloc HB2.out.size _, ?_⟩
        exact heap_new_at _ _ _ HGG.out.symm
      case round =>
        obtain ⟨k, hk, rfl, hb, hgr⟩ := hrel
        obtain ⟨S, hS⟩ : ∃ S, Sha.absorb ALL k = S := ⟨_, rfl⟩
        obtain ⟨RS, hRS⟩ : ∃ R, u32s S.list = R := ⟨_, rfl⟩
        rw [hS, hRS] at hgr
        have HS := Lib.hid hS
        have HRS := Lib.hid hRS
        have HBR := Lib.hid hb
        have HGR := Lib.hid hgr
        have hRz : RS.size = 8 := by rw [← hRS]; rfl
        have HRI : Hid ((Tryz.prog.info? 140).map (·.size) = some RS.size) := Lib.hid (by rw [hRz]; exact info8w)
        by_cases hlt : k < Q
        · have hle : ((64 * k : Nat) : Int) + 64 ≤ (ALL.length : Int) := by have := HQ.out; omega
          obtain ⟨X, hX⟩ : ∃ X, (ALL.drop (64 * k)).take 64 = X := ⟨_, rfl⟩
          have hXl : X.length = 64 := by rw [← hX]; simp; have := HQ.out; omega
          have hXat : ∀ j, j < 64 → ALL.getD (64 * k + j) 0 = X.getD j 0 := fun j hj => by rw [← hX]; simp [hj]
          have hnx : Sha.absorb ALL (k + 1) = Sha.blockP S X := by rw [← hX, ← hS]; rfl
          have hblk := fun w' => rblock_any S X w' hXl
          rw [Sha.blockR_is] at hblk
          obtain ⟨T, hT⟩ : ∃ T, Sha.blockP S X = T := ⟨_, rfl⟩
          obtain ⟨RT, hRT⟩ : ∃ R, u32s T.list = R := ⟨_, rfl⟩
          rw [hT, hRT, hRS] at hblk
          rw [hT] at hnx
          obtain ⟨XB, hXB⟩ : ∃ X', u8s X = X' := ⟨_, rfl⟩
          rw [hXB] at hblk
          have HBLK := Lib.hid hblk
          have HNX := Lib.hid hnx
          have HRT := Lib.hid hRT
          have HXA := Lib.hid hXat
          have HXL := Lib.hid hXl
          have HXB := Lib.hid hXB
          have hTz : RT.size = 8 := by rw [← hRT]; rfl
          have HTI : Hid ((Tryz.prog.info? 140).map (·.size) = some RT.size) := Lib.hid (by rw [hTz]; exact info8w)
          have HT1 : Hid (RT.all (·.oneCell') = true) := Lib.hid (by rw [← hRT]; exact u32s_one _)
          have HRTz : Hid (RS.size = RT.size) := Lib.hid (by rw [hRz, hTz])
          obtain ⟨i0, hi0⟩ : ∃ i0, 64 * k = i0 := ⟨_, rfl⟩
          rw [hi0] at hle HXA ⊢
          have HI0 := Lib.hid hi0
          have hi2000 : i0 ≤ 200000 := by omega
          clear hS hRS hb hgr hRz hX hXl hXat hnx hblk hT hRT hTz hi0 hXB
          go_wp2
          obtain ⟨pb, hpb⟩ : ∃ pb, wr.heap.size = pb := ⟨_, rfl⟩
          have HGP : Hid (g < pb) := Lib.hid (by rw [← hpb]; exact lt_of_heap HGR.out)
          have HWP : Hid (w.heap.size ≤ pb) := Lib.hid (by rw [← hpb]; exact HBR.out.size)
          have HSt1 : Hid (Below w.heap.size w (wr.alloc (.cells (u8s (List.replicate 64 0)) 142))) := Lib.hid (HBR.out.alloc HBR.out.size _)
          have HSt2 : Hid ((wr.alloc (.cells (u8s (List.replicate 64 0)) 142)).heap[g]? = some (.cells RS 140 (0, 0))) := Lib.hid (heap_old_at _ HGR.out)
          have HSt3 : Hid ((wr.alloc (.cells (u8s (List.replicate 64 0)) 142)).heap[pb]? = some (.cells (u8s (Sha.copyR X 0)) 142 (0, 0))) := Lib.hid (heap_new_at _ _ _ hpb.symm)
          rw [hpb]
          clear hpb
          go_loopw [11] (fun i wr => ∃ j : Nat, j ≤ 64 ∧ i = .int .i64 j ∧ Below w.heap.size w wr ∧ wr.heap[g]? = some (.cells RS 140 (0, 0)) ∧ wr.heap[pb]? = some (.cells (u8s (Sha.copyR X j)) 142 (0, 0))) (fun i _ => 64 - (intOf i).toNat)
          case atStart => exact ⟨0, by omega, rfl, HSt1.out, HSt2.out, HSt3.out⟩
          case round =>
            clear HSt1 HSt2 HSt3 HBR HGR
            obtain ⟨j, hj, rfl, hb, hgr, hpr⟩ := hrel
            obtain ⟨F, hF⟩ : ∃ F, Sha.copyR X j = F := ⟨_, rfl⟩
            have hFl : F.length = 64 := by rw [← hF, Sha.copyR_length]
            rw [hF] at hpr
            have HF := Lib.hid hF
            have HBR := Lib.hid hb
            have HGR := Lib.hid hgr
            have HPR := Lib.hid hpr
            by_cases hj64 : j < 64
            · have hjI : (j : Int) < 64 := by omega
              have co : wr.cell? ⟨pb, j, none⟩ = some (.int .u8 ((F.getD j 0).toNat : Int)) := (cell_of_row wr _ j _ _ _ hpr).trans (u8s_at F j (by omega))
              obtain ⟨old, hold⟩ : ∃ o, ((F.getD j 0).toNat : Int) = o := ⟨_, rfl⟩
              rw [hold] at co
              have fo := frozen_of_row wr _ j _ _ hpr
              have hin : i0 + j < ALL.length := by omega
              have hat := HXA.out j hj64
              have hnn : Sha.copyR X (j + 1) = F.set j (X.getD j 0) := by rw [← hF]; rfl
              obtain ⟨c, hc⟩ : ∃ c, X.getD j 0 = c := ⟨_, rfl⟩
              rw [hc] at hat hnn
              have hix : ∀ h, (⟨ALL.toArray⟩ : ByteArray)[i0 + j]'h = c := fun h => by
                rw [← hat]
                simp [hin]
                rfl
              have e0 : ((i0 : Int) + (j : Int)).toNat = i0 + j := by omega
              have hinI : (i0 : Int) + (j : Int) < (ALL.length : Int) := by omega
              have HNN := Lib.hid hnn
              clear hb hgr hpr hF hFl hold hat hnn hc
              go_wp2
              go_roundw
              case rel =>
                have hgp := HGP.out
                refine ⟨j + 1, by omega, by go_num, HBR.out.setCell HWP.out _, (Below.heap_setCell _ _ _ _ (by dsimp only; omega)).trans HGR.out, ?_⟩
                rw [HNN.out, ← u8s_set]
                exact heap_setCell_same _ _ _ _ _ _ HPR.out
              case measure => simp [intOf]; omega
            · obtain rfl : j = 64 := by omega
              have hno64 : ¬ ((64 : Nat) : Int) < 64 := by omega
              have HXF : Hid (u8s F = XB) := Lib.hid (by rw [← HF.out, Sha.copyR_all X HXL.out, HXB.out])
              rw [HXF.out] at HPR
              have HXI : Hid ((Tryz.prog.info? 142).map (·.size) = some XB.size) := Lib.hid (by rw [← HXB.out, u8s_size, HXL.out]; exact info64y)
              clear hj64 hj hb hgr hpr hF hFl
              go_wp2_with (first | (refine wpList_load_row (by rfl) _ _ (by rfl) g (by rfl) _ RS _ _ HGR.out Tryz.underlying140 (by rfl) HRI.out ?_) | (refine wpList_load_row (by rfl) _ _ (by rfl) pb (by rfl) _ XB _ _ HPR.out Tryz.underlying142 (by rfl) HXI.out ?_))
              refine (HBLK.out _).mono ?_
              rintro e w6 ⟨rfl, hb6⟩
              have HG6 := Lib.hid ((hb6.block g (lt_of_heap HGR.out)).trans HGR.out)
              have HB6 := Lib.hid (HBR.out.trans (hb6.mono HBR.out.size))
              clear hb6
              go_wp2_with (refine wpList_store_row (by rfl) _ _ _ (by rfl) g RT (by rfl) (by rfl) _ _ HG6.out HTI.out HRTz.out HT1.out ?_)
              go_roundw
              case rel => exact ⟨k + 1, by omega, by rw [← HI0.out]; go_num, below_setRow HB6.out HGW.out _, by rw [HNX.out, HRT.out]; exact setRow_heap _ _ _ _ _ _ HG6.out⟩
              case measure => have := HQ.out; have := HI0.out; simp [intOf]; omega
        · obtain rfl : k = Q := by omega
          have hno : ¬ (((64 * k : Nat) : Int) + 64 ≤ (ALL.length : Int)) := by have := HQ.out; omega
          have HTO := Lib.hid (rtold_any S wr)
          rw [hRS] at HTO
          have HFI : Hid (Sha.sumP s = Sha.joinP S) := Lib.hid (by
            rw [HT.out, ← HALL.out, ← HS.out]
            unfold Sha.wordsP
            rw [HQ.out, Nat.mul_div_cancel_left _ (by omega)])
          obtain ⟨i0, hi0⟩ : ∃ i0, 64 * k = i0 := ⟨_, rfl⟩
          rw [hi0] at hno ⊢
          have hi2000 : i0 ≤ 200000 := by omega
          clear hS hRS hb hgr hRz hlt hk hi0
          go_wp2_with (refine wpList_load_row (by rfl) _ _ (by rfl) g (by rfl) _ RS _ _ HGR.out Tryz.underlying140 (by rfl) HRI.out ?_)
          refine HTO.out.mono ?_
          rintro e w6 ⟨rfl, hb6⟩
          go_wp2
          go_ret
          exact ⟨by rw [HFI.out]; rfl, HBR.out.trans (hb6.mono HBR.out.size)⟩
end Go.Proofs.YtlckcfpdiigjiaaGreatDoor
namespace Go.Proofs.YtlckcfpdiigjiaaGreatDoor
open Go.RowKit

set_option maxRecDepth 8000 in
theorem rTagged_any (t : Int) (s : List UInt8) (w : World) (hs : s.length ≤ 99999) :
    Calls Tryz.prog 70 #[.int .i64 t, .string ⟨s.toArray⟩] w fun e w' => e = .returned (.string ⟨(Sha.sumP (Sha.byteOf t :: s)).toArray⟩) ∧ Below w.heap.size w w' := by
  have HS := Lib.hid (fun w => rsum_any (Sha.byteOf t :: s) w (by simp; omega))
  obtain ⟨R, hR⟩ : ∃ R, Sha.sumP (Sha.byteOf t :: s) = R := ⟨_, rfl⟩
  rw [hR] at HS ⊢
  have hcm := cat_mk [Sha.byteOf t] s
  have kc := fun w => conv_tag w t
  rw [List.singleton_append] at hcm
  clear hR
  go_enter Tryz.func70, Tryz.ntmps70
  go_wp2_with fail
  have hB1 : Below w.heap.size w (w.alloc (.cells #[.int .u8 (t % 256)] 5)) := (Below.refl _ w).alloc (Nat.le_refl _) _
  refine (HS.out _).mono ?_
  rintro e w2 ⟨rfl, hb2⟩
  go_wp2
  go_ret
  exact ⟨rfl, bchain hB1 hb2⟩

end Go.Proofs.YtlckcfpdiigjiaaGreatDoor
namespace Go.Proofs.YtlckcfpdiigjiaaGreatDoor
open Go.RowKit
open Go.Proofs.YtlckcfpdiigjiaaGreatDoor.Pw (M)

set_option maxRecDepth 8000 in
set_option maxHeartbeats 2000000 in
theorem rencode_any (L : List M) (v : Value) (w : World) (hv : Mems w v L) :
    Calls Tryz.prog 69 #[v] w fun e w' => e = .returned (.tuple #[.string ⟨(Pw.encL L).toArray⟩, .int .i64 (Pw.checkC L)]) ∧ Below w.heap.size w w' := by
  have HV := Lib.hid hv
  obtain ⟨A, cap, rfl⟩ := hv.form
  have HCK := Lib.hid (rcheck_any L _ w HV.out)
  unfold Pw.encL
  cases hok : Pw.okL L with
  | false =>
    rw [Pw.checkC_bad hok] at HCK ⊢
    rw [if_neg (by simp)]
    clear hok hv
    go_enter Tryz.func69, Tryz.ntmps69
    go_wp2_with fail
    refine HCK.out.mono ?_
    rintro e w1 ⟨rfl, hb⟩
    go_wp2
    go_ret2
    exact ⟨rfl, hb⟩
  | true =>
    rw [Pw.checkC_ok hok] at HCK ⊢
    rw [if_pos rfl]
    have HOK := Lib.hid hok
    have hl7 := (Pw.okL_len hok).2
    have HN := Lib.hid (fun w => rNumber_any L.length (by omega) w)
    have HST := Lib.hid (Pw.encB_take L)
    have HLE := Lib.hid (Pw.encB_le hok)
    have HE : Hid (Pw.encB L = Code.numL L.length ++ (L.take L.length).flatMap Pw.encM) := Lib.hid (by rw [List.take_length]; rfl)
    obtain ⟨E, hE⟩ : ∃ E, Pw.encB L = E := ⟨_, rfl⟩
    obtain ⟨P, hP⟩ : ∃ P, Code.numL L.length = P := ⟨_, rfl⟩
    rw [hP] at HN HST HLE HE
    rw [hE] at HE ⊢
    clear hok hv hE hP
    go_enter Tryz.func69, Tryz.ntmps69
    go_wp2_with fail
    refine HCK.out.mono ?_
    rintro e w1 ⟨rfl, hb1⟩
    go_wp2_with fail
    refine (HN.out _).mono ?_
    rintro e w2 ⟨rfl, hb2⟩
    have HB2 := Lib.hid (bchain hb1 hb2)
    clear hb1 hb2
    go_wp2
    go_loopw [4, 5] (fun s i wr => ∃ k : Nat, k ≤ L.length ∧ i = .int .i64 k ∧ s = .string ⟨(P ++ (L.take k).flatMap Pw.encM).toArray⟩ ∧ Below w.heap.size w wr) (fun _ i _ => L.length - (intOf i).toNat)
    case atStart => exact ⟨0, Nat.zero_le _, rfl, by simp, HB2.out⟩
    case round =>
      obtain ⟨k, hk, rfl, rfl, hb⟩ := hrel
      have HB := Lib.hid hb
      clear hb HB2
      by_cases hlt : k < L.length
      · have h1 : (k : Int) < (L.length : Int) := by omega
        have h0 : (0 : Int) ≤ (k : Int) := by omega
        obtain ⟨b, o, rfl, n0, n1⟩ := HV.out.at HB.out k hlt
        have hst := HST.out k hlt
        have hle := HLE.out k
        have hmem := Pw.okL_mem HOK.out L[k] (List.getElem_mem hlt)
        obtain ⟨⟨x, q⟩, hm⟩ : ∃ m, L[k] = m := ⟨_, rfl⟩
        rw [hm] at n0 n1 hst hmem
        dsimp only at n0 n1 hst hmem
        obtain ⟨n, rfl⟩ : ∃ n : Nat, q = n := ⟨q.toNat, by omega⟩
        simp only [Int.toNat_natCast] at hst
        have HTX := Lib.hid (fun w => rText_any x w (by omega))
        have HNM := Lib.hid (fun w => rNumber_any n (by omega) w)
        have htl : (Code.textL x).length ≤ 20 := by
          have := Pw.numL_le x.length (by omega)
          simp only [Code.textL, List.length_append]; omega
        have hnl := Pw.numL_le n (by omega)
        obtain ⟨X, hX⟩ : ∃ X, Code.textL x = X := ⟨_, rfl⟩
        obtain ⟨Y, hY⟩ : ∃ Y, Code.numL n = Y := ⟨_, rfl⟩
        rw [hX] at HTX hst htl
        rw [hY] at HNM hst hnl
        obtain ⟨S, hS⟩ : ∃ S, P ++ (L.take k).flatMap Pw.encM = S := ⟨_, rfl⟩
        rw [hS] at hst hle ⊢
        have hcm1 := cat_mk S X
        have hcm2 := cat_mk (S ++ X) Y
        have hxy : (S ++ X).length ≤ 300 := by rw [List.length_append]; omega
        rw [← List.append_assoc] at hst
        obtain ⟨Z, hZ⟩ : ∃ Z, S ++ X = Z := ⟨_, rfl⟩
        rw [hZ] at hcm1 hcm2 hst hxy
        obtain ⟨S2, hS2⟩ : ∃ S2, Z ++ Y = S2 := ⟨_, rfl⟩
        rw [hS2] at hcm2 hst
        have HST2 := Lib.hid hst
        have HC1 : Hid (∀ w', Below wr.heap.size wr w' → w'.cell? ⟨b, o + k * 2 + 1, none⟩ = some (.int .i64 (n : Int))) := Lib.hid (fun w' hb => (hb.cell (block_lt_of_cell n1)).trans n1)
        have HBD : Hid (Below wr.heap.size wr wr.drew) := Lib.hid (Below.refl _ wr).drew
        clear hm hX hY hS hZ hS2 hst hmem
        go_wp2_with fail
        go_region_with (first | (go_at_call 85; refine (HTX.out _).mono ?_; rintro e wa ⟨rfl, hba⟩; have hBa : Below wr.heap.size wr wa := bchain HBD.out hba; have hca := HC1.out wa hBa) | (go_at_call 68; refine (HNM.out _).mono ?_; rintro e wb ⟨rfl, hbb⟩))
        all_goals
          have hbn := bchain HB.out (bchain hBa hbb)
          clear hba hbb hBa hca
          go_wp2
          exact ⟨⟨k + 1, by omega, by go_num, by rw [HST2.out], hbn⟩, by simp [intOf]; omega⟩
      · have h1 : ¬ ((k : Int) < (L.length : Int)) := by omega
        obtain rfl : k = L.length := by omega
        rw [← HE.out]
        go_wp2
        go_ret2
        exact ⟨rfl, HB.out⟩

set_option maxRecDepth 8000 in
theorem rdigest_any (L : List M) (v : Value) (w : World) (hv : Mems w v L) :
    Calls Tryz.prog 40 #[v] w fun e w' => e = .returned (.string ⟨(Pw.digL L).toArray⟩) ∧ Below w.heap.size w w' := by
  have HEN := Lib.hid (rencode_any L v w hv)
  have hle := Pw.encL_le L
  obtain ⟨A, cap, rfl⟩ := hv.form
  cases hok : Pw.okL L with
  | false =>
    rw [Pw.checkC_bad hok, show Pw.encL L = [] by simp [Pw.encL, hok]] at HEN
    rw [show Pw.digL L = [] by simp [Pw.digL, hok]]
    clear hok hv hle
    go_enter Tryz.func40, Tryz.ntmps40
    go_wp2_with fail
    refine HEN.out.mono ?_
    rintro e w1 ⟨rfl, hb⟩
    go_wp2
    go_ret
    exact ⟨rfl, hb⟩
  | true =>
    have e1 : Pw.encL L = Pw.encB L := by simp [Pw.encL, hok]
    rw [Pw.checkC_ok hok, e1] at HEN
    rw [e1] at hle
    rw [show Pw.digL L = Sha.sumP (Sha.byteOf 4 :: Pw.encB L) by simp [Pw.digL, hok]]
    have HD := Lib.hid (fun w => rTagged_any 4 (Pw.encB L) w (by omega))
    obtain ⟨E, hE⟩ : ∃ E, Pw.encB L = E := ⟨_, rfl⟩
    rw [hE] at HEN HD hle ⊢
    obtain ⟨D, hD⟩ : ∃ D, Sha.sumP (Sha.byteOf 4 :: E) = D := ⟨_, rfl⟩
    rw [hD] at HD ⊢
    clear hok hv hE hD e1
    go_enter Tryz.func40, Tryz.ntmps40
    go_wp2_with fail
    refine HEN.out.mono ?_
    rintro e w1 ⟨rfl, hb⟩
    go_wp2_with fail
    refine (HD.out _).mono ?_
    rintro e w2 ⟨rfl, hb2⟩
    go_wp2
    go_ret
    exact ⟨rfl, bchain hb hb2⟩

/-- The document's reader in block g, the row t of members. -/
structure RDecAt (w : World) (B g : Nat) (t : Value) (L : List M) (st : Pw.St) : Prop where
  rd : RRd w g st.1 st.2
  row : OwnM w B t L
  apart : t.ownBlock ≠ some g
  from_ : B ≤ g
theorem RDecAt.read {w w' : World} {B g : Nat} {t : Value} {L : List M} {st st' : Pw.St} (h : RDecAt w B g t L st) (hr : RRd w' g st'.1 st'.2) (ho : Only g w w') : RDecAt w' B g t L st' :=
  ⟨hr, row_keep h.row ho.out (fun _ hk e => h.apart (e ▸ hk)), h.apart, h.from_⟩
theorem RDecAt.below {w w' : World} {B g : Nat} {t : Value} {L : List M} {st : Pw.St} (h : RDecAt w B g t L st) (hb : Below w.heap.size w w') : RDecAt w' B g t L st :=
  ⟨h.rd.below hb, h.row.below hb, h.apart, h.from_⟩
theorem RDecAt.append {w w0 w' : World} {B g g' H n cap : Nat} {t : Value} {L : List M} {st : Pw.St} {m : M} (h : RDecAt w B g t L st) (hb : Below w.heap.size w w0) (hg : w0.grownBy w' t.ownBlock) (hown : w'.ownsRow B 71 2 (.slice (some ⟨g', 0, none⟩) n cap) n (mrows L ++ mcells m)) (hn : n = L.length + 1) (hat : t.ownBlock = some g' ∨ g' = H) (hH : w.heap.size ≤ H) : RDecAt w' B g (.slice (some ⟨g', 0, none⟩) n cap) (L ++ [m]) st := by
  have h0 := h.below hb
  have hlt := h.rd.lt
  refine ⟨?_, ?_, ?_, h.from_⟩
  · have ho := Out.grown hg (F := fun k => t.ownBlock = some k) (fun _ e => e)
    exact (ho.block g h0.rd.lt (fun e => h.apart e)).trans h0.rd
  · unfold OwnM
    rw [mrows_append, List.length_append, show mrows [m] = mcells m by simp [mrows]]
    subst hn
    exact hown
  · intro e
    simp [Value.ownBlock] at e
    subst e
    rcases hat with h1 | h1
    · exact h.apart h1
    · omega
theorem RDecAt.bel {w w' : World} {B g : Nat} {t : Value} {L : List M} {st : Pw.St} (h : RDecAt w B g t L st) (hB : B ≤ w.heap.size) (ho : Only g w w') : Below B w w' := ho.below h.from_ hB

end Go.Proofs.YtlckcfpdiigjiaaGreatDoor
namespace Go.Proofs.YtlckcfpdiigjiaaGreatDoor
open Go.RowKit
open Sto (T St)
open Go.Proofs.YtlckcfpdiigjiaaGreatDoor.Pw (M)
open Go.Proofs.YtlckcfpdiigjiaaGreatDoor.Exc (A)

/-- An account as a value; in block q. -/
def accval (a : A) : Value := .agg #[.string ⟨a.name.toArray⟩, .int .i64 a.amt, .int .i64 a.seq]
def AccAt (w : World) (q : Nat) (a : A) : Prop := w.heap[q]? = some (.cells #[.string ⟨a.name.toArray⟩, .int .i64 a.amt, .int .i64 a.seq] 55 (0, 0))
theorem AccAt.below {w w' : World} {q : Nat} {a : A} (h : AccAt w q a) (hb : Below w.heap.size w w') : AccAt w' q a := (hb.block q (lt_of_heap h)).trans h
theorem AccAt.cells {w : World} {q : Nat} {a : A} (h : AccAt w q a) : w.cell? ⟨q, 0, none⟩ = some (.string ⟨a.name.toArray⟩) ∧ w.cell? ⟨q, 1, none⟩ = some (.int .i64 a.amt) ∧ w.cell? ⟨q, 2, none⟩ = some (.int .i64 a.seq) :=
  ⟨by rw [cell_of_row _ _ 0 _ _ _ h]; rfl, by rw [cell_of_row _ _ 1 _ _ _ h]; rfl, by rw [cell_of_row _ _ 2 _ _ _ h]; rfl⟩
theorem AccAt.free {w : World} {q : Nat} {a : A} (h : AccAt w q a) (i : Nat) : w.frozen? ⟨q, i, none⟩ = false := frozen_of_row _ _ _ _ _ h
theorem AccAt.setAmt {w : World} {q : Nat} {a : A} (h : AccAt w q a) (n : Int) : AccAt (w.setCell ⟨q, 1, none⟩ (.int .i64 n)) q { a with amt := n } := by
  have := heap_setCell_same _ _ 1 _ _ (.int .i64 n) h
  simpa [AccAt] using this
theorem AccAt.setSeq {w : World} {q : Nat} {a : A} (h : AccAt w q a) (n : Int) : AccAt (w.setCell ⟨q, 2, none⟩ (.int .i64 n)) q { a with seq := n } := by
  have := heap_setCell_same _ _ 2 _ _ (.int .i64 n) h
  simpa [AccAt] using this
def putAcc (w : World) (q : Nat) (a : A) : World := ((w.setCell ⟨q, 0, none⟩ (.string ⟨a.name.toArray⟩)).setCell ⟨q, 1, none⟩ (.int .i64 a.amt)).setCell ⟨q, 2, none⟩ (.int .i64 a.seq)
theorem AccAt.put {w : World} {q : Nat} {b : A} (a : A) (h : AccAt w q b) : AccAt (putAcc w q a) q a := by
  have h0 := heap_setCell_same _ _ 0 _ _ (.string ⟨a.name.toArray⟩) h
  have h1 := heap_setCell_same _ _ 1 _ _ (.int .i64 a.amt) h0
  have h2 := heap_setCell_same _ _ 2 _ _ (.int .i64 a.seq) h1
  simpa [AccAt, putAcc] using h2
theorem putAcc_only (w : World) (q : Nat) (a : A) : Only q w (putAcc w q a) :=
  (((Only.refl q w).setCell (p := ⟨q, 0, none⟩) rfl _).setCell (p := ⟨q, 1, none⟩) rfl _).setCell (p := ⟨q, 2, none⟩) rfl _
theorem acc_box (a : A) (w : World) : ∃ w0, w.alloc (.cells #[.string ⟨a.name.toArray⟩, .int .i64 a.amt, .int .i64 a.seq] 55) = w0 ∧ Below w.heap.size w w0 ∧ AccAt w0 w.heap.size a :=
  ⟨_, rfl, (Below.refl _ w).alloc (Nat.le_refl _) _, heap_alloc_new w _⟩
set_option maxRecDepth 100000 in
theorem sizeAcc : (Tryz.prog.info? 55).map (·.size) = some 3 := by kernel_rfl
theorem ret_acc {fn : Func} {p u : Tmp} (h : fn.results = #[.cell p 55, .tmp u]) (tmps : Array Value) (w : World) (q : Nat) (a : A) (hp : tmps.getD p undef = .pointer (some ⟨q, 0, none⟩)) (hx : AccAt w q a) :
    (results fn tmps).run Tryz.prog w = .ok (.tuple #[accval a, tmps.getD u undef]) w :=
  results_c1t h tmps w q _ _ (0, 0) _ hp hx Tryz.underlying55 rfl sizeAcc
theorem ret_putAcc {fn : Func} {p u : Tmp} (h : fn.results = #[.cell p 55, .tmp u]) (tmps : Array Value) (w : World) (q : Nat) (a : A) {b : A} (hp : tmps.getD p undef = .pointer (some ⟨q, 0, none⟩)) (hx : AccAt w q b) :
    (results fn tmps).run Tryz.prog (putAcc w q a) = .ok (.tuple #[accval a, tmps.getD u undef]) (putAcc w q a) := ret_acc h tmps _ q a hp (hx.put a)

set_option maxRecDepth 100000 in
set_option maxHeartbeats 4000000 in
theorem rvalue_any (a : A) (w : World) (ha : Exc.wi a.amt = true) (hs : Exc.wi a.seq = true) :
    Calls Tryz.prog 38 #[accval a] w fun r w' => r = .returned (.string ⟨(Exc.valS a.amt a.seq).toArray⟩) ∧ Below w.heap.size w w' := by
  obtain ⟨w0, hw0, hb0, ra⟩ := acc_box a w
  have HB := Lib.hid hb0
  obtain ⟨q0, hq0⟩ : ∃ q0, w.heap.size = q0 := ⟨_, rfl⟩
  rw [hq0] at ra
  have HA := Lib.hid ra
  have HQ0 := Lib.hid hq0
  obtain ⟨a1, a2⟩ := Exc.wi_of ha
  obtain ⟨s1, s2⟩ := Exc.wi_of hs
  obtain ⟨n, hn⟩ : ∃ n : Nat, a.amt = (n : Int) := ⟨a.amt.toNat, by omega⟩
  obtain ⟨m, hm⟩ : ∃ m : Nat, a.seq = (m : Int) := ⟨a.seq.toNat, by omega⟩
  have hn6 : n < 2 ^ 63 := by omega
  have hm6 : m < 2 ^ 63 := by omega
  have HNU : Hid (∀ (n : Nat) w', n < 2 ^ 63 → Below w0.heap.size w0 w' → Calls Tryz.prog 68 #[.int .i64 n] w' fun e w'' => e = .returned (.string ⟨(Code.numL n).toArray⟩) ∧ Below w0.heap.size w0 w'') := Lib.hid (fun n w' hs h => (rNumber_any n hs w').mono fun e w'' ⟨p, q⟩ => ⟨p, bchain h q⟩)
  have HCC : Hid (∀ w', Below w0.heap.size w0 w' → w'.cell? ⟨q0, 1, none⟩ = some (.int .i64 n) ∧ w'.cell? ⟨q0, 2, none⟩ = some (.int .i64 m)) := Lib.hid (fun w' h => by
    have h1 := (HA.out.below h).cells
    exact ⟨by rw [h1.2.1, hn], by rw [h1.2.2, hm]⟩)
  have HV : Hid (Exc.valS a.amt a.seq = Code.numL n ++ Code.numL m) := Lib.hid (by unfold Exc.valS; rw [hn, hm]; rfl)
  have BD : Below w0.heap.size w0 w0.drew := (Below.refl _ _).drew
  have e1 := cat_mk (Code.numL n) (Code.numL m)
  have hg3 : ¬ (9223372036854775807 < (Code.numL n).length + (Code.numL m).length) := by
    have := Code.numL_length n
    have := Code.numL_length m
    have := Code.sz_le8 n (by omega)
    have := Code.sz_le8 m (by omega)
    omega
  obtain ⟨c1, c2⟩ := HCC.out _ (Below.refl _ _)
  rw [hn, hm] at hw0
  rw [HV.out]
  unfold accval
  rw [hn, hm]
  clear hb0 ra hq0 ha hs a1 a2 s1 s2 hn hm
  go_enter Tryz.func38, Tryz.ntmps38
  go_upto_region 1 with fail
  try rw [hw0]
  try rw [HQ0.out]
  clear hw0
  go_region_with (go_at_call 68; refine (HNU.out _ _ (by with_reducible assumption) (by with_reducible assumption)).mono ?_; rintro r wa ⟨rfl, hba⟩; obtain ⟨b3, b4⟩ := HCC.out _ hba)
  all_goals
    go_wp2
    go_ret
    exact ⟨rfl, bchain HB.out (by assumption)⟩
theorem rwithin_any (n : Int) (w : World) : Calls Tryz.prog 51 #[.int .i64 n] w fun r w' => r = .returned (.bool (Exc.wi n)) ∧ w' = w := by
  have HN : Hid (Exc.wi n = (decide (0 ≤ n) && decide (n ≤ 1099511627776))) := Lib.hid rfl
  obtain ⟨c1, h1⟩ : ∃ c, decide (0 ≤ n) = c := ⟨_, rfl⟩
  obtain ⟨c2, h2⟩ : ∃ c, decide (n ≤ 1099511627776) = c := ⟨_, rfl⟩
  rw [h1, h2] at HN
  cases c1 <;> cases c2 <;>
  · go_enter Tryz.func51, Tryz.ntmps51
    go_wp2
    go_ret
    exact ⟨by rw [HN.out]; rfl, rfl⟩
set_option maxRecDepth 100000 in
theorem rdata_any (S : St) (v : Value) (k : T) (w : World) (hv : ItAt w v S) (hl : S.length ≤ 10000) (hS : Sto.Rising S) :
    Calls Tryz.prog 22 #[v, .string ⟨k.toArray⟩] w fun r w' => r = .returned (.tuple #[.string ⟨(Exc.dat S k).1.toArray⟩, .int .i64 (Exc.dat S k).2]) ∧ Below w.heap.size w w' := by
  have HD := Lib.hid (Exc.getC_dat (S := S) k)
  have HGT : Hid (k.length ≤ 100 → Calls Tryz.prog 52 #[v, .string ⟨(Exc.dK k).toArray⟩] w fun e w' => e = .returned (.tuple #[.string ⟨(Tri.getC S (Exc.dK k)).1.toArray⟩, .int .i64 (Tri.getC S (Exc.dK k)).2]) ∧ ∃ q, w' = w.drewN q) := Lib.hid (fun h => rtGet_any S v (Exc.dK k) w hv hl hS (by simp [Exc.dK]; omega))
  obtain ⟨A, cap, rfl, -, -⟩ := hv.form
  have HKB : Hid (Txn.keyB k = (decide (1 ≤ k.length) && decide (k.length ≤ 6))) := Lib.hid rfl
  obtain ⟨D, hD⟩ : ∃ D, Exc.dat S k = D := ⟨_, rfl⟩
  rw [hD] at HD ⊢
  clear hv hl hS hD
  by_cases h1 : k.length < 1
  · have p1 : decide ((k.length : Int) < 1) = true := decide_eq_true (by omega)
    have HK : Hid (D = ([], 1)) := Lib.hid (by rw [HD.out, HKB.out, decide_eq_false (by omega)]; rfl)
    clear h1
    go_enter Tryz.func22, Tryz.ntmps22
    go_wp2
    go_ret2
    exact ⟨by rw [HK.out]; rfl, Below.refl _ _⟩
  have p1 : decide ((k.length : Int) < 1) = false := decide_eq_false (by omega)
  by_cases h2 : 6 < k.length
  · have p2 : decide ((6 : Int) < (k.length : Int)) = true := decide_eq_true (by omega)
    have HK : Hid (D = ([], 1)) := Lib.hid (by rw [HD.out, HKB.out, decide_eq_false (show ¬ k.length ≤ 6 by omega), Bool.and_false]; rfl)
    clear h1 h2
    go_enter Tryz.func22, Tryz.ntmps22
    go_wp2
    go_ret2
    exact ⟨by rw [HK.out]; rfl, Below.refl _ _⟩
  have p2 : decide ((6 : Int) < (k.length : Int)) = false := decide_eq_false (by omega)
  have HK : Hid (D = ((Tri.getC S (Exc.dK k)).1, ((Tri.getC S (Exc.dK k)).2 : Int))) := Lib.hid (by rw [HD.out, HKB.out, decide_eq_true (show 1 ≤ k.length by omega), decide_eq_true (show k.length ≤ 6 by omega)]; rfl)
  have HG2 := Lib.hid (HGT.out (by omega))
  have e1 := cat_mk [100, 58] k
  have hg : ¬ (9223372036854775807 < 2 + k.length) := by omega
  obtain ⟨⟨G, c⟩, hG⟩ : ∃ G, Tri.getC S (Exc.dK k) = G := ⟨_, rfl⟩
  rw [hG] at HK HG2
  dsimp only at HK HG2
  rw [show [100, 58] ++ k = Exc.dK k from rfl] at e1
  obtain ⟨K, hK⟩ : ∃ K, Exc.dK k = K := ⟨_, rfl⟩
  rw [hK] at e1 HG2
  clear h1 h2 hG hK
  go_enter Tryz.func22, Tryz.ntmps22
  go_wp2_with fail
  refine HG2.out.mono ?_
  rintro r w1 ⟨rfl, q, rfl⟩
  go_wp2
  go_ret2
  exact ⟨by rw [HK.out]; rfl, bel_drewN (Below.refl _ _) _⟩
end Go.Proofs.YtlckcfpdiigjiaaGreatDoor
namespace Go.Proofs.YtlckcfpdiigjiaaGreatDoor.Exc
open Sto (T St Rising)
open Go.Proofs.YtlckcfpdiigjiaaGreatDoor.Pw (M)
open Go.Proofs.YtlckcfpdiigjiaaGreatDoor.Txn (X)

theorem acc_code {S : St} {n : T} (hn : Txn.nameB n = true) (h : (acc S n).2 ≠ 0) : acc S n = (A.zero, 3) := by
  unfold acc at h ⊢
  rw [hn, if_neg (by decide)] at h ⊢
  cases hl : Sto.look S (aK n) with
  | none => rw [hl] at h; exact absurd rfl h
  | some v =>
    rw [hl] at h
    dsimp only at h ⊢
    cases ht : told v with
    | none => rfl
    | some p =>
      obtain ⟨a, s⟩ := p
      rw [ht] at h
      exact absurd rfl h
theorem acc_none {S : St} {n : T} (hn : Txn.nameB n = true) (h : Sto.look S (aK n) = none) : acc S n = (⟨n, 0, 0⟩, 0) := by
  unfold acc
  rw [hn, if_neg (by decide), h]

/-! ### the chapter's example -/
def wA : List A := [⟨[97], 9, 0⟩]
def wM : List M := [⟨[118], 1⟩]
def wX : X := ⟨1, [97], 0, [98], 5, [], [], []⟩
theorem work_gen : ∃ S, genP wA wM = (S, 0) ∧ acc S [97] = (⟨[97], 9, 0⟩, 0) ∧ acc S [98] = (⟨[98], 0, 0⟩, 0) ∧ Rising S ∧ S.length ≤ 2 := by
  have hm : Pw.okL wM = true := by decide
  refine ⟨Tri.put (Tri.put [] (aK [97]) (valS 9 0)) sK (Pw.digL wM), ?_, ?_, ?_, ?_, ?_⟩
  · have hg : genF [] wA = (Tri.put [] (aK [97]) (valS 9 0), 0) := by
      unfold wA
      rw [genF, if_neg (by decide), if_neg (by simp [Sto.look]), genF]
    unfold genP
    rw [if_neg (by decide), hg, if_neg (by simp), hm, if_neg (by decide)]
  · rw [acc_other (S := Tri.put [] (aK [97]) (valS 9 0)) _ (by rw [Tri.look_put _ _ _ _ (Tri.put_rising List.Pairwise.nil _ _), if_neg (aK_sK _)])]
    exact acc_put List.Pairwise.nil (by decide) (by decide) (by decide)
  · refine acc_none (by decide) ?_
    rw [Tri.look_put _ _ _ _ (Tri.put_rising List.Pairwise.nil _ _), if_neg (aK_sK _), Tri.look_put _ _ _ _ List.Pairwise.nil, if_neg (by decide)]
    rfl
  · exact Tri.put_rising (Tri.put_rising List.Pairwise.nil _ _) _ _
  · rw [Tri.put_len, Tri.put_len]
    split <;> split <;> simp
theorem work_do {S : St} (h1 : acc S [97] = (⟨[97], 9, 0⟩, 0)) (h2 : acc S [98] = (⟨[98], 0, 0⟩, 0)) (hS : Rising S) (hl : S.length ≤ 2) :
    ∃ R, doP S wX = (R, 0) ∧ acc R [97] = (⟨[97], 4, 1⟩, 0) ∧ acc R [98] = (⟨[98], 5, 0⟩, 0) ∧ doP R wX = ([], 160) := by
  have hf : Txn.fine wX = true := by decide
  have e : doP S wX = (Tri.put (Tri.put S (aK [98]) (valS 5 0)) (aK [97]) (valS 4 1), 0) := by
    unfold doP
    have k1 : wX.kind = 1 := rfl
    have k2 : wX.frm = [97] := rfl
    have k3 : wX.dst = [98] := rfl
    have k4 : wX.seq = 0 := rfl
    have k5 : wX.amt = 5 := rfl
    have hv1 := valS_len (a := 5) (s := 0) (by decide) (by decide)
    have hv2 := valS_len (a := 4) (s := 1) (by decide) (by decide)
    have c1 : Tri.putC S (aK [98]) (valS 5 0) = 0 := putC_few (keyed_aK (by decide)) hv1.1 (by omega) (by omega)
    have c2 : Tri.putC (Tri.put S (aK [98]) (valS 5 0)) (aK [97]) (valS 4 1) = 0 := putC_few (keyed_aK (by decide)) hv2.1 (by omega) (by rw [Tri.put_len]; split <;> omega)
    rw [hf, if_neg (by decide), k2, k3, h1, h2]
    rw [if_neg (by rintro (h | ⟨-, h⟩) <;> exact h rfl), k4, if_neg (by rintro (h | h) <;> revert h <;> decide)]
    have hk : kindP S wX ⟨[97], 9, 0⟩ ⟨[98], 0, 0⟩ = (Tri.put S (aK [98]) (valS 5 0), 0, 4) := by
      unfold kindP
      rw [k1, if_pos rfl, k5, if_neg (by decide), k2, k3, if_neg (by decide), if_neg (by decide)]
      show (Tri.put S (aK [98]) (valS 5 0), ((Tri.putC S (aK [98]) (valS 5 0) : Nat) : Int), (4 : Int)) = _
      rw [c1]
      rfl
    show lastP [97] 0 (kindP S wX ⟨[97], 9, 0⟩ ⟨[98], 0, 0⟩) = _
    rw [hk]
    unfold lastP
    rw [if_neg (by simp)]
    show (if Tri.putC (Tri.put S (aK [98]) (valS 5 0)) (aK [97]) (valS 4 1) ≠ 0 then _ else _) = _
    rw [if_neg (by rw [c2]; decide)]
    rfl
  refine ⟨_, e, ?_, ?_, ?_⟩
  · exact acc_put (Tri.put_rising hS _ _) (by decide) (by decide) (by decide)
  · rw [acc_other (S := Tri.put S (aK [98]) (valS 5 0)) _ (by rw [Tri.look_put _ _ _ _ (Tri.put_rising hS _ _), if_neg (by decide)])]
    exact acc_put hS (by decide) (by decide) (by decide)
  · exact (do_done e).again hS

/-! ### more on what is done -/
/-- The last step of one that is not refused. -/
theorem do_last {S : St} {x : X} (h : Txn.fine x = true) (h1 : (acc S x.frm).2 = 0) (h2 : x.kind = 1 → (acc S x.dst).2 = 0) (h3 : (acc S x.frm).1.seq = x.seq) (h4 : x.seq ≠ most) :
    doP S x = lastP x.frm x.seq (kindP S x (acc S x.frm).1 (acc S x.dst).1) := by
  unfold doP
  rw [h, if_neg (by decide), if_neg (by rintro (e | ⟨e, e2⟩); exact e h1; exact e2 (h2 e)), h3, if_neg (by rintro (e | e); exact e rfl; exact h4 e)]
/-! ### a state's other items -/
end Go.Proofs.YtlckcfpdiigjiaaGreatDoor.Exc
namespace Go.Proofs.YtlckcfpdiigjiaaGreatDoor.Tri
open Sto (T St Rising keys)

inductive Tr where
  | nil : Tr
  | leaf (p v : T) : Tr
  | ext (p : T) (t : Tr) : Tr
  | br (v : T) (k : Fin 16 → Tr) : Tr
def hb (i : Fin 16) : UInt8 := UInt8.ofNat i.val
theorem hb_toNat (i : Fin 16) : (hb i).toNat = i.val := by
  have := i.isLt
  simp [hb]; omega
theorem hb_inj {i j : Fin 16} (h : hb i = hb j) : i = j := Fin.ext (by rw [← hb_toNat, ← hb_toNat, h])
theorem hb_lt {i j : Fin 16} (h : i < j) : hb i < hb j := by rw [UInt8.lt_iff_toNat_lt, hb_toNat, hb_toNat]; exact h
/-- Items behind a path. -/
def behind (p : T) (l : St) : St := l.map fun x => (p ++ x.1, x.2)
def own (v : T) : St := if v = [] then [] else [([], v)]
def Tr.items : Tr → St
  | .nil => []
  | .leaf p v => [(p, v)]
  | .ext p t => behind p t.items
  | .br v k => own v ++ (List.finRange 16).flatMap fun i => behind [hb i] (k i).items
def Tr.isBr : Tr → Prop
  | .br _ _ => True
  | _ => False
def Tr.isNil : Tr → Prop
  | .nil => True
  | _ => False
def Tr.nilB : Tr → Bool
  | .nil => true
  | _ => false
theorem nilB_iff (t : Tr) : t.nilB = true ↔ t.isNil := by cases t <;> simp [Tr.nilB, Tr.isNil]
/-- What a branch has: two kids, or one and an item of its own. -/
def Two (v : T) (k : Fin 16 → Tr) : Prop := (∃ i j, i < j ∧ ¬ (k i).isNil ∧ ¬ (k j).isNil) ∨ (v ≠ [] ∧ ∃ i, ¬ (k i).isNil)
def Tr.canon : Tr → Prop
  | .nil => True
  | .leaf _ v => v ≠ []
  | .ext p t => p ≠ [] ∧ t.isBr ∧ t.canon
  | .br v k => (∀ i, (k i).canon) ∧ Two v k

theorem mem_behind {p : T} {l : St} {x : T × T} : x ∈ behind p l ↔ ∃ q, (q, x.2) ∈ l ∧ x.1 = p ++ q := by
  unfold behind
  rw [List.mem_map]
  constructor
  · rintro ⟨y, hy, rfl⟩; exact ⟨y.1, hy, rfl⟩
  · rintro ⟨q, hq, e⟩; exact ⟨(q, x.2), hq, Prod.ext e.symm rfl⟩
theorem mem_own {v : T} {x : T × T} : x ∈ own v ↔ x.1 = [] ∧ x.2 = v ∧ v ≠ [] := by
  unfold own
  by_cases h : v = []
  · simp [h]
  · rw [if_neg h, List.mem_singleton]
    exact ⟨fun e => by rw [e]; exact ⟨rfl, rfl, h⟩, fun ⟨a, b, _⟩ => Prod.ext a b⟩
theorem mem_br {v : T} {k : Fin 16 → Tr} {x : T × T} : x ∈ (Tr.br v k).items ↔ (x.1 = [] ∧ x.2 = v ∧ v ≠ []) ∨ ∃ i q, x.1 = hb i :: q ∧ (q, x.2) ∈ (k i).items := by
  rw [Tr.items, List.mem_append, mem_own, List.mem_flatMap]
  refine or_congr Iff.rfl ⟨?_, ?_⟩
  · rintro ⟨i, _, hx⟩
    obtain ⟨q, hq, e⟩ := mem_behind.1 hx
    exact ⟨i, q, by simpa using e, hq⟩
  · rintro ⟨i, q, e, hq⟩
    exact ⟨i, List.mem_finRange i, mem_behind.2 ⟨q, hq, by simpa using e⟩⟩
theorem append_lt (p a b : T) : p ++ a < p ++ b ↔ a < b := by
  induction p with
  | nil => rfl
  | cons x p ih => rw [List.cons_append, List.cons_append, List.cons_lt_cons_iff]; simp [ih]
theorem behind_rising (p : T) {l : St} : Rising (behind p l) ↔ Rising l := by
  unfold Rising behind
  rw [List.pairwise_map]
  simp only [append_lt]
theorem rising_append {a b : St} (ha : Rising a) (hb : Rising b) (h : ∀ x ∈ a, ∀ y ∈ b, x.1 < y.1) : Rising (a ++ b) := List.pairwise_append.2 ⟨ha, hb, h⟩
theorem flat_rising (f : Fin 16 → St) (hf : ∀ i, Rising (f i)) (hx : ∀ i j, i < j → ∀ x ∈ f i, ∀ y ∈ f j, x.1 < y.1) (l : List (Fin 16)) (hl : l.Pairwise (· < ·)) : Rising (l.flatMap f) := by
  induction l with
  | nil => exact List.Pairwise.nil
  | cons i l ih =>
    obtain ⟨h1, h2⟩ := List.pairwise_cons.1 hl
    rw [List.flatMap_cons]
    refine rising_append (hf i) (ih h2) fun x m y n => ?_
    obtain ⟨j, hj, hy⟩ := List.mem_flatMap.1 n
    exact hx i j (h1 j hj) x m y hy
theorem fin_rise : (List.finRange 16).Pairwise (· < ·) := by decide
theorem cons_lt {a b : UInt8} {s t : T} (h : a < b) : a :: s < b :: t := List.cons_lt_cons_iff.2 (Or.inl h)
/-- The items of a tree rise. -/
theorem items_rising (t : Tr) : Rising t.items := by
  induction t with
  | nil => exact List.Pairwise.nil
  | leaf p v => exact List.pairwise_singleton ..
  | ext p t ih => exact (behind_rising p).2 ih
  | br v k ih =>
    refine rising_append (by unfold own; split; exact List.Pairwise.nil; exact List.pairwise_singleton ..) (flat_rising _ (fun i => (behind_rising _).2 (ih i)) (fun i j hij x hx y hy => ?_) _ fin_rise) fun x hx y hy => ?_
    · obtain ⟨q, _, e⟩ := mem_behind.1 hx
      obtain ⟨r, _, e2⟩ := mem_behind.1 hy
      rw [e, e2]
      exact cons_lt (hb_lt hij)
    · obtain ⟨e, _, _⟩ := mem_own.1 hx
      obtain ⟨i, _, hi⟩ := List.mem_flatMap.1 hy
      obtain ⟨r, _, e2⟩ := mem_behind.1 hi
      rw [e, e2]
      exact List.nil_lt_cons _ _
theorem items_nil {t : Tr} (h : t.canon) : t.items = [] ↔ t.isNil := by
  induction t with
  | nil => simp [Tr.items, Tr.isNil]
  | leaf p v => simp [Tr.items, Tr.isNil]
  | ext p t ih =>
    obtain ⟨_, h2, h3⟩ := h
    simp only [Tr.items, Tr.isNil, iff_false, behind, List.map_eq_nil_iff]
    rw [ih h3]
    cases t <;> simp_all [Tr.isBr, Tr.isNil]
  | br v k ih =>
    obtain ⟨h1, h2⟩ := h
    simp only [Tr.isNil, iff_false]
    intro e
    have hk : ∀ i, (k i).isNil := fun i => (ih i (h1 i)).1 (List.eq_nil_iff_forall_not_mem.2 fun x hx => by
      have : (hb i :: x.1, x.2) ∈ (Tr.br v k).items := mem_br.2 (Or.inr ⟨i, x.1, rfl, hx⟩)
      rw [e] at this; cases this)
    rcases h2 with ⟨i, _, _, h, _⟩ | ⟨_, i, h⟩ <;> exact h (hk i)
/-- A branch's items do not all begin with one half byte. -/
theorem br_apart {v : T} {k : Fin 16 → Tr} (h : (Tr.br v k).canon) : (∃ x ∈ (Tr.br v k).items, x.1 = []) ∧ (∃ x ∈ (Tr.br v k).items, x.1 ≠ []) ∨ ∃ x ∈ (Tr.br v k).items, ∃ y ∈ (Tr.br v k).items, ∃ i j q r, i < j ∧ x.1 = hb i :: q ∧ y.1 = hb j :: r := by
  obtain ⟨h1, h2⟩ := h
  have some : ∀ i, ¬ (k i).isNil → ∃ x : T × T, x ∈ (k i).items := fun i hi => by
    cases hx : (k i).items with
    | nil => exact absurd ((items_nil (h1 i)).1 hx) hi
    | cons a l => exact ⟨a, List.mem_cons_self ..⟩
  rcases h2 with ⟨i, j, hij, hi, hj⟩ | ⟨hv, i, hi⟩
  · obtain ⟨x, hx⟩ := some i hi
    obtain ⟨y, hy⟩ := some j hj
    exact Or.inr ⟨(hb i :: x.1, x.2), mem_br.2 (Or.inr ⟨i, x.1, rfl, hx⟩), (hb j :: y.1, y.2), mem_br.2 (Or.inr ⟨j, y.1, rfl, hy⟩), i, j, x.1, y.1, hij, rfl, rfl⟩
  · obtain ⟨x, hx⟩ := some i hi
    exact Or.inl ⟨⟨([], v), mem_br.2 (Or.inl ⟨rfl, rfl, hv⟩), rfl⟩, ⟨(hb i :: x.1, x.2), mem_br.2 (Or.inr ⟨i, x.1, rfl, hx⟩), by simp⟩⟩
/-- No half byte begins all items of a branch. -/
theorem br_all {v : T} {k : Fin 16 → Tr} (h : (Tr.br v k).canon) (b : UInt8) : ¬ ∀ x ∈ (Tr.br v k).items, ∃ q, x.1 = b :: q := by
  intro ha
  rcases br_apart h with ⟨⟨x, hx, e⟩, _⟩ | ⟨x, hx, y, hy, i, j, q, r, hij, e1, e2⟩
  · obtain ⟨q, e2⟩ := ha x hx
    rw [e] at e2; cases e2
  · obtain ⟨q2, f1⟩ := ha x hx
    obtain ⟨r2, f2⟩ := ha y hy
    rw [e1] at f1; rw [e2] at f2
    have := hb_inj ((List.cons.inj f1).1.trans (List.cons.inj f2).1.symm)
    subst this; exact absurd hij (by simp)
theorem br_two {v : T} {k : Fin 16 → Tr} (h : (Tr.br v k).canon) : 2 ≤ (Tr.br v k).items.length := by
  cases hl : (Tr.br v k).items with
  | nil => exact absurd ((items_nil h).1 hl) (by simp [Tr.isNil])
  | cons a l =>
    cases l with
    | cons b l => simp
    | nil =>
      exfalso
      have hm : ∀ x ∈ (Tr.br v k).items, x = a := fun x hx => by rw [hl] at hx; simpa using hx
      rcases br_apart h with ⟨⟨x, hx, e⟩, ⟨y, hy, e2⟩⟩ | ⟨x, hx, y, hy, i, j, q, r, hij, e1, e2⟩
      · rw [hm x hx] at e; rw [hm y hy] at e2; exact e2 e
      · rw [hm x hx] at e1; rw [hm y hy, e1] at e2
        have := hb_inj (List.cons.inj e2).1
        subst this; exact absurd hij (by simp)
theorem ext_br {p : T} {t : Tr} (h : (Tr.ext p t).canon) : ∃ v k, t = .br v k ∧ (Tr.br v k).canon := by
  obtain ⟨_, h2, h3⟩ := h
  cases t with
  | br v k => exact ⟨v, k, rfl, h3⟩
  | nil => cases h2
  | leaf _ _ => cases h2
  | ext _ _ => cases h2
/-- The items of a kid. -/
def under (i : Fin 16) (l : St) : St := l.filterMap fun x => match x.1 with
  | [] => none
  | b :: q => if b = hb i then some (q, x.2) else none
theorem under_append (i : Fin 16) (a b : St) : under i (a ++ b) = under i a ++ under i b := by unfold under; rw [List.filterMap_append]
theorem under_own (i : Fin 16) (v : T) : under i (own v) = [] := by
  unfold own; split
  · rfl
  · rfl
theorem under_behind (i j : Fin 16) (l : St) : under i (behind [hb j] l) = if j = i then l else [] := by
  induction l with
  | nil => simp [behind, under]
  | cons a l ih =>
    have e : under i (behind [hb j] (a :: l)) = (if hb j = hb i then [(a.1, a.2)] else []) ++ under i (behind [hb j] l) := by
      unfold under behind
      rw [List.map_cons, List.filterMap_cons]
      by_cases h : hb j = hb i <;> simp [h]
    rw [e, ih]
    by_cases h : j = i
    · subst h; simp
    · rw [if_neg (fun h2 => h (hb_inj h2)), if_neg h, if_neg h]; rfl
theorem under_flat (i : Fin 16) (f : Fin 16 → St) (l : List (Fin 16)) (hl : l.Nodup) (hi : i ∈ l) : under i (l.flatMap fun j => behind [hb j] (f j)) = f i := by
  induction l with
  | nil => cases hi
  | cons j l ih =>
    obtain ⟨h1, h2⟩ := List.nodup_cons.1 hl
    rw [List.flatMap_cons, under_append, under_behind]
    by_cases e : j = i
    · subst e
      rw [if_pos rfl]
      have : ∀ l : List (Fin 16), j ∉ l → under j (l.flatMap fun k => behind [hb k] (f k)) = [] := by
        intro l
        induction l with
        | nil => intro _; rfl
        | cons k l ih =>
          intro hn
          rw [List.flatMap_cons, under_append, under_behind, if_neg (fun (e : k = j) => hn (by rw [e]; exact List.mem_cons_self ..)), ih (fun m => hn (List.mem_cons_of_mem _ m))]; rfl
      rw [this l h1, List.append_nil]
    · rw [if_neg e, List.nil_append]
      exact ih h2 ((List.mem_cons.1 hi).resolve_left (fun h => e h.symm))
theorem under_br (i : Fin 16) (v : T) (k : Fin 16 → Tr) : under i (Tr.br v k).items = (k i).items := by
  rw [Tr.items, under_append, under_own, List.nil_append]
  exact under_flat i (fun j => (k j).items) _ (List.nodup_finRange 16) (List.mem_finRange i)
theorem own_br {v w : T} {k m : Fin 16 → Tr} (h : (Tr.br v k).items = (Tr.br w m).items) : v = w := by
  have key : ∀ {v w : T} {k m : Fin 16 → Tr}, (Tr.br v k).items = (Tr.br w m).items → v ≠ [] → v = w := by
    intro v w k m h hv
    have : (([] : T), v) ∈ (Tr.br w m).items := h ▸ mem_br.2 (Or.inl ⟨rfl, rfl, hv⟩)
    rcases mem_br.1 this with ⟨_, e, _⟩ | ⟨i, q, e, _⟩
    · exact e
    · cases e
  by_cases hv : v = []
  · by_cases hw : w = []
    · rw [hv, hw]
    · exact (key h.symm hw).symm
  · exact key h hv
theorem behind_inj {p : T} {a b : St} (h : behind p a = behind p b) : a = b := by
  unfold behind at h
  refine (List.map_inj_right fun x y e => ?_).1 h
  have := congrArg Prod.fst e
  have e2 := congrArg Prod.snd e
  exact Prod.ext (List.append_cancel_left this) e2
theorem behind_append (p q : T) (l : St) : behind (p ++ q) l = behind p (behind q l) := by
  unfold behind; rw [List.map_map]; congr 1; funext x; simp
/-- A canonical tree hangs on its items alone. -/
theorem canon_one {t u : Tr} (ht : t.canon) (hu : u.canon) (h : t.items = u.items) : t = u := by
  induction t generalizing u with
  | nil =>
    have := (items_nil hu).1 h.symm
    cases u with
    | nil => rfl
    | _ => cases this
  | leaf p v =>
    cases u with
    | nil => cases h
    | leaf q w =>
      simp only [Tr.items, List.cons.injEq, Prod.mk.injEq, and_true] at h
      rw [h.1, h.2]
    | ext q u =>
      obtain ⟨w, m, rfl, hb⟩ := ext_br hu
      have := br_two hb
      have e := congrArg List.length h
      rw [Tr.items, Tr.items, behind, List.length_map] at e
      simp only [List.length_singleton] at e
      omega
    | br w m =>
      have := br_two hu
      rw [← h] at this; simp [Tr.items] at this
  | ext p t ih =>
    obtain ⟨v, k, rfl, hbr⟩ := ext_br ht
    cases u with
    | nil => have := br_two hbr; have e := congrArg List.length h; rw [Tr.items, Tr.items, behind, List.length_map] at e; simp only [List.length_nil] at e; omega
    | leaf q w => have := br_two hbr; have e := congrArg List.length h; rw [Tr.items, Tr.items, behind, List.length_map] at e; simp only [List.length_singleton] at e; omega
    | br w m =>
      exfalso
      obtain ⟨b, p', rfl⟩ := List.exists_cons_of_ne_nil ht.1
      refine br_all hu b fun x hx => ?_
      rw [← h, Tr.items] at hx
      obtain ⟨q, _, e⟩ := mem_behind.1 hx
      exact ⟨p' ++ q, by rw [e]; rfl⟩
    | ext q u =>
      obtain ⟨w, m, rfl, hbr2⟩ := ext_br hu
      have step : ∀ {p q : T} {v w : T} {k m : Fin 16 → Tr}, (Tr.br w m).canon → behind p (Tr.br v k).items = behind q (Tr.br w m).items → ∀ r b, p ≠ q ++ b :: r := by
        intro p q v w k m hc h r b e
        subst e
        rw [behind_append] at h
        have := behind_inj h
        refine br_all hc b fun x hx => ?_
        rw [← this] at hx
        obtain ⟨s, _, e⟩ := mem_behind.1 hx
        exact ⟨r ++ s, by rw [e]; rfl⟩
      have h : behind p (Tr.br v k).items = behind q (Tr.br w m).items := h
      have hpq : p = q := by
        obtain ⟨a, la, hla⟩ : ∃ a la, (Tr.br v k).items = a :: la := List.exists_cons_of_ne_nil (fun e => by have := br_two hbr; rw [e] at this; simp at this)
        have hm : (p ++ a.1, a.2) ∈ behind q (Tr.br w m).items := by
          rw [← h]; exact mem_behind.2 ⟨a.1, by rw [hla]; exact List.mem_cons_self .., rfl⟩
        obtain ⟨s, _, e⟩ := mem_behind.1 hm
        rcases List.append_eq_append_iff.1 e with ⟨r, e1, _⟩ | ⟨r, e1, _⟩
        · cases r with
          | nil => simpa using e1.symm
          | cons b r => exact absurd e1 (step hbr h.symm r b)
        · cases r with
          | nil => simpa using e1
          | cons b r => exact absurd e1 (step hbr2 h r b)
      subst hpq
      rw [ih hbr hbr2 (behind_inj h)]
  | br v k ih =>
    cases u with
    | nil => have := br_two ht; rw [h] at this; simp [Tr.items] at this
    | leaf q w => have := br_two ht; rw [h] at this; simp [Tr.items] at this
    | ext q u =>
      exfalso
      obtain ⟨b, q', rfl⟩ := List.exists_cons_of_ne_nil hu.1
      refine br_all ht b fun x hx => ?_
      rw [h, Tr.items] at hx
      obtain ⟨s, _, e⟩ := mem_behind.1 hx
      exact ⟨q' ++ s, by rw [e]; rfl⟩
    | br w m =>
      have hv := own_br h
      subst hv
      have hk : k = m := funext fun i => ih i (ht.1 i) (hu.1 i) (by rw [← under_br i v k, ← under_br i v m, h])
      rw [hk]
end Go.Proofs.YtlckcfpdiigjiaaGreatDoor.Tri
