/- ShaRefSum, DigTag, NodeDig, RegionInv, TriSpot, TriCount, TriGrownMath, TriRefList, TriRefGet -/
import Derived.Test.YtbkanebkobjnnaaGreatDoorPk08
import Derived.Test.YtbkanebkobjnnaaGreatDoorPk06
import Derived.Deep.OwnRows
import Derived.Test.YtbkanebkobjnnaaGreatDoorPk05
import Derived.RegionTactic
import Derived.Deep.RegionHeld3
import Derived.Test.YtbkanebkobjnnaaGreatDoorPk03
import Derived.Great.BuildSlice
import Derived.Test.YtbkanebkobjnnaaGreatDoorPk02
import Derived.Test.YtbkanebkobjnnaaGreatDoorPk01
import Derived.WalkSpells
import Derived.WalkLawsBesides
import Derived.Lib.Strings
import Derived.WalkKit
import Derived.Lib.Hide
namespace Go.Proofs.YtbkanebkobjnnaaGreatDoor
open Go.RowKit

theorem conv_byte (w : World) (x : Int) : (convert 101 9 (.slice (some ⟨w.heap.size, 0, none⟩) 1 1)).run Tryz.prog (w.alloc (.cells #[.int .u8 (x % 256)] 5)) = .ok (.string ⟨[Sha.byteOf x].toArray⟩) (w.alloc (.cells #[.int .u8 (x % 256)] 5)) := by
  have hg := heap_alloc_new w (.cells #[.int .u8 (x % 256)] 5)
  refine run_convert_bytes_back (P := Tryz.prog) _ 101 9 5 ⟨w.heap.size, 0, none⟩ 1 [Sha.byteOf x] Tryz.underlying101 Tryz.underlying5 Tryz.underlying9 ?_
  intro j hj
  rw [Addr.add_mid, Nat.zero_add, cell_of_row _ _ j _ _ _ hg]
  match j, hj with
  | 0, _ => simp [Sha.byteOf_toNat]

theorem conv_zeros (w : World) (z : Nat) : (convert 101 9 (.slice (some ⟨w.heap.size, 0, none⟩) z z)).run Tryz.prog (w.alloc (.cells (madeCells #[.int .u8 0] z) 5)) = .ok (.string ⟨(List.replicate z (0 : UInt8)).toArray⟩) (w.alloc (.cells (madeCells #[.int .u8 0] z) 5)) := by
  obtain ⟨cs, h1, _, h3⟩ := World.rowIs_made w (.int .u8 0) z 5
  have hlz : (List.replicate z (0 : UInt8)).length = z := by simp
  have := run_convert_bytes_back (P := Tryz.prog) (w.alloc (.cells (madeCells #[.int .u8 0] z) 5)) 101 9 5 ⟨w.heap.size, 0, none⟩ z (List.replicate z 0) Tryz.underlying101 Tryz.underlying5 Tryz.underlying9 (by
    intro j hj
    rw [Addr.add_mid, Nat.zero_add, cell_of_row _ _ j _ _ _ h1, h3 j (by simpa using hj)]
    simp)
  rwa [hlz] at this

theorem info64y : (Tryz.prog.info? 125).map (·.size) = some 64 := by kernel_rfl

set_option maxRecDepth 8000 in
set_option maxHeartbeats 800000 in
theorem rsum_any (s : List UInt8) (w : World) (hn : s.length ≤ 1000) :
    Calls Tryz.prog 76 #[.string ⟨s.toArray⟩] w fun e w' => e = .returned (.string ⟨(Sha.sumP s).toArray⟩) ∧ Below w.heap.size w w' := by
  obtain ⟨n, hnn⟩ : ∃ n, s.length = n := ⟨_, rfl⟩
  have hn' : n ≤ 1000 := by omega
  obtain ⟨m, hm⟩ : ∃ m : Nat, n % 64 = m := ⟨_, rfl⟩
  obtain ⟨z, hz⟩ : ∃ z : Nat, z = (119 - n % 64) % 64 := ⟨_, rfl⟩
  have hzb : z ≤ 63 := by omega
  have m1 : (n : Int).tmod 64 = (m : Int) := by rw [Int.tmod_eq_emod_of_nonneg (by omega)]; omega
  have m2 : (n : Int) % 64 = (m : Int) := by omega
  have z1 : (119 - (m : Int)).tmod 64 = (z : Int) := by rw [Int.tmod_eq_emod_of_nonneg (by omega)]; omega
  have z2 : (119 - (m : Int)) % 64 = (z : Int) := by omega
  have htail := Sha.tailP_is n z hz
  have HT : Hid (Sha.sumP s = Sha.joinP (Sha.wordsP (s ++ Sha.tailP n))) := Lib.hid (by unfold Sha.sumP; rw [hnn])
  have HTA := Lib.hid htail
  have hsz : s.length = n := hnn
  have hmb : m < 64 := by omega
  clear htail hz hm hn hnn
  go_enter Tryz.func76, Tryz.ntmps76
  go_wp2
  go_loopw [4, 5, 6] (fun b t i wr => ∃ k : Nat, k ≤ 8 ∧ i = .int .i64 k ∧ b = .int .i64 ((n * 8 / 256 ^ k : Nat) : Int) ∧ t = .string ⟨(Sha.endR (n * 8) k).toArray⟩ ∧ Below w.heap.size w wr) (fun _ _ i _ => 8 - (intOf i).toNat)
  case atStart => exact ⟨0, by omega, rfl, by simp, rfl, Below.refl _ _⟩
  case round =>
    obtain ⟨k, hk, rfl, rfl, rfl, hb⟩ := hrel
    have HB := Lib.hid hb
    clear hb
    by_cases hlt : k < 8
    · have hk8 : (k : Int) < 8 := by omega
      have hnx : Sha.endR (n * 8) (k + 1) = Sha.byteOf ((n * 8 / 256 ^ k : Nat) : Int) :: Sha.endR (n * 8) k := rfl
      have hdv : n * 8 / 256 ^ (k + 1) = n * 8 / 256 ^ k / 256 := by rw [Nat.pow_succ, Nat.div_div_eq_div_mul]
      have hel := Sha.endR_length (n * 8) k
      have hble : n * 8 / 256 ^ k ≤ 8000 := Nat.le_trans (Nat.div_le_self _ _) (by omega)
      obtain ⟨b, hbb⟩ : ∃ b, n * 8 / 256 ^ k = b := ⟨_, rfl⟩
      obtain ⟨E, hE⟩ : ∃ E, Sha.endR (n * 8) k = E := ⟨_, rfl⟩
      obtain ⟨E', hE'⟩ : ∃ E', Sha.endR (n * 8) (k + 1) = E' := ⟨_, rfl⟩
      rw [hbb] at hnx hdv hble ⊢
      rw [hE] at hnx hel ⊢
      rw [hE'] at hnx
      have hcm := cat_mk [Sha.byteOf (b : Int)] E
      have hcons : [Sha.byteOf (b : Int)] ++ E = E' := hnx.symm
      rw [hcons] at hcm
      have kc := fun w => conv_byte w (b : Int)
      have hEl : E.length ≤ 8 := by omega
      have HD := Lib.hid hdv
      have HE := Lib.hid hE'
      have b1 : (b : Int).tmod 256 = (b : Int) % 256 := Int.tmod_eq_emod_of_nonneg (by omega)
      have b2 : (b : Int).tdiv 256 = (b : Int) / 256 := Int.tdiv_eq_ediv_of_nonneg (by omega)
      clear hnx hdv hel hbb hE hE' hcons
      go_wp2
      go_roundw
      case rel => exact ⟨k + 1, by omega, by go_num, by rw [HD.out]; simp, by rw [HE.out], HB.out.alloc HB.out.size _⟩
      case measure => simp [intOf]; omega
    · obtain rfl : k = 8 := by omega
      have hno : ¬ ((8 : Nat) : Int) < 8 := by omega
      have hel := Sha.endR_length (n * 8) 8
      obtain ⟨E, hE⟩ : ∃ E, Sha.endR (n * 8) 8 = E := ⟨_, rfl⟩
      rw [hE] at hel HTA ⊢
      obtain ⟨S1, hS1⟩ : ∃ S1, s ++ [128] = S1 := ⟨_, rfl⟩
      obtain ⟨S2, hS2⟩ : ∃ S2, S1 ++ List.replicate z 0 = S2 := ⟨_, rfl⟩
      obtain ⟨ALL, hALL⟩ : ∃ S3, S2 ++ E = S3 := ⟨_, rfl⟩
      have c1 := cat_mk s [128]
      have c2 := cat_mk S1 (List.replicate z 0)
      have c3 := cat_mk S2 E
      rw [hS1] at c1
      rw [hS2] at c2
      rw [hALL] at c3
      have l1 : S1.length = n + 1 := by rw [← hS1]; simp; omega
      have l2 : S2.length = n + 1 + z := by rw [← hS2]; simp; omega
      have l3 : ALL.length = n + 1 + z + 8 := by rw [← hALL]; simp; omega
      have HALL : Hid (ALL = s ++ Sha.tailP n) := Lib.hid (by rw [HTA.out, ← hALL, ← hS2, ← hS1]; simp)
      obtain ⟨Q, hQ⟩ : ∃ Q, ALL.length = 64 * Q := ⟨(n + 1 + z + 8) / 64, by omega⟩
      have hQb : Q ≤ 20 := by omega
      have hlz : (List.replicate z (0 : UInt8)).length = z := by simp
      have hmk := fun w => run_make_row' (P := Tryz.prog) 101 5 (.int .u8 0) 1 Tryz.underlying101 Tryz.infoByte rfl .i64 .i64 z (by omega) (by omega) w
      have hkz := fun w => conv_zeros w z
      obtain ⟨Zs, hZs⟩ : ∃ Zs, List.replicate z (0 : UInt8) = Zs := ⟨_, rfl⟩
      obtain ⟨MC, hMC⟩ : ∃ MC, madeCells #[.int .u8 0] z = MC := ⟨_, rfl⟩
      rw [hZs] at c2 hlz hkz
      rw [hMC] at hkz hmk
      have b1 : S1.length ≤ 2000 := by omega
      have b2 : S2.length ≤ 2000 := by omega
      have b3 : ALL.length ≤ 2000 := by omega
      have b4 : s.length ≤ 1000 := by omega
      have b5 : Zs.length ≤ 64 := by omega
      have b6 : E.length ≤ 8 := by omega
      have HQ := Lib.hid hQ
      have hf := rfirst_any
      simp only [Sha.St.list, u32s, List.map_cons, List.map_nil, Sha.first] at hf
      have HF := Lib.hid hf
      clear hE hS1 hS2 hALL hlt hk hZs hMC hQ l1 l2 l3 hlz hel hf
      go_wp2_with fail
      refine (HF.out _).mono ?_
      rintro e w2 ⟨rfl, hb2⟩
      have HB2 := Lib.hid ((HB.out.alloc HB.out.size (.cells MC 5)).trans (hb2.mono (HB.out.alloc HB.out.size (.cells MC 5)).size))
      clear hb2 hkz hmk c1 c2 c3 b1 b2 b5 b6
      go_wp2
      obtain ⟨g, hg⟩ : ∃ g, w2.heap.size = g := ⟨_, rfl⟩
      have HGG := Lib.hid hg
      have HGW : Hid (w.heap.size ≤ g) := Lib.hid (by rw [← hg]; exact HB2.out.size)
      rw [hg]
      clear hg
      go_loopw [9] (fun i wr => ∃ k : Nat, k ≤ Q ∧ i = .int .i64 ((64 * k : Nat) : Int) ∧ Below w.heap.size w wr ∧ wr.heap[g]? = some (.cells (u32s (Sha.absorb ALL k).list) 123 (0, 0))) (fun i _ => 64 * Q - (intOf i).toNat)
      case atStart =>
        refine ⟨0, Nat.zero_le _, rfl, HB2.out.alloc HB2.out.size _, ?_⟩
        exact heap_new_at _ _ _ HGG.out.symm
      case round =>
        obtain ⟨k, hk, rfl, hb, hgr⟩ := hrel
        obtain ⟨S, hS⟩ : ∃ S, Sha.absorb ALL k = S := ⟨_, rfl⟩
        obtain ⟨RS, hRS⟩ : ∃ R, u32s S.list = R := ⟨_, rfl⟩
        rw [hS, hRS] at hgr
        have HS := Lib.hid hS
        have HRS := Lib.hid hRS
        have HBR := Lib.hid hb
        have HGR := Lib.hid hgr
        have hRz : RS.size = 8 := by rw [← hRS]; rfl
        have HRI : Hid ((Tryz.prog.info? 123).map (·.size) = some RS.size) := Lib.hid (by rw [hRz]; exact info8w)
        by_cases hlt : k < Q
        · have hle : ((64 * k : Nat) : Int) + 64 ≤ (ALL.length : Int) := by have := HQ.out; omega
          obtain ⟨X, hX⟩ : ∃ X, (ALL.drop (64 * k)).take 64 = X := ⟨_, rfl⟩
          have hXl : X.length = 64 := by rw [← hX]; simp; have := HQ.out; omega
          have hXat : ∀ j, j < 64 → ALL.getD (64 * k + j) 0 = X.getD j 0 := fun j hj => by rw [← hX]; simp [hj]
          have hnx : Sha.absorb ALL (k + 1) = Sha.blockP S X := by rw [← hX, ← hS]; rfl
          have hblk := fun w' => rblock_any S X w' hXl
          rw [Sha.blockR_is] at hblk
          obtain ⟨T, hT⟩ : ∃ T, Sha.blockP S X = T := ⟨_, rfl⟩
          obtain ⟨RT, hRT⟩ : ∃ R, u32s T.list = R := ⟨_, rfl⟩
          rw [hT, hRT, hRS] at hblk
          rw [hT] at hnx
          obtain ⟨XB, hXB⟩ : ∃ X', u8s X = X' := ⟨_, rfl⟩
          rw [hXB] at hblk
          have HBLK := Lib.hid hblk
          have HNX := Lib.hid hnx
          have HRT := Lib.hid hRT
          have HXA := Lib.hid hXat
          have HXL := Lib.hid hXl
          have HXB := Lib.hid hXB
          have hTz : RT.size = 8 := by rw [← hRT]; rfl
          have HTI : Hid ((Tryz.prog.info? 123).map (·.size) = some RT.size) := Lib.hid (by rw [hTz]; exact info8w)
          have HT1 : Hid (RT.all (·.oneCell') = true) := Lib.hid (by rw [← hRT]; exact u32s_one _)
          have HRTz : Hid (RS.size = RT.size) := Lib.hid (by rw [hRz, hTz])
          obtain ⟨i0, hi0⟩ : ∃ i0, 64 * k = i0 := ⟨_, rfl⟩
          rw [hi0] at hle HXA ⊢
          have HI0 := Lib.hid hi0
          have hi2000 : i0 ≤ 2000 := by omega
          clear hS hRS hb hgr hRz hX hXl hXat hnx hblk hT hRT hTz hi0 hXB
          go_wp2
          obtain ⟨pb, hpb⟩ : ∃ pb, wr.heap.size = pb := ⟨_, rfl⟩
          have HGP : Hid (g < pb) := Lib.hid (by rw [← hpb]; exact lt_of_heap HGR.out)
          have HWP : Hid (w.heap.size ≤ pb) := Lib.hid (by rw [← hpb]; exact HBR.out.size)
          have HSt1 : Hid (Below w.heap.size w (wr.alloc (.cells (u8s (List.replicate 64 0)) 125))) := Lib.hid (HBR.out.alloc HBR.out.size _)
          have HSt2 : Hid ((wr.alloc (.cells (u8s (List.replicate 64 0)) 125)).heap[g]? = some (.cells RS 123 (0, 0))) := Lib.hid (heap_old_at _ HGR.out)
          have HSt3 : Hid ((wr.alloc (.cells (u8s (List.replicate 64 0)) 125)).heap[pb]? = some (.cells (u8s (Sha.copyR X 0)) 125 (0, 0))) := Lib.hid (heap_new_at _ _ _ hpb.symm)
          rw [hpb]
          clear hpb
          go_loopw [11] (fun i wr => ∃ j : Nat, j ≤ 64 ∧ i = .int .i64 j ∧ Below w.heap.size w wr ∧ wr.heap[g]? = some (.cells RS 123 (0, 0)) ∧ wr.heap[pb]? = some (.cells (u8s (Sha.copyR X j)) 125 (0, 0))) (fun i _ => 64 - (intOf i).toNat)
          case atStart => exact ⟨0, by omega, rfl, HSt1.out, HSt2.out, HSt3.out⟩
          case round =>
            clear HSt1 HSt2 HSt3 HBR HGR
            obtain ⟨j, hj, rfl, hb, hgr, hpr⟩ := hrel
            obtain ⟨F, hF⟩ : ∃ F, Sha.copyR X j = F := ⟨_, rfl⟩
            have hFl : F.length = 64 := by rw [← hF, Sha.copyR_length]
            rw [hF] at hpr
            have HF := Lib.hid hF
            have HBR := Lib.hid hb
            have HGR := Lib.hid hgr
            have HPR := Lib.hid hpr
            by_cases hj64 : j < 64
            · have hjI : (j : Int) < 64 := by omega
              have co : wr.cell? ⟨pb, j, none⟩ = some (.int .u8 ((F.getD j 0).toNat : Int)) := (cell_of_row wr _ j _ _ _ hpr).trans (u8s_at F j (by omega))
              obtain ⟨old, hold⟩ : ∃ o, ((F.getD j 0).toNat : Int) = o := ⟨_, rfl⟩
              rw [hold] at co
              have fo := frozen_of_row wr _ j _ _ hpr
              have hin : i0 + j < ALL.length := by omega
              have hat := HXA.out j hj64
              have hnn : Sha.copyR X (j + 1) = F.set j (X.getD j 0) := by rw [← hF]; rfl
              obtain ⟨c, hc⟩ : ∃ c, X.getD j 0 = c := ⟨_, rfl⟩
              rw [hc] at hat hnn
              have hix : ∀ h, (⟨ALL.toArray⟩ : ByteArray)[i0 + j]'h = c := fun h => by
                rw [← hat]
                simp [hin]
                rfl
              have e0 : ((i0 : Int) + (j : Int)).toNat = i0 + j := by omega
              have hinI : (i0 : Int) + (j : Int) < (ALL.length : Int) := by omega
              have HNN := Lib.hid hnn
              clear hb hgr hpr hF hFl hold hat hnn hc
              go_wp2
              go_roundw
              case rel =>
                have hgp := HGP.out
                refine ⟨j + 1, by omega, by go_num, HBR.out.setCell HWP.out _, (Below.heap_setCell _ _ _ _ (by dsimp only; omega)).trans HGR.out, ?_⟩
                rw [HNN.out, ← u8s_set]
                exact heap_setCell_same _ _ _ _ _ _ HPR.out
              case measure => simp [intOf]; omega
            · obtain rfl : j = 64 := by omega
              have hno64 : ¬ ((64 : Nat) : Int) < 64 := by omega
              have HXF : Hid (u8s F = XB) := Lib.hid (by rw [← HF.out, Sha.copyR_all X HXL.out, HXB.out])
              rw [HXF.out] at HPR
              have HXI : Hid ((Tryz.prog.info? 125).map (·.size) = some XB.size) := Lib.hid (by rw [← HXB.out, u8s_size, HXL.out]; exact info64y)
              clear hj64 hj hb hgr hpr hF hFl
              go_wp2_with (first | (refine wpList_load_row (by rfl) _ _ (by rfl) g (by rfl) _ RS _ _ HGR.out Tryz.underlying123 (by rfl) HRI.out ?_) | (refine wpList_load_row (by rfl) _ _ (by rfl) pb (by rfl) _ XB _ _ HPR.out Tryz.underlying125 (by rfl) HXI.out ?_))
              refine (HBLK.out _).mono ?_
              rintro e w6 ⟨rfl, hb6⟩
              have HG6 := Lib.hid ((hb6.block g (lt_of_heap HGR.out)).trans HGR.out)
              have HB6 := Lib.hid (HBR.out.trans (hb6.mono HBR.out.size))
              clear hb6
              go_wp2_with (refine wpList_store_row (by rfl) _ _ _ (by rfl) g RT (by rfl) (by rfl) _ _ HG6.out HTI.out HRTz.out HT1.out ?_)
              go_roundw
              case rel => exact ⟨k + 1, by omega, by rw [← HI0.out]; go_num, below_setRow HB6.out HGW.out _, by rw [HNX.out, HRT.out]; exact setRow_heap _ _ _ _ _ _ HG6.out⟩
              case measure => have := HQ.out; have := HI0.out; simp [intOf]; omega
        · obtain rfl : k = Q := by omega
          have hno : ¬ (((64 * k : Nat) : Int) + 64 ≤ (ALL.length : Int)) := by have := HQ.out; omega
          have HTO := Lib.hid (rtold_any S wr)
          rw [hRS] at HTO
          have HFI : Hid (Sha.sumP s = Sha.joinP S) := Lib.hid (by
            rw [HT.out, ← HALL.out, ← HS.out]
            unfold Sha.wordsP
            rw [HQ.out, Nat.mul_div_cancel_left _ (by omega)])
          obtain ⟨i0, hi0⟩ : ∃ i0, 64 * k = i0 := ⟨_, rfl⟩
          rw [hi0] at hno ⊢
          have hi2000 : i0 ≤ 2000 := by omega
          clear hS hRS hb hgr hRz hlt hk hi0
          go_wp2_with (refine wpList_load_row (by rfl) _ _ (by rfl) g (by rfl) _ RS _ _ HGR.out Tryz.underlying123 (by rfl) HRI.out ?_)
          refine HTO.out.mono ?_
          rintro e w6 ⟨rfl, hb6⟩
          go_wp2
          go_ret
          exact ⟨by rw [HFI.out]; rfl, HBR.out.trans (hb6.mono HBR.out.size)⟩
end Go.Proofs.YtbkanebkobjnnaaGreatDoor
namespace Go.Proofs.YtbkanebkobjnnaaGreatDoor
open Go.RowKit

set_option maxRecDepth 8000 in
theorem rTagged_any (t : Int) (s : List UInt8) (w : World) (hs : s.length ≤ 999) :
    Calls Tryz.prog 51 #[.int .i64 t, .string ⟨s.toArray⟩] w fun e w' => e = .returned (.string ⟨(Sha.sumP (Sha.byteOf t :: s)).toArray⟩) ∧ Below w.heap.size w w' := by
  have HS := Lib.hid (fun w => rsum_any (Sha.byteOf t :: s) w (by simp; omega))
  obtain ⟨R, hR⟩ : ∃ R, Sha.sumP (Sha.byteOf t :: s) = R := ⟨_, rfl⟩
  rw [hR] at HS ⊢
  have hcm := cat_mk [Sha.byteOf t] s
  have kc := fun w => conv_tag w t
  rw [List.singleton_append] at hcm
  clear hR
  go_enter Tryz.func51, Tryz.ntmps51
  go_wp2_with fail
  have hB1 : Below w.heap.size w (w.alloc (.cells #[.int .u8 (t % 256)] 5)) := (Below.refl _ w).alloc (Nat.le_refl _) _
  refine (HS.out _).mono ?_
  rintro e w2 ⟨rfl, hb2⟩
  go_wp2
  go_ret
  exact ⟨rfl, bchain hB1 hb2⟩

end Go.Proofs.YtbkanebkobjnnaaGreatDoor
namespace Go.Proofs.YtbkanebkobjnnaaGreatDoor
open Go.RowKit
open Go.Proofs.YtbkanebkobjnnaaGreatDoor.Nd (N)

def Nd.sumS (n : N) : List UInt8 := if Nd.fine n then Dig.sum 1 (Nd.written n) else []
set_option maxRecDepth 100000 in
set_option maxHeartbeats 1000000 in
theorem ndigest_any (n : N) (w : World) (hn : n.kids.length = 16) (hT : Tab w) :
    Calls Tryz.prog 55 #[ndval n] w fun e w' => e = .returned (.string ⟨(Nd.sumS n).toArray⟩) ∧ Below w.heap.size w w' := by
  obtain ⟨C, hC, HB0, HCE, HI, HI2⟩ := nbox n w hn
  have HE := Lib.hid (fun w => nencode_any n w hn)
  have HTW := Lib.hid (fun w' (h : Below w.heap.size w w') => hT.below h)
  unfold Nd.sumS
  unfold Nd.encS Nd.encC ndval at HE
  unfold ndval
  rw [hC] at HE ⊢
  obtain ⟨-, -, -, -, -, cR⟩ := HCE.out _ (Below.refl _ _)
  have HRO := Lib.hid cR
  clear hC cR hT
  cases hf : Nd.fine n with
  | false =>
    rw [hf] at HE
    rw [if_neg (by decide)]
    rw [if_neg (by decide), if_neg (by decide)] at HE
    clear hf
    go_enter Tryz.func55, Tryz.ntmps55
    go_wp2_with (refine wpList_load_row (by rfl) _ _ (by rfl) w.heap.size (by rfl) _ C _ _ HRO.out Tryz.underlying73 (by rfl) HI.out ?_)
    refine (HE.out _).mono ?_
    rintro e w1 ⟨rfl, hb1⟩
    go_wp2
    go_ret
    exact ⟨rfl, bchain HB0.out hb1⟩
  | true =>
    have hl := Nd.written_most n hn hf
    rw [hf] at HE
    rw [if_pos rfl]
    rw [if_pos rfl, if_pos rfl] at HE
    obtain ⟨T, hT⟩ : ∃ T, Nd.written n = T := ⟨_, rfl⟩
    rw [hT] at HE hl ⊢
    have HL := Lib.hid hl
    obtain ⟨S, hS⟩ : ∃ S, Dig.sum 1 T = S := ⟨_, rfl⟩
    have HSU : Hid (∀ w', Tab w' → Calls Tryz.prog 72 #[.int .i64 1, .string ⟨T.toArray⟩] w' fun e w'' => e = .returned (.tuple #[.string ⟨S.toArray⟩, .int .i64 0]) ∧ Below w'.heap.size w' w'') := Lib.hid (fun w' h => by
      have := dsum_any 1 T w' h (by omega)
      rw [hS, show Dig.sumC 1 = 0 from by decide] at this
      exact this)
    rw [hS]
    clear hf hT hl hS
    go_enter Tryz.func55, Tryz.ntmps55
    go_wp2_with (refine wpList_load_row (by rfl) _ _ (by rfl) w.heap.size (by rfl) _ C _ _ HRO.out Tryz.underlying73 (by rfl) HI.out ?_)
    refine (HE.out _).mono ?_
    rintro e w1 ⟨rfl, hb1⟩
    have HB1 := Lib.hid (bchain HB0.out hb1)
    clear hb1
    go_wp2_with fail
    refine (HSU.out _ (HTW.out _ HB1.out)).mono ?_
    rintro e w2 ⟨rfl, hb2⟩
    go_wp2
    go_ret
    exact ⟨rfl, bchain HB1.out hb2⟩

set_option maxRecDepth 100000 in
set_option maxHeartbeats 1000000 in
theorem rndigest_any (n : N) (w : World) (hn : n.kids.length = 16) (hp : n.path.length ≤ 1000000) :
    Calls Tryz.prog 84 #[ndval n] w fun e w' => e = .returned (.string ⟨(Nd.sumS n).toArray⟩) ∧ Below w.heap.size w w' := by
  obtain ⟨C, hC, HB0, HCE, HI, HI2⟩ := nbox n w hn
  have HF := Lib.hid (fun w => rFine_any n w hn hp)
  have HW := Lib.hid (fun w h => rWritten_any n w hn h)
  unfold Nd.sumS
  unfold ndval at HF HW ⊢
  rw [hC] at HF HW ⊢
  have HRR : Hid (∀ w', Below (w.alloc (.cells C 73)).heap.size (w.alloc (.cells C 73)) w' → w'.heap[w.heap.size]? = some (.cells C 73 (0, 0))) := Lib.hid (fun w' h => (HCE.out w' h).2.2.2.2.2)
  have HRO := Lib.hid (HRR.out _ (Below.refl _ _))
  clear hC
  cases hf : Nd.fine n with
  | false =>
    rw [hf] at HF
    rw [if_neg (by decide)]
    clear hf
    go_enter Tryz.func84, Tryz.ntmps84
    go_wp2_with (refine wpList_load_row (by rfl) _ _ (by rfl) w.heap.size (by rfl) _ C _ _ HRO.out Tryz.underlying73 (by rfl) HI.out ?_)
    refine (HF.out _).mono ?_
    rintro e w1 ⟨rfl, hb1⟩
    go_wp2
    go_ret
    exact ⟨rfl, bchain HB0.out hb1⟩
  | true =>
    have HWW := Lib.hid (fun w => HW.out w hf)
    have hl := Nd.written_most n hn hf
    rw [hf] at HF
    rw [if_pos rfl]
    obtain ⟨T, hT⟩ : ∃ T, Nd.written n = T := ⟨_, rfl⟩
    rw [hT] at HWW hl ⊢
    obtain ⟨S, hS⟩ : ∃ S, Dig.sum 1 T = S := ⟨_, rfl⟩
    have HTG : Hid (∀ w', Calls Tryz.prog 51 #[.int .i64 1, .string ⟨T.toArray⟩] w' fun e w'' => e = .returned (.string ⟨S.toArray⟩) ∧ Below w'.heap.size w' w'') := Lib.hid (fun w' => by
      have := rTagged_any 1 T w' (by omega)
      rw [← hS]
      exact this)
    rw [hS]
    clear hf hT hl hS
    go_enter Tryz.func84, Tryz.ntmps84
    go_wp2_with (refine wpList_load_row (by rfl) _ _ (by rfl) w.heap.size (by rfl) _ C _ _ HRO.out Tryz.underlying73 (by rfl) HI.out ?_)
    refine (HF.out _).mono ?_
    rintro e w1 ⟨rfl, hb1⟩
    have HR1 := Lib.hid (HRR.out _ hb1)
    have HB1 := Lib.hid (bchain HB0.out hb1)
    clear hb1
    go_wp2_with (refine wpList_load_row (by rfl) _ _ (by rfl) w.heap.size (by rfl) _ C _ _ HR1.out Tryz.underlying73 (by rfl) HI.out ?_)
    refine (HWW.out _).mono ?_
    rintro e w2 ⟨rfl, hb2⟩
    have HB2 := Lib.hid (bchain HB1.out hb2)
    clear hb2
    go_wp2_with fail
    refine (HTG.out _).mono ?_
    rintro e w3 ⟨rfl, hb3⟩
    go_wp2
    go_ret
    exact ⟨rfl, bchain HB2.out hb3⟩
end Go.Proofs.YtbkanebkobjnnaaGreatDoor
namespace Go.Proofs.YtbkanebkobjnnaaGreatDoor
open Go

theorem cnt_set : ∀ (L : List Bool) (i : Nat), L[i]? = some false → (L.set i true).count false + 1 = L.count false
  | [], i, h => by simp at h
  | b :: L, 0, h => by
    simp at h
    subst h
    simp
  | b :: L, i + 1, h => by
    have := cnt_set L i (by simpa using h)
    simp only [List.set_cons_succ, List.count_cons]
    omega
theorem ready_false {md : Region.Mode} {ops : Array Oper} {L : List Bool} {i : Nat} (h : i ∈ Region.ready md ops L.toArray) : L[i]? = some false := by
  have h2 := (List.mem_filter.1 h).2
  rw [Bool.and_eq_true] at h2
  have h3 := h2.1
  have e : L.toArray.getD i true = L[i]?.getD true := by simp [Array.getD_eq_getD_getElem?]
  rw [e] at h3
  cases hx : L[i]? with
  | none => rw [hx] at h3; simp at h3
  | some b => rw [hx] at h3; cases b <;> simp_all
theorem ready_lt {md : Region.Mode} {ops : Array Oper} {L : List Bool} {i : Nat} (h : i ∈ Region.ready md ops L.toArray) : i < ops.size := by
  have h2 := (List.mem_filter.1 h).1
  simpa using h2
theorem any_inv {P : Program} {md : Region.Mode} {l : List Oper} {Q : Exit → Act → World → Prop} {I : List Bool → Act → World → Prop}
    (hstep : ∀ L a w, L.length = l.length → I L a w → ∀ i o, l[i]? = some o → i ∈ Region.ready md l.toArray L.toArray → ∀ K : Act → World → Prop, (∀ a w, I (L.set i true) a w → K a w) → if Region.wanted o (yielded l.toArray a.tmps) = true then Oper.wp P o a w K Q else K (a.put o.dst undef) w)
    (hend : ∀ L a w, L.length = l.length → Region.ready md l.toArray L.toArray = [] → I L a w → Q .normal a w) :
    ∀ (fuel : Nat) (L : List Bool) (a : Act) (w : World), L.length = l.length → L.count false ≤ fuel → I L a w → wpAny P md l.toArray Q fuel L.toArray a w
  | 0, L, a, w, hl, hc, hI => by
    have hr : Region.ready md l.toArray L.toArray = [] := by
      cases hr : Region.ready md l.toArray L.toArray with
      | nil => rfl
      | cons i is =>
        have := ready_false (md := md) (ops := l.toArray) (L := L) (i := i) (by rw [hr]; simp)
        have := cnt_set L i this
        omega
    exact ⟨hr, hend L a w hl hr hI⟩
  | fuel + 1, L, a, w, hl, hc, hI => by
    refine ⟨fun hr => hend L a w hl hr hI, fun i hi => ?_⟩
    have hf := ready_false hi
    have hlt : i < l.length := by simpa using ready_lt hi
    have hs := cnt_set L i hf
    refine wpOp_step (o := l[i]) (by simp [hlt]) (fun K hK => ?_)
    refine hstep L a w hl hI i l[i] (by simp [hlt]) hi K (fun a' w' h => hK a' w' ?_)
    have e : L.toArray.setIfInBounds i true = (L.set i true).toArray := by simp
    rw [e]
    exact any_inv hstep hend fuel (L.set i true) a' w' (by simpa using hl) (by omega) h
theorem region_inv {P : Program} {id : Nat} {l : List Oper} {Q : Exit → Act → World → Prop} {a : Act} {w : World} (I : List Bool → Act → World → Prop) (hm : P.follows .mixedOrders = true)
    (h0 : I (List.replicate l.length false) a w.drew)
    (hstep : ∀ L a w, L.length = l.length → I L a w → ∀ i o, l[i]? = some o → i ∈ Region.ready .any l.toArray L.toArray → ∀ K : Act → World → Prop, (∀ a w, I (L.set i true) a w → K a w) → if Region.wanted o (yielded l.toArray a.tmps) = true then Oper.wp P o a w K Q else K (a.put o.dst undef) w)
    (hend : ∀ L a w, L.length = l.length → Region.ready .any l.toArray L.toArray = [] → I L a w → Q .normal a w) :
    (Code.region id l.toArray true).wp P Q a w := by
  refine wp_region_any hm ?_
  have e : Array.replicate l.toArray.size false = (List.replicate l.length false).toArray := by simp
  rw [e]
  exact any_inv hstep hend _ _ _ _ (by simp) (by simp) h0
end Go.Proofs.YtbkanebkobjnnaaGreatDoor
namespace Go.Proofs.YtbkanebkobjnnaaGreatDoor
open Go.RowKit
open Sto (T)
open Go.Proofs.YtbkanebkobjnnaaGreatDoor.Nd (N)

def spLoad (v : Value) : Sem Value := Instr.loadAt 73 v
theorem spLoadAt (v : Value) : Instr.loadAt 73 v = spLoad v := rfl
def spBuild (p : Array (Nat × Value)) : Sem Value := Instr.build 75 p
theorem spBuildAt (p : Array (Nat × Value)) : Instr.build 75 p = spBuild p := rfl
def spSlice (p : Array (Nat × Value)) : Sem Value := Instr.buildSlice 34 1 p
theorem spSliceAt (p : Array (Nat × Value)) : Instr.buildSlice 34 1 p = spSlice p := rfl
def spApp (t : TypeId) (p : Array Value) : Sem Value := Builtin.append_ #[34, 34] t p
theorem spAppAt (t : TypeId) (p : Array Value) : Builtin.append_ #[34, 34] t p = spApp t p := rfl
attribute [local go_sem ↓] spLoadAt spBuildAt spSliceAt spAppAt
theorem run_spLoad {w : World} {g : Nat} {A : Array Value} (hg : w.heap[g]? = some (.cells A 73 (0, 0))) (hi : (Tryz.prog.info? 73).map (·.size) = some A.size) : (spLoad (.pointer (some ⟨g, 0, none⟩))).run Tryz.prog w = .ok (.agg A) w := by
  unfold spLoad
  simp only [Instr.loadAt, Instr.sureAddr, Sem.run_bind, Sem.run_pure, Result.andThen_ok, run_loadVar_row w g 73 73 A (0, 0) _ hg Tryz.underlying73 (by rfl) hi]
set_option maxRecDepth 100000 in
theorem Tryz.infoSpot : (Tryz.prog.info? 75).map (fun i => (i.zero, i.size, i.bytes)) = some (some (.agg (#[.string ⟨#[]⟩, .string ⟨#[]⟩, .string ⟨#[]⟩, .int .i64 0] ++ Array.replicate 18 (.string ⟨#[]⟩))), 22, 344) := by kernel_rfl
/-- A row of the call's own that has these nodes, each at its place. -/
def OwnSp (w : World) (B : Nat) (z : Value) (L : List (T × N)) : Prop := w.ownsRow B 75 22 z L.length (rowsL (spcl Nd.sumS) L)
theorem OwnSp.nil (w : World) (B : Nat) : OwnSp w B (.slice none 0 0) [] := ⟨rfl, Or.inl ⟨rfl, rfl⟩⟩
theorem OwnSp.below {w w' : World} {B : Nat} {s : Value} {L : List (T × N)} (h : OwnSp w B s L) (hb : Below w.heap.size w w') : OwnSp w' B s L :=
  row_out (G := fun _ => False) h (Out.of hb) (fun _ _ _ _ hf => hf.elim)
theorem OwnSp.at_ {w : World} {B : Nat} {s : Value} {L : List (T × N)} (h : OwnSp w B s L) : SpAt Nd.sumS w s L := RowsAt.own (spcl_length _) h
theorem own_lowP {w : World} {B C : Nat} {s : Value} {L : List (T × N)} (h : OwnSp w B s L) (hB : C ≤ B) : OwnSp w C s L := by
  obtain ⟨h1, h2⟩ := h
  refine ⟨h1, h2.imp id ?_⟩
  rintro ⟨g, cap, cur, e, hg, r⟩
  exact ⟨g, cap, cur, e, Nat.le_trans hB hg, r⟩
theorem append_spots {w : World} {v s : Value} {S O : List (T × N)} {B : Nat} (hv : SpAt Nd.sumS w v S) (hs : OwnSp w B s O) (hl : O.length + S.length ≤ 1000000) (hB : B ≤ w.heap.size) :
    ∃ v' w', (spApp 34 #[s, v]).run Tryz.prog w = .ok v' w' ∧ OwnSp w' B v' (O ++ S) ∧ Below B w w' := by
  obtain ⟨i0, hi, hz0, hz1, hz2⟩ := info_parts Tryz.infoSpot
  obtain ⟨v', w', h1, h2, h3, _⟩ := append_rows 34 75 i0 _ 344 Tryz.underlying34 Tryz.sizeOf75 hi hz0 hz1 hz2 rfl (by decide) (by decide) (spcl_length _) (spcl_one _) hv hs hl hB
  refine ⟨v', w', h1, by unfold OwnSp; rw [rowsL_append, List.length_append]; exact h2, (Out.grown h3 (F := fun j => s.ownBlock = some j) (fun j e => e)).below (fun j hj => (World.ownsRow.lt hs j hj).1) hB⟩
set_option maxRecDepth 100000 in
theorem build_spot (place : T) (n : N) (hn : n.kids.length = 16) (w : World) : (Instr.build 75 #[(0, .string ⟨place.toArray⟩), (1, .string ⟨(Nd.written n).toArray⟩), (2, .string ⟨(Nd.sumS n).toArray⟩), (3, .agg (ncl n).toArray)]).run Tryz.prog w = .ok (.agg (spcl Nd.sumS (place, n)).toArray) w := by
  rw [spcl, if_pos hn]
  obtain ⟨a, ha⟩ : ∃ a, Nd.written n = a := ⟨_, rfl⟩
  obtain ⟨b, hb⟩ : ∃ b, Nd.sumS n = b := ⟨_, rfl⟩
  dsimp only
  rw [ha, hb]
  clear ha hb
  obtain ⟨kind, path, val, kids⟩ := n
  match kids, hn with
  | [k0, k1, k2, k3, k4, k5, k6, k7, k8, k9, k10, k11, k12, k13, k14, k15], _ => exact run_build w _ _ _ (by kernel_rfl)
set_option maxRecDepth 100000 in
theorem slice_spot (place : T) (n : N) (hn : n.kids.length = 16) (w : World) : (Instr.buildSlice 34 1 #[(0, .agg (spcl Nd.sumS (place, n)).toArray)]).run Tryz.prog w = .ok (.slice (some ⟨w.heap.size, 0, none⟩) 1 1) (w.alloc (.cells (spcl Nd.sumS (place, n)).toArray 75)) := by
  obtain ⟨i0, hi, hz0, hz1, hz2⟩ := info_parts Tryz.infoSpot
  rw [spcl, if_pos hn]
  obtain ⟨a, ha⟩ : ∃ a, Nd.written n = a := ⟨_, rfl⟩
  obtain ⟨b, hb⟩ : ∃ b, Nd.sumS n = b := ⟨_, rfl⟩
  dsimp only
  rw [ha, hb]
  clear ha hb hz2
  obtain ⟨kind, path, val, kids⟩ := n
  match kids, hn with
  | [k0, k1, k2, k3, k4, k5, k6, k7, k8, k9, k10, k11, k12, k13, k14, k15], _ => exact run_buildSlice w _ _ 1 _ _ i0 _ Tryz.underlying34 hi hz0 (by rw [hz1]; decide) (by rw [hz1]; decide) (by rw [hz1]; kernel_rfl)
theorem own_spot (w : World) (x : T × N) : OwnSp (w.alloc (.cells (spcl Nd.sumS x).toArray 75)) w.heap.size (.slice (some ⟨w.heap.size, 0, none⟩) 1 1) [x] := by
  have hl := spcl_length Nd.sumS x
  refine ⟨by simp [rowsL, hl], Or.inr ⟨w.heap.size, 1, (spcl Nd.sumS x).toArray, rfl, Nat.le_refl _, heap_alloc_new w _, Nat.le_refl _, by unfold maxLen; omega, by simp [hl], by simp [rowsL, List.take_of_length_le (Nat.le_of_eq hl)]⟩⟩
/-- What holds in spot's region: M tells which of its operations have come up. -/
def SpI (place : T) (n : N) (C : Array Value) (bv : Value) (q : Nat) (w0 : World) (M : List Bool) (a : Act) (w : World) : Prop :=
  ∃ v7 v8 v9 v10 v11 v12 v13 v14 v15 v16 v17 : Value, a = ⟨#[.string ⟨place.toArray⟩, .agg C, bv, undef, .pointer (some ⟨q, 0, none⟩), undef, .slice none 0 0, v7, v8, v9, v10, v11, v12, v13, v14, v15, v16, v17, undef, undef, undef], []⟩ ∧
    Below w0.heap.size w0 w ∧
    (M[0]? = some true → v8 = .slice none 0 0) ∧ (M[1]? = some true → v9 = .string ⟨place.toArray⟩) ∧ (M[2]? = some true → v10 = .agg C) ∧ (M[3]? = some true → v11 = .string ⟨(Nd.written n).toArray⟩) ∧
    (M[4]? = some true → v12 = .agg C) ∧ (M[5]? = some true → v13 = .string ⟨(Nd.sumS n).toArray⟩) ∧ (M[6]? = some true → v14 = .agg C) ∧
    (M[7]? = some true → v15 = .agg (spcl Nd.sumS (place, n)).toArray) ∧ (M[8]? = some true → SpAt Nd.sumS w v16 [(place, n)]) ∧ (M[9]? = some true → OwnSp w w0.heap.size v17 [(place, n)]) ∧
    Hid (v7 = (if M[10]? = some true then v17 else .slice none 0 0)) ∧ (M[10]? = some true → M[0]? = some true ∧ M[9]? = some true)
set_option maxRecDepth 100000 in
set_option maxHeartbeats 2000000 in
theorem spot_any (place : T) (n : N) (bv : Value) (L : List (T × N)) (w : World) (hn : n.kids.length = 16) (hf : Nd.fine n = true) (hp : n.path.length ≤ 1000000) (hv : SpAt Nd.sumS w bv L) (hl : L.length ≤ 100000) :
    Calls Tryz.prog 59 #[.string ⟨place.toArray⟩, ndval n, bv] w fun e w' => ∃ s, e = .returned s ∧ OwnSp w' w.heap.size s ((place, n) :: L) ∧ Below w.heap.size w w' := by
  obtain ⟨C, hC, HB0, HCE, HI, -⟩ := nbox n w hn
  have HWR := Lib.hid (fun w' => rWritten_any n w' hn hf)
  have HDG := Lib.hid (fun w' => rndigest_any n w' hn hp)
  have HV := Lib.hid hv
  have HL := Lib.hid hl
  have HN := Lib.hid hn
  have HCC := Lib.hid hC
  unfold ndval at HWR HDG ⊢
  rw [hC] at HWR HDG ⊢
  clear hv hl hn hf hp hC
  go_enter Tryz.func59, Tryz.ntmps59
  go_upto_region 2 with fail
  obtain ⟨w0, hw0⟩ : ∃ w0, w.alloc (.cells C 73) = w0 := ⟨_, rfl⟩
  rw [hw0] at HB0 HCE ⊢
  obtain ⟨q, hq⟩ : ∃ q, w.heap.size = q := ⟨_, rfl⟩
  rw [hq] at HCE ⊢
  have HRL : Hid (∀ w', Below w0.heap.size w0 w' → (spLoad (.pointer (some ⟨q, 0, none⟩))).run Tryz.prog w' = .ok (.agg C) w') := Lib.hid (fun w' hb => run_spLoad (HCE.out w' hb).2.2.2.2.2 HI.out)
  have HBS : Hid (∀ w', (spBuild #[(0, .string ⟨place.toArray⟩), (1, .string ⟨(Nd.written n).toArray⟩), (2, .string ⟨(Nd.sumS n).toArray⟩), (3, .agg C)]).run Tryz.prog w' = .ok (.agg (spcl Nd.sumS (place, n)).toArray) w') := Lib.hid (fun w' => by rw [← HCC.out]; exact build_spot place n HN.out w')
  have HSL : Hid (∀ w' : World, (spSlice #[(0, .agg (spcl Nd.sumS (place, n)).toArray)]).run Tryz.prog w' = .ok (.slice (some ⟨w'.heap.size, 0, none⟩) 1 1) (w'.alloc (.cells (spcl Nd.sumS (place, n)).toArray 75))) := Lib.hid (fun w' => slice_spot place n HN.out w')
  have HSN : Hid (∀ w' : World, SpAt Nd.sumS (w'.alloc (.cells (spcl Nd.sumS (place, n)).toArray 75)) (.slice (some ⟨w'.heap.size, 0, none⟩) 1 1) [(place, n)]) := Lib.hid (fun w' => (own_spot w' (place, n)).at_)
  clear hw0
  refine region_inv (SpI place n C bv q w0) (by rfl) ?_ ?_ ?_
  · refine ⟨_, _, _, _, _, _, _, _, _, _, _, rfl, (Below.refl _ _).drew, ?_, ?_, ?_, ?_, ?_, ?_, ?_, ?_, ?_, ?_, ?_, ?_⟩ <;> first | exact Lib.hid rfl | (intro h; simp at h)
  · intro M a w1 hL hI i o ho hi K hK
    obtain ⟨v7, v8, v9, v10, v11, v12, v13, v14, v15, v16, v17, rfl, hB, h0, h1, h2, h3, h4, h5, h6, h7, h8, h9, h7v, h10⟩ := hI
    obtain ⟨b0, b1, b2, b3, b4, b5, b6, b7, b8, b9, b10, rfl⟩ : ∃ b0 b1 b2 b3 b4 b5 b6 b7 b8 b9 b10, M = [b0, b1, b2, b3, b4, b5, b6, b7, b8, b9, b10] := by
      match M, hL with
      | [b0, b1, b2, b3, b4, b5, b6, b7, b8, b9, b10], _ => exact ⟨b0, b1, b2, b3, b4, b5, b6, b7, b8, b9, b10, rfl⟩
    have hi2 := (List.mem_filter.1 hi).2
    clear hi hL
    rcases i with _ | _ | _ | _ | _ | _ | _ | _ | _ | _ | _ | i
    · obtain rfl := Option.some.inj ho
      simp [Region.binds] at hi2
      have hb10 : b10 = false := by
        cases b10 with
        | false => rfl
        | true => have := h10 rfl; simp [hi2] at this
      subst hb10
      have h7w : v7 = .slice none 0 0 := h7v.out
      subst h7w
      clear ho hi2
      rw [if_pos (by rfl)]
      go_simp
      exact hK _ _ ⟨_, _, _, _, _, _, _, _, _, _, _, rfl, hB, fun _ => rfl, h1, h2, h3, h4, h5, h6, h7, h8, h9, Lib.hid rfl, fun hx => by simp at hx⟩
    · obtain rfl := Option.some.inj ho
      clear ho hi2
      rw [if_pos (by rfl)]
      go_simp
      exact hK _ _ ⟨_, _, _, _, _, _, _, _, _, _, _, rfl, hB, h0, fun _ => rfl, h2, h3, h4, h5, h6, h7, h8, h9, h7v, h10⟩
    · obtain rfl := Option.some.inj ho
      clear ho hi2
      have r1 := HRL.out _ hB
      rw [if_pos (by rfl)]
      go_simp
      exact hK _ _ ⟨_, _, _, _, _, _, _, _, _, _, _, rfl, hB, h0, h1, fun _ => rfl, h3, h4, h5, h6, h7, h8, h9, h7v, h10⟩
    · obtain rfl := Option.some.inj ho
      simp [Region.binds] at hi2
      obtain rfl := h2 (by simp [hi2])
      clear ho hi2
      rw [if_pos (by rfl)]
      go_simp
      refine (HWR.out _).mono ?_
      rintro r w2 ⟨rfl, hb2⟩
      exact hK _ _ ⟨_, _, _, _, _, _, _, _, _, _, _, rfl, bchain hB hb2, h0, h1, h2, fun _ => rfl, h4, h5, h6, h7, fun hx => RowsAt.below (h8 hx) hb2, fun hx => (h9 hx).below hb2, h7v, h10⟩
    · obtain rfl := Option.some.inj ho
      clear ho hi2
      have r1 := HRL.out _ hB
      rw [if_pos (by rfl)]
      go_simp
      exact hK _ _ ⟨_, _, _, _, _, _, _, _, _, _, _, rfl, hB, h0, h1, h2, h3, fun _ => rfl, h5, h6, h7, h8, h9, h7v, h10⟩
    · obtain rfl := Option.some.inj ho
      simp [Region.binds] at hi2
      obtain rfl := h4 (by simp [hi2])
      clear ho hi2
      rw [if_pos (by rfl)]
      go_simp
      refine (HDG.out _).mono ?_
      rintro r w2 ⟨rfl, hb2⟩
      exact hK _ _ ⟨_, _, _, _, _, _, _, _, _, _, _, rfl, bchain hB hb2, h0, h1, h2, h3, h4, fun _ => rfl, h6, h7, fun hx => RowsAt.below (h8 hx) hb2, fun hx => (h9 hx).below hb2, h7v, h10⟩
    · obtain rfl := Option.some.inj ho
      clear ho hi2
      have r1 := HRL.out _ hB
      rw [if_pos (by rfl)]
      go_simp
      exact hK _ _ ⟨_, _, _, _, _, _, _, _, _, _, _, rfl, hB, h0, h1, h2, h3, h4, h5, fun _ => rfl, h7, h8, h9, h7v, h10⟩
    · obtain rfl := Option.some.inj ho
      simp [Region.binds] at hi2
      obtain rfl := h1 (by simp [hi2])
      obtain rfl := h3 (by simp [hi2])
      obtain rfl := h5 (by simp [hi2])
      obtain rfl := h6 (by simp [hi2])
      clear ho hi2
      have r1 := HBS.out w1
      rw [if_pos (by rfl)]
      go_simp
      exact hK _ _ ⟨_, _, _, _, _, _, _, _, _, _, _, rfl, hB, h0, fun _ => rfl, h2, fun _ => rfl, h4, fun _ => rfl, fun _ => rfl, fun _ => rfl, h8, h9, h7v, h10⟩
    · obtain rfl := Option.some.inj ho
      simp [Region.binds] at hi2
      obtain rfl := h7 (by simp [hi2])
      clear ho hi2
      have r1 := HSL.out w1
      have hA : Below w1.heap.size w1 (w1.alloc (.cells (spcl Nd.sumS (place, n)).toArray 75)) := (Below.refl _ w1).alloc (Nat.le_refl _) _
      rw [if_pos (by rfl)]
      go_simp
      exact hK _ _ ⟨_, _, _, _, _, _, _, _, _, _, _, rfl, bchain hB hA, h0, h1, h2, h3, h4, h5, h6, fun _ => rfl, fun _ => HSN.out w1, fun hx => (h9 hx).below hA, h7v, h10⟩
    · obtain rfl := Option.some.inj ho
      simp [Region.binds] at hi2
      obtain rfl := h0 (by simp [hi2])
      obtain ⟨v', w3, r1, o3, hb3⟩ := append_spots (h8 (by simp [hi2])) (OwnSp.nil w1 w1.heap.size) (by simp) (Nat.le_refl _)
      have hb10 : b10 = false := by
        cases b10 with
        | false => rfl
        | true => have := h10 rfl; simp [hi2] at this
      subst hb10
      have h7w := h7v.out
      simp at h7w
      subst h7w
      have HO3 := Lib.hid (own_lowP o3 hB.size)
      have HB3 := Lib.hid hb3
      clear ho hi2 o3 hb3 h7v
      rw [if_pos (by rfl)]
      go_simp
      exact hK _ _ ⟨.slice none 0 0, _, _, _, _, _, _, _, _, _, _, rfl, bchain hB HB3.out, fun _ => rfl, h1, h2, h3, h4, h5, h6, h7, fun hx => RowsAt.below (h8 hx) HB3.out, fun _ => HO3.out, Lib.hid (by simp), fun hx => by simp at hx⟩
    · obtain rfl := Option.some.inj ho
      simp [Region.binds] at hi2
      have HI2 := Lib.hid hi2
      clear ho hi2
      rw [if_pos (by rfl)]
      go_simp
      exact hK _ _ ⟨_, _, _, _, _, _, _, _, _, _, _, rfl, hB, h0, h1, h2, h3, h4, h5, h6, h7, h8, h9, Lib.hid rfl, fun _ => by have := HI2.out; simp [this]⟩
    · simp at ho
  · intro M a w1 hL hr hI
    obtain ⟨v7, v8, v9, v10, v11, v12, v13, v14, v15, v16, v17, rfl, hB, h0, h1, h2, h3, h4, h5, h6, h7, h8, h9, h7v, h10⟩ := hI
    obtain ⟨b0, b1, b2, b3, b4, b5, b6, b7, b8, b9, b10, rfl⟩ : ∃ b0 b1 b2 b3 b4 b5 b6 b7 b8 b9 b10, M = [b0, b1, b2, b3, b4, b5, b6, b7, b8, b9, b10] := by
      match M, hL with
      | [b0, b1, b2, b3, b4, b5, b6, b7, b8, b9, b10], _ => exact ⟨b0, b1, b2, b3, b4, b5, b6, b7, b8, b9, b10, rfl⟩
    have hr2 := List.filter_eq_nil_iff.1 hr
    clear hr hL
    have k0 := hr2 0 (by simp)
    have k1 := hr2 1 (by simp)
    have k2 := hr2 2 (by simp)
    have k3 := hr2 3 (by simp)
    have k4 := hr2 4 (by simp)
    have k5 := hr2 5 (by simp)
    have k6 := hr2 6 (by simp)
    have k7 := hr2 7 (by simp)
    have k8 := hr2 8 (by simp)
    have k9 := hr2 9 (by simp)
    have k10 := hr2 10 (by simp)
    clear hr2
    simp [Region.binds] at k0
    subst k0
    simp [Region.binds] at k1
    subst k1
    simp [Region.binds] at k2
    subst k2
    simp [Region.binds] at k4
    subst k4
    simp [Region.binds] at k6
    subst k6
    simp [Region.binds] at k3
    subst k3
    simp [Region.binds] at k5
    subst k5
    simp [Region.binds] at k7
    subst k7
    simp [Region.binds] at k8
    subst k8
    simp [Region.binds] at k9
    subst k9
    simp [Region.binds] at k10
    subst k10
    have h7w : v7 = v17 := h7v.out
    subst h7w
    have HOS := Lib.hid (h9 rfl)
    have HBW := Lib.hid hB
    clear h0 h1 h2 h3 h4 h5 h6 h7 h8 h9 h7v h10 hB
    obtain ⟨s2, w3, r2, o3, hb3⟩ := append_spots (RowsAt.below HV.out (bchain HB0.out HBW.out)) HOS.out (by have := HL.out; simp; omega) HBW.out.size
    have HO3 := Lib.hid (own_lowP o3 HB0.out.size)
    have HB3 := Lib.hid (bchain HB0.out (HBW.out.trans hb3))
    clear o3 hb3
    have HQ := Lib.hid hq
    clear hq
    go_wp2
    go_ret
    exact ⟨_, rfl, HO3.out, HB3.out⟩
end Go.Proofs.YtbkanebkobjnnaaGreatDoor
namespace Go.Proofs.YtbkanebkobjnnaaGreatDoor.Tri
open Sto (T St Rising keys)
open Go.Proofs.YtbkanebkobjnnaaGreatDoor.Nd (N)

theorem pair_sub : ∀ i j : Fin 16, i < j → [i, j].Sublist (List.finRange 16) := by decide +kernel
theorem one_sub : ∀ i : Fin 16, [i].Sublist (List.finRange 16) := by decide +kernel
theorem spots_len (dg : N → T) {t : Tr} (h : t.canon) (hn : ¬ t.isNil) (p : T) : (t.spots dg p).length + 2 ≤ 3 * t.items.length ∧ (t.isBr → (t.spots dg p).length + 3 ≤ 3 * t.items.length) := by
  induction t generalizing p with
  | nil => exact absurd trivial hn
  | leaf q v => exact ⟨by simp [Tr.spots, Tr.items], fun h => h.elim⟩
  | ext q t ih =>
    have n1 : ¬ t.isNil := by have := h.2.1; cases t <;> simp_all [Tr.isBr, Tr.isNil]
    have := (ih h.2.2 n1 (p ++ q)).2 h.2.1
    refine ⟨?_, fun h => h.elim⟩
    rw [Tr.spots, Tr.items, behind, List.length_map, List.length_cons]
    omega
  | br v k ih =>
    have all : ∀ l : List (Fin 16), (l.flatMap fun i => (k i).spots dg (p ++ [hb i])).length + 2 * l.countP (fun i => !(k i).nilB) ≤ 3 * (l.flatMap fun i => behind [hb i] (k i).items).length := by
      intro l
      induction l with
      | nil => simp
      | cons i l ihl =>
        rw [List.flatMap_cons, List.flatMap_cons, List.length_append, List.length_append, List.countP_cons]
        have hb1 : (behind [hb i] (k i).items).length = (k i).items.length := by rw [behind, List.length_map]
        by_cases e : (k i).isNil
        · have e2 := (nilB_iff _).2 e
          have e3 : (k i).spots dg (p ++ [hb i]) = [] := by cases hk : k i with
            | nil => rfl
            | _ => rw [hk] at e; exact e.elim
          rw [e3, e2]
          simp only [Bool.not_true, Bool.false_eq_true, if_false, List.length_nil]
          omega
        · have e2 : (k i).nilB = false := by cases hk : (k i).nilB with
            | false => rfl
            | true => exact absurd ((nilB_iff _).1 hk) e
          have := (ih i (h.1 i) e (p ++ [hb i])).1
          rw [e2, hb1]
          simp only [Bool.not_false, if_true]
          omega
    have h1 := all (List.finRange 16)
    have h2 : 4 ≤ 3 * (own v).length + 2 * (List.finRange 16).countP (fun i => !(k i).nilB) := by
      have ne : ∀ i, ¬ (k i).isNil → (!(k i).nilB) = true := fun i hi => by
        cases hk : (k i).nilB with
        | false => rfl
        | true => exact absurd ((nilB_iff _).1 hk) hi
      rcases h.2 with ⟨i, j, hij, hi, hj⟩ | ⟨hv, i, hi⟩
      · have := (pair_sub i j hij).countP_le (p := fun i => !(k i).nilB)
        simp only [List.countP_cons, ne i hi, ne j hj, if_true, List.countP_nil] at this
        omega
      · have := (one_sub i).countP_le (p := fun i => !(k i).nilB)
        simp only [List.countP_cons, ne i hi, if_true, List.countP_nil] at this
        rw [own, if_neg hv, List.length_singleton]
        omega
    have h3 : (Tr.spots dg p (.br v k)).length + 3 ≤ 3 * (Tr.br v k).items.length := by
      rw [Tr.spots, Tr.items, List.length_cons, List.length_append]
      omega
    exact ⟨by omega, fun _ => h3⟩
end Go.Proofs.YtbkanebkobjnnaaGreatDoor.Tri
namespace Go.Proofs.YtbkanebkobjnnaaGreatDoor.Tri
open Sto (T St Rising keys)
open Go.Proofs.YtbkanebkobjnnaaGreatDoor.Nd (N)

theorem withL_take (b : UInt8) (R : St) (k : Nat) (hk : k < R.length) : withL b (R.take (k + 1)) = withL b (R.take k) ++ (if R[k].1.head? = some b then [R[k]] else []) := by
  rw [List.take_succ_eq_append_getElem hk, withL, withL, List.filter_append]
  by_cases h : R[k].1.head? = some b
  · simp [h]
  · simp [h]
theorem withL_le (b : UInt8) (R : St) : (withL b R).length ≤ R.length := List.length_filter_le _ _
def spotsK (dg : N → T) (p : T) (k : Fin 16 → Tr) (j : Nat) : List (T × N) := ((List.finRange 16).take j).flatMap fun i => (k i).spots dg (p ++ [hb i])
theorem spotsK_step (dg : N → T) (p : T) (k : Fin 16 → Tr) (j : Nat) (hj : j < 16) : spotsK dg p k (j + 1) = spotsK dg p k j ++ (k ⟨j, hj⟩).spots dg (p ++ [hb ⟨j, hj⟩]) := by
  unfold spotsK
  have h : j < (List.finRange 16).length := by rw [List.length_finRange]; exact hj
  rw [List.take_succ_eq_append_getElem h, List.flatMap_append]
  simp
theorem spotsK_all (dg : N → T) (p : T) (v : T) (k : Fin 16 → Tr) : (p, Tr.node dg (.br v k)) :: spotsK dg p k 16 = Tr.spots dg p (.br v k) := by
  unfold spotsK
  rw [List.take_of_length_le (by rw [List.length_finRange]; exact Nat.le_refl _)]
  rfl
theorem spotsK_le (dg : N → T) (p : T) (v : T) (k : Fin 16 → Tr) (j : Nat) : (spotsK dg p k j).length ≤ (Tr.spots dg p (.br v k)).length := by
  have e : Tr.spots dg p (.br v k) = (p, Tr.node dg (.br v k)) :: (spotsK dg p k j ++ ((List.finRange 16).drop j).flatMap fun i => (k i).spots dg (p ++ [hb i])) := by
    unfold spotsK
    rw [← List.flatMap_append, List.take_append_drop]
    rfl
  rw [e]
  simp only [List.length_cons, List.length_append]
  omega
def kidsK (dg : N → T) (k : Fin 16 → Tr) (j : Nat) : List T := List.ofFn fun i : Fin 16 => if i.val < j then (k i).sum dg else []
theorem kidsK_len (dg : N → T) (k : Fin 16 → Tr) (j : Nat) : (kidsK dg k j).length = 16 := by simp [kidsK]
theorem kidsK_at (dg : N → T) (k : Fin 16 → Tr) (j i : Nat) (hi : i < 16) : (kidsK dg k j)[i]'(by rw [kidsK_len]; exact hi) = if i < j then (k ⟨i, hi⟩).sum dg else [] := by
  unfold kidsK
  rw [List.getElem_ofFn]
theorem kidsK_zero (dg : N → T) (k : Fin 16 → Tr) : kidsK dg k 0 = List.replicate 16 [] := by
  refine List.ext_getElem (by rw [kidsK_len]; simp) fun i h1 h2 => ?_
  rw [kidsK_at dg k 0 i (by rw [kidsK_len] at h1; exact h1), if_neg (by omega), List.getElem_replicate]
theorem kidsK_set (dg : N → T) (k : Fin 16 → Tr) (j : Nat) (hj : j < 16) : (kidsK dg k j).set j ((k ⟨j, hj⟩).sum dg) = kidsK dg k (j + 1) := by
  refine List.ext_getElem (by rw [List.length_set, kidsK_len, kidsK_len]) fun i h1 h2 => ?_
  have hi : i < 16 := by rw [kidsK_len] at h2; exact h2
  rw [List.getElem_set, kidsK_at dg k (j + 1) i hi]
  by_cases e : j = i
  · subst e; rw [if_pos rfl, if_pos (by omega)]
  · rw [if_neg e, kidsK_at dg k j i hi]
    by_cases h : i < j
    · rw [if_pos h, if_pos (by omega)]
    · rw [if_neg h, if_neg (by omega)]
theorem kidsK_skip (dg : N → T) (k : Fin 16 → Tr) (j : Nat) (hj : j < 16) (h : (k ⟨j, hj⟩).sum dg = []) : kidsK dg k (j + 1) = kidsK dg k j := by
  rw [← kidsK_set dg k j hj, h]
  refine List.ext_getElem (by rw [List.length_set]) fun i h1 h2 => ?_
  have hi : i < 16 := by rw [kidsK_len] at h2; exact h2
  rw [List.getElem_set]
  by_cases e : j = i
  · subst e; rw [if_pos rfl, kidsK_at dg k j j hi, if_neg (by omega)]
  · rw [if_neg e]
theorem kidsK_all (dg : N → T) (k : Fin 16 → Tr) : kidsK dg k 16 = List.ofFn fun i => (k i).sum dg := by
  unfold kidsK
  congr 1
  funext i
  rw [if_pos i.isLt]
theorem br_node (dg : N → T) (v : T) (k : Fin 16 → Tr) : Tr.node dg (.br v k) = ⟨3, [], v, kidsK dg k 16⟩ := by rw [kidsK_all]; rfl
theorem nil_spots (dg : N → T) (p : T) {t : Tr} (h : t.isNil) : t.spots dg p = [] ∧ t.sum dg = [] := by
  cases t with
  | nil => exact ⟨rfl, rfl⟩
  | _ => cases h
/-- A branch has an item behind a half byte. -/
theorem br_some {v : T} {k : Fin 16 → Tr} (h : (Tr.br v k).canon) : ∃ x ∈ (Tr.br v k).items, 1 ≤ x.1.length := by
  rcases br_apart h with ⟨_, x, hx, e⟩ | ⟨x, hx, y, hy, i, j, q, r, _, e, _⟩
  · exact ⟨x, hx, List.length_pos_iff.2 e⟩
  · exact ⟨x, hx, by rw [e]; simp⟩
theorem kid_item {v : T} {k : Fin 16 → Tr} (i : Fin 16) {x : T × T} (h : x ∈ (k i).items) : (hb i :: x.1, x.2) ∈ (Tr.br v k).items := mem_br.2 (Or.inr ⟨i, x.1, rfl, h⟩)
theorem kid_few {v : T} {k : Fin 16 → Tr} (i : Fin 16) : (k i).items.length ≤ (Tr.br v k).items.length := by
  rw [← with_kids i k]
  unfold cutL
  rw [List.length_map]
  refine Nat.le_trans (withL_le _ _) ?_
  rw [br_items, List.length_append]
  omega
theorem spots_few (dg : N → T) {t : Tr} (h : t.canon) (p : T) : (t.spots dg p).length ≤ 3 * t.items.length := by
  by_cases hn : t.isNil
  · rw [(nil_spots dg p hn).1]; simp
  · have := (spots_len dg h hn p).1
    omega
end Go.Proofs.YtbkanebkobjnnaaGreatDoor.Tri
namespace Go.Proofs.YtbkanebkobjnnaaGreatDoor
open Go.RowKit
open Go.Proofs.YtbkanebkobjnnaaGreatDoor.Sto (St)

def itcl (p : List UInt8 × List UInt8) : List Value := [.string ⟨p.1.toArray⟩, .string ⟨p.2.toArray⟩]
theorem itcl_length (p : List UInt8 × List UInt8) : (itcl p).length = 2 := rfl
theorem itcl_one (p : List UInt8 × List UInt8) : ∀ u ∈ itcl p, u.oneCell' = true := by
  intro u hu
  simp [itcl] at hu
  rcases hu with rfl | rfl <;> rfl
set_option maxRecDepth 100000 in
theorem Tryz.infoItem : (Tryz.prog.info? 26).map (fun i => (i.zero, i.size, i.bytes)) = some (some (.agg #[.string ⟨#[]⟩, .string ⟨#[]⟩]), 2, 32) := by kernel_rfl
/-- A slice that has these items. -/
def ItAt (w : World) (v : Value) (L : St) : Prop := RowsAt 26 2 itcl w v L
theorem ItAt.at {w : World} {A : Option Addr} {n cap : Nat} {S : St} (h : ItAt w (.slice A n cap) S) (k : Nat) (hk : k < S.length) :
    ∃ b o, A = some ⟨b, o, none⟩ ∧ w.cell? ⟨b, o + k * 2, none⟩ = some (.string ⟨(S[k].1).toArray⟩) ∧ w.cell? ⟨b, o + k * 2 + 1, none⟩ = some (.string ⟨(S[k].2).toArray⟩) := by
  obtain ⟨b, o, rfl, h1⟩ := RowsAt.at h k hk
  exact ⟨b, o, rfl, h1 0 _ rfl, h1 1 _ rfl⟩
/-- Items in a block of any type. -/
def ItIn (w : World) (v : Value) (L : St) : Prop := RowsIn 2 itcl w v L
theorem ItAt.inn {w : World} {v : Value} {L : St} (h : ItAt w v L) : ItIn w v L := RowsAt.inn h
theorem ItIn.at {w : World} {A : Option Addr} {n cap : Nat} {S : St} (h : ItIn w (.slice A n cap) S) (k : Nat) (hk : k < S.length) :
    ∃ b o, A = some ⟨b, o, none⟩ ∧ w.cell? ⟨b, o + k * 2, none⟩ = some (.string ⟨(S[k].1).toArray⟩) ∧ w.cell? ⟨b, o + k * 2 + 1, none⟩ = some (.string ⟨(S[k].2).toArray⟩) := by
  obtain ⟨b, o, rfl, h1⟩ := RowsIn.at h k hk
  exact ⟨b, o, rfl, h1 0 _ rfl, h1 1 _ rfl⟩
theorem Tri.pos_at {S : St} {x : List UInt8} {i : Nat} (hi : i ≤ S.length) (hlo : ∀ (j : Nat) (_ : j < i) (h : j < S.length), S[j].1 < x) (hhi : ∀ h : i < S.length, ¬ S[i].1 < x) : Tri.pos S x = i ∧ Tri.at_ S x = (S[i]?.map (·.1) == some x) := by
  have e := Tri.pos_of S x i hi (fun j h => hlo j h (by omega)) hhi
  exact ⟨e, by rw [Tri.at_, e]⟩
def RAtIs (S : St) (x : List UInt8) (w : World) (e : Ending) (w' : World) : Prop :=
  e = .returned (.tuple #[.int .i64 (Tri.pos S x), .bool (Tri.at_ S x)]) ∧ ∃ q, w' = w.drewN q
set_option maxRecDepth 8000 in
set_option maxHeartbeats 1000000 in
theorem rtAt_any (S : St) (v : Value) (x : List UInt8) (w : World) (hv : ItAt w v S) (hl : S.length ≤ 10000) :
    Calls Tryz.prog 58 #[v, .string ⟨x.toArray⟩] w (RAtIs S x w) := by
  have HV := Lib.hid hv
  obtain ⟨A, cap, rfl, -, -⟩ := hv.form
  clear hv
  go_enter Tryz.func58, Tryz.ntmps58
  go_wp2
  go_loop [6] (fun iv => ∃ k : Nat, k ≤ S.length ∧ iv = .int .i64 k ∧ ∀ (j : Nat) (hj : j < k) (hj' : j < S.length), S[j].1 < x) (fun i => S.length - (intOf i).toNat)
  case atStart => exact ⟨0, Nat.zero_le _, rfl, fun j hj => absurd hj (Nat.not_lt_zero j)⟩
  case round =>
    obtain ⟨k, hk, rfl, hall⟩ := hrel
    have HA := Lib.hid hall
    clear hall
    by_cases hlt : k < S.length
    · have h1 : (k : Int) < (S.length : Int) := by omega
      have h0 : (0 : Int) ≤ (k : Int) := by omega
      have hnb : (k : Int) ≤ 100000 := by omega
      obtain ⟨b, o, rfl, n0, n1⟩ := HV.out.at k hlt
      obtain ⟨y, hy⟩ : ∃ y, S[k].1 = y := ⟨_, rfl⟩
      have HY := Lib.hid hy
      rw [hy] at n0
      by_cases hyx : y < x
      · have e1 : Op.bytesLess y x = true := by rw [less_lt]; simpa using hyx
        have HYX := Lib.hid hyx
        clear n1 hy hyx
        go_wp2
        refine ⟨⟨k + 1, by omega, by go_num, ?_⟩, by simp [intOf]; omega⟩
        intro j hj hj'
        by_cases e : j < k
        · exact HA.out j e hj'
        · obtain rfl : j = k := by omega
          rw [HY.out]; exact HYX.out
      · have e1 : Op.bytesLess y x = false := by rw [less_lt]; simpa using hyx
        obtain ⟨c, hc⟩ : ∃ c, (y == x) = c := ⟨_, rfl⟩
        have HC : Hid (Tri.pos S x = k ∧ Tri.at_ S x = c) := Lib.hid (by
          obtain ⟨g1, g2⟩ := Tri.pos_at (x := x) hk (fun j hj hj' => HA.out j hj hj') (fun _ => by rw [hy]; exact hyx)
          refine ⟨g1, ?_⟩
          rw [g2, List.getElem?_eq_getElem hlt, ← hc, Option.map_some, hy]; rfl)
        have m2 : w.drew.cell? ⟨b, o + k * 2, none⟩ = some (.string ⟨y.toArray⟩) := n0
        clear n1 hy hyx
        go_wp2
        go_region
        all_goals
          go_wp2
          go_ret2
          exact ⟨by rw [HC.out.1, HC.out.2]; rfl, _, rfl⟩
    · obtain rfl : k = S.length := by omega
      have h1 : ¬ ((S.length : Int) < (S.length : Int)) := by omega
      have HC : Hid (Tri.pos S x = S.length ∧ Tri.at_ S x = false) := Lib.hid (by
        obtain ⟨g1, g2⟩ := Tri.pos_at (x := x) (Nat.le_refl _) (fun j hj hj' => HA.out j hj hj') (fun h => absurd h (by omega))
        refine ⟨g1, ?_⟩
        rw [g2, List.getElem?_eq_none (Nat.le_refl _)]; rfl)
      go_wp2
      go_ret2
      exact ⟨by rw [HC.out.1, HC.out.2]; rfl, 0, rfl⟩
end Go.Proofs.YtbkanebkobjnnaaGreatDoor
namespace Go.Proofs.YtbkanebkobjnnaaGreatDoor
open Go.RowKit
open Go.Proofs.YtbkanebkobjnnaaGreatDoor.Sto (St)

def Tri.keyed (x : List UInt8) : Bool := decide (1 ≤ x.length) && decide (x.length ≤ 8)
set_option maxRecDepth 8000 in
theorem rKeyed_any (x : List UInt8) (w : World) (hx : x.length ≤ 1000000) :
    Calls Tryz.prog 57 #[.string ⟨x.toArray⟩] w fun e w' => e = .returned (.bool (Tri.keyed x)) ∧ w = w' := by
  unfold Tri.keyed
  go_enter Tryz.func57, Tryz.ntmps57
  by_cases h1 : 1 ≤ x.length
  · have g1 : ((x.length : Int) ≥ 1) := by omega
    by_cases h2 : x.length ≤ 8
    · have g2 : ((x.length : Int) ≤ 8) := by omega
      go_wp2
      go_ret
      exact ⟨by simp [h1, h2], rfl⟩
    · have g2 : ¬ ((x.length : Int) ≤ 8) := by omega
      go_wp2
      go_ret
      exact ⟨by simp, rfl⟩
  · have g1 : ¬ ((x.length : Int) ≥ 1) := by omega
    go_wp2
    go_ret
    exact ⟨by simp, rfl⟩
/-- What Get tells: the value, or what is wrong. -/
def Tri.getC (S : St) (x : List UInt8) : List UInt8 × Nat := if Tri.keyed x then (match Sto.look S x with | some v => (v, 0) | none => ([], 5)) else ([], 1)
theorem Tri.getC_no {S : St} {x : List UInt8} (h : Tri.keyed x = false) : Tri.getC S x = ([], 1) := by simp [Tri.getC, h]
theorem Tri.getC_none {S : St} {x : List UInt8} (h : Tri.keyed x = true) (h2 : Sto.look S x = none) : Tri.getC S x = ([], 5) := by simp [Tri.getC, h, h2]
theorem Tri.getC_some {S : St} {x y : List UInt8} (h : Tri.keyed x = true) (h2 : Sto.look S x = some y) : Tri.getC S x = (y, 0) := by simp [Tri.getC, h, h2]
end Go.Proofs.YtbkanebkobjnnaaGreatDoor
