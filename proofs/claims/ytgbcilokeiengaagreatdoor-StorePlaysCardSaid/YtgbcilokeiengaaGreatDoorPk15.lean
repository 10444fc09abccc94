/- ShaRefSum, DigTag, StoreRefPut, StoreRefKeep, CodeFew, BookLend, StoreTells -/
import Derived.Test.YtgbcilokeiengaaGreatDoorPk14
import Derived.Test.YtgbcilokeiengaaGreatDoorPk11
import Derived.Deep.OwnRows
import Derived.Test.YtgbcilokeiengaaGreatDoorPk13
import Derived.Test.YtgbcilokeiengaaGreatDoorPk03
import Derived.Deep.QuietTactic
import Derived.BigQuiet
import Derived.Test.YtgbcilokeiengaaGreatDoorPk01
import Derived.WalkSpells
import Derived.WalkLawsBesides
import Derived.Test.YtgbcilokeiengaaGreatDoorPk04
namespace Go.Proofs.YtgbcilokeiengaaGreatDoor
open Go.RowKit

theorem conv_byte (w : World) (x : Int) : (convert 80 9 (.slice (some ⟨w.heap.size, 0, none⟩) 1 1)).run Tryz.prog (w.alloc (.cells #[.int .u8 (x % 256)] 5)) = .ok (.string ⟨[Sha.byteOf x].toArray⟩) (w.alloc (.cells #[.int .u8 (x % 256)] 5)) := by
  have hg := heap_alloc_new w (.cells #[.int .u8 (x % 256)] 5)
  refine run_convert_bytes_back (P := Tryz.prog) _ 80 9 5 ⟨w.heap.size, 0, none⟩ 1 [Sha.byteOf x] Tryz.underlying80 Tryz.underlying5 Tryz.underlying9 ?_
  intro j hj
  rw [Addr.add_mid, Nat.zero_add, cell_of_row _ _ j _ _ _ hg]
  match j, hj with
  | 0, _ => simp [Sha.byteOf_toNat]

theorem conv_zeros (w : World) (z : Nat) : (convert 80 9 (.slice (some ⟨w.heap.size, 0, none⟩) z z)).run Tryz.prog (w.alloc (.cells (madeCells #[.int .u8 0] z) 5)) = .ok (.string ⟨(List.replicate z (0 : UInt8)).toArray⟩) (w.alloc (.cells (madeCells #[.int .u8 0] z) 5)) := by
  obtain ⟨cs, h1, _, h3⟩ := World.rowIs_made w (.int .u8 0) z 5
  have hlz : (List.replicate z (0 : UInt8)).length = z := by simp
  have := run_convert_bytes_back (P := Tryz.prog) (w.alloc (.cells (madeCells #[.int .u8 0] z) 5)) 80 9 5 ⟨w.heap.size, 0, none⟩ z (List.replicate z 0) Tryz.underlying80 Tryz.underlying5 Tryz.underlying9 (by
    intro j hj
    rw [Addr.add_mid, Nat.zero_add, cell_of_row _ _ j _ _ _ h1, h3 j (by simpa using hj)]
    simp)
  rwa [hlz] at this

theorem info64y : (Tryz.prog.info? 98).map (·.size) = some 64 := by kernel_rfl

set_option maxRecDepth 8000 in
set_option maxHeartbeats 800000 in
theorem rsum_any (s : List UInt8) (w : World) (hn : s.length ≤ 1000) :
    Calls Tryz.prog 41 #[.string ⟨s.toArray⟩] w fun e w' => e = .returned (.string ⟨(Sha.sumP s).toArray⟩) ∧ Below w.heap.size w w' := by
  obtain ⟨n, hnn⟩ : ∃ n, s.length = n := ⟨_, rfl⟩
  have hn' : n ≤ 1000 := by omega
  obtain ⟨m, hm⟩ : ∃ m : Nat, n % 64 = m := ⟨_, rfl⟩
  obtain ⟨z, hz⟩ : ∃ z : Nat, z = (119 - n % 64) % 64 := ⟨_, rfl⟩
  have hzb : z ≤ 63 := by omega
  have m1 : (n : Int).tmod 64 = (m : Int) := by rw [Int.tmod_eq_emod_of_nonneg (by omega)]; omega
  have m2 : (n : Int) % 64 = (m : Int) := by omega
  have z1 : (119 - (m : Int)).tmod 64 = (z : Int) := by rw [Int.tmod_eq_emod_of_nonneg (by omega)]; omega
  have z2 : (119 - (m : Int)) % 64 = (z : Int) := by omega
  have htail := Sha.tailP_is n z hz
  have HT : Hid (Sha.sumP s = Sha.joinP (Sha.wordsP (s ++ Sha.tailP n))) := Lib.hid (by unfold Sha.sumP; rw [hnn])
  have HTA := Lib.hid htail
  have hsz : s.length = n := hnn
  have hmb : m < 64 := by omega
  clear htail hz hm hn hnn
  go_enter Tryz.func41, Tryz.ntmps41
  go_wp2
  go_loopw [4, 5, 6] (fun b t i wr => ∃ k : Nat, k ≤ 8 ∧ i = .int .i64 k ∧ b = .int .i64 ((n * 8 / 256 ^ k : Nat) : Int) ∧ t = .string ⟨(Sha.endR (n * 8) k).toArray⟩ ∧ Below w.heap.size w wr) (fun _ _ i _ => 8 - (intOf i).toNat)
  case atStart => exact ⟨0, by omega, rfl, by simp, rfl, Below.refl _ _⟩
  case round =>
    obtain ⟨k, hk, rfl, rfl, rfl, hb⟩ := hrel
    have HB := Lib.hid hb
    clear hb
    by_cases hlt : k < 8
    · have hk8 : (k : Int) < 8 := by omega
      have hnx : Sha.endR (n * 8) (k + 1) = Sha.byteOf ((n * 8 / 256 ^ k : Nat) : Int) :: Sha.endR (n * 8) k := rfl
      have hdv : n * 8 / 256 ^ (k + 1) = n * 8 / 256 ^ k / 256 := by rw [Nat.pow_succ, Nat.div_div_eq_div_mul]
      have hel := Sha.endR_length (n * 8) k
      have hble : n * 8 / 256 ^ k ≤ 8000 := Nat.le_trans (Nat.div_le_self _ _) (by omega)
      obtain ⟨b, hbb⟩ : ∃ b, n * 8 / 256 ^ k = b := ⟨_, rfl⟩
      obtain ⟨E, hE⟩ : ∃ E, Sha.endR (n * 8) k = E := ⟨_, rfl⟩
      obtain ⟨E', hE'⟩ : ∃ E', Sha.endR (n * 8) (k + 1) = E' := ⟨_, rfl⟩
      rw [hbb] at hnx hdv hble ⊢
      rw [hE] at hnx hel ⊢
      rw [hE'] at hnx
      have hcm := cat_mk [Sha.byteOf (b : Int)] E
      have hcons : [Sha.byteOf (b : Int)] ++ E = E' := hnx.symm
      rw [hcons] at hcm
      have kc := fun w => conv_byte w (b : Int)
      have hEl : E.length ≤ 8 := by omega
      have HD := Lib.hid hdv
      have HE := Lib.hid hE'
      have b1 : (b : Int).tmod 256 = (b : Int) % 256 := Int.tmod_eq_emod_of_nonneg (by omega)
      have b2 : (b : Int).tdiv 256 = (b : Int) / 256 := Int.tdiv_eq_ediv_of_nonneg (by omega)
      clear hnx hdv hel hbb hE hE' hcons
      go_wp2
      go_roundw
      case rel => exact ⟨k + 1, by omega, by go_num, by rw [HD.out]; simp, by rw [HE.out], HB.out.alloc HB.out.size _⟩
      case measure => simp [intOf]; omega
    · obtain rfl : k = 8 := by omega
      have hno : ¬ ((8 : Nat) : Int) < 8 := by omega
      have hel := Sha.endR_length (n * 8) 8
      obtain ⟨E, hE⟩ : ∃ E, Sha.endR (n * 8) 8 = E := ⟨_, rfl⟩
      rw [hE] at hel HTA ⊢
      obtain ⟨S1, hS1⟩ : ∃ S1, s ++ [128] = S1 := ⟨_, rfl⟩
      obtain ⟨S2, hS2⟩ : ∃ S2, S1 ++ List.replicate z 0 = S2 := ⟨_, rfl⟩
      obtain ⟨ALL, hALL⟩ : ∃ S3, S2 ++ E = S3 := ⟨_, rfl⟩
      have c1 := cat_mk s [128]
      have c2 := cat_mk S1 (List.replicate z 0)
      have c3 := cat_mk S2 E
      rw [hS1] at c1
      rw [hS2] at c2
      rw [hALL] at c3
      have l1 : S1.length = n + 1 := by rw [← hS1]; simp; omega
      have l2 : S2.length = n + 1 + z := by rw [← hS2]; simp; omega
      have l3 : ALL.length = n + 1 + z + 8 := by rw [← hALL]; simp; omega
      have HALL : Hid (ALL = s ++ Sha.tailP n) := Lib.hid (by rw [HTA.out, ← hALL, ← hS2, ← hS1]; simp)
      obtain ⟨Q, hQ⟩ : ∃ Q, ALL.length = 64 * Q := ⟨(n + 1 + z + 8) / 64, by omega⟩
      have hQb : Q ≤ 20 := by omega
      have hlz : (List.replicate z (0 : UInt8)).length = z := by simp
      have hmk := fun w => run_make_row' (P := Tryz.prog) 80 5 (.int .u8 0) 1 Tryz.underlying80 Tryz.infoByte rfl .i64 .i64 z (by omega) (by omega) w
      have hkz := fun w => conv_zeros w z
      obtain ⟨Zs, hZs⟩ : ∃ Zs, List.replicate z (0 : UInt8) = Zs := ⟨_, rfl⟩
      obtain ⟨MC, hMC⟩ : ∃ MC, madeCells #[.int .u8 0] z = MC := ⟨_, rfl⟩
      rw [hZs] at c2 hlz hkz
      rw [hMC] at hkz hmk
      have b1 : S1.length ≤ 2000 := by omega
      have b2 : S2.length ≤ 2000 := by omega
      have b3 : ALL.length ≤ 2000 := by omega
      have b4 : s.length ≤ 1000 := by omega
      have b5 : Zs.length ≤ 64 := by omega
      have b6 : E.length ≤ 8 := by omega
      have HQ := Lib.hid hQ
      have hf := rfirst_any
      simp only [Sha.St.list, u32s, List.map_cons, List.map_nil, Sha.first] at hf
      have HF := Lib.hid hf
      clear hE hS1 hS2 hALL hlt hk hZs hMC hQ l1 l2 l3 hlz hel hf
      go_wp2_with fail
      refine (HF.out _).mono ?_
      rintro e w2 ⟨rfl, hb2⟩
      have HB2 := Lib.hid ((HB.out.alloc HB.out.size (.cells MC 5)).trans (hb2.mono (HB.out.alloc HB.out.size (.cells MC 5)).size))
      clear hb2 hkz hmk c1 c2 c3 b1 b2 b5 b6
      go_wp2
      obtain ⟨g, hg⟩ : ∃ g, w2.heap.size = g := ⟨_, rfl⟩
      have HGG := Lib.hid hg
      have HGW : Hid (w.heap.size ≤ g) := Lib.hid (by rw [← hg]; exact HB2.out.size)
      rw [hg]
      clear hg
      go_loopw [9] (fun i wr => ∃ k : Nat, k ≤ Q ∧ i = .int .i64 ((64 * k : Nat) : Int) ∧ Below w.heap.size w wr ∧ wr.heap[g]? = some (.cells (u32s (Sha.absorb ALL k).list) 96 (0, 0))) (fun i _ => 64 * Q - (intOf i).toNat)
      case atStart =>
        refine ⟨0, Nat.zero_le _, rfl, HB2.out.alloc HB2.out.size _, ?_⟩
        exact heap_new_at _ _ _ HGG.out.symm
      case round =>
        obtain ⟨k, hk, rfl, hb, hgr⟩ := hrel
        obtain ⟨S, hS⟩ : ∃ S, Sha.absorb ALL k = S := ⟨_, rfl⟩
        obtain ⟨RS, hRS⟩ : ∃ R, u32s S.list = R := ⟨_, rfl⟩
        rw [hS, hRS] at hgr
        have HS := Lib.hid hS
        have HRS := Lib.hid hRS
        have HBR := Lib.hid hb
        have HGR := Lib.hid hgr
        have hRz : RS.size = 8 := by rw [← hRS]; rfl
        have HRI : Hid ((Tryz.prog.info? 96).map (·.size) = some RS.size) := Lib.hid (by rw [hRz]; exact info8w)
        by_cases hlt : k < Q
        · have hle : ((64 * k : Nat) : Int) + 64 ≤ (ALL.length : Int) := by have := HQ.out; omega
          obtain ⟨X, hX⟩ : ∃ X, (ALL.drop (64 * k)).take 64 = X := ⟨_, rfl⟩
          have hXl : X.length = 64 := by rw [← hX]; simp; have := HQ.out; omega
          have hXat : ∀ j, j < 64 → ALL.getD (64 * k + j) 0 = X.getD j 0 := fun j hj => by rw [← hX]; simp [hj]
          have hnx : Sha.absorb ALL (k + 1) = Sha.blockP S X := by rw [← hX, ← hS]; rfl
          have hblk := fun w' => rblock_any S X w' hXl
          rw [Sha.blockR_is] at hblk
          obtain ⟨T, hT⟩ : ∃ T, Sha.blockP S X = T := ⟨_, rfl⟩
          obtain ⟨RT, hRT⟩ : ∃ R, u32s T.list = R := ⟨_, rfl⟩
          rw [hT, hRT, hRS] at hblk
          rw [hT] at hnx
          obtain ⟨XB, hXB⟩ : ∃ X', u8s X = X' := ⟨_, rfl⟩
          rw [hXB] at hblk
          have HBLK := Lib.hid hblk
          have HNX := Lib.hid hnx
          have HRT := Lib.hid hRT
          have HXA := Lib.hid hXat
          have HXL := Lib.hid hXl
          have HXB := Lib.hid hXB
          have hTz : RT.size = 8 := by rw [← hRT]; rfl
          have HTI : Hid ((Tryz.prog.info? 96).map (·.size) = some RT.size) := Lib.hid (by rw [hTz]; exact info8w)
          have HT1 : Hid (RT.all (·.oneCell') = true) := Lib.hid (by rw [← hRT]; exact u32s_one _)
          have HRTz : Hid (RS.size = RT.size) := Lib.hid (by rw [hRz, hTz])
          obtain ⟨i0, hi0⟩ : ∃ i0, 64 * k = i0 := ⟨_, rfl⟩
          rw [hi0] at hle HXA ⊢
          have HI0 := Lib.hid hi0
          have hi2000 : i0 ≤ 2000 := by omega
          clear hS hRS hb hgr hRz hX hXl hXat hnx hblk hT hRT hTz hi0 hXB
          go_wp2
          obtain ⟨pb, hpb⟩ : ∃ pb, wr.heap.size = pb := ⟨_, rfl⟩
          have HGP : Hid (g < pb) := Lib.hid (by rw [← hpb]; exact lt_of_heap HGR.out)
          have HWP : Hid (w.heap.size ≤ pb) := Lib.hid (by rw [← hpb]; exact HBR.out.size)
          have HSt1 : Hid (Below w.heap.size w (wr.alloc (.cells (u8s (List.replicate 64 0)) 98))) := Lib.hid (HBR.out.alloc HBR.out.size _)
          have HSt2 : Hid ((wr.alloc (.cells (u8s (List.replicate 64 0)) 98)).heap[g]? = some (.cells RS 96 (0, 0))) := Lib.hid (heap_old_at _ HGR.out)
          have HSt3 : Hid ((wr.alloc (.cells (u8s (List.replicate 64 0)) 98)).heap[pb]? = some (.cells (u8s (Sha.copyR X 0)) 98 (0, 0))) := Lib.hid (heap_new_at _ _ _ hpb.symm)
          rw [hpb]
          clear hpb
          go_loopw [11] (fun i wr => ∃ j : Nat, j ≤ 64 ∧ i = .int .i64 j ∧ Below w.heap.size w wr ∧ wr.heap[g]? = some (.cells RS 96 (0, 0)) ∧ wr.heap[pb]? = some (.cells (u8s (Sha.copyR X j)) 98 (0, 0))) (fun i _ => 64 - (intOf i).toNat)
          case atStart => exact ⟨0, by omega, rfl, HSt1.out, HSt2.out, HSt3.out⟩
          case round =>
            clear HSt1 HSt2 HSt3 HBR HGR
            obtain ⟨j, hj, rfl, hb, hgr, hpr⟩ := hrel
            obtain ⟨F, hF⟩ : ∃ F, Sha.copyR X j = F := ⟨_, rfl⟩
            have hFl : F.length = 64 := by rw [← hF, Sha.copyR_length]
            rw [hF] at hpr
            have HF := Lib.hid hF
            have HBR := Lib.hid hb
            have HGR := Lib.hid hgr
            have HPR := Lib.hid hpr
            by_cases hj64 : j < 64
            · have hjI : (j : Int) < 64 := by omega
              have co : wr.cell? ⟨pb, j, none⟩ = some (.int .u8 ((F.getD j 0).toNat : Int)) := (cell_of_row wr _ j _ _ _ hpr).trans (u8s_at F j (by omega))
              obtain ⟨old, hold⟩ : ∃ o, ((F.getD j 0).toNat : Int) = o := ⟨_, rfl⟩
              rw [hold] at co
              have fo := frozen_of_row wr _ j _ _ hpr
              have hin : i0 + j < ALL.length := by omega
              have hat := HXA.out j hj64
              have hnn : Sha.copyR X (j + 1) = F.set j (X.getD j 0) := by rw [← hF]; rfl
              obtain ⟨c, hc⟩ : ∃ c, X.getD j 0 = c := ⟨_, rfl⟩
              rw [hc] at hat hnn
              have hix : ∀ h, (⟨ALL.toArray⟩ : ByteArray)[i0 + j]'h = c := fun h => by
                rw [← hat]
                simp [hin]
                rfl
              have e0 : ((i0 : Int) + (j : Int)).toNat = i0 + j := by omega
              have hinI : (i0 : Int) + (j : Int) < (ALL.length : Int) := by omega
              have HNN := Lib.hid hnn
              clear hb hgr hpr hF hFl hold hat hnn hc
              go_wp2
              go_roundw
              case rel =>
                have hgp := HGP.out
                refine ⟨j + 1, by omega, by go_num, HBR.out.setCell HWP.out _, (Below.heap_setCell _ _ _ _ (by dsimp only; omega)).trans HGR.out, ?_⟩
                rw [HNN.out, ← u8s_set]
                exact heap_setCell_same _ _ _ _ _ _ HPR.out
              case measure => simp [intOf]; omega
            · obtain rfl : j = 64 := by omega
              have hno64 : ¬ ((64 : Nat) : Int) < 64 := by omega
              have HXF : Hid (u8s F = XB) := Lib.hid (by rw [← HF.out, Sha.copyR_all X HXL.out, HXB.out])
              rw [HXF.out] at HPR
              have HXI : Hid ((Tryz.prog.info? 98).map (·.size) = some XB.size) := Lib.hid (by rw [← HXB.out, u8s_size, HXL.out]; exact info64y)
              clear hj64 hj hb hgr hpr hF hFl
              go_wp2_with (first | (refine wpList_load_row (by rfl) _ _ (by rfl) g (by rfl) _ RS _ _ HGR.out Tryz.underlying96 (by rfl) HRI.out ?_) | (refine wpList_load_row (by rfl) _ _ (by rfl) pb (by rfl) _ XB _ _ HPR.out Tryz.underlying98 (by rfl) HXI.out ?_))
              refine (HBLK.out _).mono ?_
              rintro e w6 ⟨rfl, hb6⟩
              have HG6 := Lib.hid ((hb6.block g (lt_of_heap HGR.out)).trans HGR.out)
              have HB6 := Lib.hid (HBR.out.trans (hb6.mono HBR.out.size))
              clear hb6
              go_wp2_with (refine wpList_store_row (by rfl) _ _ _ (by rfl) g RT (by rfl) (by rfl) _ _ HG6.out HTI.out HRTz.out HT1.out ?_)
              go_roundw
              case rel => exact ⟨k + 1, by omega, by rw [← HI0.out]; go_num, below_setRow HB6.out HGW.out _, by rw [HNX.out, HRT.out]; exact setRow_heap _ _ _ _ _ _ HG6.out⟩
              case measure => have := HQ.out; have := HI0.out; simp [intOf]; omega
        · obtain rfl : k = Q := by omega
          have hno : ¬ (((64 * k : Nat) : Int) + 64 ≤ (ALL.length : Int)) := by have := HQ.out; omega
          have HTO := Lib.hid (rtold_any S wr)
          rw [hRS] at HTO
          have HFI : Hid (Sha.sumP s = Sha.joinP S) := Lib.hid (by
            rw [HT.out, ← HALL.out, ← HS.out]
            unfold Sha.wordsP
            rw [HQ.out, Nat.mul_div_cancel_left _ (by omega)])
          obtain ⟨i0, hi0⟩ : ∃ i0, 64 * k = i0 := ⟨_, rfl⟩
          rw [hi0] at hno ⊢
          have hi2000 : i0 ≤ 2000 := by omega
          clear hS hRS hb hgr hRz hlt hk hi0
          go_wp2_with (refine wpList_load_row (by rfl) _ _ (by rfl) g (by rfl) _ RS _ _ HGR.out Tryz.underlying96 (by rfl) HRI.out ?_)
          refine HTO.out.mono ?_
          rintro e w6 ⟨rfl, hb6⟩
          go_wp2
          go_ret
          exact ⟨by rw [HFI.out]; rfl, HBR.out.trans (hb6.mono HBR.out.size)⟩
end Go.Proofs.YtgbcilokeiengaaGreatDoor
namespace Go.Proofs.YtgbcilokeiengaaGreatDoor
open Go.RowKit

set_option maxRecDepth 8000 in
theorem rTagged_any (t : Int) (s : List UInt8) (w : World) (hs : s.length ≤ 999) :
    Calls Tryz.prog 23 #[.int .i64 t, .string ⟨s.toArray⟩] w fun e w' => e = .returned (.string ⟨(Sha.sumP (Sha.byteOf t :: s)).toArray⟩) ∧ Below w.heap.size w w' := by
  have HS := Lib.hid (fun w => rsum_any (Sha.byteOf t :: s) w (by simp; omega))
  obtain ⟨R, hR⟩ : ∃ R, Sha.sumP (Sha.byteOf t :: s) = R := ⟨_, rfl⟩
  rw [hR] at HS ⊢
  have hcm := cat_mk [Sha.byteOf t] s
  have kc := fun w => conv_tag w t
  rw [List.singleton_append] at hcm
  clear hR
  go_enter Tryz.func23, Tryz.ntmps23
  go_wp2_with fail
  have hB1 : Below w.heap.size w (w.alloc (.cells #[.int .u8 (t % 256)] 5)) := (Below.refl _ w).alloc (Nat.le_refl _) _
  refine (HS.out _).mono ?_
  rintro e w2 ⟨rfl, hb2⟩
  go_wp2
  go_ret
  exact ⟨rfl, bchain hB1 hb2⟩

end Go.Proofs.YtgbcilokeiengaaGreatDoor
namespace Go.Proofs.YtgbcilokeiengaaGreatDoor
open Go.RowKit
open Go.Proofs.YtgbcilokeiengaaGreatDoor.Sto (St)

/-- The third append: what was there behind the new one. -/
theorem put_third {w w1 w2 : World} {v1 l2 : Value} {T R : St} {one : List UInt8 × List UInt8} {g' cap' B : Nat} {o : Obj} (hB : B ≤ w.heap.size) (hb : Below w.heap.size w w1) (hB1 : ∀ k, v1.ownBlock = some k → w.heap.size ≤ k)
    (h2 : w2.ownsRow B 48 3 (.slice (some ⟨g', 0, none⟩) (T.length + 1) cap') (T.length + 1) (strows T ++ strows [one])) (hg : (w1.alloc o).grownBy w2 v1.ownBlock) (hg' : w.heap.size ≤ g') (hs : StL w l2 R) (hl : T.length + 1 + R.length ≤ 1000000) :
    ∃ v3 w3, (Builtin.append_ #[25, 25] 25 #[.slice (some ⟨g', 0, none⟩) (T.length + 1) cap', l2]).run Tryz.prog w2 = .ok v3 w3 ∧ StL w3 v3 (T ++ one :: R) ∧ Below w.heap.size w w3 := by
  have hb1 := hb.alloc hb.size o
  have hb2 : Below w.heap.size w w2 := hb1.trans ((Out.grown hg (F := fun j => v1.ownBlock = some j) (fun j e => e)).below (fun j hj => hB1 j hj) hb1.size)
  obtain ⟨v3, w3, hrun, hown, hgr, _⟩ := append_st (hs.below hb2) h2 hl (Nat.le_trans hB hb2.size)
  refine ⟨v3, w3, hrun, ?_, hb2.trans ((Out.grown hgr (F := fun j => j = g') (fun j e => by simp [Value.ownBlock] at e; exact e.symm)).below (fun j hj => hj ▸ hg') hb2.size)⟩
  have e1 : strows (T ++ one :: R) = strows T ++ strows [one] ++ strows R := by
    rw [show T ++ one :: R = (T ++ [one]) ++ R by simp, strows_append, strows_append]
  have e2 : (T ++ one :: R).length = T.length + 1 + R.length := by simp; omega
  refine StL.own (B := B) ?_
  rw [e1, e2]
  exact hown
def RStPutPost (S : St) (t : List UInt8) (w : World) (e : Ending) (w' : World) : Prop :=
  ∃ v', e = .returned (.tuple #[v', .string ⟨(Sto.sumOf t).toArray⟩]) ∧ StL w' v' (Sto.put S (Sto.sumOf t) t) ∧ Below w.heap.size w w'
theorem RStPutPost.of {S : St} {t x : List UInt8} {w w' : World} {v' : Value} (hx : Sto.sumOf t = x) (h : StL w' v' (Sto.put S x t)) (hb : Below w.heap.size w w') : RStPutPost S t w (.returned (.tuple #[v', .string ⟨x.toArray⟩])) w' := by
  subst hx
  exact ⟨v', rfl, h, hb⟩
set_option maxRecDepth 8000 in
set_option maxHeartbeats 2000000 in
theorem rstPut_any (S : St) (v : Value) (t : List UInt8) (w : World) (hv : StL w v S) (hl : S.length ≤ 10000) (hS : Sto.Rising S) (ht : t.length ≤ 999) :
    Calls Tryz.prog 13 #[v, .string ⟨t.toArray⟩] w (RStPutPost S t w) := by
  have HTG : Hid (∀ w, Calls Tryz.prog 23 #[.int .i64 1, .string ⟨t.toArray⟩] w fun e w' => e = .returned (.string ⟨(Sto.sumOf t).toArray⟩) ∧ Below w.heap.size w w') := Lib.hid (fun w => rTagged_any 1 t w ht)
  obtain ⟨x, hx⟩ : ∃ x, Sto.sumOf t = x := ⟨_, rfl⟩
  have HX := Lib.hid hx
  rw [hx] at HTG
  have HV := Lib.hid hv
  have HS := Lib.hid hS
  have HL := Lib.hid hl
  obtain ⟨A, cap, rfl, hcap, hcs⟩ := hv.form
  have HCS := Lib.hid hcs
  have HCAP := Lib.hid hcap
  clear hv hS hl ht hx hcs hcap
  go_enter Tryz.func13, Tryz.ntmps13
  go_wp2_with fail
  refine (HTG.out _).mono ?_
  rintro e w0 ⟨rfl, hb0⟩
  have HB0 := Lib.hid hb0
  have HA := Lib.hid (rstAt_any S _ x w0 (HV.out.below hb0) HL.out)
  clear hb0
  go_wp2_with fail
  refine HA.out.mono ?_
  rintro e w1 ⟨P, b, rfl, hat, hq⟩
  have HB1 : Hid (Below w.heap.size w w1) := Lib.hid (bel_drewQ HB0.out hq)
  have HV1 := Lib.hid (HV.out.below HB1.out)
  have HSZ1 := Lib.hid HB1.out.size
  clear hq
  cases b with
  | true =>
    obtain ⟨hi, -, h2, -⟩ := hat.there HS.out
    have HPE : Hid (Sto.put S x t = S) := Lib.hid (Sto.put_same (by rw [h2]; rfl) t HS.out)
    clear hat h2 hi
    go_wp2
    go_ret2
    exact RStPutPost.of HX.out (by rw [HPE.out]; exact HV1.out) HB1.out
  | false =>
    have hPl : P ≤ S.length := hat.1
    have HPL := Lib.hid hPl
    have HPE := Lib.hid (hat.put t)
    have h0 : (0 : Int) ≤ (P : Int) := by omega
    have hpc : (P : Int) ≤ (cap : Int) := by have := HCAP.out; omega
    have hps : (P : Int) ≤ (S.length : Int) := by omega
    have ht := HV1.out.take P hPl
    have hTl : (S.take P).length = P := by simp; omega
    have hRl : (S.drop P).length ≤ 10000 := by have := HL.out; simp; omega
    obtain ⟨T, hT⟩ : ∃ T, S.take P = T := ⟨_, rfl⟩
    obtain ⟨R, hR⟩ : ∃ R, S.drop P = R := ⟨_, rfl⟩
    rw [hT] at ht hTl HPE
    rw [hR] at hRl HPE
    obtain ⟨v1, w2, hrun1, hown1, hgr1, hat1⟩ := append_st ht (World.ownsRow_nil w1 w1.heap.size 48 3) (by have := HL.out; omega) (Nat.le_refl _)
    rw [List.nil_append, Nat.zero_add] at hown1
    have hb2 : Below w1.heap.size w1 w2 := (Out.grown hgr1 (F := fun _ => False) (fun j e => by simp [Value.ownBlock] at e)).below (fun _ hf => hf.elim) (Nat.le_refl _)
    obtain ⟨i0, hi, hz0, hz1, hz2⟩ := info_parts Tryz.infoNotedS
    obtain ⟨A1, cap1, rfl⟩ := own_form hown1
    have HOW1 := Lib.hid hown1
    have HB2 := Lib.hid hb2
    have HTL : Hid (T.length = P ∧ P ≤ 10000 ∧ R.length ≤ 10000) := Lib.hid ⟨hTl, by have := HL.out; omega, hRl⟩
    have HTH := Lib.hid (fun w3 g' cap' l2 h2 hg hg' hs => put_third (w2 := w3) (l2 := l2) (T := T) (R := R) (one := (x, t)) (g' := g') (cap' := cap') (o := .cells #[.int .i64 1, .string ⟨t.toArray⟩, .string ⟨x.toArray⟩] 48) (Nat.le_refl _) hb2 (fun k hk => (World.ownsRow.lt hown1 k hk).1) h2 hg hg' hs (by have := HL.out; omega))
    have HFIN : Hid (∀ v3 w3, StL w3 v3 (T ++ (x, t) :: R) → Below w1.heap.size w1 w3 → RStPutPost S t w (.returned (.tuple #[v3, .string ⟨x.toArray⟩])) w3) := Lib.hid (fun v3 w3 q1 q2 => RStPutPost.of HX.out (by rw [HPE.out]; exact q1) (HB1.out.trans (q2.mono HSZ1.out)))
    have HRQ := Lib.hid hR
    clear hat hgr1 hat1 hb2 hown1 hTl hRl ht hT hR hPl
    rcases HCS.out with ⟨hs0, rfl, rfl⟩ | ⟨b, o, rfl⟩
    · have hSl : S.length = 0 := by rw [hs0]; rfl
      obtain rfl : P = 0 := by have := HPL.out; omega
      have HDR : Hid (StL w1 (.slice none 0 0) R) := Lib.hid (by rw [← HRQ.out, hs0]; exact StL.nil w1)
      rw [hSl]
      clear hs0 hSl hps hpc
      go_wp2_with (first | (at_builtin; refine wpList_append_run rfl _ _ _ rfl (.slice none 0 0) (.slice none 0 0) (.slice A1 T.length cap1) (by rfl) (by rfl) hrun1 ?_) | (at_builtin; refine wpList_append_lies _ rfl _ _ _ rfl w1.heap.size 48 i0 (.agg #[.int .i64 0, .string ⟨#[]⟩, .string ⟨#[]⟩]) 3 40 Tryz.underlying25 hi hz0 hz1 hz2 rfl (by decide) (.slice A1 T.length cap1) T.length (strows T) (by rfl) (World.ownsRow.alloc HOW1.out _) ⟨w2.heap.size, 0, none⟩ 1 1 (strows [(x, t)]) (by rfl) rfl (World.news_of_block (heap_new_at _ _ _ (by simp))) (by simp [strows, stcl, Value.oneCell']) (by decide) (by have := HTL.out; unfold maxLen; omega) (by have := HTL.out; omega) (by have := HB2.out.size; simp at this ⊢; omega) (w2.heap.size + 1) (by simp) ?_; intro g' cap' w3 hown3 hgr3 hat3 hlt3) | (at_builtin; obtain ⟨v4, w4, hrun4, hst4, hb4⟩ := HTH.out w3 g' cap' (.slice none 0 0) hown3 hgr3 (World.ownsRow.lt hown3 g' rfl).1 HDR.out; refine wpList_append_run rfl _ _ _ rfl (.slice (some ⟨g', 0, none⟩) (T.length + 1) cap') (.slice none 0 0) v4 (by rfl) (by rfl) hrun4 ?_))
      go_ret2
      exact HFIN.out _ _ hst4 hb4
    · by_cases hPc : P = cap
      · subst hPc
        have hSP : S.length = P := by have := HCAP.out; have := HPL.out; omega
        have HDR : Hid (StL w1 (.slice (some ⟨b, o, none⟩) 0 0) R) := Lib.hid (by
          have h := HV1.out.drop P (Nat.le_of_eq hSP.symm) b o (fun h => by omega)
          rw [HRQ.out, hSP, Nat.sub_self] at h
          exact h)
        rw [hSP]
        clear hSP hps hpc
        go_wp2_with (first | (at_builtin; refine wpList_append_run rfl _ _ _ rfl (.slice none 0 0) (.slice (some ⟨b, o, none⟩) P P) (.slice A1 T.length cap1) (by rfl) (by rfl) hrun1 ?_) | (at_builtin; refine wpList_append_lies _ rfl _ _ _ rfl w1.heap.size 48 i0 (.agg #[.int .i64 0, .string ⟨#[]⟩, .string ⟨#[]⟩]) 3 40 Tryz.underlying25 hi hz0 hz1 hz2 rfl (by decide) (.slice A1 T.length cap1) T.length (strows T) (by rfl) (World.ownsRow.alloc HOW1.out _) ⟨w2.heap.size, 0, none⟩ 1 1 (strows [(x, t)]) (by rfl) rfl (World.news_of_block (heap_new_at _ _ _ (by simp))) (by simp [strows, stcl, Value.oneCell']) (by decide) (by have := HTL.out; unfold maxLen; omega) (by have := HTL.out; omega) (by have := HB2.out.size; simp at this ⊢; omega) (w2.heap.size + 1) (by simp) ?_; intro g' cap' w3 hown3 hgr3 hat3 hlt3) | (at_builtin; obtain ⟨v4, w4, hrun4, hst4, hb4⟩ := HTH.out w3 g' cap' (.slice (some ⟨b, o, none⟩) 0 0) hown3 hgr3 (World.ownsRow.lt hown3 g' rfl).1 HDR.out; refine wpList_append_run rfl _ _ _ rfl (.slice (some ⟨g', 0, none⟩) (T.length + 1) cap') (.slice (some ⟨b, o, none⟩) 0 0) v4 (by rfl) (by rfl) hrun4 ?_))
        go_ret2
        exact HFIN.out _ _ hst4 hb4
      · have hPc2 : ¬ ((cap : Int) - (P : Int) = 0) := by have := HCAP.out; have := HPL.out; omega
        have HDR : Hid (StL w1 (.slice (some ⟨b, o + P * 3, none⟩) (S.length - P) (cap - P)) R) := Lib.hid (by rw [← HRQ.out]; exact HV1.out.drop P HPL.out b (o + P * 3) (fun _ => ⟨rfl, rfl⟩))
        go_wp2_with (first | (at_builtin; refine wpList_append_run rfl _ _ _ rfl (.slice none 0 0) (.slice (some ⟨b, o, none⟩) P cap) (.slice A1 T.length cap1) (by rfl) (by rfl) hrun1 ?_) | (at_builtin; refine wpList_append_lies _ rfl _ _ _ rfl w1.heap.size 48 i0 (.agg #[.int .i64 0, .string ⟨#[]⟩, .string ⟨#[]⟩]) 3 40 Tryz.underlying25 hi hz0 hz1 hz2 rfl (by decide) (.slice A1 T.length cap1) T.length (strows T) (by rfl) (World.ownsRow.alloc HOW1.out _) ⟨w2.heap.size, 0, none⟩ 1 1 (strows [(x, t)]) (by rfl) rfl (World.news_of_block (heap_new_at _ _ _ (by simp))) (by simp [strows, stcl, Value.oneCell']) (by decide) (by have := HTL.out; unfold maxLen; omega) (by have := HTL.out; omega) (by have := HB2.out.size; simp at this ⊢; omega) (w2.heap.size + 1) (by simp) ?_; intro g' cap' w3 hown3 hgr3 hat3 hlt3) | (at_builtin; obtain ⟨v4, w4, hrun4, hst4, hb4⟩ := HTH.out w3 g' cap' (.slice (some ⟨b, o + P * 3, none⟩) (S.length - P) (cap - P)) hown3 hgr3 (World.ownsRow.lt hown3 g' rfl).1 HDR.out; refine wpList_append_run rfl _ _ _ rfl (.slice (some ⟨g', 0, none⟩) (T.length + 1) cap') (.slice (some ⟨b, o + P * 3, none⟩) (S.length - P) (cap - P)) v4 (by rfl) (by rfl) hrun4 ?_))
        go_ret2
        exact HFIN.out _ _ hst4 hb4
end Go.Proofs.YtgbcilokeiengaaGreatDoor
namespace Go.Proofs.YtgbcilokeiengaaGreatDoor
open Go.RowKit
open Go.Proofs.YtgbcilokeiengaaGreatDoor.Sto (St)

def Sto.keepB (S : St) (l : List (List UInt8)) (a : List UInt8 × List UInt8) : Bool := decide (a.1 ∈ Sto.reachL S l)
theorem Sto.keep_at {S : St} (hS : Sto.Rising S) (l : List (List UInt8)) (i : Nat) (hi : i < S.length) :
    (Sto.keepB S l S[i] = true → (Sto.reachL S l)[((S.take i).filter (Sto.keepB S l)).length]? = some S[i].1) ∧
    (Sto.keepB S l S[i] = false → ∀ r, (Sto.reachL S l)[((S.take i).filter (Sto.keepB S l)).length]? = some r → r ≠ S[i].1) := by
  have hk : Sto.reachL S l = Sto.keys ((S.take i).filter (Sto.keepB S l)) ++ Sto.keys ((S.drop i).filter (Sto.keepB S l)) := by
    rw [← Sto.keepL_keys hS l]
    unfold Sto.keepL
    have : S.filter (fun a => decide (a.1 ∈ Sto.reachL S l)) = (S.take i).filter (Sto.keepB S l) ++ (S.drop i).filter (Sto.keepB S l) := by
      rw [← List.filter_append, List.take_append_drop]
      rfl
    rw [this]
    simp [Sto.keys]
  constructor
  · intro hb
    have hd : (S.drop i).filter (Sto.keepB S l) = S[i] :: (S.drop (i + 1)).filter (Sto.keepB S l) := by
      rw [List.drop_eq_getElem_cons hi, List.filter_cons, if_pos hb]
    rw [hk, hd, List.getElem?_append_right (by simp [Sto.keys])]
    simp [Sto.keys]
  · intro hb r h e
    have : S[i].1 ∈ Sto.reachL S l := by rw [← e]; exact List.mem_of_getElem? h
    rw [Sto.keepB, decide_eq_true this] at hb
    cases hb
theorem Sto.keep_snoc (S : St) (l : List (List UInt8)) (i : Nat) (hi : i < S.length) : (S.take (i + 1)).filter (Sto.keepB S l) = if Sto.keepB S l S[i] = true then (S.take i).filter (Sto.keepB S l) ++ [S[i]] else (S.take i).filter (Sto.keepB S l) := by
  rw [List.take_succ_eq_append_getElem hi, List.filter_append]
  by_cases h : Sto.keepB S l S[i] = true
  · rw [if_pos h]; simp [h]
  · rw [if_neg h]; simp [h]
def RStKeepPost (S : St) (l : List (List UInt8)) (w : World) (e : Ending) (w' : World) : Prop :=
  ∃ v', e = .returned (.tuple #[v', .int .i64 ((S.length - (Sto.keepL S l).length : Nat))]) ∧ StL w' v' (Sto.keepL S l) ∧ Below w.heap.size w w'
set_option maxRecDepth 100000 in
set_option maxHeartbeats 4000000 in
theorem rstKeep_any (S : St) (v : Value) (l : List (List UInt8)) (u : Value) (w : World) (hv : StL w v S) (hu : Strs w u l) (hS : Sto.Rising S) (hl : S.length ≤ 10000) (hll : l.length ≤ 10000) (hsh : ∀ p ∈ S, p.1.length ≤ 32 ∧ p.2.length ≤ 1000) :
    Calls Tryz.prog 7 #[v, u] w (RStKeepPost S l w) := by
  have HRE := Lib.hid (rstReach_any S v l u w hv hu hS hl hll hsh)
  unfold RowPost at HRE
  have HV := Lib.hid hv
  have HL := Lib.hid hl
  have HAT := Lib.hid (fun i hi => Sto.keep_at hS l i hi)
  have HSN := Lib.hid (fun i hi => Sto.keep_snoc S l i hi)
  have HRL := Lib.hid (Sto.reachL_len S l)
  have HKE : Hid (Sto.keepL S l = S.filter (Sto.keepB S l)) := Lib.hid rfl
  obtain ⟨R, hR⟩ : ∃ R, Sto.reachL S l = R := ⟨_, rfl⟩
  rw [hR] at HRE HRL
  simp only [hR] at HAT
  obtain ⟨i0, hi, hz0, hz1, hz2⟩ := info_parts Tryz.infoNotedS
  obtain ⟨A, cap, rfl, -, -⟩ := hv.form
  clear hv hu hS hl hll hsh hR
  go_enter Tryz.func7, Tryz.ntmps7
  go_wp2_with fail
  refine HRE.out.mono ?_
  rintro e w1 ⟨z, rfl, hown1, hb1⟩
  have HO1 := Lib.hid hown1
  have HV1 := Lib.hid (HV.out.below hb1)
  have HB1 := Lib.hid hb1
  obtain ⟨Az, cz, rfl⟩ := own_form hown1
  clear hown1 hb1 HRE
  go_wp2
  go_loopw [7, 8, 9] (fun sv kv iv wr => ∃ (s : Value) (i : Nat), s = sv ∧ i ≤ S.length ∧ kv = .int .i64 ((((S.take i).filter (Sto.keepB S l)).length : Nat) : Int) ∧ iv = .int .i64 i ∧ wr.ownsRow w1.heap.size 48 3 s ((S.take i).filter (Sto.keepB S l)).length (strows ((S.take i).filter (Sto.keepB S l))) ∧ Below w1.heap.size w1 wr) (fun _ _ i _ => S.length - (intOf i).toNat)
  case atStart => exact ⟨_, 0, rfl, Nat.zero_le _, rfl, rfl, World.ownsRow_nil _ _ _ _, Below.refl _ _⟩
  case round =>
    obtain ⟨s, i, rfl, hik, rfl, rfl, hown, hb⟩ := hrel
    have HO := Lib.hid hown
    have HB := Lib.hid hb
    have HZ := Lib.hid hb.size
    by_cases hlt : i < S.length
    · have h1 : (i : Int) < (S.length : Int) := by omega
      have h0 : (0 : Int) ≤ (i : Int) := by omega
      have hnb : (i : Int) ≤ 100000 := by have := HL.out; omega
      obtain ⟨b, o, rfl, n0, n1, n2⟩ := (HV1.out.below hb).at i hlt
      obtain ⟨ht, hf⟩ := HAT.out i hlt
      have hsn := HSN.out i hlt
      have hkl : ((S.take i).filter (Sto.keepB S l)).length ≤ i := by
        refine Nat.le_trans (List.length_filter_le _ _) ?_
        rw [List.length_take]; omega
      obtain ⟨F, hF⟩ : ∃ F, (S.take i).filter (Sto.keepB S l) = F := ⟨_, rfl⟩
      rw [hF] at HO hsn hkl
      simp only [hF] at ht hf
      rw [hF]
      obtain ⟨⟨x, y⟩, hxy⟩ : ∃ a, S[i] = a := ⟨_, rfl⟩
      rw [hxy] at n1 n2 hsn ht hf
      dsimp only at n1 n2 ht hf
      have HFL : Hid (F.length ≤ 10000) := Lib.hid (by have := HL.out; omega)
      have k0 : (0 : Int) ≤ (F.length : Int) := by omega
      have kb : (F.length : Int) ≤ 100000 := by have := HFL.out; omega
      have m0 : wr.drew.cell? ⟨b, o + i * 3, none⟩ = some (.int .i64 1) := n0
      have m1 : wr.drew.cell? ⟨b, o + i * 3 + 1, none⟩ = some (.string ⟨y.toArray⟩) := n1
      have m2 : wr.drew.cell? ⟨b, o + i * 3 + 2, none⟩ = some (.string ⟨x.toArray⟩) := n2
      obtain ⟨B, hB⟩ : ∃ B, Sto.keepB S l (x, y) = B := ⟨_, rfl⟩
      rw [hB] at hsn ht hf
      have HSNi := Lib.hid hsn
      cases B with
      | true =>
        obtain ⟨hlen, hrk⟩ := List.getElem?_eq_some_iff.1 (ht rfl)
        have h3 : (F.length : Int) < (R.length : Int) := by omega
        obtain ⟨a, rfl, hcell⟩ := HO1.out.strs_at hb F.length hlen
        rw [hrk] at hcell
        have mc : wr.drew.cell? (a.add F.length) = some (.string ⟨x.toArray⟩) := hcell
        have hxx : (x == x) = true := by simp
        rw [if_pos rfl] at hsn
        have HSNt := Lib.hid hsn
        clear ht hf hsn hown hb hF hxy hB hlen hrk hkl
        go_wp2
        go_region
        all_goals
          go_wp2_with (at_builtin; refine wpList_append_lies _ rfl _ _ _ rfl w1.heap.size 48 i0 (.agg #[.int .i64 0, .string ⟨#[]⟩, .string ⟨#[]⟩]) 3 40 Tryz.underlying25 hi hz0 hz1 hz2 rfl (by decide) s F.length (strows F) (by rfl) (World.ownsRow.alloc (w := wr.drew) HO.out _) ⟨wr.heap.size, 0, none⟩ 1 1 (strows [(x, y)]) (by rfl) rfl (World.news_of_block (heap_new_at _ _ _ (by first | rfl | simp))) (by simp [strows, stcl, Value.oneCell']) (by decide) (by have := HFL.out; unfold maxLen; omega) (by have := HFL.out; omega) (by have := HZ.out; simp; omega) (wr.heap.size + 1) (by simp) ?_; intro g' cap' w5 hown5 hgrow5 hat5 hlt5)
          have ha : Below wr.heap.size wr (wr.drew.alloc (.cells #[.int .i64 1, .string ⟨y.toArray⟩, .string ⟨x.toArray⟩] 48)) := ((Below.refl _ wr).drew).alloc (Nat.le_refl _) _
          have hB5 : Below w1.heap.size w1 w5 := HB.out.trans (((Out.of ha).trans (Out.grown hgrow5 (F := fun j => s.ownBlock = some j) (fun j e => e))).below (fun j hj => (World.ownsRow.lt HO.out j hj).1) HZ.out)
          refine ⟨⟨_, i + 1, rfl, by omega, ?_, by go_num, ?_, hB5⟩, by simp [intOf]; omega⟩
          · rw [HSNt.out, List.length_append]; go_num
          · rw [HSNt.out, strows_append, List.length_append]
            exact hown5
      | false =>
        rw [if_neg (by simp)] at hsn
        have HSNt := Lib.hid hsn
        have HFI : Hid (∀ w', Below w1.heap.size w1 w' → w'.ownsRow w1.heap.size 48 3 s F.length (strows F) → (∃ (s' : Value) (i' : Nat), s' = s ∧ i' ≤ S.length ∧ Value.int .i64 ((F.length : Nat) : Int) = .int .i64 ((((S.take i').filter (Sto.keepB S l)).length : Nat) : Int) ∧ i' = i + 1 ∧ w'.ownsRow w1.heap.size 48 3 s' ((S.take i').filter (Sto.keepB S l)).length (strows ((S.take i').filter (Sto.keepB S l))) ∧ Below w1.heap.size w1 w')) := Lib.hid (fun w' q1 q2 => ⟨s, i + 1, rfl, by omega, by rw [hsn], rfl, by rw [hsn]; exact q2, q1⟩)
        by_cases hk : F.length < R.length
        · have h3 : (F.length : Int) < (R.length : Int) := by omega
          obtain ⟨a, rfl, hcell⟩ := HO1.out.strs_at hb F.length hk
          have hne := hf rfl _ (List.getElem?_eq_getElem hk)
          obtain ⟨r, hr⟩ : ∃ r, R[F.length] = r := ⟨_, rfl⟩
          rw [hr] at hcell hne
          have hrx : (r == x) = false := by simpa using hne
          have mc : wr.drew.cell? (a.add F.length) = some (.string ⟨r.toArray⟩) := hcell
          clear ht hf hsn hown hb hF hxy hB hk hne hr hkl
          go_wp2
          go_region
          all_goals
            go_wp2
            obtain ⟨s', i', e1, e2, e3, rfl, e5, e6⟩ := HFI.out _ HB.out.drew HO.out
            exact ⟨⟨s', i + 1, e1, e2, e3, by go_num, e5, e6⟩, by simp [intOf]; omega⟩
        · have h3 : decide (F.length < R.length) = false := decide_eq_false hk
          clear ht hf hsn hown hb hF hxy hB hk hkl
          go_wp2
          go_quiet (fail)
          all_goals
            go_wp2
            obtain ⟨s', i', e1, e2, e3, rfl, e5, e6⟩ := HFI.out _ (bel_drewN HB.out _) HO.out
            exact ⟨⟨s', i + 1, e1, e2, e3, by go_num, e5, e6⟩, by simp [intOf]; omega⟩
    · have h1 : ¬ ((i : Int) < (S.length : Int)) := by omega
      rw [List.take_of_length_le (by omega), ← HKE.out] at hown
      have hle : (Sto.keepL S l).length ≤ S.length := List.length_filter_le _ _
      have HFS := Lib.hid hown
      have HBW := Lib.hid (bchain HB1.out hb)
      rw [List.take_of_length_le (by omega), ← HKE.out]
      obtain ⟨D, hD⟩ : ∃ D, Sto.keepL S l = D := ⟨_, rfl⟩
      have HDQ := Lib.hid hD
      rw [hD] at hle HFS ⊢
      obtain ⟨A2, c2, rfl⟩ := own_form HFS.out
      have e1 : (S.length : Int) - (D.length : Int) = ((S.length - D.length : Nat) : Int) := by omega
      have b1 : (S.length : Int) ≤ 100000 := by have := HL.out; omega
      have b2 : (D.length : Int) ≤ 100000 := by omega
      have HE1 := Lib.hid e1
      clear hown hb hD e1 HO
      go_wp2
      go_ret2
      exact ⟨_, by rw [HDQ.out, ← HE1.out]; rfl, by rw [HDQ.out]; exact StL.own HFS.out, HBW.out⟩
end Go.Proofs.YtgbcilokeiengaaGreatDoor
namespace Go.Proofs.YtgbcilokeiengaaGreatDoor
open Go.RowKit

theorem Code.take_snoc_eq {L M : List (List UInt8)} {k : Nat} (h1 : k < L.length) (h2 : k < M.length) : L.take (k + 1) = M.take (k + 1) ↔ L.take k = M.take k ∧ L[k] = M[k] := by
  rw [List.take_succ_eq_append_getElem h1, List.take_succ_eq_append_getElem h2]
  constructor
  · intro h
    have := List.append_inj' h rfl
    exact ⟨this.1, by simpa using this.2⟩
  · rintro ⟨a, b⟩
    rw [a, b]

set_option maxHeartbeats 400000 in
theorem same_any (L M : List (List UInt8)) (u v : Value) (w : World) (hu : Strs w u L) (hv : Strs w v M) (hl : L.length ≤ 100000000) (hm : M.length ≤ maxLen) :
    Calls Tryz.prog 18 #[u, v] w fun x w' => x = .returned (.bool (decide (L = M))) ∧ Below w.heap.size w w' := by
  obtain ⟨A, cap, rfl, hc⟩ := hu
  obtain ⟨B, cap2, rfl, hd⟩ := hv
  unfold maxLen at hm
  by_cases he : L.length = M.length
  · have h0 : ((L.length : Int) == (M.length : Int)) = true := by rw [beq_iff_eq]; omega
    have he' := Lib.hid he
    go_enter Tryz.func18, Tryz.ntmps18
    go_wp2
    go_loopw [5, 6] (fun s i wr => ∃ k : Nat, k ≤ L.length ∧ s = .bool (decide (L.take k = M.take k)) ∧ i = .int .i64 k ∧ Below w.heap.size w wr ∧ (L.take k ≠ M.take k → L ≠ M)) (fun _ i _ => L.length - (intOf i).toNat)
    case atStart => exact ⟨0, Nat.zero_le _, by simp, rfl, Below.refl _ _, by simp⟩
    case round =>
      obtain ⟨k, hk, rfl, rfl, hbel, hno⟩ := hrel
      have HN := Lib.hid hno
      clear hno
      rcases htk : decide (L.take k = M.take k) with _ | _
      · have HT := Lib.hid htk
        clear htk
        go_wp2
        go_ret
        refine ⟨?_, hbel⟩
        have h := HN.out (of_decide_eq_false HT.out)
        rw [decide_eq_false h]
        rfl
      · have HT := Lib.hid htk
        clear htk
        by_cases hlt : k < L.length
        · have h1 : (k : Int) < (L.length : Int) := by omega
          have h2 : (k : Int) < (M.length : Int) := by omega
          obtain ⟨a, rfl, hcell⟩ := hc k hlt
          obtain ⟨b, rfl, hdell⟩ := hd k (by omega)
          have hcell1 := (hbel.cell (World.block_lt_of_cell? _ _ hcell)).trans hcell
          have hdell1 := (hbel.cell (World.block_lt_of_cell? _ _ hdell)).trans hdell
          have hsn := Lib.hid (Code.take_snoc_eq hlt (show k < M.length by omega))
          clear hc hd hcell hdell
          obtain ⟨s, hs⟩ : ∃ s, L[k] = s := ⟨_, rfl⟩
          obtain ⟨t, ht⟩ : ∃ t, M[k] = t := ⟨_, rfl⟩
          rw [hs] at hcell1 hsn
          rw [ht] at hdell1 hsn
          clear hs ht
          go_wp2
          go_quiet (fail)
          go_wp2
          go_roundw
          case rel =>
            refine ⟨k + 1, by omega, ?_, by go_num, bel_drewN hbel _, ?_⟩
            · have e := hsn.out
              have e1 := of_decide_eq_true HT.out
              by_cases hst : s = t
              · rw [decide_eq_true (e.2 ⟨e1, hst⟩)]; simp [hst]
              · rw [decide_eq_false (fun h => hst (e.1 h).2)]; simp [hst]
            · intro h hLM
              subst hLM
              exact h rfl
          case measure => simp [intOf]; omega
        · go_wp2
          go_ret
          refine ⟨?_, hbel⟩
          have e := of_decide_eq_true HT.out
          have he2 := he'.out
          rw [List.take_of_length_le (by omega), List.take_of_length_le (by omega)] at e
          rw [decide_eq_true e]
          rfl
  · have h0 : ((L.length : Int) == (M.length : Int)) = false := by rw [beq_eq_false_iff_ne]; omega
    have hne : decide (L = M) = false := decide_eq_false (fun h => he (by rw [h]))
    rw [hne]
    clear he hc hd hne
    go_enter Tryz.func18, Tryz.ntmps18
    go_wp2
    go_loop [5, 6] (fun s i => s = .bool false ∧ i = .int .i64 0) (fun _ _ => 0)
    case atStart => exact ⟨rfl, rfl⟩
    case round =>
      obtain ⟨rfl, rfl⟩ := hrel
      go_wp2
      go_ret
      exact ⟨rfl, Below.refl _ _⟩

end Go.Proofs.YtgbcilokeiengaaGreatDoor
namespace Go.Proofs.YtgbcilokeiengaaGreatDoor
open Go.RowKit

def behind : List UInt8 := [98, 101, 104, 105, 110, 100]
/-- A list that is lent: its texts, and a mark behind their end. -/
def Lent (w : World) (B : Nat) (s : Value) (L : List (List UInt8)) : Prop :=
  ∃ g cap, s = .slice (some ⟨g, 0, none⟩) L.length cap ∧ Own w B (.slice (some ⟨g, 0, none⟩) (L.length + 1) cap) (L ++ [behind])
theorem Lent.below {w w' : World} {B : Nat} {s : Value} {L : List (List UInt8)} (h : Lent w B s L) (hb : Below w.heap.size w w') : Lent w' B s L := by
  obtain ⟨g, cap, rfl, h1⟩ := h
  exact ⟨g, cap, rfl, h1.below hb⟩
theorem Lent.strs {w : World} {B : Nat} {s : Value} {L : List (List UInt8)} (h : Lent w B s L) : Strs w s L := by
  obtain ⟨g, cap, rfl, h1⟩ := h
  obtain ⟨A, c, hv, hc⟩ := h1.strs
  obtain ⟨rfl, _⟩ : some (⟨g, 0, none⟩ : Addr) = A ∧ _ := by simpa using hv
  refine ⟨_, cap, rfl, fun i hi => ?_⟩
  obtain ⟨a, ha, hcell⟩ := hc i (by simp; omega)
  exact ⟨a, ha, by rw [hcell, List.getElem_append_left hi]⟩
theorem Lent.cap {w : World} {B : Nat} {A : Option Addr} {n c : Nat} {L : List (List UInt8)} (h : Lent w B (.slice A n c) L) : ∃ g, A = some ⟨g, 0, none⟩ ∧ n = L.length ∧ L.length + 1 ≤ c ∧ c ≤ maxLen ∧ B ≤ g ∧ w.cell? ⟨g, L.length, none⟩ = some (.string ⟨behind.toArray⟩) := by
  obtain ⟨g, cap, hv, h1⟩ := h
  obtain ⟨rfl, rfl, rfl⟩ : A = some ⟨g, 0, none⟩ ∧ n = L.length ∧ c = cap := by simpa using hv
  have h2 := World.ownsRow.cells h1 (g := g) rfl L.length (.string ⟨behind.toArray⟩) (by simp [scells])
  rw [Addr.add_mid, Nat.zero_add] at h2
  rcases h1.2 with ⟨h', _⟩ | ⟨g', cap', cur, hv', hB, hh, hn, hcap, hsz, _⟩
  · simp at h'
  · obtain ⟨rfl, rfl⟩ : g = g' ∧ c = cap' := by simpa using hv'
    exact ⟨g, rfl, rfl, by simpa using hn, hcap, hB, h2⟩

theorem own_cap {w : World} {B g n cap : Nat} {xs : List Value} (h : w.ownsRow B 9 1 (.slice (some ⟨g, 0, none⟩) (n + 1) cap) (n + 1) xs) : n ≤ cap := by
  rcases h.2 with ⟨h', _⟩ | ⟨g', cap', cur, hv, _, _, hn, _⟩
  · simp at h'
  · obtain ⟨_, rfl⟩ : g = g' ∧ cap = cap' := by simpa using hv
    omega
def LendPost (L : List (List UInt8)) (w : World) (e : Ending) (w' : World) : Prop := ∃ s, e = .returned s ∧ Lent w' w.heap.size s L ∧ Below w.heap.size w w'
theorem own_grown {w0 w w1 w2 : World} {B : Nat} {s s' : Value} {n n' : Nat} {xs xs' : List Value} (hB : B ≤ w0.heap.size) (h : w.ownsRow B 9 1 s n xs) (hb0 : Below B w0 w) (hb : Below w.heap.size w w1) (hg : w1.grownBy w2 s.ownBlock) (_hr : w2.ownsRow B 9 1 s' n' xs') : Below B w0 w2 := by
  have h3 : Out (fun j => s.ownBlock = some j) w w2 := (Out.of hb).trans (Out.grown hg (fun _ e => e))
  exact hb0.trans (h3.below (fun j hj => (World.ownsRow.lt h j hj).1) (by have := hb0.size; omega))
set_option maxRecDepth 8000 in
set_option maxHeartbeats 1000000 in
theorem lend_any (L : List (List UInt8)) (v : Value) (w : World) (hv : Strs w v L) (hl : L.length ≤ 1000000) :
    Calls Tryz.prog 6 #[v] w (LendPost L w) := by
  obtain ⟨i0, hi, hz0, hz1, hz2⟩ := info_parts Tryz.infoStr
  obtain ⟨v1, w1, hrun1, hown1, hgrow1, hat1⟩ := append_strs hv (World.ownsRow_nil w w.heap.size 9 1) (by omega) (Nat.le_refl _)
  simp only [Nat.zero_add, List.nil_append] at hown1
  have HO1 : Hid (Own w1 w.heap.size v1 L) := Lib.hid hown1
  have HB1 : Hid (Below w.heap.size w w1) := Lib.hid (own_grown (Nat.le_refl _) (World.ownsRow_nil w w.heap.size 9 1) (Below.refl _ w) (Below.refl _ w) hgrow1 hown1)
  obtain ⟨A, cap, rfl, -⟩ := hv
  obtain ⟨A1, cap1, rfl⟩ := own_form hown1
  have HR1 := Lib.hid hrun1
  clear hrun1 hown1 hgrow1 hat1
  have HS1 := Lib.hid HB1.out.size
  go_enter Tryz.func6, Tryz.ntmps6
  go_wp2_with (first | (at_builtin; refine wpList_append_run rfl _ _ _ rfl (.slice none 0 0) (.slice A L.length cap) _ (by rfl) (by rfl) HR1.out ?_) | (at_builtin; refine wpList_append_lies _ rfl _ _ _ rfl w.heap.size 9 i0 (.string ⟨#[]⟩) 1 16 Tryz.underlying26 hi hz0 hz1 hz2 rfl (by decide) (.slice A1 L.length cap1) L.length (scells L) (by rfl) (World.ownsRow.alloc HO1.out _) ⟨w1.heap.size, 0, none⟩ 1 1 (scells [behind]) (by rfl) rfl (World.news_of_block (heap_new_at _ _ _ rfl)) (by simp [scells, Value.oneCell']) (by decide) (by unfold maxLen; omega) (by omega) (by have := HS1.out; simp; omega) (w1.heap.size + 1) (by simp) ?_; intro g2 cap2 w2 hown2 hgrow2 hat2 hlt2; have hcap2 : L.length ≤ cap2 := own_cap hown2))
  go_ret
  have hb2 : Below w.heap.size w w2 := own_grown (Nat.le_refl _) HO1.out HB1.out ((Below.refl _ w1).alloc (Nat.le_refl _) _) hgrow2 hown2
  refine ⟨_, rfl, ⟨g2, cap2, rfl, ?_⟩, hb2⟩
  unfold Own
  rw [scells_append, List.length_append]
  exact hown2

set_option maxRecDepth 8000 in
set_option maxHeartbeats 1000000 in
theorem kept_any (L : List (List UInt8)) (s v : Value) (B : Nat) (w : World) (hs : Lent w B s L) (hv : Strs w v L) (hl : L.length ≤ 1000000) :
    Calls Tryz.prog 9 #[s, v] w fun e w' => e = .returned (.bool true) ∧ Below w.heap.size w w' := by
  have HS := Lib.hid hs
  have HSM := Lib.hid (same_any L L s v w hs.strs hv (by omega) (by unfold maxLen; omega))
  obtain ⟨g, c, rfl, -⟩ := hs
  obtain ⟨A, cap, rfl, -⟩ := hv
  have e1 : decide (L = L) = true := decide_eq_true rfl
  rw [e1] at HSM
  clear e1
  go_enter Tryz.func9, Tryz.ntmps9
  go_wp2_with fail
  refine HSM.out.mono ?_
  rintro e w1 ⟨rfl, hb⟩
  obtain ⟨g', hg, _, hc1, hc2, _, hcell⟩ := (HS.out.below hb).cap
  obtain rfl : g = g' := by simpa using hg
  have h1 : (L.length : Int) + 1 ≤ (c : Int) := by omega
  have h2 : (0 : Int) ≤ (L.length : Int) + 1 := by omega
  have h3 : (0 : Int) ≤ (L.length : Int) := by omega
  unfold behind at hcell
  clear hg
  go_wp2
  go_ret
  exact ⟨rfl, hb⟩

/-- One text of a row of the call's own, set. -/
theorem Own.set {w : World} {B g n cap i : Nat} {L : List (List UInt8)} (h : Own w B (.slice (some ⟨g, 0, none⟩) n cap) L) (_hi : i < L.length) (x : List UInt8) :
    Own (w.setCell ⟨g, i, none⟩ (.string ⟨x.toArray⟩)) B (.slice (some ⟨g, 0, none⟩) n cap) (L.set i x) := by
  have hn : n = L.length := by
    obtain ⟨_, _, hv⟩ := own_form h
    simp at hv
    exact hv.2.1
  subst hn
  have := (World.ownsRow.stored h i (.string ⟨x.toArray⟩)).1
  unfold Own
  rw [List.length_set]
  simpa [scells, List.map_set] using this
end Go.Proofs.YtgbcilokeiengaaGreatDoor
namespace Go.Proofs.YtgbcilokeiengaaGreatDoor
open Go.RowKit
open Go.Proofs.YtgbcilokeiengaaGreatDoor.Sto (St)

set_option maxRecDepth 8000 in
set_option maxHeartbeats 1000000 in
theorem spoilTexts_at (L : List (List UInt8)) (s : Value) (B : Nat) (w : World) (hs : Own w B s L) (hl : L.length ≤ 1000000) :
    Calls Tryz.prog 28 #[s] w fun e w' => e = .returned (.tuple #[]) ∧ Out (fun j => s.ownBlock = some j) w w' := by
  have HS := Lib.hid hs
  obtain ⟨A, cap, rfl⟩ := own_form hs
  clear hs
  go_enter Tryz.func28, Tryz.ntmps28
  go_wp2
  go_loopw [2] (fun i wr => ∃ (k : Nat) (K : List (List UInt8)), k ≤ L.length ∧ i = .int .i64 k ∧ K.length = L.length ∧ Own wr B (.slice A L.length cap) K ∧ Out (fun j => Value.ownBlock (.slice A L.length cap) = some j) w wr) (fun i _ => L.length - (intOf i).toNat)
  case atStart => exact ⟨0, L, Nat.zero_le _, rfl, rfl, HS.out, Out.refl _ _⟩
  case round =>
    obtain ⟨k, K, hk, rfl, hK, hown, hb⟩ := hrel
    by_cases hlt : k < L.length
    · have h1 : (k : Int) < (L.length : Int) := by omega
      have h0 : (0 : Int) ≤ (k : Int) := by omega
      have hf := World.ownsRow.form hown (by omega)
      obtain ⟨g, c, hv, hBg, _⟩ := hf
      obtain ⟨rfl, _⟩ : A = some ⟨g, 0, none⟩ ∧ _ := by simpa using hv
      obtain ⟨a, ha, hcell⟩ := hown.strs_at (Below.refl _ wr) k (by omega)
      obtain rfl : a = ⟨g, 0, none⟩ := by simpa using ha.symm
      rw [Addr.add_mid, Nat.zero_add] at hcell
      have hfz := World.ownsRow.frozenAt (n := K.length) (xs := scells K) (cap := cap) (by rw [hK]; have := hown; unfold Own at this; rw [hK] at this; exact this) k
      have HN := Lib.hid (hown.set (show k < K.length by omega) [97, 110, 111, 116, 104, 101, 114, 32, 111, 110, 101])
      have HB := Lib.hid (hb.setCell (p := ⟨g, k, none⟩) rfl (.string ⟨#[97, 110, 111, 116, 104, 101, 114, 32, 111, 110, 101]⟩))
      have HKL := Lib.hid hK
      obtain ⟨y, hy⟩ : ∃ y, K[k]'(by omega) = y := ⟨_, rfl⟩
      rw [hy] at hcell
      clear hv ha hown hb hy hK
      go_wp2
      exact ⟨⟨k + 1, _, by omega, by go_num, by rw [List.length_set]; exact HKL.out, HN.out, HB.out⟩, by simp [intOf]; omega⟩
    · have h1 : ¬ ((k : Int) < (L.length : Int)) := by omega
      have HB := Lib.hid hb
      clear hown hb
      go_wp2
      go_end0
      exact ⟨rfl, HB.out⟩
theorem Own.outRow {w w' : World} {B : Nat} {z s : Value} {K : List (List UInt8)} (h : Own w B z K) (hne : ∀ k, s.ownBlock = some k → k < B) (ho : Out (fun j => s.ownBlock = some j) w w') : Own w' B z K := by
  refine ⟨h.1, ?_⟩
  rcases h.2 with hn | ⟨k, cap, cur, hv, hb, hk, hr⟩
  · exact Or.inl hn
  · exact Or.inr ⟨k, cap, cur, hv, hb, ho.heap hk (fun e => by have := hne k e; omega), hr⟩

set_option maxRecDepth 100000 in
set_option maxHeartbeats 8000000 in
theorem sttells_any (g m : Nat) (S : St) (v : Value) (l : List (List UInt8)) (u : Value) (w : World) (h : StoreAt w g m S) (hv : StL w v S) (hu : Strs w u l) (hS : S.length ≤ 1000) (hl : l.length ≤ 1000) (hsh : ∀ x ∈ l, x.length ≤ 140737488351232) :
    Calls Tryz.prog 14 #[.pointer (some ⟨g, 0, none⟩), v, u] w fun e w' => e = .returned (.bool true) ∧ Below w.heap.size w w' := by
  have HH := Lib.hid h
  have HV := Lib.hid hv
  have HU := Lib.hid hu
  have HSL := Lib.hid hS
  have HLL := Lib.hid hl
  have HSH := Lib.hid hsh
  have HS1 := Lib.hid (stsums_any g m S w h (by omega))
  have HS2 := Lib.hid (fun w' (q : Below w.heap.size w w') => streach_any g m S l u w' (h.below q) (hu.below q) (by omega) (by omega) hsh)
  have HR1 := Lib.hid (fun w' (q : Below w.heap.size w w') => rstSums_any S v w' (hv.below q) (by omega))
  have HR2 := Lib.hid (fun w' (q : Below w.heap.size w w') => rstReach_any S v l u w' (hv.below q) (hu.below q) h.rise (by omega) (by omega) h.short)
  unfold RowPost at HS1 HS2 HR1 HR2
  have HKL : Hid ((Sto.keys S).length ≤ 1000) := Lib.hid (by simp [Sto.keys]; omega)
  have HRL : Hid ((Sto.reachL S l).length ≤ 1000) := Lib.hid (Nat.le_trans (Sto.reachL_len S l) hS)
  obtain ⟨K, hK⟩ : ∃ K, Sto.keys S = K := ⟨_, rfl⟩
  obtain ⟨R, hR⟩ : ∃ R, Sto.reachL S l = R := ⟨_, rfl⟩
  rw [hK] at HS1 HR1 HKL
  rw [hR] at HS2 HR2 HRL
  obtain ⟨Au, cu, rfl, -⟩ := hu
  clear h hv hS hl hsh hK hR
  go_enter Tryz.func14, Tryz.ntmps14
  go_wp2_with fail
  refine HS1.out.mono ?_
  rintro e w1 ⟨z1, rfl, hown1, hb1⟩
  have HO1 := Lib.hid hown1
  have HB1 := Lib.hid hb1
  clear hown1 hb1
  go_wp2_with fail
  refine (HS2.out _ HB1.out).mono ?_
  rintro e w2 ⟨z2, rfl, hown2, hb2⟩
  have HO2 := Lib.hid hown2
  have HP2 := Lib.hid (HO1.out.below hb2)
  have HB2 := Lib.hid (bchain HB1.out hb2)
  clear hown2 hb2
  go_wp2_with fail
  refine (HR1.out _ HB2.out).mono ?_
  rintro e w3 ⟨y1, rfl, hown3, hb3⟩
  have HB3 := Lib.hid (bchain HB2.out hb3)
  have HP3 := Lib.hid (HP2.out.below hb3)
  have HO3 := Lib.hid (HO2.out.below hb3)
  have HSM := Lib.hid (same_any K K z1 y1 w3 HP3.out.strs hown3.strs (by have := HKL.out; omega) (by have := HKL.out; unfold maxLen; omega))
  rw [decide_eq_true rfl] at HSM
  clear hown3 hb3
  go_wp2_with fail
  refine HSM.out.mono ?_
  rintro e w4 ⟨rfl, hb4⟩
  have HB4 := Lib.hid (bchain HB3.out hb4)
  have HP4 := Lib.hid (HP3.out.below hb4)
  have HO4 := Lib.hid (HO3.out.below hb4)
  clear hb4
  go_wp2_with fail
  refine (HR2.out _ HB4.out).mono ?_
  rintro e w5 ⟨y2, rfl, hown5, hb5⟩
  have HB5 := Lib.hid (bchain HB4.out hb5)
  have HP5 := Lib.hid (HP4.out.below hb5)
  have HO5 := Lib.hid (HO4.out.below hb5)
  have HSM2 := Lib.hid (same_any R R z2 y2 w5 HO5.out.strs hown5.strs (by have := HRL.out; omega) (by have := HRL.out; unfold maxLen; omega))
  rw [decide_eq_true rfl] at HSM2
  clear hown5 hb5
  go_wp2_with fail
  refine HSM2.out.mono ?_
  rintro e w6 ⟨rfl, hb6⟩
  have HB6 := Lib.hid (bchain HB5.out hb6)
  have HP6 := Lib.hid (HP5.out.below hb6)
  have HO6 := Lib.hid (HO5.out.below hb6)
  have HSP := Lib.hid (spoilTexts_at K z1 w.heap.size w6 HP6.out (by have := HKL.out; omega))
  clear hb6
  go_wp2_with fail
  refine HSP.out.mono ?_
  rintro e w7 ⟨rfl, ho7⟩
  have HB7 : Hid (Below w.heap.size w w7) := Lib.hid (HB6.out.trans (ho7.below (fun k hk => (HP6.out.lt k hk).1) HB6.out.size))
  have HO7 : Hid (Own w7 w1.heap.size z2 R) := Lib.hid (HO6.out.outRow (fun k hk => (HO1.out.lt k hk).2) ho7)
  have HSP2 := Lib.hid (spoilTexts_at R z2 w1.heap.size w7 HO7.out (by have := HRL.out; omega))
  have HZ1 : Hid (w.heap.size ≤ w1.heap.size) := Lib.hid HB1.out.size
  clear ho7
  go_wp2_with fail
  refine HSP2.out.mono ?_
  rintro e w8 ⟨rfl, ho8⟩
  have HB8 : Hid (Below w.heap.size w w8) := Lib.hid (HB7.out.trans (ho8.below (fun k hk => Nat.le_trans HZ1.out (HO7.out.lt k hk).1) HB7.out.size))
  have HI19 : Hid ((Tryz.prog.info? 72).map (·.size) = some 19) := Lib.hid (by kernel_rfl)
  clear ho8 HS1 HS2 HR1 HR2
  go_wp2
  go_loopw [9] (fun i wr => ∃ k : Nat, k ≤ l.length ∧ i = .int .i64 k ∧ Below w.heap.size w wr) (fun i _ => l.length - (intOf i).toNat)
  case atStart => exact ⟨0, Nat.zero_le _, rfl, HB8.out⟩
  case round =>
    obtain ⟨k, hk, rfl, hb⟩ := hrel
    have HB := Lib.hid hb
    by_cases hlt : k < l.length
    · have h1 : (k : Int) < (l.length : Int) := by omega
      have h0 : (0 : Int) ≤ (k : Int) := by omega
      have hnb : (k : Int) ≤ 100000 := by have := HLL.out; omega
      have hxl := HSH.out _ (List.getElem_mem hlt)
      have HCE : Hid (∀ w', Below w.heap.size w w' → ∃ a, Au = some a ∧ w'.cell? (a.add k) = some (.string ⟨(l[k]).toArray⟩)) := Lib.hid (fun w' q => by
        obtain ⟨A', cap', hv', hc'⟩ := HU.out.below q
        obtain ⟨rfl, -⟩ : Au = A' ∧ _ := by simpa using hv'
        exact hc' k hlt)
      have HG := Lib.hid (fun w' (q : Below w.heap.size w w') => stget_any g m S l[k] w' (HH.out.below q) hxl)
      have HRG := Lib.hid (fun w' (q : Below w.heap.size w w') => rstGet_any S v l[k] w' (HV.out.below q) (by have := HSL.out; omega) HH.out.rise)
      have HN := Lib.hid (fun w' (q : Below w.heap.size w w') => stnode_any g m S l[k] w' (HH.out.below q) hxl)
      have HRN := Lib.hid (fun w' (q : Below w.heap.size w w') => rstNode_any S v l[k] w' (HV.out.below q) (by have := HSL.out; omega) HH.out.rise HH.out.short)
      have hk16 : (Sto.nodeOf S l[k]).1.kids.length = 16 := by
        unfold Sto.nodeOf
        cases Sto.look S l[k] with
        | none => rfl
        | some t => exact (Sto.dec_kids t).1
      obtain ⟨x, hx⟩ : ∃ x, l[k] = x := ⟨_, rfl⟩
      rw [hx] at HCE HG HRG HN HRN hk16
      obtain ⟨t, ht⟩ : ∃ t, (Sto.look S x).getD [] = t := ⟨_, rfl⟩
      obtain ⟨b, hbb⟩ : ∃ b, (Sto.look S x).isSome = b := ⟨_, rfl⟩
      obtain ⟨⟨nd, c⟩, hnc⟩ : ∃ n, Sto.nodeOf S x = n := ⟨_, rfl⟩
      rw [ht, hbb] at HG HRG
      rw [hnc] at HN HRN hk16
      dsimp only at HN HRN hk16
      have heq : ∀ w, (Op.equalIn 10000 72 (ndval nd) (ndval nd)).run Tryz.prog w = .ok true w := fun w => by
        have := eq_nodes nd nd w hk16 hk16
        rw [decide_eq_true (rfl : nd = nd)] at this
        exact this
      have HON := Lib.hid (ncl_one nd)
      have HSN : Hid ((ncl nd).toArray.size = 19) := Lib.hid (by rw [List.size_toArray, ncl_length nd hk16])
      unfold ndval at HN HRN heq
      obtain ⟨C, hC⟩ : ∃ C, (ncl nd).toArray = C := ⟨_, rfl⟩
      rw [hC] at HN HRN heq HON HSN
      have HI : Hid ((Tryz.prog.info? 72).map (·.size) = some C.size) := Lib.hid (by rw [HSN.out]; exact HI19.out)
      obtain ⟨a, rfl, c1⟩ := HCE.out _ hb
      have HCF : Hid (∀ w', Below w.heap.size w w' → w'.cell? (a.add k) = some (.string ⟨x.toArray⟩)) := Lib.hid (fun w' q => by
        obtain ⟨a', e, hc'⟩ := HCE.out w' q
        obtain rfl : a = a' := by simpa using e
        exact hc')
      have htt : (t != t) = false := by simp
      have hbx : (b != b) = false := by simp
      have hcc : (c != c) = false := by simp
      clear hb hx ht hbb hnc hk16 hxl hC HCE
      go_wp2_with fail
      refine (HG.out _ HB.out).mono ?_
      rintro e wa ⟨rfl, ha⟩
      have HA := Lib.hid (bchain HB.out ha)
      have c2 := HCF.out _ HA.out
      clear ha c1
      go_wp2_with fail
      refine (HRG.out _ HA.out).mono ?_
      rintro e wb ⟨rfl, hb⟩
      have HBb := Lib.hid (bchain HA.out hb)
      have c3 := HCF.out _ HBb.out
      clear hb c2
      go_wp2_with fail
      refine (HN.out _ HBb.out).mono ?_
      rintro e wc ⟨rfl, hc⟩
      have HC := Lib.hid (bchain HBb.out hc)
      have HC1 : Hid (Below w.heap.size w (wc.alloc (.cells C 72))) := Lib.hid (HC.out.alloc HC.out.size _)
      have HQ1 : Hid ((wc.alloc (.cells C 72)).heap[wc.heap.size]? = some (.cells C 72 (0, 0))) := Lib.hid (heap_new_at wc _ _ rfl)
      have c4 := HCF.out _ HC1.out
      clear hc c3
      go_wp2_with (refine wpList_store_fresh (by rfl) _ _ _ (by rfl) wc.heap.size rfl C (by rfl) (by rfl) _ _ HI.out HSN.out.symm HON.out ?_)
      refine (HRN.out _ HC1.out).mono ?_
      rintro e wd ⟨rfl, hd⟩
      have HD := Lib.hid (bchain HC1.out hd)
      have HD1 : Hid (Below w.heap.size w (wd.alloc (.cells C 72))) := Lib.hid (HD.out.alloc HD.out.size _)
      have HQ2 : Hid ((wd.alloc (.cells C 72)).heap[wc.heap.size]? = some (.cells C 72 (0, 0))) := Lib.hid (heap_old_at _ ((hd.block _ (lt_of_heap HQ1.out)).trans HQ1.out))
      have HQ3 : Hid ((wd.alloc (.cells C 72)).heap[wd.heap.size]? = some (.cells C 72 (0, 0))) := Lib.hid (heap_new_at wd _ _ rfl)
      clear hd c4
      go_wp2_with (first | (refine wpList_store_fresh (by rfl) _ _ _ (by rfl) wd.heap.size rfl C (by rfl) (by rfl) _ _ HI.out HSN.out.symm HON.out ?_) | (refine wpList_load_row_w (by rfl) _ _ (by rfl) wc.heap.size (by rfl) _ C _ _ HQ2.out Tryz.underlying72 (by rfl) HI.out ?_) | (refine wpList_load_row_w (by rfl) _ _ (by rfl) wd.heap.size (by rfl) _ C _ _ HQ3.out Tryz.underlying72 (by rfl) HI.out ?_))
      exact ⟨⟨k + 1, by omega, by go_num, HD1.out⟩, by simp [intOf]; omega⟩
    · have h1 : ¬ ((k : Int) < (l.length : Int)) := by omega
      clear hb
      go_wp2
      go_ret
      exact ⟨rfl, HB.out⟩
end Go.Proofs.YtgbcilokeiengaaGreatDoor
