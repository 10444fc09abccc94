import Derived.Test.YtaficmboooaknaaGreatDoorPp10
import Derived.Test.YtaficmboooaknaaGreatDoorPp08
import Derived.Deep.OwnRows
import Derived.Test.YtaficmboooaknaaGreatDoorPp07
import Derived.Test.YtaficmboooaknaaGreatDoorPp04
import Derived.Test.YtaficmboooaknaaGreatDoorPp03
import Derived.Test.YtaficmboooaknaaGreatDoorPp02
import Derived.Deep.RegionHeld3
import Derived.Test.YtaficmboooaknaaGreatDoorPp01
import Derived.Maps.OwnSet
import Derived.Maps.RangeRun
import Derived.Maps.Range
import Derived.Shelf.Strconv.Itoa0
import Derived.Shelf.LaysM
import Derived.Shelf.Strconv.Clone
import Derived.Shelf.Sort.Plain
import Derived.Shelf.Slices.In.SortNone
import Derived.Test.YtaficmboooaknaaGreatDoorChecked
import Derived.Shelf.SlIter.Sorted
import Derived.Shelf.SlMaps.Clone
set_option maxRecDepth 100000
set_option maxHeartbeats 16000000
namespace Go.Proofs.YtaficmboooaknaaGreatDoor
section
open Go.RowKit
theorem conv_byte (w:World) (x:Int):(convert 126 9 (.slice (some ⟨w.heap.size,0,none⟩) 1 1)).run Tryz.prog (w.alloc (.cells #[.int .u8 (x % 256)] 5))=.ok (.string ⟨[Sha.byteOf x].toArray⟩) (w.alloc (.cells #[.int .u8 (x % 256)] 5)):=by
  have hg:=heap_alloc_new w (.cells #[.int .u8 (x % 256)] 5)
  refine run_convert_bytes_back (P:=Tryz.prog) _ 126 9 5 ⟨w.heap.size,0,none⟩ 1 [Sha.byteOf x] Tryz.underlying126 Tryz.underlying5 Tryz.underlying9 ?_
  intro j hj
  rw [Addr.add_mid,Nat.zero_add,cell_of_row _ _ j _ _ _ hg]
  match j,hj with
  | 0,_=>simp [Sha.byteOf_toNat]
theorem conv_zeros (w:World) (z:Nat):(convert 126 9 (.slice (some ⟨w.heap.size,0,none⟩) z z)).run Tryz.prog (w.alloc (.cells (madeCells #[.int .u8 0] z) 5))=.ok (.string ⟨(List.replicate z (0:UInt8)).toArray⟩) (w.alloc (.cells (madeCells #[.int .u8 0] z) 5)):=by
  obtain ⟨cs,h1,_,h3⟩:=World.rowIs_made w (.int .u8 0) z 5
  have hlz:(List.replicate z (0:UInt8)).length=z:=by simp
  have:=run_convert_bytes_back (P:=Tryz.prog) (w.alloc (.cells (madeCells #[.int .u8 0] z) 5)) 126 9 5 ⟨w.heap.size,0,none⟩ z (List.replicate z 0) Tryz.underlying126 Tryz.underlying5 Tryz.underlying9 (by
    intro j hj
    rw [Addr.add_mid,Nat.zero_add,cell_of_row _ _ j _ _ _ h1,h3 j (by simpa using hj)]
    simp)
  rwa [hlz] at this
theorem info64y:(Tryz.prog.info? 175).map (·.size)=some 64:=by kernel_rfl
theorem rsum_any (s:List UInt8) (w:World) (hn:s.length<=1000):
    Calls Tryz.prog 85 #[.string ⟨s.toArray⟩] w fun e w'=>e=.returned (.string ⟨(Sha.sumP s).toArray⟩)/\Below w.heap.size w w':=by
  obtain ⟨n,hnn⟩:∃ n,s.length=n:=⟨_,rfl⟩
  have hn':n<=1000:=by omega
  obtain ⟨m,hm⟩:∃ m:Nat,n % 64=m:=⟨_,rfl⟩
  obtain ⟨z,hz⟩:∃ z:Nat,z=(119 - n % 64) % 64:=⟨_,rfl⟩
  have hzb:z<=63:=by omega
  have m1:(n:Int).tmod 64=(m:Int):=by rw [Int.tmod_eq_emod_of_nonneg (by omega)]; omega
  have m2:(n:Int) % 64=(m:Int):=by omega
  have z1:(119 - (m:Int)).tmod 64=(z:Int):=by rw [Int.tmod_eq_emod_of_nonneg (by omega)]; omega
  have z2:(119 - (m:Int)) % 64=(z:Int):=by omega
  have htail:=Sha.tailP_is n z hz
  have HT:Hid (Sha.sumP s=Sha.joinP (Sha.wordsP (s ++ Sha.tailP n))):=qh (by unfold Sha.sumP; rw [hnn])
  have HTA:=qh htail
  have hsz:s.length=n:=hnn
  have hmb:m < 64:=by omega
  clear htail hz hm hn hnn
  go_enter Tryz.func85,Tryz.ntmps85
  go_wp2
  go_loopw [4,5,6] (fun b t i wr=>∃ k:Nat,k<=8/\i=.int .i64 k/\b=.int .i64 ((n * 8 / 256 ^ k:Nat):Int)/\t=.string ⟨(Sha.endR (n * 8) k).toArray⟩/\Below w.heap.size w wr) (fun _ _ i _=>8 - (intOf i).toNat)
  case atStart=>exact ⟨0,by omega,rfl,by simp,rfl,Below.refl _ _⟩
  case round=>
    obtain ⟨k,hk,rfl,rfl,rfl,hb⟩:=hrel
    have HB:=qh hb
    clear hb
    by_cases hlt:k < 8
    · have hk8:(k:Int) < 8:=by omega
      have hnx:Sha.endR (n * 8) (k+1)=Sha.byteOf ((n * 8 / 256 ^ k:Nat):Int) :: Sha.endR (n * 8) k:=rfl
      have hdv:n * 8 / 256 ^ (k+1)=n * 8 / 256 ^ k / 256:=by rw [Nat.pow_succ,Nat.div_div_eq_div_mul]
      have hel:=Sha.endR_length (n * 8) k
      have hble:n * 8 / 256 ^ k<=8000:=Nat.le_trans (Nat.div_le_self _ _) (by omega)
      obtain ⟨b,hbb⟩:∃ b,n * 8 / 256 ^ k=b:=⟨_,rfl⟩
      obtain ⟨E,hE⟩:∃ E,Sha.endR (n * 8) k=E:=⟨_,rfl⟩
      obtain ⟨E',hE'⟩:∃ E',Sha.endR (n * 8) (k+1)=E':=⟨_,rfl⟩
      rw [hbb] at hnx hdv hble ⊢
      rw [hE] at hnx hel ⊢
      rw [hE'] at hnx
      have hcm:=cat_mk [Sha.byteOf (b:Int)] E
      have hcons:[Sha.byteOf (b:Int)] ++ E=E':=hnx.symm
      rw [hcons] at hcm
      have kc:=fun w=>conv_byte w (b:Int)
      have hEl:E.length<=8:=by omega
      have HD:=qh hdv
      have HE:=qh hE'
      have b1:(b:Int).tmod 256=(b:Int) % 256:=Int.tmod_eq_emod_of_nonneg (by omega)
      have b2:(b:Int).tdiv 256=(b:Int) / 256:=Int.tdiv_eq_ediv_of_nonneg (by omega)
      clear hnx hdv hel hbb hE hE' hcons
      go_wp2
      go_roundw
      case rel=>exact ⟨k+1,by omega,by go_num,by rw [HD.out]; simp,by rw [HE.out],HB.out.alloc HB.out.size _⟩
      case measure=>simp [intOf]; omega
    · obtain rfl:k=8:=by omega
      have hno:¬ ((8:Nat):Int) < 8:=by omega
      have hel:=Sha.endR_length (n * 8) 8
      obtain ⟨E,hE⟩:∃ E,Sha.endR (n * 8) 8=E:=⟨_,rfl⟩
      rw [hE] at hel HTA ⊢
      obtain ⟨S1,hS1⟩:∃ S1,s ++ [128]=S1:=⟨_,rfl⟩
      obtain ⟨S2,hS2⟩:∃ S2,S1 ++ List.replicate z 0=S2:=⟨_,rfl⟩
      obtain ⟨ALL,hALL⟩:∃ S3,S2 ++ E=S3:=⟨_,rfl⟩
      have c1:=cat_mk s [128]
      have c2:=cat_mk S1 (List.replicate z 0)
      have c3:=cat_mk S2 E
      rw [hS1] at c1
      rw [hS2] at c2
      rw [hALL] at c3
      have l1:S1.length=n+1:=by rw [← hS1]; simp; omega
      have l2:S2.length=n+1+z:=by rw [← hS2]; simp; omega
      have l3:ALL.length=n+1+z+8:=by rw [← hALL]; simp; omega
      have HALL:Hid (ALL=s ++ Sha.tailP n):=qh (by rw [HTA.out,← hALL,← hS2,← hS1]; simp)
      obtain ⟨Q,hQ⟩:∃ Q,ALL.length=64 * Q:=⟨(n+1+z+8) / 64,by omega⟩
      have hQb:Q<=20:=by omega
      have hlz:(List.replicate z (0:UInt8)).length=z:=by simp
      have hmk:=fun w=>run_make_row' (P:=Tryz.prog) 126 5 (.int .u8 0) 1 Tryz.underlying126 Tryz.infoByte rfl .i64 .i64 z (by omega) (by omega) w
      have hkz:=fun w=>conv_zeros w z
      obtain ⟨Zs,hZs⟩:∃ Zs,List.replicate z (0:UInt8)=Zs:=⟨_,rfl⟩
      obtain ⟨MC,hMC⟩:∃ MC,madeCells #[.int .u8 0] z=MC:=⟨_,rfl⟩
      rw [hZs] at c2 hlz hkz
      rw [hMC] at hkz hmk
      have b1:S1.length<=2000:=by omega
      have b2:S2.length<=2000:=by omega
      have b3:ALL.length<=2000:=by omega
      have b4:s.length<=1000:=by omega
      have b5:Zs.length<=64:=by omega
      have b6:E.length<=8:=by omega
      have HQ:=qh hQ
      have hf:=rfirst_any
      simp only [Sha.St.list,u32s,List.map_cons,List.map_nil,Sha.first] at hf
      have HF:=qh hf
      clear hE hS1 hS2 hALL hlt hk hZs hMC hQ l1 l2 l3 hlz hel hf
      go_wp2_with fail
      refine (HF.out _).mono ?_
      rintro e w2 ⟨rfl,hb2⟩
      have HB2:=qh ((HB.out.alloc HB.out.size (.cells MC 5)).trans (hb2.mono (HB.out.alloc HB.out.size (.cells MC 5)).size))
      clear hb2 hkz hmk c1 c2 c3 b1 b2 b5 b6
      go_wp2
      obtain ⟨g,hg⟩:∃ g,w2.heap.size=g:=⟨_,rfl⟩
      have HGG:=qh hg
      have HGW:Hid (w.heap.size<=g):=qh (by rw [← hg]; exact HB2.out.size)
      rw [hg]
      clear hg
      go_loopw [9] (fun i wr=>∃ k:Nat,k<=Q/\i=.int .i64 ((64 * k:Nat):Int)/\Below w.heap.size w wr/\wr.heap[g]?=some (.cells (u32s (Sha.absorb ALL k).list) 173 (0,0))) (fun i _=>64 * Q - (intOf i).toNat)
      case atStart=>
        refine ⟨0,Nat.zero_le _,rfl,HB2.out.alloc HB2.out.size _,?_⟩
        exact heap_new_at _ _ _ HGG.out.symm
      case round=>
        obtain ⟨k,hk,rfl,hb,hgr⟩:=hrel
        obtain ⟨S,hS⟩:∃ S,Sha.absorb ALL k=S:=⟨_,rfl⟩
        obtain ⟨RS,hRS⟩:∃ R,u32s S.list=R:=⟨_,rfl⟩
        rw [hS,hRS] at hgr
        have HS:=qh hS
        have HRS:=qh hRS
        have HBR:=qh hb
        have HGR:=qh hgr
        have hRz:RS.size=8:=by rw [← hRS]; rfl
        have HRI:Hid ((Tryz.prog.info? 173).map (·.size)=some RS.size):=qh (by rw [hRz]; exact info8w)
        by_cases hlt:k < Q
        · have hle:((64 * k:Nat):Int)+64<=(ALL.length:Int):=by have:=HQ.out; omega
          obtain ⟨X,hX⟩:∃ X,(ALL.drop (64 * k)).take 64=X:=⟨_,rfl⟩
          have hXl:X.length=64:=by rw [← hX]; simp; have:=HQ.out; omega
          have hXat:∀ j,j < 64->ALL.getD (64 * k+j) 0=X.getD j 0:=fun j hj=>by rw [← hX]; simp [hj]
          have hnx:Sha.absorb ALL (k+1)=Sha.blockP S X:=by rw [← hX,← hS]; rfl
          have hblk:=fun w'=>rblock_any S X w' hXl
          rw [Sha.blockR_is] at hblk
          obtain ⟨T,hT⟩:∃ T,Sha.blockP S X=T:=⟨_,rfl⟩
          obtain ⟨RT,hRT⟩:∃ R,u32s T.list=R:=⟨_,rfl⟩
          rw [hT,hRT,hRS] at hblk
          rw [hT] at hnx
          obtain ⟨XB,hXB⟩:∃ X',u8s X=X':=⟨_,rfl⟩
          rw [hXB] at hblk
          have HBLK:=qh hblk
          have HNX:=qh hnx
          have HRT:=qh hRT
          have HXA:=qh hXat
          have HXL:=qh hXl
          have HXB:=qh hXB
          have hTz:RT.size=8:=by rw [← hRT]; rfl
          have HTI:Hid ((Tryz.prog.info? 173).map (·.size)=some RT.size):=qh (by rw [hTz]; exact info8w)
          have HT1:Hid (RT.all (·.oneCell')=true):=qh (by rw [← hRT]; exact u32s_one _)
          have HRTz:Hid (RS.size=RT.size):=qh (by rw [hRz,hTz])
          obtain ⟨i0,hi0⟩:∃ i0,64 * k=i0:=⟨_,rfl⟩
          rw [hi0] at hle HXA ⊢
          have HI0:=qh hi0
          have hi2000:i0<=2000:=by omega
          clear hS hRS hb hgr hRz hX hXl hXat hnx hblk hT hRT hTz hi0 hXB
          go_wp2
          obtain ⟨pb,hpb⟩:∃ pb,wr.heap.size=pb:=⟨_,rfl⟩
          have HGP:Hid (g < pb):=qh (by rw [← hpb]; exact lt_of_heap HGR.out)
          have HWP:Hid (w.heap.size<=pb):=qh (by rw [← hpb]; exact HBR.out.size)
          have HSt1:Hid (Below w.heap.size w (wr.alloc (.cells (u8s (List.replicate 64 0)) 175))):=qh (HBR.out.alloc HBR.out.size _)
          have HSt2:Hid ((wr.alloc (.cells (u8s (List.replicate 64 0)) 175)).heap[g]?=some (.cells RS 173 (0,0))):=qh (heap_old_at _ HGR.out)
          have HSt3:Hid ((wr.alloc (.cells (u8s (List.replicate 64 0)) 175)).heap[pb]?=some (.cells (u8s (Sha.copyR X 0)) 175 (0,0))):=qh (heap_new_at _ _ _ hpb.symm)
          rw [hpb]
          clear hpb
          go_loopw [11] (fun i wr=>∃ j:Nat,j<=64/\i=.int .i64 j/\Below w.heap.size w wr/\wr.heap[g]?=some (.cells RS 173 (0,0))/\wr.heap[pb]?=some (.cells (u8s (Sha.copyR X j)) 175 (0,0))) (fun i _=>64 - (intOf i).toNat)
          case atStart=>exact ⟨0,by omega,rfl,HSt1.out,HSt2.out,HSt3.out⟩
          case round=>
            clear HSt1 HSt2 HSt3 HBR HGR
            obtain ⟨j,hj,rfl,hb,hgr,hpr⟩:=hrel
            obtain ⟨F,hF⟩:∃ F,Sha.copyR X j=F:=⟨_,rfl⟩
            have hFl:F.length=64:=by rw [← hF,Sha.copyR_length]
            rw [hF] at hpr
            have HF:=qh hF
            have HBR:=qh hb
            have HGR:=qh hgr
            have HPR:=qh hpr
            by_cases hj64:j < 64
            · have hjI:(j:Int) < 64:=by omega
              have co:wr.cell? ⟨pb,j,none⟩=some (.int .u8 ((F.getD j 0).toNat:Int)):=(cell_of_row wr _ j _ _ _ hpr).trans (u8s_at F j (by omega))
              obtain ⟨old,hold⟩:∃ o,((F.getD j 0).toNat:Int)=o:=⟨_,rfl⟩
              rw [hold] at co
              have fo:=frozen_of_row wr _ j _ _ hpr
              have hin:i0+j < ALL.length:=by omega
              have hat:=HXA.out j hj64
              have hnn:Sha.copyR X (j+1)=F.set j (X.getD j 0):=by rw [← hF]; rfl
              obtain ⟨c,hc⟩:∃ c,X.getD j 0=c:=⟨_,rfl⟩
              rw [hc] at hat hnn
              have hix:∀ h,(⟨ALL.toArray⟩:ByteArray)[i0+j]'h=c:=fun h=>by
                rw [← hat]
                simp [hin]
                rfl
              have e0:((i0:Int)+(j:Int)).toNat=i0+j:=by omega
              have hinI:(i0:Int)+(j:Int) < (ALL.length:Int):=by omega
              have HNN:=qh hnn
              clear hb hgr hpr hF hFl hold hat hnn hc
              go_wp2
              go_roundw
              case rel=>
                have hgp:=HGP.out
                refine ⟨j+1,by omega,by go_num,HBR.out.setCell HWP.out _,(Below.heap_setCell _ _ _ _ (by dsimp only; omega)).trans HGR.out,?_⟩
                rw [HNN.out,← u8s_set]
                exact heap_setCell_same _ _ _ _ _ _ HPR.out
              case measure=>simp [intOf]; omega
            · obtain rfl:j=64:=by omega
              have hno64:¬ ((64:Nat):Int) < 64:=by omega
              have HXF:Hid (u8s F=XB):=qh (by rw [← HF.out,Sha.copyR_all X HXL.out,HXB.out])
              rw [HXF.out] at HPR
              have HXI:Hid ((Tryz.prog.info? 175).map (·.size)=some XB.size):=qh (by rw [← HXB.out,u8s_size,HXL.out]; exact info64y)
              clear hj64 hj hb hgr hpr hF hFl
              go_wp2_with (first | (refine wpList_load_row (by rfl) _ _ (by rfl) g (by rfl) _ RS _ _ HGR.out Tryz.underlying173 (by rfl) HRI.out ?_) | (refine wpList_load_row (by rfl) _ _ (by rfl) pb (by rfl) _ XB _ _ HPR.out Tryz.underlying175 (by rfl) HXI.out ?_))
              refine (HBLK.out _).mono ?_
              rintro e w6 ⟨rfl,hb6⟩
              have HG6:=qh ((hb6.block g (lt_of_heap HGR.out)).trans HGR.out)
              have HB6:=qh (HBR.out.trans (hb6.mono HBR.out.size))
              clear hb6
              go_wp2_with (refine wpList_store_row (by rfl) _ _ _ (by rfl) g RT (by rfl) (by rfl) _ _ HG6.out HTI.out HRTz.out HT1.out ?_)
              go_roundw
              case rel=>exact ⟨k+1,by omega,by rw [← HI0.out]; go_num,below_setRow HB6.out HGW.out _,by rw [HNX.out,HRT.out]; exact setRow_heap _ _ _ _ _ _ HG6.out⟩
              case measure=>have:=HQ.out; have:=HI0.out; simp [intOf]; omega
        · obtain rfl:k=Q:=by omega
          have hno:¬ (((64 * k:Nat):Int)+64<=(ALL.length:Int)):=by have:=HQ.out; omega
          have HTO:=qh (rtold_any S wr)
          rw [hRS] at HTO
          have HFI:Hid (Sha.sumP s=Sha.joinP S):=qh (by
            rw [HT.out,← HALL.out,← HS.out]
            unfold Sha.wordsP
            rw [HQ.out,Nat.mul_div_cancel_left _ (by omega)])
          obtain ⟨i0,hi0⟩:∃ i0,64 * k=i0:=⟨_,rfl⟩
          rw [hi0] at hno ⊢
          have hi2000:i0<=2000:=by omega
          clear hS hRS hb hgr hRz hlt hk hi0
          go_wp2_with (refine wpList_load_row (by rfl) _ _ (by rfl) g (by rfl) _ RS _ _ HGR.out Tryz.underlying173 (by rfl) HRI.out ?_)
          refine HTO.out.mono ?_
          rintro e w6 ⟨rfl,hb6⟩
          go_wp2
          go_ret
          exact ⟨by rw [HFI.out]; rfl,HBR.out.trans (hb6.mono HBR.out.size)⟩
end
section
open Go.RowKit
theorem rTagged_any (t:Int) (s:List UInt8) (w:World) (hs:s.length<=999):
    Calls Tryz.prog 50 #[.int .i64 t,.string ⟨s.toArray⟩] w fun e w'=>e=.returned (.string ⟨(Sha.sumP (Sha.byteOf t :: s)).toArray⟩)/\Below w.heap.size w w':=by
  have HS:=qh (fun w=>rsum_any (Sha.byteOf t :: s) w (by simp; omega))
  obtain ⟨R,hR⟩:∃ R,Sha.sumP (Sha.byteOf t :: s)=R:=⟨_,rfl⟩
  rw [hR] at HS ⊢
  have hcm:=cat_mk [Sha.byteOf t] s
  have kc:=fun w=>conv_tag w t
  rw [List.singleton_append] at hcm
  clear hR
  go_enter Tryz.func50,Tryz.ntmps50
  go_wp2_with fail
  have hB1:Below w.heap.size w (w.alloc (.cells #[.int .u8 (t % 256)] 5)):=(Below.refl _ w).alloc (Nat.le_refl _) _
  refine (HS.out _).mono ?_
  rintro e w2 ⟨rfl,hb2⟩
  go_wp2
  go_ret
  exact ⟨rfl,bchain hB1 hb2⟩
end
section
open Go.RowKit
open Go.Proofs.YtaficmboooaknaaGreatDoor.Nd (N)
def Nd.sumS (n:N):List UInt8:=if Nd.fine n then Dig.sum 1 (Nd.written n) else []
theorem ndigest_any (n:N) (w:World) (hn:n.kids.length=16) (hT:Tab w):
    Calls Tryz.prog 100 #[ndval n] w fun e w'=>e=.returned (.string ⟨(Nd.sumS n).toArray⟩)/\Below w.heap.size w w':=by
  obtain ⟨C,hC,HB0,HCE,HI,HI2⟩:=nbox n w hn
  have HE:=qh (fun w=>nencode_any n w hn)
  have HTW:=qh (fun w' (h:Below w.heap.size w w')=>hT.below h)
  unfold Nd.sumS
  unfold Nd.encS Nd.encC ndval at HE
  unfold ndval
  rw [hC] at HE ⊢
  obtain ⟨-,-,-,-,-,cR⟩:=HCE.out _ (Below.refl _ _)
  have HRO:=qh cR
  clear hC cR hT
  cases hf:Nd.fine n with
  | false=>
    rw [hf] at HE
    rw [if_neg (by decide)]
    rw [if_neg (by decide),if_neg (by decide)] at HE
    clear hf
    go_enter Tryz.func100,Tryz.ntmps100
    go_wp2_with (refine wpList_load_row (by rfl) _ _ (by rfl) w.heap.size (by rfl) _ C _ _ HRO.out Tryz.underlying110 (by rfl) HI.out ?_)
    refine (HE.out _).mono ?_
    rintro e w1 ⟨rfl,hb1⟩
    go_wp2
    go_ret
    exact ⟨rfl,bchain HB0.out hb1⟩
  | true=>
    have hl:=Nd.written_most n hn hf
    rw [hf] at HE
    rw [if_pos rfl]
    rw [if_pos rfl,if_pos rfl] at HE
    obtain ⟨T,hT⟩:∃ T,Nd.written n=T:=⟨_,rfl⟩
    rw [hT] at HE hl ⊢
    have HL:=qh hl
    obtain ⟨S,hS⟩:∃ S,Dig.sum 1 T=S:=⟨_,rfl⟩
    have HSU:Hid (∀ w',Tab w'->Calls Tryz.prog 115 #[.int .i64 1,.string ⟨T.toArray⟩] w' fun e w''=>e=.returned (.tuple #[.string ⟨S.toArray⟩,.int .i64 0])/\Below w'.heap.size w' w''):=qh (fun w' h=>by
      have:=dsum_any 1 T w' h (by omega)
      rw [hS,show Dig.sumC 1=0 from by decide] at this
      exact this)
    rw [hS]
    clear hf hT hl hS
    go_enter Tryz.func100,Tryz.ntmps100
    go_wp2_with (refine wpList_load_row (by rfl) _ _ (by rfl) w.heap.size (by rfl) _ C _ _ HRO.out Tryz.underlying110 (by rfl) HI.out ?_)
    refine (HE.out _).mono ?_
    rintro e w1 ⟨rfl,hb1⟩
    have HB1:=qh (bchain HB0.out hb1)
    clear hb1
    go_wp2_with fail
    refine (HSU.out _ (HTW.out _ HB1.out)).mono ?_
    rintro e w2 ⟨rfl,hb2⟩
    go_wp2
    go_ret
    exact ⟨rfl,bchain HB1.out hb2⟩
theorem rndigest_any (n:N) (w:World) (hn:n.kids.length=16) (hp:n.path.length<=1000000):
    Calls Tryz.prog 142 #[ndval n] w fun e w'=>e=.returned (.string ⟨(Nd.sumS n).toArray⟩)/\Below w.heap.size w w':=by
  obtain ⟨C,hC,HB0,HCE,HI,HI2⟩:=nbox n w hn
  have HF:=qh (fun w=>rFine_any n w hn hp)
  have HW:=qh (fun w h=>rWritten_any n w hn h)
  unfold Nd.sumS
  unfold ndval at HF HW ⊢
  rw [hC] at HF HW ⊢
  have HRR:Hid (∀ w',Below (w.alloc (.cells C 110)).heap.size (w.alloc (.cells C 110)) w'->w'.heap[w.heap.size]?=some (.cells C 110 (0,0))):=qh (fun w' h=>(HCE.out w' h).2.2.2.2.2)
  have HRO:=qh (HRR.out _ (Below.refl _ _))
  clear hC
  cases hf:Nd.fine n with
  | false=>
    rw [hf] at HF
    rw [if_neg (by decide)]
    clear hf
    go_enter Tryz.func142,Tryz.ntmps142
    go_wp2_with (refine wpList_load_row (by rfl) _ _ (by rfl) w.heap.size (by rfl) _ C _ _ HRO.out Tryz.underlying110 (by rfl) HI.out ?_)
    refine (HF.out _).mono ?_
    rintro e w1 ⟨rfl,hb1⟩
    go_wp2
    go_ret
    exact ⟨rfl,bchain HB0.out hb1⟩
  | true=>
    have HWW:=qh (fun w=>HW.out w hf)
    have hl:=Nd.written_most n hn hf
    rw [hf] at HF
    rw [if_pos rfl]
    obtain ⟨T,hT⟩:∃ T,Nd.written n=T:=⟨_,rfl⟩
    rw [hT] at HWW hl ⊢
    obtain ⟨S,hS⟩:∃ S,Dig.sum 1 T=S:=⟨_,rfl⟩
    have HTG:Hid (∀ w',Calls Tryz.prog 50 #[.int .i64 1,.string ⟨T.toArray⟩] w' fun e w''=>e=.returned (.string ⟨S.toArray⟩)/\Below w'.heap.size w' w''):=qh (fun w'=>by
      have:=rTagged_any 1 T w' (by omega)
      rw [← hS]
      exact this)
    rw [hS]
    clear hf hT hl hS
    go_enter Tryz.func142,Tryz.ntmps142
    go_wp2_with (refine wpList_load_row (by rfl) _ _ (by rfl) w.heap.size (by rfl) _ C _ _ HRO.out Tryz.underlying110 (by rfl) HI.out ?_)
    refine (HF.out _).mono ?_
    rintro e w1 ⟨rfl,hb1⟩
    have HR1:=qh (HRR.out _ hb1)
    have HB1:=qh (bchain HB0.out hb1)
    clear hb1
    go_wp2_with (refine wpList_load_row (by rfl) _ _ (by rfl) w.heap.size (by rfl) _ C _ _ HR1.out Tryz.underlying110 (by rfl) HI.out ?_)
    refine (HWW.out _).mono ?_
    rintro e w2 ⟨rfl,hb2⟩
    have HB2:=qh (bchain HB1.out hb2)
    clear hb2
    go_wp2_with fail
    refine (HTG.out _).mono ?_
    rintro e w3 ⟨rfl,hb3⟩
    go_wp2
    go_ret
    exact ⟨rfl,bchain HB2.out hb3⟩
end
section
open Go.RowKit
open Go.Proofs.YtaficmboooaknaaGreatDoor.Nd (N)
namespace Tri
open Sto (T)
def Tr.kind:Tr->Nat
  | .nil=>0
  | .leaf _ _=>1
  | .ext _ _=>2
  | .br _ _=>3
def Tr.pth:Tr->T
  | .leaf p _=>p
  | .ext p _=>p
  | _=>[]
def Tr.vl:Tr->T
  | .leaf _ v=>v
  | .br v _=>v
  | _=>[]
def Tr.kid:Tr->Fin 16->Tr
  | .ext _ t,i=>if i=0 then t else .nil
  | .br _ k,i=>k i
  | _,_=>.nil
theorem kid_ind {P:Tr->Prop} (h0:P .nil) (h:∀ t:Tr,¬ t.isNil->(∀ i,P (t.kid i))->P t) (t:Tr):P t:=by
  induction t with
  | nil=>exact h0
  | leaf p v=>exact h _ id fun i=>h0
  | ext p t ih=>
    refine h _ id fun i=>?_
    simp only [Tr.kid]
    split
    · exact ih
    · exact h0
  | br v k ih=>exact h _ id ih
theorem kid_ext {t u:Tr} (h1:t.kind=u.kind) (h2:t.pth=u.pth) (h3:t.vl=u.vl) (h4:∀ i,t.kid i=u.kid i):t=u:=by
  cases t <;> cases u <;> simp_all [Tr.kind,Tr.pth,Tr.vl,Tr.kid]
  · have:=h4 0
    simpa using this
  · funext i; exact h4 i
theorem rep_ofFn (a:T):a :: List.replicate 15 []=List.ofFn fun i:Fin 16=>if i=0 then a else []:=by
  simp [List.ofFn_succ,List.replicate]
theorem rep_ofFn0:List.replicate 16 ([]:T)=List.ofFn fun _:Fin 16=>[]:=by simp [List.ofFn_succ,List.replicate]
theorem node_kid (dg:N->T) {t:Tr} (h:¬ t.isNil):t.node dg=⟨t.kind,t.pth,t.vl,List.ofFn fun i=>(t.kid i).sum dg⟩:=by
  cases t with
  | nil=>exact absurd trivial h
  | leaf p v=>simp only [Tr.node,Tr.kind,Tr.pth,Tr.vl,Tr.kid,Tr.sum,rep_ofFn0]; rfl
  | ext p t=>
    simp only [Tr.node,Tr.kind,Tr.pth,Tr.vl,rep_ofFn]
    congr 2
    funext i
    simp only [Tr.kid]
    split <;> rfl
  | br v k=>rfl
theorem kind_nil {t:Tr}:t.kind=0 ↔ t.isNil:=by cases t <;> simp [Tr.kind,Tr.isNil]
theorem kid_canon {t:Tr} (h:t.canon) (i:Fin 16):(t.kid i).canon:=by
  cases t with
  | nil=>trivial
  | leaf p v=>trivial
  | ext p t=>
    simp only [Tr.kid]; split
    · exact h.2.2
    · trivial
  | br v k=>exact h.1 i
theorem kid_fits {t:Tr} (h:t.fits) (i:Fin 16):(t.kid i).fits:=by
  cases t with
  | nil=>trivial
  | leaf p v=>trivial
  | ext p t=>
    simp only [Tr.kid]; split
    · exact h.2
    · trivial
  | br v k=>exact h i
theorem kid_small {t:Tr} (h:t.small) (i:Fin 16):(t.kid i).small:=by
  cases t with
  | nil=>trivial
  | leaf p v=>trivial
  | ext p t=>
    simp only [Tr.kid]; split
    · exact h.2
    · trivial
  | br v k=>exact h.2 i
structure Ok (t:Tr):Prop where
  canon:t.canon
  fits:t.fits
  small:t.small
theorem Ok.kid {t:Tr} (h:Ok t) (i:Fin 16):Ok (t.kid i):=⟨kid_canon h.canon i,kid_fits h.fits i,kid_small h.small i⟩
theorem sumS_len (n:N) (_:n.kids.length=16) (h:Nd.fine n=true):(Nd.sumS n).length=32:=by
  unfold Nd.sumS
  rw [if_pos h]
  rw [Dig.sum,if_pos (by decide)]; exact Sha.sumP_length _
theorem Ok.fine {t:Tr} (h:Ok t) (hn:¬ t.isNil):Nd.fine (t.node Nd.sumS)=true:=node_fine Nd.sumS sumS_len h.canon h.fits h.small hn
theorem Ok.sum_len {t:Tr} (h:Ok t) (hn:¬ t.isNil):(t.sum Nd.sumS).length=32:=by
  rw [sum_node _ hn]
  exact sumS_len _ (node_kids _ _) (h.fine hn)
theorem Ok.sum_ne {t:Tr} (h:Ok t) (hn:¬ t.isNil):t.sum Nd.sumS ≠ []:=fun e=>by have:=h.sum_len hn; rw [e] at this; cases this
end Tri
open Sto (T)
open Tri (Tr Ok)
abbrev Ks:=Fin 16->Value
def nilp:Value:=.pointer none
def ptr (g:Nat):Value:=.pointer (some ⟨g,0,none⟩)
theorem ptr_inj {a b:Nat} (h:ptr a=ptr b):a=b:=by
  unfold ptr at h
  injection h with h; injection h with h; injection h
def pcl (kind:Nat) (p x:T) (K:Ks) (s:T):List Value:=.int .i64 kind :: .string ⟨p.toArray⟩ :: .string ⟨x.toArray⟩ :: (List.ofFn K ++ [.string ⟨s.toArray⟩])
theorem pcl_length (kind:Nat) (p x:T) (K:Ks) (s:T):(pcl kind p x K s).length=20:=by simp [pcl]
theorem ofFn_injV {f g:Ks} (h:List.ofFn f=List.ofFn g):f=g:=by
  funext i
  have:=List.getElem_of_eq h (i:=i.val) (by rw [List.length_ofFn]; exact i.isLt)
  rwa [List.getElem_ofFn,List.getElem_ofFn] at this
theorem pcl_inj {k k':Nat} {p p' x x' s s':T} {K K':Ks} (h:pcl k p x K s=pcl k' p' x' K' s'):k=k'/\p=p'/\x=x'/\K=K'/\s=s':=by
  unfold pcl at h
  obtain ⟨h1,h⟩:=List.cons.inj h
  obtain ⟨h2,h⟩:=List.cons.inj h
  obtain ⟨h3,h⟩:=List.cons.inj h
  obtain ⟨h4,h⟩:=List.append_inj h (by simp)
  refine ⟨?_,str_inj h2,str_inj h3,ofFn_injV h4,str_inj (List.cons.inj h).1⟩
  injection h1 with _ h1
  exact Int.ofNat_inj.1 h1
def RowP (w:World) (g kind:Nat) (p x:T) (K:Ks) (s:T):Prop:=w.heap[g]?=some (.cells (pcl kind p x K s).toArray 87 (0,0))
theorem RowP.inj {w:World} {g k k':Nat} {p p' x x' s s':T} {K K':Ks} (h:RowP w g k p x K s) (h':RowP w g k' p' x' K' s'):k=k'/\p=p'/\x=x'/\K=K'/\s=s':=by
  unfold RowP at h h'
  rw [h] at h'
  injection h' with h'; injection h' with h'
  exact pcl_inj (List.toArray_inj h')
abbrev Fm:=Bool->Nat->Prop
def Fm.from (B:Nat):Fm:=fun s g=>s=false->B<=g
def Fm.off (F:Fm) (q:Nat):Fm:=fun s g=>F s g/\g ≠ q
def Blk (w:World) (F:Fm) (s:Bool) (kind:Nat) (p x sum:T) (v:Value) (R:Bool->Ks->Prop):Prop:=
  ∃ g s' K,v=ptr g/\(s=true->s'=true)/\F s' g/\RowP w g kind p x K (if s' then sum else [])/\R s' K
def PAt (w:World) (F:Fm):Bool->Tr->Value->Prop
  | _,.nil,v=>v=nilp
  | s,.leaf p x,v=>Blk w F s 1 p x (Tr.sum Nd.sumS (.leaf p x)) v fun _ K=>∀ i,K i=nilp
  | s,.ext p t,v=>Blk w F s 2 p [] (Tr.sum Nd.sumS (.ext p t)) v fun s' K=>PAt w F s' t (K 0)/\∀ i,i ≠ 0->K i=nilp
  | s,.br x k,v=>Blk w F s 3 [] x (Tr.sum Nd.sumS (.br x k)) v fun s' K=>∀ i,PAt w F s' (k i) (K i)
theorem Blk.imp {w w':World} {F F':Fm} {s s2:Bool} {kind:Nat} {p x sum:T} {v:Value} {R R':Bool->Ks->Prop} (h:Blk w F s kind p x sum v R) (hs:s2=true->s=true) (hF:∀ s g,g < w.heap.size->F s g->F' s g) (hw:∀ g K s' s2,F s2 g->RowP w g kind p x K s'->RowP w' g kind p x K s') (hR:∀ s' K,R s' K->R' s' K):Blk w' F' s2 kind p x sum v R':=by
  obtain ⟨g,s',K,rfl,h1,h2,h3,h4⟩:=h
  exact ⟨g,s',K,rfl,fun h=>h1 (hs h),hF _ _ (lt_of_heap h3) h2,hw _ _ _ _ h2 h3,hR _ _ h4⟩
theorem PAt.nil (w:World) (F:Fm) (s:Bool):PAt w F s .nil nilp:=rfl
theorem PAt.iff {w:World} {F:Fm} {s:Bool} {t:Tr} {v:Value} (h:¬ t.isNil):PAt w F s t v ↔ Blk w F s t.kind t.pth t.vl (t.sum Nd.sumS) v fun s' K=>∀ i,PAt w F s' (t.kid i) (K i):=by
  cases t with
  | nil=>exact absurd trivial h
  | leaf p x=>exact Iff.rfl
  | ext p t=>
    constructor
    · intro h
      refine Blk.imp h id (fun _ _ _ h=>h) (fun _ _ _ _ _ h=>h) fun s' K hk i=>?_
      simp only [Tri.Tr.kid]
      split
      · rename_i e; rw [e]; exact hk.1
      · rename_i e; exact hk.2 i e
    · intro h
      refine Blk.imp h id (fun _ _ _ h=>h) (fun _ _ _ _ _ h=>h) fun s' K hk=>⟨?_,fun i hi=>?_⟩
      · have:=hk 0
        simpa [Tri.Tr.kid] using this
      · have:=hk i
        simp only [Tri.Tr.kid,if_neg hi] at this
        exact this
  | br x k=>exact Iff.rfl
theorem PAt.row {w:World} {F:Fm} {s:Bool} {t:Tr} {v:Value} (h:PAt w F s t v) (hn:¬ t.isNil):∃ g s' K,v=ptr g/\(s=true->s'=true)/\F s' g/\RowP w g t.kind t.pth t.vl K (if s' then t.sum Nd.sumS else [])/\∀ i,PAt w F s' (t.kid i) (K i):=(PAt.iff hn).1 h
theorem PAt.change {w w':World} {F F':Fm} (hF:∀ s g,g < w.heap.size->F s g->F' s g) (hw:∀ g k p x K s s2,F s2 g->RowP w g k p x K s->RowP w' g k p x K s) {s:Bool} {t:Tr} {v:Value} (h:PAt w F s t v):PAt w' F' s t v:=by
  induction t using Tri.kid_ind generalizing s v with
  | h0=>exact h
  | h t hn ih=>exact (PAt.iff hn).2 (Blk.imp ((PAt.iff hn).1 h) id hF (fun _ _ _ _=>hw _ _ _ _ _ _ _) fun s' K hk i=>ih i (hk i))
theorem RowP.below {w w':World} {g k:Nat} {p x s:T} {K:Ks} (h:RowP w g k p x K s) (hb:Below w.heap.size w w'):RowP w' g k p x K s:=(hb.block g (lt_of_heap h)).trans h
theorem PAt.below {w w':World} {F:Fm} {s:Bool} {t:Tr} {v:Value} (h:PAt w F s t v) (hb:Below w.heap.size w w'):PAt w' F s t v:=h.change (fun _ _ _ h=>h) fun _ _ _ _ _ _ _ _ h=>h.below hb
theorem PAt.imp {w:World} {F F':Fm} {s:Bool} {t:Tr} {v:Value} (h:PAt w F s t v) (hF:∀ s g,g < w.heap.size->F s g->F' s g):PAt w F' s t v:=h.change hF fun _ _ _ _ _ _ _ _ h=>h
theorem PAt.new_off {w:World} {F:Fm} {s:Bool} {t:Tr} {v:Value} (h:PAt w F s t v) {q:Nat} (hq:w.heap.size<=q):PAt w (F.off q) s t v:=h.imp fun _ g hg hf=>⟨hf,by omega⟩
theorem PAt.off {w:World} {F:Fm} {q:Nat} {s:Bool} {t:Tr} {v:Value} (h:PAt w (F.off q) s t v) (i:Nat) (u:Value):PAt (w.setCell ⟨q,i,none⟩ u) F s t v:=
  h.change (fun _ _ _ h=>h.1) fun g _ _ _ _ _ _ hf hr=>(Below.heap_setCell _ ⟨q,i,none⟩ _ g hf.2).trans hr
theorem PAt.sealed {w:World} {F F':Fm} {t:Tr} {v:Value} (h:PAt w F true t v) (hF:∀ g,F true g->F' true g) (s:Bool):PAt w F' s t v:=by
  induction t using Tri.kid_ind generalizing s v with
  | h0=>exact h
  | h t hn ih=>
    obtain ⟨g,s',K,rfl,h1,h2,h3,h4⟩:=h.row hn
    obtain rfl:=h1 rfl
    exact (PAt.iff hn).2 ⟨g,true,K,rfl,fun _=>rfl,hF _ h2,h3,fun i=>ih i (h4 i) true⟩
theorem PAt.weak {w:World} {F:Fm} {s:Bool} {t:Tr} {v:Value} (h:PAt w F s t v):PAt w F false t v:=by
  cases s with
  | false=>exact h
  | true=>exact h.sealed (fun _ h=>h) false
theorem PAt.isNil {w:World} {F:Fm} {s:Bool} {t:Tr} (h:PAt w F s t nilp):t.isNil:=by
  refine Classical.byContradiction fun hn=>?_
  obtain ⟨g,_,_,e,_⟩:=h.row hn
  unfold nilp ptr at e
  injection e with e; cases e
theorem PAt.one {w:World} {F F':Fm} {s s':Bool} {t u:Tr} {v:Value} (h:PAt w F s t v) (h':PAt w F' s' u v):t=u:=by
  induction t using Tri.kid_ind generalizing s s' v u with
  | h0=>
    have e:v=nilp:=h
    subst e
    exact (Tri.isNil_eq h'.isNil).symm
  | h t hn ih=>
    obtain ⟨g,a,K,e,_,_,r1,k1⟩:=h.row hn
    have hu:¬ u.isNil:=fun hu=>by
      rw [Tri.isNil_eq hu] at h'
      have e2:v=nilp:=h'
      rw [e] at e2
      unfold nilp ptr at e2
      injection e2 with e2; cases e2
    obtain ⟨g',a',K',e',_,_,r2,k2⟩:=h'.row hu
    obtain rfl:=ptr_inj (e.symm.trans e')
    obtain ⟨q1,q2,q3,rfl,_⟩:=r1.inj r2
    exact Tri.kid_ext q1 q2 q3 fun i=>ih i (k1 i) (k2 i)
theorem pcl_set (k:Nat) (p x:T) (K:Ks) (s s':T):(pcl k p x K s).toArray.setIfInBounds 19 (.string ⟨s'.toArray⟩)=(pcl k p x K s').toArray:=by
  rw [List.setIfInBounds_toArray]
  simp [pcl,List.ofFn_succ]
theorem RowP.seal {w:World} {g k:Nat} {p x s:T} {K:Ks} (h:RowP w g k p x K s) (s':T):RowP (w.setCell ⟨g,19,none⟩ (.string ⟨s'.toArray⟩)) g k p x K s':=by
  have:=heap_setCell_same _ _ 19 _ _ (.string ⟨s'.toArray⟩) h
  rw [pcl_set] at this
  exact this
theorem PAt.seals {w:World} {F:Fm} {g:Nat} {t:Tr} {K:Ks} {sx:T} (hF:∀ s g,F s g->F true g) (hr:RowP w g t.kind t.pth t.vl K sx) (hk:∀ i,PAt w F true (t.kid i) (K i)) {s:Bool} {u:Tr} {v:Value} (h:PAt w F s u v):
    PAt (w.setCell ⟨g,19,none⟩ (.string ⟨(t.sum Nd.sumS).toArray⟩)) F s u v:=by
  induction u using Tri.kid_ind generalizing s v with
  | h0=>exact h
  | h u hu ih=>
    obtain ⟨g',s',K',rfl,h1,h2,h3,h4⟩:=h.row hu
    by_cases e:g'=g
    · subst e
      obtain ⟨q1,q2,q3,rfl,q5⟩:=hr.inj h3
      have htu:t=u:=Tri.kid_ext q1 q2 q3 fun i=>(hk i).one (h4 i)
      subst htu
      refine (PAt.iff hu).2 ⟨g',true,K,rfl,fun _=>rfl,hF _ _ h2,hr.seal _,fun i=>ih i (hk i)⟩
    · refine (PAt.iff hu).2 ⟨g',s',K',rfl,h1,h2,?_,fun i=>ih i (h4 i)⟩
      exact (Below.heap_setCell _ ⟨g,19,none⟩ _ g' e).trans h3
theorem PAt.seal {w:World} {F:Fm} {g:Nat} {t:Tr} {K:Ks} {sx:T} (hF:∀ s g,F s g->F true g) (hg:F true g) (hn:¬ t.isNil) (hr:RowP w g t.kind t.pth t.vl K sx) (hk:∀ i,PAt w F true (t.kid i) (K i)):
    PAt (w.setCell ⟨g,19,none⟩ (.string ⟨(t.sum Nd.sumS).toArray⟩)) F true t (ptr g):=
  (PAt.iff hn).2 ⟨g,true,K,rfl,fun _=>rfl,hg,hr.seal _,fun i=>PAt.seals hF hr hk (hk i)⟩
theorem RowP.cell {w:World} {g k:Nat} {p x s:T} {K:Ks} (h:RowP w g k p x K s) (i:Nat):w.cell? ⟨g,i,none⟩=(pcl k p x K s)[i]?:=by
  rw [cell_of_row w g i _ _ _ h,List.getElem?_toArray]
theorem RowP.kind {w:World} {g k:Nat} {p x s:T} {K:Ks} (h:RowP w g k p x K s):w.cell? ⟨g,0,none⟩=some (.int .i64 k):=h.cell 0
theorem RowP.path {w:World} {g k:Nat} {p x s:T} {K:Ks} (h:RowP w g k p x K s):w.cell? ⟨g,1,none⟩=some (.string ⟨p.toArray⟩):=h.cell 1
theorem RowP.val {w:World} {g k:Nat} {p x s:T} {K:Ks} (h:RowP w g k p x K s):w.cell? ⟨g,2,none⟩=some (.string ⟨x.toArray⟩):=h.cell 2
theorem RowP.kid {w:World} {g k:Nat} {p x s:T} {K:Ks} (h:RowP w g k p x K s) (i:Fin 16):w.cell? ⟨g,3+i.val,none⟩=some (K i):=by
  have hi:=i.isLt
  rw [h.cell (3+i.val),Nat.add_comm 3 i.val]
  show (List.ofFn K ++ [.string ⟨s.toArray⟩])[i.val]?=_
  rw [List.getElem?_append_left (by simp),List.getElem?_ofFn,dif_pos hi]
theorem RowP.sum {w:World} {g k:Nat} {p x s:T} {K:Ks} (h:RowP w g k p x K s):w.cell? ⟨g,19,none⟩=some (.string ⟨s.toArray⟩):=by
  rw [h.cell 19]
  show (List.ofFn K ++ [.string ⟨s.toArray⟩])[16]?=_
  rw [List.getElem?_append_right (by simp)]
  simp
end
section
open Go.RowKit
open Sto (T)
open Tri (Tr Ok upd ix hb lay splitT)
def noK:Ks:=fun _=>nilp
theorem RowP.new {w:World} {k:Nat} {p x s:T} {K:Ks} {C:Array Value} (h:C=(pcl k p x K s).toArray):RowP (w.alloc (.cells C 87)) w.heap.size k p x K s:=by
  subst h; exact heap_new_at w _ _ rfl
theorem PAt.new {w':World} {F:Fm} {g:Nat} {t:Tr} {K:Ks} (hn:¬ t.isNil) (hB:F false g) (hr:RowP w' g t.kind t.pth t.vl K []) (hk:∀ i,PAt w' F false (t.kid i) (K i)):PAt w' F false t (ptr g):=
  (PAt.iff hn).2 ⟨g,false,K,rfl,(fun h=>by cases h),hB,hr,hk⟩
def Fm.fresh (F:Fm) (w:World):Prop:=∀ g,w.heap.size<=g->F false g
theorem Fm.fresh.size {F:Fm} {w w':World} (h:F.fresh w) (hs:w.heap.size<=w'.heap.size):F.fresh w':=fun g hg=>h g (Nat.le_trans hs hg)
theorem Fm.fresh.off {F:Fm} {w:World} (h:F.fresh w) {q:Nat} (hq:q < w.heap.size):(F.off q).fresh w:=fun g hg=>⟨h g hg,by omega⟩
def MadeT (w:World) (F:Fm) (t:Tr) (e:Ending) (w':World):Prop:=∃ v,e=.returned v/\PAt w' F false t v/\Below w.heap.size w w'
theorem leaf_any (p x:T) (w:World) (F:Fm) (hB:F.fresh w):
    Calls Tryz.prog 136 #[.string ⟨p.toArray⟩,.string ⟨x.toArray⟩] w (MadeT w F (.leaf p x)):=by
  unfold MadeT
  go_enter Tryz.func136,Tryz.ntmps136
  go_wp2
  go_ret
  refine ⟨_,rfl,PAt.new (K:=noK) id (hB _ (Nat.le_refl _)) (RowP.new rfl) (fun i=>rfl),(Below.refl _ w).alloc (Nat.le_refl _) _⟩
theorem half_any (i:Fin 16) (w:World):
    Calls Tryz.prog 155 #[.int .i64 i.val] w fun e w'=>e=.returned (.string ⟨[hb i].toArray⟩)/\Below w.heap.size w w':=by
  have hi:=i.isLt
  have e1:(i.val:Int) % 256=(i.val:Int):=by omega
  have hc:=conv_one' w (hb i) (i.val:Int) (by rw [Tri.hb_toNat]) w.heap.size rfl
  have h0:(0:Int)<=(i.val:Int):=by omega
  have h1:(i.val:Int)<=255:=by omega
  go_enter Tryz.func155,Tryz.ntmps155
  go_wp2
  go_ret
  exact ⟨rfl,(Below.refl _ w).alloc (Nat.le_refl _) _⟩
def placeT (k:Nat) (e:T) (i:Fin 16):T:=if k=3 then e ++ [hb i] else e
theorem place_any (k:Nat) (e:T) (i:Fin 16) (w:World) (he:e.length<=1000) (hk:k<=3):
    Calls Tryz.prog 124 #[.int .i64 k,.string ⟨e.toArray⟩,.int .i64 i.val] w fun r w'=>r=.returned (.string ⟨(placeT k e i).toArray⟩)/\Below w.heap.size w w':=by
  unfold placeT
  by_cases h:k=3
  · subst h
    rw [if_pos rfl]
    have HH:=qh (fun w=>half_any i w)
    have hcm:=cat_mk e [hb i]
    go_enter Tryz.func124,Tryz.ntmps124
    go_wp2_with fail
    refine (HH.out _).mono ?_
    rintro r w1 ⟨rfl,hb1⟩
    go_wp2
    go_ret
    exact ⟨rfl,hb1⟩
  · rw [if_neg h]
    have h1:¬ ((k:Int)=3):=by omega
    have h2:((k:Int) == 3)=false:=by rw [beq_eq_false_iff_ne]; exact h1
    go_enter Tryz.func124,Tryz.ntmps124
    go_wp2
    go_ret
    exact ⟨rfl,Below.refl _ _⟩
theorem pcl_load (k:Nat) (p x s:T) (K:Ks):(Tryz.prog.info? 87).map (·.size)=some (pcl k p x K s).toArray.size:=by
  rw [List.size_toArray,pcl_length]; kernel_rfl
theorem pcl_one (k:Nat) (p x s:T) (K:Ks) (hK:∀ i,(K i).oneCell'=true):(pcl k p x K s).toArray.all (·.oneCell')=true:=by
  rw [← Array.all_toList,List.all_eq_true]
  intro v hv
  simp only [pcl,List.mem_cons,List.mem_append,List.mem_ofFn,List.not_mem_nil,or_false] at hv
  rcases hv with rfl | rfl | rfl | ⟨i,rfl⟩ | rfl
  · rfl
  · rfl
  · rfl
  · exact hK i
  · rfl
theorem open_any {g k:Nat} {p x s:T} {K:Ks} (w:World) (h:RowP w g k p x K s) (hK:∀ i,(K i).oneCell'=true):
    Calls Tryz.prog 137 #[ptr g] w fun r w'=>r=.returned (ptr w.heap.size)/\RowP w' w.heap.size k p x K []/\Below w.heap.size w w':=by
  have hi:=pcl_load k p x s K
  have ho:=pcl_one k p x s K hK
  have hset:=pcl_set k p x K s []
  have hl:(pcl k p x K s).toArray.size=20:=by rw [List.size_toArray,pcl_length]
  have hc:(pcl k p x K s).toArray[19]?=some (.string ⟨s.toArray⟩):=by
    have h1:RowP w g k p x K s:=h
    have h2:=h1.sum
    rw [cell_of_row w g 19 _ _ _ h] at h2
    exact h2
  unfold RowP at h ⊢
  unfold ptr
  generalize (pcl k p x K []).toArray=D at hset ⊢
  generalize (pcl k p x K s).toArray=C at h hi ho hset hl hc
  have hat:(w.alloc (.cells C 87)).heap[w.heap.size]?=some (.cells C 87 (0,0)):=heap_alloc_new w _
  have hcell:(w.alloc (.cells C 87)).cell? ⟨w.heap.size,19,none⟩=some (.string ⟨s.toArray⟩):=by rw [cell_of_row _ _ 19 _ _ _ hat]; exact hc
  have hfr:(w.alloc (.cells C 87)).frozen? ⟨w.heap.size,19,none⟩=false:=frozen_of_row _ _ _ _ _ hat
  have HR:=qh h
  have HI:=qh hi
  have HO:=qh ho
  have HL:=qh hl
  have HS:=qh hset
  clear h hi ho hset hl hc hat
  go_enter Tryz.func137,Tryz.ntmps137
  go_wp2_with (first | (refine wpList_load_row (by rfl) _ _ (by rfl) g (by rfl) _ C _ _ HR.out Tryz.underlying87 (by rfl) HI.out ?_) | (refine wpList_store_fresh (by rfl) _ _ _ (by rfl) w.heap.size rfl C (by rfl) (by rfl) _ _ HI.out HL.out.symm HO.out ?_))
  go_ret
  exact ⟨rfl,by rw [HS.out]; exact heap_alloc_new w _,(Below.refl _ w).alloc (Nat.le_refl _) _⟩
theorem PAt.cellK {w:World} {F:Fm} {s:Bool} {t:Tr} {v:Value} (h:PAt w F s t v):v=nilp ∨ ∃ g,v=ptr g:=by
  by_cases hn:t.isNil
  · rw [Tri.isNil_eq hn] at h; exact Or.inl h
  · obtain ⟨g,_,_,e,_⟩:=h.row hn; exact Or.inr ⟨g,e⟩
theorem PAt.oneCell {w:World} {F:Fm} {s:Bool} {t:Tr} {v:Value} (h:PAt w F s t v):v.oneCell'=true:=by
  rcases h.cellK with rfl | ⟨g,rfl⟩ <;> rfl
def oneK (a:Value):Ks:=fun i=>if i=0 then a else nilp
theorem pcl_path (k:Nat) (p p' x:T) (K:Ks) (s:T):(pcl k p x K s).toArray.setIfInBounds 1 (.string ⟨p'.toArray⟩)=(pcl k p' x K s).toArray:=by
  rw [List.setIfInBounds_toArray]; rfl
theorem RowP.setPath {w:World} {g k:Nat} {p x s:T} {K:Ks} (h:RowP w g k p x K s) (p':T):RowP (w.setCell ⟨g,1,none⟩ (.string ⟨p'.toArray⟩)) g k p' x K s:=by
  have:=heap_setCell_same _ _ 1 _ _ (.string ⟨p'.toArray⟩) h
  rw [pcl_path] at this
  exact this
theorem RowP.free {w:World} {g k:Nat} {p x s:T} {K:Ks} (h:RowP w g k p x K s) (i:Nat):w.frozen? ⟨g,i,none⟩=false:=frozen_of_row _ _ _ _ _ h
theorem lay_parts (p:T) {t:Tr} (hn:¬ t.isNil) (h3:t.kind ≠ 3):(lay p t).kind=t.kind/\(lay p t).pth=p ++ t.pth/\(lay p t).vl=t.vl/\∀ i,(lay p t).kid i=t.kid i:=by
  cases t with
  | nil=>exact absurd trivial hn
  | leaf q x=>exact ⟨rfl,rfl,rfl,fun _=>rfl⟩
  | ext q u=>exact ⟨rfl,rfl,rfl,fun _=>rfl⟩
  | br x k=>exact absurd rfl h3
theorem behind_any {t:Tr} {v:Value} (p:T) (w:World) (F:Fm) (hB:F.fresh w) (h:PAt w F false t v) (hp:p=[] ∨ ¬ t.isNil) (hpl:p.length<=1000) (hql:t.pth.length<=1000):
    Calls Tryz.prog 140 #[v,.string ⟨p.toArray⟩] w (MadeT w F (lay p t)):=by
  unfold MadeT
  by_cases hp0:p=[]
  · subst hp0
    rw [Tri.lay_nil]
    have HP:=qh h
    clear h hp
    go_enter Tryz.func140,Tryz.ntmps140
    go_wp2
    go_ret
    exact ⟨v,rfl,HP.out,Below.refl _ _⟩
  · have hn:=hp.resolve_left hp0
    obtain ⟨g,s',K,rfl,-,h2,hr,hk⟩:=h.row hn
    have hpe:(p == [])=false:=by rw [beq_eq_false_iff_ne]; exact hp0
    have HP:=qh h
    have n0:=hr.kind
    by_cases h3:t.kind=3
    · have e3:((t.kind:Int) == 3)=true:=by rw [h3]; rfl
      rw [h3] at n0
      have HL:Hid (lay p t=.ext p t):=qh (by
        cases t with
        | br x k=>simp [lay,Tri.above,hp0]
        | _=>cases h3)
      unfold ptr
      clear h hp hr hk
      go_enter Tryz.func140,Tryz.ntmps140
      go_wp2
      go_ret
      rw [HL.out]
      refine ⟨_,rfl,?_,(Below.refl _ w).alloc (Nat.le_refl _) _⟩
      refine PAt.new (K:=oneK (ptr g)) id (hB _ (Nat.le_refl _)) (RowP.new rfl) fun i=>?_
      simp only [Tri.Tr.kid,oneK]
      split
      · exact HP.out.below ((Below.refl _ w).alloc (Nat.le_refl _) _)
      · rfl
    · have e3:((t.kind:Int) == 3)=false:=by rw [beq_eq_false_iff_ne]; omega
      have HO:=qh (open_any w hr (fun i=>(hk i).oneCell))
      have n1:=hr.path
      have HL:=qh (lay_parts p hn h3)
      have HKK:=qh hk
      have HN:=qh (Tri.lay_nn (p:=p) hn)
      have HR:=qh hr
      unfold ptr at HO ⊢
      obtain ⟨q,hq⟩:∃ q,t.pth=q:=⟨_,rfl⟩
      rw [hq] at n1 hql
      have HQ:=qh hq
      have hcm:=cat_mk p q
      obtain ⟨kd,hkd⟩:∃ kd,t.kind=kd:=⟨_,rfl⟩
      rw [hkd] at n0 e3
      have HKD:=qh hkd
      clear h hp hr hk hq h2 hkd h3
      go_enter Tryz.func140,Tryz.ntmps140
      go_wp2_with fail
      refine HO.out.mono ?_
      rintro r w1 ⟨rfl,hr1,hb1⟩
      have m1:=hr1.path
      have m2:=hr1.free 1
      have m3:=HR.out.below hb1
      have m4:=m3.path
      rw [HQ.out] at m1 m4
      go_wp2
      go_ret
      obtain ⟨l1,l2,l3,l4⟩:=HL.out
      have hb2:=hb1.setCell (p:=⟨w.heap.size,1,none⟩) (Nat.le_refl _) (.string ⟨(p ++ q).toArray⟩)
      refine ⟨_,rfl,PAt.new (K:=K) HN.out (hB _ (Nat.le_refl _)) ?_ (fun i=>?_),hb2⟩
      · rw [l1,l2,l3,HQ.out]
        exact hr1.setPath _
      · rw [l4]
        exact ((HKK.out i).weak).below hb2
end
namespace Sto
def On (m:List Bool) (j:Nat):Prop:=m[j]?=some true
instance (m:List Bool) (j:Nat):Decidable (On m j):=inferInstanceAs (Decidable (m[j]?=some true))
def mark (m:List Bool) (ks:List Nat):List Bool:=ks.foldl (fun m k=>m.set k true) m
def pass1 (K:Nat->List Nat) (m:List Bool) (i:Nat):List Bool:=if On m i then mark m (K i) else m
def pass (K:Nat->List Nat) (l:List Nat) (m:List Bool):List Bool:=l.foldl (pass1 K) m
def rounds (K:Nat->List Nat) (l:List Nat):Nat->List Bool->List Bool
  | 0,m=>m
  | t+1,m=>rounds K l t (pass K l m)
end Sto
namespace Sto
/-! ### what is reached -/
def kidsT (t:T):List T:=Nd.kidsL (Nd.dec t).1.kids
inductive Reach (S:St) (l:List T):T->Prop
  | here {x}:x ∈ l->x ∈ keys S->Reach S l x
  | step {x t k}:Reach S l x->look S x=some t->k ∈ kidsT t->k ∈ keys S->Reach S l k
def pick (S:St) (m:List Bool):List T:=((S.zip m).filter (·.2)).map (·.1.1)
end Sto
section
open Go.RowKit Go.MapKept
open Go.ChangeMaps (setBlock heap_setBlock_same heap_setBlock_other)
open Go.Maps (Keyed)
variable {P:Program} {k t e:TypeId} {κ α:Type}
end
section
open Go.RowKit Go.MapKept
open Go.ChangeMaps (setBlock heap_setBlock_same heap_setBlock_other)
open Go.Maps (Keyed)
variable {P:Program} {k t e:TypeId} {κ α:Type}
end
section
open Go.Shelf Go.RowKit
end
section
open Go.Shelf Go.RowKit Go.Maps Go.Sort
open Go.Proofs (encStr)
end
section
open Go.RowKit Go.Maps Go.WideShapes
open Go.WideElems (Fit rd rg rd_mk rg_of)
open Go.Proofs.YtaficmboooaknaaGreatDoor.Sto (St)
open Go.Proofs (encStr)
end
end Go.Proofs.YtaficmboooaknaaGreatDoor
