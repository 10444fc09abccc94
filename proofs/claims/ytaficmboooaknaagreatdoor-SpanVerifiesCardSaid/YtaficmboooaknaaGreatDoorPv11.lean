import Derived.Test.YtaficmboooaknaaGreatDoorPv01
import Derived.Test.YtaficmboooaknaaGreatDoorPv10
import Derived.Test.YtaficmboooaknaaGreatDoorPv09
import Derived.Deep.OwnRows
import Derived.Test.YtaficmboooaknaaGreatDoorPv07
import Derived.Test.YtaficmboooaknaaGreatDoorPv08
import Derived.Test.YtaficmboooaknaaGreatDoorPv04
import Derived.Test.YtaficmboooaknaaGreatDoorPv03
set_option maxRecDepth 100000
set_option maxHeartbeats 16000000
namespace Go.Proofs.YtaficmboooaknaaGreatDoor
section
open Go.RowKit
theorem turned_any (x n:Int) (w:World) (h0:1<=n) (h1:n<=31):
    Calls Tryz.prog 156 #[.int .u32 x,.int .i64 n] w fun e w'=>e=.returned (.int .u32 (Sha.rotI x n))/\w'=w:=by
  have hA:0<=32 - n:=by omega
  have hB:32 - n<=32:=by omega
  go_enter Tryz.func156,Tryz.ntmps156
  go_wp2
  go_ret
  refine ⟨?_,rfl⟩
  simp only [Sha.rotI]
  rw [Sha.bits_or_comm]
  rfl
theorem rfirst_any (w:World):
    Calls Tryz.prog 127 #[] w fun e w'=>e=.returned (.agg (u32s Sha.first.list))/\Below w.heap.size w w':=by
  go_enter Tryz.func127,Tryz.ntmps127
  go_wp2
  refine bodyPost_ret (v:=.agg (u32s Sha.first.list)) (results_cell_row rfl _ _ w.heap.size _ _ (0,0) _ rfl (heap_new_at _ _ _ rfl) Tryz.underlying173 rfl (by kernel_rfl)) rfl ⟨rfl,(Below.refl _ w).alloc (Nat.le_refl _) _⟩
def constParts:List (Nat × Value):=Sha.kTab.zipIdx.map fun x=>(x.2,.int .u32 x.1)
theorem built_consts:Tryz.prog.built 224 constParts=some (u32s Sha.kTab):=by kernel_rfl
theorem info64w:(Tryz.prog.info? 224).map (·.size)=some 64:=by kernel_rfl
theorem const_any (i:Nat) (w:World) (hi:i < 64):
    Calls Tryz.prog 157 #[.int .i64 i] w fun e w'=>e=.returned (.int .u32 (Sha.kTab.getD i 0))/\Below w.heap.size w w':=by
  have h64:(i:Int) < 64:=by omega
  have hat:=u32s_at Sha.kTab i hi
  obtain ⟨K,hK⟩:∃ K,u32s Sha.kTab=K:=⟨_,rfl⟩
  rw [hK] at hat
  obtain ⟨x,hx⟩:∃ x,Sha.kTab.getD i 0=x:=⟨_,rfl⟩
  rw [hx] at hat ⊢
  have hbu:=built_consts
  rw [hK] at hbu
  have HBU:=qh hbu
  have HI:Hid ((Tryz.prog.info? 224).map (·.size)=some K.size):=qh (by rw [← hK]; exact info64w)
  have HS:Hid (K.size=64):=qh (by rw [← hK]; rfl)
  have H1:Hid (K.all (·.oneCell')=true):=qh (by rw [← hK]; exact u32s_one _)
  clear hK hx hbu
  go_enter Tryz.func157,Tryz.ntmps157
  go_wp2_with (first | (refine wpList_build_to (by rfl) _ _ (by rfl) constParts (by first | kernel_rfl | rfl) K HBU.out ?_) | (refine wpList_store_new (by rfl) _ _ _ (by rfl) w.heap.size rfl K (by rfl) (by rfl) _ _ HI.out (by rw [HS.out]; rfl) H1.out ?_))
  go_ret
  exact ⟨rfl,(Below.refl _ w).alloc (Nat.le_refl _) _⟩
end
section
open Go.RowKit
attribute [local go_sem ↓] Go.wp_at_zero Go.wp_at_succ
theorem info8w:(Tryz.prog.info? 173).map (·.size)=some 8:=by kernel_rfl
structure Boxed (p:Prop):Prop where
  out:p
theorem rblock_any (s:Sha.St) (b:List UInt8) (w:World) (hb:b.length=64):
    Calls Tryz.prog 128 #[.agg (u32s s.list),.agg (u8s b)] w fun e w'=>e=.returned (.agg (u32s (Sha.blockR s b).list))/\Below w.heap.size w w':=by
  obtain ⟨s0,hs0⟩:∃ s0,s=s0:=⟨_,rfl⟩
  obtain ⟨a,b1,c,d,e,f,g,h⟩:=s
  obtain ⟨bs,hbs⟩:∃ bs,u8s b=bs:=⟨_,rfl⟩
  rw [hbs]
  have HS:=Boxed.mk hs0
  have HBS:=Boxed.mk hbs
  have HLB:=Boxed.mk hb
  simp only [Sha.St.list,u32s,List.map_cons,List.map_nil]
  clear hbs hs0 hb
  go_enter Tryz.func128,Tryz.ntmps128
  go_wp2
  go_loopw [6] (fun i wr=>∃ k:Nat,k<=64/\i=.int .i64 k/\Below w.heap.size w wr/\wr.heap[w.heap.size]?=some (.cells (u32s [a,b1,c,d,e,f,g,h]) 173 (0,0))/\wr.heap[w.heap.size+1]?=some (.cells bs 175 (0,0))/\wr.heap[w.heap.size+1+1]?=some (.cells (u32s (List.replicate 8 0)) 173 (0,0))/\wr.heap[w.heap.size+1+1+1]?=some (.cells (u32s (Sha.fillR b k)) 202 (0,0))) (fun i _=>64 - (intOf i).toNat)
  case atStart=>
    refine ⟨0,by omega,rfl,?_,?_,?_,?_,?_⟩
    · exact ((((Below.refl _ w).alloc (Nat.le_refl _) _).alloc (by simp) _).alloc (by simp; omega) _).alloc (by simp; omega) _
    · exact heap_old_at _ (heap_old_at _ (heap_old_at _ (heap_new_at _ _ _ (by simp))))
    · exact heap_old_at _ (heap_old_at _ (heap_new_at _ _ _ (by simp)))
    · exact heap_old_at _ (heap_new_at _ _ _ (by simp))
    · exact heap_new_at _ _ _ (by simp)
  case round=>
    obtain ⟨k,hk,rfl,hbe,hg0,hg1,hg2,hg3⟩:=hrel
    obtain ⟨F,hF⟩:∃ F,Sha.fillR b k=F:=⟨_,rfl⟩
    have hFl:F.length=16:=by rw [← hF,Sha.fillR_length]
    rw [hF] at hg3
    have HF:=Boxed.mk hF
    have HBE:=Boxed.mk hbe
    have HG0:=Boxed.mk hg0
    have HG1:=Boxed.mk hg1
    have HG2:=Boxed.mk hg2
    have HG3:=Boxed.mk hg3
    by_cases hlt:k < 64
    · obtain ⟨q,hq⟩:∃ q,k / 4=q:=⟨_,rfl⟩
      have hq16:q < 16:=by omega
      have cb:wr.cell? ⟨w.heap.size+1,k,none⟩=some (.int .u8 ((b.getD k 0).toNat:Int)):=by
        rw [cell_of_row wr _ k bs _ _ hg1,← HBS.out]; exact u8s_at b k (by rw [HLB.out]; exact hlt)
      have cw:wr.cell? ⟨w.heap.size+1+1+1,q,none⟩=some (.int .u32 (F.getD q 0)):=(cell_of_row wr _ q _ _ _ hg3).trans (u32s_at F q (by omega))
      have fw:=frozen_of_row wr _ q _ _ hg3
      have hn:Sha.fillR b (k+1)=F.set q ((F.getD q 0 * 256+((b.getD k 0).toNat:Int)) % 4294967296):=by rw [← hF,← hq]; rfl
      obtain ⟨x,hx⟩:∃ x,b.getD k 0=x:=⟨_,rfl⟩
      obtain ⟨y,hy⟩:∃ y,F.getD q 0=y:=⟨_,rfl⟩
      rw [hx] at cb hn
      rw [hy] at cw hn
      have HN:=Boxed.mk hn
      have hxb:=byte_lt x
      have hqt:(k:Int).tdiv 4=(q:Int):=by rw [Int.tdiv_eq_ediv_of_nonneg (by omega)]; omega
      have hqd:(k:Int) / 4=(q:Int):=by omega
      have hqI:(q:Int) < 16:=by omega
      have hq0:(0:Int)<=(q:Int):=by omega
      have hkI:(k:Int) < 64:=by omega
      have hk0:(0:Int)<=(k:Int):=by omega
      have wq:=wrap_small (q:Int) (by omega) (by omega)
      clear hbe hg0 hg1 hg2 hg3 hF hFl hq hn hx hy
      go_wp2
      go_region
      go_wp2
      go_roundw
      case rel=>
        refine ⟨k+1,by omega,by go_num,(HBE.out.setCell (by dsimp only; omega) _).drew,?_,?_,?_,?_⟩
        · exact (Below.heap_setCell _ _ _ _ (by dsimp only; omega)).trans HG0.out
        · exact (Below.heap_setCell _ _ _ _ (by dsimp only; omega)).trans HG1.out
        · exact (Below.heap_setCell _ _ _ _ (by dsimp only; omega)).trans HG2.out
        · rw [HN.out,← u32s_set,show (y * 256+(x.toNat:Int)) % 4294967296=y * 256 % 4294967296+(x.toNat:Int) by omega]
          exact heap_setCell_same _ _ _ _ _ _ HG3.out
      case measure=>simp [intOf]; omega
    · obtain rfl:k=64:=by omega
      have hno:¬ ((64:Nat):Int) < 64:=by omega
      have hc:∀ j,wr.cell? ⟨w.heap.size,j,none⟩=(u32s [a,b1,c,d,e,f,g,h])[j]?:=fun j=>cell_of_row wr _ j _ _ _ hg0
      have k0:=hc 0
      have k1:=hc 1
      have k2:=hc 2
      have k3:=hc 3
      have k4:=hc 4
      have k5:=hc 5
      have k6:=hc 6
      have k7:=hc 7
      simp only [u32s,List.map_cons,List.map_nil,List.getElem?_toArray,List.getElem?_cons_zero,List.getElem?_cons_succ] at k0 k1 k2 k3 k4 k5 k6 k7
      clear hlt hk hbe hg0 hg1 hg2 hg3 hF hc
      obtain ⟨V,hV⟩:∃ V,F=V:=⟨_,rfl⟩
      subst hV
      obtain ⟨V,hV⟩:∃ V,V=F:=⟨_,rfl⟩
      subst hV
      go_wp2
      go_quiet (fail)
      go_wp2
      go_quiet (fail)
      go_wp2
      clear k0 k1 k2 k3 k4 k5 k6 k7
      go_loopw [7,8,9,10,11,12,13,14,15] (fun xa xb xc xd xe xf xg xh i wr=>∃ k:Nat,k<=64/\i=.int .i64 k/\xa=.int .u32 (Sha.roundsR s0 V k).a/\xb=.int .u32 (Sha.roundsR s0 V k).b/\xc=.int .u32 (Sha.roundsR s0 V k).c/\xd=.int .u32 (Sha.roundsR s0 V k).d/\xe=.int .u32 (Sha.roundsR s0 V k).e/\xf=.int .u32 (Sha.roundsR s0 V k).f/\xg=.int .u32 (Sha.roundsR s0 V k).g/\xh=.int .u32 (Sha.roundsR s0 V k).h/\Below w.heap.size w wr/\wr.heap[w.heap.size]?=some (.cells (u32s [a,b1,c,d,e,f,g,h]) 173 (0,0))/\wr.heap[w.heap.size+1+1]?=some (.cells (u32s (List.replicate 8 0)) 173 (0,0))/\wr.heap[w.heap.size+1+1+1]?=some (.cells (u32s (Sha.win V k)) 202 (0,0))) (fun _ _ _ _ _ _ _ _ i _=>64 - (intOf i).toNat)
      case atStart=>
        refine ⟨0,by omega,rfl,by rw [← HS.out]; rfl,by rw [← HS.out]; rfl,by rw [← HS.out]; rfl,by rw [← HS.out]; rfl,by rw [← HS.out]; rfl,by rw [← HS.out]; rfl,by rw [← HS.out]; rfl,by rw [← HS.out]; rfl,bel_drewN (bel_drewN HBE.out _) _,HG0.out,HG2.out,HG3.out⟩
      case round=>
        clear HBE HG0 HG1 HG2 HG3
        obtain ⟨k,hk,rfl,rfl,rfl,rfl,rfl,rfl,rfl,rfl,rfl,hbe,hg0,hg2,hg3⟩:=hrel
        by_cases hlt:k < 64
        · obtain ⟨U,hU⟩:∃ U,Sha.win V k=U:=⟨_,rfl⟩
          obtain ⟨U',hU'⟩:∃ U',Sha.win V (k+1)=U':=⟨_,rfl⟩
          have hUl:U.length=16:=by rw [← hU,Sha.win_length,hFl]
          have hUl':U'.length=16:=by rw [← hU',Sha.win_length,hFl]
          have hnext:U'=Sha.winNext U k:=by rw [← hU',← hU]; rfl
          obtain ⟨T,hT⟩:∃ T,Sha.roundsR s0 V k=T:=⟨_,rfl⟩
          obtain ⟨r0,hr0⟩:∃ r,k % 16=r:=⟨_,rfl⟩
          have hr16:r0 < 16:=by omega
          have hstep:Sha.roundsR s0 V (k+1)=Sha.step T (Sha.kTab.getD k 0) (U'.getD r0 0):=by rw [← hT,← hU',← hr0]; rfl
          obtain ⟨ww,hww⟩:∃ x,U'.getD r0 0=x:=⟨_,rfl⟩
          rw [hww] at hstep
          have hkc:=fun W=>const_any k W hlt
          obtain ⟨kk,hkk⟩:∃ x,Sha.kTab.getD k 0=x:=⟨_,rfl⟩
          rw [hkk] at hstep hkc
          have HKC:=Boxed.mk hkc
          clear hkk hkc
          rw [hU] at hg3
          have HST:=Boxed.mk hstep
          have HU:=Boxed.mk hU'
          have HUL:=Boxed.mk hUl'
          have HWW:=Boxed.mk hww
          have hm0:(k:Int).tmod 16=(r0:Int):=by rw [Int.tmod_eq_emod_of_nonneg (by omega)]; omega
          have hm0':(k:Int) % 16=(r0:Int):=by omega
          have hrI:(r0:Int) < 16:=by omega
          have hrp:(0:Int)<=(r0:Int):=by omega
          have hkI:(k:Int) < 64:=by omega
          rw [hT]
          obtain ⟨ra,rb,rc,rd,re,rf,rg,rh⟩:=T
          clear hU hU' hUl' hstep hww hT
          dsimp only
          by_cases h16:16<=k
          · have h16n:(k:Int) ≥ 16:=by omega
            have hUU:U'=U.set r0 ((U.getD r0 0+Sha.sP (U.getD ((k+1) % 16) 0)+U.getD ((k+9) % 16) 0+Sha.tP (U.getD ((k+14) % 16) 0)) % 4294967296):=by rw [hnext,Sha.winNext,if_pos h16,hr0]
            have hcw:∀ j,j < 16->wr.cell? ⟨w.heap.size+1+1+1,j,none⟩=some (.int .u32 (U.getD j 0)):=fun j hj=>(cell_of_row wr _ j _ _ _ hg3).trans (u32s_at U j (by omega))
            obtain ⟨r1,hr1⟩:∃ r,(k+1) % 16=r:=⟨_,rfl⟩
            have hr1b:r1 < 16:=by omega
            rw [hr1] at hUU
            have hm1:((k:Int)+1).tmod 16=(r1:Int):=by rw [Int.tmod_eq_emod_of_nonneg (by omega)]; omega
            have hm1':((k:Int)+1) % 16=(r1:Int):=by omega
            have hr1I:(r1:Int) < 16:=by omega
            have c1:=hcw r1 hr1b
            obtain ⟨v1,hu1⟩:∃ x,U.getD r1 0=x:=⟨_,rfl⟩
            rw [hu1] at c1 hUU
            clear hr1 hu1
            obtain ⟨r9,hr9⟩:∃ r,(k+9) % 16=r:=⟨_,rfl⟩
            have hr9b:r9 < 16:=by omega
            rw [hr9] at hUU
            have hm9:((k:Int)+9).tmod 16=(r9:Int):=by rw [Int.tmod_eq_emod_of_nonneg (by omega)]; omega
            have hm9':((k:Int)+9) % 16=(r9:Int):=by omega
            have hr9I:(r9:Int) < 16:=by omega
            have c9:=hcw r9 hr9b
            obtain ⟨v9,hu9⟩:∃ x,U.getD r9 0=x:=⟨_,rfl⟩
            rw [hu9] at c9 hUU
            clear hr9 hu9
            obtain ⟨r14,hr14⟩:∃ r,(k+14) % 16=r:=⟨_,rfl⟩
            have hr14b:r14 < 16:=by omega
            rw [hr14] at hUU
            have hm14:((k:Int)+14).tmod 16=(r14:Int):=by rw [Int.tmod_eq_emod_of_nonneg (by omega)]; omega
            have hm14':((k:Int)+14) % 16=(r14:Int):=by omega
            have hr14I:(r14:Int) < 16:=by omega
            have c14:=hcw r14 hr14b
            obtain ⟨v14,hu14⟩:∃ x,U.getD r14 0=x:=⟨_,rfl⟩
            rw [hu14] at c14 hUU
            clear hr14 hu14
            have c0:=hcw r0 hr16
            have f0:=frozen_of_row wr _ r0 _ _ hg3
            obtain ⟨v0,hu0⟩:∃ x,U.getD r0 0=x:=⟨_,rfl⟩
            rw [hu0] at c0 hUU
            have HUU:=Boxed.mk hUU
            have HBE:=Boxed.mk hbe
            have HG0:=Boxed.mk hg0
            have HG2:=Boxed.mk hg2
            have HG3:=Boxed.mk hg3
            clear hu0 hcw hUU hbe hg0 hg2 hg3 hnext hUl hr0
            go_wp2_with fail
            refine (turned_any v1 7 _ (by omega) (by omega)).mono ?_
            rintro _ _ ⟨rfl,rfl⟩
            go_wp2_with fail
            refine (turned_any v1 18 _ (by omega) (by omega)).mono ?_
            rintro _ _ ⟨rfl,rfl⟩
            go_wp2_with fail
            refine (turned_any v14 17 _ (by omega) (by omega)).mono ?_
            rintro _ _ ⟨rfl,rfl⟩
            go_wp2_with fail
            refine (turned_any v14 19 _ (by omega) (by omega)).mono ?_
            rintro _ _ ⟨rfl,rfl⟩
            go_wp2
            go_region
            go_wp2
            generalize hw5:World.drew (World.setCell _ _ _)=w5
            have H53:Boxed (w5.heap[w.heap.size+1+1+1]?=some (.cells (u32s U') 202 (0,0))):=Boxed.mk (by
              rw [← hw5,HUU.out,← u32s_set]
              refine (heap_setCell_same _ _ _ _ _ _ HG3.out).trans ?_
              first | rfl | (simp only [Int.emod_add_emod]; rfl))
            have H50:Boxed (w5.heap[w.heap.size]?=some (.cells (u32s [a,b1,c,d,e,f,g,h]) 173 (0,0))):=Boxed.mk (by rw [← hw5]; exact (Below.heap_setCell _ _ _ _ (by dsimp only; omega)).trans HG0.out)
            have H52:Boxed (w5.heap[w.heap.size+1+1]?=some (.cells (u32s (List.replicate 8 0)) 173 (0,0))):=Boxed.mk (by rw [← hw5]; exact (Below.heap_setCell _ _ _ _ (by dsimp only; omega)).trans HG2.out)
            have HB5:Boxed (Below w.heap.size w w5):=Boxed.mk (by rw [← hw5]; exact (HBE.out.setCell (by dsimp only; omega) _).drew)
            clear hw5 c0 c1 c9 c14 f0 hm1 hm1' hm9 hm9' hm14 hm14'
            have hlt5:=lt_of_heap H53.out
            have hSS:∀ w',Below w5.heap.size w5 w'->w'.cell? ⟨w.heap.size+1+1+1,r0,none⟩=some (.int .u32 ww)/\Below w5.heap.size w5 w':=fun w' hw=>⟨(cell_of_row w' _ r0 _ _ _ ((hw.block _ hlt5).trans H53.out)).trans (by rw [← HWW.out]; exact u32s_at U' r0 (by rw [HUL.out]; omega)),hw⟩
            have HSS:=Boxed.mk hSS
            have HDR:Boxed (Below w5.heap.size w5 w5.drew):=Boxed.mk (Below.refl _ w5).drew
            clear hSS hlt5
            try go_wp2
            go_region_held3 (fun w'=>w'.cell? ⟨w.heap.size+1+1+1,r0,none⟩=some (.int .u32 ww)/\Below w5.heap.size w5 w')
              ((refine HSS.out _ ?_; with_reducible (first | exact HDR.out | exact hB9 | fail)))
              (first | (go_at_call 156; refine (turned_any _ _ _ (by omega) (by omega)).mono ?_; rintro e' w' ⟨rfl,rfl⟩) | (go_at_call 157; refine (HKC.out _).mono ?_; rintro e' w9 ⟨rfl,hb9⟩; (have hB9:Below w5.heap.size w5 w9:=Below.trans HDR.out hb9)))
            have HB9:=Boxed.mk hB9
            clear hB9 hb9
            go_wp2_with fail
            refine (turned_any ra 2 _ (by omega) (by omega)).mono ?_
            rintro _ _ ⟨rfl,rfl⟩
            go_wp2_with fail
            refine (turned_any ra 13 _ (by omega) (by omega)).mono ?_
            rintro _ _ ⟨rfl,rfl⟩
            go_wp2_with fail
            refine (turned_any ra 22 _ (by omega) (by omega)).mono ?_
            rintro _ _ ⟨rfl,rfl⟩
            go_wp2
            go_roundw
            case rel=>
              have hb9:=HB9.out
              have l0:=lt_of_heap H50.out
              have l2:=lt_of_heap H52.out
              have l3:=lt_of_heap H53.out
              refine ⟨k+1,by omega,by go_num,?_,?_,?_,?_,?_,?_,?_,?_,HB5.out.trans (hb9.mono HB5.out.size),(hb9.block _ l0).trans H50.out,(hb9.block _ l2).trans H52.out,by rw [HU.out]; exact (hb9.block _ l3).trans H53.out⟩ <;> rw [HST.out] <;> simp only [Sha.step,Sha.uP,Sha.vP,Int.emod_add_emod] <;> rfl
            case measure=>simp [intOf]; omega
          · have h16n:¬ ((k:Int) ≥ 16):=by omega
            have hUU:U'=U:=by rw [hnext,Sha.winNext,if_neg h16]
            rw [← hUU] at hg3
            obtain ⟨w5,hw5⟩:∃ w5,wr=w5:=⟨_,rfl⟩
            have H53:Boxed (w5.heap[w.heap.size+1+1+1]?=some (.cells (u32s U') 202 (0,0))):=Boxed.mk (by rw [← hw5]; exact hg3)
            have H50:Boxed (w5.heap[w.heap.size]?=some (.cells (u32s [a,b1,c,d,e,f,g,h]) 173 (0,0))):=Boxed.mk (by rw [← hw5]; exact hg0)
            have H52:Boxed (w5.heap[w.heap.size+1+1]?=some (.cells (u32s (List.replicate 8 0)) 173 (0,0))):=Boxed.mk (by rw [← hw5]; exact hg2)
            have HB5:Boxed (Below w.heap.size w w5):=Boxed.mk (by rw [← hw5]; exact hbe)
            rw [hw5]
            clear hw5 hbe hg0 hg2 hg3 hnext hUl hUU hr0
            have hlt5:=lt_of_heap H53.out
            have hSS:∀ w',Below w5.heap.size w5 w'->w'.cell? ⟨w.heap.size+1+1+1,r0,none⟩=some (.int .u32 ww)/\Below w5.heap.size w5 w':=fun w' hw=>⟨(cell_of_row w' _ r0 _ _ _ ((hw.block _ hlt5).trans H53.out)).trans (by rw [← HWW.out]; exact u32s_at U' r0 (by rw [HUL.out]; omega)),hw⟩
            have HSS:=Boxed.mk hSS
            have HDR:Boxed (Below w5.heap.size w5 w5.drew):=Boxed.mk (Below.refl _ w5).drew
            clear hSS hlt5
            try go_wp2
            go_region_held3 (fun w'=>w'.cell? ⟨w.heap.size+1+1+1,r0,none⟩=some (.int .u32 ww)/\Below w5.heap.size w5 w')
              ((refine HSS.out _ ?_; with_reducible (first | exact HDR.out | exact hB9 | fail)))
              (first | (go_at_call 156; refine (turned_any _ _ _ (by omega) (by omega)).mono ?_; rintro e' w' ⟨rfl,rfl⟩) | (go_at_call 157; refine (HKC.out _).mono ?_; rintro e' w9 ⟨rfl,hb9⟩; (have hB9:Below w5.heap.size w5 w9:=Below.trans HDR.out hb9)))
            have HB9:=Boxed.mk hB9
            clear hB9 hb9
            go_wp2_with fail
            refine (turned_any ra 2 _ (by omega) (by omega)).mono ?_
            rintro _ _ ⟨rfl,rfl⟩
            go_wp2_with fail
            refine (turned_any ra 13 _ (by omega) (by omega)).mono ?_
            rintro _ _ ⟨rfl,rfl⟩
            go_wp2_with fail
            refine (turned_any ra 22 _ (by omega) (by omega)).mono ?_
            rintro _ _ ⟨rfl,rfl⟩
            go_wp2
            go_roundw
            case rel=>
              have hb9:=HB9.out
              have l0:=lt_of_heap H50.out
              have l2:=lt_of_heap H52.out
              have l3:=lt_of_heap H53.out
              refine ⟨k+1,by omega,by go_num,?_,?_,?_,?_,?_,?_,?_,?_,HB5.out.trans (hb9.mono HB5.out.size),(hb9.block _ l0).trans H50.out,(hb9.block _ l2).trans H52.out,by rw [HU.out]; exact (hb9.block _ l3).trans H53.out⟩ <;> rw [HST.out] <;> simp only [Sha.step,Sha.uP,Sha.vP,Int.emod_add_emod] <;> rfl
            case measure=>simp [intOf]; omega
        · obtain rfl:k=64:=by omega
          have hno:¬ ((64:Nat):Int) < 64:=by omega
          have hc:∀ j,wr.cell? ⟨w.heap.size,j,none⟩=(u32s [a,b1,c,d,e,f,g,h])[j]?:=fun j=>cell_of_row wr _ j _ _ _ hg0
          have k0:=hc 0
          have k1:=hc 1
          have k2:=hc 2
          have k3:=hc 3
          have k4:=hc 4
          have k5:=hc 5
          have k6:=hc 6
          have k7:=hc 7
          simp only [u32s,List.map_cons,List.map_nil,List.getElem?_toArray,List.getElem?_cons_zero,List.getElem?_cons_succ] at k0 k1 k2 k3 k4 k5 k6 k7
          obtain ⟨T,hT⟩:∃ T,Sha.roundsR s0 V 64=T:=⟨_,rfl⟩
          have HR:Boxed (Sha.blockR ⟨a,b1,c,d,e,f,g,h⟩ b=Sha.addP ⟨a,b1,c,d,e,f,g,h⟩ T):=Boxed.mk (by unfold Sha.blockR; rw [HS.out,HF.out,hT])
          rw [hT]
          obtain ⟨ra,rb,rc,rd,re,rf,rg,rh⟩:=T
          have HG2:=Boxed.mk hg2
          have HBE:=Boxed.mk hbe
          clear hlt hk hbe hg0 hg2 hg3 hc hT
          dsimp only
          go_wp2_with (refine wpList_store_row (by rfl) _ _ _ (by rfl) (w.heap.size+1+1) (u32s (Sha.addP ⟨a,b1,c,d,e,f,g,h⟩ ⟨ra,rb,rc,rd,re,rf,rg,rh⟩).list) (by rfl) (by rfl) _ _ HG2.out (by exact info8w) (by rfl) (u32s_one _) ?_)
          refine bodyPost_ret (v:=.agg (u32s (Sha.addP ⟨a,b1,c,d,e,f,g,h⟩ ⟨ra,rb,rc,rd,re,rf,rg,rh⟩).list)) (results_cell_row rfl _ _ (w.heap.size+1+1) _ _ _ _ rfl (setRow_heap _ _ _ _ _ _ HG2.out) Tryz.underlying173 rfl info8w) rfl ⟨?_,below_setRow HBE.out (by omega) _⟩
          rw [HR.out]
          rfl
end
section
open Go.RowKit
theorem conv_byte (w:World) (x:Int):(convert 126 9 (.slice (some ⟨w.heap.size,0,none⟩) 1 1)).run Tryz.prog (w.alloc (.cells #[.int .u8 (x % 256)] 5))=.ok (.string ⟨[Sha.byteOf x].toArray⟩) (w.alloc (.cells #[.int .u8 (x % 256)] 5)):=by
  have hg:=heap_alloc_new w (.cells #[.int .u8 (x % 256)] 5)
  refine run_convert_bytes_back (P:=Tryz.prog) _ 126 9 5 ⟨w.heap.size,0,none⟩ 1 [Sha.byteOf x] Tryz.underlying126 Tryz.underlying5 Tryz.underlying9 ?_
  intro j hj
  rw [Addr.add_mid,Nat.zero_add,cell_of_row _ _ j _ _ _ hg]
  match j,hj with
  | 0,_=>simp [Sha.byteOf_toNat]
theorem conv_zeros (w:World) (z:Nat):(convert 126 9 (.slice (some ⟨w.heap.size,0,none⟩) z z)).run Tryz.prog (w.alloc (.cells (madeCells #[.int .u8 0] z) 5))=.ok (.string ⟨(List.replicate z (0:UInt8)).toArray⟩) (w.alloc (.cells (madeCells #[.int .u8 0] z) 5)):=by
  obtain ⟨cs,h1,_,h3⟩:=World.rowIs_made w (.int .u8 0) z 5
  have hlz:(List.replicate z (0:UInt8)).length=z:=by simp
  have:=run_convert_bytes_back (P:=Tryz.prog) (w.alloc (.cells (madeCells #[.int .u8 0] z) 5)) 126 9 5 ⟨w.heap.size,0,none⟩ z (List.replicate z 0) Tryz.underlying126 Tryz.underlying5 Tryz.underlying9 (by
    intro j hj
    rw [Addr.add_mid,Nat.zero_add,cell_of_row _ _ j _ _ _ h1,h3 j (by simpa using hj)]
    simp)
  rwa [hlz] at this
theorem info64y:(Tryz.prog.info? 175).map (·.size)=some 64:=by kernel_rfl
theorem rsum_any (s:List UInt8) (w:World) (hn:s.length<=1000):
    Calls Tryz.prog 85 #[.string ⟨s.toArray⟩] w fun e w'=>e=.returned (.string ⟨(Sha.sumP s).toArray⟩)/\Below w.heap.size w w':=by
  obtain ⟨n,hnn⟩:∃ n,s.length=n:=⟨_,rfl⟩
  have hn':n<=1000:=by omega
  obtain ⟨m,hm⟩:∃ m:Nat,n % 64=m:=⟨_,rfl⟩
  obtain ⟨z,hz⟩:∃ z:Nat,z=(119 - n % 64) % 64:=⟨_,rfl⟩
  have hzb:z<=63:=by omega
  have m1:(n:Int).tmod 64=(m:Int):=by rw [Int.tmod_eq_emod_of_nonneg (by omega)]; omega
  have m2:(n:Int) % 64=(m:Int):=by omega
  have z1:(119 - (m:Int)).tmod 64=(z:Int):=by rw [Int.tmod_eq_emod_of_nonneg (by omega)]; omega
  have z2:(119 - (m:Int)) % 64=(z:Int):=by omega
  have htail:=Sha.tailP_is n z hz
  have HT:Hid (Sha.sumP s=Sha.joinP (Sha.wordsP (s ++ Sha.tailP n))):=qh (by unfold Sha.sumP; rw [hnn])
  have HTA:=qh htail
  have hsz:s.length=n:=hnn
  have hmb:m < 64:=by omega
  clear htail hz hm hn hnn
  go_enter Tryz.func85,Tryz.ntmps85
  go_wp2
  go_loopw [4,5,6] (fun b t i wr=>∃ k:Nat,k<=8/\i=.int .i64 k/\b=.int .i64 ((n * 8 / 256 ^ k:Nat):Int)/\t=.string ⟨(Sha.endR (n * 8) k).toArray⟩/\Below w.heap.size w wr) (fun _ _ i _=>8 - (intOf i).toNat)
  case atStart=>exact ⟨0,by omega,rfl,by simp,rfl,Below.refl _ _⟩
  case round=>
    obtain ⟨k,hk,rfl,rfl,rfl,hb⟩:=hrel
    have HB:=qh hb
    clear hb
    by_cases hlt:k < 8
    · have hk8:(k:Int) < 8:=by omega
      have hnx:Sha.endR (n * 8) (k+1)=Sha.byteOf ((n * 8 / 256 ^ k:Nat):Int) :: Sha.endR (n * 8) k:=rfl
      have hdv:n * 8 / 256 ^ (k+1)=n * 8 / 256 ^ k / 256:=by rw [Nat.pow_succ,Nat.div_div_eq_div_mul]
      have hel:=Sha.endR_length (n * 8) k
      have hble:n * 8 / 256 ^ k<=8000:=Nat.le_trans (Nat.div_le_self _ _) (by omega)
      obtain ⟨b,hbb⟩:∃ b,n * 8 / 256 ^ k=b:=⟨_,rfl⟩
      obtain ⟨E,hE⟩:∃ E,Sha.endR (n * 8) k=E:=⟨_,rfl⟩
      obtain ⟨E',hE'⟩:∃ E',Sha.endR (n * 8) (k+1)=E':=⟨_,rfl⟩
      rw [hbb] at hnx hdv hble ⊢
      rw [hE] at hnx hel ⊢
      rw [hE'] at hnx
      have hcm:=cat_mk [Sha.byteOf (b:Int)] E
      have hcons:[Sha.byteOf (b:Int)] ++ E=E':=hnx.symm
      rw [hcons] at hcm
      have kc:=fun w=>conv_byte w (b:Int)
      have hEl:E.length<=8:=by omega
      have HD:=qh hdv
      have HE:=qh hE'
      have b1:(b:Int).tmod 256=(b:Int) % 256:=Int.tmod_eq_emod_of_nonneg (by omega)
      have b2:(b:Int).tdiv 256=(b:Int) / 256:=Int.tdiv_eq_ediv_of_nonneg (by omega)
      clear hnx hdv hel hbb hE hE' hcons
      go_wp2
      go_roundw
      case rel=>exact ⟨k+1,by omega,by go_num,by rw [HD.out]; simp,by rw [HE.out],HB.out.alloc HB.out.size _⟩
      case measure=>simp [intOf]; omega
    · obtain rfl:k=8:=by omega
      have hno:¬ ((8:Nat):Int) < 8:=by omega
      have hel:=Sha.endR_length (n * 8) 8
      obtain ⟨E,hE⟩:∃ E,Sha.endR (n * 8) 8=E:=⟨_,rfl⟩
      rw [hE] at hel HTA ⊢
      obtain ⟨S1,hS1⟩:∃ S1,s ++ [128]=S1:=⟨_,rfl⟩
      obtain ⟨S2,hS2⟩:∃ S2,S1 ++ List.replicate z 0=S2:=⟨_,rfl⟩
      obtain ⟨ALL,hALL⟩:∃ S3,S2 ++ E=S3:=⟨_,rfl⟩
      have c1:=cat_mk s [128]
      have c2:=cat_mk S1 (List.replicate z 0)
      have c3:=cat_mk S2 E
      rw [hS1] at c1
      rw [hS2] at c2
      rw [hALL] at c3
      have l1:S1.length=n+1:=by rw [← hS1]; simp; omega
      have l2:S2.length=n+1+z:=by rw [← hS2]; simp; omega
      have l3:ALL.length=n+1+z+8:=by rw [← hALL]; simp; omega
      have HALL:Hid (ALL=s ++ Sha.tailP n):=qh (by rw [HTA.out,← hALL,← hS2,← hS1]; simp)
      obtain ⟨Q,hQ⟩:∃ Q,ALL.length=64 * Q:=⟨(n+1+z+8) / 64,by omega⟩
      have hQb:Q<=20:=by omega
      have hlz:(List.replicate z (0:UInt8)).length=z:=by simp
      have hmk:=fun w=>run_make_row' (P:=Tryz.prog) 126 5 (.int .u8 0) 1 Tryz.underlying126 Tryz.infoByte rfl .i64 .i64 z (by omega) (by omega) w
      have hkz:=fun w=>conv_zeros w z
      obtain ⟨Zs,hZs⟩:∃ Zs,List.replicate z (0:UInt8)=Zs:=⟨_,rfl⟩
      obtain ⟨MC,hMC⟩:∃ MC,madeCells #[.int .u8 0] z=MC:=⟨_,rfl⟩
      rw [hZs] at c2 hlz hkz
      rw [hMC] at hkz hmk
      have b1:S1.length<=2000:=by omega
      have b2:S2.length<=2000:=by omega
      have b3:ALL.length<=2000:=by omega
      have b4:s.length<=1000:=by omega
      have b5:Zs.length<=64:=by omega
      have b6:E.length<=8:=by omega
      have HQ:=qh hQ
      have hf:=rfirst_any
      simp only [Sha.St.list,u32s,List.map_cons,List.map_nil,Sha.first] at hf
      have HF:=qh hf
      clear hE hS1 hS2 hALL hlt hk hZs hMC hQ l1 l2 l3 hlz hel hf
      go_wp2_with fail
      refine (HF.out _).mono ?_
      rintro e w2 ⟨rfl,hb2⟩
      have HB2:=qh ((HB.out.alloc HB.out.size (.cells MC 5)).trans (hb2.mono (HB.out.alloc HB.out.size (.cells MC 5)).size))
      clear hb2 hkz hmk c1 c2 c3 b1 b2 b5 b6
      go_wp2
      obtain ⟨g,hg⟩:∃ g,w2.heap.size=g:=⟨_,rfl⟩
      have HGG:=qh hg
      have HGW:Hid (w.heap.size<=g):=qh (by rw [← hg]; exact HB2.out.size)
      rw [hg]
      clear hg
      go_loopw [9] (fun i wr=>∃ k:Nat,k<=Q/\i=.int .i64 ((64 * k:Nat):Int)/\Below w.heap.size w wr/\wr.heap[g]?=some (.cells (u32s (Sha.absorb ALL k).list) 173 (0,0))) (fun i _=>64 * Q - (intOf i).toNat)
      case atStart=>
        refine ⟨0,Nat.zero_le _,rfl,HB2.out.alloc HB2.out.size _,?_⟩
        exact heap_new_at _ _ _ HGG.out.symm
      case round=>
        obtain ⟨k,hk,rfl,hb,hgr⟩:=hrel
        obtain ⟨S,hS⟩:∃ S,Sha.absorb ALL k=S:=⟨_,rfl⟩
        obtain ⟨RS,hRS⟩:∃ R,u32s S.list=R:=⟨_,rfl⟩
        rw [hS,hRS] at hgr
        have HS:=qh hS
        have HRS:=qh hRS
        have HBR:=qh hb
        have HGR:=qh hgr
        have hRz:RS.size=8:=by rw [← hRS]; rfl
        have HRI:Hid ((Tryz.prog.info? 173).map (·.size)=some RS.size):=qh (by rw [hRz]; exact info8w)
        by_cases hlt:k < Q
        · have hle:((64 * k:Nat):Int)+64<=(ALL.length:Int):=by have:=HQ.out; omega
          obtain ⟨X,hX⟩:∃ X,(ALL.drop (64 * k)).take 64=X:=⟨_,rfl⟩
          have hXl:X.length=64:=by rw [← hX]; simp; have:=HQ.out; omega
          have hXat:∀ j,j < 64->ALL.getD (64 * k+j) 0=X.getD j 0:=fun j hj=>by rw [← hX]; simp [hj]
          have hnx:Sha.absorb ALL (k+1)=Sha.blockP S X:=by rw [← hX,← hS]; rfl
          have hblk:=fun w'=>rblock_any S X w' hXl
          rw [Sha.blockR_is] at hblk
          obtain ⟨T,hT⟩:∃ T,Sha.blockP S X=T:=⟨_,rfl⟩
          obtain ⟨RT,hRT⟩:∃ R,u32s T.list=R:=⟨_,rfl⟩
          rw [hT,hRT,hRS] at hblk
          rw [hT] at hnx
          obtain ⟨XB,hXB⟩:∃ X',u8s X=X':=⟨_,rfl⟩
          rw [hXB] at hblk
          have HBLK:=qh hblk
          have HNX:=qh hnx
          have HRT:=qh hRT
          have HXA:=qh hXat
          have HXL:=qh hXl
          have HXB:=qh hXB
          have hTz:RT.size=8:=by rw [← hRT]; rfl
          have HTI:Hid ((Tryz.prog.info? 173).map (·.size)=some RT.size):=qh (by rw [hTz]; exact info8w)
          have HT1:Hid (RT.all (·.oneCell')=true):=qh (by rw [← hRT]; exact u32s_one _)
          have HRTz:Hid (RS.size=RT.size):=qh (by rw [hRz,hTz])
          obtain ⟨i0,hi0⟩:∃ i0,64 * k=i0:=⟨_,rfl⟩
          rw [hi0] at hle HXA ⊢
          have HI0:=qh hi0
          have hi2000:i0<=2000:=by omega
          clear hS hRS hb hgr hRz hX hXl hXat hnx hblk hT hRT hTz hi0 hXB
          go_wp2
          obtain ⟨pb,hpb⟩:∃ pb,wr.heap.size=pb:=⟨_,rfl⟩
          have HGP:Hid (g < pb):=qh (by rw [← hpb]; exact lt_of_heap HGR.out)
          have HWP:Hid (w.heap.size<=pb):=qh (by rw [← hpb]; exact HBR.out.size)
          have HSt1:Hid (Below w.heap.size w (wr.alloc (.cells (u8s (List.replicate 64 0)) 175))):=qh (HBR.out.alloc HBR.out.size _)
          have HSt2:Hid ((wr.alloc (.cells (u8s (List.replicate 64 0)) 175)).heap[g]?=some (.cells RS 173 (0,0))):=qh (heap_old_at _ HGR.out)
          have HSt3:Hid ((wr.alloc (.cells (u8s (List.replicate 64 0)) 175)).heap[pb]?=some (.cells (u8s (Sha.copyR X 0)) 175 (0,0))):=qh (heap_new_at _ _ _ hpb.symm)
          rw [hpb]
          clear hpb
          go_loopw [11] (fun i wr=>∃ j:Nat,j<=64/\i=.int .i64 j/\Below w.heap.size w wr/\wr.heap[g]?=some (.cells RS 173 (0,0))/\wr.heap[pb]?=some (.cells (u8s (Sha.copyR X j)) 175 (0,0))) (fun i _=>64 - (intOf i).toNat)
          case atStart=>exact ⟨0,by omega,rfl,HSt1.out,HSt2.out,HSt3.out⟩
          case round=>
            clear HSt1 HSt2 HSt3 HBR HGR
            obtain ⟨j,hj,rfl,hb,hgr,hpr⟩:=hrel
            obtain ⟨F,hF⟩:∃ F,Sha.copyR X j=F:=⟨_,rfl⟩
            have hFl:F.length=64:=by rw [← hF,Sha.copyR_length]
            rw [hF] at hpr
            have HF:=qh hF
            have HBR:=qh hb
            have HGR:=qh hgr
            have HPR:=qh hpr
            by_cases hj64:j < 64
            · have hjI:(j:Int) < 64:=by omega
              have co:wr.cell? ⟨pb,j,none⟩=some (.int .u8 ((F.getD j 0).toNat:Int)):=(cell_of_row wr _ j _ _ _ hpr).trans (u8s_at F j (by omega))
              obtain ⟨old,hold⟩:∃ o,((F.getD j 0).toNat:Int)=o:=⟨_,rfl⟩
              rw [hold] at co
              have fo:=frozen_of_row wr _ j _ _ hpr
              have hin:i0+j < ALL.length:=by omega
              have hat:=HXA.out j hj64
              have hnn:Sha.copyR X (j+1)=F.set j (X.getD j 0):=by rw [← hF]; rfl
              obtain ⟨c,hc⟩:∃ c,X.getD j 0=c:=⟨_,rfl⟩
              rw [hc] at hat hnn
              have hix:∀ h,(⟨ALL.toArray⟩:ByteArray)[i0+j]'h=c:=fun h=>by
                rw [← hat]
                simp [hin]
                rfl
              have e0:((i0:Int)+(j:Int)).toNat=i0+j:=by omega
              have hinI:(i0:Int)+(j:Int) < (ALL.length:Int):=by omega
              have HNN:=qh hnn
              clear hb hgr hpr hF hFl hold hat hnn hc
              go_wp2
              go_roundw
              case rel=>
                have hgp:=HGP.out
                refine ⟨j+1,by omega,by go_num,HBR.out.setCell HWP.out _,(Below.heap_setCell _ _ _ _ (by dsimp only; omega)).trans HGR.out,?_⟩
                rw [HNN.out,← u8s_set]
                exact heap_setCell_same _ _ _ _ _ _ HPR.out
              case measure=>simp [intOf]; omega
            · obtain rfl:j=64:=by omega
              have hno64:¬ ((64:Nat):Int) < 64:=by omega
              have HXF:Hid (u8s F=XB):=qh (by rw [← HF.out,Sha.copyR_all X HXL.out,HXB.out])
              rw [HXF.out] at HPR
              have HXI:Hid ((Tryz.prog.info? 175).map (·.size)=some XB.size):=qh (by rw [← HXB.out,u8s_size,HXL.out]; exact info64y)
              clear hj64 hj hb hgr hpr hF hFl
              go_wp2_with (first | (refine wpList_load_row (by rfl) _ _ (by rfl) g (by rfl) _ RS _ _ HGR.out Tryz.underlying173 (by rfl) HRI.out ?_) | (refine wpList_load_row (by rfl) _ _ (by rfl) pb (by rfl) _ XB _ _ HPR.out Tryz.underlying175 (by rfl) HXI.out ?_))
              refine (HBLK.out _).mono ?_
              rintro e w6 ⟨rfl,hb6⟩
              have HG6:=qh ((hb6.block g (lt_of_heap HGR.out)).trans HGR.out)
              have HB6:=qh (HBR.out.trans (hb6.mono HBR.out.size))
              clear hb6
              go_wp2_with (refine wpList_store_row (by rfl) _ _ _ (by rfl) g RT (by rfl) (by rfl) _ _ HG6.out HTI.out HRTz.out HT1.out ?_)
              go_roundw
              case rel=>exact ⟨k+1,by omega,by rw [← HI0.out]; go_num,below_setRow HB6.out HGW.out _,by rw [HNX.out,HRT.out]; exact setRow_heap _ _ _ _ _ _ HG6.out⟩
              case measure=>have:=HQ.out; have:=HI0.out; simp [intOf]; omega
        · obtain rfl:k=Q:=by omega
          have hno:¬ (((64 * k:Nat):Int)+64<=(ALL.length:Int)):=by have:=HQ.out; omega
          have HTO:=qh (rtold_any S wr)
          rw [hRS] at HTO
          have HFI:Hid (Sha.sumP s=Sha.joinP S):=qh (by
            rw [HT.out,← HALL.out,← HS.out]
            unfold Sha.wordsP
            rw [HQ.out,Nat.mul_div_cancel_left _ (by omega)])
          obtain ⟨i0,hi0⟩:∃ i0,64 * k=i0:=⟨_,rfl⟩
          rw [hi0] at hno ⊢
          have hi2000:i0<=2000:=by omega
          clear hS hRS hb hgr hRz hlt hk hi0
          go_wp2_with (refine wpList_load_row (by rfl) _ _ (by rfl) g (by rfl) _ RS _ _ HGR.out Tryz.underlying173 (by rfl) HRI.out ?_)
          refine HTO.out.mono ?_
          rintro e w6 ⟨rfl,hb6⟩
          go_wp2
          go_ret
          exact ⟨by rw [HFI.out]; rfl,HBR.out.trans (hb6.mono HBR.out.size)⟩
end
section
open Go.RowKit
theorem rTagged_any (t:Int) (s:List UInt8) (w:World) (hs:s.length<=999):
    Calls Tryz.prog 50 #[.int .i64 t,.string ⟨s.toArray⟩] w fun e w'=>e=.returned (.string ⟨(Sha.sumP (Sha.byteOf t :: s)).toArray⟩)/\Below w.heap.size w w':=by
  have HS:=qh (fun w=>rsum_any (Sha.byteOf t :: s) w (by simp; omega))
  obtain ⟨R,hR⟩:∃ R,Sha.sumP (Sha.byteOf t :: s)=R:=⟨_,rfl⟩
  rw [hR] at HS ⊢
  have hcm:=cat_mk [Sha.byteOf t] s
  have kc:=fun w=>conv_tag w t
  rw [List.singleton_append] at hcm
  clear hR
  go_enter Tryz.func50,Tryz.ntmps50
  go_wp2_with fail
  have hB1:Below w.heap.size w (w.alloc (.cells #[.int .u8 (t % 256)] 5)):=(Below.refl _ w).alloc (Nat.le_refl _) _
  refine (HS.out _).mono ?_
  rintro e w2 ⟨rfl,hb2⟩
  go_wp2
  go_ret
  exact ⟨rfl,bchain hB1 hb2⟩
end
section
open Go.RowKit
open Go.Proofs.YtaficmboooaknaaGreatDoor.Nd (N)
def Nd.sumS (n:N):List UInt8:=if Nd.fine n then Dig.sum 1 (Nd.written n) else []
theorem ndigest_any (n:N) (w:World) (hn:n.kids.length=16) (hT:Tab w):
    Calls Tryz.prog 100 #[ndval n] w fun e w'=>e=.returned (.string ⟨(Nd.sumS n).toArray⟩)/\Below w.heap.size w w':=by
  obtain ⟨C,hC,HB0,HCE,HI,HI2⟩:=nbox n w hn
  have HE:=qh (fun w=>nencode_any n w hn)
  have HTW:=qh (fun w' (h:Below w.heap.size w w')=>hT.below h)
  unfold Nd.sumS
  unfold Nd.encS Nd.encC ndval at HE
  unfold ndval
  rw [hC] at HE ⊢
  obtain ⟨-,-,-,-,-,cR⟩:=HCE.out _ (Below.refl _ _)
  have HRO:=qh cR
  clear hC cR hT
  cases hf:Nd.fine n with
  | false=>
    rw [hf] at HE
    rw [if_neg (by decide)]
    rw [if_neg (by decide),if_neg (by decide)] at HE
    clear hf
    go_enter Tryz.func100,Tryz.ntmps100
    go_wp2_with (refine wpList_load_row (by rfl) _ _ (by rfl) w.heap.size (by rfl) _ C _ _ HRO.out Tryz.underlying110 (by rfl) HI.out ?_)
    refine (HE.out _).mono ?_
    rintro e w1 ⟨rfl,hb1⟩
    go_wp2
    go_ret
    exact ⟨rfl,bchain HB0.out hb1⟩
  | true=>
    have hl:=Nd.written_most n hn hf
    rw [hf] at HE
    rw [if_pos rfl]
    rw [if_pos rfl,if_pos rfl] at HE
    obtain ⟨T,hT⟩:∃ T,Nd.written n=T:=⟨_,rfl⟩
    rw [hT] at HE hl ⊢
    have HL:=qh hl
    obtain ⟨S,hS⟩:∃ S,Dig.sum 1 T=S:=⟨_,rfl⟩
    have HSU:Hid (∀ w',Tab w'->Calls Tryz.prog 115 #[.int .i64 1,.string ⟨T.toArray⟩] w' fun e w''=>e=.returned (.tuple #[.string ⟨S.toArray⟩,.int .i64 0])/\Below w'.heap.size w' w''):=qh (fun w' h=>by
      have:=dsum_any 1 T w' h (by omega)
      rw [hS,show Dig.sumC 1=0 from by decide] at this
      exact this)
    rw [hS]
    clear hf hT hl hS
    go_enter Tryz.func100,Tryz.ntmps100
    go_wp2_with (refine wpList_load_row (by rfl) _ _ (by rfl) w.heap.size (by rfl) _ C _ _ HRO.out Tryz.underlying110 (by rfl) HI.out ?_)
    refine (HE.out _).mono ?_
    rintro e w1 ⟨rfl,hb1⟩
    have HB1:=qh (bchain HB0.out hb1)
    clear hb1
    go_wp2_with fail
    refine (HSU.out _ (HTW.out _ HB1.out)).mono ?_
    rintro e w2 ⟨rfl,hb2⟩
    go_wp2
    go_ret
    exact ⟨rfl,bchain HB1.out hb2⟩
end
section
open Go.RowKit
open Go.Proofs.YtaficmboooaknaaGreatDoor.Nd (N)
namespace Tri
open Sto (T)
def Tr.kind:Tr->Nat
  | .nil=>0
  | .leaf _ _=>1
  | .ext _ _=>2
  | .br _ _=>3
def Tr.pth:Tr->T
  | .leaf p _=>p
  | .ext p _=>p
  | _=>[]
def Tr.vl:Tr->T
  | .leaf _ v=>v
  | .br v _=>v
  | _=>[]
def Tr.kid:Tr->Fin 16->Tr
  | .ext _ t,i=>if i=0 then t else .nil
  | .br _ k,i=>k i
  | _,_=>.nil
theorem kid_ind {P:Tr->Prop} (h0:P .nil) (h:∀ t:Tr,¬ t.isNil->(∀ i,P (t.kid i))->P t) (t:Tr):P t:=by
  induction t with
  | nil=>exact h0
  | leaf p v=>exact h _ id fun i=>h0
  | ext p t ih=>
    refine h _ id fun i=>?_
    simp only [Tr.kid]
    split
    · exact ih
    · exact h0
  | br v k ih=>exact h _ id ih
theorem kid_ext {t u:Tr} (h1:t.kind=u.kind) (h2:t.pth=u.pth) (h3:t.vl=u.vl) (h4:∀ i,t.kid i=u.kid i):t=u:=by
  cases t <;> cases u <;> simp_all [Tr.kind,Tr.pth,Tr.vl,Tr.kid]
  · have:=h4 0
    simpa using this
  · funext i; exact h4 i
theorem rep_ofFn (a:T):a :: List.replicate 15 []=List.ofFn fun i:Fin 16=>if i=0 then a else []:=by
  simp [List.ofFn_succ,List.replicate]
theorem rep_ofFn0:List.replicate 16 ([]:T)=List.ofFn fun _:Fin 16=>[]:=by simp [List.ofFn_succ,List.replicate]
theorem node_kid (dg:N->T) {t:Tr} (h:¬ t.isNil):t.node dg=⟨t.kind,t.pth,t.vl,List.ofFn fun i=>(t.kid i).sum dg⟩:=by
  cases t with
  | nil=>exact absurd trivial h
  | leaf p v=>simp only [Tr.node,Tr.kind,Tr.pth,Tr.vl,Tr.kid,Tr.sum,rep_ofFn0]; rfl
  | ext p t=>
    simp only [Tr.node,Tr.kind,Tr.pth,Tr.vl,rep_ofFn]
    congr 2
    funext i
    simp only [Tr.kid]
    split <;> rfl
  | br v k=>rfl
theorem kind_nil {t:Tr}:t.kind=0 ↔ t.isNil:=by cases t <;> simp [Tr.kind,Tr.isNil]
theorem kid_canon {t:Tr} (h:t.canon) (i:Fin 16):(t.kid i).canon:=by
  cases t with
  | nil=>trivial
  | leaf p v=>trivial
  | ext p t=>
    simp only [Tr.kid]; split
    · exact h.2.2
    · trivial
  | br v k=>exact h.1 i
theorem kid_fits {t:Tr} (h:t.fits) (i:Fin 16):(t.kid i).fits:=by
  cases t with
  | nil=>trivial
  | leaf p v=>trivial
  | ext p t=>
    simp only [Tr.kid]; split
    · exact h.2
    · trivial
  | br v k=>exact h i
theorem kid_small {t:Tr} (h:t.small) (i:Fin 16):(t.kid i).small:=by
  cases t with
  | nil=>trivial
  | leaf p v=>trivial
  | ext p t=>
    simp only [Tr.kid]; split
    · exact h.2
    · trivial
  | br v k=>exact h.2 i
structure Ok (t:Tr):Prop where
  canon:t.canon
  fits:t.fits
  small:t.small
theorem Ok.kid {t:Tr} (h:Ok t) (i:Fin 16):Ok (t.kid i):=⟨kid_canon h.canon i,kid_fits h.fits i,kid_small h.small i⟩
theorem sumS_len (n:N) (_:n.kids.length=16) (h:Nd.fine n=true):(Nd.sumS n).length=32:=by
  unfold Nd.sumS
  rw [if_pos h]
  rw [Dig.sum,if_pos (by decide)]; exact Sha.sumP_length _
theorem Ok.fine {t:Tr} (h:Ok t) (hn:¬ t.isNil):Nd.fine (t.node Nd.sumS)=true:=node_fine Nd.sumS sumS_len h.canon h.fits h.small hn
theorem Ok.sum_len {t:Tr} (h:Ok t) (hn:¬ t.isNil):(t.sum Nd.sumS).length=32:=by
  rw [sum_node _ hn]
  exact sumS_len _ (node_kids _ _) (h.fine hn)
theorem Ok.sum_ne {t:Tr} (h:Ok t) (hn:¬ t.isNil):t.sum Nd.sumS ≠ []:=fun e=>by have:=h.sum_len hn; rw [e] at this; cases this
end Tri
open Sto (T)
open Tri (Tr Ok)
abbrev Ks:=Fin 16->Value
def nilp:Value:=.pointer none
def ptr (g:Nat):Value:=.pointer (some ⟨g,0,none⟩)
theorem ptr_inj {a b:Nat} (h:ptr a=ptr b):a=b:=by
  unfold ptr at h
  injection h with h; injection h with h; injection h
def pcl (kind:Nat) (p x:T) (K:Ks) (s:T):List Value:=.int .i64 kind :: .string ⟨p.toArray⟩ :: .string ⟨x.toArray⟩ :: (List.ofFn K ++ [.string ⟨s.toArray⟩])
theorem pcl_length (kind:Nat) (p x:T) (K:Ks) (s:T):(pcl kind p x K s).length=20:=by simp [pcl]
theorem ofFn_injV {f g:Ks} (h:List.ofFn f=List.ofFn g):f=g:=by
  funext i
  have:=List.getElem_of_eq h (i:=i.val) (by rw [List.length_ofFn]; exact i.isLt)
  rwa [List.getElem_ofFn,List.getElem_ofFn] at this
theorem pcl_inj {k k':Nat} {p p' x x' s s':T} {K K':Ks} (h:pcl k p x K s=pcl k' p' x' K' s'):k=k'/\p=p'/\x=x'/\K=K'/\s=s':=by
  unfold pcl at h
  obtain ⟨h1,h⟩:=List.cons.inj h
  obtain ⟨h2,h⟩:=List.cons.inj h
  obtain ⟨h3,h⟩:=List.cons.inj h
  obtain ⟨h4,h⟩:=List.append_inj h (by simp)
  refine ⟨?_,str_inj h2,str_inj h3,ofFn_injV h4,str_inj (List.cons.inj h).1⟩
  injection h1 with _ h1
  exact Int.ofNat_inj.1 h1
def RowP (w:World) (g kind:Nat) (p x:T) (K:Ks) (s:T):Prop:=w.heap[g]?=some (.cells (pcl kind p x K s).toArray 87 (0,0))
theorem RowP.inj {w:World} {g k k':Nat} {p p' x x' s s':T} {K K':Ks} (h:RowP w g k p x K s) (h':RowP w g k' p' x' K' s'):k=k'/\p=p'/\x=x'/\K=K'/\s=s':=by
  unfold RowP at h h'
  rw [h] at h'
  injection h' with h'; injection h' with h'
  exact pcl_inj (List.toArray_inj h')
abbrev Fm:=Bool->Nat->Prop
def Fm.from (B:Nat):Fm:=fun s g=>s=false->B<=g
def Fm.off (F:Fm) (q:Nat):Fm:=fun s g=>F s g/\g ≠ q
def Blk (w:World) (F:Fm) (s:Bool) (kind:Nat) (p x sum:T) (v:Value) (R:Bool->Ks->Prop):Prop:=
  ∃ g s' K,v=ptr g/\(s=true->s'=true)/\F s' g/\RowP w g kind p x K (if s' then sum else [])/\R s' K
def PAt (w:World) (F:Fm):Bool->Tr->Value->Prop
  | _,.nil,v=>v=nilp
  | s,.leaf p x,v=>Blk w F s 1 p x (Tr.sum Nd.sumS (.leaf p x)) v fun _ K=>∀ i,K i=nilp
  | s,.ext p t,v=>Blk w F s 2 p [] (Tr.sum Nd.sumS (.ext p t)) v fun s' K=>PAt w F s' t (K 0)/\∀ i,i ≠ 0->K i=nilp
  | s,.br x k,v=>Blk w F s 3 [] x (Tr.sum Nd.sumS (.br x k)) v fun s' K=>∀ i,PAt w F s' (k i) (K i)
theorem Blk.imp {w w':World} {F F':Fm} {s s2:Bool} {kind:Nat} {p x sum:T} {v:Value} {R R':Bool->Ks->Prop} (h:Blk w F s kind p x sum v R) (hs:s2=true->s=true) (hF:∀ s g,g < w.heap.size->F s g->F' s g) (hw:∀ g K s' s2,F s2 g->RowP w g kind p x K s'->RowP w' g kind p x K s') (hR:∀ s' K,R s' K->R' s' K):Blk w' F' s2 kind p x sum v R':=by
  obtain ⟨g,s',K,rfl,h1,h2,h3,h4⟩:=h
  exact ⟨g,s',K,rfl,fun h=>h1 (hs h),hF _ _ (lt_of_heap h3) h2,hw _ _ _ _ h2 h3,hR _ _ h4⟩
theorem PAt.nil (w:World) (F:Fm) (s:Bool):PAt w F s .nil nilp:=rfl
theorem PAt.iff {w:World} {F:Fm} {s:Bool} {t:Tr} {v:Value} (h:¬ t.isNil):PAt w F s t v ↔ Blk w F s t.kind t.pth t.vl (t.sum Nd.sumS) v fun s' K=>∀ i,PAt w F s' (t.kid i) (K i):=by
  cases t with
  | nil=>exact absurd trivial h
  | leaf p x=>exact Iff.rfl
  | ext p t=>
    constructor
    · intro h
      refine Blk.imp h id (fun _ _ _ h=>h) (fun _ _ _ _ _ h=>h) fun s' K hk i=>?_
      simp only [Tri.Tr.kid]
      split
      · rename_i e; rw [e]; exact hk.1
      · rename_i e; exact hk.2 i e
    · intro h
      refine Blk.imp h id (fun _ _ _ h=>h) (fun _ _ _ _ _ h=>h) fun s' K hk=>⟨?_,fun i hi=>?_⟩
      · have:=hk 0
        simpa [Tri.Tr.kid] using this
      · have:=hk i
        simp only [Tri.Tr.kid,if_neg hi] at this
        exact this
  | br x k=>exact Iff.rfl
theorem PAt.row {w:World} {F:Fm} {s:Bool} {t:Tr} {v:Value} (h:PAt w F s t v) (hn:¬ t.isNil):∃ g s' K,v=ptr g/\(s=true->s'=true)/\F s' g/\RowP w g t.kind t.pth t.vl K (if s' then t.sum Nd.sumS else [])/\∀ i,PAt w F s' (t.kid i) (K i):=(PAt.iff hn).1 h
theorem PAt.change {w w':World} {F F':Fm} (hF:∀ s g,g < w.heap.size->F s g->F' s g) (hw:∀ g k p x K s s2,F s2 g->RowP w g k p x K s->RowP w' g k p x K s) {s:Bool} {t:Tr} {v:Value} (h:PAt w F s t v):PAt w' F' s t v:=by
  induction t using Tri.kid_ind generalizing s v with
  | h0=>exact h
  | h t hn ih=>exact (PAt.iff hn).2 (Blk.imp ((PAt.iff hn).1 h) id hF (fun _ _ _ _=>hw _ _ _ _ _ _ _) fun s' K hk i=>ih i (hk i))
theorem RowP.below {w w':World} {g k:Nat} {p x s:T} {K:Ks} (h:RowP w g k p x K s) (hb:Below w.heap.size w w'):RowP w' g k p x K s:=(hb.block g (lt_of_heap h)).trans h
theorem PAt.below {w w':World} {F:Fm} {s:Bool} {t:Tr} {v:Value} (h:PAt w F s t v) (hb:Below w.heap.size w w'):PAt w' F s t v:=h.change (fun _ _ _ h=>h) fun _ _ _ _ _ _ _ _ h=>h.below hb
theorem PAt.imp {w:World} {F F':Fm} {s:Bool} {t:Tr} {v:Value} (h:PAt w F s t v) (hF:∀ s g,g < w.heap.size->F s g->F' s g):PAt w F' s t v:=h.change hF fun _ _ _ _ _ _ _ _ h=>h
theorem PAt.new_off {w:World} {F:Fm} {s:Bool} {t:Tr} {v:Value} (h:PAt w F s t v) {q:Nat} (hq:w.heap.size<=q):PAt w (F.off q) s t v:=h.imp fun _ g hg hf=>⟨hf,by omega⟩
theorem PAt.off {w:World} {F:Fm} {q:Nat} {s:Bool} {t:Tr} {v:Value} (h:PAt w (F.off q) s t v) (i:Nat) (u:Value):PAt (w.setCell ⟨q,i,none⟩ u) F s t v:=
  h.change (fun _ _ _ h=>h.1) fun g _ _ _ _ _ _ hf hr=>(Below.heap_setCell _ ⟨q,i,none⟩ _ g hf.2).trans hr
theorem PAt.sealed {w:World} {F F':Fm} {t:Tr} {v:Value} (h:PAt w F true t v) (hF:∀ g,F true g->F' true g) (s:Bool):PAt w F' s t v:=by
  induction t using Tri.kid_ind generalizing s v with
  | h0=>exact h
  | h t hn ih=>
    obtain ⟨g,s',K,rfl,h1,h2,h3,h4⟩:=h.row hn
    obtain rfl:=h1 rfl
    exact (PAt.iff hn).2 ⟨g,true,K,rfl,fun _=>rfl,hF _ h2,h3,fun i=>ih i (h4 i) true⟩
theorem PAt.weak {w:World} {F:Fm} {s:Bool} {t:Tr} {v:Value} (h:PAt w F s t v):PAt w F false t v:=by
  cases s with
  | false=>exact h
  | true=>exact h.sealed (fun _ h=>h) false
theorem PAt.isNil {w:World} {F:Fm} {s:Bool} {t:Tr} (h:PAt w F s t nilp):t.isNil:=by
  refine Classical.byContradiction fun hn=>?_
  obtain ⟨g,_,_,e,_⟩:=h.row hn
  unfold nilp ptr at e
  injection e with e; cases e
theorem PAt.one {w:World} {F F':Fm} {s s':Bool} {t u:Tr} {v:Value} (h:PAt w F s t v) (h':PAt w F' s' u v):t=u:=by
  induction t using Tri.kid_ind generalizing s s' v u with
  | h0=>
    have e:v=nilp:=h
    subst e
    exact (Tri.isNil_eq h'.isNil).symm
  | h t hn ih=>
    obtain ⟨g,a,K,e,_,_,r1,k1⟩:=h.row hn
    have hu:¬ u.isNil:=fun hu=>by
      rw [Tri.isNil_eq hu] at h'
      have e2:v=nilp:=h'
      rw [e] at e2
      unfold nilp ptr at e2
      injection e2 with e2; cases e2
    obtain ⟨g',a',K',e',_,_,r2,k2⟩:=h'.row hu
    obtain rfl:=ptr_inj (e.symm.trans e')
    obtain ⟨q1,q2,q3,rfl,_⟩:=r1.inj r2
    exact Tri.kid_ext q1 q2 q3 fun i=>ih i (k1 i) (k2 i)
theorem pcl_set (k:Nat) (p x:T) (K:Ks) (s s':T):(pcl k p x K s).toArray.setIfInBounds 19 (.string ⟨s'.toArray⟩)=(pcl k p x K s').toArray:=by
  rw [List.setIfInBounds_toArray]
  simp [pcl,List.ofFn_succ]
theorem RowP.seal {w:World} {g k:Nat} {p x s:T} {K:Ks} (h:RowP w g k p x K s) (s':T):RowP (w.setCell ⟨g,19,none⟩ (.string ⟨s'.toArray⟩)) g k p x K s':=by
  have:=heap_setCell_same _ _ 19 _ _ (.string ⟨s'.toArray⟩) h
  rw [pcl_set] at this
  exact this
theorem PAt.seals {w:World} {F:Fm} {g:Nat} {t:Tr} {K:Ks} {sx:T} (hF:∀ s g,F s g->F true g) (hr:RowP w g t.kind t.pth t.vl K sx) (hk:∀ i,PAt w F true (t.kid i) (K i)) {s:Bool} {u:Tr} {v:Value} (h:PAt w F s u v):
    PAt (w.setCell ⟨g,19,none⟩ (.string ⟨(t.sum Nd.sumS).toArray⟩)) F s u v:=by
  induction u using Tri.kid_ind generalizing s v with
  | h0=>exact h
  | h u hu ih=>
    obtain ⟨g',s',K',rfl,h1,h2,h3,h4⟩:=h.row hu
    by_cases e:g'=g
    · subst e
      obtain ⟨q1,q2,q3,rfl,q5⟩:=hr.inj h3
      have htu:t=u:=Tri.kid_ext q1 q2 q3 fun i=>(hk i).one (h4 i)
      subst htu
      refine (PAt.iff hu).2 ⟨g',true,K,rfl,fun _=>rfl,hF _ _ h2,hr.seal _,fun i=>ih i (hk i)⟩
    · refine (PAt.iff hu).2 ⟨g',s',K',rfl,h1,h2,?_,fun i=>ih i (h4 i)⟩
      exact (Below.heap_setCell _ ⟨g,19,none⟩ _ g' e).trans h3
theorem PAt.seal {w:World} {F:Fm} {g:Nat} {t:Tr} {K:Ks} {sx:T} (hF:∀ s g,F s g->F true g) (hg:F true g) (hn:¬ t.isNil) (hr:RowP w g t.kind t.pth t.vl K sx) (hk:∀ i,PAt w F true (t.kid i) (K i)):
    PAt (w.setCell ⟨g,19,none⟩ (.string ⟨(t.sum Nd.sumS).toArray⟩)) F true t (ptr g):=
  (PAt.iff hn).2 ⟨g,true,K,rfl,fun _=>rfl,hg,hr.seal _,fun i=>PAt.seals hF hr hk (hk i)⟩
theorem RowP.cell {w:World} {g k:Nat} {p x s:T} {K:Ks} (h:RowP w g k p x K s) (i:Nat):w.cell? ⟨g,i,none⟩=(pcl k p x K s)[i]?:=by
  rw [cell_of_row w g i _ _ _ h,List.getElem?_toArray]
theorem RowP.kind {w:World} {g k:Nat} {p x s:T} {K:Ks} (h:RowP w g k p x K s):w.cell? ⟨g,0,none⟩=some (.int .i64 k):=h.cell 0
theorem RowP.path {w:World} {g k:Nat} {p x s:T} {K:Ks} (h:RowP w g k p x K s):w.cell? ⟨g,1,none⟩=some (.string ⟨p.toArray⟩):=h.cell 1
theorem RowP.val {w:World} {g k:Nat} {p x s:T} {K:Ks} (h:RowP w g k p x K s):w.cell? ⟨g,2,none⟩=some (.string ⟨x.toArray⟩):=h.cell 2
theorem RowP.kid {w:World} {g k:Nat} {p x s:T} {K:Ks} (h:RowP w g k p x K s) (i:Fin 16):w.cell? ⟨g,3+i.val,none⟩=some (K i):=by
  have hi:=i.isLt
  rw [h.cell (3+i.val),Nat.add_comm 3 i.val]
  show (List.ofFn K ++ [.string ⟨s.toArray⟩])[i.val]?=_
  rw [List.getElem?_append_left (by simp),List.getElem?_ofFn,dif_pos hi]
theorem RowP.sum {w:World} {g k:Nat} {p x s:T} {K:Ks} (h:RowP w g k p x K s):w.cell? ⟨g,19,none⟩=some (.string ⟨s.toArray⟩):=by
  rw [h.cell 19]
  show (List.ofFn K ++ [.string ⟨s.toArray⟩])[16]?=_
  rw [List.getElem?_append_right (by simp)]
  simp
end
end Go.Proofs.YtaficmboooaknaaGreatDoor
