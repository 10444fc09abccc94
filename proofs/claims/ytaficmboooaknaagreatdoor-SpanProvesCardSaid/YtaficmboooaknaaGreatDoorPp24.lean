import Derived.Test.YtaficmboooaknaaGreatDoorPp01
import Derived.Test.YtaficmboooaknaaGreatDoorPp17
import Derived.Test.YtaficmboooaknaaGreatDoorPp14
import Derived.Test.YtaficmboooaknaaGreatDoorPp23
import Derived.Deep.RegionHeld3
import Derived.Test.YtaficmboooaknaaGreatDoorPp15
import Derived.Test.YtaficmboooaknaaGreatDoorPp03
import Derived.Test.YtaficmboooaknaaGreatDoorPp07
import Derived.Test.YtaficmboooaknaaGreatDoorPp04
import Derived.Test.YtaficmboooaknaaGreatDoorPp08
import Derived.Test.YtaficmboooaknaaGreatDoorPp13
import Derived.Test.YtaficmboooaknaaGreatDoorPp20
import Derived.Test.YtaficmboooaknaaGreatDoorPp11
import Derived.Test.YtaficmboooaknaaGreatDoorPp16
import Derived.BigQuiet
import Derived.Test.YtaficmboooaknaaGreatDoorPp12
import Derived.Deep.AppendLies
import Derived.Great.BuildSlice
import Derived.Deep.RegionLaw
set_option maxRecDepth 100000
set_option maxHeartbeats 16000000
namespace Go.Proofs.YtaficmboooaknaaGreatDoor
section
open Go.RowKit
open Sto (T St)
def Spn.someS (L:St):St:=(L.take 30).foldl Prf.stepS []
def SSomePost (L:St) (w:World) (e:Ending) (w':World):Prop:=
  ∃ g z,e=.returned (.tuple #[.pointer (some ⟨g,0,none⟩),z])/\TrAt w' g (Spn.someS L)/\ItAt w' z (Spn.someS L)/\Below w.heap.size w w'
theorem sputL_good {S:St} {x y:T} (h:Tri.putC S x y=0):Tri.putL S x y=Tri.put S x y:=by unfold Tri.putL; rw [if_pos h]
theorem ssome_any (L:St) (v:Value) (w:World) (hv:ItIn w v L) (hT:Tab w):
    Calls Tryz.prog 11 #[v] w (SSomePost L w):=by
  have HV:=qh hv
  have HT:=qh hT
  have HNW:=qh (tnew_any w)
  unfold ptr at HNW
  obtain ⟨A,cap,rfl,-,-⟩:=hv.form
  clear hv hT
  go_enter Tryz.func11,Tryz.ntmps11
  go_wp2_with fail
  refine HNW.out.mono ?_
  rintro e w1 ⟨g0,rfl,ht0,-,hb1⟩
  have HB1:=qh hb1
  have H0:=qh ht0
  clear ht0 hb1
  go_wp2
  go_loopw [4,5,6] (fun av zv iv wr=>∃ (k:Nat) (gk:Nat) (zz:Value),zz=zv/\av=.pointer (some ⟨gk,0,none⟩)/\k<=L.length/\k<=30/\iv=.int .i64 k/\TrAt wr gk ((L.take k).foldl Prf.stepS [])/\ItAt wr zz ((L.take k).foldl Prf.stepS [])/\Below w.heap.size w wr) (fun _ _ i _=>30 - (intOf i).toNat)
  case atStart=>exact ⟨0,g0,_,rfl,rfl,Nat.zero_le _,Nat.zero_le _,rfl,H0.out,RowsAt.nil ..,HB1.out⟩
  case round=>
    obtain ⟨k,gk,zz,rfl,rfl,hk,hk30,rfl,htr,hit,hb⟩:=hrel
    have HB:=qh hb
    have HTR:=qh htr
    have HIT:=qh hit
    have h0:(0:Int)<=(k:Int):=by omega
    have hnb:(k:Int)<=100:=by omega
    by_cases hlt:k < L.length
    case neg=>
      obtain rfl:k=L.length:=by omega
      have h1:¬ ((L.length:Int) < (L.length:Int)):=by omega
      have h1d:decide ((L.length:Int) < (L.length:Int))=false:=decide_eq_false h1
      have HS:Hid ((L.take L.length).foldl Prf.stepS []=Spn.someS L):=qh (by unfold Spn.someS; rw [List.take_length,List.take_of_length_le hk30])
      rw [HS.out] at HTR HIT
      clear htr hit hb
      go_wp2
      go_ret2
      exact ⟨gk,_,rfl,HTR.out,HIT.out,HB.out⟩
    by_cases hl30:k < 30
    case neg=>
      obtain rfl:k=30:=by omega
      have h1:((30:Nat):Int) < (L.length:Int):=by omega
      have h1d:decide (((30:Nat):Int) < (L.length:Int))=true:=decide_eq_true h1
      have h2:((30:Int)) < (L.length:Int):=by omega
      have h2d:decide (((30:Int)) < (L.length:Int))=true:=decide_eq_true h2
      have HS:Hid ((L.take 30).foldl Prf.stepS []=Spn.someS L):=qh rfl
      rw [HS.out] at HTR HIT
      clear htr hit hb
      go_wp2
      go_ret2
      exact ⟨gk,_,rfl,HTR.out,HIT.out,HB.out⟩
    have h1:(k:Int) < (L.length:Int):=by omega
    have h1d:decide ((k:Int) < (L.length:Int))=true:=decide_eq_true h1
    have h2:(k:Int) < 30:=by omega
    have h2d:decide ((k:Int) < 30)=true:=decide_eq_true h2
    have HST:=qh (Prf.some_step L k hlt)
    obtain ⟨b,o,rfl,n0,n1⟩:=ItIn.at (RowsIn.below HV.out hb) k hlt
    obtain ⟨⟨x,y⟩,hxy⟩:∃ m,L[k]=m:=⟨_,rfl⟩
    rw [hxy] at n0 n1 HST
    dsimp only at n0 n1
    obtain ⟨S,hS⟩:∃ S,(L.take k).foldl Prf.stepS []=S:=⟨_,rfl⟩
    rw [hS] at HTR HIT HST
    have hSl:S.length<=10000:=by
      obtain ⟨_,t,_,_,ht⟩:=HTR.out
      have:=ht.few
      omega
    have HCW:Hid (∀ w',Below wr.heap.size wr w'->w'.cell? ⟨b,o+k * 2,none⟩=some (.string ⟨x.toArray⟩)/\w'.cell? ⟨b,o+k * 2+1,none⟩=some (.string ⟨y.toArray⟩)):=qh (fun w' h=>⟨(h.cell (World.block_lt_of_cell? _ _ n0)).trans n0,(h.cell (World.block_lt_of_cell? _ _ n1)).trans n1⟩)
    have HPU:Hid (∀ w',Below wr.heap.size wr w'->Calls Tryz.prog 34 #[.pointer (some ⟨gk,0,none⟩),.string ⟨x.toArray⟩,.string ⟨y.toArray⟩] w' fun e w''=>∃ z,e=.returned (.tuple #[z,.int .i64 (Tri.putC S x y)])/\(Tri.putC S x y=0->∃ g',z=.pointer (some ⟨g',0,none⟩)/\TrAt w'' g' (Tri.put S x y))/\Below wr.heap.size wr w''):=qh (fun w' hb'=>
      (tput_any x y w' (HTR.out.below hb') (HT.out.below (bchain HB.out hb'))).mono fun e w'' ⟨z,q1,q2,q3,q4⟩=>⟨z,q1,q2,bchain hb' q4⟩)
    have HRP:Hid (∀ w',Below wr.heap.size wr w'->Calls Tryz.prog 33 #[zz,.string ⟨x.toArray⟩,.string ⟨y.toArray⟩] w' fun e w''=>∃ z,e=.returned (.tuple #[z,.int .i64 (Tri.putC S x y)])/\ItAt w'' z (Tri.putL S x y)/\Below wr.heap.size wr w''):=qh (fun w' hb'=>
      (rtPut_all S zz x y w' (RowsAt.below HIT.out hb') hSl).mono fun e w'' ⟨z,q1,q2,q3⟩=>⟨z,q1,q2,bchain hb' q3⟩)
    have HBW:Hid (∀ w',Below wr.heap.size wr w'->Below w.heap.size w w'):=qh (fun w' hb'=>bchain HB.out hb')
    have HPL:=qh (fun h=>sputL_good (S:=S) (x:=x) (y:=y) h)
    have HSP:Hid (Prf.stepS S (x,y)=if Tri.putC S x y=0 then Tri.put S x y else S):=qh rfl
    rw [HSP.out] at HST
    obtain ⟨c,hc⟩:∃ c,Tri.putC S x y=c:=⟨_,rfl⟩
    have HC0:=qh hc
    rw [hc] at HPU HRP HPL HST
    have BD:Below wr.heap.size wr wr.drew:=(Below.refl _ _).drew
    obtain ⟨d0,d1⟩:=HCW.out _ BD
    clear htr hit hb hxy hS hc hSl n0 n1 HSP
    go_upto_region 6 with fail
    go_cut [7,8] from 20 to 34 (fun nv cv wx=>∃ z:Value,z=nv/\cv=.int .i64 c/\ItAt wx z (Tri.putL S x y)/\Below wr.heap.size wr wx)
    case first=>
      go_region_held3 (fun w'=>w'.cell? ⟨b,o+k * 2,none⟩=some (.string ⟨x.toArray⟩)/\w'.cell? ⟨b,o+k * 2+1,none⟩=some (.string ⟨y.toArray⟩))
        ((first | (with_reducible assumption) | (refine (HCW.out _ ?_); with_reducible assumption)))
        (first | (go_at_call 33; refine (HRP.out _ ?_).mono ?_; (with_reducible assumption); rintro e w6 ⟨z1,rfl,hz1,hb6⟩))
      all_goals
        go_wp2_with fail
        go_meet
        exact ⟨_,rfl,rfl,hz1,hb6⟩
    case rest=>
      obtain ⟨z,rfl,rfl,hit2,hb2⟩:=hcut
      obtain ⟨wx,rfl⟩:∃ y,y=wc:=⟨_,rfl⟩
      have HI2:=qh hit2
      have HB2:=qh hb2
      have BX:Below wx.heap.size wx wx.drew:=(Below.refl _ _).drew
      have HCX:Hid (∀ w',Below wx.heap.size wx w'->w'.cell? ⟨b,o+k * 2,none⟩=some (.string ⟨x.toArray⟩)/\w'.cell? ⟨b,o+k * 2+1,none⟩=some (.string ⟨y.toArray⟩)):=qh (fun w' h=>HCW.out w' (bchain HB2.out h))
      obtain ⟨d0,d1⟩:=HCX.out _ BX
      clear hit2 hb2 BD
      by_cases hc:c=0
      case neg=>
        have e0:((c:Int) != 0)=true:=by rw [bne_iff_ne]; omega
        have e1:((c:Int) == 0)=false:=by rw [beq_eq_false_iff_ne]; omega
        rw [if_neg hc] at HST
        clear hc BX d0 d1
        go_wp2
        refine ⟨⟨k+1,gk,_,rfl,rfl,by omega,by omega,by go_num,?_,?_,HBW.out _ HB2.out⟩,by simp [intOf]; omega⟩
        · rw [HST.out]; exact HTR.out.below HB2.out
        · rw [HST.out]; exact RowsAt.below HIT.out HB2.out
      subst hc
      rw [if_pos rfl] at HST
      have HPX:Hid (∀ w',Below wx.heap.size wx w'->Calls Tryz.prog 34 #[.pointer (some ⟨gk,0,none⟩),.string ⟨x.toArray⟩,.string ⟨y.toArray⟩] w' fun e w''=>∃ g',e=.returned (.tuple #[.pointer (some ⟨g',0,none⟩),.int .i64 0])/\TrAt w'' g' (Tri.put S x y)/\Below wx.heap.size wx w''):=qh (fun w' hb'=>
        (tput_any x y w' (HTR.out.below (bchain HB2.out hb')) (HT.out.below (HBW.out _ (bchain HB2.out hb')))).mono fun e w'' ⟨z,q1,q2,q3,q4⟩=>by
          rw [HC0.out] at q1 q2
          obtain ⟨g',rfl,h⟩:=q2 rfl
          exact ⟨g',q1,h,bchain hb' q4⟩)
      have HI3:Hid (ItAt wx z (Tri.put S x y)):=qh (by rw [← HPL.out rfl]; exact HI2.out)
      clear HPU HI2 HPL HRP
      go_upto_region 9 with fail
      go_region_held3 (fun w'=>w'.cell? ⟨b,o+k * 2,none⟩=some (.string ⟨x.toArray⟩)/\w'.cell? ⟨b,o+k * 2+1,none⟩=some (.string ⟨y.toArray⟩))
        ((first | (with_reducible assumption) | (refine (HCX.out _ ?_); with_reducible assumption)))
        (first | (go_at_call 34; refine (HPX.out _ ?_).mono ?_; (with_reducible assumption); rintro e w7 ⟨g',rfl,ht7,hb7⟩))
      all_goals
        have HT7:=qh ht7
        have HB7:=qh hb7
        clear ht7 hb7
        go_wp2
        refine ⟨⟨k+1,g',_,rfl,rfl,by omega,by omega,by go_num,?_,?_,HBW.out _ (bchain HB2.out HB7.out)⟩,by simp [intOf]; omega⟩
        · rw [HST.out]; exact HT7.out
        · rw [HST.out]; exact RowsAt.below HI3.out HB7.out
end
section
open Go.RowKit
open Sto (T St)
def EndsAt (w:World) (q:Nat) (f e:T) (m:Int):Prop:=w.heap[q]?=some (.cells #[.string ⟨f.toArray⟩,.string ⟨e.toArray⟩,.int .i64 m] 24 (0,0))
theorem EndsAt.below {w w':World} {q:Nat} {f e:T} {m:Int} (h:EndsAt w q f e m) (hb:Below w.heap.size w w'):EndsAt w' q f e m:=(hb.block q (lt_of_heap h)).trans h
theorem EndsAt.cells {w:World} {q:Nat} {f e:T} {m:Int} (h:EndsAt w q f e m):w.cell? ⟨q,0,none⟩=some (.string ⟨f.toArray⟩)/\w.cell? ⟨q,1,none⟩=some (.string ⟨e.toArray⟩)/\w.cell? ⟨q,2,none⟩=some (.int .i64 m):=
  ⟨by rw [cell_of_row _ _ 0 _ _ _ h]; rfl,by rw [cell_of_row _ _ 1 _ _ _ h]; rfl,by rw [cell_of_row _ _ 2 _ _ _ h]; rfl⟩
def PageAt (w:World) (q:Nat) (zi:Value) (x:T) (zn:Value):Prop:=w.heap[q]?=some (.cells #[zi,.string ⟨x.toArray⟩,zn] 31 (0,0))
theorem PageAt.below {w w':World} {q:Nat} {zi zn:Value} {x:T} (h:PageAt w q zi x zn) (hb:Below w.heap.size w w'):PageAt w' q zi x zn:=(hb.block q (lt_of_heap h)).trans h
theorem PageAt.cells {w:World} {q:Nat} {zi zn:Value} {x:T} (h:PageAt w q zi x zn):w.cell? ⟨q,0,none⟩=some zi/\w.cell? ⟨q,1,none⟩=some (.string ⟨x.toArray⟩)/\w.cell? ⟨q,2,none⟩=some zn:=
  ⟨by rw [cell_of_row _ _ 0 _ _ _ h]; rfl,by rw [cell_of_row _ _ 1 _ _ _ h]; rfl,by rw [cell_of_row _ _ 2 _ _ _ h]; rfl⟩
end
section
open Go.RowKit
open Sto (T St)
theorem itm_low {w:World} {B:Nat} {A:Option Addr} {n cap:Nat} {S:St} (h:OwnI w B (.slice A n cap) S):∀ a,A=some a->B<=a.block:=by
  intro a ha
  subst ha
  rcases h.2 with ⟨h0,_⟩ | ⟨g,c,cur,hv,hB,_⟩
  · cases h0
  · obtain ⟨rfl,-,-⟩:a=⟨g,0,none⟩/\n=S.length/\cap=c:=by simpa using hv
    exact hB
theorem ItAt.outA {F:Nat->Prop} {w w':World} {A:Option Addr} {n cap:Nat} {S:St} (h:ItAt w (.slice A n cap) S) (ho:Out F w w') (hF:∀ a,A=some a->¬ F a.block):ItAt w' (.slice A n cap) S:=by
  obtain ⟨A',cap',hv,hc,h0,h1⟩:=h
  obtain ⟨rfl,rfl,rfl⟩:A=A'/\n=S.length/\cap=cap':=by simpa using hv
  refine ⟨A,cap,rfl,hc,h0,fun hp=>?_⟩
  obtain ⟨b,o,rfl,⟨cs,fl,hh⟩,hcell⟩:=h1 hp
  have hb:¬ F b:=hF _ rfl
  exact ⟨b,o,rfl,⟨cs,fl,ho.heap hh hb⟩,fun i hi j u hu=>ho.cell (hcell i hi j u hu) hb⟩
theorem own_itlt {w:World} {B:Nat} {z:Value} {S:St} (h:OwnI w B z S) (k:Nat) (hk:z.ownBlock=some k):B<=k/\k < w.heap.size:=by
  rcases h.2 with ⟨h0,_⟩ | ⟨g,cap,cur,hv,hB,hh,_⟩
  · rw [h0] at hk; cases hk
  · rw [hv] at hk
    obtain rfl:g=k:=by simpa [Value.ownBlock] using hk
    exact ⟨hB,lt_of_heap hh⟩
theorem itm_bare {w:World} {B:Nat} {z:Value} {S:St} (h:OwnI w B z S) (k:Nat) (hk:z.ownBlock=some k):∀ cs t f,w.heap[k]?=some (.cells cs t f)->t=60:=by
  intro cs t f he
  rcases h.2 with ⟨h0,_⟩ | ⟨g,cap,cur,hv,hB,hh,_⟩
  · rw [h0] at hk; cases hk
  · rw [hv] at hk
    obtain rfl:g=k:=by simpa [Value.ownBlock] using hk
    rw [hh] at he
    cases he
    rfl
theorem own_block {w:World} {B z n:Nat} {t:TypeId} {v:Value} {xs:List Value} (h:w.ownsRow B t z v n xs) (k:Nat) (hk:v.ownBlock=some k):∃ cs fl,w.heap[k]?=some (.cells cs t fl):=by
  rcases h.2 with ⟨h0,_⟩ | ⟨g,cap,cur,hv,hB,hh,_⟩
  · rw [h0] at hk; cases hk
  · rw [hv] at hk
    obtain rfl:g=k:=by simpa [Value.ownBlock] using hk
    exact ⟨_,_,hh⟩
def RPageO (S:St) (f e:T) (m:Int) (w:World) (x:Ending) (w':World):Prop:=
  ∃ (A:Option Addr) (n cap:Nat),x=.returned (.tuple #[.slice A n cap,.string ⟨(Scn.pageR S f e m).2.1.toArray⟩,.int .i64 (Scn.pageR S f e m).2.2])/\ItAt w' (.slice A n cap) (Scn.pageR S f e m).1/\(∀ a,A=some a->w.heap.size<=a.block)/\Below w.heap.size w w'
theorem rscRange_own (S:St) (v:Value) (f e:T) (m:Int) (w:World) (hv:ItAt w v S) (hl:S.length<=10000) (hk:∀ p ∈ S,p.1.length<=1000000):
    Calls Tryz.prog 38 #[v,.string ⟨f.toArray⟩,.string ⟨e.toArray⟩,.int .i64 m] w (RPageO S f e m w):=by
  by_cases hm:1<=m/\m<=16
  · obtain ⟨n,rfl⟩:∃ n:Nat,m=(n:Int)+1:=⟨(m - 1).toNat,by omega⟩
    have hn16:n+1<=16:=by omega
    have c1:¬ ((n:Int)+1 < 1):=by omega
    have c2:¬ ((16:Int) < (n:Int)+1):=by omega
    have HALL:=qh (rscAll_any S v f e w hv hl)
    have hpl:=Scn.allR_len S f e
    have hkk:∀ p ∈ Scn.allR S f e,p.1.length<=1000000:=fun p hp=>hk p (List.mem_filter.1 hp).1
    have HPG:Hid (Scn.pageR S f e ((n:Int)+1)=if (Scn.allR S f e).length<=n+1 then (Scn.allR S f e,[],0) else ((Scn.allR S f e).take (n+1),Scn.behind ((Scn.allR S f e).getD n ([],[])).1,0)):=qh (by
      rw [Scn.pageR,if_pos hm]; rfl)
    obtain ⟨A,hA⟩:∃ A,Scn.allR S f e=A:=⟨_,rfl⟩
    rw [hA] at HALL HPG hpl hkk
    have HKK:=qh hkk
    have HPL:Hid (A.length<=10000):=qh (by omega)
    clear hA hv hk hl hm hpl hkk
    go_enter Tryz.func38,Tryz.ntmps38
    go_wp2_with fail
    refine HALL.out.mono ?_
    rintro x w1 ⟨s,rfl,hown,hb1⟩
    have HB1:=qh hb1
    have HOWN:=qh hown
    have hpl:=HPL.out
    by_cases hle:A.length<=n+1
    · have HP:=HPG
      rw [if_pos hle] at HP
      have d1:(A.length:Int)<=(n:Int)+1:=by omega
      obtain ⟨B,cap,rfl,-,-⟩:=hown.at_.form
      clear hown hb1 HPG
      go_wp2
      go_ret3
      unfold RPageO
      rw [HP.out]
      exact ⟨_,_,_,rfl,HOWN.out.at_,itm_low HOWN.out,HB1.out⟩
    · have hlt:n < A.length:=by omega
      have d1:¬ ((A.length:Int)<=(n:Int)+1):=by omega
      have hx8:=HKK.out A[n] (List.getElem_mem hlt)
      have HP:=HPG
      rw [if_neg hle,List.getD_eq_getElem?_getD,List.getElem?_eq_getElem hlt,Option.getD_some] at HP
      obtain ⟨B,cap,rfl,hcap,-⟩:=hown.at_.form
      have HAT:=qh hown.at_
      have HLOW:=qh (itm_low hown)
      obtain ⟨b,o,rfl,n0,-⟩:=ItAt.at hown.at_ n hlt
      obtain ⟨x,hx⟩:∃ x,A[n].1=x:=⟨_,rfl⟩
      rw [hx] at n0 hx8 HP
      have HBH:Hid (∀ w2,Below w1.heap.size w1 w2->Calls Tryz.prog 47 #[.string ⟨x.toArray⟩] w2 fun e w3=>e=.returned (.string ⟨(Scn.behind x).toArray⟩)/\Below w1.heap.size w1 w3):=qh (fun w2 hb2=>
        (rscBehind_any x w2 hx8).mono fun e w3 ⟨e1,h3⟩=>⟨e1,bchain hb2 h3⟩)
      obtain ⟨y,hy⟩:∃ y,Scn.behind x=y:=⟨_,rfl⟩
      rw [hy] at HP HBH
      have m0:w1.drew.cell? ⟨b,o+n * 2,none⟩=some (.string ⟨x.toArray⟩):=n0
      have q0:(0:Int)<=(n:Int)+1:=by omega
      have q1:(n:Int)+1<=(cap:Int):=by omega
      have q2:(n:Int) < (A.length:Int):=by omega
      have q3:(0:Int)<=(n:Int):=by omega
      have q4:(n:Int)<=100000:=by omega
      have qw:IntKind.i64.wrap (n:Int)=(n:Int):=by unfold IntKind.wrap; simp [IntKind.bits,IntKind.signed]; omega
      have BD:Below w1.heap.size w1 w1.drew:=(Below.refl _ _).drew
      have HLT:=qh hlt
      clear hown hb1 HPG hx hy hx8 hle hlt
      go_upto_region 6 with fail
      go_region_law (refine step_call rfl 47 (.tmp 35) _ rfl (fun _ _=>rfl) _ (HBH.out _ BD) ?_; rintro e w6 ⟨rfl,hb6⟩; refine ⟨_,rfl,?_⟩)
      all_goals
        go_wp2
        go_ret3
        unfold RPageO
        rw [HP.out]
        exact ⟨_,_,_,rfl,RowsAt.below (RowsAt.take HAT.out (n+1) HLT.out) hb6,HLOW.out,bchain HB1.out hb6⟩
  · have HP:Hid (Scn.pageR S f e m=([],[],1)):=qh (by rw [Scn.pageR,if_neg hm])
    have HN:=qh (RowsAt.nil 60 2 itcl w)
    clear hv hk hl
    go_enter Tryz.func38,Tryz.ntmps38
    by_cases h1:m < 1
    · clear hm
      go_wp2
      go_ret3
      unfold RPageO
      rw [HP.out]
      exact ⟨_,_,_,rfl,HN.out,(fun a h=>by cases h),Below.refl _ _⟩
    · have h2:(16:Int) < m:=by omega
      clear hm
      go_wp2
      go_ret3
      unfold RPageO
      rw [HP.out]
      exact ⟨_,_,_,rfl,HN.out,(fun a h=>by cases h),Below.refl _ _⟩
theorem spoilI_own (L:St) (s:Value) (B:Nat) (w:World) (hs:OwnI w B s L) (hl:L.length<=1000000):
    Calls Tryz.prog 16 #[s] w fun e w'=>e=.returned (.tuple #[])/\Out (fun j=>s.ownBlock=some j) w w':=by
  have HS:=qh hs
  obtain ⟨A,cap,rfl,-,-⟩:=hs.at_.form
  clear hs
  go_enter Tryz.func16,Tryz.ntmps16
  go_wp2
  go_loopw [2] (fun i wr=>∃ (k:Nat) (xs:List Value),k<=L.length/\i=.int .i64 k/\wr.ownsRow B 60 2 (.slice A L.length cap) L.length xs/\Out (fun j=>(Value.slice A L.length cap).ownBlock=some j) w wr) (fun i _=>L.length - (intOf i).toNat)
  case atStart=>exact ⟨0,_,Nat.zero_le _,rfl,HS.out,Out.refl _ _⟩
  case round=>
    obtain ⟨k,xs,hk,rfl,hown,hb⟩:=hrel
    by_cases hlt:k < L.length
    · have h1:(k:Int) < (L.length:Int):=by omega
      have h0:(0:Int)<=(k:Int):=by omega
      have hxl:xs.length=L.length * 2:=hown.1
      obtain ⟨g,c,hv,hBg,_⟩:=World.ownsRow.form hown (by omega)
      obtain ⟨rfl,_⟩:A=some ⟨g,0,none⟩/\_:=by simpa using hv
      have c0:=World.ownsRow.cells hown (g:=g) rfl (k * 2) (xs[k * 2]'(by omega)) (List.getElem?_eq_getElem _)
      have c1:=World.ownsRow.cells hown (g:=g) rfl (k * 2+1) (xs[k * 2+1]'(by omega)) (List.getElem?_eq_getElem _)
      rw [Addr.add_mid,Nat.zero_add] at c0 c1
      have f0:=World.ownsRow.frozenAt hown (k * 2)
      have f1:=World.ownsRow.frozenAt hown (k * 2+1)
      have HN:Hid (((wr.setCell ⟨g,k * 2,none⟩ (.string ⟨#[97,110,111,116,104,101,114,32,111,110,101]⟩)).setCell ⟨g,k * 2+1,none⟩ (.string ⟨#[]⟩)).ownsRow B 60 2 (.slice (some ⟨g,0,none⟩) L.length cap) L.length ((xs.set (k * 2) (.string ⟨#[97,110,111,116,104,101,114,32,111,110,101]⟩)).set (k * 2+1) (.string ⟨#[]⟩))):=qh ((World.ownsRow.stored (World.ownsRow.stored hown (k * 2) _).1 (k * 2+1) _).1)
      have HB:=qh ((hb.setCell (p:=⟨g,k * 2,none⟩) rfl (.string ⟨#[97,110,111,116,104,101,114,32,111,110,101]⟩)).setCell (p:=⟨g,k * 2+1,none⟩) rfl (.string ⟨#[]⟩))
      obtain ⟨y,hy⟩:∃ y,xs[k * 2]'(by omega)=y:=⟨_,rfl⟩
      obtain ⟨z,hz⟩:∃ z,xs[k * 2+1]'(by omega)=z:=⟨_,rfl⟩
      rw [hy] at c0
      rw [hz] at c1
      clear hv hown hb hy hz
      go_wp2
      exact ⟨⟨k+1,_,by omega,by go_num,HN.out,HB.out⟩,by simp [intOf]; omega⟩
    · have h1:¬ ((k:Int) < (L.length:Int)):=by omega
      have HB:=qh hb
      clear hown hb
      go_wp2
      go_end0
      exact ⟨rfl,HB.out⟩
end
section
open Go.RowKit
end
section
open Go.RowKit
end
section
open Go.RowKit
end
section
open Go.RowKit
end
section
open Go.RowKit
open Go.Proofs.YtaficmboooaknaaGreatDoor.Nd (N)
end
section
open Go.RowKit
theorem rtIn_any (p f e:List UInt8) (w:World) (hf:f.length<=1000000) (he:e.length<=1000000):
    Calls Tryz.prog 69 #[.string ⟨p.toArray⟩,.string ⟨f.toArray⟩,.string ⟨e.toArray⟩] w fun x w'=>x=.returned (.bool (Tri.inL p f e))/\Below w.heap.size w w':=by
  have HO1:=qh (fun w=>rof_any f w hf)
  have HO2:=qh (fun w=>rof_any e w he)
  have HS1:=qh (fun w=>rside_any p (Nib.ofL f) w)
  have HS2:=qh (fun w=>rside_any p (Nib.ofL e) w)
  have HB0:=qh (Below.refl w.heap.size w)
  unfold Tri.inL
  obtain ⟨F,hF⟩:∃ F,Nib.ofL f=F:=⟨_,rfl⟩
  obtain ⟨E,hE⟩:∃ E,Nib.ofL e=E:=⟨_,rfl⟩
  obtain ⟨s1,h1⟩:∃ s,Nib.sideL p F=s:=⟨_,rfl⟩
  obtain ⟨s2,h2⟩:∃ s,Nib.sideL p E=s:=⟨_,rfl⟩
  rw [hF] at HO1 HS1 ⊢
  rw [hE] at HO2 HS2 ⊢
  rw [h1] at HS1 ⊢
  rw [h2] at HS2 ⊢
  have HE:Hid ((e == [])=decide (e=[])):=qh (by cases e <;> rfl)
  clear hf he hF hE h1 h2
  by_cases c1:s1 < 0
  · have d1:decide (s1 < 0)=true:=decide_eq_true c1
    rw [d1]
    go_enter Tryz.func69,Tryz.ntmps69
    go_wp2_with fail
    refine (HO1.out _).mono ?_
    rintro x w1 ⟨rfl,hb1⟩
    have HB1:=qh hb1
    clear hb1
    go_wp2_with fail
    refine (HS1.out _).mono ?_
    rintro x w2 ⟨rfl,rfl⟩
    go_wp2
    go_ret
    exact ⟨rfl,HB1.out⟩
  · have d1:decide (s1 < 0)=false:=decide_eq_false c1
    rw [d1]
    go_enter Tryz.func69,Tryz.ntmps69
    go_wp2_with fail
    refine (HO1.out _).mono ?_
    rintro x w1 ⟨rfl,hb1⟩
    have HB1:=qh hb1
    clear hb1
    go_wp2_with fail
    refine (HS1.out _).mono ?_
    rintro x w2 ⟨rfl,rfl⟩
    cases e with
    | nil=>
      go_wp2
      go_ret
      exact ⟨by simp,HB1.out⟩
    | cons a e=>
      go_wp2_with fail
      refine (HO2.out _).mono ?_
      rintro x w3 ⟨rfl,hb3⟩
      have HB3:=qh (bchain HB1.out hb3)
      clear hb3
      go_wp2_with fail
      refine (HS2.out _).mono ?_
      rintro x w4 ⟨rfl,rfl⟩
      go_wp2
      go_ret
      exact ⟨by simp,HB3.out⟩
end
section
open Go.RowKit
open Sto (T St)
open Go.Proofs.YtaficmboooaknaaGreatDoor.Nd (N)
end
section
open Go.RowKit
open Sto (T St)
open Go.Proofs.YtaficmboooaknaaGreatDoor.Nd (N)
end
section
open Go.RowKit
open Sto (T St)
open Go.Proofs.YtaficmboooaknaaGreatDoor.Nd (N)
end
section
open Go.RowKit
open Sto (T St)
open Go.Proofs.YtaficmboooaknaaGreatDoor.Nd (N)
end
section
open Go.RowKit
open Sto (T St)
open Go.Proofs.YtaficmboooaknaaGreatDoor.Nd (N)
end
section
open Go.RowKit
open Sto (T St)
open Go.Proofs.YtaficmboooaknaaGreatDoor.Nd (N)
end
section
open Go.RowKit
open Sto (T St)
theorem rupto_any (x e:T) (w:World):Calls Tryz.prog 41 #[.string ⟨x.toArray⟩,.string ⟨e.toArray⟩] w fun r w'=>r=.returned (.string ⟨(Spn.upTo x e).toArray⟩)/\w'=w:=by
  unfold Spn.upTo
  by_cases h:x=[]
  · rw [if_pos h]
    have y1:(x == [])=true:=beq_iff_eq.2 h
    have y2:x.isEmpty=true:=by rw [h]; rfl
    clear h
    go_enter Tryz.func41,Tryz.ntmps41
    go_wp2
    go_ret
    exact ⟨rfl,rfl⟩
  · rw [if_neg h]
    have y1:(x == [])=false:=beq_eq_false_iff_ne.2 h
    have y2:x.isEmpty=false:=by cases x <;> simp_all
    clear h
    go_enter Tryz.func41,Tryz.ntmps41
    go_wp2
    go_ret
    exact ⟨rfl,rfl⟩
end
section
open Go.RowKit
open Go.Proofs.YtaficmboooaknaaGreatDoor.Nd (N)
def spcl (dg:N->List UInt8) (p:List UInt8 × N):List Value:=if p.2.kids.length=16 then .string ⟨p.1.toArray⟩ :: .string ⟨(Nd.written p.2).toArray⟩ :: .string ⟨(dg p.2).toArray⟩ :: ncl p.2 else List.replicate 22 (.int .i64 0)
theorem spcl_length (dg:N->List UInt8) (p:List UInt8 × N):(spcl dg p).length=22:=by
  unfold spcl
  by_cases h:p.2.kids.length=16
  · rw [if_pos h]; simp [ncl_length _ h]
  · rw [if_neg h]; rfl
theorem spcl_one (dg:N->List UInt8) (p:List UInt8 × N):∀ u ∈ spcl dg p,u.oneCell'=true:=by
  intro u hu
  unfold spcl at hu
  by_cases h:p.2.kids.length=16
  · rw [if_pos h] at hu
    simp only [List.mem_cons] at hu
    rcases hu with rfl | rfl | rfl | hu
    · rfl
    · rfl
    · rfl
    · unfold ncl at hu
      simp only [List.mem_cons] at hu
      rcases hu with rfl | rfl | rfl | hu
      · rfl
      · rfl
      · rfl
      · unfold scells at hu
        obtain ⟨x,_,rfl⟩:=List.mem_map.1 hu
        rfl
  · rw [if_neg h] at hu
    rw [(List.mem_replicate.1 hu).2]; rfl
theorem Tryz.infoStrT:(Tryz.prog.info? 9).map (fun i=>(i.zero,i.size,i.bytes))=some (some (.string ⟨#[]⟩),1,16):=by kernel_rfl
def SpAt (dg:N->List UInt8) (w:World) (v:Value) (L:List (List UInt8 × N)):Prop:=RowsAt 112 22 (spcl dg) w v L
theorem SpAt.at {dg:N->List UInt8} {w:World} {A:Option Addr} {n cap:Nat} {S:List (List UInt8 × N)} (h:SpAt dg w (.slice A n cap) S) (k:Nat) (hk:k < S.length) (h16:S[k].2.kids.length=16):
    ∃ b o,A=some ⟨b,o,none⟩/\w.cell? ⟨b,o+k * 22,none⟩=some (.string ⟨(S[k].1).toArray⟩)/\w.cell? ⟨b,o+k * 22+1,none⟩=some (.string ⟨(Nd.written S[k].2).toArray⟩)/\w.cell? ⟨b,o+k * 22+2,none⟩=some (.string ⟨(dg S[k].2).toArray⟩):=by
  obtain ⟨b,o,rfl,h1⟩:=RowsAt.at h k hk
  exact ⟨b,o,rfl,h1 0 _ (by rw [spcl,if_pos h16]; rfl),h1 1 _ (by rw [spcl,if_pos h16]; rfl),h1 2 _ (by rw [spcl,if_pos h16]; rfl)⟩
theorem own_step {w wr w2:World} {u v':Value} {O:List (List UInt8)} {y:List UInt8} {o:Obj} (hb:Below w.heap.size w wr) (hs:Own wr w.heap.size u O) (hg:(wr.alloc o).grownBy w2 u.ownBlock)
    (ho:w2.ownsRow w.heap.size 9 1 v' (O.length+1) (scells O ++ scells [y])):Own w2 w.heap.size v' (O ++ [y])/\Below w.heap.size w w2:=by
  refine ⟨by unfold Own; rw [scells_append,List.length_append]; exact ho,?_⟩
  exact (hb.alloc hb.size o).trans ((Out.grown hg (F:=fun j=>u.ownBlock=some j) (fun j e=>e)).below (fun j hj=>(hs.lt j hj).1) (hb.alloc hb.size o).size)
def Tri.textsOf (L:List (List UInt8 × N)):List (List UInt8):=L.map fun p=>Nd.written p.2
end
section
open Go.RowKit
open Sto (T)
open Go.Proofs.YtaficmboooaknaaGreatDoor.Nd (N)
def spLoad (v:Value):Sem Value:=Instr.loadAt 110 v
theorem spLoadAt (v:Value):Instr.loadAt 110 v=spLoad v:=rfl
def spBuild (p:Array (Nat × Value)):Sem Value:=Instr.build 112 p
theorem spBuildAt (p:Array (Nat × Value)):Instr.build 112 p=spBuild p:=rfl
def spSlice (p:Array (Nat × Value)):Sem Value:=Instr.buildSlice 73 1 p
theorem spSliceAt (p:Array (Nat × Value)):Instr.buildSlice 73 1 p=spSlice p:=rfl
def spApp (t:TypeId) (p:Array Value):Sem Value:=Builtin.append_ #[73,73] t p
theorem spAppAt (t:TypeId) (p:Array Value):Builtin.append_ #[73,73] t p=spApp t p:=rfl
attribute [local go_sem ↓] spLoadAt spBuildAt spSliceAt spAppAt
theorem run_spLoad {w:World} {g:Nat} {A:Array Value} (hg:w.heap[g]?=some (.cells A 110 (0,0))) (hi:(Tryz.prog.info? 110).map (·.size)=some A.size):(spLoad (.pointer (some ⟨g,0,none⟩))).run Tryz.prog w=.ok (.agg A) w:=by
  unfold spLoad
  simp only [Instr.loadAt,Instr.sureAddr,Sem.run_bind,Sem.run_pure,Result.andThen_ok,run_loadVar_row w g 110 110 A (0,0) _ hg Tryz.underlying110 (by rfl) hi]
theorem Tryz.infoSpot:(Tryz.prog.info? 112).map (fun i=>(i.zero,i.size,i.bytes))=some (some (.agg (#[.string ⟨#[]⟩,.string ⟨#[]⟩,.string ⟨#[]⟩,.int .i64 0] ++ Array.replicate 18 (.string ⟨#[]⟩))),22,344):=by kernel_rfl
def OwnSp (w:World) (B:Nat) (z:Value) (L:List (T × N)):Prop:=w.ownsRow B 112 22 z L.length (rowsL (spcl Nd.sumS) L)
theorem OwnSp.nil (w:World) (B:Nat):OwnSp w B (.slice none 0 0) []:=⟨rfl,Or.inl ⟨rfl,rfl⟩⟩
theorem OwnSp.below {w w':World} {B:Nat} {s:Value} {L:List (T × N)} (h:OwnSp w B s L) (hb:Below w.heap.size w w'):OwnSp w' B s L:=
  row_out (G:=fun _=>False) h (Out.of hb) (fun _ _ _ _ hf=>hf.elim)
theorem OwnSp.at_ {w:World} {B:Nat} {s:Value} {L:List (T × N)} (h:OwnSp w B s L):SpAt Nd.sumS w s L:=RowsAt.own (spcl_length _) h
theorem own_lowP {w:World} {B C:Nat} {s:Value} {L:List (T × N)} (h:OwnSp w B s L) (hB:C<=B):OwnSp w C s L:=by
  obtain ⟨h1,h2⟩:=h
  refine ⟨h1,h2.imp id ?_⟩
  rintro ⟨g,cap,cur,e,hg,r⟩
  exact ⟨g,cap,cur,e,Nat.le_trans hB hg,r⟩
theorem append_spots {w:World} {v s:Value} {S O:List (T × N)} {B:Nat} (hv:SpAt Nd.sumS w v S) (hs:OwnSp w B s O) (hl:O.length+S.length<=1000000) (hB:B<=w.heap.size):
    ∃ v' w',(spApp 73 #[s,v]).run Tryz.prog w=.ok v' w'/\OwnSp w' B v' (O ++ S)/\Below B w w':=by
  obtain ⟨i0,hi,hz0,hz1,hz2⟩:=info_parts Tryz.infoSpot
  obtain ⟨v',w',h1,h2,h3,_⟩:=append_rows 73 112 i0 _ 344 Tryz.underlying73 Tryz.sizeOf112 hi hz0 hz1 hz2 rfl (by decide) (by decide) (spcl_length _) (spcl_one _) hv hs hl hB
  refine ⟨v',w',h1,by unfold OwnSp; rw [rowsL_append,List.length_append]; exact h2,(Out.grown h3 (F:=fun j=>s.ownBlock=some j) (fun j e=>e)).below (fun j hj=>(World.ownsRow.lt hs j hj).1) hB⟩
theorem build_spot (place:T) (n:N) (hn:n.kids.length=16) (w:World):(Instr.build 112 #[(0,.string ⟨place.toArray⟩),(1,.string ⟨(Nd.written n).toArray⟩),(2,.string ⟨(Nd.sumS n).toArray⟩),(3,.agg (ncl n).toArray)]).run Tryz.prog w=.ok (.agg (spcl Nd.sumS (place,n)).toArray) w:=by
  rw [spcl,if_pos hn]
  obtain ⟨a,ha⟩:∃ a,Nd.written n=a:=⟨_,rfl⟩
  obtain ⟨b,hb⟩:∃ b,Nd.sumS n=b:=⟨_,rfl⟩
  dsimp only
  rw [ha,hb]
  clear ha hb
  obtain ⟨kind,path,val,kids⟩:=n
  match kids,hn with
  | [k0,k1,k2,k3,k4,k5,k6,k7,k8,k9,k10,k11,k12,k13,k14,k15],_=>exact run_build w _ _ _ (by kernel_rfl)
theorem slice_spot (place:T) (n:N) (hn:n.kids.length=16) (w:World):(Instr.buildSlice 73 1 #[(0,.agg (spcl Nd.sumS (place,n)).toArray)]).run Tryz.prog w=.ok (.slice (some ⟨w.heap.size,0,none⟩) 1 1) (w.alloc (.cells (spcl Nd.sumS (place,n)).toArray 112)):=by
  obtain ⟨i0,hi,hz0,hz1,hz2⟩:=info_parts Tryz.infoSpot
  rw [spcl,if_pos hn]
  obtain ⟨a,ha⟩:∃ a,Nd.written n=a:=⟨_,rfl⟩
  obtain ⟨b,hb⟩:∃ b,Nd.sumS n=b:=⟨_,rfl⟩
  dsimp only
  rw [ha,hb]
  clear ha hb hz2
  obtain ⟨kind,path,val,kids⟩:=n
  match kids,hn with
  | [k0,k1,k2,k3,k4,k5,k6,k7,k8,k9,k10,k11,k12,k13,k14,k15],_=>exact run_buildSlice w _ _ 1 _ _ i0 _ Tryz.underlying73 hi hz0 (by rw [hz1]; decide) (by rw [hz1]; decide) (by rw [hz1]; kernel_rfl)
theorem own_spot (w:World) (x:T × N):OwnSp (w.alloc (.cells (spcl Nd.sumS x).toArray 112)) w.heap.size (.slice (some ⟨w.heap.size,0,none⟩) 1 1) [x]:=by
  have hl:=spcl_length Nd.sumS x
  refine ⟨by simp [rowsL,hl],Or.inr ⟨w.heap.size,1,(spcl Nd.sumS x).toArray,rfl,Nat.le_refl _,heap_alloc_new w _,Nat.le_refl _,by unfold maxLen; omega,by simp [hl],by simp [rowsL,List.take_of_length_le (Nat.le_of_eq hl)]⟩⟩
def SpI (place:T) (n:N) (C:Array Value) (bv:Value) (q:Nat) (w0:World) (M:List Bool) (a:Act) (w:World):Prop:=
  ∃ v7 v8 v9 v10 v11 v12 v13 v14 v15 v16 v17:Value,a=⟨#[.string ⟨place.toArray⟩,.agg C,bv,undef,.pointer (some ⟨q,0,none⟩),undef,.slice none 0 0,v7,v8,v9,v10,v11,v12,v13,v14,v15,v16,v17,undef,undef,undef],[]⟩/\
    Below w0.heap.size w0 w/\
    (M[0]?=some true->v8=.slice none 0 0)/\(M[1]?=some true->v9=.string ⟨place.toArray⟩)/\(M[2]?=some true->v10=.agg C)/\(M[3]?=some true->v11=.string ⟨(Nd.written n).toArray⟩)/\
    (M[4]?=some true->v12=.agg C)/\(M[5]?=some true->v13=.string ⟨(Nd.sumS n).toArray⟩)/\(M[6]?=some true->v14=.agg C)/\
    (M[7]?=some true->v15=.agg (spcl Nd.sumS (place,n)).toArray)/\(M[8]?=some true->SpAt Nd.sumS w v16 [(place,n)])/\(M[9]?=some true->OwnSp w w0.heap.size v17 [(place,n)])/\
    Hid (v7=(if M[10]?=some true then v17 else .slice none 0 0))/\(M[10]?=some true->M[0]?=some true/\M[9]?=some true)
theorem spot_any (place:T) (n:N) (bv:Value) (L:List (T × N)) (w:World) (hn:n.kids.length=16) (hf:Nd.fine n=true) (hp:n.path.length<=1000000) (hv:SpAt Nd.sumS w bv L) (hl:L.length<=100000):
    Calls Tryz.prog 105 #[.string ⟨place.toArray⟩,ndval n,bv] w fun e w'=>∃ s,e=.returned s/\OwnSp w' w.heap.size s ((place,n) :: L)/\Below w.heap.size w w':=by
  obtain ⟨C,hC,HB0,HCE,HI,-⟩:=nbox n w hn
  have HWR:=qh (fun w'=>rWritten_any n w' hn hf)
  have HDG:=qh (fun w'=>rndigest_any n w' hn hp)
  have HV:=qh hv
  have HL:=qh hl
  have HN:=qh hn
  have HCC:=qh hC
  unfold ndval at HWR HDG ⊢
  rw [hC] at HWR HDG ⊢
  clear hv hl hn hf hp hC
  go_enter Tryz.func105,Tryz.ntmps105
  go_upto_region 2 with fail
  obtain ⟨w0,hw0⟩:∃ w0,w.alloc (.cells C 110)=w0:=⟨_,rfl⟩
  rw [hw0] at HB0 HCE ⊢
  obtain ⟨q,hq⟩:∃ q,w.heap.size=q:=⟨_,rfl⟩
  rw [hq] at HCE ⊢
  have HRL:Hid (∀ w',Below w0.heap.size w0 w'->(spLoad (.pointer (some ⟨q,0,none⟩))).run Tryz.prog w'=.ok (.agg C) w'):=qh (fun w' hb=>run_spLoad (HCE.out w' hb).2.2.2.2.2 HI.out)
  have HBS:Hid (∀ w',(spBuild #[(0,.string ⟨place.toArray⟩),(1,.string ⟨(Nd.written n).toArray⟩),(2,.string ⟨(Nd.sumS n).toArray⟩),(3,.agg C)]).run Tryz.prog w'=.ok (.agg (spcl Nd.sumS (place,n)).toArray) w'):=qh (fun w'=>by rw [← HCC.out]; exact build_spot place n HN.out w')
  have HSL:Hid (∀ w':World,(spSlice #[(0,.agg (spcl Nd.sumS (place,n)).toArray)]).run Tryz.prog w'=.ok (.slice (some ⟨w'.heap.size,0,none⟩) 1 1) (w'.alloc (.cells (spcl Nd.sumS (place,n)).toArray 112))):=qh (fun w'=>slice_spot place n HN.out w')
  have HSN:Hid (∀ w':World,SpAt Nd.sumS (w'.alloc (.cells (spcl Nd.sumS (place,n)).toArray 112)) (.slice (some ⟨w'.heap.size,0,none⟩) 1 1) [(place,n)]):=qh (fun w'=>(own_spot w' (place,n)).at_)
  clear hw0
  refine region_inv (SpI place n C bv q w0) (by rfl) ?_ ?_ ?_
  · refine ⟨_,_,_,_,_,_,_,_,_,_,_,rfl,(Below.refl _ _).drew,?_,?_,?_,?_,?_,?_,?_,?_,?_,?_,?_,?_⟩ <;> first | exact qh rfl | (intro h; simp at h)
  · intro M a w1 hL hI i o ho hi K hK
    obtain ⟨v7,v8,v9,v10,v11,v12,v13,v14,v15,v16,v17,rfl,hB,h0,h1,h2,h3,h4,h5,h6,h7,h8,h9,h7v,h10⟩:=hI
    obtain ⟨b0,b1,b2,b3,b4,b5,b6,b7,b8,b9,b10,rfl⟩:∃ b0 b1 b2 b3 b4 b5 b6 b7 b8 b9 b10,M=[b0,b1,b2,b3,b4,b5,b6,b7,b8,b9,b10]:=by
      match M,hL with
      | [b0,b1,b2,b3,b4,b5,b6,b7,b8,b9,b10],_=>exact ⟨b0,b1,b2,b3,b4,b5,b6,b7,b8,b9,b10,rfl⟩
    have hi2:=(List.mem_filter.1 hi).2
    clear hi hL
    rcases i with _ | _ | _ | _ | _ | _ | _ | _ | _ | _ | _ | i
    · obtain rfl:=Option.some.inj ho
      simp [Region.binds] at hi2
      have hb10:b10=false:=by
        cases b10 with
        | false=>rfl
        | true=>have:=h10 rfl; simp [hi2] at this
      subst hb10
      have h7w:v7=.slice none 0 0:=h7v.out
      subst h7w
      clear ho hi2
      rw [if_pos (by rfl)]
      go_simp
      exact hK _ _ ⟨_,_,_,_,_,_,_,_,_,_,_,rfl,hB,fun _=>rfl,h1,h2,h3,h4,h5,h6,h7,h8,h9,qh rfl,fun hx=>by simp at hx⟩
    · obtain rfl:=Option.some.inj ho
      clear ho hi2
      rw [if_pos (by rfl)]
      go_simp
      exact hK _ _ ⟨_,_,_,_,_,_,_,_,_,_,_,rfl,hB,h0,fun _=>rfl,h2,h3,h4,h5,h6,h7,h8,h9,h7v,h10⟩
    · obtain rfl:=Option.some.inj ho
      clear ho hi2
      have r1:=HRL.out _ hB
      rw [if_pos (by rfl)]
      go_simp
      exact hK _ _ ⟨_,_,_,_,_,_,_,_,_,_,_,rfl,hB,h0,h1,fun _=>rfl,h3,h4,h5,h6,h7,h8,h9,h7v,h10⟩
    · obtain rfl:=Option.some.inj ho
      simp [Region.binds] at hi2
      obtain rfl:=h2 (by simp [hi2])
      clear ho hi2
      rw [if_pos (by rfl)]
      go_simp
      refine (HWR.out _).mono ?_
      rintro r w2 ⟨rfl,hb2⟩
      exact hK _ _ ⟨_,_,_,_,_,_,_,_,_,_,_,rfl,bchain hB hb2,h0,h1,h2,fun _=>rfl,h4,h5,h6,h7,fun hx=>RowsAt.below (h8 hx) hb2,fun hx=>(h9 hx).below hb2,h7v,h10⟩
    · obtain rfl:=Option.some.inj ho
      clear ho hi2
      have r1:=HRL.out _ hB
      rw [if_pos (by rfl)]
      go_simp
      exact hK _ _ ⟨_,_,_,_,_,_,_,_,_,_,_,rfl,hB,h0,h1,h2,h3,fun _=>rfl,h5,h6,h7,h8,h9,h7v,h10⟩
    · obtain rfl:=Option.some.inj ho
      simp [Region.binds] at hi2
      obtain rfl:=h4 (by simp [hi2])
      clear ho hi2
      rw [if_pos (by rfl)]
      go_simp
      refine (HDG.out _).mono ?_
      rintro r w2 ⟨rfl,hb2⟩
      exact hK _ _ ⟨_,_,_,_,_,_,_,_,_,_,_,rfl,bchain hB hb2,h0,h1,h2,h3,h4,fun _=>rfl,h6,h7,fun hx=>RowsAt.below (h8 hx) hb2,fun hx=>(h9 hx).below hb2,h7v,h10⟩
    · obtain rfl:=Option.some.inj ho
      clear ho hi2
      have r1:=HRL.out _ hB
      rw [if_pos (by rfl)]
      go_simp
      exact hK _ _ ⟨_,_,_,_,_,_,_,_,_,_,_,rfl,hB,h0,h1,h2,h3,h4,h5,fun _=>rfl,h7,h8,h9,h7v,h10⟩
    · obtain rfl:=Option.some.inj ho
      simp [Region.binds] at hi2
      obtain rfl:=h1 (by simp [hi2])
      obtain rfl:=h3 (by simp [hi2])
      obtain rfl:=h5 (by simp [hi2])
      obtain rfl:=h6 (by simp [hi2])
      clear ho hi2
      have r1:=HBS.out w1
      rw [if_pos (by rfl)]
      go_simp
      exact hK _ _ ⟨_,_,_,_,_,_,_,_,_,_,_,rfl,hB,h0,fun _=>rfl,h2,fun _=>rfl,h4,fun _=>rfl,fun _=>rfl,fun _=>rfl,h8,h9,h7v,h10⟩
    · obtain rfl:=Option.some.inj ho
      simp [Region.binds] at hi2
      obtain rfl:=h7 (by simp [hi2])
      clear ho hi2
      have r1:=HSL.out w1
      have hA:Below w1.heap.size w1 (w1.alloc (.cells (spcl Nd.sumS (place,n)).toArray 112)):=(Below.refl _ w1).alloc (Nat.le_refl _) _
      rw [if_pos (by rfl)]
      go_simp
      exact hK _ _ ⟨_,_,_,_,_,_,_,_,_,_,_,rfl,bchain hB hA,h0,h1,h2,h3,h4,h5,h6,fun _=>rfl,fun _=>HSN.out w1,fun hx=>(h9 hx).below hA,h7v,h10⟩
    · obtain rfl:=Option.some.inj ho
      simp [Region.binds] at hi2
      obtain rfl:=h0 (by simp [hi2])
      obtain ⟨v',w3,r1,o3,hb3⟩:=append_spots (h8 (by simp [hi2])) (OwnSp.nil w1 w1.heap.size) (by simp) (Nat.le_refl _)
      have hb10:b10=false:=by
        cases b10 with
        | false=>rfl
        | true=>have:=h10 rfl; simp [hi2] at this
      subst hb10
      have h7w:=h7v.out
      simp at h7w
      subst h7w
      have HO3:=qh (own_lowP o3 hB.size)
      have HB3:=qh hb3
      clear ho hi2 o3 hb3 h7v
      rw [if_pos (by rfl)]
      go_simp
      exact hK _ _ ⟨.slice none 0 0,_,_,_,_,_,_,_,_,_,_,rfl,bchain hB HB3.out,fun _=>rfl,h1,h2,h3,h4,h5,h6,h7,fun hx=>RowsAt.below (h8 hx) HB3.out,fun _=>HO3.out,qh (by simp),fun hx=>by simp at hx⟩
    · obtain rfl:=Option.some.inj ho
      simp [Region.binds] at hi2
      have HI2:=qh hi2
      clear ho hi2
      rw [if_pos (by rfl)]
      go_simp
      exact hK _ _ ⟨_,_,_,_,_,_,_,_,_,_,_,rfl,hB,h0,h1,h2,h3,h4,h5,h6,h7,h8,h9,qh rfl,fun _=>by have:=HI2.out; simp [this]⟩
    · simp at ho
  · intro M a w1 hL hr hI
    obtain ⟨v7,v8,v9,v10,v11,v12,v13,v14,v15,v16,v17,rfl,hB,h0,h1,h2,h3,h4,h5,h6,h7,h8,h9,h7v,h10⟩:=hI
    obtain ⟨b0,b1,b2,b3,b4,b5,b6,b7,b8,b9,b10,rfl⟩:∃ b0 b1 b2 b3 b4 b5 b6 b7 b8 b9 b10,M=[b0,b1,b2,b3,b4,b5,b6,b7,b8,b9,b10]:=by
      match M,hL with
      | [b0,b1,b2,b3,b4,b5,b6,b7,b8,b9,b10],_=>exact ⟨b0,b1,b2,b3,b4,b5,b6,b7,b8,b9,b10,rfl⟩
    have hr2:=List.filter_eq_nil_iff.1 hr
    clear hr hL
    have k0:=hr2 0 (by simp)
    have k1:=hr2 1 (by simp)
    have k2:=hr2 2 (by simp)
    have k3:=hr2 3 (by simp)
    have k4:=hr2 4 (by simp)
    have k5:=hr2 5 (by simp)
    have k6:=hr2 6 (by simp)
    have k7:=hr2 7 (by simp)
    have k8:=hr2 8 (by simp)
    have k9:=hr2 9 (by simp)
    have k10:=hr2 10 (by simp)
    clear hr2
    simp [Region.binds] at k0
    subst k0
    simp [Region.binds] at k1
    subst k1
    simp [Region.binds] at k2
    subst k2
    simp [Region.binds] at k4
    subst k4
    simp [Region.binds] at k6
    subst k6
    simp [Region.binds] at k3
    subst k3
    simp [Region.binds] at k5
    subst k5
    simp [Region.binds] at k7
    subst k7
    simp [Region.binds] at k8
    subst k8
    simp [Region.binds] at k9
    subst k9
    simp [Region.binds] at k10
    subst k10
    have h7w:v7=v17:=h7v.out
    subst h7w
    have HOS:=qh (h9 rfl)
    have HBW:=qh hB
    clear h0 h1 h2 h3 h4 h5 h6 h7 h8 h9 h7v h10 hB
    obtain ⟨s2,w3,r2,o3,hb3⟩:=append_spots (RowsAt.below HV.out (bchain HB0.out HBW.out)) HOS.out (by have:=HL.out; simp; omega) HBW.out.size
    have HO3:=qh (own_lowP o3 HB0.out.size)
    have HB3:=qh (bchain HB0.out (HBW.out.trans hb3))
    clear o3 hb3
    have HQ:=qh hq
    clear hq
    go_wp2
    go_ret
    exact ⟨_,rfl,HO3.out,HB3.out⟩
end
section
open Go.RowKit
open Go.Proofs.YtaficmboooaknaaGreatDoor.Sto (St)
def Tri.lessL (c:Nat) (S:St):St:=S.map fun x=>(x.1.drop c,x.2)
theorem Tri.lessL_len (c:Nat) (S:St):(Tri.lessL c S).length=S.length:=by simp [Tri.lessL]
theorem Tri.lessL_take (c:Nat) (S:St) (k:Nat) (h:k < S.length):Tri.lessL c (S.take (k+1))=Tri.lessL c (S.take k) ++ [(S[k].1.drop c,S[k].2)]:=by
  rw [List.take_succ_eq_append_getElem h,Tri.lessL,List.map_append]; rfl
theorem cut_tail (x:List UInt8) (c:Nat):(⟨x.toArray⟩:ByteArray).extract c x.length=⟨(x.drop c).toArray⟩:=by
  rw [Lib.extract_eq,List.take_of_length_le (by simp)]
theorem it_step {w wr w2:World} {u v':Value} {T:St} {one:List UInt8 × List UInt8} {o:Obj} (hb:Below w.heap.size w wr) (hs:wr.ownsRow w.heap.size 60 2 u T.length (rowsL itcl T)) (hg:((wr.alloc o).drew).grownBy w2 u.ownBlock)
    (ho:w2.ownsRow w.heap.size 60 2 v' (T.length+1) (rowsL itcl T ++ rowsL itcl [one])):
    w2.ownsRow w.heap.size 60 2 v' (T ++ [one]).length (rowsL itcl (T ++ [one]))/\Below w.heap.size w w2:=by
  refine ⟨by rw [rowsL_append,List.length_append]; exact ho,?_⟩
  exact ((hb.alloc hb.size o).drew).trans ((Out.grown hg (F:=fun j=>u.ownBlock=some j) (fun j e=>e)).below (fun j hj=>(World.ownsRow.lt hs j hj).1) ((hb.alloc hb.size o).drew).size)
theorem rtLess_any (S:St) (v:Value) (c:Nat) (w:World) (hv:ItAt w v S) (hl:S.length<=10000) (hc:∀ p ∈ S,c<=p.1.length) (hc2:c<=1000000) (hs:∀ p ∈ S,p.1.length<=1000000):
    Calls Tryz.prog 107 #[v,.int .i64 c] w fun e w'=>∃ v',e=.returned v'/\w'.ownsRow w.heap.size 60 2 v' S.length (rowsL itcl (Tri.lessL c S))/\Below w.heap.size w w':=by
  have HV:=qh hv
  have HC:=qh hc
  have HS:=qh hs
  have HL:=qh hl
  have HB0:=qh (Below.refl w.heap.size w)
  have HN0:=qh (World.ownsRow_nil w w.heap.size 60 2)
  obtain ⟨i0,hi,hz0,hz1,hz2⟩:=info_parts Tryz.infoItem
  obtain ⟨A,cap,rfl,-,-⟩:=hv.form
  clear hv hs hc
  go_enter Tryz.func107,Tryz.ntmps107
  go_wp2
  go_loopw [5,6] (fun av iv wr=>∃ (k:Nat) (u:Value),u=av/\k<=S.length/\iv=.int .i64 k/\wr.ownsRow w.heap.size 60 2 u (Tri.lessL c (S.take k)).length (rowsL itcl (Tri.lessL c (S.take k)))/\Below w.heap.size w wr) (fun _ i _=>S.length - (intOf i).toNat)
  case atStart=>exact ⟨0,_,rfl,Nat.zero_le _,rfl,by simpa [Tri.lessL,rowsL] using HN0.out,HB0.out⟩
  case round=>
    obtain ⟨k,u,rfl,hk,rfl,hu,hb⟩:=hrel
    have HB:=qh hb
    have HU:=qh hu
    by_cases hlt:k < S.length
    · have h1:(k:Int) < (S.length:Int):=by omega
      have h0:(0:Int)<=(k:Int):=by omega
      have hnb:(k:Int)<=100000:=by omega
      have HVW:=qh (RowsAt.below HV.out hb)
      obtain ⟨b,o,rfl,n0,n1⟩:=ItAt.at HVW.out k hlt
      have HTK:=qh (Tri.lessL_take c S k hlt)
      have hcx:=HC.out S[k] (List.getElem_mem hlt)
      have hsx:=HS.out S[k] (List.getElem_mem hlt)
      obtain ⟨x,hx⟩:∃ x,S[k].1=x:=⟨_,rfl⟩
      obtain ⟨y,hy⟩:∃ y,S[k].2=y:=⟨_,rfl⟩
      rw [hx,hy] at HTK
      rw [hx] at n0 hcx hsx
      rw [hy] at n1
      obtain ⟨T,hT⟩:∃ T,Tri.lessL c (S.take k)=T:=⟨_,rfl⟩
      have hTl:T.length=k:=by rw [← hT,Tri.lessL_len]; simp; omega
      rw [hT] at HTK HU
      have HTL:Hid (T.length<=10000):=qh (by have:=HL.out; omega)
      have hx0:(0:Int)<=(c:Int):=by omega
      have hx1:(c:Int)<=(x.length:Int):=by omega
      have HCT:=qh (cut_tail x c)
      have BD:Below wr.heap.size wr wr.drew:=(Below.refl _ wr).drew
      have m0:wr.drew.cell? ⟨b,o+k * 2,none⟩=some (.string ⟨x.toArray⟩):=n0
      have m1:wr.drew.cell? ⟨b,o+k * 2+1,none⟩=some (.string ⟨y.toArray⟩):=n1
      clear hu hb hx hy hT hTl hcx hsx n0 n1 BD
      have HSZ:=qh HB.out.size
      have HSTP:=qh (fun w2 v'=>it_step (w2:=w2) (v':=v') (one:=(x.drop c,y)) (o:=.cells #[.string ⟨(x.drop c).toArray⟩,.string ⟨y.toArray⟩] 60) HB.out HU.out)
      have he:=HCT.out
      go_upto_region 5 with fail
      go_region_law ((refine step_append_lies _ rfl (.tmp 13) (.tmp 27) 22 rfl w.heap.size 60 i0 (.agg #[.string ⟨#[]⟩,.string ⟨#[]⟩]) 2 32 Tryz.underlying22 hi hz0 hz1 hz2 rfl (by decide) u T.length (rowsL itcl T) (by simp [Act.eval]) ((World.ownsRow.alloc HU.out _).drew) ⟨wr.heap.size,0,none⟩ 1 1 (rowsL itcl [(x.drop c,y)]) (by simp [Act.eval]) rfl (World.news_of_block (heap_new_at _ _ _ (by simp))) (by simp [rowsL,itcl,Value.oneCell']) (by decide) (by have:=HTL.out; unfold maxLen; omega) (by have:=HTL.out; omega) (by have:=HSZ.out; simp; omega) (wr.heap.size+1) (by simp) ?_; intro g' cap' w5 hown5 hgrow5 hat5 hlt5); (have hS5:=HSTP.out w5 _ hgrow5 hown5))
      all_goals
        have HS5:=qh hS5
        clear hown5 hgrow5 hat5 hlt5 hS5
        go_wp2
        refine ⟨⟨k+1,_,rfl,by omega,by go_num,by rw [HTK.out]; exact HS5.out.1,HS5.out.2⟩,by simp [intOf]; omega⟩
    · obtain rfl:k=S.length:=by omega
      have h1:¬ ((S.length:Int) < (S.length:Int)):=by omega
      have HEND:=qh hu
      clear hu hb
      go_wp2
      go_ret
      refine ⟨_,rfl,?_,HB.out⟩
      have:=HEND.out
      rwa [List.take_length,Tri.lessL_len] at this
end
end Go.Proofs.YtaficmboooaknaaGreatDoor
