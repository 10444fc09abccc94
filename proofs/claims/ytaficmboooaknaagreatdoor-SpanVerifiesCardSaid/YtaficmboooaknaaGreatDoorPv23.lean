import Derived.Test.YtaficmboooaknaaGreatDoorPv01
import Derived.Test.YtaficmboooaknaaGreatDoorPv18
import Derived.Test.YtaficmboooaknaaGreatDoorPv21
import Derived.Test.YtaficmboooaknaaGreatDoorPv22
import Derived.Test.YtaficmboooaknaaGreatDoorPv17
import Derived.Test.YtaficmboooaknaaGreatDoorPv15
import Derived.Test.YtaficmboooaknaaGreatDoorPv14
import Derived.Deep.Slices
import Derived.DataReads
import Derived.OpenShut
import Derived.SizedLaws
import Derived.Lib.LaidU8
import Derived.Test.YtaficmboooaknaaGreatDoorPv16
import Derived.Deep.RegionHeld3
import Derived.Test.YtaficmboooaknaaGreatDoorPv03
import Derived.Test.YtaficmboooaknaaGreatDoorPv08
import Derived.Test.YtaficmboooaknaaGreatDoorPv04
set_option maxRecDepth 100000
set_option maxHeartbeats 16000000
namespace Go.Proofs.YtaficmboooaknaaGreatDoor
section
open Go.RowKit
open Sto (T St)
theorem spgoes_ok:GoesOk:=fun zi I x zn e m w hi hm=>spgoes_any zi I x zn e m w hi hm
theorem spverify_any (root f e:T) (m:Int) (zi:Value) (I:St) (x:T) (zn:Value) (L:List T) (w:World) (hi:ItIn w zi I) (hv:StrsC w zn L) (hT:Tab w) (hL:∀ y ∈ L,y.length<=1000000) (hl:L.length<=10000) (hf:f.length<=2000000) (he:e.length<=2000000):
    Calls Tryz.prog 19 #[.string ⟨root.toArray⟩,.string ⟨f.toArray⟩,.string ⟨e.toArray⟩,.int .i64 m,.agg #[zi,.string ⟨x.toArray⟩,zn]] w (SVPost (Spn.verifyP root f e m I x L) w):=spverify_of spgoes_ok root f e m zi I x zn L w hi hv hT hL hl hf he
theorem OwnI.len {w:World} {B n c:Nat} {A:Option Addr} {S:St} (h:OwnI w B (.slice A n c) S):n=S.length:=by
  obtain ⟨A',c',hz,-,-⟩:=h.at_.form
  injection hz with h1 h2 h3
theorem Own.len {w:World} {B n c:Nat} {A:Option Addr} {L:List T} (h:Own w B (.slice A n c) L):n=L.length:=by
  obtain ⟨A',c',hz⟩:=own_form h
  injection hz with h1 h2 h3
theorem cover_short {S:St} {t:Tri.Tr} (h:TrS S t) (f e:T):∀ y ∈ coverS S f e,y.length<=999:=fun y hy=>nodesS_short h y (by
  rw [← cover_all S]
  exact (wanted_sub _ fun _ _=>Tri.in_all _).subset hy)
theorem cover_len {S:St} {t:Tri.Tr} (h:TrS S t) (f e:T):(coverS S f e).length<=3100:=Nat.le_trans (by
  rw [← cover_all S]
  exact (wanted_sub _ fun _ _=>Tri.in_all _).length_le) (nodes_few h)
theorem Scn.wL_page2:Scn.pageR Scn.wL [98] [99] 5=([([98],[50])],[],0):=by decide +kernel
theorem Scn.wL_cover:(coverS Scn.wL [98] [99]).length=3:=by decide +kernel
theorem spworks_any (w:World) (hT:Tab w):Calls Tryz.prog 10 #[] w fun e w'=>e=.returned (.bool true)/\Below w.heap.size w w':=by
  have ht1:ItAt (w.alloc (.cells #[.string ⟨#[97]⟩,.string ⟨#[49]⟩,.string ⟨#[98]⟩,.string ⟨#[50]⟩,.string ⟨#[99]⟩,.string ⟨#[51]⟩] 60)) (.slice (some ⟨w.heap.size,0,none⟩) 3 3) Scn.wL:=
    OwnI.at_ (B:=w.heap.size) ⟨rfl,Or.inr ⟨w.heap.size,3,_,rfl,Nat.le_refl _,heap_alloc_new w _,by simp [Scn.wL],by simp [maxLen],rfl,rfl⟩⟩
  have hbA:Below w.heap.size w (w.alloc (.cells #[.string ⟨#[97]⟩,.string ⟨#[49]⟩,.string ⟨#[98]⟩,.string ⟨#[50]⟩,.string ⟨#[99]⟩,.string ⟨#[51]⟩] 60)):=(Below.refl _ w).alloc (Nat.le_refl _) _
  have HO1:=qh (tof_any Scn.wL _ _ ht1 (by decide) (hT.below hbA))
  unfold TOfPost at HO1
  rw [Scn.wL_of] at HO1
  have HBA:=qh hbA
  have HTT:=qh hT
  have HP5:Hid (∀ g w,TrAt w g Scn.wL->Calls Tryz.prog 12 #[.pointer (some ⟨g,0,none⟩),.string ⟨#[98]⟩,.string ⟨#[99]⟩,.int .i64 5] w fun x w'=>∃ A1 c1 A2 c2,x=.returned (.tuple #[.agg #[.slice A1 1 c1,.string ⟨#[]⟩,.slice A2 3 c2],.int .i64 0])/\Below w.heap.size w w'):=qh (fun g w h=>by
    have h1:=spprove_any [98] [99] 5 w h (by decide) (by decide)
    unfold SPPost pnodes at h1
    rw [Scn.wL_page2,if_pos (by decide)] at h1
    refine h1.mono fun x w' ⟨A1,n1,c1,A2,n2,c2,q1,q2,q3,q4⟩=>?_
    have e1:=q2.len
    have e2:=q3.len
    have e3:n2=3:=e2.trans Scn.wL_cover
    have e4:n1=1:=e1
    subst e3 e4
    exact ⟨A1,c1,A2,c2,q1,q4⟩)
  have HP1:Hid (∀ g w,TrAt w g Scn.wL->Calls Tryz.prog 12 #[.pointer (some ⟨g,0,none⟩),.string ⟨#[98]⟩,.string ⟨#[]⟩,.int .i64 1] w fun x w'=>∃ A1 c1 A2 n2 c2,x=.returned (.tuple #[.agg #[.slice A1 1 c1,.string ⟨#[98,0]⟩,.slice A2 n2 c2],.int .i64 0])/\OwnI w' w.heap.size (.slice A1 1 c1) [([98],[50])]/\Own w' w.heap.size (.slice A2 n2 c2) (coverS Scn.wL [98] [98,0])/\Below w.heap.size w w'):=qh (fun g w h=>by
    have h1:=spprove_any [98] [] 1 w h (by decide) (by decide)
    unfold SPPost pnodes at h1
    rw [Scn.wL_page,if_pos (by decide)] at h1
    refine h1.mono fun x w' ⟨A1,n1,c1,A2,n2,c2,q1,q2,q3,q4⟩=>?_
    have e1:=q2.len
    have e4:n1=1:=e1
    subst e4
    exact ⟨A1,c1,A2,n2,c2,q1,q2,q3,q4⟩)
  have HVW:Hid (∀ t,TrS Scn.wL t->Spn.verifyP (rootS Scn.wL) [98] [] 1 [([98],[50])] [98,0] (coverS Scn.wL [98] [98,0])=([([98],[50])],[98,0],0)):=qh (fun t h=>by
    have h1:=Spn.verify_whole h [98] [] (m:=1) (by decide)
    rw [Scn.wL_page] at h1
    exact h1)
  clear ht1 hbA hT
  go_enter Tryz.func10,Tryz.ntmps10
  go_wp2_with fail
  refine HO1.out.mono ?_
  rintro e w1 ⟨z1,rfl,h1,-,hb1⟩
  obtain ⟨g1,rfl,t1⟩:=h1 trivial
  have HB1:Hid (Below w.heap.size w w1):=qh (bchain HBA.out hb1)
  have HT1:=qh t1
  obtain ⟨_,tt,_,_,hts⟩:=id t1
  have HTS:=qh hts
  clear h1 t1 hb1 hts
  unfold ptr
  go_wp2_with fail
  refine (HP5.out g1 w1 HT1.out).mono ?_
  rintro e w2 ⟨A1,c1,A2,c2,rfl,hb2⟩
  have HT2:=qh (HT1.out.below hb2)
  have HB2:=qh (bchain HB1.out hb2)
  clear hb2
  go_upto_region 5 with fail
  obtain ⟨w3,hw3⟩:∃ w3,w2.alloc (.cells #[.slice A1 1 c1,.string ⟨#[]⟩,.slice A2 3 c2] 31)=w3:=⟨_,rfl⟩
  obtain ⟨q3,hq3⟩:∃ q3,w2.heap.size=q3:=⟨_,rfl⟩
  have r3:w3.heap[w2.heap.size]?=some (.cells #[.slice A1 1 c1,.string ⟨#[]⟩,.slice A2 3 c2] 31 (0,0)):=by rw [← hw3]; exact heap_alloc_new w2 _
  have hb3:Below w2.heap.size w2 w3:=by rw [← hw3]; exact (Below.refl _ w2).alloc (Nat.le_refl _) _
  have HT3:=qh (HT2.out.below hb3)
  have HB3:=qh (bchain HB2.out hb3)
  rw [hq3] at r3
  have HR3:=qh r3
  rw [hw3,hq3]
  clear hw3 hq3 r3 hb3
  go_wp2_with fail
  refine (HP1.out g1 w3 HT3.out).mono ?_
  rintro e w4 ⟨A3,c3,A4,n4,c4,rfl,ho4,hn4,hb4⟩
  obtain ⟨w5,hw5⟩:∃ w5,w4.alloc (.cells #[.slice A3 1 c3,.string ⟨#[98,0]⟩,.slice A4 n4 c4] 31)=w5:=⟨_,rfl⟩
  obtain ⟨q5,hq5⟩:∃ q5,w4.heap.size=q5:=⟨_,rfl⟩
  have r5:w5.heap[w4.heap.size]?=some (.cells #[.slice A3 1 c3,.string ⟨#[98,0]⟩,.slice A4 n4 c4] 31 (0,0)):=by rw [← hw5]; exact heap_alloc_new w4 _
  have hb5:Below w4.heap.size w4 w5:=by rw [← hw5]; exact (Below.refl _ w4).alloc (Nat.le_refl _) _
  have HT5:=qh ((HT3.out.below hb4).below hb5)
  have HB5:=qh (bchain (bchain HB3.out hb4) hb5)
  have HO5:=qh (ho4.below hb5)
  have HN5:=qh (hn4.below hb5)
  have HR35:=qh ((hb5.block _ (Nat.lt_of_lt_of_le (lt_of_heap HR3.out) hb4.size)).trans ((hb4.block _ (lt_of_heap HR3.out)).trans HR3.out))
  have HR5:=qh r5
  go_upto_region 6 with fail
  try rw [hw5]
  try rw [hq5]
  rw [hq5] at HR5
  clear hw5 hq5 r5 hb5 ho4 hn4 hb4
  have HRT:Hid (∀ w',Below w5.heap.size w5 w'->Calls Tryz.prog 23 #[.pointer (some ⟨g1,0,none⟩)] w' fun e w''=>e=.returned (.string ⟨(rootS Scn.wL).toArray⟩)/\Below w5.heap.size w5 w''):=qh (fun w' h=>(sroot_any w' (HT5.out.below h)).mono fun e w'' ⟨a,b⟩=>⟨a,bchain h b⟩)
  have HVE:Hid (∀ w',Below w5.heap.size w5 w'->Calls Tryz.prog 19 #[.string ⟨(rootS Scn.wL).toArray⟩,.string ⟨#[98]⟩,.string ⟨#[]⟩,.int .i64 1,.agg #[.slice A3 1 c3,.string ⟨#[98,0]⟩,.slice A4 n4 c4]] w' fun e w''=>∃ A c,e=.returned (.tuple #[.slice A 1 c,.string ⟨#[98,0]⟩,.int .i64 0])/\(∃ b o,A=some ⟨b,o,none⟩/\w''.cell? ⟨b,o+1,none⟩=some (.string ⟨#[50]⟩))/\Below w5.heap.size w5 w''):=qh (fun w' h=>by
    have h1:=spverify_any (rootS Scn.wL) [98] [] 1 (.slice A3 1 c3) [([98],[50])] [98,0] (.slice A4 n4 c4) (coverS Scn.wL [98] [98,0]) w' (RowsAt.inn (RowsAt.below HO5.out.at_ h)) ((StrsC.of_own HN5.out).below h) (HTT.out.below (bchain HB5.out h)) (fun y hy=>Nat.le_trans (cover_short HTS.out _ _ y hy) (by decide)) (Nat.le_trans (cover_len HTS.out _ _) (by decide)) (by decide) (by decide)
    rw [HVW.out tt HTS.out] at h1
    unfold SVPost at h1
    refine h1.mono fun e w'' ⟨A,n,c,p1,p2,p3⟩=>?_
    have e1:n=1:=p2.len
    subst e1
    obtain ⟨b,o,hA,-,hv⟩:=ItAt.at p2.at_ 0 (by simp)
    exact ⟨A,c,p1,⟨b,o,hA,by simpa using hv⟩,bchain h p3⟩)
  obtain ⟨RT,hRT⟩:∃ RT,rootS Scn.wL=RT:=⟨_,rfl⟩
  rw [hRT] at HRT HVE
  have HS:Hid (∀ w',Below w5.heap.size w5 w'->Below w5.heap.size w5 w'/\w'.cell? ⟨q5,0,none⟩=some (.slice A3 1 c3)/\w'.cell? ⟨q5,1,none⟩=some (.string ⟨#[98,0]⟩)/\w'.cell? ⟨q5,2,none⟩=some (.slice A4 n4 c4)):=qh (fun w' h=>by
    have r:=(h.block _ (lt_of_heap HR5.out)).trans HR5.out
    exact ⟨h,by rw [cell_of_row _ _ 0 _ _ _ r]; rfl,by rw [cell_of_row _ _ 1 _ _ _ r]; rfl,by rw [cell_of_row _ _ 2 _ _ _ r]; rfl⟩)
  have BD:Below w5.heap.size w5 w5.drew:=(Below.refl _ _).drew
  clear hRT
  go_region_held3 (fun w'=>Below w5.heap.size w5 w'/\w'.cell? ⟨q5,0,none⟩=some (.slice A3 1 c3)/\w'.cell? ⟨q5,1,none⟩=some (.string ⟨#[98,0]⟩)/\w'.cell? ⟨q5,2,none⟩=some (.slice A4 n4 c4))
    ((refine HS.out _ ?_; first | (with_reducible assumption) | exact And.left (by with_reducible assumption)))
    (first | (go_at_call 23; refine (HRT.out _ ?_).mono ?_; (first | (with_reducible assumption) | exact And.left (by with_reducible assumption)); rintro e wa ⟨rfl,hba⟩) | (go_at_call 19; refine (HVE.out _ ?_).mono ?_; (first | (with_reducible assumption) | exact And.left (by with_reducible assumption)); rintro e wb ⟨A6,c6,rfl,⟨b6,o6,rfl,hv6⟩,hbb⟩))
  all_goals
    have r3:=(hbb.block _ (lt_of_heap HR35.out)).trans HR35.out
    have r5:=(hbb.block _ (lt_of_heap HR5.out)).trans HR5.out
    have s0:wb.cell? ⟨q3,0,none⟩=some (.slice A1 1 c1):=by rw [cell_of_row _ _ 0 _ _ _ r3]; rfl
    have s1:wb.cell? ⟨q3,1,none⟩=some (.string ⟨#[]⟩):=by rw [cell_of_row _ _ 1 _ _ _ r3]; rfl
    have s2:wb.cell? ⟨q3,2,none⟩=some (.slice A2 3 c2):=by rw [cell_of_row _ _ 2 _ _ _ r3]; rfl
    have s4:wb.cell? ⟨q5,1,none⟩=some (.string ⟨#[98,0]⟩):=by rw [cell_of_row _ _ 1 _ _ _ r5]; rfl
    have HFI:=qh (bchain HB5.out hbb)
    clear r3 r5 hbb
    go_wp2
    go_ret
    exact ⟨rfl,HFI.out⟩
end
section
open Go.RowKit
open Sto (T St)
theorem allR_len (S:St) (f e:T) (k:Nat):(Scn.allR (S.take k) f e).length<=S.length:=by
  unfold Scn.allR
  exact Nat.le_trans (List.length_filter_le ..) (by simp; omega)
theorem spwithin_any {g:Nat} {S:St} (f e:T) (w:World) (h:TrAt w g S):
    Calls Tryz.prog 24 #[ptr g,.string ⟨f.toArray⟩,.string ⟨e.toArray⟩] w fun x w'=>∃ (A:Option Addr) (n c:Nat),x=.returned (.slice A n c)/\OwnI w' w.heap.size (.slice A n c) (Scn.allR S f e)/\Below w.heap.size w w':=by
  have HIT:=qh (sitems_any w h)
  have HFW:=qh h.few
  unfold ItemsPost ptr at HIT
  unfold ptr
  clear h
  go_enter Tryz.func24,Tryz.ntmps24
  go_wp2_with fail
  refine HIT.out.mono ?_
  rintro r w1 ⟨z,rfl,hz,hb1⟩
  obtain ⟨A,cap,rfl,-,-⟩:=hz.at_.form
  have HZ:=qh hz
  have HB1:=qh hb1
  clear hz hb1
  go_wp2
  go_loopw [7,13] (fun zv iv wr=>∃ (k:Nat) (B:Option Addr) (n c:Nat),k<=S.length/\zv=.slice B n c/\iv=.int .i64 k/\OwnI wr w1.heap.size (.slice B n c) (Scn.allR (S.take k) f e)/\Below w1.heap.size w1 wr) (fun _ iv _=>S.length - (intOf iv).toNat)
  case atStart=>exact ⟨0,none,0,0,Nat.zero_le _,rfl,rfl,OwnI.nil _ _,Below.refl _ _⟩
  case round=>
    obtain ⟨k,B,n,c,hk,rfl,rfl,hown,hb⟩:=hrel
    have HOW:=qh hown
    have HB:=qh hb
    by_cases hlt:k < S.length
    case neg=>
      obtain rfl:k=S.length:=by omega
      have h1:¬ ((S.length:Int) < (S.length:Int)):=by omega
      have HFI:Hid (OwnI wr w.heap.size (.slice B n c) (Scn.allR S f e)/\Below w.heap.size w wr):=qh (by
        rw [List.take_length] at hown
        exact ⟨hown.low HB1.out.size,bchain HB1.out hb⟩)
      clear hown hb hlt hk
      go_wp2
      go_ret
      exact ⟨B,n,c,rfl,HFI.out.1,HFI.out.2⟩
    have h1:(k:Int) < (S.length:Int):=by omega
    have h0:(0:Int)<=(k:Int):=by omega
    have hnb:(k:Int)<=100000:=by have:=HFW.out; omega
    obtain ⟨b,o,rfl,n0,n1⟩:=ItAt.at (HZ.out.below hb).at_ k hlt
    have HTA:=qh (Scn.allR_take S f e k hlt)
    obtain ⟨⟨x,y⟩,hxy⟩:∃ q,S[k]=q:=⟨_,rfl⟩
    rw [hxy] at n0 n1 HTA
    dsimp only at n0 n1
    have HLN:Hid ((Scn.allR (S.take k) f e).length+1<=1000000):=qh (by have:=allR_len S f e k; have:=HFW.out; omega)
    clear hown hb hxy
    obtain ⟨p,hp⟩:∃ p,decide (x < f)=p:=⟨_,rfl⟩
    obtain ⟨r,hr⟩:∃ r,decide (x < e)=r:=⟨_,rfl⟩
    have e1:Op.bytesLess x f=p:=by rw [less_lt]; exact hp
    have e2:Op.bytesLess x e=r:=by rw [less_lt]; exact hr
    have e3:(Op.bytesLess f x || f == x)=!p:=by
      rw [leq_le,← hp,← decide_not]
      exact decide_eq_decide.2 List.not_lt.symm
    have HIN:Hid (Scn.inR f e x=(!p && (decide (e=[]) || r))):=qh (by
      unfold Scn.inR
      rw [← hr,← hp,← decide_not]
      congr 1)
    have hbA:Below wr.heap.size wr (wr.alloc (.cells #[.string ⟨x.toArray⟩,.string ⟨y.toArray⟩] 60)):=(Below.refl _ wr).alloc (Nat.le_refl _) _
    have HBA:=qh hbA
    have HRA:Hid ((wr.alloc (.cells #[.string ⟨x.toArray⟩,.string ⟨y.toArray⟩] 60)).heap[wr.heap.size]?=some (.cells #[.string ⟨x.toArray⟩,.string ⟨y.toArray⟩] 60 (0,0))):=qh (heap_alloc_new wr _)
    clear hp hr hbA
    go_upto_region 5 with fail
    obtain ⟨w2,hw2⟩:∃ w2,wr.alloc (.cells #[.string ⟨x.toArray⟩,.string ⟨y.toArray⟩] 60)=w2:=⟨_,rfl⟩
    obtain ⟨q,hq⟩:∃ q,wr.heap.size=q:=⟨_,rfl⟩
    rw [hw2] at HBA HRA
    rw [hq] at HRA
    try rw [hw2]
    try rw [hq]
    have s0:w2.cell? ⟨q,0,none⟩=some (.string ⟨x.toArray⟩):=by rw [cell_of_row _ _ 0 _ _ _ HRA.out]; rfl
    have s1:w2.cell? ⟨q,1,none⟩=some (.string ⟨y.toArray⟩):=by rw [cell_of_row _ _ 1 _ _ _ HRA.out]; rfl
    have HOW2:=qh (HOW.out.below HBA.out)
    have HB2:=qh (bchain HB.out HBA.out)
    clear hw2 hq n0 n1
    have hskip:Scn.inR f e x=false->Scn.allR (S.take (k+1)) f e=Scn.allR (S.take k) f e:=fun h=>by rw [HTA.out,h]; simp
    have HSK:=qh hskip
    clear hskip
    cases p with
    | true=>
      have HO3:Hid (OwnI w2 w1.heap.size (.slice B n c) (Scn.allR (S.take (k+1)) f e)):=qh (by rw [HSK.out (by rw [HIN.out]; rfl)]; exact HOW2.out)
      go_wp2
      exact ⟨⟨k+1,B,n,c,by omega,rfl,by go_num,HO3.out,HB2.out⟩,by simp [intOf]; omega⟩
    | false=>
      have hadd:Scn.inR f e x=true->∃ v' w',(Builtin.append_ #[22,22] 22 #[.slice B n c,.slice (some ⟨w2.heap.size,0,none⟩) 1 1]).run Tryz.prog (w2.alloc (.cells #[.string ⟨x.toArray⟩,.string ⟨y.toArray⟩] 60))=.ok v' w'/\∃ B' n' c',v'=.slice B' n' c'/\OwnI w' w1.heap.size (.slice B' n' c') (Scn.allR (S.take (k+1)) f e)/\Below w1.heap.size w1 w':=fun h=>by
        obtain ⟨g',c',w',r1,r2,r3,-⟩:=app_item_at x y HOW2.out (by have:=HLN.out; have:=HFW.out; have:=allR_len S f e k; omega) HB2.out.size
        refine ⟨_,w',r1,_,_,_,rfl,?_,?_⟩
        · rw [HTA.out,h]
          simpa using r2
        · exact (HB2.out.alloc HB2.out.size _).grown r3 (by have:=HB2.out.size; simp; omega) (fun j hj=>(OwnI.lt HOW2.out j hj).1)
      by_cases hn:e=[]
      · obtain ⟨v',w',r1,B',n',c',rfl,r2,r3⟩:=hadd (by rw [HIN.out,decide_eq_true hn]; rfl)
        have HR1:=qh r1
        have HR2:=qh r2
        have HR3:=qh r3
        have y1:(e == [])=true:=beq_iff_eq.2 hn
        have y2:e.isEmpty=true:=by rw [hn]; rfl
        clear hn hadd r1 r2 r3
        go_wp2_with (at_builtin; refine wpList_append_run rfl _ _ _ rfl (.slice B n c) (.slice (some ⟨w2.heap.size,0,none⟩) 1 1) _ (by rfl) (by rfl) HR1.out ?_)
        exact ⟨⟨k+1,B',n',c',by omega,rfl,by go_num,HR2.out,HR3.out⟩,by simp [intOf]; omega⟩
      · have y1:(e == [])=false:=beq_eq_false_iff_ne.2 hn
        have y2:e.isEmpty=false:=by cases e <;> simp_all
        cases r with
        | true=>
          obtain ⟨v',w',r1,B',n',c',rfl,r2,r3⟩:=hadd (by rw [HIN.out]; simp)
          have HR1:=qh r1
          have HR2:=qh r2
          have HR3:=qh r3
          clear hn hadd r1 r2 r3
          go_wp2_with (at_builtin; refine wpList_append_run rfl _ _ _ rfl (.slice B n c) (.slice (some ⟨w2.heap.size,0,none⟩) 1 1) _ (by rfl) (by rfl) HR1.out ?_)
          exact ⟨⟨k+1,B',n',c',by omega,rfl,by go_num,HR2.out,HR3.out⟩,by simp [intOf]; omega⟩
        | false=>
          have HO3:Hid (OwnI w2 w1.heap.size (.slice B n c) (Scn.allR (S.take (k+1)) f e)):=qh (by rw [HSK.out (by rw [HIN.out,decide_eq_false hn]; rfl)]; exact HOW2.out)
          clear hn hadd
          go_wp2
          exact ⟨⟨k+1,B,n,c,by omega,rfl,by go_num,HO3.out,HB2.out⟩,by simp [intOf]; omega⟩
def Fit (I:St) (x:T) (L:List T):Prop:=I.length<=40/\L.length<=60/\(∀ y ∈ L,y.length<=700)/\x.length<=100
def BigPost (w:World) (I:St) (x:T) (L:List T):Ending->World->Prop:=fun r w'=>∃ b:Bool,r=.returned (.bool b)/\(b=false->Fit I x L)/\Below w.heap.size w w'
theorem BigPost.yes {w w':World} {I:St} {x:T} {L:List T} (h:Below w.heap.size w w'):BigPost w I x L (.returned (.bool true)) w':=⟨true,rfl,(fun h=>by cases h),h⟩
theorem BigPost.no {w w':World} {I:St} {x:T} {L:List T} (f:Fit I x L) (h:Below w.heap.size w w'):BigPost w I x L (.returned (.bool false)) w':=⟨false,rfl,(fun _=>f),h⟩
theorem spbig_any (zi:Value) (I:St) (x:T) (zn:Value) (L:List T) (w:World) (hi:ItIn w zi I) (hv:StrsC w zn L) (hm:L.length<=maxLen):
    Calls Tryz.prog 17 #[.agg #[zi,.string ⟨x.toArray⟩,zn]] w (BigPost w I x L):=by
  obtain ⟨A,cap,rfl,-,-⟩:=hi.form
  obtain ⟨B,capB,rfl,-⟩:=hv.form
  obtain ⟨w0,hw0⟩:∃ w0,w.alloc (.cells #[.slice A I.length cap,.string ⟨x.toArray⟩,.slice B L.length capB] 31)=w0:=⟨_,rfl⟩
  have hb0:Below w.heap.size w w0:=by rw [← hw0]; exact (Below.refl _ w).alloc (Nat.le_refl _) _
  have ra:w0.heap[w.heap.size]?=some (.cells #[.slice A I.length cap,.string ⟨x.toArray⟩,.slice B L.length capB] 31 (0,0)):=by rw [← hw0]; exact heap_alloc_new w _
  have p0:w0.cell? ⟨w.heap.size,0,none⟩=some (.slice A I.length cap):=by rw [cell_of_row _ _ 0 _ _ _ ra]; rfl
  have p1:w0.cell? ⟨w.heap.size,1,none⟩=some (.string ⟨x.toArray⟩):=by rw [cell_of_row _ _ 1 _ _ _ ra]; rfl
  have p2:w0.cell? ⟨w.heap.size,2,none⟩=some (.slice B L.length capB):=by rw [cell_of_row _ _ 2 _ _ _ ra]; rfl
  have HB:=qh hb0
  have HI:=qh (RowsIn.below hi hb0)
  have HFW:=qh (few_any L (.slice B L.length capB) 60 700 w0 (hv.below hb0).strs hm)
  clear hi hv hb0 ra hm
  by_cases h40:40 < I.length
  · have q1:decide ((40:Int) < (I.length:Int))=true:=decide_eq_true (by omega)
    clear h40
    go_enter Tryz.func17,Tryz.ntmps17
    go_upto_region 1 with fail
    clear hw0
    go_wp2
    go_ret
    exact BigPost.yes HB.out
  have q1:decide ((40:Int) < (I.length:Int))=false:=decide_eq_false (by omega)
  have H40:Hid (I.length<=40):=qh (by omega)
  clear h40
  cases hf:Code.few L 60 700 with
  | false=>
    rw [hf] at HFW
    clear hf
    go_enter Tryz.func17,Tryz.ntmps17
    go_upto_region 1 with fail
    clear hw0
    go_wp2_with fail
    refine HFW.out.mono ?_
    rintro r w1 ⟨rfl,rfl⟩
    go_wp2
    go_ret
    exact BigPost.yes HB.out
  | true=>
  rw [hf] at HFW
  have HFF:=qh ((Code.few_iff L 60 700).1 hf)
  clear hf
  go_enter Tryz.func17,Tryz.ntmps17
  go_upto_region 1 with fail
  clear hw0
  go_wp2_with fail
  refine HFW.out.mono ?_
  rintro r w1 ⟨rfl,rfl⟩
  go_wp2
  go_loopw [3] (fun iv wr=>∃ k:Nat,k<=I.length/\iv=.int .i64 k/\wr=w1) (fun iv _=>I.length - (intOf iv).toNat)
  case atStart=>exact ⟨0,Nat.zero_le _,rfl,rfl⟩
  case round=>
    obtain ⟨k,hk,rfl,rfl⟩:=hrel
    have hnb:(k:Int)<=100:=by have:=H40.out; omega
    have h0:(0:Int)<=(k:Int):=by omega
    by_cases hlt:k < I.length
    · have h1:(k:Int) < (I.length:Int):=by omega
      obtain ⟨b,o,rfl,n0,n1⟩:=ItIn.at HI.out k hlt
      obtain ⟨⟨y,v⟩,hxy⟩:∃ q,I[k]=q:=⟨_,rfl⟩
      rw [hxy] at n0 n1
      dsimp only at n0 n1
      clear hxy
      by_cases hy:100 < y.length
      · have q2:decide ((100:Int) < (y.length:Int))=true:=decide_eq_true (by omega)
        clear hy
        go_wp2
        try rw [Exit.noGoto_ret]
        go_ret
        exact BigPost.yes HB.out
      · have q2:decide ((100:Int) < (y.length:Int))=false:=decide_eq_false (by omega)
        clear hy
        by_cases hv:100 < v.length
        · have q3:decide ((100:Int) < (v.length:Int))=true:=decide_eq_true (by omega)
          clear hv
          go_wp2
          try rw [Exit.noGoto_ret]
          go_ret
          exact BigPost.yes HB.out
        · have q3:decide ((100:Int) < (v.length:Int))=false:=decide_eq_false (by omega)
          clear hv
          go_wp2
          exact ⟨⟨k+1,by omega,by go_num,by first | rfl | trivial⟩,by simp [intOf]; omega⟩
    · have h1:¬ ((k:Int) < (I.length:Int)):=by omega
      by_cases hx:100 < x.length
      · have q2:decide ((100:Int) < (x.length:Int))=true:=decide_eq_true (by omega)
        clear hx
        go_wp2
        go_ret
        exact BigPost.yes HB.out
      · have q2:decide ((100:Int) < (x.length:Int))=false:=decide_eq_false (by omega)
        have HX:Hid (x.length<=100):=qh (by omega)
        clear hx
        go_wp2
        go_ret
        exact BigPost.no ⟨H40.out,HFF.out.1,HFF.out.2,HX.out⟩ HB.out
end
section
open Go.RowKit Go.ChangeShapes Go.WideShapes
open Sto (T St)
theorem cellsItem:Tryz.prog.cellsOf 60=2:=by kernel_rfl
theorem item_cells {H:Type} {enc:TypeId × Value->H} {W:World} {fuel:Nat} {cs:List Value} {x:DataW H × List MemPlace} (ht:DataW.trod enc Tryz.prog W 0 (fun _=>true) true fuel 60 cs=some x):
    ∃ s:T × T,cs=itcl s:=by
  obtain ⟨ys,n',_,hy,hcl,hyl,hfs⟩:=DataW.trod_struct Tryz.underlying60 ht
  rw [cellsItem] at hcl
  match cs,hcl,ys,hyl with
  | [v0,v1],_,[y0,y1],_=>
    have g0:=hfs 0 _ rfl
    have g1:=hfs 1 _ rfl
    simp [cellsS] at g0 g1
    obtain ⟨s0,e0,_,_⟩:=DataW.trod_string Tryz.underlying9 g0
    obtain ⟨s1,e1,_,_⟩:=DataW.trod_string Tryz.underlying9 g1
    obtain rfl:v0=.string s0:=by simpa using e0
    obtain rfl:v1=.string s1:=by simpa using e1
    exact ⟨(s0.data.toList,s1.data.toList),by simp [itcl]⟩
end
section
open Go.RowKit
open Sto (T St)
end
section
open Go.RowKit
open Sto (T St)
def EndsAt (w:World) (q:Nat) (f e:T) (m:Int):Prop:=w.heap[q]?=some (.cells #[.string ⟨f.toArray⟩,.string ⟨e.toArray⟩,.int .i64 m] 24 (0,0))
theorem EndsAt.below {w w':World} {q:Nat} {f e:T} {m:Int} (h:EndsAt w q f e m) (hb:Below w.heap.size w w'):EndsAt w' q f e m:=(hb.block q (lt_of_heap h)).trans h
theorem EndsAt.cells {w:World} {q:Nat} {f e:T} {m:Int} (h:EndsAt w q f e m):w.cell? ⟨q,0,none⟩=some (.string ⟨f.toArray⟩)/\w.cell? ⟨q,1,none⟩=some (.string ⟨e.toArray⟩)/\w.cell? ⟨q,2,none⟩=some (.int .i64 m):=
  ⟨by rw [cell_of_row _ _ 0 _ _ _ h]; rfl,by rw [cell_of_row _ _ 1 _ _ _ h]; rfl,by rw [cell_of_row _ _ 2 _ _ _ h]; rfl⟩
def PageAt (w:World) (q:Nat) (zi:Value) (x:T) (zn:Value):Prop:=w.heap[q]?=some (.cells #[zi,.string ⟨x.toArray⟩,zn] 31 (0,0))
theorem PageAt.below {w w':World} {q:Nat} {zi zn:Value} {x:T} (h:PageAt w q zi x zn) (hb:Below w.heap.size w w'):PageAt w' q zi x zn:=(hb.block q (lt_of_heap h)).trans h
theorem PageAt.cells {w:World} {q:Nat} {zi zn:Value} {x:T} (h:PageAt w q zi x zn):w.cell? ⟨q,0,none⟩=some zi/\w.cell? ⟨q,1,none⟩=some (.string ⟨x.toArray⟩)/\w.cell? ⟨q,2,none⟩=some zn:=
  ⟨by rw [cell_of_row _ _ 0 _ _ _ h]; rfl,by rw [cell_of_row _ _ 1 _ _ _ h]; rfl,by rw [cell_of_row _ _ 2 _ _ _ h]; rfl⟩
theorem own_low {w:World} {B B':Nat} {s:Value} {L:List T} (h:Own w B s L) (hB:B'<=B):Own w B' s L:=
  ⟨h.1,h.2.imp id fun ⟨g,cap,cur,a,b,c⟩=>⟨g,cap,cur,a,Nat.le_trans hB b,c⟩⟩
end
section
open Go.RowKit
theorem bel_drewN' {B:Nat} {a w:World} (h:Below B a w) (n:Nat):Below B a (w.drewN n):=h.trans ⟨rfl,rfl,rfl,Nat.le_refl _,fun _ _=>rfl⟩
def Pw.takeR (s:List UInt8):Nat × List UInt8 × Int:=if (Code.leadL s).2.2 ≠ 0 then (0,[],(Code.leadL s).2.2) else ((Code.leadL s).1,s.drop (Code.leadL s).2.1,0)
theorem index_cons (c:UInt8) (d r2:List UInt8) (j:Nat) (hj:j < d.length):∀ h,(⟨(c :: (d ++ r2)).toArray⟩:ByteArray)[j+1]'h=d[j]:=by
  intro h
  have e:(c :: (d ++ r2))[j+1]'(by simp; omega)=d[j]:=by rw [List.getElem_cons_succ,List.getElem_append_left hj]
  exact e
theorem rtake_nil (w:World):Calls Tryz.prog 174 #[.string ⟨#[]⟩] w fun e w'=>e=.returned (.tuple #[.int .i64 0,.string ⟨#[]⟩,.int .i64 20])/\Below w.heap.size w w':=by
  go_enter Tryz.func174,Tryz.ntmps174
  go_wp2
  go_ret3
  exact ⟨rfl,Below.refl _ _⟩
theorem rtake_big (c:UInt8) (r:List UInt8) (w:World) (hc:c.toNat > 8):Calls Tryz.prog 174 #[.string ⟨(c :: r).toArray⟩] w fun e w'=>e=.returned (.tuple #[.int .i64 0,.string ⟨#[]⟩,.int .i64 3])/\Below w.heap.size w w':=by
  have hh:∀ h,(⟨(c :: r).toArray⟩:ByteArray)[0]'h=c:=fun _=>rfl
  have hcb:=c.toNat_lt
  have hc1:(8:Int) < (c.toNat:Int):=by omega
  go_enter Tryz.func174,Tryz.ntmps174
  go_wp2
  go_ret3
  exact ⟨rfl,Below.refl _ _⟩
theorem rtake_short (c:UInt8) (r:List UInt8) (w:World) (hc:¬ c.toNat > 8) (hr:r.length < c.toNat):Calls Tryz.prog 174 #[.string ⟨(c :: r).toArray⟩] w fun e w'=>e=.returned (.tuple #[.int .i64 0,.string ⟨#[]⟩,.int .i64 20])/\Below w.heap.size w w':=by
  have hh:∀ h,(⟨(c :: r).toArray⟩:ByteArray)[0]'h=c:=fun _=>rfl
  have hcb:=c.toNat_lt
  have hc1:¬ ((8:Int) < (c.toNat:Int)):=by omega
  have hlen:((r.length:Int)+1) < (c.toNat:Int)+1:=by omega
  go_enter Tryz.func174,Tryz.ntmps174
  go_wp2
  go_ret3
  exact ⟨rfl,Below.refl _ _⟩
theorem rtake_zero (r:List UInt8) (w:World):Calls Tryz.prog 174 #[.string ⟨((0:UInt8) :: r).toArray⟩] w fun e w'=>e=.returned (.tuple #[.int .i64 0,.string ⟨r.toArray⟩,.int .i64 0])/\Below w.heap.size w w':=by
  have hh:∀ h,(⟨((0:UInt8) :: r).toArray⟩:ByteArray)[0]'h=0:=fun _=>rfl
  have he:(⟨((0:UInt8) :: r).toArray⟩:ByteArray).extract 1 (r.length+1)=⟨r.toArray⟩:=extract_mk_tail 0 r
  go_enter Tryz.func174,Tryz.ntmps174
  go_wp2
  go_loop [6,7] (fun n i=>n=.int .i64 0/\i=.int .i64 1) (fun _ _=>0)
  case atStart=>exact ⟨rfl,rfl⟩
  case round=>
    obtain ⟨rfl,rfl⟩:=hrel
    go_wp2
    go_quiet (fail)
    go_wp2
    go_ret3
    exact ⟨rfl,(Below.refl _ w).trans ⟨rfl,rfl,rfl,Nat.le_refl _,fun _ _=>rfl⟩⟩
theorem rtake_bad (c x:UInt8) (d q r2:List UInt8) (w:World) (hd:d=x :: q) (hc:c.toNat=d.length) (h8:d.length<=8) (hl:r2.length<=100000000) (hb:x.toNat=0 ∨ d.length=8/\128<=x.toNat):
    Calls Tryz.prog 174 #[.string ⟨(c :: (d ++ r2)).toArray⟩] w fun e w'=>e=.returned (.tuple #[.int .i64 0,.string ⟨#[]⟩,.int .i64 3])/\Below w.heap.size w w':=by
  have hh:∀ h,(⟨(c :: (d ++ r2)).toArray⟩:ByteArray)[0]'h=c:=fun _=>rfl
  have hx:∀ h,(⟨(c :: (d ++ r2)).toArray⟩:ByteArray)[1]'h=x:=by subst hd; exact fun _=>rfl
  have hxb:=x.toNat_lt
  have hpos:0 < d.length:=by subst hd; simp
  clear hd
  obtain ⟨s,hs⟩:∃ s,c :: (d ++ r2)=s:=⟨_,rfl⟩
  have hsl:s.length=d.length+1+r2.length:=by rw [← hs]; simp; omega
  have hse:s.isEmpty=false:=by rw [← hs]; rfl
  have hsn:¬ (s.length=0):=by omega
  rw [hs] at hh hx ⊢
  clear hs
  rcases hb with h0 | ⟨h80,h128⟩
  · go_enter Tryz.func174,Tryz.ntmps174
    go_wp2
    go_ret3
    exact ⟨rfl,Below.refl _ _⟩
  · rw [h80] at hc hsl
    have hd1:(127:Int) < (x.toNat:Int):=by omega
    have hd0:((x.toNat:Int) == 0)=false:=by rw [beq_eq_false_iff_ne]; omega
    clear h8 hpos
    go_enter Tryz.func174,Tryz.ntmps174
    go_wp2
    go_ret3
    exact ⟨rfl,Below.refl _ _⟩
theorem rtake_good (c x:UInt8) (d q r2:List UInt8) (w:World) (hd:d=x :: q) (hc:c.toNat=d.length) (h8:d.length<=8) (hl:r2.length<=100000000) (h0:x.toNat ≠ 0) (hb:d.length=8->x.toNat < 128):
    Calls Tryz.prog 174 #[.string ⟨(c :: (d ++ r2)).toArray⟩] w fun e w'=>e=.returned (.tuple #[.int .i64 (Code.val d:Nat),.string ⟨r2.toArray⟩,.int .i64 0])/\Below w.heap.size w w':=by
  have hh:∀ h,(⟨(c :: (d ++ r2)).toArray⟩:ByteArray)[0]'h=c:=fun _=>rfl
  have hx:∀ h,(⟨(c :: (d ++ r2)).toArray⟩:ByteArray)[1]'h=x:=by subst hd; exact fun _=>rfl
  have HIX:=qh (index_cons c d r2)
  have hxb:=x.toNat_lt
  have HVL:=qh (val_take_lt d h8 (by subst hd; exact hb))
  have hpos:0 < d.length:=by subst hd; simp
  have he:=ext_drop (c :: (d ++ r2)) (d.length+1)
  rw [show (c :: (d ++ r2)).drop (d.length+1)=r2 by simp] at he
  clear hd
  obtain ⟨s,hs⟩:∃ s,c :: (d ++ r2)=s:=⟨_,rfl⟩
  have hsl:s.length=d.length+1+r2.length:=by rw [← hs]; simp; omega
  have hse:s.isEmpty=false:=by rw [← hs]; rfl
  rw [hs] at hh hx he HIX ⊢
  have hd0:((x.toNat:Int) == 0)=false:=by rw [beq_eq_false_iff_ne]; omega
  obtain ⟨K,hK⟩:∃ K,d.length=K:=⟨_,rfl⟩
  have HK:=qh hK
  rw [hK] at hc h8 hpos he hsl hb
  clear hs hK
  have hcp:(0:Int) < (K:Int):=by omega
  rcases Nat.lt_or_ge K 8 with h7 | h7
  · have hne:¬ ((K:Int)=8):=by omega
    have he2:(⟨s.toArray⟩:ByteArray).extract (K+1) (K+1+r2.length)=⟨r2.toArray⟩:=by rw [← hsl]; exact he
    clear hb
    go_enter Tryz.func174,Tryz.ntmps174
    go_wp2
    go_loop [6,7] (fun n i=>∃ k:Nat,k<=K/\n=.int .i64 (Code.val (d.take k):Nat)/\i=.int .i64 ((k:Nat)+1:Int)) (fun _ i=>K+1 - (intOf i).toNat)
    case atStart=>exact ⟨0,Nat.zero_le _,rfl,rfl⟩
    case round=>
      obtain ⟨k,hk,rfl,rfl⟩:=hrel
      by_cases hlt:k < K
      · have h1:(k:Int)+1<=((K:Nat):Int):=by omega
        have h2:(0:Int)<=(k:Int)+1:=by omega
        have h3:(k:Int)+1 < (s.length:Int):=by omega
        have hkd:k < d.length:=by rw [HK.out]; exact hlt
        have HST:=qh (val_step d k hkd)
        have hvk:=HVL.out (k+1)
        rw [HST.out] at hvk
        have hix:=HIX.out k hkd
        obtain ⟨y,hy⟩:∃ y,d[k]=y:=⟨_,rfl⟩
        rw [hy] at HST hvk hix
        have hyb:=y.toNat_lt
        obtain ⟨V,hV⟩:∃ V,Code.val (d.take k)=V:=⟨_,rfl⟩
        rw [hV] at HST hvk ⊢
        clear hy hV
        have hv1:(V:Int) * 256+(y.toNat:Int)<=9223372036854775807:=by omega
        have hv2:(V:Int)<=36028797018963967:=by omega
        have hyb2:(y.toNat:Int) < 256:=by omega
        clear hvk hyb
        go_wp2
        go_round
        case rel=>exact ⟨k+1,by omega,by rw [HST.out]; go_num,by go_num⟩
        case measure=>simp [intOf]; omega
      · obtain rfl:k=K:=by omega
        have h1:¬ (((k:Nat):Int)+1<=((k:Nat):Int)):=by omega
        have HD:Hid (d.take k=d):=qh (by rw [← HK.out,List.take_length])
        rw [HD.out]
        go_wp2
        go_quiet (fail)
        go_wp2
        go_ret3
        exact ⟨rfl,(Below.refl _ w).trans ⟨rfl,rfl,rfl,Nat.le_refl _,fun _ _=>rfl⟩⟩
  · obtain rfl:K=8:=by omega
    have he2:(⟨s.toArray⟩:ByteArray).extract 9 (9+r2.length)=⟨r2.toArray⟩:=by rw [show 9+r2.length=s.length by omega]; exact he
    have hx1:¬ ((127:Int) < (x.toNat:Int)):=by have:=hb rfl; omega
    clear hb
    go_enter Tryz.func174,Tryz.ntmps174
    go_wp2
    go_loop [6,7] (fun n i=>∃ k:Nat,k<=8/\n=.int .i64 (Code.val (d.take k):Nat)/\i=.int .i64 ((k:Nat)+1:Int)) (fun _ i=>8+1 - (intOf i).toNat)
    case atStart=>exact ⟨0,Nat.zero_le _,rfl,rfl⟩
    case round=>
      obtain ⟨k,hk,rfl,rfl⟩:=hrel
      by_cases hlt:k < 8
      · have h1:(k:Int)+1<=((8:Nat):Int):=by omega
        have h2:(0:Int)<=(k:Int)+1:=by omega
        have h3:(k:Int)+1 < (s.length:Int):=by omega
        have hkd:k < d.length:=by rw [HK.out]; exact hlt
        have HST:=qh (val_step d k hkd)
        have hvk:=HVL.out (k+1)
        rw [HST.out] at hvk
        have hix:=HIX.out k hkd
        obtain ⟨y,hy⟩:∃ y,d[k]=y:=⟨_,rfl⟩
        rw [hy] at HST hvk hix
        have hyb:=y.toNat_lt
        obtain ⟨V,hV⟩:∃ V,Code.val (d.take k)=V:=⟨_,rfl⟩
        rw [hV] at HST hvk ⊢
        clear hy hV
        have hv1:(V:Int) * 256+(y.toNat:Int)<=9223372036854775807:=by omega
        have hv2:(V:Int)<=36028797018963967:=by omega
        have hyb2:(y.toNat:Int) < 256:=by omega
        clear hvk hyb
        go_wp2
        go_round
        case rel=>exact ⟨k+1,by omega,by rw [HST.out]; go_num,by go_num⟩
        case measure=>simp [intOf]; omega
      · obtain rfl:k=8:=by omega
        have HD:Hid (d.take 8=d):=qh (by rw [← HK.out,List.take_length])
        rw [HD.out]
        go_wp2
        go_quiet (fail)
        go_wp2
        go_ret3
        exact ⟨rfl,(Below.refl _ w).trans ⟨rfl,rfl,rfl,Nat.le_refl _,fun _ _=>rfl⟩⟩
end
section
open Go.RowKit
theorem rtake_any (s:List UInt8) (w:World) (hl:s.length<=100000000):
    Calls Tryz.prog 174 #[.string ⟨s.toArray⟩] w fun e w'=>e=.returned (.tuple #[.int .i64 ((Pw.takeR s).1:Nat),.string ⟨(Pw.takeR s).2.1.toArray⟩,.int .i64 (Pw.takeR s).2.2])/\Below w.heap.size w w':=by
  unfold Pw.takeR
  match s,hl with
  | [],_=>exact rtake_nil w
  | c :: r,hl=>
    simp only [List.length_cons] at hl
    by_cases h1:c.toNat > 8
    · rw [Code.leadL,if_pos h1]
      exact rtake_big c r w h1
    · by_cases h2:r.length < c.toNat
      · rw [Code.leadL,if_neg h1,if_pos h2]
        exact rtake_short c r w h1 h2
      · have hr:r=r.take c.toNat ++ r.drop c.toNat:=(List.take_append_drop _ _).symm
        have hdl:(r.take c.toNat).length=c.toNat:=by rw [List.length_take]; omega
        have hd2:(r.drop c.toNat).length<=100000000:=by rw [List.length_drop]; omega
        have hdr:(c :: r).drop (1+c.toNat)=r.drop c.toNat:=by rw [Nat.add_comm]; rfl
        rw [Code.leadL,if_neg h1,if_neg h2]
        by_cases h0:c.toNat=0
        · have hb:Code.bad c.toNat (r.take c.toNat)=false:=by simp [Code.bad,h0]
          have hc0:c=0:=by
            have:=UInt8.ofNat_toNat (x:=c)
            rw [h0] at this
            exact this.symm
          subst hc0
          rw [hb]
          exact rtake_zero r w
        · match hd:r.take c.toNat with
          | []=>rw [hd] at hdl; simp at hdl; omega
          | x :: q=>
            rw [hd] at hr hdl
            rcases hb:Code.bad c.toNat (x :: q) with _ | _
            · simp only [Code.bad,List.headD_cons,Bool.or_eq_false_iff,Bool.and_eq_false_iff,decide_eq_false_iff_not,beq_eq_false_iff_ne] at hb
              have h:=rtake_good c x (x :: q) q (r.drop c.toNat) w rfl hdl.symm (by omega) hd2 (by rcases hb.1 with a | a; omega; exact a) (fun h8=>by rcases hb.2 with a | a; omega; exact Nat.not_le.1 (of_decide_eq_false a))
              rw [← hr] at h
              rw [if_neg (by simp),if_neg (by simp)]
              dsimp only
              rw [hdr]
              exact h
            · simp only [Code.bad,List.headD_cons,Bool.or_eq_true,Bool.and_eq_true,decide_eq_true_eq,beq_iff_eq] at hb
              have h:=rtake_bad c x (x :: q) q (r.drop c.toNat) w rfl hdl.symm (by omega) hd2 (by rcases hb with a | a; exact .inl a.2; exact .inr ⟨by omega,of_decide_eq_true a.2⟩)
              rw [← hr] at h
              exact h
theorem Pw.takeR_lt (s:List UInt8):(Pw.takeR s).1 < 2 ^ 63/\(Pw.takeR s).2.1.length<=s.length:=by
  unfold Pw.takeR
  split
  · simp
  · exact ⟨(Code.lead_range s).1,by simp⟩
def RRd (w:World) (g:Nat) (s:List UInt8) (c:Int):Prop:=w.heap[g]?=some (.cells #[.string ⟨s.toArray⟩,.int .i64 c] 167 (0,0))
theorem RRd.lt {w:World} {g:Nat} {s:List UInt8} {c:Int} (h:RRd w g s c):g < w.heap.size:=lt_of_block h
theorem RRd.left {w:World} {g:Nat} {s:List UInt8} {c:Int} (h:RRd w g s c):w.cell? ⟨g,0,none⟩=some (.string ⟨s.toArray⟩):=cell_of_row _ _ _ _ _ _ h
theorem RRd.code {w:World} {g:Nat} {s:List UInt8} {c:Int} (h:RRd w g s c):w.cell? ⟨g,1,none⟩=some (.int .i64 c):=cell_of_row _ _ _ _ _ _ h
theorem RRd.free0 {w:World} {g:Nat} {s:List UInt8} {c:Int} (h:RRd w g s c):w.frozen? ⟨g,0,none⟩=false:=frozen_of_row _ _ _ _ _ h
theorem RRd.free1 {w:World} {g:Nat} {s:List UInt8} {c:Int} (h:RRd w g s c):w.frozen? ⟨g,1,none⟩=false:=frozen_of_row _ _ _ _ _ h
theorem RRd.setLeft {w:World} {g:Nat} {s:List UInt8} {c:Int} (h:RRd w g s c) (t:List UInt8):RRd (w.setCell ⟨g,0,none⟩ (.string ⟨t.toArray⟩)) g t c:=by
  have:=heap_setCell_same _ _ 0 _ _ (.string ⟨t.toArray⟩) h
  simpa [RRd] using this
theorem RRd.setCode {w:World} {g:Nat} {s:List UInt8} {c:Int} (h:RRd w g s c) (d:Int):RRd (w.setCell ⟨g,1,none⟩ (.int .i64 d)) g s d:=by
  have:=heap_setCell_same _ _ 1 _ _ (.int .i64 d) h
  simpa [RRd] using this
theorem RRd.below {w w':World} {g:Nat} {s:List UInt8} {c:Int} (h:RRd w g s c) (hb:Below w.heap.size w w'):RRd w' g s c:=(hb.block g h.lt).trans h
end
section
open Go.RowKit
def Code.textPm (most:Int) (s:List UInt8):List UInt8 × List UInt8 × Int:=
  if (Pw.takeR s).2.2 ≠ 0 then ([],[],(Pw.takeR s).2.2) else if most < ((Pw.takeR s).1:Int) then ([],[],2) else if (Pw.takeR s).2.1.length < (Pw.takeR s).1 then ([],[],20) else ((Pw.takeR s).2.1.take (Pw.takeR s).1,(Pw.takeR s).2.1.drop (Pw.takeR s).1,0)
theorem Code.textR_Pm (most:Int) (s:List UInt8):Code.textR most s=if (Code.textPm most s).2.2 ≠ 0 then ([],s,(Code.textPm most s).2.2) else ((Code.textPm most s).1,(Code.textPm most s).2.1,0):=by
  unfold Code.textR Code.countL Code.textPm Pw.takeR
  by_cases he:(Code.leadL s).2.2=0
  · have e1:¬ ((Code.leadL s).2.2 ≠ 0):=by simpa using he
    simp only [if_neg e1]
    by_cases h6:most < ((Code.leadL s).1:Int)
    · simp [h6]
    · simp only [if_neg h6]
      by_cases hlen:(s.drop (Code.leadL s).2.1).length < (Code.leadL s).1
      · simp only [if_pos hlen]
        simp
      · simp only [if_neg hlen]
        simp
  · simp [he]
theorem rtextm_any (most:Int) (s:List UInt8) (w:World) (hl:s.length<=100000000):
    Calls Tryz.prog 151 #[.string ⟨s.toArray⟩,.int .i64 most] w fun e w'=>e=.returned (.tuple #[.string ⟨(Code.textPm most s).1.toArray⟩,.string ⟨(Code.textPm most s).2.1.toArray⟩,.int .i64 (Code.textPm most s).2.2])/\Below w.heap.size w w':=by
  have HT:=qh (rtake_any s w hl)
  have hr:=Pw.takeR_lt s
  unfold Code.textPm
  obtain ⟨⟨n,r,e⟩,hp⟩:∃ p,Pw.takeR s=p:=⟨_,rfl⟩
  rw [hp] at HT hr ⊢
  dsimp only at HT hr ⊢
  have hrl:r.length<=100000000:=by omega
  clear hp hl
  by_cases he:e=0
  · subst he
    rw [if_neg (by simp)]
    by_cases h6:most < (n:Int)
    · rw [if_pos h6]
      clear hr
      go_enter Tryz.func151,Tryz.ntmps151
      go_wp2_with fail
      refine HT.out.mono ?_
      rintro e w1 ⟨rfl,hb⟩
      go_wp2
      go_ret3
      exact ⟨rfl,hb⟩
    · rw [if_neg h6]
      by_cases hlen:r.length < n
      · rw [if_pos hlen]
        have hlen':(r.length:Int) < (n:Int):=by omega
        clear hr
        go_enter Tryz.func151,Tryz.ntmps151
        go_wp2_with fail
        refine HT.out.mono ?_
        rintro e w1 ⟨rfl,hb⟩
        go_wp2
        go_ret3
        exact ⟨rfl,hb⟩
      · rw [if_neg hlen]
        have hlen':¬ ((r.length:Int) < (n:Int)):=by omega
        have he1:=ext_take r n
        have he2:=ext_drop r n
        have hn0:(0:Int)<=(n:Int):=by omega
        have hn1:(n:Int)<=(r.length:Int):=by omega
        clear hr
        go_enter Tryz.func151,Tryz.ntmps151
        go_wp2_with fail
        refine HT.out.mono ?_
        rintro e w1 ⟨rfl,hb⟩
        go_wp2
        go_quiet (fail)
        go_wp2
        go_ret3
        exact ⟨rfl,bel_drewN' hb _⟩
  · rw [if_pos he]
    have he':(e != 0)=true:=by rw [bne_iff_ne]; exact he
    clear hr
    go_enter Tryz.func151,Tryz.ntmps151
    go_wp2_with fail
    refine HT.out.mono ?_
    rintro e w1 ⟨rfl,hb⟩
    go_wp2
    go_ret3
    exact ⟨rfl,hb⟩
end
section
open Go.RowKit
theorem rntext_st (most:Int) (st:Nd.St) (g:Nat) (w:World) (h:RRd w g st.1 st.2) (hl:st.1.length<=100000000):
    Calls Tryz.prog 119 #[.pointer (some ⟨g,0,none⟩),.int .i64 most] w fun e w'=>e=.returned (.string ⟨(Nd.rdT most st).1.toArray⟩)/\RRd w' g (Nd.rdT most st).2.1 (Nd.rdT most st).2.2/\Only g w w':=by
  obtain ⟨s,c⟩:=st
  dsimp only at h hl
  have h0:=h.left
  have h1:=h.code
  unfold Nd.rdT
  dsimp only
  by_cases hc:c=0
  · subst hc
    rw [if_neg (by simp)]
    have HT:=qh (rtextm_any most s w hl)
    have HP:=qh (Code.textR_Pm most s)
    obtain ⟨⟨x,r,e⟩,hp⟩:∃ p,Code.textPm most s=p:=⟨_,rfl⟩
    rw [hp] at HT HP
    dsimp only at HT HP
    rw [HP.out]
    have HR:=qh h
    clear hp hl
    by_cases he:e=0
    · subst he
      rw [if_neg (by simp)]
      dsimp only
      go_enter Tryz.func119,Tryz.ntmps119
      go_wp2_with fail
      refine HT.out.mono ?_
      rintro e w1 ⟨rfl,hb⟩
      have h2:=HR.out.below hb
      have h3:=h2.setCode 0
      have HO:Hid (Only g w w1):=qh (Only.of hb)
      have g1:=h2.code
      have g0:=h3.left
      have f1:=h2.free1
      have f0:=h3.free0
      have HR3:=qh h3
      clear h2 h3 hb h0 h1 h
      go_wp2
      go_ret
      exact ⟨rfl,HR3.out.setLeft r,(HO.out.setCell rfl _).setCell rfl _⟩
    · rw [if_pos he]
      dsimp only
      have he':(e != 0)=true:=by rw [bne_iff_ne]; exact he
      go_enter Tryz.func119,Tryz.ntmps119
      go_wp2_with fail
      refine HT.out.mono ?_
      rintro e w1 ⟨rfl,hb⟩
      have h2:=HR.out.below hb
      have HO:Hid (Only g w w1):=qh (Only.of hb)
      have g1:=h2.code
      have f1:=h2.free1
      have HR2:=qh h2
      clear h2 hb h0 h1 h
      go_wp2
      go_ret
      exact ⟨rfl,HR2.out.setCode _,HO.out.setCell rfl _⟩
  · rw [if_pos hc]
    have hc':(c != 0)=true:=by rw [bne_iff_ne]; exact hc
    go_enter Tryz.func119,Tryz.ntmps119
    go_wp2
    go_ret
    exact ⟨rfl,h,Only.refl _ _⟩
theorem rnbytes_st (n:Nat) (st:Nd.St) (g:Nat) (w:World) (h:RRd w g st.1 st.2) (hl:st.1.length<=100000000):
    Calls Tryz.prog 118 #[.pointer (some ⟨g,0,none⟩),.int .i64 n] w fun e w'=>e=.returned (.string ⟨(Nd.rdB n st).1.toArray⟩)/\RRd w' g (Nd.rdB n st).2.1 (Nd.rdB n st).2.2/\Only g w w':=by
  obtain ⟨s,c⟩:=st
  dsimp only at h hl
  have h0:=h.left
  have h1:=h.code
  have f0:=h.free0
  have f1:=h.free1
  unfold Nd.rdB
  dsimp only
  by_cases hc:c=0
  · subst hc
    rw [if_neg (by simp)]
    have hn0:¬ ((n:Int) < 0):=by omega
    by_cases hs:s.length < n
    · rw [if_pos hs]
      have hs1:(s.length:Int) < (n:Int):=by omega
      have HR:=qh h
      clear hs
      go_enter Tryz.func118,Tryz.ntmps118
      go_wp2
      go_ret
      exact ⟨rfl,HR.out.setCode _,(Only.refl g w).setCell rfl _⟩
    · rw [if_neg hs]
      have hs1:¬ ((s.length:Int) < (n:Int)):=by omega
      have hs2:(n:Int)<=(s.length:Int):=by omega
      have HR:=qh h
      have et:=ext_take s n
      have ed:=ext_drop s n
      clear hs
      go_enter Tryz.func118,Tryz.ntmps118
      go_wp2
      go_ret
      exact ⟨rfl,HR.out.setLeft _,(Only.refl g w).setCell rfl _⟩
  · rw [if_pos hc]
    have hc':(c != 0)=true:=by rw [bne_iff_ne]; exact hc
    go_enter Tryz.func118,Tryz.ntmps118
    go_wp2
    go_ret
    exact ⟨rfl,h,Only.refl _ _⟩
theorem rnunpack_any (s:List UInt8) (w:World) (hl:s.length<=100000):
    Calls Tryz.prog 120 #[.string ⟨s.toArray⟩] w fun e w'=>((Nib.unpackL s=none/\e=.returned (.tuple #[.string ⟨#[]⟩,.bool false,.int .i64 3])) ∨ ∃ p is,Nib.unpackL s=some (p,is)/\e=.returned (.tuple #[.string ⟨p.toArray⟩,.bool is,.int .i64 0]))/\Below w.heap.size w w':=by
  match h:Nib.unpackL s with
  | none=>
    refine (runpack_none s w hl h).mono ?_
    rintro e w' ⟨rfl,hb⟩
    exact ⟨Or.inl ⟨rfl,rfl⟩,hb⟩
  | some (p,is)=>
    refine (runpack_some s p is w hl h).mono ?_
    rintro e w' ⟨rfl,hb⟩
    exact ⟨Or.inr ⟨p,is,rfl,rfl⟩,hb⟩
def Nd.rdR (k:UInt8) (r:List UInt8):Option (Nd.N × Nd.St):=
  if k.toNat=3 then (if (Nd.rdB 2 (r,0)).1.length < 2 then none else some (⟨3,[],(Nd.rdT 32 (Nd.rdK (r,0)).2).1,(Nd.rdK (r,0)).1⟩,(Nd.rdT 32 (Nd.rdK (r,0)).2).2))
  else match Nib.unpackL (Nd.rdT 100 (r,0)).1 with
    | none=>none
    | some (p,_)=>if k.toNat=1 then some (⟨1,p,(Nd.rdT 32 (Nd.rdT 100 (r,0)).2).1,Nd.none16⟩,(Nd.rdT 32 (Nd.rdT 100 (r,0)).2).2)
      else some (⟨(k.toNat:Int),p,[],Nd.none16.set 0 (Nd.rdB 32 (Nd.rdT 100 (r,0)).2).1⟩,(Nd.rdB 32 (Nd.rdT 100 (r,0)).2).2)
def Nd.okR (s:List UInt8) (m:Nd.N) (st:Nd.St):Bool:=decide (st.2=0) && (Nd.fine m && decide (Nd.written m=s))
def Nd.decR:List UInt8->Nd.N × Int
  | []=>(Nd.zero,80)
  | k :: r=>match Nd.rdR k r with
    | none=>(Nd.zero,80)
    | some (m,st)=>if Nd.okR (k :: r) m st=true then (m,0) else (Nd.zero,80)
theorem Nd.rdR_kids {k:UInt8} {r:List UInt8} {m:Nd.N} {st:Nd.St} (h:Nd.rdR k r=some (m,st)):m.kids.length=16:=by
  unfold Nd.rdR at h
  split at h
  · split at h
    · cases h
    · cases h; exact Nd.rdK_len _
  · split at h
    · cases h
    · split at h
      · cases h; rfl
      · cases h; simp [Nd.none16]
theorem Nd.rdR_written (m:Nd.N) (hm:m.kids.length=16) (hf:Nd.fine m=true):∃ k r st,Nd.written m=k :: r/\Nd.rdR k r=some (m,st)/\st.2=0:=by
  have hf0:=hf
  rw [Nd.fine_kinds m hm] at hf
  obtain ⟨kd,p,v,ks⟩:=m
  simp only at hm hf
  by_cases k1:kd=1
  · subst k1
    rw [if_pos rfl] at hf
    simp only [Nd.leafB,Nd.pathB,Bool.and_eq_true,decide_eq_true_eq,beq_iff_eq] at hf
    obtain ⟨⟨a,b⟩,c,d,e⟩:=hf
    subst e
    refine ⟨1,Code.textL (Nib.packL p true) ++ Code.textL v,([],0),rfl,?_,rfl⟩
    have h1:=Nd.rdT_text 100 (Nib.packL p true) (Code.textL v) (by rw [Nib.packL_length]; omega) (by decide)
    have h2:=Nd.rdT_text 32 v [] d (by decide)
    rw [List.append_nil] at h2
    rw [show ((100:Nat):Int)=100 from rfl] at h1
    rw [show ((32:Nat):Int)=32 from rfl] at h2
    unfold Nd.rdR
    rw [if_neg (by decide),h1]
    simp only [Nib.unpack_pack p true b]
    rw [if_pos (by decide),h2]
  rw [if_neg k1] at hf
  by_cases k2:kd=2
  · subst k2
    rw [if_pos rfl] at hf
    simp only [Nd.extB,Nd.pathB,Bool.and_eq_true,decide_eq_true_eq,beq_iff_eq] at hf
    obtain ⟨a,⟨b,c⟩,d,e,f⟩:=hf
    subst d
    have hk:Nd.none16.set 0 (ks.getD 0 [])=ks:=by
      match ks,hm with
      | z :: l,hm=>rw [← f]; simp
    refine ⟨2,Code.textL (Nib.packL p false) ++ ks.getD 0 [],([],0),rfl,?_,rfl⟩
    have h1:=Nd.rdT_text 100 (Nib.packL p false) (ks.getD 0 []) (by rw [Nib.packL_length]; omega) (by decide)
    have h2:=Nd.rdB_app (ks.getD 0 []) [] 32 e
    rw [List.append_nil] at h2
    rw [show ((100:Nat):Int)=100 from rfl] at h1
    unfold Nd.rdR
    rw [if_neg (by decide),h1]
    simp only [Nib.unpack_pack p false c]
    rw [if_neg (by decide),h2]
    simp only
    rw [hk]
    rfl
  rw [if_neg k2] at hf
  by_cases k3:kd=3
  · subst k3
    rw [if_pos rfl] at hf
    simp only [Nd.branchB,Bool.and_eq_true,decide_eq_true_eq] at hf
    obtain ⟨a,b,c,d⟩:=hf
    subst a
    refine ⟨3,Nd.takenL ks ++ (ks.flatten ++ Code.textL v),([],0),rfl,?_,rfl⟩
    have h2:=Nd.rdT_text 32 v [] b (by decide)
    rw [List.append_nil] at h2
    rw [show ((32:Nat):Int)=32 from rfl] at h2
    unfold Nd.rdR
    rw [if_pos (by decide),Nd.rdB_app (Nd.takenL ks) _ 2 rfl,if_neg (by show ¬ (2 < 2); decide),Nd.rdK_taken ks _ hm c,h2]
  rw [if_neg k3] at hf
  cases hf
theorem Nd.decR_is (s:List UInt8):Nd.DecIs s (Nd.decR s):=by
  have key:Nd.decR s=(Nd.zero,80)->∀ m:Nd.N,m.kids.length=16->Nd.fine m=true->Nd.written m ≠ s:=by
    intro h m hm hf he
    obtain ⟨k,r,st,h1,h2,h3⟩:=Nd.rdR_written m hm hf
    rw [← he,h1] at h
    simp only [Nd.decR,h2] at h
    rw [if_pos (by simp [Nd.okR,h3,hf,h1])] at h
    cases h
  match s with
  | []=>exact Or.inr ⟨rfl,rfl,key rfl⟩
  | k :: r=>
    match hR:Nd.rdR k r with
    | none=>
      have e:Nd.decR (k :: r)=(Nd.zero,80):=by simp only [Nd.decR,hR]
      rw [e]
      exact Or.inr ⟨rfl,rfl,key e⟩
    | some (m,st)=>
      cases ho:Nd.okR (k :: r) m st with
      | false=>
        have e:Nd.decR (k :: r)=(Nd.zero,80):=by
          simp only [Nd.decR,hR,ho]
          rfl
        rw [e]
        exact Or.inr ⟨rfl,rfl,key e⟩
      | true=>
        have e:Nd.decR (k :: r)=(m,0):=by
          simp only [Nd.decR,hR,ho]
          rfl
        rw [e]
        simp only [Nd.okR,Bool.and_eq_true,decide_eq_true_eq] at ho
        exact Or.inl ⟨rfl,ho.2.1,Nd.rdR_kids hR,ho.2.2⟩
theorem Nd.dec_same (s:List UInt8):Nd.decR s=Nd.dec s:=Nd.dec_one (Nd.decR_is s) (Nd.dec_is s)
end
end Go.Proofs.YtaficmboooaknaaGreatDoor
