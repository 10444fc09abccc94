import Derived.Test.YtaficmboooaknaaGreatDoorPv01
import Derived.Test.YtaficmboooaknaaGreatDoorPv19
import Derived.Test.YtaficmboooaknaaGreatDoorPv20
import Derived.Test.YtaficmboooaknaaGreatDoorPv14
import Derived.BigQuiet
import Derived.Test.YtaficmboooaknaaGreatDoorPv17
import Derived.Test.YtaficmboooaknaaGreatDoorPv03
import Derived.Deep.RegionHeld3
import Derived.Test.YtaficmboooaknaaGreatDoorPv02
import Derived.RangeFuncNested
set_option maxRecDepth 100000
set_option maxHeartbeats 16000000
namespace Go.Proofs.YtaficmboooaknaaGreatDoor
section
open Go.RowKit
open Sto (T St)
open Go.Proofs.YtaficmboooaknaaGreatDoor.Nd (N)
theorem row_apart {G:Nat->Prop} {w w':World} {B:Nat} {e:TypeId} {z:Nat} {s:Value} {n:Nat} {xs:List Value} (h:w.ownsRow B e z s n xs) (ho:Out G w w') (hd:∀ k,s.ownBlock=some k->¬ G k):w'.ownsRow B e z s n xs:=by
  refine ⟨h.1,?_⟩
  rcases h.2 with hn | ⟨k,cap,cur,hv,hb,hk,hr⟩
  · exact Or.inl hn
  · exact Or.inr ⟨k,cap,cur,hv,hb,ho.heap hk (hd k (by rw [hv]; rfl)),hr⟩
theorem one_not_row {w:World} {b:Nat} {t e:TypeId} {v:Value} (h:w.heap[b]?=some (.cells #[v] t (0,0))) (hte:t ≠ e) {B z n:Nat} {s:Value} {xs:List Value} (hr:w.ownsRow B e z s n xs) (k:Nat) (hk:s.ownBlock=some k):k ≠ b:=by
  rintro rfl
  rcases hr.2 with ⟨rfl,_⟩ | ⟨g,cap,cur,hv,_,hh,_⟩
  · cases hk
  · rw [hv] at hk
    obtain rfl:g=k:=by simpa [Value.ownBlock] using hk
    rw [h] at hh
    exact hte (by injection hh with hh; injection hh)
structure Gth (w:World) (gl:Nat) (zs zi zl:Value) (M:List Spn.Sp) (I:St) (wr:World):Prop where
  sought:OwnQ wr w.heap.size zs M
  items:OwnI wr w.heap.size zi I
  left:wr.heap[gl]?=some (.cells #[zl] 29 (0,0))
  old:Below w.heap.size w wr
theorem Gth.below {w:World} {gl:Nat} {zs zi zl:Value} {M:List Spn.Sp} {I:St} {a b:World} (h:Gth w gl zs zi zl M I a) (hb:Below a.heap.size a b):Gth w gl zs zi zl M I b:=
  ⟨h.sought.below hb,h.items.below hb,(hb.block _ (lt_of_heap h.left)).trans h.left,bchain h.old hb⟩
theorem Gth.take {w:World} {gl:Nat} {zs zi zl zl':Value} {M:List Spn.Sp} {I:St} {a b:World} (h:Gth w gl zs zi zl M I a) (hg:w.heap.size<=gl) (ho:Out (fun k=>k=gl) a b) (hl:b.heap[gl]?=some (.cells #[zl'] 29 (0,0))):Gth w gl zs zi zl' M I b:=
  ⟨row_apart h.sought ho fun k hk e=>one_not_row h.left (by decide) h.sought k hk e,row_apart h.items ho fun k hk e=>one_not_row h.left (by decide) h.items k hk e,hl,h.old.trans (ho.below (fun k e=>e ▸ hg) h.old.size)⟩
theorem row_block_ne {w:World} {B:Nat} {t e:TypeId} {z n:Nat} {s:Value} {xs:List Value} {cs:Array Value} {fl:Nat × Nat} {b:Nat} (h:w.ownsRow B t z s n xs) (hte:t ≠ e) (hb:w.heap[b]?=some (.cells cs e fl)) (hs:s.ownBlock=some b):False:=by
  rcases h.2 with ⟨rfl,_⟩ | ⟨g,cap,cur,hv,_,hh,_⟩
  · cases hs
  · rw [hv] at hs
    obtain rfl:g=b:=by simpa [Value.ownBlock] using hs
    rw [hh] at hb
    exact hte (by injection hb with hb; injection hb)
theorem rows_ne {w:World} {B B':Nat} {t e:TypeId} {z z' n n':Nat} {s s':Value} {xs xs':List Value} (h:w.ownsRow B t z s n xs) (h':w.ownsRow B' e z' s' n' xs') (hte:t ≠ e) (k:Nat) (hk:s.ownBlock=some k):s'.ownBlock ≠ some k:=by
  intro hk'
  rcases h.2 with ⟨rfl,_⟩ | ⟨g,cap,cur,hv,_,hh,_⟩
  · cases hk
  rcases h'.2 with ⟨rfl,_⟩ | ⟨g',cap',cur',hv',_,hh',_⟩
  · cases hk'
  rw [hv] at hk
  rw [hv'] at hk'
  obtain rfl:g=k:=by simpa [Value.ownBlock] using hk
  obtain rfl:g'=g:=by simpa [Value.ownBlock] using hk'
  rw [hh] at hh'
  exact hte (by injection hh' with hh'; injection hh')
theorem Gth.more {w:World} {gl:Nat} {zs zi zl v':Value} {M N:List Spn.Sp} {I:St} {a b:World} (h:Gth w gl zs zi zl M I a) (hg:a.grownBy b zs.ownBlock) (ho:OwnQ b w.heap.size v' N):Gth w gl v' zi zl N I b:=by
  have hO:=Out.grown hg (F:=fun j=>zs.ownBlock=some j) (fun j e=>e)
  exact ⟨ho,row_apart h.items hO fun k hk e=>rows_ne h.items h.sought (by decide) k hk e,hO.heap h.left fun e=>one_not_row h.left (by decide) h.sought gl e rfl,h.old.trans (hO.below (fun j hj=>(OwnQ.lt h.sought j hj).1) h.old.size)⟩
theorem Gth.item {w:World} {gl:Nat} {zs zi zl v':Value} {M:List Spn.Sp} {I J:St} {a b:World} (h:Gth w gl zs zi zl M I a) (hg:a.grownBy b zi.ownBlock) (ho:OwnI b w.heap.size v' J):Gth w gl zs v' zl M J b:=by
  have hO:=Out.grown hg (F:=fun j=>zi.ownBlock=some j) (fun j e=>e)
  exact ⟨row_apart h.sought hO fun k hk e=>rows_ne h.sought h.items (by decide) k hk e,ho,hO.heap h.left fun e=>one_not_row h.left (by decide) h.items gl e rfl,h.old.trans (hO.below (fun j hj=>(OwnI.lt h.items j hj).1) h.old.size)⟩
theorem below_place (s:Spn.Sp) (n:N):∀ x ∈ Spn.belowP s n,x.place.length<=17:=by
  intro x hx
  obtain ⟨i,_,hi⟩:=List.mem_filterMap.1 hx
  split at hi
  · cases hi
  · split at hi
    · rw [← Option.some.inj hi]
      show ((s.place ++ Spn.stepP n i).take 17).length<=17
      simp
      omega
    · cases hi
theorem below_len (s:Spn.Sp) (n:N):(Spn.belowP s n).length<=16:=Nat.le_trans (List.length_filterMap_le ..) (by simp)
def leftN (gl:Nat) (w:World):Nat:=match w.cell? ⟨gl,0,none⟩ with
  | some (.slice _ n _)=>n+1
  | _=>0
theorem leftN_of {gl n cap:Nat} {A:Option Addr} {w:World} (h:w.heap[gl]?=some (.cells #[.slice A n cap] 29 (0,0))):leftN gl w=n+1:=by
  unfold leftN
  rw [cell_of_one h]
def GatherPost (o:Option St) (w:World) (e:Ending) (w':World):Prop:=
  ∃ (z:Value) (b:Bool),e=.returned (.tuple #[z,.bool b])/\b=o.isSome/\(∀ I,o=some I->OwnI w' w.heap.size z I)/\(∃ A n cap,z=.slice A n cap)/\Below w.heap.size w w'
theorem GatherPost.no {o:Option St} {w w':World} (h:o=none) (hb:Below w.heap.size w w'):GatherPost o w (.returned (.tuple #[.slice none 0 0,.bool false])) w':=by
  subst h
  exact ⟨_,false,rfl,rfl,(fun I e=>by cases e),⟨_,_,_,rfl⟩,hb⟩
theorem spgather_any (root f e:T) (v:Value) (L0:List T) (w:World) (hv:StrsC w v L0) (hT:Tab w) (hL:∀ x ∈ L0,x.length<=1000000) (hl:L0.length<=10000) (hf:f.length<=2000000) (he:e.length<=2000000):
    Calls Tryz.prog 44 #[.string ⟨root.toArray⟩,.string ⟨f.toArray⟩,.string ⟨e.toArray⟩,v] w (GatherPost (Spn.gathP root f e L0) w):=by
  have hmf:∀ (fn:Fn) (first cap:Array Value) (w:World),(Instr.makeFunc fn first cap).run Tryz.prog w=.ok (.func fn first cap) w:=fun _ _ _ _=>rfl
  obtain ⟨A,cap,hve,-⟩:=hv.form
  subst hve
  obtain ⟨w0,hw0⟩:∃ w0,w.alloc (.cells #[.slice A L0.length cap] 29)=w0:=⟨_,rfl⟩
  have hb0:Below w.heap.size w w0:=by rw [← hw0]; exact (Below.refl _ w).alloc (Nat.le_refl _) _
  have rl:w0.heap[w.heap.size]?=some (.cells #[.slice A L0.length cap] 29 (0,0)):=by rw [← hw0]; exact heap_alloc_new w _
  by_cases hr:root=[]
  · subst hr
    rw [Spn.gathP_none]
    have cl:=cell_of_one rl
    have HB:=qh hb0
    by_cases hn:L0=[]
    · subst hn
      rw [if_pos rfl]
      have hw1:w.alloc (.cells #[.slice A 0 cap] 29)=w0:=hw0
      have cl1:w0.cell? ⟨w.heap.size,0,none⟩=some (.slice A 0 cap):=cl
      clear hv hT hL hl hf he hb0 rl cl hw0
      go_enter Tryz.func44,Tryz.ntmps44
      go_upto_region 3 with fail
      try clear hw0
      go_wp2
      go_loopw [8,12] (fun a b wr=>a=.slice none 0 0/\b=.slice none 0 0/\wr=w0) (fun _ _ _=>0)
      case atStart=>exact ⟨rfl,rfl,rfl⟩
      case round=>
        obtain ⟨rfl,rfl,rfl⟩:=hrel
        go_wp2
        go_quiet (fail)
        have HBQ:=qh (bel_drewN HB.out nq)
        go_wp2
        go_ret2
        exact ⟨_,true,rfl,rfl,(fun I e=>by cases e; exact OwnI.nil _ _),⟨_,_,_,rfl⟩,HBQ.out⟩
    · have z0:((L0.length:Int) == 0)=false:=by rw [beq_eq_false_iff_ne]; have:=List.length_pos_iff.2 hn; omega
      have z1:(L0.length == 0)=false:=by rw [beq_eq_false_iff_ne]; have:=List.length_pos_iff.2 hn; omega
      have z2:¬ L0.length=0:=by have:=List.length_pos_iff.2 hn; omega
      rw [if_neg hn]
      clear hv hT hL hl hf he hn hb0 rl
      go_enter Tryz.func44,Tryz.ntmps44
      go_upto_region 3 with fail
      try clear hw0
      go_wp2
      go_loopw [8,12] (fun a b wr=>a=.slice none 0 0/\b=.slice none 0 0/\wr=w0) (fun _ _ _=>0)
      case atStart=>exact ⟨rfl,rfl,rfl⟩
      case round=>
        obtain ⟨rfl,rfl,rfl⟩:=hrel
        go_wp2
        go_quiet (fail)
        have HBQ:=qh (bel_drewN HB.out nq)
        go_wp2
        go_ret2
        exact GatherPost.no rfl HBQ.out
  · have HOF:Hid (∀ w',Calls Tryz.prog 59 #[.string ⟨f.toArray⟩] w' fun r w''=>r=.returned (.string ⟨(Nib.ofL f).toArray⟩)/\Below w'.heap.size w' w''):=qh (fun w'=>of_any f w' hf)
    have HOE:Hid (∀ w',Calls Tryz.prog 59 #[.string ⟨e.toArray⟩] w' fun r w''=>r=.returned (.string ⟨(Nib.ofL e).toArray⟩)/\Below w'.heap.size w' w''):=qh (fun w'=>of_any e w' he)
    obtain ⟨o,ho⟩:∃ o,Spn.gathP root f e L0=o:=⟨_,rfl⟩
    rw [ho]
    unfold Spn.gathP at ho
    rw [if_neg hr] at ho
    obtain ⟨F,hF⟩:∃ F,Nib.ofL f=F:=⟨_,rfl⟩
    obtain ⟨E,hE⟩:∃ E,Nib.ofL e=E:=⟨_,rfl⟩
    rw [hF] at HOF ho
    rw [hE] at HOE ho
    have HO:=qh ho
    have HL0:=qh (show L0.length<=10000/\∀ x ∈ L0,x.length<=1000000 from ⟨hl,hL⟩)
    have HV:=qh hv
    have HT:=qh hT
    have HB0:=qh hb0
    have HRL:=qh rl
    have q1:(root == [])=false:=beq_eq_false_iff_ne.2 hr
    have q2:root.isEmpty=false:=by cases root <;> simp_all
    clear hv hT hL hl hf he hb0 rl hr ho hF hE
    go_enter Tryz.func44,Tryz.ntmps44
    go_upto_region 3 with fail
    try clear hw0
    go_wp2_with fail
    refine (HOF.out _).mono ?_
    rintro e1 w1 ⟨rfl,hb1⟩
    go_wp2_with fail
    refine (HOE.out _).mono ?_
    rintro e2 w2 ⟨rfl,hb2⟩
    have hb12:=bchain hb1 hb2
    have HG2:Hid (Gth w w.heap.size (.slice (some ⟨w2.heap.size,0,none⟩) 1 1) (.slice none 0 0) (.slice A L0.length cap) [⟨root,[],F,E⟩] [] (w2.alloc (.cells #[.string ⟨root.toArray⟩,.string ⟨#[]⟩,.string ⟨F.toArray⟩,.string ⟨E.toArray⟩] 121))):=Lib.hid
      ⟨by
        refine (OwnQ.low (B:=w2.heap.size) ?_ (Nat.le_trans HB0.out.size hb12.size))
        exact ⟨rfl,Or.inr ⟨w2.heap.size,1,_,rfl,Nat.le_refl _,heap_alloc_new w2 _,by simp,by simp [maxLen],rfl,rfl⟩⟩,OwnI.nil _ _,((bel_al hb12 _).block _ (lt_of_heap HRL.out)).trans HRL.out,bchain HB0.out (bel_al hb12 _)⟩
    clear hb1 hb2 hb12
    go_wp2
    obtain ⟨gl,hgl⟩:∃ gl,w.heap.size=gl:=⟨_,rfl⟩
    have HGL:Hid (w.heap.size<=gl):=qh (Nat.le_of_eq hgl)
    rw [hgl] at HG2 ⊢
    clear hgl
    go_loopw [8,12] (fun iv sv wr=>∃ (ss:List Spn.Sp) (I:St) (L:List T) (zi zs zl:Value),zi=iv/\zs=sv/\Gth w gl zs zi zl ss.reverse I wr/\StrsC w zl L/\Spn.loopP L ss I=o/\(∀ s ∈ ss,s.place.length<=17)/\ss.length+16 * L.length<=200000/\I.length+L.length<=10000/\(∀ x ∈ L,x.length<=1000000)) (fun _ _ wr=>leftN gl wr)
    case atStart=>exact ⟨[⟨root,[],F,E⟩],[],L0,_,_,_,rfl,rfl,HG2.out,HV.out,HO.out,by simp,by have:=HL0.out.1; simp; omega,by have:=HL0.out.1; simp; omega,HL0.out.2⟩
    case round=>
      obtain ⟨ss,I,L,zi,zs,zl,rfl,rfl,hg,hst,hlo,hpl,hn1,hn2,hL⟩:=hrel
      have cl:=cell_of_one hg.left
      have HG:=qh hg
      have HST:=qh hst
      have HLO:=qh hlo
      have HPL:=qh hpl
      have HN:=qh (show ss.length+16 * L.length<=200000/\I.length+L.length<=10000 from ⟨hn1,hn2⟩)
      have HL:=qh hL
      obtain ⟨A2,cap2,rfl,-⟩:=hst.form
      cases ss with
      | nil=>
        obtain ⟨A3,cap3,hzs,-⟩:=hg.sought.at_.form
        have hzs2:zs=.slice A3 0 cap3:=hzs
        subst hzs2
        obtain ⟨A4,cap4,rfl,-⟩:=hg.items.at_.form
        clear hg hst hlo hpl hn1 hn2 hL hzs
        by_cases hn:L=[]
        · subst hn
          have hoo:o=some I:=by rw [← HLO.out,Spn.loopP.eq_def]; rfl
          have HOO:=qh hoo
          have cl2:wr.cell? ⟨gl,0,none⟩=some (.slice A2 0 cap2):=cl
          clear hoo cl
          go_wp2
          go_quiet (fail)
          have HGQ:=qh (HG.out.below (bel_drewN (Below.refl _ _) nq))
          go_wp2
          go_ret2
          exact ⟨_,true,rfl,by rw [HOO.out]; rfl,(fun J hJ=>by rw [HOO.out] at hJ; cases hJ; exact HGQ.out.items),⟨_,_,_,rfl⟩,HGQ.out.old⟩
        · have hoo:o=none:=by rw [← HLO.out,Spn.loopP.eq_def]; simp [hn]
          have HOO:=qh hoo
          have z0:((L.length:Int) == 0)=false:=by rw [beq_eq_false_iff_ne]; have:=List.length_pos_iff.2 hn; omega
          have z1:(L.length == 0)=false:=by rw [beq_eq_false_iff_ne]; have:=List.length_pos_iff.2 hn; omega
          have z2:¬ L.length=0:=by have:=List.length_pos_iff.2 hn; omega
          clear hoo hn
          go_wp2
          go_quiet (fail)
          have HGQ:=qh (HG.out.below (bel_drewN (Below.refl _ _) nq))
          go_wp2
          go_ret2
          exact ⟨_,false,rfl,by rw [HOO.out]; rfl,(fun J hJ=>by rw [HOO.out] at hJ; cases hJ),⟨_,_,_,rfl⟩,HGQ.out.old⟩
      | cons s ss=>
        have hso:=hg.sought
        rw [List.reverse_cons] at hso
        obtain ⟨g,cp,rfl,hBg,hgw,hcap,hso2,⟨cs,hcs⟩,hcell⟩:=hso.last
        obtain ⟨k,hk⟩:∃ k,ss.reverse.length=k:=⟨_,rfl⟩
        rw [hk] at hcell hcap hso2
        have c0:=hcell 0 _ rfl
        have c1:=hcell 1 _ rfl
        have c2:=hcell 2 _ rfl
        have c3:=hcell 3 _ rfl
        simp only [Nat.add_zero] at c0
        have hcut:=cut_run (some ⟨g,0,none⟩) (k+1) cp k (by omega) (Or.inr ⟨g,rfl⟩)
        have y0:(0:Int)<=(k:Int):=by omega
        have y1:(k:Int) < (k:Int)+1:=by omega
        have y2:(k:Int)<=1000000:=by
          have:=HN.out.1
          simp only [List.length_reverse] at hk
          simp only [List.length_cons] at this
          omega
        rw [hk]
        have hA:Below wr.heap.size wr (wr.alloc (.cells #[.string ⟨s.sum.toArray⟩,.string ⟨s.place.toArray⟩,.string ⟨s.lf.toArray⟩,.string ⟨s.le.toArray⟩] 121)):=(Below.refl _ wr).alloc (Nat.le_refl _) _
        have HGA:Hid (Gth w gl (.slice (some ⟨g,0,none⟩) k cp) zi (.slice A2 L.length cap2) ss.reverse I (wr.alloc (.cells #[.string ⟨s.sum.toArray⟩,.string ⟨s.place.toArray⟩,.string ⟨s.lf.toArray⟩,.string ⟨s.le.toArray⟩] 121))):=Lib.hid
          ((Gth.mk (by rw [← hk] at hso2 ⊢; exact hso2) hg.items hg.left hg.old:Gth w gl (.slice (some ⟨g,0,none⟩) k cp) zi (.slice A2 L.length cap2) ss.reverse I wr).below hA)
        have HBX:Hid ((wr.alloc (.cells #[.string ⟨s.sum.toArray⟩,.string ⟨s.place.toArray⟩,.string ⟨s.lf.toArray⟩,.string ⟨s.le.toArray⟩] 121)).heap[wr.heap.size]?=some (.cells #[.string ⟨s.sum.toArray⟩,.string ⟨s.place.toArray⟩,.string ⟨s.lf.toArray⟩,.string ⟨s.le.toArray⟩] 121 (0,0))):=qh (heap_alloc_new wr _)
        have HGR:Hid (gl < wr.heap.size):=qh (lt_of_heap hg.left)
        clear hso hg hst hlo hpl hn1 hn2 hL hcell hcs hA
        go_wp2_with fail
        obtain ⟨wa,hwa⟩:∃ wa,wr.alloc (.cells #[.string ⟨s.sum.toArray⟩,.string ⟨s.place.toArray⟩,.string ⟨s.lf.toArray⟩,.string ⟨s.le.toArray⟩] 121)=wa:=⟨_,rfl⟩
        rw [hwa] at HGA HBX ⊢
        obtain ⟨qs,hqs⟩:∃ qs,wr.heap.size=qs:=⟨_,rfl⟩
        rw [hqs] at HBX HGR ⊢
        have HTK:=qh (sptake_any L s.sum gl _ w wa HGA.out.old HGA.out.left HST.out (fun w' ho=>HT.out.below (HGA.out.old.trans (ho.below (fun k e=>e ▸ HGL.out) HGA.out.old.size))) HL.out)
        unfold TakePost ndval at HTK
        refine HTK.out.mono ?_
        rintro e3 w3 ⟨n,b,rfl,hn16,hfi,hout,zl',hl3,hst3⟩
        have hg3:=HGA.out.take HGL.out hout hl3
        have hbx3:w3.heap[qs]?=some (.cells #[.string ⟨s.sum.toArray⟩,.string ⟨s.place.toArray⟩,.string ⟨s.lf.toArray⟩,.string ⟨s.le.toArray⟩] 121 (0,0)):=hout.heap HBX.out (fun e=>by have:=HGR.out; omega)
        have hA3:Below w3.heap.size w3 (w3.alloc (.cells (ncl n).toArray 110)):=(Below.refl _ w3).alloc (Nat.le_refl _) _
        have HG3:=qh (hg3.below hA3)
        have HX3:=qh ((hA3.block _ (lt_of_heap hbx3)).trans hbx3)
        have HN3:Hid ((w3.alloc (.cells (ncl n).toArray 110)).heap[w3.heap.size]?=some (.cells (ncl n).toArray 110 (0,0))):=qh (heap_new_at w3 _ _ rfl)
        have HNA:Hid (NodeAt (w3.alloc (.cells (ncl n).toArray 110)) w3.heap.size n):=qh (heap_new_at w3 _ _ rfl)
        have HST3:=qh hst3
        have HFI:=qh hfi
        have HN16:=qh hn16
        have HON:=qh (ncl_one n)
        have HSN:Hid ((ncl n).toArray.size=19):=qh (by rw [List.size_toArray,ncl_length n hn16])
        have HIT:=qh (fun w hp hq=>spitem_any s n w hn16 hp hq)
        have HBL:=qh (fun w hp hq=>spbelow_any s n w hn16 hp hq)
        unfold ItemPost ndval spl at HIT
        unfold BelowPost ndval spl at HBL
        obtain ⟨C,hC⟩:∃ C,(ncl n).toArray=C:=⟨_,rfl⟩
        rw [hC] at HG3 HX3 HN3 HON HSN HIT HBL HNA ⊢
        have HI:Hid ((Tryz.prog.info? 110).map (·.size)=some C.size):=qh (by rw [HSN.out]; kernel_rfl)
        clear hwa hqs HTK hn16 hfi hout hl3 hst3 hg3 hbx3 hA3 hC
        cases b with
        | false=>
          have hoo:o=none:=by
            rw [← HLO.out]
            cases L with
            | nil=>rfl
            | cons x r=>
              have h1:Prf.isN s.sum x=false:=HFI.out.1.symm
              rw [Spn.loopP,if_neg (by rw [h1]; decide)]
          have HOO:=qh hoo
          clear hoo
          go_wp2_with (refine wpList_store_fresh (by rfl) _ _ _ (by rfl) w3.heap.size rfl C (by rfl) (by rfl) _ _ HI.out HSN.out.symm HON.out ?_)
          try rw [Exit.noGoto_ret]
          go_ret2
          exact GatherPost.no HOO.out HG3.out.old
        | true=>
          cases L with
          | nil=>exact absurd HFI.out (by simp [FirstIs])
          | cons x r=>
          have hN:Prf.isN s.sum x=true:=HFI.out.1.symm
          have hX:(Nd.dec x).1=n:=HFI.out.2 rfl
          have hto:Prf.Told n:=by rw [← hX]; exact Prf.Told.of (of_decide_eq_true hN).2
          have hlo2:(match Spn.ownP s n I with | none=>none | some J=>Spn.loopP r (Spn.belowP s n ++ ss) J)=o:=by
            rw [← HLO.out,Spn.loopP,if_pos hN,hX]
            cases Spn.ownP s n I <;> rfl
          have HLO2:=qh hlo2
          have HPA:Hid (n.path.length<=900):=qh (by have:=hto.path; omega)
          have HPS:Hid (s.place.length<=1000):=qh (by have:=HPL.out s (List.mem_cons_self ..); omega)
          have cl0:=qh (leftN_of HG.out.left)
          obtain ⟨A5,cap5,hz5,-⟩:=HST3.out.form
          have hz5':zl'=.slice A5 r.length cap5:=hz5
          subst hz5'
          have HNB:Hid ((Spn.belowP s n ++ ss).length+16 * r.length<=200000/\I.length+1+r.length<=10000/\r.length+1 < (x :: r).length+1/\ss.reverse.length+(Spn.belowP s n).reverse.length<=1000000):=qh (by
            have h1:=HN.out.1
            have h2:=HN.out.2
            have h3:=below_len s n
            rw [List.length_cons,List.length_cons] at h1
            rw [List.length_cons] at h2
            rw [List.length_append,List.length_cons,List.length_reverse,List.length_reverse]
            omega)
          clear hN hX hto hlo2 cl hz5
          obtain ⟨A4,cap4,hzi,-,-⟩:=HG3.out.items.at_.form
          subst hzi
          have d1:=HNA.out.path
          have d2:=HNA.out.val
          go_upto_region 12 with (refine wpList_store_fresh (by rfl) _ _ _ (by rfl) w3.heap.size rfl C (by rfl) (by rfl) _ _ HI.out HSN.out.symm HON.out ?_)
          obtain ⟨q4,hq4⟩:∃ q4,w3.heap.size=q4:=⟨_,rfl⟩
          obtain ⟨w4,hw4⟩:∃ w4,w3.alloc (.cells C 110)=w4:=⟨_,rfl⟩
          rw [hq4] at HN3 HNA d1 d2 ⊢
          rw [hw4] at HG3 HX3 HN3 HNA d1 d2 ⊢
          clear hq4 hw4
          by_cases hv0:n.val=[]
          · have HLN:Hid (Spn.loopP r (Spn.belowP s n ++ ss) I=o):=qh (by
              have h1:=HLO2.out
              unfold Spn.ownP at h1
              rw [if_pos hv0] at h1
              exact h1)
            have q3:(n.val == [])=true:=beq_iff_eq.2 hv0
            have q4':n.val.isEmpty=true:=by rw [hv0]; rfl
            have HG5:=HG3
            have HX5:=HX3
            have HN5:=HN3
            clear hv0
            have x0:w4.cell? ⟨qs,0,none⟩=some (.string ⟨s.sum.toArray⟩):=by rw [cell_of_row _ _ 0 _ _ _ HX5.out]; rfl
            have x1:w4.cell? ⟨qs,1,none⟩=some (.string ⟨s.place.toArray⟩):=by rw [cell_of_row _ _ 1 _ _ _ HX5.out]; rfl
            have x2:w4.cell? ⟨qs,2,none⟩=some (.string ⟨s.lf.toArray⟩):=by rw [cell_of_row _ _ 2 _ _ _ HX5.out]; rfl
            have x3:w4.cell? ⟨qs,3,none⟩=some (.string ⟨s.le.toArray⟩):=by rw [cell_of_row _ _ 3 _ _ _ HX5.out]; rfl
            go_wp2_with (refine wpList_load_row (by rfl) _ _ (by rfl) q4 (by rfl) _ C _ _ HN5.out Tryz.underlying110 (by rfl) HI.out ?_)
            refine (HBL.out _ HPS.out HPA.out).mono ?_
            rintro e6 w6 ⟨zb,rfl,hzb,hb6⟩
            obtain ⟨v7,w7,hrun,how,hgr,-⟩:=app_q (HG5.out.below hb6).sought hzb.at_ HNB.out.2.2.2 (HG5.out.below hb6).old.size
            rw [← List.reverse_append] at how
            have HRUN:=qh hrun
            have HG7:=qh ((HG5.out.below hb6).more hgr how)
            obtain ⟨Ab,nb,capb,rfl⟩:∃ Ab nb capb,zb=.slice Ab nb capb:=by
              obtain ⟨Ab,capb,h,-,-⟩:=hzb.at_.form
              exact ⟨Ab,_,capb,h⟩
            clear hrun how hgr hzb hb6
            go_wp2_with (at_builtin; refine wpList_append_run rfl _ _ _ rfl (.slice (some ⟨g,0,none⟩) k cp) (.slice Ab nb capb) _ (by rfl) (by rfl) HRUN.out ?_)
            refine ⟨⟨Spn.belowP s n ++ ss,I,r,_,v7,_,rfl,rfl,HG7.out,HST3.out,HLN.out,fun y hy=>?_,HNB.out.1,(by have:=HNB.out.2.1; omega),fun y hy=>HL.out y (List.mem_cons_of_mem _ hy)⟩,?_⟩
            · rcases List.mem_append.1 hy with hy | hy
              · exact below_place s n y hy
              · exact HPL.out y (List.mem_cons_of_mem _ hy)
            · rw [leftN_of HG7.out.left,cl0.out]
              exact HNB.out.2.2.1
          · have q3:(n.val == [])=false:=beq_eq_false_iff_ne.2 hv0
            have q4':n.val.isEmpty=false:=by cases h:n.val <;> simp_all
            have HV0:=qh hv0
            have HITC:=qh (HIT.out w4 HPS.out (Nat.le_trans HPA.out (by decide)))
            obtain ⟨ko,hko⟩:∃ ko,Spn.keyP (s.place ++ n.path)=ko:=⟨_,rfl⟩
            rw [hko] at HITC
            have HKO:=qh hko
            clear hv0 hko HIT
            have x0:w4.cell? ⟨qs,0,none⟩=some (.string ⟨s.sum.toArray⟩):=by rw [cell_of_row _ _ 0 _ _ _ HX3.out]; rfl
            have x1:w4.cell? ⟨qs,1,none⟩=some (.string ⟨s.place.toArray⟩):=by rw [cell_of_row _ _ 1 _ _ _ HX3.out]; rfl
            have x2:w4.cell? ⟨qs,2,none⟩=some (.string ⟨s.lf.toArray⟩):=by rw [cell_of_row _ _ 2 _ _ _ HX3.out]; rfl
            have x3:w4.cell? ⟨qs,3,none⟩=some (.string ⟨s.le.toArray⟩):=by rw [cell_of_row _ _ 3 _ _ _ HX3.out]; rfl
            go_wp2_with (refine wpList_load_row (by rfl) _ _ (by rfl) q4 (by rfl) _ C _ _ HN3.out Tryz.underlying110 (by rfl) HI.out ?_)
            refine HITC.out.mono ?_
            rintro e5 w5 ⟨k',rfl,hk',hb5⟩
            have HKJ:=qh hk'
            have hA5:Below w5.heap.size w5 (w5.alloc (.cells #[.string ⟨k'.toArray⟩,.string ⟨n.val.toArray⟩] 60)):=(Below.refl _ w5).alloc (Nat.le_refl _) _
            have HB5:=qh (bchain hb5 hA5)
            have HRI:Hid ((w5.alloc (.cells #[.string ⟨k'.toArray⟩,.string ⟨n.val.toArray⟩] 60)).heap[w5.heap.size]?=some (.cells #[.string ⟨k'.toArray⟩,.string ⟨n.val.toArray⟩] 60 (0,0))):=qh (heap_alloc_new w5 _)
            clear x0 x1 x2 x3 d1 d2 hb5 hA5 hk'
            cases ko with
            | none=>
              have hoo:o=none:=by
                have h1:=HLO2.out
                unfold Spn.ownP at h1
                rw [if_neg HV0.out,HKO.out] at h1
                exact h1.symm
              have HOO:=qh hoo
              clear hoo
              go_wp2
              try rw [Exit.noGoto_ret]
              go_ret2
              exact GatherPost.no HOO.out (bchain HG3.out.old HB5.out)
            | some j=>
              obtain rfl:k'=j:=HKJ.out j rfl
              have hlo3:Spn.loopP r (Spn.belowP s n ++ ss) (if Spn.hasP s.lf s.le n.path then I ++ [(k',n.val)] else I)=o:=by
                have h1:=HLO2.out
                unfold Spn.ownP at h1
                rw [if_neg HV0.out,HKO.out] at h1
                exact h1
              obtain ⟨hb,hhb⟩:∃ hb,Spn.hasP s.lf s.le n.path=hb:=⟨_,rfl⟩
              have HHAS:=qh (fun w=>sphas_any s.lf s.le n.path w)
              rw [hhb] at HHAS hlo3
              have HLO3:=qh hlo3
              clear hlo3 hhb
              obtain ⟨w6,hw6⟩:∃ w6,w5.alloc (.cells #[.string ⟨k'.toArray⟩,.string ⟨n.val.toArray⟩] 60)=w6:=⟨_,rfl⟩
              rw [hw6] at HB5 HRI
              have HX6:=qh ((HB5.out.block _ (lt_of_heap HX3.out)).trans HX3.out)
              have x2:w6.cell? ⟨qs,2,none⟩=some (.string ⟨s.lf.toArray⟩):=by rw [cell_of_row _ _ 2 _ _ _ HX6.out]; rfl
              have x3:w6.cell? ⟨qs,3,none⟩=some (.string ⟨s.le.toArray⟩):=by rw [cell_of_row _ _ 3 _ _ _ HX6.out]; rfl
              have d1:=(HNA.out.below HB5.out).path
              go_wp2_with fail
              refine (HHAS.out _).mono ?_
              rintro e7 w7 ⟨rfl,hb7⟩
              clear hw6
              have HG7a:=qh ((HG3.out.below HB5.out).below hb7)
              have HX7:=qh ((hb7.block _ (lt_of_heap HX6.out)).trans HX6.out)
              have hn6:=(HB5.out.block _ (lt_of_heap HN3.out)).trans HN3.out
              have HN7:=qh ((hb7.block _ (lt_of_heap hn6)).trans hn6)
              have HRI7:=qh ((hb7.block _ (lt_of_heap HRI.out)).trans HRI.out)
              clear hb7 x2 x3 d1 hn6
              cases hb with
              | false=>
                have HLN:Hid (Spn.loopP r (Spn.belowP s n ++ ss) I=o):=HLO3
                have HG5:=HG7a
                have HX5:=HX7
                have HN5:=HN7
                have x0:w7.cell? ⟨qs,0,none⟩=some (.string ⟨s.sum.toArray⟩):=by rw [cell_of_row _ _ 0 _ _ _ HX5.out]; rfl
                have x1:w7.cell? ⟨qs,1,none⟩=some (.string ⟨s.place.toArray⟩):=by rw [cell_of_row _ _ 1 _ _ _ HX5.out]; rfl
                have x2:w7.cell? ⟨qs,2,none⟩=some (.string ⟨s.lf.toArray⟩):=by rw [cell_of_row _ _ 2 _ _ _ HX5.out]; rfl
                have x3:w7.cell? ⟨qs,3,none⟩=some (.string ⟨s.le.toArray⟩):=by rw [cell_of_row _ _ 3 _ _ _ HX5.out]; rfl
                go_wp2_with (refine wpList_load_row (by rfl) _ _ (by rfl) q4 (by rfl) _ C _ _ HN5.out Tryz.underlying110 (by rfl) HI.out ?_)
                refine (HBL.out _ HPS.out HPA.out).mono ?_
                rintro e6 w6 ⟨zb,rfl,hzb,hb6⟩
                obtain ⟨v7,w7,hrun,how,hgr,-⟩:=app_q (HG5.out.below hb6).sought hzb.at_ HNB.out.2.2.2 (HG5.out.below hb6).old.size
                rw [← List.reverse_append] at how
                have HRUN:=qh hrun
                have HG7:=qh ((HG5.out.below hb6).more hgr how)
                obtain ⟨Ab,nb,capb,rfl⟩:∃ Ab nb capb,zb=.slice Ab nb capb:=by
                  obtain ⟨Ab,capb,h,-,-⟩:=hzb.at_.form
                  exact ⟨Ab,_,capb,h⟩
                clear hrun how hgr hzb hb6
                go_wp2_with (at_builtin; refine wpList_append_run rfl _ _ _ rfl (.slice (some ⟨g,0,none⟩) k cp) (.slice Ab nb capb) _ (by rfl) (by rfl) HRUN.out ?_)
                refine ⟨⟨Spn.belowP s n ++ ss,I,r,_,v7,_,rfl,rfl,HG7.out,HST3.out,HLN.out,fun y hy=>?_,HNB.out.1,(by have:=HNB.out.2.1; omega),fun y hy=>HL.out y (List.mem_cons_of_mem _ hy)⟩,?_⟩
                · rcases List.mem_append.1 hy with hy | hy
                  · exact below_place s n y hy
                  · exact HPL.out y (List.mem_cons_of_mem _ hy)
                · rw [leftN_of HG7.out.left,cl0.out]
                  exact HNB.out.2.2.1
              | true=>
                have HLN:Hid (Spn.loopP r (Spn.belowP s n ++ ss) (I ++ [(k',n.val)])=o):=HLO3
                have m0:w7.cell? ⟨w5.heap.size,0,none⟩=some (.string ⟨k'.toArray⟩):=by rw [cell_of_row _ _ 0 _ _ _ HRI7.out]; rfl
                have m1:w7.cell? ⟨w5.heap.size,1,none⟩=some (.string ⟨n.val.toArray⟩):=by rw [cell_of_row _ _ 1 _ _ _ HRI7.out]; rfl
                have hA7:Below w7.heap.size w7 (w7.alloc (.cells #[.string ⟨k'.toArray⟩,.string ⟨n.val.toArray⟩] 60)):=(Below.refl _ w7).alloc (Nat.le_refl _) _
                have hiv:ItAt (w7.alloc (.cells #[.string ⟨k'.toArray⟩,.string ⟨n.val.toArray⟩] 60)) (.slice (some ⟨w7.heap.size,0,none⟩) 1 1) [(k',n.val)]:=
                  OwnI.at_ (B:=w7.heap.size) ⟨rfl,Or.inr ⟨w7.heap.size,1,_,rfl,Nat.le_refl _,heap_alloc_new w7 _,by simp,by simp [maxLen],rfl,rfl⟩⟩
                obtain ⟨v8,w8,hrun8,how8,hgr8,-⟩:=append_it hiv (HG7a.out.below hA7).items (by have:=HNB.out.2.1; simp; omega) (HG7a.out.below hA7).old.size
                have how8':OwnI w8 w.heap.size v8 (I ++ [(k',n.val)]):=by
                  unfold OwnI
                  rw [List.length_append,rowsL_append]
                  exact how8
                have hg8:=(HG7a.out.below hA7).item hgr8 how8'
                have hO8:=Out.grown hgr8 (F:=fun j=>(Value.slice A4 I.length cap4).ownBlock=some j) (fun j e=>e)
                have hx7:=(hA7.block _ (lt_of_heap HX7.out)).trans HX7.out
                have hn7:=(hA7.block _ (lt_of_heap HN7.out)).trans HN7.out
                have HG5:=qh hg8
                have HX5:=qh (hO8.heap hx7 (fun e=>row_block_ne (HG7a.out.below hA7).items (by decide) hx7 e))
                have HN5:=qh (hO8.heap hn7 (fun e=>row_block_ne (HG7a.out.below hA7).items (by decide) hn7 e))
                have HRUN8:=qh hrun8
                clear hA7 hiv hrun8 how8 hgr8 how8' hg8 hO8 hx7 hn7
                go_upto_region 18 with (at_builtin; refine wpList_append_run rfl _ _ _ rfl (.slice A4 I.length cap4) (.slice (some ⟨w7.heap.size,0,none⟩) 1 1) _ (by rfl) (by rfl) HRUN8.out ?_)
                have x0:w8.cell? ⟨qs,0,none⟩=some (.string ⟨s.sum.toArray⟩):=by rw [cell_of_row _ _ 0 _ _ _ HX5.out]; rfl
                have x1:w8.cell? ⟨qs,1,none⟩=some (.string ⟨s.place.toArray⟩):=by rw [cell_of_row _ _ 1 _ _ _ HX5.out]; rfl
                have x2:w8.cell? ⟨qs,2,none⟩=some (.string ⟨s.lf.toArray⟩):=by rw [cell_of_row _ _ 2 _ _ _ HX5.out]; rfl
                have x3:w8.cell? ⟨qs,3,none⟩=some (.string ⟨s.le.toArray⟩):=by rw [cell_of_row _ _ 3 _ _ _ HX5.out]; rfl
                go_wp2_with (refine wpList_load_row (by rfl) _ _ (by rfl) q4 (by rfl) _ C _ _ HN5.out Tryz.underlying110 (by rfl) HI.out ?_)
                refine (HBL.out _ HPS.out HPA.out).mono ?_
                rintro e6 w6 ⟨zb,rfl,hzb,hb6⟩
                obtain ⟨v7,w7,hrun,how,hgr,-⟩:=app_q (HG5.out.below hb6).sought hzb.at_ HNB.out.2.2.2 (HG5.out.below hb6).old.size
                rw [← List.reverse_append] at how
                have HRUN:=qh hrun
                have HG7:=qh ((HG5.out.below hb6).more hgr how)
                obtain ⟨Ab,nb,capb,rfl⟩:∃ Ab nb capb,zb=.slice Ab nb capb:=by
                  obtain ⟨Ab,capb,h,-,-⟩:=hzb.at_.form
                  exact ⟨Ab,_,capb,h⟩
                clear hrun how hgr hzb hb6
                go_wp2_with (at_builtin; refine wpList_append_run rfl _ _ _ rfl (.slice (some ⟨g,0,none⟩) k cp) (.slice Ab nb capb) _ (by rfl) (by rfl) HRUN.out ?_)
                refine ⟨⟨Spn.belowP s n ++ ss,I ++ [(k',n.val)],r,_,v7,_,rfl,rfl,HG7.out,HST3.out,HLN.out,fun y hy=>?_,HNB.out.1,(by have:=HNB.out.2.1; simp; omega),fun y hy=>HL.out y (List.mem_cons_of_mem _ hy)⟩,?_⟩
                · rcases List.mem_append.1 hy with hy | hy
                  · exact below_place s n y hy
                  · exact HPL.out y (List.mem_cons_of_mem _ hy)
                · rw [leftN_of HG7.out.left,cl0.out]
                  exact HNB.out.2.2.1
end
section
open Go.RowKit
open Sto (T St)
def SVPost (R:St × T × Nat) (w:World) (e:Ending) (w':World):Prop:=
  ∃ (A:Option Addr) (n cap:Nat),e=.returned (.tuple #[.slice A n cap,.string ⟨R.2.1.toArray⟩,.int .i64 R.2.2])/\OwnI w' w.heap.size (.slice A n cap) R.1/\Below w.heap.size w w'
theorem SVPost.no {R:St × T × Nat} {c:Nat} {w w':World} (h:R=([],[],c)) (hb:Below w.heap.size w w'):SVPost R w (.returned (.tuple #[.slice none 0 0,.string ⟨#[]⟩,.int .i64 c])) w':=by
  subst h
  exact ⟨none,0,0,rfl,OwnI.nil _ _,hb⟩
theorem SVPost.yes {R:St × T × Nat} {I:St} {x:T} {A:Option Addr} {n cap:Nat} {w w':World} (h:R=(I,x,0)) (ho:OwnI w' w.heap.size (.slice A n cap) I) (hb:Below w.heap.size w w'):SVPost R w (.returned (.tuple #[.slice A n cap,.string ⟨x.toArray⟩,.int .i64 0])) w':=by
  subst h
  exact ⟨A,n,cap,rfl,ho,hb⟩
theorem loopP_len:∀ (L:List T) (ss:List Spn.Sp) (I J:St),Spn.loopP L ss I=some J->J.length<=I.length+L.length:=by
  intro L
  induction L with
  | nil=>
    intro ss I J h
    cases ss with
    | nil=>rw [Spn.loopP.eq_def] at h; simp at h; rw [h]; exact Nat.le_refl _
    | cons s ss=>cases h
  | cons x r ih=>
    intro ss I J h
    cases ss with
    | nil=>rw [Spn.loopP.eq_def] at h; simp at h
    | cons s ss=>
      rw [Spn.loopP] at h
      split at h
      · split at h
        · cases h
        · rename_i K hK
          have h1:=ih _ _ _ h
          have h2:K.length<=I.length+1:=by
            unfold Spn.ownP at hK
            split at hK
            · rw [← Option.some.inj hK]; omega
            · split at hK
              · cases hK
              · rw [← Option.some.inj hK]
                split <;> simp
          rw [List.length_cons]
          omega
      · cases h
theorem gathP_len {root f e:T} {L:List T} {J:St} (h:Spn.gathP root f e L=some J):J.length<=L.length:=by
  have:=loopP_len _ _ _ _ h
  simpa using this
theorem behind_short (x:T):(Scn.behind x).length<=8:=by
  have hbump:∀ y:T,(Scn.bump y).length<=y.length:=by
    intro y
    induction y with
    | nil=>exact Nat.le_refl _
    | cons a r ih=>
      rw [Scn.bump]
      split
      · simp only [List.length_cons]; omega
      · split
        · simp
        · simp
  unfold Scn.behind
  split
  · simp
  · split
    · simp; omega
    · have:=hbump x; omega
def GoesOk:Prop:=∀ (zi:Value) (I:St) (x:T) (zn:Value) (e:T) (m:Int) (w:World),ItIn w zi I->(1<=m/\m<=16)->
  Calls Tryz.prog 43 #[.agg #[zi,.string ⟨x.toArray⟩,zn],.string ⟨e.toArray⟩,.int .i64 m] w fun r w'=>r=.returned (.bool (Spn.goesP I x e m))/\Below w.heap.size w w'
theorem spverify_of (HGK:GoesOk) (root f e:T) (m:Int) (zi:Value) (I:St) (x:T) (zn:Value) (L:List T) (w:World) (hi:ItIn w zi I) (hv:StrsC w zn L) (hT:Tab w) (hL:∀ y ∈ L,y.length<=1000000) (hl:L.length<=10000) (hf:f.length<=2000000) (he:e.length<=2000000):
    Calls Tryz.prog 19 #[.string ⟨root.toArray⟩,.string ⟨f.toArray⟩,.string ⟨e.toArray⟩,.int .i64 m,.agg #[zi,.string ⟨x.toArray⟩,zn]] w (SVPost (Spn.verifyP root f e m I x L) w):=by
  rw [← Spn.code_is]
  unfold Spn.codeP
  obtain ⟨A,cap,rfl,-,-⟩:=hi.form
  obtain ⟨B,capB,rfl,-⟩:=hv.form
  obtain ⟨w0,hw0⟩:∃ w0,w.alloc (.cells #[.slice A I.length cap,.string ⟨x.toArray⟩,.slice B L.length capB] 31)=w0:=⟨_,rfl⟩
  have hb0:Below w.heap.size w w0:=by rw [← hw0]; exact (Below.refl _ w).alloc (Nat.le_refl _) _
  have ra:w0.heap[w.heap.size]?=some (.cells #[.slice A I.length cap,.string ⟨x.toArray⟩,.slice B L.length capB] 31 (0,0)):=by rw [← hw0]; exact heap_alloc_new w _
  have HP:Hid (∀ w',Below w0.heap.size w0 w'->w'.cell? ⟨w.heap.size,0,none⟩=some (.slice A I.length cap)/\w'.cell? ⟨w.heap.size,1,none⟩=some (.string ⟨x.toArray⟩)/\w'.cell? ⟨w.heap.size,2,none⟩=some (.slice B L.length capB)):=qh (fun w' h=>by
    have r:=(h.block _ (lt_of_heap ra)).trans ra
    exact ⟨by rw [cell_of_row _ _ 0 _ _ _ r]; rfl,by rw [cell_of_row _ _ 1 _ _ _ r]; rfl,by rw [cell_of_row _ _ 2 _ _ _ r]; rfl⟩)
  have HB:=qh hb0
  have HI:=qh (RowsIn.below hi hb0)
  have HV:=qh (hv.below hb0)
  have HT:=qh (hT.below hb0)
  have HLL:=qh (show L.length<=10000/\(∀ y ∈ L,y.length<=1000000)/\f.length<=2000000/\e.length<=2000000 from ⟨hl,hL,hf,he⟩)
  obtain ⟨p0,p1,p2⟩:=HP.out w0 (Below.refl _ _)
  clear hi hv hT hL hl hf he hb0 ra
  by_cases hm1:m < 1
  · rw [if_pos (fun h=>by omega)]
    have q1:decide (m < 1)=true:=decide_eq_true hm1
    clear p0 p1 p2
    go_enter Tryz.func19,Tryz.ntmps19
    go_wp2
    go_ret3
    exact SVPost.no rfl HB.out
  have q1:decide (m < 1)=false:=decide_eq_false hm1
  by_cases hm16:16 < m
  · rw [if_pos (fun h=>by omega)]
    have q2:decide (16 < m)=true:=decide_eq_true hm16
    clear p0 p1 p2
    go_enter Tryz.func19,Tryz.ntmps19
    go_wp2
    go_ret3
    exact SVPost.no rfl HB.out
  have q2:decide (16 < m)=false:=decide_eq_false hm16
  have hm:1<=m/\m<=16:=by omega
  have HM:=qh hm
  rw [if_neg (fun h=>h hm)]
  by_cases hlm:m < (I.length:Int)
  · rw [if_pos hlm]
    have q3:decide (m < (I.length:Int))=true:=decide_eq_true hlm
    go_enter Tryz.func19,Tryz.ntmps19
    go_upto_region 3 with fail
    clear hw0
    go_wp2
    go_ret3
    exact SVPost.no rfl HB.out
  rw [if_neg hlm]
  have q3:decide (m < (I.length:Int))=false:=decide_eq_false hlm
  have HI16:Hid (I.length<=16):=qh (by omega)
  by_cases hx:x=[]
  · rw [if_neg (fun h=>h.1 hx)]
    have q4:(x == [])=true:=beq_iff_eq.2 hx
    have q5:x.isEmpty=true:=by rw [hx]; rfl
    have q6:(x != [])=false:=by rw [hx]; rfl
    have HXS:Hid (x.length<=8):=qh (by rw [hx]; simp)
    have HXL:Hid (x.length<=100000000):=qh (by rw [hx]; simp)
    clear hx
    obtain ⟨o,ho⟩:∃ o,Spn.gathP root f (Spn.upTo x e) L=o:=⟨_,rfl⟩
    rw [ho]
    obtain ⟨R,hR⟩:∃ R:St × T × Nat,(if o=some I then (I,x,0) else ([],[],130))=R:=⟨_,rfl⟩
    rw [hR]
    have HRR:=qh hR.symm
    clear hR
    have HRE:Hid (∀ w',Calls Tryz.prog 37 #[.string ⟨x.toArray⟩,.string ⟨e.toArray⟩] w' fun r w''=>r=.returned (.string ⟨(Spn.upTo x e).toArray⟩)/\w'=w''):=qh (fun w'=>spreach_any x e w')
    have hup:(Spn.upTo x e).length<=2000000:=by
      unfold Spn.upTo
      split
      · exact HLL.out.2.2.2
      · have:=HXS.out; omega
    have HJL:Hid (∀ J,o=some J->J.length<=1000000):=qh (fun J hJ=>by
      have h1:=gathP_len (ho.trans hJ)
      have:=HLL.out.1
      omega)
    have HGA:Hid (∀ w',Below w0.heap.size w0 w'->Calls Tryz.prog 44 #[.string ⟨root.toArray⟩,.string ⟨f.toArray⟩,.string ⟨(Spn.upTo x e).toArray⟩,.slice B L.length capB] w' fun r w''=>∃ (z:Value) (b:Bool),r=.returned (.tuple #[z,.bool b])/\b=o.isSome/\(∀ I,o=some I->OwnI w'' w0.heap.size z I)/\(∃ A n cap,z=.slice A n cap)/\Below w0.heap.size w0 w''):=qh (fun w' h=>by
      have h1:=spgather_any root f (Spn.upTo x e) _ L w' (HV.out.below (bchain (Below.refl _ _) h)) (HT.out.below (bchain (Below.refl _ _) h)) HLL.out.2.1 HLL.out.1 HLL.out.2.2.1 hup
      rw [ho] at h1
      exact h1.mono fun r w'' ⟨z,b,q1,q2,q3,q4,q5⟩=>⟨z,b,q1,q2,fun I hI=>(q3 I hI).low h.size,q4,bchain h q5⟩)
    obtain ⟨U,hU⟩:∃ U,Spn.upTo x e=U:=⟨_,rfl⟩
    rw [hU] at HRE HGA
    have HS:Hid (∀ w',Below w0.heap.size w0 w'->Below w0.heap.size w0 w'/\w'.cell? ⟨w.heap.size,0,none⟩=some (.slice A I.length cap)/\w'.cell? ⟨w.heap.size,1,none⟩=some (.string ⟨x.toArray⟩)/\w'.cell? ⟨w.heap.size,2,none⟩=some (.slice B L.length capB)):=qh (fun w' h=>⟨h,HP.out w' (bchain (Below.refl _ _) h)⟩)
    have BD:Below w0.heap.size w0 w0.drew:=(Below.refl _ _).drew
    clear ho hup hU
    go_enter Tryz.func19,Tryz.ntmps19
    go_upto_region 1 with fail
    clear hw0
    go_upto_region 5 with fail
    go_region_held3 (fun w'=>Below w0.heap.size w0 w'/\w'.cell? ⟨w.heap.size,0,none⟩=some (.slice A I.length cap)/\w'.cell? ⟨w.heap.size,1,none⟩=some (.string ⟨x.toArray⟩)/\w'.cell? ⟨w.heap.size,2,none⟩=some (.slice B L.length capB))
      ((refine HS.out _ ?_; first | (with_reducible assumption) | exact And.left (by with_reducible assumption)))
      (first | (go_at_call 37; refine (HRE.out _).mono ?_; rintro r wa ⟨rfl,rfl⟩) | (go_at_call 44; refine (HGA.out _ ?_).mono ?_; (first | (with_reducible assumption) | exact And.left (by with_reducible assumption)); rintro r wb ⟨z,bb,rfl,hbb,hoi,⟨Az,nz,cz,rfl⟩,hwb⟩; have HBB:=qh hbb; have HOI:=qh hoi; clear hbb hoi))
    all_goals
      have HWB:=qh (bchain (Below.refl _ _) hwb)
      obtain ⟨p0,p1,p2⟩:=HP.out _ HWB.out
      clear hwb
      cases o with
      | none=>
        obtain rfl:bb=false:=HBB.out
        go_wp2
        go_ret3
        exact SVPost.no (by rw [HRR.out,if_neg (by simp)]) (bchain HB.out HWB.out)
      | some J=>
        obtain rfl:bb=true:=HBB.out
        have hoj:=HOI.out J rfl
        have HOJ:=qh hoj
        have HEQ:=qh (fun w' (h:Below wb.heap.size wb w')=>spequal_any J I (.slice Az nz cz) (.slice A I.length cap) w' (RowsAt.inn (RowsAt.below hoj.at_ h)) (RowsIn.below HI.out (bchain HWB.out h)) (HJL.out J rfl))
        clear hoj
        go_wp2_with fail
        refine (HEQ.out _ (Below.refl _ _)).mono ?_
        rintro r wd ⟨rfl,hbd⟩
        have HBD:=qh (bchain HWB.out hbd)
        have HOD:=qh (HOJ.out.below hbd)
        obtain ⟨p0,p1,p2⟩:=HP.out _ HBD.out
        clear hbd
        by_cases hJ:J=I
        · have hd:decide (J=I)=true:=decide_eq_true hJ
          rw [hd]
          have HJI:=qh hJ
          clear hJ hd
          go_wp2_with fail
          refine (clone_any x wd HXL.out).mono ?_
          rintro r we ⟨rfl,hbe⟩
          have HBE:=qh (bchain HB.out (bchain HBD.out hbe))
          have HOE:=qh ((HOD.out.below hbe).low (B':=w.heap.size) (Nat.le_trans HB.out.size (Nat.le_refl _)))
          clear hbe
          go_wp2
          go_ret3
          exact SVPost.yes (I:=I) (by rw [HRR.out,HJI.out,if_pos rfl]) (by rw [← HJI.out]; exact HOE.out) HBE.out
        · have hd:decide (J=I)=false:=decide_eq_false hJ
          have HJN:=qh hJ
          rw [hd]
          clear hJ hd
          go_wp2
          go_ret3
          exact SVPost.no (by rw [HRR.out,if_neg (fun h=>HJN.out (Option.some.inj h))]) (bchain HB.out HBD.out)
  have q4:(x == [])=false:=beq_eq_false_iff_ne.2 hx
  have q5:x.isEmpty=false:=by cases x <;> simp_all
  have q6:(x != [])=true:=by rw [bne_iff_ne]; exact hx
  have HGO:=qh (HGK (.slice A I.length cap) I x (.slice B L.length capB) e m w0 HI.out hm)
  have HXG:Hid (Spn.goesP I x e m=true->x.length<=8):=qh (fun h=>by
    unfold Spn.goesP at h
    simp only [Bool.and_eq_true,decide_eq_true_eq] at h
    rw [h.2.1]
    exact behind_short _)
  have HX0:=qh hx
  obtain ⟨gb,hgb⟩:∃ gb,Spn.goesP I x e m=gb:=⟨_,rfl⟩
  rw [hgb] at HGO HXG ⊢
  clear hx hgb
  cases gb with
  | false=>
    rw [if_pos ⟨HX0.out,rfl⟩]
    go_enter Tryz.func19,Tryz.ntmps19
    go_upto_region 1 with fail
    clear hw0
    go_wp2_with fail
    refine HGO.out.mono ?_
    rintro r w1 ⟨rfl,hb1⟩
    have HB1:=qh hb1
    obtain ⟨p0,p1,p2⟩:=HP.out w1 hb1
    clear hb1
    go_wp2
    go_ret3
    exact SVPost.no rfl (bchain HB.out HB1.out)
  | true=>
    rw [if_neg (fun h=>by cases h.2)]
    obtain ⟨o,ho⟩:∃ o,Spn.gathP root f (Spn.upTo x e) L=o:=⟨_,rfl⟩
    rw [ho]
    obtain ⟨R,hR⟩:∃ R:St × T × Nat,(if o=some I then (I,x,0) else ([],[],130))=R:=⟨_,rfl⟩
    rw [hR]
    have HRR:=qh hR.symm
    clear hR
    have HOO:=qh ho
    clear ho
    go_enter Tryz.func19,Tryz.ntmps19
    go_upto_region 1 with fail
    clear hw0
    go_wp2_with fail
    refine HGO.out.mono ?_
    rintro r w1 ⟨rfl,hb1⟩
    have HB1:=qh hb1
    obtain ⟨p0,p1,p2⟩:=HP.out w1 hb1
    clear hb1
    have ho:=HOO.out
    have HXS:Hid (x.length<=8):=qh (by first | exact HXG.out rfl | exact HXG.out trivial)
    have HXL:Hid (x.length<=100000000):=qh (Nat.le_trans HXS.out (by decide))
    have HRE:Hid (∀ w',Calls Tryz.prog 37 #[.string ⟨x.toArray⟩,.string ⟨e.toArray⟩] w' fun r w''=>r=.returned (.string ⟨(Spn.upTo x e).toArray⟩)/\w'=w''):=qh (fun w'=>spreach_any x e w')
    have hup:(Spn.upTo x e).length<=2000000:=by
      unfold Spn.upTo
      split
      · exact HLL.out.2.2.2
      · have:=HXS.out; omega
    have HJL:Hid (∀ J,o=some J->J.length<=1000000):=qh (fun J hJ=>by
      have h1:=gathP_len (ho.trans hJ)
      have:=HLL.out.1
      omega)
    have HGA:Hid (∀ w',Below w1.heap.size w1 w'->Calls Tryz.prog 44 #[.string ⟨root.toArray⟩,.string ⟨f.toArray⟩,.string ⟨(Spn.upTo x e).toArray⟩,.slice B L.length capB] w' fun r w''=>∃ (z:Value) (b:Bool),r=.returned (.tuple #[z,.bool b])/\b=o.isSome/\(∀ I,o=some I->OwnI w'' w1.heap.size z I)/\(∃ A n cap,z=.slice A n cap)/\Below w1.heap.size w1 w''):=qh (fun w' h=>by
      have h1:=spgather_any root f (Spn.upTo x e) _ L w' (HV.out.below (bchain HB1.out h)) (HT.out.below (bchain HB1.out h)) HLL.out.2.1 HLL.out.1 HLL.out.2.2.1 hup
      rw [ho] at h1
      exact h1.mono fun r w'' ⟨z,b,q1,q2,q3,q4,q5⟩=>⟨z,b,q1,q2,fun I hI=>(q3 I hI).low h.size,q4,bchain h q5⟩)
    obtain ⟨U,hU⟩:∃ U,Spn.upTo x e=U:=⟨_,rfl⟩
    rw [hU] at HRE HGA
    have HS:Hid (∀ w',Below w1.heap.size w1 w'->Below w1.heap.size w1 w'/\w'.cell? ⟨w.heap.size,0,none⟩=some (.slice A I.length cap)/\w'.cell? ⟨w.heap.size,1,none⟩=some (.string ⟨x.toArray⟩)/\w'.cell? ⟨w.heap.size,2,none⟩=some (.slice B L.length capB)):=qh (fun w' h=>⟨h,HP.out w' (bchain HB1.out h)⟩)
    have BD:Below w1.heap.size w1 w1.drew:=(Below.refl _ _).drew
    clear ho hup hU
    go_upto_region 5 with fail
    go_region_held3 (fun w'=>Below w1.heap.size w1 w'/\w'.cell? ⟨w.heap.size,0,none⟩=some (.slice A I.length cap)/\w'.cell? ⟨w.heap.size,1,none⟩=some (.string ⟨x.toArray⟩)/\w'.cell? ⟨w.heap.size,2,none⟩=some (.slice B L.length capB))
      ((refine HS.out _ ?_; first | (with_reducible assumption) | exact And.left (by with_reducible assumption)))
      (first | (go_at_call 37; refine (HRE.out _).mono ?_; rintro r wa ⟨rfl,rfl⟩) | (go_at_call 44; refine (HGA.out _ ?_).mono ?_; (first | (with_reducible assumption) | exact And.left (by with_reducible assumption)); rintro r wb ⟨z,bb,rfl,hbb,hoi,⟨Az,nz,cz,rfl⟩,hwb⟩; have HBB:=qh hbb; have HOI:=qh hoi; clear hbb hoi))
    all_goals
      have HWB:=qh (bchain HB1.out hwb)
      obtain ⟨p0,p1,p2⟩:=HP.out _ HWB.out
      clear hwb
      cases o with
      | none=>
        obtain rfl:bb=false:=HBB.out
        go_wp2
        go_ret3
        exact SVPost.no (by rw [HRR.out,if_neg (by simp)]) (bchain HB.out HWB.out)
      | some J=>
        obtain rfl:bb=true:=HBB.out
        have hoj:=HOI.out J rfl
        have HOJ:=qh hoj
        have HEQ:=qh (fun w' (h:Below wb.heap.size wb w')=>spequal_any J I (.slice Az nz cz) (.slice A I.length cap) w' (RowsAt.inn (RowsAt.below hoj.at_ h)) (RowsIn.below HI.out (bchain HWB.out h)) (HJL.out J rfl))
        clear hoj
        go_wp2_with fail
        refine (HEQ.out _ (Below.refl _ _)).mono ?_
        rintro r wd ⟨rfl,hbd⟩
        have HBD:=qh (bchain HWB.out hbd)
        have HOD:=qh (HOJ.out.below hbd)
        obtain ⟨p0,p1,p2⟩:=HP.out _ HBD.out
        clear hbd
        by_cases hJ:J=I
        · have hd:decide (J=I)=true:=decide_eq_true hJ
          rw [hd]
          have HJI:=qh hJ
          clear hJ hd
          go_wp2_with fail
          refine (clone_any x wd HXL.out).mono ?_
          rintro r we ⟨rfl,hbe⟩
          have HBE:=qh (bchain HB.out (bchain HBD.out hbe))
          have HOE:=qh ((HOD.out.below hbe).low (B':=w.heap.size) (Nat.le_trans HB.out.size HB1.out.size))
          clear hbe
          go_wp2
          go_ret3
          exact SVPost.yes (I:=I) (by rw [HRR.out,HJI.out,if_pos rfl]) (by rw [← HJI.out]; exact HOE.out) HBE.out
        · have hd:decide (J=I)=false:=decide_eq_false hJ
          have HJN:=qh hJ
          rw [hd]
          clear hJ hd
          go_wp2
          go_ret3
          exact SVPost.no (by rw [HRR.out,if_neg (fun h=>HJN.out (Option.some.inj h))]) (bchain HB.out HBD.out)
end
section
open Go.RowKit
def Mine (Bx:Nat) (A:World) (k:Nat):Prop:=k=Bx ∨ ∃ v,A.cell? ⟨Bx,0,none⟩=some v/\v.ownBlock=some k
structure Kpt (Bx:Nat) (A B:World):Prop where
  size:A.heap.size<=B.heap.size
  keep:∀ k,k < A.heap.size->¬ Mine Bx A k->¬ Mine Bx B k/\∀ o,A.heap[k]?=some o->o.isCells=true->B.heap[k]?=some o
theorem Kpt.refl (Bx:Nat) (A:World):Kpt Bx A A:=⟨Nat.le_refl _,fun _ _ h=>⟨h,fun _ h _=>h⟩⟩
theorem Kpt.trans {Bx:Nat} {A B C:World} (h:Kpt Bx A B) (g:Kpt Bx B C):Kpt Bx A C:=
  ⟨Nat.le_trans h.size g.size,fun k hk hm=>by
    obtain ⟨h1,h2⟩:=h.keep k hk hm
    obtain ⟨g1,g2⟩:=g.keep k (Nat.lt_of_lt_of_le hk h.size) h1
    exact ⟨g1,fun o ho hc=>g2 o (h2 o ho hc) hc⟩⟩
theorem Mine.of_below {Bx:Nat} {A B:World} (h:Below A.heap.size A B) (hB:Bx < A.heap.size) (k:Nat):Mine Bx B k ↔ Mine Bx A k:=by
  unfold Mine
  rw [World.cell?_of_block (w:=A) (w':=B) (a:=⟨Bx,0,none⟩) (h.block Bx hB)]
theorem Kpt.of_below {Bx:Nat} {A B:World} (h:Below A.heap.size A B) (hB:Bx < A.heap.size):Kpt Bx A B:=
  ⟨h.size,fun k hk hm=>⟨fun e=>hm ((Mine.of_below h hB k).1 e),fun _ ho _=>(h.block k hk).trans ho⟩⟩
theorem kpt_t {Bx:Nat} {A B C:World} (h:Kpt Bx A B) (g:Kpt Bx B C):Kpt Bx A C:=h.trans g
theorem kpt_b {Bx:Nat} {w:World} (hB:Bx < w.heap.size) (W:World) (l:Nat) (o o':Obj) (hl:w.heap.size<=l) (h:W.heap[l]?=some o) (hc:o.isCells=false) (_:o.isWalk=false):Kpt Bx W (W.putObj l o'):=by
  have hg:=grownBy_putObj' W l o'
  have hlt:=lt_of_heap h
  have hsame:∀ k,k < W.heap.size->k ≠ l->(W.putObj l o').heap[k]?=W.heap[k]?:=fun k hk hn=>hg.block k hk (fun e=>hn (Option.some.inj e))
  refine ⟨hg.size,fun k hk hm=>⟨?_,fun o1 ho hc1=>?_⟩⟩
  · unfold Mine
    rw [World.cell?_of_block (w:=W) (a:=⟨Bx,0,none⟩) (hsame Bx (by omega) (by omega))]
    exact hm
  · by_cases e:k=l
    · subst e; rw [h] at ho; cases ho; rw [hc] at hc1; cases hc1
    · exact (hsame k hk e).trans ho
theorem Kpt.heap {Bx:Nat} {A B:World} (h:Kpt Bx A B) {k:Nat} {c:Array Value} {t:TypeId} {p:Nat × Nat} (hk:A.heap[k]?=some (.cells c t p)) (hm:¬ Mine Bx A k):B.heap[k]?=some (.cells c t p)/\¬ Mine Bx B k:=
  let ⟨h1,h2⟩:=h.keep k (lt_of_heap hk) hm
  ⟨h2 _ hk rfl,h1⟩
theorem grown_of_below {A B:World} (h:Below A.heap.size A B):A.grownBy B none:=⟨h.os,h.tape,h.output,h.size,fun k hk _=>h.block k hk⟩
theorem abides_below {β:Type} {B:Nat} {J:β->World->Prop} (h:AbidesFrom B J) {s:β} {A C:World} (hs:J s A) (hb:Below A.heap.size A C):J s C:=
  h s A C none hs (grown_of_below hb) (fun r e=>by cases e)
end
end Go.Proofs.YtaficmboooaknaaGreatDoor
