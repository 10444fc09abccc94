import Derived.Test.YtaficmboooaknaaGreatDoorPp01
import Derived.Test.YtaficmboooaknaaGreatDoorPp24
import Derived.Test.YtaficmboooaknaaGreatDoorPp15
import Derived.Test.YtaficmboooaknaaGreatDoorPp13
import Derived.Test.YtaficmboooaknaaGreatDoorPp11
import Derived.Test.YtaficmboooaknaaGreatDoorPp07
import Derived.Deep.RegionHeld3
set_option maxRecDepth 100000
set_option maxHeartbeats 16000000
namespace Go.Proofs.YtaficmboooaknaaGreatDoor
section
open Go.RowKit
open Sto (T St)
open Tri (Tr Ok hb)
open Go.Proofs.YtaficmboooaknaaGreatDoor.Nd (N)
def GrownPost (t:Tr) (place:T) (w:World) (e:Ending) (w':World):Prop:=∃ s,e=.returned s/\OwnSp w' w.heap.size s (t.spots Nd.sumS place)/\Below w.heap.size w w'
def GrownIs (t:Tr):Prop:=∀ (place:T) (v:Value) (w:World),Ok t->ItAt w v t.items->t.items.length<=2000->(∀ x ∈ t.items,place.length+x.1.length<=1000)->place.length<=1001->
  Calls Tryz.prog 71 #[v,.string ⟨place.toArray⟩] w (GrownPost t place w)
theorem grown_nil:GrownIs .nil:=by
  intro place v w _ hv _ _ _
  unfold GrownPost
  obtain ⟨A,cap,rfl,-,-⟩:=hv.form
  simp only [Tr.items,List.length_nil]
  clear hv
  go_enter Tryz.func71,Tryz.ntmps71
  go_wp2
  go_ret
  exact ⟨_,rfl,OwnSp.nil _ _,Below.refl _ _⟩
theorem grown_leaf (p x:T):GrownIs (.leaf p x):=by
  intro place v w ho hv _ _ _
  unfold GrownPost
  have hs:Tr.spots Nd.sumS place (.leaf p x)=[(place,⟨1,p,x,List.replicate 16 []⟩)]:=rfl
  rw [hs]
  have hf:=ho.fine id
  have hp:p.length<=16:=ho.small.1
  have HSP:=qh (fun w' (_:Below w.heap.size w w')=>spot_any place ⟨1,p,x,List.replicate 16 []⟩ (.slice none 0 0) [] w' rfl hf (by show p.length<=_; omega) (RowsAt.nil ..) (by simp))
  have hnd:ndval ⟨1,p,x,List.replicate 16 []⟩=.agg #[.int .i64 1,.string ⟨p.toArray⟩,.string ⟨x.toArray⟩,.string ⟨#[]⟩,.string ⟨#[]⟩,.string ⟨#[]⟩,.string ⟨#[]⟩,.string ⟨#[]⟩,.string ⟨#[]⟩,.string ⟨#[]⟩,.string ⟨#[]⟩,.string ⟨#[]⟩,.string ⟨#[]⟩,.string ⟨#[]⟩,.string ⟨#[]⟩,.string ⟨#[]⟩,.string ⟨#[]⟩,.string ⟨#[]⟩,.string ⟨#[]⟩]:=rfl
  rw [hnd] at HSP
  have HV:=qh hv
  obtain ⟨A,cap,e,hc,-⟩:=hv.form
  have hc1:1<=cap:=hc
  replace e:v=.slice A 1 cap:=e
  subst e
  obtain ⟨b,o,rfl,n0,n1⟩:=ItAt.at HV.out 0 (by simp [Tr.items])
  simp only [Tr.items,List.getElem_cons_zero,Nat.zero_mul,Nat.add_zero] at n0 n1
  have HC:Hid (∀ w',Below w.heap.size w w'->w'.cell? ⟨b,o,none⟩=some (.string ⟨p.toArray⟩)/\w'.cell? ⟨b,o+1,none⟩=some (.string ⟨x.toArray⟩)):=qh (fun w' hb=>by
    obtain ⟨b2,o2,e,m0,m1⟩:=ItAt.at (HV.out.below hb) 0 (by simp [Tr.items])
    cases e
    simp only [Tr.items,List.getElem_cons_zero,Nat.zero_mul,Nat.add_zero] at m0 m1
    exact ⟨m0,m1⟩)
  have BD:Below w.heap.size w w.drew:=(Below.refl _ _).drew
  obtain ⟨m0,m1⟩:=HC.out _ BD
  have HS2:=qh (HSP.out _ BD)
  clear hv HV hs hf hp hnd ho n0 n1
  go_enter Tryz.func71,Tryz.ntmps71
  go_upto_region 4 with fail
  go_region_held3 (fun w'=>w'.cell? ⟨b,o,none⟩=some (.string ⟨p.toArray⟩)/\w'.cell? ⟨b,o+1,none⟩=some (.string ⟨x.toArray⟩))
    ((first | (with_reducible exact ⟨m0,m1⟩) | (refine HC.out _ ?_; with_reducible assumption)))
    ((go_at_call 105; refine HS2.out.mono ?_; rintro e w3 ⟨s,rfl,os,hb3⟩; have hb3':=bchain BD hb3))
  all_goals
    go_wp2
    go_ret
    exact ⟨s,rfl,own_lowP os BD.size,hb3'⟩
theorem OwnSp.setOff {w:World} {B q:Nat} {s:Value} {L:List (T × N)} (h:OwnSp w B s L) (hq:q < B) (i:Nat) (u:Value):OwnSp (w.setCell ⟨q,i,none⟩ u) B s L:=by
  refine ⟨h.1,h.2.imp id ?_⟩
  rintro ⟨g,cap,cur,e,hg,hh,r⟩
  exact ⟨g,cap,cur,e,hg,(heap_setCell_other w ⟨q,i,none⟩ g u (by show g ≠ q; omega)).trans hh,r⟩
theorem ItAt.own {w:World} {B:Nat} {v:Value} {S:St} (h:w.ownsRow B 60 2 v S.length (rowsL itcl S)):ItAt w v S:=RowsAt.own itcl_length h
theorem cut_grown (x p:List UInt8) (c:Nat) (h:x.take c=p):(⟨x.toArray⟩:ByteArray).extract 0 c=⟨p.toArray⟩:=by
  rw [Lib.extract_eq,List.drop_zero,Nat.sub_zero,h]
theorem grown_ext (p:T) (t:Tr) (ih:GrownIs t):GrownIs (.ext p t):=by
  intro place v w ho hv hl hpl hp0
  unfold GrownPost
  obtain ⟨S,hS⟩:∃ S,(Tr.ext p t).items=S:=⟨_,rfl⟩
  have hpos:0 < S.length:=by
    rw [← hS]
    exact List.length_pos_iff.2 (fun e=>(Tri.items_nil ho.canon).1 e)
  obtain ⟨c1,c2,c3,c4,c5⟩:=Tri.ext_common ho.canon S hS hpos
  rw [hS] at hv hl hpl
  have hok:Ok t:=⟨ho.canon.2.2,ho.fits.2,ho.small.2⟩
  have hp16:p.length<=16:=ho.small.1
  have hpn:0 < p.length:=List.length_pos_iff.2 ho.canon.1
  have hnn:¬ t.isNil:=by have:=ho.canon.2.1; cases t <;> simp_all [Tr.isBr,Tr.isNil]
  have hti:∀ x ∈ t.items,(p ++ x.1,x.2) ∈ S:=fun x hx=>by rw [← hS]; exact Tri.mem_behind.2 ⟨x.1,hx,rfl⟩
  have htl:t.items.length<=2000:=by
    rw [← c3]; simp [Tri.cutL]; exact hl
  have hpp:place.length+p.length<=1000:=by
    have h0:=hpl S[0] (List.getElem_mem hpos)
    have h1:=c5 S[0] (List.getElem_mem hpos)
    omega
  have HLS:Hid (∀ w',Below w.heap.size w w'->Calls Tryz.prog 107 #[v,.int .i64 p.length] w' fun e w''=>∃ v',e=.returned v'/\ItAt w'' v' t.items/\Below w.heap.size w w''):=qh (fun w' hb=>
    (rtLess_any S v p.length w' (RowsAt.below hv hb) (by omega) c5 (by omega) (fun x hx=>by have:=hpl x hx; omega)).mono fun e w'' ⟨v',q1,q2,q3⟩=>⟨v',q1,by rw [← c3]; exact ItAt.own (by rw [show (Tri.cutL p.length S).length=S.length by simp [Tri.cutL]]; exact q2),bchain hb q3⟩)
  have HGR:Hid (∀ v' w',Below w.heap.size w w'->ItAt w' v' t.items->Calls Tryz.prog 71 #[v',.string ⟨(place ++ p).toArray⟩] w' fun e w''=>∃ s,e=.returned s/\OwnSp w'' w.heap.size s (t.spots Nd.sumS (place ++ p))/\Below w.heap.size w w''):=qh (fun v' w' hb hi=>
    (ih (place ++ p) v' w' hok hi htl (fun x hx=>by have:=hpl _ (hti x hx); simp at this ⊢; omega) (by simp; omega)).mono fun e w'' ⟨s,q1,q2,q3⟩=>⟨s,q1,own_lowP q2 hb.size,bchain hb q3⟩)
  obtain ⟨r,hr⟩:=Tri.spots_head Nd.sumS (place ++ p) hnn
  have hsp:Tr.spots Nd.sumS place (.ext p t)=(place,Tr.node Nd.sumS (.ext p t)) :: ((place ++ p,t.node Nd.sumS) :: r):=by rw [Tr.spots,hr]
  rw [hsp]
  rw [hr] at HGR
  have hdt:Nd.sumS (t.node Nd.sumS)=t.sum Nd.sumS:=(Tri.sum_node _ hnn).symm
  have hen:Tr.node Nd.sumS (.ext p t)=⟨2,p,[],Nd.none16.set 0 (t.sum Nd.sumS)⟩:=rfl
  have hfine:=ho.fine (t:=.ext p t) id
  have hrl:((place ++ p,t.node Nd.sumS) :: r).length<=100000:=by
    have:=Tri.spots_few Nd.sumS hok.canon (place ++ p)
    rw [hr] at this
    omega
  rw [hen] at hfine ⊢
  have h16t:=Tri.node_kids Nd.sumS t
  obtain ⟨x,hx⟩:∃ x,t.sum Nd.sumS=x:=⟨_,rfl⟩
  rw [hx] at hdt hfine ⊢
  obtain ⟨nt,hnt⟩:∃ nt,t.node Nd.sumS=nt:=⟨_,rfl⟩
  rw [hnt] at HGR hdt h16t hrl ⊢
  obtain ⟨m,hm⟩:∃ m:N,(⟨2,p,[],Nd.none16.set 0 x⟩:N)=m:=⟨_,rfl⟩
  have hm16:m.kids.length=16:=by rw [← hm]; rfl
  have hmp:m.path.length<=1000000:=by rw [← hm]; show p.length<=_; omega
  rw [hm] at hfine ⊢
  have HSP:=qh (fun (bv:Value) w' (hb:SpAt Nd.sumS w' bv ((place ++ p,nt) :: r))=>spot_any place m bv ((place ++ p,nt) :: r) w' hm16 hfine hmp hb hrl)
  have HM:=qh hm
  have HN16:=qh h16t
  have HDT:=qh hdt
  have HM16:=qh hm16
  have HV:=qh hv
  obtain ⟨A,cap,rfl,-,-⟩:=hv.form
  obtain ⟨j,hj⟩:∃ j,S.length - 1=j:=⟨_,rfl⟩
  have hjl:j < S.length:=by omega
  have HCO:Hid (∀ w',Calls Tryz.prog 106 #[.string ⟨S[0].1.toArray⟩,.string ⟨S[j].1.toArray⟩] w' fun e w''=>e=.returned (.int .i64 p.length)/\Below w'.heap.size w' w''):=qh (fun w'=>by
    have h2:=rcommon_any S[0].1 S[j].1 w' (by have:=hpl S[0] (List.getElem_mem hpos); omega) (by have:=hpl S[j] (List.getElem_mem hjl); omega)
    have e:Nib.commonL S[0].1 S[j].1=p.length:=by subst hj; exact c1
    rw [e] at h2
    exact h2)
  obtain ⟨b,o,rfl,n0,-⟩:=ItAt.at HV.out 0 hpos
  simp only [Nat.zero_mul,Nat.add_zero] at n0
  have HC:Hid (∀ w',Below w.heap.size w w'->w'.cell? ⟨b,o,none⟩=some (.string ⟨S[0].1.toArray⟩)/\w'.cell? ⟨b,o+j * 2,none⟩=some (.string ⟨S[j].1.toArray⟩)):=qh (fun w' hb=>by
    obtain ⟨b2,o2,e2,m0,-⟩:=ItAt.at (HV.out.below hb) 0 hpos
    obtain ⟨b3,o3,e3,m1,-⟩:=ItAt.at (HV.out.below hb) j hjl
    cases e2; cases e3
    simp only [Nat.zero_mul,Nat.add_zero] at m0
    exact ⟨m0,m1⟩)
  have hx0:p.length<=S[0].1.length:=c5 _ (List.getElem_mem hpos)
  have hcut:=cut_grown S[0].1 p p.length c2
  obtain ⟨k0,hk0⟩:∃ k,S[0].1=k:=⟨_,rfl⟩
  obtain ⟨kj,hkj⟩:∃ k,S[j].1=k:=⟨_,rfl⟩
  rw [hk0] at HC HCO hx0 hcut
  rw [hkj] at HC HCO
  obtain ⟨n,hn⟩:∃ n,S.length=n:=⟨_,rfl⟩
  rw [hn] at HLS c4 hl hj hjl ⊢
  obtain ⟨z,hz⟩:∃ z,p.length=z:=⟨_,rfl⟩
  rw [hz] at HLS HCO hx0 hcut hpn hpp hp16
  have hcm:=cat_mk place p
  have hadd:∀ w,(Op.stringOp .add (⟨place.toArray⟩:ByteArray) ⟨p.toArray⟩).run Tryz.prog w=.ok (.string ⟨(place ++ p).toArray⟩) w:=fun w=>run_string_add_lists w place p (by omega) (by omega)
  have hsum:¬ (9223372036854775807 < place.length+z):=by omega
  have g0:((n:Int) == 0)=false:=by rw [beq_eq_false_iff_ne]; omega
  have g1:((n:Int) == 1)=false:=by rw [beq_eq_false_iff_ne]; omega
  have gj:(n:Int) - 1=(j:Int):=by omega
  have gj0:(0:Int)<=(j:Int):=by omega
  have gjn:(j:Int) < (n:Int):=by omega
  have gn0:(0:Int) < (n:Int):=by omega
  have gnN:0 < n:=by omega
  have gw:IntKind.i64.wrap ((n:Int) - 1)=(j:Int):=(IntWalk.i64_in ((n:Int) - 1) (by omega)).trans (by omega)
  have gw2:IntKind.i64.wrap (j:Int)=(j:Int):=IntWalk.i64_in _ (by omega)
  have gnb:(n:Int)<=100000:=by omega
  have gjN:j < n:=by omega
  have gz:(z:Int) > 0:=by omega
  have gz0:(0:Int)<=(z:Int):=by omega
  have gzk:(z:Int)<=(k0.length:Int):=by omega
  have gpl:place.length<=1001:=hp0
  have gpz:p.length<=16:=by omega
  have BD:Below w.heap.size w w.drew:=(Below.refl _ _).drew
  obtain ⟨m0,m1⟩:=HC.out _ BD
  have HCO2:=qh (HCO.out w.drew)
  clear hv ih hpl hti htl c1 c2 c3 c5 hr hsp hdt hen hfine h16t hx hnt hm hm16 hmp n0 hk0 hkj hn hS ho hok hpos HV HCO hnn
  go_enter Tryz.func71,Tryz.ntmps71
  go_upto_region 5 with fail
  go_region_held3 (fun w'=>w'.cell? ⟨b,o,none⟩=some (.string ⟨k0.toArray⟩)/\w'.cell? ⟨b,o+j * 2,none⟩=some (.string ⟨kj.toArray⟩))
    ((first | (with_reducible exact ⟨m0,m1⟩) | (refine HC.out _ ?_; with_reducible assumption)))
    ((go_at_call 106; refine HCO2.out.mono ?_; rintro e w3 ⟨rfl,hb3⟩; have hb3':=bchain BD hb3))
  all_goals
    have HB3:=qh hb3'
    have BD3:Below w.heap.size w w3.drew:=hb3'.drew
    clear hb3 hb3' m0 m1
    obtain ⟨m0,m1⟩:=HC.out _ BD3
    go_upto_region 7 with fail
    go_region_held3 (fun w'=>w'.cell? ⟨b,o,none⟩=some (.string ⟨k0.toArray⟩))
      ((first | (with_reducible exact m0) | (refine (HC.out _ ?_).1; with_reducible assumption)))
      (first | (go_at_call 107; refine (HLS.out _ ?_).mono ?_; (with_reducible exact BD3); rintro e wl ⟨v1,rfl,it1,hl1⟩) | (go_at_call 71; refine (HGR.out _ _ ?_ ?_).mono ?_; (with_reducible exact hl1); (with_reducible exact it1); rintro e wg ⟨s1,rfl,os1,hg1⟩))
    all_goals
      have HBG:=qh hg1
      have HOS:=qh os1
      obtain ⟨m0',-⟩:=HC.out _ hg1
      obtain ⟨g7,cap7,rfl,-,hg7l⟩:=World.ownsRow.form os1 (by simp)
      have HBL:Hid (Tryz.prog.built 110 [(0,.int .i64 2),(1,.string ⟨p.toArray⟩)]=some (ncl ⟨2,p,[],Nd.none16⟩).toArray):=qh (by rfl)
      have HOC:=qh (ncl_one ⟨2,p,[],Nd.none16⟩)
      have HS19:Hid ((ncl ⟨2,p,[],Nd.none16⟩).toArray.size=19):=qh rfl
      have HI19:Hid ((Tryz.prog.info? 110).map (·.size)=some 19):=qh (by kernel_rfl)
      have HNA:Hid (NodeAt (wg.alloc (.cells (ncl ⟨2,p,[],Nd.none16⟩).toArray 110)) wg.heap.size ⟨2,p,[],Nd.none16⟩):=qh (heap_new_at wg _ _ rfl)
      obtain ⟨C,hC⟩:∃ C,(ncl ⟨2,p,[],Nd.none16⟩).toArray=C:=⟨_,rfl⟩
      rw [hC] at HBL HOC HS19 HNA
      have HI2:Hid ((Tryz.prog.info? 110).map (·.size)=some C.size):=qh (by rw [HS19.out]; exact HI19.out)
      have c4:(wg.alloc (.cells C 110)).cell? ⟨wg.heap.size,3,none⟩=some (.string ⟨#[]⟩):=HNA.out.kid 0 (by show 0 < Nd.none16.length; decide)
      have f4:=HNA.out.free 3
      have hset:C.setIfInBounds 3 (.string ⟨x.toArray⟩)=(ncl m).toArray:=by
        rw [← hC,← HM.out]; rfl
      have HAO:=qh (ncl_one m)
      have HAS:Hid ((ncl m).toArray.size=19):=qh (by rw [List.size_toArray,ncl_length m HM16.out])
      have HW:∀ D:Array Value,Hid (Below w.heap.size w (wg.alloc (.cells D 110))/\OwnSp (wg.alloc (.cells D 110)) w.heap.size (.slice (some ⟨g7,0,none⟩) ((place ++ p,nt) :: r).length cap7) ((place ++ p,nt) :: r)/\(wg.alloc (.cells D 110)).heap[wg.heap.size]?=some (.cells D 110 (0,0))):=fun D=>qh ⟨hg1.alloc hg1.size _,os1.below ((Below.refl _ wg).alloc (Nat.le_refl _) _),heap_new_at wg _ _ rfl⟩
      have n7:(wg.alloc (.cells C 110)).cell? ⟨g7,2,none⟩=some (.string ⟨x.toArray⟩):=by
        have hA:Below wg.heap.size wg (wg.alloc (.cells C 110)):=(Below.refl _ wg).alloc (Nat.le_refl _) _
        obtain ⟨b2,o2,e2,-,-,k2⟩:=SpAt.at (OwnSp.at_ (os1.below hA)) 0 (by simp) HN16.out
        cases e2
        simp only [List.getElem_cons_zero,Nat.zero_mul,Nat.zero_add] at k2
        rw [k2,HDT.out]
      have HLN:Hid (0 < ((place ++ p,nt) :: r).length):=qh (by simp)
      obtain ⟨N7,hN7⟩:∃ N7,((place ++ p,nt) :: r).length=N7:=⟨_,rfl⟩
      rw [hN7] at HLN HW
      have q7:=HLN.out
      have q7i:(0:Int) < (N7:Int):=by omega
      rw [hN7]
      clear m0 m1 it1 hl1 os1 hg1 hC hN7 hrl HNA
      unfold ndval at HSP
      obtain ⟨D,hD⟩:∃ D,(ncl m).toArray=D:=⟨_,rfl⟩
      rw [hD] at HAO HAS HSP hset
      have HID:Hid ((Tryz.prog.info? 110).map (·.size)=some D.size):=qh (by rw [HAS.out]; exact HI19.out)
      have HSQ:=qh (HSP.out _ _ (OwnSp.at_ (HW D).out.2.1))
      have HRQ:=qh (HW D).out.2.2
      have HB5:=qh (HW D).out.1
      clear hD HW
      go_wp2_with (first | (refine wpList_build_some (by rfl) _ _ (by rfl) [(0,.int .i64 2),(1,.string ⟨p.toArray⟩)] (by first | rfl | (simp [Act.eval]; done) | kernel_rfl) C HBL.out ?_) | (refine wpList_store_fresh (by rfl) _ _ _ (by rfl) wg.heap.size rfl C (by rfl) (by rfl) _ _ HI2.out HS19.out.symm HOC.out ?_) | (refine wpList_load_row (by rfl) _ _ (by rfl) wg.heap.size (by rfl) _ D _ _ HRQ.out Tryz.underlying110 (by rfl) HID.out ?_))
      refine HSQ.out.mono ?_
      rintro e w6 ⟨s6,rfl,o6,hb6⟩
      have HO6:Hid (OwnSp w6 w.heap.size s6 ((place,m) :: (place ++ p,nt) :: r)):=qh (own_lowP o6 HB5.out.size)
      have HB6:Hid (Below w.heap.size w w6):=qh (bchain HB5.out hb6)
      clear o6 hb6
      go_wp2
      go_ret
      exact ⟨s6,rfl,HO6.out,HB6.out⟩
end
end Go.Proofs.YtaficmboooaknaaGreatDoor
