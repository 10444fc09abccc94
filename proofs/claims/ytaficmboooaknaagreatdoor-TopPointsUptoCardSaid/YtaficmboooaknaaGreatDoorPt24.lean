import Derived.Test.YtaficmboooaknaaGreatDoorPt23
import Derived.RangeFuncNested
import Derived.RangeFuncBound
import Derived.RangeFuncCalls
import Derived.Shelf.Abstract
import Derived.Shelf.RegionOpen
import Derived.OwnWalkIn
import Derived.TacticsInMore
import Derived.LoopNIn
import Derived.LoopIn
import Derived.RangeFuncLeaves
set_option maxRecDepth 100000
set_option maxHeartbeats 16000000
namespace Go.Proofs.YtaficmboooaknaaGreatDoor
section
open Go.RowKit
open Sto (T St)
def SVPost (R:St × T × Nat) (w:World) (e:Ending) (w':World):Prop:=
  ∃ (A:Option Addr) (n cap:Nat),e=.returned (.tuple #[.slice A n cap,.string ⟨R.2.1.toArray⟩,.int .i64 R.2.2])/\OwnI w' w.heap.size (.slice A n cap) R.1/\Below w.heap.size w w'
theorem SVPost.no {R:St × T × Nat} {c:Nat} {w w':World} (h:R=([],[],c)) (hb:Below w.heap.size w w'):SVPost R w (.returned (.tuple #[.slice none 0 0,.string ⟨#[]⟩,.int .i64 c])) w':=by
  subst h
  exact ⟨none,0,0,rfl,OwnI.nil _ _,hb⟩
theorem SVPost.yes {R:St × T × Nat} {I:St} {x:T} {A:Option Addr} {n cap:Nat} {w w':World} (h:R=(I,x,0)) (ho:OwnI w' w.heap.size (.slice A n cap) I) (hb:Below w.heap.size w w'):SVPost R w (.returned (.tuple #[.slice A n cap,.string ⟨x.toArray⟩,.int .i64 0])) w':=by
  subst h
  exact ⟨A,n,cap,rfl,ho,hb⟩
theorem loopP_len:∀ (L:List T) (ss:List Spn.Sp) (I J:St),Spn.loopP L ss I=some J->J.length<=I.length+L.length:=by
  intro L
  induction L with
  | nil=>
    intro ss I J h
    cases ss with
    | nil=>rw [Spn.loopP.eq_def] at h; simp at h; rw [h]; exact Nat.le_refl _
    | cons s ss=>cases h
  | cons x r ih=>
    intro ss I J h
    cases ss with
    | nil=>rw [Spn.loopP.eq_def] at h; simp at h
    | cons s ss=>
      rw [Spn.loopP] at h
      split at h
      · split at h
        · cases h
        · rename_i K hK
          have h1:=ih _ _ _ h
          have h2:K.length<=I.length+1:=by
            unfold Spn.ownP at hK
            split at hK
            · rw [← Option.some.inj hK]; omega
            · split at hK
              · cases hK
              · rw [← Option.some.inj hK]
                split <;> simp
          rw [List.length_cons]
          omega
      · cases h
theorem gathP_len {root f e:T} {L:List T} {J:St} (h:Spn.gathP root f e L=some J):J.length<=L.length:=by
  have:=loopP_len _ _ _ _ h
  simpa using this
theorem behind_short (x:T):(Scn.behind x).length<=8:=by
  have hbump:∀ y:T,(Scn.bump y).length<=y.length:=by
    intro y
    induction y with
    | nil=>exact Nat.le_refl _
    | cons a r ih=>
      rw [Scn.bump]
      split
      · simp only [List.length_cons]; omega
      · split
        · simp
        · simp
  unfold Scn.behind
  split
  · simp
  · split
    · simp; omega
    · have:=hbump x; omega
def GoesOk:Prop:=∀ (zi:Value) (I:St) (x:T) (zn:Value) (e:T) (m:Int) (w:World),ItIn w zi I->(1<=m/\m<=16)->
  Calls Tryz.prog 43 #[.agg #[zi,.string ⟨x.toArray⟩,zn],.string ⟨e.toArray⟩,.int .i64 m] w fun r w'=>r=.returned (.bool (Spn.goesP I x e m))/\Below w.heap.size w w'
theorem spverify_of (HGK:GoesOk) (root f e:T) (m:Int) (zi:Value) (I:St) (x:T) (zn:Value) (L:List T) (w:World) (hi:ItIn w zi I) (hv:StrsC w zn L) (hT:Tab w) (hL:∀ y∈L,y.length<=1000000) (hl:L.length<=10000) (hf:f.length<=2000000) (he:e.length<=2000000):
    Calls Tryz.prog 19 #[.string ⟨root.toArray⟩,.string ⟨f.toArray⟩,.string ⟨e.toArray⟩,.int .i64 m,.agg #[zi,.string ⟨x.toArray⟩,zn]] w (SVPost (Spn.verifyP root f e m I x L) w):=by
  rw [← Spn.code_is]
  unfold Spn.codeP
  obtain ⟨A,cap,rfl,-,-⟩:=hi.form
  obtain ⟨B,capB,rfl,-⟩:=hv.form
  obtain ⟨w0,hw0⟩:∃ w0,w.alloc (.cells #[.slice A I.length cap,.string ⟨x.toArray⟩,.slice B L.length capB] 31)=w0:=⟨_,rfl⟩
  have hb0:Below w.heap.size w w0:=by rw [← hw0]; exact (Below.refl _ w).alloc (Nat.le_refl _) _
  have ra:w0.heap[w.heap.size]?=some (.cells #[.slice A I.length cap,.string ⟨x.toArray⟩,.slice B L.length capB] 31 (0,0)):=by rw [← hw0]; exact heap_alloc_new w _
  have HP:Hid (∀ w',Below w0.heap.size w0 w'->w'.cell? ⟨w.heap.size,0,none⟩=some (.slice A I.length cap)/\w'.cell? ⟨w.heap.size,1,none⟩=some (.string ⟨x.toArray⟩)/\w'.cell? ⟨w.heap.size,2,none⟩=some (.slice B L.length capB)):=qh (fun w' h=>by
    have r:=(h.block _ (lt_of_heap ra)).trans ra
    exact ⟨by rw [cell_of_row _ _ 0 _ _ _ r]; rfl,by rw [cell_of_row _ _ 1 _ _ _ r]; rfl,by rw [cell_of_row _ _ 2 _ _ _ r]; rfl⟩)
  have HB:=qh hb0
  have HI:=qh (RowsIn.below hi hb0)
  have HV:=qh (hv.below hb0)
  have HT:=qh (hT.below hb0)
  have HLL:=qh (show L.length<=10000/\(∀ y∈L,y.length<=1000000)/\f.length<=2000000/\e.length<=2000000 from ⟨hl,hL,hf,he⟩)
  obtain ⟨p0,p1,p2⟩:=HP.out w0 (Below.refl _ _)
  clear hi hv hT hL hl hf he hb0 ra
  by_cases hm1:m<1
  · rw [if_pos (fun h=>by omega)]
    have q1:decide (m<1)=true:=decide_eq_true hm1
    clear p0 p1 p2
    go_enter Tryz.func19,Tryz.ntmps19
    go_wp2
    go_ret3
    exact SVPost.no rfl HB.out
  have q1:decide (m<1)=false:=decide_eq_false hm1
  by_cases hm16:16<m
  · rw [if_pos (fun h=>by omega)]
    have q2:decide (16<m)=true:=decide_eq_true hm16
    clear p0 p1 p2
    go_enter Tryz.func19,Tryz.ntmps19
    go_wp2
    go_ret3
    exact SVPost.no rfl HB.out
  have q2:decide (16<m)=false:=decide_eq_false hm16
  have hm:1<=m/\m<=16:=by omega
  have HM:=qh hm
  rw [if_neg (fun h=>h hm)]
  by_cases hlm:m<(I.length:Int)
  · rw [if_pos hlm]
    have q3:decide (m<(I.length:Int))=true:=decide_eq_true hlm
    go_enter Tryz.func19,Tryz.ntmps19
    go_upto_region 3 with fail
    clear hw0
    go_wp2
    go_ret3
    exact SVPost.no rfl HB.out
  rw [if_neg hlm]
  have q3:decide (m<(I.length:Int))=false:=decide_eq_false hlm
  have HI16:Hid (I.length<=16):=qh (by omega)
  by_cases hx:x=[]
  · rw [if_neg (fun h=>h.1 hx)]
    have q4:(x == [])=true:=beq_iff_eq.2 hx
    have q5:x.isEmpty=true:=by rw [hx]; rfl
    have q6:(x != [])=false:=by rw [hx]; rfl
    have HXS:Hid (x.length<=8):=qh (by rw [hx]; simp)
    have HXL:Hid (x.length<=100000000):=qh (by rw [hx]; simp)
    clear hx
    obtain ⟨o,ho⟩:∃ o,Spn.gathP root f (Spn.upTo x e) L=o:=⟨_,rfl⟩
    rw [ho]
    obtain ⟨R,hR⟩:∃ R:St × T × Nat,(if o=some I then (I,x,0) else ([],[],130))=R:=⟨_,rfl⟩
    rw [hR]
    have HRR:=qh hR.symm
    clear hR
    have HRE:Hid (∀ w',Calls Tryz.prog 37 #[.string ⟨x.toArray⟩,.string ⟨e.toArray⟩] w' fun r w''=>r=.returned (.string ⟨(Spn.upTo x e).toArray⟩)/\w'=w''):=qh (fun w'=>spreach_any x e w')
    have hup:(Spn.upTo x e).length<=2000000:=by
      unfold Spn.upTo
      split
      · exact HLL.out.2.2.2
      · have:=HXS.out; omega
    have HJL:Hid (∀ J,o=some J->J.length<=1000000):=qh (fun J hJ=>by
      have h1:=gathP_len (ho.trans hJ)
      have:=HLL.out.1
      omega)
    have HGA:Hid (∀ w',Below w0.heap.size w0 w'->Calls Tryz.prog 44 #[.string ⟨root.toArray⟩,.string ⟨f.toArray⟩,.string ⟨(Spn.upTo x e).toArray⟩,.slice B L.length capB] w' fun r w''=>∃ (z:Value) (b:Bool),r=.returned (.tuple #[z,.bool b])/\b=o.isSome/\(∀ I,o=some I->OwnI w'' w0.heap.size z I)/\(∃ A n cap,z=.slice A n cap)/\Below w0.heap.size w0 w''):=qh (fun w' h=>by
      have h1:=spgather_any root f (Spn.upTo x e) _ L w' (HV.out.below (bchain (Below.refl _ _) h)) (HT.out.below (bchain (Below.refl _ _) h)) HLL.out.2.1 HLL.out.1 HLL.out.2.2.1 hup
      rw [ho] at h1
      exact h1.mono fun r w'' ⟨z,b,q1,q2,q3,q4,q5⟩=>⟨z,b,q1,q2,fun I hI=>(q3 I hI).low h.size,q4,bchain h q5⟩)
    obtain ⟨U,hU⟩:∃ U,Spn.upTo x e=U:=⟨_,rfl⟩
    rw [hU] at HRE HGA
    have HS:Hid (∀ w',Below w0.heap.size w0 w'->Below w0.heap.size w0 w'/\w'.cell? ⟨w.heap.size,0,none⟩=some (.slice A I.length cap)/\w'.cell? ⟨w.heap.size,1,none⟩=some (.string ⟨x.toArray⟩)/\w'.cell? ⟨w.heap.size,2,none⟩=some (.slice B L.length capB)):=qh (fun w' h=>⟨h,HP.out w' (bchain (Below.refl _ _) h)⟩)
    have BD:Below w0.heap.size w0 w0.drew:=(Below.refl _ _).drew
    clear ho hup hU
    go_enter Tryz.func19,Tryz.ntmps19
    go_upto_region 1 with fail
    clear hw0
    go_upto_region 5 with fail
    go_region_held3 (fun w'=>Below w0.heap.size w0 w'/\w'.cell? ⟨w.heap.size,0,none⟩=some (.slice A I.length cap)/\w'.cell? ⟨w.heap.size,1,none⟩=some (.string ⟨x.toArray⟩)/\w'.cell? ⟨w.heap.size,2,none⟩=some (.slice B L.length capB))
      ((refine HS.out _ ?_; first | (with_reducible assumption) | exact And.left (by with_reducible assumption)))
      (first | (go_at_call 37; refine (HRE.out _).mono ?_; rintro r wa ⟨rfl,rfl⟩) | (go_at_call 44; refine (HGA.out _ ?_).mono ?_; (first | (with_reducible assumption) | exact And.left (by with_reducible assumption)); rintro r wb ⟨z,bb,rfl,hbb,hoi,⟨Az,nz,cz,rfl⟩,hwb⟩; have HBB:=qh hbb; have HOI:=qh hoi; clear hbb hoi))
    all_goals
      have HWB:=qh (bchain (Below.refl _ _) hwb)
      obtain ⟨p0,p1,p2⟩:=HP.out _ HWB.out
      clear hwb
      cases o with
      | none=>
        obtain rfl:bb=false:=HBB.out
        go_wp2
        go_ret3
        exact SVPost.no (by rw [HRR.out,if_neg (by simp)]) (bchain HB.out HWB.out)
      | some J=>
        obtain rfl:bb=true:=HBB.out
        have hoj:=HOI.out J rfl
        have HOJ:=qh hoj
        have HEQ:=qh (fun w' (h:Below wb.heap.size wb w')=>spequal_any J I (.slice Az nz cz) (.slice A I.length cap) w' (RowsAt.inn (RowsAt.below hoj.at_ h)) (RowsIn.below HI.out (bchain HWB.out h)) (HJL.out J rfl))
        clear hoj
        go_wp2_with fail
        refine (HEQ.out _ (Below.refl _ _)).mono ?_
        rintro r wd ⟨rfl,hbd⟩
        have HBD:=qh (bchain HWB.out hbd)
        have HOD:=qh (HOJ.out.below hbd)
        obtain ⟨p0,p1,p2⟩:=HP.out _ HBD.out
        clear hbd
        by_cases hJ:J=I
        · have hd:decide (J=I)=true:=decide_eq_true hJ
          rw [hd]
          have HJI:=qh hJ
          clear hJ hd
          go_wp2_with fail
          refine (clone_any x wd HXL.out).mono ?_
          rintro r we ⟨rfl,hbe⟩
          have HBE:=qh (bchain HB.out (bchain HBD.out hbe))
          have HOE:=qh ((HOD.out.below hbe).low (B':=w.heap.size) (Nat.le_trans HB.out.size (Nat.le_refl _)))
          clear hbe
          go_wp2
          go_ret3
          exact SVPost.yes (I:=I) (by rw [HRR.out,HJI.out,if_pos rfl]) (by rw [← HJI.out]; exact HOE.out) HBE.out
        · have hd:decide (J=I)=false:=decide_eq_false hJ
          have HJN:=qh hJ
          rw [hd]
          clear hJ hd
          go_wp2
          go_ret3
          exact SVPost.no (by rw [HRR.out,if_neg (fun h=>HJN.out (Option.some.inj h))]) (bchain HB.out HBD.out)
  have q4:(x == [])=false:=beq_eq_false_iff_ne.2 hx
  have q5:x.isEmpty=false:=by cases x <;> simp_all
  have q6:(x != [])=true:=by rw [bne_iff_ne]; exact hx
  have HGO:=qh (HGK (.slice A I.length cap) I x (.slice B L.length capB) e m w0 HI.out hm)
  have HXG:Hid (Spn.goesP I x e m=true->x.length<=8):=qh (fun h=>by
    unfold Spn.goesP at h
    simp only [Bool.and_eq_true,decide_eq_true_eq] at h
    rw [h.2.1]
    exact behind_short _)
  have HX0:=qh hx
  obtain ⟨gb,hgb⟩:∃ gb,Spn.goesP I x e m=gb:=⟨_,rfl⟩
  rw [hgb] at HGO HXG ⊢
  clear hx hgb
  cases gb with
  | false=>
    rw [if_pos ⟨HX0.out,rfl⟩]
    go_enter Tryz.func19,Tryz.ntmps19
    go_upto_region 1 with fail
    clear hw0
    go_wp2_with fail
    refine HGO.out.mono ?_
    rintro r w1 ⟨rfl,hb1⟩
    have HB1:=qh hb1
    obtain ⟨p0,p1,p2⟩:=HP.out w1 hb1
    clear hb1
    go_wp2
    go_ret3
    exact SVPost.no rfl (bchain HB.out HB1.out)
  | true=>
    rw [if_neg (fun h=>by cases h.2)]
    obtain ⟨o,ho⟩:∃ o,Spn.gathP root f (Spn.upTo x e) L=o:=⟨_,rfl⟩
    rw [ho]
    obtain ⟨R,hR⟩:∃ R:St × T × Nat,(if o=some I then (I,x,0) else ([],[],130))=R:=⟨_,rfl⟩
    rw [hR]
    have HRR:=qh hR.symm
    clear hR
    have HOO:=qh ho
    clear ho
    go_enter Tryz.func19,Tryz.ntmps19
    go_upto_region 1 with fail
    clear hw0
    go_wp2_with fail
    refine HGO.out.mono ?_
    rintro r w1 ⟨rfl,hb1⟩
    have HB1:=qh hb1
    obtain ⟨p0,p1,p2⟩:=HP.out w1 hb1
    clear hb1
    have ho:=HOO.out
    have HXS:Hid (x.length<=8):=qh (by first | exact HXG.out rfl | exact HXG.out trivial)
    have HXL:Hid (x.length<=100000000):=qh (Nat.le_trans HXS.out (by decide))
    have HRE:Hid (∀ w',Calls Tryz.prog 37 #[.string ⟨x.toArray⟩,.string ⟨e.toArray⟩] w' fun r w''=>r=.returned (.string ⟨(Spn.upTo x e).toArray⟩)/\w'=w''):=qh (fun w'=>spreach_any x e w')
    have hup:(Spn.upTo x e).length<=2000000:=by
      unfold Spn.upTo
      split
      · exact HLL.out.2.2.2
      · have:=HXS.out; omega
    have HJL:Hid (∀ J,o=some J->J.length<=1000000):=qh (fun J hJ=>by
      have h1:=gathP_len (ho.trans hJ)
      have:=HLL.out.1
      omega)
    have HGA:Hid (∀ w',Below w1.heap.size w1 w'->Calls Tryz.prog 44 #[.string ⟨root.toArray⟩,.string ⟨f.toArray⟩,.string ⟨(Spn.upTo x e).toArray⟩,.slice B L.length capB] w' fun r w''=>∃ (z:Value) (b:Bool),r=.returned (.tuple #[z,.bool b])/\b=o.isSome/\(∀ I,o=some I->OwnI w'' w1.heap.size z I)/\(∃ A n cap,z=.slice A n cap)/\Below w1.heap.size w1 w''):=qh (fun w' h=>by
      have h1:=spgather_any root f (Spn.upTo x e) _ L w' (HV.out.below (bchain HB1.out h)) (HT.out.below (bchain HB1.out h)) HLL.out.2.1 HLL.out.1 HLL.out.2.2.1 hup
      rw [ho] at h1
      exact h1.mono fun r w'' ⟨z,b,q1,q2,q3,q4,q5⟩=>⟨z,b,q1,q2,fun I hI=>(q3 I hI).low h.size,q4,bchain h q5⟩)
    obtain ⟨U,hU⟩:∃ U,Spn.upTo x e=U:=⟨_,rfl⟩
    rw [hU] at HRE HGA
    have HS:Hid (∀ w',Below w1.heap.size w1 w'->Below w1.heap.size w1 w'/\w'.cell? ⟨w.heap.size,0,none⟩=some (.slice A I.length cap)/\w'.cell? ⟨w.heap.size,1,none⟩=some (.string ⟨x.toArray⟩)/\w'.cell? ⟨w.heap.size,2,none⟩=some (.slice B L.length capB)):=qh (fun w' h=>⟨h,HP.out w' (bchain HB1.out h)⟩)
    have BD:Below w1.heap.size w1 w1.drew:=(Below.refl _ _).drew
    clear ho hup hU
    go_upto_region 5 with fail
    go_region_held3 (fun w'=>Below w1.heap.size w1 w'/\w'.cell? ⟨w.heap.size,0,none⟩=some (.slice A I.length cap)/\w'.cell? ⟨w.heap.size,1,none⟩=some (.string ⟨x.toArray⟩)/\w'.cell? ⟨w.heap.size,2,none⟩=some (.slice B L.length capB))
      ((refine HS.out _ ?_; first | (with_reducible assumption) | exact And.left (by with_reducible assumption)))
      (first | (go_at_call 37; refine (HRE.out _).mono ?_; rintro r wa ⟨rfl,rfl⟩) | (go_at_call 44; refine (HGA.out _ ?_).mono ?_; (first | (with_reducible assumption) | exact And.left (by with_reducible assumption)); rintro r wb ⟨z,bb,rfl,hbb,hoi,⟨Az,nz,cz,rfl⟩,hwb⟩; have HBB:=qh hbb; have HOI:=qh hoi; clear hbb hoi))
    all_goals
      have HWB:=qh (bchain HB1.out hwb)
      obtain ⟨p0,p1,p2⟩:=HP.out _ HWB.out
      clear hwb
      cases o with
      | none=>
        obtain rfl:bb=false:=HBB.out
        go_wp2
        go_ret3
        exact SVPost.no (by rw [HRR.out,if_neg (by simp)]) (bchain HB.out HWB.out)
      | some J=>
        obtain rfl:bb=true:=HBB.out
        have hoj:=HOI.out J rfl
        have HOJ:=qh hoj
        have HEQ:=qh (fun w' (h:Below wb.heap.size wb w')=>spequal_any J I (.slice Az nz cz) (.slice A I.length cap) w' (RowsAt.inn (RowsAt.below hoj.at_ h)) (RowsIn.below HI.out (bchain HWB.out h)) (HJL.out J rfl))
        clear hoj
        go_wp2_with fail
        refine (HEQ.out _ (Below.refl _ _)).mono ?_
        rintro r wd ⟨rfl,hbd⟩
        have HBD:=qh (bchain HWB.out hbd)
        have HOD:=qh (HOJ.out.below hbd)
        obtain ⟨p0,p1,p2⟩:=HP.out _ HBD.out
        clear hbd
        by_cases hJ:J=I
        · have hd:decide (J=I)=true:=decide_eq_true hJ
          rw [hd]
          have HJI:=qh hJ
          clear hJ hd
          go_wp2_with fail
          refine (clone_any x wd HXL.out).mono ?_
          rintro r we ⟨rfl,hbe⟩
          have HBE:=qh (bchain HB.out (bchain HBD.out hbe))
          have HOE:=qh ((HOD.out.below hbe).low (B':=w.heap.size) (Nat.le_trans HB.out.size HB1.out.size))
          clear hbe
          go_wp2
          go_ret3
          exact SVPost.yes (I:=I) (by rw [HRR.out,HJI.out,if_pos rfl]) (by rw [← HJI.out]; exact HOE.out) HBE.out
        · have hd:decide (J=I)=false:=decide_eq_false hJ
          have HJN:=qh hJ
          rw [hd]
          clear hJ hd
          go_wp2
          go_ret3
          exact SVPost.no (by rw [HRR.out,if_neg (fun h=>HJN.out (Option.some.inj h))]) (bchain HB.out HBD.out)
end
section
open Go.RowKit
end
section
open Go.RowKit Go.Shelf
open Sto (T St)
attribute [local go_sem] Oper.semAt_some
attribute [local go_sem] Oper.semAt_some
end
section
open Go.RowKit
open Sto (T St)
end
section
open Go.RowKit
open Sto (T St)
open Tri (Tr)
theorem keep_own {F:Nat->Prop} {w w':World} {B:Nat} {z:Value} {L:List T} (h:Own w B z L) (ho:Out F w w') (hF:∀ k,z.ownBlock=some k->¬ F k):Own w' B z L:=by
  refine ⟨h.1,?_⟩
  rcases h.2 with h0 | ⟨g,cap,cur,hv,hB,hh,hr⟩
  · exact Or.inl h0
  · exact Or.inr ⟨g,cap,cur,hv,hB,ho.heap hh (hF g (by rw [hv]; rfl)),hr⟩
end
section
open Go.RowKit
open Sto (T St)
theorem spgoes_ok:GoesOk:=fun zi I x zn e m w hi hm=>spgoes_any zi I x zn e m w hi hm
theorem spverify_any (root f e:T) (m:Int) (zi:Value) (I:St) (x:T) (zn:Value) (L:List T) (w:World) (hi:ItIn w zi I) (hv:StrsC w zn L) (hT:Tab w) (hL:∀ y∈L,y.length<=1000000) (hl:L.length<=10000) (hf:f.length<=2000000) (he:e.length<=2000000):
    Calls Tryz.prog 19 #[.string ⟨root.toArray⟩,.string ⟨f.toArray⟩,.string ⟨e.toArray⟩,.int .i64 m,.agg #[zi,.string ⟨x.toArray⟩,zn]] w (SVPost (Spn.verifyP root f e m I x L) w):=spverify_of spgoes_ok root f e m zi I x zn L w hi hv hT hL hl hf he
theorem OwnI.len {w:World} {B n c:Nat} {A:Option Addr} {S:St} (h:OwnI w B (.slice A n c) S):n=S.length:=by
  obtain ⟨A',c',hz,-,-⟩:=h.at_.form
  injection hz with h1 h2 h3
def Fit (I:St) (x:T) (L:List T):Prop:=I.length<=40/\L.length<=60/\(∀ y∈L,y.length<=700)/\x.length<=100
end
section
open Go.RowKit Go.ChangeShapes Go.WideShapes
open Sto (T St)
theorem cellsItem:Tryz.prog.cellsOf 60=2:=by kernel_rfl
theorem item_cells {H:Type} {enc:TypeId × Value->H} {W:World} {fuel:Nat} {cs:List Value} {x:DataW H × List MemPlace} (ht:DataW.trod enc Tryz.prog W 0 (fun _=>true) true fuel 60 cs=some x):
    ∃ s:T × T,cs=itcl s:=by
  obtain ⟨ys,n',_,hy,hcl,hyl,hfs⟩:=DataW.trod_struct Tryz.underlying60 ht
  rw [cellsItem] at hcl
  match cs,hcl,ys,hyl with
  | [v0,v1],_,[y0,y1],_=>
    have g0:=hfs 0 _ rfl
    have g1:=hfs 1 _ rfl
    simp [cellsS] at g0 g1
    obtain ⟨s0,e0,_,_⟩:=DataW.trod_string Tryz.underlying9 g0
    obtain ⟨s1,e1,_,_⟩:=DataW.trod_string Tryz.underlying9 g1
    obtain rfl:v0=.string s0:=by simpa using e0
    obtain rfl:v1=.string s1:=by simpa using e1
    exact ⟨(s0.data.toList,s1.data.toList),by simp [itcl]⟩
end
section
open Go.RowKit
open Sto (T St)
end
section
open Sto (T St)
open Tri (Tr Ok)
namespace Ver
structure Act where
  kind:Int
  height:Int
  chg:St
def chC (I:St) (x:T × T):Nat:=if x.2=[] then (if (Tri.getC I x.1).2=5 then 0 else (Tri.getC I x.1).2) else Tri.putC I x.1 x.2
def chS (I:St) (x:T × T):St:=if x.2=[] then (if (Tri.getC I x.1).2=0 then Tri.del I x.1 else I) else Tri.put I x.1 x.2
def chsC:St->St->Nat
  | _,[]=>0
  | I,x::r=>if chC I x=0 then chsC (chS I x) r else chC I x
def chsS:St->St->St
  | I,[]=>I
  | I,x::r=>chsS (chS I x) r
theorem chS_good {I:St} {x:T × T} (h:∃ t,TrS I t) (hc:chC I x=0):∃ t,TrS (chS I x) t:=by
  obtain ⟨t,ht⟩:=h
  unfold chC at hc
  unfold chS
  by_cases hx:x.2=[]
  · rw [if_pos hx] at hc ⊢
    by_cases h0:(Tri.getC I x.1).2=0
    · rw [if_pos h0]
      exact ⟨_,ht.del (getC_zero h0).2⟩
    · rw [if_neg h0]
      exact ⟨t,ht⟩
  · rw [if_neg hx] at hc ⊢
    exact ⟨_,ht.put hc⟩
theorem chsS_good (C:St):∀ {I:St},(∃ t,TrS I t)->chsC I C=0->∃ t,TrS (chsS I C) t:=by
  induction C with
  | nil=>intro I h _; exact h
  | cons x r ih=>
    intro I h hc
    rw [chsC] at hc
    by_cases h0:chC I x=0
    · rw [if_pos h0] at hc
      exact ih (chS_good h h0) hc
    · rw [if_neg h0] at hc
      exact absurd hc h0
structure M where
  vs:List (Int × St)
  low:Int
  st:St
def M.zero:M:=⟨[],0,[]⟩
def M.top (m:M):St:=((m.vs.getLast?).map (·.2)).getD []
def maxH:Int:=1048576
def M.comC (m:M) (h:Int) (C:St):Nat:=if h<0∨maxH<h then 1 else if (∃ x∈m.vs,h<=x.1)∨h<m.low then 120 else chsC m.top C
def M.com (m:M) (h:Int) (C:St):M:=if m.comC h C=0 then ⟨m.vs++[(h,chsS m.top C)],m.low,putAll m.st (nodesS (chsS m.top C))⟩ else m
def M.comR (m:M) (h:Int) (C:St):T:=if m.comC h C=0 then rootS (chsS m.top C) else []
def M.find (m:M) (h:Int):Option St:=(m.vs.find? fun x=>decide (x.1=h)).map (·.2)
def M.findC (m:M) (h:Int):Nat:=if (m.find h).isSome then 0 else if h<m.low then 120 else 5
def M.findR (m:M) (h:Int):T:=match m.find h with | some I=>rootS I | none=>[]
def stay (L:List (Int × St)) (b:Int) (i:Nat):Bool:=decide (i+1=L.length) || (match L[i]? with | some x=>decide (b<=x.1) | none=>false)
def upto (L:List (Int × St)) (b:Int) (n:Nat):List (Int × St):=((List.range n).filter (stay L b)).filterMap fun i=>L[i]?
def M.prune (m:M) (b:Int):M:=⟨upto m.vs b m.vs.length,max m.low b,Sto.keepL m.st ((upto m.vs b m.vs.length).map fun x=>rootS x.2)⟩
theorem upto_sub (L:List (Int × St)) (b:Int):(upto L b L.length).Sublist L:=by
  have e:(List.range L.length).filterMap (fun i=>L[i]?)=L:=by
    apply List.ext_getElem?
    intro i
    rcases Nat.lt_or_ge i L.length with h | h
    · have:∀ n,n<=L.length->(List.range n).filterMap (fun i=>L[i]?)=L.take n:=by
        intro n
        induction n with
        | zero=>intro _; rfl
        | succ n ih=>
          intro hn
          rw [List.range_succ,List.filterMap_append,ih (by omega),List.take_succ_eq_append_getElem (by omega)]
          simp [List.getElem?_eq_getElem (show n<L.length by omega)]
      rw [this _ (Nat.le_refl _),List.take_length]
    · have:∀ n,n<=L.length->(List.range n).filterMap (fun i=>L[i]?)=L.take n:=by
        intro n
        induction n with
        | zero=>intro _; rfl
        | succ n ih=>
          intro hn
          rw [List.range_succ,List.filterMap_append,ih (by omega),List.take_succ_eq_append_getElem (by omega)]
          simp [List.getElem?_eq_getElem (show n<L.length by omega)]
      rw [this _ (Nat.le_refl _),List.take_length]
  conv=>rhs; rw [← e]
  exact List.Sublist.filterMap _ List.filter_sublist
structure M.Good (m:M):Prop where
  rise:m.vs.Pairwise fun a b=>a.1<b.1
  tree:∀ x∈m.vs,∃ t,TrS x.2 t
  fit:∀ x∈m.vs,0<=x.1/\x.1<=maxH
  own:OwnSums m.st
  sto:Sto.Rising m.st
theorem M.Good.zero:M.zero.Good:=⟨List.Pairwise.nil,fun _ h=>(by cases h),fun _ h=>(by cases h),OwnSums.nil,Sto.rising_nil⟩
theorem M.Good.top {m:M} (h:m.Good):∃ t,TrS m.top t:=by
  unfold M.top
  cases hl:m.vs.getLast? with
  | none=>exact ⟨_,TrS.empty⟩
  | some x=>exact h.tree x (List.mem_of_getLast? hl)
theorem M.comC_zero {m:M} {h:Int} {C:St} (hc:m.comC h C=0):0<=h/\h<=maxH/\(∀ x∈m.vs,x.1<h)/\m.low<=h/\chsC m.top C=0:=by
  unfold M.comC at hc
  split at hc
  · cases hc
  · rename_i h1
    split at hc
    · cases hc
    · rename_i h2
      refine ⟨by omega,by omega,fun x hx=>?_,by omega,hc⟩
      have:¬ h<=x.1:=fun e=>h2 (Or.inl ⟨x,hx,e⟩)
      omega
theorem M.Good.com {m:M} (g:m.Good) (h:Int) (C:St):(m.com h C).Good:=by
  unfold M.com
  by_cases hc:m.comC h C=0
  · rw [if_pos hc]
    obtain ⟨h1,h2,h3,h4,h5⟩:=M.comC_zero hc
    obtain ⟨o1,o2⟩:=putAll_own (nodesS (chsS m.top C)) g.sto g.own
    refine ⟨?_,?_,?_,o1,o2⟩
    · refine List.pairwise_append.2 ⟨g.rise,List.pairwise_singleton ..,fun a ha b hb=>?_⟩
      rw [List.mem_singleton.1 hb]
      exact h3 a ha
    · intro x hx
      rcases List.mem_append.1 hx with hx | hx
      · exact g.tree x hx
      · rw [List.mem_singleton.1 hx]
        exact chsS_good C g.top h5
    · intro x hx
      rcases List.mem_append.1 hx with hx | hx
      · exact g.fit x hx
      · rw [List.mem_singleton.1 hx]
        exact ⟨h1,h2⟩
  · rw [if_neg hc]
    exact g
theorem keep_own {S:St} (hS:Sto.Rising S) (h:OwnSums S) (l:List T):OwnSums (Sto.keepL S l):=fun x t hl=>by
  rw [Sto.look_keepL hS] at hl
  split at hl
  · exact h x t hl
  · cases hl
theorem M.Good.prune {m:M} (g:m.Good) (b:Int):(m.prune b).Good:=
  ⟨g.rise.sublist (upto_sub _ _),fun x hx=>g.tree x ((upto_sub _ _).subset hx),fun x hx=>g.fit x ((upto_sub _ _).subset hx),keep_own g.sto g.own _,Sto.keepL_rising g.sto _⟩
theorem M.find_mem {m:M} {h:Int} {I:St} (e:m.find h=some I):(h,I)∈m.vs:=by
  unfold M.find at e
  cases hf:m.vs.find? fun x=>decide (x.1=h) with
  | none=>rw [hf] at e; cases e
  | some x=>
    rw [hf] at e
    cases e
    have h1:=List.find?_some hf
    have h2:=List.mem_of_find?_eq_some hf
    have h3:x.1=h:=of_decide_eq_true h1
    rw [← h3]
    exact h2
theorem clash_more {C:List T} (D:List T) (h:Clash C):Clash (C++D):=by
  obtain ⟨s,hs,t,ht,h1,h2⟩:=h
  exact ⟨s,List.mem_append_left _ hs,t,List.mem_append_left _ ht,h1,h2⟩
theorem of_more {st:St} {C:List T} (D:List T) (h:OfTexts st C):OfTexts st (C++D):=
  ⟨h.1,h.2,fun x t hl=>List.mem_append_left _ (h.3 x t hl)⟩
def M.Has (m:M) (C:List T):Prop:=¬ Clash C->OfTexts m.st C/\∀ x∈m.vs,∀ s∈nodesS x.2,s∈C/\Sto.look m.st (Sto.sumOf s)=some s
theorem M.Has.zero:M.zero.Has []:=fun _=>⟨OfTexts.nil _,fun _ h=>(by cases h)⟩
theorem M.Has.com {m:M} {C:List T} (h:m.Has C) {x:Int} {D:St} (hc:m.comC x D=0):(m.com x D).Has (C++nodesS (chsS m.top D)):=by
  intro hn
  obtain ⟨h1,h2⟩:=h (fun e=>hn (clash_more _ e))
  obtain ⟨p1,p2,p3⟩:=putAll_keep hn (nodesS (chsS m.top D)) (of_more _ h1) (fun t ht=>List.mem_append_right _ ht)
  unfold M.com
  rw [if_pos hc]
  refine ⟨p1,fun y hy s hs=>?_⟩
  rcases List.mem_append.1 hy with hy | hy
  · obtain ⟨q1,q2⟩:=h2 y hy s hs
    exact ⟨List.mem_append_left _ q1,p3 _ _ q2⟩
  · rw [List.mem_singleton.1 hy] at hs
    exact ⟨List.mem_append_right _ hs,p2 s hs⟩
theorem M.Has.inS {m:M} {C:List T} (h:m.Has C) (hn:¬ Clash C) {x:Int × St} (hx:x∈m.vs) {t:Tr} (ht:TrS x.2 t):t.inS m.st:=
  inS_of ht.ok fun n hn'=>((h hn).2 x hx (Nd.written n) (by rw [nodesS_nodes ht]; exact List.mem_map.2 ⟨n,hn',rfl⟩)).2
theorem M.Has.prune {m:M} {C:List T} (g:m.Good) (h:m.Has C) (b:Int):(m.prune b).Has C:=by
  intro hn
  obtain ⟨h1,h2⟩:=h hn
  refine ⟨⟨Sto.keepL_rising g.sto _,keep_own g.sto g.own _,fun x t hl=>?_⟩,fun x hx s hs=>?_⟩
  · have hl':Sto.look (Sto.keepL m.st ((upto m.vs b m.vs.length).map fun x=>rootS x.2)) x=some t:=hl
    rw [Sto.look_keepL g.sto] at hl'
    split at hl'
    · exact h1.3 x t hl'
    · cases hl'
  · have hxm:=(upto_sub m.vs b).subset hx
    obtain ⟨q1,q2⟩:=h2 x hxm s hs
    obtain ⟨t,ht⟩:=g.tree x hxm
    have hin:=h.inS hn hxm ht
    rw [nodesS_nodes ht] at hs
    obtain ⟨n,hnn,rfl⟩:=List.mem_map.1 hs
    have hnil:¬ t.isNil:=fun e=>by rw [Tri.nil_of_isNil e] at hnn; cases hnn
    refine ⟨q1,?_⟩
    show Sto.look (Sto.keepL m.st ((upto m.vs b m.vs.length).map fun x=>rootS x.2)) _=_
    rw [Sto.look_keepL g.sto,if_pos,q2]
    rw [Sto.reachL_mem g.sto]
    refine reach_nodes t ht.ok hin hnil (reach_root hin hnil ?_) n hnn
    rw [← rootS_tree ht]
    exact List.mem_map.2 ⟨x,hx,rfl⟩
theorem M.Has.load {m:M} {C:List T} (h:m.Has C) (g:m.Good) (hn:¬ Clash C) {x:Int × St} (hx:x∈m.vs) {S:St} {t:Tr} (ht:TrS S t) (hs:t.sum Nd.sumS=rootS x.2) (hin:t.inS m.st):S=x.2:=by
  obtain ⟨u,hu⟩:=g.tree x hx
  exact ht.same hu hin (h.inS hn hx hu) (by rw [hs,rootS_tree hu])
theorem M.Has.loads {m:M} {C:List T} (h:m.Has C) (g:m.Good) (hn:¬ Clash C) {x:Int × St} (hx:x∈m.vs):∃ S t,TrS S t/\t.inS m.st/\t.sum Nd.sumS=rootS x.2:=by
  obtain ⟨u,hu⟩:=g.tree x hx
  exact ⟨_,u,hu,h.inS hn hx hu,(rootS_tree hu).symm⟩
end Ver
end
namespace Ver
open Sto (T St)
end Ver
section
open Sto (T St)
open Tri (Tr Ok)
namespace Ver
end Ver
namespace Ver
def M.comCI (m:M) (h:Int) (C I:St):Nat:=if h<0∨maxH<h then 1 else if (∃ x∈m.vs,h<=x.1)∨h<m.low then 120 else chsC I C
def M.comI (m:M) (h:Int) (C I:St):M:=⟨m.vs++[(h,chsS I C)],m.low,putAll m.st (nodesS (chsS I C))⟩
def M.Tells (m:M) (I:St):Prop:=(∃ t,TrS I t)/\∀ C,m.Has C->¬ Clash C->I=m.top
inductive M.Com (m:M) (h:Int) (C:St):M->Int->T->Prop
  | bad (c:Int) (h0:c≠0) (why:(∀ I,m.comCI h C I≠0)∨(∃ I,m.Tells I/\m.comCI h C I≠0)∨∀ D,m.Has D->¬ Clash D->False):M.Com m h C m c []
  | good (I:St) (ht:m.Tells I) (hc:m.comCI h C I=0):M.Com m h C (m.comI h C I) 0 (rootS (chsS I C))
theorem M.comCI_zero {m:M} {h:Int} {C I:St} (hc:m.comCI h C I=0):0<=h/\h<=maxH/\(∀ x∈m.vs,x.1<h)/\m.low<=h/\chsC I C=0:=by
  unfold M.comCI at hc
  split at hc
  · cases hc
  · rename_i h1
    split at hc
    · cases hc
    · rename_i h2
      refine ⟨by omega,by omega,fun x hx=>?_,by omega,hc⟩
      have:¬ h<=x.1:=fun e=>h2 (Or.inl ⟨x,hx,e⟩)
      omega
theorem M.Com.good' {m m':M} {h:Int} {C:St} {c:Int} {r:T} (k:m.Com h C m' c r) (g:m.Good):m'.Good:=by
  cases k with
  | bad _ _ _=>exact g
  | good I ht hc=>
    obtain ⟨h1,h2,h3,h4,h5⟩:=M.comCI_zero hc
    have hg:=chsS_good C ht.1 h5
    obtain ⟨o1,o2⟩:=putAll_own (nodesS (chsS I C)) g.sto g.own
    refine ⟨?_,?_,?_,o1,o2⟩
    · refine List.pairwise_append.2 ⟨g.rise,List.pairwise_singleton ..,fun a ha b hb=>?_⟩
      rw [List.mem_singleton.1 hb]
      exact h3 a ha
    · intro x hx
      rcases List.mem_append.1 hx with hx | hx
      · exact g.tree x hx
      · rw [List.mem_singleton.1 hx]
        exact hg
    · intro x hx
      rcases List.mem_append.1 hx with hx | hx
      · exact g.fit x hx
      · rw [List.mem_singleton.1 hx]
        exact ⟨h1,h2⟩
end Ver
end
section
open Go.RowKit
open Sto (T St)
def ItLo (w:World) (v:Value) (L:St):Prop:=
  ∃ (A:Option Addr) (cap:Nat),v=.slice A L.length cap/\(0<L.length->∃ b o,A=some ⟨b,o,none⟩/\b<w.heap.size/\∀ i (h:i<L.length),w.cell? ⟨b,o+i*2,none⟩=some (.string ⟨L[i].1.toArray⟩)/\w.cell? ⟨b,o+i*2+1,none⟩=some (.string ⟨L[i].2.toArray⟩))
theorem ItLo.below {w w':World} {v:Value} {L:St} (h:ItLo w v L) (hb:Below w.heap.size w w'):ItLo w' v L:=by
  obtain ⟨A,cap,rfl,hc⟩:=h
  refine ⟨A,cap,rfl,fun h0=>?_⟩
  obtain ⟨b,o,rfl,hlt,hcell⟩:=hc h0
  exact ⟨b,o,rfl,Nat.lt_of_lt_of_le hlt hb.size,fun i hi=>⟨(hb.cell hlt).trans (hcell i hi).1,(hb.cell hlt).trans (hcell i hi).2⟩⟩
theorem ItLo.form {w:World} {v:Value} {L:St} (h:ItLo w v L):∃ A cap,v=.slice A L.length cap:=by
  obtain ⟨A,cap,rfl,_⟩:=h
  exact ⟨A,cap,rfl⟩
theorem ItLo.at {w:World} {A:Option Addr} {n cap:Nat} {L:St} (h:ItLo w (.slice A n cap) L) (k:Nat) (hk:k<L.length):
    ∃ b o,A=some ⟨b,o,none⟩/\w.cell? ⟨b,o+k*2,none⟩=some (.string ⟨L[k].1.toArray⟩)/\w.cell? ⟨b,o+k*2+1,none⟩=some (.string ⟨L[k].2.toArray⟩):=by
  obtain ⟨A',cap',hv,h1⟩:=h
  obtain ⟨rfl,_⟩:A=A'/\_:=by simpa using hv
  obtain ⟨b,o,rfl,_,hcell⟩:=h1 (by omega)
  exact ⟨b,o,rfl,hcell k hk⟩
theorem ItLo.of_at {w:World} {v:Value} {L:St} (h:ItAt w v L):ItLo w v L:=by
  obtain ⟨A,cap,rfl,_,_⟩:=h.form
  refine ⟨A,cap,rfl,fun h0=>?_⟩
  have h':=h.inn
  obtain ⟨A',cap',hv,_,_,hc⟩:=h'
  obtain ⟨rfl,_⟩:A=A'/\_:=by simpa using hv
  obtain ⟨b,o,rfl,hlt,hcell⟩:=hc h0
  exact ⟨b,o,rfl,hlt,fun i hi=>⟨hcell i hi 0 _ rfl,hcell i hi 1 _ rfl⟩⟩
theorem TrAt.outB {F:Nat->Prop} {w w':World} {g:Nat} {S:St} (h:TrAt w g S) (ho:Out F w w') (hb:∀ k,F k->∀ cs t f,w.heap[k]?=some (.cells cs t f)->t≠87/\t≠84):TrAt w' g S:=by
  obtain ⟨top,t,h1,h2,h3⟩:=h
  exact ⟨top,t,ho.heap h1 (fun e=>(hb g e _ _ _ h1).2 rfl),h2.change (fun _ _ _ h=>h) fun g k p x K s s2 _ hr=>ho.heap hr (fun e=>(hb g e _ _ _ hr).1 rfl),h3⟩
def VNext (VAt:World->(Nat->Prop)->Nat->Ver.M->Prop) (w:World) (F:Nat->Prop) (v:Nat) (m:Ver.M) (w':World):Prop:=
  ∃ F',VAt w' F' v m/\Out F w w'/\(∀ k,F' k->F k∨w.heap.size<=k)/\Tab w'
def AtPost (m:Ver.M) (h:Int) (w:World) (e:Ending) (w':World):Prop:=
  match m.find h with
  | some I=>LoadPost m.st (rootS I) w e w'
  | none=>e=.returned (.tuple #[nilp,.int .i64 (m.findC h)])/\Below w.heap.size w w'
theorem wf_height {x:Int} (h:0<=x/\x<=Ver.maxH):(Lit.int .i64 x).wf=true:=by
  unfold Ver.maxH at h
  simp [Lit.wf,IntKind.min,IntKind.max,IntKind.bits,IntKind.signed]
  omega
end
namespace Pw
theorem ofL_eq {L:List M} (h:okL L=true) (N:List S):(ofL L N:Int)=sumP (pick L N):=by
  have h1:=pick_range h N
  simp only [ofL,h,if_true]
  omega
theorem ofL_mono {L:List M} (h:okL L=true) {A B:List S} (hs:∀ m∈L,m.name∈A->m.name∈B):ofL L A<=ofL L B:=by
  have h1:=ofL_eq h A
  have h2:=ofL_eq h B
  have h3:=sumP_filter_le (L:=L) (fun m=>decide (m.name∈A)) (fun m=>decide (m.name∈B)) (fun m hm=>by have:=(okL_mem h m hm).2.2; omega) (fun m hm hA=>by
    simp only [decide_eq_true_eq] at hA ⊢
    exact hs m hm hA)
  unfold pick at h1 h2
  omega
def good (L:List M) (bad:List S):List S:=(L.filter fun m=>!decide (m.name∈bad)).map (·.name)
theorem good_mem (L:List M) (bad:List S) (s:S):s∈good L bad↔(∃ m∈L,m.name=s)/\s∉bad:=by
  simp only [good,List.mem_map,List.mem_filter,Bool.not_eq_true',decide_eq_false_iff_not]
  constructor
  · rintro ⟨m,⟨h1,h2⟩,rfl⟩; exact ⟨⟨m,h1,rfl⟩,h2⟩
  · rintro ⟨⟨m,h1,rfl⟩,h2⟩; exact ⟨m,⟨h1,h2⟩,rfl⟩
def met (L:List M) (bad some:List S):List S:=(good L bad).flatMap fun s=>both [s] some
theorem met_empty {L:List M} {bad some:List S} (h:met L bad some=[]):∀ m∈L,m.name∉bad->m.name∉some:=by
  intro m hm hb hs
  have hg:=(good_mem L bad m.name).2 ⟨⟨m,hm,rfl⟩,hb⟩
  have hin:m.name∈met L bad some:=List.mem_flatMap.2 ⟨m.name,hg,(both_mem _ _ _).2 ⟨by simp,hs⟩⟩
  rw [h] at hin
  cases hin
theorem good_count {L:List M} (h:okL L=true) (bad:List S):ofL L (good L bad)+ofL L bad=tot L:=by
  have h1:=ofL_eq h (good L bad)
  have h2:=ofL_eq h bad
  have h4:=((tot_range L).2.1 h).2
  have h5:=sumP_filter_split L (fun m=>decide (m.name∈bad))
  have e:pick L (good L bad)=L.filter (fun m=>!decide (m.name∈bad)):=by
    unfold pick
    apply List.filter_congr
    intro m hm
    have:=good_mem L bad m.name
    by_cases hb:m.name∈bad
    · have hn:m.name∉good L bad:=fun hh=>(this.1 hh).2 hb
      simp [hb,hn]
    · have hy:m.name∈good L bad:=this.2 ⟨⟨m,hm,rfl⟩,hb⟩
      simp [hb,hy]
  rw [e] at h1
  unfold pick at h2
  omega
theorem others {L:List M} (h:okL L=true) (bad some:List S) (hbad:ofL L bad<=mos L):
    quo L<=ofL L (good L bad)/\(ofL L some<=mos L∨0<(met L bad some).length)/\3*mos L<tot L/\2*tot L<3*quo L:=by
  have h1:=good_count h bad
  have h2:=((tot_range L).2.1 h).1
  have h3:quo L=2*tot L / 3+1:=by unfold quo; rw [if_neg (by omega)]
  have h4:mos L=(tot L - 1) / 3:=rfl
  refine ⟨by omega,?_,by omega,by omega⟩
  by_cases hm:met L bad some=[]
  · left
    have h5:=met_empty hm
    have h6:ofL L some<=ofL L bad:=ofL_mono h (fun m hm hs=>by
      by_cases hb:m.name∈bad
      · exact hb
      · exact absurd hs (h5 m hm hb))
    omega
  · right
    exact Nat.pos_of_ne_zero (fun e=>hm (List.eq_nil_of_length_eq_zero e))
end Pw
section
namespace Ora
abbrev K:=List UInt8 × List UInt8
abbrev Sig:=K × Bool
def kLt (a b:K):Bool:=decide (a.1<b.1) || (decide (a.1=b.1)&&decide (a.2<b.2))
theorem kLt_iff (a b:K):kLt a b=true↔a.1<b.1∨(a.1=b.1/\a.2<b.2):=by simp [kLt]
theorem kLt_irrefl (a:K):kLt a a=false:=by
  cases h:kLt a a with
  | false=>rfl
  | true=>
    rcases (kLt_iff a a).1 h with h | ⟨_,h⟩
    · exact absurd h (List.lt_irrefl _)
    · exact absurd h (List.lt_irrefl _)
theorem kLt_trans {a b c:K} (h:kLt a b=true) (k:kLt b c=true):kLt a c=true:=by
  rw [kLt_iff] at *
  rcases h with h | ⟨h1,h2⟩
  · rcases k with k | ⟨k1,k2⟩
    · exact Or.inl (List.lt_trans h k)
    · exact Or.inl (k1 ▸ h)
  · rcases k with k | ⟨k1,k2⟩
    · exact Or.inl (h1 ▸ k)
    · exact Or.inr ⟨h1.trans k1,List.lt_trans h2 k2⟩
theorem kLt_ne {a b:K} (h:kLt a b=true):a≠b:=by
  rintro rfl
  rw [kLt_irrefl] at h; cases h
theorem tri (x y:List UInt8):x<y∨x=y∨y<x:=by
  by_cases h:x<y
  · exact Or.inl h
  · rcases List.le_iff_lt_or_eq.1 (List.not_lt.1 h) with h | h
    · exact Or.inr (Or.inr h)
    · exact Or.inr (Or.inl h.symm)
theorem kLt_total {a b:K} (h:kLt a b=false) (hn:a≠b):kLt b a=true:=by
  rw [kLt_iff]
  have h':¬ (a.1<b.1∨(a.1=b.1/\a.2<b.2)):=fun k=>by rw [(kLt_iff a b).2 k] at h; cases h
  rcases tri a.1 b.1 with h1 | h1 | h1
  · exact absurd (Or.inl h1) h'
  · rcases tri a.2 b.2 with h2 | h2 | h2
    · exact absurd (Or.inr ⟨h1,h2⟩) h'
    · exact absurd (Prod.ext h1 h2) hn
    · exact Or.inr ⟨h1.symm,h2⟩
  · exact Or.inl h1
def look:List Sig->K->Option Bool
  | [],_=>none
  | a::r,k=>if k=a.1 then some a.2 else look r k
def put:List Sig->K->Bool->List Sig
  | [],k,h=>[(k,h)]
  | a::r,k,h=>if k=a.1 then (k,a.2&&h)::r else if kLt k a.1 then (k,h)::a::r else a::put r k h
def Rising (S:List Sig):Prop:=S.Pairwise fun a b=>kLt a.1 b.1=true
theorem rising_nil:Rising []:=List.Pairwise.nil
theorem look_none_of {S:List Sig} {k:K} (h:∀ a∈S,a.1≠k):look S k=none:=by
  induction S with
  | nil=>rfl
  | cons a r ih=>
    rw [look,if_neg (fun e=>h a (List.mem_cons_self ..) e.symm)]
    exact ih fun b hb=>h b (List.mem_cons_of_mem _ hb)
theorem look_mem {S:List Sig} (hS:Rising S) (k:K) (b:Bool):look S k=some b↔(k,b)∈S:=by
  induction S with
  | nil=>simp [look]
  | cons a r ih=>
    obtain ⟨h1,h2⟩:=List.pairwise_cons.1 hS
    rw [look]
    by_cases e:k=a.1
    · rw [if_pos e]
      constructor
      · intro h
        simp only [Option.some.injEq] at h
        exact List.mem_cons.2 (Or.inl (Prod.ext e h.symm))
      · intro h
        rcases List.mem_cons.1 h with h | h
        · rw [← h]
        · exact absurd e.symm (kLt_ne (h1 _ h))
    · rw [if_neg e,ih h2]
      constructor
      · exact fun h=>List.mem_cons_of_mem _ h
      · intro h
        rcases List.mem_cons.1 h with h | h
        · exact absurd (by rw [← h]) e
        · exact h
theorem put_keys {S:List Sig} {k:K} {h:Bool} {x:Sig} (hx:x∈put S k h):x.1=k∨∃ y∈S,y.1=x.1:=by
  induction S with
  | nil=>simp [put] at hx; exact Or.inl (by rw [hx])
  | cons a r ih=>
    rw [put] at hx
    split at hx
    · rcases List.mem_cons.1 hx with rfl | hx
      · exact Or.inl rfl
      · exact Or.inr ⟨x,List.mem_cons_of_mem _ hx,rfl⟩
    · split at hx
      · rcases List.mem_cons.1 hx with rfl | hx
        · exact Or.inl rfl
        · exact Or.inr ⟨x,hx,rfl⟩
      · rcases List.mem_cons.1 hx with rfl | hx
        · exact Or.inr ⟨x,List.mem_cons_self ..,rfl⟩
        · rcases ih hx with h | ⟨y,hy,e⟩
          · exact Or.inl h
          · exact Or.inr ⟨y,List.mem_cons_of_mem _ hy,e⟩
theorem put_rising {S:List Sig} (hS:Rising S) (k:K) (h:Bool):Rising (put S k h):=by
  induction S with
  | nil=>simp [put,Rising]
  | cons a r ih=>
    obtain ⟨h1,h2⟩:=List.pairwise_cons.1 hS
    rw [put]
    split
    · rename_i e
      exact List.pairwise_cons.2 ⟨fun b hb=>by show kLt k b.1=true; rw [e]; exact h1 b hb,h2⟩
    · rename_i e
      split
      · rename_i l
        refine List.pairwise_cons.2 ⟨fun b hb=>?_,hS⟩
        rcases List.mem_cons.1 hb with rfl | hb
        · exact l
        · exact kLt_trans l (h1 b hb)
      · rename_i l
        refine List.pairwise_cons.2 ⟨fun b hb=>?_,ih h2⟩
        rcases put_keys hb with e' | ⟨y,hy,e'⟩
        · rw [e']; exact kLt_total (by simpa using l) e
        · rw [← e']; exact h1 y hy
def over (o:Option Bool) (h:Bool):Bool:=match o with | some b=>b&&h | none=>h
theorem look_put {S:List Sig} (hS:Rising S) (k:K) (h:Bool) (x:K):look (put S k h) x=if x=k then some (over (look S k) h) else look S x:=by
  induction S with
  | nil=>
    simp only [put,look,over]
  | cons a r ih=>
    obtain ⟨h1,h2⟩:=List.pairwise_cons.1 hS
    rw [put]
    by_cases e:k=a.1
    · rw [if_pos e]
      simp only [look]
      rw [if_pos e]
      by_cases ex:x=k
      · rw [if_pos ex,if_pos ex]; rfl
      · rw [if_neg ex,if_neg ex,if_neg (fun q=>ex (q.trans e.symm))]
    · rw [if_neg e]
      by_cases l:kLt k a.1=true
      · rw [if_pos l]
        have hn:look (a::r) k=none:=look_none_of fun b hb=>by
          rcases List.mem_cons.1 hb with rfl | hb
          · exact fun q=>e q.symm
          · exact fun q=>kLt_ne (kLt_trans l (h1 b hb)) q.symm
        rw [hn]
        rw [look]
        rfl
      · rw [if_neg l]
        simp only [look]
        rw [if_neg e,ih h2]
        by_cases ex:x=k
        · rw [if_pos ex,if_pos ex,if_neg (fun q=>e (ex.symm.trans q))]
        · rw [if_neg ex,if_neg ex]
def signP (S:List Sig) (k:K) (h:Bool):List Sig × Int:=
  if k.1.length<1∨6<k.1.length then (S,1) else if k.2.length≠32 then (S,3) else if look S k=none/\1024<=S.length then (S,2) else (put S k h,0)
structure St where
  who:List UInt8
  mark:List UInt8
  honest:Bool
  fork:Bool
instance:Inhabited St:=⟨⟨[],[],false,false⟩⟩
def St.key (s:St):K:=(s.who,s.mark)
def step (S:List Sig) (s:St):List Sig:=(signP S s.key s.honest).1
end Ora
end
namespace Ct
open Pw (S M okL okFrom okFrom_mem okFrom_pair okL_mem okL_pair okL_len okM ofL tot quo mos both)
open Ora (Sig)
structure C where
  dig:S
  sig:List S
instance:Inhabited C:=⟨⟨[],[]⟩⟩
def toM (s:S):M:=⟨s,1⟩
def okNs (L:List S):Bool:=okFrom [] (L.map toM)
def may (c:C):Bool:=decide (c.dig.length=32)&&decide (c.sig.length<=7)&&okNs c.sig
def names (L:List M):List S:=L.map (·.name)
end Ct
section
open Go.RowKit Go.MapKept Go.ChangeShapes Go.WideShapes
open Go.Maps (Keyed)
open Ora (K Sig)
end
section
open Go.RowKit Go.ChangeShapes Go.WideShapes
end
section
open Go.RowKit Go.ChangeShapes Go.WideShapes
open Pw (M)
structure Ct.St where
  tag:Int
  who:List UInt8
  sum:List UInt8
  dis:Bool
instance:Inhabited Ct.St:=⟨⟨0,[],[],false⟩⟩
end
section
open Go.RowKit Go.ChangeShapes Go.WideShapes
open Sto (T St)
instance:Inhabited Ver.Act:=⟨⟨0,0,[]⟩⟩
end
section
open Go.RowKit
open Sto (T St)
namespace Ver
def i1:St:=[([97],[49])]
def i2:St:=[([97],[50])]
def r1:T:=[179,96,70,33,115,212,72,145,239,123,146,240,71,3,73,52,245,159,167,130,109,137,73,71,223,255,148,59,122,58,38,210]
def r2:T:=[213,234,176,218,212,170,0,6,9,60,154,58,74,162,209,171,124,34,137,42,156,150,138,82,206,60,51,62,110,11,13,199]
def t1:T:=[1,1,2,32,97,1,1,49]
def t2:T:=[1,1,2,32,97,1,1,50]
theorem n1:nodesS i1=[t1]:=by decide +kernel
theorem n2:nodesS i2=[t2]:=by decide +kernel
theorem s1:Sto.sumOf t1=r1:=by decide +kernel
theorem s2:Sto.sumOf t2=r2:=by decide +kernel
theorem q1:rootS i1=r1:=by decide +kernel
theorem q2:rootS i2=r2:=by decide +kernel
theorem x1:chsS [] i1=i1:=by decide +kernel
theorem x2:chsS i1 i2=i2:=by decide +kernel
def k1:M:=⟨[(1,i1)],0,[(r1,t1)]⟩
def k2:M:=⟨[(1,i1),(2,i2)],0,[(r1,t1),(r2,t2)]⟩
def k3:M:=⟨[(2,i2)],2,[(r2,t2)]⟩
theorem c1:M.zero.comC 1 i1=0:=by decide +kernel
theorem c2:k1.comC 2 i2=0:=by decide +kernel
theorem m1:M.zero.com 1 i1=k1:=by
  unfold M.com
  rw [if_pos c1]
  show (⟨[]++[(1,chsS [] i1)],0,putAll [] (nodesS (chsS [] i1))⟩:M)=k1
  rw [x1,n1]
  show (⟨[(1,i1)],0,Sto.put [] (Sto.sumOf t1) t1⟩:M)=k1
  rw [s1]
  have e:Sto.put [] r1 t1=[(r1,t1)]:=by decide +kernel
  rw [e]
  rfl
theorem m2:k1.com 2 i2=k2:=by
  unfold M.com
  rw [if_pos c2]
  show (⟨[(1,i1)]++[(2,chsS i1 i2)],0,putAll [(r1,t1)] (nodesS (chsS i1 i2))⟩:M)=k2
  rw [x2,n2]
  have e0:putAll [(r1,t1)] [t2]=Sto.put [(r1,t1)] (Sto.sumOf t2) t2:=rfl
  rw [e0,s2]
  have e:Sto.put [(r1,t1)] r2 t2=[(r1,t1),(r2,t2)]:=by decide +kernel
  rw [e]
  rfl
theorem m3:k2.prune 2=k3:=by
  unfold M.prune
  have e1:upto k2.vs 2 k2.vs.length=[(2,i2)]:=by decide +kernel
  rw [e1]
  show (⟨[(2,i2)],max 0 2,Sto.keepL k2.st [rootS i2]⟩:M)=k3
  rw [q2]
  have e2:Sto.keepL k2.st [r2]=[(r2,t2)]:=by decide +kernel
  rw [e2]
  rfl
theorem o1:M.zero.comR 1 i1=r1:=by
  unfold M.comR
  rw [if_pos c1]
  show rootS (chsS [] i1)=r1
  rw [x1,q1]
theorem o2:k1.comR 2 i2=r2:=by
  unfold M.comR
  rw [if_pos c2]
  show rootS (chsS i1 i2)=r2
  rw [x2,q2]
theorem g2:k2.Good:=by rw [← m2,← m1]; exact (M.Good.zero.com 1 i1).com 2 i2
theorem h1:k1.Has ([]++[t1]):=by
  have a1:=M.Has.zero.com c1
  rw [m1] at a1
  have e1:nodesS (chsS M.zero.top i1)=[t1]:=by
    show nodesS (chsS [] i1)=[t1]
    rw [x1,n1]
  rw [e1] at a1
  exact a1
theorem h2:k2.Has ([t1]++[t2]):=by
  have a1:=M.Has.zero.com c1
  rw [m1] at a1
  have a2:=a1.com c2
  rw [m2] at a2
  have e1:nodesS (chsS M.zero.top i1)=[t1]:=by
    show nodesS (chsS [] i1)=[t1]
    rw [x1,n1]
  have e2:nodesS (chsS k1.top i2)=[t2]:=by
    show nodesS (chsS i1 i2)=[t2]
    rw [x2,n2]
  rw [e1,e2] at a2
  exact a2
theorem h3:k3.Has ([t1]++[t2]):=by rw [← m3]; exact h2.prune g2 2
theorem g3:k3.Good:=by rw [← m3]; exact g2.prune 2
theorem f1:k2.find 1=some i1:=by decide +kernel
theorem f2:k3.find 1=none:=by decide +kernel
theorem f3:k3.find 2=some i2:=by decide +kernel
theorem f4:k3.findC 1=120:=by decide +kernel
theorem load_one {m:M} {C:List T} (h:m.Has C) (g:m.Good) (hn:¬ Clash C) {x:Int × St} (hx:x∈m.vs) {w w':World} {e:Ending} (hp:LoadPost m.st (rootS x.2) w e w'):
    ∃ gt,e=.returned (.tuple #[ptr gt,.int .i64 0])/\TrAt w' gt x.2/\Below w.heap.size w w':=by
  obtain ⟨z,c,rfl,hb,⟨rfl,gt,S,t,rfl,h1,h2,h3,h4⟩ | ⟨_,_,hbad⟩⟩:=hp
  · have e1:=h.load g hn hx h2 h3 h4
    subst e1
    exact ⟨gt,rfl,h1,hb⟩
  · obtain ⟨S,t,h1,h2,h3⟩:=h.loads g hn hx
    exact (hbad S t h1 h2 h3).elim
end Ver
theorem one_items (w:World) (x y:T):ItLo (w.alloc (.cells #[.string ⟨x.toArray⟩,.string ⟨y.toArray⟩] 60)) (.slice (some ⟨w.heap.size,0,none⟩) 1 1) [(x,y)]:=
  ItLo.of_at (OwnI.at_ (B:=w.heap.size) ⟨rfl,Or.inr ⟨w.heap.size,1,_,rfl,Nat.le_refl _,heap_alloc_new w _,by simp,by simp [maxLen],rfl,rfl⟩⟩)
theorem next_below {VAt:World->(Nat->Prop)->Nat->Ver.M->Prop} {w w':World} {F:Nat->Prop} {v B:Nat} {m:Ver.M} (h:VNext VAt w F v m w') (hF:∀ k,F k->B<=k) (hB:B<=w.heap.size):Below B w w':=by
  obtain ⟨F',_,ho,_,_⟩:=h
  exact ho.below hF hB
end
end Go.Proofs.YtaficmboooaknaaGreatDoor
