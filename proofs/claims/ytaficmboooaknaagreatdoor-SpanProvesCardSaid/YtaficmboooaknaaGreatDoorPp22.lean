import Derived.Test.YtaficmboooaknaaGreatDoorPp01
import Derived.Test.YtaficmboooaknaaGreatDoorPp17
import Derived.Test.YtaficmboooaknaaGreatDoorPp21
import Derived.Test.YtaficmboooaknaaGreatDoorPp03
import Derived.Deep.RegionHeld3
import Derived.Test.YtaficmboooaknaaGreatDoorPp02
import Derived.RangeFuncNested
import Derived.Test.YtaficmboooaknaaGreatDoorPp15
import Derived.RangeFuncBound
import Derived.RangeFuncCalls
import Derived.Shelf.Abstract
import Derived.Shelf.RegionOpen
import Derived.OwnWalkIn
import Derived.TacticsInMore
import Derived.LoopNIn
import Derived.LoopIn
set_option maxRecDepth 100000
set_option maxHeartbeats 16000000
namespace Go.Proofs.YtaficmboooaknaaGreatDoor
section
open Go.RowKit
open Sto (T St)
def SVPost (R:St × T × Nat) (w:World) (e:Ending) (w':World):Prop:=
  ∃ (A:Option Addr) (n cap:Nat),e=.returned (.tuple #[.slice A n cap,.string ⟨R.2.1.toArray⟩,.int .i64 R.2.2])/\OwnI w' w.heap.size (.slice A n cap) R.1/\Below w.heap.size w w'
theorem SVPost.no {R:St × T × Nat} {c:Nat} {w w':World} (h:R=([],[],c)) (hb:Below w.heap.size w w'):SVPost R w (.returned (.tuple #[.slice none 0 0,.string ⟨#[]⟩,.int .i64 c])) w':=by
  subst h
  exact ⟨none,0,0,rfl,OwnI.nil _ _,hb⟩
theorem SVPost.yes {R:St × T × Nat} {I:St} {x:T} {A:Option Addr} {n cap:Nat} {w w':World} (h:R=(I,x,0)) (ho:OwnI w' w.heap.size (.slice A n cap) I) (hb:Below w.heap.size w w'):SVPost R w (.returned (.tuple #[.slice A n cap,.string ⟨x.toArray⟩,.int .i64 0])) w':=by
  subst h
  exact ⟨A,n,cap,rfl,ho,hb⟩
theorem loopP_len:∀ (L:List T) (ss:List Spn.Sp) (I J:St),Spn.loopP L ss I=some J->J.length<=I.length+L.length:=by
  intro L
  induction L with
  | nil=>
    intro ss I J h
    cases ss with
    | nil=>rw [Spn.loopP.eq_def] at h; simp at h; rw [h]; exact Nat.le_refl _
    | cons s ss=>cases h
  | cons x r ih=>
    intro ss I J h
    cases ss with
    | nil=>rw [Spn.loopP.eq_def] at h; simp at h
    | cons s ss=>
      rw [Spn.loopP] at h
      split at h
      · split at h
        · cases h
        · rename_i K hK
          have h1:=ih _ _ _ h
          have h2:K.length<=I.length+1:=by
            unfold Spn.ownP at hK
            split at hK
            · rw [← Option.some.inj hK]; omega
            · split at hK
              · cases hK
              · rw [← Option.some.inj hK]
                split <;> simp
          rw [List.length_cons]
          omega
      · cases h
theorem gathP_len {root f e:T} {L:List T} {J:St} (h:Spn.gathP root f e L=some J):J.length<=L.length:=by
  have:=loopP_len _ _ _ _ h
  simpa using this
theorem behind_short (x:T):(Scn.behind x).length<=8:=by
  have hbump:∀ y:T,(Scn.bump y).length<=y.length:=by
    intro y
    induction y with
    | nil=>exact Nat.le_refl _
    | cons a r ih=>
      rw [Scn.bump]
      split
      · simp only [List.length_cons]; omega
      · split
        · simp
        · simp
  unfold Scn.behind
  split
  · simp
  · split
    · simp; omega
    · have:=hbump x; omega
def GoesOk:Prop:=∀ (zi:Value) (I:St) (x:T) (zn:Value) (e:T) (m:Int) (w:World),ItIn w zi I->(1<=m/\m<=16)->
  Calls Tryz.prog 43 #[.agg #[zi,.string ⟨x.toArray⟩,zn],.string ⟨e.toArray⟩,.int .i64 m] w fun r w'=>r=.returned (.bool (Spn.goesP I x e m))/\Below w.heap.size w w'
theorem spverify_of (HGK:GoesOk) (root f e:T) (m:Int) (zi:Value) (I:St) (x:T) (zn:Value) (L:List T) (w:World) (hi:ItIn w zi I) (hv:StrsC w zn L) (hT:Tab w) (hL:∀ y ∈ L,y.length<=1000000) (hl:L.length<=10000) (hf:f.length<=2000000) (he:e.length<=2000000):
    Calls Tryz.prog 19 #[.string ⟨root.toArray⟩,.string ⟨f.toArray⟩,.string ⟨e.toArray⟩,.int .i64 m,.agg #[zi,.string ⟨x.toArray⟩,zn]] w (SVPost (Spn.verifyP root f e m I x L) w):=by
  rw [← Spn.code_is]
  unfold Spn.codeP
  obtain ⟨A,cap,rfl,-,-⟩:=hi.form
  obtain ⟨B,capB,rfl,-⟩:=hv.form
  obtain ⟨w0,hw0⟩:∃ w0,w.alloc (.cells #[.slice A I.length cap,.string ⟨x.toArray⟩,.slice B L.length capB] 31)=w0:=⟨_,rfl⟩
  have hb0:Below w.heap.size w w0:=by rw [← hw0]; exact (Below.refl _ w).alloc (Nat.le_refl _) _
  have ra:w0.heap[w.heap.size]?=some (.cells #[.slice A I.length cap,.string ⟨x.toArray⟩,.slice B L.length capB] 31 (0,0)):=by rw [← hw0]; exact heap_alloc_new w _
  have HP:Hid (∀ w',Below w0.heap.size w0 w'->w'.cell? ⟨w.heap.size,0,none⟩=some (.slice A I.length cap)/\w'.cell? ⟨w.heap.size,1,none⟩=some (.string ⟨x.toArray⟩)/\w'.cell? ⟨w.heap.size,2,none⟩=some (.slice B L.length capB)):=qh (fun w' h=>by
    have r:=(h.block _ (lt_of_heap ra)).trans ra
    exact ⟨by rw [cell_of_row _ _ 0 _ _ _ r]; rfl,by rw [cell_of_row _ _ 1 _ _ _ r]; rfl,by rw [cell_of_row _ _ 2 _ _ _ r]; rfl⟩)
  have HB:=qh hb0
  have HI:=qh (RowsIn.below hi hb0)
  have HV:=qh (hv.below hb0)
  have HT:=qh (hT.below hb0)
  have HLL:=qh (show L.length<=10000/\(∀ y ∈ L,y.length<=1000000)/\f.length<=2000000/\e.length<=2000000 from ⟨hl,hL,hf,he⟩)
  obtain ⟨p0,p1,p2⟩:=HP.out w0 (Below.refl _ _)
  clear hi hv hT hL hl hf he hb0 ra
  by_cases hm1:m < 1
  · rw [if_pos (fun h=>by omega)]
    have q1:decide (m < 1)=true:=decide_eq_true hm1
    clear p0 p1 p2
    go_enter Tryz.func19,Tryz.ntmps19
    go_wp2
    go_ret3
    exact SVPost.no rfl HB.out
  have q1:decide (m < 1)=false:=decide_eq_false hm1
  by_cases hm16:16 < m
  · rw [if_pos (fun h=>by omega)]
    have q2:decide (16 < m)=true:=decide_eq_true hm16
    clear p0 p1 p2
    go_enter Tryz.func19,Tryz.ntmps19
    go_wp2
    go_ret3
    exact SVPost.no rfl HB.out
  have q2:decide (16 < m)=false:=decide_eq_false hm16
  have hm:1<=m/\m<=16:=by omega
  have HM:=qh hm
  rw [if_neg (fun h=>h hm)]
  by_cases hlm:m < (I.length:Int)
  · rw [if_pos hlm]
    have q3:decide (m < (I.length:Int))=true:=decide_eq_true hlm
    go_enter Tryz.func19,Tryz.ntmps19
    go_upto_region 3 with fail
    clear hw0
    go_wp2
    go_ret3
    exact SVPost.no rfl HB.out
  rw [if_neg hlm]
  have q3:decide (m < (I.length:Int))=false:=decide_eq_false hlm
  have HI16:Hid (I.length<=16):=qh (by omega)
  by_cases hx:x=[]
  · rw [if_neg (fun h=>h.1 hx)]
    have q4:(x == [])=true:=beq_iff_eq.2 hx
    have q5:x.isEmpty=true:=by rw [hx]; rfl
    have q6:(x != [])=false:=by rw [hx]; rfl
    have HXS:Hid (x.length<=8):=qh (by rw [hx]; simp)
    have HXL:Hid (x.length<=100000000):=qh (by rw [hx]; simp)
    clear hx
    obtain ⟨o,ho⟩:∃ o,Spn.gathP root f (Spn.upTo x e) L=o:=⟨_,rfl⟩
    rw [ho]
    obtain ⟨R,hR⟩:∃ R:St × T × Nat,(if o=some I then (I,x,0) else ([],[],130))=R:=⟨_,rfl⟩
    rw [hR]
    have HRR:=qh hR.symm
    clear hR
    have HRE:Hid (∀ w',Calls Tryz.prog 37 #[.string ⟨x.toArray⟩,.string ⟨e.toArray⟩] w' fun r w''=>r=.returned (.string ⟨(Spn.upTo x e).toArray⟩)/\w'=w''):=qh (fun w'=>spreach_any x e w')
    have hup:(Spn.upTo x e).length<=2000000:=by
      unfold Spn.upTo
      split
      · exact HLL.out.2.2.2
      · have:=HXS.out; omega
    have HJL:Hid (∀ J,o=some J->J.length<=1000000):=qh (fun J hJ=>by
      have h1:=gathP_len (ho.trans hJ)
      have:=HLL.out.1
      omega)
    have HGA:Hid (∀ w',Below w0.heap.size w0 w'->Calls Tryz.prog 44 #[.string ⟨root.toArray⟩,.string ⟨f.toArray⟩,.string ⟨(Spn.upTo x e).toArray⟩,.slice B L.length capB] w' fun r w''=>∃ (z:Value) (b:Bool),r=.returned (.tuple #[z,.bool b])/\b=o.isSome/\(∀ I,o=some I->OwnI w'' w0.heap.size z I)/\(∃ A n cap,z=.slice A n cap)/\Below w0.heap.size w0 w''):=qh (fun w' h=>by
      have h1:=spgather_any root f (Spn.upTo x e) _ L w' (HV.out.below (bchain (Below.refl _ _) h)) (HT.out.below (bchain (Below.refl _ _) h)) HLL.out.2.1 HLL.out.1 HLL.out.2.2.1 hup
      rw [ho] at h1
      exact h1.mono fun r w'' ⟨z,b,q1,q2,q3,q4,q5⟩=>⟨z,b,q1,q2,fun I hI=>(q3 I hI).low h.size,q4,bchain h q5⟩)
    obtain ⟨U,hU⟩:∃ U,Spn.upTo x e=U:=⟨_,rfl⟩
    rw [hU] at HRE HGA
    have HS:Hid (∀ w',Below w0.heap.size w0 w'->Below w0.heap.size w0 w'/\w'.cell? ⟨w.heap.size,0,none⟩=some (.slice A I.length cap)/\w'.cell? ⟨w.heap.size,1,none⟩=some (.string ⟨x.toArray⟩)/\w'.cell? ⟨w.heap.size,2,none⟩=some (.slice B L.length capB)):=qh (fun w' h=>⟨h,HP.out w' (bchain (Below.refl _ _) h)⟩)
    have BD:Below w0.heap.size w0 w0.drew:=(Below.refl _ _).drew
    clear ho hup hU
    go_enter Tryz.func19,Tryz.ntmps19
    go_upto_region 1 with fail
    clear hw0
    go_upto_region 5 with fail
    go_region_held3 (fun w'=>Below w0.heap.size w0 w'/\w'.cell? ⟨w.heap.size,0,none⟩=some (.slice A I.length cap)/\w'.cell? ⟨w.heap.size,1,none⟩=some (.string ⟨x.toArray⟩)/\w'.cell? ⟨w.heap.size,2,none⟩=some (.slice B L.length capB))
      ((refine HS.out _ ?_; first | (with_reducible assumption) | exact And.left (by with_reducible assumption)))
      (first | (go_at_call 37; refine (HRE.out _).mono ?_; rintro r wa ⟨rfl,rfl⟩) | (go_at_call 44; refine (HGA.out _ ?_).mono ?_; (first | (with_reducible assumption) | exact And.left (by with_reducible assumption)); rintro r wb ⟨z,bb,rfl,hbb,hoi,⟨Az,nz,cz,rfl⟩,hwb⟩; have HBB:=qh hbb; have HOI:=qh hoi; clear hbb hoi))
    all_goals
      have HWB:=qh (bchain (Below.refl _ _) hwb)
      obtain ⟨p0,p1,p2⟩:=HP.out _ HWB.out
      clear hwb
      cases o with
      | none=>
        obtain rfl:bb=false:=HBB.out
        go_wp2
        go_ret3
        exact SVPost.no (by rw [HRR.out,if_neg (by simp)]) (bchain HB.out HWB.out)
      | some J=>
        obtain rfl:bb=true:=HBB.out
        have hoj:=HOI.out J rfl
        have HOJ:=qh hoj
        have HEQ:=qh (fun w' (h:Below wb.heap.size wb w')=>spequal_any J I (.slice Az nz cz) (.slice A I.length cap) w' (RowsAt.inn (RowsAt.below hoj.at_ h)) (RowsIn.below HI.out (bchain HWB.out h)) (HJL.out J rfl))
        clear hoj
        go_wp2_with fail
        refine (HEQ.out _ (Below.refl _ _)).mono ?_
        rintro r wd ⟨rfl,hbd⟩
        have HBD:=qh (bchain HWB.out hbd)
        have HOD:=qh (HOJ.out.below hbd)
        obtain ⟨p0,p1,p2⟩:=HP.out _ HBD.out
        clear hbd
        by_cases hJ:J=I
        · have hd:decide (J=I)=true:=decide_eq_true hJ
          rw [hd]
          have HJI:=qh hJ
          clear hJ hd
          go_wp2_with fail
          refine (clone_any x wd HXL.out).mono ?_
          rintro r we ⟨rfl,hbe⟩
          have HBE:=qh (bchain HB.out (bchain HBD.out hbe))
          have HOE:=qh ((HOD.out.below hbe).low (B':=w.heap.size) (Nat.le_trans HB.out.size (Nat.le_refl _)))
          clear hbe
          go_wp2
          go_ret3
          exact SVPost.yes (I:=I) (by rw [HRR.out,HJI.out,if_pos rfl]) (by rw [← HJI.out]; exact HOE.out) HBE.out
        · have hd:decide (J=I)=false:=decide_eq_false hJ
          have HJN:=qh hJ
          rw [hd]
          clear hJ hd
          go_wp2
          go_ret3
          exact SVPost.no (by rw [HRR.out,if_neg (fun h=>HJN.out (Option.some.inj h))]) (bchain HB.out HBD.out)
  have q4:(x == [])=false:=beq_eq_false_iff_ne.2 hx
  have q5:x.isEmpty=false:=by cases x <;> simp_all
  have q6:(x != [])=true:=by rw [bne_iff_ne]; exact hx
  have HGO:=qh (HGK (.slice A I.length cap) I x (.slice B L.length capB) e m w0 HI.out hm)
  have HXG:Hid (Spn.goesP I x e m=true->x.length<=8):=qh (fun h=>by
    unfold Spn.goesP at h
    simp only [Bool.and_eq_true,decide_eq_true_eq] at h
    rw [h.2.1]
    exact behind_short _)
  have HX0:=qh hx
  obtain ⟨gb,hgb⟩:∃ gb,Spn.goesP I x e m=gb:=⟨_,rfl⟩
  rw [hgb] at HGO HXG ⊢
  clear hx hgb
  cases gb with
  | false=>
    rw [if_pos ⟨HX0.out,rfl⟩]
    go_enter Tryz.func19,Tryz.ntmps19
    go_upto_region 1 with fail
    clear hw0
    go_wp2_with fail
    refine HGO.out.mono ?_
    rintro r w1 ⟨rfl,hb1⟩
    have HB1:=qh hb1
    obtain ⟨p0,p1,p2⟩:=HP.out w1 hb1
    clear hb1
    go_wp2
    go_ret3
    exact SVPost.no rfl (bchain HB.out HB1.out)
  | true=>
    rw [if_neg (fun h=>by cases h.2)]
    obtain ⟨o,ho⟩:∃ o,Spn.gathP root f (Spn.upTo x e) L=o:=⟨_,rfl⟩
    rw [ho]
    obtain ⟨R,hR⟩:∃ R:St × T × Nat,(if o=some I then (I,x,0) else ([],[],130))=R:=⟨_,rfl⟩
    rw [hR]
    have HRR:=qh hR.symm
    clear hR
    have HOO:=qh ho
    clear ho
    go_enter Tryz.func19,Tryz.ntmps19
    go_upto_region 1 with fail
    clear hw0
    go_wp2_with fail
    refine HGO.out.mono ?_
    rintro r w1 ⟨rfl,hb1⟩
    have HB1:=qh hb1
    obtain ⟨p0,p1,p2⟩:=HP.out w1 hb1
    clear hb1
    have ho:=HOO.out
    have HXS:Hid (x.length<=8):=qh (by first | exact HXG.out rfl | exact HXG.out trivial)
    have HXL:Hid (x.length<=100000000):=qh (Nat.le_trans HXS.out (by decide))
    have HRE:Hid (∀ w',Calls Tryz.prog 37 #[.string ⟨x.toArray⟩,.string ⟨e.toArray⟩] w' fun r w''=>r=.returned (.string ⟨(Spn.upTo x e).toArray⟩)/\w'=w''):=qh (fun w'=>spreach_any x e w')
    have hup:(Spn.upTo x e).length<=2000000:=by
      unfold Spn.upTo
      split
      · exact HLL.out.2.2.2
      · have:=HXS.out; omega
    have HJL:Hid (∀ J,o=some J->J.length<=1000000):=qh (fun J hJ=>by
      have h1:=gathP_len (ho.trans hJ)
      have:=HLL.out.1
      omega)
    have HGA:Hid (∀ w',Below w1.heap.size w1 w'->Calls Tryz.prog 44 #[.string ⟨root.toArray⟩,.string ⟨f.toArray⟩,.string ⟨(Spn.upTo x e).toArray⟩,.slice B L.length capB] w' fun r w''=>∃ (z:Value) (b:Bool),r=.returned (.tuple #[z,.bool b])/\b=o.isSome/\(∀ I,o=some I->OwnI w'' w1.heap.size z I)/\(∃ A n cap,z=.slice A n cap)/\Below w1.heap.size w1 w''):=qh (fun w' h=>by
      have h1:=spgather_any root f (Spn.upTo x e) _ L w' (HV.out.below (bchain HB1.out h)) (HT.out.below (bchain HB1.out h)) HLL.out.2.1 HLL.out.1 HLL.out.2.2.1 hup
      rw [ho] at h1
      exact h1.mono fun r w'' ⟨z,b,q1,q2,q3,q4,q5⟩=>⟨z,b,q1,q2,fun I hI=>(q3 I hI).low h.size,q4,bchain h q5⟩)
    obtain ⟨U,hU⟩:∃ U,Spn.upTo x e=U:=⟨_,rfl⟩
    rw [hU] at HRE HGA
    have HS:Hid (∀ w',Below w1.heap.size w1 w'->Below w1.heap.size w1 w'/\w'.cell? ⟨w.heap.size,0,none⟩=some (.slice A I.length cap)/\w'.cell? ⟨w.heap.size,1,none⟩=some (.string ⟨x.toArray⟩)/\w'.cell? ⟨w.heap.size,2,none⟩=some (.slice B L.length capB)):=qh (fun w' h=>⟨h,HP.out w' (bchain HB1.out h)⟩)
    have BD:Below w1.heap.size w1 w1.drew:=(Below.refl _ _).drew
    clear ho hup hU
    go_upto_region 5 with fail
    go_region_held3 (fun w'=>Below w1.heap.size w1 w'/\w'.cell? ⟨w.heap.size,0,none⟩=some (.slice A I.length cap)/\w'.cell? ⟨w.heap.size,1,none⟩=some (.string ⟨x.toArray⟩)/\w'.cell? ⟨w.heap.size,2,none⟩=some (.slice B L.length capB))
      ((refine HS.out _ ?_; first | (with_reducible assumption) | exact And.left (by with_reducible assumption)))
      (first | (go_at_call 37; refine (HRE.out _).mono ?_; rintro r wa ⟨rfl,rfl⟩) | (go_at_call 44; refine (HGA.out _ ?_).mono ?_; (first | (with_reducible assumption) | exact And.left (by with_reducible assumption)); rintro r wb ⟨z,bb,rfl,hbb,hoi,⟨Az,nz,cz,rfl⟩,hwb⟩; have HBB:=qh hbb; have HOI:=qh hoi; clear hbb hoi))
    all_goals
      have HWB:=qh (bchain HB1.out hwb)
      obtain ⟨p0,p1,p2⟩:=HP.out _ HWB.out
      clear hwb
      cases o with
      | none=>
        obtain rfl:bb=false:=HBB.out
        go_wp2
        go_ret3
        exact SVPost.no (by rw [HRR.out,if_neg (by simp)]) (bchain HB.out HWB.out)
      | some J=>
        obtain rfl:bb=true:=HBB.out
        have hoj:=HOI.out J rfl
        have HOJ:=qh hoj
        have HEQ:=qh (fun w' (h:Below wb.heap.size wb w')=>spequal_any J I (.slice Az nz cz) (.slice A I.length cap) w' (RowsAt.inn (RowsAt.below hoj.at_ h)) (RowsIn.below HI.out (bchain HWB.out h)) (HJL.out J rfl))
        clear hoj
        go_wp2_with fail
        refine (HEQ.out _ (Below.refl _ _)).mono ?_
        rintro r wd ⟨rfl,hbd⟩
        have HBD:=qh (bchain HWB.out hbd)
        have HOD:=qh (HOJ.out.below hbd)
        obtain ⟨p0,p1,p2⟩:=HP.out _ HBD.out
        clear hbd
        by_cases hJ:J=I
        · have hd:decide (J=I)=true:=decide_eq_true hJ
          rw [hd]
          have HJI:=qh hJ
          clear hJ hd
          go_wp2_with fail
          refine (clone_any x wd HXL.out).mono ?_
          rintro r we ⟨rfl,hbe⟩
          have HBE:=qh (bchain HB.out (bchain HBD.out hbe))
          have HOE:=qh ((HOD.out.below hbe).low (B':=w.heap.size) (Nat.le_trans HB.out.size HB1.out.size))
          clear hbe
          go_wp2
          go_ret3
          exact SVPost.yes (I:=I) (by rw [HRR.out,HJI.out,if_pos rfl]) (by rw [← HJI.out]; exact HOE.out) HBE.out
        · have hd:decide (J=I)=false:=decide_eq_false hJ
          have HJN:=qh hJ
          rw [hd]
          clear hJ hd
          go_wp2
          go_ret3
          exact SVPost.no (by rw [HRR.out,if_neg (fun h=>HJN.out (Option.some.inj h))]) (bchain HB.out HBD.out)
end
section
open Go.RowKit
def Mine (Bx:Nat) (A:World) (k:Nat):Prop:=k=Bx ∨ ∃ v,A.cell? ⟨Bx,0,none⟩=some v/\v.ownBlock=some k
structure Kpt (Bx:Nat) (A B:World):Prop where
  size:A.heap.size<=B.heap.size
  keep:∀ k,k < A.heap.size->¬ Mine Bx A k->¬ Mine Bx B k/\∀ o,A.heap[k]?=some o->o.isCells=true->B.heap[k]?=some o
theorem Kpt.refl (Bx:Nat) (A:World):Kpt Bx A A:=⟨Nat.le_refl _,fun _ _ h=>⟨h,fun _ h _=>h⟩⟩
theorem Kpt.trans {Bx:Nat} {A B C:World} (h:Kpt Bx A B) (g:Kpt Bx B C):Kpt Bx A C:=
  ⟨Nat.le_trans h.size g.size,fun k hk hm=>by
    obtain ⟨h1,h2⟩:=h.keep k hk hm
    obtain ⟨g1,g2⟩:=g.keep k (Nat.lt_of_lt_of_le hk h.size) h1
    exact ⟨g1,fun o ho hc=>g2 o (h2 o ho hc) hc⟩⟩
theorem Mine.of_below {Bx:Nat} {A B:World} (h:Below A.heap.size A B) (hB:Bx < A.heap.size) (k:Nat):Mine Bx B k ↔ Mine Bx A k:=by
  unfold Mine
  rw [World.cell?_of_block (w:=A) (w':=B) (a:=⟨Bx,0,none⟩) (h.block Bx hB)]
theorem Kpt.of_below {Bx:Nat} {A B:World} (h:Below A.heap.size A B) (hB:Bx < A.heap.size):Kpt Bx A B:=
  ⟨h.size,fun k hk hm=>⟨fun e=>hm ((Mine.of_below h hB k).1 e),fun _ ho _=>(h.block k hk).trans ho⟩⟩
theorem kpt_t {Bx:Nat} {A B C:World} (h:Kpt Bx A B) (g:Kpt Bx B C):Kpt Bx A C:=h.trans g
theorem kpt_b {Bx:Nat} {w:World} (hB:Bx < w.heap.size) (W:World) (l:Nat) (o o':Obj) (hl:w.heap.size<=l) (h:W.heap[l]?=some o) (hc:o.isCells=false) (_:o.isWalk=false):Kpt Bx W (W.putObj l o'):=by
  have hg:=grownBy_putObj' W l o'
  have hlt:=lt_of_heap h
  have hsame:∀ k,k < W.heap.size->k ≠ l->(W.putObj l o').heap[k]?=W.heap[k]?:=fun k hk hn=>hg.block k hk (fun e=>hn (Option.some.inj e))
  refine ⟨hg.size,fun k hk hm=>⟨?_,fun o1 ho hc1=>?_⟩⟩
  · unfold Mine
    rw [World.cell?_of_block (w:=W) (a:=⟨Bx,0,none⟩) (hsame Bx (by omega) (by omega))]
    exact hm
  · by_cases e:k=l
    · subst e; rw [h] at ho; cases ho; rw [hc] at hc1; cases hc1
    · exact (hsame k hk e).trans ho
theorem Kpt.heap {Bx:Nat} {A B:World} (h:Kpt Bx A B) {k:Nat} {c:Array Value} {t:TypeId} {p:Nat × Nat} (hk:A.heap[k]?=some (.cells c t p)) (hm:¬ Mine Bx A k):B.heap[k]?=some (.cells c t p)/\¬ Mine Bx B k:=
  let ⟨h1,h2⟩:=h.keep k (lt_of_heap hk) hm
  ⟨h2 _ hk rfl,h1⟩
theorem grown_of_below {A B:World} (h:Below A.heap.size A B):A.grownBy B none:=⟨h.os,h.tape,h.output,h.size,fun k hk _=>h.block k hk⟩
theorem abides_below {β:Type} {B:Nat} {J:β->World->Prop} (h:AbidesFrom B J) {s:β} {A C:World} (hs:J s A) (hb:Below A.heap.size A C):J s C:=
  h s A C none hs (grown_of_below hb) (fun r e=>by cases e)
end
section
open Go.RowKit Go.Shelf
open Sto (T St)
attribute [local go_sem] Oper.semAt_some
def itv (x:T × T):Value:=.agg #[.string ⟨x.1.toArray⟩,.string ⟨x.2.toArray⟩]
theorem Scn.allR_past {S:St} (hS:Sto.Rising S) {f e:T} {k:Nat} (hk:k < S.length) (he:e ≠ []) (h:e<=S[k].1):Scn.allR S f e=Scn.allR (S.take k) f e:=by
  have hd:Scn.allR (S.drop k) f e=[]:=by
    unfold Scn.allR
    rw [List.filter_eq_nil_iff]
    intro x hx
    have hle:S[k].1<=x.1:=by
      rw [List.drop_eq_getElem_cons hk] at hx
      rcases List.mem_cons.1 hx with rfl | hx
      · exact List.le_refl _
      · have hr:Sto.Rising (S.drop k):=List.Pairwise.sublist (List.drop_sublist _ _) hS
        rw [List.drop_eq_getElem_cons hk] at hr
        exact List.le_of_lt ((List.pairwise_cons.1 hr).1 x hx)
    simp only [Scn.inR,Bool.and_eq_true,Bool.or_eq_true,decide_eq_true_eq,not_and,not_or]
    exact fun _=>⟨he,List.not_lt.2 (List.le_trans h hle)⟩
  conv=>lhs; rw [← List.take_append_drop k S]
  unfold Scn.allR at hd ⊢
  rw [List.filter_append,hd,List.append_nil]
theorem Scn.allR_pre (S:St) (f e:T) (k:Nat):Scn.allR (S.take k) f e <+: Scn.allR S f e:=by
  refine ⟨Scn.allR (S.drop k) f e,?_⟩
  unfold Scn.allR
  rw [← List.filter_append,List.take_append_drop]
def WithinPost (w:World) (g:Nat) (f e:T) (x:Ending) (w':World):Prop:=
  x=.returned (.func (.func 102) #[] #[.pointer (some ⟨w.heap.size,0,none⟩),.pointer (some ⟨w.heap.size+1,0,none⟩),.pointer (some ⟨w.heap.size+1+1,0,none⟩)])/\
    w'=((w.alloc (.cells #[ptr g] 26)).alloc (.cells #[.string ⟨f.toArray⟩] 9)).alloc (.cells #[.string ⟨e.toArray⟩] 9)
theorem within_any (g:Nat) (f e:T) (w:World):Calls Tryz.prog 64 #[ptr g,.string ⟨f.toArray⟩,.string ⟨e.toArray⟩] w (WithinPost w g f e):=by
  unfold WithinPost ptr
  have hmf:∀ (fn:Fn) (first cap:Array Value) (w:World),(Instr.makeFunc fn first cap).run Tryz.prog w=.ok (.func fn first cap) w:=fun _ _ _ _=>rfl
  go_enter Tryz.func64,Tryz.ntmps64
  go_wp2
  go_ret
  exact ⟨rfl,rfl⟩
theorem within_core (n:Nat) (hn:1<=n) (Bx b1 b2 b3 g:Nat) (S:St) (f e:T) (u:Value) (w:World) (hT:TrAt w g S)
    (h1:w.heap[b1]?=some (.cells #[ptr g] 26 (0,0))) (h2:w.heap[b2]?=some (.cells #[.string ⟨f.toArray⟩] 9 (0,0))) (h3:w.heap[b3]?=some (.cells #[.string ⟨e.toArray⟩] 9 (0,0)))
    (n2:b2 ≠ Bx) (n3:b3 ≠ Bx) (hx:w.cell? ⟨Bx,0,none⟩=some u) (hu:u.ownBlock=none)
    (l:Nat) (J Jx:St->World->Prop) (W:World) (hW:Below w.heap.size w W) (hJ:AbidesFrom W.heap.size J)
    (hY:∀ pre x W1,x.1.length<=8->J pre W1->pre.length < (Scn.allR S f e).length->YieldAt Fence.wide (n - 1) Tryz.prog l #[itv x] W1 fun x' W'=>
      (x'=.returned (.bool true)/\J (pre ++ [x]) W'/\Kpt Bx W1 W') ∨ (x'=.returned (.bool false)/\Jx (pre ++ [x]) W'))
    (h0:J [] W):
    CallsIn Fence.wide n Tryz.prog 102 #[.func (.yield l) #[] #[],.pointer (some ⟨b1,0,none⟩),.pointer (some ⟨b2,0,none⟩),.pointer (some ⟨b3,0,none⟩)] W fun x' W'=>(∃ v,x'=.returned v)/\((∃ xs,xs=Scn.allR S f e/\J xs W') ∨ (∃ pre,pre <+: Scn.allR S f e/\Jx pre W')):=by
  have hBx:Bx < w.heap.size:=World.block_lt_of_cell? w ⟨Bx,0,none⟩ hx
  have hxW:W.cell? ⟨Bx,0,none⟩=some u:=(hW.cell (p:=⟨Bx,0,none⟩) hBx).trans hx
  have hm:∀ k,k ≠ Bx->¬ Mine Bx W k:=fun k hk e=>by
    rcases e with e | ⟨v,hv,ho⟩
    · exact hk e
    · rw [hxW] at hv; cases hv; rw [hu] at ho; cases ho
  have hbW:Bx < W.heap.size:=Nat.lt_of_lt_of_le hBx hW.size
  have e1:W.heap[b1]?=_:=(hW.block b1 (lt_of_heap h1)).trans h1
  have e2:W.heap[b2]?=_:=(hW.block b2 (lt_of_heap h2)).trans h2
  have e3:W.heap[b3]?=_:=(hW.block b3 (lt_of_heap h3)).trans h3
  have HIT:=qh (sitems_any W (hT.below hW))
  have HTS:=qh hT.rise
  have HTF:=qh hT.few
  have HK8:Hid (∀ q ∈ S,q.1.length<=8):=qh (fun q hq=>by
    obtain ⟨_,_,_,_,h⟩:=hT
    exact (h.fair q hq).2.1)
  have c1:=cell_of_one e1
  unfold ptr at c1 HIT
  have HY:=qh hY
  have HJ:=qh hJ
  have H0:=qh h0
  have HM:=qh hm
  have HE:Hid (W.heap[b2]?=some (.cells #[.string ⟨f.toArray⟩] 9 (0,0))/\W.heap[b3]?=some (.cells #[.string ⟨e.toArray⟩] 9 (0,0))):=qh ⟨e2,e3⟩
  have HN:Hid (b2 ≠ Bx/\b3 ≠ Bx):=qh ⟨n2,n3⟩
  have HBW:=qh hbW
  clear hT h1 h2 h3 n2 n3 hx hu hBx hxW hm hbW e1 e2 e3 hY hJ h0 hW
  refine callsIn_of_wp Tryz.func102 rfl trivial ?_ rfl
  simp only [Tryz.ntmps102,List.size_toArray,List.length_cons,List.length_nil,Nat.reduceAdd,Nat.reduceSub,Array.replicate_succ,Array.replicate_zero,List.push_toArray,List.append_toArray,List.nil_append,List.cons_append]
  gi_wp2_with (refine ⟨trivial,?_⟩; gi_at_call 49; refine (callsIn_wide.2 HIT.out).mono ?_; rintro x w1 ⟨z,rfl,hz,hb1⟩; obtain ⟨A,cap,rfl,-,-⟩:=hz.at_.form)
  have HZ:=qh hz
  have HB1:=qh hb1
  have HJ1:Hid (J (Scn.allR (S.take 0) f e) w1):=qh (abides_below HJ.out (by simpa [Scn.allR] using H0.out) hb1)
  have HMO:Hid (∀ k,(Value.slice A S.length cap).ownBlock=some k->¬ Mine Bx w1 k):=qh (fun k hk=>by
    rw [Mine.of_below hb1 HBW.out]
    have:=(OwnI.lt hz k hk).1
    have:=HBW.out
    exact HM.out k (by omega))
  have HE1:Hid (∀ wr,Kpt Bx w1 wr->wr.cell? ⟨b2,0,none⟩=some (.string ⟨f.toArray⟩)/\wr.cell? ⟨b3,0,none⟩=some (.string ⟨e.toArray⟩)/\OwnI wr 0 (.slice A S.length cap) S):=qh (fun wr hk=>by
    have k1:=Kpt.of_below hb1 HBW.out
    have k2:=k1.trans hk
    refine ⟨cell_of_one (k2.heap HE.out.1 (HM.out _ HN.out.1)).1,cell_of_one (k2.heap HE.out.2 (HM.out _ HN.out.2)).1,?_⟩
    refine ⟨hz.1,?_⟩
    rcases hz.2 with h | ⟨gb,cp,cur,he,hB,hh,hr⟩
    · exact Or.inl h
    · exact Or.inr ⟨gb,cp,cur,he,Nat.zero_le _,(hk.heap hh (HMO.out gb (by rw [he]; rfl))).1,hr⟩)
  have HX1:Hid (Bx < w1.heap.size):=qh (Nat.lt_of_lt_of_le HBW.out hb1.size)
  clear hz hb1 c1
  gi_loopw [11] (fun iv wr=>∃ k:Nat,k<=S.length/\iv=.int .i64 k/\J (Scn.allR (S.take k) f e) wr/\Kpt Bx w1 wr) (fun i _=>S.length - (intOf i).toNat)
  case atStart=>exact ⟨0,Nat.zero_le _,rfl,HJ1.out,Kpt.refl _ _⟩
  case round=>
    obtain ⟨k,hk,rfl,hj,hkp⟩:=hrel
    have HJR:=qh hj
    have HKP:=qh hkp
    clear hj hkp
    by_cases hlt:k < S.length
    · obtain ⟨m2,m3,hown⟩:=HE1.out wr HKP.out
      obtain ⟨b,o,rfl,n0,nv⟩:=ItAt.at hown.at_ k hlt
      have HTA:=qh (Scn.allR_take S f e k hlt)
      have HPR:=qh (Scn.allR_pre S f e)
      have HPA:Hid (e ≠ []->e<=S[k].1->Scn.allR S f e=Scn.allR (S.take k) f e):=qh (Scn.allR_past HTS.out hlt)
      obtain ⟨⟨x,y⟩,hx⟩:∃ p,S[k]=p:=⟨_,rfl⟩
      have hx8:x.length<=8:=by have:=HK8.out _ (List.getElem_mem hlt); rwa [hx] at this
      rw [hx] at n0 nv HTA HPA
      dsimp only at n0 nv HTA HPA
      have HBA:Hid (Below wr.heap.size wr (wr.alloc (.cells #[.string ⟨x.toArray⟩,.string ⟨y.toArray⟩] 60))):=qh ((Below.refl _ wr).alloc (Nat.le_refl _) _)
      have HKA:=qh (HKP.out.trans (Kpt.of_below HBA.out (Nat.lt_of_lt_of_le HX1.out HKP.out.size)))
      have HJA:=qh (abides_below HJ.out HJR.out HBA.out)
      obtain ⟨m2,m3,-⟩:=HE1.out _ HKA.out
      have hnb:(k:Int)<=100000:=by have:=HTF.out; omega
      clear hown hx
      have hyield:Scn.inR f e x=true->_:=fun hin=>HY.out (Scn.allR (S.take k) f e) (x,y) _ hx8 HJA.out (by
        have h1:=(HPR.out (k+1)).length_le
        rw [HTA.out,hin] at h1
        simp at h1
        omega)
      have HNX:Hid (Scn.inR f e x=true->Scn.allR (S.take (k+1)) f e=Scn.allR (S.take k) f e ++ [(x,y)]):=qh (fun hin=>by rw [HTA.out,hin]; simp)
      by_cases hf:x < f
      ·
        have q1:Op.bytesLess x f=true:=by rw [less_lt]; exact decide_eq_true hf
        have HSK:Hid (Scn.allR (S.take (k+1)) f e=Scn.allR (S.take k) f e):=qh (by
          rw [HTA.out,if_neg,List.append_nil]
          simp only [Scn.inR,Bool.and_eq_true,decide_eq_true_eq,not_and]
          exact fun h=>absurd hf (List.not_lt.2 h))
        clear hf hyield
        gi_wp2
        exact ⟨⟨k+1,by omega,by go_num,by rw [HSK.out]; exact HJA.out,HKA.out⟩,by simp [intOf]; omega⟩
      have q1:Op.bytesLess x f=false:=by rw [less_lt]; exact decide_eq_false hf
      by_cases hp:e ≠ []/\e<=x
      ·
        have q2:Op.bytesLess x e=false:=by rw [less_lt]; exact decide_eq_false (List.not_lt.2 hp.2)
        have q3:(e == [])=false:=beq_eq_false_iff_ne.2 hp.1
        have q4:e.isEmpty=false:=by cases e <;> simp_all
        have HEND:Hid (J (Scn.allR S f e) (wr.alloc (.cells #[.string ⟨x.toArray⟩,.string ⟨y.toArray⟩] 60))):=qh (by rw [HPA.out hp.1 hp.2]; exact HJA.out)
        clear hf hp hyield
        gi_wp2
        refine ⟨fun _ h=>(by cases h),?_⟩
        gi_wp2
        refine bodyPost_ret (results_none rfl _ _ _) rfl ?_
        exact ⟨⟨_,rfl⟩,.inl ⟨_,rfl,HEND.out⟩⟩
      have HIN:Hid (Scn.inR f e x=true):=qh (by
        simp only [Scn.inR,Bool.and_eq_true,Bool.or_eq_true,decide_eq_true_eq]
        refine ⟨List.not_lt.1 hf,?_⟩
        by_cases h:e=[]
        · exact Or.inl h
        · exact Or.inr (Classical.byContradiction fun h2=>hp ⟨h,List.not_lt.1 h2⟩))
      have HPS:Hid ((e == [])=true/\e.isEmpty=true ∨ ((e == [])=false/\e.isEmpty=false/\Op.bytesLess x e=true)):=qh (by
        by_cases h:e=[]
        · left; subst h; exact ⟨rfl,rfl⟩
        · right
          refine ⟨beq_eq_false_iff_ne.2 h,by cases e <;> simp_all,?_⟩
          rw [less_lt]; exact decide_eq_true (Classical.byContradiction fun h2=>hp ⟨h,List.not_lt.1 h2⟩))
      obtain ⟨fn,tmps,assign,body,hy,hR⟩:=hyield HIN.out
      have hy:(Instr.yield l #[.agg #[.string ⟨x.toArray⟩,.string ⟨y.toArray⟩]]).run Tryz.prog (wr.alloc (.cells #[.string ⟨x.toArray⟩,.string ⟨y.toArray⟩] 60))=.ok (.round l fn tmps assign body) (wr.alloc (.cells #[.string ⟨x.toArray⟩,.string ⟨y.toArray⟩] 60)):=hy
      have HR:=qh hR
      have HLE:Hid (k < S.length):=qh hlt
      clear hf hp hyield hR
      rcases HPS.out with ⟨q3,q4⟩ | ⟨q3,q4,q2⟩
      all_goals
        gi_wp2
        refine HR.out.mono ?_
        rintro e W3 (⟨rfl,hJ3,hk3⟩ | ⟨rfl,hJx3⟩)
        · have HJ3:=qh hJ3
          have HK3:=qh (HKA.out.trans hk3)
          clear hJ3 hk3
          gi_wp2
          exact ⟨⟨k+1,by omega,by go_num,by rw [HNX.out HIN.out]; exact HJ3.out,HK3.out⟩,by simp [intOf]; omega⟩
        · gi_wp2
          refine bodyPost_ret (results_none rfl _ _ _) rfl ?_
          exact ⟨⟨_,rfl⟩,.inr ⟨_,by rw [← HNX.out HIN.out]; exact HPR.out _,hJx3⟩⟩
    · obtain rfl:k=S.length:=by omega
      have HEND:Hid (J (Scn.allR S f e) wr):=qh (by have:=HJR.out; rwa [List.take_length] at this)
      gi_wp2
      go_end0
      exact ⟨⟨_,rfl⟩,.inl ⟨_,rfl,HEND.out⟩⟩
abbrev Itm:={ x:T × T // x.1.length<=8 }
def Itm.all (L:List Itm):St:=L.map Subtype.val
theorem within_stops8 (n:Nat) (hn:1<=n) (Bx b1 b2 b3 g:Nat) (S:St) (f e:T) (u:Value) (w:World) (hT:TrAt w g S)
    (h1:w.heap[b1]?=some (.cells #[ptr g] 26 (0,0))) (h2:w.heap[b2]?=some (.cells #[.string ⟨f.toArray⟩] 9 (0,0))) (h3:w.heap[b3]?=some (.cells #[.string ⟨e.toArray⟩] 9 (0,0)))
    (n2:b2 ≠ Bx) (n3:b3 ≠ Bx) (hx:w.cell? ⟨Bx,0,none⟩=some u) (hu:u.ownBlock=none):
    SeqStopsK Fence.wide n Tryz.prog 102 #[.pointer (some ⟨b1,0,none⟩),.pointer (some ⟨b2,0,none⟩),.pointer (some ⟨b3,0,none⟩)] (fun x:Itm=>#[itv x.1]) (Kpt Bx) (fun xs=>Itm.all xs=Scn.allR S f e) (fun pre=>Itm.all pre <+: Scn.allR S f e) (Scn.allR S f e).length w:=by
  intro l J Jx W hW hJ hJx hY h0
  refine (within_core n hn Bx b1 b2 b3 g S f e u w hT h1 h2 h3 n2 n3 hx hu l (fun pre W=>∃ p,Itm.all p=pre/\J p W) (fun pre W=>∃ p,Itm.all p=pre/\Jx p W) W hW ?_ ?_ ⟨[],rfl,h0⟩).mono ?_
  · rintro s A B row ⟨p,hp,hj⟩ hg hr
    exact ⟨p,hp,hJ p A B row hj hg hr⟩
  · rintro pre x W1 hx8 ⟨p,rfl,hj⟩ hl
    refine YieldAt.mono (hY p ⟨x,hx8⟩ W1 hj (by simpa [Itm.all] using hl)) ?_
    rintro y W' (⟨rfl,h4,h5⟩ | ⟨rfl,h4⟩)
    · exact Or.inl ⟨rfl,⟨_,by simp [Itm.all],h4⟩,h5⟩
    · exact Or.inr ⟨rfl,⟨_,by simp [Itm.all],h4⟩⟩
  · rintro y W' ⟨hv,⟨xs,rfl,p,hp,hj⟩ | ⟨pre,hpre,p,rfl,hj⟩⟩
    · exact ⟨hv,Or.inl ⟨p,hp,hj⟩⟩
    · exact ⟨hv,Or.inr ⟨p,hpre,hj⟩⟩
end
end Go.Proofs.YtaficmboooaknaaGreatDoor
