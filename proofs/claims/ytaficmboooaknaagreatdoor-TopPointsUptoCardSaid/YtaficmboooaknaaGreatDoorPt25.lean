import Derived.WalkMore
import Derived.Test.YtaficmboooaknaaGreatDoorPt24
import Derived.Shelf.SlIterI.Nil
import Derived.Shelf.SortM.Plain
import Derived.Shelf.SortM.SortNone
import Derived.Shelf.SlGeneric
set_option maxRecDepth 100000
set_option maxHeartbeats 16000000
namespace Go.Proofs.YtaficmboooaknaaGreatDoor
section
open Go.RowKit
open Sto (T St)
open Nd (N)
def nlen:Value->Nat
  | .slice _ n _=>n
  | _=>0
def FolPost (o:Option T) (w:World) (e:Ending) (w':World):Prop:=
  e=.returned (.tuple #[.string ⟨(o.getD []).toArray⟩,.int .i64 (if o.isSome then 0 else 130)])/\Below w.heap.size w w'
theorem FolPost.yes {o:Option T} {v:T} {w w':World} (h:o=some v) (hb:Below w.heap.size w w'):FolPost o w (.returned (.tuple #[.string ⟨v.toArray⟩,.int .i64 0])) w':=by
  subst h
  exact ⟨rfl,hb⟩
theorem FolPost.no {o:Option T} {w w':World} (h:o=none) (hb:Below w.heap.size w w'):FolPost o w (.returned (.tuple #[.string ⟨#[]⟩,.int .i64 130])) w':=by
  subst h
  exact ⟨rfl,hb⟩
theorem follow_any (s0 l0:T) (v:Value) (L0:List T) (w:World) (hv:StrsC w v L0) (hT:Tab w) (hL:∀ x∈L0,x.length<=1000000) (hf0:Nib.fitL l0=true) (hl0:l0.length<=1000):
    Calls Tryz.prog 58 #[.string ⟨s0.toArray⟩,.string ⟨l0.toArray⟩,v] w (FolPost (Prf.fol s0 l0 L0) w):=by
  obtain ⟨o,ho⟩:∃ o,Prf.fol s0 l0 L0=o:=⟨_,rfl⟩
  rw [ho]
  have HT:=qh hT
  have HCU:=qh (fun (s p:T) w=>cut_any s p w)
  have H0:=qh (show StrsC w v L0/\Prf.fol s0 l0 L0=o/\Nib.fitL l0=true/\l0.length<=1000/\∀ x∈L0,x.length<=1000000 from ⟨hv,ho,hf0,hl0,hL⟩)
  have HI19:Hid ((Tryz.prog.info? 110).map (·.size)=some 19):=qh (by kernel_rfl)
  clear hv hT hL hf0 hl0 ho
  go_enter Tryz.func58,Tryz.ntmps58
  go_wp2
  go_step3
  go_wp2
  go_step3
  go_wp2
  go_loopw [0,1,2,6] (fun sv lv nv xv wr=>∃ (s l:T) (L:List T) (zv:Value),zv=nv/\xv=.string ⟨#[]⟩/\sv=.string ⟨s.toArray⟩/\lv=.string ⟨l.toArray⟩/\StrsC wr zv L/\Prf.fol s l L=o/\Nib.fitL l=true/\l.length<=1000/\(∀ x∈L,x.length<=1000000)/\Below w.heap.size w wr) (fun _ _ nv _ _=>nlen nv)
  case atStart=>
    obtain ⟨h1,h2,h3,h4,h5⟩:=H0.out
    exact ⟨s0,l0,L0,_,rfl,rfl,rfl,rfl,h1,h2,h3,h4,h5,Below.refl _ _⟩
  case round=>
    obtain ⟨s,l,L,zv,rfl,rfl,rfl,rfl,hst,hfo,hfit,hl,hL,hb⟩:=hrel
    have HB:=qh hb
    have HST:=qh hst
    by_cases hs:s=[]
    · subst hs
      rw [Prf.fol_nil] at hfo
      obtain ⟨A,cap,rfl,-⟩:=hst.form
      by_cases hn:L=[]
      · subst hn
        rw [if_pos rfl] at hfo
        have HO:=qh hfo.symm
        clear hst hfo hfit hl hL hb
        go_wp2
        try rw [Exit.noGoto_ret]
        go_ret2
        exact FolPost.yes (v:=[]) HO.out HB.out
      · rw [if_neg hn] at hfo
        have HO:=qh hfo.symm
        have q1:(0:Int)<(L.length:Int):=by have:=List.length_pos_iff.2 hn; omega
        clear hst hfo hfit hl hL hb hn
        go_wp2
        try rw [Exit.noGoto_ret]
        go_ret2
        exact FolPost.no HO.out HB.out
    have q1:(s == [])=false:=beq_eq_false_iff_ne.2 hs
    have q2:(s != [])=true:=by rw [bne_iff_ne]; exact hs
    have q3:s.isEmpty=false:=by cases s <;> simp_all
    have HFI:=qh (pfirst_any L s zv wr hst (HT.out.below hb) hL)
    unfold FirstPost at HFI
    have HS:=qh hs
    have HFO:=qh hfo
    have HFT:=qh hfit
    have HL1:=qh hl
    have HLS:=qh hL
    clear hst hfo hfit hb hs hL hl
    go_wp2_with fail
    refine HFI.out.mono ?_
    rintro e w2 ⟨n,bb,rfl,hn16,hb2,his⟩
    have HIS:=qh his
    have HN16:=qh hn16
    have HB2:=qh (bchain HB.out (hb2.alloc hb2.size (.cells (ncl n).toArray 110)))
    have HST2:=qh (HST.out.below (hb2.alloc hb2.size (.cells (ncl n).toArray 110)))
    have HON:=qh (ncl_one n)
    have HSN:Hid ((ncl n).toArray.size=19):=qh (by rw [List.size_toArray,ncl_length n hn16])
    have HNW:Hid (NodeAt (w2.alloc (.cells (ncl n).toArray 110)) w2.heap.size n):=qh (heap_new_at w2 _ _ rfl)
    unfold ndval
    obtain ⟨C,hC⟩:∃ C,(ncl n).toArray=C:=⟨_,rfl⟩
    rw [hC] at HON HSN HNW HB2 HST2 ⊢
    have HI:Hid ((Tryz.prog.info? 110).map (·.size)=some C.size):=qh (by rw [HSN.out]; exact HI19.out)
    have cn0:=HNW.out.kind
    clear his hn16 hb2 hC HFI
    cases L with
    | nil=>
      obtain rfl:bb=false:=HIS.out
      have HO:Hid (o=none):=qh (by rw [← HFO.out]; exact Prf.fol_none HS.out)
      clear cn0
      go_wp2_with (refine wpList_store_fresh (by rfl) _ _ _ (by rfl) w2.heap.size rfl C (by rfl) (by rfl) _ _ HI.out HSN.out.symm HON.out ?_)
      try rw [Exit.noGoto_ret]
      go_ret2
      exact FolPost.no HO.out HB2.out
    | cons x r=>
      cases bb with
      | false=>
        have HO:Hid (o=none):=qh (by rw [← HFO.out]; exact Prf.fol_bad HS.out HIS.out.1.symm)
        clear cn0
        go_wp2_with (refine wpList_store_fresh (by rfl) _ _ _ (by rfl) w2.heap.size rfl C (by rfl) (by rfl) _ _ HI.out HSN.out.symm HON.out ?_)
        try rw [Exit.noGoto_ret]
        go_ret2
        exact FolPost.no HO.out HB2.out
      | true=>
        have hN:Prf.isN s x=true:=HIS.out.1.symm
        have hX:(Nd.dec x).1=n:=HIS.out.2 rfl
        have hto:Prf.Told n:=by rw [← hX]; exact Prf.Told.of (of_decide_eq_true hN).2
        obtain ⟨A,cap,hz,-⟩:=HST2.out.form
        subst hz
        obtain ⟨A',cap',hrun,hst3⟩:=HST2.out.tail
        have hrl:nlen (.slice A' r.length cap')<nlen (.slice A (x::r).length cap):=by simp [nlen]
        have HRL:=qh hrl
        have HRS:Hid (∀ x∈r,x.length<=1000000):=qh (fun y hy=>HLS.out y (List.mem_cons_of_mem _ hy))
        obtain ⟨nn,hnn⟩:∃ nn,(x::r).length=nn:=⟨_,rfl⟩
        rw [hnn] at hrun ⊢
        obtain ⟨rn,hrn⟩:∃ rn,r.length=rn:=⟨_,rfl⟩
        rw [hrn] at hrun HRL hst3
        have HRN:=qh hrn
        have HST3:=qh hst3
        have cn1:=HNW.out.path
        have cn2:=HNW.out.val
        have HKI:Hid (∀ i (h:i<n.kids.length),(w2.alloc (.cells C 110)).cell? ⟨w2.heap.size,3+i,none⟩=some (.string ⟨n.kids[i].toArray⟩)):=qh (fun i h=>HNW.out.kid i h)
        have HTO:=qh hto
        have HNN:=qh hN
        have HXX:=qh hX
        have hkind:=hto.kind
        clear hto hN hX hst3 hrl hnn hrn
        go_upto_region 5 with (refine wpList_store_fresh (by rfl) _ _ _ (by rfl) w2.heap.size rfl C (by rfl) (by rfl) _ _ HI.out HSN.out.symm HON.out ?_)
        obtain ⟨q,hq⟩:∃ q,w2.heap.size=q:=⟨_,rfl⟩
        rw [hq] at cn0 cn1 cn2 HKI ⊢
        obtain ⟨w3,hw3⟩:∃ w3,w2.alloc (.cells C 110)=w3:=⟨_,rfl⟩
        rw [hw3] at cn0 cn1 cn2 HKI HB2 HST3 ⊢
        clear hq hw3 HNW HST2 HST HB
        obtain ⟨kd,P,V,K⟩:=n
        dsimp only at cn0 cn1 cn2 HKI hkind
        rcases hkind with rfl | ⟨rfl,hk0⟩ | rfl
        · have hfo:Prf.fol s l (x::r)=_:=Prf.fol_leaf HS.out HNN.out HXX.out rfl
          dsimp only at hfo
          rw [HFO.out] at hfo
          by_cases hr:r=[]
          · subst hr
            obtain rfl:rn=0:=HRN.out.symm
            rw [if_pos rfl] at hfo
            by_cases hp:P=l
            · subst hp
              rw [if_pos rfl] at hfo
              have HO:=qh hfo
              have y1:(P == P)=true:=beq_self_eq_true _
              clear hfo
              go_wp2
              try rw [Exit.noGoto_ret]
              go_ret2
              exact FolPost.yes (v:=V) HO.out HB2.out
            · rw [if_neg hp] at hfo
              have HO:=qh hfo
              have y1:(P == l)=false:=beq_eq_false_iff_ne.2 hp
              clear hfo hp
              go_wp2
              try rw [Exit.noGoto_ret]
              go_ret2
              exact FolPost.yes (v:=[]) HO.out HB2.out
          · rw [if_neg hr] at hfo
            have HO:=qh hfo
            have z1:(0:Int)<(rn:Int):=by have:=List.length_pos_iff.2 hr; have:=HRN.out; omega
            have z2:0<rn:=by omega
            by_cases hp:P=l
            · subst hp
              have y1:(P == P)=true:=beq_self_eq_true _
              clear hfo hr
              go_wp2
              try rw [Exit.noGoto_ret]
              go_ret2
              exact FolPost.no HO.out HB2.out
            · have y1:(P == l)=false:=beq_eq_false_iff_ne.2 hp
              clear hfo hp hr
              go_wp2
              try rw [Exit.noGoto_ret]
              go_ret2
              exact FolPost.no HO.out HB2.out
        · have HCP:=qh (fun w=>HCU.out l P w)
          by_cases hp:l.take P.length=P
          · have hfo:Prf.fol s l (x::r)=_:=Prf.fol_ext HS.out HNN.out HXX.out rfl hk0 hp
            try dsimp only at hfo
            rw [HFO.out] at hfo
            have ecut:cutP l P=l.drop P.length:=by unfold cutP; rw [if_pos hp]
            rw [decide_eq_true hp,ecut] at HCP
            have cn3:=HKI.out 0 (by rw [HN16.out]; omega)
            have ek:K.getD 0 []=K[0]'(by have:=HN16.out; dsimp only at this; omega):=by
              rw [List.getD_eq_getElem?_getD,List.getElem?_eq_getElem (by have:=HN16.out; dsimp only at this; omega)]
              rfl
            rw [ek] at hfo
            obtain ⟨k0,hk0'⟩:∃ k0,K[0]'(by have:=HN16.out; dsimp only at this; omega)=k0:=⟨_,rfl⟩
            try dsimp only at cn3
            rw [hk0'] at cn3 hfo
            simp only [Nat.add_zero] at cn3
            have hfd:Nib.fitL (l.drop P.length)=true:=Tri.fit_drop _ HFT.out
            have hld:(l.drop P.length).length<=1000:=by have:=HL1.out; rw [List.length_drop]; omega
            obtain ⟨l2,hl2⟩:∃ l2,l.drop P.length=l2:=⟨_,rfl⟩
            rw [hl2] at HCP hfo hfd hld
            have HNX:=qh (show Prf.fol k0 l2 r=o/\Nib.fitL l2=true/\l2.length<=1000 from ⟨hfo.symm,hfd,hld⟩)
            clear hfo hp ecut hk0 ek hk0' hfd hld hl2
            go_wp2_with fail
            refine (HCP.out _).mono ?_
            rintro e w4 ⟨rfl,rfl⟩
            go_wp2
            obtain ⟨a1,a2,a3⟩:=HNX.out
            exact ⟨⟨k0,l2,r,_,rfl,rfl,rfl,rfl,HST3.out,a1,a2,a3,HRS.out,HB2.out⟩,HRL.out⟩
          · have hfo:Prf.fol s l (x::r)=_:=Prf.fol_off HS.out HNN.out HXX.out rfl hp
            rw [HFO.out] at hfo
            rw [decide_eq_false hp] at HCP
            clear hp hk0
            by_cases hr:r=[]
            · subst hr
              obtain rfl:rn=0:=HRN.out.symm
              rw [if_pos rfl] at hfo
              have HO:=qh hfo
              clear hfo
              go_wp2_with fail
              refine (HCP.out _).mono ?_
              rintro e w4 ⟨rfl,rfl⟩
              go_wp2
              try rw [Exit.noGoto_ret]
              go_ret2
              exact FolPost.yes (v:=[]) HO.out HB2.out
            · rw [if_neg hr] at hfo
              have HO:=qh hfo
              have z1:(0:Int)<(rn:Int):=by have:=List.length_pos_iff.2 hr; have:=HRN.out; omega
              have z2:0<rn:=by omega
              clear hfo hr
              go_wp2_with fail
              refine (HCP.out _).mono ?_
              rintro e w4 ⟨rfl,rfl⟩
              go_wp2
              try rw [Exit.noGoto_ret]
              go_ret2
              exact FolPost.no HO.out HB2.out
        · cases l with
          | nil=>
            have hfo:Prf.fol s [] (x::r)=_:=Prf.fol_end HS.out HNN.out HXX.out rfl
            try dsimp only at hfo
            rw [HFO.out] at hfo
            by_cases hr:r=[]
            · subst hr
              obtain rfl:rn=0:=HRN.out.symm
              rw [if_pos rfl] at hfo
              have HO:=qh hfo
              clear hfo
              go_wp2
              try rw [Exit.noGoto_ret]
              go_ret2
              exact FolPost.yes (v:=V) HO.out HB2.out
            · rw [if_neg hr] at hfo
              have HO:=qh hfo
              have z1:(0:Int)<(rn:Int):=by have:=List.length_pos_iff.2 hr; have:=HRN.out; omega
              have z2:0<rn:=by omega
              clear hfo hr
              go_wp2
              try rw [Exit.noGoto_ret]
              go_ret2
              exact FolPost.no HO.out HB2.out
          | cons b l2=>
            have hfo:Prf.fol s (b::l2) (x::r)=_:=Prf.fol_kid HS.out HNN.out HXX.out rfl
            try dsimp only at hfo
            rw [HFO.out] at hfo
            obtain ⟨hb15,hf2⟩:=Tri.fit_cons.1 HFT.out
            have hbl:b.toNat<K.length:=by have:=HN16.out; dsimp only at this; omega
            have cn3:=HKI.out b.toNat hbl
            have ek:K.getD b.toNat []=K[b.toNat]:=by
              rw [List.getD_eq_getElem?_getD,List.getElem?_eq_getElem hbl]
              rfl
            rw [ek] at hfo
            obtain ⟨k0,hk0'⟩:∃ k0,K[b.toNat]=k0:=⟨_,rfl⟩
            try dsimp only at cn3
            rw [hk0'] at cn3 hfo
            have hll:l2.length<=1000:=by have:=HL1.out; rw [List.length_cons] at this; omega
            have HNX:=qh (show Prf.fol k0 l2 r=o/\Nib.fitL l2=true/\l2.length<=1000 from ⟨hfo.symm,hf2,hll⟩)
            have hbyte:∀ hh,(⟨(b::l2).toArray⟩:ByteArray)[0]'hh=b:=byte_drop rfl
            have htl2:(⟨(b::l2).toArray⟩:ByteArray).extract 1 (b::l2).length=⟨l2.toArray⟩:=tail_drop (n:=0) rfl
            have hne:((b::l2:List UInt8) == [])=false:=rfl
            have y0:(0:Int)<((b::l2).length:Int):=by rw [List.length_cons]; omega
            have y1:(1:Int)<=((b::l2).length:Int):=by rw [List.length_cons]; omega
            have y6:(0:Int)<=(b.toNat:Int):=by omega
            have y7:(b.toNat:Int)<16:=by omega
            obtain ⟨Q,hQ⟩:∃ Q,b::l2=Q:=⟨_,rfl⟩
            rw [hQ] at hbyte htl2 hne y0 y1 ⊢
            clear hfo hk0' ek hbl hb15 hf2 hll hQ
            go_upto_region 17 with fail
            go_quiet (fail)
            go_wp2
            obtain ⟨a1,a2,a3⟩:=HNX.out
            exact ⟨⟨k0,l2,r,_,rfl,rfl,rfl,rfl,HST3.out.below (bel_drewN (Below.refl _ _) _),a1,a2,a3,HRS.out,bel_drewN HB2.out _⟩,HRL.out⟩
theorem verify_any (root key:T) (v:Value) (L:List T) (w:World) (hv:StrsC w v L) (hT:Tab w) (hL:∀ x∈L,x.length<=1000000):
    Calls Tryz.prog 30 #[.string ⟨root.toArray⟩,.string ⟨key.toArray⟩,v] w fun e w'=>e=.returned (.tuple #[.string ⟨(Prf.verify root key L).1.toArray⟩,.bool (Prf.verify root key L).2.1,.int .i64 (Prf.verify root key L).2.2])/\Below w.heap.size w w':=by
  rw [Prf.verify_fol]
  have HK:=qh (fun w=>piskey_any key w)
  cases hk:Tri.keyed key with
  | false=>
    rw [hk] at HK
    simp only [if_neg (show ¬ (false=true) by simp)]
    clear hv hT hL hk
    go_enter Tryz.func30,Tryz.ntmps30
    go_wp2_with fail
    refine (HK.out _).mono ?_
    rintro e w1 ⟨rfl,rfl⟩
    go_wp2
    go_ret3
    exact ⟨rfl,Below.refl _ _⟩
  | true=>
    rw [hk] at HK
    simp only [if_true]
    have hk8:key.length<=8:=by simp [Tri.keyed] at hk; omega
    have HOF:=qh (fun w=>of_any key w (by omega))
    have HFO:=qh (fun w1 (hb:Below w.heap.size w w1)=>follow_any root (Nib.ofL key) v L w1 (hv.below hb) (hT.below hb) hL (Tri.ofL_fit key) (by rw [Nib.ofL_length]; omega))
    unfold FolPost at HFO
    obtain ⟨q,hq⟩:∃ q,Nib.ofL key=q:=⟨_,rfl⟩
    rw [hq] at HOF HFO ⊢
    obtain ⟨A,cap,rfl,-⟩:=hv.form
    obtain ⟨o,ho⟩:∃ o,Prf.fol root q L=o:=⟨_,rfl⟩
    rw [ho] at HFO ⊢
    clear hv hT hL hk hk8 hq ho
    go_enter Tryz.func30,Tryz.ntmps30
    go_wp2_with fail
    refine (HK.out _).mono ?_
    rintro e w1 ⟨rfl,rfl⟩
    go_wp2_with fail
    refine (HOF.out _).mono ?_
    rintro e w2 ⟨rfl,hb2⟩
    have HB2:=qh hb2
    clear hb2
    go_wp2_with fail
    refine (HFO.out _ HB2.out).mono ?_
    rintro e w3 ⟨rfl,hb3⟩
    have HB3:=qh (bchain HB2.out hb3)
    clear hb3
    cases o with
    | none=>
      simp only [Option.getD,Option.isSome,if_neg (show ¬ (false=true) by simp)]
      go_wp2
      go_ret3
      exact ⟨rfl,HB3.out⟩
    | some u=>
      simp only [Option.getD,Option.isSome,if_true]
      by_cases hu:u=[]
      · subst hu
        go_wp2
        go_ret3
        exact ⟨rfl,HB3.out⟩
      · have q2:(u != [])=true:=by rw [bne_iff_ne]; exact hu
        have q3:u.isEmpty=false:=by cases u <;> simp_all
        have q1:(u == [])=false:=beq_eq_false_iff_ne.2 hu
        have q4:Hid ((!decide (u=[]))=true):=qh (by rw [decide_eq_false hu]; rfl)
        clear hu
        go_wp2
        go_ret3
        refine ⟨?_,HB3.out⟩
        rw [q4.out]
        rfl
def ProveC (key:T):Nat:=if Tri.keyed key then 0 else 1
def proveS (S:St) (key:T):List T:=if Tri.keyed key then trailS S key else []
def ProvePost (S:St) (key:T) (w:World) (e:Ending) (w':World):Prop:=
  ∃ z,e=.returned (.tuple #[z,.int .i64 (ProveC key)])/\Own w' w.heap.size z (proveS S key)/\Below w.heap.size w w'
theorem prove_any {g:Nat} {S:St} (key:T) (w:World) (h:TrAt w g S):
    Calls Tryz.prog 56 #[ptr g,.string ⟨key.toArray⟩] w (ProvePost S key w):=by
  unfold ProvePost ProveC proveS
  have HK:=qh (fun w=>piskey_any key w)
  cases hk:Tri.keyed key with
  | false=>
    rw [hk] at HK
    simp only [if_neg (show ¬ (false=true) by simp)]
    unfold ptr
    clear h hk
    go_enter Tryz.func56,Tryz.ntmps56
    go_wp2_with fail
    refine (HK.out _).mono ?_
    rintro e w1 ⟨rfl,rfl⟩
    go_wp2
    go_ret2
    exact ⟨_,rfl,Own.nil _ _,Below.refl _ _⟩
  | true=>
    rw [hk] at HK
    simp only [if_true]
    have hk8:key.length<=8:=by simp [Tri.keyed] at hk; omega
    have HTR:=qh (strail_any key w h (by omega))
    unfold TextsPost ptr at HTR
    unfold ptr
    clear h hk hk8
    go_enter Tryz.func56,Tryz.ntmps56
    go_wp2_with fail
    refine (HK.out _).mono ?_
    rintro e w1 ⟨rfl,rfl⟩
    go_wp2_with fail
    refine HTR.out.mono ?_
    rintro e w2 ⟨z,rfl,ho,hb⟩
    have HO:=qh ho
    have HB:=qh hb
    clear ho hb
    go_wp2
    go_ret2
    exact ⟨_,rfl,HO.out,HB.out⟩
end
section
open Go.RowKit
open Sto (T St)
theorem prove_wK {g:Nat} (k:T) (w:World) (h:TrAt w g Tri.wK) (hk:Tri.keyed k=true):
    Calls Tryz.prog 56 #[.pointer (some ⟨g,0,none⟩),.string ⟨k.toArray⟩] w fun e w'=>∃ z,e=.returned (.tuple #[z,.int .i64 0])/\Own w' w.heap.size z Prf.wP/\Below w.heap.size w w':=by
  have h1:=prove_any k w h
  unfold ProvePost ProveC proveS at h1
  rw [if_pos hk,if_pos hk,Prf.wK_trail] at h1
  exact h1
theorem verify_wK (r k:T) (v:Value) (w:World) (x:T) (b:Bool) (c:Nat) (hv:StrsC w v Prf.wP) (hT:Tab w) (h:Prf.verify r k Prf.wP=(x,b,c)):
    Calls Tryz.prog 30 #[.string ⟨r.toArray⟩,.string ⟨k.toArray⟩,v] w fun e w'=>e=.returned (.tuple #[.string ⟨x.toArray⟩,.bool b,.int .i64 c])/\Below w.heap.size w w':=by
  have h1:=verify_any r k v Prf.wP w hv hT (by decide)
  rw [h] at h1
  exact h1
namespace Ver
theorem kc:M.zero.comC 1 Tri.wK=0:=by decide +kernel
theorem kx:chsS [] Tri.wK=Tri.wK:=by decide +kernel
def kM:M:=M.zero.com 1 Tri.wK
theorem kr:M.zero.comR 1 Tri.wK=rootS Tri.wK:=by
  unfold M.comR
  rw [if_pos kc]
  show rootS (chsS [] Tri.wK)=_
  rw [kx]
theorem kv:kM.vs=[(1,Tri.wK)]:=by
  unfold kM M.com
  rw [if_pos kc]
  show []++[(1,chsS [] Tri.wK)]=_
  rw [kx]
  rfl
theorem kf:kM.find 1=some Tri.wK:=by
  unfold M.find
  rw [kv]
  decide +kernel
theorem kg:kM.Good:=M.Good.zero.com 1 Tri.wK
theorem kn:nodesS Tri.wK=Prf.wP:=by decide +kernel
theorem kh:kM.Has ([]++Prf.wP):=by
  have a1:=M.Has.zero.com kc
  have e1:nodesS (chsS M.zero.top Tri.wK)=Prf.wP:=by
    show nodesS (chsS [] Tri.wK)=_
    rw [kx,kn]
  rw [e1] at a1
  exact a1
theorem kno:¬ Clash ([]++Prf.wP):=by
  rintro ⟨s,hs,t,ht,h1,_⟩
  simp only [Prf.wP,List.nil_append,List.mem_cons,List.not_mem_nil,or_false] at hs ht
  exact h1 (hs.trans ht.symm)
end Ver
theorem keyI (h:Int) (hw:(Lit.int .i64 h).wf=true):∃ l,keyOf Tryz.prog 3 (.int .i64 h)=some l:=⟨_,Go.Maps.keyOf_int_mk Tryz.underlying3 hw⟩
end
section
open Sto (T St)
namespace Ver
def M.last (m:M):Option Int:=m.vs.getLast?.map (·.1)
theorem find_comI {m:M} {h:Int} {C I:St} (h3:∀ x∈m.vs,x.1<h) (x:Int):(m.comI h C I).find x=if x=h then some (chsS I C) else m.find x:=by
  unfold M.comI M.find
  simp only [List.find?_append]
  by_cases e:x=h
  · rw [if_pos e]
    have hn:m.vs.find? (fun y=>decide (y.1=x))=none:=List.find?_eq_none.2 fun y hy=>by
      have:=h3 y hy
      simp
      omega
    rw [hn]
    simp [e]
  · rw [if_neg e]
    have e2:¬ (h=x):=fun e3=>e e3.symm
    cases m.vs.find? (fun y=>decide (y.1=x)) with
    | none=>simp [e2]
    | some y=>simp
theorem last_comI {m:M} {h:Int} {C I:St}:(m.comI h C I).last=some h:=by
  unfold M.comI
  simp [M.last]
def M.newest (m:M):Int:=m.last.getD (-9223372036854775808)
theorem newest_comI {m:M} {h:Int} {C I:St}:(m.comI h C I).newest=h:=by
  unfold M.newest
  rw [last_comI]; rfl
theorem last_at {m:M} {x:Int}:m.last=some x↔∃ h:0<m.vs.length,(m.vs[m.vs.length - 1]'(by omega)).1=x:=by
  unfold M.last
  rw [List.getLast?_eq_getElem?]
  by_cases h:0<m.vs.length
  · rw [List.getElem?_eq_getElem (by omega)]
    simp only [Option.map_some,Option.some.injEq]
    exact ⟨fun e=>⟨h,e⟩,fun ⟨_,e⟩=>e⟩
  · rw [List.getElem?_eq_none (by omega)]
    simp [h]
theorem above_last {m:M} (g:m.Good) (h:Int):(∃ x∈m.vs,h<=x.1)↔∃ y,m.last=some y/\h<=y:=by
  constructor
  · rintro ⟨x,hx,hle⟩
    obtain ⟨i,hi,rfl⟩:=List.mem_iff_getElem.1 hx
    refine ⟨_,last_at.2 ⟨by omega,rfl⟩,?_⟩
    rcases Nat.lt_or_ge i (m.vs.length - 1) with h1 | h1
    · have:=List.pairwise_iff_getElem.1 g.rise i (m.vs.length - 1) hi (by omega) h1
      omega
    · have e:i=m.vs.length - 1:=by omega
      subst e
      exact hle
  · rintro ⟨y,hy,hle⟩
    obtain ⟨h1,h2⟩:=last_at.1 hy
    exact ⟨_,List.getElem_mem (show m.vs.length - 1<m.vs.length by omega),by rw [h2]; exact hle⟩
end Ver
end
section
open Go.RowKit
open Sto (T St)
def rval (r:T):Value:=.agg #[.string ⟨r.toArray⟩]
def rootsMap:MapLaw Tryz.prog 3 Int T:=⟨fun h=>.int .i64 h,rval,fun h=>(Lit.int .i64 h).wf=true,Go.Maps.int_keyed Tryz.underlying3,keyI,fun _ _ h=>by injection h⟩
theorem zeroRoot (w:World):(zeroValue 138).run Tryz.prog w=.ok (rval []) w:=by kernel_rfl
def RootsAt (w:World) (b:Nat) (m:Ver.M):Prop:=FnAt rootsMap w b fun h=>(m.find h).map rootS
theorem RootsAt.made (w:World) (b:Nat) (h:b=w.heap.size):RootsAt (w.alloc (.map #[] 0)) b .zero:=FnAt.made rootsMap w b h
theorem RootsAt.out {F:Nat->Prop} {w w':World} {b:Nat} {m:Ver.M} (h:RootsAt w b m) (ho:Out F w w') (hF:¬ F b):RootsAt w' b m:=FnAt.out h ho hF
theorem findR_eq (m:Ver.M) (x:Int):(((m.find x).map rootS).map rootsMap.val).getD (rval [])=rval (m.findR x):=by
  unfold Ver.M.findR
  cases m.find x <;> rfl
theorem RootsAt.look {w:World} {b:Nat} {m:Ver.M} (h:RootsAt w b m) (x:Int) (hx:(Lit.int .i64 x).wf=true):
    (Instr.lookup 132 (.map (some b)) (.int .i64 x) true).run Tryz.prog w=.ok (.tuple #[.agg #[.string ⟨(m.findR x).toArray⟩],.bool (m.find x).isSome]) w:=by
  have:=FnAt.look h Tryz.underlying132 (s:=x) hx true (zeroRoot w)
  have e2:((m.find x).map rootS).isSome=(m.find x).isSome:=by cases m.find x <;> rfl
  rw [findR_eq,e2] at this
  exact this
theorem RootsAt.put {w:World} {b:Nat} {m:Ver.M} {x:Int} {C I:St} (h:RootsAt w b m) (hc:m.comCI x C I=0):
    ∃ w',(Instr.mapUpdate 132 (.map (some b)) (.int .i64 x) (.agg #[.string ⟨(rootS (Ver.chsS I C)).toArray⟩])).run Tryz.prog w=.ok () w'/\RootsAt w' b (m.comI x C I)/\Out (fun i=>i=b) w w':=by
  obtain ⟨h1,h2,h3,_⟩:=Ver.M.comCI_zero hc
  obtain ⟨w',r1,r2,r3,_⟩:=FnAt.put h Tryz.underlying132 (s:=x) (wf_height ⟨h1,h2⟩) (rootS (Ver.chsS I C))
  refine ⟨w',r1,FnAt.congr r2 fun s=>?_,r3⟩
  rw [Ver.find_comI h3]
  unfold updF
  split <;> rfl
end
section
open Go.Shelf Go.RowKit Go.Maps Go.Sort
end
section
open Go.RowKit Go.Maps Go.WideShapes
open Go.WideElems (Fit rd rg rd_mk rg_of)
open Sto (T St)
end
section
open Go.RowKit
open Nd (N)
end
section
open Go.RowKit
open Sto (St)
end
section
open Go.RowKit Go.MapKept
open Go.ChangeMaps (setBlock heap_setBlock_same heap_setBlock_other)
open Go.Maps (Keyed)
variable {P:Program} {k t e:TypeId} {κ α:Type}
end
section
open Go.RowKit
open Sto (St)
end
section
open Go.RowKit
open Sto (T St)
structure VHeld (w:World) (g gs ms mr gt:Nat) (lo:Int) (m:Ver.M):Prop where
  head:w.heap[g]?=some (.cells #[.pointer (some ⟨gs,0,none⟩),.map (some mr),.int .i64 m.newest,.pointer (some ⟨gt,0,none⟩),.int .i64 lo] 134 (0,0))
  store:StoreAt w gs ms m.st
  roots:RootsAt w mr m
  low:max lo 0=m.low
  top:TrAt w gt m.top
  good:m.Good
  apart:mr≠ms
def held (g gs ms mr:Nat) (k:Nat):Prop:=k=g∨k=gs∨k=ms∨k=mr
def VAt (w:World) (F:Nat->Prop) (g:Nat) (m:Ver.M):Prop:=∃ gs ms mr gt lo,VHeld w g gs ms mr gt lo m/\F=held g gs ms mr
theorem VHeld.bare {w:World} {g gs ms mr gt:Nat} {lo:Int} {m:Ver.M} (h:VHeld w g gs ms mr gt lo m):∀ k,held g gs ms mr k->∀ cs t f,w.heap[k]?=some (.cells cs t f)->t≠87/\t≠84:=by
  intro k hk cs t f he
  rcases hk with rfl | rfl | rfl | rfl
  · rw [h.head] at he; cases he; decide
  · rw [h.store.head] at he; cases he; decide
  · exact absurd he (h.store.map.no_cells _ _ _ _ rfl)
  · exact absurd he (FnAt.no_cells h.roots _ _ _ _ rfl)
theorem VHeld.part {w w':World} {g gs ms mr gt:Nat} {lo:Int} {m:Ver.M} {G:Nat->Prop} (h:VHeld w g gs ms mr gt lo m) (ho:Out G w w') (hG:∀ k,G k->¬ held g gs ms mr k/\∀ cs t f,w.heap[k]?=some (.cells cs t f)->t≠87/\t≠84):VHeld w' g gs ms mr gt lo m:=
  ⟨ho.heap h.head fun e=>(hG _ e).1 (Or.inl rfl),h.store.out ho (fun e=>(hG _ e).1 (Or.inr (Or.inl rfl))) (fun e=>(hG _ e).1 (Or.inr (Or.inr (Or.inl rfl)))),h.roots.out ho (fun e=>(hG _ e).1 (Or.inr (Or.inr (Or.inr rfl)))),h.low,h.top.outB ho (fun k hk=>(hG k hk).2),h.good,h.apart⟩
theorem VHeld.below {w w':World} {g gs ms mr gt:Nat} {lo:Int} {m:Ver.M} (h:VHeld w g gs ms mr gt lo m) (hb:Below w.heap.size w w'):VHeld w' g gs ms mr gt lo m:=h.part (G:=fun _=>False) (Out.of hb) fun _ hk=>hk.elim
section
variable {w:World} {g gs ms mr gt:Nat} {lo:Int} {m:Ver.M}
theorem VHeld.c0 (h:VHeld w g gs ms mr gt lo m):w.cell? ⟨g,0,none⟩=some (.pointer (some ⟨gs,0,none⟩)):=by rw [cell_of_row _ _ _ _ _ _ h.head]; rfl
theorem VHeld.c1 (h:VHeld w g gs ms mr gt lo m):w.cell? ⟨g,1,none⟩=some (.map (some mr)):=by rw [cell_of_row _ _ _ _ _ _ h.head]; rfl
theorem VHeld.c2 (h:VHeld w g gs ms mr gt lo m):w.cell? ⟨g,2,none⟩=some (.int .i64 m.newest):=by rw [cell_of_row _ _ _ _ _ _ h.head]; rfl
theorem VHeld.c3 (h:VHeld w g gs ms mr gt lo m):w.cell? ⟨g,3,none⟩=some (.pointer (some ⟨gt,0,none⟩)):=by rw [cell_of_row _ _ _ _ _ _ h.head]; rfl
theorem VHeld.c4 (h:VHeld w g gs ms mr gt lo m):w.cell? ⟨g,4,none⟩=some (.int .i64 lo):=by rw [cell_of_row _ _ _ _ _ _ h.head]; rfl
theorem VHeld.under (h:VHeld w g gs ms mr gt lo m) {x:Int} (hx:0<=x):x<m.low↔x<lo:=by
  rw [← h.low]
  omega
end
theorem findR_short {m:Ver.M} (g:m.Good) (y:Int):(m.findR y).length<=32:=by
  unfold Ver.M.findR
  cases hf:m.find y with
  | none=>simp
  | some I=>
    obtain ⟨t,ht⟩:=g.tree _ (Ver.M.find_mem hf)
    exact root_short ht
theorem vnew_any (w:World):Calls Tryz.prog 53 #[] w fun e w'=>∃ v F,e=.returned (ptr v)/\VAt w' F v .zero/\(∀ k,F k->w.heap.size<=k)/\Below w.heap.size w w':=by
  have hmm:=@run_makeMap Tryz.prog
  have HS:=qh (fun w=>stnew_any w)
  have HT:=qh (fun w=>tnew_any w)
  unfold StNewPost at HS
  unfold ptr at HT ⊢
  go_enter Tryz.func53,Tryz.ntmps53
  go_wp2_with fail
  refine (HS.out _).mono ?_
  rintro e w1 ⟨gs,ms,rfl,hgs,hms,hst,hb1⟩
  have HST:=qh hst
  have HB1:=qh hb1
  clear hst hb1
  go_wp2_with fail
  refine (HT.out _).mono ?_
  rintro e w2 ⟨gt,rfl,ht,hgt,hb2⟩
  have HTT:=qh ht
  have HB2:=qh hb2
  clear ht hb2
  go_wp2
  go_ret
  have hb0:Below w1.heap.size w1 (w1.alloc (.map #[] 0)):=(Below.refl _ w1).alloc (Nat.le_refl _) _
  have hb2:Below (w1.alloc (.map #[] 0)).heap.size (w1.alloc (.map #[] 0)) w2:=HB2.out
  have hb3:Below w2.heap.size w2 (w2.alloc (.cells #[.pointer (some ⟨gs,0,none⟩),.map (some w1.heap.size),.int .i64 (-9223372036854775808),.pointer (some ⟨gt,0,none⟩),.int .i64 (-9223372036854775808)] 134)):=(Below.refl _ w2).alloc (Nat.le_refl _) _
  have s1:w1.heap.size+1<=w2.heap.size:=by have:=hb2.size; simpa using this
  have s0:=HB1.out.size
  refine ⟨w2.heap.size,_,rfl,⟨gs,ms,w1.heap.size,gt,-9223372036854775808,⟨heap_alloc_new w2 _,HST.out.below (bchain (bchain hb0 hb2) hb3),?_,rfl,HTT.out.below hb3,Ver.M.Good.zero,fun e=>by have:=HST.out.mlt; omega⟩,rfl⟩,fun k hk=>?_,bchain HB1.out (bchain (bchain hb0 hb2) hb3)⟩
  · exact (RootsAt.made w1 w1.heap.size rfl).out (F:=fun _=>False) (Out.of (bchain hb2 hb3)) id
  · rcases hk with rfl | rfl | rfl | rfl <;> omega
theorem vroot_any {w:World} {g gs ms mr gt:Nat} {lo:Int} {m:Ver.M} (h:VHeld w g gs ms mr gt lo m) (x:Int) (h0:0<=x) (hx:(Lit.int .i64 x).wf=true):
    Calls Tryz.prog 91 #[ptr g,.int .i64 x] w fun e w'=>e=.returned (.tuple #[.string ⟨(m.findR x).toArray⟩,.int .i64 (m.findC x)])/\Below w.heap.size w w':=by
  have c1:=h.c1
  have hlook:=h.roots.look x hx
  have hund:=h.under h0
  have hsh:=findR_short h.good x
  unfold Ver.M.findC
  unfold ptr
  obtain ⟨R,hR⟩:∃ R,m.findR x=R:=⟨_,rfl⟩
  have hR0:m.find x=none->R=[]:=fun e=>by rw [← hR]; unfold Ver.M.findR; rw [e]
  rw [hR] at hlook hsh ⊢
  have HC:=qh (fun w=>dclone_any R w (by omega))
  have hBA:Below w.heap.size w (w.alloc (.cells #[.string ⟨R.toArray⟩] 138)):=(Below.refl _ w).alloc (Nat.le_refl _) _
  have c4:=(h.below hBA).c4
  have HB:=qh hBA
  clear h hx hsh hR hBA h0
  cases hf:m.find x with
  | some I=>
    rw [hf] at hlook
    dsimp only [Option.isSome] at hlook ⊢
    clear hR0 hund c4
    go_enter Tryz.func91,Tryz.ntmps91
    go_wp2_with fail
    refine (HC.out _).mono ?_
    rintro e w1 ⟨rfl,hb1⟩
    go_wp2
    go_ret2
    exact ⟨rfl,bchain HB.out hb1⟩
  | none=>
    rw [hf] at hlook
    obtain rfl:=hR0 hf
    dsimp only [Option.isSome] at hlook ⊢
    clear hR0
    by_cases hl:x<m.low
    · have hl2:=hund.1 hl
      simp only [if_neg (show ¬ (false=true) by simp),if_pos hl]
      clear hund hl
      go_enter Tryz.func91,Tryz.ntmps91
      go_wp2
      go_ret2
      exact ⟨rfl,HB.out⟩
    · have hl2:=fun e=>hl (hund.2 e)
      simp only [if_neg (show ¬ (false=true) by simp),if_neg hl]
      clear hund hl
      go_enter Tryz.func91,Tryz.ntmps91
      go_wp2
      go_ret2
      exact ⟨rfl,HB.out⟩
theorem vat_any {w:World} {g gs ms mr gt:Nat} {lo:Int} {m:Ver.M} (h:VHeld w g gs ms mr gt lo m) (x:Int) (h0:0<=x) (hx:(Lit.int .i64 x).wf=true):
    Calls Tryz.prog 55 #[ptr g,.int .i64 x] w (AtPost m x w):=by
  have HR:=qh (vroot_any h x h0 hx)
  unfold AtPost
  unfold Ver.M.findC Ver.M.findR at HR
  unfold ptr at HR ⊢
  cases hf:m.find x with
  | some I=>
    rw [hf] at HR
    dsimp only [Option.isSome] at HR ⊢
    obtain ⟨t,ht⟩:=h.good.tree _ (Ver.M.find_mem hf)
    have hsh:=root_short ht
    have HO:=qh h.good.own
    have HL:=qh (fun w' (hb:Below w.heap.size w w')=>tload_any (rootS I) w' (h.below hb).store HO.out hsh)
    unfold LoadPost at HL ⊢
    have HG:Hid (∀ w',Below w.heap.size w w'->w'.cell? ⟨g,0,none⟩=some (.pointer (some ⟨gs,0,none⟩))):=qh (fun w' hb=>(h.below hb).c0)
    clear h hsh ht
    go_enter Tryz.func55,Tryz.ntmps55
    go_wp2_with fail
    refine HR.out.mono ?_
    rintro e w1 ⟨rfl,hb1⟩
    have c0:=HG.out w1 hb1
    have HB1:=qh hb1
    clear hb1
    go_wp2_with fail
    refine (HL.out w1 HB1.out).mono ?_
    rintro e w2 ⟨z,c,rfl,hb2,hq⟩
    have HB2:=qh hb2
    have HQ:=qh hq
    clear hb2 hq
    go_wp2
    go_ret2
    exact ⟨z,c,rfl,bchain HB1.out HB2.out,HQ.out⟩
  | none=>
    rw [hf] at HR
    dsimp only [Option.isSome] at HR ⊢
    unfold Ver.M.findC nilp
    rw [hf]
    dsimp only [Option.isSome]
    by_cases hl:x<m.low
    · simp only [if_neg (show ¬ (false=true) by simp),if_pos hl] at HR ⊢
      clear h
      go_enter Tryz.func55,Tryz.ntmps55
      go_wp2_with fail
      refine HR.out.mono ?_
      rintro e w1 ⟨rfl,hb1⟩
      go_wp2
      go_ret2
      exact ⟨rfl,hb1⟩
    · simp only [if_neg (show ¬ (false=true) by simp),if_neg hl] at HR ⊢
      clear h
      go_enter Tryz.func55,Tryz.ntmps55
      go_wp2_with fail
      refine HR.out.mono ?_
      rintro e w1 ⟨rfl,hb1⟩
      go_wp2
      go_ret2
      exact ⟨rfl,hb1⟩
variable {VAt:World->(Nat->Prop)->Nat->Ver.M->Prop}
def ChPost (S:St) (x:T × T) (w:World) (e:Ending) (w':World):Prop:=
  ∃ z,e=.returned (.tuple #[z,.int .i64 (Ver.chC S x)])/\(Ver.chC S x=0->∃ g',z=.pointer (some ⟨g',0,none⟩)/\TrAt w' g' (Ver.chS S x))/\Below w.heap.size w w'
theorem ChPost.mk {S:St} {x:T × T} {w w':World} {z:Value} {c:Nat} (hc:Ver.chC S x=c) (h:c=0->∃ g',z=.pointer (some ⟨g',0,none⟩)/\TrAt w' g' (Ver.chS S x)) (hb:Below w.heap.size w w'):ChPost S x w (.returned (.tuple #[z,.int .i64 c])) w':=by
  subst hc
  exact ⟨z,rfl,h,hb⟩
theorem vchanged_any {g:Nat} {S:St} (x:T × T) (w:World) (h:TrAt w g S) (hT:Tab w):
    Calls Tryz.prog 131 #[.pointer (some ⟨g,0,none⟩),.agg #[.string ⟨x.1.toArray⟩,.string ⟨x.2.toArray⟩]] w (ChPost S x w):=by
  obtain ⟨k,y⟩:=x
  dsimp only
  have hA:Below w.heap.size w (w.alloc (.cells #[.string ⟨k.toArray⟩,.string ⟨y.toArray⟩] 60)):=(Below.refl _ w).alloc (Nat.le_refl _) _
  have HA:=qh hA
  have ra:=heap_alloc_new w (.cells #[.string ⟨k.toArray⟩,.string ⟨y.toArray⟩] 60)
  have a0:(w.alloc (.cells #[.string ⟨k.toArray⟩,.string ⟨y.toArray⟩] 60)).cell? ⟨w.heap.size,0,none⟩=some (.string ⟨k.toArray⟩):=by rw [cell_of_row _ _ 0 _ _ _ ra]; rfl
  have a1:(w.alloc (.cells #[.string ⟨k.toArray⟩,.string ⟨y.toArray⟩] 60)).cell? ⟨w.heap.size,1,none⟩=some (.string ⟨y.toArray⟩):=by rw [cell_of_row _ _ 1 _ _ _ ra]; rfl
  have HOLD:=qh (h.below hA)
  by_cases hy:y=[]
  · subst hy
    have HD:=qh (tdel_any k _ (h.below hA) (hT.below hA))
    unfold TDelPost at HD
    have E1:Hid (Ver.chC S (k,[])=if (Tri.getC S k).2=5 then 0 else (Tri.getC S k).2):=qh (by simp [Ver.chC])
    have E2:Hid (Ver.chS S (k,[])=if (Tri.getC S k).2=0 then Tri.del S k else S):=qh (by simp [Ver.chS])
    obtain ⟨c,hc⟩:∃ c,(Tri.getC S k).2=c:=⟨_,rfl⟩
    rw [hc] at HD E1 E2
    unfold ptr nilp at HD
    clear hc hT h ra
    go_enter Tryz.func131,Tryz.ntmps131
    go_wp2_with fail
    refine HD.out.mono ?_
    rintro e w1 ⟨z,rfl,h1,h2,hb1⟩
    have H1:=qh h1
    have HB1:=qh (bchain HA.out hb1)
    have HO1:=qh (HOLD.out.below hb1)
    clear h1 h2 hb1
    by_cases h5:c=5
    · subst h5
      go_wp2
      go_ret2
      exact ChPost.mk (c:=0) (by rw [E1.out]; rfl) (fun _=>⟨g,rfl,by rw [E2.out]; exact HO1.out⟩) HB1.out
    · have q5:((c:Int) == 5)=false:=by rw [beq_eq_false_iff_ne]; omega
      have E3:=qh h5
      clear h5
      go_wp2
      go_ret2
      exact ChPost.mk (c:=c) (by rw [E1.out,if_neg E3.out]) (fun e=>by rw [E2.out,if_pos e]; exact H1.out e) HB1.out
  · have HD:=qh (tput_any k y _ (h.below hA) (hT.below hA))
    unfold TPutPost at HD
    have e1:Ver.chC S (k,y)=Tri.putC S k y:=by simp [Ver.chC,hy]
    have e2:Ver.chS S (k,y)=Tri.put S k y:=by simp [Ver.chS,hy]
    unfold ChPost
    rw [e1,e2]
    obtain ⟨c,hc⟩:∃ c,Tri.putC S k y=c:=⟨_,rfl⟩
    rw [hc] at HD ⊢
    have q1:(y == [])=false:=beq_eq_false_iff_ne.2 hy
    have q2:y.isEmpty=false:=by cases y <;> simp_all
    unfold ptr nilp at HD
    clear e1 e2 hc hT h ra hy
    go_enter Tryz.func131,Tryz.ntmps131
    go_wp2_with fail
    refine HD.out.mono ?_
    rintro e w1 ⟨z,rfl,h1,h2,hb1⟩
    have H1:=qh h1
    have HB1:=qh (bchain HA.out hb1)
    clear h1 h2 hb1
    go_wp2
    go_ret2
    exact ⟨z,rfl,H1.out,HB1.out⟩
theorem VHeld.over {w:World} {g gs ms mr gt:Nat} {lo:Int} {m:Ver.M} (h:VHeld w g gs ms mr gt lo m) {x:Int} (hx:0<=x):(∃ y∈m.vs,x<=y.1)↔x<=m.newest:=by
  rw [Ver.above_last h.good]
  unfold Ver.M.newest
  cases hl:m.last with
  | none=>simp; omega
  | some y=>simp
theorem Tab.outside {F:Nat->Prop} {w w':World} (h:Tab w) (ho:Out F w w') (hF:¬ F 0):Tab w':=fun i hi=>ho.cell (h i hi) hF
theorem VHeld.tab {w:World} {g gs ms mr gt:Nat} {lo:Int} {m:Ver.M} (h:VHeld w g gs ms mr gt lo m) (hT:Tab w):¬ held g gs ms mr 0:=by
  intro hk
  have h63:=hT 63 (by omega)
  rcases hk with e | e | e | e
  · have h1:=h.head
    rw [← e] at h1
    rw [cell_of_row _ _ _ _ _ _ h1] at h63
    simp at h63
  · have h1:=h.store.head
    rw [← e] at h1
    rw [cell_of_row _ _ _ _ _ _ h1] at h63
    simp at h63
  · obtain ⟨es,c,he,_⟩:=h.store.map
    rw [← e] at he
    simp [World.cell?,he] at h63
  · obtain ⟨es,c,he,_⟩:=h.roots
    rw [← e] at he
    simp [World.cell?,he] at h63
theorem chs_step {S C:St} {k:Nat} (h:k<C.length):(Ver.chC S C[k]=0->Ver.chsC S (C.drop k)=Ver.chsC (Ver.chS S C[k]) (C.drop (k+1))/\Ver.chsS S (C.drop k)=Ver.chsS (Ver.chS S C[k]) (C.drop (k+1)))/\(Ver.chC S C[k]≠0->Ver.chsC S (C.drop k)=Ver.chC S C[k]):=by
  rw [List.drop_eq_getElem_cons h]
  refine ⟨fun h0=>⟨?_,rfl⟩,fun h0=>?_⟩
  · rw [Ver.chsC,if_pos h0]
  · rw [Ver.chsC,if_neg h0]
def WithPost (S C:St) (w:World) (e:Ending) (w':World):Prop:=
  ∃ z,e=.returned (.tuple #[z,.int .i64 (Ver.chsC S C)])/\(Ver.chsC S C=0->∃ g',z=.pointer (some ⟨g',0,none⟩)/\TrAt w' g' (Ver.chsS S C))/\Below w.heap.size w w'
theorem WithPost.bad {S C:St} {w w':World} {z:Value} {c:Nat} (hc:Ver.chsC S C=c) (h0:c≠0) (hb:Below w.heap.size w w'):WithPost S C w (.returned (.tuple #[z,.int .i64 c])) w':=by
  subst hc
  exact ⟨z,rfl,fun e=>absurd e h0,hb⟩
theorem WithPost.good {S C:St} {w w':World} {g:Nat} (hc:Ver.chsC S C=0) (ht:TrAt w' g (Ver.chsS S C)) (hb:Below w.heap.size w w'):WithPost S C w (.returned (.tuple #[.pointer (some ⟨g,0,none⟩),.int .i64 0])) w':=
  ⟨_,by rw [hc]; rfl,fun _=>⟨g,rfl,ht⟩,hb⟩
theorem vmade_any {w:World} {g:Nat} {S0:St} (h:TrAt w g S0) (z:Value) (C:St) (hT:Tab w) (hz:ItLo w z C) (hl:C.length<=100):
    Calls Tryz.prog 89 #[.pointer (some ⟨g,0,none⟩),z] w (WithPost S0 C w):=by
  have HT:=qh hT
  have HZ:=qh hz
  have HL:=qh hl
  have HTP:=qh h
  obtain ⟨A,cap,rfl⟩:=hz.form
  clear h hT hz hl
  go_enter Tryz.func89,Tryz.ntmps89
  go_wp2
  go_loopw [0,12] (fun av iv wr=>∃ (k:Nat) (gk:Nat) (S:St),av=.pointer (some ⟨gk,0,none⟩)/\k<=C.length/\iv=.int .i64 k/\TrAt wr gk S/\Ver.chsC S0 C=Ver.chsC S (C.drop k)/\Ver.chsS S0 C=Ver.chsS S (C.drop k)/\Below w.heap.size w wr) (fun _ i _=>C.length - (intOf i).toNat)
  case atStart=>exact ⟨0,g,S0,rfl,Nat.zero_le _,rfl,HTP.out,rfl,rfl,Below.refl _ _⟩
  case round=>
    obtain ⟨k,gk,S,rfl,hk,rfl,htr,hcc,hcs,hb⟩:=hrel
    have HB:=qh hb
    have HCC:=qh hcc
    have HCS:=qh hcs
    by_cases hlt:k<C.length
    · have h1:(k:Int)<(C.length:Int):=by omega
      have h0:(0:Int)<=(k:Int):=by omega
      have hnb:(k:Int)<=100:=by have:=HL.out; omega
      have HZW:=qh (HZ.out.below hb)
      obtain ⟨b,o,rfl,n0,n1⟩:=ItLo.at HZW.out k hlt
      obtain ⟨X,hX⟩:∃ X,C[k]=X:=⟨_,rfl⟩
      have HST:=qh (chs_step (S:=S) hlt)
      rw [hX] at HST n0 n1
      have hba:Below wr.heap.size wr (wr.alloc (.cells #[.string ⟨X.1.toArray⟩,.string ⟨X.2.toArray⟩] 60)):=(Below.refl _ wr).alloc (Nat.le_refl _) _
      have HCH:=qh (vchanged_any X (wr.alloc (.cells #[.string ⟨X.1.toArray⟩,.string ⟨X.2.toArray⟩] 60)) (htr.below hba) ((HT.out.below hb).below hba))
      have HBA:Hid (∀ w',Below (wr.alloc (.cells #[.string ⟨X.1.toArray⟩,.string ⟨X.2.toArray⟩] 60)).heap.size (wr.alloc (.cells #[.string ⟨X.1.toArray⟩,.string ⟨X.2.toArray⟩] 60)) w'->Below w.heap.size w w'):=qh (fun w' h=>bchain HB.out (bchain hba h))
      unfold ChPost at HCH
      clear htr hcc hcs hb hX hba
      go_wp2_with fail
      refine HCH.out.mono ?_
      rintro e w2 ⟨z,rfl,hz1,hb2⟩
      have HB2:=qh (HBA.out _ hb2)
      obtain ⟨c,hc⟩:∃ c,Ver.chC S X=c:=⟨_,rfl⟩
      rw [hc] at HST hz1 ⊢
      by_cases hc0:c=0
      · obtain ⟨g',rfl,ht2⟩:=hz1 hc0
        subst hc0
        have HST2:=qh (HST.out.1 rfl)
        have HT2:=qh ht2
        clear hz1 hb2 ht2 hc
        go_wp2
        exact ⟨⟨k+1,g',Ver.chS S X,rfl,by omega,by go_num,HT2.out,by rw [HCC.out]; exact HST2.out.1,by rw [HCS.out]; exact HST2.out.2,HB2.out⟩,by simp [intOf]; omega⟩
      · have hc1:((c:Int) != 0)=true:=by rw [bne_iff_ne]; omega
        have HE:Hid (Ver.chsC S0 C=c):=qh (by rw [HCC.out]; exact HST.out.2 hc0)
        have HC0:=qh hc0
        clear hz1 hb2 hc0 hc
        go_wp2
        go_ret2
        exact WithPost.bad HE.out HC0.out HB2.out
    · obtain rfl:k=C.length:=by omega
      have h1:¬ ((C.length:Int)<(C.length:Int)):=by omega
      have H0:Hid (Ver.chsC S0 C=0):=qh (by rw [HCC.out,List.drop_length]; rfl)
      have HS0:Hid (Ver.chsS S0 C=S):=qh (by rw [HCS.out,List.drop_length]; rfl)
      have HTRR:=qh htr
      clear htr hcc hcs hb
      go_wp2
      go_ret2
      exact WithPost.good H0.out (by rw [HS0.out]; exact HTRR.out) HB.out
def CmPost (w:World) (g gs ms mr:Nat) (lo:Int) (m:Ver.M) (x:Int) (C:St) (e:Ending) (w':World):Prop:=
  e=.returned (.tuple #[.string ⟨(m.comR x C).toArray⟩,.int .i64 (m.comC x C)])/\(∃ gt',VHeld w' g gs ms mr gt' lo (m.com x C))/\Out (held g gs ms mr) w w'/\Tab w'
theorem CmPost.bad {w:World} {g gs ms mr gt:Nat} {lo:Int} {m:Ver.M} {x:Int} {C:St} {c:Nat} (h:VHeld w g gs ms mr gt lo m) (hT:Tab w) (hc:m.comC x C=c) (h0:c≠0) {w':World} (hb:Below w.heap.size w w'):CmPost w g gs ms mr lo m x C (.returned (.tuple #[.string ⟨#[]⟩,.int .i64 c])) w':=by
  subst hc
  refine ⟨by unfold Ver.M.comR; rw [if_neg h0],⟨gt,?_⟩,Out.of hb,hT.below hb⟩
  unfold Ver.M.com
  rw [if_neg h0]
  exact h.below hb
theorem com_eq {m:Ver.M} {x:Int} {C:St} (h:m.comC x C=0):m.com x C=m.comI x C m.top/\m.comR x C=rootS (Ver.chsS m.top C):=by
  refine ⟨?_,?_⟩
  · unfold Ver.M.com; rw [if_pos h]; rfl
  · unfold Ver.M.comR; rw [if_pos h]
theorem top_comI {m:Ver.M} {x:Int} {C I:St}:(m.comI x C I).top=Ver.chsS I C:=by
  unfold Ver.M.comI Ver.M.top
  simp
theorem vcommit_any {w:World} {g gs ms mr gt:Nat} {lo:Int} {m:Ver.M} (h:VHeld w g gs ms mr gt lo m) (x:Int) (z:Value) (C:St) (hT:Tab w) (hz:ItLo w z C) (hl:C.length<=100):
    Calls Tryz.prog 54 #[ptr g,.int .i64 x,z] w (CmPost w g gs ms mr lo m x C):=by
  have c2:=h.c2
  have c3:=h.c3
  have c4:=h.c4
  have HV:=qh h
  have HT:=qh hT
  have HOV:=qh (fun hx:0<=x=>h.over hx)
  have HUN:=qh (fun hx:0<=x=>h.under hx)
  have HWI:=qh (vmade_any h.top z C hT hz hl)
  have HG0:=qh h.good.top
  unfold WithPost at HWI
  obtain ⟨A,cap,rfl⟩:=hz.form
  unfold ptr
  clear h hT hz hl
  by_cases hr1:x<0
  · have HC:Hid (m.comC x C=1):=qh (by unfold Ver.M.comC; rw [if_pos (Or.inl hr1)])
    clear c2 c3 c4 HWI HG0
    go_enter Tryz.func54,Tryz.ntmps54
    go_wp2
    go_ret2
    exact CmPost.bad HV.out HT.out HC.out (by decide) (Below.refl _ _)
  by_cases hr2:(1048576:Int)<x
  · have HC:Hid (m.comC x C=1):=qh (by unfold Ver.M.comC Ver.maxH; rw [if_pos (Or.inr hr2)])
    clear c2 c3 c4 HWI HG0
    go_enter Tryz.func54,Tryz.ntmps54
    go_wp2
    go_ret2
    exact CmPost.bad HV.out HT.out HC.out (by decide) (Below.refl _ _)
  have hov:=HOV.out (by omega)
  have hun:=HUN.out (by omega)
  obtain ⟨nw,hnw⟩:∃ nw,m.newest=nw:=⟨_,rfl⟩
  rw [hnw] at c2 hov
  by_cases hr3:x<=nw
  · have HC:Hid (m.comC x C=120):=qh (by unfold Ver.M.comC Ver.maxH; rw [if_neg (by omega),if_pos (Or.inl (hov.2 hr3))])
    clear hov hun hnw HWI HG0
    go_enter Tryz.func54,Tryz.ntmps54
    go_wp2
    go_ret2
    exact CmPost.bad HV.out HT.out HC.out (by decide) (Below.refl _ _)
  by_cases hr4:x<lo
  · have HC:Hid (m.comC x C=120):=qh (by unfold Ver.M.comC Ver.maxH; rw [if_neg (by omega),if_pos (Or.inr (hun.2 hr4))])
    clear hov hun hnw HWI HG0
    go_enter Tryz.func54,Tryz.ntmps54
    go_wp2
    go_ret2
    exact CmPost.bad HV.out HT.out HC.out (by decide) (Below.refl _ _)
  have HC:Hid (m.comC x C=Ver.chsC m.top C):=qh (by unfold Ver.M.comC Ver.maxH; rw [if_neg (by omega),if_neg (fun hh=>hh.elim (fun q=>hr3 (hov.1 q)) (fun q=>hr4 (hun.1 q)))])
  have HX:Hid ((Lit.int .i64 x).wf=true):=qh (wf_height ⟨by omega,by unfold Ver.maxH; omega⟩)
  clear hov hun hnw
  go_enter Tryz.func54,Tryz.ntmps54
  go_wp2_with fail
  refine HWI.out.mono ?_
  rintro e w1 ⟨z1,rfl,hz1,hb1⟩
  have HB1:=qh hb1
  obtain ⟨c,hc⟩:∃ c,Ver.chsC m.top C=c:=⟨_,rfl⟩
  have HCQ:Hid (m.comC x C=c):=qh (by rw [HC.out]; exact hc)
  have HC2:=qh hc
  rw [hc] at hz1 ⊢
  by_cases hc0:c=0
  · subst hc0
    obtain ⟨gt',rfl,htr⟩:=hz1 rfl
    have HCC:Hid (m.comCI x C m.top=0):=qh HCQ.out
    have HV1:=qh (HV.out.below hb1)
    have HTR:=qh htr
    have HSV:=qh (tsave_any w1 htr (HV.out.below hb1).store (HT.out.below hb1))
    have d0:=(HV.out.below hb1).c0
    obtain ⟨t0,ht0⟩:=Ver.chsS_good C HG0.out hc
    have hrl:=root_short ht0
    obtain ⟨R,hR⟩:∃ R,rootS (Ver.chsS m.top C)=R:=⟨_,rfl⟩
    have HRR:=qh hR
    rw [hR] at HSV hrl
    have HRL:=qh hrl
    clear c2 c3 c4 HWI hb1 hc htr ht0 hR hrl hz1
    go_wp2_with fail
    refine HSV.out.mono ?_
    rintro e w2 ⟨rfl,hs2,ho2⟩
    have hgm:g≠ms:=fun e=>HV1.out.store.map.no_cells g _ _ _ e HV1.out.head
    have hgr:g≠mr:=fun e=>FnAt.no_cells HV1.out.roots g _ _ _ e HV1.out.head
    have HD2:=qh (ho2.heap HV1.out.head hgm)
    have HS2:=qh hs2
    have HT2:Hid (TrAt w2 gt' (Ver.chsS m.top C)):=qh (HTR.out.outB ho2 (fun k hk=>HV1.out.bare k (Or.inr (Or.inr (Or.inl hk)))))
    have HO2:Hid (Out (held g gs ms mr) w w2):=qh ((Out.of HB1.out).trans (ho2.mono fun k _ e=>Or.inr (Or.inr (Or.inl e))))
    have HR2:Hid (RootsAt w2 mr m):=qh (HV1.out.roots.out ho2 HV1.out.apart)
    have HCE:Hid (∀ w',Below w2.heap.size w2 w'->w'.cell? ⟨g,1,none⟩=some (.map (some mr))):=qh (fun w' hb=>by rw [hb.cell (lt_of_heap HD2.out),cell_of_row _ _ _ _ _ _ HD2.out]; rfl)
    have HPU:Hid (∀ w',Below w2.heap.size w2 w'->∃ w4,(Instr.mapUpdate 132 (.map (some mr)) (.int .i64 x) (.agg #[.string ⟨R.toArray⟩])).run Tryz.prog w'=.ok () w4/\RootsAt w4 mr (m.comI x C m.top)/\Out (fun i=>i=mr) w2 w4/\w4.cell? ⟨g,1,none⟩=some (.map (some mr))):=qh (fun w' hb=>by
      obtain ⟨w4,r1,r2,r3⟩:=(HR2.out.out (F:=fun _=>False) (Out.of hb) id).put HCC.out
      rw [HRR.out] at r1
      exact ⟨w4,r1,r2,(Out.of hb).trans r3,r3.cell (HCE.out w' hb) hgr⟩)
    have BD:Below w2.heap.size w2 w2.drew:=(Below.refl _ _).drew
    have cD:=HCE.out _ BD
    clear d0 hs2 ho2 HSV
    have HCL:Hid (∀ w',Below w2.heap.size w2 w'->Calls Tryz.prog 46 #[.string ⟨R.toArray⟩] w' fun e w''=>e=.returned (.string ⟨R.toArray⟩)/\Below w2.heap.size w2 w''):=qh (fun w' hb=>(dclone_any R w' (by have:=HRL.out; omega)).mono fun e w'' q=>⟨q.1,hb.trans (q.2.mono hb.size)⟩)
    go_upto_region 9 with fail
    go_region_held3 (fun w'=>w'.cell? ⟨g,1,none⟩=some (.map (some mr)))
      ((first | (refine HCE.out _ ?_; with_reducible assumption) | (with_reducible assumption)))
      (first | (go_at_call 46; refine (HCL.out _ ?_).mono ?_; (with_reducible assumption); rintro e wa ⟨rfl,ha⟩; obtain ⟨wa4,hra,hpa,hca,hcd⟩:=HPU.out _ ha))
    all_goals
      have hd4:=hca.heap HD2.out hgr
      have f2:=frozen_of_row wa4 g 2 _ _ hd4
      have f3:=frozen_of_row wa4 g 3 _ _ hd4
      have e2:wa4.cell? ⟨g,2,none⟩=some (.int .i64 m.newest):=by rw [cell_of_row _ _ _ _ _ _ hd4]; rfl
      have e3:wa4.cell? ⟨g,3,none⟩=some (.pointer (some ⟨gt,0,none⟩)):=by rw [cell_of_row _ _ _ _ _ _ hd4]; rfl
      have HD4:=qh hd4
      have HPA:=qh hpa
      have HCA:=qh hca
      clear hd4 hpa hca hra ha hcd
      go_wp2
      go_ret2
      have ho5:Out (fun k=>k=g) wa4 ((wa4.setCell ⟨g,2,none⟩ (.int .i64 x)).setCell ⟨g,3,none⟩ (.pointer (some ⟨gt',0,none⟩))):=Out.setCell (F:=fun k=>k=g) (Out.setCell (F:=fun k=>k=g) (Out.refl _ wa4) (p:=⟨g,2,none⟩) rfl _) (p:=⟨g,3,none⟩) rfl _
      have hoA:Out (held g gs ms mr) w ((wa4.setCell ⟨g,2,none⟩ (.int .i64 x)).setCell ⟨g,3,none⟩ (.pointer (some ⟨gt',0,none⟩))):=(HO2.out.trans (HCA.out.mono fun k _ e=>Or.inr (Or.inr (Or.inr e)))).trans (ho5.mono fun k _ e=>Or.inl e)
      obtain ⟨q1,q2⟩:=com_eq HCQ.out
      have ho25:Out (held g gs ms mr) w2 ((wa4.setCell ⟨g,2,none⟩ (.int .i64 x)).setCell ⟨g,3,none⟩ (.pointer (some ⟨gt',0,none⟩))):=(HCA.out.mono fun k _ e=>Or.inr (Or.inr (Or.inr e))).trans (ho5.mono fun k _ e=>Or.inl e)
      have hbare:∀ k,held g gs ms mr k->∀ cs t f,w2.heap[k]?=some (.cells cs t f)->t≠87/\t≠84:=by
        intro k hk cs t f he
        rcases hk with rfl | rfl | rfl | rfl
        · rw [HD2.out] at he; cases he; decide
        · rw [HS2.out.head] at he; cases he; decide
        · exact absurd he (HS2.out.map.no_cells _ _ _ _ rfl)
        · exact absurd he (FnAt.no_cells HR2.out _ _ _ _ rfl)
      refine ⟨by rw [q2,HCQ.out,HRR.out]; rfl,⟨gt',?_⟩,hoA,HT.out.outside hoA (HV.out.tab HT.out)⟩
      rw [q1]
      refine ⟨?_,?_,?_,HV.out.low,?_,?_,HV.out.apart⟩
      · have h1:=heap_setCell_same _ _ 3 _ _ (.pointer (some ⟨gt',0,none⟩)) (heap_setCell_same _ _ 2 _ _ (.int .i64 x) HD4.out)
        rw [Ver.newest_comI]
        exact h1
      · have h1:StoreAt wa4 gs ms (m.comI x C m.top).st:=HS2.out.out HCA.out (fun e=>FnAt.no_cells HR2.out gs _ _ _ e HS2.out.head) (fun e=>HV.out.apart e.symm)
        exact h1.out ho5 (fun e=>by have h2:=h1.head; rw [e,HD4.out] at h2; cases h2) (fun e=>h1.map.no_cells g _ _ _ e.symm HD4.out)
      · exact HPA.out.out ho5 (fun e=>hgr e.symm)
      · rw [top_comI]; exact HT2.out.outB ho25 hbare
      · exact (Ver.M.Com.good m.top ⟨HG0.out,fun _ _ _=>rfl⟩ HCC.out:m.Com x C _ _ _).good' HV.out.good
  · have hcn:((c:Int) != 0)=true:=by rw [bne_iff_ne]; omega
    have H0:=qh hc0
    clear c2 c3 c4 HWI hb1 hc hz1 hc0
    go_wp2
    go_ret2
    exact CmPost.bad HV.out HT.out HCQ.out H0.out HB1.out
end
end Go.Proofs.YtaficmboooaknaaGreatDoor
