import Derived.Test.YtaficmboooaknaaGreatDoorPp01
import Derived.Test.YtaficmboooaknaaGreatDoorPp25
import Derived.Test.YtaficmboooaknaaGreatDoorPp14
import Derived.Test.YtaficmboooaknaaGreatDoorPp07
import Derived.Test.YtaficmboooaknaaGreatDoorPp15
import Derived.Test.YtaficmboooaknaaGreatDoorPp24
import Derived.Test.YtaficmboooaknaaGreatDoorPp16
set_option maxRecDepth 100000
set_option maxHeartbeats 16000000
namespace Go.Proofs.YtaficmboooaknaaGreatDoor
section
open Go.RowKit
open Sto (T St)
open Tri (Tr Ok hb)
open Go.Proofs.YtaficmboooaknaaGreatDoor.Nd (N)
def KidRow (w:World) (L:List (T × N)) (s:Value) (wx:World):Prop:=OwnSp wx w.heap.size s L/\Below w.heap.size w wx
theorem head_cons (c:UInt8) (q:T) (R:St) (k:Nat) (hk:k < R.length) (h:R[k].1=c :: q) (b:UInt8):Tri.withL b (R.take (k+1))=Tri.withL b (R.take k) ++ (if c=b then [R[k]] else []):=by
  rw [Tri.withL_take b R k hk,h]
  simp
theorem grown_kid {wr:World} {place x:T} {K:Fin 16->Tr} (ih:∀ i,GrownIs (K i)) (ho:Ok (.br x K)) (hl:(Tr.br x K).items.length<=2000) (hpl:∀ y ∈ (Tr.br x K).items,place.length+y.1.length<=1000) (i:Fin 16) (v':Value) (w':World) (hbl:Below wr.heap.size wr w') (hi:ItAt w' v' (K i).items):
    Calls Tryz.prog 71 #[v',.string ⟨(place ++ [hb i]).toArray⟩] w' fun e w''=>∃ s,e=.returned s/\OwnSp w'' wr.heap.size s ((K i).spots Nd.sumS (place ++ [hb i]))/\Below wr.heap.size wr w'':=by
  obtain ⟨y,hy,hy1⟩:=Tri.br_some ho.canon
  have hp:=hpl y hy
  refine (ih i (place ++ [hb i]) v' w' ⟨ho.canon.1 i,ho.fits i,ho.small.2 i⟩ hi (Nat.le_trans (Tri.kid_few i) hl) (fun z hz=>?_) (by simp; omega)).mono fun e w'' ⟨s,q1,q2,q3⟩=>⟨s,q1,own_lowP q2 hbl.size,bchain hbl q3⟩
  have:=hpl _ (Tri.kid_item (v:=x) i hz)
  simp at this ⊢; omega
theorem grown_br (x:T) (K:Fin 16->Tr) (ih:∀ i,GrownIs (K i)):GrownIs (.br x K):=by
  intro place v w ho hv hl hpl hp0
  unfold GrownPost
  have HKID:=qh (fun wr i v' w'=>grown_kid (wr:=wr) ih ho hl hpl i v' w')
  have hbf:=Tri.br_first ho.canon
  have hb2:=Tri.br_two ho.canon
  have hcn:=Tri.br_common ho.canon
  have hfine:=ho.fine (t:=.br x K) id
  have HSA:=qh (Tri.spotsK_all Nd.sumS place x K)
  have HSL:Hid (∀ j,(Tri.spotsK Nd.sumS place K j).length<=6000):=qh (fun j=>by
    have h1:=Tri.spotsK_le Nd.sumS place x K j
    have h2:=Tri.spots_few Nd.sumS ho.canon place
    omega)
  have hbn:=Tri.br_node Nd.sumS x K
  rw [hbn] at hfine
  have HSP:=qh (fun (bv:Value) (w':World) (hb:SpAt Nd.sumS w' bv (Tri.spotsK Nd.sumS place K 16))=>spot_any place ⟨3,[],x,Tri.kidsK Nd.sumS K 16⟩ bv _ w' (Tri.kidsK_len ..) hfine (by simp) hb (by have:=HSL.out 16; omega))
  rw [← Tri.spotsK_all Nd.sumS place x K,hbn]
  obtain ⟨S,hS⟩:∃ S,(Tr.br x K).items=S:=⟨_,rfl⟩
  rw [hS] at hv hl hpl hb2 hcn hbf
  have hcn:=hcn S rfl (by omega)
  have hpos:0 < S.length:=by omega
  have HKL:Hid ((Tr.kids K).length<=2000):=qh (by
    have:(Tr.br x K).items.length=(Tri.own x).length+(Tr.kids K).length:=by rw [Tri.br_items,List.length_append]
    rw [hS] at this; omega)
  have HKC:Hid (∀ y ∈ Tr.kids K,∃ (c:Fin 16) (q:T),y.1=hb c :: q):=qh (fun y hy=>Tri.kids_cons hy)
  have HKB:Hid (∀ y ∈ Tr.kids K,y.1.length<=1000):=qh (fun y hy=>by
    have:=hpl y (by rw [← hS,Tri.br_items]; exact List.mem_append_right _ hy); omega)
  have HKW:=qh (fun i=>Tri.with_kids i K)
  have hp0':place.length<=1000:=by have:=hpl _ (List.getElem_mem hpos); omega
  have HV:=qh hv
  obtain ⟨A,cap,rfl,hcap,-⟩:=hv.form
  obtain ⟨j,hj⟩:∃ j,S.length - 1=j:=⟨_,rfl⟩
  have hjl:j < S.length:=by omega
  have HCO:Hid (∀ w',Calls Tryz.prog 106 #[.string ⟨S[0].1.toArray⟩,.string ⟨S[j].1.toArray⟩] w' fun e w''=>e=.returned (.int .i64 0)/\Below w'.heap.size w' w''):=qh (fun w'=>by
    have h2:=rcommon_any S[0].1 S[j].1 w' (by have:=hpl S[0] (List.getElem_mem hpos); omega) (by have:=hpl S[j] (List.getElem_mem hjl); omega)
    have e:Nib.commonL S[0].1 S[j].1=0:=by subst hj; exact hcn
    rw [e] at h2
    exact h2)
  obtain ⟨b,o,rfl,n0,-⟩:=ItAt.at HV.out 0 hpos
  simp only [Nat.zero_mul,Nat.add_zero] at n0
  have HC:Hid (∀ w',Below w.heap.size w w'->w'.cell? ⟨b,o,none⟩=some (.string ⟨S[0].1.toArray⟩)/\w'.cell? ⟨b,o+1,none⟩=some (.string ⟨S[0].2.toArray⟩)/\w'.cell? ⟨b,o+j * 2,none⟩=some (.string ⟨S[j].1.toArray⟩)):=qh (fun w' hb=>by
    obtain ⟨b2,o2,e2,m0,m0'⟩:=ItAt.at (HV.out.below hb) 0 hpos
    obtain ⟨b3,o3,e3,m1,-⟩:=ItAt.at (HV.out.below hb) j hjl
    cases e2; cases e3
    simp only [Nat.zero_mul,Nat.add_zero] at m0 m0'
    exact ⟨m0,m0',m1⟩)
  have HRI:Hid (∀ w',Below w.heap.size w w'->(x ≠ []->ItAt w' (.slice (some ⟨b,o+2,none⟩) (S.length - 1) (cap - 1)) (Tr.kids K))/\(x=[]->ItAt w' (.slice (some ⟨b,o,none⟩) S.length cap) (Tr.kids K))):=qh (fun w' hb=>by
    refine ⟨fun hx=>?_,fun hx=>?_⟩
    · rcases hbf with ⟨_,e⟩ | ⟨h,_⟩
      · have h:=RowsAt.drop (HV.out.below hb) 1 (by omega) b (o+2) (fun _=>⟨rfl,by omega⟩)
        have e2:S.drop 1=Tr.kids K:=by rw [e]; rfl
        rw [e2] at h
        exact h
      · exact absurd h hx
    · rcases hbf with ⟨h,_⟩ | ⟨_,e,_⟩
      · exact absurd hx h
      · rw [← e]; exact HV.out.below hb)
  have HK0:Hid ((x ≠ []->S[0].1=[]/\S[0].2=x/\S.length - 1=(Tr.kids K).length)/\(x=[]->S[0].1 ≠ []/\S.length=(Tr.kids K).length)):=qh (by
    refine ⟨fun hx=>?_,fun hx=>?_⟩
    · rcases hbf with ⟨_,e⟩ | ⟨h,_⟩
      · refine ⟨?_,?_,?_⟩
        · simp [e]
        · simp [e]
        · rw [e]; simp
      · exact absurd h hx
    · rcases hbf with ⟨h,_⟩ | ⟨_,e,a,r,e2,e3⟩
      · exact absurd hx h
      · refine ⟨?_,by rw [e]⟩
        have:S[0]=a:=by simp [e,e2]
        rw [this]; exact e3)
  obtain ⟨R,hR⟩:∃ R,Tr.kids K=R:=⟨_,rfl⟩
  rw [hR] at HRI HK0 HKL HKC HKB
  simp only [hR] at HKW
  have gS2:2<=S.length:=hb2
  have gScap:S.length<=cap:=hcap
  obtain ⟨k0,hk0⟩:∃ k,S[0].1=k:=⟨_,rfl⟩
  obtain ⟨kv,hkv⟩:∃ k,S[0].2=k:=⟨_,rfl⟩
  obtain ⟨kj,hkj⟩:∃ k,S[j].1=k:=⟨_,rfl⟩
  rw [hk0] at HC HCO HK0
  rw [hkj] at HC HCO
  rw [hkv] at HC HK0
  obtain ⟨n,hn⟩:∃ n,S.length=n:=⟨_,rfl⟩
  rw [hn] at HRI HK0 hl hj hjl gS2 gScap ⊢
  have g0:((n:Int) == 0)=false:=by rw [beq_eq_false_iff_ne]; omega
  have g1:((n:Int) == 1)=false:=by rw [beq_eq_false_iff_ne]; omega
  have gj:(n:Int) - 1=(j:Int):=by omega
  have gw:IntKind.i64.wrap ((n:Int) - 1)=(j:Int):=(IntWalk.i64_in ((n:Int) - 1) (by omega)).trans (by omega)
  have gw2:IntKind.i64.wrap (j:Int)=(j:Int):=IntWalk.i64_in _ (by omega)
  have gj0:(0:Int)<=(j:Int):=by omega
  have gjn:(j:Int) < (n:Int):=by omega
  have gjN:j < n:=by omega
  have gn0:(0:Int) < (n:Int):=by omega
  have gnN:0 < n:=by omega
  have gnb:(n:Int)<=100000:=by omega
  have gn1:(1:Int)<=(n:Int):=by omega
  have gn1N:1<=n:=by omega
  have gnc:(n:Int)<=(cap:Int):=by omega
  have BD:Below w.heap.size w w.drew:=(Below.refl _ _).drew
  obtain ⟨m0,m0',m1⟩:=HC.out _ BD
  have HCO2:=qh (HCO.out w.drew)
  have HPL0:=qh hp0'
  clear hv hpl hcn hbf hb2 hfine hbn n0 hk0 hkj hkv hn hS ho hpos HV HCO hp0 hp0' ih hcap hR
  go_enter Tryz.func71,Tryz.ntmps71
  go_upto_region 5 with fail
  go_region_held3 (fun w'=>w'.cell? ⟨b,o,none⟩=some (.string ⟨k0.toArray⟩)/\w'.cell? ⟨b,o+j * 2,none⟩=some (.string ⟨kj.toArray⟩))
    ((first | (with_reducible exact ⟨m0,m1⟩) | (have hq:=HC.out _ (by with_reducible assumption); exact ⟨hq.1,hq.2.2⟩)))
    ((go_at_call 106; refine HCO2.out.mono ?_; rintro e w3 ⟨rfl,hb3⟩; have hb3':=bchain BD hb3))
  all_goals
    have HB3:=qh hb3'
    clear hb3 hb3' m0 m0' m1
    have HBL:Hid (Tryz.prog.built 110 [(0,.int .i64 3)]=some (ncl ⟨3,[],[],Nd.none16⟩).toArray):=qh (by rfl)
    have HOC:=qh (ncl_one ⟨3,[],[],Nd.none16⟩)
    have HS19:Hid ((ncl ⟨3,[],[],Nd.none16⟩).toArray.size=19):=qh rfl
    have HI19:Hid ((Tryz.prog.info? 110).map (·.size)=some 19):=qh (by kernel_rfl)
    obtain ⟨C,hC⟩:∃ C,(ncl ⟨3,[],[],Nd.none16⟩).toArray=C:=⟨_,rfl⟩
    rw [hC] at HBL HOC HS19
    have HI2:Hid ((Tryz.prog.info? 110).map (·.size)=some C.size):=qh (by rw [HS19.out]; exact HI19.out)
    have HB4:Hid (∀ D:Array Value,Below w.heap.size w (w3.alloc (.cells D 110))):=qh (fun D=>HB3.out.alloc HB3.out.size _)
    obtain ⟨m0,m0',m1⟩:=HC.out _ (HB4.out C)
    have c2:(w3.alloc (.cells C 110)).cell? ⟨w3.heap.size,2,none⟩=some (.string ⟨#[]⟩):=by
      have h:NodeAt (w3.alloc (.cells C 110)) w3.heap.size ⟨3,[],[],Nd.none16⟩:=by rw [← hC]; exact heap_new_at w3 _ _ rfl
      exact h.val
    have f2:(w3.alloc (.cells C 110)).frozen? ⟨w3.heap.size,2,none⟩=false:=frozen_of_row _ _ _ _ _ (heap_new_at w3 _ _ rfl)
    have hset:C.setIfInBounds 2 (.string ⟨x.toArray⟩)=(ncl ⟨3,[],x,Tri.kidsK Nd.sumS K 0⟩).toArray:=by
      rw [← hC,Tri.kidsK_zero]; rfl
    have HCX:Hid (x=[]->C=(ncl ⟨3,[],x,Tri.kidsK Nd.sumS K 0⟩).toArray):=qh (fun h=>by
      rw [← hC,Tri.kidsK_zero,h]; rfl)
    have HNA:Hid (NodeAt (w3.alloc (.cells (ncl ⟨3,[],x,Tri.kidsK Nd.sumS K 0⟩).toArray 110)) w3.heap.size ⟨3,[],x,Tri.kidsK Nd.sumS K 0⟩):=qh (heap_new_at w3 _ _ rfl)
    obtain ⟨D,hD⟩:∃ D,(ncl ⟨3,[],x,Tri.kidsK Nd.sumS K 0⟩).toArray=D:=⟨_,rfl⟩
    rw [hD] at hset HCX HNA
    clear hC hD
    by_cases hx:x=[]
    · obtain ⟨hk,hnn⟩:=HK0.out.2 hx
      have hk1:(k0 == [])=false:=by rw [beq_eq_false_iff_ne]; exact hk
      have hk2:k0.isEmpty=false:=by cases k0 <;> simp_all
      have HRV:Hid (∀ w',Below w.heap.size w w'->ItAt w' (.slice (some ⟨b,o,none⟩) n cap) (R)):=qh (fun w' h=>(HRI.out w' h).2 hx)
      have HWD:=qh (HB4.out D)
      have HCD:=qh (HCX.out hx)
      subst hnn
      clear HRI HK0 HCX hx
      go_wp2_with (first | (refine wpList_build_some (by rfl) _ _ (by rfl) [(0,.int .i64 3)] (by first | rfl | (simp [Act.eval]; done) | kernel_rfl) C HBL.out ?_) | (refine wpList_store_fresh (by rfl) _ _ _ (by rfl) w3.heap.size rfl C (by rfl) (by rfl) _ _ HI2.out HS19.out.symm HOC.out ?_))
      obtain ⟨q,hq⟩:∃ q,w3.heap.size=q:=⟨_,rfl⟩
      rw [HCD.out]
      have HQW:Hid (w.heap.size<=q):=qh (by rw [← hq]; exact HB3.out.size)
      have HQL:Hid (q < (w3.alloc (.cells D 110)).heap.size):=qh (by rw [← hq]; simp)
      rw [hq] at HNA ⊢
      clear hq hset c2 f2 m0 m0' m1
      generalize w3.alloc (.cells D 110)=w4 at *
      have hRn:(R.length:Int)<=100000:=by omega
      have HRS:Hid (R.length<=2000):=HKL
      obtain ⟨oR,hoR⟩:∃ y,o=y:=⟨_,rfl⟩
      obtain ⟨cR,hcR⟩:∃ y,cap=y:=⟨_,rfl⟩
      rw [hoR,hcR] at HRV
      rw [hoR,hcR]
      clear HC HCO2 HKL HB3 HB4 HBL HOC HS19 HI2 hl g0 g1 gj gw gw2 gj0 gjn gjN gn0 gnN gnb gn1 gn1N gnc BD gS2 gScap hj hjl hoR hcR
      go_loopw [9,10] (fun av iv wr=>∃ (i:Nat) (a:Value),a=av/\i<=16/\iv=.int .i64 i/\OwnSp wr (q+1) a (Tri.spotsK Nd.sumS place K i)/\NodeAt wr q ⟨3,[],x,Tri.kidsK Nd.sumS K i⟩/\Below w.heap.size w wr) (fun _ i _=>16 - (intOf i).toNat)
      case atStart=>exact ⟨0,_,rfl,by omega,rfl,OwnSp.nil _ _,HNA.out,HWD.out⟩
      case round=>
        obtain ⟨i,a,rfl,hi,rfl,hsp,hnd,hb0⟩:=hrel
        obtain ⟨wo,rfl⟩:∃ y,y=wr:=⟨_,rfl⟩
        have HB:=qh hb0
        have HND:=qh hnd
        have HSO:=qh hsp
        by_cases hlt:i < 16
        · have h1:(i:Int) < 16:=by omega
          have h0:(0:Int)<=(i:Int):=by omega
          have HRW:=qh (fun w' (h:Below wo.heap.size wo w')=>HRV.out w' (bchain HB.out h))
          clear hsp hnd hb0
          go_wp2
          go_loopw [11,12] (fun uv kv wr=>∃ (k:Nat) (u:Value),u=uv/\k<=R.length/\kv=.int .i64 k/\OwnI wr wo.heap.size u (Tri.withL (hb ⟨i,hlt⟩) (R.take k))/\Below wo.heap.size wo wr) (fun _ k _=>R.length - (intOf k).toNat)
          case atStart=>exact ⟨0,_,rfl,Nat.zero_le _,rfl,OwnI.nil _ _,Below.refl _ _⟩
          case round=>
            obtain ⟨k,u,rfl,hk,rfl,hu,hbs⟩:=hrel
            have HU:=qh hu
            have HBS:=qh hbs
            by_cases hlk:k < R.length
            · have k1:(k:Int) < (R.length:Int):=by omega
              have k0':(0:Int)<=(k:Int):=by omega
              have kb:(k:Int)<=100000:=by omega
              obtain ⟨b2,o2,e2,n0,n1⟩:=ItAt.at (HRW.out wr hbs) k hlk
              cases e2
              obtain ⟨c,q',hcq⟩:=HKC.out R[k] (List.getElem_mem hlk)
              have HTK:=qh (head_cons _ _ R k hlk hcq (hb ⟨i,hlt⟩))
              have hwl:(Tri.withL (hb ⟨i,hlt⟩) (R.take k)).length<=100000:=by
                have:=Tri.withL_le (hb ⟨i,hlt⟩) (R.take k)
                simp at this; omega
              obtain ⟨y,hy⟩:∃ y,R[k].2=y:=⟨_,rfl⟩
              have er:R[k]=(hb c :: q',y):=Prod.ext hcq hy
              rw [er] at HTK n0 n1
              have hix:∀ h,(⟨(hb c :: q').toArray⟩:ByteArray)[0]'h=hb c:=fun _=>rfl
              have hcv:(hb c).toNat=c.val:=Tri.hb_toNat c
              have hc16:=c.isLt
              have hc0:(0:Int)<=((hb c).toNat:Int):=by omega
              have hc1:((hb c).toNat:Int)<=255:=by omega
              have hql:0 < (hb c :: q').length:=by simp
              by_cases hc:c.val=i
              · have hce:hb c=hb ⟨i,hlt⟩:=by rw [show c=⟨i,hlt⟩ from Fin.ext hc]
                rw [if_pos hce] at HTK
                have e1:(((hb c).toNat:Int) == (i:Int))=true:=by rw [beq_iff_eq]; omega
                have e2:((hb c).toNat:Int)=(i:Int):=by omega
                obtain ⟨g5,c5,w5,r5,o5,b5⟩:=app_item (hb c :: q') y hu hwl hbs.size
                have HR5:=qh r5
                have HO5:=qh o5
                have HB5:=qh (HBS.out.trans b5)
                obtain ⟨bc,hbc⟩:∃ bc,hb c=bc:=⟨_,rfl⟩
                rw [hbc] at n0 n1 HR5 hix e1 e2 hc0 hc1 hql
                clear hu hbs r5 o5 b5 hwl hcq hy er hce hcv hc16 hbc
                go_wp2_with (at_builtin; refine wpList_append_run rfl _ _ _ rfl u (.slice (some ⟨wr.heap.size,0,none⟩) 1 1) _ (by rfl) (by rfl) HR5.out ?_)
                go_roundw
                case rel=>exact ⟨k+1,_,rfl,by omega,by go_num,by rw [HTK.out]; exact HO5.out,HB5.out⟩
                case measure=>simp [intOf]; omega
              · have hce:hb c ≠ hb ⟨i,hlt⟩:=fun e=>hc (congrArg Fin.val (Tri.hb_inj e))
                rw [if_neg hce,List.append_nil] at HTK
                have e1:(((hb c).toNat:Int) == (i:Int))=false:=by rw [beq_eq_false_iff_ne]; omega
                have e2:¬ (((hb c).toNat:Int)=(i:Int)):=by omega
                obtain ⟨bc,hbc⟩:∃ bc,hb c=bc:=⟨_,rfl⟩
                rw [hbc] at n0 n1 hix e1 e2 hc0 hc1 hql
                clear hu hbs hwl hcq hy er hce hcv hc16 hbc
                go_wp2
                go_roundw
                case rel=>exact ⟨k+1,_,rfl,by omega,by go_num,by rw [HTK.out]; exact HU.out,HBS.out⟩
                case measure=>simp [intOf]; omega
            · obtain rfl:k=R.length:=by omega
              have k1:¬ ((R.length:Int) < (R.length:Int)):=by omega
              have hitR:ItAt wr u (Tri.withL (hb ⟨i,hlt⟩) R):=by
                have:=(OwnI.at_ hu)
                rwa [List.take_length] at this
              have HLS:Hid (∀ w',Below wr.heap.size wr w'->Calls Tryz.prog 107 #[u,.int .i64 1] w' fun e w''=>∃ v',e=.returned v'/\ItAt w'' v' (K ⟨i,hlt⟩).items/\Below wr.heap.size wr w''/\Below w'.heap.size w' w''):=qh (fun w' hbl=>by
                have hwl:(Tri.withL (hb ⟨i,hlt⟩) R).length<=10000:=by
                  have:=Tri.withL_le (hb ⟨i,hlt⟩) R
                  have:=HRS.out
                  omega
                refine (rtLess_any (Tri.withL (hb ⟨i,hlt⟩) R) u 1 w' (RowsAt.below hitR hbl) hwl (fun y hy=>?_) (by omega) (fun y hy=>?_)).mono fun e w'' ⟨v',q1,q2,q3⟩=>⟨v',q1,by rw [← HKW.out ⟨i,hlt⟩]; exact ItAt.own (by rw [show (Tri.cutL 1 (Tri.withL (hb ⟨i,hlt⟩) R)).length=(Tri.withL (hb ⟨i,hlt⟩) R).length by simp [Tri.cutL]]; exact q2),bchain hbl q3,q3⟩
                · obtain ⟨c,q',e⟩:=HKC.out y (List.mem_filter.1 hy).1
                  rw [e]; simp
                · have:=HKB.out y (List.mem_filter.1 hy).1
                  omega)
              have HGK:=qh (HKID.out wr ⟨i,hlt⟩)
              have HDT:=qh (fun hn:¬ (K ⟨i,hlt⟩).isNil=>Tri.spots_head Nd.sumS (place ++ [hb ⟨i,hlt⟩]) hn)
              have HDN:=qh (fun hn:(K ⟨i,hlt⟩).isNil=>Tri.nil_spots Nd.sumS (place ++ [hb ⟨i,hlt⟩]) hn)
              have HSM:=qh (fun hn:¬ (K ⟨i,hlt⟩).isNil=>Tri.sum_node Nd.sumS hn)
              have HST:=qh (Tri.spotsK_step Nd.sumS place K i hlt)
              have HKS:=qh (Tri.kidsK_set Nd.sumS K i hlt)
              have HKN:=qh (Tri.kidsK_skip Nd.sumS K i hlt)
              have HNK:=qh (fun t:Tr=>Tri.node_kids Nd.sumS t)
              have hbv:(hb ⟨i,hlt⟩).toNat=i:=Tri.hb_toNat ⟨i,hlt⟩
              obtain ⟨bi,hbi⟩:∃ bi,hb ⟨i,hlt⟩=bi:=⟨_,rfl⟩
              rw [hbi] at HGK HDT HDN HST hbv
              have e1:(i:Int) % 256=(i:Int):=by omega
              have ew:IntKind.u8.wrap (i:Int)=(i:Int):=by show (i:Int) % 256=_; omega
              have h255:(i:Int)<=255:=by omega
              have hown0:=(ownsOne wr wr.heap.size (Nat.le_refl _) bi (i:Int) (by rw [hbv])).drew
              have hcvA:=conv_own hown0
              have HCV:Hid (∀ wl,Below (wr.alloc (.cells #[.int .u8 (i:Int)] 5)).drew.heap.size (wr.alloc (.cells #[.int .u8 (i:Int)] 5)).drew wl->(convert 126 9 (.slice (some ⟨wr.heap.size,0,none⟩) 1 1)).run Tryz.prog wl=.ok (.string ⟨[bi].toArray⟩) wl):=qh (fun wl h=>by
                exact conv_own (row_out (G:=fun _=>False) hown0 (Out.of h) (fun _ _ _ _ hf=>hf.elim)))
              have HCW:Hid (∀ wl:World,(convert 126 9 (.slice (some ⟨wl.heap.size,0,none⟩) 1 1)).run Tryz.prog (wl.alloc (.cells #[.int .u8 (i:Int)] 5))=.ok (.string ⟨[bi].toArray⟩) (wl.alloc (.cells #[.int .u8 (i:Int)] 5))):=qh (fun wl=>conv_one' wl bi (i:Int) (by rw [hbv]) _ rfl)
              have hcm:=cat_mk place [bi]
              have hpl1:=HPL0.out
              have hadd:∀ w,(Op.stringOp .add (⟨place.toArray⟩:ByteArray) ⟨[bi].toArray⟩).run Tryz.prog w=.ok (.string ⟨(place ++ [bi]).toArray⟩) w:=fun w=>run_string_add_lists w place [bi] (by omega) (by simp)
              have hsum:¬ (9223372036854775807 < place.length+1):=by omega
              have BD:Below wr.heap.size wr wr.drew:=(Below.refl _ _).drew
              have BA:Below wr.heap.size wr (wr.alloc (.cells #[.int .u8 (i:Int)] 5)).drew:=((Below.refl _ wr).alloc (Nat.le_refl _) _).drew
              clear hu hbs hitR hbi hbv hown0
              go_upto_region 25 with fail
              go_cut [13] from 113 to 121 (fun s wx=>∃ s1,s1=s/\KidRow wr ((K ⟨i,hlt⟩).spots Nd.sumS (place ++ [bi])) s1 wx)
              case first=>
                go_wp2
                go_region_with (first | (go_at_call 107; refine (HLS.out _ ?_).mono ?_; (first | with_reducible exact BD | with_reducible exact BA); rintro e wl ⟨v1,rfl,it1,hl1,hl2⟩; have hcvB:=HCW.out wl; (try (have hcvC:=HCV.out wl hl2)); have it1':ItAt (wl.alloc (.cells #[.int .u8 (i:Int)] 5)) v1 (K ⟨i,hlt⟩).items:=RowsAt.below it1 ((Below.refl _ wl).alloc (Nat.le_refl _) (.cells #[.int .u8 (i:Int)] 5)); have hl1':=hl1.alloc hl1.size (.cells #[.int .u8 (i:Int)] 5)) | (go_at_call 71; refine (HGK.out _ _ ?_ ?_).mono ?_; (first | with_reducible exact hl1 | with_reducible exact hl1'); (first | with_reducible exact it1 | with_reducible exact it1'); rintro e wg ⟨s1,rfl,os1,hg1⟩))
                all_goals
                  go_wp2_with fail
                  go_meet
                  case rel=>exact ⟨_,rfl,os1,hg1⟩
              case rest=>
                obtain ⟨wg,rfl⟩:∃ y,y=wc:=⟨_,rfl⟩
                obtain ⟨s1,rfl,os1,hg1⟩:=hcut
                have HBG:=qh (HBS.out.trans (hg1.mono HBS.out.size))
                clear hadd hsum hcm hcvA HCV HCW BD BA HLS HGK e1 ew h255
                have hq1:q+1<=wo.heap.size:=by
                  have:=lt_of_heap HND.out
                  omega
                have HNG:Hid (NodeAt wg q ⟨3,[],x,Tri.kidsK Nd.sumS K i⟩):=qh (HND.out.below HBG.out)
                have HSG:Hid (OwnSp wg (q+1) a (Tri.spotsK Nd.sumS place K i)):=qh (HSO.out.below HBG.out)
                have hl1:=HSL.out (i+1)
                rw [HST.out,List.length_append] at hl1
                obtain ⟨A1,cap1,rfl⟩:∃ A1 cap1,s1=.slice A1 ((K ⟨i,hlt⟩).spots Nd.sumS (place ++ [bi])).length cap1:=by
                  obtain ⟨A,c,e,-,-⟩:=(OwnSp.at_ os1).form
                  exact ⟨A,c,e⟩
                by_cases hnl:(K ⟨i,hlt⟩).isNil
                · obtain ⟨e1,e2⟩:=HDN.out hnl
                  have HKE:=qh (HKN.out e2)
                  rw [e1] at os1 hl1
                  obtain ⟨v6,w6,r6,o6,b6⟩:=append_spots (OwnSp.at_ os1) HSG.out (by simp at hl1 ⊢; omega) (by have:=HBG.out.size; omega)
                  have HR6:=qh r6
                  have HO6:Hid (OwnSp w6 (q+1) v6 (Tri.spotsK Nd.sumS place K (i+1))):=qh (by rw [HST.out,e1]; exact o6)
                  have HN6:Hid (NodeAt w6 q ⟨3,[],x,Tri.kidsK Nd.sumS K (i+1)⟩):=qh (by rw [HKE.out]; exact (b6.block q (by omega)).trans HNG.out)
                  have HB6:Hid (Below w.heap.size w w6):=qh ((bchain HB.out HBG.out).trans (b6.mono (by have:=HB.out.size; have:=HQW.out; omega)))
                  rw [e1]
                  simp only [List.length_nil] at hl1 ⊢
                  simp only [List.length_nil] at HR6
                  clear os1 hg1 r6 o6 b6 e1 hl1
                  go_wp2_with (at_builtin; refine wpList_append_run rfl _ _ _ rfl a (.slice A1 0 cap1) _ (by rfl) (by rfl) HR6.out ?_)
                  go_roundw
                  case rel=>exact ⟨i+1,v6,rfl,by omega,by go_num,HO6.out,HN6.out,HB6.out⟩
                  case measure=>simp [intOf]; omega
                · obtain ⟨r,hr⟩:=HDT.out hnl
                  have hsm:=HSM.out hnl
                  have h16:=HNK.out (K ⟨i,hlt⟩)
                  have hL1:0 < ((K ⟨i,hlt⟩).spots Nd.sumS (place ++ [bi])).length:=by rw [hr]; simp
                  obtain ⟨g1,c1,ef,-,-⟩:=World.ownsRow.form os1 hL1
                  obtain ⟨rfl,rfl⟩:A1=some ⟨g1,0,none⟩/\cap1=c1:=by simpa using ef
                  have n7:wg.cell? ⟨g1,2,none⟩=some (.string ⟨((K ⟨i,hlt⟩).sum Nd.sumS).toArray⟩):=by
                    obtain ⟨b3,o3,e3,-,-,k3⟩:=SpAt.at (OwnSp.at_ os1) 0 hL1 (by simp only [hr,List.getElem_cons_zero]; exact h16)
                    cases e3
                    simp only [hr,List.getElem_cons_zero,Nat.zero_mul,Nat.zero_add] at k3
                    rw [k3,hsm]
                  obtain ⟨xs,hxs⟩:∃ xs,(K ⟨i,hlt⟩).sum Nd.sumS=xs:=⟨_,rfl⟩
                  rw [hxs] at n7
                  have c7:=HNG.out.kid i (by rw [Tri.kidsK_len]; exact hlt)
                  have f7:=HNG.out.free (3+i)
                  have hN7:NodeAt (wg.setCell ⟨q,3+i,none⟩ (.string ⟨xs.toArray⟩)) q ⟨3,[],x,Tri.kidsK Nd.sumS K (i+1)⟩:=by
                    have:=HNG.out.setKid i xs
                    rw [← HKS.out,hxs]
                    exact this
                  have hS7:=HSG.out.setOff (q:=q) (by omega) (3+i) (.string ⟨xs.toArray⟩)
                  have hO7:=os1.setOff (q:=q) (by have:=HBS.out.size; omega) (3+i) (.string ⟨xs.toArray⟩)
                  have hB7:Below q wg (wg.setCell ⟨q,3+i,none⟩ (.string ⟨xs.toArray⟩)):=(Below.refl _ wg).setCell (p:=⟨q,3+i,none⟩) (Nat.le_refl _) _
                  obtain ⟨kv7,hkv7⟩:∃ kv7,(Tri.kidsK Nd.sumS K i)[i]'(by rw [Tri.kidsK_len]; exact hlt)=kv7:=⟨_,rfl⟩
                  rw [hkv7] at c7
                  obtain ⟨w7,hw7⟩:∃ w7,wg.setCell ⟨q,3+i,none⟩ (.string ⟨xs.toArray⟩)=w7:=⟨_,rfl⟩
                  rw [hw7] at hN7 hS7 hO7 hB7
                  obtain ⟨v6,w6,r6,o6,b6⟩:=append_spots (OwnSp.at_ hO7) hS7 (by omega) (by have:=HBG.out.size; have:=hB7.size; omega)
                  have HR6:=qh r6
                  have HO6:Hid (OwnSp w6 (q+1) v6 (Tri.spotsK Nd.sumS place K (i+1))):=qh (by rw [HST.out]; exact o6)
                  have HN6:Hid (NodeAt w6 q ⟨3,[],x,Tri.kidsK Nd.sumS K (i+1)⟩):=qh ((b6.block q (by omega)).trans hN7)
                  have HB6:Hid (Below w.heap.size w w6):=qh ((bchain HB.out HBG.out).trans ((hB7.mono (by have:=HQW.out; omega)).trans (b6.mono (by have:=HB.out.size; have:=HQW.out; omega))))
                  obtain ⟨N1,hN1⟩:∃ N1,((K ⟨i,hlt⟩).spots Nd.sumS (place ++ [bi])).length=N1:=⟨_,rfl⟩
                  rw [hN1] at HR6 hL1 ⊢
                  have hL1i:(0:Int) < (N1:Int):=by omega
                  have hL1g:(N1:Int) > 0:=hL1i
                  clear os1 hg1 r6 o6 b6 hl1 hN7 hS7 hO7 hB7 ef hr hsm h16 hkv7 hxs hN1
                  go_wp2_with (at_builtin; refine wpList_append_run rfl _ _ _ rfl a (.slice (some ⟨g1,0,none⟩) N1 cap1) _ (by rfl) (by rfl) HR6.out ?_)
                  go_roundw
                  case rel=>exact ⟨i+1,v6,rfl,by omega,by go_num,HO6.out,HN6.out,HB6.out⟩
                  case measure=>simp [intOf]; omega
        · obtain rfl:i=16:=by omega
          have hb16:=hnd
          have HAO:=qh (ncl_one ⟨3,[],x,Tri.kidsK Nd.sumS K 16⟩)
          have HAS:Hid ((ncl ⟨3,[],x,Tri.kidsK Nd.sumS K 16⟩).toArray.size=19):=qh (by rw [List.size_toArray,ncl_length _ (Tri.kidsK_len ..)])
          have HSQ:=qh (HSP.out a wo (OwnSp.at_ hsp))
          have HRQ:Hid (wo.heap[q]?=some (.cells (ncl ⟨3,[],x,Tri.kidsK Nd.sumS K 16⟩).toArray 110 (0,0))):=qh hb16
          unfold ndval at HSQ
          obtain ⟨E,hE⟩:∃ E,(ncl ⟨3,[],x,Tri.kidsK Nd.sumS K 16⟩).toArray=E:=⟨_,rfl⟩
          rw [hE] at HAO HAS HSQ HRQ
          have HID:Hid ((Tryz.prog.info? 110).map (·.size)=some E.size):=qh (by rw [HAS.out]; exact HI19.out)
          clear hsp hnd hb0 hE hb16
          go_wp2_with (refine wpList_load_row (by rfl) _ _ (by rfl) q (by rfl) _ E _ _ HRQ.out Tryz.underlying110 (by rfl) HID.out ?_)
          refine HSQ.out.mono ?_
          rintro e w6 ⟨s6,rfl,o6,hb6⟩
          have HO6:=qh (own_lowP o6 HB.out.size)
          have HB6:Hid (Below w.heap.size w w6):=qh (bchain HB.out hb6)
          clear o6 hb6
          go_wp2
          go_ret
          exact ⟨s6,rfl,HO6.out,HB6.out⟩
    · obtain ⟨hk,hkx,hnn⟩:=HK0.out.1 hx
      have HRV:Hid (∀ w',Below w.heap.size w w'->ItAt w' (.slice (some ⟨b,o+2,none⟩) (n - 1) (cap - 1)) (R)):=qh (fun w' h=>(HRI.out w' h).1 hx)
      have HWD:=qh (HB4.out D)
      subst hk
      replace hkx:=hkx.symm
      subst hkx
      rw [hj] at hnn HRV
      have hjR:j=(R).length:=hnn
      subst hjR
      clear HRI HK0 HCX hx
      go_wp2_with (first | (refine wpList_build_some (by rfl) _ _ (by rfl) [(0,.int .i64 3)] (by first | rfl | (simp [Act.eval]; done) | kernel_rfl) C HBL.out ?_) | (refine wpList_store_fresh (by rfl) _ _ _ (by rfl) w3.heap.size rfl C (by rfl) (by rfl) _ _ HI2.out HS19.out.symm HOC.out ?_))
      obtain ⟨q,hq⟩:∃ q,w3.heap.size=q:=⟨_,rfl⟩
      have HQW:Hid (w.heap.size<=q):=qh (by rw [← hq]; exact HB3.out.size)
      have HQL:Hid (q < (w3.alloc (.cells D 110)).heap.size):=qh (by rw [← hq]; simp)
      rw [hq] at HNA ⊢
      clear hq hset c2 f2 m0 m0' m1
      generalize w3.alloc (.cells D 110)=w4 at *
      have hRn:(R.length:Int)<=100000:=by omega
      have HRS:Hid (R.length<=2000):=HKL
      obtain ⟨oR,hoR⟩:∃ y,o+2=y:=⟨_,rfl⟩
      obtain ⟨cR,hcR⟩:∃ y,cap - 1=y:=⟨_,rfl⟩
      rw [hoR,hcR] at HRV
      rw [hoR,hcR]
      clear HC HCO2 HKL HB3 HB4 HBL HOC HS19 HI2 hl g0 g1 gj gw gw2 gj0 gjn gjN gn0 gnN gnb gn1 gn1N gnc BD gS2 gScap hj hjl hoR hcR
      go_loopw [9,10] (fun av iv wr=>∃ (i:Nat) (a:Value),a=av/\i<=16/\iv=.int .i64 i/\OwnSp wr (q+1) a (Tri.spotsK Nd.sumS place K i)/\NodeAt wr q ⟨3,[],x,Tri.kidsK Nd.sumS K i⟩/\Below w.heap.size w wr) (fun _ i _=>16 - (intOf i).toNat)
      case atStart=>exact ⟨0,_,rfl,by omega,rfl,OwnSp.nil _ _,HNA.out,HWD.out⟩
      case round=>
        obtain ⟨i,a,rfl,hi,rfl,hsp,hnd,hb0⟩:=hrel
        obtain ⟨wo,rfl⟩:∃ y,y=wr:=⟨_,rfl⟩
        have HB:=qh hb0
        have HND:=qh hnd
        have HSO:=qh hsp
        by_cases hlt:i < 16
        · have h1:(i:Int) < 16:=by omega
          have h0:(0:Int)<=(i:Int):=by omega
          have HRW:=qh (fun w' (h:Below wo.heap.size wo w')=>HRV.out w' (bchain HB.out h))
          clear hsp hnd hb0
          go_wp2
          go_loopw [11,12] (fun uv kv wr=>∃ (k:Nat) (u:Value),u=uv/\k<=R.length/\kv=.int .i64 k/\OwnI wr wo.heap.size u (Tri.withL (hb ⟨i,hlt⟩) (R.take k))/\Below wo.heap.size wo wr) (fun _ k _=>R.length - (intOf k).toNat)
          case atStart=>exact ⟨0,_,rfl,Nat.zero_le _,rfl,OwnI.nil _ _,Below.refl _ _⟩
          case round=>
            obtain ⟨k,u,rfl,hk,rfl,hu,hbs⟩:=hrel
            have HU:=qh hu
            have HBS:=qh hbs
            by_cases hlk:k < R.length
            · have k1:(k:Int) < (R.length:Int):=by omega
              have k0':(0:Int)<=(k:Int):=by omega
              have kb:(k:Int)<=100000:=by omega
              obtain ⟨b2,o2,e2,n0,n1⟩:=ItAt.at (HRW.out wr hbs) k hlk
              cases e2
              obtain ⟨c,q',hcq⟩:=HKC.out R[k] (List.getElem_mem hlk)
              have HTK:=qh (head_cons _ _ R k hlk hcq (hb ⟨i,hlt⟩))
              have hwl:(Tri.withL (hb ⟨i,hlt⟩) (R.take k)).length<=100000:=by
                have:=Tri.withL_le (hb ⟨i,hlt⟩) (R.take k)
                simp at this; omega
              obtain ⟨y,hy⟩:∃ y,R[k].2=y:=⟨_,rfl⟩
              have er:R[k]=(hb c :: q',y):=Prod.ext hcq hy
              rw [er] at HTK n0 n1
              have hix:∀ h,(⟨(hb c :: q').toArray⟩:ByteArray)[0]'h=hb c:=fun _=>rfl
              have hcv:(hb c).toNat=c.val:=Tri.hb_toNat c
              have hc16:=c.isLt
              have hc0:(0:Int)<=((hb c).toNat:Int):=by omega
              have hc1:((hb c).toNat:Int)<=255:=by omega
              have hql:0 < (hb c :: q').length:=by simp
              by_cases hc:c.val=i
              · have hce:hb c=hb ⟨i,hlt⟩:=by rw [show c=⟨i,hlt⟩ from Fin.ext hc]
                rw [if_pos hce] at HTK
                have e1:(((hb c).toNat:Int) == (i:Int))=true:=by rw [beq_iff_eq]; omega
                have e2:((hb c).toNat:Int)=(i:Int):=by omega
                obtain ⟨g5,c5,w5,r5,o5,b5⟩:=app_item (hb c :: q') y hu hwl hbs.size
                have HR5:=qh r5
                have HO5:=qh o5
                have HB5:=qh (HBS.out.trans b5)
                obtain ⟨bc,hbc⟩:∃ bc,hb c=bc:=⟨_,rfl⟩
                rw [hbc] at n0 n1 HR5 hix e1 e2 hc0 hc1 hql
                clear hu hbs r5 o5 b5 hwl hcq hy er hce hcv hc16 hbc
                go_wp2_with (at_builtin; refine wpList_append_run rfl _ _ _ rfl u (.slice (some ⟨wr.heap.size,0,none⟩) 1 1) _ (by rfl) (by rfl) HR5.out ?_)
                go_roundw
                case rel=>exact ⟨k+1,_,rfl,by omega,by go_num,by rw [HTK.out]; exact HO5.out,HB5.out⟩
                case measure=>simp [intOf]; omega
              · have hce:hb c ≠ hb ⟨i,hlt⟩:=fun e=>hc (congrArg Fin.val (Tri.hb_inj e))
                rw [if_neg hce,List.append_nil] at HTK
                have e1:(((hb c).toNat:Int) == (i:Int))=false:=by rw [beq_eq_false_iff_ne]; omega
                have e2:¬ (((hb c).toNat:Int)=(i:Int)):=by omega
                obtain ⟨bc,hbc⟩:∃ bc,hb c=bc:=⟨_,rfl⟩
                rw [hbc] at n0 n1 hix e1 e2 hc0 hc1 hql
                clear hu hbs hwl hcq hy er hce hcv hc16 hbc
                go_wp2
                go_roundw
                case rel=>exact ⟨k+1,_,rfl,by omega,by go_num,by rw [HTK.out]; exact HU.out,HBS.out⟩
                case measure=>simp [intOf]; omega
            · obtain rfl:k=R.length:=by omega
              have k1:¬ ((R.length:Int) < (R.length:Int)):=by omega
              have hitR:ItAt wr u (Tri.withL (hb ⟨i,hlt⟩) R):=by
                have:=(OwnI.at_ hu)
                rwa [List.take_length] at this
              have HLS:Hid (∀ w',Below wr.heap.size wr w'->Calls Tryz.prog 107 #[u,.int .i64 1] w' fun e w''=>∃ v',e=.returned v'/\ItAt w'' v' (K ⟨i,hlt⟩).items/\Below wr.heap.size wr w''/\Below w'.heap.size w' w''):=qh (fun w' hbl=>by
                have hwl:(Tri.withL (hb ⟨i,hlt⟩) R).length<=10000:=by
                  have:=Tri.withL_le (hb ⟨i,hlt⟩) R
                  have:=HRS.out
                  omega
                refine (rtLess_any (Tri.withL (hb ⟨i,hlt⟩) R) u 1 w' (RowsAt.below hitR hbl) hwl (fun y hy=>?_) (by omega) (fun y hy=>?_)).mono fun e w'' ⟨v',q1,q2,q3⟩=>⟨v',q1,by rw [← HKW.out ⟨i,hlt⟩]; exact ItAt.own (by rw [show (Tri.cutL 1 (Tri.withL (hb ⟨i,hlt⟩) R)).length=(Tri.withL (hb ⟨i,hlt⟩) R).length by simp [Tri.cutL]]; exact q2),bchain hbl q3,q3⟩
                · obtain ⟨c,q',e⟩:=HKC.out y (List.mem_filter.1 hy).1
                  rw [e]; simp
                · have:=HKB.out y (List.mem_filter.1 hy).1
                  omega)
              have HGK:=qh (HKID.out wr ⟨i,hlt⟩)
              have HDT:=qh (fun hn:¬ (K ⟨i,hlt⟩).isNil=>Tri.spots_head Nd.sumS (place ++ [hb ⟨i,hlt⟩]) hn)
              have HDN:=qh (fun hn:(K ⟨i,hlt⟩).isNil=>Tri.nil_spots Nd.sumS (place ++ [hb ⟨i,hlt⟩]) hn)
              have HSM:=qh (fun hn:¬ (K ⟨i,hlt⟩).isNil=>Tri.sum_node Nd.sumS hn)
              have HST:=qh (Tri.spotsK_step Nd.sumS place K i hlt)
              have HKS:=qh (Tri.kidsK_set Nd.sumS K i hlt)
              have HKN:=qh (Tri.kidsK_skip Nd.sumS K i hlt)
              have HNK:=qh (fun t:Tr=>Tri.node_kids Nd.sumS t)
              have hbv:(hb ⟨i,hlt⟩).toNat=i:=Tri.hb_toNat ⟨i,hlt⟩
              obtain ⟨bi,hbi⟩:∃ bi,hb ⟨i,hlt⟩=bi:=⟨_,rfl⟩
              rw [hbi] at HGK HDT HDN HST hbv
              have e1:(i:Int) % 256=(i:Int):=by omega
              have ew:IntKind.u8.wrap (i:Int)=(i:Int):=by show (i:Int) % 256=_; omega
              have h255:(i:Int)<=255:=by omega
              have hown0:=(ownsOne wr wr.heap.size (Nat.le_refl _) bi (i:Int) (by rw [hbv])).drew
              have hcvA:=conv_own hown0
              have HCV:Hid (∀ wl,Below (wr.alloc (.cells #[.int .u8 (i:Int)] 5)).drew.heap.size (wr.alloc (.cells #[.int .u8 (i:Int)] 5)).drew wl->(convert 126 9 (.slice (some ⟨wr.heap.size,0,none⟩) 1 1)).run Tryz.prog wl=.ok (.string ⟨[bi].toArray⟩) wl):=qh (fun wl h=>by
                exact conv_own (row_out (G:=fun _=>False) hown0 (Out.of h) (fun _ _ _ _ hf=>hf.elim)))
              have HCW:Hid (∀ wl:World,(convert 126 9 (.slice (some ⟨wl.heap.size,0,none⟩) 1 1)).run Tryz.prog (wl.alloc (.cells #[.int .u8 (i:Int)] 5))=.ok (.string ⟨[bi].toArray⟩) (wl.alloc (.cells #[.int .u8 (i:Int)] 5))):=qh (fun wl=>conv_one' wl bi (i:Int) (by rw [hbv]) _ rfl)
              have hcm:=cat_mk place [bi]
              have hpl1:=HPL0.out
              have hadd:∀ w,(Op.stringOp .add (⟨place.toArray⟩:ByteArray) ⟨[bi].toArray⟩).run Tryz.prog w=.ok (.string ⟨(place ++ [bi]).toArray⟩) w:=fun w=>run_string_add_lists w place [bi] (by omega) (by simp)
              have hsum:¬ (9223372036854775807 < place.length+1):=by omega
              have BD:Below wr.heap.size wr wr.drew:=(Below.refl _ _).drew
              have BA:Below wr.heap.size wr (wr.alloc (.cells #[.int .u8 (i:Int)] 5)).drew:=((Below.refl _ wr).alloc (Nat.le_refl _) _).drew
              clear hu hbs hitR hbi hbv hown0
              go_upto_region 25 with fail
              go_cut [13] from 113 to 121 (fun s wx=>∃ s1,s1=s/\KidRow wr ((K ⟨i,hlt⟩).spots Nd.sumS (place ++ [bi])) s1 wx)
              case first=>
                go_wp2
                go_region_with (first | (go_at_call 107; refine (HLS.out _ ?_).mono ?_; (first | with_reducible exact BD | with_reducible exact BA); rintro e wl ⟨v1,rfl,it1,hl1,hl2⟩; have hcvB:=HCW.out wl; (try (have hcvC:=HCV.out wl hl2)); have it1':ItAt (wl.alloc (.cells #[.int .u8 (i:Int)] 5)) v1 (K ⟨i,hlt⟩).items:=RowsAt.below it1 ((Below.refl _ wl).alloc (Nat.le_refl _) (.cells #[.int .u8 (i:Int)] 5)); have hl1':=hl1.alloc hl1.size (.cells #[.int .u8 (i:Int)] 5)) | (go_at_call 71; refine (HGK.out _ _ ?_ ?_).mono ?_; (first | with_reducible exact hl1 | with_reducible exact hl1'); (first | with_reducible exact it1 | with_reducible exact it1'); rintro e wg ⟨s1,rfl,os1,hg1⟩))
                all_goals
                  go_wp2_with fail
                  go_meet
                  case rel=>exact ⟨_,rfl,os1,hg1⟩
              case rest=>
                obtain ⟨wg,rfl⟩:∃ y,y=wc:=⟨_,rfl⟩
                obtain ⟨s1,rfl,os1,hg1⟩:=hcut
                have HBG:=qh (HBS.out.trans (hg1.mono HBS.out.size))
                clear hadd hsum hcm hcvA HCV HCW BD BA HLS HGK e1 ew h255
                have hq1:q+1<=wo.heap.size:=by
                  have:=lt_of_heap HND.out
                  omega
                have HNG:Hid (NodeAt wg q ⟨3,[],x,Tri.kidsK Nd.sumS K i⟩):=qh (HND.out.below HBG.out)
                have HSG:Hid (OwnSp wg (q+1) a (Tri.spotsK Nd.sumS place K i)):=qh (HSO.out.below HBG.out)
                have hl1:=HSL.out (i+1)
                rw [HST.out,List.length_append] at hl1
                obtain ⟨A1,cap1,rfl⟩:∃ A1 cap1,s1=.slice A1 ((K ⟨i,hlt⟩).spots Nd.sumS (place ++ [bi])).length cap1:=by
                  obtain ⟨A,c,e,-,-⟩:=(OwnSp.at_ os1).form
                  exact ⟨A,c,e⟩
                by_cases hnl:(K ⟨i,hlt⟩).isNil
                · obtain ⟨e1,e2⟩:=HDN.out hnl
                  have HKE:=qh (HKN.out e2)
                  rw [e1] at os1 hl1
                  obtain ⟨v6,w6,r6,o6,b6⟩:=append_spots (OwnSp.at_ os1) HSG.out (by simp at hl1 ⊢; omega) (by have:=HBG.out.size; omega)
                  have HR6:=qh r6
                  have HO6:Hid (OwnSp w6 (q+1) v6 (Tri.spotsK Nd.sumS place K (i+1))):=qh (by rw [HST.out,e1]; exact o6)
                  have HN6:Hid (NodeAt w6 q ⟨3,[],x,Tri.kidsK Nd.sumS K (i+1)⟩):=qh (by rw [HKE.out]; exact (b6.block q (by omega)).trans HNG.out)
                  have HB6:Hid (Below w.heap.size w w6):=qh ((bchain HB.out HBG.out).trans (b6.mono (by have:=HB.out.size; have:=HQW.out; omega)))
                  rw [e1]
                  simp only [List.length_nil] at hl1 ⊢
                  simp only [List.length_nil] at HR6
                  clear os1 hg1 r6 o6 b6 e1 hl1
                  go_wp2_with (at_builtin; refine wpList_append_run rfl _ _ _ rfl a (.slice A1 0 cap1) _ (by rfl) (by rfl) HR6.out ?_)
                  go_roundw
                  case rel=>exact ⟨i+1,v6,rfl,by omega,by go_num,HO6.out,HN6.out,HB6.out⟩
                  case measure=>simp [intOf]; omega
                · obtain ⟨r,hr⟩:=HDT.out hnl
                  have hsm:=HSM.out hnl
                  have h16:=HNK.out (K ⟨i,hlt⟩)
                  have hL1:0 < ((K ⟨i,hlt⟩).spots Nd.sumS (place ++ [bi])).length:=by rw [hr]; simp
                  obtain ⟨g1,c1,ef,-,-⟩:=World.ownsRow.form os1 hL1
                  obtain ⟨rfl,rfl⟩:A1=some ⟨g1,0,none⟩/\cap1=c1:=by simpa using ef
                  have n7:wg.cell? ⟨g1,2,none⟩=some (.string ⟨((K ⟨i,hlt⟩).sum Nd.sumS).toArray⟩):=by
                    obtain ⟨b3,o3,e3,-,-,k3⟩:=SpAt.at (OwnSp.at_ os1) 0 hL1 (by simp only [hr,List.getElem_cons_zero]; exact h16)
                    cases e3
                    simp only [hr,List.getElem_cons_zero,Nat.zero_mul,Nat.zero_add] at k3
                    rw [k3,hsm]
                  obtain ⟨xs,hxs⟩:∃ xs,(K ⟨i,hlt⟩).sum Nd.sumS=xs:=⟨_,rfl⟩
                  rw [hxs] at n7
                  have c7:=HNG.out.kid i (by rw [Tri.kidsK_len]; exact hlt)
                  have f7:=HNG.out.free (3+i)
                  have hN7:NodeAt (wg.setCell ⟨q,3+i,none⟩ (.string ⟨xs.toArray⟩)) q ⟨3,[],x,Tri.kidsK Nd.sumS K (i+1)⟩:=by
                    have:=HNG.out.setKid i xs
                    rw [← HKS.out,hxs]
                    exact this
                  have hS7:=HSG.out.setOff (q:=q) (by omega) (3+i) (.string ⟨xs.toArray⟩)
                  have hO7:=os1.setOff (q:=q) (by have:=HBS.out.size; omega) (3+i) (.string ⟨xs.toArray⟩)
                  have hB7:Below q wg (wg.setCell ⟨q,3+i,none⟩ (.string ⟨xs.toArray⟩)):=(Below.refl _ wg).setCell (p:=⟨q,3+i,none⟩) (Nat.le_refl _) _
                  obtain ⟨kv7,hkv7⟩:∃ kv7,(Tri.kidsK Nd.sumS K i)[i]'(by rw [Tri.kidsK_len]; exact hlt)=kv7:=⟨_,rfl⟩
                  rw [hkv7] at c7
                  obtain ⟨w7,hw7⟩:∃ w7,wg.setCell ⟨q,3+i,none⟩ (.string ⟨xs.toArray⟩)=w7:=⟨_,rfl⟩
                  rw [hw7] at hN7 hS7 hO7 hB7
                  obtain ⟨v6,w6,r6,o6,b6⟩:=append_spots (OwnSp.at_ hO7) hS7 (by omega) (by have:=HBG.out.size; have:=hB7.size; omega)
                  have HR6:=qh r6
                  have HO6:Hid (OwnSp w6 (q+1) v6 (Tri.spotsK Nd.sumS place K (i+1))):=qh (by rw [HST.out]; exact o6)
                  have HN6:Hid (NodeAt w6 q ⟨3,[],x,Tri.kidsK Nd.sumS K (i+1)⟩):=qh ((b6.block q (by omega)).trans hN7)
                  have HB6:Hid (Below w.heap.size w w6):=qh ((bchain HB.out HBG.out).trans ((hB7.mono (by have:=HQW.out; omega)).trans (b6.mono (by have:=HB.out.size; have:=HQW.out; omega))))
                  obtain ⟨N1,hN1⟩:∃ N1,((K ⟨i,hlt⟩).spots Nd.sumS (place ++ [bi])).length=N1:=⟨_,rfl⟩
                  rw [hN1] at HR6 hL1 ⊢
                  have hL1i:(0:Int) < (N1:Int):=by omega
                  have hL1g:(N1:Int) > 0:=hL1i
                  clear os1 hg1 r6 o6 b6 hl1 hN7 hS7 hO7 hB7 ef hr hsm h16 hkv7 hxs hN1
                  go_wp2_with (at_builtin; refine wpList_append_run rfl _ _ _ rfl a (.slice (some ⟨g1,0,none⟩) N1 cap1) _ (by rfl) (by rfl) HR6.out ?_)
                  go_roundw
                  case rel=>exact ⟨i+1,v6,rfl,by omega,by go_num,HO6.out,HN6.out,HB6.out⟩
                  case measure=>simp [intOf]; omega
        · obtain rfl:i=16:=by omega
          have hb16:=hnd
          have HAO:=qh (ncl_one ⟨3,[],x,Tri.kidsK Nd.sumS K 16⟩)
          have HAS:Hid ((ncl ⟨3,[],x,Tri.kidsK Nd.sumS K 16⟩).toArray.size=19):=qh (by rw [List.size_toArray,ncl_length _ (Tri.kidsK_len ..)])
          have HSQ:=qh (HSP.out a wo (OwnSp.at_ hsp))
          have HRQ:Hid (wo.heap[q]?=some (.cells (ncl ⟨3,[],x,Tri.kidsK Nd.sumS K 16⟩).toArray 110 (0,0))):=qh hb16
          unfold ndval at HSQ
          obtain ⟨E,hE⟩:∃ E,(ncl ⟨3,[],x,Tri.kidsK Nd.sumS K 16⟩).toArray=E:=⟨_,rfl⟩
          rw [hE] at HAO HAS HSQ HRQ
          have HID:Hid ((Tryz.prog.info? 110).map (·.size)=some E.size):=qh (by rw [HAS.out]; exact HI19.out)
          clear hsp hnd hb0 hE hb16
          go_wp2_with (refine wpList_load_row (by rfl) _ _ (by rfl) q (by rfl) _ E _ _ HRQ.out Tryz.underlying110 (by rfl) HID.out ?_)
          refine HSQ.out.mono ?_
          rintro e w6 ⟨s6,rfl,o6,hb6⟩
          have HO6:=qh (own_lowP o6 HB.out.size)
          have HB6:Hid (Below w.heap.size w w6):=qh (bchain HB.out hb6)
          clear o6 hb6
          go_wp2
          go_ret
          exact ⟨s6,rfl,HO6.out,HB6.out⟩
theorem grown_any (t:Tr):GrownIs t:=by
  induction t with
  | nil=>exact grown_nil
  | leaf p x=>exact grown_leaf p x
  | ext p t ih=>exact grown_ext p t ih
  | br x K ih=>exact grown_br x K ih
end
section
open Go.RowKit
open Sto (T St)
open Tri (Tr Ok hb)
open Go.Proofs.YtaficmboooaknaaGreatDoor.Nd (N)
theorem paths_take (S:St) (k:Nat) (h:k < S.length):Tri.paths (S.take (k+1))=Tri.paths (S.take k) ++ [(Nib.ofL S[k].1,S[k].2)]:=by
  rw [List.take_succ_eq_append_getElem h,Tri.paths,List.map_append]; rfl
def RSpotsPost (t:Tr) (w:World) (e:Ending) (w':World):Prop:=∃ s,e=.returned s/\OwnSp w' w.heap.size s (t.spots Nd.sumS [])/\Below w.heap.size w w'
theorem rspots_any {S:St} {t:Tr} (v:Value) (w:World) (hv:ItAt w v S) (hS:TrS S t):
    Calls Tryz.prog 40 #[v] w (RSpotsPost t w):=by
  unfold RSpotsPost
  have HV:=qh hv
  have HL:=qh hS.few
  have HF:Hid (∀ k (h:k < S.length),S[k].1.length<=1000):=qh (fun k h=>by have:=(hS.fair _ (List.getElem_mem h)).2.1; omega)
  have HGR:Hid (∀ u wr,ItAt wr u (Tri.paths S)->Calls Tryz.prog 71 #[u,.string ⟨#[]⟩] wr fun e w'=>∃ s,e=.returned s/\OwnSp w' wr.heap.size s (t.spots Nd.sumS [])/\Below wr.heap.size wr w'):=qh (fun u wr hu=>
    grown_any t [] u wr hS.ok (by rw [hS.tree.2.2]; exact hu) (by rw [hS.tree.2.2]; have:=hS.few; simp [Tri.paths]; omega) (fun x hx=>by have:=hS.within x hx; simp; omega) (by simp))
  have HB0:=qh (Below.refl w.heap.size w)
  obtain ⟨A,cap,rfl,-,-⟩:=hv.form
  clear hv hS
  go_enter Tryz.func40,Tryz.ntmps40
  go_wp2
  go_loopw [3,4] (fun av iv wr=>∃ (k:Nat) (u:Value),u=av/\k<=S.length/\iv=.int .i64 k/\OwnI wr w.heap.size u (Tri.paths (S.take k))/\Below w.heap.size w wr) (fun _ i _=>S.length - (intOf i).toNat)
  case atStart=>exact ⟨0,_,rfl,Nat.zero_le _,rfl,OwnI.nil _ _,HB0.out⟩
  case round=>
    obtain ⟨k,u,rfl,hk,rfl,hu,hb0⟩:=hrel
    have HB:=qh hb0
    have HU:=qh hu
    by_cases hlt:k < S.length
    · have h1:(k:Int) < (S.length:Int):=by omega
      have h0:(0:Int)<=(k:Int):=by omega
      have hnb:(k:Int)<=100000:=by have:=HL.out; omega
      have HVW:=qh (RowsAt.below HV.out hb0)
      obtain ⟨b,o,rfl,-,-⟩:=ItAt.at HVW.out k hlt
      have HTK:=qh (paths_take S k hlt)
      have hxl:=HF.out k hlt
      have hTl:(Tri.paths (S.take k)).length<=100000:=by simp [Tri.paths]; omega
      have HC:Hid (∀ w',Below wr.heap.size wr w'->w'.cell? ⟨b,o+k * 2,none⟩=some (.string ⟨S[k].1.toArray⟩)/\w'.cell? ⟨b,o+k * 2+1,none⟩=some (.string ⟨S[k].2.toArray⟩)):=qh (fun w' hbl=>by
        obtain ⟨b2,o2,e,m0,m1⟩:=ItAt.at (RowsAt.below HVW.out hbl) k hlt
        cases e
        exact ⟨m0,m1⟩)
      obtain ⟨x,hx⟩:∃ x,S[k].1=x:=⟨_,rfl⟩
      obtain ⟨y,hy⟩:∃ y,S[k].2=y:=⟨_,rfl⟩
      rw [hx,hy] at HTK HC
      rw [hx] at hxl
      have HOF:Hid (∀ w',Below wr.heap.size wr w'->Calls Tryz.prog 70 #[.string ⟨x.toArray⟩] w' fun e w''=>e=.returned (.string ⟨(Nib.ofL x).toArray⟩)/\Below wr.heap.size wr w''):=qh (fun w' hbl=>(rof_any x w' (by omega)).mono fun e w'' ⟨q1,q2⟩=>⟨q1,bchain hbl q2⟩)
      obtain ⟨p,hp⟩:∃ p,Nib.ofL x=p:=⟨_,rfl⟩
      rw [hp] at HTK HOF
      have HAPP:Hid (∀ w6,Below wr.heap.size wr w6->∃ g c w7,(Builtin.append_ #[22,22] 22 #[u,.slice (some ⟨w6.heap.size,0,none⟩) 1 1]).run Tryz.prog (w6.alloc (.cells #[.string ⟨p.toArray⟩,.string ⟨y.toArray⟩] 60))=.ok (.slice (some ⟨g,0,none⟩) ((Tri.paths (S.take k)).length+1) c) w7/\OwnI w7 w.heap.size (.slice (some ⟨g,0,none⟩) ((Tri.paths (S.take k)).length+1) c) (Tri.paths (S.take k) ++ [(p,y)])/\Below w.heap.size w w7):=qh (fun w6 h6=>by
        obtain ⟨g,c,w7,q1,q2,q3⟩:=app_item p y (HU.out.below h6) hTl (bchain HB.out h6).size
        exact ⟨g,c,w7,q1,q2,(bchain HB.out h6).trans q3⟩)
      have BD:Below wr.heap.size wr wr.drew:=(Below.refl _ _).drew
      obtain ⟨m0,m1⟩:=HC.out _ BD
      clear hu hb0 hx hy hp hxl hTl
      go_upto_region 5 with fail
      go_region_law (first | (refine step_call rfl 70 (.tmp 16) _ rfl (fun _ _=>rfl) _ (HOF.out _ BD) ?_; rintro e w6 ⟨rfl,hb6⟩; refine ⟨_,rfl,?_⟩; obtain ⟨c6,d6⟩:=HC.out _ hb6; obtain ⟨g7,c7,w7,happ,ho7,hb7⟩:=HAPP.out _ hb6) | (refine step_append_run rfl (.tmp 11) (.tmp 24) _ rfl _ _ _ ?_ ?_ happ ?_; (first | rfl | (focus (simp [Act.eval]; done)) | fail); (first | rfl | (focus (simp [Act.eval]; done)) | fail)))
      all_goals
        have HO7:=qh ho7
        have HB7:=qh hb7
        clear ho7 hb7 happ
        go_wp2
        exact ⟨⟨k+1,_,rfl,by omega,by go_num,by rw [HTK.out]; exact HO7.out,HB7.out⟩,by simp [intOf]; omega⟩
    · obtain rfl:k=S.length:=by omega
      have h1:¬ ((S.length:Int) < (S.length:Int)):=by omega
      have HG:=qh (HGR.out u wr (by have:=OwnI.at_ hu; rwa [List.take_length] at this))
      clear hu hb0
      go_wp2_with fail
      refine HG.out.mono ?_
      rintro e w2 ⟨s,rfl,os,hb2⟩
      have HO2:=qh (own_lowP os HB.out.size)
      have HB2:Hid (Below w.heap.size w w2):=qh (bchain HB.out hb2)
      clear os hb2
      go_wp2
      go_ret
      exact ⟨s,rfl,HO2.out,HB2.out⟩
end
section
open Go.RowKit
open Go.Proofs.YtaficmboooaknaaGreatDoor.Nd (N)
def Tri.pickOf (q:List UInt8->Bool) (L:List (List UInt8 × N)):List (List UInt8):=Tri.textsOf (L.filter fun p=>q p.1)
theorem Tri.pickOf_take (q:List UInt8->Bool) {L:List (List UInt8 × N)} {k:Nat} (h:k < L.length):Tri.pickOf q (L.take (k+1))=if q L[k].1 then Tri.pickOf q (L.take k) ++ [Nd.written L[k].2] else Tri.pickOf q (L.take k):=by
  rw [List.take_succ_eq_append_getElem h,Tri.pickOf,List.filter_append,List.filter_cons]
  by_cases hq:q L[k].1=true
  · rw [if_pos hq,if_pos hq,Tri.textsOf,List.map_append]; rfl
  · rw [if_neg hq,if_neg hq]; simp [Tri.pickOf]
theorem Tri.pickOf_len (q:List UInt8->Bool) (L:List (List UInt8 × N)):(Tri.pickOf q L).length<=L.length:=by
  rw [Tri.pickOf,Tri.textsOf,List.length_map]; exact List.length_filter_le _ _
theorem rtCover_any (dg:N->List UInt8) (L:List (List UInt8 × N)) (v:Value) (f e:List UInt8) (w:World) (hv:SpAt dg w v L) (hl:L.length<=10000) (h16:∀ p ∈ L,p.2.kids.length=16) (hf:f.length<=1000000) (he:e.length<=1000000):
    Calls Tryz.prog 39 #[v,.string ⟨f.toArray⟩,.string ⟨e.toArray⟩] w fun x w'=>∃ s,x=.returned s/\Own w' w.heap.size s (Tri.pickOf (fun p=>Tri.inL p f e) L)/\Below w.heap.size w w':=by
  have HV:=qh hv
  have HL:=qh hl
  have H16:=qh h16
  have HIN:=qh (fun p w=>rtIn_any p f e w hf he)
  have HB0:=qh (Below.refl w.heap.size w)
  have HN0:=qh (Own.nil w w.heap.size)
  obtain ⟨i0,hi,hz0,hz1,hz2⟩:=info_parts Tryz.infoStrT
  obtain ⟨A,cap,rfl,-,-⟩:=hv.form
  obtain ⟨Q,hQ⟩:∃ Q:List UInt8->Bool,(fun p=>Tri.inL p f e)=Q:=⟨_,rfl⟩
  have HIQ:Hid (∀ p w,Calls Tryz.prog 69 #[.string ⟨p.toArray⟩,.string ⟨f.toArray⟩,.string ⟨e.toArray⟩] w fun x w'=>x=.returned (.bool (Q p))/\Below w.heap.size w w'):=qh (fun p w=>by rw [← hQ]; exact HIN.out p w)
  rw [hQ]
  clear hv h16 hf he HIN hQ
  go_enter Tryz.func39,Tryz.ntmps39
  go_wp2
  go_loopw [7,8] (fun av iv wr=>∃ (k:Nat) (u:Value),u=av/\k<=L.length/\iv=.int .i64 k/\Own wr w.heap.size u (Tri.pickOf Q (L.take k))/\Below w.heap.size w wr) (fun _ i _=>L.length - (intOf i).toNat)
  case atStart=>exact ⟨0,_,rfl,Nat.zero_le _,rfl,HN0.out,HB0.out⟩
  case round=>
    obtain ⟨k,u,rfl,hk,rfl,hu,hb⟩:=hrel
    have HB:=qh hb
    have HU:=qh hu
    by_cases hlt:k < L.length
    · have h1:(k:Int) < (L.length:Int):=by omega
      have h0:(0:Int)<=(k:Int):=by omega
      have hnb:(k:Int)<=100000:=by omega
      have HVW:=qh (RowsAt.below HV.out hb)
      have HAT:=qh (fun wi (h:Below wr.heap.size wr wi)=>SpAt.at (RowsAt.below HVW.out h) k hlt (H16.out _ (List.getElem_mem hlt)))
      obtain ⟨b,o,rfl,n0,n1,n2⟩:=HAT.out wr (Below.refl _ _)
      have HTK:=qh (Tri.pickOf_take Q hlt)
      have hpl:=Tri.pickOf_len Q (L.take k)
      obtain ⟨y,hy⟩:∃ y,Nd.written L[k].2=y:=⟨_,rfl⟩
      obtain ⟨x,hx⟩:∃ x,L[k].1=x:=⟨_,rfl⟩
      rw [hy,hx] at HTK HAT
      rw [hx] at n0
      obtain ⟨O,hO⟩:∃ O,Tri.pickOf Q (L.take k)=O:=⟨_,rfl⟩
      rw [hO] at HTK HU hpl
      have HTL:Hid (O.length<=10000):=qh (by have:=HL.out; simp at hpl; omega)
      clear hu hb hy hx hO hpl n1 n2
      go_wp2_with fail
      refine (HIQ.out x _).mono ?_
      rintro a wi ⟨rfl,hbi⟩
      obtain ⟨q,hq⟩:∃ q,Q x=q:=⟨_,rfl⟩
      rw [hq] at HTK ⊢
      obtain ⟨b',o',hbo,m0,m1,m2⟩:=HAT.out wi hbi
      cases hbo
      have HUI:=qh (HU.out.below hbi)
      have HBI:=qh (HB.out.trans (hbi.mono HB.out.size))
      have HSZI:=qh HBI.out.size
      cases q with
      | true=>
        simp only [if_true] at HTK
        have HSTP:=qh (fun w2 v'=>own_step (w2:=w2) (v':=v') (y:=y) (o:=.cells #[.string ⟨y.toArray⟩] 9) HBI.out HUI.out)
        clear hbi n0 m0 m2 hq
        go_wp2_with (at_builtin; refine wpList_append_lies _ rfl _ _ _ rfl w.heap.size 9 i0 (.string ⟨#[]⟩) 1 16 Tryz.underlying29 hi hz0 hz1 hz2 rfl (by decide) u O.length (scells O) (by rfl) (World.ownsRow.alloc HUI.out _) ⟨wi.heap.size,0,none⟩ 1 1 (scells [y]) (by rfl) rfl (World.news_of_block (heap_new_at _ _ _ (by simp))) (by simp [scells,Value.oneCell']) (by decide) (by have:=HTL.out; unfold maxLen; omega) (by have:=HTL.out; omega) (by have:=HSZI.out; simp; omega) (wi.heap.size+1) (by simp) ?_; intro g' cap' w5 hown5 hgrow5 hat5 hlt5)
        have HS5:=qh (HSTP.out w5 _ hgrow5 hown5)
        clear hown5 hgrow5 hat5 hlt5
        refine ⟨⟨k+1,_,rfl,by omega,by go_num,by rw [HTK.out]; exact HS5.out.1,HS5.out.2⟩,by simp [intOf]; omega⟩
      | false=>
        simp only [Bool.false_eq_true,if_false] at HTK
        clear hbi n0 m0 m1 m2 hq
        go_wp2
        refine ⟨⟨k+1,_,rfl,by omega,by go_num,by rw [HTK.out]; exact HUI.out,HBI.out⟩,by simp [intOf]; omega⟩
    · obtain rfl:k=L.length:=by omega
      have h1:¬ ((L.length:Int) < (L.length:Int)):=by omega
      have HEND:=qh hu
      clear hu hb
      go_wp2
      go_ret
      refine ⟨_,rfl,?_,HB.out⟩
      have:=HEND.out
      rwa [List.take_length] at this
end
section
open Go.RowKit
open Sto (T St)
open Tri (Tr Ok hb)
open Go.Proofs.YtaficmboooaknaaGreatDoor.Nd (N)
theorem pick_cover {S:St} {t:Tr} (h:TrS S t) (f e:T):Tri.pickOf (fun p=>Tri.inL p f e) (t.spots Nd.sumS [])=coverS S f e:=by
  unfold coverS
  rw [treeS_of h]
  rfl
theorem spots_kids (dg:N->T) (t:Tr) (p:T):∀ x ∈ t.spots dg p,x.2.kids.length=16:=by
  intro x hx
  have:x.2 ∈ t.nodes dg:=by
    rw [← Tri.spots_nodes dg t p]
    exact List.mem_map.2 ⟨x,hx,rfl⟩
  clear hx
  induction t with
  | nil=>cases this
  | leaf q v=>rw [List.mem_singleton.1 this]; exact Tri.node_kids ..
  | ext q t ih=>
    rcases List.mem_cons.1 this with e | e
    · rw [e]; exact Tri.node_kids ..
    · exact ih e
  | br v k ih=>
    rcases List.mem_cons.1 this with e | e
    · rw [e]; exact Tri.node_kids ..
    · obtain ⟨i,_,hi⟩:=List.mem_flatMap.1 e
      exact ih i hi
end
end Go.Proofs.YtaficmboooaknaaGreatDoor
