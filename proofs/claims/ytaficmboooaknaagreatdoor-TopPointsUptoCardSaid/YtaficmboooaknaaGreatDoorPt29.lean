import Derived.Test.YtaficmboooaknaaGreatDoorPt26
set_option maxRecDepth 100000
set_option maxHeartbeats 16000000
namespace Go.Proofs.YtaficmboooaknaaGreatDoor
section
open Go.RowKit
open Sto (T St)
theorem topPoints_C (root key f e:T) (m:Int) (zk:Value) (K:List T) (zi:Value) (I:St) (x:T) (zn:Value) (L:List T) (w:World) (hT:Tab w) (hf:f.length<=2000000) (he:e.length<=2000000) (hK:StrsC w zk K) (hKm:K.length<=maxLen) (hI:ItIn w zi I) (hL:StrsC w zn L) (hm:L.length<=maxLen) (hn0:(Spn.verifyP root f e m I x L).2.1≠[]):
    Calls Tryz.prog 9 #[.string ⟨root.toArray⟩,.agg #[.string ⟨key.toArray⟩,.string ⟨f.toArray⟩,.string ⟨e.toArray⟩,.int .i64 m,zk,zi,.string ⟨x.toArray⟩,zn]] w fun r w'=>r=.returned (.bool true)/\Below w.heap.size w w':=by
  obtain ⟨w0,hw0⟩:∃ w0,w.alloc (.cells #[.string ⟨key.toArray⟩,.string ⟨f.toArray⟩,.string ⟨e.toArray⟩,.int .i64 m,zk,zi,.string ⟨x.toArray⟩,zn] 55)=w0:=⟨_,rfl⟩
  obtain ⟨q0,hq0⟩:∃ q0,w.heap.size=q0:=⟨_,rfl⟩
  have hb0:Below w.heap.size w w0:=by rw [← hw0]; exact (Below.refl _ w).alloc (Nat.le_refl _) _
  have ra:ShownAt w0 q0 key f e m zk zi x zn:=by rw [← hw0,← hq0]; exact heap_alloc_new w _
  have HB0:=qh hb0
  have HS0:=qh ra
  have HT:=qh (hT.below hb0)
  have HK0:=qh (hK.below hb0)
  have HI0:=qh (RowsIn.below hI hb0)
  have HL0:=qh (hL.below hb0)
  have HM:Hid (K.length<=maxLen/\L.length<=maxLen):=qh ⟨hKm,hm⟩
  have HWK:=qh (keeps_of vers_keep w0 HT.out)
  have HFE:Hid (f.length<=2000000/\e.length<=2000000):=qh ⟨hf,he⟩
  obtain ⟨Ai,capi,rfl,-,-⟩:=hI.form
  obtain ⟨Ak,capk,rfl,-⟩:=hK.form
  obtain ⟨An,capn,rfl,-⟩:=hL.form
  clear ra hb0 hT hf he hK hKm hI hL hm
  go_enter Tryz.func9,Tryz.ntmps9
  go_upto_region 1 with fail
  try rw [hq0]
  clear hw0 hq0
  go_wp2_with fail
  refine HWK.out.mono ?_
  rintro r w1 ⟨rfl,hb1⟩
  have HX1:=qh hb1
  obtain ⟨s0,s1,s2,s3,s4,s5,s6,s7⟩:=(HS0.out.below hb1).cells
  have HF1:=qh (few_any K _ 60 700 w1 (HK0.out.below hb1).strs HM.out.1)
  have HF2:=qh (few_any L _ 60 700 w1 (HL0.out.below hb1).strs HM.out.2)
  have HB1:=qh (bchain HB0.out hb1)
  clear hb1 HWK
  cases hfk:Code.few K 60 700 with
  | false=>
    rw [hfk] at HF1
    clear hfk
    go_wp2_with fail
    refine HF1.out.mono ?_
    rintro r w2 ⟨rfl,rfl⟩
    go_wp2
    go_ret
    exact ⟨rfl,HB1.out⟩
  | true=>
  rw [hfk] at HF1
  have HFK:=qh ((Code.few_iff K 60 700).1 hfk)
  clear hfk
  go_wp2_with fail
  refine HF1.out.mono ?_
  rintro r w2 ⟨rfl,rfl⟩
  cases hfl:Code.few L 60 700 with
  | false=>
    rw [hfl] at HF2
    clear hfl
    go_wp2_with fail
    refine HF2.out.mono ?_
    rintro r w2 ⟨rfl,rfl⟩
    go_wp2
    go_ret
    exact ⟨rfl,HB1.out⟩
  | true=>
  rw [hfl] at HF2
  have HFL:=qh ((Code.few_iff L 60 700).1 hfl)
  clear hfl
  go_wp2_with fail
  refine HF2.out.mono ?_
  rintro r w3 ⟨rfl,rfl⟩
  by_cases hi60:60<I.length
  · have q1:decide ((60:Int)<(I.length:Int))=true:=decide_eq_true (by omega)
    clear hi60
    go_wp2
    go_ret
    exact ⟨rfl,HB1.out⟩
  have q1:decide ((60:Int)<(I.length:Int))=false:=decide_eq_false (by omega)
  have HI60:Hid (I.length<=60):=qh (by omega)
  clear hi60
  by_cases hr100:100<root.length
  · have q2:decide ((100:Int)<(root.length:Int))=true:=decide_eq_true (by omega)
    clear hr100
    go_wp2
    go_ret
    exact ⟨rfl,HB1.out⟩
  have q2:decide ((100:Int)<(root.length:Int))=false:=decide_eq_false (by omega)
  clear hr100
  have HPV:=qh (verify_any root key _ K w3 (HK0.out.below HX1.out) (HT.out.below HX1.out) (fun y hy=>Nat.le_trans (HFK.out.2 y hy) (by decide)))
  have HPT:Hid ((Prf.verify root key K).2.2=0->(Spn.verifyP root f e m I x L).2.2=0->Scn.inR f (Spn.upTo x e) key=true->Clash (K++L)∨(Spn.ofKey key I=Spn.sayL key (Prf.verify root key K).1/\(Prf.verify root key K).2.1=decide ((Prf.verify root key K).1≠[]))):=qh Spn.points
  obtain ⟨⟨v,th,c1⟩,hV1⟩:∃ V,Prf.verify root key K=V:=⟨_,rfl⟩
  rw [hV1] at HPV HPT
  dsimp only at HPV HPT
  clear hV1
  go_wp2_with fail
  refine HPV.out.mono ?_
  rintro r w4 ⟨rfl,hb4⟩
  have HX4:=qh (bchain HX1.out hb4)
  have HVE:=qh (spverify_any root f e m _ I x _ L w4 (RowsIn.below HI0.out HX4.out) (HL0.out.below HX4.out) (HT.out.below HX4.out) (fun y hy=>Nat.le_trans (HFL.out.2 y hy) (by decide)) (Nat.le_trans HFL.out.1 (by decide)) HFE.out.1 HFE.out.2)
  unfold SVPost at HVE
  have HOK:Hid ((Spn.verifyP root f e m I x L).2.2=0->Spn.verifyP root f e m I x L=(I,x,0)):=qh (fun h=>(Spn.verify_ok h).2.2.2.1)
  have HN0:=qh hn0
  clear hn0
  obtain ⟨⟨J,nx,c2⟩,hV2⟩:∃ V,Spn.verifyP root f e m I x L=V:=⟨_,rfl⟩
  rw [hV2] at HVE HOK HPT HN0
  dsimp only at HVE HOK HPT HN0
  clear hV2 hb4 s0 s1 s2 s3 s4 s5 s6 s7 q1 q2
  obtain ⟨s0,s1,s2,s3,s4,s5,s6,s7⟩:=(HS0.out.below HX4.out).cells
  go_wp2_with fail
  refine HVE.out.mono ?_
  rintro r w5 ⟨A5,n5,cap5,rfl,ho5,hb5⟩
  obtain rfl:n5=J.length:=ho5.len
  have HX5:=qh (bchain HX4.out hb5)
  have HJ5:=qh ho5.at_
  have HB5:=qh (bchain HB0.out HX5.out)
  clear s0 s1 s2 s3 s4 s5 s6 s7 hb5 ho5
  obtain ⟨s0,s1,s2,s3,s4,s5,s6,s7⟩:=(HS0.out.below HX5.out).cells
  obtain ⟨en,hen⟩:∃ en,Spn.upTo nx e=en:=⟨_,rfl⟩
  have HEN:=qh hen
  clear hen
  have y1:(nx == [])=false:=beq_eq_false_iff_ne.2 HN0.out
  have y2:nx.isEmpty=false:=by have:=HN0.out; cases nx <;> simp_all
  obtain rfl:nx=en:=by rw [← HEN.out]; unfold Spn.upTo; rw [if_neg HN0.out]
  go_upto_region 10 with fail
  clear y1 y2
  by_cases hc1:c1=0
  case neg=>
    have z1:((c1:Int) != 0)=true:=by rw [bne_iff_ne]; omega
    have z2:((c1:Int) == 0)=false:=by rw [beq_eq_false_iff_ne]; omega
    clear hc1
    go_wp2
    go_ret
    exact ⟨rfl,HB5.out⟩
  by_cases hc2:c2=0
  case neg=>
    have z3:((c2:Int) != 0)=true:=by rw [bne_iff_ne]; omega
    have z4:((c2:Int) == 0)=false:=by rw [beq_eq_false_iff_ne]; omega
    subst hc1
    clear hc2
    go_wp2
    go_ret
    exact ⟨rfl,HB5.out⟩
  subst hc1
  subst hc2
  have hok:=HOK.out rfl
  injection hok with o1 o2
  injection o2 with o2 o3
  subst o1
  subst o2
  clear o3
  by_cases hlo:key<f
  · have e1:Op.bytesLess key f=true:=by rw [less_lt]; exact decide_eq_true hlo
    clear hlo
    go_wp2
    go_ret
    exact ⟨rfl,HB5.out⟩
  have e1:Op.bytesLess key f=false:=by rw [less_lt]; exact decide_eq_false hlo
  by_cases hhi:nx≠[]/\¬ key<nx
  · have e2:(nx == [])=false:=beq_eq_false_iff_ne.2 hhi.1
    have e3:(nx).isEmpty=false:=by have:=hhi.1; cases h:nx <;> simp_all
    have e4:Op.bytesLess key nx=false:=by rw [less_lt]; exact decide_eq_false hhi.2
    clear hlo hhi
    go_wp2
    go_ret
    exact ⟨rfl,HB5.out⟩
  have HIN:Hid (Scn.inR f nx key=true):=qh (by
    unfold Scn.inR
    simp only [Bool.and_eq_true,Bool.or_eq_true,decide_eq_true_eq]
    refine ⟨List.not_lt.1 hlo,?_⟩
    by_cases h:nx=[]
    · exact Or.inl h
    · exact Or.inr (Classical.byContradiction fun q=>hhi ⟨h,q⟩))
  have HCL:=qh (HPT.out rfl rfl (by rw [HEN.out]; exact HIN.out))
  have e2:(nx == [])=false:=beq_eq_false_iff_ne.2 HN0.out
  have e3:nx.isEmpty=false:=by have:=HN0.out; cases nx <;> simp_all
  have e4:Op.bytesLess key nx=true:=by rw [less_lt]; exact decide_eq_true (Classical.byContradiction fun q=>hhi ⟨HN0.out,q⟩)
  clear hlo hhi
  have hN60:J.length<=60:=HI60.out
  go_upto_region 13 with fail
  clear e1 e2 e3 e4
  go_wp2
  go_loopw [12,94] (fun fv iv wr=>∃ k:Nat,k<=J.length/\iv=.int .i64 k/\fv=.bool (Spn.hasK key (J.take k))/\Below w5.heap.size w5 wr) (fun _ iv _=>J.length - (intOf iv).toNat)
  case atStart=>exact ⟨0,Nat.zero_le _,rfl,rfl,Below.refl _ _⟩
  case round=>
    obtain ⟨k,hk,rfl,rfl,hb⟩:=hrel
    have HBR:=qh hb
    have HXR:=qh (bchain HX5.out hb)
    by_cases hlt:k<J.length
    · have h1:(k:Int)<(J.length:Int):=by omega
      have h0:(0:Int)<=(k:Int):=by omega
      have hnb:(k:Int)<=100:=by have:=HI60.out; omega
      obtain ⟨b,o,hA5,n0,n1⟩:=ItAt.at (RowsAt.below HJ5.out hb) k hlt
      subst hA5
      have HHT:=qh (Spn.hasK_take key J k hlt)
      have HPI:Hid (J[k].1=key->¬ (th=true/\J[k].2=v)->Clash (K++L)):=qh (Spn.point_item HCL.out hlt)
      obtain ⟨⟨yk,yv⟩,hxy⟩:∃ y,J[k]=y:=⟨_,rfl⟩
      rw [hxy] at n0 n1 HHT HPI
      dsimp only at n0 n1 HHT HPI
      obtain ⟨hk0,hhk0⟩:∃ b,Spn.hasK key (J.take k)=b:=⟨_,rfl⟩
      obtain ⟨hk1,hhk1⟩:∃ b,Spn.hasK key (J.take (k+1))=b:=⟨_,rfl⟩
      rw [hhk0,hhk1] at HHT
      rw [hhk0]
      have HH1:=qh hhk1
      have hbA:Below wr.heap.size wr (wr.alloc (.cells #[.string ⟨yk.toArray⟩,.string ⟨yv.toArray⟩] 60)):=(Below.refl _ wr).alloc (Nat.le_refl _) _
      have HBA:=qh hbA
      have HRA:Hid ((wr.alloc (.cells #[.string ⟨yk.toArray⟩,.string ⟨yv.toArray⟩] 60)).heap[wr.heap.size]?=some (.cells #[.string ⟨yk.toArray⟩,.string ⟨yv.toArray⟩] 60 (0,0))):=qh (heap_alloc_new wr _)
      clear hxy hhk0 hhk1 hbA hb
      go_upto_region 16 with fail
      obtain ⟨w2,hw2⟩:∃ w2,wr.alloc (.cells #[.string ⟨yk.toArray⟩,.string ⟨yv.toArray⟩] 60)=w2:=⟨_,rfl⟩
      obtain ⟨q,hq⟩:∃ q,wr.heap.size=q:=⟨_,rfl⟩
      rw [hw2] at HBA HRA
      rw [hq] at HRA
      try rw [hw2]
      try rw [hq]
      have s0:w2.cell? ⟨q,0,none⟩=some (.string ⟨yk.toArray⟩):=by rw [cell_of_row _ _ 0 _ _ _ HRA.out]; rfl
      have s1:w2.cell? ⟨q,1,none⟩=some (.string ⟨yv.toArray⟩):=by rw [cell_of_row _ _ 1 _ _ _ HRA.out]; rfl
      have HB2:=qh (bchain HBR.out HBA.out)
      have HX2:=qh (bchain HX5.out HB2.out)
      have HW2:=qh (bchain HB0.out HX2.out)
      have s2:w2.cell? ⟨q0,0,none⟩=some (.string ⟨key.toArray⟩):=(HS0.out.below HX2.out).cells.1
      clear hw2 hq n0 n1
      by_cases hkey:yk=key
      case neg=>
        have y1:(yk == key)=false:=beq_eq_false_iff_ne.2 hkey
        have HH2:Hid (Spn.hasK key (J.take (k+1))=hk0):=qh (by rw [HH1.out,HHT.out,decide_eq_false hkey,Bool.or_false])
        clear hkey
        go_wp2
        exact ⟨⟨k+1,by omega,by go_num,by rw [HH2.out],HB2.out⟩,by simp [intOf]; omega⟩
      have y1:(yk == key)=true:=beq_iff_eq.2 hkey
      have HH2:Hid (Spn.hasK key (J.take (k+1))=true):=qh (by rw [HH1.out,HHT.out,decide_eq_true hkey,Bool.or_true])
      have HPI2:=qh (HPI.out hkey)
      clear hkey
      cases th with
      | true=>
        by_cases hyv:yv=v
        · have y2:(yv == v)=true:=beq_iff_eq.2 hyv
          have y3:(yv != v)=false:=by rw [bne,y2]; rfl
          clear hyv
          go_wp2
          exact ⟨⟨k+1,by omega,by go_num,by rw [HH2.out],HB2.out⟩,by simp [intOf]; omega⟩
        · have y2:(yv == v)=false:=beq_eq_false_iff_ne.2 hyv
          have HCT:Hid (Clash (K++L)):=qh (HPI2.out (fun h=>hyv h.2))
          clear hyv
          go_upto_region 19 with fail
          clear s0 s1 s2 y1 y2
          have BD15:Below w2.heap.size w2 w2.drew:=(Below.refl _ _).drew
          have HAP:Hid (∃ v1 w16 v2 w17,(Builtin.append_ #[29,29] 29 #[.slice (some ⟨w2.heap.size,0,none⟩) 0 0,.slice Ak K.length capk]).run Tryz.prog (w2.alloc (.cells #[] 9)).drew=.ok v1 w16/\
              (Builtin.append_ #[29,29] 29 #[v1,.slice An L.length capn]).run Tryz.prog w16=.ok v2 w17/\w16.cell? ⟨q0,7,none⟩=some (.slice An L.length capn)/\Calls Tryz.prog 25 #[.int .i64 1,v2] w17 fun r w''=>r=.returned (.bool true)/\Below w.heap.size w w''):=qh (by
            obtain ⟨v1,w16,v2,w17,r1,r2,o3,bg,bf⟩:=two_lists (w:=w2.drew) ((HK0.out.below HX2.out).below BD15).strs ((HL0.out.below HX2.out).below BD15).strs (by have:=HFK.out.1; have:=HFL.out.1; omega)
            refine ⟨v1,w16,v2,w17,r1,r2,((HS0.out.below HX2.out).below (BD15.trans bg)).cells.2.2.2.2.2.2.2,?_⟩
            have h1:=runlike_any (K++L) v2 w17 o3.strs (by rw [List.length_append]; have:=HFK.out.1; have:=HFL.out.1; omega) (fun y hy=>by
              rcases List.mem_append.1 hy with hy | hy
              · have:=HFK.out.2 y hy; omega
              · have:=HFL.out.2 y hy; omega)
            unfold UnlikePost at h1
            exact h1.mono fun r w'' ⟨ub,p1,p2,p3⟩=>⟨by rw [p1,p2 HCT.out],bchain HW2.out (bchain (BD15.trans bf) p3)⟩)
          obtain ⟨v1,w16,v2,w17,r1,r2,k3,hun⟩:=HAP.out
          have HR1:=qh r1
          have HR2:=qh r2
          have HUN:=qh hun
          have k0:w2.cell? ⟨q0,4,none⟩=some (.slice Ak K.length capk):=(HS0.out.below HX2.out).cells.2.2.2.2.1
          have k1:w2.cell? ⟨q0,7,none⟩=some (.slice An L.length capn):=(HS0.out.below HX2.out).cells.2.2.2.2.2.2.2
          have k4:(w2.alloc (.cells #[] 9)).cell? ⟨q0,4,none⟩=some (.slice Ak K.length capk):=((HS0.out.below HX2.out).below ((Below.refl _ _).alloc (Nat.le_refl _) _)).cells.2.2.2.2.1
          have k5:(w2.alloc (.cells #[] 9)).cell? ⟨q0,7,none⟩=some (.slice An L.length capn):=((HS0.out.below HX2.out).below ((Below.refl _ _).alloc (Nat.le_refl _) _)).cells.2.2.2.2.2.2.2
          clear r1 r2 hun
          go_region_law (first | (refine step_append_run rfl (.tmp 111) (.tmp 113) _ rfl _ _ _ ?_ ?_ HR1.out ?_; (first | rfl | (focus (simp [Act.eval]; done)) | fail); (first | rfl | (focus (simp [Act.eval]; done)) | fail)) | (refine step_append_run rfl (.tmp 114) (.tmp 117) _ rfl _ _ _ ?_ ?_ HR2.out ?_; (first | rfl | (focus (simp [Act.eval]; done)) | fail); (first | rfl | (focus (simp [Act.eval]; done)) | fail)) | (refine step_call2 rfl 25 (.const (.int .i64 1)) (.tmp 118) _ rfl (fun _ _=>rfl) _ HUN.out ?_; rintro r w18 ⟨rfl,hb18⟩; refine ⟨_,rfl,?_⟩))
          all_goals
            have HFI:=qh hb18
            clear hb18
            go_wp2
            try rw [Exit.noGoto_ret]
            go_ret
            exact ⟨rfl,HFI.out⟩
      | false=>
        have HCT:Hid (Clash (K++L)):=qh (HPI2.out (fun h=>by cases h.1))
        go_upto_region 19 with fail
        clear s0 s1 s2 y1
        have BD15:Below w2.heap.size w2 w2.drew:=(Below.refl _ _).drew
        have HAP:Hid (∃ v1 w16 v2 w17,(Builtin.append_ #[29,29] 29 #[.slice (some ⟨w2.heap.size,0,none⟩) 0 0,.slice Ak K.length capk]).run Tryz.prog (w2.alloc (.cells #[] 9)).drew=.ok v1 w16/\
            (Builtin.append_ #[29,29] 29 #[v1,.slice An L.length capn]).run Tryz.prog w16=.ok v2 w17/\w16.cell? ⟨q0,7,none⟩=some (.slice An L.length capn)/\Calls Tryz.prog 25 #[.int .i64 1,v2] w17 fun r w''=>r=.returned (.bool true)/\Below w.heap.size w w''):=qh (by
          obtain ⟨v1,w16,v2,w17,r1,r2,o3,bg,bf⟩:=two_lists (w:=w2.drew) ((HK0.out.below HX2.out).below BD15).strs ((HL0.out.below HX2.out).below BD15).strs (by have:=HFK.out.1; have:=HFL.out.1; omega)
          refine ⟨v1,w16,v2,w17,r1,r2,((HS0.out.below HX2.out).below (BD15.trans bg)).cells.2.2.2.2.2.2.2,?_⟩
          have h1:=runlike_any (K++L) v2 w17 o3.strs (by rw [List.length_append]; have:=HFK.out.1; have:=HFL.out.1; omega) (fun y hy=>by
            rcases List.mem_append.1 hy with hy | hy
            · have:=HFK.out.2 y hy; omega
            · have:=HFL.out.2 y hy; omega)
          unfold UnlikePost at h1
          exact h1.mono fun r w'' ⟨ub,p1,p2,p3⟩=>⟨by rw [p1,p2 HCT.out],bchain HW2.out (bchain (BD15.trans bf) p3)⟩)
        obtain ⟨v1,w16,v2,w17,r1,r2,k3,hun⟩:=HAP.out
        have HR1:=qh r1
        have HR2:=qh r2
        have HUN:=qh hun
        have k0:w2.cell? ⟨q0,4,none⟩=some (.slice Ak K.length capk):=(HS0.out.below HX2.out).cells.2.2.2.2.1
        have k1:w2.cell? ⟨q0,7,none⟩=some (.slice An L.length capn):=(HS0.out.below HX2.out).cells.2.2.2.2.2.2.2
        have k4:(w2.alloc (.cells #[] 9)).cell? ⟨q0,4,none⟩=some (.slice Ak K.length capk):=((HS0.out.below HX2.out).below ((Below.refl _ _).alloc (Nat.le_refl _) _)).cells.2.2.2.2.1
        have k5:(w2.alloc (.cells #[] 9)).cell? ⟨q0,7,none⟩=some (.slice An L.length capn):=((HS0.out.below HX2.out).below ((Below.refl _ _).alloc (Nat.le_refl _) _)).cells.2.2.2.2.2.2.2
        clear r1 r2 hun
        go_region_law (first | (refine step_append_run rfl (.tmp 111) (.tmp 113) _ rfl _ _ _ ?_ ?_ HR1.out ?_; (first | rfl | (focus (simp [Act.eval]; done)) | fail); (first | rfl | (focus (simp [Act.eval]; done)) | fail)) | (refine step_append_run rfl (.tmp 114) (.tmp 117) _ rfl _ _ _ ?_ ?_ HR2.out ?_; (first | rfl | (focus (simp [Act.eval]; done)) | fail); (first | rfl | (focus (simp [Act.eval]; done)) | fail)) | (refine step_call2 rfl 25 (.const (.int .i64 1)) (.tmp 118) _ rfl (fun _ _=>rfl) _ HUN.out ?_; rintro r w18 ⟨rfl,hb18⟩; refine ⟨_,rfl,?_⟩))
        all_goals
          have HFI:=qh hb18
          clear hb18
          go_wp2
          try rw [Exit.noGoto_ret]
          go_ret
          exact ⟨rfl,HFI.out⟩
    · obtain rfl:k=J.length:=by omega
      have h1:¬ ((J.length:Int)<(J.length:Int)):=by omega
      rw [List.take_length]
      have HPF:Hid (Spn.hasK key J≠th->Clash (K++L)):=qh (Spn.point_found HCL.out)
      have HWR:=qh (bchain HB0.out HXR.out)
      obtain ⟨fd,hfd⟩:∃ b,Spn.hasK key J=b:=⟨_,rfl⟩
      rw [hfd] at HPF
      rw [hfd]
      clear hfd hlt hk hb
      cases th with
      | false=>
        cases fd with
        | false=>
          clear HPF
          go_upto_region 21 with fail
          have BD:Below wr.heap.size wr wr.drew:=(Below.refl _ _).drew
          refine region_inv (fun Lq aq w'=>∃ vl vj vm vn ve vc vh vf vb vd vg vi vk va v4:Value,aq=⟨#[Value.string { data:=List.toArray root },Value.agg #[Value.string { data:=List.toArray key },Value.string { data:=List.toArray f },Value.string { data:=List.toArray e },Value.int IntKind.i64 m,Value.slice Ak K.length capk,Value.slice Ai (List.length J) capi,Value.string { data:=List.toArray nx },Value.slice An L.length capn],undef,Value.pointer (some { block:=q0,off:=0 }),v4,Value.string { data:=List.toArray v },Value.bool false,Value.int IntKind.i64 0,Value.slice A5 (List.length J) cap5,Value.string { data:=List.toArray nx },Value.int IntKind.i64 0,Value.string { data:=List.toArray nx },Value.bool false,undef,u14,Value.bool true,Value.bool false,Value.pointer (some { block:=q0,off:=4 }),Value.slice Ak K.length capk,Value.bool true,Value.bool false,Value.bool false,Value.pointer (some { block:=q0,off:=5 }),Value.pointer (some { block:=q0,off:=7 }),Value.slice An L.length capn,Value.bool true,Value.bool false,Value.bool false,Value.bool false,Value.pointer (some { block:=q0,off:=5 }),Value.pointer (some { block:=q0,off:=5 }),Value.slice Ai (List.length J) capi,Value.int IntKind.i64 ↑(List.length J),Value.bool false,Value.bool false,Value.bool false,Value.string { data:=List.toArray root },Value.int IntKind.i64 ↑(List.length root),Value.bool false,Value.bool false,Value.tuple #[Value.string { data:=List.toArray v },Value.bool false,Value.int IntKind.i64 0],Value.string { data:=List.toArray root },Value.pointer (some { block:=q0,off:=0 }),Value.string { data:=List.toArray key },Value.pointer (some { block:=q0,off:=4 }),Value.slice Ak K.length capk,Value.tuple #[Value.string { data:=List.toArray v },Value.bool false,Value.int IntKind.i64 0],Value.string { data:=List.toArray v },Value.bool false,Value.int IntKind.i64 0,Value.tuple #[Value.slice A5 (List.length J) cap5,Value.string { data:=List.toArray nx },Value.int IntKind.i64 0],Value.string { data:=List.toArray root },Value.pointer (some { block:=q0,off:=1 }),Value.string { data:=List.toArray f },Value.pointer (some { block:=q0,off:=2 }),Value.string { data:=List.toArray e },Value.pointer (some { block:=q0,off:=3 }),Value.int IntKind.i64 m,Value.pointer (some { block:=q0,off:=5 }),Value.agg #[Value.slice Ai (List.length J) capi,Value.string { data:=List.toArray nx },Value.slice An L.length capn],Value.tuple #[Value.slice A5 (List.length J) cap5,Value.string { data:=List.toArray nx },Value.int IntKind.i64 0],Value.slice A5 (List.length J) cap5,Value.string { data:=List.toArray nx },Value.int IntKind.i64 0,Value.pointer (some { block:=q0,off:=2 }),Value.string { data:=List.toArray e },Value.string { data:=List.toArray nx },Value.bool true,Value.string { data:=List.toArray nx },Value.int IntKind.i64 0,Value.bool false,Value.bool false,Value.int IntKind.i64 0,Value.bool false,Value.bool false,Value.bool false,Value.pointer (some { block:=q0,off:=0 }),Value.string { data:=List.toArray key },Value.pointer (some { block:=q0,off:=1 }),Value.string { data:=List.toArray f },Value.bool false,Value.bool false,Value.bool false,Value.string { data:=List.toArray nx },Value.bool true,Value.bool true,Value.pointer (some { block:=q0,off:=0 }),Value.string { data:=List.toArray key },Value.string { data:=List.toArray nx },Value.bool false,Value.bool false,Value.bool false,Value.slice A5 (List.length J) cap5,Value.int IntKind.i64 ↑(List.length J),Value.int IntKind.i64 ↑(List.length J),Value.bool false,u96,u97,u98,u99,u100,u101,u102,u103,u104,u105,u106,u107,u108,u109,u110,u111,u112,u113,u114,u115,u116,u117,u118,u119,u120,vl,vj,vm,vn,ve,vc,vh,vf,vb,vd,vg,vi,vk,va],[]⟩/\Below wr.heap.size wr w'/\(Lq[0]?=some true->vl=.bool false)/\(Lq[1]?=some true->vj=.bool false)/\(Lq[2]?=some true->vm=.bool true)/\(Lq[3]?=some true->vn=.bool true)/\(Lq[4]?=some true->ve=undef)/\(Lq[5]?=some true->vc=undef)/\(Lq[6]?=some true->vh=undef)/\(Lq[7]?=some true->vf=undef)/\(Lq[8]?=some true->vb=undef)/\(Lq[9]?=some true->vd=undef)/\(Lq[10]?=some true->vg=undef)/\(Lq[11]?=some true->vi=undef)/\(Lq[12]?=some true->vk=undef)/\(Lq[13]?=some true->va=.bool true)/\(Lq[14]?=some true->v4=.bool true)) (by rfl) ?_ ?_ ?_
          · exact ⟨undef,undef,undef,undef,undef,undef,undef,undef,undef,undef,undef,undef,undef,undef,u4,rfl,BD,by simp,by simp,by simp,by simp,by simp,by simp,by simp,by simp,by simp,by simp,by simp,by simp,by simp,by simp,by simp⟩
          · intro L a w1' hL hI j o ho hj K hK
            obtain ⟨vl,vj,vm,vn,ve,vc,vh,vf,vb,vd,vg,vi,vk,va,v4,rfl,hB,h0,h1,h2,h3,h4,h5,h6,h7,h8,h9,hh,ha,hc,hg,hi⟩:=hI
            obtain ⟨b0,b1,b2,b3,b4,b5,b6,b7,b8,b9,bc,be,bd,ba,bb,rfl⟩:∃ b0 b1 b2 b3 b4 b5 b6 b7 b8 b9 bc be bd ba bb,L=[b0,b1,b2,b3,b4,b5,b6,b7,b8,b9,bc,be,bd,ba,bb]:=by
              match L,hL with
              | [b0,b1,b2,b3,b4,b5,b6,b7,b8,b9,bc,be,bd,ba,bb],_=>exact ⟨b0,b1,b2,b3,b4,b5,b6,b7,b8,b9,bc,be,bd,ba,bb,rfl⟩
            have hi2:=(List.mem_filter.1 hj).2
            clear hj hL
            rcases j with _ | _ | _ | _ | _ | _ | _ | _ | _ | _ | _ | _ | _ | _ | _ | j
            · obtain rfl:=Option.some.inj ho
              simp [Region.binds] at hi2
              clear ho
              rw [if_pos (by rfl)]
              go_simp
              exact hK _ _ ⟨_,vj,vm,vn,ve,vc,vh,vf,vb,vd,vg,vi,vk,va,v4,rfl,hB,(fun _=>rfl),h1,h2,h3,h4,h5,h6,h7,h8,h9,hh,ha,hc,hg,hi⟩
            · obtain rfl:=Option.some.inj ho
              simp [Region.binds] at hi2
              clear ho
              rw [if_pos (by rfl)]
              go_simp
              exact hK _ _ ⟨vl,_,vm,vn,ve,vc,vh,vf,vb,vd,vg,vi,vk,va,v4,rfl,hB,h0,(fun _=>rfl),h2,h3,h4,h5,h6,h7,h8,h9,hh,ha,hc,hg,hi⟩
            · obtain rfl:=Option.some.inj ho
              simp [Region.binds] at hi2
              obtain rfl:=h0 (by simp [hi2])
              obtain rfl:=h1 (by simp [hi2])
              clear ho
              rw [if_pos (by rfl)]
              go_simp
              exact hK _ _ ⟨_,_,_,vn,ve,vc,vh,vf,vb,vd,vg,vi,vk,va,v4,rfl,hB,(fun _=>rfl),(fun _=>rfl),(fun _=>rfl),h3,h4,h5,h6,h7,h8,h9,hh,ha,hc,hg,hi⟩
            · obtain rfl:=Option.some.inj ho
              simp [Region.binds] at hi2
              obtain rfl:=h2 (by simp [hi2])
              clear ho
              rw [if_pos (by rfl)]
              go_simp
              exact hK _ _ ⟨vl,vj,_,_,ve,vc,vh,vf,vb,vd,vg,vi,vk,va,v4,rfl,hB,h0,h1,(fun _=>rfl),(fun _=>rfl),h4,h5,h6,h7,h8,h9,hh,ha,hc,hg,hi⟩
            · obtain rfl:=Option.some.inj ho
              simp [Region.binds] at hi2
              obtain rfl:=h3 (by simp [hi2])
              clear ho
              rw [if_neg (by rw [show Region.wanted _ _=false from rfl]; decide)]
              exact hK _ _ ⟨vl,vj,vm,_,_,vc,vh,vf,vb,vd,vg,vi,vk,va,v4,rfl,hB,h0,h1,h2,(fun _=>rfl),(fun _=>rfl),h5,h6,h7,h8,h9,hh,ha,hc,hg,hi⟩
            · obtain rfl:=Option.some.inj ho
              simp [Region.binds] at hi2
              obtain rfl:=h3 (by simp [hi2])
              clear ho
              rw [if_neg (by rw [show Region.wanted _ _=false from rfl]; decide)]
              exact hK _ _ ⟨vl,vj,vm,_,ve,_,vh,vf,vb,vd,vg,vi,vk,va,v4,rfl,hB,h0,h1,h2,(fun _=>rfl),h4,(fun _=>rfl),h6,h7,h8,h9,hh,ha,hc,hg,hi⟩
            · obtain rfl:=Option.some.inj ho
              simp [Region.binds] at hi2
              obtain rfl:=h3 (by simp [hi2])
              clear ho
              rw [if_neg (by rw [show Region.wanted _ _=false from rfl]; decide)]
              exact hK _ _ ⟨vl,vj,vm,_,ve,vc,_,vf,vb,vd,vg,vi,vk,va,v4,rfl,hB,h0,h1,h2,(fun _=>rfl),h4,h5,(fun _=>rfl),h7,h8,h9,hh,ha,hc,hg,hi⟩
            · obtain rfl:=Option.some.inj ho
              simp [Region.binds] at hi2
              obtain rfl:=h3 (by simp [hi2])
              clear ho
              rw [if_neg (by rw [show Region.wanted _ _=false from rfl]; decide)]
              exact hK _ _ ⟨vl,vj,vm,_,ve,vc,vh,_,vb,vd,vg,vi,vk,va,v4,rfl,hB,h0,h1,h2,(fun _=>rfl),h4,h5,h6,(fun _=>rfl),h8,h9,hh,ha,hc,hg,hi⟩
            · obtain rfl:=Option.some.inj ho
              simp [Region.binds] at hi2
              obtain rfl:=h3 (by simp [hi2])
              clear ho
              rw [if_neg (by rw [show Region.wanted _ _=false from rfl]; decide)]
              exact hK _ _ ⟨vl,vj,vm,_,ve,vc,vh,vf,_,vd,vg,vi,vk,va,v4,rfl,hB,h0,h1,h2,(fun _=>rfl),h4,h5,h6,h7,(fun _=>rfl),h9,hh,ha,hc,hg,hi⟩
            · obtain rfl:=Option.some.inj ho
              simp [Region.binds] at hi2
              obtain rfl:=h3 (by simp [hi2])
              clear ho
              rw [if_neg (by rw [show Region.wanted _ _=false from rfl]; decide)]
              exact hK _ _ ⟨vl,vj,vm,_,ve,vc,vh,vf,vb,_,vg,vi,vk,va,v4,rfl,hB,h0,h1,h2,(fun _=>rfl),h4,h5,h6,h7,h8,(fun _=>rfl),hh,ha,hc,hg,hi⟩
            · obtain rfl:=Option.some.inj ho
              simp [Region.binds] at hi2
              obtain rfl:=h3 (by simp [hi2])
              clear ho
              rw [if_neg (by rw [show Region.wanted _ _=false from rfl]; decide)]
              exact hK _ _ ⟨vl,vj,vm,_,ve,vc,vh,vf,vb,vd,_,vi,vk,va,v4,rfl,hB,h0,h1,h2,(fun _=>rfl),h4,h5,h6,h7,h8,h9,(fun _=>rfl),ha,hc,hg,hi⟩
            · obtain rfl:=Option.some.inj ho
              simp [Region.binds] at hi2
              obtain rfl:=h3 (by simp [hi2])
              clear ho
              rw [if_neg (by rw [show Region.wanted _ _=false from rfl]; decide)]
              exact hK _ _ ⟨vl,vj,vm,_,ve,vc,vh,vf,vb,vd,vg,_,vk,va,v4,rfl,hB,h0,h1,h2,(fun _=>rfl),h4,h5,h6,h7,h8,h9,hh,(fun _=>rfl),hc,hg,hi⟩
            · obtain rfl:=Option.some.inj ho
              simp [Region.binds] at hi2
              obtain rfl:=h3 (by simp [hi2])
              clear ho
              rw [if_neg (by rw [show Region.wanted _ _=false from rfl]; decide)]
              exact hK _ _ ⟨vl,vj,vm,_,ve,vc,vh,vf,vb,vd,vg,vi,_,va,v4,rfl,hB,h0,h1,h2,(fun _=>rfl),h4,h5,h6,h7,h8,h9,hh,ha,(fun _=>rfl),hg,hi⟩
            · obtain rfl:=Option.some.inj ho
              simp [Region.binds] at hi2
              obtain rfl:=h3 (by simp [hi2])
              obtain rfl:=hc (by simp [hi2])
              clear ho
              rw [if_pos (by rfl)]
              go_simp
              exact hK _ _ ⟨vl,vj,vm,_,ve,vc,vh,vf,vb,vd,vg,vi,_,_,v4,rfl,hB,h0,h1,h2,(fun _=>rfl),h4,h5,h6,h7,h8,h9,hh,ha,(fun _=>rfl),(fun _=>rfl),hi⟩
            · obtain rfl:=Option.some.inj ho
              simp [Region.binds] at hi2
              obtain rfl:=h0 (by simp [hi2])
              obtain rfl:=h1 (by simp [hi2])
              obtain rfl:=h2 (by simp [hi2])
              obtain rfl:=h3 (by simp [hi2])
              obtain rfl:=h4 (by simp [hi2])
              obtain rfl:=h5 (by simp [hi2])
              obtain rfl:=h6 (by simp [hi2])
              obtain rfl:=h7 (by simp [hi2])
              obtain rfl:=h8 (by simp [hi2])
              obtain rfl:=h9 (by simp [hi2])
              obtain rfl:=hh (by simp [hi2])
              obtain rfl:=ha (by simp [hi2])
              obtain rfl:=hc (by simp [hi2])
              obtain rfl:=hg (by simp [hi2])
              clear ho
              rw [if_pos (by rfl)]
              go_simp
              exact hK _ _ ⟨_,_,_,_,_,_,_,_,_,_,_,_,_,_,_,rfl,hB,(fun _=>rfl),(fun _=>rfl),(fun _=>rfl),(fun _=>rfl),(fun _=>rfl),(fun _=>rfl),(fun _=>rfl),(fun _=>rfl),(fun _=>rfl),(fun _=>rfl),(fun _=>rfl),(fun _=>rfl),(fun _=>rfl),(fun _=>rfl),(fun _=>rfl)⟩
            · simp at ho
          · intro L a w2 hL hr hI
            obtain ⟨vl,vj,vm,vn,ve,vc,vh,vf,vb,vd,vg,vi,vk,va,v4,rfl,hB,h0,h1,h2,h3,h4,h5,h6,h7,h8,h9,hh,ha,hc,hg,hi⟩:=hI
            obtain ⟨b0,b1,b2,b3,b4,b5,b6,b7,b8,b9,bc,be,bd,ba,bb,rfl⟩:∃ b0 b1 b2 b3 b4 b5 b6 b7 b8 b9 bc be bd ba bb,L=[b0,b1,b2,b3,b4,b5,b6,b7,b8,b9,bc,be,bd,ba,bb]:=by
              match L,hL with
              | [b0,b1,b2,b3,b4,b5,b6,b7,b8,b9,bc,be,bd,ba,bb],_=>exact ⟨b0,b1,b2,b3,b4,b5,b6,b7,b8,b9,bc,be,bd,ba,bb,rfl⟩
            have hr2:=List.filter_eq_nil_iff.1 hr
            clear hr hL
            have k0:=hr2 0 (by simp)
            have k1:=hr2 1 (by simp)
            have k2:=hr2 2 (by simp)
            have k3:=hr2 3 (by simp)
            have k4:=hr2 4 (by simp)
            have k5:=hr2 5 (by simp)
            have k6:=hr2 6 (by simp)
            have k7:=hr2 7 (by simp)
            have k8:=hr2 8 (by simp)
            have k9:=hr2 9 (by simp)
            have ke:=hr2 10 (by simp)
            have kd:=hr2 11 (by simp)
            have kc:=hr2 12 (by simp)
            have ka:=hr2 13 (by simp)
            have kb:=hr2 14 (by simp)
            clear hr2
            simp [Region.binds] at k0
            subst k0
            simp [Region.binds] at k1
            subst k1
            simp [Region.binds] at k2
            subst k2
            simp [Region.binds] at k3
            subst k3
            simp [Region.binds] at k4
            subst k4
            simp [Region.binds] at k5
            subst k5
            simp [Region.binds] at k6
            subst k6
            simp [Region.binds] at k7
            subst k7
            simp [Region.binds] at k8
            subst k8
            simp [Region.binds] at k9
            subst k9
            simp [Region.binds] at ke
            subst ke
            simp [Region.binds] at kd
            subst kd
            simp [Region.binds] at kc
            subst kc
            simp [Region.binds] at ka
            subst ka
            simp [Region.binds] at kb
            subst kb
            obtain rfl:=h0 rfl
            obtain rfl:=h1 rfl
            obtain rfl:=h2 rfl
            obtain rfl:=h3 rfl
            obtain rfl:=h4 rfl
            obtain rfl:=h5 rfl
            obtain rfl:=h6 rfl
            obtain rfl:=h7 rfl
            obtain rfl:=h8 rfl
            obtain rfl:=h9 rfl
            obtain rfl:=hh rfl
            obtain rfl:=ha rfl
            obtain rfl:=hc rfl
            obtain rfl:=hg rfl
            obtain rfl:=hi rfl
            go_wp2
            go_ret
            exact ⟨rfl,bchain HWR.out hB⟩
        | true=>
          have HCT:Hid (Clash (K++L)):=qh (HPF.out (by decide))
          clear HPF
          go_upto_region 21 with fail
          have HCE:Hid (∀ w',Below wr.heap.size wr w'->w'.cell? ⟨q0,4,none⟩=some (.slice Ak K.length capk)/\w'.cell? ⟨q0,7,none⟩=some (.slice An L.length capn)):=qh (fun w' h=>⟨((HS0.out.below HXR.out).below h).cells.2.2.2.2.1,((HS0.out.below HXR.out).below h).cells.2.2.2.2.2.2.2⟩)
          have BD:Below wr.heap.size wr wr.drew:=(Below.refl _ _).drew
          have HWA:Hid (Below wr.heap.size wr (wr.alloc (.cells #[] 9)).drew):=qh ((Below.refl _ _).alloc (Nat.le_refl _) _).drew
          have HAP:Hid (∃ v1 w16 v2 w17,(Builtin.append_ #[29,29] 29 #[.slice (some ⟨wr.heap.size,0,none⟩) 0 0,.slice Ak K.length capk]).run Tryz.prog (wr.alloc (.cells #[] 9)).drew=.ok v1 w16/\
              (Builtin.append_ #[29,29] 29 #[v1,.slice An L.length capn]).run Tryz.prog w16=.ok v2 w17/\Below wr.heap.size wr w16/\Below wr.heap.size wr w17/\Calls Tryz.prog 25 #[.int .i64 1,v2] w17 fun r w''=>r=.returned (.bool true)/\Below w.heap.size w w''/\Below wr.heap.size wr w''):=qh (by
            obtain ⟨v1,w16,v2,w17,r1,r2,o3,bg,bf⟩:=two_lists (w:=wr.drew) ((HK0.out.below HXR.out).below BD).strs ((HL0.out.below HXR.out).below BD).strs (by have:=HFK.out.1; have:=HFL.out.1; omega)
            refine ⟨v1,w16,v2,w17,r1,r2,BD.trans bg,BD.trans bf,?_⟩
            have h1:=runlike_any (K++L) v2 w17 o3.strs (by rw [List.length_append]; have:=HFK.out.1; have:=HFL.out.1; omega) (fun y hy=>by
              rcases List.mem_append.1 hy with hy | hy
              · have:=HFK.out.2 y hy; omega
              · have:=HFL.out.2 y hy; omega)
            unfold UnlikePost at h1
            exact h1.mono fun r w'' ⟨ub,p1,p2,p3⟩=>⟨by rw [p1,p2 HCT.out],bchain HWR.out (bchain (BD.trans bf) p3),bchain (BD.trans bf) p3⟩)
          obtain ⟨v1,w16,v2,w17,r1,r2,bg,bf,hun⟩:=HAP.out
          have HR1:=qh r1
          have HR2:=qh r2
          have HUN:=qh hun
          have HW16:=qh bg
          have HW17:=qh bf
          clear r1 r2 hun bg bf
          refine region_inv (fun Lq aq w'=>∃ vl vj vm vn ve vc vh vf vb vd vg vi vk va v4:Value,aq=⟨#[Value.string { data:=List.toArray root },Value.agg #[Value.string { data:=List.toArray key },Value.string { data:=List.toArray f },Value.string { data:=List.toArray e },Value.int IntKind.i64 m,Value.slice Ak K.length capk,Value.slice Ai (List.length J) capi,Value.string { data:=List.toArray nx },Value.slice An L.length capn],undef,Value.pointer (some { block:=q0,off:=0 }),v4,Value.string { data:=List.toArray v },Value.bool false,Value.int IntKind.i64 0,Value.slice A5 (List.length J) cap5,Value.string { data:=List.toArray nx },Value.int IntKind.i64 0,Value.string { data:=List.toArray nx },Value.bool true,undef,u14,Value.bool true,Value.bool false,Value.pointer (some { block:=q0,off:=4 }),Value.slice Ak K.length capk,Value.bool true,Value.bool false,Value.bool false,Value.pointer (some { block:=q0,off:=5 }),Value.pointer (some { block:=q0,off:=7 }),Value.slice An L.length capn,Value.bool true,Value.bool false,Value.bool false,Value.bool false,Value.pointer (some { block:=q0,off:=5 }),Value.pointer (some { block:=q0,off:=5 }),Value.slice Ai (List.length J) capi,Value.int IntKind.i64 ↑(List.length J),Value.bool false,Value.bool false,Value.bool false,Value.string { data:=List.toArray root },Value.int IntKind.i64 ↑(List.length root),Value.bool false,Value.bool false,Value.tuple #[Value.string { data:=List.toArray v },Value.bool false,Value.int IntKind.i64 0],Value.string { data:=List.toArray root },Value.pointer (some { block:=q0,off:=0 }),Value.string { data:=List.toArray key },Value.pointer (some { block:=q0,off:=4 }),Value.slice Ak K.length capk,Value.tuple #[Value.string { data:=List.toArray v },Value.bool false,Value.int IntKind.i64 0],Value.string { data:=List.toArray v },Value.bool false,Value.int IntKind.i64 0,Value.tuple #[Value.slice A5 (List.length J) cap5,Value.string { data:=List.toArray nx },Value.int IntKind.i64 0],Value.string { data:=List.toArray root },Value.pointer (some { block:=q0,off:=1 }),Value.string { data:=List.toArray f },Value.pointer (some { block:=q0,off:=2 }),Value.string { data:=List.toArray e },Value.pointer (some { block:=q0,off:=3 }),Value.int IntKind.i64 m,Value.pointer (some { block:=q0,off:=5 }),Value.agg #[Value.slice Ai (List.length J) capi,Value.string { data:=List.toArray nx },Value.slice An L.length capn],Value.tuple #[Value.slice A5 (List.length J) cap5,Value.string { data:=List.toArray nx },Value.int IntKind.i64 0],Value.slice A5 (List.length J) cap5,Value.string { data:=List.toArray nx },Value.int IntKind.i64 0,Value.pointer (some { block:=q0,off:=2 }),Value.string { data:=List.toArray e },Value.string { data:=List.toArray nx },Value.bool true,Value.string { data:=List.toArray nx },Value.int IntKind.i64 0,Value.bool false,Value.bool false,Value.int IntKind.i64 0,Value.bool false,Value.bool false,Value.bool false,Value.pointer (some { block:=q0,off:=0 }),Value.string { data:=List.toArray key },Value.pointer (some { block:=q0,off:=1 }),Value.string { data:=List.toArray f },Value.bool false,Value.bool false,Value.bool false,Value.string { data:=List.toArray nx },Value.bool true,Value.bool true,Value.pointer (some { block:=q0,off:=0 }),Value.string { data:=List.toArray key },Value.string { data:=List.toArray nx },Value.bool false,Value.bool false,Value.bool false,Value.slice A5 (List.length J) cap5,Value.int IntKind.i64 ↑(List.length J),Value.int IntKind.i64 ↑(List.length J),Value.bool false,u96,u97,u98,u99,u100,u101,u102,u103,u104,u105,u106,u107,u108,u109,u110,u111,u112,u113,u114,u115,u116,u117,u118,u119,u120,vl,vj,vm,vn,ve,vc,vh,vf,vb,vd,vg,vi,vk,va],[]⟩/\Below wr.heap.size wr w'/\Hid (Lq[4]?≠some true->w'=wr.drew/\Lq[7]?≠some true/\Lq[11]?≠some true/\Lq[12]?≠some true)/\Hid (Lq[4]?=some true->Lq[7]?≠some true->w'=(wr.alloc (.cells #[] 9)).drew/\Lq[11]?≠some true/\Lq[12]?≠some true)/\Hid (Lq[7]?=some true->Lq[11]?≠some true->w'=w16/\Lq[12]?≠some true)/\Hid (Lq[11]?=some true->Lq[12]?≠some true->w'=w17)/\Hid (Lq[12]?=some true->Below w.heap.size w w')/\(Lq[0]?=some true->vl=.bool true)/\(Lq[1]?=some true->vj=.bool false)/\(Lq[2]?=some true->vm=.bool false)/\(Lq[3]?=some true->vn=.bool false)/\(Lq[4]?=some true->ve=.slice (some ⟨wr.heap.size,0,none⟩) 0 0)/\(Lq[5]?=some true->vc=.pointer (some ⟨q0,4,none⟩))/\(Lq[6]?=some true->vh=.slice Ak K.length capk)/\(Lq[7]?=some true->vf=v1)/\(Lq[8]?=some true->vb=.pointer (some ⟨q0,5,none⟩))/\(Lq[9]?=some true->vd=.pointer (some ⟨q0,7,none⟩))/\(Lq[10]?=some true->vg=.slice An L.length capn)/\(Lq[11]?=some true->vi=v2)/\(Lq[12]?=some true->vk=.bool true)/\(Lq[13]?=some true->va=.bool true)/\(Lq[14]?=some true->v4=.bool true)) (by rfl) ?_ ?_ ?_
          · exact ⟨undef,undef,undef,undef,undef,undef,undef,undef,undef,undef,undef,undef,undef,undef,u4,rfl,BD,qh (fun _=>⟨rfl,by simp,by simp,by simp⟩),qh (by simp),qh (by simp),qh (by simp),qh (by simp),by simp,by simp,by simp,by simp,by simp,by simp,by simp,by simp,by simp,by simp,by simp,by simp,by simp,by simp,by simp⟩
          · intro L a w1' hL hI j o ho hj K hK
            obtain ⟨vl,vj,vm,vn,ve,vc,vh,vf,vb,vd,vg,vi,vk,va,v4,rfl,hB,wz,w0,w1,w2,w3,h0,h1,h2,h3,h4,h5,h6,h7,h8,h9,hh,ha,hc,hg,hi⟩:=hI
            obtain ⟨b0,b1,b2,b3,b4,b5,b6,b7,b8,b9,bc,be,bd,ba,bb,rfl⟩:∃ b0 b1 b2 b3 b4 b5 b6 b7 b8 b9 bc be bd ba bb,L=[b0,b1,b2,b3,b4,b5,b6,b7,b8,b9,bc,be,bd,ba,bb]:=by
              match L,hL with
              | [b0,b1,b2,b3,b4,b5,b6,b7,b8,b9,bc,be,bd,ba,bb],_=>exact ⟨b0,b1,b2,b3,b4,b5,b6,b7,b8,b9,bc,be,bd,ba,bb,rfl⟩
            have hi2:=(List.mem_filter.1 hj).2
            clear hj hL
            obtain ⟨k0,k1⟩:=HCE.out _ hB
            rcases j with _ | _ | _ | _ | _ | _ | _ | _ | _ | _ | _ | _ | _ | _ | _ | j
            · obtain rfl:=Option.some.inj ho
              simp [Region.binds] at hi2
              clear ho
              rw [if_pos (by rfl)]
              go_simp
              exact hK _ _ ⟨_,vj,vm,vn,ve,vc,vh,vf,vb,vd,vg,vi,vk,va,v4,rfl,hB,wz,w0,w1,w2,w3,(fun _=>rfl),h1,h2,h3,h4,h5,h6,h7,h8,h9,hh,ha,hc,hg,hi⟩
            · obtain rfl:=Option.some.inj ho
              simp [Region.binds] at hi2
              clear ho
              rw [if_pos (by rfl)]
              go_simp
              exact hK _ _ ⟨vl,_,vm,vn,ve,vc,vh,vf,vb,vd,vg,vi,vk,va,v4,rfl,hB,wz,w0,w1,w2,w3,h0,(fun _=>rfl),h2,h3,h4,h5,h6,h7,h8,h9,hh,ha,hc,hg,hi⟩
            · obtain rfl:=Option.some.inj ho
              simp [Region.binds] at hi2
              obtain rfl:=h0 (by simp [hi2])
              obtain rfl:=h1 (by simp [hi2])
              clear ho
              rw [if_pos (by rfl)]
              go_simp
              exact hK _ _ ⟨_,_,_,vn,ve,vc,vh,vf,vb,vd,vg,vi,vk,va,v4,rfl,hB,wz,w0,w1,w2,w3,(fun _=>rfl),(fun _=>rfl),(fun _=>rfl),h3,h4,h5,h6,h7,h8,h9,hh,ha,hc,hg,hi⟩
            · obtain rfl:=Option.some.inj ho
              simp [Region.binds] at hi2
              obtain rfl:=h2 (by simp [hi2])
              clear ho
              rw [if_pos (by rfl)]
              go_simp
              exact hK _ _ ⟨vl,vj,_,_,ve,vc,vh,vf,vb,vd,vg,vi,vk,va,v4,rfl,hB,wz,w0,w1,w2,w3,h0,h1,(fun _=>rfl),(fun _=>rfl),h4,h5,h6,h7,h8,h9,hh,ha,hc,hg,hi⟩
            · obtain rfl:=Option.some.inj ho
              simp [Region.binds] at hi2
              obtain rfl:=h3 (by simp [hi2])
              obtain ⟨rfl,hn7,hn11,hn12⟩:=wz.out (by simp [hi2])
              clear ho
              rw [if_pos (by rfl)]
              go_simp
              exact hK _ _ ⟨vl,vj,vm,_,_,vc,vh,vf,vb,vd,vg,vi,vk,va,v4,rfl,HWA.out,qh (fun h=>absurd rfl h),qh (fun _ _=>⟨rfl,hn11,hn12⟩),qh (fun h _=>absurd h hn7),qh (fun h _=>absurd h hn11),qh (fun h=>absurd h hn12),h0,h1,h2,(fun _=>rfl),(fun _=>rfl),h5,h6,h7,h8,h9,hh,ha,hc,hg,hi⟩
            · obtain rfl:=Option.some.inj ho
              simp [Region.binds] at hi2
              obtain rfl:=h3 (by simp [hi2])
              clear ho
              rw [if_pos (by rfl)]
              go_simp
              exact hK _ _ ⟨vl,vj,vm,_,ve,_,vh,vf,vb,vd,vg,vi,vk,va,v4,rfl,hB,wz,w0,w1,w2,w3,h0,h1,h2,(fun _=>rfl),h4,(fun _=>rfl),h6,h7,h8,h9,hh,ha,hc,hg,hi⟩
            · obtain rfl:=Option.some.inj ho
              simp [Region.binds] at hi2
              obtain rfl:=h5 (by simp [hi2])
              obtain rfl:=h3 (by simp [hi2])
              clear ho
              rw [if_pos (by rfl)]
              go_simp
              exact hK _ _ ⟨vl,vj,vm,_,ve,_,_,vf,vb,vd,vg,vi,vk,va,v4,rfl,hB,wz,w0,w1,w2,w3,h0,h1,h2,(fun _=>rfl),h4,(fun _=>rfl),(fun _=>rfl),h7,h8,h9,hh,ha,hc,hg,hi⟩
            · obtain rfl:=Option.some.inj ho
              simp [Region.binds] at hi2
              obtain rfl:=h4 (by simp [hi2])
              obtain rfl:=h6 (by simp [hi2])
              obtain rfl:=h3 (by simp [hi2])
              obtain ⟨rfl,hn11,hn12⟩:=w0.out (by simp [hi2]) (by simp [hi2])
              clear ho
              refine step_append_run_w (by rfl) (.tmp 125) (.tmp 127) _ rfl _ _ _ ?_ ?_ HR1.out ?_
              · first | rfl | (focus (simp [Act.eval]; done))
              · first | rfl | (focus (simp [Act.eval]; done))
              exact hK _ _ ⟨vl,vj,vm,_,_,vc,_,_,vb,vd,vg,vi,vk,va,v4,rfl,HW16.out,qh (fun h=>absurd (by simp [hi2]) h),qh (fun _ h=>absurd rfl h),qh (fun _ _=>⟨rfl,hn12⟩),qh (fun h _=>absurd h hn11),qh (fun h=>absurd h hn12),h0,h1,h2,(fun _=>rfl),(fun _=>rfl),h5,(fun _=>rfl),(fun _=>rfl),h8,h9,hh,ha,hc,hg,hi⟩
            · obtain rfl:=Option.some.inj ho
              simp [Region.binds] at hi2
              obtain rfl:=h3 (by simp [hi2])
              clear ho
              rw [if_pos (by rfl)]
              go_simp
              exact hK _ _ ⟨vl,vj,vm,_,ve,vc,vh,vf,_,vd,vg,vi,vk,va,v4,rfl,hB,wz,w0,w1,w2,w3,h0,h1,h2,(fun _=>rfl),h4,h5,h6,h7,(fun _=>rfl),h9,hh,ha,hc,hg,hi⟩
            · obtain rfl:=Option.some.inj ho
              simp [Region.binds] at hi2
              obtain rfl:=h8 (by simp [hi2])
              obtain rfl:=h3 (by simp [hi2])
              clear ho
              rw [if_pos (by rfl)]
              go_simp
              exact hK _ _ ⟨vl,vj,vm,_,ve,vc,vh,vf,_,_,vg,vi,vk,va,v4,rfl,hB,wz,w0,w1,w2,w3,h0,h1,h2,(fun _=>rfl),h4,h5,h6,h7,(fun _=>rfl),(fun _=>rfl),hh,ha,hc,hg,hi⟩
            · obtain rfl:=Option.some.inj ho
              simp [Region.binds] at hi2
              obtain rfl:=h9 (by simp [hi2])
              obtain rfl:=h3 (by simp [hi2])
              clear ho
              rw [if_pos (by rfl)]
              go_simp
              exact hK _ _ ⟨vl,vj,vm,_,ve,vc,vh,vf,vb,_,_,vi,vk,va,v4,rfl,hB,wz,w0,w1,w2,w3,h0,h1,h2,(fun _=>rfl),h4,h5,h6,h7,h8,(fun _=>rfl),(fun _=>rfl),ha,hc,hg,hi⟩
            · obtain rfl:=Option.some.inj ho
              simp [Region.binds] at hi2
              obtain rfl:=h7 (by simp [hi2])
              obtain rfl:=hh (by simp [hi2])
              obtain rfl:=h3 (by simp [hi2])
              obtain ⟨rfl,hn12⟩:=w1.out (by simp [hi2]) (by simp [hi2])
              clear ho
              refine step_append_run_w (by rfl) (.tmp 128) (.tmp 131) _ rfl _ _ _ ?_ ?_ HR2.out ?_
              · first | rfl | (focus (simp [Act.eval]; done))
              · first | rfl | (focus (simp [Act.eval]; done))
              exact hK _ _ ⟨vl,vj,vm,_,ve,vc,vh,_,vb,vd,_,_,vk,va,v4,rfl,HW17.out,qh (fun h=>absurd (by simp [hi2]) (wz.out h).2.1),qh (fun h1 h2=>absurd (by simp [hi2]) h2),qh (fun _ h=>absurd rfl h),qh (fun _ _=>rfl),qh (fun h=>absurd h hn12),h0,h1,h2,(fun _=>rfl),h4,h5,h6,(fun _=>rfl),h8,h9,(fun _=>rfl),(fun _=>rfl),hc,hg,hi⟩
            · obtain rfl:=Option.some.inj ho
              simp [Region.binds] at hi2
              obtain rfl:=ha (by simp [hi2])
              obtain rfl:=h3 (by simp [hi2])
              obtain rfl:=w2.out (by simp [hi2]) (by simp [hi2])
              clear ho
              refine step_call2_w (by rfl) 25 (.const (.int .i64 1)) (.tmp 132) _ rfl (fun _ _=>rfl) _ HUN.out ?_
              rintro r w18 ⟨rfl,hlast,hB2⟩
              refine ⟨_,rfl,?_⟩
              exact hK _ _ ⟨vl,vj,vm,_,ve,vc,vh,vf,vb,vd,vg,_,_,va,v4,rfl,hB2,qh (fun h=>absurd (by simp [hi2]) (wz.out h).2.2.1),qh (fun h1 h2=>absurd (by simp [hi2]) (w0.out h1 h2).2.1),qh (fun h1 h2=>absurd (by simp [hi2]) h2),qh (fun _ h=>absurd rfl h),qh (fun _=>hlast),h0,h1,h2,(fun _=>rfl),h4,h5,h6,h7,h8,h9,hh,(fun _=>rfl),(fun _=>rfl),hg,hi⟩
            · obtain rfl:=Option.some.inj ho
              simp [Region.binds] at hi2
              obtain rfl:=h3 (by simp [hi2])
              obtain rfl:=hc (by simp [hi2])
              clear ho
              rw [if_pos (by rfl)]
              go_simp
              exact hK _ _ ⟨vl,vj,vm,_,ve,vc,vh,vf,vb,vd,vg,vi,_,_,v4,rfl,hB,wz,w0,w1,w2,w3,h0,h1,h2,(fun _=>rfl),h4,h5,h6,h7,h8,h9,hh,ha,(fun _=>rfl),(fun _=>rfl),hi⟩
            · obtain rfl:=Option.some.inj ho
              simp [Region.binds] at hi2
              obtain rfl:=h0 (by simp [hi2])
              obtain rfl:=h1 (by simp [hi2])
              obtain rfl:=h2 (by simp [hi2])
              obtain rfl:=h3 (by simp [hi2])
              obtain rfl:=h4 (by simp [hi2])
              obtain rfl:=h5 (by simp [hi2])
              obtain rfl:=h6 (by simp [hi2])
              obtain rfl:=h7 (by simp [hi2])
              obtain rfl:=h8 (by simp [hi2])
              obtain rfl:=h9 (by simp [hi2])
              obtain rfl:=hh (by simp [hi2])
              obtain rfl:=ha (by simp [hi2])
              obtain rfl:=hc (by simp [hi2])
              obtain rfl:=hg (by simp [hi2])
              clear ho
              rw [if_pos (by rfl)]
              go_simp
              exact hK _ _ ⟨_,_,_,_,_,_,_,_,_,_,_,_,_,_,_,rfl,hB,wz,w0,w1,w2,w3,(fun _=>rfl),(fun _=>rfl),(fun _=>rfl),(fun _=>rfl),(fun _=>rfl),(fun _=>rfl),(fun _=>rfl),(fun _=>rfl),(fun _=>rfl),(fun _=>rfl),(fun _=>rfl),(fun _=>rfl),(fun _=>rfl),(fun _=>rfl),(fun _=>rfl)⟩
            · simp at ho
          · intro L a w2 hL hr hI
            obtain ⟨vl,vj,vm,vn,ve,vc,vh,vf,vb,vd,vg,vi,vk,va,v4,rfl,hB,wz,w0,w1,w2,w3,h0,h1,h2,h3,h4,h5,h6,h7,h8,h9,hh,ha,hc,hg,hi⟩:=hI
            obtain ⟨b0,b1,b2,b3,b4,b5,b6,b7,b8,b9,bc,be,bd,ba,bb,rfl⟩:∃ b0 b1 b2 b3 b4 b5 b6 b7 b8 b9 bc be bd ba bb,L=[b0,b1,b2,b3,b4,b5,b6,b7,b8,b9,bc,be,bd,ba,bb]:=by
              match L,hL with
              | [b0,b1,b2,b3,b4,b5,b6,b7,b8,b9,bc,be,bd,ba,bb],_=>exact ⟨b0,b1,b2,b3,b4,b5,b6,b7,b8,b9,bc,be,bd,ba,bb,rfl⟩
            have hr2:=List.filter_eq_nil_iff.1 hr
            clear hr hL
            have k0:=hr2 0 (by simp)
            have k1:=hr2 1 (by simp)
            have k2:=hr2 2 (by simp)
            have k3:=hr2 3 (by simp)
            have k4:=hr2 4 (by simp)
            have k5:=hr2 5 (by simp)
            have k6:=hr2 6 (by simp)
            have k7:=hr2 7 (by simp)
            have k8:=hr2 8 (by simp)
            have k9:=hr2 9 (by simp)
            have ke:=hr2 10 (by simp)
            have kd:=hr2 11 (by simp)
            have kc:=hr2 12 (by simp)
            have ka:=hr2 13 (by simp)
            have kb:=hr2 14 (by simp)
            clear hr2
            simp [Region.binds] at k0
            subst k0
            simp [Region.binds] at k1
            subst k1
            simp [Region.binds] at k2
            subst k2
            simp [Region.binds] at k3
            subst k3
            simp [Region.binds] at k4
            subst k4
            simp [Region.binds] at k5
            subst k5
            simp [Region.binds] at k6
            subst k6
            simp [Region.binds] at k7
            subst k7
            simp [Region.binds] at k8
            subst k8
            simp [Region.binds] at k9
            subst k9
            simp [Region.binds] at ke
            subst ke
            simp [Region.binds] at kd
            subst kd
            simp [Region.binds] at kc
            subst kc
            simp [Region.binds] at ka
            subst ka
            simp [Region.binds] at kb
            subst kb
            obtain rfl:=h0 rfl
            obtain rfl:=h1 rfl
            obtain rfl:=h2 rfl
            obtain rfl:=h3 rfl
            obtain rfl:=h4 rfl
            obtain rfl:=h5 rfl
            obtain rfl:=h6 rfl
            obtain rfl:=h7 rfl
            obtain rfl:=h8 rfl
            obtain rfl:=h9 rfl
            obtain rfl:=hh rfl
            obtain rfl:=ha rfl
            obtain rfl:=hc rfl
            obtain rfl:=hg rfl
            obtain rfl:=hi rfl
            go_wp2
            go_ret
            exact ⟨rfl,w3.out rfl⟩
      | true=>
        cases fd with
        | false=>
          have HCT:Hid (Clash (K++L)):=qh (HPF.out (by decide))
          clear HPF
          go_upto_region 21 with fail
          have HCE:Hid (∀ w',Below wr.heap.size wr w'->w'.cell? ⟨q0,4,none⟩=some (.slice Ak K.length capk)/\w'.cell? ⟨q0,7,none⟩=some (.slice An L.length capn)):=qh (fun w' h=>⟨((HS0.out.below HXR.out).below h).cells.2.2.2.2.1,((HS0.out.below HXR.out).below h).cells.2.2.2.2.2.2.2⟩)
          have BD:Below wr.heap.size wr wr.drew:=(Below.refl _ _).drew
          have HWA:Hid (Below wr.heap.size wr (wr.alloc (.cells #[] 9)).drew):=qh ((Below.refl _ _).alloc (Nat.le_refl _) _).drew
          have HAP:Hid (∃ v1 w16 v2 w17,(Builtin.append_ #[29,29] 29 #[.slice (some ⟨wr.heap.size,0,none⟩) 0 0,.slice Ak K.length capk]).run Tryz.prog (wr.alloc (.cells #[] 9)).drew=.ok v1 w16/\
              (Builtin.append_ #[29,29] 29 #[v1,.slice An L.length capn]).run Tryz.prog w16=.ok v2 w17/\Below wr.heap.size wr w16/\Below wr.heap.size wr w17/\Calls Tryz.prog 25 #[.int .i64 1,v2] w17 fun r w''=>r=.returned (.bool true)/\Below w.heap.size w w''/\Below wr.heap.size wr w''):=qh (by
            obtain ⟨v1,w16,v2,w17,r1,r2,o3,bg,bf⟩:=two_lists (w:=wr.drew) ((HK0.out.below HXR.out).below BD).strs ((HL0.out.below HXR.out).below BD).strs (by have:=HFK.out.1; have:=HFL.out.1; omega)
            refine ⟨v1,w16,v2,w17,r1,r2,BD.trans bg,BD.trans bf,?_⟩
            have h1:=runlike_any (K++L) v2 w17 o3.strs (by rw [List.length_append]; have:=HFK.out.1; have:=HFL.out.1; omega) (fun y hy=>by
              rcases List.mem_append.1 hy with hy | hy
              · have:=HFK.out.2 y hy; omega
              · have:=HFL.out.2 y hy; omega)
            unfold UnlikePost at h1
            exact h1.mono fun r w'' ⟨ub,p1,p2,p3⟩=>⟨by rw [p1,p2 HCT.out],bchain HWR.out (bchain (BD.trans bf) p3),bchain (BD.trans bf) p3⟩)
          obtain ⟨v1,w16,v2,w17,r1,r2,bg,bf,hun⟩:=HAP.out
          have HR1:=qh r1
          have HR2:=qh r2
          have HUN:=qh hun
          have HW16:=qh bg
          have HW17:=qh bf
          clear r1 r2 hun bg bf
          refine region_inv (fun Lq aq w'=>∃ vl vj vm vn ve vc vh vf vb vd vg vi vk va v4:Value,aq=⟨#[Value.string { data:=List.toArray root },Value.agg #[Value.string { data:=List.toArray key },Value.string { data:=List.toArray f },Value.string { data:=List.toArray e },Value.int IntKind.i64 m,Value.slice Ak K.length capk,Value.slice Ai (List.length J) capi,Value.string { data:=List.toArray nx },Value.slice An L.length capn],undef,Value.pointer (some { block:=q0,off:=0 }),v4,Value.string { data:=List.toArray v },Value.bool true,Value.int IntKind.i64 0,Value.slice A5 (List.length J) cap5,Value.string { data:=List.toArray nx },Value.int IntKind.i64 0,Value.string { data:=List.toArray nx },Value.bool false,undef,u14,Value.bool true,Value.bool false,Value.pointer (some { block:=q0,off:=4 }),Value.slice Ak K.length capk,Value.bool true,Value.bool false,Value.bool false,Value.pointer (some { block:=q0,off:=5 }),Value.pointer (some { block:=q0,off:=7 }),Value.slice An L.length capn,Value.bool true,Value.bool false,Value.bool false,Value.bool false,Value.pointer (some { block:=q0,off:=5 }),Value.pointer (some { block:=q0,off:=5 }),Value.slice Ai (List.length J) capi,Value.int IntKind.i64 ↑(List.length J),Value.bool false,Value.bool false,Value.bool false,Value.string { data:=List.toArray root },Value.int IntKind.i64 ↑(List.length root),Value.bool false,Value.bool false,Value.tuple #[Value.string { data:=List.toArray v },Value.bool true,Value.int IntKind.i64 0],Value.string { data:=List.toArray root },Value.pointer (some { block:=q0,off:=0 }),Value.string { data:=List.toArray key },Value.pointer (some { block:=q0,off:=4 }),Value.slice Ak K.length capk,Value.tuple #[Value.string { data:=List.toArray v },Value.bool true,Value.int IntKind.i64 0],Value.string { data:=List.toArray v },Value.bool true,Value.int IntKind.i64 0,Value.tuple #[Value.slice A5 (List.length J) cap5,Value.string { data:=List.toArray nx },Value.int IntKind.i64 0],Value.string { data:=List.toArray root },Value.pointer (some { block:=q0,off:=1 }),Value.string { data:=List.toArray f },Value.pointer (some { block:=q0,off:=2 }),Value.string { data:=List.toArray e },Value.pointer (some { block:=q0,off:=3 }),Value.int IntKind.i64 m,Value.pointer (some { block:=q0,off:=5 }),Value.agg #[Value.slice Ai (List.length J) capi,Value.string { data:=List.toArray nx },Value.slice An L.length capn],Value.tuple #[Value.slice A5 (List.length J) cap5,Value.string { data:=List.toArray nx },Value.int IntKind.i64 0],Value.slice A5 (List.length J) cap5,Value.string { data:=List.toArray nx },Value.int IntKind.i64 0,Value.pointer (some { block:=q0,off:=2 }),Value.string { data:=List.toArray e },Value.string { data:=List.toArray nx },Value.bool true,Value.string { data:=List.toArray nx },Value.int IntKind.i64 0,Value.bool false,Value.bool false,Value.int IntKind.i64 0,Value.bool false,Value.bool false,Value.bool false,Value.pointer (some { block:=q0,off:=0 }),Value.string { data:=List.toArray key },Value.pointer (some { block:=q0,off:=1 }),Value.string { data:=List.toArray f },Value.bool false,Value.bool false,Value.bool false,Value.string { data:=List.toArray nx },Value.bool true,Value.bool true,Value.pointer (some { block:=q0,off:=0 }),Value.string { data:=List.toArray key },Value.string { data:=List.toArray nx },Value.bool false,Value.bool false,Value.bool false,Value.slice A5 (List.length J) cap5,Value.int IntKind.i64 ↑(List.length J),Value.int IntKind.i64 ↑(List.length J),Value.bool false,u96,u97,u98,u99,u100,u101,u102,u103,u104,u105,u106,u107,u108,u109,u110,u111,u112,u113,u114,u115,u116,u117,u118,u119,u120,vl,vj,vm,vn,ve,vc,vh,vf,vb,vd,vg,vi,vk,va],[]⟩/\Below wr.heap.size wr w'/\Hid (Lq[4]?≠some true->w'=wr.drew/\Lq[7]?≠some true/\Lq[11]?≠some true/\Lq[12]?≠some true)/\Hid (Lq[4]?=some true->Lq[7]?≠some true->w'=(wr.alloc (.cells #[] 9)).drew/\Lq[11]?≠some true/\Lq[12]?≠some true)/\Hid (Lq[7]?=some true->Lq[11]?≠some true->w'=w16/\Lq[12]?≠some true)/\Hid (Lq[11]?=some true->Lq[12]?≠some true->w'=w17)/\Hid (Lq[12]?=some true->Below w.heap.size w w')/\(Lq[0]?=some true->vl=.bool false)/\(Lq[1]?=some true->vj=.bool true)/\(Lq[2]?=some true->vm=.bool false)/\(Lq[3]?=some true->vn=.bool false)/\(Lq[4]?=some true->ve=.slice (some ⟨wr.heap.size,0,none⟩) 0 0)/\(Lq[5]?=some true->vc=.pointer (some ⟨q0,4,none⟩))/\(Lq[6]?=some true->vh=.slice Ak K.length capk)/\(Lq[7]?=some true->vf=v1)/\(Lq[8]?=some true->vb=.pointer (some ⟨q0,5,none⟩))/\(Lq[9]?=some true->vd=.pointer (some ⟨q0,7,none⟩))/\(Lq[10]?=some true->vg=.slice An L.length capn)/\(Lq[11]?=some true->vi=v2)/\(Lq[12]?=some true->vk=.bool true)/\(Lq[13]?=some true->va=.bool true)/\(Lq[14]?=some true->v4=.bool true)) (by rfl) ?_ ?_ ?_
          · exact ⟨undef,undef,undef,undef,undef,undef,undef,undef,undef,undef,undef,undef,undef,undef,u4,rfl,BD,qh (fun _=>⟨rfl,by simp,by simp,by simp⟩),qh (by simp),qh (by simp),qh (by simp),qh (by simp),by simp,by simp,by simp,by simp,by simp,by simp,by simp,by simp,by simp,by simp,by simp,by simp,by simp,by simp,by simp⟩
          · intro L a w1' hL hI j o ho hj K hK
            obtain ⟨vl,vj,vm,vn,ve,vc,vh,vf,vb,vd,vg,vi,vk,va,v4,rfl,hB,wz,w0,w1,w2,w3,h0,h1,h2,h3,h4,h5,h6,h7,h8,h9,hh,ha,hc,hg,hi⟩:=hI
            obtain ⟨b0,b1,b2,b3,b4,b5,b6,b7,b8,b9,bc,be,bd,ba,bb,rfl⟩:∃ b0 b1 b2 b3 b4 b5 b6 b7 b8 b9 bc be bd ba bb,L=[b0,b1,b2,b3,b4,b5,b6,b7,b8,b9,bc,be,bd,ba,bb]:=by
              match L,hL with
              | [b0,b1,b2,b3,b4,b5,b6,b7,b8,b9,bc,be,bd,ba,bb],_=>exact ⟨b0,b1,b2,b3,b4,b5,b6,b7,b8,b9,bc,be,bd,ba,bb,rfl⟩
            have hi2:=(List.mem_filter.1 hj).2
            clear hj hL
            obtain ⟨k0,k1⟩:=HCE.out _ hB
            rcases j with _ | _ | _ | _ | _ | _ | _ | _ | _ | _ | _ | _ | _ | _ | _ | j
            · obtain rfl:=Option.some.inj ho
              simp [Region.binds] at hi2
              clear ho
              rw [if_pos (by rfl)]
              go_simp
              exact hK _ _ ⟨_,vj,vm,vn,ve,vc,vh,vf,vb,vd,vg,vi,vk,va,v4,rfl,hB,wz,w0,w1,w2,w3,(fun _=>rfl),h1,h2,h3,h4,h5,h6,h7,h8,h9,hh,ha,hc,hg,hi⟩
            · obtain rfl:=Option.some.inj ho
              simp [Region.binds] at hi2
              clear ho
              rw [if_pos (by rfl)]
              go_simp
              exact hK _ _ ⟨vl,_,vm,vn,ve,vc,vh,vf,vb,vd,vg,vi,vk,va,v4,rfl,hB,wz,w0,w1,w2,w3,h0,(fun _=>rfl),h2,h3,h4,h5,h6,h7,h8,h9,hh,ha,hc,hg,hi⟩
            · obtain rfl:=Option.some.inj ho
              simp [Region.binds] at hi2
              obtain rfl:=h0 (by simp [hi2])
              obtain rfl:=h1 (by simp [hi2])
              clear ho
              rw [if_pos (by rfl)]
              go_simp
              exact hK _ _ ⟨_,_,_,vn,ve,vc,vh,vf,vb,vd,vg,vi,vk,va,v4,rfl,hB,wz,w0,w1,w2,w3,(fun _=>rfl),(fun _=>rfl),(fun _=>rfl),h3,h4,h5,h6,h7,h8,h9,hh,ha,hc,hg,hi⟩
            · obtain rfl:=Option.some.inj ho
              simp [Region.binds] at hi2
              obtain rfl:=h2 (by simp [hi2])
              clear ho
              rw [if_pos (by rfl)]
              go_simp
              exact hK _ _ ⟨vl,vj,_,_,ve,vc,vh,vf,vb,vd,vg,vi,vk,va,v4,rfl,hB,wz,w0,w1,w2,w3,h0,h1,(fun _=>rfl),(fun _=>rfl),h4,h5,h6,h7,h8,h9,hh,ha,hc,hg,hi⟩
            · obtain rfl:=Option.some.inj ho
              simp [Region.binds] at hi2
              obtain rfl:=h3 (by simp [hi2])
              obtain ⟨rfl,hn7,hn11,hn12⟩:=wz.out (by simp [hi2])
              clear ho
              rw [if_pos (by rfl)]
              go_simp
              exact hK _ _ ⟨vl,vj,vm,_,_,vc,vh,vf,vb,vd,vg,vi,vk,va,v4,rfl,HWA.out,qh (fun h=>absurd rfl h),qh (fun _ _=>⟨rfl,hn11,hn12⟩),qh (fun h _=>absurd h hn7),qh (fun h _=>absurd h hn11),qh (fun h=>absurd h hn12),h0,h1,h2,(fun _=>rfl),(fun _=>rfl),h5,h6,h7,h8,h9,hh,ha,hc,hg,hi⟩
            · obtain rfl:=Option.some.inj ho
              simp [Region.binds] at hi2
              obtain rfl:=h3 (by simp [hi2])
              clear ho
              rw [if_pos (by rfl)]
              go_simp
              exact hK _ _ ⟨vl,vj,vm,_,ve,_,vh,vf,vb,vd,vg,vi,vk,va,v4,rfl,hB,wz,w0,w1,w2,w3,h0,h1,h2,(fun _=>rfl),h4,(fun _=>rfl),h6,h7,h8,h9,hh,ha,hc,hg,hi⟩
            · obtain rfl:=Option.some.inj ho
              simp [Region.binds] at hi2
              obtain rfl:=h5 (by simp [hi2])
              obtain rfl:=h3 (by simp [hi2])
              clear ho
              rw [if_pos (by rfl)]
              go_simp
              exact hK _ _ ⟨vl,vj,vm,_,ve,_,_,vf,vb,vd,vg,vi,vk,va,v4,rfl,hB,wz,w0,w1,w2,w3,h0,h1,h2,(fun _=>rfl),h4,(fun _=>rfl),(fun _=>rfl),h7,h8,h9,hh,ha,hc,hg,hi⟩
            · obtain rfl:=Option.some.inj ho
              simp [Region.binds] at hi2
              obtain rfl:=h4 (by simp [hi2])
              obtain rfl:=h6 (by simp [hi2])
              obtain rfl:=h3 (by simp [hi2])
              obtain ⟨rfl,hn11,hn12⟩:=w0.out (by simp [hi2]) (by simp [hi2])
              clear ho
              refine step_append_run_w (by rfl) (.tmp 125) (.tmp 127) _ rfl _ _ _ ?_ ?_ HR1.out ?_
              · first | rfl | (focus (simp [Act.eval]; done))
              · first | rfl | (focus (simp [Act.eval]; done))
              exact hK _ _ ⟨vl,vj,vm,_,_,vc,_,_,vb,vd,vg,vi,vk,va,v4,rfl,HW16.out,qh (fun h=>absurd (by simp [hi2]) h),qh (fun _ h=>absurd rfl h),qh (fun _ _=>⟨rfl,hn12⟩),qh (fun h _=>absurd h hn11),qh (fun h=>absurd h hn12),h0,h1,h2,(fun _=>rfl),(fun _=>rfl),h5,(fun _=>rfl),(fun _=>rfl),h8,h9,hh,ha,hc,hg,hi⟩
            · obtain rfl:=Option.some.inj ho
              simp [Region.binds] at hi2
              obtain rfl:=h3 (by simp [hi2])
              clear ho
              rw [if_pos (by rfl)]
              go_simp
              exact hK _ _ ⟨vl,vj,vm,_,ve,vc,vh,vf,_,vd,vg,vi,vk,va,v4,rfl,hB,wz,w0,w1,w2,w3,h0,h1,h2,(fun _=>rfl),h4,h5,h6,h7,(fun _=>rfl),h9,hh,ha,hc,hg,hi⟩
            · obtain rfl:=Option.some.inj ho
              simp [Region.binds] at hi2
              obtain rfl:=h8 (by simp [hi2])
              obtain rfl:=h3 (by simp [hi2])
              clear ho
              rw [if_pos (by rfl)]
              go_simp
              exact hK _ _ ⟨vl,vj,vm,_,ve,vc,vh,vf,_,_,vg,vi,vk,va,v4,rfl,hB,wz,w0,w1,w2,w3,h0,h1,h2,(fun _=>rfl),h4,h5,h6,h7,(fun _=>rfl),(fun _=>rfl),hh,ha,hc,hg,hi⟩
            · obtain rfl:=Option.some.inj ho
              simp [Region.binds] at hi2
              obtain rfl:=h9 (by simp [hi2])
              obtain rfl:=h3 (by simp [hi2])
              clear ho
              rw [if_pos (by rfl)]
              go_simp
              exact hK _ _ ⟨vl,vj,vm,_,ve,vc,vh,vf,vb,_,_,vi,vk,va,v4,rfl,hB,wz,w0,w1,w2,w3,h0,h1,h2,(fun _=>rfl),h4,h5,h6,h7,h8,(fun _=>rfl),(fun _=>rfl),ha,hc,hg,hi⟩
            · obtain rfl:=Option.some.inj ho
              simp [Region.binds] at hi2
              obtain rfl:=h7 (by simp [hi2])
              obtain rfl:=hh (by simp [hi2])
              obtain rfl:=h3 (by simp [hi2])
              obtain ⟨rfl,hn12⟩:=w1.out (by simp [hi2]) (by simp [hi2])
              clear ho
              refine step_append_run_w (by rfl) (.tmp 128) (.tmp 131) _ rfl _ _ _ ?_ ?_ HR2.out ?_
              · first | rfl | (focus (simp [Act.eval]; done))
              · first | rfl | (focus (simp [Act.eval]; done))
              exact hK _ _ ⟨vl,vj,vm,_,ve,vc,vh,_,vb,vd,_,_,vk,va,v4,rfl,HW17.out,qh (fun h=>absurd (by simp [hi2]) (wz.out h).2.1),qh (fun h1 h2=>absurd (by simp [hi2]) h2),qh (fun _ h=>absurd rfl h),qh (fun _ _=>rfl),qh (fun h=>absurd h hn12),h0,h1,h2,(fun _=>rfl),h4,h5,h6,(fun _=>rfl),h8,h9,(fun _=>rfl),(fun _=>rfl),hc,hg,hi⟩
            · obtain rfl:=Option.some.inj ho
              simp [Region.binds] at hi2
              obtain rfl:=ha (by simp [hi2])
              obtain rfl:=h3 (by simp [hi2])
              obtain rfl:=w2.out (by simp [hi2]) (by simp [hi2])
              clear ho
              refine step_call2_w (by rfl) 25 (.const (.int .i64 1)) (.tmp 132) _ rfl (fun _ _=>rfl) _ HUN.out ?_
              rintro r w18 ⟨rfl,hlast,hB2⟩
              refine ⟨_,rfl,?_⟩
              exact hK _ _ ⟨vl,vj,vm,_,ve,vc,vh,vf,vb,vd,vg,_,_,va,v4,rfl,hB2,qh (fun h=>absurd (by simp [hi2]) (wz.out h).2.2.1),qh (fun h1 h2=>absurd (by simp [hi2]) (w0.out h1 h2).2.1),qh (fun h1 h2=>absurd (by simp [hi2]) h2),qh (fun _ h=>absurd rfl h),qh (fun _=>hlast),h0,h1,h2,(fun _=>rfl),h4,h5,h6,h7,h8,h9,hh,(fun _=>rfl),(fun _=>rfl),hg,hi⟩
            · obtain rfl:=Option.some.inj ho
              simp [Region.binds] at hi2
              obtain rfl:=h3 (by simp [hi2])
              obtain rfl:=hc (by simp [hi2])
              clear ho
              rw [if_pos (by rfl)]
              go_simp
              exact hK _ _ ⟨vl,vj,vm,_,ve,vc,vh,vf,vb,vd,vg,vi,_,_,v4,rfl,hB,wz,w0,w1,w2,w3,h0,h1,h2,(fun _=>rfl),h4,h5,h6,h7,h8,h9,hh,ha,(fun _=>rfl),(fun _=>rfl),hi⟩
            · obtain rfl:=Option.some.inj ho
              simp [Region.binds] at hi2
              obtain rfl:=h0 (by simp [hi2])
              obtain rfl:=h1 (by simp [hi2])
              obtain rfl:=h2 (by simp [hi2])
              obtain rfl:=h3 (by simp [hi2])
              obtain rfl:=h4 (by simp [hi2])
              obtain rfl:=h5 (by simp [hi2])
              obtain rfl:=h6 (by simp [hi2])
              obtain rfl:=h7 (by simp [hi2])
              obtain rfl:=h8 (by simp [hi2])
              obtain rfl:=h9 (by simp [hi2])
              obtain rfl:=hh (by simp [hi2])
              obtain rfl:=ha (by simp [hi2])
              obtain rfl:=hc (by simp [hi2])
              obtain rfl:=hg (by simp [hi2])
              clear ho
              rw [if_pos (by rfl)]
              go_simp
              exact hK _ _ ⟨_,_,_,_,_,_,_,_,_,_,_,_,_,_,_,rfl,hB,wz,w0,w1,w2,w3,(fun _=>rfl),(fun _=>rfl),(fun _=>rfl),(fun _=>rfl),(fun _=>rfl),(fun _=>rfl),(fun _=>rfl),(fun _=>rfl),(fun _=>rfl),(fun _=>rfl),(fun _=>rfl),(fun _=>rfl),(fun _=>rfl),(fun _=>rfl),(fun _=>rfl)⟩
            · simp at ho
          · intro L a w2 hL hr hI
            obtain ⟨vl,vj,vm,vn,ve,vc,vh,vf,vb,vd,vg,vi,vk,va,v4,rfl,hB,wz,w0,w1,w2,w3,h0,h1,h2,h3,h4,h5,h6,h7,h8,h9,hh,ha,hc,hg,hi⟩:=hI
            obtain ⟨b0,b1,b2,b3,b4,b5,b6,b7,b8,b9,bc,be,bd,ba,bb,rfl⟩:∃ b0 b1 b2 b3 b4 b5 b6 b7 b8 b9 bc be bd ba bb,L=[b0,b1,b2,b3,b4,b5,b6,b7,b8,b9,bc,be,bd,ba,bb]:=by
              match L,hL with
              | [b0,b1,b2,b3,b4,b5,b6,b7,b8,b9,bc,be,bd,ba,bb],_=>exact ⟨b0,b1,b2,b3,b4,b5,b6,b7,b8,b9,bc,be,bd,ba,bb,rfl⟩
            have hr2:=List.filter_eq_nil_iff.1 hr
            clear hr hL
            have k0:=hr2 0 (by simp)
            have k1:=hr2 1 (by simp)
            have k2:=hr2 2 (by simp)
            have k3:=hr2 3 (by simp)
            have k4:=hr2 4 (by simp)
            have k5:=hr2 5 (by simp)
            have k6:=hr2 6 (by simp)
            have k7:=hr2 7 (by simp)
            have k8:=hr2 8 (by simp)
            have k9:=hr2 9 (by simp)
            have ke:=hr2 10 (by simp)
            have kd:=hr2 11 (by simp)
            have kc:=hr2 12 (by simp)
            have ka:=hr2 13 (by simp)
            have kb:=hr2 14 (by simp)
            clear hr2
            simp [Region.binds] at k0
            subst k0
            simp [Region.binds] at k1
            subst k1
            simp [Region.binds] at k2
            subst k2
            simp [Region.binds] at k3
            subst k3
            simp [Region.binds] at k4
            subst k4
            simp [Region.binds] at k5
            subst k5
            simp [Region.binds] at k6
            subst k6
            simp [Region.binds] at k7
            subst k7
            simp [Region.binds] at k8
            subst k8
            simp [Region.binds] at k9
            subst k9
            simp [Region.binds] at ke
            subst ke
            simp [Region.binds] at kd
            subst kd
            simp [Region.binds] at kc
            subst kc
            simp [Region.binds] at ka
            subst ka
            simp [Region.binds] at kb
            subst kb
            obtain rfl:=h0 rfl
            obtain rfl:=h1 rfl
            obtain rfl:=h2 rfl
            obtain rfl:=h3 rfl
            obtain rfl:=h4 rfl
            obtain rfl:=h5 rfl
            obtain rfl:=h6 rfl
            obtain rfl:=h7 rfl
            obtain rfl:=h8 rfl
            obtain rfl:=h9 rfl
            obtain rfl:=hh rfl
            obtain rfl:=ha rfl
            obtain rfl:=hc rfl
            obtain rfl:=hg rfl
            obtain rfl:=hi rfl
            go_wp2
            go_ret
            exact ⟨rfl,w3.out rfl⟩
        | true=>
          clear HPF
          go_upto_region 21 with fail
          have BD:Below wr.heap.size wr wr.drew:=(Below.refl _ _).drew
          refine region_inv (fun Lq aq w'=>∃ vl vj vm vn ve vc vh vf vb vd vg vi vk va v4:Value,aq=⟨#[Value.string { data:=List.toArray root },Value.agg #[Value.string { data:=List.toArray key },Value.string { data:=List.toArray f },Value.string { data:=List.toArray e },Value.int IntKind.i64 m,Value.slice Ak K.length capk,Value.slice Ai (List.length J) capi,Value.string { data:=List.toArray nx },Value.slice An L.length capn],undef,Value.pointer (some { block:=q0,off:=0 }),v4,Value.string { data:=List.toArray v },Value.bool true,Value.int IntKind.i64 0,Value.slice A5 (List.length J) cap5,Value.string { data:=List.toArray nx },Value.int IntKind.i64 0,Value.string { data:=List.toArray nx },Value.bool true,undef,u14,Value.bool true,Value.bool false,Value.pointer (some { block:=q0,off:=4 }),Value.slice Ak K.length capk,Value.bool true,Value.bool false,Value.bool false,Value.pointer (some { block:=q0,off:=5 }),Value.pointer (some { block:=q0,off:=7 }),Value.slice An L.length capn,Value.bool true,Value.bool false,Value.bool false,Value.bool false,Value.pointer (some { block:=q0,off:=5 }),Value.pointer (some { block:=q0,off:=5 }),Value.slice Ai (List.length J) capi,Value.int IntKind.i64 ↑(List.length J),Value.bool false,Value.bool false,Value.bool false,Value.string { data:=List.toArray root },Value.int IntKind.i64 ↑(List.length root),Value.bool false,Value.bool false,Value.tuple #[Value.string { data:=List.toArray v },Value.bool true,Value.int IntKind.i64 0],Value.string { data:=List.toArray root },Value.pointer (some { block:=q0,off:=0 }),Value.string { data:=List.toArray key },Value.pointer (some { block:=q0,off:=4 }),Value.slice Ak K.length capk,Value.tuple #[Value.string { data:=List.toArray v },Value.bool true,Value.int IntKind.i64 0],Value.string { data:=List.toArray v },Value.bool true,Value.int IntKind.i64 0,Value.tuple #[Value.slice A5 (List.length J) cap5,Value.string { data:=List.toArray nx },Value.int IntKind.i64 0],Value.string { data:=List.toArray root },Value.pointer (some { block:=q0,off:=1 }),Value.string { data:=List.toArray f },Value.pointer (some { block:=q0,off:=2 }),Value.string { data:=List.toArray e },Value.pointer (some { block:=q0,off:=3 }),Value.int IntKind.i64 m,Value.pointer (some { block:=q0,off:=5 }),Value.agg #[Value.slice Ai (List.length J) capi,Value.string { data:=List.toArray nx },Value.slice An L.length capn],Value.tuple #[Value.slice A5 (List.length J) cap5,Value.string { data:=List.toArray nx },Value.int IntKind.i64 0],Value.slice A5 (List.length J) cap5,Value.string { data:=List.toArray nx },Value.int IntKind.i64 0,Value.pointer (some { block:=q0,off:=2 }),Value.string { data:=List.toArray e },Value.string { data:=List.toArray nx },Value.bool true,Value.string { data:=List.toArray nx },Value.int IntKind.i64 0,Value.bool false,Value.bool false,Value.int IntKind.i64 0,Value.bool false,Value.bool false,Value.bool false,Value.pointer (some { block:=q0,off:=0 }),Value.string { data:=List.toArray key },Value.pointer (some { block:=q0,off:=1 }),Value.string { data:=List.toArray f },Value.bool false,Value.bool false,Value.bool false,Value.string { data:=List.toArray nx },Value.bool true,Value.bool true,Value.pointer (some { block:=q0,off:=0 }),Value.string { data:=List.toArray key },Value.string { data:=List.toArray nx },Value.bool false,Value.bool false,Value.bool false,Value.slice A5 (List.length J) cap5,Value.int IntKind.i64 ↑(List.length J),Value.int IntKind.i64 ↑(List.length J),Value.bool false,u96,u97,u98,u99,u100,u101,u102,u103,u104,u105,u106,u107,u108,u109,u110,u111,u112,u113,u114,u115,u116,u117,u118,u119,u120,vl,vj,vm,vn,ve,vc,vh,vf,vb,vd,vg,vi,vk,va],[]⟩/\Below wr.heap.size wr w'/\(Lq[0]?=some true->vl=.bool true)/\(Lq[1]?=some true->vj=.bool true)/\(Lq[2]?=some true->vm=.bool true)/\(Lq[3]?=some true->vn=.bool true)/\(Lq[4]?=some true->ve=undef)/\(Lq[5]?=some true->vc=undef)/\(Lq[6]?=some true->vh=undef)/\(Lq[7]?=some true->vf=undef)/\(Lq[8]?=some true->vb=undef)/\(Lq[9]?=some true->vd=undef)/\(Lq[10]?=some true->vg=undef)/\(Lq[11]?=some true->vi=undef)/\(Lq[12]?=some true->vk=undef)/\(Lq[13]?=some true->va=.bool true)/\(Lq[14]?=some true->v4=.bool true)) (by rfl) ?_ ?_ ?_
          · exact ⟨undef,undef,undef,undef,undef,undef,undef,undef,undef,undef,undef,undef,undef,undef,u4,rfl,BD,by simp,by simp,by simp,by simp,by simp,by simp,by simp,by simp,by simp,by simp,by simp,by simp,by simp,by simp,by simp⟩
          · intro L a w1' hL hI j o ho hj K hK
            obtain ⟨vl,vj,vm,vn,ve,vc,vh,vf,vb,vd,vg,vi,vk,va,v4,rfl,hB,h0,h1,h2,h3,h4,h5,h6,h7,h8,h9,hh,ha,hc,hg,hi⟩:=hI
            obtain ⟨b0,b1,b2,b3,b4,b5,b6,b7,b8,b9,bc,be,bd,ba,bb,rfl⟩:∃ b0 b1 b2 b3 b4 b5 b6 b7 b8 b9 bc be bd ba bb,L=[b0,b1,b2,b3,b4,b5,b6,b7,b8,b9,bc,be,bd,ba,bb]:=by
              match L,hL with
              | [b0,b1,b2,b3,b4,b5,b6,b7,b8,b9,bc,be,bd,ba,bb],_=>exact ⟨b0,b1,b2,b3,b4,b5,b6,b7,b8,b9,bc,be,bd,ba,bb,rfl⟩
            have hi2:=(List.mem_filter.1 hj).2
            clear hj hL
            rcases j with _ | _ | _ | _ | _ | _ | _ | _ | _ | _ | _ | _ | _ | _ | _ | j
            · obtain rfl:=Option.some.inj ho
              simp [Region.binds] at hi2
              clear ho
              rw [if_pos (by rfl)]
              go_simp
              exact hK _ _ ⟨_,vj,vm,vn,ve,vc,vh,vf,vb,vd,vg,vi,vk,va,v4,rfl,hB,(fun _=>rfl),h1,h2,h3,h4,h5,h6,h7,h8,h9,hh,ha,hc,hg,hi⟩
            · obtain rfl:=Option.some.inj ho
              simp [Region.binds] at hi2
              clear ho
              rw [if_pos (by rfl)]
              go_simp
              exact hK _ _ ⟨vl,_,vm,vn,ve,vc,vh,vf,vb,vd,vg,vi,vk,va,v4,rfl,hB,h0,(fun _=>rfl),h2,h3,h4,h5,h6,h7,h8,h9,hh,ha,hc,hg,hi⟩
            · obtain rfl:=Option.some.inj ho
              simp [Region.binds] at hi2
              obtain rfl:=h0 (by simp [hi2])
              obtain rfl:=h1 (by simp [hi2])
              clear ho
              rw [if_pos (by rfl)]
              go_simp
              exact hK _ _ ⟨_,_,_,vn,ve,vc,vh,vf,vb,vd,vg,vi,vk,va,v4,rfl,hB,(fun _=>rfl),(fun _=>rfl),(fun _=>rfl),h3,h4,h5,h6,h7,h8,h9,hh,ha,hc,hg,hi⟩
            · obtain rfl:=Option.some.inj ho
              simp [Region.binds] at hi2
              obtain rfl:=h2 (by simp [hi2])
              clear ho
              rw [if_pos (by rfl)]
              go_simp
              exact hK _ _ ⟨vl,vj,_,_,ve,vc,vh,vf,vb,vd,vg,vi,vk,va,v4,rfl,hB,h0,h1,(fun _=>rfl),(fun _=>rfl),h4,h5,h6,h7,h8,h9,hh,ha,hc,hg,hi⟩
            · obtain rfl:=Option.some.inj ho
              simp [Region.binds] at hi2
              obtain rfl:=h3 (by simp [hi2])
              clear ho
              rw [if_neg (by rw [show Region.wanted _ _=false from rfl]; decide)]
              exact hK _ _ ⟨vl,vj,vm,_,_,vc,vh,vf,vb,vd,vg,vi,vk,va,v4,rfl,hB,h0,h1,h2,(fun _=>rfl),(fun _=>rfl),h5,h6,h7,h8,h9,hh,ha,hc,hg,hi⟩
            · obtain rfl:=Option.some.inj ho
              simp [Region.binds] at hi2
              obtain rfl:=h3 (by simp [hi2])
              clear ho
              rw [if_neg (by rw [show Region.wanted _ _=false from rfl]; decide)]
              exact hK _ _ ⟨vl,vj,vm,_,ve,_,vh,vf,vb,vd,vg,vi,vk,va,v4,rfl,hB,h0,h1,h2,(fun _=>rfl),h4,(fun _=>rfl),h6,h7,h8,h9,hh,ha,hc,hg,hi⟩
            · obtain rfl:=Option.some.inj ho
              simp [Region.binds] at hi2
              obtain rfl:=h3 (by simp [hi2])
              clear ho
              rw [if_neg (by rw [show Region.wanted _ _=false from rfl]; decide)]
              exact hK _ _ ⟨vl,vj,vm,_,ve,vc,_,vf,vb,vd,vg,vi,vk,va,v4,rfl,hB,h0,h1,h2,(fun _=>rfl),h4,h5,(fun _=>rfl),h7,h8,h9,hh,ha,hc,hg,hi⟩
            · obtain rfl:=Option.some.inj ho
              simp [Region.binds] at hi2
              obtain rfl:=h3 (by simp [hi2])
              clear ho
              rw [if_neg (by rw [show Region.wanted _ _=false from rfl]; decide)]
              exact hK _ _ ⟨vl,vj,vm,_,ve,vc,vh,_,vb,vd,vg,vi,vk,va,v4,rfl,hB,h0,h1,h2,(fun _=>rfl),h4,h5,h6,(fun _=>rfl),h8,h9,hh,ha,hc,hg,hi⟩
            · obtain rfl:=Option.some.inj ho
              simp [Region.binds] at hi2
              obtain rfl:=h3 (by simp [hi2])
              clear ho
              rw [if_neg (by rw [show Region.wanted _ _=false from rfl]; decide)]
              exact hK _ _ ⟨vl,vj,vm,_,ve,vc,vh,vf,_,vd,vg,vi,vk,va,v4,rfl,hB,h0,h1,h2,(fun _=>rfl),h4,h5,h6,h7,(fun _=>rfl),h9,hh,ha,hc,hg,hi⟩
            · obtain rfl:=Option.some.inj ho
              simp [Region.binds] at hi2
              obtain rfl:=h3 (by simp [hi2])
              clear ho
              rw [if_neg (by rw [show Region.wanted _ _=false from rfl]; decide)]
              exact hK _ _ ⟨vl,vj,vm,_,ve,vc,vh,vf,vb,_,vg,vi,vk,va,v4,rfl,hB,h0,h1,h2,(fun _=>rfl),h4,h5,h6,h7,h8,(fun _=>rfl),hh,ha,hc,hg,hi⟩
            · obtain rfl:=Option.some.inj ho
              simp [Region.binds] at hi2
              obtain rfl:=h3 (by simp [hi2])
              clear ho
              rw [if_neg (by rw [show Region.wanted _ _=false from rfl]; decide)]
              exact hK _ _ ⟨vl,vj,vm,_,ve,vc,vh,vf,vb,vd,_,vi,vk,va,v4,rfl,hB,h0,h1,h2,(fun _=>rfl),h4,h5,h6,h7,h8,h9,(fun _=>rfl),ha,hc,hg,hi⟩
            · obtain rfl:=Option.some.inj ho
              simp [Region.binds] at hi2
              obtain rfl:=h3 (by simp [hi2])
              clear ho
              rw [if_neg (by rw [show Region.wanted _ _=false from rfl]; decide)]
              exact hK _ _ ⟨vl,vj,vm,_,ve,vc,vh,vf,vb,vd,vg,_,vk,va,v4,rfl,hB,h0,h1,h2,(fun _=>rfl),h4,h5,h6,h7,h8,h9,hh,(fun _=>rfl),hc,hg,hi⟩
            · obtain rfl:=Option.some.inj ho
              simp [Region.binds] at hi2
              obtain rfl:=h3 (by simp [hi2])
              clear ho
              rw [if_neg (by rw [show Region.wanted _ _=false from rfl]; decide)]
              exact hK _ _ ⟨vl,vj,vm,_,ve,vc,vh,vf,vb,vd,vg,vi,_,va,v4,rfl,hB,h0,h1,h2,(fun _=>rfl),h4,h5,h6,h7,h8,h9,hh,ha,(fun _=>rfl),hg,hi⟩
            · obtain rfl:=Option.some.inj ho
              simp [Region.binds] at hi2
              obtain rfl:=h3 (by simp [hi2])
              obtain rfl:=hc (by simp [hi2])
              clear ho
              rw [if_pos (by rfl)]
              go_simp
              exact hK _ _ ⟨vl,vj,vm,_,ve,vc,vh,vf,vb,vd,vg,vi,_,_,v4,rfl,hB,h0,h1,h2,(fun _=>rfl),h4,h5,h6,h7,h8,h9,hh,ha,(fun _=>rfl),(fun _=>rfl),hi⟩
            · obtain rfl:=Option.some.inj ho
              simp [Region.binds] at hi2
              obtain rfl:=h0 (by simp [hi2])
              obtain rfl:=h1 (by simp [hi2])
              obtain rfl:=h2 (by simp [hi2])
              obtain rfl:=h3 (by simp [hi2])
              obtain rfl:=h4 (by simp [hi2])
              obtain rfl:=h5 (by simp [hi2])
              obtain rfl:=h6 (by simp [hi2])
              obtain rfl:=h7 (by simp [hi2])
              obtain rfl:=h8 (by simp [hi2])
              obtain rfl:=h9 (by simp [hi2])
              obtain rfl:=hh (by simp [hi2])
              obtain rfl:=ha (by simp [hi2])
              obtain rfl:=hc (by simp [hi2])
              obtain rfl:=hg (by simp [hi2])
              clear ho
              rw [if_pos (by rfl)]
              go_simp
              exact hK _ _ ⟨_,_,_,_,_,_,_,_,_,_,_,_,_,_,_,rfl,hB,(fun _=>rfl),(fun _=>rfl),(fun _=>rfl),(fun _=>rfl),(fun _=>rfl),(fun _=>rfl),(fun _=>rfl),(fun _=>rfl),(fun _=>rfl),(fun _=>rfl),(fun _=>rfl),(fun _=>rfl),(fun _=>rfl),(fun _=>rfl),(fun _=>rfl)⟩
            · simp at ho
          · intro L a w2 hL hr hI
            obtain ⟨vl,vj,vm,vn,ve,vc,vh,vf,vb,vd,vg,vi,vk,va,v4,rfl,hB,h0,h1,h2,h3,h4,h5,h6,h7,h8,h9,hh,ha,hc,hg,hi⟩:=hI
            obtain ⟨b0,b1,b2,b3,b4,b5,b6,b7,b8,b9,bc,be,bd,ba,bb,rfl⟩:∃ b0 b1 b2 b3 b4 b5 b6 b7 b8 b9 bc be bd ba bb,L=[b0,b1,b2,b3,b4,b5,b6,b7,b8,b9,bc,be,bd,ba,bb]:=by
              match L,hL with
              | [b0,b1,b2,b3,b4,b5,b6,b7,b8,b9,bc,be,bd,ba,bb],_=>exact ⟨b0,b1,b2,b3,b4,b5,b6,b7,b8,b9,bc,be,bd,ba,bb,rfl⟩
            have hr2:=List.filter_eq_nil_iff.1 hr
            clear hr hL
            have k0:=hr2 0 (by simp)
            have k1:=hr2 1 (by simp)
            have k2:=hr2 2 (by simp)
            have k3:=hr2 3 (by simp)
            have k4:=hr2 4 (by simp)
            have k5:=hr2 5 (by simp)
            have k6:=hr2 6 (by simp)
            have k7:=hr2 7 (by simp)
            have k8:=hr2 8 (by simp)
            have k9:=hr2 9 (by simp)
            have ke:=hr2 10 (by simp)
            have kd:=hr2 11 (by simp)
            have kc:=hr2 12 (by simp)
            have ka:=hr2 13 (by simp)
            have kb:=hr2 14 (by simp)
            clear hr2
            simp [Region.binds] at k0
            subst k0
            simp [Region.binds] at k1
            subst k1
            simp [Region.binds] at k2
            subst k2
            simp [Region.binds] at k3
            subst k3
            simp [Region.binds] at k4
            subst k4
            simp [Region.binds] at k5
            subst k5
            simp [Region.binds] at k6
            subst k6
            simp [Region.binds] at k7
            subst k7
            simp [Region.binds] at k8
            subst k8
            simp [Region.binds] at k9
            subst k9
            simp [Region.binds] at ke
            subst ke
            simp [Region.binds] at kd
            subst kd
            simp [Region.binds] at kc
            subst kc
            simp [Region.binds] at ka
            subst ka
            simp [Region.binds] at kb
            subst kb
            obtain rfl:=h0 rfl
            obtain rfl:=h1 rfl
            obtain rfl:=h2 rfl
            obtain rfl:=h3 rfl
            obtain rfl:=h4 rfl
            obtain rfl:=h5 rfl
            obtain rfl:=h6 rfl
            obtain rfl:=h7 rfl
            obtain rfl:=h8 rfl
            obtain rfl:=h9 rfl
            obtain rfl:=hh rfl
            obtain rfl:=ha rfl
            obtain rfl:=hc rfl
            obtain rfl:=hg rfl
            obtain rfl:=hi rfl
            go_wp2
            go_ret
            exact ⟨rfl,bchain HWR.out hB⟩
end
end Go.Proofs.YtaficmboooaknaaGreatDoor
