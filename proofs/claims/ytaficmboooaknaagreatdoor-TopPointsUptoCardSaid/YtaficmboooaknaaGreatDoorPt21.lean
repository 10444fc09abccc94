import Derived.Test.YtaficmboooaknaaGreatDoorPt20
set_option maxRecDepth 100000
set_option maxHeartbeats 16000000
namespace Go.Proofs.YtaficmboooaknaaGreatDoor
section
open Go.RowKit
open Sto (T St)
theorem spgoes_C (zi:Value) (I:St) (x:T) (zn:Value) (e:T) (m:Int) (w:World) (hi:ItIn w zi I) (hm:1<=m/\m<=16) (hl:(I.length:Int)=m) (hx:x≠Scn.behind (I.getD (m.toNat - 1) ([],[])).1):
    Calls Tryz.prog 43 #[.agg #[zi,.string ⟨x.toArray⟩,zn],.string ⟨e.toArray⟩,.int .i64 m] w fun r w'=>r=.returned (.bool (Spn.goesP I x e m))/\Below w.heap.size w w':=by
  obtain ⟨A,cap,rfl,-,-⟩:=hi.form
  obtain ⟨w0,hw0⟩:∃ w0,w.alloc (.cells #[.slice A I.length cap,.string ⟨x.toArray⟩,zn] 31)=w0:=⟨_,rfl⟩
  have hb0:Below w.heap.size w w0:=by rw [← hw0]; exact (Below.refl _ w).alloc (Nat.le_refl _) _
  have ra:w0.heap[w.heap.size]?=some (.cells #[.slice A I.length cap,.string ⟨x.toArray⟩,zn] 31 (0,0)):=by rw [← hw0]; exact heap_alloc_new w _
  have HP:Hid (∀ w',Below w0.heap.size w0 w'->w'.cell? ⟨w.heap.size,0,none⟩=some (.slice A I.length cap)/\w'.cell? ⟨w.heap.size,1,none⟩=some (.string ⟨x.toArray⟩)):=qh (fun w' h=>by
    have r:=(h.block _ (lt_of_heap ra)).trans ra
    exact ⟨by rw [cell_of_row _ _ 0 _ _ _ r]; rfl,by rw [cell_of_row _ _ 1 _ _ _ r]; rfl⟩)
  have HB:=qh hb0
  have hi0:=RowsIn.below hi hb0
  unfold Spn.goesP
  obtain ⟨n,hn⟩:∃ n,I.length=n+1:=⟨I.length - 1,by omega⟩
  have hmn:m=(n:Int)+1:=by omega
  subst hmn
  have hgd:I.getD (((n:Int)+1).toNat - 1) ([],[])=I[n]'(by omega):=by
    rw [show ((n:Int)+1).toNat - 1=n from by omega,List.getD_eq_getElem?_getD,List.getElem?_eq_getElem (by omega),Option.getD_some]
  rw [decide_eq_true hl,Bool.true_and,hgd]
  rw [hgd] at hx
  obtain ⟨b,o,rfl,n0,n1⟩:=ItIn.at hi0 n (by omega)
  obtain ⟨⟨kx,vx⟩,hkx⟩:∃ y,I[n]'(by omega)=y:=⟨_,rfl⟩
  rw [hkx] at n0 n1 hx ⊢
  dsimp only at n0 n1 hx ⊢
  have HIT:Hid (∀ w',Below w0.heap.size w0 w'->w'.cell? ⟨b,o+n*2,none⟩=some (.string ⟨kx.toArray⟩)):=qh (fun w' h=>(h.cell (World.block_lt_of_cell? _ _ n0)).trans n0)
  obtain ⟨bk,hbk⟩:∃ bk,Scn.behind kx=bk:=⟨_,rfl⟩
  have HBH:Hid (∀ w',Below w0.heap.size w0 w'->Calls Tryz.prog 65 #[.string ⟨kx.toArray⟩] w' fun r w''=>r=.returned (.string ⟨bk.toArray⟩)/\Below w0.heap.size w0 w''):=qh (fun w' h=>by
    have h1:=behind_all kx w'
    rw [hbk] at h1
    exact h1.mono fun r w'' ⟨q1,q2⟩=>⟨q1,bchain h q2⟩)
  rw [hbk] at hx ⊢
  have HS:Hid (∀ w',Below w0.heap.size w0 w'->Below w0.heap.size w0 w'/\w'.cell? ⟨w.heap.size,0,none⟩=some (.slice (some ⟨b,o,none⟩) (n+1) cap)/\w'.cell? ⟨w.heap.size,1,none⟩=some (.string ⟨x.toArray⟩)/\w'.cell? ⟨b,o+n*2,none⟩=some (.string ⟨kx.toArray⟩)):=qh (fun w' h=>
    ⟨h,by rw [← hn]; exact (HP.out w' h).1,(HP.out w' h).2,HIT.out w' h⟩)
  rw [hn] at hw0 ⊢
  have BD:Below w0.heap.size w0 w0.drew:=(Below.refl _ _).drew
  have y0:(0:Int)<=(n:Int):=by omega
  have y1:(n:Int)<(n:Int)+1:=by omega
  have y2:(n:Int)<=100:=by omega
  have y3:IntKind.i64.wrap ((n:Int)+1 - 1)=(n:Int):=by unfold IntKind.wrap; simp [IntKind.bits,IntKind.signed]; omega
  have y4:IntKind.i64.wrap (n:Int)=(n:Int):=by unfold IntKind.wrap; simp [IntKind.bits,IntKind.signed]; omega
  clear hl hi hb0 ra hi0 hgd n0 n1 hkx hbk hn hm HP HIT
  rw [decide_eq_false hx,Bool.false_and]
  have q1:(x == bk)=false:=beq_eq_false_iff_ne.2 hx
  clear hx
  go_enter Tryz.func43,Tryz.ntmps43
  go_upto_region 1 with fail
  clear hw0
  refine region_inv (fun L a w'=>∃ v7 v8 v9 vi vq vz vs vt vv vj vl vn vk vu vg vh vm vo vy vf ve vw va vd vb vc vr vp v6:Value,a=⟨#[.agg #[.slice (some ⟨b,o,none⟩) (n+1) cap,.string ⟨x.toArray⟩,zn],.string ⟨e.toArray⟩,.int .i64 ((n:Int)+1),.pointer (some ⟨w.heap.size,0,none⟩),undef,undef,v6,v7,v8,v9,vi,vq,vz,vs,vt,vv,vj,vl,vn,vk,vu,vg,vh,vm,vo,vy,vf,ve,vw,va,vd,vb,vc,vr,vp],[]⟩/\Below w0.heap.size w0 w'/\(L[0]?=some true->v7=.pointer (some ⟨w.heap.size,0,none⟩))/\(L[1]?=some true->v8=.slice (some ⟨b,o,none⟩) (n+1) cap)/\(L[2]?=some true->v9=.int .i64 ((n:Int)+1))/\(L[3]?=some true->vi=.int .i64 ((n:Int)+1))/\(L[4]?=some true->vq=.bool true)/\(L[5]?=some true->vz=.bool true)/\(L[6]?=some true->vs=.pointer (some ⟨w.heap.size,1,none⟩))/\(L[7]?=some true->vt=.string ⟨x.toArray⟩)/\(L[8]?=some true->vv=.pointer (some ⟨w.heap.size,0,none⟩))/\(L[9]?=some true->vj=.slice (some ⟨b,o,none⟩) (n+1) cap)/\(L[10]?=some true->vl=.int .i64 ((n:Int)+1))/\(L[11]?=some true->vn=.int .i64 (n:Int))/\(L[12]?=some true->vk=.pointer (some ⟨b,o+n*2,none⟩))/\(L[13]?=some true->vu=.pointer (some ⟨b,o+n*2,none⟩))/\(L[14]?=some true->vg=.string ⟨kx.toArray⟩)/\(L[15]?=some true->vh=.string ⟨bk.toArray⟩)/\(L[16]?=some true->vm=.bool false)/\(L[17]?=some true->vo=.bool false)/\(L[18]?=some true->vy=.bool false)/\(L[19]?=some true->vf=undef)/\(L[20]?=some true->ve=undef)/\(L[21]?=some true->vw=undef)/\(L[22]?=some true->va=undef)/\(L[23]?=some true->vd=undef)/\(L[24]?=some true->vb=undef)/\(L[25]?=some true->vc=undef)/\(L[26]?=some true->vr=undef)/\(L[27]?=some true->vp=.bool false)/\(L[28]?=some true->v6=.bool false)) (by rfl) ?_ ?_ ?_
  · exact ⟨_,_,_,_,_,_,_,_,_,_,_,_,_,_,_,_,_,_,_,_,_,_,_,_,_,_,_,_,_,rfl,BD,by simp,by simp,by simp,by simp,by simp,by simp,by simp,by simp,by simp,by simp,by simp,by simp,by simp,by simp,by simp,by simp,by simp,by simp,by simp,by simp,by simp,by simp,by simp,by simp,by simp,by simp,by simp,by simp,by simp⟩
  · intro L a w1' hL hI j o ho hj K hK
    obtain ⟨v7,v8,v9,vi,vq,vz,vs,vt,vv,vj,vl,vn,vk,vu,vg,vh,vm,vo,vy,vf,ve,vw,va,vd,vb,vc,vr,vp,v6,rfl,hB,h0,h1,h2,h3,h4,h5,h6,h7,h8,h9,hh,hs,hf,hg,hk,hc,hb,hu,hA,he,hz,ha,hy,hw,hC,hv,hq,hp,ht⟩:=hI
    obtain ⟨b0,b1,b2,b3,b4,b5,b6,b7,b8,b9,bn,bo,bf,bb,bc,bp,bs,br,bh,ba,bd,bq,bi,bm,bj,bl,bt,bg,be,rfl⟩:∃ b0 b1 b2 b3 b4 b5 b6 b7 b8 b9 bn bo bf bb bc bp bs br bh ba bd bq bi bm bj bl bt bg be,L=[b0,b1,b2,b3,b4,b5,b6,b7,b8,b9,bn,bo,bf,bb,bc,bp,bs,br,bh,ba,bd,bq,bi,bm,bj,bl,bt,bg,be]:=by
      match L,hL with
      | [b0,b1,b2,b3,b4,b5,b6,b7,b8,b9,bn,bo,bf,bb,bc,bp,bs,br,bh,ba,bd,bq,bi,bm,bj,bl,bt,bg,be],_=>exact ⟨b0,b1,b2,b3,b4,b5,b6,b7,b8,b9,bn,bo,bf,bb,bc,bp,bs,br,bh,ba,bd,bq,bi,bm,bj,bl,bt,bg,be,rfl⟩
    have hi2:=(List.mem_filter.1 hj).2
    clear hj hL
    obtain ⟨-,p0,p1,p2⟩:=HS.out _ hB
    rcases j with _ | _ | _ | _ | _ | _ | _ | _ | _ | _ | _ | _ | _ | _ | _ | _ | _ | _ | _ | _ | _ | _ | _ | _ | _ | _ | _ | _ | _ | j
    · obtain rfl:=Option.some.inj ho
      clear ho hi2
      rw [if_pos (by rfl)]
      go_simp
      exact hK _ _ ⟨_,v8,v9,vi,vq,vz,vs,vt,vv,vj,vl,vn,vk,vu,vg,vh,vm,vo,vy,vf,ve,vw,va,vd,vb,vc,vr,vp,v6,rfl,hB,fun _=>rfl,h1,h2,h3,h4,h5,h6,h7,h8,h9,hh,hs,hf,hg,hk,hc,hb,hu,hA,he,hz,ha,hy,hw,hC,hv,hq,hp,ht⟩
    · obtain rfl:=Option.some.inj ho
      simp [Region.binds] at hi2
      obtain rfl:=h0 (by simp [hi2])
      clear ho hi2
      rw [if_pos (by rfl)]
      go_simp
      exact hK _ _ ⟨_,_,v9,vi,vq,vz,vs,vt,vv,vj,vl,vn,vk,vu,vg,vh,vm,vo,vy,vf,ve,vw,va,vd,vb,vc,vr,vp,v6,rfl,hB,fun _=>rfl,fun _=>rfl,h2,h3,h4,h5,h6,h7,h8,h9,hh,hs,hf,hg,hk,hc,hb,hu,hA,he,hz,ha,hy,hw,hC,hv,hq,hp,ht⟩
    · obtain rfl:=Option.some.inj ho
      simp [Region.binds] at hi2
      obtain rfl:=h1 (by simp [hi2])
      clear ho hi2
      rw [if_pos (by rfl)]
      go_simp
      exact hK _ _ ⟨v7,_,_,vi,vq,vz,vs,vt,vv,vj,vl,vn,vk,vu,vg,vh,vm,vo,vy,vf,ve,vw,va,vd,vb,vc,vr,vp,v6,rfl,hB,h0,fun _=>rfl,fun _=>rfl,h3,h4,h5,h6,h7,h8,h9,hh,hs,hf,hg,hk,hc,hb,hu,hA,he,hz,ha,hy,hw,hC,hv,hq,hp,ht⟩
    · obtain rfl:=Option.some.inj ho
      clear ho hi2
      rw [if_pos (by rfl)]
      go_simp
      exact hK _ _ ⟨v7,v8,v9,_,vq,vz,vs,vt,vv,vj,vl,vn,vk,vu,vg,vh,vm,vo,vy,vf,ve,vw,va,vd,vb,vc,vr,vp,v6,rfl,hB,h0,h1,h2,fun _=>rfl,h4,h5,h6,h7,h8,h9,hh,hs,hf,hg,hk,hc,hb,hu,hA,he,hz,ha,hy,hw,hC,hv,hq,hp,ht⟩
    · obtain rfl:=Option.some.inj ho
      simp [Region.binds] at hi2
      obtain rfl:=h2 (by simp [hi2])
      obtain rfl:=h3 (by simp [hi2])
      clear ho hi2
      rw [if_pos (by rfl)]
      go_simp
      exact hK _ _ ⟨v7,v8,_,_,_,vz,vs,vt,vv,vj,vl,vn,vk,vu,vg,vh,vm,vo,vy,vf,ve,vw,va,vd,vb,vc,vr,vp,v6,rfl,hB,h0,h1,fun _=>rfl,fun _=>rfl,fun _=>rfl,h5,h6,h7,h8,h9,hh,hs,hf,hg,hk,hc,hb,hu,hA,he,hz,ha,hy,hw,hC,hv,hq,hp,ht⟩
    · obtain rfl:=Option.some.inj ho
      simp [Region.binds] at hi2
      obtain rfl:=h4 (by simp [hi2])
      clear ho hi2
      rw [if_pos (by rfl)]
      go_simp
      exact hK _ _ ⟨v7,v8,v9,vi,_,_,vs,vt,vv,vj,vl,vn,vk,vu,vg,vh,vm,vo,vy,vf,ve,vw,va,vd,vb,vc,vr,vp,v6,rfl,hB,h0,h1,h2,h3,fun _=>rfl,fun _=>rfl,h6,h7,h8,h9,hh,hs,hf,hg,hk,hc,hb,hu,hA,he,hz,ha,hy,hw,hC,hv,hq,hp,ht⟩
    · obtain rfl:=Option.some.inj ho
      simp [Region.binds] at hi2
      obtain rfl:=h5 (by simp [hi2])
      clear ho hi2
      rw [if_pos (by rfl)]
      go_simp
      exact hK _ _ ⟨v7,v8,v9,vi,vq,_,_,vt,vv,vj,vl,vn,vk,vu,vg,vh,vm,vo,vy,vf,ve,vw,va,vd,vb,vc,vr,vp,v6,rfl,hB,h0,h1,h2,h3,h4,fun _=>rfl,fun _=>rfl,h7,h8,h9,hh,hs,hf,hg,hk,hc,hb,hu,hA,he,hz,ha,hy,hw,hC,hv,hq,hp,ht⟩
    · obtain rfl:=Option.some.inj ho
      simp [Region.binds] at hi2
      obtain rfl:=h6 (by simp [hi2])
      obtain rfl:=h5 (by simp [hi2])
      clear ho hi2
      rw [if_pos (by rfl)]
      go_simp
      exact hK _ _ ⟨v7,v8,v9,vi,vq,_,_,_,vv,vj,vl,vn,vk,vu,vg,vh,vm,vo,vy,vf,ve,vw,va,vd,vb,vc,vr,vp,v6,rfl,hB,h0,h1,h2,h3,h4,fun _=>rfl,fun _=>rfl,fun _=>rfl,h8,h9,hh,hs,hf,hg,hk,hc,hb,hu,hA,he,hz,ha,hy,hw,hC,hv,hq,hp,ht⟩
    · obtain rfl:=Option.some.inj ho
      simp [Region.binds] at hi2
      obtain rfl:=h5 (by simp [hi2])
      clear ho hi2
      rw [if_pos (by rfl)]
      go_simp
      exact hK _ _ ⟨v7,v8,v9,vi,vq,_,vs,vt,_,vj,vl,vn,vk,vu,vg,vh,vm,vo,vy,vf,ve,vw,va,vd,vb,vc,vr,vp,v6,rfl,hB,h0,h1,h2,h3,h4,fun _=>rfl,h6,h7,fun _=>rfl,h9,hh,hs,hf,hg,hk,hc,hb,hu,hA,he,hz,ha,hy,hw,hC,hv,hq,hp,ht⟩
    · obtain rfl:=Option.some.inj ho
      simp [Region.binds] at hi2
      obtain rfl:=h8 (by simp [hi2])
      obtain rfl:=h5 (by simp [hi2])
      clear ho hi2
      rw [if_pos (by rfl)]
      go_simp
      exact hK _ _ ⟨v7,v8,v9,vi,vq,_,vs,vt,_,_,vl,vn,vk,vu,vg,vh,vm,vo,vy,vf,ve,vw,va,vd,vb,vc,vr,vp,v6,rfl,hB,h0,h1,h2,h3,h4,fun _=>rfl,h6,h7,fun _=>rfl,fun _=>rfl,hh,hs,hf,hg,hk,hc,hb,hu,hA,he,hz,ha,hy,hw,hC,hv,hq,hp,ht⟩
    · obtain rfl:=Option.some.inj ho
      simp [Region.binds] at hi2
      obtain rfl:=h5 (by simp [hi2])
      clear ho hi2
      rw [if_pos (by rfl)]
      go_simp
      exact hK _ _ ⟨v7,v8,v9,vi,vq,_,vs,vt,vv,vj,_,vn,vk,vu,vg,vh,vm,vo,vy,vf,ve,vw,va,vd,vb,vc,vr,vp,v6,rfl,hB,h0,h1,h2,h3,h4,fun _=>rfl,h6,h7,h8,h9,fun _=>rfl,hs,hf,hg,hk,hc,hb,hu,hA,he,hz,ha,hy,hw,hC,hv,hq,hp,ht⟩
    · obtain rfl:=Option.some.inj ho
      simp [Region.binds] at hi2
      obtain rfl:=hh (by simp [hi2])
      obtain rfl:=h5 (by simp [hi2])
      clear ho hi2
      rw [if_pos (by rfl)]
      go_simp
      exact hK _ _ ⟨v7,v8,v9,vi,vq,_,vs,vt,vv,vj,_,_,vk,vu,vg,vh,vm,vo,vy,vf,ve,vw,va,vd,vb,vc,vr,vp,v6,rfl,hB,h0,h1,h2,h3,h4,fun _=>rfl,h6,h7,h8,h9,fun _=>rfl,fun _=>rfl,hf,hg,hk,hc,hb,hu,hA,he,hz,ha,hy,hw,hC,hv,hq,hp,ht⟩
    · obtain rfl:=Option.some.inj ho
      simp [Region.binds] at hi2
      obtain rfl:=h9 (by simp [hi2])
      obtain rfl:=hs (by simp [hi2])
      obtain rfl:=h5 (by simp [hi2])
      clear ho hi2
      rw [if_pos (by rfl)]
      go_simp
      exact hK _ _ ⟨v7,v8,v9,vi,vq,_,vs,vt,vv,_,vl,_,_,vu,vg,vh,vm,vo,vy,vf,ve,vw,va,vd,vb,vc,vr,vp,v6,rfl,hB,h0,h1,h2,h3,h4,fun _=>rfl,h6,h7,h8,fun _=>rfl,hh,fun _=>rfl,fun _=>rfl,hg,hk,hc,hb,hu,hA,he,hz,ha,hy,hw,hC,hv,hq,hp,ht⟩
    · obtain rfl:=Option.some.inj ho
      simp [Region.binds] at hi2
      obtain rfl:=hf (by simp [hi2])
      obtain rfl:=h5 (by simp [hi2])
      clear ho hi2
      rw [if_pos (by rfl)]
      go_simp
      exact hK _ _ ⟨v7,v8,v9,vi,vq,_,vs,vt,vv,vj,vl,vn,_,_,vg,vh,vm,vo,vy,vf,ve,vw,va,vd,vb,vc,vr,vp,v6,rfl,hB,h0,h1,h2,h3,h4,fun _=>rfl,h6,h7,h8,h9,hh,hs,fun _=>rfl,fun _=>rfl,hk,hc,hb,hu,hA,he,hz,ha,hy,hw,hC,hv,hq,hp,ht⟩
    · obtain rfl:=Option.some.inj ho
      simp [Region.binds] at hi2
      obtain rfl:=hg (by simp [hi2])
      obtain rfl:=h5 (by simp [hi2])
      clear ho hi2
      rw [if_pos (by rfl)]
      go_simp
      exact hK _ _ ⟨v7,v8,v9,vi,vq,_,vs,vt,vv,vj,vl,vn,vk,_,_,vh,vm,vo,vy,vf,ve,vw,va,vd,vb,vc,vr,vp,v6,rfl,hB,h0,h1,h2,h3,h4,fun _=>rfl,h6,h7,h8,h9,hh,hs,hf,fun _=>rfl,fun _=>rfl,hc,hb,hu,hA,he,hz,ha,hy,hw,hC,hv,hq,hp,ht⟩
    · obtain rfl:=Option.some.inj ho
      simp [Region.binds] at hi2
      obtain rfl:=hk (by simp [hi2])
      obtain rfl:=h5 (by simp [hi2])
      clear ho hi2
      rw [if_pos (by rfl)]
      go_simp
      refine (HBH.out _ hB).mono ?_
      rintro r w2 ⟨rfl,hB2⟩
      exact hK _ _ ⟨v7,v8,v9,vi,vq,_,vs,vt,vv,vj,vl,vn,vk,vu,_,_,vm,vo,vy,vf,ve,vw,va,vd,vb,vc,vr,vp,v6,rfl,hB2,h0,h1,h2,h3,h4,fun _=>rfl,h6,h7,h8,h9,hh,hs,hf,hg,fun _=>rfl,fun _=>rfl,hb,hu,hA,he,hz,ha,hy,hw,hC,hv,hq,hp,ht⟩
    · obtain rfl:=Option.some.inj ho
      simp [Region.binds] at hi2
      obtain rfl:=h7 (by simp [hi2])
      obtain rfl:=hc (by simp [hi2])
      obtain rfl:=h5 (by simp [hi2])
      clear ho hi2
      rw [if_pos (by rfl)]
      go_simp
      exact hK _ _ ⟨v7,v8,v9,vi,vq,_,vs,_,vv,vj,vl,vn,vk,vu,vg,_,_,vo,vy,vf,ve,vw,va,vd,vb,vc,vr,vp,v6,rfl,hB,h0,h1,h2,h3,h4,fun _=>rfl,h6,fun _=>rfl,h8,h9,hh,hs,hf,hg,hk,fun _=>rfl,fun _=>rfl,hu,hA,he,hz,ha,hy,hw,hC,hv,hq,hp,ht⟩
    · obtain rfl:=Option.some.inj ho
      simp [Region.binds] at hi2
      obtain rfl:=h5 (by simp [hi2])
      obtain rfl:=hb (by simp [hi2])
      clear ho hi2
      rw [if_pos (by rfl)]
      go_simp
      exact hK _ _ ⟨v7,v8,v9,vi,vq,_,vs,vt,vv,vj,vl,vn,vk,vu,vg,vh,_,_,vy,vf,ve,vw,va,vd,vb,vc,vr,vp,v6,rfl,hB,h0,h1,h2,h3,h4,fun _=>rfl,h6,h7,h8,h9,hh,hs,hf,hg,hk,hc,fun _=>rfl,fun _=>rfl,hA,he,hz,ha,hy,hw,hC,hv,hq,hp,ht⟩
    · obtain rfl:=Option.some.inj ho
      simp [Region.binds] at hi2
      obtain rfl:=hu (by simp [hi2])
      clear ho hi2
      rw [if_pos (by rfl)]
      go_simp
      exact hK _ _ ⟨v7,v8,v9,vi,vq,vz,vs,vt,vv,vj,vl,vn,vk,vu,vg,vh,vm,_,_,vf,ve,vw,va,vd,vb,vc,vr,vp,v6,rfl,hB,h0,h1,h2,h3,h4,h5,h6,h7,h8,h9,hh,hs,hf,hg,hk,hc,hb,fun _=>rfl,fun _=>rfl,he,hz,ha,hy,hw,hC,hv,hq,hp,ht⟩
    · obtain rfl:=Option.some.inj ho
      simp [Region.binds] at hi2
      obtain rfl:=hA (by simp [hi2])
      clear ho hi2
      rw [if_neg (by rw [show Region.wanted _ _=false from rfl]; decide)]
      exact hK _ _ ⟨v7,v8,v9,vi,vq,vz,vs,vt,vv,vj,vl,vn,vk,vu,vg,vh,vm,vo,_,_,ve,vw,va,vd,vb,vc,vr,vp,v6,rfl,hB,h0,h1,h2,h3,h4,h5,h6,h7,h8,h9,hh,hs,hf,hg,hk,hc,hb,hu,fun _=>rfl,fun _=>rfl,hz,ha,hy,hw,hC,hv,hq,hp,ht⟩
    · obtain rfl:=Option.some.inj ho
      simp [Region.binds] at hi2
      obtain rfl:=hA (by simp [hi2])
      clear ho hi2
      rw [if_neg (by rw [show Region.wanted _ _=false from rfl]; decide)]
      exact hK _ _ ⟨v7,v8,v9,vi,vq,vz,vs,vt,vv,vj,vl,vn,vk,vu,vg,vh,vm,vo,_,vf,_,vw,va,vd,vb,vc,vr,vp,v6,rfl,hB,h0,h1,h2,h3,h4,h5,h6,h7,h8,h9,hh,hs,hf,hg,hk,hc,hb,hu,fun _=>rfl,he,fun _=>rfl,ha,hy,hw,hC,hv,hq,hp,ht⟩
    · obtain rfl:=Option.some.inj ho
      simp [Region.binds] at hi2
      obtain rfl:=hA (by simp [hi2])
      clear ho hi2
      rw [if_neg (by rw [show Region.wanted _ _=false from rfl]; decide)]
      exact hK _ _ ⟨v7,v8,v9,vi,vq,vz,vs,vt,vv,vj,vl,vn,vk,vu,vg,vh,vm,vo,_,vf,ve,_,va,vd,vb,vc,vr,vp,v6,rfl,hB,h0,h1,h2,h3,h4,h5,h6,h7,h8,h9,hh,hs,hf,hg,hk,hc,hb,hu,fun _=>rfl,he,hz,fun _=>rfl,hy,hw,hC,hv,hq,hp,ht⟩
    · obtain rfl:=Option.some.inj ho
      simp [Region.binds] at hi2
      obtain rfl:=ha (by simp [hi2])
      clear ho hi2
      rw [if_neg (by rw [show Region.wanted _ _=false from rfl]; decide)]
      exact hK _ _ ⟨v7,v8,v9,vi,vq,vz,vs,vt,vv,vj,vl,vn,vk,vu,vg,vh,vm,vo,vy,vf,ve,_,_,vd,vb,vc,vr,vp,v6,rfl,hB,h0,h1,h2,h3,h4,h5,h6,h7,h8,h9,hh,hs,hf,hg,hk,hc,hb,hu,hA,he,hz,fun _=>rfl,fun _=>rfl,hw,hC,hv,hq,hp,ht⟩
    · obtain rfl:=Option.some.inj ho
      simp [Region.binds] at hi2
      obtain rfl:=ha (by simp [hi2])
      clear ho hi2
      rw [if_neg (by rw [show Region.wanted _ _=false from rfl]; decide)]
      exact hK _ _ ⟨v7,v8,v9,vi,vq,vz,vs,vt,vv,vj,vl,vn,vk,vu,vg,vh,vm,vo,vy,vf,ve,_,va,_,vb,vc,vr,vp,v6,rfl,hB,h0,h1,h2,h3,h4,h5,h6,h7,h8,h9,hh,hs,hf,hg,hk,hc,hb,hu,hA,he,hz,fun _=>rfl,hy,fun _=>rfl,hC,hv,hq,hp,ht⟩
    · obtain rfl:=Option.some.inj ho
      simp [Region.binds] at hi2
      obtain rfl:=ha (by simp [hi2])
      clear ho hi2
      rw [if_neg (by rw [show Region.wanted _ _=false from rfl]; decide)]
      exact hK _ _ ⟨v7,v8,v9,vi,vq,vz,vs,vt,vv,vj,vl,vn,vk,vu,vg,vh,vm,vo,vy,vf,ve,_,va,vd,_,vc,vr,vp,v6,rfl,hB,h0,h1,h2,h3,h4,h5,h6,h7,h8,h9,hh,hs,hf,hg,hk,hc,hb,hu,hA,he,hz,fun _=>rfl,hy,hw,fun _=>rfl,hv,hq,hp,ht⟩
    · obtain rfl:=Option.some.inj ho
      simp [Region.binds] at hi2
      obtain rfl:=ha (by simp [hi2])
      clear ho hi2
      rw [if_neg (by rw [show Region.wanted _ _=false from rfl]; decide)]
      exact hK _ _ ⟨v7,v8,v9,vi,vq,vz,vs,vt,vv,vj,vl,vn,vk,vu,vg,vh,vm,vo,vy,vf,ve,_,va,vd,vb,_,vr,vp,v6,rfl,hB,h0,h1,h2,h3,h4,h5,h6,h7,h8,h9,hh,hs,hf,hg,hk,hc,hb,hu,hA,he,hz,fun _=>rfl,hy,hw,hC,fun _=>rfl,hq,hp,ht⟩
    · obtain rfl:=Option.some.inj ho
      simp [Region.binds] at hi2
      obtain rfl:=hA (by simp [hi2])
      clear ho hi2
      rw [if_neg (by rw [show Region.wanted _ _=false from rfl]; decide)]
      exact hK _ _ ⟨v7,v8,v9,vi,vq,vz,vs,vt,vv,vj,vl,vn,vk,vu,vg,vh,vm,vo,_,vf,ve,vw,va,vd,vb,vc,_,vp,v6,rfl,hB,h0,h1,h2,h3,h4,h5,h6,h7,h8,h9,hh,hs,hf,hg,hk,hc,hb,hu,fun _=>rfl,he,hz,ha,hy,hw,hC,hv,fun _=>rfl,hp,ht⟩
    · obtain rfl:=Option.some.inj ho
      simp [Region.binds] at hi2
      obtain rfl:=hA (by simp [hi2])
      obtain rfl:=hq (by simp [hi2])
      clear ho hi2
      rw [if_pos (by rfl)]
      go_simp
      exact hK _ _ ⟨v7,v8,v9,vi,vq,vz,vs,vt,vv,vj,vl,vn,vk,vu,vg,vh,vm,vo,_,vf,ve,vw,va,vd,vb,vc,_,_,v6,rfl,hB,h0,h1,h2,h3,h4,h5,h6,h7,h8,h9,hh,hs,hf,hg,hk,hc,hb,hu,fun _=>rfl,he,hz,ha,hy,hw,hC,hv,fun _=>rfl,fun _=>rfl,ht⟩
    · obtain rfl:=Option.some.inj ho
      simp [Region.binds] at hi2
      obtain rfl:=hp (by simp [hi2])
      clear ho hi2
      rw [if_pos (by rfl)]
      go_simp
      exact hK _ _ ⟨v7,v8,v9,vi,vq,vz,vs,vt,vv,vj,vl,vn,vk,vu,vg,vh,vm,vo,vy,vf,ve,vw,va,vd,vb,vc,vr,_,_,rfl,hB,h0,h1,h2,h3,h4,h5,h6,h7,h8,h9,hh,hs,hf,hg,hk,hc,hb,hu,hA,he,hz,ha,hy,hw,hC,hv,hq,fun _=>rfl,fun _=>rfl⟩
    · simp at ho
  · intro L a w2 hL hr hI
    obtain ⟨v7,v8,v9,vi,vq,vz,vs,vt,vv,vj,vl,vn,vk,vu,vg,vh,vm,vo,vy,vf,ve,vw,va,vd,vb,vc,vr,vp,v6,rfl,hB,h0,h1,h2,h3,h4,h5,h6,h7,h8,h9,hh,hs,hf,hg,hk,hc,hb,hu,hA,he,hz,ha,hy,hw,hC,hv,hq,hp,ht⟩:=hI
    obtain ⟨b0,b1,b2,b3,b4,b5,b6,b7,b8,b9,bn,bo,bf,bb,bc,bp,bs,br,bh,ba,bd,bq,bi,bm,bj,bl,bt,bg,be,rfl⟩:∃ b0 b1 b2 b3 b4 b5 b6 b7 b8 b9 bn bo bf bb bc bp bs br bh ba bd bq bi bm bj bl bt bg be,L=[b0,b1,b2,b3,b4,b5,b6,b7,b8,b9,bn,bo,bf,bb,bc,bp,bs,br,bh,ba,bd,bq,bi,bm,bj,bl,bt,bg,be]:=by
      match L,hL with
      | [b0,b1,b2,b3,b4,b5,b6,b7,b8,b9,bn,bo,bf,bb,bc,bp,bs,br,bh,ba,bd,bq,bi,bm,bj,bl,bt,bg,be],_=>exact ⟨b0,b1,b2,b3,b4,b5,b6,b7,b8,b9,bn,bo,bf,bb,bc,bp,bs,br,bh,ba,bd,bq,bi,bm,bj,bl,bt,bg,be,rfl⟩
    have hr2:=List.filter_eq_nil_iff.1 hr
    clear hr hL
    have k0:=hr2 0 (by simp)
    have k1:=hr2 1 (by simp)
    have k2:=hr2 2 (by simp)
    have k3:=hr2 3 (by simp)
    have k4:=hr2 4 (by simp)
    have k5:=hr2 5 (by simp)
    have k6:=hr2 6 (by simp)
    have k7:=hr2 7 (by simp)
    have k8:=hr2 8 (by simp)
    have k9:=hr2 9 (by simp)
    have kr:=hr2 10 (by simp)
    have kh:=hr2 11 (by simp)
    have kl:=hr2 12 (by simp)
    have ki:=hr2 13 (by simp)
    have kq:=hr2 14 (by simp)
    have km:=hr2 15 (by simp)
    have kd:=hr2 16 (by simp)
    have ke:=hr2 17 (by simp)
    have ks:=hr2 18 (by simp)
    have kj:=hr2 19 (by simp)
    have ka:=hr2 20 (by simp)
    have kp:=hr2 21 (by simp)
    have kf:=hr2 22 (by simp)
    have ko:=hr2 23 (by simp)
    have kg:=hr2 24 (by simp)
    have kc:=hr2 25 (by simp)
    have kn:=hr2 26 (by simp)
    have kb:=hr2 27 (by simp)
    have kk:=hr2 28 (by simp)
    clear hr2
    simp [Region.binds] at k0
    subst k0
    simp [Region.binds] at k1
    subst k1
    simp [Region.binds] at k2
    subst k2
    simp [Region.binds] at k3
    subst k3
    simp [Region.binds] at k4
    subst k4
    simp [Region.binds] at k5
    subst k5
    simp [Region.binds] at k6
    subst k6
    simp [Region.binds] at k7
    subst k7
    simp [Region.binds] at k8
    subst k8
    simp [Region.binds] at k9
    subst k9
    simp [Region.binds] at kr
    subst kr
    simp [Region.binds] at kh
    subst kh
    simp [Region.binds] at kl
    subst kl
    simp [Region.binds] at ki
    subst ki
    simp [Region.binds] at kq
    subst kq
    simp [Region.binds] at km
    subst km
    simp [Region.binds] at kd
    subst kd
    simp [Region.binds] at ke
    subst ke
    simp [Region.binds] at ks
    subst ks
    simp [Region.binds] at kj
    subst kj
    simp [Region.binds] at ka
    subst ka
    simp [Region.binds] at kp
    subst kp
    simp [Region.binds] at kf
    subst kf
    simp [Region.binds] at ko
    subst ko
    simp [Region.binds] at kg
    subst kg
    simp [Region.binds] at kc
    subst kc
    simp [Region.binds] at kn
    subst kn
    simp [Region.binds] at kb
    subst kb
    simp [Region.binds] at kk
    subst kk
    obtain rfl:=h0 rfl
    obtain rfl:=h1 rfl
    obtain rfl:=h2 rfl
    obtain rfl:=h3 rfl
    obtain rfl:=h4 rfl
    obtain rfl:=h5 rfl
    obtain rfl:=h6 rfl
    obtain rfl:=h7 rfl
    obtain rfl:=h8 rfl
    obtain rfl:=h9 rfl
    obtain rfl:=hh rfl
    obtain rfl:=hs rfl
    obtain rfl:=hf rfl
    obtain rfl:=hg rfl
    obtain rfl:=hk rfl
    obtain rfl:=hc rfl
    obtain rfl:=hb rfl
    obtain rfl:=hu rfl
    obtain rfl:=hA rfl
    obtain rfl:=he rfl
    obtain rfl:=hz rfl
    obtain rfl:=ha rfl
    obtain rfl:=hy rfl
    obtain rfl:=hw rfl
    obtain rfl:=hC rfl
    obtain rfl:=hv rfl
    obtain rfl:=hq rfl
    obtain rfl:=hp rfl
    obtain rfl:=ht rfl
    have HBF:=qh (bchain HB.out hB)
    go_wp2
    go_ret
    exact ⟨rfl,HBF.out⟩
theorem spgoes_any (zi:Value) (I:St) (x:T) (zn:Value) (e:T) (m:Int) (w:World) (hi:ItIn w zi I) (hm:1<=m/\m<=16):
    Calls Tryz.prog 43 #[.agg #[zi,.string ⟨x.toArray⟩,zn],.string ⟨e.toArray⟩,.int .i64 m] w fun r w'=>r=.returned (.bool (Spn.goesP I x e m))/\Below w.heap.size w w':=by
  by_cases hl:(I.length:Int)=m
  case pos=>
    by_cases hx:x=Scn.behind (I.getD (m.toNat - 1) ([],[])).1
    · by_cases he:e=[]
      · exact spgoes_A zi I x zn e m w hi hm hl hx he
      · exact spgoes_B zi I x zn e m w hi hm hl hx he
    · exact spgoes_C zi I x zn e m w hi hm hl hx
  obtain ⟨A,cap,rfl,-,-⟩:=hi.form
  obtain ⟨w0,hw0⟩:∃ w0,w.alloc (.cells #[.slice A I.length cap,.string ⟨x.toArray⟩,zn] 31)=w0:=⟨_,rfl⟩
  have hb0:Below w.heap.size w w0:=by rw [← hw0]; exact (Below.refl _ w).alloc (Nat.le_refl _) _
  have ra:w0.heap[w.heap.size]?=some (.cells #[.slice A I.length cap,.string ⟨x.toArray⟩,zn] 31 (0,0)):=by rw [← hw0]; exact heap_alloc_new w _
  have HP:Hid (∀ w',Below w0.heap.size w0 w'->w'.cell? ⟨w.heap.size,0,none⟩=some (.slice A I.length cap)/\w'.cell? ⟨w.heap.size,1,none⟩=some (.string ⟨x.toArray⟩)):=qh (fun w' h=>by
    have r:=(h.block _ (lt_of_heap ra)).trans ra
    exact ⟨by rw [cell_of_row _ _ 0 _ _ _ r]; rfl,by rw [cell_of_row _ _ 1 _ _ _ r]; rfl⟩)
  have HB:=qh hb0
  have hi0:=RowsIn.below hi hb0
  unfold Spn.goesP
  rw [decide_eq_false hl,Bool.false_and]
  have q1:((I.length:Int) == m)=false:=beq_eq_false_iff_ne.2 hl
  obtain ⟨p0,p1⟩:=HP.out w0 (Below.refl _ _)
  clear hl hi hb0 ra hi0
  go_enter Tryz.func43,Tryz.ntmps43
  go_upto_region 1 with fail
  clear hw0
  go_quiet (fail)
  have HBQ:=qh (bel_drewN HB.out nq)
  go_wp2
  go_ret
  exact ⟨rfl,HBQ.out⟩
end
section
open Go.RowKit
open Sto (T)
def cutP (s p:T):T:=if s.take p.length=p then s.drop p.length else s
theorem cut_in (s p:T) (w:World):
    Calls Tryz.prog 135 #[.string ⟨s.toArray⟩,.string ⟨p.toArray⟩] w fun e w'=>e=.returned (.tuple #[.string ⟨(cutP s p).toArray⟩,.bool (decide (s.take p.length=p))])/\w=w':=by
  have HP:=qh (fun w=>prefix_in s p w)
  unfold cutP
  by_cases h:s.take p.length=p
  · have hle:p.length<=s.length:=by
      have:=congrArg List.length h
      simp at this
      omega
    have h1:(p.length:Int)<=(s.length:Int):=by omega
    have h0:(0:Int)<=(p.length:Int):=by omega
    have e1:decide (s.take p.length=p)=true:=decide_eq_true h
    rw [e1] at HP ⊢
    rw [if_pos h]
    have he:(⟨s.toArray⟩:ByteArray).extract p.length s.length=⟨(s.drop p.length).toArray⟩:=by
      rw [Lib.extract_eq]
      simp [List.take_of_length_le]
    clear h e1 hle
    go_enter Tryz.func135,Tryz.ntmps135
    go_wp2_with fail
    refine (HP.out _).mono ?_
    rintro e w1 ⟨rfl,rfl⟩
    go_wp2
    go_ret2
    exact ⟨rfl,rfl⟩
  · have e1:decide (s.take p.length=p)=false:=decide_eq_false h
    rw [e1] at HP ⊢
    rw [if_neg h]
    clear h e1
    go_enter Tryz.func135,Tryz.ntmps135
    go_wp2_with fail
    refine (HP.out _).mono ?_
    rintro e w1 ⟨rfl,rfl⟩
    go_wp2
    go_ret2
    exact ⟨rfl,rfl⟩
theorem cut_any (s p:T) (w:World):
    Calls Tryz.prog 95 #[.string ⟨s.toArray⟩,.string ⟨p.toArray⟩] w fun e w'=>e=.returned (.tuple #[.string ⟨(cutP s p).toArray⟩,.bool (decide (s.take p.length=p))])/\w=w':=by
  have HP:=qh (fun w=>cut_in s p w)
  go_enter Tryz.func95,Tryz.ntmps95
  go_wp2_with fail
  refine (HP.out _).mono ?_
  rintro e w1 ⟨rfl,rfl⟩
  go_wp2
  go_ret2
  exact ⟨rfl,rfl⟩
end
section
open Go.RowKit
open Sto (T St)
theorem sprest_any (m q:T) (w:World):
    Calls Tryz.prog 173 #[.string ⟨m.toArray⟩,.string ⟨q.toArray⟩] w fun e w'=>e=.returned (.string ⟨(Spn.restL m q).toArray⟩)/\w=w':=by
  have HC:=qh (fun w=>cut_any m q w)
  unfold Spn.restL
  by_cases h:m.take q.length=q
  · have e1:cutP m q=m.drop q.length:=by unfold cutP; rw [if_pos h]
    rw [e1,decide_eq_true h] at HC
    rw [if_pos h]
    obtain ⟨r,hr⟩:∃ r,m.drop q.length=r:=⟨_,rfl⟩
    rw [hr] at HC ⊢
    clear h e1 hr
    go_enter Tryz.func173,Tryz.ntmps173
    go_wp2_with fail
    refine (HC.out _).mono ?_
    rintro e w1 ⟨rfl,rfl⟩
    go_wp2
    go_ret
    exact ⟨rfl,rfl⟩
  · rw [decide_eq_false h] at HC
    rw [if_neg h]
    clear h
    go_enter Tryz.func173,Tryz.ntmps173
    go_wp2_with fail
    refine (HC.out _).mono ?_
    rintro e w1 ⟨rfl,rfl⟩
    go_wp2
    go_ret
    exact ⟨rfl,rfl⟩
theorem sphas_any (lf le p:T) (w:World):
    Calls Tryz.prog 76 #[.agg #[.string ⟨lf.toArray⟩,.string ⟨le.toArray⟩],.string ⟨p.toArray⟩] w fun e w'=>e=.returned (.bool (Spn.hasP lf le p))/\Below w.heap.size w w':=by
  have hbA:Below w.heap.size w (w.alloc (.cells #[.string ⟨lf.toArray⟩,.string ⟨le.toArray⟩] 119)):=(Below.refl _ w).alloc (Nat.le_refl _) _
  have HB:=qh hbA
  clear hbA
  unfold Spn.hasP
  by_cases h:p<lf
  · have q1:Op.bytesLess p lf=true:=by rw [less_lt]; exact decide_eq_true h
    have q2:(Op.bytesLess lf p || lf == p)=false:=by
      rw [leq_le,decide_eq_false]
      exact List.not_le.2 h
    rw [decide_eq_true h]
    clear h
    go_enter Tryz.func76,Tryz.ntmps76
    go_wp2
    go_ret
    exact ⟨rfl,HB.out⟩
  · have q1:Op.bytesLess p lf=false:=by rw [less_lt]; exact decide_eq_false h
    have q2:(Op.bytesLess lf p || lf == p)=true:=by
      rw [leq_le,decide_eq_true]
      exact List.not_lt.1 h
    rw [decide_eq_false h]
    clear h
    by_cases hn:le=[]
    · subst hn
      go_enter Tryz.func76,Tryz.ntmps76
      go_wp2
      go_ret
      exact ⟨by simp,HB.out⟩
    · have q3:(le == [])=false:=beq_eq_false_iff_ne.2 hn
      have q4:le.isEmpty=false:=by cases le <;> simp_all
      obtain ⟨r,hr⟩:∃ r,decide (p<le)=r:=⟨_,rfl⟩
      have q5:Op.bytesLess p le=r:=by rw [less_lt]; exact hr
      rw [hr,decide_eq_false hn]
      clear hn hr
      go_enter Tryz.func76,Tryz.ntmps76
      go_wp2
      go_ret
      exact ⟨by simp,HB.out⟩
theorem cells_set {w:World} {p:Nat} {cs:Array Value} {t:TypeId} (h:w.heap[p]?=some (.cells cs t (0,0))) (i:Nat) (v:Value):(w.setCell ⟨p,i,none⟩ v).heap[p]?=some (.cells (cs.setIfInBounds i v) t (0,0)):=by
  rw [setCell_eq_setRow w p i cs t (0,0) v h]
  exact setRow_heap _ _ _ _ _ _ h
theorem build_part (a b:T) (w:World):(Instr.build 119 #[(0,.string ⟨a.toArray⟩),(1,.string ⟨b.toArray⟩)]).run Tryz.prog w=.ok (.agg #[.string ⟨a.toArray⟩,.string ⟨b.toArray⟩]) w:=run_build w _ _ _ (by kernel_rfl)
theorem spbehind_any (lf le more:T) (w:World):
    Calls Tryz.prog 150 #[.agg #[.string ⟨lf.toArray⟩,.string ⟨le.toArray⟩],.string ⟨more.toArray⟩] w fun e w'=>e=.returned (.tuple #[.agg #[.string ⟨(Spn.restL lf more).toArray⟩,.string ⟨(Spn.restL le more).toArray⟩],.bool (Spn.playsP lf le more)])/\Below w.heap.size w w':=by
  have HS1:=qh (fun w=>side_any more lf w)
  have HS2:=qh (fun w=>side_any more le w)
  unfold Spn.playsP
  have H3:∀ p m,Nib.sideL p m=-1∨Nib.sideL p m=0∨Nib.sideL p m=1:=fun p m=>by
    unfold Nib.sideL
    split <;> (try split) <;> simp
  have h1:=H3 more lf
  have h2:=H3 more le
  obtain ⟨s1,hs1⟩:∃ s,Nib.sideL more lf=s:=⟨_,rfl⟩
  obtain ⟨s2,hs2⟩:∃ s,Nib.sideL more le=s:=⟨_,rfl⟩
  rw [hs1] at HS1 h1 ⊢
  rw [hs2] at HS2 h2 ⊢
  clear hs1 hs2 H3
  obtain ⟨w0,hw0⟩:∃ w0,(w.alloc (.cells #[.string ⟨lf.toArray⟩,.string ⟨le.toArray⟩] 119)).alloc (.cells #[.string ⟨#[]⟩,.string ⟨#[]⟩] 119)=w0:=⟨_,rfl⟩
  have ha:Below w.heap.size w (w.alloc (.cells #[.string ⟨lf.toArray⟩,.string ⟨le.toArray⟩] 119)):=(Below.refl _ w).alloc (Nat.le_refl _) _
  have hb0:Below w.heap.size w w0:=by rw [← hw0]; exact ha.alloc ha.size _
  have ra:w0.heap[w.heap.size]?=some (.cells #[.string ⟨lf.toArray⟩,.string ⟨le.toArray⟩] 119 (0,0)):=by
    rw [← hw0]
    have h1:=heap_alloc_new w (.cells #[.string ⟨lf.toArray⟩,.string ⟨le.toArray⟩] 119)
    exact (Below.heap_alloc _ _ _ (lt_of_heap h1)).trans h1
  have rb:w0.heap[w.heap.size+1]?=some (.cells #[.string ⟨#[]⟩,.string ⟨#[]⟩] 119 (0,0)):=by
    rw [← hw0,← World.size_alloc w (.cells #[.string ⟨lf.toArray⟩,.string ⟨le.toArray⟩] 119)]
    exact heap_alloc_new _ _
  have HC:Hid (∀ w',Only (w.heap.size+1) w0 w'->w'.cell? ⟨w.heap.size,0,none⟩=some (.string ⟨lf.toArray⟩)/\w'.cell? ⟨w.heap.size,1,none⟩=some (.string ⟨le.toArray⟩)):=qh (fun w' h=>
    ⟨h.cell (by rw [cell_of_row _ _ 0 _ _ _ ra]; rfl) (by simp),h.cell (by rw [cell_of_row _ _ 1 _ _ _ ra]; rfl) (by simp)⟩)
  have HBD:Hid (Only (w.heap.size+1) w0 w0.drew):=qh (Only.refl _ _).drew
  have HBS:Hid (Only (w.heap.size+1) w0 ((w0.drew.setCell ⟨w.heap.size+1,0,none⟩ (.string ⟨(Spn.restL lf more).toArray⟩)).setCell ⟨w.heap.size+1,1,none⟩ (.string ⟨(Spn.restL le more).toArray⟩))):=qh ((HBD.out.setCell rfl _).setCell rfl _)
  obtain ⟨c0,c1⟩:=HC.out w0 (Only.refl _ _)
  obtain ⟨d0,d1⟩:=HC.out _ HBD.out
  have rbd:w0.drew.heap[w.heap.size+1]?=some (.cells #[.string ⟨#[]⟩,.string ⟨#[]⟩] 119 (0,0)):=rb
  have f0:=frozen_of_row _ _ 0 _ _ rbd
  have f1:=frozen_of_row _ _ 1 _ _ rbd
  have e0:w0.drew.cell? ⟨w.heap.size+1,0,none⟩=some (.string ⟨#[]⟩):=by rw [cell_of_row _ _ 0 _ _ _ rbd]; rfl
  have e1:w0.drew.cell? ⟨w.heap.size+1,1,none⟩=some (.string ⟨#[]⟩):=by rw [cell_of_row _ _ 1 _ _ _ rbd]; rfl
  have f2:=frozen_of_row _ _ 0 _ _ rb
  have f3:=frozen_of_row _ _ 1 _ _ rb
  have e2:w0.cell? ⟨w.heap.size+1,0,none⟩=some (.string ⟨#[]⟩):=by rw [cell_of_row _ _ 0 _ _ _ rb]; rfl
  have e3:w0.cell? ⟨w.heap.size+1,1,none⟩=some (.string ⟨#[]⟩):=by rw [cell_of_row _ _ 1 _ _ _ rb]; rfl
  have HBE:=qh (hb0.trans (HBS.out.below (Nat.le_succ _) hb0.size))
  have HF:Hid (((w0.drew.setCell ⟨w.heap.size+1,0,none⟩ (.string ⟨(Spn.restL lf more).toArray⟩)).setCell ⟨w.heap.size+1,1,none⟩ (.string ⟨(Spn.restL le more).toArray⟩)).heap[w.heap.size+1]?=some (.cells #[.string ⟨(Spn.restL lf more).toArray⟩,.string ⟨(Spn.restL le more).toArray⟩] 119 (0,0))):=qh (cells_set (cells_set rbd 0 _) 1 _)
  clear ha hb0 ra rb rbd
  by_cases q1:s1=-1
  · subst q1
    have e9:(!decide ((-1:Int)<0)&&(decide (le=[]) || decide (s2<1)))=false:=by simp
    rw [e9]
    clear e9 h1 h2
    go_enter Tryz.func150,Tryz.ntmps150
    go_wp2_with fail
    refine (HS1.out _).mono ?_
    rintro e w1 ⟨rfl,rfl⟩
    go_upto_region 2 with fail
    clear HS1 HS2 hw0
    have hbp:=fun w=>build_part (Spn.restL lf more) (Spn.restL le more) w
    go_region_held3 (fun w'=>w'.cell? ⟨w.heap.size,0,none⟩=some (.string ⟨lf.toArray⟩)/\w'.cell? ⟨w.heap.size,1,none⟩=some (.string ⟨le.toArray⟩))
      (exact HC.out _ (by first | (with_reducible assumption) | exact HBD.out | exact HBS.out))
      (first | (go_at_call 173; refine (sprest_any _ _ _).mono ?_; rintro e w1 ⟨rfl,rfl⟩))
    all_goals
      go_wp2_with fail
      refine bodyPost_ret (nresults_c1t rfl _ _ (w.heap.size+1) _ _ _ _ rfl HF.out Tryz.underlying119 rfl (by kernel_rfl)) rfl ?_
      exact ⟨rfl,HBE.out⟩
  have u1:(s1 != -1)=true:=by rw [bne_iff_ne]; exact q1
  have u2:(!decide (s1<0))=true:=by simp; omega
  rw [u2,Bool.true_and]
  clear u2 h1 q1
  by_cases hn:le=[]
  · rw [decide_eq_true hn,Bool.true_or]
    have q3:(le == [])=true:=beq_iff_eq.2 hn
    have q4:le.isEmpty=true:=by rw [hn]; rfl
    clear h2 hn
    go_enter Tryz.func150,Tryz.ntmps150
    go_wp2_with fail
    refine (HS1.out _).mono ?_
    rintro e w1 ⟨rfl,rfl⟩
    go_upto_region 2 with fail
    clear HS1 HS2 hw0
    have hbp:=fun w=>build_part (Spn.restL lf more) (Spn.restL le more) w
    go_region_held3 (fun w'=>w'.cell? ⟨w.heap.size,0,none⟩=some (.string ⟨lf.toArray⟩)/\w'.cell? ⟨w.heap.size,1,none⟩=some (.string ⟨le.toArray⟩))
      (exact HC.out _ (by first | (with_reducible assumption) | exact HBD.out | exact HBS.out))
      (first | (go_at_call 173; refine (sprest_any _ _ _).mono ?_; rintro e w1 ⟨rfl,rfl⟩))
    all_goals
      go_wp2_with fail
      refine bodyPost_ret (nresults_c1t rfl _ _ (w.heap.size+1) _ _ _ _ rfl HF.out Tryz.underlying119 rfl (by kernel_rfl)) rfl ?_
      exact ⟨rfl,HBE.out⟩
  · have q3:(le == [])=false:=beq_eq_false_iff_ne.2 hn
    have q4:le.isEmpty=false:=by cases le <;> simp_all
    have u3:(decide (le=[]) || decide (s2<1))=(s2 != 1):=by
      rw [decide_eq_false hn,Bool.false_or,Bool.eq_iff_iff,bne_iff_ne,decide_eq_true_iff]
      omega
    rw [u3]
    clear h2 hn u3
    go_enter Tryz.func150,Tryz.ntmps150
    go_wp2_with fail
    refine (HS1.out _).mono ?_
    rintro e w1 ⟨rfl,rfl⟩
    go_wp2_with fail
    refine (HS2.out _).mono ?_
    rintro e w1 ⟨rfl,rfl⟩
    go_upto_region 2 with fail
    clear HS1 HS2 hw0
    have hbp:=fun w=>build_part (Spn.restL lf more) (Spn.restL le more) w
    go_region_held3 (fun w'=>w'.cell? ⟨w.heap.size,0,none⟩=some (.string ⟨lf.toArray⟩)/\w'.cell? ⟨w.heap.size,1,none⟩=some (.string ⟨le.toArray⟩))
      (exact HC.out _ (by first | (with_reducible assumption) | exact HBD.out | exact HBS.out))
      (first | (go_at_call 173; refine (sprest_any _ _ _).mono ?_; rintro e w1 ⟨rfl,rfl⟩))
    all_goals
      go_wp2_with fail
      refine bodyPost_ret (nresults_c1t rfl _ _ (w.heap.size+1) _ _ _ _ rfl HF.out Tryz.underlying119 rfl (by kernel_rfl)) rfl ?_
      exact ⟨rfl,HBE.out⟩
def spl (s:Spn.Sp):List Value:=[.string ⟨s.sum.toArray⟩,.string ⟨s.place.toArray⟩,.string ⟨s.lf.toArray⟩,.string ⟨s.le.toArray⟩]
theorem spl_length (s:Spn.Sp):(spl s).length=4:=rfl
theorem spl_one (s:Spn.Sp):∀ u∈spl s,u.oneCell'=true:=by simp [spl,Value.oneCell']
theorem Tryz.infoSp:(Tryz.prog.info? 121).map (fun i=>(i.zero,i.size,i.bytes))=some (some (.agg #[.string ⟨#[]⟩,.string ⟨#[]⟩,.string ⟨#[]⟩,.string ⟨#[]⟩]),4,64):=by kernel_rfl
def OwnQ (w:World) (B:Nat) (z:Value) (L:List Spn.Sp):Prop:=w.ownsRow B 121 4 z L.length (rowsL spl L)
theorem OwnQ.nil (w:World) (B:Nat):OwnQ w B (.slice none 0 0) []:=⟨rfl,Or.inl ⟨rfl,rfl⟩⟩
theorem OwnQ.below {w w':World} {B:Nat} {s:Value} {L:List Spn.Sp} (h:OwnQ w B s L) (hb:Below w.heap.size w w'):OwnQ w' B s L:=
  row_out (G:=fun _=>False) h (Out.of hb) (fun _ _ _ _ hf=>hf.elim)
theorem OwnQ.lt {w:World} {B:Nat} {s:Value} {L:List Spn.Sp} (h:OwnQ w B s L) (k:Nat) (hk:s.ownBlock=some k):B<=k/\k<w.heap.size:=World.ownsRow.lt h k hk
theorem OwnQ.at_ {w:World} {B:Nat} {s:Value} {L:List Spn.Sp} (h:OwnQ w B s L):RowsAt 121 4 spl w s L:=RowsAt.own spl_length h
theorem OwnQ.low {w:World} {B B':Nat} {s:Value} {L:List Spn.Sp} (h:OwnQ w B s L) (hB:B'<=B):OwnQ w B' s L:=by
  refine ⟨h.1,?_⟩
  rcases h.2 with hn | ⟨k,cap,cur,hv,hb,hk,hr⟩
  · exact Or.inl hn
  · exact Or.inr ⟨k,cap,cur,hv,Nat.le_trans hB hb,hk,hr⟩
theorem app_q {w:World} {B:Nat} {z v:Value} {L M:List Spn.Sp} (h:OwnQ w B z L) (hv:RowsAt 121 4 spl w v M) (hl:L.length+M.length<=1000000) (hB:B<=w.heap.size):
    ∃ v' w',(Builtin.append_ #[117,117] 117 #[z,v]).run Tryz.prog w=.ok v' w'/\OwnQ w' B v' (L++M)/\w.grownBy w' z.ownBlock/\Below B w w':=by
  obtain ⟨i0,hi,hz0,hz1,hz2⟩:=info_parts Tryz.infoSp
  obtain ⟨v',w',h1,h2,h3,_⟩:=append_rows 117 121 i0 _ 64 Tryz.underlying117 Tryz.sizeOf121 hi hz0 hz1 hz2 rfl (by decide) (by decide) spl_length spl_one hv h hl hB
  exact ⟨v',w',h1,by unfold OwnQ; rw [rowsL_append,List.length_append]; exact h2,h3,(Out.grown h3 (F:=fun j=>z.ownBlock=some j) (fun j e=>e)).below (fun j hj=>(OwnQ.lt h j hj).1) hB⟩
theorem one_q (w:World) (s:Spn.Sp):RowsAt 121 4 spl (w.alloc (.cells (spl s).toArray 121)) (.slice (some ⟨w.heap.size,0,none⟩) 1 1) [s]:=
  OwnQ.at_ (B:=w.heap.size) ⟨rfl,Or.inr ⟨w.heap.size,1,_,rfl,Nat.le_refl _,heap_alloc_new w _,by simp,by simp [maxLen],rfl,rfl⟩⟩
theorem cut_run (A:Option Addr) (n cap k:Nat) (hk:k<=cap) (hA:A=none∨∃ g,A=some ⟨g,0,none⟩) (W:World):
    (Instr.slice 117 (.slice A n cap) none (some (.int .i64 k)) none).run Tryz.prog W=.ok (.slice A k cap) W:=by
  have hs:∀ W:World,(sizeOf (Tryz.prog.elem 117)).run Tryz.prog W=.ok 4 W:=fun W=>by kernel_rfl
  rw [run_slice_h W 117 A n cap Tryz.underlying117 .i64 k (by omega) (by omega),hs]
  rcases hA with rfl | ⟨g,rfl⟩ <;> simp [Result.andThen,sliced,Addr.add]
theorem OwnQ.last {w:World} {B:Nat} {z:Value} {L:List Spn.Sp} {s:Spn.Sp} (h:OwnQ w B z (L++[s])):
    ∃ g cap,z=.slice (some ⟨g,0,none⟩) (L.length+1) cap/\B<=g/\g<w.heap.size/\L.length+1<=cap/\OwnQ w B (.slice (some ⟨g,0,none⟩) L.length cap) L/\
      (∃ cs,w.heap[g]?=some (.cells cs 121 (0,0)))/\
      ∀ j u,(spl s)[j]?=some u->w.cell? ⟨g,L.length*4+j,none⟩=some u:=by
  rcases h.2 with ⟨_,h0⟩ | ⟨g,cap,cur,hv,hB,hh,hn,hm,hc,hr⟩
  · simp at h0
  · refine ⟨g,cap,by rw [hv]; simp,hB,lt_of_heap hh,by simpa using hn,⟨rowsL_length spl_length L,Or.inr ⟨g,cap,cur,rfl,hB,hh,by simp at hn; omega,hm,hc,?_⟩⟩,⟨cur,hh⟩,fun j u hu=>?_⟩
    · have:=congrArg (List.take (L.length*4)) hr
      rw [rowsL_append] at this
      rw [List.take_left' (rowsL_length spl_length L),List.take_take] at this
      rw [← this]
      congr 1
      simp
    · have hj:j<4:=by rw [← spl_length s]; exact (List.getElem?_eq_some_iff.1 hu).1
      have:=World.ownsRow.cells h (g:=g) (by rw [hv]; rfl) (L.length*4+j) u (by
        rw [rowsL_at spl_length (L++[s]) L.length j (by simp) hj]
        simpa using hu)
      rw [Addr.add_mid,Nat.zero_add] at this
      exact this
end
end Go.Proofs.YtaficmboooaknaaGreatDoor
