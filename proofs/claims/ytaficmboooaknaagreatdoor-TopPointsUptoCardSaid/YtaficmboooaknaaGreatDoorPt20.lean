import Derived.Test.YtaficmboooaknaaGreatDoorPt19
set_option maxRecDepth 100000
set_option maxHeartbeats 16000000
namespace Go.Proofs.YtaficmboooaknaaGreatDoor
section
open Go.RowKit
open Sto (T St)
theorem spgoes_A (zi:Value) (I:St) (x:T) (zn:Value) (e:T) (m:Int) (w:World) (hi:ItIn w zi I) (hm:1<=m/\m<=16) (hl:(I.length:Int)=m) (hx:x=Scn.behind (I.getD (m.toNat - 1) ([],[])).1) (he:e=[]):
    Calls Tryz.prog 43 #[.agg #[zi,.string ⟨x.toArray⟩,zn],.string ⟨e.toArray⟩,.int .i64 m] w fun r w'=>r=.returned (.bool (Spn.goesP I x e m))/\Below w.heap.size w w':=by
  obtain ⟨A,cap,rfl,-,-⟩:=hi.form
  obtain ⟨w0,hw0⟩:∃ w0,w.alloc (.cells #[.slice A I.length cap,.string ⟨x.toArray⟩,zn] 31)=w0:=⟨_,rfl⟩
  have hb0:Below w.heap.size w w0:=by rw [← hw0]; exact (Below.refl _ w).alloc (Nat.le_refl _) _
  have ra:w0.heap[w.heap.size]?=some (.cells #[.slice A I.length cap,.string ⟨x.toArray⟩,zn] 31 (0,0)):=by rw [← hw0]; exact heap_alloc_new w _
  have HP:Hid (∀ w',Below w0.heap.size w0 w'->w'.cell? ⟨w.heap.size,0,none⟩=some (.slice A I.length cap)/\w'.cell? ⟨w.heap.size,1,none⟩=some (.string ⟨x.toArray⟩)):=qh (fun w' h=>by
    have r:=(h.block _ (lt_of_heap ra)).trans ra
    exact ⟨by rw [cell_of_row _ _ 0 _ _ _ r]; rfl,by rw [cell_of_row _ _ 1 _ _ _ r]; rfl⟩)
  have HB:=qh hb0
  have hi0:=RowsIn.below hi hb0
  unfold Spn.goesP
  obtain ⟨n,hn⟩:∃ n,I.length=n+1:=⟨I.length - 1,by omega⟩
  have hmn:m=(n:Int)+1:=by omega
  subst hmn
  have hgd:I.getD (((n:Int)+1).toNat - 1) ([],[])=I[n]'(by omega):=by
    rw [show ((n:Int)+1).toNat - 1=n from by omega,List.getD_eq_getElem?_getD,List.getElem?_eq_getElem (by omega),Option.getD_some]
  rw [decide_eq_true hl,Bool.true_and,hgd]
  rw [hgd] at hx
  obtain ⟨b,o,rfl,n0,n1⟩:=ItIn.at hi0 n (by omega)
  obtain ⟨⟨kx,vx⟩,hkx⟩:∃ y,I[n]'(by omega)=y:=⟨_,rfl⟩
  rw [hkx] at n0 n1 hx ⊢
  dsimp only at n0 n1 hx ⊢
  have HIT:Hid (∀ w',Below w0.heap.size w0 w'->w'.cell? ⟨b,o+n*2,none⟩=some (.string ⟨kx.toArray⟩)):=qh (fun w' h=>(h.cell (World.block_lt_of_cell? _ _ n0)).trans n0)
  obtain ⟨bk,hbk⟩:∃ bk,Scn.behind kx=bk:=⟨_,rfl⟩
  have HBH:Hid (∀ w',Below w0.heap.size w0 w'->Calls Tryz.prog 65 #[.string ⟨kx.toArray⟩] w' fun r w''=>r=.returned (.string ⟨bk.toArray⟩)/\Below w0.heap.size w0 w''):=qh (fun w' h=>by
    have h1:=behind_all kx w'
    rw [hbk] at h1
    exact h1.mono fun r w'' ⟨q1,q2⟩=>⟨q1,bchain h q2⟩)
  rw [hbk] at hx ⊢
  have HS:Hid (∀ w',Below w0.heap.size w0 w'->Below w0.heap.size w0 w'/\w'.cell? ⟨w.heap.size,0,none⟩=some (.slice (some ⟨b,o,none⟩) (n+1) cap)/\w'.cell? ⟨w.heap.size,1,none⟩=some (.string ⟨x.toArray⟩)/\w'.cell? ⟨b,o+n*2,none⟩=some (.string ⟨kx.toArray⟩)):=qh (fun w' h=>
    ⟨h,by rw [← hn]; exact (HP.out w' h).1,(HP.out w' h).2,HIT.out w' h⟩)
  rw [hn] at hw0 ⊢
  have BD:Below w0.heap.size w0 w0.drew:=(Below.refl _ _).drew
  have y0:(0:Int)<=(n:Int):=by omega
  have y1:(n:Int)<(n:Int)+1:=by omega
  have y2:(n:Int)<=100:=by omega
  have y3:IntKind.i64.wrap ((n:Int)+1 - 1)=(n:Int):=by unfold IntKind.wrap; simp [IntKind.bits,IntKind.signed]; omega
  have y4:IntKind.i64.wrap (n:Int)=(n:Int):=by unfold IntKind.wrap; simp [IntKind.bits,IntKind.signed]; omega
  clear hl hi hb0 ra hi0 hgd n0 n1 hkx hbk hn hm HP HIT
  have q1:(x == bk)=true:=beq_iff_eq.2 hx
  rw [decide_eq_true hx,Bool.true_and]
  clear hx
  have q2:(e == [])=true:=beq_iff_eq.2 he
  have q3:e.isEmpty=true:=by rw [he]; rfl
  rw [decide_eq_true he,Bool.true_or]
  clear he
  go_enter Tryz.func43,Tryz.ntmps43
  go_upto_region 1 with fail
  clear hw0
  refine region_inv (fun L a w'=>∃ v7 v8 v9 vg vp vz vr vt vv vh vj vm vi vu vd ve vk vn vy vs vl vw va vc vb vf vq vo v6:Value,a=⟨#[.agg #[.slice (some ⟨b,o,none⟩) (n+1) cap,.string ⟨x.toArray⟩,zn],.string ⟨e.toArray⟩,.int .i64 ((n:Int)+1),.pointer (some ⟨w.heap.size,0,none⟩),undef,undef,v6,v7,v8,v9,vg,vp,vz,vr,vt,vv,vh,vj,vm,vi,vu,vd,ve,vk,vn,vy,vs,vl,vw,va,vc,vb,vf,vq,vo],[]⟩/\Below w0.heap.size w0 w'/\(L[0]?=some true->v7=.pointer (some ⟨w.heap.size,0,none⟩))/\(L[1]?=some true->v8=.slice (some ⟨b,o,none⟩) (n+1) cap)/\(L[2]?=some true->v9=.int .i64 ((n:Int)+1))/\(L[3]?=some true->vg=.int .i64 ((n:Int)+1))/\(L[4]?=some true->vp=.bool true)/\(L[5]?=some true->vz=.bool true)/\(L[6]?=some true->vr=.pointer (some ⟨w.heap.size,1,none⟩))/\(L[7]?=some true->vt=.string ⟨x.toArray⟩)/\(L[8]?=some true->vv=.pointer (some ⟨w.heap.size,0,none⟩))/\(L[9]?=some true->vh=.slice (some ⟨b,o,none⟩) (n+1) cap)/\(L[10]?=some true->vj=.int .i64 ((n:Int)+1))/\(L[11]?=some true->vm=.int .i64 (n:Int))/\(L[12]?=some true->vi=.pointer (some ⟨b,o+n*2,none⟩))/\(L[13]?=some true->vu=.pointer (some ⟨b,o+n*2,none⟩))/\(L[14]?=some true->vd=.string ⟨kx.toArray⟩)/\(L[15]?=some true->ve=.string ⟨bk.toArray⟩)/\(L[16]?=some true->vk=.bool true)/\(L[17]?=some true->vn=.bool true)/\(L[18]?=some true->vy=.bool true)/\(L[19]?=some true->vs=.string ⟨e.toArray⟩)/\(L[20]?=some true->vl=.bool true)/\(L[21]?=some true->vw=.bool true)/\(L[22]?=some true->va=undef)/\(L[23]?=some true->vc=undef)/\(L[24]?=some true->vb=undef)/\(L[25]?=some true->vf=undef)/\(L[26]?=some true->vq=.bool true)/\(L[27]?=some true->vo=.bool true)/\(L[28]?=some true->v6=.bool true)) (by rfl) ?_ ?_ ?_
  · exact ⟨_,_,_,_,_,_,_,_,_,_,_,_,_,_,_,_,_,_,_,_,_,_,_,_,_,_,_,_,_,rfl,BD,by simp,by simp,by simp,by simp,by simp,by simp,by simp,by simp,by simp,by simp,by simp,by simp,by simp,by simp,by simp,by simp,by simp,by simp,by simp,by simp,by simp,by simp,by simp,by simp,by simp,by simp,by simp,by simp,by simp⟩
  · intro L a w1' hL hI j o ho hj K hK
    obtain ⟨v7,v8,v9,vg,vp,vz,vr,vt,vv,vh,vj,vm,vi,vu,vd,ve,vk,vn,vy,vs,vl,vw,va,vc,vb,vf,vq,vo,v6,rfl,hB,h0,h1,h2,h3,h4,h5,h6,h7,h8,h9,hk,ht,hg,hh,hp,hc,hb,hv,hC,hf,hA,ha,hz,hy,hD,hw,hs,hq,hu⟩:=hI
    obtain ⟨b0,b1,b2,b3,b4,b5,b6,b7,b8,b9,bn,bo,bf,bb,bc,bp,bs,br,bh,ba,bd,bq,bi,bm,bj,bl,bt,bg,be,rfl⟩:∃ b0 b1 b2 b3 b4 b5 b6 b7 b8 b9 bn bo bf bb bc bp bs br bh ba bd bq bi bm bj bl bt bg be,L=[b0,b1,b2,b3,b4,b5,b6,b7,b8,b9,bn,bo,bf,bb,bc,bp,bs,br,bh,ba,bd,bq,bi,bm,bj,bl,bt,bg,be]:=by
      match L,hL with
      | [b0,b1,b2,b3,b4,b5,b6,b7,b8,b9,bn,bo,bf,bb,bc,bp,bs,br,bh,ba,bd,bq,bi,bm,bj,bl,bt,bg,be],_=>exact ⟨b0,b1,b2,b3,b4,b5,b6,b7,b8,b9,bn,bo,bf,bb,bc,bp,bs,br,bh,ba,bd,bq,bi,bm,bj,bl,bt,bg,be,rfl⟩
    have hi2:=(List.mem_filter.1 hj).2
    clear hj hL
    obtain ⟨-,p0,p1,p2⟩:=HS.out _ hB
    rcases j with _ | _ | _ | _ | _ | _ | _ | _ | _ | _ | _ | _ | _ | _ | _ | _ | _ | _ | _ | _ | _ | _ | _ | _ | _ | _ | _ | _ | _ | j
    · obtain rfl:=Option.some.inj ho
      clear ho hi2
      rw [if_pos (by rfl)]
      go_simp
      exact hK _ _ ⟨_,v8,v9,vg,vp,vz,vr,vt,vv,vh,vj,vm,vi,vu,vd,ve,vk,vn,vy,vs,vl,vw,va,vc,vb,vf,vq,vo,v6,rfl,hB,fun _=>rfl,h1,h2,h3,h4,h5,h6,h7,h8,h9,hk,ht,hg,hh,hp,hc,hb,hv,hC,hf,hA,ha,hz,hy,hD,hw,hs,hq,hu⟩
    · obtain rfl:=Option.some.inj ho
      simp [Region.binds] at hi2
      obtain rfl:=h0 (by simp [hi2])
      clear ho hi2
      rw [if_pos (by rfl)]
      go_simp
      exact hK _ _ ⟨_,_,v9,vg,vp,vz,vr,vt,vv,vh,vj,vm,vi,vu,vd,ve,vk,vn,vy,vs,vl,vw,va,vc,vb,vf,vq,vo,v6,rfl,hB,fun _=>rfl,fun _=>rfl,h2,h3,h4,h5,h6,h7,h8,h9,hk,ht,hg,hh,hp,hc,hb,hv,hC,hf,hA,ha,hz,hy,hD,hw,hs,hq,hu⟩
    · obtain rfl:=Option.some.inj ho
      simp [Region.binds] at hi2
      obtain rfl:=h1 (by simp [hi2])
      clear ho hi2
      rw [if_pos (by rfl)]
      go_simp
      exact hK _ _ ⟨v7,_,_,vg,vp,vz,vr,vt,vv,vh,vj,vm,vi,vu,vd,ve,vk,vn,vy,vs,vl,vw,va,vc,vb,vf,vq,vo,v6,rfl,hB,h0,fun _=>rfl,fun _=>rfl,h3,h4,h5,h6,h7,h8,h9,hk,ht,hg,hh,hp,hc,hb,hv,hC,hf,hA,ha,hz,hy,hD,hw,hs,hq,hu⟩
    · obtain rfl:=Option.some.inj ho
      clear ho hi2
      rw [if_pos (by rfl)]
      go_simp
      exact hK _ _ ⟨v7,v8,v9,_,vp,vz,vr,vt,vv,vh,vj,vm,vi,vu,vd,ve,vk,vn,vy,vs,vl,vw,va,vc,vb,vf,vq,vo,v6,rfl,hB,h0,h1,h2,fun _=>rfl,h4,h5,h6,h7,h8,h9,hk,ht,hg,hh,hp,hc,hb,hv,hC,hf,hA,ha,hz,hy,hD,hw,hs,hq,hu⟩
    · obtain rfl:=Option.some.inj ho
      simp [Region.binds] at hi2
      obtain rfl:=h2 (by simp [hi2])
      obtain rfl:=h3 (by simp [hi2])
      clear ho hi2
      rw [if_pos (by rfl)]
      go_simp
      exact hK _ _ ⟨v7,v8,_,_,_,vz,vr,vt,vv,vh,vj,vm,vi,vu,vd,ve,vk,vn,vy,vs,vl,vw,va,vc,vb,vf,vq,vo,v6,rfl,hB,h0,h1,fun _=>rfl,fun _=>rfl,fun _=>rfl,h5,h6,h7,h8,h9,hk,ht,hg,hh,hp,hc,hb,hv,hC,hf,hA,ha,hz,hy,hD,hw,hs,hq,hu⟩
    · obtain rfl:=Option.some.inj ho
      simp [Region.binds] at hi2
      obtain rfl:=h4 (by simp [hi2])
      clear ho hi2
      rw [if_pos (by rfl)]
      go_simp
      exact hK _ _ ⟨v7,v8,v9,vg,_,_,vr,vt,vv,vh,vj,vm,vi,vu,vd,ve,vk,vn,vy,vs,vl,vw,va,vc,vb,vf,vq,vo,v6,rfl,hB,h0,h1,h2,h3,fun _=>rfl,fun _=>rfl,h6,h7,h8,h9,hk,ht,hg,hh,hp,hc,hb,hv,hC,hf,hA,ha,hz,hy,hD,hw,hs,hq,hu⟩
    · obtain rfl:=Option.some.inj ho
      simp [Region.binds] at hi2
      obtain rfl:=h5 (by simp [hi2])
      clear ho hi2
      rw [if_pos (by rfl)]
      go_simp
      exact hK _ _ ⟨v7,v8,v9,vg,vp,_,_,vt,vv,vh,vj,vm,vi,vu,vd,ve,vk,vn,vy,vs,vl,vw,va,vc,vb,vf,vq,vo,v6,rfl,hB,h0,h1,h2,h3,h4,fun _=>rfl,fun _=>rfl,h7,h8,h9,hk,ht,hg,hh,hp,hc,hb,hv,hC,hf,hA,ha,hz,hy,hD,hw,hs,hq,hu⟩
    · obtain rfl:=Option.some.inj ho
      simp [Region.binds] at hi2
      obtain rfl:=h6 (by simp [hi2])
      obtain rfl:=h5 (by simp [hi2])
      clear ho hi2
      rw [if_pos (by rfl)]
      go_simp
      exact hK _ _ ⟨v7,v8,v9,vg,vp,_,_,_,vv,vh,vj,vm,vi,vu,vd,ve,vk,vn,vy,vs,vl,vw,va,vc,vb,vf,vq,vo,v6,rfl,hB,h0,h1,h2,h3,h4,fun _=>rfl,fun _=>rfl,fun _=>rfl,h8,h9,hk,ht,hg,hh,hp,hc,hb,hv,hC,hf,hA,ha,hz,hy,hD,hw,hs,hq,hu⟩
    · obtain rfl:=Option.some.inj ho
      simp [Region.binds] at hi2
      obtain rfl:=h5 (by simp [hi2])
      clear ho hi2
      rw [if_pos (by rfl)]
      go_simp
      exact hK _ _ ⟨v7,v8,v9,vg,vp,_,vr,vt,_,vh,vj,vm,vi,vu,vd,ve,vk,vn,vy,vs,vl,vw,va,vc,vb,vf,vq,vo,v6,rfl,hB,h0,h1,h2,h3,h4,fun _=>rfl,h6,h7,fun _=>rfl,h9,hk,ht,hg,hh,hp,hc,hb,hv,hC,hf,hA,ha,hz,hy,hD,hw,hs,hq,hu⟩
    · obtain rfl:=Option.some.inj ho
      simp [Region.binds] at hi2
      obtain rfl:=h8 (by simp [hi2])
      obtain rfl:=h5 (by simp [hi2])
      clear ho hi2
      rw [if_pos (by rfl)]
      go_simp
      exact hK _ _ ⟨v7,v8,v9,vg,vp,_,vr,vt,_,_,vj,vm,vi,vu,vd,ve,vk,vn,vy,vs,vl,vw,va,vc,vb,vf,vq,vo,v6,rfl,hB,h0,h1,h2,h3,h4,fun _=>rfl,h6,h7,fun _=>rfl,fun _=>rfl,hk,ht,hg,hh,hp,hc,hb,hv,hC,hf,hA,ha,hz,hy,hD,hw,hs,hq,hu⟩
    · obtain rfl:=Option.some.inj ho
      simp [Region.binds] at hi2
      obtain rfl:=h5 (by simp [hi2])
      clear ho hi2
      rw [if_pos (by rfl)]
      go_simp
      exact hK _ _ ⟨v7,v8,v9,vg,vp,_,vr,vt,vv,vh,_,vm,vi,vu,vd,ve,vk,vn,vy,vs,vl,vw,va,vc,vb,vf,vq,vo,v6,rfl,hB,h0,h1,h2,h3,h4,fun _=>rfl,h6,h7,h8,h9,fun _=>rfl,ht,hg,hh,hp,hc,hb,hv,hC,hf,hA,ha,hz,hy,hD,hw,hs,hq,hu⟩
    · obtain rfl:=Option.some.inj ho
      simp [Region.binds] at hi2
      obtain rfl:=hk (by simp [hi2])
      obtain rfl:=h5 (by simp [hi2])
      clear ho hi2
      rw [if_pos (by rfl)]
      go_simp
      exact hK _ _ ⟨v7,v8,v9,vg,vp,_,vr,vt,vv,vh,_,_,vi,vu,vd,ve,vk,vn,vy,vs,vl,vw,va,vc,vb,vf,vq,vo,v6,rfl,hB,h0,h1,h2,h3,h4,fun _=>rfl,h6,h7,h8,h9,fun _=>rfl,fun _=>rfl,hg,hh,hp,hc,hb,hv,hC,hf,hA,ha,hz,hy,hD,hw,hs,hq,hu⟩
    · obtain rfl:=Option.some.inj ho
      simp [Region.binds] at hi2
      obtain rfl:=h9 (by simp [hi2])
      obtain rfl:=ht (by simp [hi2])
      obtain rfl:=h5 (by simp [hi2])
      clear ho hi2
      rw [if_pos (by rfl)]
      go_simp
      exact hK _ _ ⟨v7,v8,v9,vg,vp,_,vr,vt,vv,_,vj,_,_,vu,vd,ve,vk,vn,vy,vs,vl,vw,va,vc,vb,vf,vq,vo,v6,rfl,hB,h0,h1,h2,h3,h4,fun _=>rfl,h6,h7,h8,fun _=>rfl,hk,fun _=>rfl,fun _=>rfl,hh,hp,hc,hb,hv,hC,hf,hA,ha,hz,hy,hD,hw,hs,hq,hu⟩
    · obtain rfl:=Option.some.inj ho
      simp [Region.binds] at hi2
      obtain rfl:=hg (by simp [hi2])
      obtain rfl:=h5 (by simp [hi2])
      clear ho hi2
      rw [if_pos (by rfl)]
      go_simp
      exact hK _ _ ⟨v7,v8,v9,vg,vp,_,vr,vt,vv,vh,vj,vm,_,_,vd,ve,vk,vn,vy,vs,vl,vw,va,vc,vb,vf,vq,vo,v6,rfl,hB,h0,h1,h2,h3,h4,fun _=>rfl,h6,h7,h8,h9,hk,ht,fun _=>rfl,fun _=>rfl,hp,hc,hb,hv,hC,hf,hA,ha,hz,hy,hD,hw,hs,hq,hu⟩
    · obtain rfl:=Option.some.inj ho
      simp [Region.binds] at hi2
      obtain rfl:=hh (by simp [hi2])
      obtain rfl:=h5 (by simp [hi2])
      clear ho hi2
      rw [if_pos (by rfl)]
      go_simp
      exact hK _ _ ⟨v7,v8,v9,vg,vp,_,vr,vt,vv,vh,vj,vm,vi,_,_,ve,vk,vn,vy,vs,vl,vw,va,vc,vb,vf,vq,vo,v6,rfl,hB,h0,h1,h2,h3,h4,fun _=>rfl,h6,h7,h8,h9,hk,ht,hg,fun _=>rfl,fun _=>rfl,hc,hb,hv,hC,hf,hA,ha,hz,hy,hD,hw,hs,hq,hu⟩
    · obtain rfl:=Option.some.inj ho
      simp [Region.binds] at hi2
      obtain rfl:=hp (by simp [hi2])
      obtain rfl:=h5 (by simp [hi2])
      clear ho hi2
      rw [if_pos (by rfl)]
      go_simp
      refine (HBH.out _ hB).mono ?_
      rintro r w2 ⟨rfl,hB2⟩
      exact hK _ _ ⟨v7,v8,v9,vg,vp,_,vr,vt,vv,vh,vj,vm,vi,vu,_,_,vk,vn,vy,vs,vl,vw,va,vc,vb,vf,vq,vo,v6,rfl,hB2,h0,h1,h2,h3,h4,fun _=>rfl,h6,h7,h8,h9,hk,ht,hg,hh,fun _=>rfl,fun _=>rfl,hb,hv,hC,hf,hA,ha,hz,hy,hD,hw,hs,hq,hu⟩
    · obtain rfl:=Option.some.inj ho
      simp [Region.binds] at hi2
      obtain rfl:=h7 (by simp [hi2])
      obtain rfl:=hc (by simp [hi2])
      obtain rfl:=h5 (by simp [hi2])
      clear ho hi2
      rw [if_pos (by rfl)]
      go_simp
      exact hK _ _ ⟨v7,v8,v9,vg,vp,_,vr,_,vv,vh,vj,vm,vi,vu,vd,_,_,vn,vy,vs,vl,vw,va,vc,vb,vf,vq,vo,v6,rfl,hB,h0,h1,h2,h3,h4,fun _=>rfl,h6,fun _=>rfl,h8,h9,hk,ht,hg,hh,hp,fun _=>rfl,fun _=>rfl,hv,hC,hf,hA,ha,hz,hy,hD,hw,hs,hq,hu⟩
    · obtain rfl:=Option.some.inj ho
      simp [Region.binds] at hi2
      obtain rfl:=h5 (by simp [hi2])
      obtain rfl:=hb (by simp [hi2])
      clear ho hi2
      rw [if_pos (by rfl)]
      go_simp
      exact hK _ _ ⟨v7,v8,v9,vg,vp,_,vr,vt,vv,vh,vj,vm,vi,vu,vd,ve,_,_,vy,vs,vl,vw,va,vc,vb,vf,vq,vo,v6,rfl,hB,h0,h1,h2,h3,h4,fun _=>rfl,h6,h7,h8,h9,hk,ht,hg,hh,hp,hc,fun _=>rfl,fun _=>rfl,hC,hf,hA,ha,hz,hy,hD,hw,hs,hq,hu⟩
    · obtain rfl:=Option.some.inj ho
      simp [Region.binds] at hi2
      obtain rfl:=hv (by simp [hi2])
      clear ho hi2
      rw [if_pos (by rfl)]
      go_simp
      exact hK _ _ ⟨v7,v8,v9,vg,vp,vz,vr,vt,vv,vh,vj,vm,vi,vu,vd,ve,vk,_,_,vs,vl,vw,va,vc,vb,vf,vq,vo,v6,rfl,hB,h0,h1,h2,h3,h4,h5,h6,h7,h8,h9,hk,ht,hg,hh,hp,hc,hb,fun _=>rfl,fun _=>rfl,hf,hA,ha,hz,hy,hD,hw,hs,hq,hu⟩
    · obtain rfl:=Option.some.inj ho
      simp [Region.binds] at hi2
      obtain rfl:=hC (by simp [hi2])
      clear ho hi2
      rw [if_pos (by rfl)]
      go_simp
      exact hK _ _ ⟨v7,v8,v9,vg,vp,vz,vr,vt,vv,vh,vj,vm,vi,vu,vd,ve,vk,vn,_,_,vl,vw,va,vc,vb,vf,vq,vo,v6,rfl,hB,h0,h1,h2,h3,h4,h5,h6,h7,h8,h9,hk,ht,hg,hh,hp,hc,hb,hv,fun _=>rfl,fun _=>rfl,hA,ha,hz,hy,hD,hw,hs,hq,hu⟩
    · obtain rfl:=Option.some.inj ho
      simp [Region.binds] at hi2
      obtain rfl:=hf (by simp [hi2])
      obtain rfl:=hC (by simp [hi2])
      clear ho hi2
      rw [if_pos (by rfl)]
      go_simp
      exact hK _ _ ⟨v7,v8,v9,vg,vp,vz,vr,vt,vv,vh,vj,vm,vi,vu,vd,ve,vk,vn,_,_,_,vw,va,vc,vb,vf,vq,vo,v6,rfl,hB,h0,h1,h2,h3,h4,h5,h6,h7,h8,h9,hk,ht,hg,hh,hp,hc,hb,hv,fun _=>rfl,fun _=>rfl,fun _=>rfl,ha,hz,hy,hD,hw,hs,hq,hu⟩
    · obtain rfl:=Option.some.inj ho
      simp [Region.binds] at hi2
      obtain rfl:=hA (by simp [hi2])
      obtain rfl:=hC (by simp [hi2])
      clear ho hi2
      rw [if_pos (by rfl)]
      go_simp
      exact hK _ _ ⟨v7,v8,v9,vg,vp,vz,vr,vt,vv,vh,vj,vm,vi,vu,vd,ve,vk,vn,_,vs,_,_,va,vc,vb,vf,vq,vo,v6,rfl,hB,h0,h1,h2,h3,h4,h5,h6,h7,h8,h9,hk,ht,hg,hh,hp,hc,hb,hv,fun _=>rfl,hf,fun _=>rfl,fun _=>rfl,hz,hy,hD,hw,hs,hq,hu⟩
    · obtain rfl:=Option.some.inj ho
      simp [Region.binds] at hi2
      obtain rfl:=ha (by simp [hi2])
      clear ho hi2
      rw [if_neg (by rw [show Region.wanted _ _=false from rfl]; decide)]
      exact hK _ _ ⟨v7,v8,v9,vg,vp,vz,vr,vt,vv,vh,vj,vm,vi,vu,vd,ve,vk,vn,vy,vs,vl,_,_,vc,vb,vf,vq,vo,v6,rfl,hB,h0,h1,h2,h3,h4,h5,h6,h7,h8,h9,hk,ht,hg,hh,hp,hc,hb,hv,hC,hf,hA,fun _=>rfl,fun _=>rfl,hy,hD,hw,hs,hq,hu⟩
    · obtain rfl:=Option.some.inj ho
      simp [Region.binds] at hi2
      obtain rfl:=ha (by simp [hi2])
      clear ho hi2
      rw [if_neg (by rw [show Region.wanted _ _=false from rfl]; decide)]
      exact hK _ _ ⟨v7,v8,v9,vg,vp,vz,vr,vt,vv,vh,vj,vm,vi,vu,vd,ve,vk,vn,vy,vs,vl,_,va,_,vb,vf,vq,vo,v6,rfl,hB,h0,h1,h2,h3,h4,h5,h6,h7,h8,h9,hk,ht,hg,hh,hp,hc,hb,hv,hC,hf,hA,fun _=>rfl,hz,fun _=>rfl,hD,hw,hs,hq,hu⟩
    · obtain rfl:=Option.some.inj ho
      simp [Region.binds] at hi2
      obtain rfl:=ha (by simp [hi2])
      clear ho hi2
      rw [if_neg (by rw [show Region.wanted _ _=false from rfl]; decide)]
      exact hK _ _ ⟨v7,v8,v9,vg,vp,vz,vr,vt,vv,vh,vj,vm,vi,vu,vd,ve,vk,vn,vy,vs,vl,_,va,vc,_,vf,vq,vo,v6,rfl,hB,h0,h1,h2,h3,h4,h5,h6,h7,h8,h9,hk,ht,hg,hh,hp,hc,hb,hv,hC,hf,hA,fun _=>rfl,hz,hy,fun _=>rfl,hw,hs,hq,hu⟩
    · obtain rfl:=Option.some.inj ho
      simp [Region.binds] at hi2
      obtain rfl:=ha (by simp [hi2])
      clear ho hi2
      rw [if_neg (by rw [show Region.wanted _ _=false from rfl]; decide)]
      exact hK _ _ ⟨v7,v8,v9,vg,vp,vz,vr,vt,vv,vh,vj,vm,vi,vu,vd,ve,vk,vn,vy,vs,vl,_,va,vc,vb,_,vq,vo,v6,rfl,hB,h0,h1,h2,h3,h4,h5,h6,h7,h8,h9,hk,ht,hg,hh,hp,hc,hb,hv,hC,hf,hA,fun _=>rfl,hz,hy,hD,fun _=>rfl,hs,hq,hu⟩
    · obtain rfl:=Option.some.inj ho
      simp [Region.binds] at hi2
      obtain rfl:=ha (by simp [hi2])
      obtain rfl:=hw (by simp [hi2])
      obtain rfl:=hC (by simp [hi2])
      clear ho hi2
      rw [if_pos (by rfl)]
      go_simp
      exact hK _ _ ⟨v7,v8,v9,vg,vp,vz,vr,vt,vv,vh,vj,vm,vi,vu,vd,ve,vk,vn,_,vs,vl,_,va,vc,vb,_,_,vo,v6,rfl,hB,h0,h1,h2,h3,h4,h5,h6,h7,h8,h9,hk,ht,hg,hh,hp,hc,hb,hv,fun _=>rfl,hf,hA,fun _=>rfl,hz,hy,hD,fun _=>rfl,fun _=>rfl,hq,hu⟩
    · obtain rfl:=Option.some.inj ho
      simp [Region.binds] at hi2
      obtain rfl:=hC (by simp [hi2])
      obtain rfl:=hs (by simp [hi2])
      clear ho hi2
      rw [if_pos (by rfl)]
      go_simp
      exact hK _ _ ⟨v7,v8,v9,vg,vp,vz,vr,vt,vv,vh,vj,vm,vi,vu,vd,ve,vk,vn,_,vs,vl,vw,va,vc,vb,vf,_,_,v6,rfl,hB,h0,h1,h2,h3,h4,h5,h6,h7,h8,h9,hk,ht,hg,hh,hp,hc,hb,hv,fun _=>rfl,hf,hA,ha,hz,hy,hD,hw,fun _=>rfl,fun _=>rfl,hu⟩
    · obtain rfl:=Option.some.inj ho
      simp [Region.binds] at hi2
      obtain rfl:=hq (by simp [hi2])
      clear ho hi2
      rw [if_pos (by rfl)]
      go_simp
      exact hK _ _ ⟨v7,v8,v9,vg,vp,vz,vr,vt,vv,vh,vj,vm,vi,vu,vd,ve,vk,vn,vy,vs,vl,vw,va,vc,vb,vf,vq,_,_,rfl,hB,h0,h1,h2,h3,h4,h5,h6,h7,h8,h9,hk,ht,hg,hh,hp,hc,hb,hv,hC,hf,hA,ha,hz,hy,hD,hw,hs,fun _=>rfl,fun _=>rfl⟩
    · simp at ho
  · intro L a w2 hL hr hI
    obtain ⟨v7,v8,v9,vg,vp,vz,vr,vt,vv,vh,vj,vm,vi,vu,vd,ve,vk,vn,vy,vs,vl,vw,va,vc,vb,vf,vq,vo,v6,rfl,hB,h0,h1,h2,h3,h4,h5,h6,h7,h8,h9,hk,ht,hg,hh,hp,hc,hb,hv,hC,hf,hA,ha,hz,hy,hD,hw,hs,hq,hu⟩:=hI
    obtain ⟨b0,b1,b2,b3,b4,b5,b6,b7,b8,b9,bn,bo,bf,bb,bc,bp,bs,br,bh,ba,bd,bq,bi,bm,bj,bl,bt,bg,be,rfl⟩:∃ b0 b1 b2 b3 b4 b5 b6 b7 b8 b9 bn bo bf bb bc bp bs br bh ba bd bq bi bm bj bl bt bg be,L=[b0,b1,b2,b3,b4,b5,b6,b7,b8,b9,bn,bo,bf,bb,bc,bp,bs,br,bh,ba,bd,bq,bi,bm,bj,bl,bt,bg,be]:=by
      match L,hL with
      | [b0,b1,b2,b3,b4,b5,b6,b7,b8,b9,bn,bo,bf,bb,bc,bp,bs,br,bh,ba,bd,bq,bi,bm,bj,bl,bt,bg,be],_=>exact ⟨b0,b1,b2,b3,b4,b5,b6,b7,b8,b9,bn,bo,bf,bb,bc,bp,bs,br,bh,ba,bd,bq,bi,bm,bj,bl,bt,bg,be,rfl⟩
    have hr2:=List.filter_eq_nil_iff.1 hr
    clear hr hL
    have k0:=hr2 0 (by simp)
    have k1:=hr2 1 (by simp)
    have k2:=hr2 2 (by simp)
    have k3:=hr2 3 (by simp)
    have k4:=hr2 4 (by simp)
    have k5:=hr2 5 (by simp)
    have k6:=hr2 6 (by simp)
    have k7:=hr2 7 (by simp)
    have k8:=hr2 8 (by simp)
    have k9:=hr2 9 (by simp)
    have kr:=hr2 10 (by simp)
    have kh:=hr2 11 (by simp)
    have kl:=hr2 12 (by simp)
    have ki:=hr2 13 (by simp)
    have kq:=hr2 14 (by simp)
    have km:=hr2 15 (by simp)
    have kd:=hr2 16 (by simp)
    have ke:=hr2 17 (by simp)
    have ks:=hr2 18 (by simp)
    have kj:=hr2 19 (by simp)
    have ka:=hr2 20 (by simp)
    have kp:=hr2 21 (by simp)
    have kf:=hr2 22 (by simp)
    have ko:=hr2 23 (by simp)
    have kg:=hr2 24 (by simp)
    have kc:=hr2 25 (by simp)
    have kn:=hr2 26 (by simp)
    have kb:=hr2 27 (by simp)
    have kk:=hr2 28 (by simp)
    clear hr2
    simp [Region.binds] at k0
    subst k0
    simp [Region.binds] at k1
    subst k1
    simp [Region.binds] at k2
    subst k2
    simp [Region.binds] at k3
    subst k3
    simp [Region.binds] at k4
    subst k4
    simp [Region.binds] at k5
    subst k5
    simp [Region.binds] at k6
    subst k6
    simp [Region.binds] at k7
    subst k7
    simp [Region.binds] at k8
    subst k8
    simp [Region.binds] at k9
    subst k9
    simp [Region.binds] at kr
    subst kr
    simp [Region.binds] at kh
    subst kh
    simp [Region.binds] at kl
    subst kl
    simp [Region.binds] at ki
    subst ki
    simp [Region.binds] at kq
    subst kq
    simp [Region.binds] at km
    subst km
    simp [Region.binds] at kd
    subst kd
    simp [Region.binds] at ke
    subst ke
    simp [Region.binds] at ks
    subst ks
    simp [Region.binds] at kj
    subst kj
    simp [Region.binds] at ka
    subst ka
    simp [Region.binds] at kp
    subst kp
    simp [Region.binds] at kf
    subst kf
    simp [Region.binds] at ko
    subst ko
    simp [Region.binds] at kg
    subst kg
    simp [Region.binds] at kc
    subst kc
    simp [Region.binds] at kn
    subst kn
    simp [Region.binds] at kb
    subst kb
    simp [Region.binds] at kk
    subst kk
    obtain rfl:=h0 rfl
    obtain rfl:=h1 rfl
    obtain rfl:=h2 rfl
    obtain rfl:=h3 rfl
    obtain rfl:=h4 rfl
    obtain rfl:=h5 rfl
    obtain rfl:=h6 rfl
    obtain rfl:=h7 rfl
    obtain rfl:=h8 rfl
    obtain rfl:=h9 rfl
    obtain rfl:=hk rfl
    obtain rfl:=ht rfl
    obtain rfl:=hg rfl
    obtain rfl:=hh rfl
    obtain rfl:=hp rfl
    obtain rfl:=hc rfl
    obtain rfl:=hb rfl
    obtain rfl:=hv rfl
    obtain rfl:=hC rfl
    obtain rfl:=hf rfl
    obtain rfl:=hA rfl
    obtain rfl:=ha rfl
    obtain rfl:=hz rfl
    obtain rfl:=hy rfl
    obtain rfl:=hD rfl
    obtain rfl:=hw rfl
    obtain rfl:=hs rfl
    obtain rfl:=hq rfl
    obtain rfl:=hu rfl
    have HBF:=qh (bchain HB.out hB)
    go_wp2
    go_ret
    exact ⟨rfl,HBF.out⟩
theorem spgoes_B (zi:Value) (I:St) (x:T) (zn:Value) (e:T) (m:Int) (w:World) (hi:ItIn w zi I) (hm:1<=m/\m<=16) (hl:(I.length:Int)=m) (hx:x=Scn.behind (I.getD (m.toNat - 1) ([],[])).1) (he:¬ e=[]):
    Calls Tryz.prog 43 #[.agg #[zi,.string ⟨x.toArray⟩,zn],.string ⟨e.toArray⟩,.int .i64 m] w fun r w'=>r=.returned (.bool (Spn.goesP I x e m))/\Below w.heap.size w w':=by
  obtain ⟨A,cap,rfl,-,-⟩:=hi.form
  obtain ⟨w0,hw0⟩:∃ w0,w.alloc (.cells #[.slice A I.length cap,.string ⟨x.toArray⟩,zn] 31)=w0:=⟨_,rfl⟩
  have hb0:Below w.heap.size w w0:=by rw [← hw0]; exact (Below.refl _ w).alloc (Nat.le_refl _) _
  have ra:w0.heap[w.heap.size]?=some (.cells #[.slice A I.length cap,.string ⟨x.toArray⟩,zn] 31 (0,0)):=by rw [← hw0]; exact heap_alloc_new w _
  have HP:Hid (∀ w',Below w0.heap.size w0 w'->w'.cell? ⟨w.heap.size,0,none⟩=some (.slice A I.length cap)/\w'.cell? ⟨w.heap.size,1,none⟩=some (.string ⟨x.toArray⟩)):=qh (fun w' h=>by
    have r:=(h.block _ (lt_of_heap ra)).trans ra
    exact ⟨by rw [cell_of_row _ _ 0 _ _ _ r]; rfl,by rw [cell_of_row _ _ 1 _ _ _ r]; rfl⟩)
  have HB:=qh hb0
  have hi0:=RowsIn.below hi hb0
  unfold Spn.goesP
  obtain ⟨n,hn⟩:∃ n,I.length=n+1:=⟨I.length - 1,by omega⟩
  have hmn:m=(n:Int)+1:=by omega
  subst hmn
  have hgd:I.getD (((n:Int)+1).toNat - 1) ([],[])=I[n]'(by omega):=by
    rw [show ((n:Int)+1).toNat - 1=n from by omega,List.getD_eq_getElem?_getD,List.getElem?_eq_getElem (by omega),Option.getD_some]
  rw [decide_eq_true hl,Bool.true_and,hgd]
  rw [hgd] at hx
  obtain ⟨b,o,rfl,n0,n1⟩:=ItIn.at hi0 n (by omega)
  obtain ⟨⟨kx,vx⟩,hkx⟩:∃ y,I[n]'(by omega)=y:=⟨_,rfl⟩
  rw [hkx] at n0 n1 hx ⊢
  dsimp only at n0 n1 hx ⊢
  have HIT:Hid (∀ w',Below w0.heap.size w0 w'->w'.cell? ⟨b,o+n*2,none⟩=some (.string ⟨kx.toArray⟩)):=qh (fun w' h=>(h.cell (World.block_lt_of_cell? _ _ n0)).trans n0)
  obtain ⟨bk,hbk⟩:∃ bk,Scn.behind kx=bk:=⟨_,rfl⟩
  have HBH:Hid (∀ w',Below w0.heap.size w0 w'->Calls Tryz.prog 65 #[.string ⟨kx.toArray⟩] w' fun r w''=>r=.returned (.string ⟨bk.toArray⟩)/\Below w0.heap.size w0 w''):=qh (fun w' h=>by
    have h1:=behind_all kx w'
    rw [hbk] at h1
    exact h1.mono fun r w'' ⟨q1,q2⟩=>⟨q1,bchain h q2⟩)
  rw [hbk] at hx ⊢
  have HS:Hid (∀ w',Below w0.heap.size w0 w'->Below w0.heap.size w0 w'/\w'.cell? ⟨w.heap.size,0,none⟩=some (.slice (some ⟨b,o,none⟩) (n+1) cap)/\w'.cell? ⟨w.heap.size,1,none⟩=some (.string ⟨x.toArray⟩)/\w'.cell? ⟨b,o+n*2,none⟩=some (.string ⟨kx.toArray⟩)):=qh (fun w' h=>
    ⟨h,by rw [← hn]; exact (HP.out w' h).1,(HP.out w' h).2,HIT.out w' h⟩)
  rw [hn] at hw0 ⊢
  have BD:Below w0.heap.size w0 w0.drew:=(Below.refl _ _).drew
  have y0:(0:Int)<=(n:Int):=by omega
  have y1:(n:Int)<(n:Int)+1:=by omega
  have y2:(n:Int)<=100:=by omega
  have y3:IntKind.i64.wrap ((n:Int)+1 - 1)=(n:Int):=by unfold IntKind.wrap; simp [IntKind.bits,IntKind.signed]; omega
  have y4:IntKind.i64.wrap (n:Int)=(n:Int):=by unfold IntKind.wrap; simp [IntKind.bits,IntKind.signed]; omega
  clear hl hi hb0 ra hi0 hgd n0 n1 hkx hbk hn hm HP HIT
  have q1:(x == bk)=true:=beq_iff_eq.2 hx
  rw [decide_eq_true hx,Bool.true_and]
  clear hx
  have q2:(e == [])=false:=beq_eq_false_iff_ne.2 he
  have q3:e.isEmpty=false:=by cases e <;> simp_all
  obtain ⟨lt,hlt⟩:∃ lt,decide (x<e)=lt:=⟨_,rfl⟩
  have q4:Op.bytesLess x e=lt:=by rw [less_lt]; exact hlt
  rw [decide_eq_false he,Bool.false_or,hlt]
  clear he hlt
  go_enter Tryz.func43,Tryz.ntmps43
  go_upto_region 1 with fail
  clear hw0
  refine region_inv (fun L a w'=>∃ v7 v8 v9 vf vp vz vr vt vv vg vj vm vh vu vb vd vk vn vy vs vl vw va vi vc ve vq vo v6:Value,a=⟨#[.agg #[.slice (some ⟨b,o,none⟩) (n+1) cap,.string ⟨x.toArray⟩,zn],.string ⟨e.toArray⟩,.int .i64 ((n:Int)+1),.pointer (some ⟨w.heap.size,0,none⟩),undef,undef,v6,v7,v8,v9,vf,vp,vz,vr,vt,vv,vg,vj,vm,vh,vu,vb,vd,vk,vn,vy,vs,vl,vw,va,vi,vc,ve,vq,vo],[]⟩/\Below w0.heap.size w0 w'/\(L[0]?=some true->v7=.pointer (some ⟨w.heap.size,0,none⟩))/\(L[1]?=some true->v8=.slice (some ⟨b,o,none⟩) (n+1) cap)/\(L[2]?=some true->v9=.int .i64 ((n:Int)+1))/\(L[3]?=some true->vf=.int .i64 ((n:Int)+1))/\(L[4]?=some true->vp=.bool true)/\(L[5]?=some true->vz=.bool true)/\(L[6]?=some true->vr=.pointer (some ⟨w.heap.size,1,none⟩))/\(L[7]?=some true->vt=.string ⟨x.toArray⟩)/\(L[8]?=some true->vv=.pointer (some ⟨w.heap.size,0,none⟩))/\(L[9]?=some true->vg=.slice (some ⟨b,o,none⟩) (n+1) cap)/\(L[10]?=some true->vj=.int .i64 ((n:Int)+1))/\(L[11]?=some true->vm=.int .i64 (n:Int))/\(L[12]?=some true->vh=.pointer (some ⟨b,o+n*2,none⟩))/\(L[13]?=some true->vu=.pointer (some ⟨b,o+n*2,none⟩))/\(L[14]?=some true->vb=.string ⟨kx.toArray⟩)/\(L[15]?=some true->vd=.string ⟨bk.toArray⟩)/\(L[16]?=some true->vk=.bool true)/\(L[17]?=some true->vn=.bool true)/\(L[18]?=some true->vy=.bool true)/\(L[19]?=some true->vs=.string ⟨e.toArray⟩)/\(L[20]?=some true->vl=.bool false)/\(L[21]?=some true->vw=.bool false)/\(L[22]?=some true->va=.pointer (some ⟨w.heap.size,1,none⟩))/\(L[23]?=some true->vi=.string ⟨x.toArray⟩)/\(L[24]?=some true->vc=.string ⟨e.toArray⟩)/\(L[25]?=some true->ve=.bool lt)/\(L[26]?=some true->vq=.bool lt)/\(L[27]?=some true->vo=.bool lt)/\(L[28]?=some true->v6=.bool lt)) (by rfl) ?_ ?_ ?_
  · exact ⟨_,_,_,_,_,_,_,_,_,_,_,_,_,_,_,_,_,_,_,_,_,_,_,_,_,_,_,_,_,rfl,BD,by simp,by simp,by simp,by simp,by simp,by simp,by simp,by simp,by simp,by simp,by simp,by simp,by simp,by simp,by simp,by simp,by simp,by simp,by simp,by simp,by simp,by simp,by simp,by simp,by simp,by simp,by simp,by simp,by simp⟩
  · intro L a w1' hL hI j o ho hj K hK
    obtain ⟨v7,v8,v9,vf,vp,vz,vr,vt,vv,vg,vj,vm,vh,vu,vb,vd,vk,vn,vy,vs,vl,vw,va,vi,vc,ve,vq,vo,v6,rfl,hB,h0,h1,h2,h3,h4,h5,h6,h7,h8,h9,hk,ht,hg,hh,hp,hc,hb,hv,hC,hf,hA,ha,hz,hy,hD,hw,hs,hq,hu⟩:=hI
    obtain ⟨b0,b1,b2,b3,b4,b5,b6,b7,b8,b9,bn,bo,bf,bb,bc,bp,bs,br,bh,ba,bd,bq,bi,bm,bj,bl,bt,bg,be,rfl⟩:∃ b0 b1 b2 b3 b4 b5 b6 b7 b8 b9 bn bo bf bb bc bp bs br bh ba bd bq bi bm bj bl bt bg be,L=[b0,b1,b2,b3,b4,b5,b6,b7,b8,b9,bn,bo,bf,bb,bc,bp,bs,br,bh,ba,bd,bq,bi,bm,bj,bl,bt,bg,be]:=by
      match L,hL with
      | [b0,b1,b2,b3,b4,b5,b6,b7,b8,b9,bn,bo,bf,bb,bc,bp,bs,br,bh,ba,bd,bq,bi,bm,bj,bl,bt,bg,be],_=>exact ⟨b0,b1,b2,b3,b4,b5,b6,b7,b8,b9,bn,bo,bf,bb,bc,bp,bs,br,bh,ba,bd,bq,bi,bm,bj,bl,bt,bg,be,rfl⟩
    have hi2:=(List.mem_filter.1 hj).2
    clear hj hL
    obtain ⟨-,p0,p1,p2⟩:=HS.out _ hB
    rcases j with _ | _ | _ | _ | _ | _ | _ | _ | _ | _ | _ | _ | _ | _ | _ | _ | _ | _ | _ | _ | _ | _ | _ | _ | _ | _ | _ | _ | _ | j
    · obtain rfl:=Option.some.inj ho
      clear ho hi2
      rw [if_pos (by rfl)]
      go_simp
      exact hK _ _ ⟨_,v8,v9,vf,vp,vz,vr,vt,vv,vg,vj,vm,vh,vu,vb,vd,vk,vn,vy,vs,vl,vw,va,vi,vc,ve,vq,vo,v6,rfl,hB,fun _=>rfl,h1,h2,h3,h4,h5,h6,h7,h8,h9,hk,ht,hg,hh,hp,hc,hb,hv,hC,hf,hA,ha,hz,hy,hD,hw,hs,hq,hu⟩
    · obtain rfl:=Option.some.inj ho
      simp [Region.binds] at hi2
      obtain rfl:=h0 (by simp [hi2])
      clear ho hi2
      rw [if_pos (by rfl)]
      go_simp
      exact hK _ _ ⟨_,_,v9,vf,vp,vz,vr,vt,vv,vg,vj,vm,vh,vu,vb,vd,vk,vn,vy,vs,vl,vw,va,vi,vc,ve,vq,vo,v6,rfl,hB,fun _=>rfl,fun _=>rfl,h2,h3,h4,h5,h6,h7,h8,h9,hk,ht,hg,hh,hp,hc,hb,hv,hC,hf,hA,ha,hz,hy,hD,hw,hs,hq,hu⟩
    · obtain rfl:=Option.some.inj ho
      simp [Region.binds] at hi2
      obtain rfl:=h1 (by simp [hi2])
      clear ho hi2
      rw [if_pos (by rfl)]
      go_simp
      exact hK _ _ ⟨v7,_,_,vf,vp,vz,vr,vt,vv,vg,vj,vm,vh,vu,vb,vd,vk,vn,vy,vs,vl,vw,va,vi,vc,ve,vq,vo,v6,rfl,hB,h0,fun _=>rfl,fun _=>rfl,h3,h4,h5,h6,h7,h8,h9,hk,ht,hg,hh,hp,hc,hb,hv,hC,hf,hA,ha,hz,hy,hD,hw,hs,hq,hu⟩
    · obtain rfl:=Option.some.inj ho
      clear ho hi2
      rw [if_pos (by rfl)]
      go_simp
      exact hK _ _ ⟨v7,v8,v9,_,vp,vz,vr,vt,vv,vg,vj,vm,vh,vu,vb,vd,vk,vn,vy,vs,vl,vw,va,vi,vc,ve,vq,vo,v6,rfl,hB,h0,h1,h2,fun _=>rfl,h4,h5,h6,h7,h8,h9,hk,ht,hg,hh,hp,hc,hb,hv,hC,hf,hA,ha,hz,hy,hD,hw,hs,hq,hu⟩
    · obtain rfl:=Option.some.inj ho
      simp [Region.binds] at hi2
      obtain rfl:=h2 (by simp [hi2])
      obtain rfl:=h3 (by simp [hi2])
      clear ho hi2
      rw [if_pos (by rfl)]
      go_simp
      exact hK _ _ ⟨v7,v8,_,_,_,vz,vr,vt,vv,vg,vj,vm,vh,vu,vb,vd,vk,vn,vy,vs,vl,vw,va,vi,vc,ve,vq,vo,v6,rfl,hB,h0,h1,fun _=>rfl,fun _=>rfl,fun _=>rfl,h5,h6,h7,h8,h9,hk,ht,hg,hh,hp,hc,hb,hv,hC,hf,hA,ha,hz,hy,hD,hw,hs,hq,hu⟩
    · obtain rfl:=Option.some.inj ho
      simp [Region.binds] at hi2
      obtain rfl:=h4 (by simp [hi2])
      clear ho hi2
      rw [if_pos (by rfl)]
      go_simp
      exact hK _ _ ⟨v7,v8,v9,vf,_,_,vr,vt,vv,vg,vj,vm,vh,vu,vb,vd,vk,vn,vy,vs,vl,vw,va,vi,vc,ve,vq,vo,v6,rfl,hB,h0,h1,h2,h3,fun _=>rfl,fun _=>rfl,h6,h7,h8,h9,hk,ht,hg,hh,hp,hc,hb,hv,hC,hf,hA,ha,hz,hy,hD,hw,hs,hq,hu⟩
    · obtain rfl:=Option.some.inj ho
      simp [Region.binds] at hi2
      obtain rfl:=h5 (by simp [hi2])
      clear ho hi2
      rw [if_pos (by rfl)]
      go_simp
      exact hK _ _ ⟨v7,v8,v9,vf,vp,_,_,vt,vv,vg,vj,vm,vh,vu,vb,vd,vk,vn,vy,vs,vl,vw,va,vi,vc,ve,vq,vo,v6,rfl,hB,h0,h1,h2,h3,h4,fun _=>rfl,fun _=>rfl,h7,h8,h9,hk,ht,hg,hh,hp,hc,hb,hv,hC,hf,hA,ha,hz,hy,hD,hw,hs,hq,hu⟩
    · obtain rfl:=Option.some.inj ho
      simp [Region.binds] at hi2
      obtain rfl:=h6 (by simp [hi2])
      obtain rfl:=h5 (by simp [hi2])
      clear ho hi2
      rw [if_pos (by rfl)]
      go_simp
      exact hK _ _ ⟨v7,v8,v9,vf,vp,_,_,_,vv,vg,vj,vm,vh,vu,vb,vd,vk,vn,vy,vs,vl,vw,va,vi,vc,ve,vq,vo,v6,rfl,hB,h0,h1,h2,h3,h4,fun _=>rfl,fun _=>rfl,fun _=>rfl,h8,h9,hk,ht,hg,hh,hp,hc,hb,hv,hC,hf,hA,ha,hz,hy,hD,hw,hs,hq,hu⟩
    · obtain rfl:=Option.some.inj ho
      simp [Region.binds] at hi2
      obtain rfl:=h5 (by simp [hi2])
      clear ho hi2
      rw [if_pos (by rfl)]
      go_simp
      exact hK _ _ ⟨v7,v8,v9,vf,vp,_,vr,vt,_,vg,vj,vm,vh,vu,vb,vd,vk,vn,vy,vs,vl,vw,va,vi,vc,ve,vq,vo,v6,rfl,hB,h0,h1,h2,h3,h4,fun _=>rfl,h6,h7,fun _=>rfl,h9,hk,ht,hg,hh,hp,hc,hb,hv,hC,hf,hA,ha,hz,hy,hD,hw,hs,hq,hu⟩
    · obtain rfl:=Option.some.inj ho
      simp [Region.binds] at hi2
      obtain rfl:=h8 (by simp [hi2])
      obtain rfl:=h5 (by simp [hi2])
      clear ho hi2
      rw [if_pos (by rfl)]
      go_simp
      exact hK _ _ ⟨v7,v8,v9,vf,vp,_,vr,vt,_,_,vj,vm,vh,vu,vb,vd,vk,vn,vy,vs,vl,vw,va,vi,vc,ve,vq,vo,v6,rfl,hB,h0,h1,h2,h3,h4,fun _=>rfl,h6,h7,fun _=>rfl,fun _=>rfl,hk,ht,hg,hh,hp,hc,hb,hv,hC,hf,hA,ha,hz,hy,hD,hw,hs,hq,hu⟩
    · obtain rfl:=Option.some.inj ho
      simp [Region.binds] at hi2
      obtain rfl:=h5 (by simp [hi2])
      clear ho hi2
      rw [if_pos (by rfl)]
      go_simp
      exact hK _ _ ⟨v7,v8,v9,vf,vp,_,vr,vt,vv,vg,_,vm,vh,vu,vb,vd,vk,vn,vy,vs,vl,vw,va,vi,vc,ve,vq,vo,v6,rfl,hB,h0,h1,h2,h3,h4,fun _=>rfl,h6,h7,h8,h9,fun _=>rfl,ht,hg,hh,hp,hc,hb,hv,hC,hf,hA,ha,hz,hy,hD,hw,hs,hq,hu⟩
    · obtain rfl:=Option.some.inj ho
      simp [Region.binds] at hi2
      obtain rfl:=hk (by simp [hi2])
      obtain rfl:=h5 (by simp [hi2])
      clear ho hi2
      rw [if_pos (by rfl)]
      go_simp
      exact hK _ _ ⟨v7,v8,v9,vf,vp,_,vr,vt,vv,vg,_,_,vh,vu,vb,vd,vk,vn,vy,vs,vl,vw,va,vi,vc,ve,vq,vo,v6,rfl,hB,h0,h1,h2,h3,h4,fun _=>rfl,h6,h7,h8,h9,fun _=>rfl,fun _=>rfl,hg,hh,hp,hc,hb,hv,hC,hf,hA,ha,hz,hy,hD,hw,hs,hq,hu⟩
    · obtain rfl:=Option.some.inj ho
      simp [Region.binds] at hi2
      obtain rfl:=h9 (by simp [hi2])
      obtain rfl:=ht (by simp [hi2])
      obtain rfl:=h5 (by simp [hi2])
      clear ho hi2
      rw [if_pos (by rfl)]
      go_simp
      exact hK _ _ ⟨v7,v8,v9,vf,vp,_,vr,vt,vv,_,vj,_,_,vu,vb,vd,vk,vn,vy,vs,vl,vw,va,vi,vc,ve,vq,vo,v6,rfl,hB,h0,h1,h2,h3,h4,fun _=>rfl,h6,h7,h8,fun _=>rfl,hk,fun _=>rfl,fun _=>rfl,hh,hp,hc,hb,hv,hC,hf,hA,ha,hz,hy,hD,hw,hs,hq,hu⟩
    · obtain rfl:=Option.some.inj ho
      simp [Region.binds] at hi2
      obtain rfl:=hg (by simp [hi2])
      obtain rfl:=h5 (by simp [hi2])
      clear ho hi2
      rw [if_pos (by rfl)]
      go_simp
      exact hK _ _ ⟨v7,v8,v9,vf,vp,_,vr,vt,vv,vg,vj,vm,_,_,vb,vd,vk,vn,vy,vs,vl,vw,va,vi,vc,ve,vq,vo,v6,rfl,hB,h0,h1,h2,h3,h4,fun _=>rfl,h6,h7,h8,h9,hk,ht,fun _=>rfl,fun _=>rfl,hp,hc,hb,hv,hC,hf,hA,ha,hz,hy,hD,hw,hs,hq,hu⟩
    · obtain rfl:=Option.some.inj ho
      simp [Region.binds] at hi2
      obtain rfl:=hh (by simp [hi2])
      obtain rfl:=h5 (by simp [hi2])
      clear ho hi2
      rw [if_pos (by rfl)]
      go_simp
      exact hK _ _ ⟨v7,v8,v9,vf,vp,_,vr,vt,vv,vg,vj,vm,vh,_,_,vd,vk,vn,vy,vs,vl,vw,va,vi,vc,ve,vq,vo,v6,rfl,hB,h0,h1,h2,h3,h4,fun _=>rfl,h6,h7,h8,h9,hk,ht,hg,fun _=>rfl,fun _=>rfl,hc,hb,hv,hC,hf,hA,ha,hz,hy,hD,hw,hs,hq,hu⟩
    · obtain rfl:=Option.some.inj ho
      simp [Region.binds] at hi2
      obtain rfl:=hp (by simp [hi2])
      obtain rfl:=h5 (by simp [hi2])
      clear ho hi2
      rw [if_pos (by rfl)]
      go_simp
      refine (HBH.out _ hB).mono ?_
      rintro r w2 ⟨rfl,hB2⟩
      exact hK _ _ ⟨v7,v8,v9,vf,vp,_,vr,vt,vv,vg,vj,vm,vh,vu,_,_,vk,vn,vy,vs,vl,vw,va,vi,vc,ve,vq,vo,v6,rfl,hB2,h0,h1,h2,h3,h4,fun _=>rfl,h6,h7,h8,h9,hk,ht,hg,hh,fun _=>rfl,fun _=>rfl,hb,hv,hC,hf,hA,ha,hz,hy,hD,hw,hs,hq,hu⟩
    · obtain rfl:=Option.some.inj ho
      simp [Region.binds] at hi2
      obtain rfl:=h7 (by simp [hi2])
      obtain rfl:=hc (by simp [hi2])
      obtain rfl:=h5 (by simp [hi2])
      clear ho hi2
      rw [if_pos (by rfl)]
      go_simp
      exact hK _ _ ⟨v7,v8,v9,vf,vp,_,vr,_,vv,vg,vj,vm,vh,vu,vb,_,_,vn,vy,vs,vl,vw,va,vi,vc,ve,vq,vo,v6,rfl,hB,h0,h1,h2,h3,h4,fun _=>rfl,h6,fun _=>rfl,h8,h9,hk,ht,hg,hh,hp,fun _=>rfl,fun _=>rfl,hv,hC,hf,hA,ha,hz,hy,hD,hw,hs,hq,hu⟩
    · obtain rfl:=Option.some.inj ho
      simp [Region.binds] at hi2
      obtain rfl:=h5 (by simp [hi2])
      obtain rfl:=hb (by simp [hi2])
      clear ho hi2
      rw [if_pos (by rfl)]
      go_simp
      exact hK _ _ ⟨v7,v8,v9,vf,vp,_,vr,vt,vv,vg,vj,vm,vh,vu,vb,vd,_,_,vy,vs,vl,vw,va,vi,vc,ve,vq,vo,v6,rfl,hB,h0,h1,h2,h3,h4,fun _=>rfl,h6,h7,h8,h9,hk,ht,hg,hh,hp,hc,fun _=>rfl,fun _=>rfl,hC,hf,hA,ha,hz,hy,hD,hw,hs,hq,hu⟩
    · obtain rfl:=Option.some.inj ho
      simp [Region.binds] at hi2
      obtain rfl:=hv (by simp [hi2])
      clear ho hi2
      rw [if_pos (by rfl)]
      go_simp
      exact hK _ _ ⟨v7,v8,v9,vf,vp,vz,vr,vt,vv,vg,vj,vm,vh,vu,vb,vd,vk,_,_,vs,vl,vw,va,vi,vc,ve,vq,vo,v6,rfl,hB,h0,h1,h2,h3,h4,h5,h6,h7,h8,h9,hk,ht,hg,hh,hp,hc,hb,fun _=>rfl,fun _=>rfl,hf,hA,ha,hz,hy,hD,hw,hs,hq,hu⟩
    · obtain rfl:=Option.some.inj ho
      simp [Region.binds] at hi2
      obtain rfl:=hC (by simp [hi2])
      clear ho hi2
      rw [if_pos (by rfl)]
      go_simp
      exact hK _ _ ⟨v7,v8,v9,vf,vp,vz,vr,vt,vv,vg,vj,vm,vh,vu,vb,vd,vk,vn,_,_,vl,vw,va,vi,vc,ve,vq,vo,v6,rfl,hB,h0,h1,h2,h3,h4,h5,h6,h7,h8,h9,hk,ht,hg,hh,hp,hc,hb,hv,fun _=>rfl,fun _=>rfl,hA,ha,hz,hy,hD,hw,hs,hq,hu⟩
    · obtain rfl:=Option.some.inj ho
      simp [Region.binds] at hi2
      obtain rfl:=hf (by simp [hi2])
      obtain rfl:=hC (by simp [hi2])
      clear ho hi2
      rw [if_pos (by rfl)]
      go_simp
      exact hK _ _ ⟨v7,v8,v9,vf,vp,vz,vr,vt,vv,vg,vj,vm,vh,vu,vb,vd,vk,vn,_,_,_,vw,va,vi,vc,ve,vq,vo,v6,rfl,hB,h0,h1,h2,h3,h4,h5,h6,h7,h8,h9,hk,ht,hg,hh,hp,hc,hb,hv,fun _=>rfl,fun _=>rfl,fun _=>rfl,ha,hz,hy,hD,hw,hs,hq,hu⟩
    · obtain rfl:=Option.some.inj ho
      simp [Region.binds] at hi2
      obtain rfl:=hA (by simp [hi2])
      obtain rfl:=hC (by simp [hi2])
      clear ho hi2
      rw [if_pos (by rfl)]
      go_simp
      exact hK _ _ ⟨v7,v8,v9,vf,vp,vz,vr,vt,vv,vg,vj,vm,vh,vu,vb,vd,vk,vn,_,vs,_,_,va,vi,vc,ve,vq,vo,v6,rfl,hB,h0,h1,h2,h3,h4,h5,h6,h7,h8,h9,hk,ht,hg,hh,hp,hc,hb,hv,fun _=>rfl,hf,fun _=>rfl,fun _=>rfl,hz,hy,hD,hw,hs,hq,hu⟩
    · obtain rfl:=Option.some.inj ho
      simp [Region.binds] at hi2
      obtain rfl:=ha (by simp [hi2])
      clear ho hi2
      rw [if_pos (by rfl)]
      go_simp
      exact hK _ _ ⟨v7,v8,v9,vf,vp,vz,vr,vt,vv,vg,vj,vm,vh,vu,vb,vd,vk,vn,vy,vs,vl,_,_,vi,vc,ve,vq,vo,v6,rfl,hB,h0,h1,h2,h3,h4,h5,h6,h7,h8,h9,hk,ht,hg,hh,hp,hc,hb,hv,hC,hf,hA,fun _=>rfl,fun _=>rfl,hy,hD,hw,hs,hq,hu⟩
    · obtain rfl:=Option.some.inj ho
      simp [Region.binds] at hi2
      obtain rfl:=hz (by simp [hi2])
      obtain rfl:=ha (by simp [hi2])
      clear ho hi2
      rw [if_pos (by rfl)]
      go_simp
      exact hK _ _ ⟨v7,v8,v9,vf,vp,vz,vr,vt,vv,vg,vj,vm,vh,vu,vb,vd,vk,vn,vy,vs,vl,_,_,_,vc,ve,vq,vo,v6,rfl,hB,h0,h1,h2,h3,h4,h5,h6,h7,h8,h9,hk,ht,hg,hh,hp,hc,hb,hv,hC,hf,hA,fun _=>rfl,fun _=>rfl,fun _=>rfl,hD,hw,hs,hq,hu⟩
    · obtain rfl:=Option.some.inj ho
      simp [Region.binds] at hi2
      obtain rfl:=ha (by simp [hi2])
      clear ho hi2
      rw [if_pos (by rfl)]
      go_simp
      exact hK _ _ ⟨v7,v8,v9,vf,vp,vz,vr,vt,vv,vg,vj,vm,vh,vu,vb,vd,vk,vn,vy,vs,vl,_,va,vi,_,ve,vq,vo,v6,rfl,hB,h0,h1,h2,h3,h4,h5,h6,h7,h8,h9,hk,ht,hg,hh,hp,hc,hb,hv,hC,hf,hA,fun _=>rfl,hz,hy,fun _=>rfl,hw,hs,hq,hu⟩
    · obtain rfl:=Option.some.inj ho
      simp [Region.binds] at hi2
      obtain rfl:=hy (by simp [hi2])
      obtain rfl:=hD (by simp [hi2])
      obtain rfl:=ha (by simp [hi2])
      clear ho hi2
      rw [if_pos (by rfl)]
      go_simp
      exact hK _ _ ⟨v7,v8,v9,vf,vp,vz,vr,vt,vv,vg,vj,vm,vh,vu,vb,vd,vk,vn,vy,vs,vl,_,va,_,_,_,vq,vo,v6,rfl,hB,h0,h1,h2,h3,h4,h5,h6,h7,h8,h9,hk,ht,hg,hh,hp,hc,hb,hv,hC,hf,hA,fun _=>rfl,hz,fun _=>rfl,fun _=>rfl,fun _=>rfl,hs,hq,hu⟩
    · obtain rfl:=Option.some.inj ho
      simp [Region.binds] at hi2
      obtain rfl:=ha (by simp [hi2])
      obtain rfl:=hw (by simp [hi2])
      obtain rfl:=hC (by simp [hi2])
      clear ho hi2
      rw [if_pos (by rfl)]
      go_simp
      exact hK _ _ ⟨v7,v8,v9,vf,vp,vz,vr,vt,vv,vg,vj,vm,vh,vu,vb,vd,vk,vn,_,vs,vl,_,va,vi,vc,_,_,vo,v6,rfl,hB,h0,h1,h2,h3,h4,h5,h6,h7,h8,h9,hk,ht,hg,hh,hp,hc,hb,hv,fun _=>rfl,hf,hA,fun _=>rfl,hz,hy,hD,fun _=>rfl,fun _=>rfl,hq,hu⟩
    · obtain rfl:=Option.some.inj ho
      simp [Region.binds] at hi2
      obtain rfl:=hC (by simp [hi2])
      obtain rfl:=hs (by simp [hi2])
      clear ho hi2
      rw [if_pos (by rfl)]
      go_simp
      exact hK _ _ ⟨v7,v8,v9,vf,vp,vz,vr,vt,vv,vg,vj,vm,vh,vu,vb,vd,vk,vn,_,vs,vl,vw,va,vi,vc,ve,_,_,v6,rfl,hB,h0,h1,h2,h3,h4,h5,h6,h7,h8,h9,hk,ht,hg,hh,hp,hc,hb,hv,fun _=>rfl,hf,hA,ha,hz,hy,hD,hw,fun _=>rfl,fun _=>rfl,hu⟩
    · obtain rfl:=Option.some.inj ho
      simp [Region.binds] at hi2
      obtain rfl:=hq (by simp [hi2])
      clear ho hi2
      rw [if_pos (by rfl)]
      go_simp
      exact hK _ _ ⟨v7,v8,v9,vf,vp,vz,vr,vt,vv,vg,vj,vm,vh,vu,vb,vd,vk,vn,vy,vs,vl,vw,va,vi,vc,ve,vq,_,_,rfl,hB,h0,h1,h2,h3,h4,h5,h6,h7,h8,h9,hk,ht,hg,hh,hp,hc,hb,hv,hC,hf,hA,ha,hz,hy,hD,hw,hs,fun _=>rfl,fun _=>rfl⟩
    · simp at ho
  · intro L a w2 hL hr hI
    obtain ⟨v7,v8,v9,vf,vp,vz,vr,vt,vv,vg,vj,vm,vh,vu,vb,vd,vk,vn,vy,vs,vl,vw,va,vi,vc,ve,vq,vo,v6,rfl,hB,h0,h1,h2,h3,h4,h5,h6,h7,h8,h9,hk,ht,hg,hh,hp,hc,hb,hv,hC,hf,hA,ha,hz,hy,hD,hw,hs,hq,hu⟩:=hI
    obtain ⟨b0,b1,b2,b3,b4,b5,b6,b7,b8,b9,bn,bo,bf,bb,bc,bp,bs,br,bh,ba,bd,bq,bi,bm,bj,bl,bt,bg,be,rfl⟩:∃ b0 b1 b2 b3 b4 b5 b6 b7 b8 b9 bn bo bf bb bc bp bs br bh ba bd bq bi bm bj bl bt bg be,L=[b0,b1,b2,b3,b4,b5,b6,b7,b8,b9,bn,bo,bf,bb,bc,bp,bs,br,bh,ba,bd,bq,bi,bm,bj,bl,bt,bg,be]:=by
      match L,hL with
      | [b0,b1,b2,b3,b4,b5,b6,b7,b8,b9,bn,bo,bf,bb,bc,bp,bs,br,bh,ba,bd,bq,bi,bm,bj,bl,bt,bg,be],_=>exact ⟨b0,b1,b2,b3,b4,b5,b6,b7,b8,b9,bn,bo,bf,bb,bc,bp,bs,br,bh,ba,bd,bq,bi,bm,bj,bl,bt,bg,be,rfl⟩
    have hr2:=List.filter_eq_nil_iff.1 hr
    clear hr hL
    have k0:=hr2 0 (by simp)
    have k1:=hr2 1 (by simp)
    have k2:=hr2 2 (by simp)
    have k3:=hr2 3 (by simp)
    have k4:=hr2 4 (by simp)
    have k5:=hr2 5 (by simp)
    have k6:=hr2 6 (by simp)
    have k7:=hr2 7 (by simp)
    have k8:=hr2 8 (by simp)
    have k9:=hr2 9 (by simp)
    have kr:=hr2 10 (by simp)
    have kh:=hr2 11 (by simp)
    have kl:=hr2 12 (by simp)
    have ki:=hr2 13 (by simp)
    have kq:=hr2 14 (by simp)
    have km:=hr2 15 (by simp)
    have kd:=hr2 16 (by simp)
    have ke:=hr2 17 (by simp)
    have ks:=hr2 18 (by simp)
    have kj:=hr2 19 (by simp)
    have ka:=hr2 20 (by simp)
    have kp:=hr2 21 (by simp)
    have kf:=hr2 22 (by simp)
    have ko:=hr2 23 (by simp)
    have kg:=hr2 24 (by simp)
    have kc:=hr2 25 (by simp)
    have kn:=hr2 26 (by simp)
    have kb:=hr2 27 (by simp)
    have kk:=hr2 28 (by simp)
    clear hr2
    simp [Region.binds] at k0
    subst k0
    simp [Region.binds] at k1
    subst k1
    simp [Region.binds] at k2
    subst k2
    simp [Region.binds] at k3
    subst k3
    simp [Region.binds] at k4
    subst k4
    simp [Region.binds] at k5
    subst k5
    simp [Region.binds] at k6
    subst k6
    simp [Region.binds] at k7
    subst k7
    simp [Region.binds] at k8
    subst k8
    simp [Region.binds] at k9
    subst k9
    simp [Region.binds] at kr
    subst kr
    simp [Region.binds] at kh
    subst kh
    simp [Region.binds] at kl
    subst kl
    simp [Region.binds] at ki
    subst ki
    simp [Region.binds] at kq
    subst kq
    simp [Region.binds] at km
    subst km
    simp [Region.binds] at kd
    subst kd
    simp [Region.binds] at ke
    subst ke
    simp [Region.binds] at ks
    subst ks
    simp [Region.binds] at kj
    subst kj
    simp [Region.binds] at ka
    subst ka
    simp [Region.binds] at kp
    subst kp
    simp [Region.binds] at kf
    subst kf
    simp [Region.binds] at ko
    subst ko
    simp [Region.binds] at kg
    subst kg
    simp [Region.binds] at kc
    subst kc
    simp [Region.binds] at kn
    subst kn
    simp [Region.binds] at kb
    subst kb
    simp [Region.binds] at kk
    subst kk
    obtain rfl:=h0 rfl
    obtain rfl:=h1 rfl
    obtain rfl:=h2 rfl
    obtain rfl:=h3 rfl
    obtain rfl:=h4 rfl
    obtain rfl:=h5 rfl
    obtain rfl:=h6 rfl
    obtain rfl:=h7 rfl
    obtain rfl:=h8 rfl
    obtain rfl:=h9 rfl
    obtain rfl:=hk rfl
    obtain rfl:=ht rfl
    obtain rfl:=hg rfl
    obtain rfl:=hh rfl
    obtain rfl:=hp rfl
    obtain rfl:=hc rfl
    obtain rfl:=hb rfl
    obtain rfl:=hv rfl
    obtain rfl:=hC rfl
    obtain rfl:=hf rfl
    obtain rfl:=hA rfl
    obtain rfl:=ha rfl
    obtain rfl:=hz rfl
    obtain rfl:=hy rfl
    obtain rfl:=hD rfl
    obtain rfl:=hw rfl
    obtain rfl:=hs rfl
    obtain rfl:=hq rfl
    obtain rfl:=hu rfl
    have HBF:=qh (bchain HB.out hB)
    go_wp2
    go_ret
    exact ⟨rfl,HBF.out⟩
end
end Go.Proofs.YtaficmboooaknaaGreatDoor
