import Derived.Test.YtaficmboooaknaaGreatDoorPv01
import Derived.Test.YtaficmboooaknaaGreatDoorPv23
import Derived.Test.YtaficmboooaknaaGreatDoorPv27
import Derived.Test.YtaficmboooaknaaGreatDoorPv20
import Derived.Test.YtaficmboooaknaaGreatDoorPv15
set_option maxRecDepth 100000
set_option maxHeartbeats 16000000
namespace Go.Proofs.YtaficmboooaknaaGreatDoor
section
open Go.RowKit
open Sto (T St)
def VsA (B:Nat) (w:World) (b d:Option Bool) (v:Value):Prop:=b=some true->d ≠ some true->∃ g,v=.slice (some ⟨g,0,none⟩) 0 0/\OwnI w B (.slice (some ⟨g,0,none⟩) 0 0) []
def VsI (B:Nat) (I:St) (w:World) (b:Option Bool) (v:Value):Prop:=b=some true->∃ (A:Option Addr) (n c:Nat),v=.slice A n c/\OwnI w B (.slice A n c) I
def VsL (B:Nat) (L:List T) (w:World) (b:Option Bool) (v:Value):Prop:=b=some true->∃ (g n c:Nat),v=.slice (some ⟨g,0,none⟩) n c/\Lent w B (.slice (some ⟨g,0,none⟩) n c) L
def VsP (B:Nat) (x:T) (w:World) (b d:Option Bool) (v p n:Value):Prop:=b=some true->∃ k,v=.pointer (some ⟨k,0,none⟩)/\B<=k/\(d ≠ some true->w.heap[k]?=some (.cells #[.slice none 0 0,.string ⟨#[]⟩,.slice none 0 0] 31 (0,0)))/\(d=some true->PageAt w k p x n)
theorem VsA.below {B:Nat} {w w':World} {b d:Option Bool} {v:Value} (h:VsA B w b d v) (hb:Below w.heap.size w w'):VsA B w' b d v:=fun h1 h2=>by
  obtain ⟨g,e,h3⟩:=h h1 h2
  exact ⟨g,e,h3.below hb⟩
theorem VsI.below {B:Nat} {I:St} {w w':World} {b:Option Bool} {v:Value} (h:VsI B I w b v) (hb:Below w.heap.size w w'):VsI B I w' b v:=fun h1=>by
  obtain ⟨A,n,c,e,h3⟩:=h h1
  exact ⟨A,n,c,e,h3.below hb⟩
theorem VsL.below {B:Nat} {L:List T} {w w':World} {b:Option Bool} {v:Value} (h:VsL B L w b v) (hb:Below w.heap.size w w'):VsL B L w' b v:=fun h1=>by
  obtain ⟨g,n,c,e,h3⟩:=h h1
  exact ⟨g,n,c,e,h3.below hb⟩
theorem VsP.below {B:Nat} {x:T} {w w':World} {b d:Option Bool} {v p n:Value} (h:VsP B x w b d v p n) (hb:Below w.heap.size w w'):VsP B x w' b d v p n:=fun h1=>by
  obtain ⟨k,e,h2,h3,h4⟩:=h h1
  exact ⟨k,e,h2,fun q=>(hb.block k (lt_of_heap (h3 q))).trans (h3 q),fun q=>(h4 q).below hb⟩
theorem Lent.out {F:Nat->Prop} {w w':World} {B:Nat} {s:Value} {L:List T} (h:Lent w B s L) (ho:Out F w w') (hF:∀ k cs fl,w.heap[k]?=some (.cells cs 9 fl)->¬ F k):Lent w' B s L:=by
  obtain ⟨g,cap,e,h1⟩:=h
  exact ⟨g,cap,e,row_apart h1 ho (fun k hk=>by
    rcases h1.2 with ⟨h0,_⟩ | ⟨g',cap',cur,hv,hB,hh,_⟩
    · cases h0
    · rw [hv] at hk
      obtain rfl:g'=k:=by simpa [Value.ownBlock] using hk
      exact hF _ _ _ hh)⟩
theorem VsL.out {F:Nat->Prop} {B:Nat} {L:List T} {w w':World} {b:Option Bool} {v:Value} (h:VsL B L w b v) (ho:Out F w w') (hF:∀ k cs fl,w.heap[k]?=some (.cells cs 9 fl)->¬ F k):VsL B L w' b v:=fun h1=>by
  obtain ⟨g,n,c,e,h3⟩:=h h1
  exact ⟨g,n,c,e,h3.out ho hF⟩
theorem VsI.out {F:Nat->Prop} {B:Nat} {I:St} {w w':World} {b:Option Bool} {v:Value} (h:VsI B I w b v) (ho:Out F w w') (hF:∀ k cs fl,w.heap[k]?=some (.cells cs 60 fl)->¬ F k):VsI B I w' b v:=fun h1=>by
  obtain ⟨A,n,c,e,h3⟩:=h h1
  exact ⟨A,n,c,e,row_apart h3 ho (fun k hk=>by
    rcases h3.2 with ⟨h0,_⟩ | ⟨g',cap',cur,hv,hB,hh,_⟩
    · rw [h0] at hk; cases hk
    · rw [hv] at hk
      obtain rfl:g'=k:=by simpa [Value.ownBlock] using hk
      exact hF _ _ _ hh)⟩
theorem typ_ne {w:World} {k:Nat} {cs ds:Array Value} {t u:TypeId} {fl fm:Nat × Nat} (h:w.heap[k]?=some (.cells cs t fl)) (h':w.heap[k]?=some (.cells ds u fm)):t=u:=by
  rw [h] at h'
  injection h' with h'
  injection h'
theorem verify_few {root f e:T} {m:Int} {I:St} {x:T} {L:List T} (h:I.length<=1000000):(Spn.verifyP root f e m I x L).1.length<=1000000:=by
  unfold Spn.verifyP
  repeat' split
  all_goals first | exact h | (simp; done) | (simp; omega)
theorem step_append_run_v {P:Program} {ops:Array Oper} {o:Oper} {a:Act} {w w':World} {K:Act->World->Prop} {Q:Exit->Act->World->Prop} {E:Prop} (hw:Region.wanted o (yielded ops a.tmps)=true) (s x:Operand) (t:TypeId) (hop:o.op=Op.call { callee:=Callee.builtin Builtin.append,args:=#[s,x],argTypes:=#[t,t] })
    (sv xv r:Value) (hs:a.eval s=sv) (hx:a.eval x=xv) (hrun:(Builtin.append_ #[t,t] o.type #[sv,xv]).run P w=.ok r w') (hK:K (a.put o.dst r) w'):if Region.wanted o (yielded ops a.tmps)=true then Oper.wp P o a w K Q else E:=by
  rw [if_pos hw]
  unfold Oper.wp
  simp [execOp,hop,resolve,invoke,builtin,hs,hx,hrun,Result.andThen]
  exact hK
theorem spanVerifies_walk (HRV:RVOk) (root f e:T) (m:Int) (zi:Value) (I:St) (x:T) (zn:Value) (L:List T) (w:World) (hI:ItIn w zi I) (hL:StrsC w zn L) (hm:L.length<=maxLen) (hT:Tab w):
    Calls Tryz.prog 4 #[.string ⟨root.toArray⟩,.agg #[.string ⟨f.toArray⟩,.string ⟨e.toArray⟩,.int .i64 m],.agg #[zi,.string ⟨x.toArray⟩,zn]] w fun r w'=>r=.returned (.bool true)/\Below w.heap.size w w':=by
  obtain ⟨wa,hwa⟩:∃ wa,w.alloc (.cells #[.string ⟨f.toArray⟩,.string ⟨e.toArray⟩,.int .i64 m] 24)=wa:=⟨_,rfl⟩
  obtain ⟨q0,hq0⟩:∃ q0,w.heap.size=q0:=⟨_,rfl⟩
  obtain ⟨w0,hw0⟩:∃ w0,wa.alloc (.cells #[zi,.string ⟨x.toArray⟩,zn] 31)=w0:=⟨_,rfl⟩
  obtain ⟨q5,hq5⟩:∃ q5,wa.heap.size=q5:=⟨_,rfl⟩
  have hba:Below w.heap.size w wa:=by rw [← hwa]; exact (Below.refl _ w).alloc (Nat.le_refl _) _
  have hbz:Below wa.heap.size wa w0:=by rw [← hw0]; exact (Below.refl _ wa).alloc (Nat.le_refl _) _
  have hb0:Below w.heap.size w w0:=bchain hba hbz
  have ra:EndsAt w0 q0 f e m:=EndsAt.below (by rw [← hwa,← hq0]; exact heap_alloc_new w _) hbz
  have rp:PageAt w0 q5 zi x zn:=by rw [← hw0,← hq5]; exact heap_alloc_new wa _
  have HB0:=qh hb0
  have HE0:=qh ra
  have HP0:=qh rp
  have HT:=qh (hT.below hb0)
  have HIP:=qh (RowsIn.below hI hb0)
  have HLP:=qh (hL.below hb0)
  have HBG:=qh (spbig_any zi I x zn L w0 HIP.out HLP.out hm)
  unfold BigPost at HBG
  have HWK:Hid (∀ w',Below w0.heap.size w0 w'->Calls Tryz.prog 10 #[] w' fun r w''=>r=.returned (.bool true)/\Below w'.heap.size w' w''):=qh (fun w' h=>spworks_any w' (HT.out.below h))
  have HRV:=qh HRV
  obtain ⟨A,cap,rfl,-,-⟩:=hI.form
  obtain ⟨An,capn,rfl,-⟩:=hL.form
  clear ra rp hba hbz hb0 hT hI hL hm
  go_enter Tryz.func4,Tryz.ntmps4
  go_upto_region 1 with fail
  try rw [hq0]
  try rw [hq5]
  clear hw0 hq0 hwa hq5
  obtain ⟨s0,s1,s2⟩:=HP0.out.cells
  go_wp2_with fail
  refine HBG.out.mono ?_
  rintro r w1 ⟨bb,rfl,hfit,hb1⟩
  have HB1:=qh hb1
  have HE1:=qh (HE0.out.below hb1)
  have HP1:=qh (HP0.out.below hb1)
  have HIP1:=qh (RowsIn.below HIP.out hb1)
  have HLP1:=qh (HLP.out.below hb1)
  clear hb1 s0 s1 s2 HBG
  cases bb with
  | true=>
    clear hfit
    go_wp2_with fail
    refine (HWK.out _ HB1.out).mono ?_
    rintro x w2 ⟨rfl,hb2⟩
    have HB2:=qh (bchain HB0.out (bchain HB1.out hb2))
    clear hb2
    go_wp2
    go_ret
    exact ⟨rfl,HB2.out⟩
  | false=>
  have HFIT:=qh (hfit rfl)
  clear hfit
  by_cases hr:100 < root.length
  · have p1:decide ((100:Int) < (root.length:Int))=true:=decide_eq_true (by omega)
    clear hr
    go_wp2_with fail
    refine (HWK.out _ HB1.out).mono ?_
    rintro x w2 ⟨rfl,hb2⟩
    have HB2:=qh (bchain HB0.out (bchain HB1.out hb2))
    clear hb2
    go_wp2
    go_ret
    exact ⟨rfl,HB2.out⟩
  have p1:decide ((100:Int) < (root.length:Int))=false:=decide_eq_false (by omega)
  clear hr
  obtain ⟨s0,s1,s2⟩:=HE1.out.cells
  by_cases hf:100 < f.length
  · have p2:decide ((100:Int) < (f.length:Int))=true:=decide_eq_true (by omega)
    clear hf
    go_wp2_with fail
    refine (HWK.out _ HB1.out).mono ?_
    rintro x w2 ⟨rfl,hb2⟩
    have HB2:=qh (bchain HB0.out (bchain HB1.out hb2))
    clear hb2
    go_wp2
    go_ret
    exact ⟨rfl,HB2.out⟩
  have p2:decide ((100:Int) < (f.length:Int))=false:=decide_eq_false (by omega)
  have HF:Hid (f.length<=100):=qh (by omega)
  clear hf
  by_cases he:100 < e.length
  · have p3:decide ((100:Int) < (e.length:Int))=true:=decide_eq_true (by omega)
    clear he
    go_wp2_with fail
    refine (HWK.out _ HB1.out).mono ?_
    rintro x w2 ⟨rfl,hb2⟩
    have HB2:=qh (bchain HB0.out (bchain HB1.out hb2))
    clear hb2
    go_wp2
    go_ret
    exact ⟨rfl,HB2.out⟩
  have p3:decide ((100:Int) < (e.length:Int))=false:=decide_eq_false (by omega)
  have HE:Hid (e.length<=100):=qh (by omega)
  clear he
  have HS:Hid (∀ w',Below w1.heap.size w1 w'->w'.cell? ⟨q5,0,none⟩=some (.slice A I.length cap)/\w'.cell? ⟨q5,1,none⟩=some (.string ⟨x.toArray⟩)/\w'.cell? ⟨q5,2,none⟩=some (.slice An L.length capn)):=qh (fun w' h=>(HP1.out.below h).cells)
  have HLE:Hid (∀ w',Below w1.heap.size w1 w'->Calls Tryz.prog 18 #[.slice An L.length capn] w' fun r w''=>∃ (g n c:Nat),r=.returned (.slice (some ⟨g,0,none⟩) n c)/\Lent w'' w1.heap.size (.slice (some ⟨g,0,none⟩) n c) L/\Below w'.heap.size w' w''):=qh (fun w' h=>by
    have h1:=lend_any L (.slice An L.length capn) w' (HLP1.out.below h).strs (by have:=HFIT.out.2.1; omega)
    unfold LendPost at h1
    exact h1.mono fun e w'' ⟨s,q1,q2,q3⟩=>by
      obtain ⟨g,c,rfl,q4⟩:=q2
      exact ⟨g,_,c,q1,⟨g,c,rfl,own_low q4 h.size⟩,q3⟩)
  have HAP:Hid (∀ w' g,Below w1.heap.size w1 w'->OwnI w' w1.heap.size (.slice (some ⟨g,0,none⟩) 0 0) []->∃ (A':Option Addr) (n' c':Nat) (w'':World),(Builtin.append_ #[22,22] 22 #[.slice (some ⟨g,0,none⟩) 0 0,.slice A I.length cap]).run Tryz.prog w'=.ok (.slice A' n' c') w''/\OwnI w'' w1.heap.size (.slice A' n' c') I/\Out (fun k=>k=g) w' w''):=qh (fun w' g h ho=>by
    obtain ⟨v',w'',r1,r2,r3,-⟩:=append_it_in (n:=0) (xs:=[]) (RowsIn.below HIP1.out h) ho (by have:=HFIT.out.1; simp; omega) h.size
    have h2:OwnI w'' w1.heap.size v' I:=by simpa [OwnI,rowsL] using r2
    obtain ⟨A',c',rfl,-,-⟩:=h2.at_.form
    exact ⟨A',I.length,c',w'',r1,h2,Out.grown r3 (F:=fun k=>k=g) (fun k hk=>by simpa [Value.ownBlock,eq_comm] using hk)⟩)
  have HIT:Hid (∀ (w':World) (g:Nat),OwnI w' w1.heap.size (.slice (some ⟨g,0,none⟩) 0 0) []->∃ cs fl,w'.heap[g]?=some (.cells cs 60 fl)):=qh (fun w' g h=>by
    rcases h.2 with ⟨h0,_⟩ | ⟨g',cap',cur,hv,hB,hh,_⟩
    · cases h0
    · obtain ⟨rfl,-⟩:g=g'/\_:=by simpa using hv
      exact ⟨_,_,hh⟩)
  have BD:Below w1.heap.size w1 w1.drew:=(Below.refl _ _).drew
  go_upto_region 3 with fail
  clear s0 s1 s2
  refine region_inv (fun Lq aq w'=>∃ v34 v35 v36 v37 v38 v39 v40 v41 v42 v43 v7:Value,aq=⟨#[Value.string { data:=List.toArray root },Value.agg #[Value.string { data:=List.toArray f },Value.string { data:=List.toArray e },Value.int IntKind.i64 m],Value.agg #[Value.slice A (List.length I) cap,Value.string { data:=List.toArray x },Value.slice An L.length capn],undef,Value.pointer (some { block:=q0,off:=0 }),Value.pointer (some { block:=q5,off:=0 }),Value.bool false,v7,undef,undef,undef,undef,undef,undef,Value.agg #[Value.slice A (List.length I) cap,Value.string { data:=List.toArray x },Value.slice An L.length capn],Value.bool false,Value.bool false,Value.string { data:=List.toArray root },Value.int IntKind.i64 ↑(List.length root),Value.bool false,Value.bool false,Value.bool false,Value.pointer (some { block:=q0,off:=0 }),Value.string { data:=List.toArray f },Value.int IntKind.i64 ↑(List.length f),Value.bool false,Value.bool false,Value.bool false,Value.pointer (some { block:=q0,off:=1 }),Value.string { data:=List.toArray e },Value.int IntKind.i64 ↑(List.length e),Value.bool false,Value.bool false,undef,v34,v35,v36,v37,v38,v39,v40,v41,v42,v43,undef,undef,undef,undef,undef,undef,undef,undef,undef,undef,undef,undef,undef,undef,undef,undef,undef,undef,undef,undef,undef,undef,undef,undef,undef,undef,undef,undef,undef,undef,undef,undef,undef,undef,undef,undef,undef,undef,undef,undef,undef,undef,undef,undef,undef,undef,undef,undef,undef,undef,undef,undef,undef,undef,undef,undef,undef],[]⟩/\Below w1.heap.size w1 w'/\VsA w1.heap.size w' Lq[0]? Lq[3]? v34/\(Lq[1]?=some true->v35=.pointer (some ⟨q5,0,none⟩))/\(Lq[2]?=some true->v36=.slice A I.length cap)/\VsI w1.heap.size I w' Lq[3]? v37/\(Lq[4]?=some true->v38=.pointer (some ⟨q5,1,none⟩))/\(Lq[5]?=some true->v39=.string ⟨x.toArray⟩)/\(Lq[6]?=some true->v40=.pointer (some ⟨q5,2,none⟩))/\(Lq[7]?=some true->v41=.slice An L.length capn)/\VsL w1.heap.size L w' Lq[8]? v42/\(Lq[9]?=some true->v43=.agg #[v37,.string ⟨x.toArray⟩,v42])/\VsP w1.heap.size x w' Lq[10]? Lq[11]? v7 v37 v42/\(Lq[9]?=some true->Lq[3]?=some true/\Lq[8]?=some true)/\(Lq[11]?=some true->Lq[9]?=some true/\Lq[10]?=some true)) (by rfl) ?_ ?_ ?_
  · exact ⟨_,_,_,_,_,_,_,_,_,_,_,rfl,BD,(fun h=>by simp at h),(by simp),(by simp),(fun h=>by simp at h),(by simp),(by simp),(by simp),(by simp),(fun h=>by simp at h),(by simp),(fun h=>by simp at h),(by simp),(by simp)⟩
  · intro Lw aw w2 hL hI j ow ho hj K hK
    obtain ⟨v34,v35,v36,v37,v38,v39,v40,v41,v42,v43,v7,rfl,hB,h0,h1,h2,h3,h4,h5,h6,h7,h8,h9,h10,h11,h12⟩:=hI
    obtain ⟨b0,b1,b2,b3,b4,b5,b6,b7,b8,b9,b10,b11,rfl⟩:∃ b0 b1 b2 b3 b4 b5 b6 b7 b8 b9 b10 b11,Lw=[b0,b1,b2,b3,b4,b5,b6,b7,b8,b9,b10,b11]:=by
      match Lw,hL with
      | [b0,b1,b2,b3,b4,b5,b6,b7,b8,b9,b10,b11],_=>exact ⟨b0,b1,b2,b3,b4,b5,b6,b7,b8,b9,b10,b11,rfl⟩
    have hi2:=(List.mem_filter.1 hj).2
    clear hj hL
    obtain ⟨k0,k1,k2⟩:=HS.out _ hB
    rcases j with _ | _ | _ | _ | _ | _ | _ | _ | _ | _ | _ | _ | j
    · obtain rfl:=Option.some.inj ho
      simp [Region.binds] at hi2
      clear ho
      rw [if_pos (by rfl)]
      go_simp
      have hA:Below w2.heap.size w2 (w2.alloc (.cells #[] 60)):=(Below.refl _ w2).alloc (Nat.le_refl _) _
      exact hK _ _ ⟨_,v35,v36,v37,v38,v39,v40,v41,v42,v43,v7,rfl,(bchain hB hA),(fun _ _=>⟨_,rfl,OwnI.low (row_zeroI w2) hB.size⟩),h1,h2,(h3.below hA),h4,h5,h6,h7,(h8.below hA),h9,(h10.below hA),h11,h12⟩
    · obtain rfl:=Option.some.inj ho
      simp [Region.binds] at hi2
      clear ho
      rw [if_pos (by rfl)]
      go_simp
      exact hK _ _ ⟨v34,_,v36,v37,v38,v39,v40,v41,v42,v43,v7,rfl,hB,h0,(fun _=>rfl),h2,h3,h4,h5,h6,h7,h8,h9,h10,h11,h12⟩
    · obtain rfl:=Option.some.inj ho
      simp [Region.binds] at hi2
      obtain rfl:=h1 (by simp [hi2])
      clear ho
      rw [if_pos (by rfl)]
      go_simp
      exact hK _ _ ⟨v34,_,_,v37,v38,v39,v40,v41,v42,v43,v7,rfl,hB,h0,(fun _=>rfl),(fun _=>rfl),h3,h4,h5,h6,h7,h8,h9,h10,h11,h12⟩
    · obtain rfl:=Option.some.inj ho
      simp [Region.binds] at hi2
      obtain ⟨g,rfl,hg⟩:=h0 (by simp [hi2]) (by simp [hi2])
      obtain rfl:=h2 (by simp [hi2])
      obtain ⟨A',n',c',w3,hrun,ho3,hout⟩:=HAP.out w2 g hB hg
      obtain ⟨cg,fg,hgt⟩:=HIT.out w2 g hg
      have hB3:Below w1.heap.size w1 w3:=hB.trans (hout.below (fun k hk=>by rw [hk]; exact (own_itlt hg g rfl).1) hB.size)
      clear ho
      refine step_append_run_v (by rfl) (.tmp 34) (.tmp 36) _ rfl _ _ _ ?_ ?_ hrun ?_
      · first | rfl | (focus (simp [Act.eval]; done))
      · first | rfl | (focus (simp [Act.eval]; done))
      exact hK _ _ ⟨_,v35,_,_,v38,v39,v40,v41,v42,v43,v7,rfl,hB3,(fun _ h=>absurd rfl h),h1,(fun _=>rfl),(fun _=>⟨A',n',c',rfl,ho3⟩),h4,h5,h6,h7,(h8.out hout (fun k cs fl hk e=>by rw [e] at hk; exact absurd (typ_ne hk hgt) (by decide))),(fun h=>absurd (h11 h).1 (by simp [hi2])),(fun h=>by obtain ⟨k,e,p1,p2,p3⟩:=h10 h; exact ⟨k,e,p1,fun q=>hout.heap (p2 q) (fun e=>by rw [← e] at hgt; exact absurd (typ_ne (p2 q) hgt) (by decide)),fun q=>absurd (h11 (h12 q).1).1 (by simp [hi2])⟩),(fun h=>⟨rfl,(h11 h).2⟩),h12⟩
    · obtain rfl:=Option.some.inj ho
      simp [Region.binds] at hi2
      clear ho
      rw [if_pos (by rfl)]
      go_simp
      exact hK _ _ ⟨v34,v35,v36,v37,_,v39,v40,v41,v42,v43,v7,rfl,hB,h0,h1,h2,h3,(fun _=>rfl),h5,h6,h7,h8,h9,h10,h11,h12⟩
    · obtain rfl:=Option.some.inj ho
      simp [Region.binds] at hi2
      obtain rfl:=h4 (by simp [hi2])
      clear ho
      rw [if_pos (by rfl)]
      go_simp
      exact hK _ _ ⟨v34,v35,v36,v37,_,_,v40,v41,v42,v43,v7,rfl,hB,h0,h1,h2,h3,(fun _=>rfl),(fun _=>rfl),h6,h7,h8,h9,h10,h11,h12⟩
    · obtain rfl:=Option.some.inj ho
      simp [Region.binds] at hi2
      clear ho
      rw [if_pos (by rfl)]
      go_simp
      exact hK _ _ ⟨v34,v35,v36,v37,v38,v39,_,v41,v42,v43,v7,rfl,hB,h0,h1,h2,h3,h4,h5,(fun _=>rfl),h7,h8,h9,h10,h11,h12⟩
    · obtain rfl:=Option.some.inj ho
      simp [Region.binds] at hi2
      obtain rfl:=h6 (by simp [hi2])
      clear ho
      rw [if_pos (by rfl)]
      go_simp
      exact hK _ _ ⟨v34,v35,v36,v37,v38,v39,_,_,v42,v43,v7,rfl,hB,h0,h1,h2,h3,h4,h5,(fun _=>rfl),(fun _=>rfl),h8,h9,h10,h11,h12⟩
    · obtain rfl:=Option.some.inj ho
      simp [Region.binds] at hi2
      obtain rfl:=h7 (by simp [hi2])
      clear ho
      rw [if_pos (by rfl)]
      go_simp
      refine (HLE.out _ hB).mono ?_
      rintro r w3 ⟨gl,nl,cl,rfl,hl3,hb3⟩
      exact hK _ _ ⟨v34,v35,v36,v37,v38,v39,v40,_,_,v43,v7,rfl,(bchain hB hb3),(h0.below hb3),h1,h2,(h3.below hb3),h4,h5,h6,(fun _=>rfl),(fun _=>⟨gl,nl,cl,rfl,hl3⟩),(fun h=>absurd (h11 h).2 (by simp [hi2])),(fun h=>by obtain ⟨k,e,p1,p2,p3⟩:=h10.below hb3 h; exact ⟨k,e,p1,p2,fun q=>absurd (h11 (h12 q).1).2 (by simp [hi2])⟩),(fun h=>⟨(h11 h).1,rfl⟩),h12⟩
    · obtain rfl:=Option.some.inj ho
      simp [Region.binds] at hi2
      obtain rfl:=h5 (by simp [hi2])
      obtain ⟨A',n',c',rfl,ho3⟩:=h3 (by simp [hi2])
      obtain ⟨gl,nl,cl,rfl,hl3⟩:=h8 (by simp [hi2])
      clear ho
      rw [if_pos (by rfl)]
      go_simp
      exact hK _ _ ⟨v34,v35,v36,_,v38,_,v40,v41,_,_,v7,rfl,hB,h0,h1,h2,(fun _=>⟨A',n',c',rfl,ho3⟩),h4,(fun _=>rfl),h6,h7,(fun _=>⟨gl,nl,cl,rfl,hl3⟩),(fun _=>rfl),h10,(fun _=>⟨by simp [hi2],by simp [hi2]⟩),(fun h=>⟨rfl,(h12 h).2⟩)⟩
    · obtain rfl:=Option.some.inj ho
      simp [Region.binds] at hi2
      clear ho
      rw [if_pos (by rfl)]
      go_simp
      have hA:Below w2.heap.size w2 (w2.alloc (.cells #[.slice none 0 0,.string ⟨#[]⟩,.slice none 0 0] 31)):=(Below.refl _ w2).alloc (Nat.le_refl _) _
      exact hK _ _ ⟨v34,v35,v36,v37,v38,v39,v40,v41,v42,v43,_,rfl,(bchain hB hA),(h0.below hA),h1,h2,(h3.below hA),h4,h5,h6,h7,(h8.below hA),h9,(fun _=>⟨_,rfl,hB.size,fun _=>heap_alloc_new _ _,fun q=>absurd (h12 q).2 (by simp [hi2])⟩),h11,(fun h=>⟨(h12 h).1,rfl⟩)⟩
    · obtain rfl:=Option.some.inj ho
      simp [Region.binds] at hi2
      obtain rfl:=h1 (by simp [hi2])
      obtain rfl:=h2 (by simp [hi2])
      obtain rfl:=h4 (by simp [hi2])
      obtain rfl:=h5 (by simp [hi2])
      obtain rfl:=h6 (by simp [hi2])
      obtain rfl:=h7 (by simp [hi2])
      obtain rfl:=h9 (by simp [hi2])
      obtain ⟨k,rfl,hk0,hk1,-⟩:=h10 (by simp [hi2])
      have hr:=hk1 (by simp [hi2])
      obtain ⟨A',n',c',rfl,ho3⟩:=h3 (by simp [hi2])
      obtain ⟨gl,nl,cl,rfl,hl3⟩:=h8 (by simp [hi2])
      have r0:w2.cell? ⟨k,0,none⟩=some (.slice none 0 0):=by rw [cell_of_row _ _ 0 _ _ _ hr]; rfl
      have r1:w2.cell? ⟨k,1,none⟩=some (.string ⟨#[]⟩):=by rw [cell_of_row _ _ 1 _ _ _ hr]; rfl
      have r2:w2.cell? ⟨k,2,none⟩=some (.slice none 0 0):=by rw [cell_of_row _ _ 2 _ _ _ hr]; rfl
      have f0:=frozen_of_row _ _ 0 _ _ hr
      have f1:=frozen_of_row _ _ 1 _ _ hr
      have f2:=frozen_of_row _ _ 2 _ _ hr
      have hP3:=cells_set3 hr (.slice A' n' c') (.string ⟨x.toArray⟩) (.slice (some ⟨gl,0,none⟩) nl cl)
      have hO3:=outp3 (w:=w2) (q:=k) (.slice A' n' c') (.string ⟨x.toArray⟩) (.slice (some ⟨gl,0,none⟩) nl cl)
      have hI3:=(show VsI w1.heap.size I w2 (some true) (.slice A' n' c') from fun _=>⟨A',n',c',rfl,ho3⟩).out hO3 (fun j cs fl hj e=>by rw [e] at hj; exact absurd (typ_ne hj hr) (by decide))
      have hL3:=(show VsL w1.heap.size L w2 (some true) (.slice (some ⟨gl,0,none⟩) nl cl) from fun _=>⟨gl,nl,cl,rfl,hl3⟩).out hO3 (fun j cs fl hj e=>by rw [e] at hj; exact absurd (typ_ne hj hr) (by decide))
      have hB3:=hB.trans (hO3.below (fun j hj=>by rw [hj]; exact hk0) hB.size)
      clear ho
      rw [if_pos (by rfl)]
      go_simp
      exact hK _ _ ⟨v34,_,_,_,_,_,_,_,_,_,_,rfl,hB3,(fun _ h=>absurd (by simp [hi2]) h),(fun _=>rfl),(fun _=>rfl),(fun _=>hI3 rfl),(fun _=>rfl),(fun _=>rfl),(fun _=>rfl),(fun _=>rfl),(fun _=>hL3 rfl),(fun _=>rfl),(fun _=>⟨k,rfl,hk0,fun q=>absurd rfl q,fun _=>hP3⟩),h11,(fun _=>⟨by simp [hi2],by simp [hi2]⟩)⟩
    · simp at ho
  · intro Lw aw w2 hL hr hI
    obtain ⟨v34,v35,v36,v37,v38,v39,v40,v41,v42,v43,v7,rfl,hB,h0,h1,h2,h3,h4,h5,h6,h7,h8,h9,h10,h11,h12⟩:=hI
    obtain ⟨b0,b1,b2,b3,b4,b5,b6,b7,b8,b9,b10,b11,rfl⟩:∃ b0 b1 b2 b3 b4 b5 b6 b7 b8 b9 b10 b11,Lw=[b0,b1,b2,b3,b4,b5,b6,b7,b8,b9,b10,b11]:=by
      match Lw,hL with
      | [b0,b1,b2,b3,b4,b5,b6,b7,b8,b9,b10,b11],_=>exact ⟨b0,b1,b2,b3,b4,b5,b6,b7,b8,b9,b10,b11,rfl⟩
    have hr2:=List.filter_eq_nil_iff.1 hr
    clear hr hL
    have k0:=hr2 0 (by simp)
    have k1:=hr2 1 (by simp)
    have k2:=hr2 2 (by simp)
    have k3:=hr2 3 (by simp)
    have k4:=hr2 4 (by simp)
    have k5:=hr2 5 (by simp)
    have k6:=hr2 6 (by simp)
    have k7:=hr2 7 (by simp)
    have k8:=hr2 8 (by simp)
    have k9:=hr2 9 (by simp)
    have k10:=hr2 10 (by simp)
    have k11:=hr2 11 (by simp)
    clear hr2
    simp [Region.binds] at k0
    subst k0
    simp [Region.binds] at k1
    subst k1
    simp [Region.binds] at k2
    subst k2
    simp [Region.binds] at k3
    subst k3
    simp [Region.binds] at k4
    subst k4
    simp [Region.binds] at k5
    subst k5
    simp [Region.binds] at k6
    subst k6
    simp [Region.binds] at k7
    subst k7
    simp [Region.binds] at k8
    subst k8
    simp [Region.binds] at k9
    subst k9
    simp [Region.binds] at k10
    subst k10
    simp [Region.binds] at k11
    subst k11
    obtain rfl:=h1 rfl
    obtain rfl:=h2 rfl
    obtain rfl:=h4 rfl
    obtain rfl:=h5 rfl
    obtain rfl:=h6 rfl
    obtain rfl:=h7 rfl
    obtain rfl:=h9 rfl
    obtain ⟨A3,n3,c3,rfl,hi3⟩:=h3 rfl
    obtain ⟨gl,nl,cl,rfl,hl3⟩:=h8 rfl
    obtain ⟨q7,rfl,-,-,hp3⟩:=h10 rfl
    have hp3:=hp3 rfl
    clear h0 h3 h8 h10
    have HB2:=qh hB
    have HO2:=qh hi3
    have HN2:=qh hl3
    have HQ2:=qh hp3
    clear hi3 hl3 hp3 hB HLE HAP HIT HS BD
    have HE2:=qh (HE1.out.below HB2.out)
    have HP2:=qh (HP1.out.below HB2.out)
    have HB02:=qh (bchain HB1.out HB2.out)
    have HV2:Hid (Calls Tryz.prog 19 #[.string ⟨root.toArray⟩,.string ⟨f.toArray⟩,.string ⟨e.toArray⟩,.int .i64 m,.agg #[.slice A3 n3 c3,.string ⟨x.toArray⟩,.slice (some ⟨gl,0,none⟩) nl cl]] w2 (SVPost (Spn.verifyP root f e m I x L) w2)):=qh (spverify_any root f e m (.slice A3 n3 c3) I x (.slice (some ⟨gl,0,none⟩) nl cl) L w2 (RowsAt.inn HO2.out.at_) (StrsC.of_lent HN2.out) (HT.out.below HB02.out) (fun y hy=>by have:=HFIT.out.2.2.1 y hy; omega) (by have:=HFIT.out.2.1; omega) (by have:=HF.out; omega) (by have:=HE.out; omega))
    have HR2:Hid (∀ w',Below w1.heap.size w1 w'->Calls Tryz.prog 20 #[.string ⟨root.toArray⟩,.string ⟨f.toArray⟩,.string ⟨e.toArray⟩,.int .i64 m,.agg #[.slice A I.length cap,.string ⟨x.toArray⟩,.slice An L.length capn]] w' (RVPost (Spn.verifyP root f e m I x L) w')):=qh (fun w' h=>HRV.out root f e m (.slice A I.length cap) I x (.slice An L.length capn) L w' (RowsIn.below HIP1.out h) (HLP1.out.below h) (fun y hy=>by have:=HFIT.out.2.2.1 y hy; omega) (by have:=HFIT.out.2.1; omega) (by have:=HFIT.out.1; omega) (by have:=HF.out; omega) (by have:=HE.out; omega) (by have:=HFIT.out.2.2.2; omega))
    have HJL:Hid ((Spn.verifyP root f e m I x L).1.length<=1000000):=qh (verify_few (by have:=HFIT.out.1; omega))
    obtain ⟨⟨J,y,c⟩,hR⟩:∃ R,Spn.verifyP root f e m I x L=R:=⟨_,rfl⟩
    rw [hR] at HV2 HR2 HJL
    unfold SVPost at HV2
    unfold RVPost at HR2
    dsimp only at HV2 HR2 HJL
    clear hR
    obtain ⟨s0,s1,s2⟩:=HE2.out.cells
    obtain ⟨s3,s4,s5⟩:=HQ2.out.cells
    go_wp2_with fail
    refine HV2.out.mono ?_
    rintro r w3 ⟨A4,n4,c4,rfl,ho4,hb3⟩
    have HB3:=qh (bchain HB2.out hb3)
    have HE3:=qh (HE2.out.below hb3)
    have HP3:=qh (HP2.out.below hb3)
    have HQ3:=qh (HQ2.out.below hb3)
    have HJ3:=qh ho4
    have HZ3:=qh hb3
    clear s0 s1 s2 s3 s4 s5 hb3 ho4 HV2
    obtain ⟨s0,s1,s2⟩:=HE3.out.cells
    obtain ⟨s3,s4,s5⟩:=HP3.out.cells
    go_wp2_with fail
    refine (HR2.out _ HB3.out).mono ?_
    rintro r w4 ⟨A5,n5,c5,rfl,ho5,hb4⟩
    have HB4:=qh (bchain HB3.out hb4)
    have HZ4:=qh (bchain HZ3.out hb4)
    have HE4:=qh (HE3.out.below hb4)
    have HP4:=qh (HP3.out.below hb4)
    have HQ4:=qh (HQ3.out.below hb4)
    have HJ4:=qh (HJ3.out.below hb4)
    have HU4:=qh ho5
    clear s0 s1 s2 s3 s4 s5 hb4 ho5 HR2
    have HSI:=qh (sameI_any J J (.slice A4 n4 c4) (.slice A5 n5 c5) w4 HJ4.out.at_ HU4.out HJL.out HJL.out)
    rw [decide_eq_true rfl] at HSI
    have yy:(y != y)=false:=bne_self_eq_false _
    have cc:((c:Int) != (c:Int))=false:=bne_self_eq_false _
    go_wp2_with fail
    refine HSI.out.mono ?_
    rintro r w5 ⟨rfl,hb5⟩
    have HB5:=qh (bchain HB4.out hb5)
    have HZ5:=qh (bchain HZ4.out hb5)
    have HP5:=qh (HP4.out.below hb5)
    have HQ5:=qh (HQ4.out.below hb5)
    have HJ5:=qh (HJ4.out.below hb5)
    clear hb5 HSI
    go_wp2_with fail
    refine (spoilI_any J (.slice A4 n4 c4) w2.heap.size w5 HJ5.out HJL.out).mono ?_
    rintro r w6 ⟨rfl,hb6⟩
    have HZ6:Hid (Below w2.heap.size w2 w6):=qh (HZ5.out.trans hb6)
    have HB6:Hid (Below w1.heap.size w1 w6):=qh (bchain HB2.out HZ6.out)
    have HP6:=qh (HP2.out.below HZ6.out)
    have HQ6:=qh (HQ2.out.below HZ6.out)
    have HO6:=qh (HO2.out.below HZ6.out)
    have HN6:=qh (HN2.out.below HZ6.out)
    have HL6:=qh (HLP1.out.below HB6.out)
    have HI6:=qh (RowsIn.below HIP1.out HB6.out)
    clear hb6
    obtain ⟨s3,s4,s5⟩:=HP6.out.cells
    obtain ⟨s6,s7,s8⟩:=HQ6.out.cells
    go_wp2_with fail
    refine (kept_any L (.slice (some ⟨gl,0,none⟩) nl cl) (.slice An L.length capn) w1.heap.size w6 HN6.out HL6.out.strs (by have:=HFIT.out.2.1; omega)).mono ?_
    rintro r w7 ⟨rfl,hb7⟩
    have HB7:=qh (bchain HB6.out hb7)
    have HP7:=qh (HP6.out.below hb7)
    have HQ7:=qh (HQ6.out.below hb7)
    have HSJ:=qh (sameI_in I I (.slice A3 n3 c3) (.slice A I.length cap) w7 (RowsAt.inn (HO6.out.below hb7).at_) (RowsIn.below HI6.out hb7) (by have:=HFIT.out.1; omega) (by have:=HFIT.out.1; omega))
    rw [decide_eq_true rfl] at HSJ
    clear hb7 s3 s4 s5 s6 s7 s8
    obtain ⟨s3,s4,s5⟩:=HP7.out.cells
    obtain ⟨s6,s7,s8⟩:=HQ7.out.cells
    go_wp2_with fail
    refine HSJ.out.mono ?_
    rintro r w8 ⟨rfl,hb8⟩
    have HB8:=qh (bchain HB1.out (bchain HB7.out hb8))
    clear hb8 s3 s4 s5 s6 s7 s8
    go_wp2_with fail
    refine (HWK.out _ HB8.out).mono ?_
    rintro r w9 ⟨rfl,hb9⟩
    have HB9:=qh (bchain HB0.out (bchain HB8.out hb9))
    clear hb9
    go_wp2
    go_ret
    exact ⟨rfl,HB9.out⟩
end
section
open Go.RowKit
open Sto (T St)
theorem rspverify_A (root f e:T) (m:Int) (zi:Value) (I:St) (x:T) (zn:Value) (L:List T) (w:World) (hi:ItIn w zi I) (hv:StrsC w zn L) (hL:∀ y ∈ L,y.length<=999) (hl:L.length<=400) (hil:I.length<=400) (hf:f.length<=1000000) (he:e.length<=1000000) (hxl:x.length<=1000000) (hx:¬ ((1<=m/\m<=16)/\¬ m < (I.length:Int)/\x ≠ [])):
    Calls Tryz.prog 20 #[.string ⟨root.toArray⟩,.string ⟨f.toArray⟩,.string ⟨e.toArray⟩,.int .i64 m,.agg #[zi,.string ⟨x.toArray⟩,zn]] w (RVPost (Spn.verifyP root f e m I x L) w):=by
  obtain ⟨w0,hw0⟩:∃ w0,w.alloc (.cells #[zi,.string ⟨x.toArray⟩,zn] 31)=w0:=⟨_,rfl⟩
  obtain ⟨q0,hq0⟩:∃ q0,w.heap.size=q0:=⟨_,rfl⟩
  have hb0:Below w.heap.size w w0:=by rw [← hw0]; exact (Below.refl _ w).alloc (Nat.le_refl _) _
  have ra:PageAt w0 q0 zi x zn:=by rw [← hw0,← hq0]; exact heap_alloc_new w _
  have HB0:=qh hb0
  have HP0:=qh ra
  have HI0:=qh (RowsIn.below hi hb0)
  have HL0:=qh (hv.below hb0)
  have HBD:Hid ((∀ y ∈ L,y.length<=999)/\L.length<=400/\I.length<=400/\f.length<=1000000/\e.length<=1000000/\x.length<=1000000):=qh ⟨hL,hl,hil,hf,he,hxl⟩
  obtain ⟨A,cap,rfl,-,-⟩:=hi.form
  obtain ⟨An,capn,rfl,-⟩:=hv.form
  clear ra hb0 hi hv hL hl hil hf he hxl
  obtain ⟨s0,s1,s2⟩:=HP0.out.cells
  by_cases hm:1<=m/\m<=16
  case neg=>
    rw [Spn.verifyP_m hm]
    by_cases h1:m < 1
    · have p1:decide (m < 1)=true:=decide_eq_true h1
      clear hx hm h1
      go_enter Tryz.func20,Tryz.ntmps20
      go_upto_region 1 with fail
      try rw [hq0]
      clear hw0 hq0
      go_wp2
      go_ret3
      exact RVPost.no rfl HB0.out
    · have p1:decide (m < 1)=false:=decide_eq_false h1
      have p2:decide (16 < m)=true:=decide_eq_true (by omega)
      clear hx hm h1
      go_enter Tryz.func20,Tryz.ntmps20
      go_upto_region 1 with fail
      try rw [hq0]
      clear hw0 hq0
      go_wp2
      go_ret3
      exact RVPost.no rfl HB0.out
  have HM:=qh hm
  have p1:decide (m < 1)=false:=decide_eq_false (by omega)
  have p2:decide (16 < m)=false:=decide_eq_false (by omega)
  by_cases hlong:m < (I.length:Int)
  · have p3:decide (m < (I.length:Int))=true:=decide_eq_true hlong
    rw [Spn.verifyP_l hm hlong]
    clear hx hm hlong
    go_enter Tryz.func20,Tryz.ntmps20
    go_upto_region 1 with fail
    try rw [hq0]
    clear hw0 hq0
    go_wp2
    go_ret3
    exact RVPost.no rfl HB0.out
  have p3:decide (m < (I.length:Int))=false:=decide_eq_false hlong
  have HNL:=qh hlong
  have hx0:x=[]:=Classical.byContradiction fun h=>hx ⟨hm,hlong,h⟩
  have HX:Hid (¬ (x ≠ []/\((I.length:Int) ≠ m ∨ Scn.behind (I.getD (m.toNat - 1) ([],[])).1 ≠ x ∨ (e ≠ []/\¬ x < e)))):=qh (fun h=>h.1 hx0)
  have p4:(x == [])=true:=beq_iff_eq.2 hx0
  have p5:x.isEmpty=true:=by rw [hx0]; rfl
  clear hx hm hlong hx0
  go_enter Tryz.func20,Tryz.ntmps20
  go_upto_region 1 with fail
  try rw [hq0]
  clear hw0 hq0
  go_upto_region 8 with fail
  clear p1 p2 p3 p4 p5
  by_cases hr0:root=[]
  · have y1:(root == [])=true:=beq_iff_eq.2 hr0
    have y2:root.isEmpty=true:=by rw [hr0]; rfl
    have HEQ:Hid (Spn.verifyP root f e m I x L=if L ≠ [] ∨ I ≠ [] then ([],[],130) else ([],[],0)):=qh (by rw [Spn.verifyP_r HM.out HNL.out HX.out]; unfold Spn.restP; rw [if_pos hr0])
    clear hr0
    cases L with
    | cons y L'=>
      have HE2:=qh (HEQ.out.trans (if_pos (Or.inl (by simp))))
      have hl9:((0:Int) < ((L'.length:Int)+1)):=by omega
      clear HEQ
      go_wp2
      go_ret3
      exact RVPost.no HE2.out HB0.out
    | nil=>
      cases I with
      | cons y I'=>
        have HE2:=qh (HEQ.out.trans (if_pos (Or.inr (by simp))))
        have hl9:((0:Int) < ((I'.length:Int)+1)):=by omega
        clear HEQ
        go_wp2
        go_ret3
        exact RVPost.no HE2.out HB0.out
      | nil=>
        have HE2:=qh (HEQ.out.trans (if_neg (by simp)))
        clear HEQ
        go_wp2
        go_ret3
        exact RVPost.no HE2.out HB0.out
  have HEQ:Hid (Spn.verifyP root f e m I x L=match Spn.gather f (Spn.upTo x e) root [] ([],L) with | some (J,M)=>if M=[]/\J=I then (I,x,0) else ([],[],130) | none=>([],[],130)):=qh (by rw [Spn.verifyP_r HM.out HNL.out HX.out]; unfold Spn.restP; rw [if_neg hr0]; cases Spn.gather f (Spn.upTo x e) root [] ([],L) <;> rfl)
  have y1:(root == [])=false:=beq_eq_false_iff_ne.2 hr0
  have y2:root.isEmpty=false:=by cases root <;> simp_all
  clear hr0
  have HUP:Hid (∀ w',Calls Tryz.prog 41 #[.string ⟨x.toArray⟩,.string ⟨e.toArray⟩] w' fun r w''=>r=.returned (.string ⟨(Spn.upTo x e).toArray⟩)/\w''=w'):=qh (fun w'=>rupto_any x e w')
  have HUL:Hid ((Spn.upTo x e).length<=1000000):=qh (by unfold Spn.upTo; have h1:=HBD.out.2.2.2.2.1; have h2:=HBD.out.2.2.2.2.2; split <;> assumption)
  obtain ⟨u,hu⟩:∃ u,Spn.upTo x e=u:=⟨_,rfl⟩
  rw [hu] at HUP HUL HEQ
  clear hu
  obtain ⟨o,ho⟩:∃ o,Spn.gather f u root [] ([],L)=o:=⟨_,rfl⟩
  rw [ho] at HEQ
  go_upto_region 12 with fail
  clear y1 y2
  have HGA:Hid (∀ w',Below w0.heap.size w0 w'->Calls Tryz.prog 48 #[.agg #[.slice none 0 0,.slice An L.length capn,.bool true],.string ⟨root.toArray⟩,.string ⟨#[]⟩,.string ⟨f.toArray⟩,.string ⟨u.toArray⟩] w' (RGP o w0 w')):=qh (fun w' h=>by
    have h1:=rgather_any f u HBD.out.2.2.2.1 HUL.out w0 L.length root [] [] L none 0 An capn w' rfl h (OwnI.nil w' w'.heap.size).at_ (HL0.out) HBD.out.1 (by have:=HBD.out.2.1; simp; omega) (by have:=HBD.out.2.1; simp; omega)
    rw [ho] at h1
    exact h1)
  have HOO:=qh ho
  clear ho
  have HZ:Hid (∀ w',Below (w0.alloc (.cells #[.slice none 0 0,.slice none 0 0,.bool false] 80)).heap.size (w0.alloc (.cells #[.slice none 0 0,.slice none 0 0,.bool false] 80)) w'->PartAt w' w0.heap.size (.slice none 0 0) (.slice none 0 0) (.bool false)):=qh (fun w' h=>PartAt.below (show PartAt _ _ _ _ _ from heap_alloc_new w0 _) h)
  have BA:Below w0.heap.size w0 (w0.alloc (.cells #[.slice none 0 0,.slice none 0 0,.bool false] 80)):=(Below.refl _ _).alloc (Nat.le_refl _) _
  have BD:Below w0.heap.size w0 w0.drew:=(Below.refl _ _).drew
  have BAD:Below w0.heap.size w0 (w0.alloc (.cells #[.slice none 0 0,.slice none 0 0,.bool false] 80)).drew:=BA.drew
  obtain ⟨c0,c1,c2⟩:=(HP0.out).cells
  have ca1:(w0.alloc (.cells #[.slice none 0 0,.slice none 0 0,.bool false] 80)).cell? ⟨q0,1,none⟩=some (.string ⟨x.toArray⟩):=(PageAt.below (HP0.out) BA).cells.2.1
  have ca2:(w0.alloc (.cells #[.slice none 0 0,.slice none 0 0,.bool false] 80)).cell? ⟨q0,2,none⟩=some (.slice An L.length capn):=(PageAt.below (HP0.out) BA).cells.2.2
  go_region_with (first | (go_at_call 41; refine (HUP.out _).mono ?_; rintro r wu ⟨rfl,rfl⟩) | (go_at_call 48; refine (HGA.out _ (by assumption)).mono ?_; rintro r w10 ⟨A1,n1,c1',A2,n2,c2',bo,rfl,hbo,hsu,hb10⟩; have HBO:=qh hbo; have HSU:=qh hsu; clear hbo hsu; have hb11:=hb10; try (replace hb11:=HZ.out _ (bchain (Below.refl _ _).drew hb10); obtain ⟨z0,z1,z2⟩:=hb11.cells; obtain ⟨f0,f1,f2⟩:=hb11.free)))
  all_goals
    first
      | (have hp:=HZ.out w10 (bchain (Below.refl _ _).drew hb10)
         obtain ⟨w13,hw13⟩:∃ w13,(((w10.setCell ⟨w0.heap.size,0,none⟩ (.slice A1 n1 c1')).setCell ⟨w0.heap.size,1,none⟩ (.slice A2 n2 c2')).setCell ⟨w0.heap.size,2,none⟩ (.bool bo))=w13:=⟨_,rfl⟩
         obtain ⟨q13,hq13⟩:∃ q13,w0.heap.size=q13:=⟨_,rfl⟩
         rw [hw13]
         have HP13:Hid (PartAt w13 q13 (.slice A1 n1 c1') (.slice A2 n2 c2') (.bool bo)):=qh (by rw [← hw13,← hq13]; exact hp.set _ _ _)
         have HB13:Hid (Below w0.heap.size w0 w13):=qh (by rw [← hw13]; exact (((BAD.trans (hb10.mono BAD.size)).setCell (p:=⟨w0.heap.size,0,none⟩) (Nat.le_refl _) _).setCell (p:=⟨w0.heap.size,1,none⟩) (Nat.le_refl _) _).setCell (p:=⟨w0.heap.size,2,none⟩) (Nat.le_refl _) _)
         have HSU13:Hid (∀ u,o=some u->ItAt w13 (.slice A1 n1 c1') u.1/\StrsC w0 (.slice A2 n2 c2') u.2):=qh (fun u hu=>⟨by rw [← hw13]; exact RowsAt.outF (F:=fun k=>k=w0.heap.size) (HSU.out u hu).1 (set3_out _ _ _) (fun k cs fl hk hh=>by subst hk; rw [hp] at hh; revert hh; simp),(HSU.out u hu).2⟩)
         rw [hq13]
         clear hw13 hq13 hp)
      | (obtain ⟨w13,hw13⟩:∃ w13,w10.alloc (.cells #[.slice A1 n1 c1',.slice A2 n2 c2',.bool bo] 80)=w13:=⟨_,rfl⟩
         obtain ⟨q13,hq13⟩:∃ q13,w10.heap.size=q13:=⟨_,rfl⟩
         rw [hw13]
         have hA:Below w10.heap.size w10 w13:=by rw [← hw13]; exact (Below.refl _ w10).alloc (Nat.le_refl _) _
         have HP13:Hid (PartAt w13 q13 (.slice A1 n1 c1') (.slice A2 n2 c2') (.bool bo)):=qh (by rw [← hw13,← hq13]; exact heap_alloc_new _ _)
         have HB13:Hid (Below w0.heap.size w0 w13):=qh (bchain (BD.trans (hb10.mono BD.size)) hA)
         have HSU13:Hid (∀ u,o=some u->ItAt w13 (.slice A1 n1 c1') u.1/\StrsC w0 (.slice A2 n2 c2') u.2):=qh (fun u hu=>⟨RowsAt.below (HSU.out u hu).1 hA,(HSU.out u hu).2⟩)
         rw [hq13]
         clear hw13 hq13 hA)
    clear hb10 hb11
    try clear z0 z1 z2 f0 f1 f2
    have HWF:=qh (bchain HB0.out HB13.out)
    obtain ⟨t0,t1,t2⟩:=HP13.out.cells
    obtain ⟨p0,p1,p2⟩:=(PageAt.below (HP0.out) HB13.out).cells
    cases o with
    | none=>
      obtain rfl:bo=false:=HBO.out
      have HE2:Hid (Spn.verifyP root f e m I x L=([],[],130)):=qh HEQ.out
      go_wp2
      go_ret3
      exact RVPost.no HE2.out HWF.out
    | some uu=>
      obtain rfl:bo=true:=HBO.out
      obtain ⟨J,M⟩:=uu
      have HE2:Hid (Spn.verifyP root f e m I x L=if M=[]/\J=I then (I,x,0) else ([],[],130)):=qh HEQ.out
      obtain ⟨hj13,hm13⟩:=HSU13.out _ rfl
      dsimp only at hj13 hm13
      obtain ⟨A1',c1'',hz1,hcap1,-⟩:=RowsAt.form hj13
      obtain ⟨rfl,rfl,rfl⟩:A1=A1'/\n1=J.length/\c1'=c1'':=by simpa using hz1
      obtain ⟨A2',c2'',hz2,-⟩:=hm13.form
      obtain ⟨rfl,rfl,rfl⟩:A2=A2'/\n2=M.length/\c2'=c2'':=by simpa using hz2
      have HJ13:=qh hj13
      clear hj13 hm13 hz1 hz2 HEQ HOO HSU HSU13 HGA HBO hcap1
      cases M with
      | cons y M'=>
        have HE3:Hid (Spn.verifyP root f e m I x L=([],[],130)):=qh (HE2.out.trans (if_neg (fun h=>by cases h.1)))
        have hl9:((0:Int) < ((M'.length:Int)+1)):=by omega
        clear HE2
        go_wp2
        go_ret3
        exact RVPost.no HE3.out HWF.out
      | nil=>
      by_cases hJI:J.length=I.length
      case neg=>
        have HE3:Hid (Spn.verifyP root f e m I x L=([],[],130)):=qh (HE2.out.trans (if_neg (fun h=>hJI (by rw [h.2]))))
        have hb9:((J.length:Int) != (I.length:Int))=true:=by rw [bne_iff_ne]; omega
        clear hJI HE2
        go_wp2
        go_ret3
        exact RVPost.no HE3.out HWF.out
      have HE3:Hid (Spn.verifyP root f e m I x L=if J=I then (I,x,0) else ([],[],130)):=qh (HE2.out.trans (by by_cases h:J=I <;> simp [h]))
      have HLEN:=qh hJI
      have hb9:((J.length:Int) != (I.length:Int))=false:=by rw [hJI,bne_self_eq_false]
      clear hJI HE2
      go_upto_region 15 with fail
      clear hb9 t0 t1 t2 p0 p1 p2
      go_wp2
      go_loopw [14] (fun iv wr=>∃ k:Nat,k<=I.length/\iv=.int .i64 k/\J.take k=I.take k/\Below w13.heap.size w13 wr) (fun iv _=>I.length - (intOf iv).toNat)
      case atStart=>exact ⟨0,Nat.zero_le _,rfl,rfl,Below.refl _ _⟩
      case round=>
        obtain ⟨k,hk,rfl,htk,hb⟩:=hrel
        obtain ⟨t0,t1,t2⟩:=(HP13.out.below hb).cells
        obtain ⟨p0,p1,p2⟩:=(PageAt.below (PageAt.below (HP0.out) HB13.out) hb).cells
        have HWR:=qh (bchain HWF.out hb)
        have HTK:=qh htk
        by_cases hlt:k < I.length
        · have h1:(k:Int) < (I.length:Int):=by omega
          have h2:(k:Int) < (J.length:Int):=by have:=HLEN.out; omega
          have h0:(0:Int)<=(k:Int):=by omega
          have hnb:(k:Int)<=100000:=by have:=HBD.out.2.2.1; omega
          obtain ⟨bj,oj,hAj,j0,j1⟩:=ItAt.at (RowsAt.below HJ13.out hb) k (by have:=HLEN.out; omega)
          subst hAj
          obtain ⟨bi,oi,hAi,i0,i1⟩:=ItIn.at (RowsIn.below (RowsIn.below (HI0.out) HB13.out) hb) k hlt
          subst hAi
          obtain ⟨⟨jk,jv⟩,hjx⟩:∃ y,J[k]'(by have:=HLEN.out; omega)=y:=⟨_,rfl⟩
          obtain ⟨⟨ik,iv⟩,hix⟩:∃ y,I[k]=y:=⟨_,rfl⟩
          have HST:Hid ((jk,jv)=(ik,iv)->J.take (k+1)=I.take (k+1)):=qh (fun h=>by
            rw [List.take_succ_eq_append_getElem hlt,List.take_succ_eq_append_getElem (by have:=HLEN.out; omega),hjx,hix,h,htk])
          have HNE:Hid ((jk,jv) ≠ (ik,iv)->J ≠ I):=qh (fun h he=>h (by subst he; rw [← hjx,← hix]))
          rw [hjx] at j0 j1
          rw [hix] at i0 i1
          dsimp only at j0 j1 i0 i1
          have HBW:=qh hb
          clear hjx hix htk hb
          by_cases hkk:jk=ik
          · by_cases hvv:jv=iv
            · have e1:(jk == ik)=true:=beq_iff_eq.2 hkk
              have e2:(jv == iv)=true:=beq_iff_eq.2 hvv
              have HS2:=qh (HST.out (by rw [hkk,hvv]))
              have HB2:=qh HBW.out.drew
              clear hkk hvv
              go_wp2
              go_quiet (fail)
              go_wp2
              go_roundw
              case rel=>exact ⟨k+1,by omega,by go_num,HS2.out,bel_drewN HBW.out _⟩
              case measure=>simp [intOf]; omega
            · have e1:(jk == ik)=true:=beq_iff_eq.2 hkk
              have e2:(jv == iv)=false:=beq_eq_false_iff_ne.2 hvv
              have HE4:Hid (Spn.verifyP root f e m I x L=([],[],130)):=qh (by rw [HE3.out,if_neg (HNE.out (fun h=>hvv (congrArg Prod.snd h)))])
              clear hkk hvv
              go_wp2
              go_quiet (fail)
              go_wp2
              try rw [Exit.noGoto_ret]
              go_ret3
              exact RVPost.no HE4.out (bel_drewN HWR.out _)
          · have e1:(jk == ik)=false:=beq_eq_false_iff_ne.2 hkk
            have HE4:Hid (Spn.verifyP root f e m I x L=([],[],130)):=qh (by rw [HE3.out,if_neg (HNE.out (fun h=>hkk (congrArg Prod.fst h)))])
            clear hkk
            go_wp2
            go_quiet (fail)
            go_wp2
            try rw [Exit.noGoto_ret]
            go_ret3
            exact RVPost.no HE4.out (bel_drewN HWR.out _)
        · obtain rfl:k=I.length:=by omega
          have h1:¬ ((I.length:Int) < (I.length:Int)):=by omega
          have HJI:Hid (J=I):=qh (by have h:=htk; rw [List.take_length,← HLEN.out,List.take_length] at h; exact h)
          have HE4:Hid (Spn.verifyP root f e m I x L=(J,x,0)):=qh (by rw [HE3.out,if_pos HJI.out,HJI.out])
          have HJR:Hid (∀ n,ItAt (wr.drewN n) (.slice A1 J.length c1') J):=qh (fun n=>RowsAt.below (RowsAt.below HJ13.out hb) (bel_drewN (Below.refl _ _) n))
          have HLI:Hid ((J.length:Int)=(I.length:Int)):=qh (by have:=HLEN.out; omega)
          clear htk hb hlt hk
          go_wp2
          go_quiet (fail)
          go_wp2
          go_ret3
          exact RVPost.yes HE4.out (HJR.out _) (bel_drewN HWR.out _)
end
end Go.Proofs.YtaficmboooaknaaGreatDoor
