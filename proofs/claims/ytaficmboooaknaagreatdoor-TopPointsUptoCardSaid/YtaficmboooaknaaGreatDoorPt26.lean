import Derived.Test.YtaficmboooaknaaGreatDoorPt25
set_option maxRecDepth 100000
set_option maxHeartbeats 16000000
namespace Go.Proofs.YtaficmboooaknaaGreatDoor
section
open Go.RowKit
open Sto (T St)
structure VerKeep (VAt:World->(Nat->Prop)->Nat->Ver.M->Prop):Prop where
  keep:∀ {w w' F v m},VAt w F v m->Below w.heap.size w w'->VAt w' F v m
  new:∀ w,Tab w->Calls Tryz.prog 53 #[] w fun e w'=>∃ v F,e=.returned (ptr v)/\VAt w' F v .zero/\(∀ k,F k->w.heap.size<=k)/\Below w.heap.size w w'
  commit:∀ {w F v m} h z C,VAt w F v m->Tab w->ItLo w z C->C.length<=100->(∀ x∈C,x.1.length<=1000/\x.2.length<=1000)->m.vs.length<=100->m.st.length<=40000->
    Calls Tryz.prog 54 #[ptr v,.int .i64 h,z] w fun e w'=>e=.returned (.tuple #[.string ⟨(m.comR h C).toArray⟩,.int .i64 (m.comC h C)])/\VNext VAt w F v (m.com h C) w'
  at_:∀ {w F v m} h,0<=h->(Lit.int .i64 h).wf=true->VAt w F v m->Calls Tryz.prog 55 #[ptr v,.int .i64 h] w (AtPost m h w)
theorem keeps_of {VAt:World->(Nat->Prop)->Nat->Ver.M->Prop} (HV:VerKeep VAt) (w:World) (hT:Tab w):Calls Tryz.prog 28 #[] w fun e w'=>e=.returned (.bool true)/\Below w.heap.size w w':=by
  have HNW:=qh (HV.new w hT)
  have HT:=qh hT
  have HV:=qh HV
  clear hT
  go_enter Tryz.func28,Tryz.ntmps28
  go_wp2_with fail
  refine HNW.out.mono ?_
  rintro e w1 ⟨v,F1,rfl,hv1,hF1,hb1⟩
  have HB1:=qh hb1
  have HV1:=qh hv1
  have HF1:=qh hF1
  have HT1:=qh (HT.out.below hb1)
  clear hv1 hF1 hb1
  unfold ptr
  go_wp2_with fail
  have HA1:Hid (Below w1.heap.size w1 (w1.alloc (.cells #[.string ⟨#[107]⟩,.string ⟨#[118]⟩] 60))):=qh ((Below.refl _ w1).alloc (Nat.le_refl _) _)
  obtain ⟨R,hR⟩:∃ R,rootS Tri.wK=R:=⟨_,rfl⟩
  have HK:Hid (Prf.verify R [107] Prf.wP=([118],true,0)):=qh (by rw [← hR]; exact Prf.wK_k)
  have HC1:Hid (Calls Tryz.prog 54 #[ptr v,.int .i64 1,.slice (some ⟨w1.heap.size,0,none⟩) 1 1] (w1.alloc (.cells #[.string ⟨#[107]⟩,.string ⟨#[118]⟩] 60)) fun e w'=>e=.returned (.tuple #[.string ⟨R.toArray⟩,.int .i64 0])/\VNext VAt (w1.alloc (.cells #[.string ⟨#[107]⟩,.string ⟨#[118]⟩] 60)) F1 v Ver.kM w'):=qh ((HV.out.commit 1 _ Tri.wK (HV.out.keep HV1.out HA1.out) (HT1.out.below HA1.out) (one_items w1 [107] [118]) (by decide) (by decide) (by decide) (by decide)).mono fun e w' ⟨h1,h2⟩=>by
    rw [Ver.kr,Ver.kc,hR] at h1
    exact ⟨h1,h2⟩)
  unfold ptr at HC1
  clear hR
  refine HC1.out.mono ?_
  rintro e w2 ⟨rfl,hn2⟩
  have hb2:=next_below hn2 (B:=w.heap.size) HF1.out (Nat.le_trans HB1.out.size HA1.out.size)
  have HB2:Hid (Below w.heap.size w w2):=qh ((bchain HB1.out HA1.out).trans hb2)
  obtain ⟨F2,hv2,-,hf2,ht2⟩:=hn2
  have HT2:=qh ht2
  have HAT1:Hid (Calls Tryz.prog 55 #[ptr v,.int .i64 1] w2 fun e w'=>∃ gt,e=.returned (.tuple #[ptr gt,.int .i64 0])/\TrAt w' gt Tri.wK/\Below w2.heap.size w2 w'):=qh ((HV.out.at_ 1 (by decide) (by decide) hv2).mono fun e w' h=>by
    unfold AtPost at h
    rw [Ver.kf] at h
    exact Ver.load_one Ver.kh Ver.kg Ver.kno (x:=(1,Tri.wK)) (by rw [Ver.kv]; exact List.mem_cons_self ..) h)
  unfold ptr at HAT1
  clear hv2 hf2 ht2 hb2 HC1 HNW
  go_wp2_with fail
  refine HAT1.out.mono ?_
  rintro e w4 ⟨gt,rfl,tt4,hb4⟩
  have HB4:=qh (bchain HB2.out hb4)
  have HT4:=qh (HT2.out.below hb4)
  have HPR:=qh (prove_wK [107] w4 tt4 (by decide))
  clear tt4 hb4
  go_wp2_with fail
  refine HPR.out.mono ?_
  rintro e w5 ⟨zn,rfl,ho5,hb5⟩
  have HB5:=qh (bchain HB4.out hb5)
  have HVE:=qh (verify_wK R [107] zn w5 [118] true 0 (StrsC.of_own ho5) (HT4.out.below hb5) HK.out)
  clear ho5 hb5
  go_wp2_with fail
  refine HVE.out.mono ?_
  rintro e w6 ⟨rfl,hb6⟩
  have HB6:=qh (bchain HB5.out hb6)
  clear hb6
  go_wp2
  go_ret
  exact ⟨rfl,HB6.out⟩
theorem vers_keep:VerKeep VAt where
  keep:=fun ⟨gs,ms,mr,gt,lo,h,hF⟩ hb=>by
    subst hF
    exact ⟨gs,ms,mr,gt,lo,h.part (Out.of hb) (G:=fun _=>False) (fun _ hk=>hk.elim),rfl⟩
  new:=fun w _=>vnew_any w
  commit:=fun {w F v m} x z C ⟨gs,ms,mr,gt,lo,h,hF⟩ hT hz hl _ _ _=>by
    subst hF
    refine (vcommit_any h x z C hT hz hl).mono ?_
    rintro e w' ⟨rfl,⟨gt',h2⟩,h3,h4⟩
    exact ⟨rfl,_,⟨gs,ms,mr,gt',lo,h2,rfl⟩,h3,fun k hk=>Or.inl hk,h4⟩
  at_:=fun x h0 hx ⟨gs,ms,mr,gt,lo,h,hF⟩=>vat_any h x h0 hx
end
section
open Go.RowKit
theorem step_call2 {P:Program} {ops:Array Oper} {o:Oper} {a:Act} {w:World} {K:Act->World->Prop} {Q:Exit->Act->World->Prop} {E:Prop} (hg:o.guard=none) (f:Nat) (x y:Operand) (ts:Array TypeId) (hop:o.op=Op.call { callee:=Callee.value (.func f),args:=#[x,y],argTypes:=ts })
    (hcf:∀ args w,(callFunc f args).run P w=.ok (.enter f args) w) (R:Ending->World->Prop) (hc:Calls P f #[a.eval x,a.eval y] w R) (hK:∀ e w',R e w'->∃ v,e=.returned v/\K (a.put o.dst v) w'):if Region.wanted o (yielded ops a.tmps)=true then Oper.wp P o a w K Q else E:=by
  have hw:Region.wanted o (yielded ops a.tmps)=true:=by simp [Region.wanted,hg]
  rw [if_pos hw]
  obtain ⟨dst,op,type,pos,after,guard⟩:=o
  simp only at hop
  subst hop
  show Oper.upon P _ a K Q ((callFunc f (#[]++#[x,y].map a.eval++#[])).run P w)
  rw [hcf,Oper.upon_enter]
  refine Calls.mono (by simpa using hc) ?_
  intro e w' h
  obtain ⟨v,rfl,hk⟩:=hK e w' h
  exact hk
end
section
open Go.RowKit
open Sto (T St)
def ShownAt (w:World) (q:Nat) (k f e:T) (m:Int) (zk zi:Value) (x:T) (zn:Value):Prop:=w.heap[q]?=some (.cells #[.string ⟨k.toArray⟩,.string ⟨f.toArray⟩,.string ⟨e.toArray⟩,.int .i64 m,zk,zi,.string ⟨x.toArray⟩,zn] 55 (0,0))
theorem ShownAt.below {w w':World} {q:Nat} {k f e x:T} {m:Int} {zk zi zn:Value} (h:ShownAt w q k f e m zk zi x zn) (hb:Below w.heap.size w w'):ShownAt w' q k f e m zk zi x zn:=(hb.block q (lt_of_heap h)).trans h
theorem ShownAt.cells {w:World} {q:Nat} {k f e x:T} {m:Int} {zk zi zn:Value} (h:ShownAt w q k f e m zk zi x zn):w.cell? ⟨q,0,none⟩=some (.string ⟨k.toArray⟩)/\w.cell? ⟨q,1,none⟩=some (.string ⟨f.toArray⟩)/\w.cell? ⟨q,2,none⟩=some (.string ⟨e.toArray⟩)/\w.cell? ⟨q,3,none⟩=some (.int .i64 m)/\w.cell? ⟨q,4,none⟩=some zk/\w.cell? ⟨q,5,none⟩=some zi/\w.cell? ⟨q,6,none⟩=some (.string ⟨x.toArray⟩)/\w.cell? ⟨q,7,none⟩=some zn:=
  ⟨by rw [cell_of_row _ _ 0 _ _ _ h]; rfl,by rw [cell_of_row _ _ 1 _ _ _ h]; rfl,by rw [cell_of_row _ _ 2 _ _ _ h]; rfl,by rw [cell_of_row _ _ 3 _ _ _ h]; rfl,by rw [cell_of_row _ _ 4 _ _ _ h]; rfl,by rw [cell_of_row _ _ 5 _ _ _ h]; rfl,by rw [cell_of_row _ _ 6 _ _ _ h]; rfl,by rw [cell_of_row _ _ 7 _ _ _ h]; rfl⟩
theorem step_append_run_w {P:Program} {ops:Array Oper} {o:Oper} {a:Act} {w w':World} {K:Act->World->Prop} {Q:Exit->Act->World->Prop} {E:Prop} (hw:Region.wanted o (yielded ops a.tmps)=true) (s x:Operand) (t:TypeId) (hop:o.op=Op.call { callee:=Callee.builtin Builtin.append,args:=#[s,x],argTypes:=#[t,t] })
    (sv xv r:Value) (hs:a.eval s=sv) (hx:a.eval x=xv) (hrun:(Builtin.append_ #[t,t] o.type #[sv,xv]).run P w=.ok r w') (hK:K (a.put o.dst r) w'):if Region.wanted o (yielded ops a.tmps)=true then Oper.wp P o a w K Q else E:=by
  rw [if_pos hw]
  unfold Oper.wp
  simp [execOp,hop,resolve,invoke,builtin,hs,hx,hrun,Result.andThen]
  exact hK
theorem step_call2_w {P:Program} {ops:Array Oper} {o:Oper} {a:Act} {w:World} {K:Act->World->Prop} {Q:Exit->Act->World->Prop} {E:Prop} (hw:Region.wanted o (yielded ops a.tmps)=true) (f:Nat) (x y:Operand) (ts:Array TypeId) (hop:o.op=Op.call { callee:=Callee.value (.func f),args:=#[x,y],argTypes:=ts })
    (hcf:∀ args w,(callFunc f args).run P w=.ok (.enter f args) w) (R:Ending->World->Prop) (hc:Calls P f #[a.eval x,a.eval y] w R) (hK:∀ e w',R e w'->∃ v,e=.returned v/\K (a.put o.dst v) w'):if Region.wanted o (yielded ops a.tmps)=true then Oper.wp P o a w K Q else E:=by
  rw [if_pos hw]
  obtain ⟨dst,op,type,pos,after,guard⟩:=o
  simp only at hop
  subst hop
  show Oper.upon P _ a K Q ((callFunc f (#[]++#[x,y].map a.eval++#[])).run P w)
  rw [hcf,Oper.upon_enter]
  refine Calls.mono (by simpa using hc) ?_
  intro e w' h
  obtain ⟨v,rfl,hk⟩:=hK e w' h
  exact hk
theorem two_lists {w:World} {u v:Value} {P M:List T} (hu:Strs w u P) (hv:Strs w v M) (hl:P.length+M.length<=100000):
    ∃ v1 w1 v2 w2,(Builtin.append_ #[29,29] 29 #[.slice (some ⟨w.heap.size,0,none⟩) 0 0,u]).run Tryz.prog (w.alloc (.cells #[] 9))=.ok v1 w1/\
      (Builtin.append_ #[29,29] 29 #[v1,v]).run Tryz.prog w1=.ok v2 w2/\StrsC w2 v2 (P++M)/\Below w.heap.size w w1/\Below w.heap.size w w2:=by
  have hA:Below w.heap.size w (w.alloc (.cells #[] 9)):=(Below.refl _ w).alloc (Nat.le_refl _) _
  have h0:(w.alloc (.cells #[] 9)).ownsRow w.heap.size 9 1 (.slice (some ⟨w.heap.size,0,none⟩) 0 0) 0 []:=
    ⟨rfl,Or.inr ⟨w.heap.size,0,#[],rfl,Nat.le_refl _,heap_new_at _ _ _ rfl,Nat.le_refl _,Nat.zero_le _,rfl,rfl⟩⟩
  obtain ⟨v1,w1,r1,o1,g1,_⟩:=append_strs (hu.below hA) h0 (by omega) (by simp)
  rw [Nat.zero_add,List.nil_append] at o1
  have b1:Below w.heap.size w w1:=own_grown (Nat.le_refl _) h0 hA (Below.refl _ _) g1 o1
  obtain ⟨v2,w2,r2,o2,g2,_⟩:=append_strs (hv.below b1) o1 (by omega) b1.size
  have o3:Own w2 w.heap.size v2 (P++M):=by
    unfold Own
    rw [List.length_append,scells_append]
    exact o2
  exact ⟨v1,w1,v2,w2,r1,r2,StrsC.of_own o3,b1,own_grown (Nat.le_refl _) o1 b1 (Below.refl _ _) g2 o2⟩
def Spn.hasK (key:T) (J:St):Bool:=J.any fun y=>decide (y.1=key)
theorem Spn.hasK_take (key:T) (J:St) (k:Nat) (hk:k<J.length):Spn.hasK key (J.take (k+1))=(Spn.hasK key (J.take k) || decide (J[k].1=key)):=by
  unfold Spn.hasK
  rw [List.take_succ_eq_append_getElem hk,List.any_append]
  simp
theorem Spn.hasK_of (key:T) (J:St):Spn.hasK key J=!(Spn.ofKey key J).isEmpty:=by
  unfold Spn.hasK Spn.ofKey
  induction J with
  | nil=>rfl
  | cons y r ih=>
    rw [List.any_cons,List.filter_cons]
    by_cases h:y.1=key
    · simp [h]
    · simp only [decide_eq_false h,Bool.false_or,Bool.false_eq_true,if_false]; exact ih
theorem Spn.point_found {key v:T} {there:Bool} {I:St} {E:List T} (h:Clash E∨(Spn.ofKey key I=Spn.sayL key v/\there=decide (v≠[]))) (hf:Spn.hasK key I≠there):Clash E:=by
  rcases h with h | ⟨h1,h2⟩
  · exact h
  · exfalso
    apply hf
    rw [Spn.hasK_of,h1,h2]
    unfold Spn.sayL
    by_cases hv:v=[]
    · rw [if_pos hv]; simp [hv]
    · rw [if_neg hv]; simp [hv]
theorem Spn.point_item {key v:T} {there:Bool} {I:St} {E:List T} (h:Clash E∨(Spn.ofKey key I=Spn.sayL key v/\there=decide (v≠[]))) {k:Nat} (hk:k<I.length) (hkey:I[k].1=key) (hf:¬ (there=true/\I[k].2=v)):Clash E:=by
  rcases h with h | ⟨h1,h2⟩
  · exact h
  · exfalso
    apply hf
    have hm:I[k]∈Spn.ofKey key I:=List.mem_filter.2 ⟨List.getElem_mem hk,by simp [hkey]⟩
    rw [h1] at hm
    unfold Spn.sayL at hm
    by_cases hv:v=[]
    · rw [if_pos hv] at hm; cases hm
    · rw [if_neg hv] at hm
      have:=List.mem_singleton.1 hm
      exact ⟨by rw [h2]; simp [hv],by rw [this]⟩
end
end Go.Proofs.YtaficmboooaknaaGreatDoor
