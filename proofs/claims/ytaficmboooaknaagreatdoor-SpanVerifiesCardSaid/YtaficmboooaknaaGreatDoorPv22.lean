import Derived.Test.YtaficmboooaknaaGreatDoorPv01
import Derived.Test.YtaficmboooaknaaGreatDoorPv21
import Derived.Test.YtaficmboooaknaaGreatDoorPv17
import Derived.Test.YtaficmboooaknaaGreatDoorPv15
import Derived.RangeFuncBound
import Derived.RangeFuncCalls
import Derived.Shelf.Abstract
import Derived.Shelf.RegionOpen
import Derived.OwnWalkIn
import Derived.TacticsInMore
import Derived.LoopNIn
import Derived.LoopIn
import Derived.Test.YtaficmboooaknaaGreatDoorPv14
import Derived.RangeFuncLeaves
import Derived.Test.YtaficmboooaknaaGreatDoorPv07
import Derived.Test.YtaficmboooaknaaGreatDoorPv20
set_option maxRecDepth 100000
set_option maxHeartbeats 16000000
namespace Go.Proofs.YtaficmboooaknaaGreatDoor
section
open Go.RowKit Go.Shelf
open Sto (T St)
attribute [local go_sem] Oper.semAt_some
def itv (x:T × T):Value:=.agg #[.string ⟨x.1.toArray⟩,.string ⟨x.2.toArray⟩]
theorem Scn.allR_past {S:St} (hS:Sto.Rising S) {f e:T} {k:Nat} (hk:k < S.length) (he:e ≠ []) (h:e<=S[k].1):Scn.allR S f e=Scn.allR (S.take k) f e:=by
  have hd:Scn.allR (S.drop k) f e=[]:=by
    unfold Scn.allR
    rw [List.filter_eq_nil_iff]
    intro x hx
    have hle:S[k].1<=x.1:=by
      rw [List.drop_eq_getElem_cons hk] at hx
      rcases List.mem_cons.1 hx with rfl | hx
      · exact List.le_refl _
      · have hr:Sto.Rising (S.drop k):=List.Pairwise.sublist (List.drop_sublist _ _) hS
        rw [List.drop_eq_getElem_cons hk] at hr
        exact List.le_of_lt ((List.pairwise_cons.1 hr).1 x hx)
    simp only [Scn.inR,Bool.and_eq_true,Bool.or_eq_true,decide_eq_true_eq,not_and,not_or]
    exact fun _=>⟨he,List.not_lt.2 (List.le_trans h hle)⟩
  conv=>lhs; rw [← List.take_append_drop k S]
  unfold Scn.allR at hd ⊢
  rw [List.filter_append,hd,List.append_nil]
theorem Scn.allR_pre (S:St) (f e:T) (k:Nat):Scn.allR (S.take k) f e <+: Scn.allR S f e:=by
  refine ⟨Scn.allR (S.drop k) f e,?_⟩
  unfold Scn.allR
  rw [← List.filter_append,List.take_append_drop]
def WithinPost (w:World) (g:Nat) (f e:T) (x:Ending) (w':World):Prop:=
  x=.returned (.func (.func 102) #[] #[.pointer (some ⟨w.heap.size,0,none⟩),.pointer (some ⟨w.heap.size+1,0,none⟩),.pointer (some ⟨w.heap.size+1+1,0,none⟩)])/\
    w'=((w.alloc (.cells #[ptr g] 26)).alloc (.cells #[.string ⟨f.toArray⟩] 9)).alloc (.cells #[.string ⟨e.toArray⟩] 9)
theorem within_any (g:Nat) (f e:T) (w:World):Calls Tryz.prog 64 #[ptr g,.string ⟨f.toArray⟩,.string ⟨e.toArray⟩] w (WithinPost w g f e):=by
  unfold WithinPost ptr
  have hmf:∀ (fn:Fn) (first cap:Array Value) (w:World),(Instr.makeFunc fn first cap).run Tryz.prog w=.ok (.func fn first cap) w:=fun _ _ _ _=>rfl
  go_enter Tryz.func64,Tryz.ntmps64
  go_wp2
  go_ret
  exact ⟨rfl,rfl⟩
theorem within_core (n:Nat) (hn:1<=n) (Bx b1 b2 b3 g:Nat) (S:St) (f e:T) (u:Value) (w:World) (hT:TrAt w g S)
    (h1:w.heap[b1]?=some (.cells #[ptr g] 26 (0,0))) (h2:w.heap[b2]?=some (.cells #[.string ⟨f.toArray⟩] 9 (0,0))) (h3:w.heap[b3]?=some (.cells #[.string ⟨e.toArray⟩] 9 (0,0)))
    (n2:b2 ≠ Bx) (n3:b3 ≠ Bx) (hx:w.cell? ⟨Bx,0,none⟩=some u) (hu:u.ownBlock=none)
    (l:Nat) (J Jx:St->World->Prop) (W:World) (hW:Below w.heap.size w W) (hJ:AbidesFrom W.heap.size J)
    (hY:∀ pre x W1,x.1.length<=8->J pre W1->pre.length < (Scn.allR S f e).length->YieldAt Fence.wide (n - 1) Tryz.prog l #[itv x] W1 fun x' W'=>
      (x'=.returned (.bool true)/\J (pre ++ [x]) W'/\Kpt Bx W1 W') ∨ (x'=.returned (.bool false)/\Jx (pre ++ [x]) W'))
    (h0:J [] W):
    CallsIn Fence.wide n Tryz.prog 102 #[.func (.yield l) #[] #[],.pointer (some ⟨b1,0,none⟩),.pointer (some ⟨b2,0,none⟩),.pointer (some ⟨b3,0,none⟩)] W fun x' W'=>(∃ v,x'=.returned v)/\((∃ xs,xs=Scn.allR S f e/\J xs W') ∨ (∃ pre,pre <+: Scn.allR S f e/\Jx pre W')):=by
  have hBx:Bx < w.heap.size:=World.block_lt_of_cell? w ⟨Bx,0,none⟩ hx
  have hxW:W.cell? ⟨Bx,0,none⟩=some u:=(hW.cell (p:=⟨Bx,0,none⟩) hBx).trans hx
  have hm:∀ k,k ≠ Bx->¬ Mine Bx W k:=fun k hk e=>by
    rcases e with e | ⟨v,hv,ho⟩
    · exact hk e
    · rw [hxW] at hv; cases hv; rw [hu] at ho; cases ho
  have hbW:Bx < W.heap.size:=Nat.lt_of_lt_of_le hBx hW.size
  have e1:W.heap[b1]?=_:=(hW.block b1 (lt_of_heap h1)).trans h1
  have e2:W.heap[b2]?=_:=(hW.block b2 (lt_of_heap h2)).trans h2
  have e3:W.heap[b3]?=_:=(hW.block b3 (lt_of_heap h3)).trans h3
  have HIT:=qh (sitems_any W (hT.below hW))
  have HTS:=qh hT.rise
  have HTF:=qh hT.few
  have HK8:Hid (∀ q ∈ S,q.1.length<=8):=qh (fun q hq=>by
    obtain ⟨_,_,_,_,h⟩:=hT
    exact (h.fair q hq).2.1)
  have c1:=cell_of_one e1
  unfold ptr at c1 HIT
  have HY:=qh hY
  have HJ:=qh hJ
  have H0:=qh h0
  have HM:=qh hm
  have HE:Hid (W.heap[b2]?=some (.cells #[.string ⟨f.toArray⟩] 9 (0,0))/\W.heap[b3]?=some (.cells #[.string ⟨e.toArray⟩] 9 (0,0))):=qh ⟨e2,e3⟩
  have HN:Hid (b2 ≠ Bx/\b3 ≠ Bx):=qh ⟨n2,n3⟩
  have HBW:=qh hbW
  clear hT h1 h2 h3 n2 n3 hx hu hBx hxW hm hbW e1 e2 e3 hY hJ h0 hW
  refine callsIn_of_wp Tryz.func102 rfl trivial ?_ rfl
  simp only [Tryz.ntmps102,List.size_toArray,List.length_cons,List.length_nil,Nat.reduceAdd,Nat.reduceSub,Array.replicate_succ,Array.replicate_zero,List.push_toArray,List.append_toArray,List.nil_append,List.cons_append]
  gi_wp2_with (refine ⟨trivial,?_⟩; gi_at_call 49; refine (callsIn_wide.2 HIT.out).mono ?_; rintro x w1 ⟨z,rfl,hz,hb1⟩; obtain ⟨A,cap,rfl,-,-⟩:=hz.at_.form)
  have HZ:=qh hz
  have HB1:=qh hb1
  have HJ1:Hid (J (Scn.allR (S.take 0) f e) w1):=qh (abides_below HJ.out (by simpa [Scn.allR] using H0.out) hb1)
  have HMO:Hid (∀ k,(Value.slice A S.length cap).ownBlock=some k->¬ Mine Bx w1 k):=qh (fun k hk=>by
    rw [Mine.of_below hb1 HBW.out]
    have:=(OwnI.lt hz k hk).1
    have:=HBW.out
    exact HM.out k (by omega))
  have HE1:Hid (∀ wr,Kpt Bx w1 wr->wr.cell? ⟨b2,0,none⟩=some (.string ⟨f.toArray⟩)/\wr.cell? ⟨b3,0,none⟩=some (.string ⟨e.toArray⟩)/\OwnI wr 0 (.slice A S.length cap) S):=qh (fun wr hk=>by
    have k1:=Kpt.of_below hb1 HBW.out
    have k2:=k1.trans hk
    refine ⟨cell_of_one (k2.heap HE.out.1 (HM.out _ HN.out.1)).1,cell_of_one (k2.heap HE.out.2 (HM.out _ HN.out.2)).1,?_⟩
    refine ⟨hz.1,?_⟩
    rcases hz.2 with h | ⟨gb,cp,cur,he,hB,hh,hr⟩
    · exact Or.inl h
    · exact Or.inr ⟨gb,cp,cur,he,Nat.zero_le _,(hk.heap hh (HMO.out gb (by rw [he]; rfl))).1,hr⟩)
  have HX1:Hid (Bx < w1.heap.size):=qh (Nat.lt_of_lt_of_le HBW.out hb1.size)
  clear hz hb1 c1
  gi_loopw [11] (fun iv wr=>∃ k:Nat,k<=S.length/\iv=.int .i64 k/\J (Scn.allR (S.take k) f e) wr/\Kpt Bx w1 wr) (fun i _=>S.length - (intOf i).toNat)
  case atStart=>exact ⟨0,Nat.zero_le _,rfl,HJ1.out,Kpt.refl _ _⟩
  case round=>
    obtain ⟨k,hk,rfl,hj,hkp⟩:=hrel
    have HJR:=qh hj
    have HKP:=qh hkp
    clear hj hkp
    by_cases hlt:k < S.length
    · obtain ⟨m2,m3,hown⟩:=HE1.out wr HKP.out
      obtain ⟨b,o,rfl,n0,nv⟩:=ItAt.at hown.at_ k hlt
      have HTA:=qh (Scn.allR_take S f e k hlt)
      have HPR:=qh (Scn.allR_pre S f e)
      have HPA:Hid (e ≠ []->e<=S[k].1->Scn.allR S f e=Scn.allR (S.take k) f e):=qh (Scn.allR_past HTS.out hlt)
      obtain ⟨⟨x,y⟩,hx⟩:∃ p,S[k]=p:=⟨_,rfl⟩
      have hx8:x.length<=8:=by have:=HK8.out _ (List.getElem_mem hlt); rwa [hx] at this
      rw [hx] at n0 nv HTA HPA
      dsimp only at n0 nv HTA HPA
      have HBA:Hid (Below wr.heap.size wr (wr.alloc (.cells #[.string ⟨x.toArray⟩,.string ⟨y.toArray⟩] 60))):=qh ((Below.refl _ wr).alloc (Nat.le_refl _) _)
      have HKA:=qh (HKP.out.trans (Kpt.of_below HBA.out (Nat.lt_of_lt_of_le HX1.out HKP.out.size)))
      have HJA:=qh (abides_below HJ.out HJR.out HBA.out)
      obtain ⟨m2,m3,-⟩:=HE1.out _ HKA.out
      have hnb:(k:Int)<=100000:=by have:=HTF.out; omega
      clear hown hx
      have hyield:Scn.inR f e x=true->_:=fun hin=>HY.out (Scn.allR (S.take k) f e) (x,y) _ hx8 HJA.out (by
        have h1:=(HPR.out (k+1)).length_le
        rw [HTA.out,hin] at h1
        simp at h1
        omega)
      have HNX:Hid (Scn.inR f e x=true->Scn.allR (S.take (k+1)) f e=Scn.allR (S.take k) f e ++ [(x,y)]):=qh (fun hin=>by rw [HTA.out,hin]; simp)
      by_cases hf:x < f
      ·
        have q1:Op.bytesLess x f=true:=by rw [less_lt]; exact decide_eq_true hf
        have HSK:Hid (Scn.allR (S.take (k+1)) f e=Scn.allR (S.take k) f e):=qh (by
          rw [HTA.out,if_neg,List.append_nil]
          simp only [Scn.inR,Bool.and_eq_true,decide_eq_true_eq,not_and]
          exact fun h=>absurd hf (List.not_lt.2 h))
        clear hf hyield
        gi_wp2
        exact ⟨⟨k+1,by omega,by go_num,by rw [HSK.out]; exact HJA.out,HKA.out⟩,by simp [intOf]; omega⟩
      have q1:Op.bytesLess x f=false:=by rw [less_lt]; exact decide_eq_false hf
      by_cases hp:e ≠ []/\e<=x
      ·
        have q2:Op.bytesLess x e=false:=by rw [less_lt]; exact decide_eq_false (List.not_lt.2 hp.2)
        have q3:(e == [])=false:=beq_eq_false_iff_ne.2 hp.1
        have q4:e.isEmpty=false:=by cases e <;> simp_all
        have HEND:Hid (J (Scn.allR S f e) (wr.alloc (.cells #[.string ⟨x.toArray⟩,.string ⟨y.toArray⟩] 60))):=qh (by rw [HPA.out hp.1 hp.2]; exact HJA.out)
        clear hf hp hyield
        gi_wp2
        refine ⟨fun _ h=>(by cases h),?_⟩
        gi_wp2
        refine bodyPost_ret (results_none rfl _ _ _) rfl ?_
        exact ⟨⟨_,rfl⟩,.inl ⟨_,rfl,HEND.out⟩⟩
      have HIN:Hid (Scn.inR f e x=true):=qh (by
        simp only [Scn.inR,Bool.and_eq_true,Bool.or_eq_true,decide_eq_true_eq]
        refine ⟨List.not_lt.1 hf,?_⟩
        by_cases h:e=[]
        · exact Or.inl h
        · exact Or.inr (Classical.byContradiction fun h2=>hp ⟨h,List.not_lt.1 h2⟩))
      have HPS:Hid ((e == [])=true/\e.isEmpty=true ∨ ((e == [])=false/\e.isEmpty=false/\Op.bytesLess x e=true)):=qh (by
        by_cases h:e=[]
        · left; subst h; exact ⟨rfl,rfl⟩
        · right
          refine ⟨beq_eq_false_iff_ne.2 h,by cases e <;> simp_all,?_⟩
          rw [less_lt]; exact decide_eq_true (Classical.byContradiction fun h2=>hp ⟨h,List.not_lt.1 h2⟩))
      obtain ⟨fn,tmps,assign,body,hy,hR⟩:=hyield HIN.out
      have hy:(Instr.yield l #[.agg #[.string ⟨x.toArray⟩,.string ⟨y.toArray⟩]]).run Tryz.prog (wr.alloc (.cells #[.string ⟨x.toArray⟩,.string ⟨y.toArray⟩] 60))=.ok (.round l fn tmps assign body) (wr.alloc (.cells #[.string ⟨x.toArray⟩,.string ⟨y.toArray⟩] 60)):=hy
      have HR:=qh hR
      have HLE:Hid (k < S.length):=qh hlt
      clear hf hp hyield hR
      rcases HPS.out with ⟨q3,q4⟩ | ⟨q3,q4,q2⟩
      all_goals
        gi_wp2
        refine HR.out.mono ?_
        rintro e W3 (⟨rfl,hJ3,hk3⟩ | ⟨rfl,hJx3⟩)
        · have HJ3:=qh hJ3
          have HK3:=qh (HKA.out.trans hk3)
          clear hJ3 hk3
          gi_wp2
          exact ⟨⟨k+1,by omega,by go_num,by rw [HNX.out HIN.out]; exact HJ3.out,HK3.out⟩,by simp [intOf]; omega⟩
        · gi_wp2
          refine bodyPost_ret (results_none rfl _ _ _) rfl ?_
          exact ⟨⟨_,rfl⟩,.inr ⟨_,by rw [← HNX.out HIN.out]; exact HPR.out _,hJx3⟩⟩
    · obtain rfl:k=S.length:=by omega
      have HEND:Hid (J (Scn.allR S f e) wr):=qh (by have:=HJR.out; rwa [List.take_length] at this)
      gi_wp2
      go_end0
      exact ⟨⟨_,rfl⟩,.inl ⟨_,rfl,HEND.out⟩⟩
abbrev Itm:={ x:T × T // x.1.length<=8 }
def Itm.all (L:List Itm):St:=L.map Subtype.val
theorem within_stops8 (n:Nat) (hn:1<=n) (Bx b1 b2 b3 g:Nat) (S:St) (f e:T) (u:Value) (w:World) (hT:TrAt w g S)
    (h1:w.heap[b1]?=some (.cells #[ptr g] 26 (0,0))) (h2:w.heap[b2]?=some (.cells #[.string ⟨f.toArray⟩] 9 (0,0))) (h3:w.heap[b3]?=some (.cells #[.string ⟨e.toArray⟩] 9 (0,0)))
    (n2:b2 ≠ Bx) (n3:b3 ≠ Bx) (hx:w.cell? ⟨Bx,0,none⟩=some u) (hu:u.ownBlock=none):
    SeqStopsK Fence.wide n Tryz.prog 102 #[.pointer (some ⟨b1,0,none⟩),.pointer (some ⟨b2,0,none⟩),.pointer (some ⟨b3,0,none⟩)] (fun x:Itm=>#[itv x.1]) (Kpt Bx) (fun xs=>Itm.all xs=Scn.allR S f e) (fun pre=>Itm.all pre <+: Scn.allR S f e) (Scn.allR S f e).length w:=by
  intro l J Jx W hW hJ hJx hY h0
  refine (within_core n hn Bx b1 b2 b3 g S f e u w hT h1 h2 h3 n2 n3 hx hu l (fun pre W=>∃ p,Itm.all p=pre/\J p W) (fun pre W=>∃ p,Itm.all p=pre/\Jx p W) W hW ?_ ?_ ⟨[],rfl,h0⟩).mono ?_
  · rintro s A B row ⟨p,hp,hj⟩ hg hr
    exact ⟨p,hp,hJ p A B row hj hg hr⟩
  · rintro pre x W1 hx8 ⟨p,rfl,hj⟩ hl
    refine YieldAt.mono (hY p ⟨x,hx8⟩ W1 hj (by simpa [Itm.all] using hl)) ?_
    rintro y W' (⟨rfl,h4,h5⟩ | ⟨rfl,h4⟩)
    · exact Or.inl ⟨rfl,⟨_,by simp [Itm.all],h4⟩,h5⟩
    · exact Or.inr ⟨rfl,⟨_,by simp [Itm.all],h4⟩⟩
  · rintro y W' ⟨hv,⟨xs,rfl,p,hp,hj⟩ | ⟨pre,hpre,p,rfl,hj⟩⟩
    · exact ⟨hv,Or.inl ⟨p,hp,hj⟩⟩
    · exact ⟨hv,Or.inr ⟨p,hpre,hj⟩⟩
end
section
open Go.RowKit Go.Shelf
open Sto (T St)
attribute [local go_sem] Oper.semAt_some
theorem wpListIn_append_run {F:Fence} {n:Nat} {P:Program} {w w':World} {ops:Array Oper} {rest:List Oper} {o:Oper} {a:Act} {Q:Exit->Act->World->Prop} (hg:o.guard=none) (s x:Operand) (t:TypeId) (hop:o.op=Op.call { callee:=Callee.builtin Builtin.append,args:=#[s,x],argTypes:=#[t,t] })
    (sv xv r:Value) (hs:a.eval s=sv) (hx:a.eval x=xv) (hrun:(Builtin.append_ #[t,t] o.type #[sv,xv]).run P w=.ok r w') (hK:wpListIn F n P ops Q rest (a.put o.dst r) w'):
    wpListIn F n P ops Q (o :: rest) a w:=by
  refine wpListIn_plain hg fun K hK'=>?_
  unfold Oper.wpIn
  refine ⟨?_,?_⟩
  · simp [Oper.about,hop,resolve,Target.leads,Sem.run_pure]
  · rw [Oper.semAt_plain F _ _ (by rw [hop]; intro c hc'; cases hc')]
    simp [execOp,hop,resolve,invoke,builtin,hs,hx,hrun,Result.andThen,Oper.uponIn]
    exact hK' _ _ hK
theorem app_item_at {w:World} {B:Nat} {z:Value} {S:St} (x y:T) (h:OwnI w B z S) (hl:S.length<=100000) (hB:B<=w.heap.size):
    ∃ g c w',(Builtin.append_ #[22,22] 22 #[z,.slice (some ⟨w.heap.size,0,none⟩) 1 1]).run Tryz.prog (w.alloc (.cells #[.string ⟨x.toArray⟩,.string ⟨y.toArray⟩] 60))=.ok (.slice (some ⟨g,0,none⟩) (S.length+1) c) w'/\
      OwnI w' B (.slice (some ⟨g,0,none⟩) (S.length+1) c) (S ++ [(x,y)])/\(w.alloc (.cells #[.string ⟨x.toArray⟩,.string ⟨y.toArray⟩] 60)).grownBy w' z.ownBlock/\(some g=z.ownBlock ∨ g=w.heap.size+1):=by
  have hv:ItAt (w.alloc (.cells #[.string ⟨x.toArray⟩,.string ⟨y.toArray⟩] 60)) (.slice (some ⟨w.heap.size,0,none⟩) 1 1) [(x,y)]:=
    OwnI.at_ (B:=w.heap.size) ⟨rfl,Or.inr ⟨w.heap.size,1,_,rfl,Nat.le_refl _,heap_alloc_new w _,by simp,by simp [maxLen],rfl,rfl⟩⟩
  have hs:(w.alloc (.cells #[.string ⟨x.toArray⟩,.string ⟨y.toArray⟩] 60)).ownsRow B 60 2 z S.length (rowsL itcl S):=World.ownsRow.alloc h _
  obtain ⟨v',w',h1,h2,h3,h4⟩:=append_it hv hs (by simp; omega) (by simp; omega)
  have ho:OwnI w' B v' (S ++ [(x,y)]):=by
    unfold OwnI
    rw [List.length_append,rowsL_append]
    exact h2
  obtain ⟨g,c,e,_,_⟩:=World.ownsRow.form h2 (by simp)
  subst e
  refine ⟨g,c,w',h1,ho,h3,?_⟩
  rcases h4 with h4 | h4
  · exact Or.inl h4
  · right
    simpa [Value.ownBlock] using h4
theorem Kpt.appended {Bx:Nat} {W w1:World} {t:TypeId} {v v':Value} {o:Obj} (hv:Go.Boxed W Bx t v) (hgrow:(W.alloc o).grownBy w1 v.ownBlock) (hne:v.ownBlock ≠ some Bx) (hv':v'.ownBlock=v.ownBlock ∨ v'.ownBlock=some (W.heap.size+1)):Kpt Bx W (w1.setCell ⟨Bx,0,none⟩ v'):=by
  have hlt:=hv.lt
  have hB1:w1.heap[Bx]?=W.heap[Bx]?:=(hgrow.block Bx (by simp; omega) (fun e=>hne e.symm)).trans (Below.heap_alloc W o Bx hlt)
  have hc1:w1.cell? ⟨Bx,0,none⟩=some v:=(World.cell?_of_block (w:=W) (a:=⟨Bx,0,none⟩) hB1).trans hv.cell
  have hs:(w1.setCell ⟨Bx,0,none⟩ v').heap.size=w1.heap.size:=by simp [World.setCell]
  have hsz:=hgrow.size
  rw [World.size_alloc] at hsz
  refine ⟨by rw [hs]; omega,fun k hk hm=>?_⟩
  have h1:k ≠ Bx:=fun e=>hm (Or.inl e)
  have h2:v.ownBlock ≠ some k:=fun e=>hm (Or.inr ⟨v,hv.cell,e⟩)
  refine ⟨?_,fun q hq _=>?_⟩
  · rintro (e | ⟨u,hu,ho⟩)
    · exact h1 e
    · rw [World.cell?_setCell_same' _ _ _ (by rw [hc1]; rfl)] at hu
      cases hu
      rcases hv' with e | e
      · exact h2 (e.symm.trans ho)
      · rw [e] at ho
        have:=Option.some.inj ho
        omega
  · exact ((Below.heap_setCell w1 ⟨Bx,0,none⟩ v' k h1).trans ((hgrow.block k (by simp; omega) (fun e=>h2 e.symm)).trans (Below.heap_alloc W o k hk))).trans hq
theorem not_mine {W:World} {Bx b:Nat} {t t2:TypeId} {v u:Value} {B n:Nat} {xs:List Value} (hv:Go.Boxed W Bx t v) (hb:Go.Boxed W b t2 u) (hne:b ≠ Bx) (ht:t2 ≠ 60) (hr:W.ownsRow B 60 2 v n xs):¬ Mine Bx W b:=by
  rintro (e | ⟨x,hx,ho⟩)
  · exact hne e
  · rw [hv.cell] at hx
    cases hx
    exact hb.not_row ht hr ho.symm
structure RI (w:World) (m:Int) (pre:St) (W:World):Prop where
  most:Go.Boxed W w.heap.size 3 (.int .i64 m)
  its:∃ v,Go.Boxed W (w.heap.size+1) 22 v/\OwnI W w.heap.size v pre
  next:Go.Boxed W (w.heap.size+1+1) 9 (.string ⟨#[]⟩)
  code:Go.Boxed W (w.heap.size+1+1+1) 32 (.int .i64 0)
  len:(pre.length:Int)<=m
  old:Below w.heap.size w W
structure RX (w:World) (m:Int) (pre:St) (W:World):Prop where
  part:∃ ini x,pre=ini ++ [x]/\(ini.length:Int)=m/\∃ v,Go.Boxed W (w.heap.size+1) 22 v/\OwnI W w.heap.size v ini/\
    Go.Boxed W (w.heap.size+1+1) 9 (.string ⟨(Scn.behind (ini.getD (m.toNat - 1) ([],[])).1).toArray⟩)
  code:Go.Boxed W (w.heap.size+1+1+1) 32 (.int .i64 0)
  old:Below w.heap.size w W
theorem boxed_turn {W W':World} {B:Nat} {t:TypeId} {v:Value} {row:Option Nat} (h:Go.Boxed W B t v) (hg:W.grownBy W' row) (hr:∀ r,row=some r->∃ o:Obj,W.heap[r]?=some o/\o.isCells=false):Go.Boxed W' B t v:=
  boxed_own B t (fun _:Unit=>v) () W W' row h hg hr
theorem ownI_turn {W W':World} {B:Nat} {v:Value} {S:St} {row:Option Nat} (h:OwnI W B v S) (hg:W.grownBy W' row) (hr:∀ r,row=some r->∃ o:Obj,W.heap[r]?=some o/\o.isCells=false):OwnI W' B v S:=by
  refine World.ownsRow.kept h hg ?_
  rcases h.2 with ⟨rfl,_⟩ | ⟨g,cap,cur,rfl,_,hgb,_⟩
  · exact .inl rfl
  · refine .inr fun e'=>?_
    obtain ⟨o,ho,hc⟩:=hr g (by simpa [Value.ownBlock] using e'.symm)
    rw [hgb] at ho; cases ho; cases hc
theorem RI.own (w:World) (m:Int) {B:Nat} (hB:w.heap.size<=B):OwnFrom B (fun pre W=>RI w m pre W):=fun pre A C row h hg hr=>by
  have hr':∀ r,row=some r->∃ o:Obj,A.heap[r]?=some o/\o.isCells=false:=fun r e=>(hr r e).2
  obtain ⟨v,h1,h2⟩:=h.its
  exact ⟨boxed_turn h.most hg hr',⟨v,boxed_turn h1 hg hr',ownI_turn h2 hg hr'⟩,boxed_turn h.next hg hr',boxed_turn h.code hg hr',h.len,h.old.grown hg h.old.size (fun k e=>Nat.le_trans hB (hr k e).1)⟩
theorem RX.own (w:World) (m:Int) (c:Code) {B:Nat} (hB:w.heap.size<=B):OwnFrom B (fun pre W=>c=.ret/\RX w m pre W):=fun pre A C row h hg hr=>by
  have hr':∀ r,row=some r->∃ o:Obj,A.heap[r]?=some o/\o.isCells=false:=fun r e=>(hr r e).2
  obtain ⟨hc,⟨ini,x,e1,e2,v,h1,h2,h3⟩,h4,h5⟩:=h
  exact ⟨hc,⟨ini,x,e1,e2,v,boxed_turn h1 hg hr',ownI_turn h2 hg hr',boxed_turn h3 hg hr'⟩,boxed_turn h4 hg hr',h5.grown hg h5.size (fun k e=>Nat.le_trans hB (hr k e).1)⟩
theorem keeps_below {W W':World} (h:Below W.heap.size W W') (B:Nat):KeepsFrom B W W':=⟨h.size,fun k _ _ hk _=>(h.block k (lt_of_heap hk)).trans hk⟩
theorem boxed_below {W W':World} {B:Nat} {t:TypeId} {v:Value} (h:Go.Boxed W B t v) (hb:Below W.heap.size W W'):Go.Boxed W' B t v:=(hb.block B h.lt).trans h
theorem ownI_set {W:World} {B b:Nat} {v u:Value} {S:St} (h:OwnI W B v S) (hb:v.ownBlock ≠ some b):OwnI (W.setCell ⟨b,0,none⟩ u) B v S:=
  World.ownsRow.kept h (grownBy_setCell' W b u) (Or.inr hb)
theorem RI.three {w W w':World} {m:Int} {pre:St} {v:Value} {nx:T} (h:RI w m pre W) (hv:Go.Boxed W (w.heap.size+1) 22 v) (ho:OwnI W w.heap.size v pre) (hb:Below W.heap.size W w') (B:Nat) {W3:World}
    (hW:((w'.setCell ⟨w.heap.size+1,0,none⟩ v).setCell ⟨w.heap.size+1+1,0,none⟩ (.string ⟨nx.toArray⟩)).setCell ⟨w.heap.size+1+1+1,0,none⟩ (.int .i64 0)=W3):
    KeepsFrom B W W3/\Go.Boxed W3 (w.heap.size+1) 22 v/\OwnI W3 w.heap.size v pre/\Go.Boxed W3 (w.heap.size+1+1) 9 (.string ⟨nx.toArray⟩)/\Go.Boxed W3 (w.heap.size+1+1+1) 32 (.int .i64 0)/\Below w.heap.size w W3:=by
  have hv':=boxed_below hv hb
  have hn':=boxed_below h.next hb
  have hc':=boxed_below h.code hb
  have ho':=ho.below hb
  have n1:v.ownBlock ≠ some (w.heap.size+1):=fun e=>hv'.not_row (by decide) ho' e.symm
  have n2:v.ownBlock ≠ some (w.heap.size+1+1):=fun e=>hn'.not_row (by decide) ho' e.symm
  have n3:v.ownBlock ≠ some (w.heap.size+1+1+1):=fun e=>hc'.not_row (by decide) ho' e.symm
  have hB:=h.old.trans (hb.mono h.old.size)
  subst hW
  refine ⟨(((keeps_below hb B).trans ((KeepsOthers.setCell _ _ _).from _)).trans ((KeepsOthers.setCell _ _ _).from _)).trans ((KeepsOthers.setCell _ _ _).from _),?_,?_,?_,?_,?_⟩
  · exact ((hv'.set v).other (by omega) _).other (by omega) _
  · exact ownI_set (ownI_set (ownI_set ho' n1) n2) n3
  · exact ((hn'.other (by omega) _).set _).other (by omega) _
  · exact ((hc'.other (by omega) _).other (by omega) _).set _
  · exact ((hB.setCell (p:=⟨w.heap.size+1,0,none⟩) (by simp) _).setCell (p:=⟨w.heap.size+1+1,0,none⟩) (by simp; omega) _).setCell (p:=⟨w.heap.size+1+1+1,0,none⟩) (by simp; omega) _
theorem RI.leave {w W w':World} {m:Int} {pre:St} {v:Value} {x:T × T} {nx:T} (h:RI w m pre W) (hv:Go.Boxed W (w.heap.size+1) 22 v) (ho:OwnI W w.heap.size v pre) (hb:Below W.heap.size W w') (hl:(pre.length:Int)=m)
    (hn:Scn.behind (pre.getD (m.toNat - 1) ([],[])).1=nx) (B:Nat) {W3:World}
    (hW:((w'.setCell ⟨w.heap.size+1,0,none⟩ v).setCell ⟨w.heap.size+1+1,0,none⟩ (.string ⟨nx.toArray⟩)).setCell ⟨w.heap.size+1+1+1,0,none⟩ (.int .i64 0)=W3):
    KeepsFrom B W W3/\RX w m (pre ++ [x]) W3:=by
  obtain ⟨h1,h2,h3,h4,h5,h6⟩:=h.three hv ho hb B hW
  exact ⟨h1,⟨pre,x,rfl,hl,v,h2,h3,by rw [hn]; exact h4⟩,h5,h6⟩
theorem RI.more {w W w1:World} {m:Int} {pre:St} {v v':Value} {x:T × T} {o:Obj} (h:RI w m pre W) (hv:Go.Boxed W (w.heap.size+1) 22 v) (ho:OwnI W w.heap.size v pre) (hl:(pre.length:Int)+1<=m)
    (ho':OwnI w1 w.heap.size v' (pre ++ [x])) (hg:(W.alloc o).grownBy w1 v.ownBlock) (hv':v'.ownBlock=v.ownBlock ∨ v'.ownBlock=some (W.heap.size+1)) (B:Nat):
    KeepsFrom B W (w1.setCell ⟨w.heap.size+1,0,none⟩ v')/\Kpt (w.heap.size+1) W (w1.setCell ⟨w.heap.size+1,0,none⟩ v')/\RI w m (pre ++ [x]) (w1.setCell ⟨w.heap.size+1,0,none⟩ v'):=by
  obtain ⟨k1,k2,k3,k4,k5⟩:=hv.appended (by decide) ho h.old.size (by omega) ho' hg
  have hk:=Kpt.appended hv hg (fun e=>hv.not_row (by decide) ho e.symm) hv'
  refine ⟨k4.from _,hk,(hk.heap h.most (not_mine hv h.most (by omega) (by decide) ho)).1,⟨v',k2,k3⟩,(hk.heap h.next (not_mine hv h.next (by omega) (by decide) ho)).1,(hk.heap h.code (not_mine hv h.code (by omega) (by decide) ho)).1,by rw [List.length_append,List.length_singleton]; omega,h.old.trans k5⟩
theorem range_results {tmps:Array Value} {W:World} {a b c:Nat} {x y z:Value} (h8:tmps[8]?.getD undef=.pointer (some ⟨a,0,none⟩)) (h9:tmps[9]?.getD undef=.pointer (some ⟨b,0,none⟩)) (h10:tmps[10]?.getD undef=.pointer (some ⟨c,0,none⟩))
    (hx:W.cell? ⟨a,0,none⟩=some x) (hy:W.cell? ⟨b,0,none⟩=some y) (hz:W.cell? ⟨c,0,none⟩=some z):(results Tryz.f35 tmps).run Tryz.prog W=.ok (.tuple #[x,y,z]) W:=by
  simp [results,Tryz.f35,go_sem,h8,h9,h10,hx,hy,hz]
theorem Scn.page_done {S:St} {f e:T} {m:Int} (hm:1<=m/\m<=16) (h:((Scn.allR S f e).length:Int)<=m):Scn.pageR S f e m=(Scn.allR S f e,[],0):=by
  rw [Scn.pageR,if_pos hm,if_pos (by omega)]
theorem Scn.page_stop {S ini:St} {f e:T} {m:Int} {x:T × T} (hm:1<=m/\m<=16) (h:ini ++ [x] <+: Scn.allR S f e) (hl:(ini.length:Int)=m):Scn.pageR S f e m=(ini,Scn.behind (ini.getD (m.toNat - 1) ([],[])).1,0):=by
  obtain ⟨r,hr⟩:=h
  have h1:m.toNat=ini.length:=by omega
  have h2:¬ ((Scn.allR S f e).length<=m.toNat):=by rw [← hr,h1]; simp
  rw [Scn.pageR,if_pos hm,if_neg h2,← hr,h1]
  have h3:0 < ini.length:=by omega
  simp only [List.append_assoc,List.take_left,List.getD_eq_getElem?_getD]
  rw [List.getElem?_append_left (by omega)]
theorem range_ok:RangeOk:=by
  intro g S f e m w hT
  unfold SPage
  refine (callsIn_wide (n:=8)).1 ?_
  refine callsIn_of_wp_marks Tryz.func35 rfl trivial ?_ rfl
  unfold ptr
  simp only [Tryz.ntmps35,List.size_toArray,List.length_cons,List.length_nil,Nat.reduceAdd,Nat.reduceSub,Array.replicate_succ,Array.replicate_zero,List.push_toArray,List.append_toArray,List.nil_append,List.cons_append]
  have HWI:=qh (fun w=>within_any g f e w)
  unfold WithinPost ptr at HWI
  by_cases hm:1<=m/\m<=16
  case neg=>
    have HPG:Hid (Scn.pageR S f e m=([],[],1)):=qh (by rw [Scn.pageR,if_neg hm])
    rw [HPG.out]
    have HBL:Hid (∀ c:Int,Below w.heap.size w ((((w.alloc (.cells #[.int .i64 m] 3)).alloc (.cells #[.slice none 0 0] 22)).alloc (.cells #[.string ⟨#[]⟩] 9)).alloc (.cells #[.int .i64 c] 32))):=qh (fun c=>((((Below.refl _ w).alloc (Nat.le_refl _) _).alloc (by simp) _).alloc (by simp; omega) _).alloc (by simp; omega) _)
    have HCE:Hid (∀ c:Int,((((w.alloc (.cells #[.int .i64 m] 3)).alloc (.cells #[.slice none 0 0] 22)).alloc (.cells #[.string ⟨#[]⟩] 9)).alloc (.cells #[.int .i64 c] 32)).cell? ⟨w.heap.size+1,0,none⟩=some (.slice none 0 0)/\((((w.alloc (.cells #[.int .i64 m] 3)).alloc (.cells #[.slice none 0 0] 22)).alloc (.cells #[.string ⟨#[]⟩] 9)).alloc (.cells #[.int .i64 c] 32)).cell? ⟨w.heap.size+1+1,0,none⟩=some (.string ⟨#[]⟩)/\((((w.alloc (.cells #[.int .i64 m] 3)).alloc (.cells #[.slice none 0 0] 22)).alloc (.cells #[.string ⟨#[]⟩] 9)).alloc (.cells #[.int .i64 c] 32)).cell? ⟨w.heap.size+1+1+1,0,none⟩=some (.int .i64 c)):=qh (fun c=>
      ⟨cell_of_one (heap_old_at _ (heap_old_at _ (heap_new_at _ _ _ (by simp)))),cell_of_one (heap_old_at _ (heap_new_at _ _ _ (by simp))),cell_of_one (heap_new_at _ _ _ (by simp))⟩)
    have HMM:Hid (m < 1 ∨ 16 < m):=qh (by omega)
    clear hm hT
    rcases HMM.out with h1 | h2
    · gi_wp2
      exact ⟨_,range_results rfl rfl rfl (HCE.out 1).1 (HCE.out 1).2.1 (HCE.out 1).2.2,_,rfl,OwnI.nil _ _,HBL.out 1⟩
    · have h1:¬ (m < 1):=by omega
      gi_wp2
      exact ⟨_,range_results rfl rfl rfl (HCE.out 1).1 (HCE.out 1).2.1 (HCE.out 1).2.2,_,rfl,OwnI.nil _ _,HBL.out 1⟩
  obtain ⟨n,rfl⟩:∃ n:Nat,m=(n:Int)+1:=⟨(m - 1).toNat,by omega⟩
  have hn15:(n:Int)<=15:=by omega
  have h1:¬ ((n:Int)+1 < 1):=by omega
  have h2:¬ ((16:Int) < (n:Int)+1):=by omega
  gi_wp2_with (refine ⟨trivial,?_⟩; gi_at_call 64; refine (callsIn_wide.2 (HWI.out _)).mono ?_; rintro x w1 ⟨rfl,rfl⟩)
  obtain ⟨W0,hW0⟩:∃ W0,((((((w.alloc (.cells #[.int .i64 ((n:Int)+1)] 3)).alloc (.cells #[.slice none 0 0] 22)).alloc (.cells #[.string ⟨#[]⟩] 9)).alloc (.cells #[.int .i64 0] 32)).alloc (.cells #[ptr g] 26)).alloc (.cells #[.string ⟨f.toArray⟩] 9)).alloc (.cells #[.string ⟨e.toArray⟩] 9)=W0:=⟨_,rfl⟩
  have hB0:Below w.heap.size w W0:=by rw [← hW0]; exact (((((((Below.refl _ w).alloc (Nat.le_refl _) _).alloc (by simp) _).alloc (by simp; omega) _).alloc (by simp; omega) _).alloc (by simp; omega) _).alloc (by simp; omega) _).alloc (by simp; omega) _
  have hs0:W0.heap.size=w.heap.size+7:=by rw [← hW0]; simp
  have e0:W0.heap[w.heap.size]?=some (.cells #[.int .i64 ((n:Int)+1)] 3 (0,0)):=by
    rw [← hW0]; exact heap_old_at _ (heap_old_at _ (heap_old_at _ (heap_old_at _ (heap_old_at _ (heap_old_at _ (heap_alloc_new w _))))))
  have e1:W0.heap[w.heap.size+1]?=some (.cells #[.slice none 0 0] 22 (0,0)):=by
    rw [← hW0]; exact heap_old_at _ (heap_old_at _ (heap_old_at _ (heap_old_at _ (heap_old_at _ (heap_new_at _ _ _ (by simp))))))
  have e2:W0.heap[w.heap.size+1+1]?=some (.cells #[.string ⟨#[]⟩] 9 (0,0)):=by
    rw [← hW0]; exact heap_old_at _ (heap_old_at _ (heap_old_at _ (heap_old_at _ (heap_new_at _ _ _ (by simp)))))
  have e3:W0.heap[w.heap.size+1+1+1]?=some (.cells #[.int .i64 0] 32 (0,0)):=by
    rw [← hW0]; exact heap_old_at _ (heap_old_at _ (heap_old_at _ (heap_new_at _ _ _ (by simp))))
  have e4:W0.heap[w.heap.size+1+1+1+1]?=some (.cells #[ptr g] 26 (0,0)):=by
    rw [← hW0]; exact heap_old_at _ (heap_old_at _ (heap_new_at _ _ _ (by simp)))
  have e5:W0.heap[w.heap.size+1+1+1+1+1]?=some (.cells #[.string ⟨f.toArray⟩] 9 (0,0)):=by
    rw [← hW0]; exact heap_old_at _ (heap_new_at _ _ _ (by simp))
  have e6:W0.heap[w.heap.size+1+1+1+1+1+1]?=some (.cells #[.string ⟨e.toArray⟩] 9 (0,0)):=by
    rw [← hW0]; exact heap_new_at _ _ _ (by simp)
  have HLE:Hid ((Scn.allR S f e).length<=1024):=qh (Nat.le_trans (Scn.allR_len S f e) hT.few)
  have HK8:Hid (∀ q ∈ Scn.allR S f e,q.1.length<=8):=qh (fun q hq=>by
    obtain ⟨_,_,_,_,h⟩:=hT
    exact (h.fair q (List.mem_filter.1 hq).1).2.1)
  unfold ptr at hW0
  rw [hW0]
  refine wpIn_rangeFunc_ownH rfl (by omega) (gf:=102) (lb:=#[.pointer (some ⟨w.heap.size+1+1+1+1,0,none⟩),.pointer (some ⟨w.heap.size+1+1+1+1+1,0,none⟩),.pointer (some ⟨w.heap.size+1+1+1+1+1+1,0,none⟩)]) rfl trivial (enters_of Tryz.func102 (by kernel_rfl) rfl)
    (within_stops8 (8 - 1) (by omega) (w.heap.size+1) (w.heap.size+1+1+1+1) (w.heap.size+1+1+1+1+1) (w.heap.size+1+1+1+1+1+1) g S f e (.slice none 0 0) W0 (hT.below hB0) e4 e5 e6 (by omega) (by omega) (cell_of_one e1) rfl)
    kpt_t (kpt_b (by omega)) (Below.refl _ _) (fun _=>rfl)
    (fun pre W=>RI w ((n:Int)+1) (Itm.all pre) W) (fun c pre W=>c=.ret/\RX w ((n:Int)+1) (Itm.all pre) W)
    (fun pre=>RI.own w ((n:Int)+1) (by omega) (Itm.all pre)) (fun c pre=>RX.own w ((n:Int)+1) c (by omega) (Itm.all pre))
    ⟨e0,⟨_,e1,OwnI.nil _ _⟩,e2,e3,by simp [Itm.all]; omega,hB0⟩
    (fun x a' W=>∃ X,W.heap[X]?=some (.cells #[.string ⟨x.1.1.toArray⟩,.string ⟨x.1.2.toArray⟩] 60 (0,0))/\a'={ tmps:=#[.pointer (some ⟨g,0,none⟩),.string ⟨f.toArray⟩,.string ⟨e.toArray⟩,.int .i64 ((n:Int)+1),undef,undef,undef,.pointer (some ⟨w.heap.size,0,none⟩),.pointer (some ⟨w.heap.size+1,0,none⟩),.pointer (some ⟨w.heap.size+1+1,0,none⟩),.pointer (some ⟨w.heap.size+1+1+1,0,none⟩),.pointer (some ⟨X,0,none⟩),.int .i64 ((n:Int)+1),.bool false,.bool false,.int .i64 ((n:Int)+1),.bool false,.bool false,.pointer (some ⟨g,0,none⟩),.string ⟨f.toArray⟩,.string ⟨e.toArray⟩,
      .func (.func 102) #[] #[.pointer (some ⟨w.heap.size+1+1+1+1,0,none⟩),.pointer (some ⟨w.heap.size+1+1+1+1+1,0,none⟩),.pointer (some ⟨w.heap.size+1+1+1+1+1+1,0,none⟩)],itv x.1,undef,undef,undef,undef,undef,undef,undef,undef,undef,undef,undef,undef,undef,undef,undef,undef,undef],defers:=[] })
    ?hAx ?assign ?body ?done ?stop
  case hAx=>
    rintro x a' - A C row ⟨X,hX,rfl⟩ hg hr
    exact ⟨X,(hg.block X (lt_of_heap hX) (fun e=>by obtain ⟨_,o,ho,hc⟩:=hr X e.symm; rw [hX] at ho; cases ho; cases hc)).trans hX,rfl⟩
  case assign=>
    rintro l pre x W K hi hK
    have hbA:Below W.heap.size W (W.alloc (.cells #[.string ⟨x.1.1.toArray⟩,.string ⟨x.1.2.toArray⟩] 60)):=(Below.refl _ W).alloc (Nat.le_refl _) _
    have hK2:=hK _ _ (keeps_below hbA _) (Kpt.of_below hbA (by have:=hi.old.size; have:=(lt_of_heap hi.code); omega)) (by
      obtain ⟨v,h1,h2⟩:=hi.its
      exact ⟨boxed_below hi.most hbA,⟨v,boxed_below h1 hbA,h2.below hbA⟩,boxed_below hi.next hbA,boxed_below hi.code hbA,hi.len,hi.old.trans (hbA.mono hi.old.size)⟩) ⟨W.heap.size,heap_alloc_new W _,rfl⟩
    clear hi hK
    unfold itv
    gi_wp2
    exact hK2
  case body=>
    rintro l qs q a' W - - hi ⟨X,hX,rfl⟩ hlt
    have hk8:∀ p ∈ Itm.all qs,p.1.length<=8:=fun p hp=>by
      obtain ⟨r,_,rfl⟩:=List.mem_map.1 hp
      exact r.2
    have hlt:(Itm.all qs).length < (Scn.allR S f e).length:=by simpa [Itm.all] using hlt
    obtain ⟨⟨x,y⟩,hq8⟩:=q
    have hap:Itm.all (qs ++ [⟨(x,y),hq8⟩])=Itm.all qs ++ [(x,y)]:=by simp [Itm.all]
    obtain ⟨pre,hpre⟩:∃ pre,Itm.all qs=pre:=⟨_,rfl⟩
    rw [hpre] at hi hk8 hlt hap
    unfold itv
    dsimp only at hX
    obtain ⟨v,hv,ho⟩:=hi.its
    have d0:=hi.most.cell
    have d1:=hv.cell
    have f1:=hv.frozen
    have x0:W.cell? ⟨X,0,none⟩=some (.string ⟨x.toArray⟩):=by rw [cell_of_row _ X 0 _ _ _ hX]; rfl
    have x1:W.cell? ⟨X,1,none⟩=some (.string ⟨y.toArray⟩):=by rw [cell_of_row _ X 1 _ _ _ hX]; rfl
    have hnb:(pre.length:Int)<=100000:=by have:=HLE.out; omega
    by_cases hl:(pre.length:Int)=(n:Int)+1
    · have hln:pre.length=n+1:=by omega
      have hbq:((pre.length:Int) == (n:Int)+1)=true:=beq_iff_eq.2 hl
      obtain ⟨A,cap,rfl,hcap,-⟩:=ho.at_.form
      obtain ⟨b,o,rfl,n0,-⟩:=ItAt.at ho.at_ n (by omega)
      obtain ⟨kx,hkx⟩:∃ q,pre[n].1=q:=⟨_,rfl⟩
      rw [hkx] at n0
      have hk8:kx.length<=8:=by
        rw [← hkx]
        exact hk8 _ (List.getElem_mem _)
      have HBH:Hid (∀ Wd,Below W.heap.size W Wd->Calls Tryz.prog 65 #[.string ⟨kx.toArray⟩] Wd fun e w'=>e=.returned (.string ⟨(Scn.behind kx).toArray⟩)/\Below W.heap.size W w'):=qh (fun Wd hd=>
        (behind_ok kx Wd (by unfold maxLen; omega)).mono fun e w' ⟨q1,q2⟩=>⟨q1,bchain hd q2⟩)
      have hgk:Scn.behind (pre.getD (((n:Int)+1).toNat - 1) ([],[])).1=Scn.behind kx:=by
        rw [show ((n:Int)+1).toNat - 1=n from by omega,List.getD_eq_getElem?_getD,List.getElem?_eq_getElem (by omega),Option.getD_some,hkx]
      have HLV:=qh (fun w9 (h9:Below W.heap.size W w9)=>hap.symm ▸ hi.leave (x:=(x,y)) hv ho h9 hl hgk W0.heap.size rfl)
      have HCL:Hid (∀ w9,Below W.heap.size W w9->w9.cell? ⟨w.heap.size,0,none⟩=some (.int .i64 ((n:Int)+1))/\w9.cell? ⟨w.heap.size+1,0,none⟩=some (.slice (some ⟨b,o,none⟩) pre.length cap)/\w9.frozen? ⟨w.heap.size+1,0,none⟩=false/\
          w9.cell? ⟨w.heap.size+1+1,0,none⟩=some (.string ⟨#[]⟩)/\w9.frozen? ⟨w.heap.size+1+1,0,none⟩=false/\w9.cell? ⟨w.heap.size+1+1+1,0,none⟩=some (.int .i64 0)/\w9.frozen? ⟨w.heap.size+1+1+1,0,none⟩=false):=qh (fun w9 h9=>
        ⟨(boxed_below hi.most h9).cell,(boxed_below hv h9).cell,(boxed_below hv h9).frozen,(boxed_below hi.next h9).cell,(boxed_below hi.next h9).frozen,(boxed_below hi.code h9).cell,(boxed_below hi.code h9).frozen⟩)
      have hmx:Tryz.prog.follows .mixedOrders=true:=by kernel_rfl
      have BD:Below W.heap.size W W.drew:=(Below.refl _ _).drew
      have g1:(pre.length:Int)=(n:Int)+1:=hl
      have g2:(n:Int) < (pre.length:Int):=by omega
      have g3:(0:Int)<=(n:Int):=by omega
      have g4:(n:Int)<=100000:=by omega
      have qw:IntKind.i64.wrap (n:Int)=(n:Int):=by unfold IntKind.wrap; simp [IntKind.bits,IntKind.signed]; omega
      clear hi hv ho hX hkx hgk hlt hln x0 x1 hpre hap
      gi_wp2
      gi_region_with_o (refine ⟨trivial,?_⟩; gi_at_call 65; refine (CallsIn.inRound l (callsIn_wide.2 (HBH.out _ ?_))).mono ?_; (with_reducible assumption); rintro e w9 ⟨rfl,h9⟩; obtain ⟨k0,k1,k2,k3,k4,k5,k6⟩:=HCL.out _ h9)
      all_goals gi_wp2
      all_goals
        have hz:=HLV.out w9 (by with_reducible assumption)
        exact ⟨hz.1,rfl,hz.2⟩
    · obtain ⟨g5,c5,w5,happ,hown,hgr,hg5⟩:=app_item_at x y ho (by omega) hi.old.size
      have hlm:(pre.length:Int)+1<=(n:Int)+1:=by have:=hi.len; omega
      have hmore:=hi.more hv ho hlm hown hgr (by rcases hg5 with h | h; exact Or.inl h; exact Or.inr (by rw [h]; rfl)) W0.heap.size
      have hbq:((pre.length:Int) == (n:Int)+1)=false:=beq_eq_false_iff_ne.2 hl
      have d5:Go.Boxed w5 (w.heap.size+1) 22 v:=(hv.alloc _).kept hgr (fun e=>hv.not_row (by decide) ho e)
      have d5c:=d5.cell
      have d5f:=d5.frozen
      rw [← hap] at hmore
      have HMORE:=qh hmore
      obtain ⟨A,cap,rfl,-,-⟩:=ho.at_.form
      clear hi hv ho hX hown hgr hg5 hmore d5 hlt hpre hap
      gi_wp2_with (gi_at_builtin; refine wpListIn_append_run rfl _ _ _ rfl _ _ _ (by rfl) (by rfl) happ ?_)
      exact HMORE.out
  case done=>
    rintro D qs W hD hqs hi hK
    rw [hqs] at hi
    have HPG:=qh (Scn.page_done hm hi.len)
    obtain ⟨v,hv,ho⟩:=hi.its
    obtain ⟨A,cap,rfl,-,-⟩:=ho.at_.form
    have c1:=hv.cell
    have c2:=hi.next.cell
    have c3:=hi.code.cell
    have f1:=hv.frozen
    have f2:=hi.next.frozen
    have f3:=hi.code.frozen
    obtain ⟨W3,hW3⟩:∃ W3,((W.setCell ⟨w.heap.size+1,0,none⟩ (.slice A (Scn.allR S f e).length cap)).setCell ⟨w.heap.size+1+1,0,none⟩ (.string ⟨([]:T).toArray⟩)).setCell ⟨w.heap.size+1+1+1,0,none⟩ (.int .i64 0)=W3:=⟨_,rfl⟩
    obtain ⟨k1,k2,k3,k4,k5,k6⟩:=hi.three hv ho (Below.refl _ _) W0.heap.size hW3
    have hK3:=k1.same D _ hD hK rfl
    gi_wp2
    refine ⟨by simp,.inl ⟨_,_,rfl,run_takeDeferred hK3,?_⟩⟩
    have hg:=grownBy_putObj' W3 D (.deferred none)
    have hr:∀ r,some D=some r->∃ o:Obj,W3.heap[r]?=some o/\o.isCells=false:=fun r e=>by cases e; exact ⟨_,hK3,rfl⟩
    refine ⟨_,range_results rfl rfl rfl (boxed_turn k2 hg hr).cell (boxed_turn k4 hg hr).cell (boxed_turn k5 hg hr).cell,?_⟩
    rw [HPG.out]
    exact ⟨_,rfl,ownI_turn k3 hg hr,k6.trans (belowK_b (w:=w) (Nat.le_refl _) W3 D _ _ (by omega) hK3 rfl rfl)⟩
  case stop=>
    rintro D c qs W hD hpre ⟨rfl,hx⟩ hK
    obtain ⟨⟨ini,x,hqs,hl,v,hv,ho,hn⟩,hc,hB⟩:=hx
    rw [hqs] at hpre
    have HPG:=qh (Scn.page_stop hm hpre hl)
    gi_wp2
    refine ⟨by simp,.inl ⟨_,_,rfl,run_takeDeferred hK,?_⟩⟩
    have hg:=grownBy_putObj' W D (.deferred none)
    have hr:∀ r,some D=some r->∃ o:Obj,W.heap[r]?=some o/\o.isCells=false:=fun r e=>by cases e; exact ⟨_,hK,rfl⟩
    refine ⟨_,range_results rfl rfl rfl (boxed_turn hv hg hr).cell (boxed_turn hn hg hr).cell (boxed_turn hc hg hr).cell,?_⟩
    rw [HPG.out]
    exact ⟨_,rfl,ownI_turn ho hg hr,hB.trans (belowK_b (w:=w) (Nat.le_refl _) W D _ _ (by omega) hK rfl rfl)⟩
end
section
open Go.RowKit
open Sto (T St)
def pnodes (S:St) (f e:T) (m:Int):List T:=if 1<=m/\m<=16 then coverS S f (Spn.upTo (Scn.pageR S f e m).2.1 e) else []
def SPPost (S:St) (f e:T) (m:Int) (w:World) (x:Ending) (w':World):Prop:=
  ∃ (A1:Option Addr) (n1 c1:Nat) (A2:Option Addr) (n2 c2:Nat),x=.returned (.tuple #[.agg #[.slice A1 n1 c1,.string ⟨(Scn.pageR S f e m).2.1.toArray⟩,.slice A2 n2 c2],.int .i64 (Scn.pageR S f e m).2.2])/\
    OwnI w' w.heap.size (.slice A1 n1 c1) (Scn.pageR S f e m).1/\Own w' w.heap.size (.slice A2 n2 c2) (pnodes S f e m)/\Below w.heap.size w w'
theorem cells_set3 {w:World} {q:Nat} {cs:Array Value} {t:TypeId} (h:w.heap[q]?=some (.cells cs t (0,0))) (a b c:Value):(((w.setCell ⟨q,0,none⟩ a).setCell ⟨q,1,none⟩ b).setCell ⟨q,2,none⟩ c).heap[q]?=some (.cells (((cs.setIfInBounds 0 a).setIfInBounds 1 b).setIfInBounds 2 c) t (0,0)):=cells_set (cells_set (cells_set h 0 a) 1 b) 2 c
theorem outp3 {w:World} {q:Nat} (x y z:Value):Out (fun k=>k=q) w (((w.setCell ⟨q,0,none⟩ x).setCell ⟨q,1,none⟩ y).setCell ⟨q,2,none⟩ z):=
  Out.setCell (F:=fun k=>k=q) (Out.setCell (F:=fun k=>k=q) (Out.setCell (F:=fun k=>k=q) (Out.refl _ _) (p:=⟨q,0,none⟩) rfl x) (p:=⟨q,1,none⟩) rfl y) (p:=⟨q,2,none⟩) rfl z
theorem page_bad {S:St} {f e:T} {m:Int} (h:¬ (1<=m/\m<=16)):Scn.pageR S f e m=([],[],1):=by
  unfold Scn.pageR; rw [if_neg h]
theorem spprove_any {g:Nat} {S:St} (f e:T) (m:Int) (w:World) (h:TrAt w g S) (hf:f.length<=2000000) (he:e.length<=2000000):
    Calls Tryz.prog 12 #[ptr g,.string ⟨f.toArray⟩,.string ⟨e.toArray⟩,.int .i64 m] w (SPPost S f e m w):=by
  obtain ⟨_,t,_,_,hts⟩:=id h
  obtain ⟨w0,hw0⟩:∃ w0,w.alloc (.cells #[.slice none 0 0,.string ⟨#[]⟩,.slice none 0 0] 31)=w0:=⟨_,rfl⟩
  have hb0:Below w.heap.size w w0:=by rw [← hw0]; exact (Below.refl _ w).alloc (Nat.le_refl _) _
  have ra:w0.heap[w.heap.size]?=some (.cells #[.slice none 0 0,.string ⟨#[]⟩,.slice none 0 0] 31 (0,0)):=by rw [← hw0]; exact heap_alloc_new w _
  have HR:Hid (∀ w',Below w0.heap.size w0 w'->w'.heap[w.heap.size]?=some (.cells #[.slice none 0 0,.string ⟨#[]⟩,.slice none 0 0] 31 (0,0))):=qh (fun w' h=>(h.block _ (lt_of_heap ra)).trans ra)
  have HB:=qh hb0
  have HT:=qh (h.below hb0)
  have HRG:=qh (range_ok g S f e m w0 (h.below hb0))
  unfold SPage ptr at HRG
  unfold SPPost pnodes ptr
  have HPR:=qh (fun (h:1<=m/\m<=16)=>(Spn.page_is hts f e h).2.2)
  have HNX:Hid ((Scn.pageR S f e m).2.1.length<=8):=qh (by
    by_cases hm:1<=m/\m<=16
    · rcases Spn.page_reach hts f e hm with ⟨h1,_⟩ | ⟨_,_,_,h2,_⟩
      · rw [h1]; simp
      · rw [← h2]; exact behind_short _
    · rw [page_bad hm]; simp)
  have HEL:=qh he
  have HFL:=qh hf
  clear h hb0 ra hts hf he
  by_cases hm:1<=m/\m<=16
  · rw [if_pos hm]
    have hc:=HPR.out hm
    obtain ⟨⟨P,nx,c⟩,hP⟩:∃ X,Scn.pageR S f e m=X:=⟨_,rfl⟩
    rw [hP] at HRG HNX hc ⊢
    dsimp only at HRG HNX hc ⊢
    obtain rfl:c=0:=hc
    have hup:(Spn.upTo nx e).length<=2000000:=by
      unfold Spn.upTo
      split
      · exact HEL.out
      · have:=HNX.out; omega
    have HRE:Hid (∀ w',Calls Tryz.prog 37 #[.string ⟨nx.toArray⟩,.string ⟨e.toArray⟩] w' fun r w''=>r=.returned (.string ⟨(Spn.upTo nx e).toArray⟩)/\w'=w''):=qh (fun w'=>spreach_any nx e w')
    have HCV:=qh (fun w' (h:Below w0.heap.size w0 w')=>scover_any f (Spn.upTo nx e) w' (HT.out.below h) HFL.out hup)
    unfold TextsPost ptr at HCV
    obtain ⟨U,hU⟩:∃ U,Spn.upTo nx e=U:=⟨_,rfl⟩
    rw [hU] at HRE HCV ⊢
    obtain ⟨CV,hCV⟩:∃ CV,coverS S f U=CV:=⟨_,rfl⟩
    rw [hCV] at HCV ⊢
    clear hm hP hup hU hCV HPR
    go_enter Tryz.func12,Tryz.ntmps12
    go_upto_region 1 with fail
    clear hw0
    go_wp2_with fail
    refine HRG.out.mono ?_
    rintro r w1 ⟨s,rfl,ho,hb1⟩
    have HB1:=qh hb1
    obtain ⟨A1,c1,rfl,-,-⟩:=ho.at_.form
    have HO1:=qh ho
    clear ho hb1
    go_wp2_with fail
    refine (HRE.out _).mono ?_
    rintro r w2 ⟨rfl,rfl⟩
    go_wp2_with fail
    refine (HCV.out _ HB1.out).mono ?_
    rintro r w3 ⟨z,rfl,hz,hb3⟩
    have hr3:=HR.out _ (bchain HB1.out hb3)
    have HFI:=qh (fun a b c=>cells_set3 hr3 a b c)
    have r0:w3.cell? ⟨w.heap.size,0,none⟩=some (.slice none 0 0):=by rw [cell_of_row _ _ 0 _ _ _ hr3]; rfl
    have r1:w3.cell? ⟨w.heap.size,1,none⟩=some (.string ⟨#[]⟩):=by rw [cell_of_row _ _ 1 _ _ _ hr3]; rfl
    have r2:w3.cell? ⟨w.heap.size,2,none⟩=some (.slice none 0 0):=by rw [cell_of_row _ _ 2 _ _ _ hr3]; rfl
    have f0:=frozen_of_row _ _ 0 _ _ hr3
    have f1:=frozen_of_row _ _ 1 _ _ hr3
    have f2:=frozen_of_row _ _ 2 _ _ hr3
    obtain ⟨A2,c2,rfl⟩:=own_form hz
    have HZ3:=qh hz
    have HO3:=qh (HO1.out.below hb3)
    have HB3:=qh (bchain HB.out (bchain HB1.out hb3))
    have HRB:=qh hr3
    have HSZ:Hid (w.heap.size<=w0.heap.size/\w.heap.size<=w1.heap.size):=qh ⟨HB.out.size,Nat.le_trans HB.out.size HB1.out.size⟩
    clear hz hb3 hr3
    go_wp2_with fail
    have hf:=HFI.out (.slice A1 P.length c1) (.string ⟨nx.toArray⟩) (.slice A2 CV.length c2)
    refine bodyPost_ret (nresults_c1t rfl _ _ w.heap.size _ _ _ _ rfl hf Tryz.underlying31 rfl (by kernel_rfl)) rfl ?_
    refine ⟨A1,P.length,c1,A2,CV.length,c2,rfl,?_,?_,(((HB3.out.setCell (p:=⟨_,0,none⟩) (Nat.le_refl _) _).setCell (p:=⟨_,1,none⟩) (Nat.le_refl _) _).setCell (p:=⟨_,2,none⟩) (Nat.le_refl _) _)⟩
    · exact row_apart (HO3.out.low HSZ.out.1) (outp3 _ _ _) (fun k hk e=>row_block_ne HO3.out (by decide) HRB.out (e ▸ hk))
    · exact row_apart (own_lowS HZ3.out HSZ.out.2) (outp3 _ _ _) (fun k hk e=>row_block_ne HZ3.out (by decide) HRB.out (e ▸ hk))
  · rw [if_neg hm]
    have hP:=page_bad (S:=S) (f:=f) (e:=e) hm
    rw [hP] at HRG ⊢
    dsimp only at HRG ⊢
    clear hm hP HPR HNX
    go_enter Tryz.func12,Tryz.ntmps12
    go_upto_region 1 with fail
    clear hw0
    go_wp2_with fail
    refine HRG.out.mono ?_
    rintro r w1 ⟨s,rfl,ho,hb1⟩
    have HB1:=qh hb1
    obtain ⟨A1,c1,rfl,-,-⟩:=ho.at_.form
    have hr3:=HR.out _ hb1
    have HFI:=qh (fun a b c=>cells_set3 hr3 a b c)
    have r0:w1.cell? ⟨w.heap.size,0,none⟩=some (.slice none 0 0):=by rw [cell_of_row _ _ 0 _ _ _ hr3]; rfl
    have r1:w1.cell? ⟨w.heap.size,1,none⟩=some (.string ⟨#[]⟩):=by rw [cell_of_row _ _ 1 _ _ _ hr3]; rfl
    have r2:w1.cell? ⟨w.heap.size,2,none⟩=some (.slice none 0 0):=by rw [cell_of_row _ _ 2 _ _ _ hr3]; rfl
    have f0:=frozen_of_row _ _ 0 _ _ hr3
    have f1:=frozen_of_row _ _ 1 _ _ hr3
    have f2:=frozen_of_row _ _ 2 _ _ hr3
    clear ho hb1 hr3
    go_wp2_with fail
    have hf:=HFI.out (.slice none 0 0) (.string ⟨#[]⟩) (.slice none 0 0)
    have HB3:=bchain HB.out HB1.out
    refine bodyPost_ret (nresults_c1t rfl _ _ w.heap.size _ _ _ _ rfl hf Tryz.underlying31 rfl (by kernel_rfl)) rfl ?_
    exact ⟨none,0,0,none,0,0,rfl,OwnI.nil _ _,Own.nil _ _,(((HB3.setCell (p:=⟨_,0,none⟩) (Nat.le_refl _) _).setCell (p:=⟨_,1,none⟩) (Nat.le_refl _) _).setCell (p:=⟨_,2,none⟩) (Nat.le_refl _) _)⟩
end
section
open Go.RowKit
open Sto (T St)
open Tri (Tr)
theorem nodes_few {S:St} {t:Tri.Tr} (h:TrS S t):(nodesS S).length<=3100:=by
  rw [nodesS_nodes h,List.length_map,← Tri.spots_nodes Nd.sumS t [],List.length_map]
  have h1:=Tri.spots_few Nd.sumS h.tree.1 []
  have h2:=h.few
  rw [h.tree.2.2] at h1
  simp [Tri.paths] at h1
  omega
end
end Go.Proofs.YtaficmboooaknaaGreatDoor
