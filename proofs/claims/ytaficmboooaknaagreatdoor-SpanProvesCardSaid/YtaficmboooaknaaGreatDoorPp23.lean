import Derived.Test.YtaficmboooaknaaGreatDoorPp01
import Derived.Test.YtaficmboooaknaaGreatDoorPp22
import Derived.Test.YtaficmboooaknaaGreatDoorPp17
import Derived.Test.YtaficmboooaknaaGreatDoorPp14
import Derived.RangeFuncLeaves
import Derived.Test.YtaficmboooaknaaGreatDoorPp21
import Derived.Test.YtaficmboooaknaaGreatDoorPp16
import Derived.Test.YtaficmboooaknaaGreatDoorPp07
import Derived.Test.YtaficmboooaknaaGreatDoorPp20
import Derived.Test.YtaficmboooaknaaGreatDoorPp15
import Derived.Test.YtaficmboooaknaaGreatDoorPp19
import Derived.Deep.Slices
import Derived.DataReads
import Derived.OpenShut
import Derived.SizedLaws
import Derived.Lib.LaidU8
set_option maxRecDepth 100000
set_option maxHeartbeats 16000000
namespace Go.Proofs.YtaficmboooaknaaGreatDoor
section
open Go.RowKit Go.Shelf
open Sto (T St)
attribute [local go_sem] Oper.semAt_some
theorem wpListIn_append_run {F:Fence} {n:Nat} {P:Program} {w w':World} {ops:Array Oper} {rest:List Oper} {o:Oper} {a:Act} {Q:Exit->Act->World->Prop} (hg:o.guard=none) (s x:Operand) (t:TypeId) (hop:o.op=Op.call { callee:=Callee.builtin Builtin.append,args:=#[s,x],argTypes:=#[t,t] })
    (sv xv r:Value) (hs:a.eval s=sv) (hx:a.eval x=xv) (hrun:(Builtin.append_ #[t,t] o.type #[sv,xv]).run P w=.ok r w') (hK:wpListIn F n P ops Q rest (a.put o.dst r) w'):
    wpListIn F n P ops Q (o :: rest) a w:=by
  refine wpListIn_plain hg fun K hK'=>?_
  unfold Oper.wpIn
  refine ⟨?_,?_⟩
  · simp [Oper.about,hop,resolve,Target.leads,Sem.run_pure]
  · rw [Oper.semAt_plain F _ _ (by rw [hop]; intro c hc'; cases hc')]
    simp [execOp,hop,resolve,invoke,builtin,hs,hx,hrun,Result.andThen,Oper.uponIn]
    exact hK' _ _ hK
theorem app_item_at {w:World} {B:Nat} {z:Value} {S:St} (x y:T) (h:OwnI w B z S) (hl:S.length<=100000) (hB:B<=w.heap.size):
    ∃ g c w',(Builtin.append_ #[22,22] 22 #[z,.slice (some ⟨w.heap.size,0,none⟩) 1 1]).run Tryz.prog (w.alloc (.cells #[.string ⟨x.toArray⟩,.string ⟨y.toArray⟩] 60))=.ok (.slice (some ⟨g,0,none⟩) (S.length+1) c) w'/\
      OwnI w' B (.slice (some ⟨g,0,none⟩) (S.length+1) c) (S ++ [(x,y)])/\(w.alloc (.cells #[.string ⟨x.toArray⟩,.string ⟨y.toArray⟩] 60)).grownBy w' z.ownBlock/\(some g=z.ownBlock ∨ g=w.heap.size+1):=by
  have hv:ItAt (w.alloc (.cells #[.string ⟨x.toArray⟩,.string ⟨y.toArray⟩] 60)) (.slice (some ⟨w.heap.size,0,none⟩) 1 1) [(x,y)]:=
    OwnI.at_ (B:=w.heap.size) ⟨rfl,Or.inr ⟨w.heap.size,1,_,rfl,Nat.le_refl _,heap_alloc_new w _,by simp,by simp [maxLen],rfl,rfl⟩⟩
  have hs:(w.alloc (.cells #[.string ⟨x.toArray⟩,.string ⟨y.toArray⟩] 60)).ownsRow B 60 2 z S.length (rowsL itcl S):=World.ownsRow.alloc h _
  obtain ⟨v',w',h1,h2,h3,h4⟩:=append_it hv hs (by simp; omega) (by simp; omega)
  have ho:OwnI w' B v' (S ++ [(x,y)]):=by
    unfold OwnI
    rw [List.length_append,rowsL_append]
    exact h2
  obtain ⟨g,c,e,_,_⟩:=World.ownsRow.form h2 (by simp)
  subst e
  refine ⟨g,c,w',h1,ho,h3,?_⟩
  rcases h4 with h4 | h4
  · exact Or.inl h4
  · right
    simpa [Value.ownBlock] using h4
theorem Kpt.appended {Bx:Nat} {W w1:World} {t:TypeId} {v v':Value} {o:Obj} (hv:Go.Boxed W Bx t v) (hgrow:(W.alloc o).grownBy w1 v.ownBlock) (hne:v.ownBlock ≠ some Bx) (hv':v'.ownBlock=v.ownBlock ∨ v'.ownBlock=some (W.heap.size+1)):Kpt Bx W (w1.setCell ⟨Bx,0,none⟩ v'):=by
  have hlt:=hv.lt
  have hB1:w1.heap[Bx]?=W.heap[Bx]?:=(hgrow.block Bx (by simp; omega) (fun e=>hne e.symm)).trans (Below.heap_alloc W o Bx hlt)
  have hc1:w1.cell? ⟨Bx,0,none⟩=some v:=(World.cell?_of_block (w:=W) (a:=⟨Bx,0,none⟩) hB1).trans hv.cell
  have hs:(w1.setCell ⟨Bx,0,none⟩ v').heap.size=w1.heap.size:=by simp [World.setCell]
  have hsz:=hgrow.size
  rw [World.size_alloc] at hsz
  refine ⟨by rw [hs]; omega,fun k hk hm=>?_⟩
  have h1:k ≠ Bx:=fun e=>hm (Or.inl e)
  have h2:v.ownBlock ≠ some k:=fun e=>hm (Or.inr ⟨v,hv.cell,e⟩)
  refine ⟨?_,fun q hq _=>?_⟩
  · rintro (e | ⟨u,hu,ho⟩)
    · exact h1 e
    · rw [World.cell?_setCell_same' _ _ _ (by rw [hc1]; rfl)] at hu
      cases hu
      rcases hv' with e | e
      · exact h2 (e.symm.trans ho)
      · rw [e] at ho
        have:=Option.some.inj ho
        omega
  · exact ((Below.heap_setCell w1 ⟨Bx,0,none⟩ v' k h1).trans ((hgrow.block k (by simp; omega) (fun e=>h2 e.symm)).trans (Below.heap_alloc W o k hk))).trans hq
theorem not_mine {W:World} {Bx b:Nat} {t t2:TypeId} {v u:Value} {B n:Nat} {xs:List Value} (hv:Go.Boxed W Bx t v) (hb:Go.Boxed W b t2 u) (hne:b ≠ Bx) (ht:t2 ≠ 60) (hr:W.ownsRow B 60 2 v n xs):¬ Mine Bx W b:=by
  rintro (e | ⟨x,hx,ho⟩)
  · exact hne e
  · rw [hv.cell] at hx
    cases hx
    exact hb.not_row ht hr ho.symm
structure RI (w:World) (m:Int) (pre:St) (W:World):Prop where
  most:Go.Boxed W w.heap.size 3 (.int .i64 m)
  its:∃ v,Go.Boxed W (w.heap.size+1) 22 v/\OwnI W w.heap.size v pre
  next:Go.Boxed W (w.heap.size+1+1) 9 (.string ⟨#[]⟩)
  code:Go.Boxed W (w.heap.size+1+1+1) 32 (.int .i64 0)
  len:(pre.length:Int)<=m
  old:Below w.heap.size w W
structure RX (w:World) (m:Int) (pre:St) (W:World):Prop where
  part:∃ ini x,pre=ini ++ [x]/\(ini.length:Int)=m/\∃ v,Go.Boxed W (w.heap.size+1) 22 v/\OwnI W w.heap.size v ini/\
    Go.Boxed W (w.heap.size+1+1) 9 (.string ⟨(Scn.behind (ini.getD (m.toNat - 1) ([],[])).1).toArray⟩)
  code:Go.Boxed W (w.heap.size+1+1+1) 32 (.int .i64 0)
  old:Below w.heap.size w W
theorem boxed_turn {W W':World} {B:Nat} {t:TypeId} {v:Value} {row:Option Nat} (h:Go.Boxed W B t v) (hg:W.grownBy W' row) (hr:∀ r,row=some r->∃ o:Obj,W.heap[r]?=some o/\o.isCells=false):Go.Boxed W' B t v:=
  boxed_own B t (fun _:Unit=>v) () W W' row h hg hr
theorem ownI_turn {W W':World} {B:Nat} {v:Value} {S:St} {row:Option Nat} (h:OwnI W B v S) (hg:W.grownBy W' row) (hr:∀ r,row=some r->∃ o:Obj,W.heap[r]?=some o/\o.isCells=false):OwnI W' B v S:=by
  refine World.ownsRow.kept h hg ?_
  rcases h.2 with ⟨rfl,_⟩ | ⟨g,cap,cur,rfl,_,hgb,_⟩
  · exact .inl rfl
  · refine .inr fun e'=>?_
    obtain ⟨o,ho,hc⟩:=hr g (by simpa [Value.ownBlock] using e'.symm)
    rw [hgb] at ho; cases ho; cases hc
theorem RI.own (w:World) (m:Int) {B:Nat} (hB:w.heap.size<=B):OwnFrom B (fun pre W=>RI w m pre W):=fun pre A C row h hg hr=>by
  have hr':∀ r,row=some r->∃ o:Obj,A.heap[r]?=some o/\o.isCells=false:=fun r e=>(hr r e).2
  obtain ⟨v,h1,h2⟩:=h.its
  exact ⟨boxed_turn h.most hg hr',⟨v,boxed_turn h1 hg hr',ownI_turn h2 hg hr'⟩,boxed_turn h.next hg hr',boxed_turn h.code hg hr',h.len,h.old.grown hg h.old.size (fun k e=>Nat.le_trans hB (hr k e).1)⟩
theorem RX.own (w:World) (m:Int) (c:Code) {B:Nat} (hB:w.heap.size<=B):OwnFrom B (fun pre W=>c=.ret/\RX w m pre W):=fun pre A C row h hg hr=>by
  have hr':∀ r,row=some r->∃ o:Obj,A.heap[r]?=some o/\o.isCells=false:=fun r e=>(hr r e).2
  obtain ⟨hc,⟨ini,x,e1,e2,v,h1,h2,h3⟩,h4,h5⟩:=h
  exact ⟨hc,⟨ini,x,e1,e2,v,boxed_turn h1 hg hr',ownI_turn h2 hg hr',boxed_turn h3 hg hr'⟩,boxed_turn h4 hg hr',h5.grown hg h5.size (fun k e=>Nat.le_trans hB (hr k e).1)⟩
theorem keeps_below {W W':World} (h:Below W.heap.size W W') (B:Nat):KeepsFrom B W W':=⟨h.size,fun k _ _ hk _=>(h.block k (lt_of_heap hk)).trans hk⟩
theorem boxed_below {W W':World} {B:Nat} {t:TypeId} {v:Value} (h:Go.Boxed W B t v) (hb:Below W.heap.size W W'):Go.Boxed W' B t v:=(hb.block B h.lt).trans h
theorem ownI_set {W:World} {B b:Nat} {v u:Value} {S:St} (h:OwnI W B v S) (hb:v.ownBlock ≠ some b):OwnI (W.setCell ⟨b,0,none⟩ u) B v S:=
  World.ownsRow.kept h (grownBy_setCell' W b u) (Or.inr hb)
theorem RI.three {w W w':World} {m:Int} {pre:St} {v:Value} {nx:T} (h:RI w m pre W) (hv:Go.Boxed W (w.heap.size+1) 22 v) (ho:OwnI W w.heap.size v pre) (hb:Below W.heap.size W w') (B:Nat) {W3:World}
    (hW:((w'.setCell ⟨w.heap.size+1,0,none⟩ v).setCell ⟨w.heap.size+1+1,0,none⟩ (.string ⟨nx.toArray⟩)).setCell ⟨w.heap.size+1+1+1,0,none⟩ (.int .i64 0)=W3):
    KeepsFrom B W W3/\Go.Boxed W3 (w.heap.size+1) 22 v/\OwnI W3 w.heap.size v pre/\Go.Boxed W3 (w.heap.size+1+1) 9 (.string ⟨nx.toArray⟩)/\Go.Boxed W3 (w.heap.size+1+1+1) 32 (.int .i64 0)/\Below w.heap.size w W3:=by
  have hv':=boxed_below hv hb
  have hn':=boxed_below h.next hb
  have hc':=boxed_below h.code hb
  have ho':=ho.below hb
  have n1:v.ownBlock ≠ some (w.heap.size+1):=fun e=>hv'.not_row (by decide) ho' e.symm
  have n2:v.ownBlock ≠ some (w.heap.size+1+1):=fun e=>hn'.not_row (by decide) ho' e.symm
  have n3:v.ownBlock ≠ some (w.heap.size+1+1+1):=fun e=>hc'.not_row (by decide) ho' e.symm
  have hB:=h.old.trans (hb.mono h.old.size)
  subst hW
  refine ⟨(((keeps_below hb B).trans ((KeepsOthers.setCell _ _ _).from _)).trans ((KeepsOthers.setCell _ _ _).from _)).trans ((KeepsOthers.setCell _ _ _).from _),?_,?_,?_,?_,?_⟩
  · exact ((hv'.set v).other (by omega) _).other (by omega) _
  · exact ownI_set (ownI_set (ownI_set ho' n1) n2) n3
  · exact ((hn'.other (by omega) _).set _).other (by omega) _
  · exact ((hc'.other (by omega) _).other (by omega) _).set _
  · exact ((hB.setCell (p:=⟨w.heap.size+1,0,none⟩) (by simp) _).setCell (p:=⟨w.heap.size+1+1,0,none⟩) (by simp; omega) _).setCell (p:=⟨w.heap.size+1+1+1,0,none⟩) (by simp; omega) _
theorem RI.leave {w W w':World} {m:Int} {pre:St} {v:Value} {x:T × T} {nx:T} (h:RI w m pre W) (hv:Go.Boxed W (w.heap.size+1) 22 v) (ho:OwnI W w.heap.size v pre) (hb:Below W.heap.size W w') (hl:(pre.length:Int)=m)
    (hn:Scn.behind (pre.getD (m.toNat - 1) ([],[])).1=nx) (B:Nat) {W3:World}
    (hW:((w'.setCell ⟨w.heap.size+1,0,none⟩ v).setCell ⟨w.heap.size+1+1,0,none⟩ (.string ⟨nx.toArray⟩)).setCell ⟨w.heap.size+1+1+1,0,none⟩ (.int .i64 0)=W3):
    KeepsFrom B W W3/\RX w m (pre ++ [x]) W3:=by
  obtain ⟨h1,h2,h3,h4,h5,h6⟩:=h.three hv ho hb B hW
  exact ⟨h1,⟨pre,x,rfl,hl,v,h2,h3,by rw [hn]; exact h4⟩,h5,h6⟩
theorem RI.more {w W w1:World} {m:Int} {pre:St} {v v':Value} {x:T × T} {o:Obj} (h:RI w m pre W) (hv:Go.Boxed W (w.heap.size+1) 22 v) (ho:OwnI W w.heap.size v pre) (hl:(pre.length:Int)+1<=m)
    (ho':OwnI w1 w.heap.size v' (pre ++ [x])) (hg:(W.alloc o).grownBy w1 v.ownBlock) (hv':v'.ownBlock=v.ownBlock ∨ v'.ownBlock=some (W.heap.size+1)) (B:Nat):
    KeepsFrom B W (w1.setCell ⟨w.heap.size+1,0,none⟩ v')/\Kpt (w.heap.size+1) W (w1.setCell ⟨w.heap.size+1,0,none⟩ v')/\RI w m (pre ++ [x]) (w1.setCell ⟨w.heap.size+1,0,none⟩ v'):=by
  obtain ⟨k1,k2,k3,k4,k5⟩:=hv.appended (by decide) ho h.old.size (by omega) ho' hg
  have hk:=Kpt.appended hv hg (fun e=>hv.not_row (by decide) ho e.symm) hv'
  refine ⟨k4.from _,hk,(hk.heap h.most (not_mine hv h.most (by omega) (by decide) ho)).1,⟨v',k2,k3⟩,(hk.heap h.next (not_mine hv h.next (by omega) (by decide) ho)).1,(hk.heap h.code (not_mine hv h.code (by omega) (by decide) ho)).1,by rw [List.length_append,List.length_singleton]; omega,h.old.trans k5⟩
theorem range_results {tmps:Array Value} {W:World} {a b c:Nat} {x y z:Value} (h8:tmps[8]?.getD undef=.pointer (some ⟨a,0,none⟩)) (h9:tmps[9]?.getD undef=.pointer (some ⟨b,0,none⟩)) (h10:tmps[10]?.getD undef=.pointer (some ⟨c,0,none⟩))
    (hx:W.cell? ⟨a,0,none⟩=some x) (hy:W.cell? ⟨b,0,none⟩=some y) (hz:W.cell? ⟨c,0,none⟩=some z):(results Tryz.f35 tmps).run Tryz.prog W=.ok (.tuple #[x,y,z]) W:=by
  simp [results,Tryz.f35,go_sem,h8,h9,h10,hx,hy,hz]
theorem Scn.page_done {S:St} {f e:T} {m:Int} (hm:1<=m/\m<=16) (h:((Scn.allR S f e).length:Int)<=m):Scn.pageR S f e m=(Scn.allR S f e,[],0):=by
  rw [Scn.pageR,if_pos hm,if_pos (by omega)]
theorem Scn.page_stop {S ini:St} {f e:T} {m:Int} {x:T × T} (hm:1<=m/\m<=16) (h:ini ++ [x] <+: Scn.allR S f e) (hl:(ini.length:Int)=m):Scn.pageR S f e m=(ini,Scn.behind (ini.getD (m.toNat - 1) ([],[])).1,0):=by
  obtain ⟨r,hr⟩:=h
  have h1:m.toNat=ini.length:=by omega
  have h2:¬ ((Scn.allR S f e).length<=m.toNat):=by rw [← hr,h1]; simp
  rw [Scn.pageR,if_pos hm,if_neg h2,← hr,h1]
  have h3:0 < ini.length:=by omega
  simp only [List.append_assoc,List.take_left,List.getD_eq_getElem?_getD]
  rw [List.getElem?_append_left (by omega)]
theorem range_ok:RangeOk:=by
  intro g S f e m w hT
  unfold SPage
  refine (callsIn_wide (n:=8)).1 ?_
  refine callsIn_of_wp_marks Tryz.func35 rfl trivial ?_ rfl
  unfold ptr
  simp only [Tryz.ntmps35,List.size_toArray,List.length_cons,List.length_nil,Nat.reduceAdd,Nat.reduceSub,Array.replicate_succ,Array.replicate_zero,List.push_toArray,List.append_toArray,List.nil_append,List.cons_append]
  have HWI:=qh (fun w=>within_any g f e w)
  unfold WithinPost ptr at HWI
  by_cases hm:1<=m/\m<=16
  case neg=>
    have HPG:Hid (Scn.pageR S f e m=([],[],1)):=qh (by rw [Scn.pageR,if_neg hm])
    rw [HPG.out]
    have HBL:Hid (∀ c:Int,Below w.heap.size w ((((w.alloc (.cells #[.int .i64 m] 3)).alloc (.cells #[.slice none 0 0] 22)).alloc (.cells #[.string ⟨#[]⟩] 9)).alloc (.cells #[.int .i64 c] 32))):=qh (fun c=>((((Below.refl _ w).alloc (Nat.le_refl _) _).alloc (by simp) _).alloc (by simp; omega) _).alloc (by simp; omega) _)
    have HCE:Hid (∀ c:Int,((((w.alloc (.cells #[.int .i64 m] 3)).alloc (.cells #[.slice none 0 0] 22)).alloc (.cells #[.string ⟨#[]⟩] 9)).alloc (.cells #[.int .i64 c] 32)).cell? ⟨w.heap.size+1,0,none⟩=some (.slice none 0 0)/\((((w.alloc (.cells #[.int .i64 m] 3)).alloc (.cells #[.slice none 0 0] 22)).alloc (.cells #[.string ⟨#[]⟩] 9)).alloc (.cells #[.int .i64 c] 32)).cell? ⟨w.heap.size+1+1,0,none⟩=some (.string ⟨#[]⟩)/\((((w.alloc (.cells #[.int .i64 m] 3)).alloc (.cells #[.slice none 0 0] 22)).alloc (.cells #[.string ⟨#[]⟩] 9)).alloc (.cells #[.int .i64 c] 32)).cell? ⟨w.heap.size+1+1+1,0,none⟩=some (.int .i64 c)):=qh (fun c=>
      ⟨cell_of_one (heap_old_at _ (heap_old_at _ (heap_new_at _ _ _ (by simp)))),cell_of_one (heap_old_at _ (heap_new_at _ _ _ (by simp))),cell_of_one (heap_new_at _ _ _ (by simp))⟩)
    have HMM:Hid (m < 1 ∨ 16 < m):=qh (by omega)
    clear hm hT
    rcases HMM.out with h1 | h2
    · gi_wp2
      exact ⟨_,range_results rfl rfl rfl (HCE.out 1).1 (HCE.out 1).2.1 (HCE.out 1).2.2,_,rfl,OwnI.nil _ _,HBL.out 1⟩
    · have h1:¬ (m < 1):=by omega
      gi_wp2
      exact ⟨_,range_results rfl rfl rfl (HCE.out 1).1 (HCE.out 1).2.1 (HCE.out 1).2.2,_,rfl,OwnI.nil _ _,HBL.out 1⟩
  obtain ⟨n,rfl⟩:∃ n:Nat,m=(n:Int)+1:=⟨(m - 1).toNat,by omega⟩
  have hn15:(n:Int)<=15:=by omega
  have h1:¬ ((n:Int)+1 < 1):=by omega
  have h2:¬ ((16:Int) < (n:Int)+1):=by omega
  gi_wp2_with (refine ⟨trivial,?_⟩; gi_at_call 64; refine (callsIn_wide.2 (HWI.out _)).mono ?_; rintro x w1 ⟨rfl,rfl⟩)
  obtain ⟨W0,hW0⟩:∃ W0,((((((w.alloc (.cells #[.int .i64 ((n:Int)+1)] 3)).alloc (.cells #[.slice none 0 0] 22)).alloc (.cells #[.string ⟨#[]⟩] 9)).alloc (.cells #[.int .i64 0] 32)).alloc (.cells #[ptr g] 26)).alloc (.cells #[.string ⟨f.toArray⟩] 9)).alloc (.cells #[.string ⟨e.toArray⟩] 9)=W0:=⟨_,rfl⟩
  have hB0:Below w.heap.size w W0:=by rw [← hW0]; exact (((((((Below.refl _ w).alloc (Nat.le_refl _) _).alloc (by simp) _).alloc (by simp; omega) _).alloc (by simp; omega) _).alloc (by simp; omega) _).alloc (by simp; omega) _).alloc (by simp; omega) _
  have hs0:W0.heap.size=w.heap.size+7:=by rw [← hW0]; simp
  have e0:W0.heap[w.heap.size]?=some (.cells #[.int .i64 ((n:Int)+1)] 3 (0,0)):=by
    rw [← hW0]; exact heap_old_at _ (heap_old_at _ (heap_old_at _ (heap_old_at _ (heap_old_at _ (heap_old_at _ (heap_alloc_new w _))))))
  have e1:W0.heap[w.heap.size+1]?=some (.cells #[.slice none 0 0] 22 (0,0)):=by
    rw [← hW0]; exact heap_old_at _ (heap_old_at _ (heap_old_at _ (heap_old_at _ (heap_old_at _ (heap_new_at _ _ _ (by simp))))))
  have e2:W0.heap[w.heap.size+1+1]?=some (.cells #[.string ⟨#[]⟩] 9 (0,0)):=by
    rw [← hW0]; exact heap_old_at _ (heap_old_at _ (heap_old_at _ (heap_old_at _ (heap_new_at _ _ _ (by simp)))))
  have e3:W0.heap[w.heap.size+1+1+1]?=some (.cells #[.int .i64 0] 32 (0,0)):=by
    rw [← hW0]; exact heap_old_at _ (heap_old_at _ (heap_old_at _ (heap_new_at _ _ _ (by simp))))
  have e4:W0.heap[w.heap.size+1+1+1+1]?=some (.cells #[ptr g] 26 (0,0)):=by
    rw [← hW0]; exact heap_old_at _ (heap_old_at _ (heap_new_at _ _ _ (by simp)))
  have e5:W0.heap[w.heap.size+1+1+1+1+1]?=some (.cells #[.string ⟨f.toArray⟩] 9 (0,0)):=by
    rw [← hW0]; exact heap_old_at _ (heap_new_at _ _ _ (by simp))
  have e6:W0.heap[w.heap.size+1+1+1+1+1+1]?=some (.cells #[.string ⟨e.toArray⟩] 9 (0,0)):=by
    rw [← hW0]; exact heap_new_at _ _ _ (by simp)
  have HLE:Hid ((Scn.allR S f e).length<=1024):=qh (Nat.le_trans (Scn.allR_len S f e) hT.few)
  have HK8:Hid (∀ q ∈ Scn.allR S f e,q.1.length<=8):=qh (fun q hq=>by
    obtain ⟨_,_,_,_,h⟩:=hT
    exact (h.fair q (List.mem_filter.1 hq).1).2.1)
  unfold ptr at hW0
  rw [hW0]
  refine wpIn_rangeFunc_ownH rfl (by omega) (gf:=102) (lb:=#[.pointer (some ⟨w.heap.size+1+1+1+1,0,none⟩),.pointer (some ⟨w.heap.size+1+1+1+1+1,0,none⟩),.pointer (some ⟨w.heap.size+1+1+1+1+1+1,0,none⟩)]) rfl trivial (enters_of Tryz.func102 (by kernel_rfl) rfl)
    (within_stops8 (8 - 1) (by omega) (w.heap.size+1) (w.heap.size+1+1+1+1) (w.heap.size+1+1+1+1+1) (w.heap.size+1+1+1+1+1+1) g S f e (.slice none 0 0) W0 (hT.below hB0) e4 e5 e6 (by omega) (by omega) (cell_of_one e1) rfl)
    kpt_t (kpt_b (by omega)) (Below.refl _ _) (fun _=>rfl)
    (fun pre W=>RI w ((n:Int)+1) (Itm.all pre) W) (fun c pre W=>c=.ret/\RX w ((n:Int)+1) (Itm.all pre) W)
    (fun pre=>RI.own w ((n:Int)+1) (by omega) (Itm.all pre)) (fun c pre=>RX.own w ((n:Int)+1) c (by omega) (Itm.all pre))
    ⟨e0,⟨_,e1,OwnI.nil _ _⟩,e2,e3,by simp [Itm.all]; omega,hB0⟩
    (fun x a' W=>∃ X,W.heap[X]?=some (.cells #[.string ⟨x.1.1.toArray⟩,.string ⟨x.1.2.toArray⟩] 60 (0,0))/\a'={ tmps:=#[.pointer (some ⟨g,0,none⟩),.string ⟨f.toArray⟩,.string ⟨e.toArray⟩,.int .i64 ((n:Int)+1),undef,undef,undef,.pointer (some ⟨w.heap.size,0,none⟩),.pointer (some ⟨w.heap.size+1,0,none⟩),.pointer (some ⟨w.heap.size+1+1,0,none⟩),.pointer (some ⟨w.heap.size+1+1+1,0,none⟩),.pointer (some ⟨X,0,none⟩),.int .i64 ((n:Int)+1),.bool false,.bool false,.int .i64 ((n:Int)+1),.bool false,.bool false,.pointer (some ⟨g,0,none⟩),.string ⟨f.toArray⟩,.string ⟨e.toArray⟩,
      .func (.func 102) #[] #[.pointer (some ⟨w.heap.size+1+1+1+1,0,none⟩),.pointer (some ⟨w.heap.size+1+1+1+1+1,0,none⟩),.pointer (some ⟨w.heap.size+1+1+1+1+1+1,0,none⟩)],itv x.1,undef,undef,undef,undef,undef,undef,undef,undef,undef,undef,undef,undef,undef,undef,undef,undef,undef],defers:=[] })
    ?hAx ?assign ?body ?done ?stop
  case hAx=>
    rintro x a' - A C row ⟨X,hX,rfl⟩ hg hr
    exact ⟨X,(hg.block X (lt_of_heap hX) (fun e=>by obtain ⟨_,o,ho,hc⟩:=hr X e.symm; rw [hX] at ho; cases ho; cases hc)).trans hX,rfl⟩
  case assign=>
    rintro l pre x W K hi hK
    have hbA:Below W.heap.size W (W.alloc (.cells #[.string ⟨x.1.1.toArray⟩,.string ⟨x.1.2.toArray⟩] 60)):=(Below.refl _ W).alloc (Nat.le_refl _) _
    have hK2:=hK _ _ (keeps_below hbA _) (Kpt.of_below hbA (by have:=hi.old.size; have:=(lt_of_heap hi.code); omega)) (by
      obtain ⟨v,h1,h2⟩:=hi.its
      exact ⟨boxed_below hi.most hbA,⟨v,boxed_below h1 hbA,h2.below hbA⟩,boxed_below hi.next hbA,boxed_below hi.code hbA,hi.len,hi.old.trans (hbA.mono hi.old.size)⟩) ⟨W.heap.size,heap_alloc_new W _,rfl⟩
    clear hi hK
    unfold itv
    gi_wp2
    exact hK2
  case body=>
    rintro l qs q a' W - - hi ⟨X,hX,rfl⟩ hlt
    have hk8:∀ p ∈ Itm.all qs,p.1.length<=8:=fun p hp=>by
      obtain ⟨r,_,rfl⟩:=List.mem_map.1 hp
      exact r.2
    have hlt:(Itm.all qs).length < (Scn.allR S f e).length:=by simpa [Itm.all] using hlt
    obtain ⟨⟨x,y⟩,hq8⟩:=q
    have hap:Itm.all (qs ++ [⟨(x,y),hq8⟩])=Itm.all qs ++ [(x,y)]:=by simp [Itm.all]
    obtain ⟨pre,hpre⟩:∃ pre,Itm.all qs=pre:=⟨_,rfl⟩
    rw [hpre] at hi hk8 hlt hap
    unfold itv
    dsimp only at hX
    obtain ⟨v,hv,ho⟩:=hi.its
    have d0:=hi.most.cell
    have d1:=hv.cell
    have f1:=hv.frozen
    have x0:W.cell? ⟨X,0,none⟩=some (.string ⟨x.toArray⟩):=by rw [cell_of_row _ X 0 _ _ _ hX]; rfl
    have x1:W.cell? ⟨X,1,none⟩=some (.string ⟨y.toArray⟩):=by rw [cell_of_row _ X 1 _ _ _ hX]; rfl
    have hnb:(pre.length:Int)<=100000:=by have:=HLE.out; omega
    by_cases hl:(pre.length:Int)=(n:Int)+1
    · have hln:pre.length=n+1:=by omega
      have hbq:((pre.length:Int) == (n:Int)+1)=true:=beq_iff_eq.2 hl
      obtain ⟨A,cap,rfl,hcap,-⟩:=ho.at_.form
      obtain ⟨b,o,rfl,n0,-⟩:=ItAt.at ho.at_ n (by omega)
      obtain ⟨kx,hkx⟩:∃ q,pre[n].1=q:=⟨_,rfl⟩
      rw [hkx] at n0
      have hk8:kx.length<=8:=by
        rw [← hkx]
        exact hk8 _ (List.getElem_mem _)
      have HBH:Hid (∀ Wd,Below W.heap.size W Wd->Calls Tryz.prog 65 #[.string ⟨kx.toArray⟩] Wd fun e w'=>e=.returned (.string ⟨(Scn.behind kx).toArray⟩)/\Below W.heap.size W w'):=qh (fun Wd hd=>
        (behind_ok kx Wd (by unfold maxLen; omega)).mono fun e w' ⟨q1,q2⟩=>⟨q1,bchain hd q2⟩)
      have hgk:Scn.behind (pre.getD (((n:Int)+1).toNat - 1) ([],[])).1=Scn.behind kx:=by
        rw [show ((n:Int)+1).toNat - 1=n from by omega,List.getD_eq_getElem?_getD,List.getElem?_eq_getElem (by omega),Option.getD_some,hkx]
      have HLV:=qh (fun w9 (h9:Below W.heap.size W w9)=>hap.symm ▸ hi.leave (x:=(x,y)) hv ho h9 hl hgk W0.heap.size rfl)
      have HCL:Hid (∀ w9,Below W.heap.size W w9->w9.cell? ⟨w.heap.size,0,none⟩=some (.int .i64 ((n:Int)+1))/\w9.cell? ⟨w.heap.size+1,0,none⟩=some (.slice (some ⟨b,o,none⟩) pre.length cap)/\w9.frozen? ⟨w.heap.size+1,0,none⟩=false/\
          w9.cell? ⟨w.heap.size+1+1,0,none⟩=some (.string ⟨#[]⟩)/\w9.frozen? ⟨w.heap.size+1+1,0,none⟩=false/\w9.cell? ⟨w.heap.size+1+1+1,0,none⟩=some (.int .i64 0)/\w9.frozen? ⟨w.heap.size+1+1+1,0,none⟩=false):=qh (fun w9 h9=>
        ⟨(boxed_below hi.most h9).cell,(boxed_below hv h9).cell,(boxed_below hv h9).frozen,(boxed_below hi.next h9).cell,(boxed_below hi.next h9).frozen,(boxed_below hi.code h9).cell,(boxed_below hi.code h9).frozen⟩)
      have hmx:Tryz.prog.follows .mixedOrders=true:=by kernel_rfl
      have BD:Below W.heap.size W W.drew:=(Below.refl _ _).drew
      have g1:(pre.length:Int)=(n:Int)+1:=hl
      have g2:(n:Int) < (pre.length:Int):=by omega
      have g3:(0:Int)<=(n:Int):=by omega
      have g4:(n:Int)<=100000:=by omega
      have qw:IntKind.i64.wrap (n:Int)=(n:Int):=by unfold IntKind.wrap; simp [IntKind.bits,IntKind.signed]; omega
      clear hi hv ho hX hkx hgk hlt hln x0 x1 hpre hap
      gi_wp2
      gi_region_with_o (refine ⟨trivial,?_⟩; gi_at_call 65; refine (CallsIn.inRound l (callsIn_wide.2 (HBH.out _ ?_))).mono ?_; (with_reducible assumption); rintro e w9 ⟨rfl,h9⟩; obtain ⟨k0,k1,k2,k3,k4,k5,k6⟩:=HCL.out _ h9)
      all_goals gi_wp2
      all_goals
        have hz:=HLV.out w9 (by with_reducible assumption)
        exact ⟨hz.1,rfl,hz.2⟩
    · obtain ⟨g5,c5,w5,happ,hown,hgr,hg5⟩:=app_item_at x y ho (by omega) hi.old.size
      have hlm:(pre.length:Int)+1<=(n:Int)+1:=by have:=hi.len; omega
      have hmore:=hi.more hv ho hlm hown hgr (by rcases hg5 with h | h; exact Or.inl h; exact Or.inr (by rw [h]; rfl)) W0.heap.size
      have hbq:((pre.length:Int) == (n:Int)+1)=false:=beq_eq_false_iff_ne.2 hl
      have d5:Go.Boxed w5 (w.heap.size+1) 22 v:=(hv.alloc _).kept hgr (fun e=>hv.not_row (by decide) ho e)
      have d5c:=d5.cell
      have d5f:=d5.frozen
      rw [← hap] at hmore
      have HMORE:=qh hmore
      obtain ⟨A,cap,rfl,-,-⟩:=ho.at_.form
      clear hi hv ho hX hown hgr hg5 hmore d5 hlt hpre hap
      gi_wp2_with (gi_at_builtin; refine wpListIn_append_run rfl _ _ _ rfl _ _ _ (by rfl) (by rfl) happ ?_)
      exact HMORE.out
  case done=>
    rintro D qs W hD hqs hi hK
    rw [hqs] at hi
    have HPG:=qh (Scn.page_done hm hi.len)
    obtain ⟨v,hv,ho⟩:=hi.its
    obtain ⟨A,cap,rfl,-,-⟩:=ho.at_.form
    have c1:=hv.cell
    have c2:=hi.next.cell
    have c3:=hi.code.cell
    have f1:=hv.frozen
    have f2:=hi.next.frozen
    have f3:=hi.code.frozen
    obtain ⟨W3,hW3⟩:∃ W3,((W.setCell ⟨w.heap.size+1,0,none⟩ (.slice A (Scn.allR S f e).length cap)).setCell ⟨w.heap.size+1+1,0,none⟩ (.string ⟨([]:T).toArray⟩)).setCell ⟨w.heap.size+1+1+1,0,none⟩ (.int .i64 0)=W3:=⟨_,rfl⟩
    obtain ⟨k1,k2,k3,k4,k5,k6⟩:=hi.three hv ho (Below.refl _ _) W0.heap.size hW3
    have hK3:=k1.same D _ hD hK rfl
    gi_wp2
    refine ⟨by simp,.inl ⟨_,_,rfl,run_takeDeferred hK3,?_⟩⟩
    have hg:=grownBy_putObj' W3 D (.deferred none)
    have hr:∀ r,some D=some r->∃ o:Obj,W3.heap[r]?=some o/\o.isCells=false:=fun r e=>by cases e; exact ⟨_,hK3,rfl⟩
    refine ⟨_,range_results rfl rfl rfl (boxed_turn k2 hg hr).cell (boxed_turn k4 hg hr).cell (boxed_turn k5 hg hr).cell,?_⟩
    rw [HPG.out]
    exact ⟨_,rfl,ownI_turn k3 hg hr,k6.trans (belowK_b (w:=w) (Nat.le_refl _) W3 D _ _ (by omega) hK3 rfl rfl)⟩
  case stop=>
    rintro D c qs W hD hpre ⟨rfl,hx⟩ hK
    obtain ⟨⟨ini,x,hqs,hl,v,hv,ho,hn⟩,hc,hB⟩:=hx
    rw [hqs] at hpre
    have HPG:=qh (Scn.page_stop hm hpre hl)
    gi_wp2
    refine ⟨by simp,.inl ⟨_,_,rfl,run_takeDeferred hK,?_⟩⟩
    have hg:=grownBy_putObj' W D (.deferred none)
    have hr:∀ r,some D=some r->∃ o:Obj,W.heap[r]?=some o/\o.isCells=false:=fun r e=>by cases e; exact ⟨_,hK,rfl⟩
    refine ⟨_,range_results rfl rfl rfl (boxed_turn hv hg hr).cell (boxed_turn hn hg hr).cell (boxed_turn hc hg hr).cell,?_⟩
    rw [HPG.out]
    exact ⟨_,rfl,ownI_turn ho hg hr,hB.trans (belowK_b (w:=w) (Nat.le_refl _) W D _ _ (by omega) hK rfl rfl)⟩
end
section
open Go.RowKit
open Sto (T St)
def pnodes (S:St) (f e:T) (m:Int):List T:=if 1<=m/\m<=16 then coverS S f (Spn.upTo (Scn.pageR S f e m).2.1 e) else []
def SPPost (S:St) (f e:T) (m:Int) (w:World) (x:Ending) (w':World):Prop:=
  ∃ (A1:Option Addr) (n1 c1:Nat) (A2:Option Addr) (n2 c2:Nat),x=.returned (.tuple #[.agg #[.slice A1 n1 c1,.string ⟨(Scn.pageR S f e m).2.1.toArray⟩,.slice A2 n2 c2],.int .i64 (Scn.pageR S f e m).2.2])/\
    OwnI w' w.heap.size (.slice A1 n1 c1) (Scn.pageR S f e m).1/\Own w' w.heap.size (.slice A2 n2 c2) (pnodes S f e m)/\Below w.heap.size w w'
theorem cells_set3 {w:World} {q:Nat} {cs:Array Value} {t:TypeId} (h:w.heap[q]?=some (.cells cs t (0,0))) (a b c:Value):(((w.setCell ⟨q,0,none⟩ a).setCell ⟨q,1,none⟩ b).setCell ⟨q,2,none⟩ c).heap[q]?=some (.cells (((cs.setIfInBounds 0 a).setIfInBounds 1 b).setIfInBounds 2 c) t (0,0)):=cells_set (cells_set (cells_set h 0 a) 1 b) 2 c
theorem outp3 {w:World} {q:Nat} (x y z:Value):Out (fun k=>k=q) w (((w.setCell ⟨q,0,none⟩ x).setCell ⟨q,1,none⟩ y).setCell ⟨q,2,none⟩ z):=
  Out.setCell (F:=fun k=>k=q) (Out.setCell (F:=fun k=>k=q) (Out.setCell (F:=fun k=>k=q) (Out.refl _ _) (p:=⟨q,0,none⟩) rfl x) (p:=⟨q,1,none⟩) rfl y) (p:=⟨q,2,none⟩) rfl z
theorem page_bad {S:St} {f e:T} {m:Int} (h:¬ (1<=m/\m<=16)):Scn.pageR S f e m=([],[],1):=by
  unfold Scn.pageR; rw [if_neg h]
theorem spprove_any {g:Nat} {S:St} (f e:T) (m:Int) (w:World) (h:TrAt w g S) (hf:f.length<=2000000) (he:e.length<=2000000):
    Calls Tryz.prog 12 #[ptr g,.string ⟨f.toArray⟩,.string ⟨e.toArray⟩,.int .i64 m] w (SPPost S f e m w):=by
  obtain ⟨_,t,_,_,hts⟩:=id h
  obtain ⟨w0,hw0⟩:∃ w0,w.alloc (.cells #[.slice none 0 0,.string ⟨#[]⟩,.slice none 0 0] 31)=w0:=⟨_,rfl⟩
  have hb0:Below w.heap.size w w0:=by rw [← hw0]; exact (Below.refl _ w).alloc (Nat.le_refl _) _
  have ra:w0.heap[w.heap.size]?=some (.cells #[.slice none 0 0,.string ⟨#[]⟩,.slice none 0 0] 31 (0,0)):=by rw [← hw0]; exact heap_alloc_new w _
  have HR:Hid (∀ w',Below w0.heap.size w0 w'->w'.heap[w.heap.size]?=some (.cells #[.slice none 0 0,.string ⟨#[]⟩,.slice none 0 0] 31 (0,0))):=qh (fun w' h=>(h.block _ (lt_of_heap ra)).trans ra)
  have HB:=qh hb0
  have HT:=qh (h.below hb0)
  have HRG:=qh (range_ok g S f e m w0 (h.below hb0))
  unfold SPage ptr at HRG
  unfold SPPost pnodes ptr
  have HPR:=qh (fun (h:1<=m/\m<=16)=>(Spn.page_is hts f e h).2.2)
  have HNX:Hid ((Scn.pageR S f e m).2.1.length<=8):=qh (by
    by_cases hm:1<=m/\m<=16
    · rcases Spn.page_reach hts f e hm with ⟨h1,_⟩ | ⟨_,_,_,h2,_⟩
      · rw [h1]; simp
      · rw [← h2]; exact behind_short _
    · rw [page_bad hm]; simp)
  have HEL:=qh he
  have HFL:=qh hf
  clear h hb0 ra hts hf he
  by_cases hm:1<=m/\m<=16
  · rw [if_pos hm]
    have hc:=HPR.out hm
    obtain ⟨⟨P,nx,c⟩,hP⟩:∃ X,Scn.pageR S f e m=X:=⟨_,rfl⟩
    rw [hP] at HRG HNX hc ⊢
    dsimp only at HRG HNX hc ⊢
    obtain rfl:c=0:=hc
    have hup:(Spn.upTo nx e).length<=2000000:=by
      unfold Spn.upTo
      split
      · exact HEL.out
      · have:=HNX.out; omega
    have HRE:Hid (∀ w',Calls Tryz.prog 37 #[.string ⟨nx.toArray⟩,.string ⟨e.toArray⟩] w' fun r w''=>r=.returned (.string ⟨(Spn.upTo nx e).toArray⟩)/\w'=w''):=qh (fun w'=>spreach_any nx e w')
    have HCV:=qh (fun w' (h:Below w0.heap.size w0 w')=>scover_any f (Spn.upTo nx e) w' (HT.out.below h) HFL.out hup)
    unfold TextsPost ptr at HCV
    obtain ⟨U,hU⟩:∃ U,Spn.upTo nx e=U:=⟨_,rfl⟩
    rw [hU] at HRE HCV ⊢
    obtain ⟨CV,hCV⟩:∃ CV,coverS S f U=CV:=⟨_,rfl⟩
    rw [hCV] at HCV ⊢
    clear hm hP hup hU hCV HPR
    go_enter Tryz.func12,Tryz.ntmps12
    go_upto_region 1 with fail
    clear hw0
    go_wp2_with fail
    refine HRG.out.mono ?_
    rintro r w1 ⟨s,rfl,ho,hb1⟩
    have HB1:=qh hb1
    obtain ⟨A1,c1,rfl,-,-⟩:=ho.at_.form
    have HO1:=qh ho
    clear ho hb1
    go_wp2_with fail
    refine (HRE.out _).mono ?_
    rintro r w2 ⟨rfl,rfl⟩
    go_wp2_with fail
    refine (HCV.out _ HB1.out).mono ?_
    rintro r w3 ⟨z,rfl,hz,hb3⟩
    have hr3:=HR.out _ (bchain HB1.out hb3)
    have HFI:=qh (fun a b c=>cells_set3 hr3 a b c)
    have r0:w3.cell? ⟨w.heap.size,0,none⟩=some (.slice none 0 0):=by rw [cell_of_row _ _ 0 _ _ _ hr3]; rfl
    have r1:w3.cell? ⟨w.heap.size,1,none⟩=some (.string ⟨#[]⟩):=by rw [cell_of_row _ _ 1 _ _ _ hr3]; rfl
    have r2:w3.cell? ⟨w.heap.size,2,none⟩=some (.slice none 0 0):=by rw [cell_of_row _ _ 2 _ _ _ hr3]; rfl
    have f0:=frozen_of_row _ _ 0 _ _ hr3
    have f1:=frozen_of_row _ _ 1 _ _ hr3
    have f2:=frozen_of_row _ _ 2 _ _ hr3
    obtain ⟨A2,c2,rfl⟩:=own_form hz
    have HZ3:=qh hz
    have HO3:=qh (HO1.out.below hb3)
    have HB3:=qh (bchain HB.out (bchain HB1.out hb3))
    have HRB:=qh hr3
    have HSZ:Hid (w.heap.size<=w0.heap.size/\w.heap.size<=w1.heap.size):=qh ⟨HB.out.size,Nat.le_trans HB.out.size HB1.out.size⟩
    clear hz hb3 hr3
    go_wp2_with fail
    have hf:=HFI.out (.slice A1 P.length c1) (.string ⟨nx.toArray⟩) (.slice A2 CV.length c2)
    refine bodyPost_ret (nresults_c1t rfl _ _ w.heap.size _ _ _ _ rfl hf Tryz.underlying31 rfl (by kernel_rfl)) rfl ?_
    refine ⟨A1,P.length,c1,A2,CV.length,c2,rfl,?_,?_,(((HB3.out.setCell (p:=⟨_,0,none⟩) (Nat.le_refl _) _).setCell (p:=⟨_,1,none⟩) (Nat.le_refl _) _).setCell (p:=⟨_,2,none⟩) (Nat.le_refl _) _)⟩
    · exact row_apart (HO3.out.low HSZ.out.1) (outp3 _ _ _) (fun k hk e=>row_block_ne HO3.out (by decide) HRB.out (e ▸ hk))
    · exact row_apart (own_lowS HZ3.out HSZ.out.2) (outp3 _ _ _) (fun k hk e=>row_block_ne HZ3.out (by decide) HRB.out (e ▸ hk))
  · rw [if_neg hm]
    have hP:=page_bad (S:=S) (f:=f) (e:=e) hm
    rw [hP] at HRG ⊢
    dsimp only at HRG ⊢
    clear hm hP HPR HNX
    go_enter Tryz.func12,Tryz.ntmps12
    go_upto_region 1 with fail
    clear hw0
    go_wp2_with fail
    refine HRG.out.mono ?_
    rintro r w1 ⟨s,rfl,ho,hb1⟩
    have HB1:=qh hb1
    obtain ⟨A1,c1,rfl,-,-⟩:=ho.at_.form
    have hr3:=HR.out _ hb1
    have HFI:=qh (fun a b c=>cells_set3 hr3 a b c)
    have r0:w1.cell? ⟨w.heap.size,0,none⟩=some (.slice none 0 0):=by rw [cell_of_row _ _ 0 _ _ _ hr3]; rfl
    have r1:w1.cell? ⟨w.heap.size,1,none⟩=some (.string ⟨#[]⟩):=by rw [cell_of_row _ _ 1 _ _ _ hr3]; rfl
    have r2:w1.cell? ⟨w.heap.size,2,none⟩=some (.slice none 0 0):=by rw [cell_of_row _ _ 2 _ _ _ hr3]; rfl
    have f0:=frozen_of_row _ _ 0 _ _ hr3
    have f1:=frozen_of_row _ _ 1 _ _ hr3
    have f2:=frozen_of_row _ _ 2 _ _ hr3
    clear ho hb1 hr3
    go_wp2_with fail
    have hf:=HFI.out (.slice none 0 0) (.string ⟨#[]⟩) (.slice none 0 0)
    have HB3:=bchain HB.out HB1.out
    refine bodyPost_ret (nresults_c1t rfl _ _ w.heap.size _ _ _ _ rfl hf Tryz.underlying31 rfl (by kernel_rfl)) rfl ?_
    exact ⟨none,0,0,none,0,0,rfl,OwnI.nil _ _,Own.nil _ _,(((HB3.setCell (p:=⟨_,0,none⟩) (Nat.le_refl _) _).setCell (p:=⟨_,1,none⟩) (Nat.le_refl _) _).setCell (p:=⟨_,2,none⟩) (Nat.le_refl _) _)⟩
end
section
open Go.RowKit
open Sto (T St)
open Tri (Tr)
theorem spoilTexts_own (L:List (List UInt8)) (s:Value) (B:Nat) (w:World) (hs:Own w B s L) (hl:L.length<=1000000):
    Calls Tryz.prog 15 #[s] w fun e w'=>e=.returned (.tuple #[])/\Out (fun j=>s.ownBlock=some j) w w':=by
  have HS:=qh hs
  obtain ⟨A,cap,rfl⟩:=own_form hs
  clear hs
  go_enter Tryz.func15,Tryz.ntmps15
  go_wp2
  go_loopw [2] (fun i wr=>∃ (k:Nat) (K:List (List UInt8)),k<=L.length/\i=.int .i64 k/\K.length=L.length/\Own wr B (.slice A L.length cap) K/\Out (fun j=>(Value.slice A L.length cap).ownBlock=some j) w wr) (fun i _=>L.length - (intOf i).toNat)
  case atStart=>exact ⟨0,L,Nat.zero_le _,rfl,rfl,HS.out,Out.refl _ _⟩
  case round=>
    obtain ⟨k,K,hk,rfl,hK,hown,hb⟩:=hrel
    by_cases hlt:k < L.length
    · have h1:(k:Int) < (L.length:Int):=by omega
      have h0:(0:Int)<=(k:Int):=by omega
      have hf:=World.ownsRow.form hown (by omega)
      obtain ⟨g,c,hv,hBg,_⟩:=hf
      obtain ⟨rfl,_⟩:A=some ⟨g,0,none⟩/\_:=by simpa using hv
      obtain ⟨a,ha,hcell⟩:=hown.strs_at (Below.refl _ wr) k (by omega)
      obtain rfl:a=⟨g,0,none⟩:=by simpa using ha.symm
      rw [Addr.add_mid,Nat.zero_add] at hcell
      have hfz:=World.ownsRow.frozenAt (n:=K.length) (xs:=scells K) (cap:=cap) (by rw [hK]; have:=hown; unfold Own at this; rw [hK] at this; exact this) k
      have HN:=qh (hown.set (show k < K.length by omega) [97,110,111,116,104,101,114,32,111,110,101])
      have HB:=qh (hb.setCell (p:=⟨g,k,none⟩) rfl (.string ⟨#[97,110,111,116,104,101,114,32,111,110,101]⟩))
      have HKL:=qh hK
      obtain ⟨y,hy⟩:∃ y,K[k]'(by omega)=y:=⟨_,rfl⟩
      rw [hy] at hcell
      clear hv ha hown hb hy hK
      go_wp2
      exact ⟨⟨k+1,_,by omega,by go_num,by rw [List.length_set]; exact HKL.out,HN.out,HB.out⟩,by simp [intOf]; omega⟩
    · have h1:¬ ((k:Int) < (L.length:Int)):=by omega
      have HB:=qh hb
      clear hown hb
      go_wp2
      go_end0
      exact ⟨rfl,HB.out⟩
theorem keep_own {F:Nat->Prop} {w w':World} {B:Nat} {z:Value} {L:List T} (h:Own w B z L) (ho:Out F w w') (hF:∀ k,z.ownBlock=some k->¬ F k):Own w' B z L:=by
  refine ⟨h.1,?_⟩
  rcases h.2 with h0 | ⟨g,cap,cur,hv,hB,hh,hr⟩
  · exact Or.inl h0
  · exact Or.inr ⟨g,cap,cur,hv,hB,ho.heap hh (hF g (by rw [hv]; rfl)),hr⟩
theorem trat_out {F:Nat->Prop} {w w':World} {g:Nat} {S:St} (h:TrAt w g S) (ho:Out F w w') (hb:∀ k,F k->∀ cs t f,w.heap[k]?=some (.cells cs t f)->t ≠ 87/\t ≠ 84):TrAt w' g S:=by
  obtain ⟨top,t,h1,h2,h3⟩:=h
  exact ⟨top,t,ho.heap h1 (fun e=>(hb g e _ _ _ h1).2 rfl),h2.change (fun _ _ _ h=>h) fun g k p x K s s2 _ hr=>ho.heap hr (fun e=>(hb g e _ _ _ hr).1 rfl),h3⟩
theorem own_bare {w:World} {B:Nat} {z:Value} {L:List T} (h:Own w B z L) (k:Nat) (hk:z.ownBlock=some k):∀ cs t f,w.heap[k]?=some (.cells cs t f)->t ≠ 87/\t ≠ 84:=by
  intro cs t f he
  rcases h.2 with ⟨h0,_⟩ | ⟨g,cap,cur,hv,hB,hh,_⟩
  · rw [h0] at hk; cases hk
  · rw [hv] at hk
    obtain rfl:g=k:=by simpa [Value.ownBlock] using hk
    rw [hh] at he
    cases he
    decide
theorem nodes_few {S:St} {t:Tri.Tr} (h:TrS S t):(nodesS S).length<=3100:=by
  rw [nodesS_nodes h,List.length_map,← Tri.spots_nodes Nd.sumS t [],List.length_map]
  have h1:=Tri.spots_few Nd.sumS h.tree.1 []
  have h2:=h.few
  rw [h.tree.2.2] at h1
  simp [Tri.paths] at h1
  omega
end
section
open Go.RowKit
open Sto (T St)
theorem spgoes_ok:GoesOk:=fun zi I x zn e m w hi hm=>spgoes_any zi I x zn e m w hi hm
theorem spverify_any (root f e:T) (m:Int) (zi:Value) (I:St) (x:T) (zn:Value) (L:List T) (w:World) (hi:ItIn w zi I) (hv:StrsC w zn L) (hT:Tab w) (hL:∀ y ∈ L,y.length<=1000000) (hl:L.length<=10000) (hf:f.length<=2000000) (he:e.length<=2000000):
    Calls Tryz.prog 19 #[.string ⟨root.toArray⟩,.string ⟨f.toArray⟩,.string ⟨e.toArray⟩,.int .i64 m,.agg #[zi,.string ⟨x.toArray⟩,zn]] w (SVPost (Spn.verifyP root f e m I x L) w):=spverify_of spgoes_ok root f e m zi I x zn L w hi hv hT hL hl hf he
theorem OwnI.len {w:World} {B n c:Nat} {A:Option Addr} {S:St} (h:OwnI w B (.slice A n c) S):n=S.length:=by
  obtain ⟨A',c',hz,-,-⟩:=h.at_.form
  injection hz with h1 h2 h3
theorem Own.len {w:World} {B n c:Nat} {A:Option Addr} {L:List T} (h:Own w B (.slice A n c) L):n=L.length:=by
  obtain ⟨A',c',hz⟩:=own_form h
  injection hz with h1 h2 h3
theorem cover_short {S:St} {t:Tri.Tr} (h:TrS S t) (f e:T):∀ y ∈ coverS S f e,y.length<=999:=fun y hy=>nodesS_short h y (by
  rw [← cover_all S]
  exact (wanted_sub _ fun _ _=>Tri.in_all _).subset hy)
theorem cover_len {S:St} {t:Tri.Tr} (h:TrS S t) (f e:T):(coverS S f e).length<=3100:=Nat.le_trans (by
  rw [← cover_all S]
  exact (wanted_sub _ fun _ _=>Tri.in_all _).length_le) (nodes_few h)
theorem pnodes_len {S:St} {t:Tri.Tr} (h:TrS S t) (f e:T) (m:Int):(pnodes S f e m).length<=3100:=by
  unfold pnodes
  split
  · exact cover_len h _ _
  · simp
theorem Scn.wL_page2:Scn.pageR Scn.wL [98] [99] 5=([([98],[50])],[],0):=by decide +kernel
theorem Scn.wL_cover:(coverS Scn.wL [98] [99]).length=3:=by decide +kernel
theorem spworks_any (w:World) (hT:Tab w):Calls Tryz.prog 10 #[] w fun e w'=>e=.returned (.bool true)/\Below w.heap.size w w':=by
  have ht1:ItAt (w.alloc (.cells #[.string ⟨#[97]⟩,.string ⟨#[49]⟩,.string ⟨#[98]⟩,.string ⟨#[50]⟩,.string ⟨#[99]⟩,.string ⟨#[51]⟩] 60)) (.slice (some ⟨w.heap.size,0,none⟩) 3 3) Scn.wL:=
    OwnI.at_ (B:=w.heap.size) ⟨rfl,Or.inr ⟨w.heap.size,3,_,rfl,Nat.le_refl _,heap_alloc_new w _,by simp [Scn.wL],by simp [maxLen],rfl,rfl⟩⟩
  have hbA:Below w.heap.size w (w.alloc (.cells #[.string ⟨#[97]⟩,.string ⟨#[49]⟩,.string ⟨#[98]⟩,.string ⟨#[50]⟩,.string ⟨#[99]⟩,.string ⟨#[51]⟩] 60)):=(Below.refl _ w).alloc (Nat.le_refl _) _
  have HO1:=qh (tof_any Scn.wL _ _ ht1 (by decide) (hT.below hbA))
  unfold TOfPost at HO1
  rw [Scn.wL_of] at HO1
  have HBA:=qh hbA
  have HTT:=qh hT
  have HP5:Hid (∀ g w,TrAt w g Scn.wL->Calls Tryz.prog 12 #[.pointer (some ⟨g,0,none⟩),.string ⟨#[98]⟩,.string ⟨#[99]⟩,.int .i64 5] w fun x w'=>∃ A1 c1 A2 c2,x=.returned (.tuple #[.agg #[.slice A1 1 c1,.string ⟨#[]⟩,.slice A2 3 c2],.int .i64 0])/\Below w.heap.size w w'):=qh (fun g w h=>by
    have h1:=spprove_any [98] [99] 5 w h (by decide) (by decide)
    unfold SPPost pnodes at h1
    rw [Scn.wL_page2,if_pos (by decide)] at h1
    refine h1.mono fun x w' ⟨A1,n1,c1,A2,n2,c2,q1,q2,q3,q4⟩=>?_
    have e1:=q2.len
    have e2:=q3.len
    have e3:n2=3:=e2.trans Scn.wL_cover
    have e4:n1=1:=e1
    subst e3 e4
    exact ⟨A1,c1,A2,c2,q1,q4⟩)
  have HP1:Hid (∀ g w,TrAt w g Scn.wL->Calls Tryz.prog 12 #[.pointer (some ⟨g,0,none⟩),.string ⟨#[98]⟩,.string ⟨#[]⟩,.int .i64 1] w fun x w'=>∃ A1 c1 A2 n2 c2,x=.returned (.tuple #[.agg #[.slice A1 1 c1,.string ⟨#[98,0]⟩,.slice A2 n2 c2],.int .i64 0])/\OwnI w' w.heap.size (.slice A1 1 c1) [([98],[50])]/\Own w' w.heap.size (.slice A2 n2 c2) (coverS Scn.wL [98] [98,0])/\Below w.heap.size w w'):=qh (fun g w h=>by
    have h1:=spprove_any [98] [] 1 w h (by decide) (by decide)
    unfold SPPost pnodes at h1
    rw [Scn.wL_page,if_pos (by decide)] at h1
    refine h1.mono fun x w' ⟨A1,n1,c1,A2,n2,c2,q1,q2,q3,q4⟩=>?_
    have e1:=q2.len
    have e4:n1=1:=e1
    subst e4
    exact ⟨A1,c1,A2,n2,c2,q1,q2,q3,q4⟩)
  have HVW:Hid (∀ t,TrS Scn.wL t->Spn.verifyP (rootS Scn.wL) [98] [] 1 [([98],[50])] [98,0] (coverS Scn.wL [98] [98,0])=([([98],[50])],[98,0],0)):=qh (fun t h=>by
    have h1:=Spn.verify_whole h [98] [] (m:=1) (by decide)
    rw [Scn.wL_page] at h1
    exact h1)
  clear ht1 hbA hT
  go_enter Tryz.func10,Tryz.ntmps10
  go_wp2_with fail
  refine HO1.out.mono ?_
  rintro e w1 ⟨z1,rfl,h1,-,hb1⟩
  obtain ⟨g1,rfl,t1⟩:=h1 trivial
  have HB1:Hid (Below w.heap.size w w1):=qh (bchain HBA.out hb1)
  have HT1:=qh t1
  obtain ⟨_,tt,_,_,hts⟩:=id t1
  have HTS:=qh hts
  clear h1 t1 hb1 hts
  unfold ptr
  go_wp2_with fail
  refine (HP5.out g1 w1 HT1.out).mono ?_
  rintro e w2 ⟨A1,c1,A2,c2,rfl,hb2⟩
  have HT2:=qh (HT1.out.below hb2)
  have HB2:=qh (bchain HB1.out hb2)
  clear hb2
  go_upto_region 5 with fail
  obtain ⟨w3,hw3⟩:∃ w3,w2.alloc (.cells #[.slice A1 1 c1,.string ⟨#[]⟩,.slice A2 3 c2] 31)=w3:=⟨_,rfl⟩
  obtain ⟨q3,hq3⟩:∃ q3,w2.heap.size=q3:=⟨_,rfl⟩
  have r3:w3.heap[w2.heap.size]?=some (.cells #[.slice A1 1 c1,.string ⟨#[]⟩,.slice A2 3 c2] 31 (0,0)):=by rw [← hw3]; exact heap_alloc_new w2 _
  have hb3:Below w2.heap.size w2 w3:=by rw [← hw3]; exact (Below.refl _ w2).alloc (Nat.le_refl _) _
  have HT3:=qh (HT2.out.below hb3)
  have HB3:=qh (bchain HB2.out hb3)
  rw [hq3] at r3
  have HR3:=qh r3
  rw [hw3,hq3]
  clear hw3 hq3 r3 hb3
  go_wp2_with fail
  refine (HP1.out g1 w3 HT3.out).mono ?_
  rintro e w4 ⟨A3,c3,A4,n4,c4,rfl,ho4,hn4,hb4⟩
  obtain ⟨w5,hw5⟩:∃ w5,w4.alloc (.cells #[.slice A3 1 c3,.string ⟨#[98,0]⟩,.slice A4 n4 c4] 31)=w5:=⟨_,rfl⟩
  obtain ⟨q5,hq5⟩:∃ q5,w4.heap.size=q5:=⟨_,rfl⟩
  have r5:w5.heap[w4.heap.size]?=some (.cells #[.slice A3 1 c3,.string ⟨#[98,0]⟩,.slice A4 n4 c4] 31 (0,0)):=by rw [← hw5]; exact heap_alloc_new w4 _
  have hb5:Below w4.heap.size w4 w5:=by rw [← hw5]; exact (Below.refl _ w4).alloc (Nat.le_refl _) _
  have HT5:=qh ((HT3.out.below hb4).below hb5)
  have HB5:=qh (bchain (bchain HB3.out hb4) hb5)
  have HO5:=qh (ho4.below hb5)
  have HN5:=qh (hn4.below hb5)
  have HR35:=qh ((hb5.block _ (Nat.lt_of_lt_of_le (lt_of_heap HR3.out) hb4.size)).trans ((hb4.block _ (lt_of_heap HR3.out)).trans HR3.out))
  have HR5:=qh r5
  go_upto_region 6 with fail
  try rw [hw5]
  try rw [hq5]
  rw [hq5] at HR5
  clear hw5 hq5 r5 hb5 ho4 hn4 hb4
  have HRT:Hid (∀ w',Below w5.heap.size w5 w'->Calls Tryz.prog 23 #[.pointer (some ⟨g1,0,none⟩)] w' fun e w''=>e=.returned (.string ⟨(rootS Scn.wL).toArray⟩)/\Below w5.heap.size w5 w''):=qh (fun w' h=>(sroot_any w' (HT5.out.below h)).mono fun e w'' ⟨a,b⟩=>⟨a,bchain h b⟩)
  have HVE:Hid (∀ w',Below w5.heap.size w5 w'->Calls Tryz.prog 19 #[.string ⟨(rootS Scn.wL).toArray⟩,.string ⟨#[98]⟩,.string ⟨#[]⟩,.int .i64 1,.agg #[.slice A3 1 c3,.string ⟨#[98,0]⟩,.slice A4 n4 c4]] w' fun e w''=>∃ A c,e=.returned (.tuple #[.slice A 1 c,.string ⟨#[98,0]⟩,.int .i64 0])/\(∃ b o,A=some ⟨b,o,none⟩/\w''.cell? ⟨b,o+1,none⟩=some (.string ⟨#[50]⟩))/\Below w5.heap.size w5 w''):=qh (fun w' h=>by
    have h1:=spverify_any (rootS Scn.wL) [98] [] 1 (.slice A3 1 c3) [([98],[50])] [98,0] (.slice A4 n4 c4) (coverS Scn.wL [98] [98,0]) w' (RowsAt.inn (RowsAt.below HO5.out.at_ h)) ((StrsC.of_own HN5.out).below h) (HTT.out.below (bchain HB5.out h)) (fun y hy=>Nat.le_trans (cover_short HTS.out _ _ y hy) (by decide)) (Nat.le_trans (cover_len HTS.out _ _) (by decide)) (by decide) (by decide)
    rw [HVW.out tt HTS.out] at h1
    unfold SVPost at h1
    refine h1.mono fun e w'' ⟨A,n,c,p1,p2,p3⟩=>?_
    have e1:n=1:=p2.len
    subst e1
    obtain ⟨b,o,hA,-,hv⟩:=ItAt.at p2.at_ 0 (by simp)
    exact ⟨A,c,p1,⟨b,o,hA,by simpa using hv⟩,bchain h p3⟩)
  obtain ⟨RT,hRT⟩:∃ RT,rootS Scn.wL=RT:=⟨_,rfl⟩
  rw [hRT] at HRT HVE
  have HS:Hid (∀ w',Below w5.heap.size w5 w'->Below w5.heap.size w5 w'/\w'.cell? ⟨q5,0,none⟩=some (.slice A3 1 c3)/\w'.cell? ⟨q5,1,none⟩=some (.string ⟨#[98,0]⟩)/\w'.cell? ⟨q5,2,none⟩=some (.slice A4 n4 c4)):=qh (fun w' h=>by
    have r:=(h.block _ (lt_of_heap HR5.out)).trans HR5.out
    exact ⟨h,by rw [cell_of_row _ _ 0 _ _ _ r]; rfl,by rw [cell_of_row _ _ 1 _ _ _ r]; rfl,by rw [cell_of_row _ _ 2 _ _ _ r]; rfl⟩)
  have BD:Below w5.heap.size w5 w5.drew:=(Below.refl _ _).drew
  clear hRT
  go_region_held3 (fun w'=>Below w5.heap.size w5 w'/\w'.cell? ⟨q5,0,none⟩=some (.slice A3 1 c3)/\w'.cell? ⟨q5,1,none⟩=some (.string ⟨#[98,0]⟩)/\w'.cell? ⟨q5,2,none⟩=some (.slice A4 n4 c4))
    ((refine HS.out _ ?_; first | (with_reducible assumption) | exact And.left (by with_reducible assumption)))
    (first | (go_at_call 23; refine (HRT.out _ ?_).mono ?_; (first | (with_reducible assumption) | exact And.left (by with_reducible assumption)); rintro e wa ⟨rfl,hba⟩) | (go_at_call 19; refine (HVE.out _ ?_).mono ?_; (first | (with_reducible assumption) | exact And.left (by with_reducible assumption)); rintro e wb ⟨A6,c6,rfl,⟨b6,o6,rfl,hv6⟩,hbb⟩))
  all_goals
    have r3:=(hbb.block _ (lt_of_heap HR35.out)).trans HR35.out
    have r5:=(hbb.block _ (lt_of_heap HR5.out)).trans HR5.out
    have s0:wb.cell? ⟨q3,0,none⟩=some (.slice A1 1 c1):=by rw [cell_of_row _ _ 0 _ _ _ r3]; rfl
    have s1:wb.cell? ⟨q3,1,none⟩=some (.string ⟨#[]⟩):=by rw [cell_of_row _ _ 1 _ _ _ r3]; rfl
    have s2:wb.cell? ⟨q3,2,none⟩=some (.slice A2 3 c2):=by rw [cell_of_row _ _ 2 _ _ _ r3]; rfl
    have s4:wb.cell? ⟨q5,1,none⟩=some (.string ⟨#[98,0]⟩):=by rw [cell_of_row _ _ 1 _ _ _ r5]; rfl
    have HFI:=qh (bchain HB5.out hbb)
    clear r3 r5 hbb
    go_wp2
    go_ret
    exact ⟨rfl,HFI.out⟩
end
section
open Go.RowKit
open Sto (T St)
theorem allR_len (S:St) (f e:T) (k:Nat):(Scn.allR (S.take k) f e).length<=S.length:=by
  unfold Scn.allR
  exact Nat.le_trans (List.length_filter_le ..) (by simp; omega)
def Fit (I:St) (x:T) (L:List T):Prop:=I.length<=40/\L.length<=60/\(∀ y ∈ L,y.length<=700)/\x.length<=100
end
section
open Go.RowKit Go.ChangeShapes Go.WideShapes
open Sto (T St)
theorem cellsItem:Tryz.prog.cellsOf 60=2:=by kernel_rfl
theorem okWide_slice_at {P:Program} {W:World} {r:Reach} {b0:Nat} {t e:TypeId} {v:Value} (ht:P.underlying t=some (.slice e)) (h:Value.okWide P W r b0 t v):v=.slice none 0 0 ∨ ∃ b o len cap,v=.slice (some ⟨b,o,none⟩) len cap/\len<=cap:=by
  obtain ⟨a,len,cap,rfl⟩:=okWide_slice ht h
  simp only [Value.okWide,ht,Cell.okWide,Cell.ok] at h
  cases a with
  | none=>
    left
    cases len <;> cases cap <;> simp_all
  | some a=>
    right
    obtain ⟨h1,_,h2⟩:=h
    obtain ⟨b,o,sp⟩:=a
    have h3:sp=none:=h2.2.1
    subst h3
    exact ⟨b,o,len,cap,rfl,h1⟩
theorem item_cells {H:Type} {enc:TypeId × Value->H} {W:World} {fuel:Nat} {cs:List Value} {x:DataW H × List MemPlace} (ht:DataW.trod enc Tryz.prog W 0 (fun _=>true) true fuel 60 cs=some x):
    ∃ s:T × T,cs=itcl s:=by
  obtain ⟨ys,n',_,hy,hcl,hyl,hfs⟩:=DataW.trod_struct Tryz.underlying60 ht
  rw [cellsItem] at hcl
  match cs,hcl,ys,hyl with
  | [v0,v1],_,[y0,y1],_=>
    have g0:=hfs 0 _ rfl
    have g1:=hfs 1 _ rfl
    simp [cellsS] at g0 g1
    obtain ⟨s0,e0,_,_⟩:=DataW.trod_string Tryz.underlying9 g0
    obtain ⟨s1,e1,_,_⟩:=DataW.trod_string Tryz.underlying9 g1
    obtain rfl:v0=.string s0:=by simpa using e0
    obtain rfl:v1=.string s1:=by simpa using e1
    exact ⟨(s0.data.toList,s1.data.toList),by simp [itcl]⟩
theorem items_open {H:Type} {enc:TypeId × Value->H} {W:World} {r:Reach} {b0:Nat} {v:Value} {d:DataW H} {p:List MemPlace}
    (hv:Value.okWide Tryz.prog W r b0 22 v) (h:DataW.Trod enc Tryz.prog W 0 (fun _=>true) true 22 v d p)
    (hz:∀ n ∈ d.weights Tryz.prog 22,n<=reachBytes):
    ∃ L,ItIn W v L/\L.length * 32<=reachBytes:=by
  obtain ⟨fuel,hf⟩:=h
  rcases okWide_slice_at Tryz.underlying22 hv with rfl | ⟨b,o,len,cap,rfl,hlc⟩
  · exact ⟨[],⟨none,0,rfl,Nat.le_refl _,fun _=>Or.inl ⟨rfl,rfl⟩,fun h=>absurd h (by simp)⟩,by simp⟩
  rcases Go.Deep.open_slice Tryz.underlying22 hf with ⟨hcs,_⟩ | ⟨x,l,c,m,n,D,Pl,hcs,_,hl,hm,hmm,hx,hel⟩
  · simp [Value.cells] at hcs
  · simp [Value.cells] at hcs
    obtain ⟨rfl,rfl,rfl⟩:=hcs
    simp only [if_true] at hmm
    subst hmm
    rw [cellsItem] at hel hx
    obtain ⟨hd,-⟩:=Prod.mk.inj hx
    have hlen32:len * 32<=reachBytes:=by
      have h1:=hz ((((List.range len).map D).length+((List.range (m - len)).map fun j=>D (len+j)).length) * Tryz.prog.bytesOf 60) (by
        rw [hd]; simp [DataW.weights,Tryz.underlying22])
      rw [show Tryz.prog.bytesOf 60=32 from by kernel_rfl] at h1
      simp only [List.length_map,List.length_range] at h1
      omega
    have key:∀ i,i < len->∃ q:T × T,W.cell? ⟨b,o+i * 2+0,none⟩=some (.string ⟨q.1.toArray⟩)/\W.cell? ⟨b,o+i * 2+1,none⟩=some (.string ⟨q.2.toArray⟩):=fun i hi=>by
      obtain ⟨cs',hc,ht⟩:=hel i (by omega)
      obtain ⟨_,_,hat⟩:=World.cells?_some hc
      obtain ⟨q,rfl⟩:=item_cells ht
      have q0:=hat 0 (by omega)
      have q1:=hat 1 (by omega)
      rw [Addr.add_mid,Addr.add_mid] at q0 q1
      exact ⟨q,by simpa [itcl] using q0,by simpa [itcl] using q1⟩
    obtain ⟨f,hf⟩:=Go.Deep.choose_lt (fun i hi=>key i hi)
    have hlen:((List.range len).map f).length=len:=by simp
    refine ⟨(List.range len).map f,⟨some ⟨b,o,none⟩,_,by rw [hlen],by rw [hlen]; exact hlc,fun _=>Or.inr ⟨b,o,rfl⟩,fun h0=>?_⟩,by rw [hlen]; exact hlen32⟩
    rw [hlen] at h0
    obtain ⟨q0,_⟩:=hf 0 h0
    refine ⟨b,o,rfl,block_lt_of_cell q0,fun i hi j u hu=>?_⟩
    rw [hlen] at hi
    obtain ⟨q0,q1⟩:=hf i hi
    have e:((List.range len).map f)[i]'(by rw [hlen]; exact hi)=f i:=by simp
    rw [e] at hu
    match j,hu with
    | 0,hu=>simp [itcl] at hu; subst hu; exact q0
    | 1,hu=>simp [itcl] at hu; subst hu; exact q1
    | j+2,hu=>simp [itcl] at hu
end
end Go.Proofs.YtaficmboooaknaaGreatDoor
