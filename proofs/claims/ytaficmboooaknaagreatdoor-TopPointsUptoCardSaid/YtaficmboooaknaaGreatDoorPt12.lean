import Derived.Test.YtaficmboooaknaaGreatDoorPt11
import Derived.Lib.SliceRun
set_option maxRecDepth 100000
set_option maxHeartbeats 16000000
namespace Go.Proofs.YtaficmboooaknaaGreatDoor
section
open Go.RowKit
open Pw (M)
theorem run_append_nothing_s (w:World) (v:Value) (n c B:Nat) (xs:List Value) (h:w.ownsRow B 9 1 v n xs) (ty:TypeId):(Builtin.append_ #[29,29] ty #[v,.slice none 0 c]).run Tryz.prog w=.ok v w:=by
  rcases h.2 with ⟨rfl,rfl⟩ | ⟨g,cap,cur,rfl,hB,hh,hn,_⟩
  · simp [Builtin.append_,run_underlying Tryz.underlying29,Tryz.sizeOf9,Builtin.lenOf,Builtin.firstCells,Result.andThen]
  · simp [Builtin.append_,run_underlying Tryz.underlying29,Tryz.sizeOf9,Builtin.lenOf,Builtin.firstCells,Result.andThen,hn,storeCells]
theorem grown_none (w:World) (r:Option Nat):w.grownBy w r:=⟨rfl,rfl,rfl,Nat.le_refl _,fun _ _ _=>rfl⟩
theorem step_append_run {P:Program} {ops:Array Oper} {o:Oper} {a:Act} {w w':World} {K:Act->World->Prop} {Q:Exit->Act->World->Prop} {E:Prop} (hg:o.guard=none) (s x:Operand) (t:TypeId) (hop:o.op=Op.call { callee:=Callee.builtin Builtin.append,args:=#[s,x],argTypes:=#[t,t] })
    (sv xv r:Value) (hs:a.eval s=sv) (hx:a.eval x=xv) (hrun:(Builtin.append_ #[t,t] o.type #[sv,xv]).run P w=.ok r w') (hK:K (a.put o.dst r) w'):if Region.wanted o (yielded ops a.tmps)=true then Oper.wp P o a w K Q else E:=by
  have hw:Region.wanted o (yielded ops a.tmps)=true:=by simp [Region.wanted,hg]
  rw [if_pos hw]
  unfold Oper.wp
  simp [execOp,hop,resolve,invoke,builtin,hs,hx,hrun,Result.andThen]
  exact hK
theorem append_strs {w:World} {v s:Value} {L:List (List UInt8)} {B n:Nat} {xs:List Value} (hv:Strs w v L) (hs:w.ownsRow B 9 1 s n xs) (hl:n+L.length<=1000000) (hB:B<=w.heap.size):
    ∃ v' w',(Builtin.append_ #[29,29] 29 #[s,v]).run Tryz.prog w=.ok v' w'/\w'.ownsRow B 9 1 v' (n+L.length) (xs++scells L)/\w.grownBy w' s.ownBlock/\(v'.ownBlock=s.ownBlock∨v'.ownBlock=some w.heap.size):=by
  obtain ⟨i0,hi,hz0,hz1,hz2⟩:=info_parts Tryz.infoStr
  obtain ⟨A,cap,rfl,hc⟩:=hv
  cases A with
  | none=>
    have h0:L.length=0:=by
      by_cases h:L.length=0
      · exact h
      · obtain ⟨a,ha,_⟩:=hc 0 (by omega)
        cases ha
    obtain rfl:L=[]:=List.eq_nil_of_length_eq_zero h0
    exact ⟨s,w,run_append_nothing_s w s n cap B xs hs _,by simpa [scells] using hs,grown_none _ _,Or.inl rfl⟩
  | some a=>
    obtain ⟨v',w',h1,h2,h3,_,h5⟩:=run_append_own_at (P:=Tryz.prog) w B 29 29 9 i0 (.string ⟨#[]⟩) 1 16 Tryz.underlying29 hi hz0 hz1 hz2 rfl (by decide) s n xs hs a L.length cap (scells L) (by simp [scells])
      (fun j u hu=>by
        have hj:j<L.length:=by
          have:=(List.getElem?_eq_some_iff.1 hu).1
          simpa [scells] using this
        obtain ⟨b,hb,hcell⟩:=hc j hj
        cases hb
        simp only [scells,List.getElem?_map,List.getElem?_eq_getElem hj] at hu
        simp at hu
        rw [← hu]
        exact hcell) (by simp [scells,Value.oneCell']) (by unfold maxLen; omega) (by omega) hB
    exact ⟨v',w',h1,h2,h3,h5⟩
end
section
open Go.RowKit
open Sto (St)
def StNewPost (w:World) (S:St) (e:Ending) (w':World):Prop:=∃ g m,e=.returned (.pointer (some ⟨g,0,none⟩))/\w.heap.size<=g/\w.heap.size<=m/\StoreAt w' g m S/\Below w.heap.size w w'
theorem stnew_any (w:World):Calls Tryz.prog 88 #[] w (StNewPost w []):=by
  have hmm:=@run_makeMap Tryz.prog
  go_enter Tryz.func88,Tryz.ntmps88
  go_wp2
  go_ret
  refine ⟨w.heap.size+1,w.heap.size,rfl,by omega,by omega,⟨heap_new_at _ _ _ (by simp),?_,Sto.rising_nil,fun p hp=>(by cases hp)⟩,((Below.refl _ w).alloc (Nat.le_refl _) _).alloc (by simp) _⟩
  exact ((FnAt.made storeMap w w.heap.size rfl).congr (fun _=>rfl)).below ((Below.refl _ _).alloc (Nat.le_refl _) _)
theorem StoreAt.lookE {w:World} {g m:Nat} {S:St} (h:StoreAt w g m S) {x:List UInt8} (hx:x.length<=140737488351232):
    (Instr.lookup 179 (.map (some m)) (.string ⟨x.toArray⟩) true).run Tryz.prog w=.ok (.tuple #[.agg #[.string ⟨((Sto.look S x).getD []).toArray⟩],.bool (Sto.look S x).isSome]) w:=by
  have h1:=h.map.look Tryz.underlying179 (s:=x) hx true (zeroEntry w)
  rw [show (.string ⟨x.toArray⟩:Value)=storeMap.enc x from rfl,h1]
  cases Sto.look S x <;> rfl
def Sto.sumOf (t:List UInt8):List UInt8:=Dig.sum 1 t
theorem Sto.sumOf_len (t:List UInt8):(Sto.sumOf t).length=32:=by
  unfold Sto.sumOf Dig.sum
  rw [if_pos (by decide),Sha.sumP_length]
def StPutPost (g m:Nat) (S:St) (t:List UInt8) (w:World) (e:Ending) (w':World):Prop:=
  e=.returned (.string ⟨(Sto.sumOf t).toArray⟩)/\StoreAt w' g m (Sto.put S (Sto.sumOf t) t)/\Out (fun i=>i=m) w w'
theorem StoreAt.putAt {w w2 w3 w4:World} {g m:Nat} {S:St} {x t:List UInt8} (h:StoreAt w g m S) (hb:Below w.heap.size w w2) (hb3:Below w2.heap.size w2 w3) (hn:Sto.look S x=none) (hf:FnAt storeMap w4 m (updF (Sto.look S) x (some t))) (ho:Out (fun i=>i=m) w3 w4) (hx:x.length<=32) (ht:t.length<=1000):
    StoreAt w4 g m (Sto.put S x t)/\Out (fun i=>i=m) w w4:=by
  have hb4:Below w.heap.size w w3:=bchain hb hb3
  have ho4:Out (fun i=>i=m) w w4:=(Out.of hb4).trans ho
  refine ⟨⟨ho4.heap h.head (h.ne h),hf.congr fun y=>?_,Sto.put_rising h.rise _ _,fun p hp=>?_⟩,ho4⟩
  · rw [Sto.look_put h.rise,hn]
    rfl
  · rcases Sto.put_mem hp with hp | rfl
    · exact h.short p hp
    · exact ⟨hx,ht⟩
theorem stput_any (g m:Nat) (S:St) (t:List UInt8) (w:World) (h:StoreAt w g m S) (hT:Tab w) (ht:t.length<=1000):
    Calls Tryz.prog 132 #[.pointer (some ⟨g,0,none⟩),.string ⟨t.toArray⟩] w (StPutPost g m S t w):=by
  unfold StPutPost
  have HSU:Hid (∀ w,Tab w->Calls Tryz.prog 115 #[.int .i64 1,.string ⟨t.toArray⟩] w fun e w'=>e=.returned (.tuple #[.string ⟨(Sto.sumOf t).toArray⟩,.int .i64 0])/\Below w.heap.size w w'):=qh (fun w hw=>(dsum_any 1 t w hw (by omega)))
  have hxl:=Sto.sumOf_len t
  obtain ⟨x,hx⟩:∃ x,Sto.sumOf t=x:=⟨_,rfl⟩
  rw [hx] at HSU hxl ⊢
  have HX:=qh hxl
  have HTL:=qh ht
  have HH:=qh h
  have HT:=qh hT
  clear hx h hT hxl ht
  go_enter Tryz.func132,Tryz.ntmps132
  go_wp2_with fail
  refine (HSU.out _ HT.out).mono ?_
  rintro e w1 ⟨rfl,hb1⟩
  have h1:=HH.out.below hb1
  have hc:=h1.cell
  have hlook:=h1.lookE (x:=x) (by have:=HX.out; omega)
  obtain ⟨o,ho⟩:∃ o,Sto.look S x=o:=⟨_,rfl⟩
  rw [ho] at hlook
  have HO:=qh ho
  have HB1:=qh hb1
  cases o with
  | some u=>
    simp only [Option.getD_some,Option.isSome_some] at hlook
    clear h1 ho hb1
    go_wp2
    go_ret
    have hb2:=HB1.out.alloc HB1.out.size (.cells #[.string ⟨u.toArray⟩] 210)
    refine ⟨rfl,?_,Out.of hb2⟩
    rw [Sto.put_same (by rw [HO.out]; rfl) t HH.out.rise]
    exact HH.out.below hb2
  | none=>
    simp only [Option.getD_none,Option.isSome_none] at hlook
    have hb2:=HB1.out.alloc HB1.out.size (.cells #[.string ⟨#[]⟩] 210)
    have h2:=HH.out.below hb2
    have hc2:=h2.cell
    have HB2:=qh hb2
    have HC1:=qh (fun w=>dclone_any x w (by have:=HX.out; omega))
    have HC2:=qh (fun w=>dclone_any t w (by have:=HTL.out; omega))
    go_upto_region 4 with fail
    obtain ⟨w2,hw2⟩:∃ w2,w1.alloc (.cells #[.string ⟨#[]⟩] 210)=w2:=⟨_,rfl⟩
    rw [hw2] at h2 hc2 HB2 ⊢
    have HFN:Hid (∀ w',Below w2.heap.size w2 w'->FnAt storeMap w' m (Sto.look S)):=qh (fun w' hb=>h2.map.below hb)
    have HCE:Hid (∀ w',Below w2.heap.size w2 w'->w'.cell? ⟨g,0,none⟩=some (.map (some m))):=qh (fun w' hb=>(h2.below hb).cell)
    have HCO:Hid (∀ w' w'',Below w2.heap.size w2 w'->Out (fun i=>i=m) w' w''->w''.cell? ⟨g,0,none⟩=some (.map (some m))):=qh (fun w' w'' hb ho=>ho.cell (h2.below hb).cell (h2.ne h2))
    have HK1:Hid (∀ w',Below w2.heap.size w2 w'->Calls Tryz.prog 46 #[.string ⟨x.toArray⟩] w' fun e w''=>e=.returned (.string ⟨x.toArray⟩)/\Below w2.heap.size w2 w''):=qh (fun w' hb=>(HC1.out w').mono fun e w'' q=>⟨q.1,hb.trans (q.2.mono hb.size)⟩)
    have HK2:Hid (∀ w',Below w2.heap.size w2 w'->Calls Tryz.prog 46 #[.string ⟨t.toArray⟩] w' fun e w''=>e=.returned (.string ⟨t.toArray⟩)/\Below w2.heap.size w2 w''):=qh (fun w' hb=>(HC2.out w').mono fun e w'' q=>⟨q.1,hb.trans (q.2.mono hb.size)⟩)
    have HPU:Hid (∀ w',Below w2.heap.size w2 w'->∃ w4,(Instr.mapUpdate 179 (.map (some m)) (.string ⟨x.toArray⟩) (.agg #[.string ⟨t.toArray⟩])).run Tryz.prog w'=.ok () w4/\(StoreAt w4 g m (Sto.put S x t)/\Out (fun i=>i=m) w w4)/\w4.cell? ⟨g,0,none⟩=some (.map (some m))):=qh (fun w' hb=>by
      obtain ⟨w4,hrun,hf,ho,_⟩:=(HFN.out w' hb).put Tryz.underlying179 (s:=x) (by have:=HX.out; show x.length<=_; omega) t
      exact ⟨w4,hrun,HH.out.putAt HB2.out hb HO.out hf ho (by have:=HX.out; omega) HTL.out,HCO.out _ _ hb ho⟩)
    have BD:Below w2.heap.size w2 w2.drew:=(Below.refl _ _).drew
    have cD:=HCE.out _ BD
    clear h1 ho hb1 hb2 h2 hw2 hlook hc hc2
    go_region_held3 (fun w'=>w'.cell? ⟨g,0,none⟩=some (.map (some m)))
      ((first | (refine HCE.out _ ?_; with_reducible assumption) | (with_reducible assumption)))
      (first | (go_at_call 46; refine (HK1.out _ ?_).mono ?_; (with_reducible assumption); rintro e wa ⟨rfl,ha⟩; obtain ⟨wa4,hra,hpa,hca⟩:=HPU.out _ ha) | (go_at_call 46; refine (HK2.out _ ?_).mono ?_; (with_reducible assumption); rintro e wb ⟨rfl,hb⟩; obtain ⟨wb4,hrb,hpb,hcb⟩:=HPU.out _ hb))
    all_goals
      go_wp2
      go_ret
      first | exact ⟨rfl,hpa⟩ | exact ⟨rfl,hpb⟩
def Sto.nodeOf (S:St) (x:List UInt8):Nd.N × Int:=match Sto.look S x with | some t=>Nd.dec t | none=>(Nd.zero,90)
theorem stnode_any (g m:Nat) (S:St) (x:List UInt8) (w:World) (h:StoreAt w g m S) (hx:x.length<=140737488351232):
    Calls Tryz.prog 163 #[.pointer (some ⟨g,0,none⟩),.string ⟨x.toArray⟩] w fun e w'=>e=.returned (.tuple #[ndval (Sto.nodeOf S x).1,.int .i64 (Sto.nodeOf S x).2])/\Below w.heap.size w w':=by
  have hb0:Below w.heap.size w (w.alloc (.cells #[.int .i64 0,.string ⟨#[]⟩,.string ⟨#[]⟩,.string ⟨#[]⟩,.string ⟨#[]⟩,.string ⟨#[]⟩,.string ⟨#[]⟩,.string ⟨#[]⟩,.string ⟨#[]⟩,.string ⟨#[]⟩,.string ⟨#[]⟩,.string ⟨#[]⟩,.string ⟨#[]⟩,.string ⟨#[]⟩,.string ⟨#[]⟩,.string ⟨#[]⟩,.string ⟨#[]⟩,.string ⟨#[]⟩,.string ⟨#[]⟩] 110)):=(Below.refl _ w).alloc (Nat.le_refl _) _
  have h0:=h.below hb0
  have hc:=h0.cell
  have hlook:=h0.lookE hx
  have hz0:(w.alloc (.cells #[.int .i64 0,.string ⟨#[]⟩,.string ⟨#[]⟩,.string ⟨#[]⟩,.string ⟨#[]⟩,.string ⟨#[]⟩,.string ⟨#[]⟩,.string ⟨#[]⟩,.string ⟨#[]⟩,.string ⟨#[]⟩,.string ⟨#[]⟩,.string ⟨#[]⟩,.string ⟨#[]⟩,.string ⟨#[]⟩,.string ⟨#[]⟩,.string ⟨#[]⟩,.string ⟨#[]⟩,.string ⟨#[]⟩,.string ⟨#[]⟩] 110)).heap[w.heap.size]?=some (.cells (ncl Nd.zero).toArray 110 (0,0)):=heap_new_at w _ _ rfl
  have HSH:Hid (∀ t,Sto.look S x=some t->t.length<=1000000):=qh (fun t ht=>by have:=(Sto.short_look h.rise h.short ht).2; omega)
  have HI19:Hid ((Tryz.prog.info? 110).map (·.size)=some 19):=qh (by kernel_rfl)
  have HBZ:Hid (Tryz.prog.built 110 []=some (ncl Nd.zero).toArray):=qh (by rfl)
  have HOZ:=qh (ncl_one Nd.zero)
  have HSZ:Hid ((ncl Nd.zero).toArray.size=19):=qh rfl
  unfold Sto.nodeOf
  obtain ⟨o,ho⟩:∃ o,Sto.look S x=o:=⟨_,rfl⟩
  rw [ho] at hlook HSH ⊢
  cases o with
  | none=>
    simp only [Option.getD_none,Option.isSome_none] at hlook
    unfold ndval
    have hB1:=qh (hb0.alloc (hb0.size) (.cells #[.string ⟨#[]⟩] 210))
    have hZ1:=qh (heap_old_at (.cells #[.string ⟨#[]⟩] 210) hz0)
    obtain ⟨Z,hZ⟩:∃ Z,(ncl Nd.zero).toArray=Z:=⟨_,rfl⟩
    rw [hZ] at HBZ HOZ HSZ hZ1 ⊢
    have HIZ:Hid ((Tryz.prog.info? 110).map (·.size)=some Z.size):=qh (by rw [HSZ.out]; exact HI19.out)
    clear hZ h h0 hx hb0 hz0 ho
    go_enter Tryz.func163,Tryz.ntmps163
    go_wp2_with (first | (refine wpList_build_some (by rfl) _ _ (by rfl) [] (by first | rfl | (simp [Act.eval]; done) | kernel_rfl) Z HBZ.out ?_) | (refine wpList_store_row (by rfl) _ _ _ (by rfl) w.heap.size Z (by rfl) (by rfl) _ _ hZ1.out HIZ.out rfl HOZ.out ?_))
    refine bodyPost_ret (nresults_c1t rfl _ _ w.heap.size _ _ _ _ rfl (setRow_heap _ _ _ _ _ _ hZ1.out) Tryz.underlying110 rfl HIZ.out) rfl ⟨rfl,below_setRow hB1.out (Nat.le_refl _) _⟩
  | some t=>
    simp only [Option.getD_some,Option.isSome_some] at hlook
    have HD:=qh (fun w=>ndecode_any t w (HSH.out t rfl))
    unfold NDecPost at HD
    have hk16:(Nd.dec t).1.kids.length=16:=by
      rcases Nd.dec_is t with ⟨_,_,h,_⟩ | ⟨_,h,_⟩
      · exact h
      · rw [h]; rfl
    dsimp only
    obtain ⟨⟨n,c⟩,hD⟩:∃ D,Nd.dec t=D:=⟨_,rfl⟩
    rw [hD] at HD hk16 ⊢
    dsimp only at HD hk16 ⊢
    have HON:=qh (ncl_one n)
    have HSN:Hid ((ncl n).toArray.size=19):=qh (by rw [List.size_toArray,ncl_length n hk16])
    unfold ndval at HD ⊢
    obtain ⟨A,hA⟩:∃ A,(ncl n).toArray=A:=⟨_,rfl⟩
    rw [hA] at HD HON HSN ⊢
    have HI:Hid ((Tryz.prog.info? 110).map (·.size)=some A.size):=qh (by rw [HSN.out]; exact HI19.out)
    have HB1:=qh (hb0.alloc (hb0.size) (.cells #[.string ⟨t.toArray⟩] 210))
    have HZ1:=qh (heap_old_at (.cells #[.string ⟨t.toArray⟩] 210) hz0)
    clear hA hD hk16 h h0 hx hb0 hz0 ho HSH
    go_enter Tryz.func163,Tryz.ntmps163
    go_wp2_with fail
    refine (HD.out _).mono ?_
    rintro e w1 ⟨rfl,hb1⟩
    have HZ2:=qh ((hb1.block _ (lt_of_heap HZ1.out)).trans HZ1.out)
    have HB2:=qh (HB1.out.trans (hb1.mono HB1.out.size))
    have HSE:Hid ((ncl Nd.zero).toArray.size=A.size):=qh (by rw [HSZ.out,HSN.out])
    clear hb1 HZ1
    obtain ⟨Z,hZ⟩:∃ Z,(ncl Nd.zero).toArray=Z:=⟨_,rfl⟩
    rw [hZ] at HZ2 HSE
    clear hZ HBZ HOZ HSZ
    go_wp2_with (refine wpList_store_row (by rfl) _ _ _ (by rfl) w.heap.size A (by rfl) (by rfl) _ _ HZ2.out HI.out HSE.out HON.out ?_)
    refine bodyPost_ret (nresults_c1t rfl _ _ w.heap.size _ _ _ _ rfl (setRow_heap _ _ _ _ _ _ HZ2.out) Tryz.underlying110 rfl HI.out) rfl ⟨rfl,below_setRow HB2.out (Nat.le_refl _) _⟩
end
section
open Sto (T St)
open Tri (Tr Ok hb)
open Nd (N)
def Tri.Tr.inS (S:St):Tr->Prop
  | .nil=>True
  | .leaf p v=>Sto.look S (Tr.sum Nd.sumS (.leaf p v))=some (Nd.written (Tr.node Nd.sumS (.leaf p v)))
  | .ext p t=>Sto.look S (Tr.sum Nd.sumS (.ext p t))=some (Nd.written (Tr.node Nd.sumS (.ext p t)))/\Tri.Tr.inS S t
  | .br v k=>Sto.look S (Tr.sum Nd.sumS (.br v k))=some (Nd.written (Tr.node Nd.sumS (.br v k)))/\∀ i,Tri.Tr.inS S (k i)
theorem inS_iff (S:St) {t:Tr} (h:¬ t.isNil):t.inS S↔Sto.look S (t.sum Nd.sumS)=some (Nd.written (t.node Nd.sumS))/\∀ i,(t.kid i).inS S:=by
  cases t with
  | nil=>exact absurd trivial h
  | leaf p v=>exact ⟨fun h=>⟨h,fun i=>trivial⟩,fun h=>h.1⟩
  | ext p t=>
    refine and_congr Iff.rfl ⟨fun h i=>?_,fun h=>by simpa [Tr.kid] using h 0⟩
    simp only [Tr.kid]; split
    · exact h
    · trivial
  | br v k=>exact Iff.rfl
theorem inS_one {S:St} {t u:Tr} (ht:Ok t) (hu:Ok u) (nt:¬ t.isNil) (nu:¬ u.isNil) (h:t.inS S) (h':u.inS S) (e:t.sum Nd.sumS=u.sum Nd.sumS):t=u:=by
  revert u
  revert ht nt h
  refine Tri.kid_ind (P:=fun t=>Ok t->¬ t.isNil->t.inS S->∀ {u:Tr},Ok u->¬ u.isNil->u.inS S->t.sum Nd.sumS=u.sum Nd.sumS->t=u) (fun _ n=>absurd trivial n) ?_ t
  intro t _ ih ht nt h u hu nu h' e
  obtain ⟨h1,h2⟩:=(inS_iff S nt).1 h
  obtain ⟨g1,g2⟩:=(inS_iff S nu).1 h'
  rw [e,g1] at h1
  have hn:=Nd.written_inj (Tri.node_kids Nd.sumS u) (Tri.node_kids Nd.sumS t) (hu.fine nu) (ht.fine nt) (Option.some.inj h1)
  rw [Tri.node_kid _ nt,Tri.node_kid _ nu] at hn
  simp only [N.mk.injEq] at hn
  obtain ⟨e1,e2,e3,e4⟩:=hn
  refine Tri.kid_ext (by omega) e2.symm e3.symm fun i=>?_
  have es:=(Tri.ofFn_inj e4 i).symm
  by_cases n1:(t.kid i).isNil
  · have n2:(u.kid i).isNil:=Classical.byContradiction fun n2=>by
      have:=(hu.kid i).sum_ne n2
      rw [← es,Tri.nil_of_isNil n1] at this
      exact this rfl
    rw [Tri.nil_of_isNil n1,Tri.nil_of_isNil n2]
  · have n2:¬ (u.kid i).isNil:=fun n2=>by
      have:=(ht.kid i).sum_ne n1
      rw [es,Tri.nil_of_isNil n2] at this
      exact this rfl
    exact ih i (ht.kid i) n1 (h2 i) (hu.kid i) n2 (g2 i) es
def OwnSums (S:St):Prop:=∀ x t,Sto.look S x=some t->Sto.sumOf t=x
theorem OwnSums.nil:OwnSums []:=fun x t h=>by cases h
theorem OwnSums.put {S:St} (h:OwnSums S) (hS:Sto.Rising S) (t:T):OwnSums (Sto.put S (Sto.sumOf t) t):=fun x y hl=>by
  obtain ⟨s,hs⟩:∃ s,Sto.sumOf t=s:=⟨_,rfl⟩
  rw [hs,Sto.look_put hS] at hl
  by_cases e:x=s
  · rw [if_pos e] at hl
    cases hk:Sto.look S s with
    | none=>
      rw [hk] at hl
      have e2:t=y:=Option.some.inj hl
      rw [← e2,e]; exact hs
    | some z=>
      rw [hk] at hl
      have e2:z=y:=Option.some.inj hl
      rw [← e2,e]; exact h _ _ hk
  · rw [if_neg e] at hl
    exact h _ _ hl
structure Loaded (S:St) (sum place:T) (inE:Bool) (t:Tr):Prop where
  nn:¬ t.isNil
  ok:Ok t
  sum:t.sum Nd.sumS=sum
  inn:t.inS S
  br:inE=true->t.isBr
  fit:∀ x∈t.items,1<=place.length+x.1.length/\place.length+x.1.length<=16/\(place.length+x.1.length) % 2=0
theorem nodeOf_at {S:St} {x t:T} (h:Sto.look S x=some t):Sto.nodeOf S x=Nd.dec t:=by
  unfold Sto.nodeOf
  rw [h]
theorem Loaded.node {S:St} {sum place:T} {inE:Bool} {t:Tr} (h:Loaded S sum place inE t):Sto.nodeOf S sum=(t.node Nd.sumS,0):=by
  rw [nodeOf_at (by rw [← h.sum]; exact ((inS_iff S h.nn).1 h.inn).1)]
  exact Nd.dec_written _ (Tri.node_kids _ _) (h.ok.fine h.nn)
theorem nodeOf_none {S:St} {x:T} (h:(Sto.nodeOf S x).2≠0) {place:T} {inE:Bool} {t:Tr} (hl:Loaded S x place inE t):False:=h (by rw [hl.node])
theorem nodeOf_some {S:St} (hS:OwnSums S) {x:T} (h:(Sto.nodeOf S x).2=0):Nd.fine (Sto.nodeOf S x).1=true/\(Sto.nodeOf S x).1.kids.length=16/\Sto.look S x=some (Nd.written (Sto.nodeOf S x).1)/\Nd.sumS (Sto.nodeOf S x).1=x:=by
  cases hl:Sto.look S x with
  | none=>unfold Sto.nodeOf at h; rw [hl] at h; cases h
  | some t=>
    rw [nodeOf_at hl] at h ⊢
    rcases Nd.dec_is t with ⟨_,h1,h2,h3⟩ | ⟨h1,_⟩
    · refine ⟨h1,h2,by rw [h3],?_⟩
      unfold Nd.sumS
      rw [if_pos h1,h3]
      have:=hS x t hl
      unfold Sto.sumOf at this
      exact this
    · rw [h1] at h; exact absurd h (by decide)
theorem item_of_kid {t:Tr} (i:Fin 16) {x:T × T} (h:x∈(t.kid i).items):(placeT t.kind t.pth i++x.1,x.2)∈t.items:=by
  cases t with
  | nil=>cases h
  | leaf p v=>cases h
  | ext p t=>
    simp only [Tr.kid] at h
    split at h
    · exact Tri.mem_behind.2 ⟨x.1,h,rfl⟩
    · cases h
  | br v k=>exact Tri.mem_br.2 (Or.inr ⟨i,x.1,rfl,h⟩)
theorem item_own {t:Tr} (h:t.vl≠[]):(t.pth,t.vl)∈t.items:=by
  cases t with
  | nil=>exact absurd rfl h
  | leaf p v=>exact List.mem_singleton.2 rfl
  | ext p t=>exact absurd rfl h
  | br v k=>exact Tri.mem_br.2 (Or.inl ⟨rfl,rfl,h⟩)
theorem item_path {t:Tr} {x:T × T} (h:x∈t.items):t.pth.length<=x.1.length:=by
  cases t with
  | nil=>cases h
  | leaf p v=>rw [List.mem_singleton.1 h]; exact Nat.le_refl _
  | ext p t=>
    obtain ⟨q,_,e⟩:=Tri.mem_behind.1 h
    rw [e]; simp [Tr.pth]
  | br v k=>simp [Tr.pth]
theorem placeT_cat (k:Nat) (p q:T) (i:Fin 16):placeT k (p++q) i=p++placeT k q i:=by
  unfold placeT; split <;> simp
theorem Loaded.short {S:St} {sum place:T} {inE:Bool} {t:Tr} (h:Loaded S sum place inE t):place.length+t.pth.length<=16:=by
  obtain ⟨a,l,e⟩:=List.exists_cons_of_ne_nil (fun e=>h.nn ((Tri.items_nil h.ok.canon).1 e))
  have hm:a∈t.items:=by rw [e]; exact List.mem_cons_self ..
  have:=item_path hm
  have:=(h.fit a hm).2.1
  omega
theorem isBr_kind {t:Tr}:t.isBr↔t.kind=3:=by cases t <;> simp [Tr.isBr,Tr.kind]
theorem Loaded.kid {S:St} {sum place:T} {inE:Bool} {t:Tr} (h:Loaded S sum place inE t) (i:Fin 16) (hn:¬ (t.kid i).isNil):Loaded S ((t.kid i).sum Nd.sumS) (placeT t.kind (place++t.pth) i) (decide (t.kind=2)) (t.kid i):=by
  refine ⟨hn,h.ok.kid i,rfl,((inS_iff S h.nn).1 h.inn).2 i,fun e=>?_,fun x hx=>?_⟩
  · have e:=of_decide_eq_true e
    cases t with
    | nil=>cases e
    | leaf p v=>cases e
    | br v k=>cases e
    | ext p t=>
      simp only [Tr.kid] at hn ⊢
      split
      · exact h.ok.canon.2.1
      · rename_i hh; rw [if_neg hh] at hn; exact absurd trivial hn
  · have:=h.fit _ (item_of_kid i hx)
    rw [placeT_cat]
    simpa [List.length_append,Nat.add_assoc] using this
def cntK (k:Fin 16->Tr) (j:Nat):Nat:=(((List.finRange 16).take j).map fun i=>(k i).items.length).sum
theorem cntK_zero (k:Fin 16->Tr):cntK k 0=0:=rfl
theorem cntK_step (k:Fin 16->Tr) (j:Nat) (hj:j<16):cntK k (j+1)=cntK k j+(k ⟨j,hj⟩).items.length:=by
  unfold cntK
  have h:j<(List.finRange 16).length:=by rw [List.length_finRange]; exact hj
  rw [List.take_succ_eq_append_getElem h,List.map_append,List.sum_append]
  simp
theorem cntK_same {k m:Fin 16->Tr} {j:Nat} (h:∀ i:Fin 16,i.val<j->k i=m i):cntK k j=cntK m j:=by
  unfold cntK
  congr 1
  refine List.map_congr_left fun i hi=>?_
  obtain ⟨n,hn,e⟩:=List.mem_take_iff_getElem.1 hi
  rw [List.getElem_finRange] at e
  have:i.val=n:=by rw [← e]; rfl
  rw [h i (by omega)]
theorem cntK_mono (k:Fin 16->Tr) {i j:Nat} (h:i<=j) (hj:j<=16):cntK k i<=cntK k j:=by
  induction j with
  | zero=>
    obtain rfl:i=0:=by omega
    exact Nat.le_refl _
  | succ j ih=>
    rcases Nat.lt_or_ge i (j+1) with h1 | h1
    · have:=ih (by omega) (by omega)
      rw [cntK_step k j (by omega)]; omega
    · obtain rfl:i=j+1:=by omega
      exact Nat.le_refl _
theorem cntK_nil {k:Fin 16->Tr} (h:∀ i,k i=.nil) (j:Nat):cntK k j=0:=by
  unfold cntK
  rw [List.sum_eq_zero_iff_forall_eq_nat]
  intro x hx
  obtain ⟨i,_,rfl⟩:=List.mem_map.1 hx
  rw [h i]; rfl
theorem cntK_flat (k:Fin 16->Tr):(List.flatMap (fun i=>Tri.behind [hb i] (k i).items) (List.finRange 16)).length=cntK k 16:=by
  unfold cntK
  rw [List.length_flatMap,List.take_of_length_le (by rw [List.length_finRange]; exact Nat.le_refl _)]
  congr 1
  refine List.map_congr_left fun i _=>?_
  simp [Tri.behind]
def ownN (v:T):Nat:=if v=[] then 0 else 1
theorem items_count {t:Tr} (h:Ok t) (hn:¬ t.isNil):t.items.length=ownN t.vl+cntK t.kid 16:=by
  cases t with
  | nil=>exact absurd trivial hn
  | leaf p v=>
    have hv:v≠[]:=h.canon
    rw [cntK_nil (k:=Tr.kid (.leaf p v)) (fun i=>rfl)]
    simp [Tr.items,ownN,Tr.vl,hv]
  | ext p t=>
    have e:cntK (Tr.kid (.ext p t)) 1=t.items.length:=by
      rw [cntK_step _ 0 (by omega),cntK_zero]
      simp [Tr.kid]
    have e2:∀ j,1<=j->j<=16->cntK (Tr.kid (.ext p t)) j=t.items.length:=by
      intro j
      induction j with
      | zero=>intro h; omega
      | succ j ih=>
        intro _ h2
        by_cases hj:j=0
        · subst hj; exact e
        · rw [cntK_step _ j (by omega),ih (by omega) (by omega)]
          have:(Tr.kid (.ext p t) ⟨j,by omega⟩)=.nil:=by
            simp only [Tr.kid]
            rw [if_neg (fun e=>hj (by simpa using congrArg Fin.val e))]
          rw [this]; rfl
    rw [e2 16 (by omega) (by omega)]
    simp [Tr.items,ownN,Tr.vl,Tri.behind]
  | br v k=>
    rw [Tr.items,List.length_append,cntK_flat]
    unfold Tri.own ownN Tr.vl Tr.kid
    split <;> simp
def mkT (n:N) (k:Fin 16->Tr):Tr:=if n.kind=1 then .leaf n.path n.val else if n.kind=2 then .ext n.path (k 0) else .br n.val k
def KidOf (S:St) (kind:Nat) (e x:T) (i:Fin 16) (u:Tr):Prop:=(x=[]/\u=.nil)∨(x≠[]/\Loaded S x (placeT kind e i) (decide (kind=2)) u)
theorem KidOf.sum {S:St} {kind:Nat} {e x:T} {i:Fin 16} {u:Tr} (h:KidOf S kind e x i u):u.sum Nd.sumS=x:=by
  rcases h with ⟨rfl,rfl⟩ | ⟨_,h⟩
  · rfl
  · exact h.sum
theorem KidOf.ok {S:St} {kind:Nat} {e x:T} {i:Fin 16} {u:Tr} (h:KidOf S kind e x i u):Ok u:=by
  rcases h with ⟨rfl,rfl⟩ | ⟨_,h⟩
  · exact ⟨trivial,trivial,trivial⟩
  · exact h.ok
theorem KidOf.inn {S:St} {kind:Nat} {e x:T} {i:Fin 16} {u:Tr} (h:KidOf S kind e x i u):u.inS S:=by
  rcases h with ⟨rfl,rfl⟩ | ⟨_,h⟩
  · trivial
  · exact h.inn
theorem KidOf.fit {S:St} {kind:Nat} {e x:T} {i:Fin 16} {u:Tr} (h:KidOf S kind e x i u):∀ y∈u.items,1<=(placeT kind e i).length+y.1.length/\(placeT kind e i).length+y.1.length<=16/\((placeT kind e i).length+y.1.length) % 2=0:=by
  rcases h with ⟨rfl,rfl⟩ | ⟨_,h⟩
  · intro y hy; cases hy
  · exact h.fit
theorem ofFn_of {L:List T} {f:Fin 16->T} (hL:L.length=16) (h:∀ i:Fin 16,f i=L[i.val]'(by omega)):List.ofFn f=L:=by
  refine List.ext_getElem (by simp [hL]) fun i h1 h2=>?_
  rw [List.getElem_ofFn]
  exact h ⟨i,by omega⟩
theorem kids_two {L:List T} (h:2<=(Nd.kidsL L).length):∃ i j,∃ hi:i<L.length,∃ hj:j<L.length,i<j/\L[i]≠[]/\L[j]≠[]:=by
  induction L with
  | nil=>simp [Nd.kidsL] at h
  | cons a L ih=>
    rw [Nd.kidsL_cons] at h
    split at h
    · obtain ⟨i,j,hi,hj,h1,h2,h3⟩:=ih h
      exact ⟨i+1,j+1,by simpa using hi,by simpa using hj,by omega,by simpa using h2,by simpa using h3⟩
    · rename_i ha
      simp only [List.length_cons] at h
      have:Nd.kidsL L≠[]:=fun e=>by rw [e] at h; simp at h
      obtain ⟨x,hx⟩:=List.exists_mem_of_ne_nil _ this
      unfold Nd.kidsL at hx
      obtain ⟨hm,hx2⟩:=List.mem_filter.1 hx
      obtain ⟨j,hj,rfl⟩:=List.mem_iff_getElem.1 hm
      exact ⟨0,j+1,by simp,by simpa using hj,by omega,by simpa using ha,by simpa using hx2⟩
theorem kids_one {L:List T} (h:1<=(Nd.kidsL L).length):∃ i,∃ hi:i<L.length,L[i]≠[]:=by
  have:Nd.kidsL L≠[]:=fun e=>by rw [e] at h; simp at h
  obtain ⟨x,hx⟩:=List.exists_mem_of_ne_nil _ this
  unfold Nd.kidsL at hx
  obtain ⟨hm,hx2⟩:=List.mem_filter.1 hx
  obtain ⟨j,hj,rfl⟩:=List.mem_iff_getElem.1 hm
  exact ⟨j,hj,by simpa using hx2⟩
theorem none_at {L:List T} (h:(L == Nd.none16)=true) (i:Nat) (hi:i<L.length):L[i]=[]:=by
  have e:=beq_iff_eq.1 h
  subst e
  exact List.getElem_replicate ..
theorem ext_at {L:List T} (h:(L.set 0 [] == Nd.none16)=true) (i:Nat) (hi:i<L.length) (h0:i≠0):L[i]=[]:=by
  have e:=beq_iff_eq.1 h
  have:=List.getElem_of_eq e (i:=i) (by simpa using hi)
  rw [List.getElem_set_ne (fun e=>h0 e.symm)] at this
  rw [this]; exact List.getElem_replicate ..
structure MkIs (n:N) (k:Fin 16->Tr):Prop where
  kind:((mkT n k).kind:Int)=n.kind
  pth:(mkT n k).pth=n.path
  vl:(mkT n k).vl=n.val
  kid:∀ i,(mkT n k).kid i=k i
  nn:¬ (mkT n k).isNil
theorem mkT_is {S:St} {e:T} {kind:Nat} {n:N} {k:Fin 16->Tr} (hn:n.kids.length=16) (hf:Nd.fine n=true) (hk:∀ i:Fin 16,KidOf S kind e (n.kids[i.val]'(by omega)) i (k i)):MkIs n k:=by
  rw [Nd.fine_kinds n hn] at hf
  by_cases k1:n.kind=1
  · rw [if_pos k1] at hf
    simp only [Nd.leafB,Bool.and_eq_true,decide_eq_true_eq] at hf
    have hnil:∀ i,k i=.nil:=fun i=>by
      rcases hk i with ⟨_,h⟩ | ⟨h,_⟩
      · exact h
      · exact absurd (none_at hf.2.2.2 _ _) h
    refine ⟨?_,?_,?_,?_,?_⟩ <;> simp only [mkT,if_pos k1]
    · exact k1.symm
    · rfl
    · rfl
    · intro i; rw [hnil i]; rfl
    · exact id
  · rw [if_neg k1] at hf
    by_cases k2:n.kind=2
    · rw [if_pos k2] at hf
      simp only [Nd.extB,Bool.and_eq_true,decide_eq_true_eq] at hf
      refine ⟨?_,?_,?_,?_,?_⟩ <;> simp only [mkT,if_neg k1,if_pos k2]
      · exact k2.symm
      · rfl
      · exact hf.2.2.1.symm
      · intro i
        simp only [Tr.kid]
        split
        · rename_i h; rw [h]
        · rename_i h
          rcases hk i with ⟨_,h2⟩ | ⟨h2,_⟩
          · exact h2.symm
          · exact absurd (ext_at hf.2.2.2.2 _ _ (fun e=>h (Fin.ext e))) h2
      · exact id
    · rw [if_neg k2] at hf
      by_cases k3:n.kind=3
      · rw [if_pos k3] at hf
        simp only [Nd.branchB,Bool.and_eq_true,decide_eq_true_eq] at hf
        refine ⟨?_,?_,?_,?_,?_⟩ <;> simp only [mkT,if_neg k1,if_neg k2]
        · exact k3.symm
        · exact hf.1.symm
        · rfl
        · intro i; rfl
        · exact id
      · rw [if_neg k3] at hf; cases hf
theorem MkIs.node {n:N} {k:Fin 16->Tr} (h:MkIs n k) (hn:n.kids.length=16) (hs:∀ i:Fin 16,(k i).sum Nd.sumS=n.kids[i.val]'(by omega)):(mkT n k).node Nd.sumS=n:=by
  rw [Tri.node_kid _ h.nn,h.kind,h.pth,h.vl]
  obtain ⟨a,b,c,L⟩:=n
  congr 1
  refine ofFn_of hn fun i=>?_
  rw [h.kid]; exact hs i
theorem mkT_canon {S:St} {e:T} {kind:Nat} {n:N} {k:Fin 16->Tr} (hn:n.kids.length=16) (hf:Nd.fine n=true) (hki:(kind:Int)=n.kind) (hk:∀ i:Fin 16,KidOf S kind e (n.kids[i.val]'(by omega)) i (k i)):Ok (mkT n k):=by
  have hnl:∀ i:Fin 16,n.kids[i.val]'(by omega)≠[]->¬ (k i).isNil:=fun i h=>by
    rcases hk i with ⟨h2,_⟩ | ⟨_,h2⟩
    · exact absurd h2 h
    · exact h2.nn
  have hf2:=hf
  rw [Nd.fine_kinds n hn] at hf
  unfold mkT
  by_cases k1:n.kind=1
  · rw [if_pos k1] at hf ⊢
    simp only [Nd.leafB,Nd.pathB,Bool.and_eq_true,decide_eq_true_eq] at hf
    exact ⟨hf.2.1,hf.1.2,hf.1.1,hf.2.2.1⟩
  · rw [if_neg k1] at hf ⊢
    by_cases k2:n.kind=2
    · rw [if_pos k2] at hf ⊢
      simp only [Nd.extB,Nd.pathB,Bool.and_eq_true,decide_eq_true_eq] at hf
      have h0:n.kids[(0:Fin 16).val]'(by rw [hn]; decide)≠[]:=fun e=>by
        have h5:=hf.2.2.2.1
        have e2:n.kids.getD 0 []=n.kids[0]'(by omega):=by simp [hn]
        rw [e2,show n.kids[0]'(by omega)=[] from e] at h5
        cases h5
      have hb0:(k 0).isBr:=by
        rcases hk 0 with ⟨h2,_⟩ | ⟨_,h2⟩
        · exact absurd h2 h0
        · exact h2.br (decide_eq_true (by omega))
      have h3:=(hk 0).ok
      exact ⟨⟨hf.1,hb0,h3.canon⟩,⟨hf.2.1.2,h3.fits⟩,⟨hf.2.1.1,h3.small⟩⟩
    · rw [if_neg k2] at hf ⊢
      by_cases k3:n.kind=3
      · rw [if_pos k3] at hf
        simp only [Nd.branchB,Bool.and_eq_true,decide_eq_true_eq] at hf
        obtain ⟨_,hv,_,h2⟩:=hf
        refine ⟨⟨fun i=>(hk i).ok.canon,?_⟩,fun i=>(hk i).ok.fits,⟨hv,fun i=>(hk i).ok.small⟩⟩
        by_cases hve:n.val=[]
        · rw [if_pos hve] at h2
          obtain ⟨i,j,hi,hj,hij,a,b⟩:=kids_two (L:=n.kids) (by omega)
          exact Or.inl ⟨⟨i,by omega⟩,⟨j,by omega⟩,hij,hnl ⟨i,by omega⟩ a,hnl ⟨j,by omega⟩ b⟩
        · rw [if_neg hve] at h2
          obtain ⟨i,hi,a⟩:=kids_one (L:=n.kids) (by omega)
          exact Or.inr ⟨hve,⟨i,by omega⟩,hnl ⟨i,by omega⟩ a⟩
      · rw [if_neg k3] at hf; cases hf
theorem item_from {t:Tr} {x:T × T} (h:x∈t.items):(x.1=t.pth/\x.2=t.vl/\(t.vl≠[]∨t.kind=1))∨∃ i y,y∈(t.kid i).items/\x.1=placeT t.kind t.pth i++y.1:=by
  cases t with
  | nil=>cases h
  | leaf p v=>rw [List.mem_singleton.1 h]; exact Or.inl ⟨rfl,rfl,Or.inr rfl⟩
  | ext p t=>
    obtain ⟨q,hq,e⟩:=Tri.mem_behind.1 h
    exact Or.inr ⟨0,(q,x.2),by simpa [Tr.kid] using hq,e⟩
  | br v k=>
    rcases Tri.mem_br.1 h with ⟨h1,h2,h3⟩ | ⟨i,q,h1,h2⟩
    · exact Or.inl ⟨h1,h2,Or.inl h3⟩
    · exact Or.inr ⟨i,(q,x.2),h2,h1⟩
theorem mkT_loaded {S:St} {sum place:T} {inE:Bool} {n:N} {k:Fin 16->Tr} {kind:Nat} (hn:n.kids.length=16) (hf:Nd.fine n=true) (hki:(kind:Int)=n.kind) (hl:Sto.look S sum=some (Nd.written n)) (hs:Nd.sumS n=sum)
    (hk:∀ i:Fin 16,KidOf S kind (place++n.path) (n.kids[i.val]'(by omega)) i (k i)) (hp:place.length+n.path.length<=16) (hE:inE=true->n.kind=3) (hv:n.val≠[]->1<=place.length+n.path.length/\(place.length+n.path.length) % 2=0):Loaded S sum place inE (mkT n k):=by
  have hi:=mkT_is hn hf hk
  have ho:=mkT_canon hn hf hki hk
  have hnd:=hi.node hn (fun i=>(hk i).sum)
  have hsum:(mkT n k).sum Nd.sumS=sum:=by rw [Tri.sum_node _ hi.nn,hnd,hs]
  refine ⟨hi.nn,ho,hsum,(inS_iff S hi.nn).2 ⟨by rw [hsum,hnd,hl],fun i=>by rw [hi.kid]; exact (hk i).inn⟩,fun e=>isBr_kind.2 (by have:=hE e; have:=hi.kind; omega),fun x hx=>?_⟩
  have hkk:(mkT n k).kind=kind:=by have:=hi.kind; omega
  rcases item_from hx with ⟨e1,e2,e3⟩ | ⟨i,y,hy,e1⟩
  · rw [hi.pth] at e1
    have hne:n.val≠[]:=by
      rcases e3 with e3 | e3
      · rwa [hi.vl] at e3
      · have:=hi.vl
        have hc:=ho.canon
        cases hm:mkT n k with
        | leaf p v=>rw [hm] at hc this; rw [← this]; exact hc
        | nil=>rw [hm] at e3; cases e3
        | ext _ _=>rw [hm] at e3; cases e3
        | br _ _=>rw [hm] at e3; cases e3
    rw [e1]
    exact ⟨(hv hne).1,hp,(hv hne).2⟩
  · rw [hi.kid] at hy
    have:=(hk i).fit y hy
    rw [hkk,hi.pth] at e1
    rw [placeT_cat] at this
    rw [e1]
    simpa [List.length_append,Nat.add_assoc] using this
theorem Loaded.kidOf {S:St} {sum place:T} {inE:Bool} {t:Tr} {n:N} {kind:Nat} (h:Loaded S sum place inE t) (hd:Sto.nodeOf S sum=(n,0)) (hki:(kind:Int)=n.kind) (hn:n.kids.length=16) (i:Fin 16):KidOf S kind (place++n.path) (n.kids[i.val]'(by omega)) i (t.kid i):=by
  have e:=h.node
  rw [hd] at e
  obtain rfl:=(Prod.mk.inj e).1
  have hk:(kind:Int)=(t.node Nd.sumS).kind:=hki
  have e2:=Tri.node_kid Nd.sumS h.nn
  have ek:(t.node Nd.sumS).kids[i.val]'(by rw [hn]; exact i.isLt)=(t.kid i).sum Nd.sumS:=by
    have:(t.node Nd.sumS).kids=List.ofFn fun i=>(t.kid i).sum Nd.sumS:=by rw [e2]
    rw [List.getElem_of_eq this,List.getElem_ofFn]
  have ep:(t.node Nd.sumS).path=t.pth:=by rw [e2]
  have ekk:kind=t.kind:=by rw [e2] at hk; exact Int.ofNat_inj.1 hk
  rw [ek,ep,ekk]
  by_cases hnl:(t.kid i).isNil
  · rw [Tri.nil_of_isNil hnl]; exact Or.inl ⟨rfl,rfl⟩
  · exact Or.inr ⟨(h.ok.kid i).sum_ne hnl,h.kid i hnl⟩
theorem KidOf.one {S:St} {kind:Nat} {e x:T} {i:Fin 16} {t u:Tr} (h:KidOf S kind e x i t) (h':KidOf S kind e x i u):t=u:=by
  rcases h with ⟨e1,rfl⟩ | ⟨e1,h⟩ <;> rcases h' with ⟨e2,rfl⟩ | ⟨e2,h'⟩
  · rfl
  · exact absurd e1 e2
  · exact absurd e2 e1
  · exact inS_one h.ok h'.ok h.nn h'.nn h.inn h'.inn (h.sum.trans h'.sum.symm)
end
section
open Go.RowKit
open Sto (T)
open Tri (Tr Ok upd ix hb lay splitT)
theorem pcl_val (k:Nat) (p x x':T) (K:Ks) (s:T):(pcl k p x K s).toArray.setIfInBounds 2 (.string ⟨x'.toArray⟩)=(pcl k p x' K s).toArray:=by
  rw [List.setIfInBounds_toArray]; rfl
theorem RowP.setVal {w:World} {g k:Nat} {p x s:T} {K:Ks} (h:RowP w g k p x K s) (x':T):RowP (w.setCell ⟨g,2,none⟩ (.string ⟨x'.toArray⟩)) g k p x' K s:=by
  have:=heap_setCell_same _ _ 2 _ _ (.string ⟨x'.toArray⟩) h
  rw [pcl_val] at this
  exact this
def updK (K:Ks) (i:Fin 16) (v:Value):Ks:=fun j=>if j=i then v else K j
theorem ofFn_set (K:Ks) (i:Fin 16) (v:Value):(List.ofFn K).set i.val v=List.ofFn (updK K i v):=by
  refine List.ext_getElem (by simp) fun n h1 h2=>?_
  rw [List.getElem_set,List.getElem_ofFn,List.getElem_ofFn]
  unfold updK
  by_cases e:i.val=n
  · rw [if_pos e,if_pos (Fin.ext e.symm)]
  · rw [if_neg e,if_neg (fun h=>e (by rw [← h]))]
theorem pcl_kid (k:Nat) (p x:T) (K:Ks) (s:T) (i:Fin 16) (v:Value):(pcl k p x K s).toArray.setIfInBounds (3+i.val) v=(pcl k p x (updK K i v) s).toArray:=by
  have hi:=i.isLt
  rw [List.setIfInBounds_toArray]
  congr 1
  unfold pcl
  rw [Nat.add_comm 3 i.val]
  simp only [List.set_cons_succ]
  rw [List.set_append_left _ _ (by simp),ofFn_set]
theorem RowP.setKid {w:World} {g k:Nat} {p x s:T} {K:Ks} (h:RowP w g k p x K s) (i:Fin 16) (v:Value):RowP (w.setCell ⟨g,3+i.val,none⟩ v) g k p x (updK K i v) s:=by
  have:=heap_setCell_same _ _ (3+i.val) _ _ v h
  rw [pcl_kid] at this
  exact this
theorem ix_val {a:UInt8} (h:a.toNat<=15):(ix a).val=a.toNat:=by simp only [ix]; omega
theorem byte_drop {p r:T} {n:Nat} {a:UInt8} (h:p.drop n=a::r):∀ hh,(⟨p.toArray⟩:ByteArray)[n]'hh=a:=by
  intro hh
  have hl:n<p.length:=by
    have:=congrArg List.length h
    simp at this; omega
  show p.toArray[n]'_=a
  rw [List.getElem_toArray]
  have:=List.drop_eq_getElem_cons hl
  rw [h] at this
  exact (List.cons.inj this).1.symm
theorem tail_drop {p r:T} {n:Nat} {a:UInt8} (h:p.drop n=a::r):(⟨p.toArray⟩:ByteArray).extract (n+1) p.length=⟨r.toArray⟩:=by
  rw [ext_drop]
  have:p.drop (n+1)=r:=by
    rw [← List.drop_drop,h]; rfl
  rw [this]
theorem split_any {t:Tr} {g:Nat} (n:Nat) (w:World) (F:Fm) (hB:F.fresh w) (h:PAt w F false t (ptr g)) (hk:t.kind=1∨t.kind=2) (hf:t.firm) (hfit:t.fits) (hpl:t.pth.length<=1000) (hn:n<=t.pth.length) (hne:t.kind=2->n<t.pth.length):
    Calls Tryz.prog 139 #[ptr g,.int .i64 n] w (MadeT w F (splitT n t)):=by
  unfold MadeT
  have hnn:¬ t.isNil:=fun e=>by rw [← Tri.kind_nil] at e; omega
  obtain ⟨g',s',K,e,-,-,hr,hkk⟩:=h.row hnn
  obtain rfl:=ptr_inj e
  have hb0:Below w.heap.size w (w.alloc (.cells (pcl 3 [] [] noK []).toArray 87)):=(Below.refl _ w).alloc (Nat.le_refl _) _
  have r1:RowP (w.alloc (.cells (pcl 3 [] [] noK []).toArray 87)) w.heap.size 3 [] [] noK []:=RowP.new rfl
  have hr1:=hr.below hb0
  have n0:=hr1.kind
  have n1:=hr1.path
  have n2:=hr1.val
  have m2:=r1.val
  have f2:=r1.free 2
  have HP:=qh h
  have HKK:=qh hkk
  have HR:=qh hr
  have HR1:=qh r1
  have HB0:=qh hb0
  obtain ⟨C,hC⟩:∃ C,(pcl 3 [] [] noK []).toArray=C:=⟨_,rfl⟩
  have HBL:Hid (Tryz.prog.built 87 [(0,.int .i64 3)]=some C):=qh (by rw [← hC]; kernel_rfl)
  rw [hC] at n0 n1 n2 m2 f2 HB0 HR1
  obtain ⟨p,hp⟩:∃ p,t.pth=p:=⟨_,rfl⟩
  obtain ⟨x,hx⟩:∃ x,t.vl=x:=⟨_,rfl⟩
  rw [hp] at n1 hpl hn hne
  rw [hx] at n2
  have HPP:=qh hp
  have HX:=qh hx
  by_cases hlt:n<p.length
  · obtain ⟨a,r,hd⟩:∃ a r,p.drop n=a::r:=⟨_,_,List.drop_eq_getElem_cons hlt⟩
    have hfp:Nib.fitL p=true:=by
      rcases hk with h1 | h1
      · cases t with
        | leaf q y=>obtain rfl:q=p:=hp; exact hfit
        | _=>cases h1
      · cases t with
        | ext q y=>obtain rfl:q=p:=hp; exact hfit.1
        | _=>cases h1
    have ha:=(Tri.fit_cons.1 (hd ▸ Tri.fit_drop n hfp)).1
    have hbyte:=byte_drop hd
    have htail:=tail_drop hd
    have e2:((n:Int) == (p.length:Int))=false:=by rw [beq_eq_false_iff_ne]; omega
    have z1:(0:Int)<=(n:Int):=by omega
    have z2:(n:Int)<(p.length:Int):=by omega
    have z3:(0:Int)<=(n:Int)+1:=by omega
    have z4:(n:Int)+1<=(p.length:Int):=by omega
    have z5:((n:Int)+1).toNat=n+1:=by omega
    have z8:IntKind.i64.wrap ((n:Int)+1)=(n:Int)+1:=IntWalk.i64_in _ (by omega)
    have z6:(0:Int)<=(a.toNat:Int):=by omega
    have z7:(a.toNat:Int)<16:=by omega
    have HIX:=qh (ix_val ha)
    have hrl:r.length<=1000:=by have:=congrArg List.length hd; simp at this; omega
    rcases hk with h1 | h1
    · rw [h1] at n0
      have HS:Hid (splitT n t=.br [] (upd Tri.bare (ix a) (.leaf r x))):=qh (by
        cases t with
        | leaf q y=>
          obtain rfl:q=p:=hp
          obtain rfl:y=x:=hx
          exact Tri.split_leaf1 hd
        | _=>cases h1)
      have HLF:Hid (∀ w',Below w.heap.size w w'->w.heap.size<w'.heap.size->Calls Tryz.prog 136 #[.string ⟨r.toArray⟩,.string ⟨x.toArray⟩] w' fun e w''=>∃ v,e=.returned v/\PAt w'' (F.off w.heap.size) false (.leaf r x) v/\Below w'.heap.size w' w''):=qh (fun w' hb hs=>(leaf_any r x w' _ ((hB.size hb.size).off hs)))
      unfold ptr
      clear h hr hkk hf hfit hp hx hne hn hlt hr1 r1 hb0 h1 hC hpl hfp ha hd m2 f2
      go_enter Tryz.func139,Tryz.ntmps139
      go_wp2_with (refine wpList_build_some (by rfl) _ _ (by rfl) [(0,.int .i64 3)] (by first | rfl | (simp [Act.eval]; done) | kernel_rfl) C HBL.out ?_)
      obtain ⟨q,hq⟩:∃ q,w.heap.size=q:=⟨_,rfl⟩
      have HQ:=qh hq
      obtain ⟨w0,hw0⟩:∃ w0,w.alloc (.cells C 87)=w0:=⟨_,rfl⟩
      rw [hw0] at HR1 HB0 n0 n1 n2 ⊢
      rw [hq] at HR1 ⊢
      have HSZ:Hid (w.heap.size<w0.heap.size):=qh (by rw [← hw0]; simp)
      have HN1:Hid (∀ w',Below w0.heap.size w0 w'->w'.cell? ⟨g,1,none⟩=some (.string ⟨p.toArray⟩)/\w'.cell? ⟨g,2,none⟩=some (.string ⟨x.toArray⟩)/\w'.cell? ⟨q,3+a.toNat,none⟩=some (.pointer none)/\w'.frozen? ⟨q,3+a.toNat,none⟩=false):=qh (fun w' hb=>by
        have k1:=(HR.out.below HB0.out).below hb
        have k2:=HR1.out.below hb
        refine ⟨by rw [k1.path,HPP.out],by rw [k1.val,HX.out],?_,k2.free _⟩
        have:=k2.kid (ix a)
        rw [HIX.out] at this
        exact this)
      have HGQ:Hid (g<q):=qh (by rw [← hq]; exact lt_of_heap HR.out)
      have HK1:Hid (∀ w' v,Below w0.heap.size w0 w'->(w'.setCell ⟨q,3+a.toNat,none⟩ v).cell? ⟨g,1,none⟩=some (.string ⟨p.toArray⟩)/\(w'.setCell ⟨q,3+a.toNat,none⟩ v).cell? ⟨g,2,none⟩=some (.string ⟨x.toArray⟩)):=qh (fun w' v hb=>⟨keep_cell (HN1.out w' hb).1 (Nat.ne_of_lt HGQ.out),keep_cell (HN1.out w' hb).2.1 (Nat.ne_of_lt HGQ.out)⟩)
      have BD:Below w0.heap.size w0 w0.drew:=(Below.refl _ _).drew
      have HLF2:Hid (∀ w',Below w0.heap.size w0 w'->Calls Tryz.prog 136 #[.string ⟨r.toArray⟩,.string ⟨x.toArray⟩] w' fun e w''=>∃ g6,e=.returned (.pointer (some ⟨g6,0,none⟩))/\PAt w'' (F.off q) false (.leaf r x) (ptr g6)/\Below w0.heap.size w0 w''):=qh (fun w' hb=>(HLF.out w' (HB0.out.trans (hb.mono (Nat.le_of_lt HSZ.out))) (Nat.lt_of_lt_of_le HSZ.out hb.size)).mono fun e w'' ⟨v,e1,hp,hb2⟩=>by
        obtain ⟨g6,_,_,rfl,_⟩:=hp.row id
        exact ⟨g6,e1,by rw [← hq]; exact hp,hb.trans (hb2.mono hb.size)⟩)
      obtain ⟨c1,c2,c3,c4⟩:=HN1.out _ BD
      clear hq hw0 n0 n1 n2 HLF
      go_region_held3 (fun w'=>w'.cell? ⟨g,1,none⟩=some (.string ⟨p.toArray⟩)/\w'.cell? ⟨g,2,none⟩=some (.string ⟨x.toArray⟩))
        ((first | (with_reducible exact ⟨c1,c2⟩) | (with_reducible exact ⟨d1,d2⟩) | (refine HK1.out _ _ ?_; with_reducible assumption)))
        ((go_at_call 136; refine (HLF2.out _ ?_).mono ?_; (with_reducible assumption); rintro e w6 ⟨g6,rfl,hp6,hb6⟩; obtain ⟨d1,d2,d3,d4⟩:=HN1.out _ hb6))
      all_goals
        go_wp2
        go_ret
        rw [HS.out]
        have hbq:Below w.heap.size w w6:=HB0.out.trans (hb6.mono (Nat.le_of_lt HSZ.out))
        refine ⟨_,rfl,PAt.new (K:=updK noK (ix a) (ptr g6)) id (hB _ (Nat.le_of_eq HQ.out)) ?_ (fun i=>?_),hbq.setCell (p:=⟨q,_,none⟩) (Nat.le_of_eq HQ.out) _⟩
        · have:=(HR1.out.below hb6).setKid (ix a) (ptr g6)
          rw [HIX.out] at this
          exact this
        · simp only [Tri.Tr.kid,updK,Tri.upd]
          split
          · exact hp6.off _ _
          · rfl
    · rw [h1] at n0
      obtain ⟨u,hu⟩:∃ u,t.kid 0=u:=⟨_,rfl⟩
      have hub:u.isBr:=by
        rw [← hu]
        cases t with
        | ext q y=>exact hf.2.1
        | _=>cases h1
      have hun:¬ u.isNil:=by cases u <;> simp_all [Tri.Tr.isBr,Tri.Tr.isNil]
      have hup:u.pth.length<=1000:=by cases u <;> simp_all [Tri.Tr.isBr,Tri.Tr.pth]
      have HUN:=qh (Tri.lay_nn (p:=r) hun)
      have HS:Hid (splitT n t=.br [] (upd Tri.bare (ix a) (lay r u))):=qh (by
        cases t with
        | ext q y=>
          obtain rfl:q=p:=hp
          obtain rfl:y=u:=hu
          exact Tri.split_ext1 hd
        | _=>cases h1)
      obtain ⟨vk,hvk⟩:∃ v,K 0=v:=⟨_,rfl⟩
      have hku:PAt w (F.off w.heap.size) false u vk:=by
        rw [← hu,← hvk]
        exact (hkk 0).weak.new_off (Nat.le_refl _)
      have HVK:=qh hvk
      have HLF:Hid (∀ w',Below w.heap.size w w'->w.heap.size<w'.heap.size->Calls Tryz.prog 140 #[vk,.string ⟨r.toArray⟩] w' fun e w''=>∃ v,e=.returned v/\PAt w'' (F.off w.heap.size) false (lay r u) v/\Below w'.heap.size w' w''):=qh (fun w' hb hs=>(behind_any r w' _ ((hB.size hb.size).off hs) (hku.below hb) (Or.inr hun) hrl hup))
      unfold ptr
      clear hu hub hun hup hvk hku h hr hkk hf hfit hp hx hne hn hlt hr1 r1 hb0 h1 hC hpl hfp ha hd m2 f2
      go_enter Tryz.func139,Tryz.ntmps139
      go_wp2_with (refine wpList_build_some (by rfl) _ _ (by rfl) [(0,.int .i64 3)] (by first | rfl | (simp [Act.eval]; done) | kernel_rfl) C HBL.out ?_)
      obtain ⟨q,hq⟩:∃ q,w.heap.size=q:=⟨_,rfl⟩
      have HQ:=qh hq
      obtain ⟨w0,hw0⟩:∃ w0,w.alloc (.cells C 87)=w0:=⟨_,rfl⟩
      rw [hw0] at HR1 HB0 n0 n1 n2 ⊢
      rw [hq] at HR1 ⊢
      have HSZ:Hid (w.heap.size<w0.heap.size):=qh (by rw [← hw0]; simp)
      have HN1:Hid (∀ w',Below w0.heap.size w0 w'->w'.cell? ⟨g,1,none⟩=some (.string ⟨p.toArray⟩)/\w'.cell? ⟨g,3,none⟩=some vk/\w'.cell? ⟨q,3+a.toNat,none⟩=some (.pointer none)/\w'.frozen? ⟨q,3+a.toNat,none⟩=false):=qh (fun w' hb=>by
        have k1:=(HR.out.below HB0.out).below hb
        have k2:=HR1.out.below hb
        refine ⟨by rw [k1.path,HPP.out],by rw [← HVK.out]; exact k1.kid 0,?_,k2.free _⟩
        have:=k2.kid (ix a)
        rw [HIX.out] at this
        exact this)
      have HGQ:Hid (g<q):=qh (by rw [← hq]; exact lt_of_heap HR.out)
      have HK1:Hid (∀ w' v,Below w0.heap.size w0 w'->(w'.setCell ⟨q,3+a.toNat,none⟩ v).cell? ⟨g,1,none⟩=some (.string ⟨p.toArray⟩)/\(w'.setCell ⟨q,3+a.toNat,none⟩ v).cell? ⟨g,3,none⟩=some vk):=qh (fun w' v hb=>⟨keep_cell (HN1.out w' hb).1 (Nat.ne_of_lt HGQ.out),keep_cell (HN1.out w' hb).2.1 (Nat.ne_of_lt HGQ.out)⟩)
      have BD:Below w0.heap.size w0 w0.drew:=(Below.refl _ _).drew
      have HLF2:Hid (∀ w',Below w0.heap.size w0 w'->Calls Tryz.prog 140 #[vk,.string ⟨r.toArray⟩] w' fun e w''=>∃ g6,e=.returned (.pointer (some ⟨g6,0,none⟩))/\PAt w'' (F.off q) false (lay r u) (ptr g6)/\Below w0.heap.size w0 w''):=qh (fun w' hb=>(HLF.out w' (HB0.out.trans (hb.mono (Nat.le_of_lt HSZ.out))) (Nat.lt_of_lt_of_le HSZ.out hb.size)).mono fun e w'' ⟨v,e1,hp,hb2⟩=>by
        obtain ⟨g6,_,_,rfl,_⟩:=hp.row HUN.out
        exact ⟨g6,e1,by rw [← hq]; exact hp,hb.trans (hb2.mono hb.size)⟩)
      obtain ⟨c1,c2,c3,c4⟩:=HN1.out _ BD
      clear hq hw0 n0 n1 n2 HLF
      go_region_held3 (fun w'=>w'.cell? ⟨g,1,none⟩=some (.string ⟨p.toArray⟩)/\w'.cell? ⟨g,3,none⟩=some vk)
        ((first | (with_reducible exact ⟨c1,c2⟩) | (with_reducible exact ⟨d1,d2⟩) | (refine HK1.out _ _ ?_; with_reducible assumption)))
        ((go_at_call 140; refine (HLF2.out _ ?_).mono ?_; (with_reducible assumption); rintro e w6 ⟨g6,rfl,hp6,hb6⟩; obtain ⟨d1,d2,d3,d4⟩:=HN1.out _ hb6))
      all_goals
        go_wp2
        go_ret
        rw [HS.out]
        have hbq:Below w.heap.size w w6:=HB0.out.trans (hb6.mono (Nat.le_of_lt HSZ.out))
        refine ⟨_,rfl,PAt.new (K:=updK noK (ix a) (ptr g6)) id (hB _ (Nat.le_of_eq HQ.out)) ?_ (fun i=>?_),hbq.setCell (p:=⟨q,_,none⟩) (Nat.le_of_eq HQ.out) _⟩
        · have:=(HR1.out.below hb6).setKid (ix a) (ptr g6)
          rw [HIX.out] at this
          exact this
        · simp only [Tri.Tr.kid,updK,Tri.upd]
          split
          · exact hp6.off _ _
          · rfl
  · obtain rfl:n=p.length:=by omega
    have h1:t.kind=1:=by rcases hk with h | h; exact h; exact absurd (hne h) hlt
    have e2:((p.length:Int) == (p.length:Int))=true:=beq_self_eq_true _
    have HS:Hid (splitT p.length t=.br x Tri.bare):=qh (by
      cases t with
      | leaf q y=>
        obtain rfl:q=p:=hp
        obtain rfl:y=x:=hx
        exact Tri.split_leaf0 (by simp)
      | _=>cases h1)
    have HSV:Hid (C.setIfInBounds 2 (.string ⟨x.toArray⟩)=(pcl 3 [] x noK []).toArray):=qh (by rw [← hC]; exact pcl_val ..)
    unfold ptr
    clear h hr hkk hk hf hfit hp hx hne hn hlt hr1 r1 hb0 h1 n0 hC
    go_enter Tryz.func139,Tryz.ntmps139
    go_wp2_with (refine wpList_build_some (by rfl) _ _ (by rfl) [(0,.int .i64 3)] (by first | rfl | (simp [Act.eval]; done) | kernel_rfl) C HBL.out ?_)
    go_ret
    rw [HS.out,HSV.out]
    exact ⟨_,rfl,PAt.new (K:=noK) id (hB _ (Nat.le_refl _)) (RowP.new rfl) (fun i=>rfl),(Below.refl _ w).alloc (Nat.le_refl _) _⟩
end
end Go.Proofs.YtaficmboooaknaaGreatDoor
