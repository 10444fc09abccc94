import Derived.RegionTactic
import Derived.Deep.RegionHeld3
import Derived.Test.YtaficmboooaknaaGreatDoorPp15
import Derived.Test.YtaficmboooaknaaGreatDoorPp13
import Derived.Test.YtaficmboooaknaaGreatDoorPp03
import Derived.Test.YtaficmboooaknaaGreatDoorPp01
import Derived.Test.YtaficmboooaknaaGreatDoorPp11
import Derived.BigQuiet
set_option maxRecDepth 100000
set_option maxHeartbeats 16000000
namespace Go.Proofs.YtaficmboooaknaaGreatDoor
section
open Go
theorem cnt_set:∀ (L:List Bool) (i:Nat),L[i]?=some false->(L.set i true).count false+1=L.count false
  | [],i,h=>by simp at h
  | b :: L,0,h=>by
    simp at h
    subst h
    simp
  | b :: L,i+1,h=>by
    have:=cnt_set L i (by simpa using h)
    simp only [List.set_cons_succ,List.count_cons]
    omega
theorem ready_false {md:Region.Mode} {ops:Array Oper} {L:List Bool} {i:Nat} (h:i ∈ Region.ready md ops L.toArray):L[i]?=some false:=by
  have h2:=(List.mem_filter.1 h).2
  rw [Bool.and_eq_true] at h2
  have h3:=h2.1
  have e:L.toArray.getD i true=L[i]?.getD true:=by simp [Array.getD_eq_getD_getElem?]
  rw [e] at h3
  cases hx:L[i]? with
  | none=>rw [hx] at h3; simp at h3
  | some b=>rw [hx] at h3; cases b <;> simp_all
theorem ready_lt {md:Region.Mode} {ops:Array Oper} {L:List Bool} {i:Nat} (h:i ∈ Region.ready md ops L.toArray):i < ops.size:=by
  have h2:=(List.mem_filter.1 h).1
  simpa using h2
theorem any_inv {P:Program} {md:Region.Mode} {l:List Oper} {Q:Exit->Act->World->Prop} {I:List Bool->Act->World->Prop}
    (hstep:∀ L a w,L.length=l.length->I L a w->∀ i o,l[i]?=some o->i ∈ Region.ready md l.toArray L.toArray->∀ K:Act->World->Prop,(∀ a w,I (L.set i true) a w->K a w)->if Region.wanted o (yielded l.toArray a.tmps)=true then Oper.wp P o a w K Q else K (a.put o.dst undef) w)
    (hend:∀ L a w,L.length=l.length->Region.ready md l.toArray L.toArray=[]->I L a w->Q .normal a w):
    ∀ (fuel:Nat) (L:List Bool) (a:Act) (w:World),L.length=l.length->L.count false<=fuel->I L a w->wpAny P md l.toArray Q fuel L.toArray a w
  | 0,L,a,w,hl,hc,hI=>by
    have hr:Region.ready md l.toArray L.toArray=[]:=by
      cases hr:Region.ready md l.toArray L.toArray with
      | nil=>rfl
      | cons i is=>
        have:=ready_false (md:=md) (ops:=l.toArray) (L:=L) (i:=i) (by rw [hr]; simp)
        have:=cnt_set L i this
        omega
    exact ⟨hr,hend L a w hl hr hI⟩
  | fuel+1,L,a,w,hl,hc,hI=>by
    refine ⟨fun hr=>hend L a w hl hr hI,fun i hi=>?_⟩
    have hf:=ready_false hi
    have hlt:i < l.length:=by simpa using ready_lt hi
    have hs:=cnt_set L i hf
    refine wpOp_step (o:=l[i]) (by simp [hlt]) (fun K hK=>?_)
    refine hstep L a w hl hI i l[i] (by simp [hlt]) hi K (fun a' w' h=>hK a' w' ?_)
    have e:L.toArray.setIfInBounds i true=(L.set i true).toArray:=by simp
    rw [e]
    exact any_inv hstep hend fuel (L.set i true) a' w' (by simpa using hl) (by omega) h
theorem region_inv {P:Program} {id:Nat} {l:List Oper} {Q:Exit->Act->World->Prop} {a:Act} {w:World} (I:List Bool->Act->World->Prop) (hm:P.follows .mixedOrders=true)
    (h0:I (List.replicate l.length false) a w.drew)
    (hstep:∀ L a w,L.length=l.length->I L a w->∀ i o,l[i]?=some o->i ∈ Region.ready .any l.toArray L.toArray->∀ K:Act->World->Prop,(∀ a w,I (L.set i true) a w->K a w)->if Region.wanted o (yielded l.toArray a.tmps)=true then Oper.wp P o a w K Q else K (a.put o.dst undef) w)
    (hend:∀ L a w,L.length=l.length->Region.ready .any l.toArray L.toArray=[]->I L a w->Q .normal a w):
    (Code.region id l.toArray true).wp P Q a w:=by
  refine wp_region_any hm ?_
  have e:Array.replicate l.toArray.size false=(List.replicate l.length false).toArray:=by simp
  rw [e]
  exact any_inv hstep hend _ _ _ _ (by simp) (by simp) h0
end
section
open Go.RowKit
open Sto (T)
open Tri (Tr Ok upd ix hb lay splitT Trim rank)
open Go.Proofs.YtaficmboooaknaaGreatDoor.Nd (N)
def CovR (w0 w:World) (b d:Option Bool) (P:T) (v:Value):Prop:=
  b=some true->∃ c,v=.pointer (some ⟨c,0,none⟩)/\w0.heap.size<=c/\w.heap[c]?=some (.cells #[.string ⟨(if d=some true then P else []).toArray⟩] 9 (0,0))
theorem CovR.below {w0 w w':World} {b d:Option Bool} {P:T} {v:Value} (h:CovR w0 w b d P v) (hb:Below w.heap.size w w'):CovR w0 w' b d P v:=fun hx=>by
  obtain ⟨c,e,h1,h2⟩:=h hx
  exact ⟨c,e,h1,(hb.block c (lt_of_heap h2)).trans h2⟩
def CovI (g q:Nat) (f e P Q:T) (w0:World) (L:List Bool) (a:Act) (w:World):Prop:=
  ∃ v7 v8 v9 v10 v11 v12:Value,a=⟨#[ptr g,.string ⟨f.toArray⟩,.string ⟨e.toArray⟩,undef,undef,.pointer (some ⟨q,0,none⟩),.slice none 0 0,v7,v8,v9,v10,v11,v12,undef,undef,undef],[]⟩/\
    Below w0.heap.size w0 w/\
    (L[0]?=some true->v9=.string ⟨f.toArray⟩)/\(L[1]?=some true->v10=.string ⟨P.toArray⟩)/\(L[2]?=some true->v11=.string ⟨e.toArray⟩)/\(L[3]?=some true->v12=.string ⟨Q.toArray⟩)/\
    CovR w0 w L[4]? L[6]? P v7/\CovR w0 w L[5]? L[7]? Q v8/\(L[4]?=some true->L[5]?=some true->v7 ≠ v8)/\(L[6]?=some true->L[4]?=some true)/\(L[7]?=some true->L[5]?=some true)
theorem ptr_ne {a b:Nat} (h:a ≠ b):Value.pointer (some ⟨a,0,none⟩) ≠ Value.pointer (some ⟨b,0,none⟩):=fun hx=>h (by injection hx with hx; injection hx with hx; injection hx)
theorem cover_any {g:Nat} {t:Tr} {top n:Value} (f e:T) (w:World) (hl:f.length<=2000000) (hl2:e.length<=2000000) (hg:w.heap[g]?=some (.cells #[top,n] 84 (0,0))) (hs:Sealed w t top):
    Calls Tryz.prog 36 #[ptr g,.string ⟨f.toArray⟩,.string ⟨e.toArray⟩] w (TextsPost w (wantedT (fun p=>Tri.inL p f e) t)):=by
  have hmf:∀ (fn:Fn) (first cap:Array Value) (w:World),(Instr.makeFunc fn first cap).run Tryz.prog w=.ok (.func fn first cap) w:=fun _ _ _ _=>rfl
  have HT:Hid (∀ w1 cf ce cl,Below w.heap.size w w1->w1.heap[cf]?=some (.cells #[.string ⟨(Nib.ofL f).toArray⟩] 9 (0,0))->w1.heap[ce]?=some (.cells #[.string ⟨e.toArray⟩] 9 (0,0))->w1.heap[cl]?=some (.cells #[.string ⟨(Nib.ofL e).toArray⟩] 9 (0,0))->
      Calls Tryz.prog 51 #[ptr g,.func (.func 66) #[] #[.pointer (some ⟨cf,0,none⟩),.pointer (some ⟨ce,0,none⟩),.pointer (some ⟨cl,0,none⟩)]] w1 (TextsPost w1 (wantedT (fun p=>Tri.inL p f e) t))):=qh (fun w1 cf ce cl hb h1 h2 h3=>
    texts_any _ ((hb.block g (lt_of_heap hg)).trans hg) (hs.below hb) (cover_wants _ h1 h2 h3) (down_in f e))
  unfold TextsPost ptr at HT
  unfold TextsPost ptr
  obtain ⟨P,hP⟩:∃ P,Nib.ofL f=P:=⟨_,rfl⟩
  obtain ⟨Q,hQ⟩:∃ Q,Nib.ofL e=Q:=⟨_,rfl⟩
  have HOF:Hid (∀ w',Calls Tryz.prog 59 #[.string ⟨f.toArray⟩] w' fun r w''=>r=.returned (.string ⟨P.toArray⟩)/\Below w'.heap.size w' w''):=qh (fun w'=>by rw [← hP]; exact of_any f w' (by omega))
  have HOE:Hid (∀ w',Calls Tryz.prog 59 #[.string ⟨e.toArray⟩] w' fun r w''=>r=.returned (.string ⟨Q.toArray⟩)/\Below w'.heap.size w' w''):=qh (fun w'=>by rw [← hQ]; exact of_any e w' (by omega))
  rw [hP,hQ] at HT
  obtain ⟨WT,hWT⟩:∃ WT,wantedT (fun p=>Tri.inL p f e) t=WT:=⟨_,rfl⟩
  rw [hWT] at HT ⊢
  clear hg hs hP hQ hWT
  go_enter Tryz.func36,Tryz.ntmps36
  go_upto_region 1 with fail
  obtain ⟨w0,hw0⟩:∃ w0,w.alloc (.cells #[.string ⟨e.toArray⟩] 9)=w0:=⟨_,rfl⟩
  have HE:Hid (w0.heap[w.heap.size]?=some (.cells #[.string ⟨e.toArray⟩] 9 (0,0))):=qh (by rw [← hw0]; exact heap_alloc_new w _)
  have HB0:Hid (Below w.heap.size w w0):=qh (by rw [← hw0]; exact (Below.refl _ w).alloc (Nat.le_refl _) _)
  obtain ⟨q,hq⟩:∃ q,w.heap.size=q:=⟨_,rfl⟩
  have HQ:=qh hq
  rw [hw0,hq]
  rw [hq] at HE
  clear hw0 hq
  refine region_inv (CovI g q f e P Q w0) (by rfl) ?_ ?_ ?_
  · refine ⟨_,_,_,_,_,_,rfl,(Below.refl _ _).drew,?_,?_,?_,?_,?_,?_,?_,?_,?_⟩ <;> (intro h; simp at h)
  · intro L a w1 hL hI i o ho hi K hK
    obtain ⟨v7,v8,v9,v10,v11,v12,rfl,hB,h0,h1,h2,h3,h4,h5,h6,h7,h8⟩:=hI
    obtain ⟨b0,b1,b2,b3,b4,b5,b6,b7,rfl⟩:∃ b0 b1 b2 b3 b4 b5 b6 b7,L=[b0,b1,b2,b3,b4,b5,b6,b7]:=by
      match L,hL with
      | [b0,b1,b2,b3,b4,b5,b6,b7],_=>exact ⟨b0,b1,b2,b3,b4,b5,b6,b7,rfl⟩
    have hi2:=(List.mem_filter.1 hi).2
    clear hi hL
    rcases i with _ | _ | _ | _ | _ | _ | _ | _ | i
    · obtain rfl:=Option.some.inj ho
      clear ho hi2
      rw [if_pos (by rfl)]
      go_simp
      exact hK _ _ ⟨v7,v8,_,v10,v11,v12,rfl,hB,fun _=>rfl,h1,h2,h3,h4,h5,h6,h7,h8⟩
    · obtain rfl:=Option.some.inj ho
      simp [Region.binds] at hi2
      obtain rfl:=h0 (by simp [hi2])
      clear ho hi2
      rw [if_pos (by rfl)]
      go_simp
      refine (HOF.out _).mono ?_
      rintro r w2 ⟨rfl,hb2⟩
      exact hK _ _ ⟨v7,v8,_,_,v11,v12,rfl,bchain hB hb2,h0,fun _=>rfl,h2,h3,h4.below hb2,h5.below hb2,h6,h7,h8⟩
    · obtain rfl:=Option.some.inj ho
      clear ho hi2
      have c0:=cell_of_one ((hB.block q (lt_of_heap HE.out)).trans HE.out)
      rw [if_pos (by rfl)]
      go_simp
      exact hK _ _ ⟨v7,v8,v9,v10,_,v12,rfl,hB,h0,h1,fun _=>rfl,h3,h4,h5,h6,h7,h8⟩
    · obtain rfl:=Option.some.inj ho
      simp [Region.binds] at hi2
      obtain rfl:=h2 (by simp [hi2])
      clear ho hi2
      rw [if_pos (by rfl)]
      go_simp
      refine (HOE.out _).mono ?_
      rintro r w2 ⟨rfl,hb2⟩
      exact hK _ _ ⟨v7,v8,v9,v10,_,_,rfl,bchain hB hb2,h0,h1,h2,fun _=>rfl,h4.below hb2,h5.below hb2,h6,h7,h8⟩
    · obtain rfl:=Option.some.inj ho
      simp [Region.binds] at hi2
      clear ho
      have hb6:b6=false:=by
        cases b6 with
        | false=>rfl
        | true=>have:=h7 rfl; simp [hi2] at this
      subst hb6
      rw [if_pos (by rfl)]
      go_simp
      have hA:Below w1.heap.size w1 (w1.alloc (.cells #[.string ⟨#[]⟩] 9)):=(Below.refl _ w1).alloc (Nat.le_refl _) _
      refine hK _ _ ⟨_,v8,v9,v10,v11,v12,rfl,bchain hB hA,h0,h1,h2,h3,fun _=>⟨_,rfl,hB.size,heap_alloc_new _ _⟩,h5.below hA,fun _ hx=>?_,fun hx=>by simp at hx,h8⟩
      obtain ⟨c,rfl,_,hc⟩:=h5 hx
      exact ptr_ne (Nat.ne_of_gt (lt_of_heap hc))
    · obtain rfl:=Option.some.inj ho
      simp [Region.binds] at hi2
      clear ho
      have hb7:b7=false:=by
        cases b7 with
        | false=>rfl
        | true=>have:=h8 rfl; simp [hi2] at this
      subst hb7
      rw [if_pos (by rfl)]
      go_simp
      have hA:Below w1.heap.size w1 (w1.alloc (.cells #[.string ⟨#[]⟩] 9)):=(Below.refl _ w1).alloc (Nat.le_refl _) _
      refine hK _ _ ⟨v7,_,v9,v10,v11,v12,rfl,bchain hB hA,h0,h1,h2,h3,h4.below hA,fun _=>⟨_,rfl,hB.size,heap_alloc_new _ _⟩,fun hx _=>?_,h7,fun hx=>by simp at hx⟩
      obtain ⟨c,rfl,_,hc⟩:=h4 hx
      exact ptr_ne (Nat.ne_of_lt (lt_of_heap hc))
    · obtain rfl:=Option.some.inj ho
      simp [Region.binds] at hi2
      clear ho
      obtain ⟨c,rfl,hc0,hc⟩:=h4 (by simp [hi2])
      obtain rfl:=h0 (by simp [hi2])
      obtain rfl:=h1 (by simp [hi2])
      obtain rfl:=h3 (by simp [hi2])
      have c0:=cell_of_one hc
      have f0:=free_of_one hc
      rw [if_pos (by rfl)]
      go_simp
      refine hK _ _ ⟨_,_,_,_,_,_,rfl,hB.setCell (p:=⟨c,0,none⟩) hc0 _,fun _=>rfl,fun _=>rfl,h2,fun _=>rfl,fun _=>⟨c,rfl,hc0,one_setCell hc⟩,fun hx=>?_,h6,fun _=>by simp [hi2],h8⟩
      obtain ⟨d,rfl,hd0,hd⟩:=h5 hx
      refine ⟨d,rfl,hd0,?_⟩
      rw [Below.heap_setCell _ ⟨c,0,none⟩ _ _ (fun hcd=>h6 (by simp [hi2]) hx (by cases hcd; rfl))]
      exact hd
    · obtain rfl:=Option.some.inj ho
      simp [Region.binds] at hi2
      clear ho
      obtain ⟨c,rfl,hc0,hc⟩:=h5 (by simp [hi2])
      obtain rfl:=h0 (by simp [hi2])
      obtain rfl:=h1 (by simp [hi2])
      obtain rfl:=h2 (by simp [hi2])
      obtain rfl:=h3 (by simp [hi2])
      have c0:=cell_of_one hc
      have f0:=free_of_one hc
      rw [if_pos (by rfl)]
      go_simp
      refine hK _ _ ⟨_,_,_,_,_,_,rfl,hB.setCell (p:=⟨c,0,none⟩) hc0 _,fun _=>rfl,fun _=>rfl,fun _=>rfl,fun _=>rfl,fun hx=>?_,fun _=>⟨c,rfl,hc0,one_setCell hc⟩,h6,h7,fun _=>by simp [hi2]⟩
      obtain ⟨d,rfl,hd0,hd⟩:=h4 hx
      refine ⟨d,rfl,hd0,?_⟩
      rw [Below.heap_setCell _ ⟨c,0,none⟩ _ _ (fun hcd=>h6 hx (by simp [hi2]) (by cases hcd; rfl))]
      exact hd
    · simp at ho
  · intro L a w1 hL hr hI
    obtain ⟨v7,v8,v9,v10,v11,v12,rfl,hB,h0,h1,h2,h3,h4,h5,h6,h7,h8⟩:=hI
    obtain ⟨b0,b1,b2,b3,b4,b5,b6,b7,rfl⟩:∃ b0 b1 b2 b3 b4 b5 b6 b7,L=[b0,b1,b2,b3,b4,b5,b6,b7]:=by
      match L,hL with
      | [b0,b1,b2,b3,b4,b5,b6,b7],_=>exact ⟨b0,b1,b2,b3,b4,b5,b6,b7,rfl⟩
    have hr2:=List.filter_eq_nil_iff.1 hr
    clear hr hL
    have k0:=hr2 0 (by simp)
    have k1:=hr2 1 (by simp)
    have k2:=hr2 2 (by simp)
    have k3:=hr2 3 (by simp)
    have k4:=hr2 4 (by simp)
    have k5:=hr2 5 (by simp)
    have k6:=hr2 6 (by simp)
    have k7:=hr2 7 (by simp)
    clear hr2
    simp [Region.binds] at k0 k2 k4 k5
    subst k0 k2 k4 k5
    simp [Region.binds] at k1
    subst k1
    simp [Region.binds] at k3
    subst k3
    simp [Region.binds] at k6
    subst k6
    simp [Region.binds] at k7
    subst k7
    obtain rfl:=h0 rfl
    obtain rfl:=h1 rfl
    obtain rfl:=h2 rfl
    obtain rfl:=h3 rfl
    obtain ⟨c,rfl,hc0,hc⟩:=h4 rfl
    obtain ⟨d,rfl,hd0,hd⟩:=h5 rfl
    have HX:=qh (HT.out w1 c q d (bchain HB0.out hB) hc ((hB.block q (lt_of_heap HE.out)).trans HE.out) hd)
    have HBW:=qh (bchain HB0.out hB)
    clear h0 h1 h2 h3 h4 h5 h6 h7 h8 hB hc hd hc0 hd0
    go_wp2_with fail
    refine HX.out.mono ?_
    rintro e w2 ⟨z,rfl,ho,hb⟩
    have HB2:Hid (Below w.heap.size w w2):=qh (bchain HBW.out hb)
    have HO:Hid (Own w2 w.heap.size z WT):=qh (own_lowS ho HBW.out.size)
    clear ho hb
    go_wp2
    go_ret
    exact ⟨z,rfl,HO.out,HB2.out⟩
end
section
open Go.RowKit
open Sto (T St)
open Tri (Tr)
def coverS (S:St) (f e:T):List T:=wantedT (fun p=>Tri.inL p f e) (treeS S)
def trailS (S:St) (k:T):List T:=wantedT (fun p=>Tri.begins p (Nib.ofL k)) (treeS S)
theorem wanted_sub {P Q:T->Bool} (t:Tr) (h:∀ x,P x=true->Q x=true):(wantedT P t).Sublist (wantedT Q t):=(Tri.filter_sub _ _ _ fun x hx=>h x.1 hx).map _
theorem cover_all (S:St):coverS S [] []=nodesS S:=by
  unfold coverS nodesS
  rw [show (fun p=>Tri.inL p [] [])=fun _=>true from funext Tri.in_all]
theorem scover_any {g:Nat} {S:St} (f e:T) (w:World) (h:TrAt w g S) (hl:f.length<=2000000) (hl2:e.length<=2000000):
    Calls Tryz.prog 36 #[ptr g,.string ⟨f.toArray⟩,.string ⟨e.toArray⟩] w (TextsPost w (coverS S f e)):=by
  obtain ⟨top,t,h1,h2,h3⟩:=h
  unfold coverS
  rw [treeS_of h3]
  exact cover_any f e w hl hl2 h1 (h3.sealed h2)
end
section
open Sto (T St)
open Tri (Tr Ok hb ix)
open Go.Proofs.YtaficmboooaknaaGreatDoor.Nd (N)
namespace Prf
def next (n:N) (l:T):(T × T) ⊕ T:=
  if n.kind=1 then .inr (if n.path=l then n.val else [])
  else if n.kind=2 then (if l.take n.path.length=n.path then .inl (n.kids.getD 0 [],l.drop n.path.length) else .inr [])
  else match l with
    | []=>.inr n.val
    | b :: q=>if n.kids.getD b.toNat []=[] then .inr [] else .inl (n.kids.getD b.toNat [],q)
def follow:T->T->List T->Option T
  | _,_,[]=>none
  | s,l,x :: r=>
    if Sto.sumOf x=s/\(Nd.dec x).2=0 then
      match next (Nd.dec x).1 l with
      | .inl p=>follow p.1 p.2 r
      | .inr v=>if r=[] then some v else none
    else none
def verify (root key:T) (nodes:List T):T × Bool × Nat:=
  if Tri.keyed key then
    (if root=[] then (if nodes=[] then ([],false,0) else ([],false,130))
    else match follow root (Nib.ofL key) nodes with
      | some v=>(v,decide (v ≠ []),0)
      | none=>([],false,130))
  else ([],false,1)
/-! ### the nodes on the way -/
def trail:Tr->T->List N
  | .nil,_=>[]
  | .leaf p v,_=>[Tr.node Nd.sumS (.leaf p v)]
  | .ext p t,l=>Tr.node Nd.sumS (.ext p t) :: (if l.take p.length=p then trail t (l.drop p.length) else [])
  | .br v k,[]=>[Tr.node Nd.sumS (.br v k)]
  | .br v k,b :: q=>Tr.node Nd.sumS (.br v k) :: (if b.toNat<=15 then trail (k (ix b)) q else [])
theorem spots_pre (t:Tr):∀ (p:T),∀ x ∈ t.spots Nd.sumS p,∃ q,x.1=p ++ q:=by
  induction t with
  | nil=>intro p x hx; cases hx
  | leaf q v=>intro p x hx; rw [List.mem_singleton.1 hx]; exact ⟨[],by simp⟩
  | ext q t ih=>
    intro p x hx
    rcases List.mem_cons.1 hx with rfl | hx
    · exact ⟨[],by simp⟩
    · obtain ⟨r,hr⟩:=ih _ x hx
      exact ⟨q ++ r,by rw [hr,List.append_assoc]⟩
  | br v k ih=>
    intro p x hx
    rcases List.mem_cons.1 hx with rfl | hx
    · exact ⟨[],by simp⟩
    · obtain ⟨i,_,hi⟩:=List.mem_flatMap.1 hx
      obtain ⟨r,hr⟩:=ih i _ x hi
      exact ⟨[hb i] ++ r,by rw [hr,List.append_assoc]⟩
theorem begins_app (p q l:T):Tri.begins (p ++ q) (p ++ l)=Tri.begins q l:=by
  unfold Tri.begins
  rw [List.length_append,List.take_append,List.take_of_length_le (Nat.le_add_right _ _),Nat.add_sub_cancel_left]
  simp
theorem begins_self (p l:T):Tri.begins p (p ++ l)=true:=by
  unfold Tri.begins
  simp
theorem none_of {t:Tr} {p m:T} (h:Tri.begins p m=false):((t.spots Nd.sumS p).filter fun x=>Tri.begins x.1 m)=[]:=by
  rw [List.filter_eq_nil_iff]
  intro x hx
  obtain ⟨q,hq⟩:=spots_pre t p x hx
  have h1:m.take p.length ≠ p:=of_decide_eq_false h
  intro hb
  have h2:m.take (p ++ q).length=p ++ q:=by rw [← hq]; exact of_decide_eq_true hb
  apply h1
  have h3:=congrArg (List.take p.length) h2
  rw [List.take_take,List.length_append,Nat.min_eq_left (by omega),List.take_left] at h3
  exact h3
theorem begins_ext (p q l:T):Tri.begins (p ++ q) (p ++ l)=decide (l.take q.length=q):=by rw [begins_app]; rfl
theorem flat_one (f:Fin 16->List (T × N)) (i:Fin 16) (h:∀ j,j ≠ i->f j=[]):∀ L:List (Fin 16),L.Nodup->L.flatMap f=if i ∈ L then f i else []:=by
  intro L
  induction L with
  | nil=>intro _; rfl
  | cons j L ih=>
    intro hn
    obtain ⟨h1,h2⟩:=List.nodup_cons.1 hn
    rw [List.flatMap_cons,ih h2]
    by_cases e:j=i
    · subst e
      rw [if_neg h1,if_pos (List.mem_cons_self ..),List.append_nil]
    · rw [h j e,List.nil_append]
      by_cases hm:i ∈ L
      · rw [if_pos hm,if_pos (List.mem_cons_of_mem _ hm)]
      · rw [if_neg hm,if_neg (fun e2=>(List.mem_cons.1 e2).elim (fun e3=>e e3.symm) hm)]
theorem flat_none (f:Fin 16->List (T × N)) (h:∀ j,f j=[]) (L:List (Fin 16)):L.flatMap f=[]:=by
  rw [List.flatMap_eq_nil_iff]
  exact fun j _=>h j
theorem filter_flat (P:T × N->Bool) (f:Fin 16->List (T × N)) (L:List (Fin 16)):(L.flatMap f).filter P=L.flatMap fun i=>(f i).filter P:=by
  induction L with
  | nil=>rfl
  | cons a L ih=>rw [List.flatMap_cons,List.filter_append,ih,List.flatMap_cons]
theorem trail_spots (t:Tr):∀ (p l:T),((t.spots Nd.sumS p).filter fun x=>Tri.begins x.1 (p ++ l)).map (·.2)=trail t l:=by
  induction t with
  | nil=>intro p l; rfl
  | leaf q v=>
    intro p l
    rw [Tr.spots,List.filter_cons,if_pos (begins_self p l)]
    rfl
  | ext q t ih=>
    intro p l
    rw [Tr.spots,List.filter_cons,if_pos (begins_self p l),List.map_cons,trail]
    congr 1
    by_cases h:l.take q.length=q
    · rw [if_pos h]
      have e:p ++ l=(p ++ q) ++ l.drop q.length:=by
        rw [List.append_assoc]
        conv=>lhs; rw [← List.take_append_drop q.length l,h]
      rw [e]
      exact ih (p ++ q) (l.drop q.length)
    · rw [if_neg h,none_of (by rw [begins_ext]; exact decide_eq_false h)]
      rfl
  | br v k ih=>
    intro p l
    rw [Tr.spots,List.filter_cons,if_pos (begins_self p l),List.map_cons,filter_flat]
    cases l with
    | nil=>
      rw [trail,flat_none]
      · rfl
      · intro j
        exact none_of (by rw [begins_ext]; simp)
    | cons b q=>
      rw [trail]
      congr 1
      by_cases hb15:b.toNat<=15
      · rw [if_pos hb15,flat_one _ (ix b) (fun j hj=>none_of (by
          rw [begins_ext]
          simp only [List.length_cons,List.length_nil,Nat.zero_add,List.take_succ_cons,List.take_zero,decide_eq_false_iff_not,List.cons.injEq,and_true]
          intro e
          apply hj
          rw [← Tri.ix_hb j,← e])) _ (List.nodup_finRange 16),if_pos (List.mem_finRange _)]
        have e:p ++ b :: q=(p ++ [hb (ix b)]) ++ q:=by rw [Tri.hb_ix hb15]; simp
        rw [e]
        exact ih (ix b) (p ++ [hb (ix b)]) q
      · rw [if_neg hb15,flat_none]
        · rfl
        · intro j
          refine none_of ?_
          rw [begins_ext]
          simp only [List.length_cons,List.length_nil,Nat.zero_add,List.take_succ_cons,List.take_zero,decide_eq_false_iff_not,List.cons.injEq,and_true]
          intro e
          apply hb15
          rw [e,Tri.hb_toNat]
          have:=j.isLt
          omega
theorem trail_wanted (t:Tr) (l:T):wantedT (fun q=>Tri.begins q l) t=(trail t l).map Nd.written:=by
  unfold wantedT
  have h:=trail_spots t [] l
  rw [List.nil_append] at h
  rw [← h,List.map_map]
  rfl
theorem trailS_eq {S:St} {t:Tr} (h:TrS S t) (k:T):trailS S k=(trail t (Nib.ofL k)).map Nd.written:=by
  unfold trailS
  rw [treeS_of h,trail_wanted]
theorem dec_node {t:Tr} (h:Ok t) (hn:¬ t.isNil):Nd.dec (Nd.written (t.node Nd.sumS))=(t.node Nd.sumS,0):=Nd.dec_written _ (Tri.node_kids _ _) (h.fine hn)
theorem next_node {t:Tr} (h:Ok t) (hn:¬ t.isNil) (l:T) (hl:Nib.fitL l=true):
    (∃ i q,next (t.node Nd.sumS) l=.inl ((t.kid i).sum Nd.sumS,q)/\¬ (t.kid i).isNil/\Nib.fitL q=true/\t.get l=(t.kid i).get q/\trail t l=t.node Nd.sumS :: trail (t.kid i) q) ∨
    (∃ v,next (t.node Nd.sumS) l=.inr v/\v=(t.get l).getD []/\trail t l=[t.node Nd.sumS]):=by
  cases t with
  | nil=>exact absurd trivial hn
  | leaf p v=>
    refine Or.inr ⟨_,rfl,?_,rfl⟩
    show (if p=l then v else [])=_
    rw [Tr.get]
    by_cases e:p=l
    · rw [if_pos e,if_pos e.symm]; rfl
    · rw [if_neg e,if_neg (fun e2=>e e2.symm)]; rfl
  | ext p t=>
    obtain ⟨v,k,rfl,_⟩:=Tri.ext_br h.canon
    by_cases e:l.take p.length=p
    · refine Or.inl ⟨0,l.drop p.length,?_,id,Tri.fit_drop _ hl,?_,?_⟩
      · show (if l.take p.length=p then _ else _)=_
        rw [if_pos e]; rfl
      · rw [Tr.get,if_pos e]; rfl
      · rw [trail,if_pos e]; rfl
    · refine Or.inr ⟨[],?_,?_,?_⟩
      · show (if l.take p.length=p then _ else _)=_
        rw [if_neg e]
      · rw [Tr.get,if_neg e]; rfl
      · rw [trail,if_neg e]
  | br v k=>
    cases l with
    | nil=>
      refine Or.inr ⟨v,rfl,?_,rfl⟩
      rw [Tr.get]
      by_cases e:v=[]
      · rw [if_pos e,e]; rfl
      · rw [if_neg e]; rfl
    | cons b q=>
      obtain ⟨hb15,hq⟩:=Tri.fit_cons.1 hl
      have hlt:b.toNat < 16:=by omega
      have hk:(List.ofFn fun i=>(k i).sum Nd.sumS).getD b.toNat []=(k (ix b)).sum Nd.sumS:=by
        rw [List.getD_eq_getElem?_getD,List.getElem?_ofFn,dif_pos hlt]
        simp only [Option.getD_some]
        congr 2
        exact Fin.ext (by simp [ix]; omega)
      have hnx:next (Tr.node Nd.sumS (.br v k)) (b :: q)=if (k (ix b)).sum Nd.sumS=[] then .inr [] else .inl ((k (ix b)).sum Nd.sumS,q):=by
        show (if (List.ofFn fun i=>(k i).sum Nd.sumS).getD b.toNat []=[] then Sum.inr [] else Sum.inl ((List.ofFn fun i=>(k i).sum Nd.sumS).getD b.toNat [],q))=_
        rw [hk]
      by_cases e:(k (ix b)).isNil
      · refine Or.inr ⟨[],?_,?_,?_⟩
        · rw [hnx,if_pos (show (k (ix b)).sum Nd.sumS=[] by rw [Tri.nil_of_isNil e]; rfl)]
        · rw [Tr.get,if_pos hb15,Tri.nil_of_isNil e]; rfl
        · rw [trail,if_pos hb15,Tri.nil_of_isNil e]; rfl
      · refine Or.inl ⟨ix b,q,?_,e,hq,?_,?_⟩
        · rw [hnx,if_neg (show (k (ix b)).sum Nd.sumS ≠ [] from (h.kid (ix b)).sum_ne e)]; rfl
        · rw [Tr.get,if_pos hb15]; rfl
        · rw [trail,if_pos hb15]; rfl
theorem follow_trail (t:Tr):Ok t->¬ t.isNil->∀ l,Nib.fitL l=true->follow (t.sum Nd.sumS) l ((trail t l).map Nd.written)=some ((t.get l).getD []):=by
  refine Tri.kid_ind (P:=fun t=>Ok t->¬ t.isNil->∀ l,Nib.fitL l=true->follow (t.sum Nd.sumS) l ((trail t l).map Nd.written)=some ((t.get l).getD [])) (fun _ h=>absurd trivial h) ?_ t
  intro t hn ih hok _ l hl
  have hc:Sto.sumOf (Nd.written (t.node Nd.sumS))=t.sum Nd.sumS/\(Nd.dec (Nd.written (t.node Nd.sumS))).2=0:=⟨(sum_text hok hn).symm,by rw [dec_node hok hn]⟩
  rcases next_node hok hn l hl with ⟨i,q,h1,h2,h3,h4,h5⟩ | ⟨v,h1,h2,h3⟩
  · rw [h5,List.map_cons,follow,if_pos hc,dec_node hok hn]
    simp only [h1]
    rw [ih i (hok.kid i) h2 q h3,h4]
  · rw [h3,List.map_cons,follow,if_pos hc,dec_node hok hn]
    simp only [h1,List.map_nil,if_true,h2]
end Prf
end
section
open Sto (T St)
open Go.Proofs.YtaficmboooaknaaGreatDoor.Nd (N)
namespace Prf
structure Told (n:N):Prop where
  kids:n.kids.length=16
  short:∀ x ∈ n.kids,x.length<=32
  path:n.path.length<=16
  fit:Nib.fitL n.path=true
  val:n.val.length<=32
  kind:n.kind=1 ∨ (n.kind=2/\n.kids.getD 0 [] ≠ []) ∨ n.kind=3
theorem Told.of {x:T} (h:(Nd.dec x).2=0):Told (Nd.dec x).1:=by
  rcases Nd.dec_is x with ⟨_,h1,h2,_⟩ | ⟨h1,_⟩
  · unfold Nd.fine at h1
    simp only [Bool.and_eq_true,decide_eq_true_eq] at h1
    obtain ⟨k1,k2,k3,k4,k5⟩:=h1
    refine ⟨h2,fun y hy=>?_,k3,k2,k4,?_⟩
    · have:=List.all_eq_true.1 k1 y hy
      simp only [Bool.or_eq_true,decide_eq_true_eq] at this
      rcases this with e | e
      · rw [e]; simp
      · omega
    · by_cases e1:(Nd.dec x).1.kind=1
      · exact Or.inl e1
      rw [if_neg e1] at k5
      by_cases e2:(Nd.dec x).1.kind=2
      · rw [if_pos e2] at k5
        simp only [Bool.and_eq_true,decide_eq_true_eq] at k5
        exact Or.inr (Or.inl ⟨e2,k5.2.1⟩)
      rw [if_neg e2] at k5
      by_cases e3:(Nd.dec x).1.kind=3
      · exact Or.inr (Or.inr e3)
      · rw [if_neg e3] at k5
        cases k5
  · rw [h] at h1
    cases h1
theorem dec16 (x:T):(Nd.dec x).1.kids.length=16:=by
  rcases Nd.dec_is x with ⟨_,_,h,_⟩ | ⟨_,h,_⟩
  · exact h
  · rw [h]; rfl
def isN (s x:T):Bool:=decide (Sto.sumOf x=s/\(Nd.dec x).2=0)
end Prf
end
namespace Scn
open Sto (T St Rising keys)
def bump:T->T
  | []=>[]
  | a :: r=>if bump r ≠ [] then a :: bump r else if a=255 then [] else [a+1]
def behind (x:T):T:=if 8 < x.length then [] else if x.length < 8 then x ++ [0] else bump x
theorem bump_len (x:T):(bump x).length<=x.length:=by
  induction x with
  | nil=>simp [bump]
  | cons a r ih=>
    rw [bump]
    split
    · simpa using ih
    · split <;> simp
theorem byte_succ {x y:UInt8} (h:x ≠ 255):x < y ↔ x+1<=y:=by
  have h1:x.toNat ≠ 255:=fun e=>h (by rw [← UInt8.toNat_inj]; exact e)
  have h2:=x.toNat_lt
  rw [UInt8.lt_iff_toNat_lt,UInt8.le_iff_toNat_le,UInt8.toNat_add]
  have:(1:UInt8).toNat=1:=rfl
  rw [this]
  omega
theorem cons_le {a b:UInt8} {s t:T}:a :: s<=b :: t ↔ a < b ∨ a=b/\s<=t:=by
  rw [List.le_iff_lt_or_eq,List.cons_lt_cons_iff,List.le_iff_lt_or_eq]
  constructor
  · rintro ((h | ⟨h,k⟩) | h)
    · exact Or.inl h
    · exact Or.inr ⟨h,Or.inl k⟩
    · obtain ⟨h1,h2⟩:=List.cons.inj h
      exact Or.inr ⟨h1,Or.inr h2⟩
  · rintro (h | ⟨h,k | k⟩)
    · exact Or.inl (Or.inl h)
    · exact Or.inl (Or.inr ⟨h,k⟩)
    · exact Or.inr (by rw [h,k])
theorem nil_le (s:T):([]:T)<=s:=by
  cases s with
  | nil=>exact List.le_refl _
  | cons a s=>exact List.le_of_lt (List.nil_lt_cons _ _)
theorem bump_least (a:T):∀ b:T,b.length<=a.length->(bump a=[]->b<=a)/\(bump a ≠ []->a < bump a/\(a < b ↔ bump a<=b)):=by
  induction a with
  | nil=>
    intro b hb
    obtain rfl:b=[]:=List.eq_nil_of_length_eq_zero (by simpa using hb)
    exact ⟨fun _=>List.le_refl _,fun h=>absurd rfl h⟩
  | cons x r ih=>
    intro b hb
    rw [bump]
    by_cases hr:bump r ≠ []
    · rw [if_pos hr]
      refine ⟨fun h=>by simp at h,fun _=>?_⟩
      have hlt:=((ih [] (by simp)).2 hr).1
      refine ⟨List.cons_lt_cons_iff.2 (Or.inr ⟨rfl,hlt⟩),?_⟩
      cases b with
      | nil=>
        constructor
        · intro h; exact absurd h (List.not_lt_nil _)
        · intro h
          exact absurd (List.nil_lt_cons x (bump r)) (List.not_lt.2 h)
      | cons y s=>
        have:=((ih s (by simpa using hb)).2 hr).2
        rw [List.cons_lt_cons_iff,cons_le,this]
    · rw [if_neg hr]
      have hr:bump r=[]:=Classical.byContradiction hr
      by_cases hx:x=255
      · rw [if_pos hx]
        refine ⟨fun _=>?_,fun h=>absurd rfl h⟩
        cases b with
        | nil=>exact nil_le _
        | cons y s=>
          have h1:=(ih s (by simpa using hb)).1 hr
          rw [cons_le]
          by_cases hy:y=255
          · exact Or.inr ⟨by rw [hx,hy],h1⟩
          · left
            rw [hx,UInt8.lt_iff_toNat_lt]
            have h2:y.toNat ≠ 255:=fun e=>hy (by rw [← UInt8.toNat_inj]; exact e)
            have:=y.toNat_lt
            have:(255:UInt8).toNat=255:=rfl
            omega
      · rw [if_neg hx]
        refine ⟨fun h=>by simp at h,fun _=>?_⟩
        refine ⟨List.cons_lt_cons_iff.2 (Or.inl ((byte_succ hx).2 (UInt8.le_refl _))),?_⟩
        cases b with
        | nil=>
          constructor
          · intro h; exact absurd h (List.not_lt_nil _)
          · intro h; exact absurd (List.nil_lt_cons (x+1) []) (List.not_lt.2 h)
        | cons y s=>
          have h1:=(ih s (by simpa using hb)).1 hr
          rw [List.cons_lt_cons_iff,cons_le]
          constructor
          · rintro (h | ⟨_,h⟩)
            · have h2:=(byte_succ hx).1 h
              by_cases e:x+1=y
              · exact Or.inr ⟨e,nil_le _⟩
              · left
                rw [UInt8.lt_iff_toNat_lt]
                rw [UInt8.le_iff_toNat_le] at h2
                have:(x+1).toNat ≠ y.toNat:=fun e2=>e (UInt8.toNat_inj.1 e2)
                omega
            · exact absurd h (List.not_lt.2 h1)
          · rintro (h | ⟨h,_⟩)
            · exact Or.inl ((byte_succ hx).2 (UInt8.le_of_lt h))
            · exact Or.inl ((byte_succ hx).2 (by rw [h]; exact UInt8.le_refl _))
theorem zero_least (a b:T):a < b ↔ a ++ [0]<=b:=by
  induction a generalizing b with
  | nil=>
    cases b with
    | nil=>simp [List.not_lt_nil]
    | cons y s=>
      rw [List.nil_append,cons_le]
      refine ⟨fun _=>?_,fun _=>List.nil_lt_cons _ _⟩
      by_cases e:(0:UInt8)=y
      · exact Or.inr ⟨e,nil_le _⟩
      · left
        rw [UInt8.lt_iff_toNat_lt]
        have:y.toNat ≠ 0:=fun h=>e (by rw [← UInt8.toNat_inj]; exact h.symm)
        have:(0:UInt8).toNat=0:=rfl
        omega
  | cons x r ih=>
    cases b with
    | nil=>simp [List.not_lt_nil,List.cons_append,← List.not_lt]
    | cons y s=>rw [List.cons_append,List.cons_lt_cons_iff,cons_le,ih]
theorem above_zero (a:T):a < a ++ [0]:=(zero_least a _).2 (List.le_refl _)
theorem behind_least {a b:T} (ha:a.length<=8) (hb:b.length<=8):(behind a=[]->b<=a)/\(behind a ≠ []->a < behind a/\(behind a).length<=8/\(a < b ↔ behind a<=b)):=by
  unfold behind
  rw [if_neg (by omega)]
  by_cases h:a.length < 8
  · rw [if_pos h]
    exact ⟨fun e=>by simp at e,fun _=>⟨above_zero a,by simp; omega,zero_least a b⟩⟩
  · rw [if_neg h]
    obtain ⟨h1,h2⟩:=bump_least a b (by omega)
    exact ⟨h1,fun e=>⟨(h2 e).1,Nat.le_trans (bump_len a) ha,(h2 e).2⟩⟩
theorem behind_long {a:T} (h:8 < a.length):behind a=[]:=if_pos h
/-! ### ranges -/
def inR (f e k:T):Bool:=decide (f<=k) && (decide (e=[]) || decide (k < e))
def allR (S:St) (f e:T):St:=S.filter fun x=>inR f e x.1
def pageR (S:St) (f e:T) (m:Int):St × T × Nat:=
  if 1<=m/\m<=16 then (if (allR S f e).length<=m.toNat then (allR S f e,[],0) else ((allR S f e).take m.toNat,behind ((allR S f e).getD (m.toNat - 1) ([],[])).1,0)) else ([],[],1)
theorem allR_rise {S:St} (h:Rising S) (f e:T):Rising (allR S f e):=List.Pairwise.sublist List.filter_sublist h
theorem allR_len (S:St) (f e:T):(allR S f e).length<=S.length:=List.length_filter_le _ _
theorem allR_take (S:St) (f e:T) (k:Nat) (hk:k < S.length):allR (S.take (k+1)) f e=allR (S.take k) f e ++ (if inR f e S[k].1 then [S[k]] else []):=by
  rw [List.take_succ_eq_append_getElem hk,allR,allR,List.filter_append]
  by_cases h:inR f e S[k].1=true
  · simp [h]
  · simp [h]
theorem allR_next {S:St} (hS:Rising S) (h8:∀ x ∈ S,x.1.length<=8) (f e:T) (m:Nat) (h1:1<=m) (hm:m < (allR S f e).length):
    behind ((allR S f e)[m - 1]'(by omega)).1 ≠ []/\allR S (behind ((allR S f e)[m - 1]'(by omega)).1) e=(allR S f e).drop m:=by
  obtain ⟨A,hA⟩:∃ A,allR S f e=A:=⟨_,rfl⟩
  have hAr:Rising A:=by rw [← hA]; exact allR_rise hS f e
  have hAS:∀ x ∈ A,x ∈ S/\inR f e x.1=true:=fun x hx=>by rw [← hA] at hx; exact List.mem_filter.1 hx
  simp only [hA] at hm ⊢
  obtain ⟨a,ha⟩:∃ a,A[m - 1]'(by omega)=a:=⟨_,rfl⟩
  rw [ha]
  have haA:a ∈ A:=by rw [← ha]; exact List.getElem_mem _
  have ha8:=h8 a (hAS a haA).1
  have hlt:a.1 < (A[m]).1:=by
    rw [← ha]
    exact List.pairwise_iff_getElem.1 hAr (m - 1) m (by omega) hm (by omega)
  have hb8:=h8 A[m] (hAS _ (List.getElem_mem hm)).1
  have hne:behind a.1 ≠ []:=fun e0=>absurd hlt (List.not_lt.2 ((behind_least ha8 hb8).1 e0))
  refine ⟨hne,?_⟩
  have hiff:∀ x ∈ S,(inR (behind a.1) e x.1=true ↔ (inR f e x.1=true/\a.1 < x.1)):=fun x hx=>by
    have h2:=((behind_least ha8 (h8 x hx)).2 hne).2.2
    have hfa:f<=a.1:=by
      have:=(hAS a haA).2
      simp only [inR,Bool.and_eq_true,decide_eq_true_eq] at this
      exact this.1
    simp only [inR,Bool.and_eq_true,Bool.or_eq_true,decide_eq_true_eq]
    constructor
    · rintro ⟨h3,h4⟩
      have h5:=h2.2 h3
      exact ⟨⟨List.le_trans hfa (List.le_of_lt h5),h4⟩,h5⟩
    · rintro ⟨⟨_,h4⟩,h5⟩
      exact ⟨h2.1 h5,h4⟩
  have e1:allR S (behind a.1) e=A.filter fun x=>decide (a.1 < x.1):=by
    rw [← hA]
    unfold allR
    rw [List.filter_filter]
    refine List.filter_congr fun x hx=>?_
    have:=hiff x hx
    by_cases h:inR (behind a.1) e x.1=true
    · rw [h]; obtain ⟨q1,q2⟩:=this.1 h; simp [q1,q2]
    · have h':inR (behind a.1) e x.1=false:=by simpa using h
      rw [h']
      symm
      rw [Bool.and_eq_false_iff]
      by_cases hq:inR f e x.1=true
      · left
        exact decide_eq_false (fun h3=>h (this.2 ⟨hq,h3⟩))
      · right; simpa using hq
  rw [e1]
  conv=>lhs; rw [← List.take_append_drop m A]
  rw [List.filter_append]
  have f1:(A.take m).filter (fun x=>decide (a.1 < x.1))=[]:=by
    rw [List.filter_eq_nil_iff]
    intro x hx
    obtain ⟨i,hi,rfl⟩:=List.mem_take_iff_getElem.1 hx
    simp only [decide_eq_true_eq]
    intro h
    have him:i < m:=by omega
    rcases Nat.lt_or_ge i (m - 1) with h3 | h3
    · have:=List.pairwise_iff_getElem.1 hAr i (m - 1) (by omega) (by omega) h3
      rw [ha] at this
      exact List.lt_irrefl _ (List.lt_trans h this)
    · obtain rfl:i=m - 1:=by omega
      rw [ha] at h
      exact List.lt_irrefl _ h
  have f2:(A.drop m).filter (fun x=>decide (a.1 < x.1))=A.drop m:=by
    rw [List.filter_eq_self]
    intro x hx
    obtain ⟨i,hi,rfl⟩:=List.mem_drop_iff_getElem.1 hx
    rw [decide_eq_true_eq,← ha]
    exact List.pairwise_iff_getElem.1 hAr (m - 1) (m+i) (by omega) (by omega) (by omega)
  rw [f1,f2,List.nil_append]
/-! ### a range cut in two -/
theorem filter_cut {S:St} (hS:Rising S) (q:T × T->Bool) (c:T):S.filter q=S.filter (fun x=>q x && decide (x.1 < c)) ++ S.filter (fun x=>q x && !decide (x.1 < c)):=by
  induction S with
  | nil=>rfl
  | cons a r ih=>
    obtain ⟨h1,h2⟩:=List.pairwise_cons.1 hS
    have e:=ih h2
    by_cases hc:a.1 < c
    · by_cases hq:q a=true
      · simp [hq,hc,e]
      · simp [hq,e]
    · have hn:r.filter (fun x=>q x && decide (x.1 < c))=[]:=by
        rw [List.filter_eq_nil_iff]
        intro x hx
        simp only [Bool.and_eq_true,decide_eq_true_eq,not_and]
        exact fun _ h=>hc (List.lt_trans (h1 x hx) h)
      rw [hn,List.nil_append] at e
      by_cases hq:q a=true
      · simp [hq,hc,hn,e]
      · simp [hq,hn,e]
theorem allR_cut {S:St} (hS:Rising S) {f m e:T} (h1:f<=m) (h2:e=[] ∨ m<=e) (hm:m ≠ []):allR S f e=allR S f m ++ allR S m e:=by
  unfold allR
  rw [filter_cut hS _ m]
  congr 1
  · refine List.filter_congr fun x _=>?_
    rw [Bool.eq_iff_iff]
    simp only [inR,Bool.and_eq_true,Bool.or_eq_true,decide_eq_true_eq]
    constructor
    · rintro ⟨⟨h3,_⟩,h4⟩
      exact ⟨h3,Or.inr h4⟩
    · rintro ⟨h3,h4⟩
      have h5:x.1 < m:=h4.resolve_left hm
      refine ⟨⟨h3,?_⟩,h5⟩
      rcases h2 with h2 | h2
      · exact Or.inl h2
      · right
        rcases List.le_iff_lt_or_eq.1 h2 with h6 | h6
        · exact List.lt_trans h5 h6
        · rw [← h6]; exact h5
  · refine List.filter_congr fun x _=>?_
    rw [Bool.eq_iff_iff]
    simp only [inR,Bool.and_eq_true,Bool.or_eq_true,decide_eq_true_eq,Bool.not_eq_true',decide_eq_false_iff_not]
    constructor
    · rintro ⟨⟨_,h4⟩,h5⟩
      exact ⟨List.not_lt.1 h5,h4⟩
    · rintro ⟨h3,h4⟩
      exact ⟨⟨List.le_trans h1 h3,h4⟩,List.not_lt.2 h3⟩
theorem page_items {S:St} {f e:T} {m:Int} (h:1<=m/\m<=16):(pageR S f e m).1=(allR S f e).take m.toNat/\(pageR S f e m).2.2=0:=by
  unfold pageR
  rw [if_pos h]
  split
  · rw [List.take_of_length_le (by assumption)]; exact ⟨rfl,rfl⟩
  · exact ⟨rfl,rfl⟩
end Scn
section
open Sto (T St)
open Tri (Tr Ok hb ix)
open Go.Proofs.YtaficmboooaknaaGreatDoor.Nd (N)
namespace Spn
def keyP (q:T):Option T:=if q.length % 2=0/\Nib.fitL q=true/\Tri.keyed (Nib.joinL q)=true then some (Nib.joinL q) else none
def takeI (f e:T) (n:N) (p:T) (I:St):Option St:=
  if n.val=[] then some I else
    match keyP (p ++ n.path) with
    | none=>none
    | some k=>some (if Scn.inR f e k then I ++ [(k,n.val)] else I)
def kidP (n:N) (p:T) (i:Nat):T:=if n.kind=2 then p ++ n.path else p ++ [UInt8.ofNat i]
def kidsF (g:T->T->St × List T->Option (St × List T)) (n:N) (p:T):List Nat->St × List T->Option (St × List T)
  | [],s=>some s
  | i :: r,s=>if n.kids.getD i []=[] then kidsF g n p r s else
      match g (n.kids.getD i []) (kidP n p i) s with
      | none=>none
      | some s'=>kidsF g n p r s'
def gat (f e:T):Nat->T->T->St × List T->Option (St × List T)
  | 0,_,p,s=>if Tri.inL p f e then none else some s
  | k+1,s,p,st=>if Tri.inL p f e then
      (match st.2 with
      | []=>none
      | x :: r=>if Prf.isN s x then
          (match takeI f e (Nd.dec x).1 p st.1 with
          | none=>none
          | some J=>kidsF (gat f e k) (Nd.dec x).1 p (List.range 16) (J,r))
          else none)
      else some st
theorem kidsF_le {g:T->T->St × List T->Option (St × List T)} {m:Nat} (h:∀ s p st u,st.2.length<=m->g s p st=some u->u.2.length<=st.2.length) (n:N) (p:T) (R:List Nat):∀ st u,st.2.length<=m->kidsF g n p R st=some u->u.2.length<=st.2.length:=by
  induction R with
  | nil=>
    intro st u _ hu
    rw [kidsF] at hu
    rw [← Option.some.inj hu]
    exact Nat.le_refl _
  | cons i r ih=>
    intro st u hm hu
    rw [kidsF] at hu
    split at hu
    · exact ih st u hm hu
    · split at hu
      · cases hu
      · rename_i s' hs'
        have h1:=h _ _ _ _ hm hs'
        have h2:=ih s' u (Nat.le_trans h1 hm) hu
        exact Nat.le_trans h2 h1
theorem gat_le (f e:T) (k:Nat):∀ s p st u,gat f e k s p st=some u->u.2.length<=st.2.length:=by
  induction k with
  | zero=>
    intro s p st u hu
    rw [gat] at hu
    split at hu
    · cases hu
    · rw [← Option.some.inj hu]; exact Nat.le_refl _
  | succ k ih=>
    intro s p st u hu
    rw [gat] at hu
    split at hu
    · split at hu
      · cases hu
      · rename_i x r hst
        split at hu
        · split at hu
          · cases hu
          · have:=kidsF_le (m:=r.length) (fun s p st u _=>ih s p st u) _ _ _ _ u (Nat.le_refl _) hu
            rw [hst,List.length_cons]
            exact Nat.le_succ_of_le this
        · cases hu
    · rw [← Option.some.inj hu]; exact Nat.le_refl _
theorem kidsF_congr {g h:T->T->St × List T->Option (St × List T)} {m:Nat} (hgh:∀ s p st,st.2.length<=m->g s p st=h s p st) (hle:∀ s p st u,st.2.length<=m->g s p st=some u->u.2.length<=st.2.length) (n:N) (p:T) (R:List Nat):∀ st,st.2.length<=m->kidsF g n p R st=kidsF h n p R st:=by
  induction R with
  | nil=>intro st _; rfl
  | cons i r ih=>
    intro st hm
    rw [kidsF,kidsF]
    split
    · exact ih st hm
    · rw [← hgh _ _ st hm]
      cases hc:g (n.kids.getD i []) (kidP n p i) st with
      | none=>rfl
      | some s'=>exact ih s' (Nat.le_trans (hle _ _ _ _ hm hc) hm)
theorem gat_fuel (f e:T) (k:Nat):∀ (k':Nat) s p st,st.2.length<=k->st.2.length<=k'->gat f e k s p st=gat f e k' s p st:=by
  induction k with
  | zero=>
    intro k' s p st h1 _
    obtain ⟨I,L⟩:=st
    obtain rfl:L=[]:=List.length_eq_zero_iff.1 (Nat.le_zero.1 h1)
    cases k' with
    | zero=>rfl
    | succ k'=>rw [gat,gat]
  | succ k ih=>
    intro k' s p st h1 h2
    obtain ⟨I,L⟩:=st
    cases k' with
    | zero=>
      obtain rfl:L=[]:=List.length_eq_zero_iff.1 (Nat.le_zero.1 h2)
      rw [gat,gat]
    | succ k'=>
      rw [gat,gat]
      cases L with
      | nil=>rfl
      | cons x r=>
        have hr1:r.length<=k:=Nat.le_of_succ_le_succ h1
        have hr2:r.length<=k':=Nat.le_of_succ_le_succ h2
        dsimp only
        by_cases hi:Tri.inL p f e=true
        · rw [if_pos hi,if_pos hi]
          by_cases hx:Prf.isN s x=true
          · rw [if_pos hx,if_pos hx]
            cases takeI f e (Nd.dec x).1 p I with
            | none=>rfl
            | some J=>exact kidsF_congr (m:=r.length) (fun s p st h=>ih k' s p st (Nat.le_trans h hr1) (Nat.le_trans h hr2)) (fun s p st u _=>gat_le f e k s p st u) _ _ _ _ (Nat.le_refl _)
          · rw [if_neg hx,if_neg hx]
        · rw [if_neg hi,if_neg hi]
def gather (f e:T) (s p:T) (st:St × List T):Option (St × List T):=gat f e st.2.length s p st
theorem gather_out {f e s p:T} {st:St × List T} (h:Tri.inL p f e=false):gather f e s p st=some st:=by
  unfold gather
  cases st.2.length <;> rw [gat,if_neg (by rw [h]; decide)]
theorem gather_none {f e s p:T} {I:St} (h:Tri.inL p f e=true):gather f e s p (I,[])=none:=by
  unfold gather
  show gat f e 0 s p (I,[])=none
  rw [gat,if_pos h]
theorem gather_cons {f e s p x:T} {I:St} {r:List T} (h:Tri.inL p f e=true):gather f e s p (I,x :: r)=if Prf.isN s x then (match takeI f e (Nd.dec x).1 p I with | none=>none | some J=>kidsF (gather f e) (Nd.dec x).1 p (List.range 16) (J,r)) else none:=by
  unfold gather
  show gat f e (r.length+1) s p (I,x :: r)=_
  rw [gat,if_pos h]
  dsimp only
  by_cases hx:Prf.isN s x=true
  · rw [if_pos hx,if_pos hx]
    cases takeI f e (Nd.dec x).1 p I with
    | none=>rfl
    | some J=>exact kidsF_congr (m:=r.length) (fun s p st h=>gat_fuel f e _ _ s p st h (Nat.le_refl _)) (fun s p st u _=>gat_le f e _ s p st u) _ _ _ _ (Nat.le_refl _)
  · rw [if_neg hx,if_neg hx]
end Spn
end
section
open Sto (T St)
open Tri (Tr Ok hb ix)
open Go.Proofs.YtaficmboooaknaaGreatDoor.Nd (N)
namespace Spn
def covT (f e:T) (t:Tr) (p:T):List T:=((t.spots Nd.sumS p).filter fun x=>Tri.inL x.1 f e).map fun x=>Nd.written x.2
def itemsAt (t:Tr) (p:T):St:=t.items.map fun y=>(p ++ y.1,y.2)
def itmT (f e:T) (t:Tr) (p:T):St:=((itemsAt t p).map fun y=>(Nib.joinL y.1,y.2)).filter fun x=>Scn.inR f e x.1
def KeyedAt (t:Tr) (p:T):Prop:=∀ y ∈ itemsAt t p,∃ k,Nib.ofL k=y.1/\Tri.keyed k=true
def ownI (n:N) (p:T):St:=if n.val=[] then [] else [(p ++ n.path,n.val)]
theorem flatO {α:Type} (f:Fin 16->List α) (i:Fin 16) (h:∀ j,j ≠ i->f j=[]):(List.finRange 16).flatMap f=f i:=by
  have key:∀ L:List (Fin 16),L.Nodup->L.flatMap f=if i ∈ L then f i else []:=by
    intro L
    induction L with
    | nil=>intro _; rfl
    | cons j L ih=>
      intro hn
      obtain ⟨h1,h2⟩:=List.nodup_cons.1 hn
      rw [List.flatMap_cons,ih h2]
      by_cases e:j=i
      · subst e
        rw [if_neg h1,if_pos (List.mem_cons_self ..),List.append_nil]
      · rw [h j e,List.nil_append]
        by_cases hm:i ∈ L
        · rw [if_pos hm,if_pos (List.mem_cons_of_mem _ hm)]
        · rw [if_neg hm,if_neg (fun e2=>(List.mem_cons.1 e2).elim (fun e3=>e e3.symm) hm)]
  rw [key _ (List.nodup_finRange 16),if_pos (List.mem_finRange _)]
theorem flatN {α:Type} (f:Fin 16->List α) (h:∀ j,f j=[]):(List.finRange 16).flatMap f=[]:=by
  rw [List.flatMap_eq_nil_iff]
  exact fun j _=>h j
theorem hb_ofNat (i:Fin 16):UInt8.ofNat i.val=hb i:=rfl
theorem spots_kids {t:Tr} (hn:¬ t.isNil) (p:T):t.spots Nd.sumS p=(p,t.node Nd.sumS) :: (List.finRange 16).flatMap fun i=>(t.kid i).spots Nd.sumS (kidP (t.node Nd.sumS) p i.val):=by
  cases t with
  | nil=>exact absurd trivial hn
  | leaf q v=>
    rw [flatN (fun i:Fin 16=>((Tr.leaf q v).kid i).spots Nd.sumS (kidP ((Tr.leaf q v).node Nd.sumS) p i.val)) (fun j=>rfl)]
    rfl
  | ext q t=>
    rw [flatO _ 0 (fun j hj=>by
      have:(Tr.ext q t).kid j=.nil:=by simp only [Tr.kid]; rw [if_neg hj]
      rw [this]; rfl)]
    rfl
  | br v k=>rfl
theorem items_kids {t:Tr} (hn:¬ t.isNil) (ho:Ok t) (p:T):itemsAt t p=ownI (t.node Nd.sumS) p ++ (List.finRange 16).flatMap fun i=>itemsAt (t.kid i) (kidP (t.node Nd.sumS) p i.val):=by
  cases t with
  | nil=>exact absurd trivial hn
  | leaf q v=>
    rw [flatN (fun i:Fin 16=>itemsAt ((Tr.leaf q v).kid i) (kidP ((Tr.leaf q v).node Nd.sumS) p i.val)) (fun j=>rfl),List.append_nil]
    have hv:v ≠ []:=ho.canon
    show [(p ++ q,v)]=if v=[] then [] else [(p ++ q,v)]
    rw [if_neg hv]
  | ext q t=>
    rw [flatO _ 0 (fun j hj=>by
      have:(Tr.ext q t).kid j=.nil:=by simp only [Tr.kid]; rw [if_neg hj]
      rw [this]; rfl)]
    show ((Tri.behind q t.items).map fun y=>(p ++ y.1,y.2))=[] ++ (t.items.map fun y=>((p ++ q) ++ y.1,y.2))
    unfold Tri.behind
    rw [List.map_map,List.nil_append]
    congr 1
    funext y
    simp
  | br v k=>
    show ((Tri.own v ++ (List.finRange 16).flatMap fun i=>Tri.behind [hb i] (k i).items).map fun y=>(p ++ y.1,y.2))=(if v=[] then [] else [(p ++ [],v)]) ++ (List.finRange 16).flatMap fun i=>(k i).items.map fun y=>((p ++ [UInt8.ofNat i.val]) ++ y.1,y.2)
    rw [List.map_append,List.map_flatMap]
    congr 1
    · unfold Tri.own
      by_cases hv:v=[]
      · rw [if_pos hv,if_pos hv]; rfl
      · rw [if_neg hv,if_neg hv]; rfl
    · congr 1
      funext i
      unfold Tri.behind
      rw [List.map_map]
      congr 1
      funext y
      simp [hb_ofNat]
theorem kid_sum {t:Tr} (i:Fin 16):(t.node Nd.sumS).kids.getD i.val []=(t.kid i).sum Nd.sumS:=by
  cases t with
  | nil=>
    show (List.replicate 16 ([]:T)).getD i.val []=[]
    rw [List.getD_eq_getElem?_getD,List.getElem?_replicate]
    split <;> rfl
  | leaf q v=>
    show (List.replicate 16 ([]:T)).getD i.val []=[]
    rw [List.getD_eq_getElem?_getD,List.getElem?_replicate]
    split <;> rfl
  | ext q t=>
    simp only [Tr.kid]
    by_cases h:i=0
    · subst h; rfl
    · rw [if_neg h]
      show (t.sum Nd.sumS :: List.replicate 15 ([]:T)).getD i.val []=[]
      obtain ⟨j,hj⟩:∃ j,i.val=j+1:=⟨i.val - 1,by have:i.val ≠ 0:=fun e=>h (Fin.ext e); omega⟩
      rw [hj,List.getD_cons_succ,List.getD_eq_getElem?_getD,List.getElem?_replicate]
      split <;> rfl
  | br v k=>
    show (List.ofFn fun i=>(k i).sum Nd.sumS).getD i.val []=(k i).sum Nd.sumS
    rw [List.getD_eq_getElem?_getD,List.getElem?_ofFn,dif_pos i.isLt]
    rfl
theorem keyed_kid {t:Tr} {p:T} (hn:¬ t.isNil) (ho:Ok t) (h:KeyedAt t p) (i:Fin 16):KeyedAt (t.kid i) (kidP (t.node Nd.sumS) p i.val):=fun y hy=>h y (by
  rw [items_kids hn ho]
  exact List.mem_append_right _ (List.mem_flatMap.2 ⟨i,List.mem_finRange i,hy⟩))
theorem cov_nil (f e p:T):covT f e .nil p=[]:=rfl
theorem itm_nil (f e p:T):itmT f e .nil p=[]:=rfl
theorem cov_out {f e:T} (t:Tr) {p:T} (h:Tri.inL p f e=false):covT f e t p=[]:=by
  unfold covT
  rw [List.filter_eq_nil_iff.2,List.map_nil]
  intro x hx hc
  obtain ⟨q,hq⟩:=Prf.spots_pre t p x hx
  rw [hq] at hc
  have h2:Tri.inL p f e=true:=down_in f e p q hc
  rw [h2] at h
  cases h
theorem itm_out {f e:T} {t:Tr} {p:T} (hk:KeyedAt t p) (h:Tri.inL p f e=false):itmT f e t p=[]:=by
  unfold itmT
  rw [List.filter_eq_nil_iff]
  intro x hx hc
  obtain ⟨y,hy,rfl⟩:=List.mem_map.1 hx
  obtain ⟨k,hk1,_⟩:=hk y hy
  obtain ⟨z,_,hz⟩:=List.mem_map.1 hy
  have e1:Nib.joinL y.1=k:=by rw [← hk1,Nib.join_of]
  dsimp only at hc
  rw [e1] at hc
  unfold Scn.inR at hc
  simp only [Bool.and_eq_true,Bool.or_eq_true,decide_eq_true_eq] at hc
  have hb1:Tri.begins p (Nib.ofL k)=true:=by
    rw [hk1,← hz]
    exact Prf.begins_self p z.1
  rw [Tri.in_trail hb1 hc.1 hc.2] at h
  cases h
theorem cov_kids {f e:T} {t:Tr} (hn:¬ t.isNil) {p:T} (h:Tri.inL p f e=true):covT f e t p=Nd.written (t.node Nd.sumS) :: (List.finRange 16).flatMap fun i=>covT f e (t.kid i) (kidP (t.node Nd.sumS) p i.val):=by
  unfold covT
  rw [spots_kids hn,List.filter_cons,if_pos h,List.map_cons,Prf.filter_flat,List.map_flatMap]
theorem itm_kids {f e:T} {t:Tr} (hn:¬ t.isNil) (ho:Ok t) (p:T):itmT f e t p=(((ownI (t.node Nd.sumS) p).map fun y=>(Nib.joinL y.1,y.2)).filter fun x=>Scn.inR f e x.1) ++ (List.finRange 16).flatMap fun i=>itmT f e (t.kid i) (kidP (t.node Nd.sumS) p i.val):=by
  unfold itmT
  rw [items_kids hn ho,List.map_append,List.filter_append,List.map_flatMap]
  congr 1
  induction (List.finRange 16) with
  | nil=>rfl
  | cons a L ih=>rw [List.flatMap_cons,List.filter_append,ih,List.flatMap_cons]
theorem keyP_of {q k:T} (h:Nib.ofL k=q) (hk:Tri.keyed k=true):keyP q=some k:=by
  subst h
  unfold keyP
  rw [Nib.join_of,if_pos ⟨by rw [Nib.ofL_length]; omega,Tri.ofL_fit k,hk⟩]
theorem take_own {f e:T} {t:Tr} {p:T} (hn:¬ t.isNil) (ho:Ok t) (hk:KeyedAt t p) (I:St):takeI f e (t.node Nd.sumS) p I=some (I ++ (((ownI (t.node Nd.sumS) p).map fun y=>(Nib.joinL y.1,y.2)).filter fun x=>Scn.inR f e x.1)):=by
  unfold takeI ownI
  by_cases hv:(t.node Nd.sumS).val=[]
  · rw [if_pos hv,if_pos hv]
    simp
  · rw [if_neg hv,if_neg hv]
    obtain ⟨k,h1,h2⟩:=hk (p ++ (t.node Nd.sumS).path,(t.node Nd.sumS).val) (by
      rw [items_kids hn ho]
      refine List.mem_append_left _ ?_
      unfold ownI
      rw [if_neg hv]
      exact List.mem_cons_self ..)
    dsimp only at h1
    rw [keyP_of h1 h2]
    dsimp only
    have e1:Nib.joinL (p ++ (t.node Nd.sumS).path)=k:=by rw [← h1,Nib.join_of]
    simp only [List.map_cons,List.map_nil,e1]
    by_cases hr:Scn.inR f e k=true
    · simp [hr]
    · simp [hr]
theorem range_fin:List.range 16=(List.finRange 16).map (·.val):=by decide
theorem kidsF_tree {f e:T} {t:Tr} {p:T} (ih:∀ i,¬ (t.kid i).isNil->∀ I L,gather f e ((t.kid i).sum Nd.sumS) (kidP (t.node Nd.sumS) p i.val) (I,covT f e (t.kid i) (kidP (t.node Nd.sumS) p i.val) ++ L)=some (I ++ itmT f e (t.kid i) (kidP (t.node Nd.sumS) p i.val),L)) (ho:Ok t) (R:List (Fin 16)):
    ∀ I L,kidsF (gather f e) (t.node Nd.sumS) p (R.map (·.val)) (I,(R.flatMap fun i=>covT f e (t.kid i) (kidP (t.node Nd.sumS) p i.val)) ++ L)=some (I ++ R.flatMap fun i=>itmT f e (t.kid i) (kidP (t.node Nd.sumS) p i.val),L):=by
  induction R with
  | nil=>intro I L; rw [List.map_nil,kidsF]; simp
  | cons i R ihR=>
    intro I L
    rw [List.map_cons,kidsF,kid_sum,List.flatMap_cons,List.flatMap_cons]
    by_cases hn:(t.kid i).isNil
    · have e0:t.kid i=.nil:=Tri.nil_of_isNil hn
      rw [e0,if_pos (show Tr.sum Nd.sumS .nil=[] from rfl),cov_nil,itm_nil,List.nil_append,List.nil_append]
      exact ihR I L
    · rw [if_neg ((ho.kid i).sum_ne hn),List.append_assoc,ih i hn]
      dsimp only
      rw [ihR,List.append_assoc]
theorem gather_tree (f e:T) (t:Tr):Ok t->¬ t.isNil->∀ p,KeyedAt t p->∀ I L,gather f e (t.sum Nd.sumS) p (I,covT f e t p ++ L)=some (I ++ itmT f e t p,L):=by
  refine Tri.kid_ind (P:=fun t=>Ok t->¬ t.isNil->∀ p,KeyedAt t p->∀ I L,gather f e (t.sum Nd.sumS) p (I,covT f e t p ++ L)=some (I ++ itmT f e t p,L)) (fun _ h=>absurd trivial h) ?_ t
  intro t hn ih ho _ p hk I L
  cases hi:Tri.inL p f e with
  | false=>rw [cov_out t hi,itm_out hk hi,gather_out hi,List.nil_append,List.append_nil]
  | true=>
    rw [cov_kids hn hi,List.cons_append,gather_cons hi,if_pos (show Prf.isN (t.sum Nd.sumS) (Nd.written (t.node Nd.sumS))=true from decide_eq_true ⟨(sum_text ho hn).symm,by rw [Prf.dec_node ho hn]⟩),Prf.dec_node ho hn]
    dsimp only
    rw [take_own hn ho hk]
    dsimp only
    rw [range_fin,kidsF_tree (fun i hn' I L=>ih i (ho.kid i) hn' _ (keyed_kid hn ho hk i) I L) ho,itm_kids hn ho,List.append_assoc]
end Spn
end
section
open Go.RowKit
open Sto (T St)
end
end Go.Proofs.YtaficmboooaknaaGreatDoor
