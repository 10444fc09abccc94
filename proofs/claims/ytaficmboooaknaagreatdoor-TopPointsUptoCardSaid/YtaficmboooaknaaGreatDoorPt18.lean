import Derived.Test.YtaficmboooaknaaGreatDoorPt17
set_option maxRecDepth 100000
set_option maxHeartbeats 16000000
namespace Go.Proofs.YtaficmboooaknaaGreatDoor
section
open Sto (T St)
open Tri (Tr Ok hb ix)
open Nd (N)
namespace Prf
def next (n:N) (l:T):(T × T) ⊕ T:=
  if n.kind=1 then .inr (if n.path=l then n.val else [])
  else if n.kind=2 then (if l.take n.path.length=n.path then .inl (n.kids.getD 0 [],l.drop n.path.length) else .inr [])
  else match l with
    | []=>.inr n.val
    | b::q=>if n.kids.getD b.toNat []=[] then .inr [] else .inl (n.kids.getD b.toNat [],q)
def follow:T->T->List T->Option T
  | _,_,[]=>none
  | s,l,x::r=>
    if Sto.sumOf x=s/\(Nd.dec x).2=0 then
      match next (Nd.dec x).1 l with
      | .inl p=>follow p.1 p.2 r
      | .inr v=>if r=[] then some v else none
    else none
def verify (root key:T) (nodes:List T):T × Bool × Nat:=
  if Tri.keyed key then
    (if root=[] then (if nodes=[] then ([],false,0) else ([],false,130))
    else match follow root (Nib.ofL key) nodes with
      | some v=>(v,decide (v≠[]),0)
      | none=>([],false,130))
  else ([],false,1)
/-! ### the nodes on the way -/
def trail:Tr->T->List N
  | .nil,_=>[]
  | .leaf p v,_=>[Tr.node Nd.sumS (.leaf p v)]
  | .ext p t,l=>Tr.node Nd.sumS (.ext p t)::(if l.take p.length=p then trail t (l.drop p.length) else [])
  | .br v k,[]=>[Tr.node Nd.sumS (.br v k)]
  | .br v k,b::q=>Tr.node Nd.sumS (.br v k)::(if b.toNat<=15 then trail (k (ix b)) q else [])
theorem spots_pre (t:Tr):∀ (p:T),∀ x∈t.spots Nd.sumS p,∃ q,x.1=p++q:=by
  induction t with
  | nil=>intro p x hx; cases hx
  | leaf q v=>intro p x hx; rw [List.mem_singleton.1 hx]; exact ⟨[],by simp⟩
  | ext q t ih=>
    intro p x hx
    rcases List.mem_cons.1 hx with rfl | hx
    · exact ⟨[],by simp⟩
    · obtain ⟨r,hr⟩:=ih _ x hx
      exact ⟨q++r,by rw [hr,List.append_assoc]⟩
  | br v k ih=>
    intro p x hx
    rcases List.mem_cons.1 hx with rfl | hx
    · exact ⟨[],by simp⟩
    · obtain ⟨i,_,hi⟩:=List.mem_flatMap.1 hx
      obtain ⟨r,hr⟩:=ih i _ x hi
      exact ⟨[hb i]++r,by rw [hr,List.append_assoc]⟩
theorem begins_app (p q l:T):Tri.begins (p++q) (p++l)=Tri.begins q l:=by
  unfold Tri.begins
  rw [List.length_append,List.take_append,List.take_of_length_le (Nat.le_add_right _ _),Nat.add_sub_cancel_left]
  simp
theorem begins_self (p l:T):Tri.begins p (p++l)=true:=by
  unfold Tri.begins
  simp
theorem none_of {t:Tr} {p m:T} (h:Tri.begins p m=false):((t.spots Nd.sumS p).filter fun x=>Tri.begins x.1 m)=[]:=by
  rw [List.filter_eq_nil_iff]
  intro x hx
  obtain ⟨q,hq⟩:=spots_pre t p x hx
  have h1:m.take p.length≠p:=of_decide_eq_false h
  intro hb
  have h2:m.take (p++q).length=p++q:=by rw [← hq]; exact of_decide_eq_true hb
  apply h1
  have h3:=congrArg (List.take p.length) h2
  rw [List.take_take,List.length_append,Nat.min_eq_left (by omega),List.take_left] at h3
  exact h3
theorem begins_ext (p q l:T):Tri.begins (p++q) (p++l)=decide (l.take q.length=q):=by rw [begins_app]; rfl
theorem flat_one (f:Fin 16->List (T × N)) (i:Fin 16) (h:∀ j,j≠i->f j=[]):∀ L:List (Fin 16),L.Nodup->L.flatMap f=if i∈L then f i else []:=by
  intro L
  induction L with
  | nil=>intro _; rfl
  | cons j L ih=>
    intro hn
    obtain ⟨h1,h2⟩:=List.nodup_cons.1 hn
    rw [List.flatMap_cons,ih h2]
    by_cases e:j=i
    · subst e
      rw [if_neg h1,if_pos (List.mem_cons_self ..),List.append_nil]
    · rw [h j e,List.nil_append]
      by_cases hm:i∈L
      · rw [if_pos hm,if_pos (List.mem_cons_of_mem _ hm)]
      · rw [if_neg hm,if_neg (fun e2=>(List.mem_cons.1 e2).elim (fun e3=>e e3.symm) hm)]
theorem flat_none (f:Fin 16->List (T × N)) (h:∀ j,f j=[]) (L:List (Fin 16)):L.flatMap f=[]:=by
  rw [List.flatMap_eq_nil_iff]
  exact fun j _=>h j
theorem filter_flat (P:T × N->Bool) (f:Fin 16->List (T × N)) (L:List (Fin 16)):(L.flatMap f).filter P=L.flatMap fun i=>(f i).filter P:=by
  induction L with
  | nil=>rfl
  | cons a L ih=>rw [List.flatMap_cons,List.filter_append,ih,List.flatMap_cons]
theorem trail_spots (t:Tr):∀ (p l:T),((t.spots Nd.sumS p).filter fun x=>Tri.begins x.1 (p++l)).map (·.2)=trail t l:=by
  induction t with
  | nil=>intro p l; rfl
  | leaf q v=>
    intro p l
    rw [Tr.spots,List.filter_cons,if_pos (begins_self p l)]
    rfl
  | ext q t ih=>
    intro p l
    rw [Tr.spots,List.filter_cons,if_pos (begins_self p l),List.map_cons,trail]
    congr 1
    by_cases h:l.take q.length=q
    · rw [if_pos h]
      have e:p++l=(p++q)++l.drop q.length:=by
        rw [List.append_assoc]
        conv=>lhs; rw [← List.take_append_drop q.length l,h]
      rw [e]
      exact ih (p++q) (l.drop q.length)
    · rw [if_neg h,none_of (by rw [begins_ext]; exact decide_eq_false h)]
      rfl
  | br v k ih=>
    intro p l
    rw [Tr.spots,List.filter_cons,if_pos (begins_self p l),List.map_cons,filter_flat]
    cases l with
    | nil=>
      rw [trail,flat_none]
      · rfl
      · intro j
        exact none_of (by rw [begins_ext]; simp)
    | cons b q=>
      rw [trail]
      congr 1
      by_cases hb15:b.toNat<=15
      · rw [if_pos hb15,flat_one _ (ix b) (fun j hj=>none_of (by
          rw [begins_ext]
          simp only [List.length_cons,List.length_nil,Nat.zero_add,List.take_succ_cons,List.take_zero,decide_eq_false_iff_not,List.cons.injEq,and_true]
          intro e
          apply hj
          rw [← Tri.ix_hb j,← e])) _ (List.nodup_finRange 16),if_pos (List.mem_finRange _)]
        have e:p++b::q=(p++[hb (ix b)])++q:=by rw [Tri.hb_ix hb15]; simp
        rw [e]
        exact ih (ix b) (p++[hb (ix b)]) q
      · rw [if_neg hb15,flat_none]
        · rfl
        · intro j
          refine none_of ?_
          rw [begins_ext]
          simp only [List.length_cons,List.length_nil,Nat.zero_add,List.take_succ_cons,List.take_zero,decide_eq_false_iff_not,List.cons.injEq,and_true]
          intro e
          apply hb15
          rw [e,Tri.hb_toNat]
          have:=j.isLt
          omega
theorem trail_wanted (t:Tr) (l:T):wantedT (fun q=>Tri.begins q l) t=(trail t l).map Nd.written:=by
  unfold wantedT
  have h:=trail_spots t [] l
  rw [List.nil_append] at h
  rw [← h,List.map_map]
  rfl
theorem trailS_eq {S:St} {t:Tr} (h:TrS S t) (k:T):trailS S k=(trail t (Nib.ofL k)).map Nd.written:=by
  unfold trailS
  rw [treeS_of h,trail_wanted]
theorem dec_node {t:Tr} (h:Ok t) (hn:¬ t.isNil):Nd.dec (Nd.written (t.node Nd.sumS))=(t.node Nd.sumS,0):=Nd.dec_written _ (Tri.node_kids _ _) (h.fine hn)
theorem next_node {t:Tr} (h:Ok t) (hn:¬ t.isNil) (l:T) (hl:Nib.fitL l=true):
    (∃ i q,next (t.node Nd.sumS) l=.inl ((t.kid i).sum Nd.sumS,q)/\¬ (t.kid i).isNil/\Nib.fitL q=true/\t.get l=(t.kid i).get q/\trail t l=t.node Nd.sumS::trail (t.kid i) q) ∨
    (∃ v,next (t.node Nd.sumS) l=.inr v/\v=(t.get l).getD []/\trail t l=[t.node Nd.sumS]):=by
  cases t with
  | nil=>exact absurd trivial hn
  | leaf p v=>
    refine Or.inr ⟨_,rfl,?_,rfl⟩
    show (if p=l then v else [])=_
    rw [Tr.get]
    by_cases e:p=l
    · rw [if_pos e,if_pos e.symm]; rfl
    · rw [if_neg e,if_neg (fun e2=>e e2.symm)]; rfl
  | ext p t=>
    obtain ⟨v,k,rfl,_⟩:=Tri.ext_br h.canon
    by_cases e:l.take p.length=p
    · refine Or.inl ⟨0,l.drop p.length,?_,id,Tri.fit_drop _ hl,?_,?_⟩
      · show (if l.take p.length=p then _ else _)=_
        rw [if_pos e]; rfl
      · rw [Tr.get,if_pos e]; rfl
      · rw [trail,if_pos e]; rfl
    · refine Or.inr ⟨[],?_,?_,?_⟩
      · show (if l.take p.length=p then _ else _)=_
        rw [if_neg e]
      · rw [Tr.get,if_neg e]; rfl
      · rw [trail,if_neg e]
  | br v k=>
    cases l with
    | nil=>
      refine Or.inr ⟨v,rfl,?_,rfl⟩
      rw [Tr.get]
      by_cases e:v=[]
      · rw [if_pos e,e]; rfl
      · rw [if_neg e]; rfl
    | cons b q=>
      obtain ⟨hb15,hq⟩:=Tri.fit_cons.1 hl
      have hlt:b.toNat<16:=by omega
      have hk:(List.ofFn fun i=>(k i).sum Nd.sumS).getD b.toNat []=(k (ix b)).sum Nd.sumS:=by
        rw [List.getD_eq_getElem?_getD,List.getElem?_ofFn,dif_pos hlt]
        simp only [Option.getD_some]
        congr 2
        exact Fin.ext (by simp [ix]; omega)
      have hnx:next (Tr.node Nd.sumS (.br v k)) (b::q)=if (k (ix b)).sum Nd.sumS=[] then .inr [] else .inl ((k (ix b)).sum Nd.sumS,q):=by
        show (if (List.ofFn fun i=>(k i).sum Nd.sumS).getD b.toNat []=[] then Sum.inr [] else Sum.inl ((List.ofFn fun i=>(k i).sum Nd.sumS).getD b.toNat [],q))=_
        rw [hk]
      by_cases e:(k (ix b)).isNil
      · refine Or.inr ⟨[],?_,?_,?_⟩
        · rw [hnx,if_pos (show (k (ix b)).sum Nd.sumS=[] by rw [Tri.nil_of_isNil e]; rfl)]
        · rw [Tr.get,if_pos hb15,Tri.nil_of_isNil e]; rfl
        · rw [trail,if_pos hb15,Tri.nil_of_isNil e]; rfl
      · refine Or.inl ⟨ix b,q,?_,e,hq,?_,?_⟩
        · rw [hnx,if_neg (show (k (ix b)).sum Nd.sumS≠[] from (h.kid (ix b)).sum_ne e)]; rfl
        · rw [Tr.get,if_pos hb15]; rfl
        · rw [trail,if_pos hb15]; rfl
theorem follow_trail (t:Tr):Ok t->¬ t.isNil->∀ l,Nib.fitL l=true->follow (t.sum Nd.sumS) l ((trail t l).map Nd.written)=some ((t.get l).getD []):=by
  refine Tri.kid_ind (P:=fun t=>Ok t->¬ t.isNil->∀ l,Nib.fitL l=true->follow (t.sum Nd.sumS) l ((trail t l).map Nd.written)=some ((t.get l).getD [])) (fun _ h=>absurd trivial h) ?_ t
  intro t hn ih hok _ l hl
  have hc:Sto.sumOf (Nd.written (t.node Nd.sumS))=t.sum Nd.sumS/\(Nd.dec (Nd.written (t.node Nd.sumS))).2=0:=⟨(sum_text hok hn).symm,by rw [dec_node hok hn]⟩
  rcases next_node hok hn l hl with ⟨i,q,h1,h2,h3,h4,h5⟩ | ⟨v,h1,h2,h3⟩
  · rw [h5,List.map_cons,follow,if_pos hc,dec_node hok hn]
    simp only [h1]
    rw [ih i (hok.kid i) h2 q h3,h4]
  · rw [h3,List.map_cons,follow,if_pos hc,dec_node hok hn]
    simp only [h1,List.map_nil,if_true,h2]
end Prf
end
section
open Sto (T St)
open Nd (N)
namespace Prf
structure Told (n:N):Prop where
  kids:n.kids.length=16
  short:∀ x∈n.kids,x.length<=32
  path:n.path.length<=16
  fit:Nib.fitL n.path=true
  val:n.val.length<=32
  kind:n.kind=1∨(n.kind=2/\n.kids.getD 0 []≠[])∨n.kind=3
theorem Told.of {x:T} (h:(Nd.dec x).2=0):Told (Nd.dec x).1:=by
  rcases Nd.dec_is x with ⟨_,h1,h2,_⟩ | ⟨h1,_⟩
  · unfold Nd.fine at h1
    simp only [Bool.and_eq_true,decide_eq_true_eq] at h1
    obtain ⟨k1,k2,k3,k4,k5⟩:=h1
    refine ⟨h2,fun y hy=>?_,k3,k2,k4,?_⟩
    · have:=List.all_eq_true.1 k1 y hy
      simp only [Bool.or_eq_true,decide_eq_true_eq] at this
      rcases this with e | e
      · rw [e]; simp
      · omega
    · by_cases e1:(Nd.dec x).1.kind=1
      · exact Or.inl e1
      rw [if_neg e1] at k5
      by_cases e2:(Nd.dec x).1.kind=2
      · rw [if_pos e2] at k5
        simp only [Bool.and_eq_true,decide_eq_true_eq] at k5
        exact Or.inr (Or.inl ⟨e2,k5.2.1⟩)
      rw [if_neg e2] at k5
      by_cases e3:(Nd.dec x).1.kind=3
      · exact Or.inr (Or.inr e3)
      · rw [if_neg e3] at k5
        cases k5
  · rw [h] at h1
    cases h1
theorem dec16 (x:T):(Nd.dec x).1.kids.length=16:=by
  rcases Nd.dec_is x with ⟨_,_,h,_⟩ | ⟨_,h,_⟩
  · exact h
  · rw [h]; rfl
def isN (s x:T):Bool:=decide (Sto.sumOf x=s/\(Nd.dec x).2=0)
def fol (s l:T) (L:List T):Option T:=if s=[] then (if L=[] then some [] else none) else follow s l L
theorem fol_nil (l:T) (L:List T):fol [] l L=if L=[] then some [] else none:=by unfold fol; rw [if_pos rfl]
theorem fol_none {s l:T} (hs:s≠[]):fol s l []=none:=by unfold fol; rw [if_neg hs,follow]
theorem fol_bad {s l x:T} {r:List T} (hs:s≠[]) (h:isN s x=false):fol s l (x::r)=none:=by
  unfold fol
  rw [if_neg hs,follow,if_neg (of_decide_eq_false h)]
theorem fol_cons {s l x:T} {r:List T} (hs:s≠[]) (h:isN s x=true):fol s l (x::r)=match next (Nd.dec x).1 l with | .inl p=>follow p.1 p.2 r | .inr v=>if r=[] then some v else none:=by
  unfold fol
  rw [if_neg hs,follow,if_pos (of_decide_eq_true h)]
  first | done | rfl
theorem fol_leaf {s l x:T} {r:List T} {n:N} (hs:s≠[]) (h:isN s x=true) (hn:(Nd.dec x).1=n) (hk:n.kind=1):fol s l (x::r)=if r=[] then some (if n.path=l then n.val else []) else none:=by
  rw [fol_cons hs h,hn]
  unfold next
  rw [if_pos hk]
theorem fol_ext {s l x:T} {r:List T} {n:N} (hs:s≠[]) (h:isN s x=true) (hn:(Nd.dec x).1=n) (hk:n.kind=2) (h0:n.kids.getD 0 []≠[]) (hp:l.take n.path.length=n.path):fol s l (x::r)=fol (n.kids.getD 0 []) (l.drop n.path.length) r:=by
  rw [fol_cons hs h,hn]
  unfold next
  rw [if_neg (by rw [hk]; decide),if_pos hk,if_pos hp]
  unfold fol
  rw [if_neg h0]
theorem fol_off {s l x:T} {r:List T} {n:N} (hs:s≠[]) (h:isN s x=true) (hn:(Nd.dec x).1=n) (hk:n.kind=2) (hp:l.take n.path.length≠n.path):fol s l (x::r)=if r=[] then some [] else none:=by
  rw [fol_cons hs h,hn]
  unfold next
  rw [if_neg (by rw [hk]; decide),if_pos hk,if_neg hp]
theorem fol_end {s x:T} {r:List T} {n:N} (hs:s≠[]) (h:isN s x=true) (hn:(Nd.dec x).1=n) (hk:n.kind=3):fol s [] (x::r)=if r=[] then some n.val else none:=by
  rw [fol_cons hs h,hn]
  unfold next
  rw [if_neg (by rw [hk]; decide),if_neg (by rw [hk]; decide)]
theorem fol_kid {s x q:T} {b:UInt8} {r:List T} {n:N} (hs:s≠[]) (h:isN s x=true) (hn:(Nd.dec x).1=n) (hk:n.kind=3):fol s (b::q) (x::r)=fol (n.kids.getD b.toNat []) q r:=by
  rw [fol_cons hs h,hn]
  unfold next
  rw [if_neg (by rw [hk]; decide),if_neg (by rw [hk]; decide)]
  dsimp only
  by_cases e:n.kids.getD b.toNat []=[]
  · rw [if_pos e,e,fol_nil]
  · rw [if_neg e]
    unfold fol
    rw [if_neg e]
theorem verify_fol (root key:T) (nodes:List T):verify root key nodes=if Tri.keyed key then (match fol root (Nib.ofL key) nodes with | some v=>(v,decide (v≠[]),0) | none=>([],false,130)) else ([],false,1):=by
  unfold verify
  by_cases hk:Tri.keyed key
  · rw [if_pos hk,if_pos hk]
    unfold fol
    by_cases hr:root=[]
    · rw [if_pos hr,if_pos hr]
      by_cases hn:nodes=[]
      · rw [if_pos hn,if_pos hn]; rfl
      · rw [if_neg hn,if_neg hn]
    · rw [if_neg hr,if_neg hr]
      first | done | rfl
  · rw [if_neg hk,if_neg hk]
end Prf
end
namespace Scn
open Sto (T St Rising keys)
def bump:T->T
  | []=>[]
  | a::r=>if bump r≠[] then a::bump r else if a=255 then [] else [a+1]
def behind (x:T):T:=if 8<x.length then [] else if x.length<8 then x++[0] else bump x
theorem bump_len (x:T):(bump x).length<=x.length:=by
  induction x with
  | nil=>simp [bump]
  | cons a r ih=>
    rw [bump]
    split
    · simpa using ih
    · split <;> simp
theorem byte_succ {x y:UInt8} (h:x≠255):x<y↔x+1<=y:=by
  have h1:x.toNat≠255:=fun e=>h (by rw [← UInt8.toNat_inj]; exact e)
  have h2:=x.toNat_lt
  rw [UInt8.lt_iff_toNat_lt,UInt8.le_iff_toNat_le,UInt8.toNat_add]
  have:(1:UInt8).toNat=1:=rfl
  rw [this]
  omega
theorem cons_le {a b:UInt8} {s t:T}:a::s<=b::t↔a<b∨a=b/\s<=t:=by
  rw [List.le_iff_lt_or_eq,List.cons_lt_cons_iff,List.le_iff_lt_or_eq]
  constructor
  · rintro ((h | ⟨h,k⟩) | h)
    · exact Or.inl h
    · exact Or.inr ⟨h,Or.inl k⟩
    · obtain ⟨h1,h2⟩:=List.cons.inj h
      exact Or.inr ⟨h1,Or.inr h2⟩
  · rintro (h | ⟨h,k | k⟩)
    · exact Or.inl (Or.inl h)
    · exact Or.inl (Or.inr ⟨h,k⟩)
    · exact Or.inr (by rw [h,k])
theorem nil_le (s:T):([]:T)<=s:=by
  cases s with
  | nil=>exact List.le_refl _
  | cons a s=>exact List.le_of_lt (List.nil_lt_cons _ _)
theorem bump_least (a:T):∀ b:T,b.length<=a.length->(bump a=[]->b<=a)/\(bump a≠[]->a<bump a/\(a<b↔bump a<=b)):=by
  induction a with
  | nil=>
    intro b hb
    obtain rfl:b=[]:=List.eq_nil_of_length_eq_zero (by simpa using hb)
    exact ⟨fun _=>List.le_refl _,fun h=>absurd rfl h⟩
  | cons x r ih=>
    intro b hb
    rw [bump]
    by_cases hr:bump r≠[]
    · rw [if_pos hr]
      refine ⟨fun h=>by simp at h,fun _=>?_⟩
      have hlt:=((ih [] (by simp)).2 hr).1
      refine ⟨List.cons_lt_cons_iff.2 (Or.inr ⟨rfl,hlt⟩),?_⟩
      cases b with
      | nil=>
        constructor
        · intro h; exact absurd h (List.not_lt_nil _)
        · intro h
          exact absurd (List.nil_lt_cons x (bump r)) (List.not_lt.2 h)
      | cons y s=>
        have:=((ih s (by simpa using hb)).2 hr).2
        rw [List.cons_lt_cons_iff,cons_le,this]
    · rw [if_neg hr]
      have hr:bump r=[]:=Classical.byContradiction hr
      by_cases hx:x=255
      · rw [if_pos hx]
        refine ⟨fun _=>?_,fun h=>absurd rfl h⟩
        cases b with
        | nil=>exact nil_le _
        | cons y s=>
          have h1:=(ih s (by simpa using hb)).1 hr
          rw [cons_le]
          by_cases hy:y=255
          · exact Or.inr ⟨by rw [hx,hy],h1⟩
          · left
            rw [hx,UInt8.lt_iff_toNat_lt]
            have h2:y.toNat≠255:=fun e=>hy (by rw [← UInt8.toNat_inj]; exact e)
            have:=y.toNat_lt
            have:(255:UInt8).toNat=255:=rfl
            omega
      · rw [if_neg hx]
        refine ⟨fun h=>by simp at h,fun _=>?_⟩
        refine ⟨List.cons_lt_cons_iff.2 (Or.inl ((byte_succ hx).2 (UInt8.le_refl _))),?_⟩
        cases b with
        | nil=>
          constructor
          · intro h; exact absurd h (List.not_lt_nil _)
          · intro h; exact absurd (List.nil_lt_cons (x+1) []) (List.not_lt.2 h)
        | cons y s=>
          have h1:=(ih s (by simpa using hb)).1 hr
          rw [List.cons_lt_cons_iff,cons_le]
          constructor
          · rintro (h | ⟨_,h⟩)
            · have h2:=(byte_succ hx).1 h
              by_cases e:x+1=y
              · exact Or.inr ⟨e,nil_le _⟩
              · left
                rw [UInt8.lt_iff_toNat_lt]
                rw [UInt8.le_iff_toNat_le] at h2
                have:(x+1).toNat≠y.toNat:=fun e2=>e (UInt8.toNat_inj.1 e2)
                omega
            · exact absurd h (List.not_lt.2 h1)
          · rintro (h | ⟨h,_⟩)
            · exact Or.inl ((byte_succ hx).2 (UInt8.le_of_lt h))
            · exact Or.inl ((byte_succ hx).2 (by rw [h]; exact UInt8.le_refl _))
theorem zero_least (a b:T):a<b↔a++[0]<=b:=by
  induction a generalizing b with
  | nil=>
    cases b with
    | nil=>simp [List.not_lt_nil]
    | cons y s=>
      rw [List.nil_append,cons_le]
      refine ⟨fun _=>?_,fun _=>List.nil_lt_cons _ _⟩
      by_cases e:(0:UInt8)=y
      · exact Or.inr ⟨e,nil_le _⟩
      · left
        rw [UInt8.lt_iff_toNat_lt]
        have:y.toNat≠0:=fun h=>e (by rw [← UInt8.toNat_inj]; exact h.symm)
        have:(0:UInt8).toNat=0:=rfl
        omega
  | cons x r ih=>
    cases b with
    | nil=>simp [List.not_lt_nil,List.cons_append,← List.not_lt]
    | cons y s=>rw [List.cons_append,List.cons_lt_cons_iff,cons_le,ih]
theorem above_zero (a:T):a<a++[0]:=(zero_least a _).2 (List.le_refl _)
theorem behind_least {a b:T} (ha:a.length<=8) (hb:b.length<=8):(behind a=[]->b<=a)/\(behind a≠[]->a<behind a/\(behind a).length<=8/\(a<b↔behind a<=b)):=by
  unfold behind
  rw [if_neg (by omega)]
  by_cases h:a.length<8
  · rw [if_pos h]
    exact ⟨fun e=>by simp at e,fun _=>⟨above_zero a,by simp; omega,zero_least a b⟩⟩
  · rw [if_neg h]
    obtain ⟨h1,h2⟩:=bump_least a b (by omega)
    exact ⟨h1,fun e=>⟨(h2 e).1,Nat.le_trans (bump_len a) ha,(h2 e).2⟩⟩
theorem behind_long {a:T} (h:8<a.length):behind a=[]:=if_pos h
/-! ### ranges -/
def inR (f e k:T):Bool:=decide (f<=k)&&(decide (e=[]) || decide (k<e))
def allR (S:St) (f e:T):St:=S.filter fun x=>inR f e x.1
def pageR (S:St) (f e:T) (m:Int):St × T × Nat:=
  if 1<=m/\m<=16 then (if (allR S f e).length<=m.toNat then (allR S f e,[],0) else ((allR S f e).take m.toNat,behind ((allR S f e).getD (m.toNat - 1) ([],[])).1,0)) else ([],[],1)
theorem allR_rise {S:St} (h:Rising S) (f e:T):Rising (allR S f e):=List.Pairwise.sublist List.filter_sublist h
theorem allR_next {S:St} (hS:Rising S) (h8:∀ x∈S,x.1.length<=8) (f e:T) (m:Nat) (h1:1<=m) (hm:m<(allR S f e).length):
    behind ((allR S f e)[m - 1]'(by omega)).1≠[]/\allR S (behind ((allR S f e)[m - 1]'(by omega)).1) e=(allR S f e).drop m:=by
  obtain ⟨A,hA⟩:∃ A,allR S f e=A:=⟨_,rfl⟩
  have hAr:Rising A:=by rw [← hA]; exact allR_rise hS f e
  have hAS:∀ x∈A,x∈S/\inR f e x.1=true:=fun x hx=>by rw [← hA] at hx; exact List.mem_filter.1 hx
  simp only [hA] at hm ⊢
  obtain ⟨a,ha⟩:∃ a,A[m - 1]'(by omega)=a:=⟨_,rfl⟩
  rw [ha]
  have haA:a∈A:=by rw [← ha]; exact List.getElem_mem _
  have ha8:=h8 a (hAS a haA).1
  have hlt:a.1<(A[m]).1:=by
    rw [← ha]
    exact List.pairwise_iff_getElem.1 hAr (m - 1) m (by omega) hm (by omega)
  have hb8:=h8 A[m] (hAS _ (List.getElem_mem hm)).1
  have hne:behind a.1≠[]:=fun e0=>absurd hlt (List.not_lt.2 ((behind_least ha8 hb8).1 e0))
  refine ⟨hne,?_⟩
  have hiff:∀ x∈S,(inR (behind a.1) e x.1=true↔(inR f e x.1=true/\a.1<x.1)):=fun x hx=>by
    have h2:=((behind_least ha8 (h8 x hx)).2 hne).2.2
    have hfa:f<=a.1:=by
      have:=(hAS a haA).2
      simp only [inR,Bool.and_eq_true,decide_eq_true_eq] at this
      exact this.1
    simp only [inR,Bool.and_eq_true,Bool.or_eq_true,decide_eq_true_eq]
    constructor
    · rintro ⟨h3,h4⟩
      have h5:=h2.2 h3
      exact ⟨⟨List.le_trans hfa (List.le_of_lt h5),h4⟩,h5⟩
    · rintro ⟨⟨_,h4⟩,h5⟩
      exact ⟨h2.1 h5,h4⟩
  have e1:allR S (behind a.1) e=A.filter fun x=>decide (a.1<x.1):=by
    rw [← hA]
    unfold allR
    rw [List.filter_filter]
    refine List.filter_congr fun x hx=>?_
    have:=hiff x hx
    by_cases h:inR (behind a.1) e x.1=true
    · rw [h]; obtain ⟨q1,q2⟩:=this.1 h; simp [q1,q2]
    · have h':inR (behind a.1) e x.1=false:=by simpa using h
      rw [h']
      symm
      rw [Bool.and_eq_false_iff]
      by_cases hq:inR f e x.1=true
      · left
        exact decide_eq_false (fun h3=>h (this.2 ⟨hq,h3⟩))
      · right; simpa using hq
  rw [e1]
  conv=>lhs; rw [← List.take_append_drop m A]
  rw [List.filter_append]
  have f1:(A.take m).filter (fun x=>decide (a.1<x.1))=[]:=by
    rw [List.filter_eq_nil_iff]
    intro x hx
    obtain ⟨i,hi,rfl⟩:=List.mem_take_iff_getElem.1 hx
    simp only [decide_eq_true_eq]
    intro h
    have him:i<m:=by omega
    rcases Nat.lt_or_ge i (m - 1) with h3 | h3
    · have:=List.pairwise_iff_getElem.1 hAr i (m - 1) (by omega) (by omega) h3
      rw [ha] at this
      exact List.lt_irrefl _ (List.lt_trans h this)
    · obtain rfl:i=m - 1:=by omega
      rw [ha] at h
      exact List.lt_irrefl _ h
  have f2:(A.drop m).filter (fun x=>decide (a.1<x.1))=A.drop m:=by
    rw [List.filter_eq_self]
    intro x hx
    obtain ⟨i,hi,rfl⟩:=List.mem_drop_iff_getElem.1 hx
    rw [decide_eq_true_eq,← ha]
    exact List.pairwise_iff_getElem.1 hAr (m - 1) (m+i) (by omega) (by omega) (by omega)
  rw [f1,f2,List.nil_append]
/-! ### a range cut in two -/
theorem filter_cut {S:St} (hS:Rising S) (q:T × T->Bool) (c:T):S.filter q=S.filter (fun x=>q x&&decide (x.1<c))++S.filter (fun x=>q x&&!decide (x.1<c)):=by
  induction S with
  | nil=>rfl
  | cons a r ih=>
    obtain ⟨h1,h2⟩:=List.pairwise_cons.1 hS
    have e:=ih h2
    by_cases hc:a.1<c
    · by_cases hq:q a=true
      · simp [hq,hc,e]
      · simp [hq,e]
    · have hn:r.filter (fun x=>q x&&decide (x.1<c))=[]:=by
        rw [List.filter_eq_nil_iff]
        intro x hx
        simp only [Bool.and_eq_true,decide_eq_true_eq,not_and]
        exact fun _ h=>hc (List.lt_trans (h1 x hx) h)
      rw [hn,List.nil_append] at e
      by_cases hq:q a=true
      · simp [hq,hc,hn,e]
      · simp [hq,hn,e]
theorem allR_cut {S:St} (hS:Rising S) {f m e:T} (h1:f<=m) (h2:e=[]∨m<=e) (hm:m≠[]):allR S f e=allR S f m++allR S m e:=by
  unfold allR
  rw [filter_cut hS _ m]
  congr 1
  · refine List.filter_congr fun x _=>?_
    rw [Bool.eq_iff_iff]
    simp only [inR,Bool.and_eq_true,Bool.or_eq_true,decide_eq_true_eq]
    constructor
    · rintro ⟨⟨h3,_⟩,h4⟩
      exact ⟨h3,Or.inr h4⟩
    · rintro ⟨h3,h4⟩
      have h5:x.1<m:=h4.resolve_left hm
      refine ⟨⟨h3,?_⟩,h5⟩
      rcases h2 with h2 | h2
      · exact Or.inl h2
      · right
        rcases List.le_iff_lt_or_eq.1 h2 with h6 | h6
        · exact List.lt_trans h5 h6
        · rw [← h6]; exact h5
  · refine List.filter_congr fun x _=>?_
    rw [Bool.eq_iff_iff]
    simp only [inR,Bool.and_eq_true,Bool.or_eq_true,decide_eq_true_eq,Bool.not_eq_true',decide_eq_false_iff_not]
    constructor
    · rintro ⟨⟨_,h4⟩,h5⟩
      exact ⟨List.not_lt.1 h5,h4⟩
    · rintro ⟨h3,h4⟩
      exact ⟨⟨List.le_trans h1 h3,h4⟩,List.not_lt.2 h3⟩
end Scn
section
open Sto (T St)
open Tri (Tr Ok hb ix)
open Nd (N)
namespace Spn
def keyP (q:T):Option T:=if q.length % 2=0/\Nib.fitL q=true/\Tri.keyed (Nib.joinL q)=true then some (Nib.joinL q) else none
def takeI (f e:T) (n:N) (p:T) (I:St):Option St:=
  if n.val=[] then some I else
    match keyP (p++n.path) with
    | none=>none
    | some k=>some (if Scn.inR f e k then I++[(k,n.val)] else I)
def kidP (n:N) (p:T) (i:Nat):T:=if n.kind=2 then p++n.path else p++[UInt8.ofNat i]
def kidsF (g:T->T->St × List T->Option (St × List T)) (n:N) (p:T):List Nat->St × List T->Option (St × List T)
  | [],s=>some s
  | i::r,s=>if n.kids.getD i []=[] then kidsF g n p r s else
      match g (n.kids.getD i []) (kidP n p i) s with
      | none=>none
      | some s'=>kidsF g n p r s'
def gat (f e:T):Nat->T->T->St × List T->Option (St × List T)
  | 0,_,p,s=>if Tri.inL p f e then none else some s
  | k+1,s,p,st=>if Tri.inL p f e then
      (match st.2 with
      | []=>none
      | x::r=>if Prf.isN s x then
          (match takeI f e (Nd.dec x).1 p st.1 with
          | none=>none
          | some J=>kidsF (gat f e k) (Nd.dec x).1 p (List.range 16) (J,r))
          else none)
      else some st
theorem kidsF_le {g:T->T->St × List T->Option (St × List T)} {m:Nat} (h:∀ s p st u,st.2.length<=m->g s p st=some u->u.2.length<=st.2.length) (n:N) (p:T) (R:List Nat):∀ st u,st.2.length<=m->kidsF g n p R st=some u->u.2.length<=st.2.length:=by
  induction R with
  | nil=>
    intro st u _ hu
    rw [kidsF] at hu
    rw [← Option.some.inj hu]
    exact Nat.le_refl _
  | cons i r ih=>
    intro st u hm hu
    rw [kidsF] at hu
    split at hu
    · exact ih st u hm hu
    · split at hu
      · cases hu
      · rename_i s' hs'
        have h1:=h _ _ _ _ hm hs'
        have h2:=ih s' u (Nat.le_trans h1 hm) hu
        exact Nat.le_trans h2 h1
theorem gat_le (f e:T) (k:Nat):∀ s p st u,gat f e k s p st=some u->u.2.length<=st.2.length:=by
  induction k with
  | zero=>
    intro s p st u hu
    rw [gat] at hu
    split at hu
    · cases hu
    · rw [← Option.some.inj hu]; exact Nat.le_refl _
  | succ k ih=>
    intro s p st u hu
    rw [gat] at hu
    split at hu
    · split at hu
      · cases hu
      · rename_i x r hst
        split at hu
        · split at hu
          · cases hu
          · have:=kidsF_le (m:=r.length) (fun s p st u _=>ih s p st u) _ _ _ _ u (Nat.le_refl _) hu
            rw [hst,List.length_cons]
            exact Nat.le_succ_of_le this
        · cases hu
    · rw [← Option.some.inj hu]; exact Nat.le_refl _
theorem kidsF_congr {g h:T->T->St × List T->Option (St × List T)} {m:Nat} (hgh:∀ s p st,st.2.length<=m->g s p st=h s p st) (hle:∀ s p st u,st.2.length<=m->g s p st=some u->u.2.length<=st.2.length) (n:N) (p:T) (R:List Nat):∀ st,st.2.length<=m->kidsF g n p R st=kidsF h n p R st:=by
  induction R with
  | nil=>intro st _; rfl
  | cons i r ih=>
    intro st hm
    rw [kidsF,kidsF]
    split
    · exact ih st hm
    · rw [← hgh _ _ st hm]
      cases hc:g (n.kids.getD i []) (kidP n p i) st with
      | none=>rfl
      | some s'=>exact ih s' (Nat.le_trans (hle _ _ _ _ hm hc) hm)
theorem gat_fuel (f e:T) (k:Nat):∀ (k':Nat) s p st,st.2.length<=k->st.2.length<=k'->gat f e k s p st=gat f e k' s p st:=by
  induction k with
  | zero=>
    intro k' s p st h1 _
    obtain ⟨I,L⟩:=st
    obtain rfl:L=[]:=List.length_eq_zero_iff.1 (Nat.le_zero.1 h1)
    cases k' with
    | zero=>rfl
    | succ k'=>rw [gat,gat]
  | succ k ih=>
    intro k' s p st h1 h2
    obtain ⟨I,L⟩:=st
    cases k' with
    | zero=>
      obtain rfl:L=[]:=List.length_eq_zero_iff.1 (Nat.le_zero.1 h2)
      rw [gat,gat]
    | succ k'=>
      rw [gat,gat]
      cases L with
      | nil=>rfl
      | cons x r=>
        have hr1:r.length<=k:=Nat.le_of_succ_le_succ h1
        have hr2:r.length<=k':=Nat.le_of_succ_le_succ h2
        dsimp only
        by_cases hi:Tri.inL p f e=true
        · rw [if_pos hi,if_pos hi]
          by_cases hx:Prf.isN s x=true
          · rw [if_pos hx,if_pos hx]
            cases takeI f e (Nd.dec x).1 p I with
            | none=>rfl
            | some J=>exact kidsF_congr (m:=r.length) (fun s p st h=>ih k' s p st (Nat.le_trans h hr1) (Nat.le_trans h hr2)) (fun s p st u _=>gat_le f e k s p st u) _ _ _ _ (Nat.le_refl _)
          · rw [if_neg hx,if_neg hx]
        · rw [if_neg hi,if_neg hi]
def gather (f e:T) (s p:T) (st:St × List T):Option (St × List T):=gat f e st.2.length s p st
theorem gather_out {f e s p:T} {st:St × List T} (h:Tri.inL p f e=false):gather f e s p st=some st:=by
  unfold gather
  cases st.2.length <;> rw [gat,if_neg (by rw [h]; decide)]
theorem gather_none {f e s p:T} {I:St} (h:Tri.inL p f e=true):gather f e s p (I,[])=none:=by
  unfold gather
  show gat f e 0 s p (I,[])=none
  rw [gat,if_pos h]
theorem gather_cons {f e s p x:T} {I:St} {r:List T} (h:Tri.inL p f e=true):gather f e s p (I,x::r)=if Prf.isN s x then (match takeI f e (Nd.dec x).1 p I with | none=>none | some J=>kidsF (gather f e) (Nd.dec x).1 p (List.range 16) (J,r)) else none:=by
  unfold gather
  show gat f e (r.length+1) s p (I,x::r)=_
  rw [gat,if_pos h]
  dsimp only
  by_cases hx:Prf.isN s x=true
  · rw [if_pos hx,if_pos hx]
    cases takeI f e (Nd.dec x).1 p I with
    | none=>rfl
    | some J=>exact kidsF_congr (m:=r.length) (fun s p st h=>gat_fuel f e _ _ s p st h (Nat.le_refl _)) (fun s p st u _=>gat_le f e _ s p st u) _ _ _ _ (Nat.le_refl _)
  · rw [if_neg hx,if_neg hx]
end Spn
namespace Spn
def covT (f e:T) (t:Tr) (p:T):List T:=((t.spots Nd.sumS p).filter fun x=>Tri.inL x.1 f e).map fun x=>Nd.written x.2
def itemsAt (t:Tr) (p:T):St:=t.items.map fun y=>(p++y.1,y.2)
def itmT (f e:T) (t:Tr) (p:T):St:=((itemsAt t p).map fun y=>(Nib.joinL y.1,y.2)).filter fun x=>Scn.inR f e x.1
def KeyedAt (t:Tr) (p:T):Prop:=∀ y∈itemsAt t p,∃ k,Nib.ofL k=y.1/\Tri.keyed k=true
def ownI (n:N) (p:T):St:=if n.val=[] then [] else [(p++n.path,n.val)]
theorem flatO {α:Type} (f:Fin 16->List α) (i:Fin 16) (h:∀ j,j≠i->f j=[]):(List.finRange 16).flatMap f=f i:=by
  have key:∀ L:List (Fin 16),L.Nodup->L.flatMap f=if i∈L then f i else []:=by
    intro L
    induction L with
    | nil=>intro _; rfl
    | cons j L ih=>
      intro hn
      obtain ⟨h1,h2⟩:=List.nodup_cons.1 hn
      rw [List.flatMap_cons,ih h2]
      by_cases e:j=i
      · subst e
        rw [if_neg h1,if_pos (List.mem_cons_self ..),List.append_nil]
      · rw [h j e,List.nil_append]
        by_cases hm:i∈L
        · rw [if_pos hm,if_pos (List.mem_cons_of_mem _ hm)]
        · rw [if_neg hm,if_neg (fun e2=>(List.mem_cons.1 e2).elim (fun e3=>e e3.symm) hm)]
  rw [key _ (List.nodup_finRange 16),if_pos (List.mem_finRange _)]
theorem flatN {α:Type} (f:Fin 16->List α) (h:∀ j,f j=[]):(List.finRange 16).flatMap f=[]:=by
  rw [List.flatMap_eq_nil_iff]
  exact fun j _=>h j
theorem hb_ofNat (i:Fin 16):UInt8.ofNat i.val=hb i:=rfl
theorem spots_kids {t:Tr} (hn:¬ t.isNil) (p:T):t.spots Nd.sumS p=(p,t.node Nd.sumS)::(List.finRange 16).flatMap fun i=>(t.kid i).spots Nd.sumS (kidP (t.node Nd.sumS) p i.val):=by
  cases t with
  | nil=>exact absurd trivial hn
  | leaf q v=>
    rw [flatN (fun i:Fin 16=>((Tr.leaf q v).kid i).spots Nd.sumS (kidP ((Tr.leaf q v).node Nd.sumS) p i.val)) (fun j=>rfl)]
    rfl
  | ext q t=>
    rw [flatO _ 0 (fun j hj=>by
      have:(Tr.ext q t).kid j=.nil:=by simp only [Tr.kid]; rw [if_neg hj]
      rw [this]; rfl)]
    rfl
  | br v k=>rfl
theorem items_kids {t:Tr} (hn:¬ t.isNil) (ho:Ok t) (p:T):itemsAt t p=ownI (t.node Nd.sumS) p++(List.finRange 16).flatMap fun i=>itemsAt (t.kid i) (kidP (t.node Nd.sumS) p i.val):=by
  cases t with
  | nil=>exact absurd trivial hn
  | leaf q v=>
    rw [flatN (fun i:Fin 16=>itemsAt ((Tr.leaf q v).kid i) (kidP ((Tr.leaf q v).node Nd.sumS) p i.val)) (fun j=>rfl),List.append_nil]
    have hv:v≠[]:=ho.canon
    show [(p++q,v)]=if v=[] then [] else [(p++q,v)]
    rw [if_neg hv]
  | ext q t=>
    rw [flatO _ 0 (fun j hj=>by
      have:(Tr.ext q t).kid j=.nil:=by simp only [Tr.kid]; rw [if_neg hj]
      rw [this]; rfl)]
    show ((Tri.behind q t.items).map fun y=>(p++y.1,y.2))=[]++(t.items.map fun y=>((p++q)++y.1,y.2))
    unfold Tri.behind
    rw [List.map_map,List.nil_append]
    congr 1
    funext y
    simp
  | br v k=>
    show ((Tri.own v++(List.finRange 16).flatMap fun i=>Tri.behind [hb i] (k i).items).map fun y=>(p++y.1,y.2))=(if v=[] then [] else [(p++[],v)])++(List.finRange 16).flatMap fun i=>(k i).items.map fun y=>((p++[UInt8.ofNat i.val])++y.1,y.2)
    rw [List.map_append,List.map_flatMap]
    congr 1
    · unfold Tri.own
      by_cases hv:v=[]
      · rw [if_pos hv,if_pos hv]; rfl
      · rw [if_neg hv,if_neg hv]; rfl
    · congr 1
      funext i
      unfold Tri.behind
      rw [List.map_map]
      congr 1
      funext y
      simp [hb_ofNat]
theorem kid_sum {t:Tr} (i:Fin 16):(t.node Nd.sumS).kids.getD i.val []=(t.kid i).sum Nd.sumS:=by
  cases t with
  | nil=>
    show (List.replicate 16 ([]:T)).getD i.val []=[]
    rw [List.getD_eq_getElem?_getD,List.getElem?_replicate]
    split <;> rfl
  | leaf q v=>
    show (List.replicate 16 ([]:T)).getD i.val []=[]
    rw [List.getD_eq_getElem?_getD,List.getElem?_replicate]
    split <;> rfl
  | ext q t=>
    simp only [Tr.kid]
    by_cases h:i=0
    · subst h; rfl
    · rw [if_neg h]
      show (t.sum Nd.sumS::List.replicate 15 ([]:T)).getD i.val []=[]
      obtain ⟨j,hj⟩:∃ j,i.val=j+1:=⟨i.val - 1,by have:i.val≠0:=fun e=>h (Fin.ext e); omega⟩
      rw [hj,List.getD_cons_succ,List.getD_eq_getElem?_getD,List.getElem?_replicate]
      split <;> rfl
  | br v k=>
    show (List.ofFn fun i=>(k i).sum Nd.sumS).getD i.val []=(k i).sum Nd.sumS
    rw [List.getD_eq_getElem?_getD,List.getElem?_ofFn,dif_pos i.isLt]
    rfl
theorem keyed_kid {t:Tr} {p:T} (hn:¬ t.isNil) (ho:Ok t) (h:KeyedAt t p) (i:Fin 16):KeyedAt (t.kid i) (kidP (t.node Nd.sumS) p i.val):=fun y hy=>h y (by
  rw [items_kids hn ho]
  exact List.mem_append_right _ (List.mem_flatMap.2 ⟨i,List.mem_finRange i,hy⟩))
theorem cov_nil (f e p:T):covT f e .nil p=[]:=rfl
theorem itm_nil (f e p:T):itmT f e .nil p=[]:=rfl
theorem cov_out {f e:T} (t:Tr) {p:T} (h:Tri.inL p f e=false):covT f e t p=[]:=by
  unfold covT
  rw [List.filter_eq_nil_iff.2,List.map_nil]
  intro x hx hc
  obtain ⟨q,hq⟩:=Prf.spots_pre t p x hx
  rw [hq] at hc
  have h2:Tri.inL p f e=true:=down_in f e p q hc
  rw [h2] at h
  cases h
theorem itm_out {f e:T} {t:Tr} {p:T} (hk:KeyedAt t p) (h:Tri.inL p f e=false):itmT f e t p=[]:=by
  unfold itmT
  rw [List.filter_eq_nil_iff]
  intro x hx hc
  obtain ⟨y,hy,rfl⟩:=List.mem_map.1 hx
  obtain ⟨k,hk1,_⟩:=hk y hy
  obtain ⟨z,_,hz⟩:=List.mem_map.1 hy
  have e1:Nib.joinL y.1=k:=by rw [← hk1,Nib.join_of]
  dsimp only at hc
  rw [e1] at hc
  unfold Scn.inR at hc
  simp only [Bool.and_eq_true,Bool.or_eq_true,decide_eq_true_eq] at hc
  have hb1:Tri.begins p (Nib.ofL k)=true:=by
    rw [hk1,← hz]
    exact Prf.begins_self p z.1
  rw [Tri.in_trail hb1 hc.1 hc.2] at h
  cases h
theorem cov_kids {f e:T} {t:Tr} (hn:¬ t.isNil) {p:T} (h:Tri.inL p f e=true):covT f e t p=Nd.written (t.node Nd.sumS)::(List.finRange 16).flatMap fun i=>covT f e (t.kid i) (kidP (t.node Nd.sumS) p i.val):=by
  unfold covT
  rw [spots_kids hn,List.filter_cons,if_pos h,List.map_cons,Prf.filter_flat,List.map_flatMap]
theorem itm_kids {f e:T} {t:Tr} (hn:¬ t.isNil) (ho:Ok t) (p:T):itmT f e t p=(((ownI (t.node Nd.sumS) p).map fun y=>(Nib.joinL y.1,y.2)).filter fun x=>Scn.inR f e x.1)++(List.finRange 16).flatMap fun i=>itmT f e (t.kid i) (kidP (t.node Nd.sumS) p i.val):=by
  unfold itmT
  rw [items_kids hn ho,List.map_append,List.filter_append,List.map_flatMap]
  congr 1
  induction (List.finRange 16) with
  | nil=>rfl
  | cons a L ih=>rw [List.flatMap_cons,List.filter_append,ih,List.flatMap_cons]
theorem keyP_of {q k:T} (h:Nib.ofL k=q) (hk:Tri.keyed k=true):keyP q=some k:=by
  subst h
  unfold keyP
  rw [Nib.join_of,if_pos ⟨by rw [Nib.ofL_length]; omega,Tri.ofL_fit k,hk⟩]
theorem take_own {f e:T} {t:Tr} {p:T} (hn:¬ t.isNil) (ho:Ok t) (hk:KeyedAt t p) (I:St):takeI f e (t.node Nd.sumS) p I=some (I++(((ownI (t.node Nd.sumS) p).map fun y=>(Nib.joinL y.1,y.2)).filter fun x=>Scn.inR f e x.1)):=by
  unfold takeI ownI
  by_cases hv:(t.node Nd.sumS).val=[]
  · rw [if_pos hv,if_pos hv]
    simp
  · rw [if_neg hv,if_neg hv]
    obtain ⟨k,h1,h2⟩:=hk (p++(t.node Nd.sumS).path,(t.node Nd.sumS).val) (by
      rw [items_kids hn ho]
      refine List.mem_append_left _ ?_
      unfold ownI
      rw [if_neg hv]
      exact List.mem_cons_self ..)
    dsimp only at h1
    rw [keyP_of h1 h2]
    dsimp only
    have e1:Nib.joinL (p++(t.node Nd.sumS).path)=k:=by rw [← h1,Nib.join_of]
    simp only [List.map_cons,List.map_nil,e1]
    by_cases hr:Scn.inR f e k=true
    · simp [hr]
    · simp [hr]
theorem range_fin:List.range 16=(List.finRange 16).map (·.val):=by decide
theorem kidsF_tree {f e:T} {t:Tr} {p:T} (ih:∀ i,¬ (t.kid i).isNil->∀ I L,gather f e ((t.kid i).sum Nd.sumS) (kidP (t.node Nd.sumS) p i.val) (I,covT f e (t.kid i) (kidP (t.node Nd.sumS) p i.val)++L)=some (I++itmT f e (t.kid i) (kidP (t.node Nd.sumS) p i.val),L)) (ho:Ok t) (R:List (Fin 16)):
    ∀ I L,kidsF (gather f e) (t.node Nd.sumS) p (R.map (·.val)) (I,(R.flatMap fun i=>covT f e (t.kid i) (kidP (t.node Nd.sumS) p i.val))++L)=some (I++R.flatMap fun i=>itmT f e (t.kid i) (kidP (t.node Nd.sumS) p i.val),L):=by
  induction R with
  | nil=>intro I L; rw [List.map_nil,kidsF]; simp
  | cons i R ihR=>
    intro I L
    rw [List.map_cons,kidsF,kid_sum,List.flatMap_cons,List.flatMap_cons]
    by_cases hn:(t.kid i).isNil
    · have e0:t.kid i=.nil:=Tri.nil_of_isNil hn
      rw [e0,if_pos (show Tr.sum Nd.sumS .nil=[] from rfl),cov_nil,itm_nil,List.nil_append,List.nil_append]
      exact ihR I L
    · rw [if_neg ((ho.kid i).sum_ne hn),List.append_assoc,ih i hn]
      dsimp only
      rw [ihR,List.append_assoc]
theorem gather_tree (f e:T) (t:Tr):Ok t->¬ t.isNil->∀ p,KeyedAt t p->∀ I L,gather f e (t.sum Nd.sumS) p (I,covT f e t p++L)=some (I++itmT f e t p,L):=by
  refine Tri.kid_ind (P:=fun t=>Ok t->¬ t.isNil->∀ p,KeyedAt t p->∀ I L,gather f e (t.sum Nd.sumS) p (I,covT f e t p++L)=some (I++itmT f e t p,L)) (fun _ h=>absurd trivial h) ?_ t
  intro t hn ih ho _ p hk I L
  cases hi:Tri.inL p f e with
  | false=>rw [cov_out t hi,itm_out hk hi,gather_out hi,List.nil_append,List.append_nil]
  | true=>
    rw [cov_kids hn hi,List.cons_append,gather_cons hi,if_pos (show Prf.isN (t.sum Nd.sumS) (Nd.written (t.node Nd.sumS))=true from decide_eq_true ⟨(sum_text ho hn).symm,by rw [Prf.dec_node ho hn]⟩),Prf.dec_node ho hn]
    dsimp only
    rw [take_own hn ho hk]
    dsimp only
    rw [range_fin,kidsF_tree (fun i hn' I L=>ih i (ho.kid i) hn' _ (keyed_kid hn ho hk i) I L) ho,itm_kids hn ho,List.append_assoc]
end Spn
end
section
open Go.RowKit
open Sto (T St)
def sumsL (L:List T):List T:=L.map Sto.sumOf
theorem sumsL_take {L:List T} {k:Nat} (h:k<L.length):sumsL (L.take (k+1))=sumsL (L.take k)++[Sto.sumOf L[k]]:=by
  unfold sumsL
  rw [List.take_succ_eq_append_getElem h,List.map_append]; rfl
theorem sumsL_len (L:List T):(sumsL L).length=L.length:=List.length_map ..
theorem sumsL_at (L:List T) (i:Nat) (h:i<L.length):(sumsL L)[i]'(by rw [sumsL_len]; exact h)=Sto.sumOf L[i]:=List.getElem_map ..
def BadAt (Z L:List T) (i k:Nat):Prop:=Z[i]?=Z[k]?/\L[i]?≠L[k]?
theorem no_clash {L:List T} (h:∀ (i k:Nat) (hi:i<L.length) (hk:k<i),¬ (Sto.sumOf L[i]=Sto.sumOf (L[k]'(by omega))/\L[i]≠L[k]'(by omega))):¬ Clash L:=by
  rintro ⟨s,hs,t,ht,hne,he⟩
  obtain ⟨i,hi,rfl⟩:=List.mem_iff_getElem.1 hs
  obtain ⟨k,hk,rfl⟩:=List.mem_iff_getElem.1 ht
  rcases Nat.lt_trichotomy k i with h1 | h1 | h1
  · exact h i k hi h1 ⟨he,hne⟩
  · subst h1; exact hne rfl
  · exact h k i hk h1 ⟨he.symm,fun e=>hne e.symm⟩
def UnlikePost (L:List T) (w:World) (e:Ending) (w':World):Prop:=∃ b:Bool,e=.returned (.bool b)/\(Clash L->b=true)/\Below w.heap.size w w'
theorem no_bad {L:List T} (h:∀ i,i<L.length->∀ k,k<i->¬ BadAt (sumsL L) L i k):¬ Clash L:=by
  refine no_clash fun i k hi hk hb=>h i hi k hk ⟨?_,?_⟩
  · have h1:=sumsL_at L i hi
    have h2:=sumsL_at L k (by omega)
    rw [List.getElem?_eq_getElem (by rw [sumsL_len]; exact hi),List.getElem?_eq_getElem (by rw [sumsL_len]; omega),h1,h2,hb.1]
  · rw [List.getElem?_eq_getElem hi,List.getElem?_eq_getElem (by omega)]
    exact fun e=>hb.2 (Option.some.inj e)
theorem runlike_any (L:List T) (v:Value) (w:World) (hv:Strs w v L) (hl:L.length<=100000) (hsh:∀ x∈L,x.length<=999):
    Calls Tryz.prog 25 #[.int .i64 1,v] w (UnlikePost L w):=by
  obtain ⟨A,cap,rfl,hc⟩:=id hv
  have HV:=qh hv
  have HL:=qh hl
  have HTG:Hid (∀ k (h:k<L.length) w',Calls Tryz.prog 50 #[.int .i64 1,.string ⟨L[k].toArray⟩] w' fun e w''=>e=.returned (.string ⟨(Sto.sumOf L[k]).toArray⟩)/\Below w'.heap.size w' w''):=qh (fun k h w'=>by
    have:=rTagged_any 1 L[k] w' (hsh _ (List.getElem_mem h))
    unfold Sto.sumOf Dig.sum
    rw [if_pos (by decide)]
    exact this)
  have HB0:=qh (Below.refl w.heap.size w)
  have HN0:=qh (Own.nil w w.heap.size)
  clear hv hc hsh
  go_enter Tryz.func25,Tryz.ntmps25
  go_wp2
  go_loopw [5,6] (fun av iv wr=>∃ (k:Nat) (u:Value),u=av/\k<=L.length/\iv=.int .i64 k/\Own wr w.heap.size u (sumsL (L.take k))/\Below w.heap.size w wr) (fun _ i _=>L.length - (intOf i).toNat)
  case atStart=>exact ⟨0,_,rfl,Nat.zero_le _,rfl,HN0.out,HB0.out⟩
  case round=>
    obtain ⟨k,u,rfl,hk,rfl,hu,hb0⟩:=hrel
    have HB:=qh hb0
    have HU:=qh hu
    by_cases hlt:k<L.length
    · have h1:(k:Int)<(L.length:Int):=by omega
      have h0:(0:Int)<=(k:Int):=by omega
      have hnb:(k:Int)<=100000:=by have:=HL.out; omega
      obtain ⟨A',cap',hv',hc'⟩:=HV.out.below hb0
      obtain ⟨rfl,-⟩:A=A'/\_:=by simpa using hv'
      obtain ⟨a,rfl,hcell⟩:=hc' k hlt
      have HTK:=qh (sumsL_take hlt)
      have HTL:Hid ((sumsL (L.take k)).length<=100000):=qh (by rw [sumsL_len,List.length_take]; exact Nat.le_trans (Nat.min_le_right _ _) HL.out)
      have HT:=qh (HTG.out k hlt wr)
      obtain ⟨y,hy⟩:∃ y,L[k]=y:=⟨_,rfl⟩
      rw [hy] at hcell HT HTK
      obtain ⟨s,hs⟩:∃ s,Sto.sumOf y=s:=⟨_,rfl⟩
      rw [hs] at HTK HT
      clear hu hb0 hv' hc' hy hs
      go_wp2_with fail
      refine HT.out.mono ?_
      rintro e w1 ⟨rfl,hb1⟩
      obtain ⟨g5,c5,w5,r5,o5,b5⟩:=app_one s (HU.out.below hb1) HTL.out (bchain HB.out hb1).size
      have HR5:=qh r5
      have HO5:=qh o5
      have HB5:Hid (Below w.heap.size w w5):=qh ((bchain HB.out hb1).trans b5)
      clear hb1 r5 o5 b5 hcell
      go_wp2_with (at_builtin; refine wpList_append_run rfl _ _ _ rfl u (.slice (some ⟨w1.heap.size,0,none⟩) 1 1) _ (by rfl) (by rfl) HR5.out ?_)
      exact ⟨⟨k+1,_,rfl,by omega,by go_num,by rw [HTK.out]; exact HO5.out,HB5.out⟩,by simp [intOf]; omega⟩
    · obtain rfl:k=L.length:=by omega
      have h1:¬ ((L.length:Int)<(L.length:Int)):=by omega
      rw [List.take_length] at hu
      have HNB:=qh (@no_bad L)
      have HSL:Hid ((sumsL L).length=L.length):=qh (sumsL_len L)
      obtain ⟨As,cs,rfl⟩:=own_form hu
      have HU2:=qh hu
      have HV2:=qh (HV.out.below hb0)
      obtain ⟨w1,rfl⟩:∃ y,y=wr:=⟨_,rfl⟩
      clear hu hb0
      rw [HSL.out]
      obtain ⟨Z,hZ⟩:∃ Z,sumsL L=Z:=⟨_,rfl⟩
      have HZS:Hid (Own w1 w.heap.size (.slice As Z.length cs) Z):=qh (by rw [← hZ]; exact HU2.out)
      rw [hZ] at HNB HSL
      have hzl:Z.length=L.length:=HSL.out
      have hl1:=HL.out
      clear hZ HU HU2 HTG HN0 HB0
      go_wp2
      go_loopw [7] (fun iv wr=>∃ i:Nat,i<=L.length/\iv=.int .i64 i/\Below w1.heap.size w1 wr/\∀ i',i'<i->∀ k,k<i'->¬ BadAt Z L i' k) (fun i _=>L.length - (intOf i).toNat)
      case atStart=>exact ⟨0,Nat.zero_le _,rfl,Below.refl _ _,fun i' h=>by omega⟩
      case round=>
        obtain ⟨i,hi,rfl,hb1,hg⟩:=hrel
        have HB1:=qh hb1
        have HG:=qh hg
        obtain ⟨wo,rfl⟩:∃ y,y=wr:=⟨_,rfl⟩
        by_cases hlt:i<L.length
        · have h2:(i:Int)<(L.length:Int):=by omega
          have h3:(0:Int)<=(i:Int):=by omega
          have hnb:(i:Int)<=100000:=by omega
          clear hb1 hg
          go_wp2
          go_loopw [8] (fun kv wr=>∃ k:Nat,k<=i/\kv=.int .i64 k/\Below w1.heap.size w1 wr/\∀ k',k'<k->¬ BadAt Z L i k') (fun k _=>i - (intOf k).toNat)
          case atStart=>exact ⟨0,Nat.zero_le _,rfl,HB1.out,fun k' h=>by omega⟩
          case round=>
            obtain ⟨k,hk,rfl,hb2,hg2⟩:=hrel
            have HB2:=qh hb2
            have HG2:=qh hg2
            by_cases hlk:k<i
            · have k1:(k:Int)<(i:Int):=by omega
              have k2:(k:Int)<(L.length:Int):=by omega
              have k3:(0:Int)<=(k:Int):=by omega
              have knb:(k:Int)<=100000:=by omega
              have hown:=HZS.out.below hb2
              obtain ⟨a,ra,ci⟩:=hown.strs_at (Below.refl _ _) i (by omega)
              obtain ⟨a2,ra2,ck⟩:=hown.strs_at (Below.refl _ _) k (by omega)
              subst ra
              obtain rfl:a=a2:=by simpa using ra2
              obtain ⟨A',cap',hv',hc'⟩:=HV2.out.below hb2
              obtain ⟨rfl,-⟩:A=A'/\_:=by simpa using hv'
              obtain ⟨b,rb,di⟩:=hc' i (by omega)
              obtain ⟨b2,rb2,dk⟩:=hc' k (by omega)
              subst rb
              obtain rfl:b=b2:=by simpa using rb2
              have HBA:Hid (BadAt Z L i k↔Z[i]'(by omega)=Z[k]'(by omega)/\L[i]≠L[k]'(by omega)):=qh (by
                unfold BadAt
                rw [List.getElem?_eq_getElem (by omega),List.getElem?_eq_getElem (by omega),List.getElem?_eq_getElem hlt,List.getElem?_eq_getElem (by omega)]
                simp)
              obtain ⟨zi,hzi⟩:∃ x,Z[i]'(by omega)=x:=⟨_,rfl⟩
              obtain ⟨zk,hzk⟩:∃ x,Z[k]'(by omega)=x:=⟨_,rfl⟩
              obtain ⟨li,hli⟩:∃ x,L[i]=x:=⟨_,rfl⟩
              obtain ⟨lk,hlk2⟩:∃ x,L[k]'(by omega)=x:=⟨_,rfl⟩
              rw [hzi] at ci
              rw [hzk] at ck
              rw [hli] at di
              rw [hlk2] at dk
              rw [hzi,hzk,hli,hlk2] at HBA
              clear hb2 hg2 hown ra2 hv' hc' rb2 hzi hzk hli hlk2
              by_cases ez:zi=zk
              · have e1:(zi == zk)=true:=by rw [beq_iff_eq]; exact ez
                have EZ:=qh ez
                clear ez
                by_cases el:li=lk
                · have e2:(li == lk)=true:=by rw [beq_iff_eq]; exact el
                  have e3:(li != lk)=false:=by rw [el]; simp
                  have HNO:Hid (¬ BadAt Z L i k):=qh (fun h=>(HBA.out.1 h).2 el)
                  clear el
                  go_wp2
                  go_quiet (fail)
                  go_wp2
                  go_roundw
                  case rel=>exact ⟨k+1,by omega,by go_num,bel_drewN HB2.out _,fun k' h=>by
                    rcases Nat.lt_or_ge k' k with h2 | h2
                    · exact HG2.out k' h2
                    · obtain rfl:k'=k:=by omega
                      exact HNO.out⟩
                  case measure=>simp [intOf]; omega
                · have e2:(li == lk)=false:=by rw [beq_eq_false_iff_ne]; exact el
                  have e3:(li != lk)=true:=by rw [bne_iff_ne]; exact el
                  clear el
                  go_wp2
                  go_quiet (fail)
                  go_wp2
                  go_ret
                  exact ⟨true,rfl,fun _=>rfl,HB.out.trans (bel_drewN HB2.out _ |>.mono HB.out.size)⟩
              · have e1:(zi == zk)=false:=by rw [beq_eq_false_iff_ne]; exact ez
                have HNO:Hid (¬ BadAt Z L i k):=qh (fun h=>ez (HBA.out.1 h).1)
                clear ez
                go_wp2
                go_quiet (fail)
                go_wp2
                go_roundw
                case rel=>exact ⟨k+1,by omega,by go_num,bel_drewN HB2.out _,fun k' h=>by
                  rcases Nat.lt_or_ge k' k with h2 | h2
                  · exact HG2.out k' h2
                  · obtain rfl:k'=k:=by omega
                    exact HNO.out⟩
                case measure=>simp [intOf]; omega
            · obtain rfl:k=i:=by omega
              have k1:¬ ((k:Int)<(k:Int)):=by omega
              clear hb2 hg2
              go_wp2
              go_roundw
              case rel=>exact ⟨k+1,by omega,by go_num,HB2.out,fun i' h=>by
                rcases Nat.lt_or_ge i' k with h2 | h2
                · exact HG.out i' h2
                · obtain rfl:i'=k:=by omega
                  exact HG2.out⟩
              case measure=>simp [intOf]; omega
        · obtain rfl:i=L.length:=by omega
          have h2:¬ ((L.length:Int)<(L.length:Int)):=by omega
          clear hb1 hg
          go_wp2
          go_ret
          exact ⟨false,rfl,fun h=>absurd h (HNB.out HG.out),HB.out.trans (HB1.out.mono HB.out.size)⟩
end
section
open Sto (T St)
open Tri (Tr Ok)
open Nd (N)
namespace Prf
theorem root_sum {S:St} {t:Tr} (h:TrS S t):rootS S=t.sum Nd.sumS:=by
  unfold rootS
  rw [treeS_of h]
theorem empty_of {S:St} {t:Tr} (h:TrS S t) (hn:t.isNil):S=[]:=by
  rw [Tri.nil_of_isNil hn] at h
  exact h.one TrS.empty
theorem code_ok {S:St} {k:T} (hk:Tri.keyed k=true):(Tri.getC S k).1=(Sto.look S k).getD []/\((Tri.getC S k).2=0↔Sto.look S k≠none):=by
  cases hl:Sto.look S k with
  | none=>rw [Tri.getC_none hk hl]; exact ⟨rfl,by simp⟩
  | some v=>rw [Tri.getC_some hk hl]; exact ⟨rfl,by simp⟩
theorem get_is {S:St} {t:Tr} (h:TrS S t) {k v:T} (hk:Tri.keyed k=true) (hv:v=(Sto.look S k).getD []):v=(Tri.getC S k).1/\decide (v≠[])=decide ((Tri.getC S k).2=0):=by
  obtain ⟨h1,h2⟩:=code_ok (S:=S) hk
  refine ⟨hv.trans h1.symm,?_⟩
  rw [decide_eq_decide,h2,hv]
  cases hl:Sto.look S k with
  | none=>simp
  | some u=>simpa using h.look_ne hl
theorem verify_whole {S:St} {t:Tr} (h:TrS S t) {k:T} (hk:Tri.keyed k=true):verify (rootS S) k (trailS S k)=((Tri.getC S k).1,decide ((Tri.getC S k).2=0),0):=by
  unfold verify
  rw [if_pos hk]
  by_cases hn:t.isNil
  · obtain rfl:=empty_of h hn
    have e1:rootS []=[]:=by rw [root_sum TrS.empty]; rfl
    have e2:trailS [] k=[]:=by rw [trailS_eq TrS.empty]; rfl
    rw [e1,e2,if_pos rfl,if_pos rfl,Tri.getC_none hk rfl]
    rfl
  · have e1:rootS S≠[]:=by rw [root_sum h]; exact h.ok.sum_ne hn
    rw [if_neg e1,root_sum h,trailS_eq h,follow_trail t h.ok hn _ (Tri.ofL_fit k)]
    have hg:(t.get (Nib.ofL k)).getD []=(Sto.look S k).getD []:=by rw [h.tree.get h.rise]
    obtain ⟨q1,q2⟩:=get_is h hk hg
    dsimp only
    rw [q2,q1]
def wP:List T:=[[1,1,2,32,107,1,1,118]]
theorem wK_tr:TrS Tri.wK (.leaf [6,11] [118]):=⟨Tri.wU_tree,List.pairwise_singleton ..,by decide,by decide⟩
theorem wK_trail (k:T):trailS Tri.wK k=wP:=by
  rw [trailS_eq wK_tr]
  show [Nd.written (Tr.node Nd.sumS (.leaf [6,11] [118]))]=_
  rw [Tri.wU_text]
  rfl
theorem wK_k:verify (rootS Tri.wK) [107] wP=([118],true,0):=by
  have h:=verify_whole wK_tr (k:=[107]) (by decide)
  rw [wK_trail] at h
  rw [h]
  decide +kernel
end Prf
end
end Go.Proofs.YtaficmboooaknaaGreatDoor
