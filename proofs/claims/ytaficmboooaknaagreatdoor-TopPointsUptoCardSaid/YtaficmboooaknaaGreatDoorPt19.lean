import Derived.Test.YtaficmboooaknaaGreatDoorPt18
set_option maxRecDepth 100000
set_option maxHeartbeats 16000000
namespace Go.Proofs.YtaficmboooaknaaGreatDoor
section
open Sto (T St Rising)
open Tri (Tr Ok)
open Scn (allR pageR inR behind)
namespace Spn
def upTo (next e:T):T:=if next=[] then e else next
def verifyP (root f e:T) (m:Int) (I:St) (next:T) (L:List T):St × T × Nat:=
  if ¬ (1<=m/\m<=16) then ([],[],1)
  else if m<(I.length:Int) then ([],[],130)
  else if next≠[]/\((I.length:Int)≠m∨behind (I.getD (m.toNat - 1) ([],[])).1≠next∨(e≠[]/\¬ next<e)) then ([],[],130)
  else if root=[] then (if L≠[]∨I≠[] then ([],[],130) else ([],[],0))
  else match gather f (upTo next e) root [] ([],L) with
    | some (J,M)=>if M=[]/\J=I then (I,next,0) else ([],[],130)
    | none=>([],[],130)
/-! ### a trie -/
theorem items_paths {S:St} {t:Tr} (h:TrS S t):itemsAt t []=S.map fun x=>(Nib.ofL x.1,x.2):=by
  unfold itemsAt
  rw [h.tree.2.2]
  simp [Tri.paths]
theorem keyed_tree {S:St} {t:Tr} (h:TrS S t):KeyedAt t []:=fun y hy=>by
  rw [items_paths h] at hy
  obtain ⟨x,hx,rfl⟩:=List.mem_map.1 hy
  have:=h.fair x hx
  exact ⟨x.1,rfl,by simp [Tri.keyed]; omega⟩
theorem itm_tree {S:St} {t:Tr} (h:TrS S t) (f e:T):itmT f e t []=allR S f e:=by
  unfold itmT
  rw [items_paths h,List.map_map]
  have e1:(S.map ((fun y:T × T=>(Nib.joinL y.1,y.2)) ∘ fun x=>(Nib.ofL x.1,x.2)))=S:=by
    conv=>rhs; rw [← List.map_id S]
    congr 1
    funext x
    simp [Nib.join_of]
  rw [e1]
  rfl
theorem cov_tree {S:St} {t:Tr} (h:TrS S t) (f e:T):covT f e t []=coverS S f e:=by
  unfold coverS
  rw [treeS_of h]
  rfl
theorem gather_trie {S:St} {t:Tr} (h:TrS S t) (hr:rootS S≠[]) (f e:T) (I:St) (L:List T):gather f e (rootS S) [] (I,coverS S f e++L)=some (I++allR S f e,L):=by
  have hn:¬ t.isNil:=fun e=>hr (by rw [Prf.root_sum h,Tri.nil_of_isNil e]; rfl)
  rw [Prf.root_sum h,← cov_tree h,← itm_tree h]
  exact gather_tree f e t h.ok hn [] (keyed_tree h) I L
theorem root_none {S:St} {t:Tr} (h:TrS S t) (hr:rootS S=[]):S=[]:=by
  have hn:t.isNil:=Classical.byContradiction fun e=>h.ok.sum_ne e (by rw [← Prf.root_sum h]; exact hr)
  exact Prf.empty_of h hn
theorem cover_none (f e:T):coverS [] f e=[]:=by
  rw [← cov_tree TrS.empty]
  rfl
theorem keys_short {S:St} {t:Tr} (h:TrS S t):∀ x∈S,x.1.length<=8:=fun x hx=>(h.fair x hx).2.1
theorem page_reach {S:St} {t:Tr} (h:TrS S t) (f e:T) {m:Int} (hm:1<=m/\m<=16):
    ((pageR S f e m).2.1=[]/\(pageR S f e m).1=allR S f e/\(allR S f e).length<=m.toNat) ∨
    ((pageR S f e m).2.1≠[]/\(pageR S f e m).1.length=m.toNat/\m.toNat<(allR S f e).length/\behind ((pageR S f e m).1.getD (m.toNat - 1) ([],[])).1=(pageR S f e m).2.1/\(e=[]∨(pageR S f e m).2.1<e)/\f<=(pageR S f e m).2.1/\(pageR S f e m).1=allR S f (pageR S f e m).2.1/\allR S (pageR S f e m).2.1 e=(allR S f e).drop m.toNat):=by
  unfold pageR
  rw [if_pos hm]
  by_cases hl:(allR S f e).length<=m.toNat
  · rw [if_pos hl]
    exact Or.inl ⟨rfl,rfl,hl⟩
  · rw [if_neg hl]
    have h1:1<=m.toNat:=by omega
    have hlt:m.toNat<(allR S f e).length:=by omega
    obtain ⟨hne,hdr⟩:=Scn.allR_next h.rise (keys_short h) f e m.toNat h1 hlt
    have eg:(allR S f e).getD (m.toNat - 1) ([],[])=(allR S f e)[m.toNat - 1]'(by omega):=by
      rw [List.getD_eq_getElem?_getD,List.getElem?_eq_getElem (by omega)]
      rfl
    have et:((allR S f e).take m.toNat).getD (m.toNat - 1) ([],[])=(allR S f e)[m.toNat - 1]'(by omega):=by
      rw [List.getD_eq_getElem?_getD,List.getElem?_eq_getElem (by simp; omega),List.getElem_take]
      rfl
    dsimp only
    rw [eg,et]
    obtain ⟨a,ha⟩:∃ a,(allR S f e)[m.toNat - 1]'(by omega)=a:=⟨_,rfl⟩
    rw [ha] at hne hdr ⊢
    have haA:a∈allR S f e:=by rw [← ha]; exact List.getElem_mem _
    have hbA:(allR S f e)[m.toNat]∈allR S f e:=List.getElem_mem _
    obtain ⟨haS,hain⟩:=List.mem_filter.1 haA
    obtain ⟨hbS,hbin⟩:=List.mem_filter.1 hbA
    have hab:a.1<((allR S f e)[m.toNat]).1:=by
      rw [← ha]
      exact List.pairwise_iff_getElem.1 (Scn.allR_rise h.rise f e) (m.toNat - 1) m.toNat (by omega) hlt (by omega)
    have hle:=(((Scn.behind_least (keys_short h a haS) (keys_short h _ hbS)).2 hne).2.2).1 hab
    have hup:=((Scn.behind_least (keys_short h a haS) (keys_short h _ hbS)).2 hne).1
    simp only [inR,Bool.and_eq_true,Bool.or_eq_true,decide_eq_true_eq] at hain hbin
    have hend:e=[]∨behind a.1<e:=hbin.2.imp id (fun h=>List.lt_of_le_of_lt hle h)
    have hfn:f<=behind a.1:=List.le_trans hain.1 (List.le_of_lt hup)
    refine Or.inr ⟨hne,by simp; omega,hlt,rfl,hend,hfn,?_,hdr⟩
    have hcut:=Scn.allR_cut h.rise hfn (hend.imp id List.le_of_lt) hne
    rw [hdr] at hcut
    have hsplit:=List.take_append_drop m.toNat (allR S f e)
    exact List.append_cancel_right (hsplit.trans hcut)
theorem verify_whole {S:St} {t:Tr} (h:TrS S t) (f e:T) {m:Int} (hm:1<=m/\m<=16):
    verifyP (rootS S) f e m (pageR S f e m).1 (pageR S f e m).2.1 (coverS S f (upTo (pageR S f e m).2.1 e))=((pageR S f e m).1,(pageR S f e m).2.1,0):=by
  have hreach:(pageR S f e m).1=allR S f (upTo (pageR S f e m).2.1 e):=by
    rcases page_reach h f e hm with ⟨h1,h2,_⟩ | ⟨h1,_,_,_,_,_,h2,_⟩
    · rw [h1,h2]; unfold upTo; rw [if_pos rfl]
    · conv=>lhs; rw [h2]
      unfold upTo; rw [if_neg h1]
  have hlen:((pageR S f e m).1.length:Int)<=m:=by
    rcases page_reach h f e hm with ⟨_,h2,h3⟩ | ⟨_,h2,_⟩
    · rw [h2]; omega
    · rw [h2]; omega
  have hnx:¬ ((pageR S f e m).2.1≠[]/\(((pageR S f e m).1.length:Int)≠m∨behind ((pageR S f e m).1.getD (m.toNat - 1) ([],[])).1≠(pageR S f e m).2.1∨(e≠[]/\¬ (pageR S f e m).2.1<e))):=by
    rintro ⟨q1,q2⟩
    rcases page_reach h f e hm with ⟨h1,_,_⟩ | ⟨_,h2,_,h3,h4,_⟩
    · exact q1 h1
    · rcases q2 with q | q | ⟨q,q'⟩
      · rw [h2] at q; omega
      · exact q h3
      · exact h4.elim q q'
  obtain ⟨P,hP⟩:∃ P,pageR S f e m=P:=⟨_,rfl⟩
  rw [hP] at hreach hlen hnx ⊢
  unfold verifyP
  rw [if_neg (fun q=>q hm),if_neg (by omega),if_neg hnx]
  by_cases hr:rootS S=[]
  · obtain rfl:=root_none h hr
    have e0:P.1=[]:=by rw [hreach]; rfl
    have en:P.2.1=[]:=by rw [← hP]; unfold pageR; rw [if_pos hm,if_pos (show (allR [] f e).length<=m.toNat from Nat.zero_le _)]
    rw [if_pos hr,cover_none,e0,en]
    simp
  · rw [if_neg hr]
    have hg:=gather_trie h hr f (upTo P.2.1 e) [] []
    rw [List.append_nil,List.nil_append] at hg
    rw [hg]
    dsimp only
    rw [if_pos ⟨rfl,hreach.symm⟩]
theorem verify_ok {root f e:T} {m:Int} {I:St} {next:T} {L:List T} (h:(verifyP root f e m I next L).2.2=0):
    (1<=m/\m<=16)/\(I.length:Int)<=m/\(next=[]∨((I.length:Int)=m/\behind (I.getD (m.toNat - 1) ([],[])).1=next/\(e=[]∨next<e)))/\verifyP root f e m I next L=(I,next,0)/\((root=[]/\L=[]/\I=[]/\next=[])∨(root≠[]/\gather f (upTo next e) root [] ([],L)=some (I,[]))):=by
  unfold verifyP at h ⊢
  by_cases hm:1<=m/\m<=16
  case neg=>rw [if_pos hm] at h; cases h
  rw [if_neg (fun q=>q hm)] at h ⊢
  by_cases hl:m<(I.length:Int)
  · rw [if_pos hl] at h; cases h
  rw [if_neg hl] at h ⊢
  by_cases hx:next≠[]/\((I.length:Int)≠m∨behind (I.getD (m.toNat - 1) ([],[])).1≠next∨(e≠[]/\¬ next<e))
  · rw [if_pos hx] at h; cases h
  rw [if_neg hx] at h ⊢
  have hnx:next=[]∨((I.length:Int)=m/\behind (I.getD (m.toNat - 1) ([],[])).1=next/\(e=[]∨next<e)):=by
    by_cases hn:next=[]
    · exact Or.inl hn
    · refine Or.inr ⟨Classical.byContradiction fun q=>hx ⟨hn,Or.inl q⟩,Classical.byContradiction fun q=>hx ⟨hn,Or.inr (Or.inl q)⟩,?_⟩
      by_cases he:e=[]
      · exact Or.inl he
      · exact Or.inr (Classical.byContradiction fun q=>hx ⟨hn,Or.inr (Or.inr ⟨he,q⟩)⟩)
  refine ⟨hm,by omega,hnx,?_⟩
  by_cases hr:root=[]
  · rw [if_pos hr] at h ⊢
    by_cases hL:L≠[]∨I≠[]
    · rw [if_pos hL] at h; cases h
    · rw [if_neg hL]
      have hL0:L=[]:=Classical.byContradiction fun q=>hL (Or.inl q)
      have hI0:I=[]:=Classical.byContradiction fun q=>hL (Or.inr q)
      have hn0:next=[]:=by
        rcases hnx with q | ⟨q,_⟩
        · exact q
        · rw [hI0] at q; simp at q; omega
      rw [hI0,hn0]
      exact ⟨rfl,Or.inl ⟨hr,hL0,rfl,rfl⟩⟩
  · rw [if_neg hr] at h ⊢
    cases hg:gather f (upTo next e) root [] ([],L) with
    | none=>rw [hg] at h; cases h
    | some u=>
      obtain ⟨J,M⟩:=u
      rw [hg] at h
      dsimp only at h ⊢
      by_cases hJ:M=[]/\J=I
      · rw [if_pos hJ]
        exact ⟨rfl,Or.inr ⟨hr,by rw [hJ.1,hJ.2]⟩⟩
      · rw [if_neg hJ] at h; cases h
end Spn
end
section
open Sto (T St)
open Tri (Tr Ok)
open Scn (inR allR pageR)
open Nd (N)
namespace Spn
structure Told2 (n:N):Prop where
  leaf:n.kind=1->n.val≠[]/\n.kids=Nd.none16
  ext:n.kind=2->n.val=[]/\n.kids.set 0 []=Nd.none16
  br:n.kind=3->n.path=[]
theorem Told2.of {x:T} (h:(Nd.dec x).2=0):Told2 (Nd.dec x).1:=by
  have h16:=Prf.dec16 x
  rcases Nd.dec_is x with ⟨_,h1,_,_⟩ | ⟨h1,_⟩
  · rw [Nd.fine_kinds _ h16] at h1
    refine ⟨fun e=>?_,fun e=>?_,fun e=>?_⟩
    · rw [if_pos e] at h1
      unfold Nd.leafB at h1
      simp only [Bool.and_eq_true,decide_eq_true_eq,beq_iff_eq] at h1
      exact ⟨h1.2.1,h1.2.2.2⟩
    · rw [if_neg (by rw [e]; decide),if_pos e] at h1
      unfold Nd.extB at h1
      simp only [Bool.and_eq_true,decide_eq_true_eq,beq_iff_eq] at h1
      exact ⟨h1.2.2.1,h1.2.2.2.2⟩
    · rw [if_neg (by rw [e]; decide),if_neg (by rw [e]; decide),if_pos e] at h1
      unfold Nd.branchB at h1
      simp only [Bool.and_eq_true,decide_eq_true_eq] at h1
      exact h1.1
  · rw [h] at h1
    cases h1
theorem none_at (i:Nat):Nd.none16.getD i []=[]:=by
  unfold Nd.none16
  rw [List.getD_eq_getElem?_getD,List.getElem?_replicate]
  split <;> rfl
theorem ext_at {n:N} (h:n.kids.set 0 []=Nd.none16) (i:Nat) (hi:i≠0):n.kids.getD i []=[]:=by
  have h1:(n.kids.set 0 []).getD i []=Nd.none16.getD i []:=by rw [h]
  rw [none_at,List.getD_eq_getElem?_getD,List.getElem?_set_ne (fun e=>hi e.symm)] at h1
  rw [List.getD_eq_getElem?_getD]
  exact h1
theorem keyP_some {q k:T} (h:keyP q=some k):Nib.ofL k=q/\Tri.keyed k=true:=by
  unfold keyP at h
  split at h
  · rename_i hq
    have:=Option.some.inj h
    subst this
    exact ⟨Nib.of_join q hq.2.1 hq.1,hq.2.2⟩
  · cases h
theorem takeI_some {f e:T} {n:N} {p:T} {I K:St} (h:takeI f e n p I=some K):∃ own,K=I++own/\(n.val=[]->own=[])/\(n.val≠[]->∃ k,Nib.ofL k=p++n.path/\own=if inR f e k then [(k,n.val)] else []):=by
  unfold takeI at h
  by_cases hv:n.val=[]
  · rw [if_pos hv] at h
    exact ⟨[],by rw [← Option.some.inj h,List.append_nil],fun _=>rfl,fun q=>absurd hv q⟩
  · rw [if_neg hv] at h
    cases hk:keyP (p++n.path) with
    | none=>rw [hk] at h; cases h
    | some k=>
      rw [hk] at h
      dsimp only at h
      refine ⟨if inR f e k then [(k,n.val)] else [],?_,fun q=>absurd q hv,fun _=>⟨k,(keyP_some hk).1,rfl⟩⟩
      rw [← Option.some.inj h]
      split
      · rfl
      · rw [List.append_nil]
theorem takeI_pre {f e:T} {n:N} {p:T} {I K:St} (h:takeI f e n p I=some K):∃ new,K=I++new/\∀ y∈new,∃ q,Nib.ofL y.1=p++q:=by
  obtain ⟨own,h1,h2,h3⟩:=takeI_some h
  refine ⟨own,h1,fun y hy=>?_⟩
  by_cases hv:n.val=[]
  · rw [h2 hv] at hy; cases hy
  · obtain ⟨k,hk,ho⟩:=h3 hv
    rw [ho] at hy
    split at hy
    · rw [List.mem_singleton.1 hy]; exact ⟨n.path,hk⟩
    · cases hy
theorem kidP_pre (n:N) (p:T) (i:Nat):∃ q,kidP n p i=p++q:=by
  unfold kidP
  split
  · exact ⟨_,rfl⟩
  · exact ⟨_,rfl⟩
theorem kidsF_pre {g:T->T->St × List T->Option (St × List T)} (hg:∀ s p I L J M,g s p (I,L)=some (J,M)->∃ new,J=I++new/\∀ y∈new,∃ q,Nib.ofL y.1=p++q) (n:N) (p:T) (R:List Nat):∀ I L J M,kidsF g n p R (I,L)=some (J,M)->∃ new,J=I++new/\∀ y∈new,∃ i∈R,∃ q,Nib.ofL y.1=kidP n p i++q:=by
  induction R with
  | nil=>
    intro I L J M h
    rw [kidsF] at h
    have:=Option.some.inj h
    injection this with h1 _
    exact ⟨[],by rw [h1,List.append_nil],fun y hy=>by cases hy⟩
  | cons i r ih=>
    intro I L J M h
    rw [kidsF] at h
    split at h
    · obtain ⟨new,h1,h2⟩:=ih I L J M h
      exact ⟨new,h1,fun y hy=>let ⟨j,hj,q⟩:=h2 y hy; ⟨j,List.mem_cons_of_mem _ hj,q⟩⟩
    · split at h
      · cases h
      · rename_i s' hs'
        obtain ⟨K,L'⟩:=s'
        obtain ⟨n1,h1,h2⟩:=hg _ _ _ _ _ _ hs'
        obtain ⟨n2,h3,h4⟩:=ih K L' J M h
        refine ⟨n1++n2,by rw [h3,h1,List.append_assoc],fun y hy=>?_⟩
        rcases List.mem_append.1 hy with hy | hy
        · exact ⟨i,List.mem_cons_self ..,h2 y hy⟩
        · obtain ⟨j,hj,q⟩:=h4 y hy
          exact ⟨j,List.mem_cons_of_mem _ hj,q⟩
theorem gat_pre (f e:T) (k:Nat):∀ s p I L J M,gat f e k s p (I,L)=some (J,M)->∃ new,J=I++new/\∀ y∈new,∃ q,Nib.ofL y.1=p++q:=by
  induction k with
  | zero=>
    intro s p I L J M h
    rw [gat] at h
    split at h
    · cases h
    · have:=Option.some.inj h
      injection this with h1 _
      exact ⟨[],by rw [h1,List.append_nil],fun y hy=>by cases hy⟩
  | succ k ih=>
    intro s p I L J M h
    rw [gat] at h
    split at h
    · cases L with
      | nil=>cases h
      | cons x r=>
        dsimp only at h
        split at h
        · cases ht:takeI f e (Nd.dec x).1 p I with
          | none=>rw [ht] at h; cases h
          | some K=>
            rw [ht] at h
            obtain ⟨n1,h1,h2⟩:=takeI_pre ht
            obtain ⟨n2,h3,h4⟩:=kidsF_pre ih _ _ _ _ _ _ _ h
            refine ⟨n1++n2,by rw [h3,h1,List.append_assoc],fun y hy=>?_⟩
            rcases List.mem_append.1 hy with hy | hy
            · exact h2 y hy
            · obtain ⟨i,_,q,hq⟩:=h4 y hy
              obtain ⟨q0,hq0⟩:=kidP_pre (Nd.dec x).1 p i
              exact ⟨q0++q,by rw [hq,hq0,List.append_assoc]⟩
        · cases h
    · have:=Option.some.inj h
      injection this with h1 _
      exact ⟨[],by rw [h1,List.append_nil],fun y hy=>by cases hy⟩
theorem gather_pre {f e s p:T} {I J:St} {L M:List T} (h:gather f e s p (I,L)=some (J,M)):∃ new,J=I++new/\∀ y∈new,∃ q,Nib.ofL y.1=p++q:=gat_pre f e _ s p I L J M h
theorem gather_sub {f e s p:T} {I J:St} {L M E:List T} (h:gather f e s p (I,L)=some (J,M)) (hL:∀ x∈L,x∈E):∀ x∈M,x∈E:=by
  have key:∀ k s p I L J M,gat f e k s p (I,L)=some (J,M)->∃ X,L=X++M:=by
    intro k
    induction k with
    | zero=>
      intro s p I L J M h
      rw [gat] at h
      split at h
      · cases h
      · have:=Option.some.inj h
        injection this with _ h1
        exact ⟨[],h1⟩
    | succ k ih=>
      intro s p I L J M h
      rw [gat] at h
      split at h
      · cases L with
        | nil=>cases h
        | cons x r=>
          dsimp only at h
          split at h
          · cases ht:takeI f e (Nd.dec x).1 p I with
            | none=>rw [ht] at h; cases h
            | some K=>
              rw [ht] at h
              dsimp only at h
              have kk:∀ R I L J M,kidsF (gat f e k) (Nd.dec x).1 p R (I,L)=some (J,M)->∃ X,L=X++M:=by
                intro R
                induction R with
                | nil=>
                  intro I L J M h
                  rw [kidsF] at h
                  have:=Option.some.inj h
                  injection this with _ h1
                  exact ⟨[],h1⟩
                | cons i r ihR=>
                  intro I L J M h
                  rw [kidsF] at h
                  split at h
                  · exact ihR I L J M h
                  · split at h
                    · cases h
                    · rename_i s' hs'
                      obtain ⟨K,L'⟩:=s'
                      obtain ⟨X,hX⟩:=ih _ _ _ _ _ _ hs'
                      obtain ⟨Y,hY⟩:=ihR K L' J M h
                      exact ⟨X++Y,by rw [hX,hY,List.append_assoc]⟩
              obtain ⟨X,hX⟩:=kk _ _ _ _ _ h
              exact ⟨x::X,by rw [hX,List.cons_append]⟩
          · cases h
      · have:=Option.some.inj h
        injection this with _ h1
        exact ⟨[],h1⟩
  obtain ⟨X,hX⟩:=key _ _ _ _ _ _ _ h
  exact fun x hx=>hL x (by rw [hX]; exact List.mem_append_right _ hx)
/-! ### one key among what is gathered -/
def sayL (key v:T):St:=if v=[] then [] else [(key,v)]
def ofKey (key:T) (J:St):St:=J.filter fun y=>decide (y.1=key)
theorem ofKey_app (key:T) (A B:St):ofKey key (A++B)=ofKey key A++ofKey key B:=List.filter_append ..
theorem ofKey_none {key:T} {A:St} (h:∀ y∈A,Nib.ofL y.1≠Nib.ofL key):ofKey key A=[]:=by
  unfold ofKey
  rw [List.filter_eq_nil_iff]
  intro y hy hc
  exact h y hy (by rw [of_decide_eq_true hc])
theorem kidsF_none {g:T->T->St × List T->Option (St × List T)} {n:N} {p:T} {R:List Nat} (h:∀ i∈R,n.kids.getD i []=[]) (st:St × List T):kidsF g n p R st=some st:=by
  induction R with
  | nil=>rfl
  | cons i r ih=>
    rw [kidsF,if_pos (h i (List.mem_cons_self ..))]
    exact ih fun j hj=>h j (List.mem_cons_of_mem _ hj)
theorem kidsF_agree {f e key:T} {E:List T} {n:N} {p q v:T} {b:UInt8} (hk3:n.kind≠2) (hp:p++b::q=Nib.ofL key)
    (hv0:n.kids.getD b.toNat []=[]->v=[])
    (hrec:n.kids.getD b.toNat []≠[]->∀ I Lg J M,(∀ x∈Lg,x∈E)->gather f e (n.kids.getD b.toNat []) (p++[b]) (I,Lg)=some (J,M)->Clash E∨∃ new,J=I++new/\ofKey key new=sayL key v) (R:List Nat):
    (∀ i∈R,i<16)->R.Nodup->∀ I Lg J M,(∀ x∈Lg,x∈E)->kidsF (gather f e) n p R (I,Lg)=some (J,M)->Clash E∨∃ new,J=I++new/\ofKey key new=if b.toNat∈R then sayL key v else []:=by
  induction R with
  | nil=>
    intro _ _ I Lg J M _ h
    rw [kidsF] at h
    have:=Option.some.inj h
    injection this with h1 _
    exact Or.inr ⟨[],by rw [h1,List.append_nil],by simp [ofKey]⟩
  | cons i r ih=>
    intro hR hnd I Lg J M hL h
    obtain ⟨hn1,hn2⟩:=List.nodup_cons.1 hnd
    have hi:=hR i (List.mem_cons_self ..)
    have hRr:=fun j hj=>hR j (List.mem_cons_of_mem _ hj)
    rw [kidsF] at h
    by_cases hk:n.kids.getD i []=[]
    · rw [if_pos hk] at h
      rcases ih hRr hn2 I Lg J M hL h with hc | ⟨new,h1,h2⟩
      · exact Or.inl hc
      · refine Or.inr ⟨new,h1,?_⟩
        rw [h2]
        by_cases hbi:b.toNat=i
        · rw [← hbi] at hn1 hk
          rw [if_neg hn1,if_pos (by rw [hbi]; exact List.mem_cons_self ..),hv0 hk]
          rfl
        · by_cases hm:b.toNat∈r
          · rw [if_pos hm,if_pos (List.mem_cons_of_mem _ hm)]
          · rw [if_neg hm,if_neg (fun q=>(List.mem_cons.1 q).elim hbi hm)]
    · rw [if_neg hk] at h
      cases hg:gather f e (n.kids.getD i []) (kidP n p i) (I,Lg) with
      | none=>rw [hg] at h; cases h
      | some s'=>
        obtain ⟨K,L'⟩:=s'
        rw [hg] at h
        dsimp only at h
        have hL':=gather_sub hg hL
        have hkp:kidP n p i=p++[UInt8.ofNat i]:=by unfold kidP; rw [if_neg hk3]
        by_cases hbi:b.toNat=i
        · have hbb:UInt8.ofNat i=b:=by rw [← hbi]; simp
          rw [hkp,hbb,← hbi] at hg
          rw [← hbi] at hk hn1
          rcases hrec hk I Lg K L' hL hg with hc | ⟨n1,h1,h2⟩
          · exact Or.inl hc
          · rcases ih hRr hn2 K L' J M hL' h with hc | ⟨n2,h3,h4⟩
            · exact Or.inl hc
            · refine Or.inr ⟨n1++n2,by rw [h3,h1,List.append_assoc],?_⟩
              rw [ofKey_app,h2,h4,if_neg hn1,List.append_nil,if_pos (by rw [hbi]; exact List.mem_cons_self ..)]
        · obtain ⟨n1,h1,h2⟩:=gather_pre hg
          have hz:ofKey key n1=[]:=ofKey_none fun y hy hc=>by
            obtain ⟨q',hq'⟩:=h2 y hy
            rw [hc,← hp,hkp,List.append_assoc] at hq'
            have:=List.append_cancel_left hq'
            simp only [List.singleton_append,List.cons.injEq] at this
            apply hbi
            rw [this.1]
            simp
            omega
          rcases ih hRr hn2 K L' J M hL' h with hc | ⟨n2,h3,h4⟩
          · exact Or.inl hc
          · refine Or.inr ⟨n1++n2,by rw [h3,h1,List.append_assoc],?_⟩
            rw [ofKey_app,hz,h4,List.nil_append]
            by_cases hm:b.toNat∈r
            · rw [if_pos hm,if_pos (List.mem_cons_of_mem _ hm)]
            · rw [if_neg hm,if_neg (fun q=>(List.mem_cons.1 q).elim hbi hm)]
theorem agree {f e key:T} (hin:inR f e key=true) {E:List T} (Lp:List T):∀ s l p v I Lg J M,Prf.follow s l Lp=some v->gather f e s p (I,Lg)=some (J,M)->p++l=Nib.ofL key->(∀ x∈Lp,x∈E)->(∀ x∈Lg,x∈E)->Clash E∨∃ new,J=I++new/\ofKey key new=sayL key v:=by
  have hin2:=hin
  simp only [inR,Bool.and_eq_true,Bool.or_eq_true,decide_eq_true_eq] at hin2
  induction Lp with
  | nil=>intro s l p v I Lg J M h; cases h
  | cons x r ih=>
    intro s l p v I Lg J M hf hg hp hLp hLg
    rw [Prf.follow] at hf
    by_cases hc:Sto.sumOf x=s/\(Nd.dec x).2=0
    case neg=>rw [if_neg hc] at hf; cases hf
    rw [if_pos hc] at hf
    have hi:Tri.inL p f e=true:=Tri.in_trail (k:=key) (by rw [← hp]; exact Prf.begins_self p l) hin2.1 hin2.2
    cases Lg with
    | nil=>rw [gather_none hi] at hg; cases hg
    | cons y rg=>
      rw [gather_cons hi] at hg
      by_cases hy:Prf.isN s y=true
      case neg=>rw [if_neg hy] at hg; cases hg
      rw [if_pos hy] at hg
      by_cases hxy:x=y
      case neg=>exact Or.inl ⟨x,hLp x (List.mem_cons_self ..),y,hLg y (List.mem_cons_self ..),hxy,hc.1.trans (of_decide_eq_true hy).1.symm⟩
      subst hxy
      have hto:=Prf.Told.of hc.2
      have ht2:=Told2.of hc.2
      obtain ⟨n,hn⟩:∃ n,(Nd.dec x).1=n:=⟨_,rfl⟩
      rw [hn] at hf hg hto ht2
      have hrg:∀ z∈rg,z∈E:=fun z hz=>hLg z (List.mem_cons_of_mem _ hz)
      have hr':∀ z∈r,z∈E:=fun z hz=>hLp z (List.mem_cons_of_mem _ hz)
      cases htk:takeI f e n p I with
      | none=>rw [htk] at hg; cases hg
      | some K=>
        rw [htk] at hg
        dsimp only at hg
        obtain ⟨own,ho1,ho2,ho3⟩:=takeI_some htk
        rcases hto.kind with hkd | ⟨hkd,hk0⟩ | hkd
        · obtain ⟨hv,hks⟩:=ht2.leaf hkd
          rw [kidsF_none (fun i _=>by rw [hks]; exact none_at i)] at hg
          have:=Option.some.inj hg
          injection this with hJ _
          unfold Prf.next at hf
          rw [if_pos hkd] at hf
          dsimp only at hf
          obtain ⟨k,hk,hown⟩:=ho3 hv
          by_cases hrr:r=[]
          case neg=>rw [if_neg hrr] at hf; cases hf
          rw [if_pos hrr] at hf
          have hv':=Option.some.inj hf
          refine Or.inr ⟨own,by rw [← hJ,ho1],?_⟩
          by_cases hpl:n.path=l
          · rw [if_pos hpl] at hv'
            have hkk:k=key:=(Tri.ofL_eq k key).1 (by rw [hk,hpl,hp])
            subst hkk
            rw [hown,if_pos hin,← hv']
            unfold sayL ofKey
            rw [if_neg hv]
            simp
          · rw [if_neg hpl] at hv'
            have hz:ofKey key own=[]:=ofKey_none fun z hz hcc=>by
              rw [hown] at hz
              split at hz
              · rw [List.mem_singleton.1 hz] at hcc
                dsimp only at hcc
                rw [hk,← hp] at hcc
                exact hpl (List.append_cancel_left hcc)
              · cases hz
            rw [hz,← hv']
            unfold sayL
            rw [if_pos rfl]
        · obtain ⟨hv,hks⟩:=ht2.ext hkd
          rw [ho2 hv,List.append_nil] at ho1
          subst ho1
          have hr16:List.range 16=0::(List.range 16).tail:=by decide
          rw [hr16,kidsF,if_neg hk0] at hg
          have hkp:kidP n p 0=p++n.path:=by unfold kidP; rw [if_pos hkd]
          rw [hkp] at hg
          cases hg0:gather f e (n.kids.getD 0 []) (p++n.path) (K,rg) with
          | none=>rw [hg0] at hg; cases hg
          | some s'=>
            obtain ⟨J',M'⟩:=s'
            rw [hg0] at hg
            dsimp only at hg
            rw [kidsF_none (fun i hi=>ext_at hks i (by
              intro e0
              subst e0
              revert hi
              decide))] at hg
            have:=Option.some.inj hg
            injection this with hJ _
            subst hJ
            unfold Prf.next at hf
            rw [if_neg (by rw [hkd]; decide),if_pos hkd] at hf
            by_cases hpl:l.take n.path.length=n.path
            · rw [if_pos hpl] at hf
              dsimp only at hf
              have hpd:n.path++l.drop n.path.length=l:=by
                have h:=List.take_append_drop n.path.length l
                rw [hpl] at h
                exact h
              have hpp:(p++n.path)++l.drop n.path.length=Nib.ofL key:=by rw [List.append_assoc,hpd,hp]
              exact ih _ _ _ _ _ _ _ _ hf hg0 hpp hr' hrg
            · rw [if_neg hpl] at hf
              dsimp only at hf
              by_cases hrr:r=[]
              case neg=>rw [if_neg hrr] at hf; cases hf
              rw [if_pos hrr] at hf
              have hv':=Option.some.inj hf
              obtain ⟨new,h1,h2⟩:=gather_pre hg0
              refine Or.inr ⟨new,h1,?_⟩
              have hz:ofKey key new=[]:=ofKey_none fun z hz hcc=>by
                obtain ⟨q',hq'⟩:=h2 z hz
                rw [hcc,← hp,List.append_assoc] at hq'
                have h3:=List.append_cancel_left hq'
                apply hpl
                rw [h3,List.take_left]
              rw [hz,← hv']
              unfold sayL
              rw [if_pos rfl]
        · have hpath:=ht2.br hkd
          have hk3:n.kind≠2:=by rw [hkd]; decide
          unfold Prf.next at hf
          rw [if_neg (by rw [hkd]; decide),if_neg hk3] at hf
          cases l with
          | nil=>
            dsimp only at hf
            by_cases hrr:r=[]
            case neg=>rw [if_neg hrr] at hf; cases hf
            rw [if_pos hrr] at hf
            have hv':=Option.some.inj hf
            obtain ⟨new,h1,h2⟩:=kidsF_pre (fun s p I L J M h=>gather_pre h) n p (List.range 16) K rg J M hg
            refine Or.inr ⟨own++new,by rw [h1,ho1,List.append_assoc],?_⟩
            have hz:ofKey key new=[]:=ofKey_none fun z hz hcc=>by
              obtain ⟨i,_,q',hq'⟩:=h2 z hz
              have hkp:kidP n p i=p++[UInt8.ofNat i]:=by unfold kidP; rw [if_neg hk3]
              rw [hcc,← hp,hkp,List.append_assoc] at hq'
              have:=List.append_cancel_left hq'
              cases this
            rw [ofKey_app,hz,List.append_nil,← hv']
            by_cases hv:n.val=[]
            · rw [ho2 hv,hv]
              unfold sayL
              rw [if_pos rfl]
              rfl
            · obtain ⟨k,hk,hown⟩:=ho3 hv
              have hkk:k=key:=(Tri.ofL_eq k key).1 (by rw [hk,hpath,hp])
              subst hkk
              rw [hown,if_pos hin]
              unfold sayL ofKey
              rw [if_neg hv]
              simp
          | cons b q=>
            have hfit:Nib.fitL (Nib.ofL key)=true:=Tri.ofL_fit key
            have hb15:b.toNat<=15:=by
              rw [← hp] at hfit
              unfold Nib.fitL at hfit
              rw [List.all_append] at hfit
              simp only [Bool.and_eq_true,List.all_cons,decide_eq_true_eq] at hfit
              exact hfit.2.1
            dsimp only at hf
            have hown0:ofKey key own=[]:=ofKey_none fun z hz hcc=>by
              by_cases hv:n.val=[]
              · rw [ho2 hv] at hz; cases hz
              · obtain ⟨k,hk,hown⟩:=ho3 hv
                rw [hown] at hz
                split at hz
                · rw [List.mem_singleton.1 hz] at hcc
                  dsimp only at hcc
                  rw [hk,hpath,List.append_nil,← hp] at hcc
                  have:=congrArg List.length hcc
                  simp at this
                · cases hz
            have hkids:=kidsF_agree (f:=f) (e:=e) (E:=E) (v:=v) hk3 hp (fun h0=>by
                rw [if_pos h0] at hf
                dsimp only at hf
                by_cases hrr:r=[]
                · rw [if_pos hrr] at hf
                  exact (Option.some.inj hf).symm
                · rw [if_neg hrr] at hf; cases hf) (fun h0 I Lg J M hL hgg=>by
                rw [if_neg h0] at hf
                dsimp only at hf
                exact ih _ _ _ _ _ _ _ _ hf hgg (by rw [← hp,List.append_assoc]; rfl) hr' hL) (List.range 16) (fun i hi=>List.mem_range.1 hi) List.nodup_range K rg J M hrg hg
            rcases hkids with hcl | ⟨new,h1,h2⟩
            · exact Or.inl hcl
            · refine Or.inr ⟨own++new,by rw [h1,ho1,List.append_assoc],?_⟩
              rw [ofKey_app,hown0,List.nil_append,h2,if_pos (List.mem_range.2 (by omega))]
theorem points {root key f e:T} {m:Int} {I:St} {next:T} {Lp Lg:List T} (h1:(Prf.verify root key Lp).2.2=0) (h2:(verifyP root f e m I next Lg).2.2=0) (hin:inR f (upTo next e) key=true):Clash (Lp++Lg)∨(ofKey key I=sayL key (Prf.verify root key Lp).1/\(Prf.verify root key Lp).2.1=decide ((Prf.verify root key Lp).1≠[])):=by
  have hk:Tri.keyed key=true:=Classical.byContradiction fun hk=>by
    unfold Prf.verify at h1
    rw [if_neg hk] at h1
    cases h1
  obtain ⟨_,_,_,_,hcase⟩:=verify_ok h2
  unfold Prf.verify at h1 ⊢
  rw [if_pos hk] at h1 ⊢
  rcases hcase with ⟨hr,_,hI,_⟩ | ⟨hr,hg⟩
  · rw [if_pos hr] at h1 ⊢
    by_cases hL:Lp=[]
    · rw [if_pos hL,hI]
      exact Or.inr ⟨rfl,rfl⟩
    · rw [if_neg hL] at h1; cases h1
  · rw [if_neg hr] at h1 ⊢
    cases hf:Prf.follow root (Nib.ofL key) Lp with
    | none=>rw [hf] at h1; cases h1
    | some v=>
      dsimp only
      rcases agree hin (E:=Lp++Lg) Lp root (Nib.ofL key) [] v [] Lg I [] hf hg rfl (fun x hx=>List.mem_append_left _ hx) (fun x hx=>List.mem_append_right _ hx) with hc | ⟨new,h3,h4⟩
      · exact Or.inl hc
      · rw [List.nil_append] at h3
        rw [h3]
        exact Or.inr ⟨h4,rfl⟩
end Spn
end
section
open Sto (T St)
open Tri (Tr Ok)
open Scn (inR allR pageR behind)
open Nd (N)
namespace Spn
def restL (m q:T):T:=if m.take q.length=q then m.drop q.length else []
theorem rest_pre (q r:T):restL (q++r) q=r:=by
  unfold restL
  rw [List.take_left' rfl,if_pos rfl,List.drop_left' rfl]
theorem rest_off {m q:T} (h:m.take q.length≠q):restL m q=[]:=if_neg h
theorem pre_split {m q:T} (h:m.take q.length=q):∃ r,m=q++r:=⟨m.drop q.length,by
  have:=(List.take_append_drop q.length m).symm
  rwa [h] at this⟩
theorem lt_app (q a b:T):q++a<q++b↔a<b:=by
  induction q with
  | nil=>exact Iff.rfl
  | cons c q ih=>
    rw [List.cons_append,List.cons_append,List.cons_lt_cons_iff]
    constructor
    · rintro (h | ⟨_,h⟩)
      · exact absurd h (UInt8.lt_irrefl c)
      · exact ih.1 h
    · exact fun h=>Or.inr ⟨rfl,ih.2 h⟩
theorem le_self_app (q a:T):q<=q++a:=by
  have:=Tri.take_le q (q++a) (List.take_left' rfl)
  exact this
theorem lt_off (a q:T):∀ m:T,q<m->m.take q.length≠q->q++a<m:=by
  induction q with
  | nil=>intro m _ h; exact absurd rfl h
  | cons c q ih=>
    intro m hlt hne
    cases m with
    | nil=>exact absurd hlt (List.not_lt_nil _)
    | cons d m=>
      rw [List.cons_append,List.cons_lt_cons_iff]
      rcases List.cons_lt_cons_iff.1 hlt with h | ⟨rfl,h⟩
      · exact Or.inl h
      · exact Or.inr ⟨rfl,ih m h fun e=>hne (by rw [List.length_cons,List.take_succ_cons,e])⟩
theorem low_rest {F q more:T} (h:¬ (q<F/\F.take q.length≠q)):more<restL F q↔q++more<F:=by
  by_cases hp:F.take q.length=q
  · obtain ⟨r,rfl⟩:=pre_split hp
    rw [rest_pre,lt_app]
  · rw [rest_off hp]
    exact ⟨fun h=>absurd h (List.not_lt_nil _),fun h2=>absurd ⟨List.lt_of_le_of_lt (le_self_app q more) h2,hp⟩ h⟩
theorem low_rest2 {F q more:T} (h:¬ (q<F/\F.take q.length≠q)):(more<restL F q/\(restL F q).take more.length≠more)↔(q++more<F/\F.take (q++more).length≠q++more):=by
  rw [low_rest h]
  by_cases hp:F.take q.length=q
  · obtain ⟨r,rfl⟩:=pre_split hp
    rw [rest_pre]
    have e:(q++r).take (q++more).length=q++r.take more.length:=by
      rw [List.length_append,List.take_length_add_append]
    rw [e]
    exact ⟨fun ⟨a,b⟩=>⟨a,fun c=>b (List.append_cancel_left c)⟩,fun ⟨a,b⟩=>⟨a,fun c=>b (by rw [c])⟩⟩
  · exact ⟨fun ⟨a,_⟩=>absurd ⟨List.lt_of_le_of_lt (le_self_app q more) a,hp⟩ h,fun ⟨a,_⟩=>absurd ⟨List.lt_of_le_of_lt (le_self_app q more) a,hp⟩ h⟩
theorem high_rest {e q more:T} (h:e=[]∨q<Nib.ofL e):(restL (Nib.ofL e) q=[]∨more<restL (Nib.ofL e) q)↔(e=[]∨q++more<Nib.ofL e):=by
  by_cases he:e=[]
  · subst he
    refine ⟨fun _=>Or.inl rfl,fun _=>Or.inl ?_⟩
    rw [Nib.ofL_nil]
    unfold restL
    split <;> simp
  · have h1:=h.resolve_left he
    by_cases hp:(Nib.ofL e).take q.length=q
    · obtain ⟨r,hr⟩:=pre_split hp
      rw [hr] at h1 ⊢
      rw [rest_pre,lt_app]
      have hr0:r≠[]:=fun e0=>by
        rw [e0,List.append_nil] at h1
        exact absurd h1 (List.lt_irrefl _)
      exact ⟨fun h=>Or.inr (h.resolve_left hr0),fun h=>Or.inr (h.resolve_left he)⟩
    · rw [rest_off hp]
      exact ⟨fun _=>Or.inr (lt_off more q _ h1 hp),fun _=>Or.inl rfl⟩
theorem rest_more (F q more:T):restL (restL F q) more=restL F (q++more):=by
  by_cases hp:F.take q.length=q
  · obtain ⟨r,rfl⟩:=pre_split hp
    rw [rest_pre]
    unfold restL
    have e:(q++r).take (q++more).length=q++r.take more.length:=by
      rw [List.length_append,List.take_length_add_append]
    have e2:(q++r).drop (q++more).length=r.drop more.length:=by
      rw [List.length_append,List.drop_length_add_append]
    rw [e,e2]
    by_cases h:r.take more.length=more
    · rw [if_pos h,if_pos (by rw [h])]
    · rw [if_neg h,if_neg (fun c=>h (List.append_cancel_left c))]
  · rw [rest_off hp]
    have h2:F.take (q++more).length≠q++more:=fun c=>hp (by
      have:=congrArg (List.take q.length) c
      rw [List.take_left' rfl,List.take_take,List.length_append,Nat.min_eq_left (Nat.le_add_right _ _)] at this
      exact this)
    rw [rest_off h2]
    unfold restL
    split <;> simp
inductive All2 {α β:Type} (R:α->β->Prop):List α->List β->Prop
  | nil:All2 R [] []
  | cons {a:α} {b:β} {l:List α} {m:List β} (h:R a b) (t:All2 R l m):All2 R (a::l) (b::m)
structure Sp where
  sum:T
  place:T
  lf:T
  le:T
def playsP (lf le more:T):Bool:=!decide (Nib.sideL more lf<0)&&(decide (le=[]) || decide (Nib.sideL more le<1))
def hasP (lf le path:T):Bool:=!decide (path<lf)&&(decide (le=[]) || decide (path<le))
def stepP (n:N) (i:Nat):T:=if n.kind=3 then [UInt8.ofNat i] else n.path
def kidSp (s:Sp) (sum more:T):Sp:=⟨sum,(s.place++more).take 17,restL s.lf more,restL s.le more⟩
def belowR (s:Sp) (n:N) (R:List Nat):List Sp:=R.filterMap fun i=>if n.kids.getD i []=[] then none else if playsP s.lf s.le (stepP n i) then some (kidSp s (n.kids.getD i []) (stepP n i)) else none
def belowP (s:Sp) (n:N):List Sp:=belowR s n (List.range 16)
def ownP (s:Sp) (n:N) (I:St):Option St:=
  if n.val=[] then some I else
    match keyP (s.place++n.path) with
    | none=>none
    | some k=>some (if hasP s.lf s.le n.path then I++[(k,n.val)] else I)
def loopP:List T->List Sp->St->Option St
  | L,[],I=>if L=[] then some I else none
  | [],_::_,_=>none
  | x::r,s::ss,I=>if Prf.isN s.sum x then
      (match ownP s (Nd.dec x).1 I with
      | none=>none
      | some J=>loopP r (belowP s (Nd.dec x).1++ss) J) else none
structure SpOk (f e:T) (s:Sp) (p:T × T):Prop where
  sum:s.sum=p.1
  place:s.place=p.2.take 17
  lf:s.lf=restL (Nib.ofL f) p.2
  le:s.le=restL (Nib.ofL e) p.2
  plays:Tri.inL p.2 f e=true
theorem in_parts {p f e:T} (h:Tri.inL p f e=true):¬ (p<Nib.ofL f/\(Nib.ofL f).take p.length≠p)/\(e=[]∨p<Nib.ofL e):=by
  simp only [Tri.inL,Bool.and_eq_true,Bool.or_eq_true,decide_eq_true_eq,Bool.not_eq_true',decide_eq_false_iff_not,Tri.side_low,Tri.side_high] at h
  exact h
theorem plays_eq {f e q:T} (h:Tri.inL q f e=true) (more:T):playsP (restL (Nib.ofL f) q) (restL (Nib.ofL e) q) more=Tri.inL (q++more) f e:=by
  obtain ⟨h1,h2⟩:=in_parts h
  rw [Bool.eq_iff_iff]
  simp only [playsP,Tri.inL,Bool.and_eq_true,Bool.or_eq_true,decide_eq_true_eq,Bool.not_eq_true',decide_eq_false_iff_not,Tri.side_low,Tri.side_high]
  rw [low_rest2 h1,high_rest h2]
theorem has_eq {f e q path k:T} (h:Tri.inL q f e=true) (hk:Nib.ofL k=q++path):hasP (restL (Nib.ofL f) q) (restL (Nib.ofL e) q) path=inR f e k:=by
  obtain ⟨h1,h2⟩:=in_parts h
  rw [Bool.eq_iff_iff]
  simp only [hasP,inR,Bool.and_eq_true,Bool.or_eq_true,decide_eq_true_eq,Bool.not_eq_true',decide_eq_false_iff_not]
  rw [low_rest h1,high_rest h2,← hk,Tri.ofL_lt,Tri.ofL_lt,List.not_lt]
theorem keyP_long {q:T} (h:17<=q.length):keyP q=none:=by
  unfold keyP
  rw [if_neg]
  rintro ⟨h1,_,h2⟩
  simp [Tri.keyed,Nib.joinL_length] at h2
  omega
theorem keyP_cut (q path:T):keyP (q.take 17++path)=keyP (q++path):=by
  by_cases h:q.length<=17
  · rw [List.take_of_length_le h]
  · rw [keyP_long (q:=q++path) (by simp; omega),keyP_long (by simp; omega)]
theorem own_eq {f e:T} {s:Sp} {p:T × T} (h:SpOk f e s p) (n:N) (I:St):ownP s n I=takeI f e n p.2 I:=by
  unfold ownP takeI
  by_cases hv:n.val=[]
  · rw [if_pos hv,if_pos hv]
  · rw [if_neg hv,if_neg hv,h.place,keyP_cut]
    cases hk:keyP (p.2++n.path) with
    | none=>rfl
    | some k=>
      dsimp only
      rw [h.lf,h.le,has_eq h.plays (keyP_some hk).1]
theorem take_cut (q more:T):(q.take 17++more).take 17=(q++more).take 17:=by
  rw [List.take_append,List.take_append,List.take_take,Nat.min_self,List.length_take]
  congr 2
  omega
def kidsR (f e:T) (n:N) (q:T) (R:List Nat):List (T × T):=R.filterMap fun i=>if n.kids.getD i []=[] then none else if Tri.inL (kidP n q i) f e then some (n.kids.getD i [],kidP n q i) else none
def gathL (f e:T):List (T × T)->St × List T->Option (St × List T)
  | [],st=>some st
  | p::r,st=>match gather f e p.1 p.2 st with
    | none=>none
    | some u=>gathL f e r u
theorem gath_app (f e:T) (a b:List (T × T)):∀ st,gathL f e (a++b) st=match gathL f e a st with
    | none=>none
    | some u=>gathL f e b u:=by
  induction a with
  | nil=>intro st; rfl
  | cons p a ih=>
    intro st
    rw [List.cons_append,gathL,gathL]
    cases gather f e p.1 p.2 st with
    | none=>rfl
    | some u=>exact ih u
theorem kids_gath (f e:T) (n:N) (q:T) (R:List Nat):∀ st,kidsF (gather f e) n q R st=gathL f e (kidsR f e n q R) st:=by
  induction R with
  | nil=>intro st; rfl
  | cons i R ih=>
    intro st
    rw [kidsF]
    unfold kidsR
    rw [List.filterMap_cons]
    by_cases hk:n.kids.getD i []=[]
    · rw [if_pos hk,if_pos hk]
      exact ih st
    · rw [if_neg hk,if_neg hk]
      by_cases hi:Tri.inL (kidP n q i) f e=true
      · rw [if_pos hi]
        dsimp only
        rw [gathL]
        cases gather f e (n.kids.getD i []) (kidP n q i) st with
        | none=>rfl
        | some u=>exact ih u
      · rw [if_neg hi,gather_out (by simpa using hi)]
        exact ih st
theorem below_ok {f e:T} {s:Sp} {p:T × T} (h:SpOk f e s p) {n:N} (hn:Told2 n) (hk:n.kind=1∨n.kind=2∨n.kind=3) (R:List Nat):All2 (SpOk f e) (belowR s n R) (kidsR f e n p.2 R):=by
  induction R with
  | nil=>exact All2.nil
  | cons i R ih=>
    unfold belowR kidsR
    rw [List.filterMap_cons,List.filterMap_cons]
    by_cases h0:n.kids.getD i []=[]
    · rw [if_pos h0,if_pos h0]
      exact ih
    · rw [if_neg h0,if_neg h0]
      have hs:kidP n p.2 i=p.2++stepP n i:=by
        unfold kidP stepP
        rcases hk with hk | hk | hk
        · exact absurd (by rw [(hn.leaf hk).2,none_at]) h0
        · rw [if_pos hk,if_neg (by omega)]
        · rw [if_neg (by omega),if_pos hk]
      have hpl:playsP s.lf s.le (stepP n i)=Tri.inL (p.2++stepP n i) f e:=by rw [h.lf,h.le,plays_eq h.plays]
      rw [hs,hpl]
      by_cases hi:Tri.inL (p.2++stepP n i) f e=true
      · rw [if_pos hi,if_pos hi]
        refine All2.cons ⟨rfl,?_,?_,?_,hi⟩ ih
        · show (s.place++stepP n i).take 17=_
          rw [h.place,take_cut]
        · show restL s.lf _=_
          rw [h.lf,rest_more]
        · show restL s.le _=_
          rw [h.le,rest_more]
      · rw [if_neg hi,if_neg hi]
        exact ih
theorem forall_app {α β:Type} {R:α->β->Prop} {a c:List α} {b d:List β} (h1:All2 R a b) (h2:All2 R c d):All2 R (a++c) (b++d):=by
  induction h1 with
  | nil=>exact h2
  | cons h _ ih=>exact All2.cons h ih
theorem loop_gath (f e:T) (L:List T):∀ (ss:List Sp) (ps:List (T × T)) (I:St),All2 (SpOk f e) ss ps->loopP L ss I=match gathL f e ps (I,L) with
    | some (J,[])=>some J
    | _=>none:=by
  induction L with
  | nil=>
    intro ss ps I h
    cases h with
    | nil=>rfl
    | cons h _=>
      rw [loopP,gathL,gather_none h.plays]
  | cons x r ih=>
    intro ss ps I h
    cases h with
    | nil=>rfl
    | @cons s p ss ps h h2=>
      rw [loopP,gathL,gather_cons h.plays,h.sum]
      by_cases hx:Prf.isN p.1 x=true
      · rw [if_pos hx,if_pos hx,own_eq h]
        cases takeI f e (Nd.dec x).1 p.2 I with
        | none=>rfl
        | some J=>
          dsimp only
          have hd:(Nd.dec x).2=0:=(of_decide_eq_true hx).2
          have ht:=Prf.Told.of hd
          have hk:(Nd.dec x).1.kind=1∨(Nd.dec x).1.kind=2∨(Nd.dec x).1.kind=3:=by
            rcases ht.kind with h | h | h
            · exact Or.inl h
            · exact Or.inr (Or.inl h.1)
            · exact Or.inr (Or.inr h)
          show loopP r (belowR s _ (List.range 16)++ss) J=_
          rw [ih _ _ J (forall_app (below_ok h (Told2.of hd) hk (List.range 16)) h2),kids_gath,gath_app]
      · rw [if_neg hx,if_neg hx]
theorem in_root (f e:T):Tri.inL [] f e=true:=by
  simp only [Tri.inL,Bool.and_eq_true,Bool.or_eq_true,decide_eq_true_eq,Bool.not_eq_true',decide_eq_false_iff_not,Tri.side_low,Tri.side_high]
  refine ⟨fun h=>h.2 rfl,?_⟩
  cases e with
  | nil=>exact Or.inl rfl
  | cons a e=>
    refine Or.inr ?_
    cases h:Nib.ofL (a::e) with
    | nil=>have:=congrArg List.length h; rw [Nib.ofL_length] at this; simp at this
    | cons b r=>exact List.nil_lt_cons ..
theorem rest_root (F:T):restL F []=F:=by
  show (if F.take 0=[] then F.drop 0 else [])=F
  rw [if_pos List.take_zero]
  rfl
def gathP (root f e:T) (L:List T):Option St:=loopP L (if root=[] then [] else [⟨root,[],Nib.ofL f,Nib.ofL e⟩]) []
theorem gathP_none (f e:T) (L:List T):gathP [] f e L=if L=[] then some [] else none:=by
  unfold gathP
  rw [if_pos rfl,loopP.eq_def]
theorem gathP_is {root f e:T} (hr:root≠[]) (L:List T):gathP root f e L=match gather f e root [] ([],L) with
    | some (J,[])=>some J
    | _=>none:=by
  unfold gathP
  rw [if_neg hr,loop_gath f e L _ [(root,[])] [] (All2.cons ⟨rfl,rfl,(rest_root _).symm,(rest_root _).symm,in_root f e⟩ All2.nil),gathL]
  cases gather f e root [] ([],L) with
  | none=>rfl
  | some u=>rfl
def goesP (I:St) (next e:T) (m:Int):Bool:=decide ((I.length:Int)=m)&&(decide (next=behind (I.getD (m.toNat - 1) ([],[])).1)&&(decide (e=[]) || decide (next<e)))
def codeP (root f e:T) (m:Int) (I:St) (next:T) (L:List T):St × T × Nat:=
  if ¬ (1<=m/\m<=16) then ([],[],1)
  else if m<(I.length:Int) then ([],[],130)
  else if next≠[]/\goesP I next e m=false then ([],[],130)
  else if gathP root f (upTo next e) L=some I then (I,next,0) else ([],[],130)
theorem code_is (root f e:T) (m:Int) (I:St) (next:T) (L:List T):codeP root f e m I next L=verifyP root f e m I next L:=by
  unfold codeP verifyP
  by_cases hm:1<=m/\m<=16
  case neg=>rw [if_pos hm,if_pos hm]
  have hm':¬ ¬ (1<=m/\m<=16):=fun q=>q hm
  rw [if_neg hm',if_neg hm']
  by_cases hl:m<(I.length:Int)
  · rw [if_pos hl,if_pos hl]
  rw [if_neg hl,if_neg hl]
  have hg:(next≠[]/\goesP I next e m=false)↔(next≠[]/\((I.length:Int)≠m∨behind (I.getD (m.toNat - 1) ([],[])).1≠next∨(e≠[]/\¬ next<e))):=by
    refine and_congr_right fun _=>?_
    unfold goesP
    rw [Bool.and_eq_false_iff,Bool.and_eq_false_iff,Bool.or_eq_false_iff]
    simp only [decide_eq_false_iff_not]
    exact or_congr Iff.rfl (or_congr ⟨fun h e=>h e.symm,fun h e=>h e.symm⟩ Iff.rfl)
  by_cases hx:next≠[]/\goesP I next e m=false
  · rw [if_pos hx,if_pos (hg.1 hx)]
  rw [if_neg hx,if_neg (fun q=>hx (hg.2 q))]
  by_cases hr:root=[]
  · subst hr
    rw [if_pos rfl,gathP_none]
    by_cases hL:L=[]
    · subst hL
      rw [if_pos rfl]
      cases I with
      | nil=>
        have hn:next=[]:=Classical.byContradiction fun q=>hx ⟨q,by
          unfold goesP
          rw [decide_eq_false (show ¬ (([]:St).length:Int)=m from fun e=>by simp at e; omega)]
          rfl⟩
        rw [if_pos rfl,if_neg (by simp),hn]
      | cons a I=>
        rw [if_neg (by simp),if_pos (Or.inr (by simp))]
    · rw [if_neg hL,if_neg (by simp),if_pos (Or.inl hL)]
  · rw [if_neg hr,gathP_is hr]
    cases gather f (upTo next e) root [] ([],L) with
    | none=>rw [if_neg (by simp)]
    | some u=>
      obtain ⟨J,M⟩:=u
      dsimp only
      cases M with
      | nil=>
        by_cases hJ:J=I
        · rw [if_pos (by rw [hJ]),if_pos ⟨rfl,hJ⟩]
        · rw [if_neg (fun q=>hJ (Option.some.inj q)),if_neg (fun q=>hJ q.2)]
      | cons y M=>rw [if_neg (by simp),if_neg (by simp)]
end Spn
end
section
open Go.RowKit
theorem Scn.bump_full (x:List UInt8) (h:∀ b∈x,b=255):Scn.bump x=[]:=by
  induction x with
  | nil=>rfl
  | cons a r ih=>
    have e:=ih fun b hb=>h b (List.mem_cons_of_mem _ hb)
    rw [Scn.bump,e,if_neg (by simp),if_pos (h a List.mem_cons_self)]
theorem Scn.bump_last (x:List UInt8):∀ (i:Nat) (h:i<x.length),(∀ b∈x.drop (i+1),b=255)->x[i]≠255->Scn.bump x=x.take i++[x[i]+1]:=by
  induction x with
  | nil=>intro i h; simp at h
  | cons a r ih=>
    intro i h hd hx
    cases i with
    | zero=>
      have e:=Scn.bump_full r (by simpa using hd)
      rw [Scn.bump,e,if_neg (by simp),if_neg (by simpa using hx)]
      rfl
    | succ i=>
      have e:=ih i (by simpa using h) (by simpa using hd) (by simpa using hx)
      rw [Scn.bump,e,if_pos (by simp)]
      rfl
theorem cut_head (x:List UInt8) (i:Nat):(⟨x.toArray⟩:ByteArray).extract 0 i=⟨(x.take i).toArray⟩:=by
  rw [Lib.extract_eq]; simp
end
section
open Go.RowKit
open Sto (T St)
def BehindOk:Prop:=∀ (x:T) (w:World),x.length<=maxLen->Calls Tryz.prog 65 #[.string ⟨x.toArray⟩] w fun e w'=>e=.returned (.string ⟨(Scn.behind x).toArray⟩)/\Below w.heap.size w w'
theorem behind_ok:BehindOk:=by
  intro x w hl
  by_cases h8:8<x.length
  · have hb:Scn.behind x=[]:=Scn.behind_long h8
    have h1:(8:Int)<(x.length:Int):=by omega
    rw [hb]
    clear hb
    go_enter Tryz.func65,Tryz.ntmps65
    go_wp2
    go_ret
    exact ⟨rfl,Below.refl _ _⟩
  have h1:¬ ((8:Int)<(x.length:Int)):=by omega
  by_cases hlt:x.length<8
  · have hb:Scn.behind x=x++[0]:=by unfold Scn.behind; rw [if_neg h8,if_pos hlt]
    have h2:(x.length:Int)<8:=by omega
    have hc:=cat_mk x [0]
    rw [hb]
    clear hb
    go_enter Tryz.func65,Tryz.ntmps65
    go_wp2
    go_ret
    exact ⟨rfl,Below.refl _ _⟩
  have h2:¬ ((x.length:Int)<8):=by omega
  have h3:x.length=8:=by omega
  have hb:Scn.behind x=Scn.bump x:=by unfold Scn.behind; rw [if_neg h8,if_neg hlt]
  rw [hb]
  have H3:=qh h3
  clear hb h8 hlt hl
  go_enter Tryz.func65,Tryz.ntmps65
  go_wp2
  go_loop [3] (fun iv=>∃ k:Nat,k<=8/\iv=.int .i64 ((k:Int) - 1)/\∀ b∈x.drop k,b=255) (fun i=>(intOf i+1).toNat)
  case atStart=>exact ⟨8,by omega,by go_num,by rw [List.drop_of_length_le (by omega)]; simp⟩
  case round=>
    obtain ⟨k,hk,rfl,hd⟩:=hrel
    have HD:=qh hd
    clear hd
    cases k with
    | zero=>
      have hf:=Scn.bump_full x (by simpa using HD.out)
      go_wp2
      go_ret
      exact ⟨rfl,Below.refl _ _⟩
    | succ i=>
      have hi:i<x.length:=by omega
      obtain ⟨c,hc⟩:∃ c,x[i]=c:=⟨_,rfl⟩
      have hidx:∀ h,(⟨x.toArray⟩:ByteArray)[i]'h=c:=fun _=>hc
      by_cases h255:c=255
      · have hn:((c.toNat:Int) == 255)=true:=by rw [h255]; rfl
        have hn2:(c.toNat:Int)=255:=by rw [h255]; rfl
        have HD2:Hid (∀ b∈x.drop i,b=255):=qh (by
          intro b hb
          rw [List.drop_eq_getElem_cons hi] at hb
          rcases List.mem_cons.1 hb with rfl | hb
          · rw [hc]; exact h255
          · exact HD.out b hb)
        clear h255 hc
        go_wp2
        refine ⟨⟨i,by omega,by go_num,HD2.out⟩,by simp [intOf]⟩
      · have hn2:¬ ((c.toNat:Int)=255):=by
          have:c.toNat≠255:=fun e=>h255 (by rw [← UInt8.toNat_inj]; exact e)
          omega
        have hn:((c.toNat:Int) == 255)=false:=beq_eq_false_iff_ne.2 hn2
        have HB:=qh (Scn.bump_last x i hi HD.out (by rw [hc]; exact h255))
        rw [hc] at HB
        have hn3:(c.toNat:Int)<255:=by have:=c.toNat_lt; omega
        have hcv:=conv_one w (c+1) ((c.toNat:Int)+1) (by simp [UInt8.toNat_add]; omega)
        have hch:=cut_head x i
        have hct:=cat_mk (x.take i) [c+1]
        clear h255 hc
        go_wp2
        go_region
        all_goals
          go_wp2
          go_ret
          rw [HB.out]
          exact ⟨rfl,((Below.refl _ _).alloc (Nat.le_refl _) _).drew⟩
theorem spequal_any (L K:St) (u v:Value) (w:World) (hu:ItIn w u L) (hv:ItIn w v K) (hl:L.length<=1000000):
    Calls Tryz.prog 45 #[u,v] w fun x w'=>x=.returned (.bool (decide (L=K)))/\Below w.heap.size w w':=by
  have HU:=qh hu
  have HV:=qh hv
  obtain ⟨A,cap,rfl,-,-⟩:=hu.form
  obtain ⟨B,cap2,rfl,-,-⟩:=hv.form
  clear hu hv
  by_cases he:L.length=K.length
  · have h0:((L.length:Int) == (K.length:Int))=true:=by rw [beq_iff_eq]; omega
    have h0':((L.length:Int) != (K.length:Int))=false:=by rw [bne_eq_false_iff_eq]; omega
    have HE:=qh he
    go_enter Tryz.func45,Tryz.ntmps45
    go_wp2
    go_loopw [13] (fun i wr=>∃ k:Nat,k<=L.length/\i=.int .i64 k/\L.take k=K.take k/\Below w.heap.size w wr) (fun i _=>L.length - (intOf i).toNat)
    case atStart=>exact ⟨0,Nat.zero_le _,rfl,by simp,Below.refl _ _⟩
    case round=>
      obtain ⟨k,hk,rfl,htk,hbel⟩:=hrel
      have HB:=qh hbel
      have HT:=qh htk
      clear htk hbel
      by_cases hlt:k<L.length
      · have h1:(k:Int)<(L.length:Int):=by omega
        have h2:(k:Int)<(K.length:Int):=by omega
        have h3:(0:Int)<=(k:Int):=by omega
        obtain ⟨b,o,rfl,n0,n1⟩:=ItIn.at (RowsIn.below HU.out HB.out) k hlt
        obtain ⟨b2,o2,rfl,m0,m1⟩:=ItIn.at (RowsIn.below HV.out HB.out) k (by omega)
        have HSN:=qh (take_snoc_it hlt (show k<K.length by omega))
        have HNE:Hid (∀ h:k<K.length,L[k]≠K[k]->L≠K):=qh (fun _ h e=>by subst e; exact h rfl)
        obtain ⟨⟨x,p⟩,hx⟩:∃ m,L[k]=m:=⟨_,rfl⟩
        obtain ⟨⟨y,q⟩,hy⟩:∃ m,K[k]'(by omega)=m:=⟨_,rfl⟩
        rw [hx] at n0 n1
        rw [hy] at m0 m1
        rw [hx,hy] at HSN
        rw [hx] at HNE
        have HNE2:Hid (((x,p):T × T)≠(y,q)->L≠K):=qh (by have:=HNE.out (by omega); rwa [hy] at this)
        dsimp only at n0 n1 m0 m1
        clear hx hy HNE
        by_cases exy:x=y
        · have e1:(x == y)=true:=by rw [beq_iff_eq]; exact exy
          have EXY:=qh exy
          clear exy
          by_cases epq:p=q
          · have e2:(p == q)=true:=by rw [beq_iff_eq]; exact epq
            have HR:Hid (L.take (k+1)=K.take (k+1)):=qh (HSN.out.2 ⟨HT.out,by rw [EXY.out,epq]⟩)
            clear epq
            go_wp2
            go_quiet (fail)
            go_wp2
            go_roundw
            case rel=>exact ⟨k+1,by omega,by go_num,HR.out,bel_drewN HB.out _⟩
            case measure=>simp [intOf]; omega
          · have e2:(p == q)=false:=by rw [beq_eq_false_iff_ne]; exact epq
            have HD:Hid (decide (L=K)=false):=qh (decide_eq_false (HNE2.out (fun e=>epq (congrArg Prod.snd e))))
            clear epq
            go_wp2
            go_quiet (fail)
            have HBQ:=qh (bel_drewN HB.out nq)
            go_wp2
            try rw [Exit.noGoto_ret]
            go_ret
            exact ⟨by rw [HD.out]; rfl,HBQ.out⟩
        · have e1:(x == y)=false:=by rw [beq_eq_false_iff_ne]; exact exy
          have HD:Hid (decide (L=K)=false):=qh (decide_eq_false (HNE2.out (fun e=>exy (congrArg Prod.fst e))))
          clear exy
          go_wp2
          go_quiet (fail)
          have HBQ:=qh (bel_drewN HB.out nq)
          go_wp2
          try rw [Exit.noGoto_ret]
          go_ret
          exact ⟨by rw [HD.out]; rfl,HBQ.out⟩
      · have h1:¬ ((k:Int)<(L.length:Int)):=by omega
        have HR:Hid (decide (L=K)=true):=qh (decide_eq_true (by
          have:=HT.out
          rwa [List.take_of_length_le (by omega),List.take_of_length_le (by omega)] at this))
        go_wp2
        go_ret
        exact ⟨by rw [HR.out]; rfl,HB.out⟩
  · have h0:((L.length:Int) == (K.length:Int))=false:=by rw [beq_eq_false_iff_ne]; omega
    have h0':((L.length:Int) != (K.length:Int))=true:=by rw [bne_iff_ne]; omega
    have HD:Hid (decide (L=K)=false):=qh (decide_eq_false (fun e=>he (by rw [e])))
    clear he
    go_enter Tryz.func45,Tryz.ntmps45
    go_wp2
    go_ret
    exact ⟨by rw [HD.out]; rfl,Below.refl _ _⟩
theorem spreach_any (next e:T) (w:World):
    Calls Tryz.prog 37 #[.string ⟨next.toArray⟩,.string ⟨e.toArray⟩] w fun x w'=>x=.returned (.string ⟨(Spn.upTo next e).toArray⟩)/\w=w':=by
  unfold Spn.upTo
  by_cases h:next=[]
  · subst h
    rw [if_pos rfl]
    go_enter Tryz.func37,Tryz.ntmps37
    go_wp2
    go_ret
    exact ⟨rfl,rfl⟩
  · have h1:(next == [])=false:=beq_eq_false_iff_ne.2 h
    have h2:next.isEmpty=false:=by cases next <;> simp_all
    rw [if_neg h]
    clear h
    go_enter Tryz.func37,Tryz.ntmps37
    go_wp2
    go_ret
    exact ⟨rfl,rfl⟩
theorem behind_all (x:T) (w:World):Calls Tryz.prog 65 #[.string ⟨x.toArray⟩] w fun e w'=>e=.returned (.string ⟨(Scn.behind x).toArray⟩)/\Below w.heap.size w w':=by
  by_cases h:x.length<=maxLen
  · exact behind_ok x w h
  · have h8:8<x.length:=by unfold maxLen at h; omega
    have hb:Scn.behind x=[]:=Scn.behind_long h8
    have h1:(8:Int)<(x.length:Int):=by omega
    rw [hb]
    clear hb h h8
    go_enter Tryz.func65,Tryz.ntmps65
    go_wp2
    go_ret
    exact ⟨rfl,Below.refl _ _⟩
end
end Go.Proofs.YtaficmboooaknaaGreatDoor
