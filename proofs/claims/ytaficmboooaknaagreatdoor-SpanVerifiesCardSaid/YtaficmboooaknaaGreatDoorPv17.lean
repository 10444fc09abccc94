import Derived.Test.YtaficmboooaknaaGreatDoorPv01
import Derived.Test.YtaficmboooaknaaGreatDoorPv16
import Derived.Test.YtaficmboooaknaaGreatDoorPv14
import Derived.Test.YtaficmboooaknaaGreatDoorPv15
import Derived.BigQuiet
set_option maxRecDepth 100000
set_option maxHeartbeats 16000000
namespace Go.Proofs.YtaficmboooaknaaGreatDoor
section
open Sto (T St)
open Tri (Tr Ok)
open Scn (inR allR pageR behind)
open Go.Proofs.YtaficmboooaknaaGreatDoor.Nd (N)
namespace Spn
def restL (m q:T):T:=if m.take q.length=q then m.drop q.length else []
theorem rest_pre (q r:T):restL (q ++ r) q=r:=by
  unfold restL
  rw [List.take_left' rfl,if_pos rfl,List.drop_left' rfl]
theorem rest_off {m q:T} (h:m.take q.length ≠ q):restL m q=[]:=if_neg h
theorem pre_split {m q:T} (h:m.take q.length=q):∃ r,m=q ++ r:=⟨m.drop q.length,by
  have:=(List.take_append_drop q.length m).symm
  rwa [h] at this⟩
theorem lt_app (q a b:T):q ++ a < q ++ b ↔ a < b:=by
  induction q with
  | nil=>exact Iff.rfl
  | cons c q ih=>
    rw [List.cons_append,List.cons_append,List.cons_lt_cons_iff]
    constructor
    · rintro (h | ⟨_,h⟩)
      · exact absurd h (UInt8.lt_irrefl c)
      · exact ih.1 h
    · exact fun h=>Or.inr ⟨rfl,ih.2 h⟩
theorem le_self_app (q a:T):q<=q ++ a:=by
  have:=Tri.take_le q (q ++ a) (List.take_left' rfl)
  exact this
theorem lt_off (a q:T):∀ m:T,q < m->m.take q.length ≠ q->q ++ a < m:=by
  induction q with
  | nil=>intro m _ h; exact absurd rfl h
  | cons c q ih=>
    intro m hlt hne
    cases m with
    | nil=>exact absurd hlt (List.not_lt_nil _)
    | cons d m=>
      rw [List.cons_append,List.cons_lt_cons_iff]
      rcases List.cons_lt_cons_iff.1 hlt with h | ⟨rfl,h⟩
      · exact Or.inl h
      · exact Or.inr ⟨rfl,ih m h fun e=>hne (by rw [List.length_cons,List.take_succ_cons,e])⟩
theorem low_rest {F q more:T} (h:¬ (q < F/\F.take q.length ≠ q)):more < restL F q ↔ q ++ more < F:=by
  by_cases hp:F.take q.length=q
  · obtain ⟨r,rfl⟩:=pre_split hp
    rw [rest_pre,lt_app]
  · rw [rest_off hp]
    exact ⟨fun h=>absurd h (List.not_lt_nil _),fun h2=>absurd ⟨List.lt_of_le_of_lt (le_self_app q more) h2,hp⟩ h⟩
theorem low_rest2 {F q more:T} (h:¬ (q < F/\F.take q.length ≠ q)):(more < restL F q/\(restL F q).take more.length ≠ more) ↔ (q ++ more < F/\F.take (q ++ more).length ≠ q ++ more):=by
  rw [low_rest h]
  by_cases hp:F.take q.length=q
  · obtain ⟨r,rfl⟩:=pre_split hp
    rw [rest_pre]
    have e:(q ++ r).take (q ++ more).length=q ++ r.take more.length:=by
      rw [List.length_append,List.take_length_add_append]
    rw [e]
    exact ⟨fun ⟨a,b⟩=>⟨a,fun c=>b (List.append_cancel_left c)⟩,fun ⟨a,b⟩=>⟨a,fun c=>b (by rw [c])⟩⟩
  · exact ⟨fun ⟨a,_⟩=>absurd ⟨List.lt_of_le_of_lt (le_self_app q more) a,hp⟩ h,fun ⟨a,_⟩=>absurd ⟨List.lt_of_le_of_lt (le_self_app q more) a,hp⟩ h⟩
theorem high_rest {e q more:T} (h:e=[] ∨ q < Nib.ofL e):(restL (Nib.ofL e) q=[] ∨ more < restL (Nib.ofL e) q) ↔ (e=[] ∨ q ++ more < Nib.ofL e):=by
  by_cases he:e=[]
  · subst he
    refine ⟨fun _=>Or.inl rfl,fun _=>Or.inl ?_⟩
    rw [Nib.ofL_nil]
    unfold restL
    split <;> simp
  · have h1:=h.resolve_left he
    by_cases hp:(Nib.ofL e).take q.length=q
    · obtain ⟨r,hr⟩:=pre_split hp
      rw [hr] at h1 ⊢
      rw [rest_pre,lt_app]
      have hr0:r ≠ []:=fun e0=>by
        rw [e0,List.append_nil] at h1
        exact absurd h1 (List.lt_irrefl _)
      exact ⟨fun h=>Or.inr (h.resolve_left hr0),fun h=>Or.inr (h.resolve_left he)⟩
    · rw [rest_off hp]
      exact ⟨fun _=>Or.inr (lt_off more q _ h1 hp),fun _=>Or.inl rfl⟩
theorem rest_more (F q more:T):restL (restL F q) more=restL F (q ++ more):=by
  by_cases hp:F.take q.length=q
  · obtain ⟨r,rfl⟩:=pre_split hp
    rw [rest_pre]
    unfold restL
    have e:(q ++ r).take (q ++ more).length=q ++ r.take more.length:=by
      rw [List.length_append,List.take_length_add_append]
    have e2:(q ++ r).drop (q ++ more).length=r.drop more.length:=by
      rw [List.length_append,List.drop_length_add_append]
    rw [e,e2]
    by_cases h:r.take more.length=more
    · rw [if_pos h,if_pos (by rw [h])]
    · rw [if_neg h,if_neg (fun c=>h (List.append_cancel_left c))]
  · rw [rest_off hp]
    have h2:F.take (q ++ more).length ≠ q ++ more:=fun c=>hp (by
      have:=congrArg (List.take q.length) c
      rw [List.take_left' rfl,List.take_take,List.length_append,Nat.min_eq_left (Nat.le_add_right _ _)] at this
      exact this)
    rw [rest_off h2]
    unfold restL
    split <;> simp
inductive All2 {α β:Type} (R:α->β->Prop):List α->List β->Prop
  | nil:All2 R [] []
  | cons {a:α} {b:β} {l:List α} {m:List β} (h:R a b) (t:All2 R l m):All2 R (a :: l) (b :: m)
structure Sp where
  sum:T
  place:T
  lf:T
  le:T
def playsP (lf le more:T):Bool:=!decide (Nib.sideL more lf < 0) && (decide (le=[]) || decide (Nib.sideL more le < 1))
def hasP (lf le path:T):Bool:=!decide (path < lf) && (decide (le=[]) || decide (path < le))
def stepP (n:N) (i:Nat):T:=if n.kind=3 then [UInt8.ofNat i] else n.path
def kidSp (s:Sp) (sum more:T):Sp:=⟨sum,(s.place ++ more).take 17,restL s.lf more,restL s.le more⟩
def belowR (s:Sp) (n:N) (R:List Nat):List Sp:=R.filterMap fun i=>if n.kids.getD i []=[] then none else if playsP s.lf s.le (stepP n i) then some (kidSp s (n.kids.getD i []) (stepP n i)) else none
def belowP (s:Sp) (n:N):List Sp:=belowR s n (List.range 16)
def ownP (s:Sp) (n:N) (I:St):Option St:=
  if n.val=[] then some I else
    match keyP (s.place ++ n.path) with
    | none=>none
    | some k=>some (if hasP s.lf s.le n.path then I ++ [(k,n.val)] else I)
def loopP:List T->List Sp->St->Option St
  | L,[],I=>if L=[] then some I else none
  | [],_ :: _,_=>none
  | x :: r,s :: ss,I=>if Prf.isN s.sum x then
      (match ownP s (Nd.dec x).1 I with
      | none=>none
      | some J=>loopP r (belowP s (Nd.dec x).1 ++ ss) J) else none
structure SpOk (f e:T) (s:Sp) (p:T × T):Prop where
  sum:s.sum=p.1
  place:s.place=p.2.take 17
  lf:s.lf=restL (Nib.ofL f) p.2
  le:s.le=restL (Nib.ofL e) p.2
  plays:Tri.inL p.2 f e=true
theorem in_parts {p f e:T} (h:Tri.inL p f e=true):¬ (p < Nib.ofL f/\(Nib.ofL f).take p.length ≠ p)/\(e=[] ∨ p < Nib.ofL e):=by
  simp only [Tri.inL,Bool.and_eq_true,Bool.or_eq_true,decide_eq_true_eq,Bool.not_eq_true',decide_eq_false_iff_not,Tri.side_low,Tri.side_high] at h
  exact h
theorem plays_eq {f e q:T} (h:Tri.inL q f e=true) (more:T):playsP (restL (Nib.ofL f) q) (restL (Nib.ofL e) q) more=Tri.inL (q ++ more) f e:=by
  obtain ⟨h1,h2⟩:=in_parts h
  rw [Bool.eq_iff_iff]
  simp only [playsP,Tri.inL,Bool.and_eq_true,Bool.or_eq_true,decide_eq_true_eq,Bool.not_eq_true',decide_eq_false_iff_not,Tri.side_low,Tri.side_high]
  rw [low_rest2 h1,high_rest h2]
theorem has_eq {f e q path k:T} (h:Tri.inL q f e=true) (hk:Nib.ofL k=q ++ path):hasP (restL (Nib.ofL f) q) (restL (Nib.ofL e) q) path=inR f e k:=by
  obtain ⟨h1,h2⟩:=in_parts h
  rw [Bool.eq_iff_iff]
  simp only [hasP,inR,Bool.and_eq_true,Bool.or_eq_true,decide_eq_true_eq,Bool.not_eq_true',decide_eq_false_iff_not]
  rw [low_rest h1,high_rest h2,← hk,Tri.ofL_lt,Tri.ofL_lt,List.not_lt]
theorem keyP_long {q:T} (h:17<=q.length):keyP q=none:=by
  unfold keyP
  rw [if_neg]
  rintro ⟨h1,_,h2⟩
  simp [Tri.keyed,Nib.joinL_length] at h2
  omega
theorem keyP_cut (q path:T):keyP (q.take 17 ++ path)=keyP (q ++ path):=by
  by_cases h:q.length<=17
  · rw [List.take_of_length_le h]
  · rw [keyP_long (q:=q ++ path) (by simp; omega),keyP_long (by simp; omega)]
theorem own_eq {f e:T} {s:Sp} {p:T × T} (h:SpOk f e s p) (n:N) (I:St):ownP s n I=takeI f e n p.2 I:=by
  unfold ownP takeI
  by_cases hv:n.val=[]
  · rw [if_pos hv,if_pos hv]
  · rw [if_neg hv,if_neg hv,h.place,keyP_cut]
    cases hk:keyP (p.2 ++ n.path) with
    | none=>rfl
    | some k=>
      dsimp only
      rw [h.lf,h.le,has_eq h.plays (keyP_some hk).1]
theorem take_cut (q more:T):(q.take 17 ++ more).take 17=(q ++ more).take 17:=by
  rw [List.take_append,List.take_append,List.take_take,Nat.min_self,List.length_take]
  congr 2
  omega
def kidsR (f e:T) (n:N) (q:T) (R:List Nat):List (T × T):=R.filterMap fun i=>if n.kids.getD i []=[] then none else if Tri.inL (kidP n q i) f e then some (n.kids.getD i [],kidP n q i) else none
def gathL (f e:T):List (T × T)->St × List T->Option (St × List T)
  | [],st=>some st
  | p :: r,st=>match gather f e p.1 p.2 st with
    | none=>none
    | some u=>gathL f e r u
theorem gath_app (f e:T) (a b:List (T × T)):∀ st,gathL f e (a ++ b) st=match gathL f e a st with
    | none=>none
    | some u=>gathL f e b u:=by
  induction a with
  | nil=>intro st; rfl
  | cons p a ih=>
    intro st
    rw [List.cons_append,gathL,gathL]
    cases gather f e p.1 p.2 st with
    | none=>rfl
    | some u=>exact ih u
theorem kids_gath (f e:T) (n:N) (q:T) (R:List Nat):∀ st,kidsF (gather f e) n q R st=gathL f e (kidsR f e n q R) st:=by
  induction R with
  | nil=>intro st; rfl
  | cons i R ih=>
    intro st
    rw [kidsF]
    unfold kidsR
    rw [List.filterMap_cons]
    by_cases hk:n.kids.getD i []=[]
    · rw [if_pos hk,if_pos hk]
      exact ih st
    · rw [if_neg hk,if_neg hk]
      by_cases hi:Tri.inL (kidP n q i) f e=true
      · rw [if_pos hi]
        dsimp only
        rw [gathL]
        cases gather f e (n.kids.getD i []) (kidP n q i) st with
        | none=>rfl
        | some u=>exact ih u
      · rw [if_neg hi,gather_out (by simpa using hi)]
        exact ih st
theorem below_ok {f e:T} {s:Sp} {p:T × T} (h:SpOk f e s p) {n:N} (hn:Told2 n) (hk:n.kind=1 ∨ n.kind=2 ∨ n.kind=3) (R:List Nat):All2 (SpOk f e) (belowR s n R) (kidsR f e n p.2 R):=by
  induction R with
  | nil=>exact All2.nil
  | cons i R ih=>
    unfold belowR kidsR
    rw [List.filterMap_cons,List.filterMap_cons]
    by_cases h0:n.kids.getD i []=[]
    · rw [if_pos h0,if_pos h0]
      exact ih
    · rw [if_neg h0,if_neg h0]
      have hs:kidP n p.2 i=p.2 ++ stepP n i:=by
        unfold kidP stepP
        rcases hk with hk | hk | hk
        · exact absurd (by rw [(hn.leaf hk).2,none_at]) h0
        · rw [if_pos hk,if_neg (by omega)]
        · rw [if_neg (by omega),if_pos hk]
      have hpl:playsP s.lf s.le (stepP n i)=Tri.inL (p.2 ++ stepP n i) f e:=by rw [h.lf,h.le,plays_eq h.plays]
      rw [hs,hpl]
      by_cases hi:Tri.inL (p.2 ++ stepP n i) f e=true
      · rw [if_pos hi,if_pos hi]
        refine All2.cons ⟨rfl,?_,?_,?_,hi⟩ ih
        · show (s.place ++ stepP n i).take 17=_
          rw [h.place,take_cut]
        · show restL s.lf _=_
          rw [h.lf,rest_more]
        · show restL s.le _=_
          rw [h.le,rest_more]
      · rw [if_neg hi,if_neg hi]
        exact ih
theorem forall_app {α β:Type} {R:α->β->Prop} {a c:List α} {b d:List β} (h1:All2 R a b) (h2:All2 R c d):All2 R (a ++ c) (b ++ d):=by
  induction h1 with
  | nil=>exact h2
  | cons h _ ih=>exact All2.cons h ih
theorem loop_gath (f e:T) (L:List T):∀ (ss:List Sp) (ps:List (T × T)) (I:St),All2 (SpOk f e) ss ps->loopP L ss I=match gathL f e ps (I,L) with
    | some (J,[])=>some J
    | _=>none:=by
  induction L with
  | nil=>
    intro ss ps I h
    cases h with
    | nil=>rfl
    | cons h _=>
      rw [loopP,gathL,gather_none h.plays]
  | cons x r ih=>
    intro ss ps I h
    cases h with
    | nil=>rfl
    | @cons s p ss ps h h2=>
      rw [loopP,gathL,gather_cons h.plays,h.sum]
      by_cases hx:Prf.isN p.1 x=true
      · rw [if_pos hx,if_pos hx,own_eq h]
        cases takeI f e (Nd.dec x).1 p.2 I with
        | none=>rfl
        | some J=>
          dsimp only
          have hd:(Nd.dec x).2=0:=(of_decide_eq_true hx).2
          have ht:=Prf.Told.of hd
          have hk:(Nd.dec x).1.kind=1 ∨ (Nd.dec x).1.kind=2 ∨ (Nd.dec x).1.kind=3:=by
            rcases ht.kind with h | h | h
            · exact Or.inl h
            · exact Or.inr (Or.inl h.1)
            · exact Or.inr (Or.inr h)
          show loopP r (belowR s _ (List.range 16) ++ ss) J=_
          rw [ih _ _ J (forall_app (below_ok h (Told2.of hd) hk (List.range 16)) h2),kids_gath,gath_app]
      · rw [if_neg hx,if_neg hx]
theorem in_root (f e:T):Tri.inL [] f e=true:=by
  simp only [Tri.inL,Bool.and_eq_true,Bool.or_eq_true,decide_eq_true_eq,Bool.not_eq_true',decide_eq_false_iff_not,Tri.side_low,Tri.side_high]
  refine ⟨fun h=>h.2 rfl,?_⟩
  cases e with
  | nil=>exact Or.inl rfl
  | cons a e=>
    refine Or.inr ?_
    cases h:Nib.ofL (a :: e) with
    | nil=>have:=congrArg List.length h; rw [Nib.ofL_length] at this; simp at this
    | cons b r=>exact List.nil_lt_cons ..
theorem rest_root (F:T):restL F []=F:=by
  show (if F.take 0=[] then F.drop 0 else [])=F
  rw [if_pos List.take_zero]
  rfl
def gathP (root f e:T) (L:List T):Option St:=loopP L (if root=[] then [] else [⟨root,[],Nib.ofL f,Nib.ofL e⟩]) []
theorem gathP_none (f e:T) (L:List T):gathP [] f e L=if L=[] then some [] else none:=by
  unfold gathP
  rw [if_pos rfl,loopP.eq_def]
theorem gathP_is {root f e:T} (hr:root ≠ []) (L:List T):gathP root f e L=match gather f e root [] ([],L) with
    | some (J,[])=>some J
    | _=>none:=by
  unfold gathP
  rw [if_neg hr,loop_gath f e L _ [(root,[])] [] (All2.cons ⟨rfl,rfl,(rest_root _).symm,(rest_root _).symm,in_root f e⟩ All2.nil),gathL]
  cases gather f e root [] ([],L) with
  | none=>rfl
  | some u=>rfl
def goesP (I:St) (next e:T) (m:Int):Bool:=decide ((I.length:Int)=m) && (decide (next=behind (I.getD (m.toNat - 1) ([],[])).1) && (decide (e=[]) || decide (next < e)))
def codeP (root f e:T) (m:Int) (I:St) (next:T) (L:List T):St × T × Nat:=
  if ¬ (1<=m/\m<=16) then ([],[],1)
  else if m < (I.length:Int) then ([],[],130)
  else if next ≠ []/\goesP I next e m=false then ([],[],130)
  else if gathP root f (upTo next e) L=some I then (I,next,0) else ([],[],130)
theorem code_is (root f e:T) (m:Int) (I:St) (next:T) (L:List T):codeP root f e m I next L=verifyP root f e m I next L:=by
  unfold codeP verifyP
  by_cases hm:1<=m/\m<=16
  case neg=>rw [if_pos hm,if_pos hm]
  have hm':¬ ¬ (1<=m/\m<=16):=fun q=>q hm
  rw [if_neg hm',if_neg hm']
  by_cases hl:m < (I.length:Int)
  · rw [if_pos hl,if_pos hl]
  rw [if_neg hl,if_neg hl]
  have hg:(next ≠ []/\goesP I next e m=false) ↔ (next ≠ []/\((I.length:Int) ≠ m ∨ behind (I.getD (m.toNat - 1) ([],[])).1 ≠ next ∨ (e ≠ []/\¬ next < e))):=by
    refine and_congr_right fun _=>?_
    unfold goesP
    rw [Bool.and_eq_false_iff,Bool.and_eq_false_iff,Bool.or_eq_false_iff]
    simp only [decide_eq_false_iff_not]
    exact or_congr Iff.rfl (or_congr ⟨fun h e=>h e.symm,fun h e=>h e.symm⟩ Iff.rfl)
  by_cases hx:next ≠ []/\goesP I next e m=false
  · rw [if_pos hx,if_pos (hg.1 hx)]
  rw [if_neg hx,if_neg (fun q=>hx (hg.2 q))]
  by_cases hr:root=[]
  · subst hr
    rw [if_pos rfl,gathP_none]
    by_cases hL:L=[]
    · subst hL
      rw [if_pos rfl]
      cases I with
      | nil=>
        have hn:next=[]:=Classical.byContradiction fun q=>hx ⟨q,by
          unfold goesP
          rw [decide_eq_false (show ¬ (([]:St).length:Int)=m from fun e=>by simp at e; omega)]
          rfl⟩
        rw [if_pos rfl,if_neg (by simp),hn]
      | cons a I=>
        rw [if_neg (by simp),if_pos (Or.inr (by simp))]
    · rw [if_neg hL,if_neg (by simp),if_pos (Or.inl hL)]
  · rw [if_neg hr,gathP_is hr]
    cases gather f (upTo next e) root [] ([],L) with
    | none=>rw [if_neg (by simp)]
    | some u=>
      obtain ⟨J,M⟩:=u
      dsimp only
      cases M with
      | nil=>
        by_cases hJ:J=I
        · rw [if_pos (by rw [hJ]),if_pos ⟨rfl,hJ⟩]
        · rw [if_neg (fun q=>hJ (Option.some.inj q)),if_neg (fun q=>hJ q.2)]
      | cons y M=>rw [if_neg (by simp),if_neg (by simp)]
end Spn
end
section
open Go.RowKit
theorem Scn.bump_full (x:List UInt8) (h:∀ b ∈ x,b=255):Scn.bump x=[]:=by
  induction x with
  | nil=>rfl
  | cons a r ih=>
    have e:=ih fun b hb=>h b (List.mem_cons_of_mem _ hb)
    rw [Scn.bump,e,if_neg (by simp),if_pos (h a List.mem_cons_self)]
theorem Scn.bump_last (x:List UInt8):∀ (i:Nat) (h:i < x.length),(∀ b ∈ x.drop (i+1),b=255)->x[i] ≠ 255->Scn.bump x=x.take i ++ [x[i]+1]:=by
  induction x with
  | nil=>intro i h; simp at h
  | cons a r ih=>
    intro i h hd hx
    cases i with
    | zero=>
      have e:=Scn.bump_full r (by simpa using hd)
      rw [Scn.bump,e,if_neg (by simp),if_neg (by simpa using hx)]
      rfl
    | succ i=>
      have e:=ih i (by simpa using h) (by simpa using hd) (by simpa using hx)
      rw [Scn.bump,e,if_pos (by simp)]
      rfl
theorem cut_head (x:List UInt8) (i:Nat):(⟨x.toArray⟩:ByteArray).extract 0 i=⟨(x.take i).toArray⟩:=by
  rw [Lib.extract_eq]; simp
theorem rscIn_any (k f e:List UInt8) (w:World):
    Calls Tryz.prog 81 #[.string ⟨k.toArray⟩,.string ⟨f.toArray⟩,.string ⟨e.toArray⟩] w fun x w'=>x=.returned (.bool (Scn.inR f e k))/\w'=w:=by
  obtain ⟨p,hp⟩:∃ p,decide (k < f)=p:=⟨_,rfl⟩
  obtain ⟨r,hr⟩:∃ r,decide (k < e)=r:=⟨_,rfl⟩
  have e1:Op.bytesLess k f=p:=by rw [less_lt]; exact hp
  have e2:Op.bytesLess k e=r:=by rw [less_lt]; exact hr
  have e3:decide (f<=k)=!p:=by
    rw [← hp,← decide_not]
    exact decide_eq_decide.2 List.not_lt.symm
  unfold Scn.inR
  rw [e3,hr]
  clear hp hr e3
  go_enter Tryz.func81,Tryz.ntmps81
  cases p
  · cases e with
    | nil=>
      go_wp2
      go_ret
      exact ⟨by simp,rfl⟩
    | cons a e=>
      go_wp2
      go_ret
      exact ⟨by simp,rfl⟩
  · go_wp2
    go_ret
    exact ⟨by simp,rfl⟩
theorem rscBehind_any (x:List UInt8) (w:World) (hl:x.length<=1000000):
    Calls Tryz.prog 47 #[.string ⟨x.toArray⟩] w fun e w'=>e=.returned (.string ⟨(Scn.behind x).toArray⟩)/\Below w.heap.size w w':=by
  by_cases h8:8 < x.length
  · have hb:Scn.behind x=[]:=Scn.behind_long h8
    have h1:(8:Int) < (x.length:Int):=by omega
    rw [hb]
    clear hb
    go_enter Tryz.func47,Tryz.ntmps47
    go_wp2
    go_ret
    exact ⟨rfl,Below.refl _ _⟩
  have h1:¬ ((8:Int) < (x.length:Int)):=by omega
  by_cases hlt:x.length < 8
  · have hb:Scn.behind x=x ++ [0]:=by unfold Scn.behind; rw [if_neg h8,if_pos hlt]
    have h2:(x.length:Int) < 8:=by omega
    have hc:=cat_mk x [0]
    rw [hb]
    clear hb
    go_enter Tryz.func47,Tryz.ntmps47
    go_wp2
    go_ret
    exact ⟨rfl,Below.refl _ _⟩
  have h2:¬ ((x.length:Int) < 8):=by omega
  have h3:x.length=8:=by omega
  have hb:Scn.behind x=Scn.bump x:=by unfold Scn.behind; rw [if_neg h8,if_neg hlt]
  rw [hb]
  have H3:=qh h3
  clear hb h8 hlt
  go_enter Tryz.func47,Tryz.ntmps47
  go_wp2
  go_loop [3] (fun iv=>∃ k:Nat,k<=8/\iv=.int .i64 ((k:Int) - 1)/\∀ b ∈ x.drop k,b=255) (fun i=>(intOf i+1).toNat)
  case atStart=>exact ⟨8,by omega,by go_num,by rw [List.drop_of_length_le (by omega)]; simp⟩
  case round=>
    obtain ⟨k,hk,rfl,hd⟩:=hrel
    have HD:=qh hd
    clear hd
    cases k with
    | zero=>
      have hf:=Scn.bump_full x (by simpa using HD.out)
      go_wp2
      go_ret
      exact ⟨rfl,Below.refl _ _⟩
    | succ i=>
      have hi:i < x.length:=by omega
      obtain ⟨c,hc⟩:∃ c,x[i]=c:=⟨_,rfl⟩
      have hidx:∀ h,(⟨x.toArray⟩:ByteArray)[i]'h=c:=fun _=>hc
      by_cases h255:c=255
      · have hn:¬ ((c.toNat:Int) < 255):=by rw [h255]; decide
        have HD2:Hid (∀ b ∈ x.drop i,b=255):=qh (by
          intro b hb
          rw [List.drop_eq_getElem_cons hi] at hb
          rcases List.mem_cons.1 hb with rfl | hb
          · rw [hc]; exact h255
          · exact HD.out b hb)
        clear h255 hc
        go_wp2
        refine ⟨⟨i,by omega,by go_num,HD2.out⟩,by simp [intOf]⟩
      · have hn:(c.toNat:Int) < 255:=by
          have:c.toNat ≠ 255:=fun e=>h255 (by rw [← UInt8.toNat_inj]; exact e)
          have:=c.toNat_lt
          omega
        have HB:=qh (Scn.bump_last x i hi HD.out (by rw [hc]; exact h255))
        rw [hc] at HB
        have hcv:=conv_one w (c+1) ((c.toNat:Int)+1) (by simp [UInt8.toNat_add]; omega)
        have hch:=cut_head x i
        have hct:=cat_mk (x.take i) [c+1]
        clear h255 hc
        go_wp2
        go_region
        all_goals
          go_wp2
          go_ret
          rw [HB.out]
          exact ⟨rfl,((Below.refl _ _).alloc (Nat.le_refl _) _).drew⟩
end
section
open Go.RowKit
open Sto (T St)
end
section
open Go.RowKit
open Sto (T St)
def BehindOk:Prop:=∀ (x:T) (w:World),x.length<=maxLen->Calls Tryz.prog 65 #[.string ⟨x.toArray⟩] w fun e w'=>e=.returned (.string ⟨(Scn.behind x).toArray⟩)/\Below w.heap.size w w'
def SPage (S:St) (f e:T) (m:Int) (w:World) (x:Ending) (w':World):Prop:=
  ∃ s,x=.returned (.tuple #[s,.string ⟨(Scn.pageR S f e m).2.1.toArray⟩,.int .i64 (Scn.pageR S f e m).2.2])/\OwnI w' w.heap.size s (Scn.pageR S f e m).1/\Below w.heap.size w w'
def RangeOk:Prop:=∀ (g:Nat) (S:St) (f e:T) (m:Int) (w:World),TrAt w g S->Calls Tryz.prog 35 #[ptr g,.string ⟨f.toArray⟩,.string ⟨e.toArray⟩,.int .i64 m] w (SPage S f e m w)
def Scn.wL:St:=[([97],[49]),([98],[50]),([99],[51])]
theorem Scn.wL_of:Tri.ofR [] Scn.wL=(Scn.wL,0):=by decide +kernel
theorem Scn.wL_page:Scn.pageR Scn.wL [98] [] 1=([([98],[50])],[98,0],0):=by decide +kernel
end
section
open Go.RowKit
open Sto (T St)
theorem behind_ok:BehindOk:=by
  intro x w hl
  by_cases h8:8 < x.length
  · have hb:Scn.behind x=[]:=Scn.behind_long h8
    have h1:(8:Int) < (x.length:Int):=by omega
    rw [hb]
    clear hb
    go_enter Tryz.func65,Tryz.ntmps65
    go_wp2
    go_ret
    exact ⟨rfl,Below.refl _ _⟩
  have h1:¬ ((8:Int) < (x.length:Int)):=by omega
  by_cases hlt:x.length < 8
  · have hb:Scn.behind x=x ++ [0]:=by unfold Scn.behind; rw [if_neg h8,if_pos hlt]
    have h2:(x.length:Int) < 8:=by omega
    have hc:=cat_mk x [0]
    rw [hb]
    clear hb
    go_enter Tryz.func65,Tryz.ntmps65
    go_wp2
    go_ret
    exact ⟨rfl,Below.refl _ _⟩
  have h2:¬ ((x.length:Int) < 8):=by omega
  have h3:x.length=8:=by omega
  have hb:Scn.behind x=Scn.bump x:=by unfold Scn.behind; rw [if_neg h8,if_neg hlt]
  rw [hb]
  have H3:=qh h3
  clear hb h8 hlt hl
  go_enter Tryz.func65,Tryz.ntmps65
  go_wp2
  go_loop [3] (fun iv=>∃ k:Nat,k<=8/\iv=.int .i64 ((k:Int) - 1)/\∀ b ∈ x.drop k,b=255) (fun i=>(intOf i+1).toNat)
  case atStart=>exact ⟨8,by omega,by go_num,by rw [List.drop_of_length_le (by omega)]; simp⟩
  case round=>
    obtain ⟨k,hk,rfl,hd⟩:=hrel
    have HD:=qh hd
    clear hd
    cases k with
    | zero=>
      have hf:=Scn.bump_full x (by simpa using HD.out)
      go_wp2
      go_ret
      exact ⟨rfl,Below.refl _ _⟩
    | succ i=>
      have hi:i < x.length:=by omega
      obtain ⟨c,hc⟩:∃ c,x[i]=c:=⟨_,rfl⟩
      have hidx:∀ h,(⟨x.toArray⟩:ByteArray)[i]'h=c:=fun _=>hc
      by_cases h255:c=255
      · have hn:((c.toNat:Int) == 255)=true:=by rw [h255]; rfl
        have hn2:(c.toNat:Int)=255:=by rw [h255]; rfl
        have HD2:Hid (∀ b ∈ x.drop i,b=255):=qh (by
          intro b hb
          rw [List.drop_eq_getElem_cons hi] at hb
          rcases List.mem_cons.1 hb with rfl | hb
          · rw [hc]; exact h255
          · exact HD.out b hb)
        clear h255 hc
        go_wp2
        refine ⟨⟨i,by omega,by go_num,HD2.out⟩,by simp [intOf]⟩
      · have hn2:¬ ((c.toNat:Int)=255):=by
          have:c.toNat ≠ 255:=fun e=>h255 (by rw [← UInt8.toNat_inj]; exact e)
          omega
        have hn:((c.toNat:Int) == 255)=false:=beq_eq_false_iff_ne.2 hn2
        have HB:=qh (Scn.bump_last x i hi HD.out (by rw [hc]; exact h255))
        rw [hc] at HB
        have hn3:(c.toNat:Int) < 255:=by have:=c.toNat_lt; omega
        have hcv:=conv_one w (c+1) ((c.toNat:Int)+1) (by simp [UInt8.toNat_add]; omega)
        have hch:=cut_head x i
        have hct:=cat_mk (x.take i) [c+1]
        clear h255 hc
        go_wp2
        go_region
        all_goals
          go_wp2
          go_ret
          rw [HB.out]
          exact ⟨rfl,((Below.refl _ _).alloc (Nat.le_refl _) _).drew⟩
end
section
open Go.RowKit
open Sto (T St)
theorem spequal_any (L K:St) (u v:Value) (w:World) (hu:ItIn w u L) (hv:ItIn w v K) (hl:L.length<=1000000):
    Calls Tryz.prog 45 #[u,v] w fun x w'=>x=.returned (.bool (decide (L=K)))/\Below w.heap.size w w':=by
  have HU:=qh hu
  have HV:=qh hv
  obtain ⟨A,cap,rfl,-,-⟩:=hu.form
  obtain ⟨B,cap2,rfl,-,-⟩:=hv.form
  clear hu hv
  by_cases he:L.length=K.length
  · have h0:((L.length:Int) == (K.length:Int))=true:=by rw [beq_iff_eq]; omega
    have h0':((L.length:Int) != (K.length:Int))=false:=by rw [bne_eq_false_iff_eq]; omega
    have HE:=qh he
    go_enter Tryz.func45,Tryz.ntmps45
    go_wp2
    go_loopw [13] (fun i wr=>∃ k:Nat,k<=L.length/\i=.int .i64 k/\L.take k=K.take k/\Below w.heap.size w wr) (fun i _=>L.length - (intOf i).toNat)
    case atStart=>exact ⟨0,Nat.zero_le _,rfl,by simp,Below.refl _ _⟩
    case round=>
      obtain ⟨k,hk,rfl,htk,hbel⟩:=hrel
      have HB:=qh hbel
      have HT:=qh htk
      clear htk hbel
      by_cases hlt:k < L.length
      · have h1:(k:Int) < (L.length:Int):=by omega
        have h2:(k:Int) < (K.length:Int):=by omega
        have h3:(0:Int)<=(k:Int):=by omega
        obtain ⟨b,o,rfl,n0,n1⟩:=ItIn.at (RowsIn.below HU.out HB.out) k hlt
        obtain ⟨b2,o2,rfl,m0,m1⟩:=ItIn.at (RowsIn.below HV.out HB.out) k (by omega)
        have HSN:=qh (take_snoc_it hlt (show k < K.length by omega))
        have HNE:Hid (∀ h:k < K.length,L[k] ≠ K[k]->L ≠ K):=qh (fun _ h e=>by subst e; exact h rfl)
        obtain ⟨⟨x,p⟩,hx⟩:∃ m,L[k]=m:=⟨_,rfl⟩
        obtain ⟨⟨y,q⟩,hy⟩:∃ m,K[k]'(by omega)=m:=⟨_,rfl⟩
        rw [hx] at n0 n1
        rw [hy] at m0 m1
        rw [hx,hy] at HSN
        rw [hx] at HNE
        have HNE2:Hid (((x,p):T × T) ≠ (y,q)->L ≠ K):=qh (by have:=HNE.out (by omega); rwa [hy] at this)
        dsimp only at n0 n1 m0 m1
        clear hx hy HNE
        by_cases exy:x=y
        · have e1:(x == y)=true:=by rw [beq_iff_eq]; exact exy
          have EXY:=qh exy
          clear exy
          by_cases epq:p=q
          · have e2:(p == q)=true:=by rw [beq_iff_eq]; exact epq
            have HR:Hid (L.take (k+1)=K.take (k+1)):=qh (HSN.out.2 ⟨HT.out,by rw [EXY.out,epq]⟩)
            clear epq
            go_wp2
            go_quiet (fail)
            go_wp2
            go_roundw
            case rel=>exact ⟨k+1,by omega,by go_num,HR.out,bel_drewN HB.out _⟩
            case measure=>simp [intOf]; omega
          · have e2:(p == q)=false:=by rw [beq_eq_false_iff_ne]; exact epq
            have HD:Hid (decide (L=K)=false):=qh (decide_eq_false (HNE2.out (fun e=>epq (congrArg Prod.snd e))))
            clear epq
            go_wp2
            go_quiet (fail)
            have HBQ:=qh (bel_drewN HB.out nq)
            go_wp2
            try rw [Exit.noGoto_ret]
            go_ret
            exact ⟨by rw [HD.out]; rfl,HBQ.out⟩
        · have e1:(x == y)=false:=by rw [beq_eq_false_iff_ne]; exact exy
          have HD:Hid (decide (L=K)=false):=qh (decide_eq_false (HNE2.out (fun e=>exy (congrArg Prod.fst e))))
          clear exy
          go_wp2
          go_quiet (fail)
          have HBQ:=qh (bel_drewN HB.out nq)
          go_wp2
          try rw [Exit.noGoto_ret]
          go_ret
          exact ⟨by rw [HD.out]; rfl,HBQ.out⟩
      · have h1:¬ ((k:Int) < (L.length:Int)):=by omega
        have HR:Hid (decide (L=K)=true):=qh (decide_eq_true (by
          have:=HT.out
          rwa [List.take_of_length_le (by omega),List.take_of_length_le (by omega)] at this))
        go_wp2
        go_ret
        exact ⟨by rw [HR.out]; rfl,HB.out⟩
  · have h0:((L.length:Int) == (K.length:Int))=false:=by rw [beq_eq_false_iff_ne]; omega
    have h0':((L.length:Int) != (K.length:Int))=true:=by rw [bne_iff_ne]; omega
    have HD:Hid (decide (L=K)=false):=qh (decide_eq_false (fun e=>he (by rw [e])))
    clear he
    go_enter Tryz.func45,Tryz.ntmps45
    go_wp2
    go_ret
    exact ⟨by rw [HD.out]; rfl,Below.refl _ _⟩
theorem spreach_any (next e:T) (w:World):
    Calls Tryz.prog 37 #[.string ⟨next.toArray⟩,.string ⟨e.toArray⟩] w fun x w'=>x=.returned (.string ⟨(Spn.upTo next e).toArray⟩)/\w=w':=by
  unfold Spn.upTo
  by_cases h:next=[]
  · subst h
    rw [if_pos rfl]
    go_enter Tryz.func37,Tryz.ntmps37
    go_wp2
    go_ret
    exact ⟨rfl,rfl⟩
  · have h1:(next == [])=false:=beq_eq_false_iff_ne.2 h
    have h2:next.isEmpty=false:=by cases next <;> simp_all
    rw [if_neg h]
    clear h
    go_enter Tryz.func37,Tryz.ntmps37
    go_wp2
    go_ret
    exact ⟨rfl,rfl⟩
theorem behind_all (x:T) (w:World):Calls Tryz.prog 65 #[.string ⟨x.toArray⟩] w fun e w'=>e=.returned (.string ⟨(Scn.behind x).toArray⟩)/\Below w.heap.size w w':=by
  by_cases h:x.length<=maxLen
  · exact behind_ok x w h
  · have h8:8 < x.length:=by unfold maxLen at h; omega
    have hb:Scn.behind x=[]:=Scn.behind_long h8
    have h1:(8:Int) < (x.length:Int):=by omega
    rw [hb]
    clear hb h h8
    go_enter Tryz.func65,Tryz.ntmps65
    go_wp2
    go_ret
    exact ⟨rfl,Below.refl _ _⟩
end
section
open Go.RowKit
open Sto (T St)
theorem spgoes_A (zi:Value) (I:St) (x:T) (zn:Value) (e:T) (m:Int) (w:World) (hi:ItIn w zi I) (hm:1<=m/\m<=16) (hl:(I.length:Int)=m) (hx:x=Scn.behind (I.getD (m.toNat - 1) ([],[])).1) (he:e=[]):
    Calls Tryz.prog 43 #[.agg #[zi,.string ⟨x.toArray⟩,zn],.string ⟨e.toArray⟩,.int .i64 m] w fun r w'=>r=.returned (.bool (Spn.goesP I x e m))/\Below w.heap.size w w':=by
  obtain ⟨A,cap,rfl,-,-⟩:=hi.form
  obtain ⟨w0,hw0⟩:∃ w0,w.alloc (.cells #[.slice A I.length cap,.string ⟨x.toArray⟩,zn] 31)=w0:=⟨_,rfl⟩
  have hb0:Below w.heap.size w w0:=by rw [← hw0]; exact (Below.refl _ w).alloc (Nat.le_refl _) _
  have ra:w0.heap[w.heap.size]?=some (.cells #[.slice A I.length cap,.string ⟨x.toArray⟩,zn] 31 (0,0)):=by rw [← hw0]; exact heap_alloc_new w _
  have HP:Hid (∀ w',Below w0.heap.size w0 w'->w'.cell? ⟨w.heap.size,0,none⟩=some (.slice A I.length cap)/\w'.cell? ⟨w.heap.size,1,none⟩=some (.string ⟨x.toArray⟩)):=qh (fun w' h=>by
    have r:=(h.block _ (lt_of_heap ra)).trans ra
    exact ⟨by rw [cell_of_row _ _ 0 _ _ _ r]; rfl,by rw [cell_of_row _ _ 1 _ _ _ r]; rfl⟩)
  have HB:=qh hb0
  have hi0:=RowsIn.below hi hb0
  unfold Spn.goesP
  obtain ⟨n,hn⟩:∃ n,I.length=n+1:=⟨I.length - 1,by omega⟩
  have hmn:m=(n:Int)+1:=by omega
  subst hmn
  have hgd:I.getD (((n:Int)+1).toNat - 1) ([],[])=I[n]'(by omega):=by
    rw [show ((n:Int)+1).toNat - 1=n from by omega,List.getD_eq_getElem?_getD,List.getElem?_eq_getElem (by omega),Option.getD_some]
  rw [decide_eq_true hl,Bool.true_and,hgd]
  rw [hgd] at hx
  obtain ⟨b,o,rfl,n0,n1⟩:=ItIn.at hi0 n (by omega)
  obtain ⟨⟨kx,vx⟩,hkx⟩:∃ y,I[n]'(by omega)=y:=⟨_,rfl⟩
  rw [hkx] at n0 n1 hx ⊢
  dsimp only at n0 n1 hx ⊢
  have HIT:Hid (∀ w',Below w0.heap.size w0 w'->w'.cell? ⟨b,o+n * 2,none⟩=some (.string ⟨kx.toArray⟩)):=qh (fun w' h=>(h.cell (World.block_lt_of_cell? _ _ n0)).trans n0)
  obtain ⟨bk,hbk⟩:∃ bk,Scn.behind kx=bk:=⟨_,rfl⟩
  have HBH:Hid (∀ w',Below w0.heap.size w0 w'->Calls Tryz.prog 65 #[.string ⟨kx.toArray⟩] w' fun r w''=>r=.returned (.string ⟨bk.toArray⟩)/\Below w0.heap.size w0 w''):=qh (fun w' h=>by
    have h1:=behind_all kx w'
    rw [hbk] at h1
    exact h1.mono fun r w'' ⟨q1,q2⟩=>⟨q1,bchain h q2⟩)
  rw [hbk] at hx ⊢
  have HS:Hid (∀ w',Below w0.heap.size w0 w'->Below w0.heap.size w0 w'/\w'.cell? ⟨w.heap.size,0,none⟩=some (.slice (some ⟨b,o,none⟩) (n+1) cap)/\w'.cell? ⟨w.heap.size,1,none⟩=some (.string ⟨x.toArray⟩)/\w'.cell? ⟨b,o+n * 2,none⟩=some (.string ⟨kx.toArray⟩)):=qh (fun w' h=>
    ⟨h,by rw [← hn]; exact (HP.out w' h).1,(HP.out w' h).2,HIT.out w' h⟩)
  rw [hn] at hw0 ⊢
  have BD:Below w0.heap.size w0 w0.drew:=(Below.refl _ _).drew
  have y0:(0:Int)<=(n:Int):=by omega
  have y1:(n:Int) < (n:Int)+1:=by omega
  have y2:(n:Int)<=100:=by omega
  have y3:IntKind.i64.wrap ((n:Int)+1 - 1)=(n:Int):=by unfold IntKind.wrap; simp [IntKind.bits,IntKind.signed]; omega
  have y4:IntKind.i64.wrap (n:Int)=(n:Int):=by unfold IntKind.wrap; simp [IntKind.bits,IntKind.signed]; omega
  clear hl hi hb0 ra hi0 hgd n0 n1 hkx hbk hn hm HP HIT
  have q1:(x == bk)=true:=beq_iff_eq.2 hx
  rw [decide_eq_true hx,Bool.true_and]
  clear hx
  have q2:(e == [])=true:=beq_iff_eq.2 he
  have q3:e.isEmpty=true:=by rw [he]; rfl
  rw [decide_eq_true he,Bool.true_or]
  clear he
  go_enter Tryz.func43,Tryz.ntmps43
  go_upto_region 1 with fail
  clear hw0
  refine region_inv (fun L a w'=>∃ v7 v8 v9 v10 v11 v12 v13 v14 v15 v16 v17 v18 v19 v20 v21 v22 v23 v24 v25 v26 v27 v28 v29 v30 v31 v32 v33 v34 v6:Value,a=⟨#[.agg #[.slice (some ⟨b,o,none⟩) (n+1) cap,.string ⟨x.toArray⟩,zn],.string ⟨e.toArray⟩,.int .i64 ((n:Int)+1),.pointer (some ⟨w.heap.size,0,none⟩),undef,undef,v6,v7,v8,v9,v10,v11,v12,v13,v14,v15,v16,v17,v18,v19,v20,v21,v22,v23,v24,v25,v26,v27,v28,v29,v30,v31,v32,v33,v34],[]⟩/\Below w0.heap.size w0 w'/\(L[0]?=some true->v7=.pointer (some ⟨w.heap.size,0,none⟩))/\(L[1]?=some true->v8=.slice (some ⟨b,o,none⟩) (n+1) cap)/\(L[2]?=some true->v9=.int .i64 ((n:Int)+1))/\(L[3]?=some true->v10=.int .i64 ((n:Int)+1))/\(L[4]?=some true->v11=.bool true)/\(L[5]?=some true->v12=.bool true)/\(L[6]?=some true->v13=.pointer (some ⟨w.heap.size,1,none⟩))/\(L[7]?=some true->v14=.string ⟨x.toArray⟩)/\(L[8]?=some true->v15=.pointer (some ⟨w.heap.size,0,none⟩))/\(L[9]?=some true->v16=.slice (some ⟨b,o,none⟩) (n+1) cap)/\(L[10]?=some true->v17=.int .i64 ((n:Int)+1))/\(L[11]?=some true->v18=.int .i64 (n:Int))/\(L[12]?=some true->v19=.pointer (some ⟨b,o+n * 2,none⟩))/\(L[13]?=some true->v20=.pointer (some ⟨b,o+n * 2,none⟩))/\(L[14]?=some true->v21=.string ⟨kx.toArray⟩)/\(L[15]?=some true->v22=.string ⟨bk.toArray⟩)/\(L[16]?=some true->v23=.bool true)/\(L[17]?=some true->v24=.bool true)/\(L[18]?=some true->v25=.bool true)/\(L[19]?=some true->v26=.string ⟨e.toArray⟩)/\(L[20]?=some true->v27=.bool true)/\(L[21]?=some true->v28=.bool true)/\(L[22]?=some true->v29=undef)/\(L[23]?=some true->v30=undef)/\(L[24]?=some true->v31=undef)/\(L[25]?=some true->v32=undef)/\(L[26]?=some true->v33=.bool true)/\(L[27]?=some true->v34=.bool true)/\(L[28]?=some true->v6=.bool true)) (by rfl) ?_ ?_ ?_
  · exact ⟨_,_,_,_,_,_,_,_,_,_,_,_,_,_,_,_,_,_,_,_,_,_,_,_,_,_,_,_,_,rfl,BD,by simp,by simp,by simp,by simp,by simp,by simp,by simp,by simp,by simp,by simp,by simp,by simp,by simp,by simp,by simp,by simp,by simp,by simp,by simp,by simp,by simp,by simp,by simp,by simp,by simp,by simp,by simp,by simp,by simp⟩
  · intro L a w1' hL hI j o ho hj K hK
    obtain ⟨v7,v8,v9,v10,v11,v12,v13,v14,v15,v16,v17,v18,v19,v20,v21,v22,v23,v24,v25,v26,v27,v28,v29,v30,v31,v32,v33,v34,v6,rfl,hB,h0,h1,h2,h3,h4,h5,h6,h7,h8,h9,h10,h11,h12,h13,h14,h15,h16,h17,h18,h19,h20,h21,h22,h23,h24,h25,h26,h27,h28⟩:=hI
    obtain ⟨b0,b1,b2,b3,b4,b5,b6,b7,b8,b9,b10,b11,b12,b13,b14,b15,b16,b17,b18,b19,b20,b21,b22,b23,b24,b25,b26,b27,b28,rfl⟩:∃ b0 b1 b2 b3 b4 b5 b6 b7 b8 b9 b10 b11 b12 b13 b14 b15 b16 b17 b18 b19 b20 b21 b22 b23 b24 b25 b26 b27 b28,L=[b0,b1,b2,b3,b4,b5,b6,b7,b8,b9,b10,b11,b12,b13,b14,b15,b16,b17,b18,b19,b20,b21,b22,b23,b24,b25,b26,b27,b28]:=by
      match L,hL with
      | [b0,b1,b2,b3,b4,b5,b6,b7,b8,b9,b10,b11,b12,b13,b14,b15,b16,b17,b18,b19,b20,b21,b22,b23,b24,b25,b26,b27,b28],_=>exact ⟨b0,b1,b2,b3,b4,b5,b6,b7,b8,b9,b10,b11,b12,b13,b14,b15,b16,b17,b18,b19,b20,b21,b22,b23,b24,b25,b26,b27,b28,rfl⟩
    have hi2:=(List.mem_filter.1 hj).2
    clear hj hL
    obtain ⟨-,p0,p1,p2⟩:=HS.out _ hB
    rcases j with _ | _ | _ | _ | _ | _ | _ | _ | _ | _ | _ | _ | _ | _ | _ | _ | _ | _ | _ | _ | _ | _ | _ | _ | _ | _ | _ | _ | _ | j
    · obtain rfl:=Option.some.inj ho
      clear ho hi2
      rw [if_pos (by rfl)]
      go_simp
      exact hK _ _ ⟨_,v8,v9,v10,v11,v12,v13,v14,v15,v16,v17,v18,v19,v20,v21,v22,v23,v24,v25,v26,v27,v28,v29,v30,v31,v32,v33,v34,v6,rfl,hB,fun _=>rfl,h1,h2,h3,h4,h5,h6,h7,h8,h9,h10,h11,h12,h13,h14,h15,h16,h17,h18,h19,h20,h21,h22,h23,h24,h25,h26,h27,h28⟩
    · obtain rfl:=Option.some.inj ho
      simp [Region.binds] at hi2
      obtain rfl:=h0 (by simp [hi2])
      clear ho hi2
      rw [if_pos (by rfl)]
      go_simp
      exact hK _ _ ⟨_,_,v9,v10,v11,v12,v13,v14,v15,v16,v17,v18,v19,v20,v21,v22,v23,v24,v25,v26,v27,v28,v29,v30,v31,v32,v33,v34,v6,rfl,hB,fun _=>rfl,fun _=>rfl,h2,h3,h4,h5,h6,h7,h8,h9,h10,h11,h12,h13,h14,h15,h16,h17,h18,h19,h20,h21,h22,h23,h24,h25,h26,h27,h28⟩
    · obtain rfl:=Option.some.inj ho
      simp [Region.binds] at hi2
      obtain rfl:=h1 (by simp [hi2])
      clear ho hi2
      rw [if_pos (by rfl)]
      go_simp
      exact hK _ _ ⟨v7,_,_,v10,v11,v12,v13,v14,v15,v16,v17,v18,v19,v20,v21,v22,v23,v24,v25,v26,v27,v28,v29,v30,v31,v32,v33,v34,v6,rfl,hB,h0,fun _=>rfl,fun _=>rfl,h3,h4,h5,h6,h7,h8,h9,h10,h11,h12,h13,h14,h15,h16,h17,h18,h19,h20,h21,h22,h23,h24,h25,h26,h27,h28⟩
    · obtain rfl:=Option.some.inj ho
      clear ho hi2
      rw [if_pos (by rfl)]
      go_simp
      exact hK _ _ ⟨v7,v8,v9,_,v11,v12,v13,v14,v15,v16,v17,v18,v19,v20,v21,v22,v23,v24,v25,v26,v27,v28,v29,v30,v31,v32,v33,v34,v6,rfl,hB,h0,h1,h2,fun _=>rfl,h4,h5,h6,h7,h8,h9,h10,h11,h12,h13,h14,h15,h16,h17,h18,h19,h20,h21,h22,h23,h24,h25,h26,h27,h28⟩
    · obtain rfl:=Option.some.inj ho
      simp [Region.binds] at hi2
      obtain rfl:=h2 (by simp [hi2])
      obtain rfl:=h3 (by simp [hi2])
      clear ho hi2
      rw [if_pos (by rfl)]
      go_simp
      exact hK _ _ ⟨v7,v8,_,_,_,v12,v13,v14,v15,v16,v17,v18,v19,v20,v21,v22,v23,v24,v25,v26,v27,v28,v29,v30,v31,v32,v33,v34,v6,rfl,hB,h0,h1,fun _=>rfl,fun _=>rfl,fun _=>rfl,h5,h6,h7,h8,h9,h10,h11,h12,h13,h14,h15,h16,h17,h18,h19,h20,h21,h22,h23,h24,h25,h26,h27,h28⟩
    · obtain rfl:=Option.some.inj ho
      simp [Region.binds] at hi2
      obtain rfl:=h4 (by simp [hi2])
      clear ho hi2
      rw [if_pos (by rfl)]
      go_simp
      exact hK _ _ ⟨v7,v8,v9,v10,_,_,v13,v14,v15,v16,v17,v18,v19,v20,v21,v22,v23,v24,v25,v26,v27,v28,v29,v30,v31,v32,v33,v34,v6,rfl,hB,h0,h1,h2,h3,fun _=>rfl,fun _=>rfl,h6,h7,h8,h9,h10,h11,h12,h13,h14,h15,h16,h17,h18,h19,h20,h21,h22,h23,h24,h25,h26,h27,h28⟩
    · obtain rfl:=Option.some.inj ho
      simp [Region.binds] at hi2
      obtain rfl:=h5 (by simp [hi2])
      clear ho hi2
      rw [if_pos (by rfl)]
      go_simp
      exact hK _ _ ⟨v7,v8,v9,v10,v11,_,_,v14,v15,v16,v17,v18,v19,v20,v21,v22,v23,v24,v25,v26,v27,v28,v29,v30,v31,v32,v33,v34,v6,rfl,hB,h0,h1,h2,h3,h4,fun _=>rfl,fun _=>rfl,h7,h8,h9,h10,h11,h12,h13,h14,h15,h16,h17,h18,h19,h20,h21,h22,h23,h24,h25,h26,h27,h28⟩
    · obtain rfl:=Option.some.inj ho
      simp [Region.binds] at hi2
      obtain rfl:=h6 (by simp [hi2])
      obtain rfl:=h5 (by simp [hi2])
      clear ho hi2
      rw [if_pos (by rfl)]
      go_simp
      exact hK _ _ ⟨v7,v8,v9,v10,v11,_,_,_,v15,v16,v17,v18,v19,v20,v21,v22,v23,v24,v25,v26,v27,v28,v29,v30,v31,v32,v33,v34,v6,rfl,hB,h0,h1,h2,h3,h4,fun _=>rfl,fun _=>rfl,fun _=>rfl,h8,h9,h10,h11,h12,h13,h14,h15,h16,h17,h18,h19,h20,h21,h22,h23,h24,h25,h26,h27,h28⟩
    · obtain rfl:=Option.some.inj ho
      simp [Region.binds] at hi2
      obtain rfl:=h5 (by simp [hi2])
      clear ho hi2
      rw [if_pos (by rfl)]
      go_simp
      exact hK _ _ ⟨v7,v8,v9,v10,v11,_,v13,v14,_,v16,v17,v18,v19,v20,v21,v22,v23,v24,v25,v26,v27,v28,v29,v30,v31,v32,v33,v34,v6,rfl,hB,h0,h1,h2,h3,h4,fun _=>rfl,h6,h7,fun _=>rfl,h9,h10,h11,h12,h13,h14,h15,h16,h17,h18,h19,h20,h21,h22,h23,h24,h25,h26,h27,h28⟩
    · obtain rfl:=Option.some.inj ho
      simp [Region.binds] at hi2
      obtain rfl:=h8 (by simp [hi2])
      obtain rfl:=h5 (by simp [hi2])
      clear ho hi2
      rw [if_pos (by rfl)]
      go_simp
      exact hK _ _ ⟨v7,v8,v9,v10,v11,_,v13,v14,_,_,v17,v18,v19,v20,v21,v22,v23,v24,v25,v26,v27,v28,v29,v30,v31,v32,v33,v34,v6,rfl,hB,h0,h1,h2,h3,h4,fun _=>rfl,h6,h7,fun _=>rfl,fun _=>rfl,h10,h11,h12,h13,h14,h15,h16,h17,h18,h19,h20,h21,h22,h23,h24,h25,h26,h27,h28⟩
    · obtain rfl:=Option.some.inj ho
      simp [Region.binds] at hi2
      obtain rfl:=h5 (by simp [hi2])
      clear ho hi2
      rw [if_pos (by rfl)]
      go_simp
      exact hK _ _ ⟨v7,v8,v9,v10,v11,_,v13,v14,v15,v16,_,v18,v19,v20,v21,v22,v23,v24,v25,v26,v27,v28,v29,v30,v31,v32,v33,v34,v6,rfl,hB,h0,h1,h2,h3,h4,fun _=>rfl,h6,h7,h8,h9,fun _=>rfl,h11,h12,h13,h14,h15,h16,h17,h18,h19,h20,h21,h22,h23,h24,h25,h26,h27,h28⟩
    · obtain rfl:=Option.some.inj ho
      simp [Region.binds] at hi2
      obtain rfl:=h10 (by simp [hi2])
      obtain rfl:=h5 (by simp [hi2])
      clear ho hi2
      rw [if_pos (by rfl)]
      go_simp
      exact hK _ _ ⟨v7,v8,v9,v10,v11,_,v13,v14,v15,v16,_,_,v19,v20,v21,v22,v23,v24,v25,v26,v27,v28,v29,v30,v31,v32,v33,v34,v6,rfl,hB,h0,h1,h2,h3,h4,fun _=>rfl,h6,h7,h8,h9,fun _=>rfl,fun _=>rfl,h12,h13,h14,h15,h16,h17,h18,h19,h20,h21,h22,h23,h24,h25,h26,h27,h28⟩
    · obtain rfl:=Option.some.inj ho
      simp [Region.binds] at hi2
      obtain rfl:=h9 (by simp [hi2])
      obtain rfl:=h11 (by simp [hi2])
      obtain rfl:=h5 (by simp [hi2])
      clear ho hi2
      rw [if_pos (by rfl)]
      go_simp
      exact hK _ _ ⟨v7,v8,v9,v10,v11,_,v13,v14,v15,_,v17,_,_,v20,v21,v22,v23,v24,v25,v26,v27,v28,v29,v30,v31,v32,v33,v34,v6,rfl,hB,h0,h1,h2,h3,h4,fun _=>rfl,h6,h7,h8,fun _=>rfl,h10,fun _=>rfl,fun _=>rfl,h13,h14,h15,h16,h17,h18,h19,h20,h21,h22,h23,h24,h25,h26,h27,h28⟩
    · obtain rfl:=Option.some.inj ho
      simp [Region.binds] at hi2
      obtain rfl:=h12 (by simp [hi2])
      obtain rfl:=h5 (by simp [hi2])
      clear ho hi2
      rw [if_pos (by rfl)]
      go_simp
      exact hK _ _ ⟨v7,v8,v9,v10,v11,_,v13,v14,v15,v16,v17,v18,_,_,v21,v22,v23,v24,v25,v26,v27,v28,v29,v30,v31,v32,v33,v34,v6,rfl,hB,h0,h1,h2,h3,h4,fun _=>rfl,h6,h7,h8,h9,h10,h11,fun _=>rfl,fun _=>rfl,h14,h15,h16,h17,h18,h19,h20,h21,h22,h23,h24,h25,h26,h27,h28⟩
    · obtain rfl:=Option.some.inj ho
      simp [Region.binds] at hi2
      obtain rfl:=h13 (by simp [hi2])
      obtain rfl:=h5 (by simp [hi2])
      clear ho hi2
      rw [if_pos (by rfl)]
      go_simp
      exact hK _ _ ⟨v7,v8,v9,v10,v11,_,v13,v14,v15,v16,v17,v18,v19,_,_,v22,v23,v24,v25,v26,v27,v28,v29,v30,v31,v32,v33,v34,v6,rfl,hB,h0,h1,h2,h3,h4,fun _=>rfl,h6,h7,h8,h9,h10,h11,h12,fun _=>rfl,fun _=>rfl,h15,h16,h17,h18,h19,h20,h21,h22,h23,h24,h25,h26,h27,h28⟩
    · obtain rfl:=Option.some.inj ho
      simp [Region.binds] at hi2
      obtain rfl:=h14 (by simp [hi2])
      obtain rfl:=h5 (by simp [hi2])
      clear ho hi2
      rw [if_pos (by rfl)]
      go_simp
      refine (HBH.out _ hB).mono ?_
      rintro r w2 ⟨rfl,hB2⟩
      exact hK _ _ ⟨v7,v8,v9,v10,v11,_,v13,v14,v15,v16,v17,v18,v19,v20,_,_,v23,v24,v25,v26,v27,v28,v29,v30,v31,v32,v33,v34,v6,rfl,hB2,h0,h1,h2,h3,h4,fun _=>rfl,h6,h7,h8,h9,h10,h11,h12,h13,fun _=>rfl,fun _=>rfl,h16,h17,h18,h19,h20,h21,h22,h23,h24,h25,h26,h27,h28⟩
    · obtain rfl:=Option.some.inj ho
      simp [Region.binds] at hi2
      obtain rfl:=h7 (by simp [hi2])
      obtain rfl:=h15 (by simp [hi2])
      obtain rfl:=h5 (by simp [hi2])
      clear ho hi2
      rw [if_pos (by rfl)]
      go_simp
      exact hK _ _ ⟨v7,v8,v9,v10,v11,_,v13,_,v15,v16,v17,v18,v19,v20,v21,_,_,v24,v25,v26,v27,v28,v29,v30,v31,v32,v33,v34,v6,rfl,hB,h0,h1,h2,h3,h4,fun _=>rfl,h6,fun _=>rfl,h8,h9,h10,h11,h12,h13,h14,fun _=>rfl,fun _=>rfl,h17,h18,h19,h20,h21,h22,h23,h24,h25,h26,h27,h28⟩
    · obtain rfl:=Option.some.inj ho
      simp [Region.binds] at hi2
      obtain rfl:=h5 (by simp [hi2])
      obtain rfl:=h16 (by simp [hi2])
      clear ho hi2
      rw [if_pos (by rfl)]
      go_simp
      exact hK _ _ ⟨v7,v8,v9,v10,v11,_,v13,v14,v15,v16,v17,v18,v19,v20,v21,v22,_,_,v25,v26,v27,v28,v29,v30,v31,v32,v33,v34,v6,rfl,hB,h0,h1,h2,h3,h4,fun _=>rfl,h6,h7,h8,h9,h10,h11,h12,h13,h14,h15,fun _=>rfl,fun _=>rfl,h18,h19,h20,h21,h22,h23,h24,h25,h26,h27,h28⟩
    · obtain rfl:=Option.some.inj ho
      simp [Region.binds] at hi2
      obtain rfl:=h17 (by simp [hi2])
      clear ho hi2
      rw [if_pos (by rfl)]
      go_simp
      exact hK _ _ ⟨v7,v8,v9,v10,v11,v12,v13,v14,v15,v16,v17,v18,v19,v20,v21,v22,v23,_,_,v26,v27,v28,v29,v30,v31,v32,v33,v34,v6,rfl,hB,h0,h1,h2,h3,h4,h5,h6,h7,h8,h9,h10,h11,h12,h13,h14,h15,h16,fun _=>rfl,fun _=>rfl,h19,h20,h21,h22,h23,h24,h25,h26,h27,h28⟩
    · obtain rfl:=Option.some.inj ho
      simp [Region.binds] at hi2
      obtain rfl:=h18 (by simp [hi2])
      clear ho hi2
      rw [if_pos (by rfl)]
      go_simp
      exact hK _ _ ⟨v7,v8,v9,v10,v11,v12,v13,v14,v15,v16,v17,v18,v19,v20,v21,v22,v23,v24,_,_,v27,v28,v29,v30,v31,v32,v33,v34,v6,rfl,hB,h0,h1,h2,h3,h4,h5,h6,h7,h8,h9,h10,h11,h12,h13,h14,h15,h16,h17,fun _=>rfl,fun _=>rfl,h20,h21,h22,h23,h24,h25,h26,h27,h28⟩
    · obtain rfl:=Option.some.inj ho
      simp [Region.binds] at hi2
      obtain rfl:=h19 (by simp [hi2])
      obtain rfl:=h18 (by simp [hi2])
      clear ho hi2
      rw [if_pos (by rfl)]
      go_simp
      exact hK _ _ ⟨v7,v8,v9,v10,v11,v12,v13,v14,v15,v16,v17,v18,v19,v20,v21,v22,v23,v24,_,_,_,v28,v29,v30,v31,v32,v33,v34,v6,rfl,hB,h0,h1,h2,h3,h4,h5,h6,h7,h8,h9,h10,h11,h12,h13,h14,h15,h16,h17,fun _=>rfl,fun _=>rfl,fun _=>rfl,h21,h22,h23,h24,h25,h26,h27,h28⟩
    · obtain rfl:=Option.some.inj ho
      simp [Region.binds] at hi2
      obtain rfl:=h20 (by simp [hi2])
      obtain rfl:=h18 (by simp [hi2])
      clear ho hi2
      rw [if_pos (by rfl)]
      go_simp
      exact hK _ _ ⟨v7,v8,v9,v10,v11,v12,v13,v14,v15,v16,v17,v18,v19,v20,v21,v22,v23,v24,_,v26,_,_,v29,v30,v31,v32,v33,v34,v6,rfl,hB,h0,h1,h2,h3,h4,h5,h6,h7,h8,h9,h10,h11,h12,h13,h14,h15,h16,h17,fun _=>rfl,h19,fun _=>rfl,fun _=>rfl,h22,h23,h24,h25,h26,h27,h28⟩
    · obtain rfl:=Option.some.inj ho
      simp [Region.binds] at hi2
      obtain rfl:=h21 (by simp [hi2])
      clear ho hi2
      rw [if_neg (by rw [show Region.wanted _ _=false from rfl]; decide)]
      exact hK _ _ ⟨v7,v8,v9,v10,v11,v12,v13,v14,v15,v16,v17,v18,v19,v20,v21,v22,v23,v24,v25,v26,v27,_,_,v30,v31,v32,v33,v34,v6,rfl,hB,h0,h1,h2,h3,h4,h5,h6,h7,h8,h9,h10,h11,h12,h13,h14,h15,h16,h17,h18,h19,h20,fun _=>rfl,fun _=>rfl,h23,h24,h25,h26,h27,h28⟩
    · obtain rfl:=Option.some.inj ho
      simp [Region.binds] at hi2
      obtain rfl:=h21 (by simp [hi2])
      clear ho hi2
      rw [if_neg (by rw [show Region.wanted _ _=false from rfl]; decide)]
      exact hK _ _ ⟨v7,v8,v9,v10,v11,v12,v13,v14,v15,v16,v17,v18,v19,v20,v21,v22,v23,v24,v25,v26,v27,_,v29,_,v31,v32,v33,v34,v6,rfl,hB,h0,h1,h2,h3,h4,h5,h6,h7,h8,h9,h10,h11,h12,h13,h14,h15,h16,h17,h18,h19,h20,fun _=>rfl,h22,fun _=>rfl,h24,h25,h26,h27,h28⟩
    · obtain rfl:=Option.some.inj ho
      simp [Region.binds] at hi2
      obtain rfl:=h21 (by simp [hi2])
      clear ho hi2
      rw [if_neg (by rw [show Region.wanted _ _=false from rfl]; decide)]
      exact hK _ _ ⟨v7,v8,v9,v10,v11,v12,v13,v14,v15,v16,v17,v18,v19,v20,v21,v22,v23,v24,v25,v26,v27,_,v29,v30,_,v32,v33,v34,v6,rfl,hB,h0,h1,h2,h3,h4,h5,h6,h7,h8,h9,h10,h11,h12,h13,h14,h15,h16,h17,h18,h19,h20,fun _=>rfl,h22,h23,fun _=>rfl,h25,h26,h27,h28⟩
    · obtain rfl:=Option.some.inj ho
      simp [Region.binds] at hi2
      obtain rfl:=h21 (by simp [hi2])
      clear ho hi2
      rw [if_neg (by rw [show Region.wanted _ _=false from rfl]; decide)]
      exact hK _ _ ⟨v7,v8,v9,v10,v11,v12,v13,v14,v15,v16,v17,v18,v19,v20,v21,v22,v23,v24,v25,v26,v27,_,v29,v30,v31,_,v33,v34,v6,rfl,hB,h0,h1,h2,h3,h4,h5,h6,h7,h8,h9,h10,h11,h12,h13,h14,h15,h16,h17,h18,h19,h20,fun _=>rfl,h22,h23,h24,fun _=>rfl,h26,h27,h28⟩
    · obtain rfl:=Option.some.inj ho
      simp [Region.binds] at hi2
      obtain rfl:=h21 (by simp [hi2])
      obtain rfl:=h25 (by simp [hi2])
      obtain rfl:=h18 (by simp [hi2])
      clear ho hi2
      rw [if_pos (by rfl)]
      go_simp
      exact hK _ _ ⟨v7,v8,v9,v10,v11,v12,v13,v14,v15,v16,v17,v18,v19,v20,v21,v22,v23,v24,_,v26,v27,_,v29,v30,v31,_,_,v34,v6,rfl,hB,h0,h1,h2,h3,h4,h5,h6,h7,h8,h9,h10,h11,h12,h13,h14,h15,h16,h17,fun _=>rfl,h19,h20,fun _=>rfl,h22,h23,h24,fun _=>rfl,fun _=>rfl,h27,h28⟩
    · obtain rfl:=Option.some.inj ho
      simp [Region.binds] at hi2
      obtain rfl:=h18 (by simp [hi2])
      obtain rfl:=h26 (by simp [hi2])
      clear ho hi2
      rw [if_pos (by rfl)]
      go_simp
      exact hK _ _ ⟨v7,v8,v9,v10,v11,v12,v13,v14,v15,v16,v17,v18,v19,v20,v21,v22,v23,v24,_,v26,v27,v28,v29,v30,v31,v32,_,_,v6,rfl,hB,h0,h1,h2,h3,h4,h5,h6,h7,h8,h9,h10,h11,h12,h13,h14,h15,h16,h17,fun _=>rfl,h19,h20,h21,h22,h23,h24,h25,fun _=>rfl,fun _=>rfl,h28⟩
    · obtain rfl:=Option.some.inj ho
      simp [Region.binds] at hi2
      obtain rfl:=h27 (by simp [hi2])
      clear ho hi2
      rw [if_pos (by rfl)]
      go_simp
      exact hK _ _ ⟨v7,v8,v9,v10,v11,v12,v13,v14,v15,v16,v17,v18,v19,v20,v21,v22,v23,v24,v25,v26,v27,v28,v29,v30,v31,v32,v33,_,_,rfl,hB,h0,h1,h2,h3,h4,h5,h6,h7,h8,h9,h10,h11,h12,h13,h14,h15,h16,h17,h18,h19,h20,h21,h22,h23,h24,h25,h26,fun _=>rfl,fun _=>rfl⟩
    · simp at ho
  · intro L a w2 hL hr hI
    obtain ⟨v7,v8,v9,v10,v11,v12,v13,v14,v15,v16,v17,v18,v19,v20,v21,v22,v23,v24,v25,v26,v27,v28,v29,v30,v31,v32,v33,v34,v6,rfl,hB,h0,h1,h2,h3,h4,h5,h6,h7,h8,h9,h10,h11,h12,h13,h14,h15,h16,h17,h18,h19,h20,h21,h22,h23,h24,h25,h26,h27,h28⟩:=hI
    obtain ⟨b0,b1,b2,b3,b4,b5,b6,b7,b8,b9,b10,b11,b12,b13,b14,b15,b16,b17,b18,b19,b20,b21,b22,b23,b24,b25,b26,b27,b28,rfl⟩:∃ b0 b1 b2 b3 b4 b5 b6 b7 b8 b9 b10 b11 b12 b13 b14 b15 b16 b17 b18 b19 b20 b21 b22 b23 b24 b25 b26 b27 b28,L=[b0,b1,b2,b3,b4,b5,b6,b7,b8,b9,b10,b11,b12,b13,b14,b15,b16,b17,b18,b19,b20,b21,b22,b23,b24,b25,b26,b27,b28]:=by
      match L,hL with
      | [b0,b1,b2,b3,b4,b5,b6,b7,b8,b9,b10,b11,b12,b13,b14,b15,b16,b17,b18,b19,b20,b21,b22,b23,b24,b25,b26,b27,b28],_=>exact ⟨b0,b1,b2,b3,b4,b5,b6,b7,b8,b9,b10,b11,b12,b13,b14,b15,b16,b17,b18,b19,b20,b21,b22,b23,b24,b25,b26,b27,b28,rfl⟩
    have hr2:=List.filter_eq_nil_iff.1 hr
    clear hr hL
    have k0:=hr2 0 (by simp)
    have k1:=hr2 1 (by simp)
    have k2:=hr2 2 (by simp)
    have k3:=hr2 3 (by simp)
    have k4:=hr2 4 (by simp)
    have k5:=hr2 5 (by simp)
    have k6:=hr2 6 (by simp)
    have k7:=hr2 7 (by simp)
    have k8:=hr2 8 (by simp)
    have k9:=hr2 9 (by simp)
    have k10:=hr2 10 (by simp)
    have k11:=hr2 11 (by simp)
    have k12:=hr2 12 (by simp)
    have k13:=hr2 13 (by simp)
    have k14:=hr2 14 (by simp)
    have k15:=hr2 15 (by simp)
    have k16:=hr2 16 (by simp)
    have k17:=hr2 17 (by simp)
    have k18:=hr2 18 (by simp)
    have k19:=hr2 19 (by simp)
    have k20:=hr2 20 (by simp)
    have k21:=hr2 21 (by simp)
    have k22:=hr2 22 (by simp)
    have k23:=hr2 23 (by simp)
    have k24:=hr2 24 (by simp)
    have k25:=hr2 25 (by simp)
    have k26:=hr2 26 (by simp)
    have k27:=hr2 27 (by simp)
    have k28:=hr2 28 (by simp)
    clear hr2
    simp [Region.binds] at k0
    subst k0
    simp [Region.binds] at k1
    subst k1
    simp [Region.binds] at k2
    subst k2
    simp [Region.binds] at k3
    subst k3
    simp [Region.binds] at k4
    subst k4
    simp [Region.binds] at k5
    subst k5
    simp [Region.binds] at k6
    subst k6
    simp [Region.binds] at k7
    subst k7
    simp [Region.binds] at k8
    subst k8
    simp [Region.binds] at k9
    subst k9
    simp [Region.binds] at k10
    subst k10
    simp [Region.binds] at k11
    subst k11
    simp [Region.binds] at k12
    subst k12
    simp [Region.binds] at k13
    subst k13
    simp [Region.binds] at k14
    subst k14
    simp [Region.binds] at k15
    subst k15
    simp [Region.binds] at k16
    subst k16
    simp [Region.binds] at k17
    subst k17
    simp [Region.binds] at k18
    subst k18
    simp [Region.binds] at k19
    subst k19
    simp [Region.binds] at k20
    subst k20
    simp [Region.binds] at k21
    subst k21
    simp [Region.binds] at k22
    subst k22
    simp [Region.binds] at k23
    subst k23
    simp [Region.binds] at k24
    subst k24
    simp [Region.binds] at k25
    subst k25
    simp [Region.binds] at k26
    subst k26
    simp [Region.binds] at k27
    subst k27
    simp [Region.binds] at k28
    subst k28
    obtain rfl:=h0 rfl
    obtain rfl:=h1 rfl
    obtain rfl:=h2 rfl
    obtain rfl:=h3 rfl
    obtain rfl:=h4 rfl
    obtain rfl:=h5 rfl
    obtain rfl:=h6 rfl
    obtain rfl:=h7 rfl
    obtain rfl:=h8 rfl
    obtain rfl:=h9 rfl
    obtain rfl:=h10 rfl
    obtain rfl:=h11 rfl
    obtain rfl:=h12 rfl
    obtain rfl:=h13 rfl
    obtain rfl:=h14 rfl
    obtain rfl:=h15 rfl
    obtain rfl:=h16 rfl
    obtain rfl:=h17 rfl
    obtain rfl:=h18 rfl
    obtain rfl:=h19 rfl
    obtain rfl:=h20 rfl
    obtain rfl:=h21 rfl
    obtain rfl:=h22 rfl
    obtain rfl:=h23 rfl
    obtain rfl:=h24 rfl
    obtain rfl:=h25 rfl
    obtain rfl:=h26 rfl
    obtain rfl:=h27 rfl
    obtain rfl:=h28 rfl
    have HBF:=qh (bchain HB.out hB)
    go_wp2
    go_ret
    exact ⟨rfl,HBF.out⟩
end
end Go.Proofs.YtaficmboooaknaaGreatDoor
