import Derived.Lib.Hide
import GoSem.Op.String
set_option maxRecDepth 100000
set_option maxHeartbeats 16000000
namespace Go.Proofs.YtaficmboooaknaaGreatDoor
theorem qh {p : Prop} (h : p) : Go.RowKit.Hid p := h
namespace Sto
abbrev T:=List UInt8
abbrev St:=List (T × T)
def Rising (S:St):Prop:=S.Pairwise fun a b=>a.1 < b.1
def look:St->T->Option T
  | [],_=>none
  | a :: r,x=>if x=a.1 then some a.2 else look r x
def put:St->T->T->St
  | [],k,t=>[(k,t)]
  | a :: r,k,t=>if k=a.1 then a :: r else if k < a.1 then (k,t) :: a :: r else a :: put r k t
def keys (S:St):List T:=S.map (·.1)
theorem tri (x y:T):x < y ∨ x=y ∨ y < x:=by
  by_cases h:x < y
  · exact Or.inl h
  · rcases List.le_iff_lt_or_eq.1 (List.not_lt.1 h) with h | h
    · exact Or.inr (Or.inr h)
    · exact Or.inr (Or.inl h.symm)
theorem lt_ne {x y:T} (h:x < y):x ≠ y:=fun e=>by subst e; exact List.lt_irrefl _ h
theorem look_isSome (S:St) (x:T):(look S x).isSome=true ↔ x ∈ keys S:=by
  induction S with
  | nil=>simp [look,keys]
  | cons a r ih=>
    rw [look]
    by_cases e:x=a.1
    · rw [if_pos e]; simp [keys,e]
    · rw [if_neg e,ih]
      simp only [keys,List.map_cons,List.mem_cons]
      exact ⟨Or.inr,fun h=>h.resolve_left e⟩
theorem look_none (S:St) (x:T):look S x=none ↔ x ∉ keys S:=by
  rw [← look_isSome]; cases look S x <;> simp
theorem look_mem {S:St} (hS:Rising S) (x t:T):look S x=some t ↔ (x,t) ∈ S:=by
  induction S with
  | nil=>simp [look]
  | cons a r ih=>
    obtain ⟨h1,h2⟩:=List.pairwise_cons.1 hS
    rw [look]
    by_cases e:x=a.1
    · rw [if_pos e]
      constructor
      · intro h
        simp only [Option.some.injEq] at h
        exact List.mem_cons.2 (Or.inl (Prod.ext e h.symm))
      · intro h
        rcases List.mem_cons.1 h with h | h
        · rw [← h]
        · exact absurd e.symm (lt_ne (h1 _ h))
    · rw [if_neg e,ih h2]
      constructor
      · exact fun h=>List.mem_cons_of_mem _ h
      · intro h
        rcases List.mem_cons.1 h with h | h
        · exact absurd (by rw [← h]) e
        · exact h
theorem look_at {S:St} (hS:Rising S) (i:Nat) (hi:i < S.length):look S S[i].1=some S[i].2:=(look_mem hS _ _).2 (List.getElem_mem hi)
theorem put_mem {S:St} {k t:T} {p:T × T} (h:p ∈ put S k t):p ∈ S ∨ p=(k,t):=by
  induction S with
  | nil=>simp [put] at h; exact Or.inr h
  | cons a r ih=>
    rw [put] at h
    split at h
    · exact Or.inl h
    · split at h
      · rcases List.mem_cons.1 h with h | h
        · exact Or.inr h
        · exact Or.inl h
      · rcases List.mem_cons.1 h with h | h
        · exact Or.inl (by rw [h]; exact List.mem_cons_self ..)
        · exact (ih h).imp (List.mem_cons_of_mem _) id
theorem put_rising {S:St} (hS:Rising S) (k t:T):Rising (put S k t):=by
  induction S with
  | nil=>simp [put,Rising]
  | cons a r ih=>
    obtain ⟨h1,h2⟩:=List.pairwise_cons.1 hS
    rw [put]
    split
    · exact hS
    · rename_i e
      split
      · rename_i l
        refine List.pairwise_cons.2 ⟨fun b hb=>?_,hS⟩
        rcases List.mem_cons.1 hb with rfl | hb
        · exact l
        · exact List.lt_trans l (h1 b hb)
      · rename_i l
        refine List.pairwise_cons.2 ⟨fun b hb=>?_,ih h2⟩
        rcases put_mem hb with hb | rfl
        · exact h1 b hb
        · exact ((tri k a.1).resolve_left l).resolve_left e
theorem look_put {S:St} (hS:Rising S) (k t x:T):look (put S k t) x=if x=k then some ((look S k).getD t) else look S x:=by
  induction S with
  | nil=>simp only [put,look,Option.getD]
  | cons a r ih=>
    obtain ⟨h1,h2⟩:=List.pairwise_cons.1 hS
    rw [put]
    by_cases e:k=a.1
    · rw [if_pos e]
      by_cases ex:x=k
      · rw [if_pos ex,ex]
        simp only [look]
        rw [if_pos e]
        rfl
      · rw [if_neg ex]
    · rw [if_neg e]
      by_cases l:k < a.1
      · rw [if_pos l]
        have hn:look (a :: r) k=none:=(look_none _ _).2 fun h=>by
          obtain ⟨b,hb,e1⟩:=List.mem_map.1 h
          rcases List.mem_cons.1 hb with rfl | hb
          · exact e e1.symm
          · exact lt_ne (List.lt_trans l (h1 b hb)) e1.symm
        rw [hn]
        simp only [look,Option.getD]
      · rw [if_neg l]
        simp only [look]
        by_cases ex:x=a.1
        · have:x ≠ k:=fun q=>e (q.symm.trans ex)
          rw [if_pos ex,if_neg this,if_pos ex]
        · rw [if_neg ex,ih h2,if_neg e,if_neg ex]
theorem put_len (S:St) (k t:T):(put S k t).length<=S.length+1:=by
  induction S with
  | nil=>simp [put]
  | cons a r ih=>
    rw [put]
    split
    · simp
    · split
      · simp
      · simp only [List.length_cons]; omega
end Sto
section
theorem less_lt:∀ (x y:List UInt8),Op.bytesLess x y=decide (x < y)
  | [],[]=>by simp [Op.bytesLess]
  | _ :: _,[]=>by simp [Op.bytesLess]
  | [],_ :: _=>by simp [Op.bytesLess]
  | a :: x,b :: y=>by
    rw [Op.bytesLess,less_lt x y,Bool.eq_iff_iff]
    simp only [Bool.or_eq_true,Bool.and_eq_true,decide_eq_true_eq,beq_iff_eq,List.cons_lt_cons_iff]
theorem leq_le (x y:List UInt8):(Op.bytesLess x y || x == y)=decide (x<=y):=by
  rw [less_lt,Bool.eq_iff_iff]
  simp only [Bool.or_eq_true,decide_eq_true_eq,beq_iff_eq]
  exact List.le_iff_lt_or_eq.symm
end
namespace Tri
open Sto (T St Rising keys)
def put:St->T->T->St
  | [],k,v=>[(k,v)]
  | a :: r,k,v=>if a.1 < k then a :: put r k v else if a.1=k then (k,v) :: r else (k,v) :: a :: r
def del:St->T->St
  | [],_=>[]
  | a :: r,k=>if a.1=k then r else a :: del r k
def pos:St->T->Nat
  | [],_=>0
  | a :: r,k=>if a.1 < k then pos r k+1 else 0
theorem pos_le (S:St) (k:T):pos S k<=S.length:=by
  induction S with
  | nil=>simp [pos]
  | cons a r ih=>rw [pos]; split <;> simp <;> omega
def at_ (S:St) (k:T):Bool:=(S[pos S k]?.map (·.1)) == some k
theorem at_cons (a:T × T) (r:St) (k:T):at_ (a :: r) k=if a.1 < k then at_ r k else decide (a.1=k):=by
  unfold at_
  rw [pos]
  split
  · simp
  · rw [Bool.eq_iff_iff]; simp
theorem at_look {S:St} (hS:Rising S) (k:T):at_ S k=(Sto.look S k).isSome:=by
  induction S with
  | nil=>simp [at_,Sto.look]
  | cons a r ih=>
    obtain ⟨h1,h2⟩:=List.pairwise_cons.1 hS
    rw [at_cons,Sto.look,ih h2]
    by_cases e:a.1 < k
    · rw [if_pos e,if_neg (fun h=>Sto.lt_ne e h.symm)]
    · rw [if_neg e]
      by_cases e2:k=a.1
      · simp [e2]
      · rw [if_neg e2]
        have:k < a.1:=((Sto.tri k a.1).resolve_right (fun h=>h.elim e2 e))
        rw [show Sto.look r k=none from (Sto.look_none r k).2 fun hm=>by
          obtain ⟨b,hb,rfl⟩:=List.mem_map.1 hm
          exact List.lt_irrefl _ (List.lt_trans this (h1 b hb))]
        simp; exact fun h=>e2 h.symm
theorem look_pos {S:St} (hS:Rising S) (k:T) (h:at_ S k=true):∃ hp:pos S k < S.length,S[pos S k].1=k/\Sto.look S k=some S[pos S k].2:=by
  unfold at_ at h
  have hp:pos S k < S.length:=by
    rcases Nat.lt_or_ge (pos S k) S.length with h2 | h2
    · exact h2
    · rw [List.getElem?_eq_none h2] at h; simp at h
  rw [List.getElem?_eq_getElem hp] at h
  have e:S[pos S k].1=k:=by simpa using h
  exact ⟨hp,e,by
    have:=Sto.look_at hS _ hp
    rw [e] at this; exact this⟩
theorem put_eq (S:St) (k v:T):put S k v=S.take (pos S k) ++ (k,v) :: S.drop (pos S k+if at_ S k then 1 else 0):=by
  induction S with
  | nil=>simp [put,pos,at_]
  | cons a r ih=>
    rw [put,at_cons,pos]
    by_cases e:a.1 < k
    · rw [if_pos e,if_pos e,if_pos e,ih,show pos r k+1+(if at_ r k=true then 1 else 0)=pos r k+(if at_ r k=true then 1 else 0)+1 by omega]; simp
    · rw [if_neg e,if_neg e,if_neg e]
      by_cases e2:a.1=k
      · simp [e2]
      · simp [e2]
theorem put_mem {S:St} {k v:T} {p:T × T} (h:p ∈ put S k v):p ∈ S ∨ p=(k,v):=by
  induction S with
  | nil=>simp [put] at h; exact Or.inr h
  | cons a r ih=>
    rw [put] at h
    split at h
    · rcases List.mem_cons.1 h with h | h
      · exact Or.inl (by rw [h]; exact List.mem_cons_self ..)
      · exact (ih h).imp (List.mem_cons_of_mem _) id
    · split at h
      · rcases List.mem_cons.1 h with h | h
        · exact Or.inr h
        · exact Or.inl (List.mem_cons_of_mem _ h)
      · rcases List.mem_cons.1 h with h | h
        · exact Or.inr h
        · exact Or.inl h
theorem put_rising {S:St} (hS:Rising S) (k v:T):Rising (put S k v):=by
  induction S with
  | nil=>simp [put,Rising]
  | cons a r ih=>
    obtain ⟨h1,h2⟩:=List.pairwise_cons.1 hS
    rw [put]
    split
    · rename_i l
      refine List.pairwise_cons.2 ⟨fun b hb=>?_,ih h2⟩
      rcases put_mem hb with hb | rfl
      · exact h1 b hb
      · exact l
    · rename_i l
      split
      · rename_i e
        subst e
        exact List.pairwise_cons.2 ⟨fun b hb=>h1 b hb,h2⟩
      · rename_i e
        have l2:k < a.1:=((Sto.tri k a.1).resolve_right (fun h=>h.elim (fun h=>e h.symm) l))
        refine List.pairwise_cons.2 ⟨fun b hb=>?_,hS⟩
        rcases List.mem_cons.1 hb with rfl | hb
        · exact l2
        · exact List.lt_trans l2 (h1 b hb)
theorem look_put (S:St) (k v x:T):Rising S->Sto.look (put S k v) x=if x=k then some v else Sto.look S x:=by
  intro hS
  induction S with
  | nil=>simp [put,Sto.look]
  | cons a r ih=>
    obtain ⟨h1,h2⟩:=List.pairwise_cons.1 hS
    rw [put]
    by_cases e:a.1 < k
    · rw [if_pos e,Sto.look,ih h2,Sto.look]
      by_cases ex:x=a.1
      · rw [if_pos ex,if_pos ex,if_neg (fun h=>Sto.lt_ne e (ex.symm.trans h))]
      · rw [if_neg ex,if_neg ex]
    · rw [if_neg e]
      by_cases e2:a.1=k
      · rw [if_pos e2,Sto.look,Sto.look,e2]
        by_cases ex:x=k <;> simp [ex]
      · rw [if_neg e2,Sto.look,Sto.look]
theorem look_ext {S R:St} (hS:Rising S) (hR:Rising R) (h:∀ x,Sto.look S x=Sto.look R x):S=R:=by
  have hm:∀ p:T × T,p ∈ S ↔ p ∈ R:=fun p=>by rw [← Sto.look_mem hS p.1 p.2,← Sto.look_mem hR p.1 p.2,h]
  have nS:S.Nodup:=List.Pairwise.imp (R:=fun (a b:T × T)=>a.1 < b.1) (fun {a b} h e=>Sto.lt_ne h (congrArg Prod.fst e)) hS
  have nR:R.Nodup:=List.Pairwise.imp (R:=fun (a b:T × T)=>a.1 < b.1) (fun {a b} h e=>Sto.lt_ne h (congrArg Prod.fst e)) hR
  have hp:S.Perm R:=(List.perm_ext_iff_of_nodup nS nR).2 hm
  refine hp.eq_of_pairwise (le:=fun a b=>a.1<=b.1) (fun x y hx hy h1 h2=>?_) (hS.imp fun h=>List.le_of_lt h) (hR.imp fun h=>List.le_of_lt h)
  have e:x.1=y.1:=List.le_antisymm h1 h2
  have a1:=(Sto.look_mem hS x.1 x.2).2 hx
  have a2:=(Sto.look_mem hS y.1 y.2).2 ((hm y).2 hy)
  rw [e,a2] at a1
  exact Prod.ext e (Option.some.inj a1).symm
theorem put_len (S:St) (k v:T):(put S k v).length=S.length+if at_ S k then 0 else 1:=by
  rw [put_eq]
  have:=pos_le S k
  by_cases h:at_ S k
  · have hp:pos S k < S.length:=by
      unfold at_ at h
      rcases Nat.lt_or_ge (pos S k) S.length with h2 | h2
      · exact h2
      · rw [List.getElem?_eq_none h2] at h; simp at h
    simp [h]; omega
  · simp [h]; omega
end Tri
namespace Tri
open Sto (T St Rising keys)
inductive Tr where
  | nil:Tr
  | leaf (p v:T):Tr
  | ext (p:T) (t:Tr):Tr
  | br (v:T) (k:Fin 16->Tr):Tr
def hb (i:Fin 16):UInt8:=UInt8.ofNat i.val
theorem hb_toNat (i:Fin 16):(hb i).toNat=i.val:=by
  have:=i.isLt
  simp [hb]; omega
theorem hb_inj {i j:Fin 16} (h:hb i=hb j):i=j:=Fin.ext (by rw [← hb_toNat,← hb_toNat,h])
theorem hb_lt {i j:Fin 16} (h:i < j):hb i < hb j:=by rw [UInt8.lt_iff_toNat_lt,hb_toNat,hb_toNat]; exact h
def behind (p:T) (l:St):St:=l.map fun x=>(p ++ x.1,x.2)
def own (v:T):St:=if v=[] then [] else [([],v)]
def Tr.items:Tr->St
  | .nil=>[]
  | .leaf p v=>[(p,v)]
  | .ext p t=>behind p t.items
  | .br v k=>own v ++ (List.finRange 16).flatMap fun i=>behind [hb i] (k i).items
def Tr.isBr:Tr->Prop
  | .br _ _=>True
  | _=>False
def Tr.isNil:Tr->Prop
  | .nil=>True
  | _=>False
def Tr.nilB:Tr->Bool
  | .nil=>true
  | _=>false
theorem nilB_iff (t:Tr):t.nilB=true ↔ t.isNil:=by cases t <;> simp [Tr.nilB,Tr.isNil]
def Two (v:T) (k:Fin 16->Tr):Prop:=(∃ i j,i < j/\¬ (k i).isNil/\¬ (k j).isNil) ∨ (v ≠ []/\∃ i,¬ (k i).isNil)
def Tr.canon:Tr->Prop
  | .nil=>True
  | .leaf _ v=>v ≠ []
  | .ext p t=>p ≠ []/\t.isBr/\t.canon
  | .br v k=>(∀ i,(k i).canon)/\Two v k
theorem mem_behind {p:T} {l:St} {x:T × T}:x ∈ behind p l ↔ ∃ q,(q,x.2) ∈ l/\x.1=p ++ q:=by
  unfold behind
  rw [List.mem_map]
  constructor
  · rintro ⟨y,hy,rfl⟩; exact ⟨y.1,hy,rfl⟩
  · rintro ⟨q,hq,e⟩; exact ⟨(q,x.2),hq,Prod.ext e.symm rfl⟩
theorem mem_own {v:T} {x:T × T}:x ∈ own v ↔ x.1=[]/\x.2=v/\v ≠ []:=by
  unfold own
  by_cases h:v=[]
  · simp [h]
  · rw [if_neg h,List.mem_singleton]
    exact ⟨fun e=>by rw [e]; exact ⟨rfl,rfl,h⟩,fun ⟨a,b,_⟩=>Prod.ext a b⟩
theorem mem_br {v:T} {k:Fin 16->Tr} {x:T × T}:x ∈ (Tr.br v k).items ↔ (x.1=[]/\x.2=v/\v ≠ []) ∨ ∃ i q,x.1=hb i :: q/\(q,x.2) ∈ (k i).items:=by
  rw [Tr.items,List.mem_append,mem_own,List.mem_flatMap]
  refine or_congr Iff.rfl ⟨?_,?_⟩
  · rintro ⟨i,_,hx⟩
    obtain ⟨q,hq,e⟩:=mem_behind.1 hx
    exact ⟨i,q,by simpa using e,hq⟩
  · rintro ⟨i,q,e,hq⟩
    exact ⟨i,List.mem_finRange i,mem_behind.2 ⟨q,hq,by simpa using e⟩⟩
theorem append_lt (p a b:T):p ++ a < p ++ b ↔ a < b:=by
  induction p with
  | nil=>rfl
  | cons x p ih=>rw [List.cons_append,List.cons_append,List.cons_lt_cons_iff]; simp [ih]
theorem behind_rising (p:T) {l:St}:Rising (behind p l) ↔ Rising l:=by
  unfold Rising behind
  rw [List.pairwise_map]
  simp only [append_lt]
theorem rising_append {a b:St} (ha:Rising a) (hb:Rising b) (h:∀ x ∈ a,∀ y ∈ b,x.1 < y.1):Rising (a ++ b):=List.pairwise_append.2 ⟨ha,hb,h⟩
theorem flat_rising (f:Fin 16->St) (hf:∀ i,Rising (f i)) (hx:∀ i j,i < j->∀ x ∈ f i,∀ y ∈ f j,x.1 < y.1) (l:List (Fin 16)) (hl:l.Pairwise (· < ·)):Rising (l.flatMap f):=by
  induction l with
  | nil=>exact List.Pairwise.nil
  | cons i l ih=>
    obtain ⟨h1,h2⟩:=List.pairwise_cons.1 hl
    rw [List.flatMap_cons]
    refine rising_append (hf i) (ih h2) fun x m y n=>?_
    obtain ⟨j,hj,hy⟩:=List.mem_flatMap.1 n
    exact hx i j (h1 j hj) x m y hy
theorem fin_rise:(List.finRange 16).Pairwise (· < ·):=by decide
theorem cons_lt {a b:UInt8} {s t:T} (h:a < b):a :: s < b :: t:=List.cons_lt_cons_iff.2 (Or.inl h)
theorem items_rising (t:Tr):Rising t.items:=by
  induction t with
  | nil=>exact List.Pairwise.nil
  | leaf p v=>exact List.pairwise_singleton ..
  | ext p t ih=>exact (behind_rising p).2 ih
  | br v k ih=>
    refine rising_append (by unfold own; split; exact List.Pairwise.nil; exact List.pairwise_singleton ..) (flat_rising _ (fun i=>(behind_rising _).2 (ih i)) (fun i j hij x hx y hy=>?_) _ fin_rise) fun x hx y hy=>?_
    · obtain ⟨q,_,e⟩:=mem_behind.1 hx
      obtain ⟨r,_,e2⟩:=mem_behind.1 hy
      rw [e,e2]
      exact cons_lt (hb_lt hij)
    · obtain ⟨e,_,_⟩:=mem_own.1 hx
      obtain ⟨i,_,hi⟩:=List.mem_flatMap.1 hy
      obtain ⟨r,_,e2⟩:=mem_behind.1 hi
      rw [e,e2]
      exact List.nil_lt_cons _ _
theorem items_nil {t:Tr} (h:t.canon):t.items=[] ↔ t.isNil:=by
  induction t with
  | nil=>simp [Tr.items,Tr.isNil]
  | leaf p v=>simp [Tr.items,Tr.isNil]
  | ext p t ih=>
    obtain ⟨_,h2,h3⟩:=h
    simp only [Tr.items,Tr.isNil,iff_false,behind,List.map_eq_nil_iff]
    rw [ih h3]
    cases t <;> simp_all [Tr.isBr,Tr.isNil]
  | br v k ih=>
    obtain ⟨h1,h2⟩:=h
    simp only [Tr.isNil,iff_false]
    intro e
    have hk:∀ i,(k i).isNil:=fun i=>(ih i (h1 i)).1 (List.eq_nil_iff_forall_not_mem.2 fun x hx=>by
      have:(hb i :: x.1,x.2) ∈ (Tr.br v k).items:=mem_br.2 (Or.inr ⟨i,x.1,rfl,hx⟩)
      rw [e] at this; cases this)
    rcases h2 with ⟨i,_,_,h,_⟩ | ⟨_,i,h⟩ <;> exact h (hk i)
theorem br_apart {v:T} {k:Fin 16->Tr} (h:(Tr.br v k).canon):(∃ x ∈ (Tr.br v k).items,x.1=[])/\(∃ x ∈ (Tr.br v k).items,x.1 ≠ []) ∨ ∃ x ∈ (Tr.br v k).items,∃ y ∈ (Tr.br v k).items,∃ i j q r,i < j/\x.1=hb i :: q/\y.1=hb j :: r:=by
  obtain ⟨h1,h2⟩:=h
  have some:∀ i,¬ (k i).isNil->∃ x:T × T,x ∈ (k i).items:=fun i hi=>by
    cases hx:(k i).items with
    | nil=>exact absurd ((items_nil (h1 i)).1 hx) hi
    | cons a l=>exact ⟨a,List.mem_cons_self ..⟩
  rcases h2 with ⟨i,j,hij,hi,hj⟩ | ⟨hv,i,hi⟩
  · obtain ⟨x,hx⟩:=some i hi
    obtain ⟨y,hy⟩:=some j hj
    exact Or.inr ⟨(hb i :: x.1,x.2),mem_br.2 (Or.inr ⟨i,x.1,rfl,hx⟩),(hb j :: y.1,y.2),mem_br.2 (Or.inr ⟨j,y.1,rfl,hy⟩),i,j,x.1,y.1,hij,rfl,rfl⟩
  · obtain ⟨x,hx⟩:=some i hi
    exact Or.inl ⟨⟨([],v),mem_br.2 (Or.inl ⟨rfl,rfl,hv⟩),rfl⟩,⟨(hb i :: x.1,x.2),mem_br.2 (Or.inr ⟨i,x.1,rfl,hx⟩),by simp⟩⟩
theorem br_all {v:T} {k:Fin 16->Tr} (h:(Tr.br v k).canon) (b:UInt8):¬ ∀ x ∈ (Tr.br v k).items,∃ q,x.1=b :: q:=by
  intro ha
  rcases br_apart h with ⟨⟨x,hx,e⟩,_⟩ | ⟨x,hx,y,hy,i,j,q,r,hij,e1,e2⟩
  · obtain ⟨q,e2⟩:=ha x hx
    rw [e] at e2; cases e2
  · obtain ⟨q2,f1⟩:=ha x hx
    obtain ⟨r2,f2⟩:=ha y hy
    rw [e1] at f1; rw [e2] at f2
    have:=hb_inj ((List.cons.inj f1).1.trans (List.cons.inj f2).1.symm)
    subst this; exact absurd hij (by simp)
theorem br_two {v:T} {k:Fin 16->Tr} (h:(Tr.br v k).canon):2<=(Tr.br v k).items.length:=by
  cases hl:(Tr.br v k).items with
  | nil=>exact absurd ((items_nil h).1 hl) (by simp [Tr.isNil])
  | cons a l=>
    cases l with
    | cons b l=>simp
    | nil=>
      exfalso
      have hm:∀ x ∈ (Tr.br v k).items,x=a:=fun x hx=>by rw [hl] at hx; simpa using hx
      rcases br_apart h with ⟨⟨x,hx,e⟩,⟨y,hy,e2⟩⟩ | ⟨x,hx,y,hy,i,j,q,r,hij,e1,e2⟩
      · rw [hm x hx] at e; rw [hm y hy] at e2; exact e2 e
      · rw [hm x hx] at e1; rw [hm y hy,e1] at e2
        have:=hb_inj (List.cons.inj e2).1
        subst this; exact absurd hij (by simp)
theorem ext_br {p:T} {t:Tr} (h:(Tr.ext p t).canon):∃ v k,t=.br v k/\(Tr.br v k).canon:=by
  obtain ⟨_,h2,h3⟩:=h
  cases t with
  | br v k=>exact ⟨v,k,rfl,h3⟩
  | nil=>cases h2
  | leaf _ _=>cases h2
  | ext _ _=>cases h2
def under (i:Fin 16) (l:St):St:=l.filterMap fun x=>match x.1 with
  | []=>none
  | b :: q=>if b=hb i then some (q,x.2) else none
theorem under_append (i:Fin 16) (a b:St):under i (a ++ b)=under i a ++ under i b:=by unfold under; rw [List.filterMap_append]
theorem under_own (i:Fin 16) (v:T):under i (own v)=[]:=by
  unfold own; split
  · rfl
  · rfl
theorem under_behind (i j:Fin 16) (l:St):under i (behind [hb j] l)=if j=i then l else []:=by
  induction l with
  | nil=>simp [behind,under]
  | cons a l ih=>
    have e:under i (behind [hb j] (a :: l))=(if hb j=hb i then [(a.1,a.2)] else []) ++ under i (behind [hb j] l):=by
      unfold under behind
      rw [List.map_cons,List.filterMap_cons]
      by_cases h:hb j=hb i <;> simp [h]
    rw [e,ih]
    by_cases h:j=i
    · subst h; simp
    · rw [if_neg (fun h2=>h (hb_inj h2)),if_neg h,if_neg h]; rfl
theorem under_flat (i:Fin 16) (f:Fin 16->St) (l:List (Fin 16)) (hl:l.Nodup) (hi:i ∈ l):under i (l.flatMap fun j=>behind [hb j] (f j))=f i:=by
  induction l with
  | nil=>cases hi
  | cons j l ih=>
    obtain ⟨h1,h2⟩:=List.nodup_cons.1 hl
    rw [List.flatMap_cons,under_append,under_behind]
    by_cases e:j=i
    · subst e
      rw [if_pos rfl]
      have:∀ l:List (Fin 16),j ∉ l->under j (l.flatMap fun k=>behind [hb k] (f k))=[]:=by
        intro l
        induction l with
        | nil=>intro _; rfl
        | cons k l ih=>
          intro hn
          rw [List.flatMap_cons,under_append,under_behind,if_neg (fun (e:k=j)=>hn (by rw [e]; exact List.mem_cons_self ..)),ih (fun m=>hn (List.mem_cons_of_mem _ m))]; rfl
      rw [this l h1,List.append_nil]
    · rw [if_neg e,List.nil_append]
      exact ih h2 ((List.mem_cons.1 hi).resolve_left (fun h=>e h.symm))
theorem under_br (i:Fin 16) (v:T) (k:Fin 16->Tr):under i (Tr.br v k).items=(k i).items:=by
  rw [Tr.items,under_append,under_own,List.nil_append]
  exact under_flat i (fun j=>(k j).items) _ (List.nodup_finRange 16) (List.mem_finRange i)
theorem own_br {v w:T} {k m:Fin 16->Tr} (h:(Tr.br v k).items=(Tr.br w m).items):v=w:=by
  have key:∀ {v w:T} {k m:Fin 16->Tr},(Tr.br v k).items=(Tr.br w m).items->v ≠ []->v=w:=by
    intro v w k m h hv
    have:(([]:T),v) ∈ (Tr.br w m).items:=h ▸ mem_br.2 (Or.inl ⟨rfl,rfl,hv⟩)
    rcases mem_br.1 this with ⟨_,e,_⟩ | ⟨i,q,e,_⟩
    · exact e
    · cases e
  by_cases hv:v=[]
  · by_cases hw:w=[]
    · rw [hv,hw]
    · exact (key h.symm hw).symm
  · exact key h hv
theorem behind_inj {p:T} {a b:St} (h:behind p a=behind p b):a=b:=by
  unfold behind at h
  refine (List.map_inj_right fun x y e=>?_).1 h
  have:=congrArg Prod.fst e
  have e2:=congrArg Prod.snd e
  exact Prod.ext (List.append_cancel_left this) e2
theorem behind_append (p q:T) (l:St):behind (p ++ q) l=behind p (behind q l):=by
  unfold behind; rw [List.map_map]; congr 1; funext x; simp
theorem canon_one {t u:Tr} (ht:t.canon) (hu:u.canon) (h:t.items=u.items):t=u:=by
  induction t generalizing u with
  | nil=>
    have:=(items_nil hu).1 h.symm
    cases u with
    | nil=>rfl
    | _=>cases this
  | leaf p v=>
    cases u with
    | nil=>cases h
    | leaf q w=>
      simp only [Tr.items,List.cons.injEq,Prod.mk.injEq,and_true] at h
      rw [h.1,h.2]
    | ext q u=>
      obtain ⟨w,m,rfl,hb⟩:=ext_br hu
      have:=br_two hb
      have e:=congrArg List.length h
      rw [Tr.items,Tr.items,behind,List.length_map] at e
      simp only [List.length_singleton] at e
      omega
    | br w m=>
      have:=br_two hu
      rw [← h] at this; simp [Tr.items] at this
  | ext p t ih=>
    obtain ⟨v,k,rfl,hbr⟩:=ext_br ht
    cases u with
    | nil=>have:=br_two hbr; have e:=congrArg List.length h; rw [Tr.items,Tr.items,behind,List.length_map] at e; simp only [List.length_nil] at e; omega
    | leaf q w=>have:=br_two hbr; have e:=congrArg List.length h; rw [Tr.items,Tr.items,behind,List.length_map] at e; simp only [List.length_singleton] at e; omega
    | br w m=>
      exfalso
      obtain ⟨b,p',rfl⟩:=List.exists_cons_of_ne_nil ht.1
      refine br_all hu b fun x hx=>?_
      rw [← h,Tr.items] at hx
      obtain ⟨q,_,e⟩:=mem_behind.1 hx
      exact ⟨p' ++ q,by rw [e]; rfl⟩
    | ext q u=>
      obtain ⟨w,m,rfl,hbr2⟩:=ext_br hu
      have step:∀ {p q:T} {v w:T} {k m:Fin 16->Tr},(Tr.br w m).canon->behind p (Tr.br v k).items=behind q (Tr.br w m).items->∀ r b,p ≠ q ++ b :: r:=by
        intro p q v w k m hc h r b e
        subst e
        rw [behind_append] at h
        have:=behind_inj h
        refine br_all hc b fun x hx=>?_
        rw [← this] at hx
        obtain ⟨s,_,e⟩:=mem_behind.1 hx
        exact ⟨r ++ s,by rw [e]; rfl⟩
      have h:behind p (Tr.br v k).items=behind q (Tr.br w m).items:=h
      have hpq:p=q:=by
        obtain ⟨a,la,hla⟩:∃ a la,(Tr.br v k).items=a :: la:=List.exists_cons_of_ne_nil (fun e=>by have:=br_two hbr; rw [e] at this; simp at this)
        have hm:(p ++ a.1,a.2) ∈ behind q (Tr.br w m).items:=by
          rw [← h]; exact mem_behind.2 ⟨a.1,by rw [hla]; exact List.mem_cons_self ..,rfl⟩
        obtain ⟨s,_,e⟩:=mem_behind.1 hm
        rcases List.append_eq_append_iff.1 e with ⟨r,e1,_⟩ | ⟨r,e1,_⟩
        · cases r with
          | nil=>simpa using e1.symm
          | cons b r=>exact absurd e1 (step hbr h.symm r b)
        · cases r with
          | nil=>simpa using e1
          | cons b r=>exact absurd e1 (step hbr2 h r b)
      subst hpq
      rw [ih hbr hbr2 (behind_inj h)]
  | br v k ih=>
    cases u with
    | nil=>have:=br_two ht; rw [h] at this; simp [Tr.items] at this
    | leaf q w=>have:=br_two ht; rw [h] at this; simp [Tr.items] at this
    | ext q u=>
      exfalso
      obtain ⟨b,q',rfl⟩:=List.exists_cons_of_ne_nil hu.1
      refine br_all ht b fun x hx=>?_
      rw [h,Tr.items] at hx
      obtain ⟨s,_,e⟩:=mem_behind.1 hx
      exact ⟨q' ++ s,by rw [e]; rfl⟩
    | br w m=>
      have hv:=own_br h
      subst hv
      have hk:k=m:=funext fun i=>ih i (ht.1 i) (hu.1 i) (by rw [← under_br i v k,← under_br i v m,h])
      rw [hk]
end Tri
namespace Nib
def fitL (l:List UInt8):Bool:=l.all fun b=>decide (b.toNat<=15)
def ofL (l:List UInt8):List UInt8:=l.flatMap fun (b:UInt8)=>[b / 16,b % 16]
def joinL:List UInt8->List UInt8
  | a :: b :: t=>(a * 16+b) :: joinL t
  | _=>[]
def commonL:List UInt8->List UInt8->Nat
  | a :: s,b :: t=>if a=b then commonL s t+1 else 0
  | _,_=>0
theorem take_snoc {α:Type} (l:List α) (k:Nat) (h:k < l.length):l.take (k+1)=l.take k ++ [l[k]]:=List.take_succ_eq_append_getElem h
theorem fitL_take_succ (l:List UInt8) (k:Nat) (h:k < l.length):fitL (l.take (k+1))=(fitL (l.take k) && decide (l[k].toNat<=15)):=by
  unfold fitL; rw [take_snoc l k h,List.all_append]; simp
theorem fitL_false (l:List UInt8) (k:Nat) (h:k < l.length) (hb:15 < l[k].toNat):fitL l=false:=by
  unfold fitL
  rw [List.all_eq_false]
  exact ⟨l[k],List.getElem_mem h,by simp; omega⟩
theorem commonL_le (a b:List UInt8):commonL a b<=a.length/\commonL a b<=b.length:=by
  induction a generalizing b with
  | nil=>simp [commonL]
  | cons x s ih=>
    cases b with
    | nil=>simp [commonL]
    | cons y t=>
      unfold commonL
      split
      · have:=ih t; simp; omega
      · simp
theorem commonL_of_diff (a b:List UInt8) (k:Nat) (ha:k < a.length) (hb:k < b.length) (h:a.take k=b.take k) (hd:a[k] ≠ b[k]):commonL a b=k:=by
  induction k generalizing a b with
  | zero=>
    cases a with
    | nil=>simp at ha
    | cons x s=>
      cases b with
      | nil=>simp at hb
      | cons y t=>simp at hd; simp [commonL,hd]
  | succ k ih=>
    cases a with
    | nil=>simp at ha
    | cons x s=>
      cases b with
      | nil=>simp at hb
      | cons y t=>
        simp at h hd
        obtain ⟨rfl,h⟩:=h
        simp [commonL,ih s t (by simpa using ha) (by simpa using hb) h hd]
theorem commonL_of_end (a b:List UInt8) (k:Nat) (hk:k=min a.length b.length) (h:a.take k=b.take k):commonL a b=k:=by
  induction k generalizing a b with
  | zero=>
    cases a with
    | nil=>simp [commonL]
    | cons x s=>
      cases b with
      | nil=>simp [commonL]
      | cons y t=>simp at hk
  | succ k ih=>
    cases a with
    | nil=>simp at hk
    | cons x s=>
      cases b with
      | nil=>simp at hk
      | cons y t=>
        simp at h
        obtain ⟨rfl,h⟩:=h
        have:k=min s.length t.length:=by simp at hk; omega
        simp [commonL,ih s t this h]
theorem take_eq_succ (a b:List UInt8) (k:Nat) (ha:k < a.length) (hb:k < b.length) (h:a.take k=b.take k) (he:a[k]=b[k]):a.take (k+1)=b.take (k+1):=by
  rw [take_snoc a k ha,take_snoc b k hb,h,he]
theorem byte_ne {x y:UInt8} (h:((x.toNat:Int) != (y.toNat:Int))=true):x ≠ y:=by rintro rfl; simp at h
theorem byte_eq {x y:UInt8} (h:((x.toNat:Int) != (y.toNat:Int))=false):x=y:=by
  simp at h; exact UInt8.toNat_inj.1 (by omega)
theorem ofL_length (l:List UInt8):(ofL l).length=2 * l.length:=by
  induction l with
  | nil=>rfl
  | cons b t ih=>
    have:ofL (b :: t)=b / 16 :: b % 16 :: ofL t:=by simp [ofL]
    rw [this]; simp [ih]; omega
theorem ofL_snoc (l:List UInt8) (k:Nat) (h:k < l.length):ofL (l.take (k+1))=ofL (l.take k) ++ [l[k] / 16,l[k] % 16]:=by
  rw [take_snoc l k h]; unfold ofL; rw [List.flatMap_append]; simp
theorem toNat_div16 (b:UInt8):(((b / 16).toNat:Nat):Int)=(b.toNat:Int) / 16:=by simp
theorem toNat_mod16 (b:UInt8):(((b % 16).toNat:Nat):Int)=(b.toNat:Int) % 16:=by simp
theorem fitL_get (l:List UInt8) (h:fitL l=true) (k:Nat) (hk:k < l.length):l[k].toNat<=15:=by
  unfold fitL at h; rw [List.all_eq_true] at h; simpa using h l[k] (List.getElem_mem hk)
theorem fitL_tail (a:UInt8) (t:List UInt8) (h:fitL (a :: t)=true):fitL t=true:=by
  simp [fitL] at h ⊢; exact h.2
theorem joinL_two (a b:UInt8) (t:List UInt8):joinL (a :: b :: t)=(a * 16+b) :: joinL t:=rfl
theorem joinL_snoc (l:List UInt8) (k:Nat) (h:2 * k+1 < l.length):joinL (l.take (2 * (k+1)))=joinL (l.take (2 * k)) ++ [l[2 * k] * 16+l[2 * k+1]]:=by
  induction k generalizing l with
  | zero=>
    match l,h with
    | a :: b :: t,_=>rfl
  | succ k ih=>
    match l,h with
    | a :: b :: t,h=>
      have h':2 * k+1 < t.length:=by simp at h; omega
      have e1:2 * (k+1+1)=2 * (k+1)+2:=by omega
      have e2:2 * (k+1)=2 * k+2:=by omega
      have e3:2 * (k+1)+1=2 * k+1+2:=by omega
      have r1:joinL ((a :: b :: t).take (2 * (k+1+1)))=(a * 16+b) :: joinL (t.take (2 * (k+1))):=by
        rw [e1,List.take_succ_cons,List.take_succ_cons]; rfl
      have r2:joinL ((a :: b :: t).take (2 * (k+1)))=(a * 16+b) :: joinL (t.take (2 * k)):=by
        rw [e2,List.take_succ_cons,List.take_succ_cons]; rfl
      rw [r1,r2,ih t h']
      simp [e2]
theorem joinL_length (l:List UInt8):(joinL l).length=l.length / 2:=by
  match l with
  | []=>rfl
  | [_]=>simp [joinL]
  | a :: b :: t=>simp [joinL_two,joinL_length t]; omega
theorem joinL_take_end (l:List UInt8) (k:Nat) (h:k=l.length / 2):joinL (l.take (2 * k))=joinL l:=by
  induction k generalizing l with
  | zero=>
    match l,h with
    | [],_=>rfl
    | [_],_=>simp [joinL]
    | a :: b :: t,h=>simp at h; omega
  | succ k ih=>
    match l,h with
    | [],h=>simp at h
    | [_],h=>simp at h
    | a :: b :: t,h=>
      have e1:2 * (k+1)=2 * k+2:=by omega
      rw [e1,List.take_succ_cons,List.take_succ_cons,joinL_two,joinL_two,ih t (by simp at h; omega)]
theorem or_join (a b:Nat) (hb:b < 16):(a * 16) ||| b=a * 16+b:=by
  have:=Nat.two_pow_add_eq_or_of_lt (i:=4) (b:=b) (by simpa using hb) a
  simp at this; rw [Nat.mul_comm a 16]; omega
def kindL (n:Nat) (leaf:Bool):UInt8:=(if n % 2=1 then 1 else 0)+(if leaf then 2 else 0)
def headL (p:List UInt8) (leaf:Bool):List UInt8:=if p.length % 2=1 then [kindL p.length leaf] else [kindL p.length leaf,0]
def packL (p:List UInt8) (leaf:Bool):List UInt8:=joinL (headL p leaf ++ p)
def unpackL:List UInt8->Option (List UInt8 × Bool)
  | []=>none
  | b :: t=>if b.toNat / 16 > 3 ∨ (b.toNat / 16 % 2=0/\b.toNat % 16 ≠ 0) then none
    else if b.toNat / 16 % 2=1 then some ((b % 16) :: ofL t,decide (2<=b.toNat / 16)) else some (ofL t,decide (2<=b.toNat / 16))
def mayL (b:UInt8):Bool:=decide (b.toNat / 16<=3) && (decide (b.toNat / 16 % 2=1) || decide (b.toNat % 16=0))
theorem unpackL_bad (b:UInt8) (t:List UInt8) (h:mayL b=false):unpackL (b :: t)=none:=by
  simp only [unpackL]
  rw [if_pos]
  simp [mayL] at h
  omega
theorem mayL_le (b:UInt8) (h:mayL b=true):b.toNat / 16<=3/\(b.toNat / 16 % 2=1 ∨ b.toNat % 16=0):=by
  simpa [mayL] using h
theorem unpackL_odd (b:UInt8) (t:List UInt8) (h:mayL b=true) (h1:b.toNat / 16 % 2=1):unpackL (b :: t)=some ((b % 16) :: ofL t,decide (2<=b.toNat / 16)):=by
  have:=mayL_le b h
  simp only [unpackL]
  rw [if_neg (by omega),if_pos h1]
theorem unpackL_even (b:UInt8) (t:List UInt8) (h:mayL b=true) (h1:b.toNat / 16 % 2=0):unpackL (b :: t)=some (ofL t,decide (2<=b.toNat / 16)):=by
  have:=mayL_le b h
  simp only [unpackL]
  rw [if_neg (by omega),if_neg (by omega)]
theorem packL_odd (a:UInt8) (t:List UInt8) (leaf:Bool) (h:t.length % 2=0):packL (a :: t) leaf=((if leaf then 48 else 16)+a) :: joinL t:=by
  have:(t.length+1) % 2=1:=by omega
  cases leaf <;> simp [packL,headL,kindL,this,joinL_two]
theorem packL_even (p:List UInt8) (leaf:Bool) (h:p.length % 2=0):packL p leaf=(if leaf then 32 else 0) :: joinL p:=by
  have:¬ p.length % 2=1:=by omega
  cases leaf <;> simp [packL,headL,kindL,this,joinL_two]
end Nib
namespace Tri
open Sto (T St Rising keys)
def ix (b:UInt8):Fin 16:=⟨b.toNat % 16,by omega⟩
theorem ix_hb (i:Fin 16):ix (hb i)=i:=Fin.ext (by have:=i.isLt; simp only [ix,hb_toNat]; omega)
theorem hb_ix {b:UInt8} (h:b.toNat<=15):hb (ix b)=b:=by rw [← UInt8.toNat_inj,hb_toNat]; simp only [ix]; omega
def Tr.get:Tr->T->Option T
  | .nil,_=>none
  | .leaf p v,x=>if x=p then some v else none
  | .ext p t,x=>if x.take p.length=p then t.get (x.drop p.length) else none
  | .br v _,[]=>if v=[] then none else some v
  | .br _ k,b :: q=>if b.toNat<=15 then (k (ix b)).get q else none
theorem get_mem {t:Tr} {x v:T}:t.get x=some v ↔ (x,v) ∈ t.items:=by
  induction t generalizing x with
  | nil=>simp [Tr.get,Tr.items]
  | leaf p w=>
    simp only [Tr.get,Tr.items,List.mem_singleton,Prod.mk.injEq]
    by_cases e:x=p
    · simp only [e,if_true,Option.some.injEq,true_and]; exact eq_comm
    · simp [e]
  | ext p t ih=>
    simp only [Tr.get,Tr.items]
    rw [mem_behind]
    by_cases e:x.take p.length=p
    · rw [if_pos e,ih]
      constructor
      · intro h; exact ⟨_,h,(by rw [e]:x.take p.length ++ x.drop p.length=p ++ x.drop p.length) ▸ (List.take_append_drop p.length x).symm⟩
      · rintro ⟨q,hq,h⟩
        have:x=p ++ q:=h
        rw [this]; simpa using hq
    · rw [if_neg e]
      refine ⟨(fun h=>by cases h),?_⟩
      rintro ⟨q,hq,h⟩
      have:x=p ++ q:=h
      exact absurd (by rw [this]; simp) e
  | br w k ih=>
    rw [mem_br]
    cases x with
    | nil=>
      simp only [Tr.get]
      by_cases e:w=[]
      · simp [e]
      · rw [if_neg e]
        constructor
        · intro h; exact Or.inl ⟨trivial,(Option.some.inj h).symm,e⟩
        · rintro (⟨_,h,_⟩ | ⟨i,q,h,_⟩)
          · rw [h]
          · cases h
    | cons b q=>
      simp only [Tr.get]
      by_cases e:b.toNat<=15
      · rw [if_pos e,ih]
        constructor
        · intro h; exact Or.inr ⟨ix b,q,by rw [hb_ix e],h⟩
        · rintro (⟨h,_⟩ | ⟨i,r,h,hr⟩)
          · cases h
          · obtain ⟨rfl,rfl⟩:=List.cons.inj h
            rw [ix_hb]; exact hr
      · rw [if_neg e]
        refine ⟨(fun h=>by cases h),?_⟩
        rintro (⟨h,_⟩ | ⟨i,r,h,hr⟩)
        · cases h
        · obtain ⟨rfl,rfl⟩:=List.cons.inj h
          exact absurd (by rw [hb_toNat]; omega) e
theorem look_items (t:Tr) (x:T):Sto.look t.items x=t.get x:=by
  cases h:t.get x with
  | some v=>exact (Sto.look_mem (items_rising t) x v).2 (get_mem.1 h)
  | none=>
    cases h2:Sto.look t.items x with
    | none=>rfl
    | some v=>rw [get_mem.2 ((Sto.look_mem (items_rising t) x v).1 h2)] at h; cases h
def upd (k:Fin 16->Tr) (i:Fin 16) (t:Tr):Fin 16->Tr:=fun j=>if j=i then t else k j
def bare:Fin 16->Tr:=fun _=>.nil
theorem upd_at (k:Fin 16->Tr) (i:Fin 16) (t:Tr):upd k i t i=t:=if_pos rfl
theorem upd_ne (k:Fin 16->Tr) {i j:Fin 16} (t:Tr) (h:j ≠ i):upd k i t j=k j:=if_neg h
def above (p:T) (t:Tr):Tr:=if p=[] then t else .ext p t
theorem get_above {p:T} {t:Tr} {x:T}:(above p t).get x=if x.take p.length=p then t.get (x.drop p.length) else none:=by
  unfold above
  by_cases h:p=[]
  · subst h; simp
  · rw [if_neg h,Tr.get]
theorem common_take (p q:T):p.take (Nib.commonL p q)=q.take (Nib.commonL p q):=by
  induction p generalizing q with
  | nil=>cases q <;> simp [Nib.commonL]
  | cons a p ih=>
    cases q with
    | nil=>simp [Nib.commonL]
    | cons b q=>
      unfold Nib.commonL
      by_cases h:a=b
      · rw [if_pos h,List.take_succ_cons,List.take_succ_cons,h,ih q]
      · rw [if_neg h]; rfl
theorem common_split (p q:T):p=p.take (Nib.commonL p q) ++ p.drop (Nib.commonL p q)/\q=p.take (Nib.commonL p q) ++ q.drop (Nib.commonL p q)/\
    ∀ a s b r,p.drop (Nib.commonL p q)=a :: s->q.drop (Nib.commonL p q)=b :: r->a ≠ b:=by
  refine ⟨(List.take_append_drop _ p).symm,by rw [common_take]; exact (List.take_append_drop _ q).symm,?_⟩
  induction p generalizing q with
  | nil=>intro a s b r h; simp at h
  | cons c p ih=>
    cases q with
    | nil=>intro a s b r _ h; simp at h
    | cons d q=>
      intro a s b r h1 h2
      rw [Nib.commonL.eq_1] at h1 h2
      by_cases h:c=d
      · rw [if_pos h,List.drop_succ_cons] at h1 h2
        exact ih q a s b r h1 h2
      · rw [if_neg h,List.drop_zero] at h1 h2
        obtain ⟨rfl,_⟩:=List.cons.inj h1
        obtain ⟨rfl,_⟩:=List.cons.inj h2
        exact h
theorem cut_eq (x p:T) (n:Nat):x=p ↔ x.take n=p.take n/\x.drop n=p.drop n:=
  ⟨fun h=>by rw [h]; exact ⟨rfl,rfl⟩,fun ⟨h1,h2⟩=>by rw [← List.take_append_drop n x,h1,h2,List.take_append_drop]⟩
def Tr.fits:Tr->Prop
  | .nil=>True
  | .leaf p _=>Nib.fitL p=true
  | .ext p t=>Nib.fitL p=true/\t.fits
  | .br _ k=>∀ i,(k i).fits
theorem fit_cons {b:UInt8} {p:T}:Nib.fitL (b :: p)=true ↔ b.toNat<=15/\Nib.fitL p=true:=by simp [Nib.fitL]
theorem fit_append {p q:T}:Nib.fitL (p ++ q)=true ↔ Nib.fitL p=true/\Nib.fitL q=true:=by simp [Nib.fitL]
theorem fit_take {p:T} (n:Nat) (h:Nib.fitL p=true):Nib.fitL (p.take n)=true:=(fit_append.1 (by rwa [List.take_append_drop]:Nib.fitL (p.take n ++ p.drop n)=true)).1
theorem fit_drop {p:T} (n:Nat) (h:Nib.fitL p=true):Nib.fitL (p.drop n)=true:=(fit_append.1 (by rwa [List.take_append_drop]:Nib.fitL (p.take n ++ p.drop n)=true)).2
def fork (a:UInt8) (t:Tr) (p w:T):Tr:=
  match p with
  | []=>.br w (upd bare (ix a) t)
  | b :: s=>.br [] (upd (upd bare (ix a) t) (ix b) (.leaf s w))
def fork2 (q v p w:T):Tr:=
  match q with
  | []=>(match p with | []=>.nil | b :: s=>.br v (upd bare (ix b) (.leaf s w)))
  | a :: r=>fork a (.leaf r v) p w
theorem ix_inj {a b:UInt8} (ha:a.toNat<=15) (hb:b.toNat<=15) (h:ix a=ix b):a=b:=by rw [← hb_ix ha,← hb_ix hb,h]
theorem get_fork {a:UInt8} {t:Tr} {p w y:T} (ha:a.toNat<=15) (hp:Nib.fitL p=true) (hw:w ≠ []) (hd:∀ b s,p=b :: s->a ≠ b):
    (fork a t p w).get y=if y=p then some w else match y with | []=>none | c :: z=>if c=a then t.get z else none:=by
  cases p with
  | nil=>
    unfold fork
    cases y with
    | nil=>simp [Tr.get,hw]
    | cons c z=>
      simp only [Tr.get]
      rw [if_neg (show ¬ (c :: z=[]) by simp)]
      by_cases hc:c.toNat<=15
      · rw [if_pos hc]
        by_cases e:c=a
        · rw [if_pos e,e,upd_at]
        · rw [if_neg e,upd_ne _ _ (fun h=>e (ix_inj hc ha h))]; rfl
      · rw [if_neg hc,if_neg (fun (e:c=a)=>hc (by rw [e]; exact ha))]
  | cons b s=>
    obtain ⟨hb,hs⟩:=fit_cons.1 hp
    have hab:=hd b s rfl
    unfold fork
    cases y with
    | nil=>simp [Tr.get]
    | cons c z=>
      simp only [Tr.get]
      by_cases hc:c.toNat<=15
      · rw [if_pos hc]
        by_cases e:c=b
        · subst e
          rw [upd_at,if_neg (fun e2:c=a=>hab e2.symm)]
          simp [Tr.get]
        · rw [upd_ne _ _ (fun h=>e (ix_inj hc hb h)),if_neg (fun e2=>e (List.cons.inj e2).1)]
          by_cases e2:c=a
          · rw [if_pos e2,e2,upd_at]
          · rw [if_neg e2,upd_ne _ _ (fun h=>e2 (ix_inj hc ha h))]; rfl
      · rw [if_neg hc,if_neg (fun e2=>hc (by rw [(List.cons.inj e2).1]; exact hb)),if_neg (fun (e:c=a)=>hc (by rw [e]; exact ha))]
theorem get_fork2 {q v p w y:T} (hq:Nib.fitL q=true) (hp:Nib.fitL p=true) (hv:v ≠ []) (hw:w ≠ []) (hn:q ≠ p) (hd:∀ a r b s,q=a :: r->p=b :: s->a ≠ b):
    (fork2 q v p w).get y=if y=p then some w else if y=q then some v else none:=by
  cases q with
  | nil=>
    cases p with
    | nil=>exact absurd rfl hn
    | cons b s=>
      obtain ⟨hb,hs⟩:=fit_cons.1 hp
      unfold fork2
      cases y with
      | nil=>simp [Tr.get,hv]
      | cons c z=>
        simp only [Tr.get]
        rw [if_neg (show ¬ (c :: z=[]) by simp)]
        by_cases hc:c.toNat<=15
        · rw [if_pos hc]
          by_cases e:c=b
          · subst e; rw [upd_at]; simp [Tr.get]
          · rw [upd_ne _ _ (fun h=>e (ix_inj hc hb h)),if_neg (fun e2=>e (List.cons.inj e2).1)]; rfl
        · rw [if_neg hc,if_neg (fun e2=>hc (by rw [(List.cons.inj e2).1]; exact hb))]
  | cons a r=>
    obtain ⟨ha,hr⟩:=fit_cons.1 hq
    unfold fork2
    rw [get_fork ha hp hw (fun b s e=>hd a r b s rfl e)]
    congr 1
    cases y with
    | nil=>simp
    | cons c z=>
      simp only
      by_cases e:c=a
      · subst e; simp [Tr.get]
      · rw [if_neg e,if_neg (fun e2=>e (List.cons.inj e2).1)]
theorem fork_canon {a:UInt8} {t:Tr} {p w:T} (ha:a.toNat<=15) (hp:Nib.fitL p=true) (ht:t.canon) (htn:¬ t.isNil) (hw:w ≠ []) (hd:∀ b s,p=b :: s->a ≠ b):(fork a t p w).canon/\(fork a t p w).isBr:=by
  cases p with
  | nil=>
    refine ⟨⟨fun i=>?_,Or.inr ⟨hw,ix a,by rw [upd_at]; exact htn⟩⟩,trivial⟩
    by_cases e:i=ix a
    · rw [e,upd_at]; exact ht
    · rw [upd_ne _ _ e]; trivial
  | cons b s=>
    obtain ⟨hb,hs⟩:=fit_cons.1 hp
    have hne:ix a ≠ ix b:=fun e=>hd b s rfl (ix_inj ha hb e)
    refine ⟨⟨fun i=>?_,Or.inl ?_⟩,trivial⟩
    · by_cases e:i=ix b
      · rw [e,upd_at]; exact hw
      · rw [upd_ne _ _ e]
        by_cases e:i=ix a
        · rw [e,upd_at]; exact ht
        · rw [upd_ne _ _ e]; trivial
    · have n1:¬ (upd (upd bare (ix a) t) (ix b) (.leaf s w) (ix a)).isNil:=by rw [upd_ne _ _ hne,upd_at]; exact htn
      have n2:¬ (upd (upd bare (ix a) t) (ix b) (.leaf s w) (ix b)).isNil:=by rw [upd_at]; exact id
      rcases Nat.lt_or_gt_of_ne (fun e:(ix a).val=(ix b).val=>hne (Fin.ext e)) with h | h
      · exact ⟨ix a,ix b,h,n1,n2⟩
      · exact ⟨ix b,ix a,h,n2,n1⟩
theorem fork2_canon {q v p w:T} (hq:Nib.fitL q=true) (hp:Nib.fitL p=true) (hv:v ≠ []) (hw:w ≠ []) (hn:q ≠ p) (hd:∀ a r b s,q=a :: r->p=b :: s->a ≠ b):(fork2 q v p w).canon/\(fork2 q v p w).isBr:=by
  cases q with
  | nil=>
    cases p with
    | nil=>exact absurd rfl hn
    | cons b s=>
      refine ⟨⟨fun i=>?_,Or.inr ⟨hv,ix b,by rw [upd_at]; exact id⟩⟩,trivial⟩
      by_cases e:i=ix b
      · rw [e,upd_at]; exact hw
      · rw [upd_ne _ _ e]; trivial
  | cons a r=>
    exact fork_canon (fit_cons.1 hq).1 hp hv id hw (fun b s e=>hd a r b s rfl e)
theorem above_canon {p:T} {t:Tr} (ht:t.canon) (hb:t.isBr):(above p t).canon/\¬ (above p t).isNil:=by
  unfold above
  by_cases h:p=[]
  · rw [if_pos h]; exact ⟨ht,by cases t <;> simp_all [Tr.isBr,Tr.isNil]⟩
  · rw [if_neg h]; exact ⟨⟨h,hb,ht⟩,id⟩
def Tr.put:Tr->T->T->Tr
  | .nil,p,w=>.leaf p w
  | .leaf q v,p,w=>if q=p then .leaf p w else above (q.take (Nib.commonL q p)) (fork2 (q.drop (Nib.commonL q p)) v (p.drop (Nib.commonL q p)) w)
  | .ext q t,p,w=>(match q.drop (Nib.commonL q p) with
    | []=>.ext q (t.put (p.drop q.length) w)
    | a :: r=>above (q.take (Nib.commonL q p)) (fork a (above r t) (p.drop (Nib.commonL q p)) w))
  | .br _ k,[],w=>.br w k
  | .br v k,b :: p,w=>.br v (upd k (ix b) ((k (ix b)).put p w))
theorem put_good {t:Tr} {p w:T} (ht:t.canon) (hf:t.fits) (hp:Nib.fitL p=true) (hw:w ≠ []):
    (t.put p w).canon/\(t.isBr->(t.put p w).isBr)/\¬ (t.put p w).isNil/\∀ x,(t.put p w).get x=if x=p then some w else t.get x:=by
  induction t generalizing p with
  | nil=>exact ⟨hw,id,id,fun x=>rfl⟩
  | leaf q v=>
    rw [Tr.put]
    by_cases e:q=p
    · rw [if_pos e]
      subst e
      refine ⟨hw,id,id,fun x=>?_⟩
      simp only [Tr.get]
      by_cases e:x=q <;> simp [e]
    · rw [if_neg e]
      obtain ⟨h1,h2,h3⟩:=common_split q p
      have hcl:=Nib.commonL_le q p
      generalize Nib.commonL q p=c at h1 h2 h3 hcl ⊢
      have hn:q.drop c ≠ p.drop c:=fun e2=>e (by rw [h1,h2,e2])
      have ht2:q.take c=p.take c:=by
        have:=congrArg (List.take c) h2
        rw [List.take_append_of_le_length (by simp; omega),List.take_take,Nat.min_self] at this
        exact this.symm
      have hc2:=fork2_canon (fit_drop c hf) (fit_drop c hp) ht hw hn (fun a r b s ha hb=>h3 a r b s ha hb)
      have hab:=above_canon (p:=q.take c) hc2.1 hc2.2
      refine ⟨hab.1,(fun h=>by cases h),hab.2,fun x=>?_⟩
      rw [get_above,get_fork2 (fit_drop c hf) (fit_drop c hp) ht hw hn (fun a r b s ha hb=>h3 a r b s ha hb),show (q.take c).length=c by simp; omega]
      simp only [Tr.get]
      simp only [cut_eq x p c,cut_eq x q c]
      by_cases e1:x.take c=q.take c
      · rw [if_pos e1,e1,← ht2]; simp
      · rw [if_neg e1,if_neg (fun h=>e1 (h.1.trans ht2.symm)),if_neg (fun h=>e1 h.1)]
  | ext q t ih=>
    obtain ⟨hq,hbt,hct⟩:=ht
    rw [Tr.put]
    obtain ⟨h1,h2,h3⟩:=common_split q p
    have hcl:=Nib.commonL_le q p
    generalize Nib.commonL q p=c at h1 h2 h3 hcl ⊢
    have ht2:q.take c=p.take c:=by
      have:=congrArg (List.take c) h2
      rw [List.take_append_of_le_length (by simp; omega),List.take_take,Nat.min_self] at this
      exact this.symm
    cases hd:q.drop c with
    | nil=>
      have hcq:c=q.length:=by have:=congrArg List.length hd; simp at this; omega
      obtain ⟨g1,g2,g3,g4⟩:=ih hct hf.2 (fit_drop q.length hp)
      refine ⟨⟨hq,g2 hbt,g1⟩,(fun h=>by cases h),id,fun x=>?_⟩
      simp only [Tr.get]
      rw [g4]
      simp only [cut_eq x p q.length]
      have hqp:p.take q.length=q:=by rw [← hcq,← ht2,hcq]; exact List.take_length
      rw [hqp]
      by_cases e1:x.take q.length=q
      · simp [e1]
      · simp [e1]
    | cons a r=>
      have hfq:=fit_cons.1 (hd ▸ fit_drop c hf.1)
      have hd3:∀ b s,p.drop c=b :: s->a ≠ b:=fun b s hb=>h3 a r b s hd hb
      have ha:=above_canon (p:=r) hct hbt
      have hc2:=fork_canon (w:=w) hfq.1 (fit_drop c hp) ha.1 ha.2 hw hd3
      have hab:=above_canon (p:=q.take c) hc2.1 hc2.2
      refine ⟨hab.1,(fun h=>by cases h),hab.2,fun x=>?_⟩
      simp only
      rw [get_above,get_fork hfq.1 (fit_drop c hp) hw hd3,show (q.take c).length=c by simp; omega]
      simp only [Tr.get]
      simp only [cut_eq x p c,← ht2]
      have hql:q.length=c+(r.length+1):=by have:=congrArg List.length hd; simp at this; omega
      have hsp:q=q.take c ++ a :: r:=by rw [← hd]; exact (List.take_append_drop c q).symm
      by_cases e1:x.take c=q.take c
      · rw [if_pos e1]
        simp only [e1,true_and]
        congr 1
        have hx:x=q.take c ++ x.drop c:=by rw [← e1]; exact (List.take_append_drop c x).symm
        cases hy:x.drop c with
        | nil=>
          rw [if_neg]
          intro e2
          have:=congrArg List.length e2
          have l2:=congrArg List.length hy
          simp at this l2; omega
        | cons b z=>
          have l1:(q.take c).length=c:=by simp; omega
          have hxz:x=q.take c ++ b :: z:=by rw [← hy]; exact hx
          have t1:x.take q.length=q.take c ++ b :: z.take r.length:=by
            rw [hxz,hql,List.take_append,l1,List.take_of_length_le (by omega),show c+(r.length+1) - c=r.length+1 by omega,List.take_succ_cons]
          have d1:x.drop q.length=z.drop r.length:=by
            rw [hxz,hql,List.drop_append,l1,List.drop_of_length_le (by omega),show c+(r.length+1) - c=r.length+1 by omega]; rfl
          rw [t1,d1]
          show (if b=a then (above r t).get z else none)=_
          by_cases e2:b=a
          · subst e2
            rw [if_pos rfl,get_above]
            by_cases e3:z.take r.length=r
            · rw [if_pos e3,if_pos (by rw [e3]; exact hsp.symm)]
            · rw [if_neg e3,if_neg (fun e4=>e3 (List.cons.inj (List.append_cancel_left (e4.trans hsp))).2)]
          · rw [if_neg e2,if_neg (fun e4=>e2 (by
              have e5:q.take c ++ b :: z.take r.length=q.take c ++ a :: r:=e4.trans hsp
              exact (List.cons.inj (List.append_cancel_left e5)).1))]
      · rw [if_neg e1]
        simp only [e1,false_and,if_false]
        rw [if_neg]
        intro e2
        apply e1
        have:=congrArg (List.take c) e2
        rwa [List.take_take,Nat.min_eq_left (by omega)] at this
  | br v k ih=>
    obtain ⟨h1,h2⟩:=ht
    cases p with
    | nil=>
      refine ⟨⟨h1,?_⟩,id,id,fun x=>?_⟩
      · rcases h2 with h | ⟨_,i,h⟩
        · exact Or.inl h
        · exact Or.inr ⟨hw,i,h⟩
      · cases x with
        | nil=>simp [Tr.put,Tr.get,hw]
        | cons c z=>simp [Tr.put,Tr.get]
    | cons b p=>
      obtain ⟨hb,hpf⟩:=fit_cons.1 hp
      obtain ⟨g1,g2,g3,g4⟩:=ih (ix b) (h1 _) (hf _) hpf
      have keep:∀ i,¬ (k i).isNil->¬ (upd k (ix b) ((k (ix b)).put p w) i).isNil:=fun i hi=>by
        by_cases e:i=ix b
        · rw [e,upd_at]; exact g3
        · rw [upd_ne _ _ e]; exact hi
      refine ⟨⟨fun i=>?_,?_⟩,id,id,fun x=>?_⟩
      · by_cases e:i=ix b
        · rw [e,upd_at]; exact g1
        · rw [upd_ne _ _ e]; exact h1 i
      · rcases h2 with ⟨i,j,hij,hi,hj⟩ | ⟨hv,i,hi⟩
        · exact Or.inl ⟨i,j,hij,keep i hi,keep j hj⟩
        · exact Or.inr ⟨hv,i,keep i hi⟩
      · cases x with
        | nil=>simp [Tr.put,Tr.get]
        | cons c z=>
          simp only [Tr.put,Tr.get]
          by_cases hc:c.toNat<=15
          · rw [if_pos hc,if_pos hc]
            by_cases e:c=b
            · subst e; rw [upd_at,g4]; simp
            · rw [upd_ne _ _ (fun h=>e (ix_inj hc hb h)),if_neg (fun e2=>e (List.cons.inj e2).1)]
          · rw [if_neg hc,if_neg hc,if_neg (fun e2=>hc (by rw [(List.cons.inj e2).1]; exact hb))]
end Tri
namespace Nib
def sideL (p m:List UInt8):Int:=if Op.bytesLess p m=false then 1 else if m.take p.length=p then 0 else -1
theorem less_nil (a:List UInt8):Op.bytesLess a []=false:=by cases a <;> rfl
theorem less_cons (a b:UInt8) (x y:List UInt8):Op.bytesLess (a :: x) (b :: y)=(decide (a < b) || (a == b && Op.bytesLess x y)):=rfl
end Nib
namespace Nib
theorem ofL_cons (b:UInt8) (t:List UInt8):ofL (b :: t)=b / 16 :: b % 16 :: ofL t:=by simp [ofL]
theorem ofL_nil:ofL []=[]:=rfl
theorem split_lt (a b:UInt8) (r:Bool):(decide (a / 16 < b / 16) || (a / 16 == b / 16 && (decide (a % 16 < b % 16) || (a % 16 == b % 16 && r))))=(decide (a < b) || (a == b && r)):=by
  have e1:(a / 16 < b / 16) ↔ a.toNat / 16 < b.toNat / 16:=by rw [UInt8.lt_iff_toNat_lt]; simp
  have e2:(a % 16 < b % 16) ↔ a.toNat % 16 < b.toNat % 16:=by rw [UInt8.lt_iff_toNat_lt]; simp
  have e3:(a < b) ↔ a.toNat < b.toNat:=UInt8.lt_iff_toNat_lt
  have e4:(a / 16=b / 16) ↔ a.toNat / 16=b.toNat / 16:=by rw [← UInt8.toNat_inj]; simp
  have e5:(a % 16=b % 16) ↔ a.toNat % 16=b.toNat % 16:=by rw [← UInt8.toNat_inj]; simp
  have e6:(a=b) ↔ a.toNat=b.toNat:=UInt8.toNat_inj.symm
  rw [Bool.eq_iff_iff]
  simp only [Bool.or_eq_true,Bool.and_eq_true,decide_eq_true_eq,beq_iff_eq,e1,e2,e3,e4,e5,e6]
  constructor
  · rintro (h | ⟨h1,h | ⟨h2,h3⟩⟩)
    · exact Or.inl (by omega)
    · exact Or.inl (by omega)
    · exact Or.inr ⟨by omega,h3⟩
  · rintro (h | ⟨h1,h2⟩)
    · by_cases h':a.toNat / 16 < b.toNat / 16
      · exact Or.inl h'
      · exact Or.inr ⟨by omega,Or.inl (by omega)⟩
    · exact Or.inr ⟨by omega,Or.inr ⟨by omega,h2⟩⟩
theorem less_of (a b:List UInt8):Op.bytesLess (ofL a) (ofL b)=Op.bytesLess a b:=by
  induction a generalizing b with
  | nil=>cases b with
    | nil=>rfl
    | cons y t=>rw [ofL_cons]; rfl
  | cons x s ih=>cases b with
    | nil=>rw [ofL_nil,less_nil,less_nil]
    | cons y t=>rw [ofL_cons,ofL_cons,less_cons,less_cons,less_cons,ih t,split_lt]
theorem byte_halves {a b:UInt8} (h1:a / 16=b / 16) (h2:a % 16=b % 16):a=b:=by
  rw [← UInt8.toNat_inj] at *
  simp at h1 h2
  omega
theorem ofL_inj (a b:List UInt8):(ofL a == ofL b)=(a == b):=by
  rw [Bool.eq_iff_iff]
  simp only [beq_iff_eq]
  refine ⟨?_,fun h=>by rw [h]⟩
  induction a generalizing b with
  | nil=>cases b with
    | nil=>simp
    | cons y t=>rw [ofL_cons,ofL_nil]; simp
  | cons x s ih=>cases b with
    | nil=>rw [ofL_cons,ofL_nil]; simp
    | cons y t=>
      rw [ofL_cons,ofL_cons]
      intro h
      simp only [List.cons.injEq] at h
      rw [byte_halves h.1 h.2.1,ih t h.2.2]
end Nib
end Go.Proofs.YtaficmboooaknaaGreatDoor
