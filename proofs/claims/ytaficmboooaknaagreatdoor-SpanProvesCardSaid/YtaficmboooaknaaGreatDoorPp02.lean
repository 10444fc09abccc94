import Derived.Test.YtaficmboooaknaaGreatDoorPp01
import Derived.Test.YtaficmboooaknaaGreatDoorChecked
import Derived.WalkKit
import Derived.WalkSmall
import Derived.ShutString
import Derived.Laws.IdiomStrings
import Derived.Laws.BytesArg
import Derived.Lib.Hide
import Derived.Lib.Strings
import Derived.Shelf.Strconv.Itoa0
import Derived.Shelf.LaysM
import Derived.Shelf.Strconv.Clone
import Derived.SliceStrings
import Derived.OpenShut
set_option maxRecDepth 100000
set_option maxHeartbeats 16000000
namespace Go.Proofs.YtaficmboooaknaaGreatDoor
namespace Nib
theorem halves_join (b:UInt8):b / 16 * 16+b % 16=b:=by
  rw [← UInt8.toNat_inj]
  have:=b.toNat_lt
  simp [UInt8.toNat_add,UInt8.toNat_mul]
  omega
theorem join_of (l:List UInt8):joinL (ofL l)=l:=by
  induction l with
  | nil=>rfl
  | cons b t ih=>rw [ofL_cons,joinL_two,ih,halves_join]
theorem fit_of (l:List UInt8):fitL (ofL l)=true:=by
  induction l with
  | nil=>rfl
  | cons b t ih=>
    rw [ofL_cons]
    have h1:(b / 16).toNat<=15:=by have:=b.toNat_lt; simp; omega
    have h2:(b % 16).toNat<=15:=by simp; omega
    unfold fitL at ih ⊢
    simp only [List.all_cons,ih,Bool.and_true,Bool.and_eq_true,decide_eq_true_eq]
    exact ⟨h1,h2⟩
theorem join_div (a b:UInt8) (ha:a.toNat<=15) (hb:b.toNat<=15):(a * 16+b) / 16=a:=by
  rw [← UInt8.toNat_inj]; simp [UInt8.toNat_add,UInt8.toNat_mul]; omega
theorem join_mod (a b:UInt8) (_ha:a.toNat<=15) (hb:b.toNat<=15):(a * 16+b) % 16=b:=by
  rw [← UInt8.toNat_inj]; simp [UInt8.toNat_add,UInt8.toNat_mul]; omega
theorem of_join (l:List UInt8) (hf:fitL l=true) (he:l.length % 2=0):ofL (joinL l)=l:=by
  match l,hf,he with
  | [],_,_=>rfl
  | [_],_,he=>simp at he
  | a :: b :: t,hf,he=>
    have ha:=fitL_get (a :: b :: t) hf 0 (by simp)
    have hb:=fitL_get (a :: b :: t) hf 1 (by simp)
    simp at ha hb
    rw [joinL_two,ofL_cons,join_div a b ha hb,join_mod a b ha hb,of_join t (fitL_tail b t (fitL_tail a (b :: t) hf)) (by simp at he; omega)]
theorem unpack_pack (p:List UInt8) (leaf:Bool) (hf:fitL p=true):unpackL (packL p leaf)=some (p,leaf):=by
  rcases Nat.mod_two_eq_zero_or_one p.length with h | h
  · rw [packL_even p leaf h]
    cases leaf
    · rw [if_neg (by simp),unpackL_even _ _ (by decide) (by decide),of_join p hf h]; rfl
    · rw [if_pos rfl,unpackL_even _ _ (by decide) (by decide),of_join p hf h]; rfl
  · match p,hf,h with
    | a :: t,hf,h=>
      have ht:t.length % 2=0:=by simp at h; omega
      have ha:=fitL_get (a :: t) hf 0 (by simp)
      simp at ha
      rw [packL_odd a t leaf ht]
      cases leaf
      · rw [if_neg (by simp)]
        have e:(16+a).toNat=16+a.toNat:=by simp [UInt8.toNat_add]; omega
        have em:(16+a) % 16=a:=by rw [← UInt8.toNat_inj]; simp [UInt8.toNat_add]; omega
        rw [unpackL_odd _ _ (by simp [mayL,e]; omega) (by rw [e]; omega),of_join t (fitL_tail a t hf) ht,em,e]
        simp; omega
      · rw [if_pos rfl]
        have e:(48+a).toNat=48+a.toNat:=by simp [UInt8.toNat_add]; omega
        have em:(48+a) % 16=a:=by rw [← UInt8.toNat_inj]; simp [UInt8.toNat_add]; omega
        rw [unpackL_odd _ _ (by simp [mayL,e]; omega) (by rw [e]; omega),of_join t (fitL_tail a t hf) ht,em,e]
        simp; omega
theorem packL_length (p:List UInt8) (leaf:Bool):(packL p leaf).length=p.length / 2+1:=by
  rcases Nat.mod_two_eq_zero_or_one p.length with h | h
  · rw [packL_even p leaf h]; simp [joinL_length]
  · match p,h with
    | a :: t,h=>
      rw [packL_odd a t leaf (by simp at h; omega)]; simp [joinL_length]; simp at h; omega
theorem unpackL_may (b:UInt8) (t p:List UInt8) (is:Bool) (h:unpackL (b :: t)=some (p,is)):mayL b=true:=by
  rcases hm:mayL b with _ | _
  · rw [unpackL_bad b t hm] at h; cases h
  · rfl
theorem fit_cons (a:UInt8) (t:List UInt8) (ha:a.toNat<=15) (h:fitL t=true):fitL (a :: t)=true:=by
  unfold fitL at *; rw [List.all_cons,h]; simpa using ha
theorem unpack_fit (s p:List UInt8) (is:Bool) (h:unpackL s=some (p,is)):fitL p=true/\packL p is=s:=by
  match s,h with
  | b :: t,h=>
    have hm:=unpackL_may b t p is h
    have hle:=mayL_le b hm
    rcases Nat.mod_two_eq_zero_or_one (b.toNat / 16) with h1 | h1
    · rw [unpackL_even b t hm h1] at h
      simp only [Option.some.injEq,Prod.mk.injEq] at h
      obtain ⟨rfl,rfl⟩:=h
      refine ⟨fit_of t,?_⟩
      rw [packL_even _ _ (by rw [ofL_length]; omega),join_of]
      congr 1
      rw [← UInt8.toNat_inj]
      by_cases h2:2<=b.toNat / 16
      · simp [h2]; omega
      · simp [h2]; omega
    · rw [unpackL_odd b t hm h1] at h
      simp only [Option.some.injEq,Prod.mk.injEq] at h
      obtain ⟨rfl,rfl⟩:=h
      refine ⟨fit_cons _ _ (by simp; omega) (fit_of t),?_⟩
      rw [packL_odd _ _ _ (by rw [ofL_length]; omega),join_of]
      congr 1
      rw [← UInt8.toNat_inj]
      by_cases h2:2<=b.toNat / 16
      · simp [h2,UInt8.toNat_add]; omega
      · simp [h2,UInt8.toNat_add]; omega
end Nib
namespace Code
def sz (n:Nat):Nat:=if _h:n=0 then 0 else sz (n / 256)+1
def be:Nat->Nat->List UInt8
  | 0,_=>[]
  | k+1,n=>be k (n / 256) ++ [UInt8.ofNat (n % 256)]
def numL (n:Nat):List UInt8:=UInt8.ofNat (sz n) :: be (sz n) n
def textL (s:List UInt8):List UInt8:=numL s.length ++ s
def val (l:List UInt8):Nat:=l.foldl (fun a d=>a * 256+d.toNat) 0
def lenN (n:Nat):Nat:=if n=0 then 0 else n.log2+1
theorem sz_zero:sz 0=0:=by rw [sz]; simp
theorem sz_pos (n:Nat) (h:n ≠ 0):sz n=sz (n / 256)+1:=by rw [sz]; simp [h]
theorem be_length (k n:Nat):(be k n).length=k:=by
  induction k generalizing n with
  | zero=>rfl
  | succ k ih=>simp [be,ih]
theorem be_step (k i n:Nat) (h:i < k):be i (n / 256 ^ (k - i)) ++ [UInt8.ofNat (n / 256 ^ (k - 1 - i) % 256)]=be (i+1) (n / 256 ^ (k - (i+1))):=by
  have e:k - i=(k - (i+1))+1:=by omega
  have e2:k - 1 - i=k - (i+1):=by omega
  rw [be,e,e2,Nat.pow_succ,← Nat.div_div_eq_div_mul]
theorem sz_iff (n:Nat):∀ k,(n < 256 ^ k/\(k ≠ 0->256 ^ (k - 1)<=n))->sz n=k:=by
  induction n using Nat.strongRecOn with
  | _ n ih=>
    intro k ⟨h1,h2⟩
    by_cases h:n=0
    · subst h
      rw [sz_zero]
      by_cases hk:k=0
      · exact hk.symm
      · have:=h2 hk
        have p:0 < 256 ^ (k - 1):=Nat.pow_pos (by omega)
        omega
    · rw [sz_pos n h]
      obtain ⟨j,rfl⟩:∃ j,k=j+1:=by
        cases k with
        | zero=>simp at h1; omega
        | succ j=>exact ⟨j,rfl⟩
      have h3:=h2 (by omega)
      simp at h3
      rw [ih (n / 256) (by omega) j ⟨?_,?_⟩]
      · rw [Nat.pow_succ] at h1; omega
      · intro hj
        obtain ⟨i,rfl⟩:∃ i,j=i+1:=⟨j - 1,by omega⟩
        rw [Nat.pow_succ] at h3
        simp
        omega
theorem sz_bounds (n:Nat):n < 256 ^ sz n/\(sz n ≠ 0->256 ^ (sz n - 1)<=n):=by
  induction n using Nat.strongRecOn with
  | _ n ih=>
    by_cases h:n=0
    · subst h; simp [sz_zero]
    · rw [sz_pos n h]
      obtain ⟨h1,h2⟩:=ih (n / 256) (by omega)
      refine ⟨?_,fun _=>?_⟩
      · rw [Nat.pow_succ]; omega
      · simp
        by_cases h0:sz (n / 256)=0
        · rw [h0]; simp; omega
        · have h3:=h2 h0
          obtain ⟨i,hi⟩:∃ i,sz (n / 256)=i+1:=⟨sz (n / 256) - 1,by omega⟩
          rw [hi] at h3 ⊢
          simp at h3
          rw [Nat.pow_succ]; omega
theorem sz_le8 (n:Nat) (h:n < 2 ^ 64):sz n<=8:=by
  have ⟨_,h2⟩:=sz_bounds n
  by_cases hk:sz n<=8
  · exact hk
  · have h3:=h2 (by omega)
    have:=Nat.pow_le_pow_right (n:=256) (by omega) (show 8<=sz n - 1 by omega)
    have e:(256:Nat) ^ 8=2 ^ 64:=by decide
    omega
theorem len_bounds (n:Nat):n < 2 ^ lenN n/\(lenN n ≠ 0->2 ^ (lenN n - 1)<=n):=by
  unfold lenN
  by_cases h:n=0
  · simp [h]
  · simp only [h,if_false,Nat.add_sub_cancel]
    exact ⟨Nat.lt_log2_self,fun _=>Nat.log2_self_le h⟩
theorem len_sz (n:Nat):(lenN n+7) / 8=sz n:=by
  refine (sz_iff n _ ⟨?_,fun hk=>?_⟩).symm
  · refine Nat.lt_of_lt_of_le (len_bounds n).1 ?_
    rw [show (256:Nat)=2 ^ 8 by decide,← Nat.pow_mul]
    exact Nat.pow_le_pow_right (by omega) (by omega)
  · refine Nat.le_trans ?_ ((len_bounds n).2 (by omega))
    rw [show (256:Nat)=2 ^ 8 by decide,← Nat.pow_mul]
    exact Nat.pow_le_pow_right (by omega) (by omega)
theorem len_shift (n j:Nat) (h:2 ^ j<=n):lenN n=j+lenN (n / 2 ^ j):=by
  have p:0 < 2 ^ j:=Nat.pow_pos (by omega)
  have hq:n / 2 ^ j ≠ 0:=by have:=Nat.div_pos h p; omega
  have hn:n ≠ 0:=by omega
  unfold lenN
  simp only [hn,hq,if_false]
  have a:=Nat.log2_self_le hq
  have b:=Nat.lt_log2_self (n:=n / 2 ^ j)
  have e:n.log2=j+(n / 2 ^ j).log2:=by
    rw [Nat.log2_eq_iff hn]
    rw [Nat.pow_add]
    refine ⟨?_,?_⟩
    · have:=(Nat.le_div_iff_mul_le p).1 a
      rw [Nat.mul_comm]; exact this
    · have:=(Nat.div_lt_iff_lt_mul p).1 b
      rw [Nat.add_assoc,Nat.pow_add,Nat.mul_comm]; exact this
  omega
theorem val_append (a:List UInt8) (d:UInt8):val (a ++ [d])=val a * 256+d.toNat:=by simp [val]
theorem ofNat_toNat (n:Nat) (h:n < 256):(UInt8.ofNat n).toNat=n:=by simp; omega
theorem val_be (k n:Nat) (h:n < 256 ^ k):val (be k n)=n:=by
  induction k generalizing n with
  | zero=>simp [be,val]; simp at h; omega
  | succ k ih=>
    rw [be,val_append,ofNat_toNat _ (by omega),ih]
    · omega
    · rw [Nat.pow_succ] at h; omega
theorem snocInd {p:List UInt8->Prop} (h0:p []) (h1:∀ l d,p l->p (l ++ [d])) (l:List UInt8):p l:=by
  have h:∀ r:List UInt8,p r.reverse:=by
    intro r
    induction r with
    | nil=>exact h0
    | cons d r ih=>rw [List.reverse_cons]; exact h1 _ _ ih
  have:=h l.reverse
  rwa [List.reverse_reverse] at this
theorem val_lt (l:List UInt8):val l < 256 ^ l.length:=by
  induction l using snocInd with
  | h0=>simp [val]
  | h1 l d ih=>
    rw [val_append]
    simp [Nat.pow_succ]
    have:=d.toNat_lt
    omega
theorem be_val (l:List UInt8):be l.length (val l)=l:=by
  induction l using snocInd with
  | h0=>simp [val,be]
  | h1 l d ih=>
    have hd:=d.toNat_lt
    rw [val_append]
    simp only [List.length_append,List.length_singleton,be]
    rw [show (val l * 256+d.toNat) / 256=val l by omega,ih,show (val l * 256+d.toNat) % 256=d.toNat by omega]
    simp
theorem val_ge (c:UInt8) (l:List UInt8):c.toNat * 256 ^ l.length<=val (c :: l)/\val (c :: l) < (c.toNat+1) * 256 ^ l.length:=by
  induction l using snocInd with
  | h0=>simp [val]
  | h1 l d ih=>
    have hd:=d.toNat_lt
    rw [← List.cons_append,val_append]
    simp only [List.length_append,List.length_singleton,Nat.pow_succ,← Nat.mul_assoc]
    omega
def bad (k:Nat) (d:List UInt8):Bool:=(decide (0 < k) && (d.headD 0).toNat == 0) || (k == 8 && decide (128<=(d.headD 0).toNat))
def leadL:List UInt8->Nat × Nat × Int
  | []=>(0,0,20)
  | c :: r=>if c.toNat > 8 then (0,0,3) else if r.length < c.toNat then (0,0,20) else if bad c.toNat (r.take c.toNat) then (0,0,3) else (val (r.take c.toNat),1+c.toNat,0)
theorem numL_length (n:Nat):(numL n).length=1+sz n:=by simp [numL,be_length]; omega
theorem be_head (n:Nat) (h:n ≠ 0):∃ c r,be (sz n) n=c :: r/\r.length=sz n - 1/\c.toNat ≠ 0/\(n < 2 ^ 63->sz n=8->c.toNat < 128):=by
  have hs:=sz_pos n h
  obtain ⟨h1,h2⟩:=sz_bounds n
  have h3:=h2 (by omega)
  have hl:=be_length (sz n) n
  match hb:be (sz n) n with
  | []=>rw [hb] at hl; simp at hl; omega
  | c :: r=>
    rw [hb] at hl
    simp at hl
    have hv:=val_be (sz n) n h1
    have ⟨g1,g2⟩:=val_ge c r
    rw [← hb,hv] at g1 g2
    refine ⟨c,r,rfl,by omega,?_,?_⟩
    · intro hc
      rw [hc] at g2
      rw [show r.length=sz n - 1 by omega] at g2
      omega
    · intro hn h8
      rw [show r.length=7 by omega] at g1
      have e:(256:Nat) ^ 7=2 ^ 56:=by decide
      rw [e] at g1
      omega
theorem lead_num (n:Nat) (h:n < 2 ^ 63) (r:List UInt8):leadL (numL n ++ r)=(n,1+sz n,0):=by
  have h8:=sz_le8 n (by omega)
  have hb:=(sz_bounds n).1
  have hl:=be_length (sz n) n
  have ht:(be (sz n) n ++ r).take (sz n)=be (sz n) n:=by
    rw [List.take_append_of_le_length (by omega),List.take_of_length_le (by omega)]
  have hbad:bad (sz n) (be (sz n) n)=false:=by
    by_cases h0:n=0
    · subst h0; simp [bad,sz_zero]
    · obtain ⟨c,q,e,_,hc,hd⟩:=be_head n h0
      rw [e]
      simp only [bad,List.headD_cons,Bool.or_eq_false_iff,Bool.and_eq_false_iff,decide_eq_false_iff_not,beq_eq_false_iff_ne]
      refine ⟨Or.inr hc,?_⟩
      by_cases h8:sz n=8
      · exact Or.inr (decide_eq_false (Nat.not_le.2 (hd h h8)))
      · exact Or.inl h8
  simp only [numL,List.cons_append,leadL]
  rw [ofNat_toNat _ (by omega),ht,hbad,val_be _ _ hb]
  simp only [List.length_append,hl]
  rw [if_neg (by omega),if_neg (by omega)]
  simp
theorem lead_ok (s:List UInt8) (h:(leadL s).2.2=0):(leadL s).1 < 2 ^ 63/\(leadL s).2.1<=s.length/\s.take (leadL s).2.1=numL (leadL s).1:=by
  match s with
  | []=>simp [leadL] at h
  | c :: r=>
    simp only [leadL] at h ⊢
    split at h
    · simp at h
    · split at h
      · simp at h
      · split at h
        · simp at h
        · rename_i h1 h2 h3
          rw [if_neg h1,if_neg h2,if_neg h3]
          simp only [Bool.not_eq_true] at h3
          have hl:(r.take c.toNat).length=c.toNat:=by rw [List.length_take]; omega
          have hsz:sz (val (r.take c.toNat))=c.toNat:=by
            refine sz_iff _ _ ⟨by have:=val_lt (r.take c.toNat); rw [hl] at this; exact this,fun hk=>?_⟩
            match hd:r.take c.toNat with
            | []=>rw [hd] at hl; simp at hl; omega
            | x :: q=>
              rw [hd] at hl h3
              simp at hl
              simp only [bad,List.headD_cons,Bool.or_eq_false_iff,Bool.and_eq_false_iff,decide_eq_false_iff_not,beq_eq_false_iff_ne] at h3
              have hx:x.toNat ≠ 0:=by rcases h3.1 with a | a; omega; exact a
              have ⟨g,_⟩:=val_ge x q
              rw [show c.toNat - 1=q.length by omega]
              have:1 * 256 ^ q.length<=x.toNat * 256 ^ q.length:=Nat.mul_le_mul_right _ (by omega)
              omega
          refine ⟨?_,by simp; omega,?_⟩
          · by_cases h8:c.toNat=8
            · match hd:r.take c.toNat with
              | []=>rw [hd] at hl; simp at hl; omega
              | x :: q=>
                rw [hd] at hl h3
                simp at hl
                simp only [bad,List.headD_cons,Bool.or_eq_false_iff,Bool.and_eq_false_iff,decide_eq_false_iff_not,beq_eq_false_iff_ne] at h3
                have hx:x.toNat < 128:=by rcases h3.2 with a | a; exact absurd h8 a; exact Nat.not_le.1 (of_decide_eq_false a)
                have ⟨_,g⟩:=val_ge x q
                have e:(256:Nat) ^ 7=2 ^ 56:=by decide
                rw [show q.length=7 by omega,e] at g
                omega
            · have:=val_lt (r.take c.toNat)
              rw [hl] at this
              have e:(256:Nat) ^ 7=2 ^ 56:=by decide
              have:=Nat.pow_le_pow_right (n:=256) (by omega) (show c.toNat<=7 by omega)
              omega
          · rw [Nat.add_comm,List.take_succ_cons,numL,hsz]
            have hb:=be_val (r.take c.toNat)
            rw [hl] at hb
            rw [hb]
            simp
end Code
namespace Nd
open Go.Proofs.YtaficmboooaknaaGreatDoor.Nib (fitL packL)
abbrev S:=List UInt8
structure N where
  kind:Int
  path:S
  val:S
  kids:List S
  deriving DecidableEq
instance:Inhabited N:=⟨⟨0,[],[],List.replicate 16 []⟩⟩
def zero:N:=⟨0,[],[],List.replicate 16 []⟩
def kidsL (l:List S):List S:=l.filter fun k=>decide (k ≠ [])
def all32 (l:List S):Bool:=l.all fun k=>decide (k=[]) || decide (k.length=32)
def fine (n:N):Bool:=
  all32 n.kids && (fitL n.path && (decide (n.path.length<=16) && (decide (n.val.length<=32) &&
  (if n.kind=1 then decide ((kidsL n.kids).length=0) && decide (n.val ≠ [])
  else if n.kind=2 then decide ((kidsL n.kids).length=1) && (decide (n.kids.getD 0 [] ≠ []) && (decide (1<=n.path.length) && decide (n.val=[])))
  else if n.kind=3 then decide (n.path.length=0) && (decide (2<=(kidsL n.kids).length) || (decide ((kidsL n.kids).length=1) && decide (n.val ≠ [])))
  else false))))
def bits8 (l:List S):Nat:=l.foldl (fun a k=>a * 2+if k=[] then 0 else 1) 0
def byteN (n:Nat):UInt8:=UInt8.ofNat n
def branchL (n:N):S:=byteN (bits8 (n.kids.take 8)) :: byteN (bits8 (n.kids.drop 8)) :: (n.kids.flatten ++ Code.textL n.val)
def written (n:N):S:=
  UInt8.ofNat (n.kind % 256).toNat :: (if n.kind=3 then branchL n else Code.textL (packL n.path (decide (n.kind=1))) ++ (if n.kind=1 then Code.textL n.val else n.kids.getD 0 []))
/-! ### what the sixteen bits say -/
def bitAt (b i:Nat):Bool:=decide (b / 2 ^ (7 - i) % 2=1)
theorem bits8_eq (a b c d e f g h:S):bits8 [a,b,c,d,e,f,g,h]=(((((((if a=[] then 0 else 1) * 2+(if b=[] then 0 else 1)) * 2+(if c=[] then 0 else 1)) * 2+(if d=[] then 0 else 1)) * 2+(if e=[] then 0 else 1)) * 2+(if f=[] then 0 else 1)) * 2+(if g=[] then 0 else 1)) * 2+(if h=[] then 0 else 1):=by
  simp [bits8]
def num8 (a b c d e f g h:Bool):Nat:=(((((((a.toNat * 2+b.toNat) * 2+c.toNat) * 2+d.toNat) * 2+e.toNat) * 2+f.toNat) * 2+g.toNat) * 2+h.toNat)
theorem num8_bits:∀ a b c d e f g h:Bool,num8 a b c d e f g h < 256/\bitAt (num8 a b c d e f g h) 0=a/\bitAt (num8 a b c d e f g h) 1=b/\bitAt (num8 a b c d e f g h) 2=c/\bitAt (num8 a b c d e f g h) 3=d/\bitAt (num8 a b c d e f g h) 4=e/\bitAt (num8 a b c d e f g h) 5=f/\bitAt (num8 a b c d e f g h) 6=g/\bitAt (num8 a b c d e f g h) 7=h:=by
  decide +kernel
theorem num8_back:∀ n:Fin 256,num8 (bitAt n.val 0) (bitAt n.val 1) (bitAt n.val 2) (bitAt n.val 3) (bitAt n.val 4) (bitAt n.val 5) (bitAt n.val 6) (bitAt n.val 7)=n.val:=by
  decide +kernel
theorem bits8_num (l:List S) (h:l.length=8):bits8 l=num8 (decide (l[0] ≠ [])) (decide (l[1] ≠ [])) (decide (l[2] ≠ [])) (decide (l[3] ≠ [])) (decide (l[4] ≠ [])) (decide (l[5] ≠ [])) (decide (l[6] ≠ [])) (decide (l[7] ≠ [])):=by
  match l,h with
  | [a,b,c,d,e,f,g,i],_=>
    rw [bits8_eq]
    have key:∀ x:S,(if x=[] then 0 else 1)=(decide (x ≠ [])).toNat:=fun x=>by by_cases hx:x=[] <;> simp [hx]
    simp only [key,num8]
    rfl
theorem bits8_lt (l:List S) (h:l.length=8):bits8 l < 256:=by
  rw [bits8_num l h]
  exact (num8_bits ..).1
theorem bits8_at (l:List S) (h:l.length=8) (i:Nat) (hi:i < 8):bitAt (bits8 l) i=decide (l[i] ≠ []):=by
  rw [bits8_num l h]
  obtain ⟨_,h0,h1,h2,h3,h4,h5,h6,h7⟩:=num8_bits (decide (l[0] ≠ [])) (decide (l[1] ≠ [])) (decide (l[2] ≠ [])) (decide (l[3] ≠ [])) (decide (l[4] ≠ [])) (decide (l[5] ≠ [])) (decide (l[6] ≠ [])) (decide (l[7] ≠ []))
  match i,hi with
  | 0,_=>exact h0
  | 1,_=>exact h1
  | 2,_=>exact h2
  | 3,_=>exact h3
  | 4,_=>exact h4
  | 5,_=>exact h5
  | 6,_=>exact h6
  | 7,_=>exact h7
theorem bits8_back (l:List S) (h:l.length=8) (b:UInt8) (hb:∀ i (hi:i < 8),decide (l[i] ≠ [])=bitAt b.toNat i):bits8 l=b.toNat:=by
  rw [bits8_num l h,hb 0 (by omega),hb 1 (by omega),hb 2 (by omega),hb 3 (by omega),hb 4 (by omega),hb 5 (by omega),hb 6 (by omega),hb 7 (by omega)]
  exact num8_back ⟨b.toNat,b.toNat_lt⟩
/-! ### reading a node's bytes -/
abbrev St:=S × Int
def rdB (n:Nat) (st:St):S × St:=if st.2 ≠ 0 then ([],st) else if st.1.length < n then ([],st.1,20) else (st.1.take n,st.1.drop n,0)
theorem rdB_app (a r:S) (n:Nat) (h:a.length=n):rdB n (a ++ r,0)=(a,r,0):=by
  subst h
  simp [rdB]
theorem rdB_ok {n:Nat} {st:St} (h:(rdB n st).2.2=0):st.2=0/\st.1=(rdB n st).1 ++ (rdB n st).2.1/\(rdB n st).1.length=n:=by
  unfold rdB at h ⊢
  split at h
  · rename_i hc; exact absurd h hc
  · rename_i hc
    rw [if_neg hc]
    split at h
    · cases h
    · rename_i hl
      rw [if_neg hl]
      simp only [ne_eq,Decidable.not_not] at hc
      exact ⟨hc,by simp,by simp; omega⟩
def rdKids (b:Nat->Bool):Nat->St->List S × St
  | 0,st=>([],st)
  | k+1,st=>
    let p:=rdKids b k st
    if b k then (p.1 ++ [(rdB 32 p.2).1],(rdB 32 p.2).2) else (p.1 ++ [[]],p.2)
theorem rdKids_len (b:Nat->Bool) (k:Nat) (st:St):(rdKids b k st).1.length=k:=by
  induction k with
  | zero=>rfl
  | succ k ih=>
    simp only [rdKids]
    split <;> simp [ih]
theorem rdKids_app (l:List S) (h:all32 l=true) (b:Nat->Bool) (k:Nat) (hk:k<=l.length) (hb:∀ i (hi:i < k),b i=decide (l[i]'(by omega) ≠ [])) (r:S):rdKids b k ((l.take k).flatten ++ r,0)=(l.take k,r,0):=by
  induction k generalizing r with
  | zero=>simp [rdKids]
  | succ k ih=>
    have hlt:k < l.length:=by omega
    have h1:=List.take_succ_eq_append_getElem hlt
    have h2:∀ r,rdKids b k ((l.take k).flatten ++ r,0)=(l.take k,r,0):=fun r=>ih (by omega) (fun i hi=>hb i (by omega)) r
    have h3:l[k]=[] ∨ l[k].length=32:=by
      have:=List.all_eq_true.1 h l[k] (List.getElem_mem hlt)
      simpa using this
    simp only [rdKids]
    rw [h1,List.flatten_append,List.append_assoc,h2,hb k (Nat.lt_succ_self k)]
    by_cases he:l[k]=[]
    · simp [he]
    · have h4:=h3.resolve_left he
      rw [if_pos (by simpa using he)]
      have h5:=rdB_app l[k] r 32 h4
      simp only [List.flatten_cons,List.flatten_nil,List.append_nil]
      rw [h5]
theorem rdKids_ok (b:Nat->Bool) (k:Nat) (st:St) (h:(rdKids b k st).2.2=0):st.2=0/\st.1=(rdKids b k st).1.flatten ++ (rdKids b k st).2.1/\all32 (rdKids b k st).1=true/\∀ i (hi:i < k),b i=decide ((rdKids b k st).1[i]'(by rw [rdKids_len]; exact hi) ≠ []):=by
  induction k with
  | zero=>exact ⟨h,by simp [rdKids],rfl,fun i hi=>absurd hi (by omega)⟩
  | succ k ih=>
    have hl:=rdKids_len b k st
    by_cases hb:b k=true
    · have e:rdKids b (k+1) st=((rdKids b k st).1 ++ [(rdB 32 (rdKids b k st).2).1],(rdB 32 (rdKids b k st).2).2):=by simp [rdKids,hb]
      simp only [e] at h ⊢
      obtain ⟨h1,h2,h3⟩:=rdB_ok h
      obtain ⟨i1,i2,i3,i4⟩:=ih h1
      refine ⟨i1,?_,?_,?_⟩
      · rw [i2]
        simp only [List.flatten_append,List.flatten_cons,List.flatten_nil,List.append_nil,List.append_assoc]
        rw [← h2]
      · simp only [all32,List.all_append,Bool.and_eq_true] at i3 ⊢
        exact ⟨i3,by simp [h3]⟩
      · intro i hi
        by_cases hik:i < k
        · rw [List.getElem_append_left (by omega)]
          exact i4 i hik
        · obtain rfl:i=k:=by omega
          rw [List.getElem_append_right (by omega)]
          have:(rdB 32 (rdKids b i st).2).1 ≠ []:=fun q=>by rw [q] at h3; simp at h3
          simp [hb,this]
    · have hbf:b k=false:=by simpa using hb
      have e:rdKids b (k+1) st=((rdKids b k st).1 ++ [[]],(rdKids b k st).2):=by simp [rdKids,hbf]
      simp only [e] at h ⊢
      obtain ⟨i1,i2,i3,i4⟩:=ih h
      refine ⟨i1,by rw [i2]; simp,?_,?_⟩
      · simp only [all32,List.all_append,Bool.and_eq_true] at i3 ⊢
        exact ⟨i3,by simp⟩
      · intro i hi
        by_cases hik:i < k
        · rw [List.getElem_append_left (by omega)]
          exact i4 i hik
        · obtain rfl:i=k:=by omega
          rw [List.getElem_append_right (by omega)]
          simp [hbf,hl]
end Nd
namespace Tri
open Sto (T St Rising keys)
open Go.Proofs.YtaficmboooaknaaGreatDoor.Nd (N)
def Tr.sum (dg:N->T):Tr->T
  | .nil=>[]
  | .leaf p v=>dg ⟨1,p,v,List.replicate 16 []⟩
  | .ext p t=>dg ⟨2,p,[],t.sum dg :: List.replicate 15 []⟩
  | .br v k=>dg ⟨3,[],v,List.ofFn fun i=>(k i).sum dg⟩
def Tr.node (dg:N->T):Tr->N
  | .nil=>Nd.zero
  | .leaf p v=>⟨1,p,v,List.replicate 16 []⟩
  | .ext p t=>⟨2,p,[],t.sum dg :: List.replicate 15 []⟩
  | .br v k=>⟨3,[],v,List.ofFn fun i=>(k i).sum dg⟩
def Tr.spots (dg:N->T):T->Tr->List (T × N)
  | _,.nil=>[]
  | p,.leaf q v=>[(p,Tr.node dg (.leaf q v))]
  | p,.ext q t=>(p,Tr.node dg (.ext q t)) :: t.spots dg (p ++ q)
  | p,.br v k=>(p,Tr.node dg (.br v k)) :: (List.finRange 16).flatMap fun i=>(k i).spots dg (p ++ [hb i])
theorem spots_head (dg:N->T) (p:T) {t:Tr} (h:¬ t.isNil):∃ r,t.spots dg p=(p,t.node dg) :: r:=by
  cases t with
  | nil=>exact absurd trivial h
  | leaf q v=>exact ⟨_,rfl⟩
  | ext q t=>exact ⟨_,rfl⟩
  | br v k=>exact ⟨_,rfl⟩
theorem sum_node (dg:N->T) {t:Tr} (h:¬ t.isNil):t.sum dg=dg (t.node dg):=by
  cases t with
  | nil=>exact absurd trivial h
  | leaf q v=>rfl
  | ext q t=>rfl
  | br v k=>rfl
def cutL (c:Nat) (S:St):St:=S.map fun x=>(x.1.drop c,x.2)
theorem cut_behind (p:T) (S:St):cutL p.length (behind p S)=S:=by
  unfold cutL behind
  rw [List.map_map]
  conv=>rhs; rw [← List.map_id S]
  congr 1; funext x; simp
def withL (b:UInt8) (S:St):St:=S.filter fun x=>decide (x.1.head?=some b)
theorem with_behind (b c:UInt8) (S:St):withL b (behind [c] S)=if c=b then behind [c] S else []:=by
  unfold withL behind
  by_cases h:c=b
  · rw [if_pos h,List.filter_eq_self]
    intro x hx
    obtain ⟨y,_,rfl⟩:=List.mem_map.1 hx
    simp [h]
  · rw [if_neg h,List.filter_eq_nil_iff]
    intro x hx
    obtain ⟨y,_,rfl⟩:=List.mem_map.1 hx
    simp [h]
theorem with_flat (i:Fin 16) (f:Fin 16->St) (l:List (Fin 16)) (hl:l.Nodup):withL (hb i) (l.flatMap fun j=>behind [hb j] (f j))=if i ∈ l then behind [hb i] (f i) else []:=by
  induction l with
  | nil=>rfl
  | cons j l ih=>
    obtain ⟨h1,h2⟩:=List.nodup_cons.1 hl
    have e:withL (hb i) ((j :: l).flatMap fun j=>behind [hb j] (f j))=withL (hb i) (behind [hb j] (f j)) ++ withL (hb i) (l.flatMap fun j=>behind [hb j] (f j)):=by
      unfold withL; rw [List.flatMap_cons,List.filter_append]
    rw [e,with_behind,ih h2]
    by_cases h:j=i
    · subst h; simp [h1]
    · rw [if_neg (fun e=>h (hb_inj e))]
      by_cases hm:i ∈ l
      · rw [if_pos hm,if_pos (List.mem_cons_of_mem _ hm)]; rfl
      · rw [if_neg hm,if_neg (fun e=>(List.mem_cons.1 e).elim (fun e=>h e.symm) hm)]; rfl
def Tr.kids (k:Fin 16->Tr):St:=(List.finRange 16).flatMap fun i=>behind [hb i] (k i).items
theorem br_items (v:T) (k:Fin 16->Tr):(Tr.br v k).items=own v ++ Tr.kids k:=rfl
theorem with_kids (i:Fin 16) (k:Fin 16->Tr):cutL 1 (withL (hb i) (Tr.kids k))=(k i).items:=by
  unfold Tr.kids
  rw [with_flat i (fun j=>(k j).items) _ (List.nodup_finRange 16),if_pos (List.mem_finRange i)]
  exact cut_behind [hb i] _
theorem kids_cons {k:Fin 16->Tr} {x:T × T} (h:x ∈ Tr.kids k):∃ i q,x.1=hb i :: q:=by
  obtain ⟨i,_,hi⟩:=List.mem_flatMap.1 h
  obtain ⟨q,_,e⟩:=mem_behind.1 hi
  exact ⟨i,q,e⟩
theorem br_first {v:T} {k:Fin 16->Tr} (h:(Tr.br v k).canon):(v ≠ []/\(Tr.br v k).items=([],v) :: Tr.kids k) ∨ (v=[]/\(Tr.br v k).items=Tr.kids k/\∃ a r,Tr.kids k=a :: r/\a.1 ≠ []):=by
  by_cases hv:v=[]
  · refine Or.inr ⟨hv,by rw [br_items,hv]; rfl,?_⟩
    have e:(Tr.br v k).items=Tr.kids k:=by rw [br_items,hv]; rfl
    have h2:=br_two h
    rw [e] at h2
    cases hk:Tr.kids k with
    | nil=>rw [hk] at h2; simp at h2
    | cons a r=>
      refine ⟨a,r,rfl,fun e2=>?_⟩
      obtain ⟨i,q,e3⟩:=kids_cons (k:=k) (x:=a) (by rw [hk]; exact List.mem_cons_self ..)
      rw [e2] at e3; cases e3
  · exact Or.inl ⟨hv,by rw [br_items,own,if_neg hv]; rfl⟩
theorem common_append (p a b:T):Nib.commonL (p ++ a) (p ++ b)=p.length+Nib.commonL a b:=by
  induction p with
  | nil=>simp
  | cons x p ih=>rw [List.cons_append,List.cons_append,Nib.commonL.eq_1,if_pos rfl,ih,List.length_cons]; omega
theorem between {b:UInt8} {s r x:T} (h1:b :: s<=x) (h2:x<=b :: r):∃ q,x=b :: q:=by
  cases x with
  | nil=>exact absurd h1 (List.not_le.2 (List.nil_lt_cons _ _))
  | cons c q=>
    have a1:b<=c:=by
      rcases List.le_iff_lt_or_eq.1 h1 with h | h
      · rcases List.cons_lt_cons_iff.1 h with h | h
        · exact UInt8.le_of_lt h
        · exact h.1 ▸ UInt8.le_refl _
      · exact (List.cons.inj h).1 ▸ UInt8.le_refl _
    have a2:c<=b:=by
      rcases List.le_iff_lt_or_eq.1 h2 with h | h
      · rcases List.cons_lt_cons_iff.1 h with h | h
        · exact UInt8.le_of_lt h
        · exact h.1 ▸ UInt8.le_refl _
      · exact (List.cons.inj h).1 ▸ UInt8.le_refl _
    exact ⟨q,by rw [UInt8.le_antisymm a2 a1]⟩
theorem rise_mid {S:St} (hS:Rising S) {x:T × T} (hx:x ∈ S) (h:0 < S.length):S[0].1<=x.1/\x.1<=(S[S.length - 1]'(by omega)).1:=by
  obtain ⟨i,hi,rfl⟩:=List.mem_iff_getElem.1 hx
  refine ⟨?_,?_⟩
  · rcases Nat.eq_zero_or_pos i with e | e
    · subst e; exact List.le_refl _
    · exact List.le_of_lt (List.pairwise_iff_getElem.1 hS 0 i h hi e)
  · rcases Nat.lt_or_ge i (S.length - 1) with e | e
    · exact List.le_of_lt (List.pairwise_iff_getElem.1 hS i (S.length - 1) hi (by omega) e)
    · have:i=S.length - 1:=by omega
      subst this; exact List.le_refl _
theorem br_common {v:T} {k:Fin 16->Tr} (h:(Tr.br v k).canon) (S:St) (hS:(Tr.br v k).items=S) (h0:0 < S.length):Nib.commonL S[0].1 (S[S.length - 1]'(by omega)).1=0:=by
  have hr:=items_rising (Tr.br v k)
  rw [hS] at hr
  cases h1:S[0].1 with
  | nil=>simp [Nib.commonL]
  | cons b s=>
    cases h2:(S[S.length - 1]'(by omega)).1 with
    | nil=>simp [Nib.commonL]
    | cons c r=>
      rw [Nib.commonL.eq_1]
      by_cases e:b=c
      · exfalso
        subst e
        refine br_all h b fun x hx=>?_
        rw [hS] at hx
        obtain ⟨m1,m2⟩:=rise_mid hr hx h0
        rw [h1] at m1; rw [h2] at m2
        exact between m1 m2
      · rw [if_neg e]
theorem ext_common {p:T} {t:Tr} (h:(Tr.ext p t).canon) (S:St) (hS:(Tr.ext p t).items=S) (h0:0 < S.length):Nib.commonL S[0].1 (S[S.length - 1]'(by omega)).1=p.length/\S[0].1.take p.length=p/\cutL p.length S=t.items/\2<=S.length/\∀ x ∈ S,p.length<=x.1.length:=by
  obtain ⟨v,k,rfl,hc⟩:=ext_br h
  obtain ⟨R,hR⟩:∃ R,(Tr.br v k).items=R:=⟨_,rfl⟩
  have e:S=behind p R:=by rw [← hS,Tr.items,hR]
  have hl:S.length=R.length:=by rw [e,behind,List.length_map]
  have h2:=br_two hc
  rw [hR] at h2
  have hcm:=br_common hc R hR (by omega)
  subst e
  have g:∀ i (hi:i < R.length),((behind p R)[i]'(by rw [hl]; exact hi)).1=p ++ R[i].1:=fun i hi=>by simp [behind]
  refine ⟨?_,?_,?_,by omega,?_⟩
  · rw [g 0 (by omega),show (behind p R)[(behind p R).length - 1].1=p ++ (R[R.length - 1]'(by omega)).1 by simp [behind]]
    rw [common_append,hcm]; rfl
  · rw [g 0 (by omega)]; simp
  · rw [cut_behind,hR]
  · intro x hx
    obtain ⟨q,_,e⟩:=mem_behind.1 hx
    rw [e]; simp
end Tri
namespace Tri
open Sto (T St Rising keys)
theorem above_fits {p:T} {t:Tr} (hp:Nib.fitL p=true) (ht:t.fits):(above p t).fits:=by
  unfold above; split
  · exact ht
  · exact ⟨hp,ht⟩
theorem upd_fits {k:Fin 16->Tr} {i:Fin 16} {t:Tr} (hk:∀ i,(k i).fits) (ht:t.fits):∀ j,(upd k i t j).fits:=fun j=>by
  unfold upd; split
  · exact ht
  · exact hk j
theorem fork_fits {a:UInt8} {t:Tr} {p w:T} (ht:t.fits) (hp:Nib.fitL p=true):(fork a t p w).fits:=by
  cases p with
  | nil=>exact upd_fits (fun _=>trivial) ht
  | cons b s=>exact upd_fits (upd_fits (fun _=>trivial) ht) (fit_cons.1 hp).2
theorem fork2_fits {q v p w:T} (hq:Nib.fitL q=true) (hp:Nib.fitL p=true):(fork2 q v p w).fits:=by
  cases q with
  | nil=>
    cases p with
    | nil=>trivial
    | cons b s=>exact upd_fits (fun _=>trivial) (fit_cons.1 hp).2
  | cons a r=>exact fork_fits (t:=.leaf r v) (fit_cons.1 hq).2 hp
theorem put_fits {t:Tr} {p w:T} (ht:t.fits) (hp:Nib.fitL p=true):(t.put p w).fits:=by
  induction t generalizing p with
  | nil=>exact hp
  | leaf q v=>
    rw [Tr.put]; split
    · exact hp
    · exact above_fits (fit_take _ ht) (fork2_fits (fit_drop _ ht) (fit_drop _ hp))
  | ext q t ih=>
    rw [Tr.put]
    cases hd:q.drop (Nib.commonL q p) with
    | nil=>exact ⟨ht.1,ih ht.2 (fit_drop _ hp)⟩
    | cons a r=>
      have hf:=fit_cons.1 (hd ▸ fit_drop (Nib.commonL q p) ht.1)
      exact above_fits (fit_take _ ht.1) (fork_fits (above_fits hf.2 ht.2) (fit_drop _ hp))
  | br v k ih=>
    cases p with
    | nil=>exact ht
    | cons b p=>exact upd_fits ht (ih (ix b) (ht _) (fit_cons.1 hp).2)
theorem put_items {t:Tr} {p w:T} (ht:t.canon) (hf:t.fits) (hp:Nib.fitL p=true) (hw:w ≠ []):(t.put p w).items=put t.items p w:=
  look_ext (items_rising _) (put_rising (items_rising _) _ _) fun x=>by
    rw [look_items,(put_good ht hf hp hw).2.2.2 x,look_put _ _ _ _ (items_rising _),look_items]
def paths (S:St):St:=S.map fun x=>(Nib.ofL x.1,x.2)
theorem ofL_lt (a b:T):Nib.ofL a < Nib.ofL b ↔ a < b:=by
  have:=Nib.less_of a b
  rw [less_lt,less_lt] at this
  exact decide_eq_decide.1 this
theorem ofL_eq (a b:T):Nib.ofL a=Nib.ofL b ↔ a=b:=by
  have:=Nib.ofL_inj a b
  rw [Bool.eq_iff_iff] at this
  simpa using this
theorem paths_rising {S:St}:Rising (paths S) ↔ Rising S:=by
  unfold Rising paths
  rw [List.pairwise_map]
  simp only [ofL_lt]
theorem paths_put (S:St) (k v:T):paths (put S k v)=put (paths S) (Nib.ofL k) v:=by
  induction S with
  | nil=>rfl
  | cons a r ih=>
    have e:paths (a :: r)=(Nib.ofL a.1,a.2) :: paths r:=rfl
    rw [e,put,put]
    simp only [ofL_lt,ofL_eq]
    by_cases h1:a.1 < k
    · rw [if_pos h1,if_pos h1,← ih]; rfl
    · rw [if_neg h1,if_neg h1]
      by_cases h2:a.1=k
      · rw [if_pos h2,if_pos h2]; rfl
      · rw [if_neg h2,if_neg h2]; rfl
theorem ofL_fit (x:T):Nib.fitL (Nib.ofL x)=true:=by
  induction x with
  | nil=>rfl
  | cons b t ih=>
    rw [Nib.ofL_cons,fit_cons,fit_cons]
    have:=b.toNat_lt
    refine ⟨?_,?_,ih⟩
    · simp; omega
    · simp; omega
def TreeOf (S:St) (t:Tr):Prop:=t.canon/\t.fits/\t.items=paths S
theorem TreeOf.one {S:St} {t u:Tr} (ht:TreeOf S t) (hu:TreeOf S u):t=u:=canon_one ht.1 hu.1 (ht.2.2.trans hu.2.2.symm)
theorem TreeOf.get {S:St} {t:Tr} (h:TreeOf S t) (hS:Rising S) (k:T):t.get (Nib.ofL k)=Sto.look S k:=by
  rw [← look_items,h.2.2]
  cases hl:Sto.look S k with
  | some v=>
    refine (Sto.look_mem (paths_rising.2 hS) _ _).2 (List.mem_map.2 ⟨(k,v),(Sto.look_mem hS k v).1 hl,rfl⟩)
  | none=>
    rw [Sto.look_none] at hl ⊢
    intro hm
    obtain ⟨p,hp,e⟩:=List.mem_map.1 hm
    obtain ⟨q,hq,rfl⟩:=List.mem_map.1 hp
    exact hl (List.mem_map.2 ⟨q,hq,(ofL_eq _ _).1 e⟩)
theorem TreeOf.put {S:St} {t:Tr} (h:TreeOf S t) {k v:T} (hv:v ≠ []):TreeOf (Tri.put S k v) (t.put (Nib.ofL k) v):=
  ⟨(put_good h.1 h.2.1 (ofL_fit k) hv).1,put_fits h.2.1 (ofL_fit k),by rw [put_items h.1 h.2.1 (ofL_fit k) hv,h.2.2,paths_put]⟩
end Tri
section
open Go.Proofs.YtaficmboooaknaaGreatDoor.Nd (N)
def Nd.pathB (p:List UInt8):Bool:=decide (p.length<=16) && Nib.fitL p
def Nd.none16:List (List UInt8):=List.replicate 16 []
def Nd.leafB (n:N):Bool:=Nd.pathB n.path && (decide (n.val ≠ []) && (decide (n.val.length<=32) && (n.kids == Nd.none16)))
def Nd.extB (n:N):Bool:=decide (n.path ≠ []) && (Nd.pathB n.path && (decide (n.val=[]) && (decide ((n.kids.getD 0 []).length=32) && (n.kids.set 0 [] == Nd.none16))))
def Nd.branchB (n:N):Bool:=decide (n.path=[]) && (decide (n.val.length<=32) && (Nd.all32 n.kids && decide (2<=(if n.val=[] then 0 else 1)+(Nd.kidsL n.kids).length)))
theorem Nd.all32_take (l:List (List UInt8)) (k:Nat) (hk:k < l.length):Nd.all32 (l.take (k+1))=(Nd.all32 (l.take k) && (decide (l[k]=[]) || decide (l[k].length=32))):=by
  unfold Nd.all32
  rw [List.take_succ_eq_append_getElem hk,List.all_append]
  simp
def Nd.takenL (L:List (List UInt8)):List UInt8:=[Nd.byteN (Nd.bits8 (L.take 8)),Nd.byteN (Nd.bits8 (L.drop 8))]
theorem Nd.kidsL_nil (l:List (List UInt8)):Nd.kidsL l=[] ↔ l=List.replicate l.length []:=by
  unfold Nd.kidsL
  rw [List.filter_eq_nil_iff,List.eq_replicate_iff]
  simp
theorem Nd.all32_none (k:Nat):Nd.all32 (List.replicate k [])=true:=by
  simp [Nd.all32]
theorem Nd.all32_cons (x:List UInt8) (l:List (List UInt8)):Nd.all32 (x :: l)=((decide (x=[]) || decide (x.length=32)) && Nd.all32 l):=rfl
theorem Nd.kidsL_cons (x:List UInt8) (l:List (List UInt8)):Nd.kidsL (x :: l)=if x=[] then Nd.kidsL l else x :: Nd.kidsL l:=by
  unfold Nd.kidsL
  by_cases h:x=[] <;> simp [h]
theorem Nd.fine_kinds (n:N) (hn:n.kids.length=16):Nd.fine n=if n.kind=1 then Nd.leafB n else if n.kind=2 then Nd.extB n else if n.kind=3 then Nd.branchB n else false:=by
  obtain ⟨kd,p,v,ks⟩:=n
  simp only at hn
  by_cases k1:kd=1
  · subst k1
    rw [if_pos rfl,Bool.eq_iff_iff]
    have h0:=Nd.kidsL_nil ks
    rw [hn] at h0
    simp only [Nd.fine,Nd.leafB,Nd.pathB,Nd.none16,if_pos,Bool.and_eq_true,decide_eq_true_eq,List.length_eq_zero_iff,beq_iff_eq,h0]
    constructor
    · rintro ⟨-,a,b,c,d,e⟩
      exact ⟨⟨b,a⟩,e,c,d⟩
    · rintro ⟨⟨b,a⟩,e,c,d⟩
      exact ⟨by rw [d]; exact Nd.all32_none 16,a,b,c,d,e⟩
  rw [if_neg k1]
  by_cases k2:kd=2
  · subst k2
    rw [if_pos rfl,Bool.eq_iff_iff]
    match ks,hn with
    | z :: l,hn=>
      have hl:l.length=15:=by simpa using hn
      have h0:=Nd.kidsL_nil l
      rw [hl] at h0
      have h1:((z :: l).set 0 []=Nd.none16) ↔ l=List.replicate 15 []:=by
        simp [Nd.none16,List.replicate_succ]
      simp only [Nd.fine,Nd.extB,Nd.pathB,if_neg (show ¬ (2:Int)=1 by decide),if_pos,Bool.and_eq_true,decide_eq_true_eq,beq_iff_eq,h1,Nd.all32_cons,Nd.kidsL_cons,List.getD_cons_zero,Bool.or_eq_true]
      constructor
      · rintro ⟨⟨a1,a2⟩,b,c,d,e,f,g,h⟩
        rw [if_neg f,List.length_cons] at e
        have e0:Nd.kidsL l=[]:=List.eq_nil_of_length_eq_zero (by omega)
        exact ⟨fun q=>by rw [q] at g; simp at g,⟨c,b⟩,h,a1.resolve_left f,h0.1 e0⟩
      · rintro ⟨a,⟨c,b⟩,h,d,e⟩
        have hz:z ≠ []:=fun q=>by rw [q] at d; simp at d
        refine ⟨⟨Or.inr d,by rw [e]; exact Nd.all32_none 15⟩,b,c,by rw [h]; simp,?_,hz,?_,h⟩
        · rw [if_neg hz,h0.2 e]; rfl
        · cases p with
          | nil=>exact absurd rfl a
          | cons x y=>simp
  rw [if_neg k2]
  by_cases k3:kd=3
  · subst k3
    rw [if_pos rfl,Bool.eq_iff_iff]
    simp only [Nd.fine,Nd.branchB,if_neg (show ¬ (3:Int)=1 by decide),if_neg (show ¬ (3:Int)=2 by decide),if_pos,Bool.and_eq_true,decide_eq_true_eq,Bool.or_eq_true]
    constructor
    · rintro ⟨a,b,c,d,e,f⟩
      refine ⟨List.eq_nil_of_length_eq_zero e,d,a,?_⟩
      by_cases hv:v=[]
      · rw [if_pos hv]
        rcases f with f | f
        · omega
        · exact absurd hv f.2
      · rw [if_neg hv]
        omega
    · rintro ⟨a,b,c,d⟩
      subst a
      refine ⟨c,rfl,Nat.zero_le _,b,rfl,?_⟩
      by_cases hv:v=[]
      · rw [if_pos hv] at d
        exact Or.inl (by omega)
      · rw [if_neg hv] at d
        by_cases h2:2<=(Nd.kidsL ks).length
        · exact Or.inl h2
        · exact Or.inr ⟨by omega,hv⟩
  rw [if_neg k3]
  simp [Nd.fine,k1,k2,k3]
end
section
open Go.RowKit
def cellsL (l:List UInt8):List Value:=l.map fun b=>.int .u8 (b.toNat:Int)
theorem cellsL_append (a b:List UInt8):cellsL (a ++ b)=cellsL a ++ cellsL b:=by simp [cellsL]
theorem cellsL_length (a:List UInt8):(cellsL a).length=a.length:=by simp [cellsL]
theorem Tryz.infoByte:(Tryz.prog.info? 5).map (fun i=>(i.zero,i.size,i.bytes))=some (some (.int .u8 0),1,1):=by kernel_rfl
theorem byte_lt (b:UInt8):(b.toNat:Int) < 256:=by have:=b.toNat_lt; simp at this; omega
theorem byte_and15 (b:UInt8):bits .and .u8 (b.toNat:Int) 15=(((b % 16).toNat:Nat):Int):=by
  rw [Nib.toNat_mod16]; exact u8_and15 (x:=(b.toNat:Int)) (Int.natCast_nonneg _) (byte_lt b)
theorem byte_join (a b:UInt8) (ha:a.toNat<=15) (hb:b.toNat<=15):bits .or .u8 ((a.toNat:Int) * 16 % 256) (b.toNat:Int)=(((a * 16+b).toNat:Nat):Int):=by
  have e:((a.toNat:Int) * 16 % 256)=((a.toNat * 16:Nat):Int):=by omega
  rw [e,u8_or_nat _ _ (by omega) (by omega),Nib.or_join _ _ (by omega)]
  simp [UInt8.toNat_add,UInt8.toNat_mul]
  omega
theorem conv_own {w:World} {B:Nat} {v:Value} {ys:List UInt8} (h:w.ownsRow B 5 1 v ys.length (cellsL ys)):(convert 126 9 v).run Tryz.prog w=.ok (.string ⟨ys.toArray⟩) w:=by
  rcases h.2 with ⟨rfl,h0⟩ | ⟨g,cap,cur,rfl,_⟩
  · obtain rfl:ys=[]:=List.eq_nil_of_length_eq_zero h0
    rfl
  · refine run_convert_bytes_back w 126 9 5 ⟨g,0,none⟩ cap ys Tryz.underlying126 Tryz.underlying5 Tryz.underlying9 ?_
    intro j hj
    exact h.cells (g:=g) rfl j _ (by simp [cellsL,hj])
theorem ownsNil (w:World) (B:Nat):w.ownsRow B 5 1 (.slice none 0 0) ([]:List UInt8).length (cellsL []):=⟨rfl,Or.inl ⟨rfl,rfl⟩⟩
theorem ownsOne (w:World) (B:Nat) (hB:B<=w.heap.size) (b:UInt8) (z:Int) (hz:z=(b.toNat:Int)):(w.alloc (.cells #[.int .u8 z] 5)).ownsRow B 5 1 (.slice (some ⟨w.heap.size,0,none⟩) 1 1) [b].length (cellsL [b]):=by
  subst hz
  exact ⟨rfl,Or.inr ⟨w.heap.size,1,#[.int .u8 (b.toNat:Int)],rfl,hB,heap_alloc_new w _,Nat.le_refl _,by unfold maxLen; omega,rfl,rfl⟩⟩
theorem or_16 (a:UInt8) (ha:a.toNat<=15):bits .or .u8 16 (a.toNat:Int)=((16+a.toNat:Nat):Int):=by
  have:=u8_or_nat 16 a.toNat (by omega) (by omega)
  have e:=Nib.or_join 1 a.toNat (by omega)
  rw [show (16:Int)=((16:Nat):Int) from rfl,this]
  simp at e; omega
theorem or_head0 (a:UInt8) (ha:a.toNat<=15):bits .or .u8 0 (bits .or .u8 16 (a.toNat:Int))=(((16+a).toNat:Nat):Int):=by
  rw [or_16 a ha,show (0:Int)=((0:Nat):Int) from rfl,u8_or_nat _ _ (by omega) (by omega)]
  simp [UInt8.toNat_add]; omega
theorem or_head2 (a:UInt8) (ha:a.toNat<=15):bits .or .u8 (bits .or .u8 0 32) (bits .or .u8 16 (a.toNat:Int))=(((48+a).toNat:Nat):Int):=by
  have e0:bits .or .u8 0 32=((32:Nat):Int):=by decide +kernel
  have e:=Nat.two_pow_add_eq_or_of_lt (i:=5) (b:=16+a.toNat) (by omega) 1
  rw [or_16 a ha,e0,u8_or_nat _ _ (by omega) (by omega)]
  simp [UInt8.toNat_add]; simp at e; omega
theorem or_0_32:bits .or .u8 0 32=(((32:UInt8).toNat:Nat):Int):=by decide +kernel
theorem ownsTwo (w:World) (B:Nat) (hB:B<=w.heap.size) (a b:UInt8) (x y:Int) (hx:x=(a.toNat:Int)) (hy:y=(b.toNat:Int)):(w.alloc (.cells #[.int .u8 x,.int .u8 y] 5)).ownsRow B 5 1 (.slice (some ⟨w.heap.size,0,none⟩) 2 2) [a,b].length (cellsL [a,b]):=by
  subst hx; subst hy
  exact ⟨rfl,Or.inr ⟨w.heap.size,2,#[.int .u8 (a.toNat:Int),.int .u8 (b.toNat:Int)],rfl,hB,heap_alloc_new w _,Nat.le_refl _,by unfold maxLen; omega,rfl,rfl⟩⟩
theorem conv_two (w:World) (a b:UInt8) (x y:Int) (hx:x=(a.toNat:Int)) (hy:y=(b.toNat:Int)):
    (convert 126 9 (.slice (some ⟨w.heap.size,0,none⟩) 2 2)).run Tryz.prog (w.alloc (.cells #[.int .u8 x,.int .u8 y] 5)).drew=.ok (.string ⟨[a,b].toArray⟩) (w.alloc (.cells #[.int .u8 x,.int .u8 y] 5)).drew:=
  conv_own ((ownsTwo w w.heap.size (Nat.le_refl _) a b x y hx hy).drew)
theorem conv_one (w:World) (a:UInt8) (x:Int) (hx:x=(a.toNat:Int)):
    (convert 126 9 (.slice (some ⟨w.heap.size,0,none⟩) 1 1)).run Tryz.prog (w.alloc (.cells #[.int .u8 x] 5)).drew=.ok (.string ⟨[a].toArray⟩) (w.alloc (.cells #[.int .u8 x] 5)).drew:=
  conv_own ((ownsOne w w.heap.size (Nat.le_refl _) a x hx).drew)
theorem conv_two' (w:World) (a b:UInt8) (x y:Int) (hx:x=(a.toNat:Int)) (hy:y=(b.toNat:Int)):
    (convert 126 9 (.slice (some ⟨w.heap.size,0,none⟩) 2 2)).run Tryz.prog (w.alloc (.cells #[.int .u8 x,.int .u8 y] 5))=.ok (.string ⟨[a,b].toArray⟩) (w.alloc (.cells #[.int .u8 x,.int .u8 y] 5)):=
  conv_own (ownsTwo w w.heap.size (Nat.le_refl _) a b x y hx hy)
theorem conv_one' (w:World) (a:UInt8) (x:Int) (hx:x=(a.toNat:Int)) (n:Nat) (hn:n=w.heap.size):
    (convert 126 9 (.slice (some ⟨n,0,none⟩) 1 1)).run Tryz.prog (w.alloc (.cells #[.int .u8 x] 5))=.ok (.string ⟨[a].toArray⟩) (w.alloc (.cells #[.int .u8 x] 5)):=by
  subst hn
  exact conv_own (ownsOne w w.heap.size (Nat.le_refl _) a x hx)
theorem cat_mk (p x:List UInt8):((⟨p.toArray⟩:ByteArray) ++ (⟨x.toArray⟩:ByteArray))=⟨(p ++ x).toArray⟩:=by
  apply ByteArray.ext; simp
theorem join_toNat (c d:UInt8) (hc:c.toNat<=15) (hd:d.toNat<=15):(c.toNat:Int) * 16+(d.toNat:Int)=(((c * 16+d).toNat:Nat):Int):=by
  simp [UInt8.toNat_add,UInt8.toNat_mul]; omega
theorem bchain {w w1 w2:World} (h:Below w.heap.size w w1) (k:Below w1.heap.size w1 w2):Below w.heap.size w w2:=h.trans (k.mono h.size)
theorem and16_fin:∀ n:Fin 256,(bits .and .u8 (n.val:Int) 16 != 0)=decide (n.val / 16 % 2=1):=by decide +kernel
theorem and32_fin:∀ n:Fin 256,n.val / 16<=3->(bits .and .u8 (n.val:Int) 32 != 0)=decide (2<=n.val / 16):=by decide +kernel
theorem and15_fin:∀ n:Fin 256,(bits .and .u8 (n.val:Int) 15 == 0)=decide (n.val % 16=0):=by decide +kernel
theorem and16 (b:UInt8):(bits .and .u8 (b.toNat:Int) 16 != 0)=decide (b.toNat / 16 % 2=1):=and16_fin ⟨b.toNat,b.toNat_lt⟩
theorem and32 (b:UInt8) (h:b.toNat / 16<=3):(bits .and .u8 (b.toNat:Int) 32 != 0)=decide (2<=b.toNat / 16):=and32_fin ⟨b.toNat,b.toNat_lt⟩ h
theorem and15 (b:UInt8):(bits .and .u8 (b.toNat:Int) 15 == 0)=decide (b.toNat % 16=0):=and15_fin ⟨b.toNat,b.toNat_lt⟩
theorem ret_i64 {a b:Int} (h:a=b):Ending.returned (.int .i64 a)=.returned (.int .i64 b):=by rw [h]
theorem bel_drewN {B:Nat} {a w:World} (h:Below B a w) (n:Nat):Below B a (w.drewN n):=h.trans ⟨rfl,rfl,rfl,Nat.le_refl _,fun _ _=>rfl⟩
end
section
open Go.RowKit
theorem lt_of_heap {w:World} {g:Nat} {o:Obj} (h:w.heap[g]?=some o):g < w.heap.size:=by
  rcases Nat.lt_or_ge g w.heap.size with hlt | hge
  · exact hlt
  · rw [Array.getElem?_eq_none hge] at h; cases h
theorem heap_new_at (w:World) (o:Obj) (i:Nat) (h:i=w.heap.size):(w.alloc o).heap[i]?=some o:=by subst h; exact heap_alloc_new w o
theorem heap_old_at {w:World} {i:Nat} {x:Obj} (o:Obj) (h:w.heap[i]?=some x):(w.alloc o).heap[i]?=some x:=(Below.heap_alloc w o i (lt_of_heap h)).trans h
theorem keep_cell {w:World} {p q:Addr} {u v:Value} (h:w.cell? q=some v) (hn:q.block ≠ p.block):(w.setCell p u).cell? q=some v:=
  (World.cell?_setCell_other w p q u (fun e=>hn (by rw [e]))).trans h
theorem keep_cell' {w:World} {p q:Addr} {u v:Value} (h:w.cell? q=some v) (hn:q.block ≠ p.block):(w.setCell p u).drew.cell? q=some v:=keep_cell h hn
theorem keep_off {w:World} {p q:Addr} {u v:Value} (h:w.cell? q=some v) (hn:q ≠ p):(w.setCell p u).cell? q=some v:=
  (World.cell?_setCell_other w p q u (Ne.symm hn)).trans h
theorem keep_offN {w:World} {n:Nat} {p q:Addr} {u v:Value} (h:w.cell? q=some v) (hn:q ≠ p):((w.drewN n).setCell p u).cell? q=some v:=keep_off (w:=w.drewN n) h hn
structure Only (g:Nat) (w w':World):Prop where
  os:w'.os=w.os
  tape:w'.tape=w.tape
  output:w'.output=w.output
  size:w.heap.size<=w'.heap.size
  block:∀ k,k < w.heap.size->k ≠ g->w'.heap[k]?=w.heap[k]?
theorem Only.refl (g:Nat) (w:World):Only g w w:=⟨rfl,rfl,rfl,Nat.le_refl _,fun _ _ _=>rfl⟩
theorem Only.trans {g:Nat} {a b c:World} (h:Only g a b) (k:Only g b c):Only g a c:=
  ⟨k.os.trans h.os,k.tape.trans h.tape,k.output.trans h.output,Nat.le_trans h.size k.size,fun i hi hg=>(k.block i (Nat.lt_of_lt_of_le hi h.size) hg).trans (h.block i hi hg)⟩
theorem Only.of {g:Nat} {a b:World} (h:Below a.heap.size a b):Only g a b:=⟨h.os,h.tape,h.output,h.size,fun i hi _=>h.block i hi⟩
theorem Only.below {B g:Nat} {a b:World} (h:Only g a b) (hB:B<=g) (hs:B<=a.heap.size):Below B a b:=⟨h.os,h.tape,h.output,h.size,fun i hi=>h.block i (by omega) (by omega)⟩
theorem Only.setCell {g:Nat} {a w:World} (h:Only g a w) {p:Addr} (hp:p.block=g) (u:Value):Only g a (w.setCell p u):=
  ⟨h.os,h.tape,h.output,by have:=h.size; simpa [World.setCell] using this,fun i hi hg=>(Below.heap_setCell w p u i (by rw [hp]; exact hg)).trans (h.block i hi hg)⟩
theorem Only.drew {g:Nat} {a w:World} (h:Only g a w):Only g a w.drew:=⟨h.os,h.tape,h.output,h.size,h.block⟩
theorem Only.of_drew {g:Nat} {a w:World} (h:Only g a.drew w):Only g a w:=⟨h.os,h.tape,h.output,h.size,h.block⟩
theorem Only.cell {g:Nat} {w w':World} (h:Only g w w') {p:Addr} {v:Value} (hc:w.cell? p=some v) (hp:p.block ≠ g):w'.cell? p=some v:=
  (World.cell?_of_block (w:=w) (h.block p.block (World.block_lt_of_cell? _ _ hc) hp)).trans hc
theorem ext_drop (s:List UInt8) (k:Nat):(⟨s.toArray⟩:ByteArray).extract k s.length=⟨(s.drop k).toArray⟩:=by
  rw [Lib.extract_eq]
  simp only
  rw [List.take_of_length_le (by simp)]
end
section
open Go.Shelf Go.RowKit
def ren129:Go.Shelf.Ren:=⟨fun | 129=>192 | n=>n,fun | 53=>218 | 3=>3 | 4=>4 | 46=>168 | 5=>5 | 9=>9 | n=>n,fun | n=>n⟩
theorem lays129:Go.Proofs.Lays.n129 Tryz.prog ren129:={
  mixed:=by kernel_rfl
  f129:=Tryz.func192.trans (congrArg some (by kernel_rfl))
  t3:=Tryz.underlying3
  a3:=Tryz.isAgg3
  z3:=Tryz.sizeOf3
  v3:=Tryz.zeroValue3
  t4:=Tryz.underlying4
  a4:=Tryz.isAgg4
  z4:=Tryz.sizeOf4
  v4:=Tryz.zeroValue4
  t5:=Tryz.underlying5
  a5:=Tryz.isAgg5
  z5:=Tryz.sizeOf5
  v5:=Tryz.zeroValue5
  t9:=Tryz.underlying9
  a9:=Tryz.isAgg9
  z9:=Tryz.sizeOf9
  v9:=Tryz.zeroValue9
  t46:=Tryz.underlying168
  a46:=Tryz.isAgg168
  z46:=Tryz.sizeOf168
  v46:=Tryz.zeroValue168
  t53:=Tryz.underlying218
  a53:=Tryz.isAgg218
  z53:=Tryz.sizeOf218
  v53:=Tryz.zeroValue218 }
theorem shelf_len64 (x:Int) (w:World) (h0:0<=x) (h1:x<=18446744073709551615):
    Calls Tryz.prog 192 #[.int .u64 x] w fun e w'=>e=.returned (.int .i64 (Lib.bitLen x.toNat))/\w'=w:=Any.bits_Len64 lays129 x w h0 h1
def ren316:Go.Shelf.Ren:=⟨fun | 316=>78 | n=>n,fun | 9=>9 | 3=>3 | 4=>4 | 37=>126 | 0=>0 | 127=>164 | 5=>5 | n=>n,fun | n=>n⟩
theorem lays316:Go.Proofs.LaysM.n316 Tryz.prog ren316:={
  mixed:=by kernel_rfl
  f316:=Tryz.func78.trans (congrArg some (by kernel_rfl))
  t0:=Tryz.underlying0
  a0:=Tryz.isAgg0
  z0:=Tryz.sizeOf0
  v0:=Tryz.zeroValue0
  t3:=Tryz.underlying3
  a3:=Tryz.isAgg3
  z3:=Tryz.sizeOf3
  v3:=Tryz.zeroValue3
  t4:=Tryz.underlying4
  a4:=Tryz.isAgg4
  z4:=Tryz.sizeOf4
  v4:=Tryz.zeroValue4
  t9:=Tryz.underlying9
  a9:=Tryz.isAgg9
  z9:=Tryz.sizeOf9
  v9:=Tryz.zeroValue9
  t37:=Tryz.underlying126
  a37:=Tryz.isAgg126
  z37:=Tryz.sizeOf126
  v37:=Tryz.zeroValue126
  t127:=Tryz.underlying164
  a127:=Tryz.isAgg164
  z127:=Tryz.sizeOf164
  v127:=Tryz.zeroValue164
  t5:=Tryz.underlying5
  a5:=Tryz.isAgg5
  z5:=Tryz.sizeOf5
  v5:=Tryz.zeroValue5
  i0:=by kernel_rfl
  i3:=by kernel_rfl
  i4:=by kernel_rfl
  i5:=by kernel_rfl
  i9:=by kernel_rfl
  i37:=by kernel_rfl
  i127:=by kernel_rfl }
theorem shelf_clone (s:ByteArray) (w:World) (hlim:s.size<=281474976710656):
    Calls Tryz.prog 78 #[.string s] w fun e w'=>e=.returned (.string s)/\Below w.heap.size w w':=Any.stringslite_Clone lays316 s w hlim
end
section
open Go.RowKit
def Strs (w:World) (v:Value) (L:List (List UInt8)):Prop:=
  ∃ (A:Option Addr) (cap:Nat),v=.slice A L.length cap/\∀ i (h:i < L.length),∃ a,A=some a/\w.cell? (a.add i)=some (.string ⟨L[i].toArray⟩)
theorem Strs.below {w w':World} {v:Value} {L:List (List UInt8)} (h:Strs w v L) (hb:Below w.heap.size w w'):Strs w' v L:=by
  obtain ⟨A,cap,rfl,hc⟩:=h
  refine ⟨A,cap,rfl,fun i hi=>?_⟩
  obtain ⟨a,ha,hcell⟩:=hc i hi
  exact ⟨a,ha,(hb.cell (World.block_lt_of_cell? _ _ hcell)).trans hcell⟩
theorem Code.textL_length (s:List UInt8):(Code.textL s).length=1+Code.sz s.length+s.length:=by simp [Code.textL,Code.numL_length]
end
section
open Go.RowKit Go.ChangeShapes Go.WideShapes
end
end Go.Proofs.YtaficmboooaknaaGreatDoor
