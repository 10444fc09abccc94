import Derived.Test.YtaficmboooaknaaGreatDoorPv11
import Derived.Test.YtaficmboooaknaaGreatDoorPv02
import Derived.Deep.RegionHeld3
import Derived.Test.YtaficmboooaknaaGreatDoorPv01
import Derived.Test.YtaficmboooaknaaGreatDoorPv03
import Derived.Maps.OwnSet
import Derived.Maps.RangeRun
import Derived.Maps.Range
import Derived.Shelf.Strconv.Itoa0
import Derived.Shelf.LaysM
import Derived.Shelf.Strconv.Clone
import Derived.Shelf.Sort.Plain
import Derived.Shelf.Slices.In.SortNone
import Derived.Test.YtaficmboooaknaaGreatDoorChecked
import Derived.Shelf.SlIter.Sorted
import Derived.Shelf.SlMaps.Clone
import Derived.Test.YtaficmboooaknaaGreatDoorPv04
import Derived.Maps.AppendAt
import Derived.WalkSpells
import Derived.WalkLawsBesides
import Derived.Lib.Strings
import Derived.Test.YtaficmboooaknaaGreatDoorPv08
import Derived.Deep.Slices
import Derived.DataReads
import Derived.OpenShut
import Derived.SizedLaws
import Derived.Lib.LaidU8
import Derived.Lib.SliceRun
import Derived.Test.YtaficmboooaknaaGreatDoorPv10
import Derived.Test.YtaficmboooaknaaGreatDoorPv07
import Derived.Test.YtaficmboooaknaaGreatDoorPv06
set_option maxRecDepth 100000
set_option maxHeartbeats 16000000
namespace Go.Proofs.YtaficmboooaknaaGreatDoor
section
open Go.RowKit
open Sto (T)
open Tri (Tr Ok upd ix hb lay splitT)
def noK:Ks:=fun _=>nilp
theorem RowP.new {w:World} {k:Nat} {p x s:T} {K:Ks} {C:Array Value} (h:C=(pcl k p x K s).toArray):RowP (w.alloc (.cells C 87)) w.heap.size k p x K s:=by
  subst h; exact heap_new_at w _ _ rfl
theorem PAt.new {w':World} {F:Fm} {g:Nat} {t:Tr} {K:Ks} (hn:¬ t.isNil) (hB:F false g) (hr:RowP w' g t.kind t.pth t.vl K []) (hk:∀ i,PAt w' F false (t.kid i) (K i)):PAt w' F false t (ptr g):=
  (PAt.iff hn).2 ⟨g,false,K,rfl,(fun h=>by cases h),hB,hr,hk⟩
def Fm.fresh (F:Fm) (w:World):Prop:=∀ g,w.heap.size<=g->F false g
theorem Fm.fresh.size {F:Fm} {w w':World} (h:F.fresh w) (hs:w.heap.size<=w'.heap.size):F.fresh w':=fun g hg=>h g (Nat.le_trans hs hg)
theorem Fm.fresh.off {F:Fm} {w:World} (h:F.fresh w) {q:Nat} (hq:q < w.heap.size):(F.off q).fresh w:=fun g hg=>⟨h g hg,by omega⟩
def MadeT (w:World) (F:Fm) (t:Tr) (e:Ending) (w':World):Prop:=∃ v,e=.returned v/\PAt w' F false t v/\Below w.heap.size w w'
theorem leaf_any (p x:T) (w:World) (F:Fm) (hB:F.fresh w):
    Calls Tryz.prog 136 #[.string ⟨p.toArray⟩,.string ⟨x.toArray⟩] w (MadeT w F (.leaf p x)):=by
  unfold MadeT
  go_enter Tryz.func136,Tryz.ntmps136
  go_wp2
  go_ret
  refine ⟨_,rfl,PAt.new (K:=noK) id (hB _ (Nat.le_refl _)) (RowP.new rfl) (fun i=>rfl),(Below.refl _ w).alloc (Nat.le_refl _) _⟩
theorem half_any (i:Fin 16) (w:World):
    Calls Tryz.prog 155 #[.int .i64 i.val] w fun e w'=>e=.returned (.string ⟨[hb i].toArray⟩)/\Below w.heap.size w w':=by
  have hi:=i.isLt
  have e1:(i.val:Int) % 256=(i.val:Int):=by omega
  have hc:=conv_one' w (hb i) (i.val:Int) (by rw [Tri.hb_toNat]) w.heap.size rfl
  have h0:(0:Int)<=(i.val:Int):=by omega
  have h1:(i.val:Int)<=255:=by omega
  go_enter Tryz.func155,Tryz.ntmps155
  go_wp2
  go_ret
  exact ⟨rfl,(Below.refl _ w).alloc (Nat.le_refl _) _⟩
def placeT (k:Nat) (e:T) (i:Fin 16):T:=if k=3 then e ++ [hb i] else e
theorem place_any (k:Nat) (e:T) (i:Fin 16) (w:World) (he:e.length<=1000) (hk:k<=3):
    Calls Tryz.prog 124 #[.int .i64 k,.string ⟨e.toArray⟩,.int .i64 i.val] w fun r w'=>r=.returned (.string ⟨(placeT k e i).toArray⟩)/\Below w.heap.size w w':=by
  unfold placeT
  by_cases h:k=3
  · subst h
    rw [if_pos rfl]
    have HH:=qh (fun w=>half_any i w)
    have hcm:=cat_mk e [hb i]
    go_enter Tryz.func124,Tryz.ntmps124
    go_wp2_with fail
    refine (HH.out _).mono ?_
    rintro r w1 ⟨rfl,hb1⟩
    go_wp2
    go_ret
    exact ⟨rfl,hb1⟩
  · rw [if_neg h]
    have h1:¬ ((k:Int)=3):=by omega
    have h2:((k:Int) == 3)=false:=by rw [beq_eq_false_iff_ne]; exact h1
    go_enter Tryz.func124,Tryz.ntmps124
    go_wp2
    go_ret
    exact ⟨rfl,Below.refl _ _⟩
theorem pcl_load (k:Nat) (p x s:T) (K:Ks):(Tryz.prog.info? 87).map (·.size)=some (pcl k p x K s).toArray.size:=by
  rw [List.size_toArray,pcl_length]; kernel_rfl
theorem pcl_one (k:Nat) (p x s:T) (K:Ks) (hK:∀ i,(K i).oneCell'=true):(pcl k p x K s).toArray.all (·.oneCell')=true:=by
  rw [← Array.all_toList,List.all_eq_true]
  intro v hv
  simp only [pcl,List.mem_cons,List.mem_append,List.mem_ofFn,List.not_mem_nil,or_false] at hv
  rcases hv with rfl | rfl | rfl | ⟨i,rfl⟩ | rfl
  · rfl
  · rfl
  · rfl
  · exact hK i
  · rfl
theorem open_any {g k:Nat} {p x s:T} {K:Ks} (w:World) (h:RowP w g k p x K s) (hK:∀ i,(K i).oneCell'=true):
    Calls Tryz.prog 137 #[ptr g] w fun r w'=>r=.returned (ptr w.heap.size)/\RowP w' w.heap.size k p x K []/\Below w.heap.size w w':=by
  have hi:=pcl_load k p x s K
  have ho:=pcl_one k p x s K hK
  have hset:=pcl_set k p x K s []
  have hl:(pcl k p x K s).toArray.size=20:=by rw [List.size_toArray,pcl_length]
  have hc:(pcl k p x K s).toArray[19]?=some (.string ⟨s.toArray⟩):=by
    have h1:RowP w g k p x K s:=h
    have h2:=h1.sum
    rw [cell_of_row w g 19 _ _ _ h] at h2
    exact h2
  unfold RowP at h ⊢
  unfold ptr
  generalize (pcl k p x K []).toArray=D at hset ⊢
  generalize (pcl k p x K s).toArray=C at h hi ho hset hl hc
  have hat:(w.alloc (.cells C 87)).heap[w.heap.size]?=some (.cells C 87 (0,0)):=heap_alloc_new w _
  have hcell:(w.alloc (.cells C 87)).cell? ⟨w.heap.size,19,none⟩=some (.string ⟨s.toArray⟩):=by rw [cell_of_row _ _ 19 _ _ _ hat]; exact hc
  have hfr:(w.alloc (.cells C 87)).frozen? ⟨w.heap.size,19,none⟩=false:=frozen_of_row _ _ _ _ _ hat
  have HR:=qh h
  have HI:=qh hi
  have HO:=qh ho
  have HL:=qh hl
  have HS:=qh hset
  clear h hi ho hset hl hc hat
  go_enter Tryz.func137,Tryz.ntmps137
  go_wp2_with (first | (refine wpList_load_row (by rfl) _ _ (by rfl) g (by rfl) _ C _ _ HR.out Tryz.underlying87 (by rfl) HI.out ?_) | (refine wpList_store_fresh (by rfl) _ _ _ (by rfl) w.heap.size rfl C (by rfl) (by rfl) _ _ HI.out HL.out.symm HO.out ?_))
  go_ret
  exact ⟨rfl,by rw [HS.out]; exact heap_alloc_new w _,(Below.refl _ w).alloc (Nat.le_refl _) _⟩
theorem PAt.cellK {w:World} {F:Fm} {s:Bool} {t:Tr} {v:Value} (h:PAt w F s t v):v=nilp ∨ ∃ g,v=ptr g:=by
  by_cases hn:t.isNil
  · rw [Tri.isNil_eq hn] at h; exact Or.inl h
  · obtain ⟨g,_,_,e,_⟩:=h.row hn; exact Or.inr ⟨g,e⟩
theorem PAt.oneCell {w:World} {F:Fm} {s:Bool} {t:Tr} {v:Value} (h:PAt w F s t v):v.oneCell'=true:=by
  rcases h.cellK with rfl | ⟨g,rfl⟩ <;> rfl
def oneK (a:Value):Ks:=fun i=>if i=0 then a else nilp
theorem pcl_path (k:Nat) (p p' x:T) (K:Ks) (s:T):(pcl k p x K s).toArray.setIfInBounds 1 (.string ⟨p'.toArray⟩)=(pcl k p' x K s).toArray:=by
  rw [List.setIfInBounds_toArray]; rfl
theorem RowP.setPath {w:World} {g k:Nat} {p x s:T} {K:Ks} (h:RowP w g k p x K s) (p':T):RowP (w.setCell ⟨g,1,none⟩ (.string ⟨p'.toArray⟩)) g k p' x K s:=by
  have:=heap_setCell_same _ _ 1 _ _ (.string ⟨p'.toArray⟩) h
  rw [pcl_path] at this
  exact this
theorem RowP.free {w:World} {g k:Nat} {p x s:T} {K:Ks} (h:RowP w g k p x K s) (i:Nat):w.frozen? ⟨g,i,none⟩=false:=frozen_of_row _ _ _ _ _ h
theorem lay_parts (p:T) {t:Tr} (hn:¬ t.isNil) (h3:t.kind ≠ 3):(lay p t).kind=t.kind/\(lay p t).pth=p ++ t.pth/\(lay p t).vl=t.vl/\∀ i,(lay p t).kid i=t.kid i:=by
  cases t with
  | nil=>exact absurd trivial hn
  | leaf q x=>exact ⟨rfl,rfl,rfl,fun _=>rfl⟩
  | ext q u=>exact ⟨rfl,rfl,rfl,fun _=>rfl⟩
  | br x k=>exact absurd rfl h3
theorem behind_any {t:Tr} {v:Value} (p:T) (w:World) (F:Fm) (hB:F.fresh w) (h:PAt w F false t v) (hp:p=[] ∨ ¬ t.isNil) (hpl:p.length<=1000) (hql:t.pth.length<=1000):
    Calls Tryz.prog 140 #[v,.string ⟨p.toArray⟩] w (MadeT w F (lay p t)):=by
  unfold MadeT
  by_cases hp0:p=[]
  · subst hp0
    rw [Tri.lay_nil]
    have HP:=qh h
    clear h hp
    go_enter Tryz.func140,Tryz.ntmps140
    go_wp2
    go_ret
    exact ⟨v,rfl,HP.out,Below.refl _ _⟩
  · have hn:=hp.resolve_left hp0
    obtain ⟨g,s',K,rfl,-,h2,hr,hk⟩:=h.row hn
    have hpe:(p == [])=false:=by rw [beq_eq_false_iff_ne]; exact hp0
    have HP:=qh h
    have n0:=hr.kind
    by_cases h3:t.kind=3
    · have e3:((t.kind:Int) == 3)=true:=by rw [h3]; rfl
      rw [h3] at n0
      have HL:Hid (lay p t=.ext p t):=qh (by
        cases t with
        | br x k=>simp [lay,Tri.above,hp0]
        | _=>cases h3)
      unfold ptr
      clear h hp hr hk
      go_enter Tryz.func140,Tryz.ntmps140
      go_wp2
      go_ret
      rw [HL.out]
      refine ⟨_,rfl,?_,(Below.refl _ w).alloc (Nat.le_refl _) _⟩
      refine PAt.new (K:=oneK (ptr g)) id (hB _ (Nat.le_refl _)) (RowP.new rfl) fun i=>?_
      simp only [Tri.Tr.kid,oneK]
      split
      · exact HP.out.below ((Below.refl _ w).alloc (Nat.le_refl _) _)
      · rfl
    · have e3:((t.kind:Int) == 3)=false:=by rw [beq_eq_false_iff_ne]; omega
      have HO:=qh (open_any w hr (fun i=>(hk i).oneCell))
      have n1:=hr.path
      have HL:=qh (lay_parts p hn h3)
      have HKK:=qh hk
      have HN:=qh (Tri.lay_nn (p:=p) hn)
      have HR:=qh hr
      unfold ptr at HO ⊢
      obtain ⟨q,hq⟩:∃ q,t.pth=q:=⟨_,rfl⟩
      rw [hq] at n1 hql
      have HQ:=qh hq
      have hcm:=cat_mk p q
      obtain ⟨kd,hkd⟩:∃ kd,t.kind=kd:=⟨_,rfl⟩
      rw [hkd] at n0 e3
      have HKD:=qh hkd
      clear h hp hr hk hq h2 hkd h3
      go_enter Tryz.func140,Tryz.ntmps140
      go_wp2_with fail
      refine HO.out.mono ?_
      rintro r w1 ⟨rfl,hr1,hb1⟩
      have m1:=hr1.path
      have m2:=hr1.free 1
      have m3:=HR.out.below hb1
      have m4:=m3.path
      rw [HQ.out] at m1 m4
      go_wp2
      go_ret
      obtain ⟨l1,l2,l3,l4⟩:=HL.out
      have hb2:=hb1.setCell (p:=⟨w.heap.size,1,none⟩) (Nat.le_refl _) (.string ⟨(p ++ q).toArray⟩)
      refine ⟨_,rfl,PAt.new (K:=K) HN.out (hB _ (Nat.le_refl _)) ?_ (fun i=>?_),hb2⟩
      · rw [l1,l2,l3,HQ.out]
        exact hr1.setPath _
      · rw [l4]
        exact ((HKK.out i).weak).below hb2
end
namespace Sto
def On (m:List Bool) (j:Nat):Prop:=m[j]?=some true
instance (m:List Bool) (j:Nat):Decidable (On m j):=inferInstanceAs (Decidable (m[j]?=some true))
def mark (m:List Bool) (ks:List Nat):List Bool:=ks.foldl (fun m k=>m.set k true) m
def pass1 (K:Nat->List Nat) (m:List Bool) (i:Nat):List Bool:=if On m i then mark m (K i) else m
def pass (K:Nat->List Nat) (l:List Nat) (m:List Bool):List Bool:=l.foldl (pass1 K) m
def rounds (K:Nat->List Nat) (l:List Nat):Nat->List Bool->List Bool
  | 0,m=>m
  | t+1,m=>rounds K l t (pass K l m)
end Sto
namespace Sto
/-! ### what is reached -/
def kidsT (t:T):List T:=Nd.kidsL (Nd.dec t).1.kids
inductive Reach (S:St) (l:List T):T->Prop
  | here {x}:x ∈ l->x ∈ keys S->Reach S l x
  | step {x t k}:Reach S l x->look S x=some t->k ∈ kidsT t->k ∈ keys S->Reach S l k
def pick (S:St) (m:List Bool):List T:=((S.zip m).filter (·.2)).map (·.1.1)
end Sto
section
open Go.RowKit Go.MapKept
open Go.ChangeMaps (setBlock heap_setBlock_same heap_setBlock_other)
open Go.Maps (Keyed)
variable {P:Program} {k t e:TypeId} {κ α:Type}
end
section
open Go.RowKit Go.MapKept
open Go.ChangeMaps (setBlock heap_setBlock_same heap_setBlock_other)
open Go.Maps (Keyed)
variable {P:Program} {k t e:TypeId} {κ α:Type}
end
section
open Go.Shelf Go.RowKit
end
section
open Go.Shelf Go.RowKit Go.Maps Go.Sort
open Go.Proofs (encStr)
end
section
open Go.RowKit Go.Maps Go.WideShapes
open Go.WideElems (Fit rd rg rd_mk rg_of)
open Go.Proofs.YtaficmboooaknaaGreatDoor.Sto (St)
open Go.Proofs (encStr)
end
section
open Go.RowKit
theorem wpList_append_run {P:Program} {w w':World} {ops:Array Oper} {rest:List Oper} {o:Oper} {a:Act} {Q:Exit->Act->World->Prop} (hg:o.guard=none) (s x:Operand) (t:TypeId) (hop:o.op=Op.call { callee:=Callee.builtin Builtin.append,args:=#[s,x],argTypes:=#[t,t] })
    (sv xv r:Value) (hs:a.eval s=sv) (hx:a.eval x=xv) (hrun:(Builtin.append_ #[t,t] o.type #[sv,xv]).run P w=.ok r w') (hK:wpList P ops Q rest (a.put o.dst r) w'):
    wpList P ops Q (o :: rest) a w:=by
  refine wpList_plain hg fun K' hK'=>?_
  unfold Oper.wp
  simp [execOp,hop,resolve,invoke,builtin,hs,hx,hrun,Result.andThen]
  exact hK' _ _ hK
def rowsL {α:Type} (f:α->List Value) (L:List α):List Value:=L.flatMap f
theorem rowsL_length {α:Type} {f:α->List Value} {c:Nat} (hf:∀ a,(f a).length=c) (L:List α):(rowsL f L).length=L.length * c:=by
  induction L with
  | nil=>simp [rowsL]
  | cons a L ih=>
    have e:rowsL f (a :: L)=f a ++ rowsL f L:=by simp [rowsL]
    rw [e,List.length_append,ih,hf,List.length_cons,Nat.succ_mul,Nat.add_comm]
theorem rowsL_append {α:Type} (f:α->List Value) (S T:List α):rowsL f (S ++ T)=rowsL f S ++ rowsL f T:=by simp [rowsL]
theorem rowsL_at {α:Type} {f:α->List Value} {c:Nat} (hf:∀ a,(f a).length=c) (S:List α) (i j:Nat) (hi:i < S.length) (hj:j < c):(rowsL f S)[i * c+j]?=(f S[i])[j]?:=by
  induction S generalizing i with
  | nil=>simp at hi
  | cons a L ih=>
    have e:rowsL f (a :: L)=f a ++ rowsL f L:=by simp [rowsL]
    rw [e]
    cases i with
    | zero=>
      rw [List.getElem?_append_left (by rw [hf]; omega)]
      simp
    | succ i=>
      rw [List.getElem?_append_right (by rw [hf,Nat.succ_mul]; omega)]
      have:(i+1) * c+j - (f a).length=i * c+j:=by rw [hf,Nat.succ_mul]; omega
      rw [this,ih i (by simpa using hi)]
      simp
theorem rowsL_one {α:Type} {f:α->List Value} (h:∀ a,∀ u ∈ f a,u.oneCell'=true) (S:List α):∀ u ∈ rowsL f S,u.oneCell'=true:=by
  intro u hu
  obtain ⟨n,_,hn⟩:=List.mem_flatMap.1 hu
  exact h n u hn
def RowsAt {α:Type} (ty:TypeId) (c:Nat) (f:α->List Value) (w:World) (v:Value) (S:List α):Prop:=
  ∃ (A:Option Addr) (cap:Nat),v=.slice A S.length cap/\S.length<=cap/\(S=[]->A=none/\cap=0 ∨ ∃ b o,A=some ⟨b,o,none⟩)/\(0 < S.length->∃ b o,A=some ⟨b,o,none⟩/\(∃ cs fl,w.heap[b]?=some (.cells cs ty fl))/\∀ i (h:i < S.length) j u,(f S[i])[j]?=some u->w.cell? ⟨b,o+i * c+j,none⟩=some u)
theorem RowsAt.nil {α:Type} (ty:TypeId) (c:Nat) (f:α->List Value) (w:World):RowsAt ty c f w (.slice none 0 0) []:=⟨none,0,rfl,Nat.le_refl _,fun _=>Or.inl ⟨rfl,rfl⟩,fun h=>absurd h (by simp)⟩
theorem RowsAt.form {α:Type} {ty:TypeId} {c:Nat} {f:α->List Value} {w:World} {v:Value} {S:List α} (h:RowsAt ty c f w v S):∃ A cap,v=.slice A S.length cap/\S.length<=cap/\((S=[]/\A=none/\cap=0) ∨ ∃ b o,A=some ⟨b,o,none⟩):=by
  obtain ⟨A,cap,rfl,hc,h0,h1⟩:=h
  refine ⟨A,cap,rfl,hc,?_⟩
  by_cases hs:S=[]
  · exact (h0 hs).imp (fun h=>⟨hs,h⟩) id
  · obtain ⟨b,o,rfl,_⟩:=h1 (List.length_pos_iff.2 hs)
    exact Or.inr ⟨b,o,rfl⟩
theorem RowsAt.outF {α:Type} {ty:TypeId} {c:Nat} {f:α->List Value} {F:Nat->Prop} {w w':World} {v:Value} {S:List α} (h:RowsAt ty c f w v S) (ho:Out F w w') (hF:∀ k cs fl,F k->w.heap[k]? ≠ some (.cells cs ty fl)):RowsAt ty c f w' v S:=by
  obtain ⟨A,cap,rfl,hc,h0,h1⟩:=h
  refine ⟨A,cap,rfl,hc,h0,fun hp=>?_⟩
  obtain ⟨b,o,rfl,⟨cs,fl,hh⟩,hcell⟩:=h1 hp
  have hb:¬ F b:=fun hf=>hF b cs fl hf hh
  exact ⟨b,o,rfl,⟨cs,fl,ho.heap hh hb⟩,fun i hi j u hu=>ho.cell (hcell i hi j u hu) hb⟩
theorem RowsAt.below {α:Type} {ty:TypeId} {c:Nat} {f:α->List Value} {w w':World} {v:Value} {S:List α} (h:RowsAt ty c f w v S) (hb:Below w.heap.size w w'):RowsAt ty c f w' v S:=h.outF (F:=fun _=>False) (Out.of hb) fun _ _ _ hf=>hf.elim
theorem RowsAt.at {α:Type} {ty:TypeId} {c:Nat} {f:α->List Value} {w:World} {A:Option Addr} {n cap:Nat} {S:List α} (h:RowsAt ty c f w (.slice A n cap) S) (k:Nat) (hk:k < S.length):
    ∃ b o,A=some ⟨b,o,none⟩/\∀ j u,(f S[k])[j]?=some u->w.cell? ⟨b,o+k * c+j,none⟩=some u:=by
  obtain ⟨A',cap',hv,_,_,h1⟩:=h
  obtain ⟨rfl,_⟩:A=A'/\_:=by simpa using hv
  obtain ⟨b,o,rfl,_,hcell⟩:=h1 (by omega)
  exact ⟨b,o,rfl,hcell k hk⟩
theorem RowsAt.own {α:Type} {ty:TypeId} {c:Nat} {f:α->List Value} (hf:∀ a,(f a).length=c) {w:World} {B:Nat} {v:Value} {S:List α} (h:w.ownsRow B ty c v S.length (rowsL f S)):RowsAt ty c f w v S:=by
  rcases h.2 with ⟨rfl,h0⟩ | ⟨g,cap,cur,rfl,hB,hh,hn,_⟩
  · obtain rfl:S=[]:=List.eq_nil_of_length_eq_zero h0
    exact RowsAt.nil ty c f w
  · refine ⟨_,cap,rfl,hn,fun _=>Or.inr ⟨_,_,rfl⟩,fun h0=>⟨g,0,rfl,⟨_,_,hh⟩,fun i hi j u hu=>?_⟩⟩
    have hj:j < c:=by rw [← hf S[i]]; exact (List.getElem?_eq_some_iff.1 hu).1
    have:=h.cells (g:=g) rfl (i * c+j) u (by rw [rowsL_at hf S i j hi hj]; exact hu)
    rw [Addr.add_mid] at this; rw [Nat.zero_add]; simpa using this
def RowsIn {α:Type} (c:Nat) (f:α->List Value) (w:World) (v:Value) (S:List α):Prop:=
  ∃ (A:Option Addr) (cap:Nat),v=.slice A S.length cap/\S.length<=cap/\(S=[]->A=none/\cap=0 ∨ ∃ b o,A=some ⟨b,o,none⟩)/\(0 < S.length->∃ b o,A=some ⟨b,o,none⟩/\b < w.heap.size/\∀ i (h:i < S.length) j u,(f S[i])[j]?=some u->w.cell? ⟨b,o+i * c+j,none⟩=some u)
theorem RowsAt.inn {α:Type} {ty:TypeId} {c:Nat} {f:α->List Value} {w:World} {v:Value} {S:List α} (h:RowsAt ty c f w v S):RowsIn c f w v S:=by
  obtain ⟨A,cap,rfl,hc,h0,h1⟩:=h
  refine ⟨A,cap,rfl,hc,h0,fun hp=>?_⟩
  obtain ⟨b,o,rfl,⟨cs,fl,hh⟩,hcell⟩:=h1 hp
  exact ⟨b,o,rfl,lt_of_heap hh,hcell⟩
theorem RowsIn.form {α:Type} {c:Nat} {f:α->List Value} {w:World} {v:Value} {S:List α} (h:RowsIn c f w v S):∃ A cap,v=.slice A S.length cap/\S.length<=cap/\((S=[]/\A=none/\cap=0) ∨ ∃ b o,A=some ⟨b,o,none⟩):=by
  obtain ⟨A,cap,rfl,hc,h0,h1⟩:=h
  refine ⟨A,cap,rfl,hc,?_⟩
  by_cases hs:S=[]
  · exact (h0 hs).imp (fun h=>⟨hs,h⟩) id
  · obtain ⟨b,o,rfl,_⟩:=h1 (List.length_pos_iff.2 hs)
    exact Or.inr ⟨b,o,rfl⟩
theorem RowsIn.below {α:Type} {c:Nat} {f:α->List Value} {w w':World} {v:Value} {S:List α} (h:RowsIn c f w v S) (hb:Below w.heap.size w w'):RowsIn c f w' v S:=by
  obtain ⟨A,cap,rfl,hc,h0,h1⟩:=h
  refine ⟨A,cap,rfl,hc,h0,fun hp=>?_⟩
  obtain ⟨b,o,rfl,hlt,hcell⟩:=h1 hp
  exact ⟨b,o,rfl,Nat.lt_of_lt_of_le hlt hb.size,fun i hi j u hu=>(hb.cell hlt).trans (hcell i hi j u hu)⟩
theorem RowsIn.at {α:Type} {c:Nat} {f:α->List Value} {w:World} {A:Option Addr} {n cap:Nat} {S:List α} (h:RowsIn c f w (.slice A n cap) S) (k:Nat) (hk:k < S.length):
    ∃ b o,A=some ⟨b,o,none⟩/\∀ j u,(f S[k])[j]?=some u->w.cell? ⟨b,o+k * c+j,none⟩=some u:=by
  obtain ⟨A',cap',hv,_,_,h1⟩:=h
  obtain ⟨rfl,_⟩:A=A'/\_:=by simpa using hv
  obtain ⟨b,o,rfl,_,hcell⟩:=h1 (by omega)
  exact ⟨b,o,rfl,hcell k hk⟩
theorem run_append_nothing_rows {c:Nat} (sty ty:TypeId) (hu:Tryz.prog.underlying sty=some (.slice ty)) (hsz:∀ w,(sizeOf ty).run Tryz.prog w=.ok c w) (w:World) (v:Value) (n k B:Nat) (xs:List Value) (h:w.ownsRow B ty c v n xs) (tt:TypeId):(Builtin.append_ #[sty,sty] tt #[v,.slice none 0 k]).run Tryz.prog w=.ok v w:=by
  rcases h.2 with ⟨rfl,rfl⟩ | ⟨g,cap,cur,rfl,hB,hh,hn,_⟩
  · simp [Builtin.append_,run_underlying hu,hsz,Builtin.lenOf,Builtin.firstCells,Result.andThen]
  · simp [Builtin.append_,run_underlying hu,hsz,Builtin.lenOf,Builtin.firstCells,Result.andThen,hn,storeCells]
theorem append_rowsIn {α:Type} {f:α->List Value} {c:Nat} {w:World} {v s:Value} {S:List α} {B n:Nat} {xs:List Value} (sty ty:TypeId) (i0:TypeInfo) (z:Value) (by_:Nat)
    (hu:Tryz.prog.underlying sty=some (.slice ty)) (hsz:∀ w,(sizeOf ty).run Tryz.prog w=.ok c w)
    (hi:Tryz.prog.info? ty=some i0) (hz0:i0.zero=some z) (hz1:i0.size=c) (hz2:i0.bytes=by_) (hz:z.cells.size=c) (hc0:0 < c) (hby:by_<=1000)
    (hf:∀ a,(f a).length=c) (h1:∀ a,∀ u ∈ f a,u.oneCell'=true)
    (hv:RowsIn c f w v S) (hs:w.ownsRow B ty c s n xs) (hl:n+S.length<=1000000) (hB:B<=w.heap.size):
    ∃ v' w',(Builtin.append_ #[sty,sty] sty #[s,v]).run Tryz.prog w=.ok v' w'/\w'.ownsRow B ty c v' (n+S.length) (xs ++ rowsL f S)/\w.grownBy w' s.ownBlock/\(v'.ownBlock=s.ownBlock ∨ v'.ownBlock=some w.heap.size):=by
  obtain ⟨A,cap,rfl,-,-,hc⟩:=hv
  cases A with
  | none=>
    have h0:S.length=0:=by
      by_cases h:S.length=0
      · exact h
      · obtain ⟨b,o,ha,_⟩:=hc (by omega)
        cases ha
    obtain rfl:S=[]:=List.eq_nil_of_length_eq_zero h0
    exact ⟨s,w,run_append_nothing_rows sty ty hu hsz w s n cap B xs hs _,by simpa [rowsL] using hs,⟨rfl,rfl,rfl,Nat.le_refl _,fun _ _ _=>rfl⟩,Or.inl rfl⟩
  | some a=>
    have hbytes:(n+S.length) * by_<=140737488355328:=Nat.le_trans (Nat.mul_le_mul hl hby) (by omega)
    obtain ⟨v',w',h1,h2,h3,_,h5⟩:=run_append_own_at (P:=Tryz.prog) w B sty sty ty i0 z c by_ hu hi hz0 hz1 hz2 hz hc0 s n xs hs a S.length cap (rowsL f S) (rowsL_length hf S)
      (fun j u hu=>by
        have hj:j < S.length * c:=by
          have:=(List.getElem?_eq_some_iff.1 hu).1
          rwa [rowsL_length hf] at this
        have hS:0 < S.length:=Nat.pos_of_ne_zero fun e=>by rw [e,Nat.zero_mul] at hj; omega
        obtain ⟨b,o,hb,_,hcell⟩:=hc hS
        cases hb
        have hi':j / c < S.length:=(Nat.div_lt_iff_lt_mul hc0).2 hj
        have hr:j % c < c:=Nat.mod_lt _ hc0
        have hjj:j / c * c+j % c=j:=by rw [Nat.mul_comm]; exact Nat.div_add_mod j c
        have e:=rowsL_at hf S (j / c) (j % c) hi' hr
        rw [hjj,hu] at e
        have:=hcell (j / c) hi' (j % c) u e.symm
        rw [Addr.add_mid]
        rw [Nat.add_assoc,hjj] at this
        exact this) (rowsL_one h1 S) (by unfold maxLen; omega) hbytes hB
    exact ⟨v',w',h1,h2,h3,h5⟩
theorem append_rows {α:Type} {f:α->List Value} {c:Nat} {w:World} {v s:Value} {S:List α} {B n:Nat} {xs:List Value} (sty ty:TypeId) (i0:TypeInfo) (z:Value) (by_:Nat)
    (hu:Tryz.prog.underlying sty=some (.slice ty)) (hsz:∀ w,(sizeOf ty).run Tryz.prog w=.ok c w)
    (hi:Tryz.prog.info? ty=some i0) (hz0:i0.zero=some z) (hz1:i0.size=c) (hz2:i0.bytes=by_) (hz:z.cells.size=c) (hc0:0 < c) (hby:by_<=1000)
    (hf:∀ a,(f a).length=c) (h1:∀ a,∀ u ∈ f a,u.oneCell'=true)
    (hv:RowsAt ty c f w v S) (hs:w.ownsRow B ty c s n xs) (hl:n+S.length<=1000000) (hB:B<=w.heap.size):
    ∃ v' w',(Builtin.append_ #[sty,sty] sty #[s,v]).run Tryz.prog w=.ok v' w'/\w'.ownsRow B ty c v' (n+S.length) (xs ++ rowsL f S)/\w.grownBy w' s.ownBlock/\(v'.ownBlock=s.ownBlock ∨ v'.ownBlock=some w.heap.size):=
  append_rowsIn sty ty i0 z by_ hu hsz hi hz0 hz1 hz2 hz hc0 hby hf h1 hv.inn hs hl hB
end
namespace Pw
abbrev S:=List UInt8
structure M where
  name:S
  power:Int
instance:Inhabited M:=⟨⟨[],0⟩⟩
theorem M.ext' {a b:M} (h:a.name=b.name) (k:a.power=b.power):a=b:=by cases a; cases b; simp_all
instance:DecidableEq M:=fun a b=>
  if h:a.name=b.name/\a.power=b.power then isTrue (M.ext' h.1 h.2) else isFalse (fun e=>h (by subst e; exact ⟨rfl,rfl⟩))
def okM (p:S) (m:M):Bool:=decide (p < m.name) && decide (m.name.length<=6) && decide (1<=m.power) && decide (m.power<=1000)
def okFrom:S->List M->Bool
  | _,[]=>true
  | p,m :: t=>okM p m && okFrom m.name t
def okL (L:List M):Bool:=decide (1<=L.length) && decide (L.length<=7) && okFrom [] L
def sumP (L:List M):Int:=L.foldr (fun m n=>m.power+n) 0
def pick (L:List M) (names:List S):List M:=L.filter fun m=>decide (m.name ∈ names)
def ofL (L:List M) (names:List S):Nat:=if okL L then (sumP (pick L names)).toNat else 0
theorem snocInd {α:Type} {p:List α->Prop} (h0:p []) (h1:∀ l d,p l->p (l ++ [d])) (l:List α):p l:=by
  have h:∀ r:List α,p r.reverse:=by
    intro r
    induction r with
    | nil=>exact h0
    | cons d r ih=>rw [List.reverse_cons]; exact h1 _ _ ih
  have:=h l.reverse
  rwa [List.reverse_reverse] at this
end Pw
section
open Go.RowKit Go.ChangeShapes Go.WideShapes
open Go.Proofs.YtaficmboooaknaaGreatDoor.Pw (M)
theorem Tryz.infoStr:(Tryz.prog.info? 9).map (fun i=>(i.zero,i.size,i.bytes))=some (some (.string ⟨#[]⟩),1,16):=by kernel_rfl
end
section
open Go.RowKit
open Go.Proofs.YtaficmboooaknaaGreatDoor.Pw (M)
theorem run_append_nothing_s (w:World) (v:Value) (n c B:Nat) (xs:List Value) (h:w.ownsRow B 9 1 v n xs) (ty:TypeId):(Builtin.append_ #[29,29] ty #[v,.slice none 0 c]).run Tryz.prog w=.ok v w:=by
  rcases h.2 with ⟨rfl,rfl⟩ | ⟨g,cap,cur,rfl,hB,hh,hn,_⟩
  · simp [Builtin.append_,run_underlying Tryz.underlying29,Tryz.sizeOf9,Builtin.lenOf,Builtin.firstCells,Result.andThen]
  · simp [Builtin.append_,run_underlying Tryz.underlying29,Tryz.sizeOf9,Builtin.lenOf,Builtin.firstCells,Result.andThen,hn,storeCells]
theorem grown_none (w:World) (r:Option Nat):w.grownBy w r:=⟨rfl,rfl,rfl,Nat.le_refl _,fun _ _ _=>rfl⟩
theorem step_append_run {P:Program} {ops:Array Oper} {o:Oper} {a:Act} {w w':World} {K:Act->World->Prop} {Q:Exit->Act->World->Prop} {E:Prop} (hg:o.guard=none) (s x:Operand) (t:TypeId) (hop:o.op=Op.call { callee:=Callee.builtin Builtin.append,args:=#[s,x],argTypes:=#[t,t] })
    (sv xv r:Value) (hs:a.eval s=sv) (hx:a.eval x=xv) (hrun:(Builtin.append_ #[t,t] o.type #[sv,xv]).run P w=.ok r w') (hK:K (a.put o.dst r) w'):if Region.wanted o (yielded ops a.tmps)=true then Oper.wp P o a w K Q else E:=by
  have hw:Region.wanted o (yielded ops a.tmps)=true:=by simp [Region.wanted,hg]
  rw [if_pos hw]
  unfold Oper.wp
  simp [execOp,hop,resolve,invoke,builtin,hs,hx,hrun,Result.andThen]
  exact hK
theorem append_strs {w:World} {v s:Value} {L:List (List UInt8)} {B n:Nat} {xs:List Value} (hv:Strs w v L) (hs:w.ownsRow B 9 1 s n xs) (hl:n+L.length<=1000000) (hB:B<=w.heap.size):
    ∃ v' w',(Builtin.append_ #[29,29] 29 #[s,v]).run Tryz.prog w=.ok v' w'/\w'.ownsRow B 9 1 v' (n+L.length) (xs ++ scells L)/\w.grownBy w' s.ownBlock/\(v'.ownBlock=s.ownBlock ∨ v'.ownBlock=some w.heap.size):=by
  obtain ⟨i0,hi,hz0,hz1,hz2⟩:=info_parts Tryz.infoStr
  obtain ⟨A,cap,rfl,hc⟩:=hv
  cases A with
  | none=>
    have h0:L.length=0:=by
      by_cases h:L.length=0
      · exact h
      · obtain ⟨a,ha,_⟩:=hc 0 (by omega)
        cases ha
    obtain rfl:L=[]:=List.eq_nil_of_length_eq_zero h0
    exact ⟨s,w,run_append_nothing_s w s n cap B xs hs _,by simpa [scells] using hs,grown_none _ _,Or.inl rfl⟩
  | some a=>
    obtain ⟨v',w',h1,h2,h3,_,h5⟩:=run_append_own_at (P:=Tryz.prog) w B 29 29 9 i0 (.string ⟨#[]⟩) 1 16 Tryz.underlying29 hi hz0 hz1 hz2 rfl (by decide) s n xs hs a L.length cap (scells L) (by simp [scells])
      (fun j u hu=>by
        have hj:j < L.length:=by
          have:=(List.getElem?_eq_some_iff.1 hu).1
          simpa [scells] using this
        obtain ⟨b,hb,hcell⟩:=hc j hj
        cases hb
        simp only [scells,List.getElem?_map,List.getElem?_eq_getElem hj] at hu
        simp at hu
        rw [← hu]
        exact hcell) (by simp [scells,Value.oneCell']) (by unfold maxLen; omega) (by omega) hB
    exact ⟨v',w',h1,h2,h3,h5⟩
end
section
open Go.RowKit
open Go.Proofs.YtaficmboooaknaaGreatDoor.Sto (St)
end
section
open Go.RowKit
open Go.Proofs.YtaficmboooaknaaGreatDoor.Sto (St)
def Sto.sumOf (t:List UInt8):List UInt8:=Dig.sum 1 t
end
section
open Go.RowKit
open Go.Proofs.YtaficmboooaknaaGreatDoor.Sto (St)
end
section
open Sto (T St)
open Tri (Tr Ok hb)
open Go.Proofs.YtaficmboooaknaaGreatDoor.Nd (N)
theorem none_at {L:List T} (h:(L == Nd.none16)=true) (i:Nat) (hi:i < L.length):L[i]=[]:=by
  have e:=beq_iff_eq.1 h
  subst e
  exact List.getElem_replicate ..
end
section
open Go.RowKit
open Sto (T)
open Tri (Tr Ok upd ix hb lay splitT)
theorem pcl_val (k:Nat) (p x x':T) (K:Ks) (s:T):(pcl k p x K s).toArray.setIfInBounds 2 (.string ⟨x'.toArray⟩)=(pcl k p x' K s).toArray:=by
  rw [List.setIfInBounds_toArray]; rfl
theorem RowP.setVal {w:World} {g k:Nat} {p x s:T} {K:Ks} (h:RowP w g k p x K s) (x':T):RowP (w.setCell ⟨g,2,none⟩ (.string ⟨x'.toArray⟩)) g k p x' K s:=by
  have:=heap_setCell_same _ _ 2 _ _ (.string ⟨x'.toArray⟩) h
  rw [pcl_val] at this
  exact this
def updK (K:Ks) (i:Fin 16) (v:Value):Ks:=fun j=>if j=i then v else K j
theorem ofFn_set (K:Ks) (i:Fin 16) (v:Value):(List.ofFn K).set i.val v=List.ofFn (updK K i v):=by
  refine List.ext_getElem (by simp) fun n h1 h2=>?_
  rw [List.getElem_set,List.getElem_ofFn,List.getElem_ofFn]
  unfold updK
  by_cases e:i.val=n
  · rw [if_pos e,if_pos (Fin.ext e.symm)]
  · rw [if_neg e,if_neg (fun h=>e (by rw [← h]))]
theorem pcl_kid (k:Nat) (p x:T) (K:Ks) (s:T) (i:Fin 16) (v:Value):(pcl k p x K s).toArray.setIfInBounds (3+i.val) v=(pcl k p x (updK K i v) s).toArray:=by
  have hi:=i.isLt
  rw [List.setIfInBounds_toArray]
  congr 1
  unfold pcl
  rw [Nat.add_comm 3 i.val]
  simp only [List.set_cons_succ]
  rw [List.set_append_left _ _ (by simp),ofFn_set]
theorem RowP.setKid {w:World} {g k:Nat} {p x s:T} {K:Ks} (h:RowP w g k p x K s) (i:Fin 16) (v:Value):RowP (w.setCell ⟨g,3+i.val,none⟩ v) g k p x (updK K i v) s:=by
  have:=heap_setCell_same _ _ (3+i.val) _ _ v h
  rw [pcl_kid] at this
  exact this
theorem ix_val {a:UInt8} (h:a.toNat<=15):(ix a).val=a.toNat:=by simp only [ix]; omega
theorem byte_drop {p r:T} {n:Nat} {a:UInt8} (h:p.drop n=a :: r):∀ hh,(⟨p.toArray⟩:ByteArray)[n]'hh=a:=by
  intro hh
  have hl:n < p.length:=by
    have:=congrArg List.length h
    simp at this; omega
  show p.toArray[n]'_=a
  rw [List.getElem_toArray]
  have:=List.drop_eq_getElem_cons hl
  rw [h] at this
  exact (List.cons.inj this).1.symm
theorem tail_drop {p r:T} {n:Nat} {a:UInt8} (h:p.drop n=a :: r):(⟨p.toArray⟩:ByteArray).extract (n+1) p.length=⟨r.toArray⟩:=by
  rw [ext_drop]
  have:p.drop (n+1)=r:=by
    rw [← List.drop_drop,h]; rfl
  rw [this]
theorem split_any {t:Tr} {g:Nat} (n:Nat) (w:World) (F:Fm) (hB:F.fresh w) (h:PAt w F false t (ptr g)) (hk:t.kind=1 ∨ t.kind=2) (hf:t.firm) (hfit:t.fits) (hpl:t.pth.length<=1000) (hn:n<=t.pth.length) (hne:t.kind=2->n < t.pth.length):
    Calls Tryz.prog 139 #[ptr g,.int .i64 n] w (MadeT w F (splitT n t)):=by
  unfold MadeT
  have hnn:¬ t.isNil:=fun e=>by rw [← Tri.kind_nil] at e; omega
  obtain ⟨g',s',K,e,-,-,hr,hkk⟩:=h.row hnn
  obtain rfl:=ptr_inj e
  have hb0:Below w.heap.size w (w.alloc (.cells (pcl 3 [] [] noK []).toArray 87)):=(Below.refl _ w).alloc (Nat.le_refl _) _
  have r1:RowP (w.alloc (.cells (pcl 3 [] [] noK []).toArray 87)) w.heap.size 3 [] [] noK []:=RowP.new rfl
  have hr1:=hr.below hb0
  have n0:=hr1.kind
  have n1:=hr1.path
  have n2:=hr1.val
  have m2:=r1.val
  have f2:=r1.free 2
  have HP:=qh h
  have HKK:=qh hkk
  have HR:=qh hr
  have HR1:=qh r1
  have HB0:=qh hb0
  obtain ⟨C,hC⟩:∃ C,(pcl 3 [] [] noK []).toArray=C:=⟨_,rfl⟩
  have HBL:Hid (Tryz.prog.built 87 [(0,.int .i64 3)]=some C):=qh (by rw [← hC]; kernel_rfl)
  rw [hC] at n0 n1 n2 m2 f2 HB0 HR1
  obtain ⟨p,hp⟩:∃ p,t.pth=p:=⟨_,rfl⟩
  obtain ⟨x,hx⟩:∃ x,t.vl=x:=⟨_,rfl⟩
  rw [hp] at n1 hpl hn hne
  rw [hx] at n2
  have HPP:=qh hp
  have HX:=qh hx
  by_cases hlt:n < p.length
  · obtain ⟨a,r,hd⟩:∃ a r,p.drop n=a :: r:=⟨_,_,List.drop_eq_getElem_cons hlt⟩
    have hfp:Nib.fitL p=true:=by
      rcases hk with h1 | h1
      · cases t with
        | leaf q y=>obtain rfl:q=p:=hp; exact hfit
        | _=>cases h1
      · cases t with
        | ext q y=>obtain rfl:q=p:=hp; exact hfit.1
        | _=>cases h1
    have ha:=(Tri.fit_cons.1 (hd ▸ Tri.fit_drop n hfp)).1
    have hbyte:=byte_drop hd
    have htail:=tail_drop hd
    have e2:((n:Int) == (p.length:Int))=false:=by rw [beq_eq_false_iff_ne]; omega
    have z1:(0:Int)<=(n:Int):=by omega
    have z2:(n:Int) < (p.length:Int):=by omega
    have z3:(0:Int)<=(n:Int)+1:=by omega
    have z4:(n:Int)+1<=(p.length:Int):=by omega
    have z5:((n:Int)+1).toNat=n+1:=by omega
    have z8:IntKind.i64.wrap ((n:Int)+1)=(n:Int)+1:=IntWalk.i64_in _ (by omega)
    have z6:(0:Int)<=(a.toNat:Int):=by omega
    have z7:(a.toNat:Int) < 16:=by omega
    have HIX:=qh (ix_val ha)
    have hrl:r.length<=1000:=by have:=congrArg List.length hd; simp at this; omega
    rcases hk with h1 | h1
    · rw [h1] at n0
      have HS:Hid (splitT n t=.br [] (upd Tri.bare (ix a) (.leaf r x))):=qh (by
        cases t with
        | leaf q y=>
          obtain rfl:q=p:=hp
          obtain rfl:y=x:=hx
          exact Tri.split_leaf1 hd
        | _=>cases h1)
      have HLF:Hid (∀ w',Below w.heap.size w w'->w.heap.size < w'.heap.size->Calls Tryz.prog 136 #[.string ⟨r.toArray⟩,.string ⟨x.toArray⟩] w' fun e w''=>∃ v,e=.returned v/\PAt w'' (F.off w.heap.size) false (.leaf r x) v/\Below w'.heap.size w' w''):=qh (fun w' hb hs=>(leaf_any r x w' _ ((hB.size hb.size).off hs)))
      unfold ptr
      clear h hr hkk hf hfit hp hx hne hn hlt hr1 r1 hb0 h1 hC hpl hfp ha hd m2 f2
      go_enter Tryz.func139,Tryz.ntmps139
      go_wp2_with (refine wpList_build_some (by rfl) _ _ (by rfl) [(0,.int .i64 3)] (by first | rfl | (simp [Act.eval]; done) | kernel_rfl) C HBL.out ?_)
      obtain ⟨q,hq⟩:∃ q,w.heap.size=q:=⟨_,rfl⟩
      have HQ:=qh hq
      obtain ⟨w0,hw0⟩:∃ w0,w.alloc (.cells C 87)=w0:=⟨_,rfl⟩
      rw [hw0] at HR1 HB0 n0 n1 n2 ⊢
      rw [hq] at HR1 ⊢
      have HSZ:Hid (w.heap.size < w0.heap.size):=qh (by rw [← hw0]; simp)
      have HN1:Hid (∀ w',Below w0.heap.size w0 w'->w'.cell? ⟨g,1,none⟩=some (.string ⟨p.toArray⟩)/\w'.cell? ⟨g,2,none⟩=some (.string ⟨x.toArray⟩)/\w'.cell? ⟨q,3+a.toNat,none⟩=some (.pointer none)/\w'.frozen? ⟨q,3+a.toNat,none⟩=false):=qh (fun w' hb=>by
        have k1:=(HR.out.below HB0.out).below hb
        have k2:=HR1.out.below hb
        refine ⟨by rw [k1.path,HPP.out],by rw [k1.val,HX.out],?_,k2.free _⟩
        have:=k2.kid (ix a)
        rw [HIX.out] at this
        exact this)
      have HGQ:Hid (g < q):=qh (by rw [← hq]; exact lt_of_heap HR.out)
      have HK1:Hid (∀ w' v,Below w0.heap.size w0 w'->(w'.setCell ⟨q,3+a.toNat,none⟩ v).cell? ⟨g,1,none⟩=some (.string ⟨p.toArray⟩)/\(w'.setCell ⟨q,3+a.toNat,none⟩ v).cell? ⟨g,2,none⟩=some (.string ⟨x.toArray⟩)):=qh (fun w' v hb=>⟨keep_cell (HN1.out w' hb).1 (Nat.ne_of_lt HGQ.out),keep_cell (HN1.out w' hb).2.1 (Nat.ne_of_lt HGQ.out)⟩)
      have BD:Below w0.heap.size w0 w0.drew:=(Below.refl _ _).drew
      have HLF2:Hid (∀ w',Below w0.heap.size w0 w'->Calls Tryz.prog 136 #[.string ⟨r.toArray⟩,.string ⟨x.toArray⟩] w' fun e w''=>∃ g6,e=.returned (.pointer (some ⟨g6,0,none⟩))/\PAt w'' (F.off q) false (.leaf r x) (ptr g6)/\Below w0.heap.size w0 w''):=qh (fun w' hb=>(HLF.out w' (HB0.out.trans (hb.mono (Nat.le_of_lt HSZ.out))) (Nat.lt_of_lt_of_le HSZ.out hb.size)).mono fun e w'' ⟨v,e1,hp,hb2⟩=>by
        obtain ⟨g6,_,_,rfl,_⟩:=hp.row id
        exact ⟨g6,e1,by rw [← hq]; exact hp,hb.trans (hb2.mono hb.size)⟩)
      obtain ⟨c1,c2,c3,c4⟩:=HN1.out _ BD
      clear hq hw0 n0 n1 n2 HLF
      go_region_held3 (fun w'=>w'.cell? ⟨g,1,none⟩=some (.string ⟨p.toArray⟩)/\w'.cell? ⟨g,2,none⟩=some (.string ⟨x.toArray⟩))
        ((first | (with_reducible exact ⟨c1,c2⟩) | (with_reducible exact ⟨d1,d2⟩) | (refine HK1.out _ _ ?_; with_reducible assumption)))
        ((go_at_call 136; refine (HLF2.out _ ?_).mono ?_; (with_reducible assumption); rintro e w6 ⟨g6,rfl,hp6,hb6⟩; obtain ⟨d1,d2,d3,d4⟩:=HN1.out _ hb6))
      all_goals
        go_wp2
        go_ret
        rw [HS.out]
        have hbq:Below w.heap.size w w6:=HB0.out.trans (hb6.mono (Nat.le_of_lt HSZ.out))
        refine ⟨_,rfl,PAt.new (K:=updK noK (ix a) (ptr g6)) id (hB _ (Nat.le_of_eq HQ.out)) ?_ (fun i=>?_),hbq.setCell (p:=⟨q,_,none⟩) (Nat.le_of_eq HQ.out) _⟩
        · have:=(HR1.out.below hb6).setKid (ix a) (ptr g6)
          rw [HIX.out] at this
          exact this
        · simp only [Tri.Tr.kid,updK,Tri.upd]
          split
          · exact hp6.off _ _
          · rfl
    · rw [h1] at n0
      obtain ⟨u,hu⟩:∃ u,t.kid 0=u:=⟨_,rfl⟩
      have hub:u.isBr:=by
        rw [← hu]
        cases t with
        | ext q y=>exact hf.2.1
        | _=>cases h1
      have hun:¬ u.isNil:=by cases u <;> simp_all [Tri.Tr.isBr,Tri.Tr.isNil]
      have hup:u.pth.length<=1000:=by cases u <;> simp_all [Tri.Tr.isBr,Tri.Tr.pth]
      have HUN:=qh (Tri.lay_nn (p:=r) hun)
      have HS:Hid (splitT n t=.br [] (upd Tri.bare (ix a) (lay r u))):=qh (by
        cases t with
        | ext q y=>
          obtain rfl:q=p:=hp
          obtain rfl:y=u:=hu
          exact Tri.split_ext1 hd
        | _=>cases h1)
      obtain ⟨vk,hvk⟩:∃ v,K 0=v:=⟨_,rfl⟩
      have hku:PAt w (F.off w.heap.size) false u vk:=by
        rw [← hu,← hvk]
        exact (hkk 0).weak.new_off (Nat.le_refl _)
      have HVK:=qh hvk
      have HLF:Hid (∀ w',Below w.heap.size w w'->w.heap.size < w'.heap.size->Calls Tryz.prog 140 #[vk,.string ⟨r.toArray⟩] w' fun e w''=>∃ v,e=.returned v/\PAt w'' (F.off w.heap.size) false (lay r u) v/\Below w'.heap.size w' w''):=qh (fun w' hb hs=>(behind_any r w' _ ((hB.size hb.size).off hs) (hku.below hb) (Or.inr hun) hrl hup))
      unfold ptr
      clear hu hub hun hup hvk hku h hr hkk hf hfit hp hx hne hn hlt hr1 r1 hb0 h1 hC hpl hfp ha hd m2 f2
      go_enter Tryz.func139,Tryz.ntmps139
      go_wp2_with (refine wpList_build_some (by rfl) _ _ (by rfl) [(0,.int .i64 3)] (by first | rfl | (simp [Act.eval]; done) | kernel_rfl) C HBL.out ?_)
      obtain ⟨q,hq⟩:∃ q,w.heap.size=q:=⟨_,rfl⟩
      have HQ:=qh hq
      obtain ⟨w0,hw0⟩:∃ w0,w.alloc (.cells C 87)=w0:=⟨_,rfl⟩
      rw [hw0] at HR1 HB0 n0 n1 n2 ⊢
      rw [hq] at HR1 ⊢
      have HSZ:Hid (w.heap.size < w0.heap.size):=qh (by rw [← hw0]; simp)
      have HN1:Hid (∀ w',Below w0.heap.size w0 w'->w'.cell? ⟨g,1,none⟩=some (.string ⟨p.toArray⟩)/\w'.cell? ⟨g,3,none⟩=some vk/\w'.cell? ⟨q,3+a.toNat,none⟩=some (.pointer none)/\w'.frozen? ⟨q,3+a.toNat,none⟩=false):=qh (fun w' hb=>by
        have k1:=(HR.out.below HB0.out).below hb
        have k2:=HR1.out.below hb
        refine ⟨by rw [k1.path,HPP.out],by rw [← HVK.out]; exact k1.kid 0,?_,k2.free _⟩
        have:=k2.kid (ix a)
        rw [HIX.out] at this
        exact this)
      have HGQ:Hid (g < q):=qh (by rw [← hq]; exact lt_of_heap HR.out)
      have HK1:Hid (∀ w' v,Below w0.heap.size w0 w'->(w'.setCell ⟨q,3+a.toNat,none⟩ v).cell? ⟨g,1,none⟩=some (.string ⟨p.toArray⟩)/\(w'.setCell ⟨q,3+a.toNat,none⟩ v).cell? ⟨g,3,none⟩=some vk):=qh (fun w' v hb=>⟨keep_cell (HN1.out w' hb).1 (Nat.ne_of_lt HGQ.out),keep_cell (HN1.out w' hb).2.1 (Nat.ne_of_lt HGQ.out)⟩)
      have BD:Below w0.heap.size w0 w0.drew:=(Below.refl _ _).drew
      have HLF2:Hid (∀ w',Below w0.heap.size w0 w'->Calls Tryz.prog 140 #[vk,.string ⟨r.toArray⟩] w' fun e w''=>∃ g6,e=.returned (.pointer (some ⟨g6,0,none⟩))/\PAt w'' (F.off q) false (lay r u) (ptr g6)/\Below w0.heap.size w0 w''):=qh (fun w' hb=>(HLF.out w' (HB0.out.trans (hb.mono (Nat.le_of_lt HSZ.out))) (Nat.lt_of_lt_of_le HSZ.out hb.size)).mono fun e w'' ⟨v,e1,hp,hb2⟩=>by
        obtain ⟨g6,_,_,rfl,_⟩:=hp.row HUN.out
        exact ⟨g6,e1,by rw [← hq]; exact hp,hb.trans (hb2.mono hb.size)⟩)
      obtain ⟨c1,c2,c3,c4⟩:=HN1.out _ BD
      clear hq hw0 n0 n1 n2 HLF
      go_region_held3 (fun w'=>w'.cell? ⟨g,1,none⟩=some (.string ⟨p.toArray⟩)/\w'.cell? ⟨g,3,none⟩=some vk)
        ((first | (with_reducible exact ⟨c1,c2⟩) | (with_reducible exact ⟨d1,d2⟩) | (refine HK1.out _ _ ?_; with_reducible assumption)))
        ((go_at_call 140; refine (HLF2.out _ ?_).mono ?_; (with_reducible assumption); rintro e w6 ⟨g6,rfl,hp6,hb6⟩; obtain ⟨d1,d2,d3,d4⟩:=HN1.out _ hb6))
      all_goals
        go_wp2
        go_ret
        rw [HS.out]
        have hbq:Below w.heap.size w w6:=HB0.out.trans (hb6.mono (Nat.le_of_lt HSZ.out))
        refine ⟨_,rfl,PAt.new (K:=updK noK (ix a) (ptr g6)) id (hB _ (Nat.le_of_eq HQ.out)) ?_ (fun i=>?_),hbq.setCell (p:=⟨q,_,none⟩) (Nat.le_of_eq HQ.out) _⟩
        · have:=(HR1.out.below hb6).setKid (ix a) (ptr g6)
          rw [HIX.out] at this
          exact this
        · simp only [Tri.Tr.kid,updK,Tri.upd]
          split
          · exact hp6.off _ _
          · rfl
  · obtain rfl:n=p.length:=by omega
    have h1:t.kind=1:=by rcases hk with h | h; exact h; exact absurd (hne h) hlt
    have e2:((p.length:Int) == (p.length:Int))=true:=beq_self_eq_true _
    have HS:Hid (splitT p.length t=.br x Tri.bare):=qh (by
      cases t with
      | leaf q y=>
        obtain rfl:q=p:=hp
        obtain rfl:y=x:=hx
        exact Tri.split_leaf0 (by simp)
      | _=>cases h1)
    have HSV:Hid (C.setIfInBounds 2 (.string ⟨x.toArray⟩)=(pcl 3 [] x noK []).toArray):=qh (by rw [← hC]; exact pcl_val ..)
    unfold ptr
    clear h hr hkk hk hf hfit hp hx hne hn hlt hr1 r1 hb0 h1 n0 hC
    go_enter Tryz.func139,Tryz.ntmps139
    go_wp2_with (refine wpList_build_some (by rfl) _ _ (by rfl) [(0,.int .i64 3)] (by first | rfl | (simp [Act.eval]; done) | kernel_rfl) C HBL.out ?_)
    go_ret
    rw [HS.out,HSV.out]
    exact ⟨_,rfl,PAt.new (K:=noK) id (hB _ (Nat.le_refl _)) (RowP.new rfl) (fun i=>rfl),(Below.refl _ w).alloc (Nat.le_refl _) _⟩
end
section
open Go.RowKit
open Sto (T)
open Tri (Tr Ok upd ix hb lay splitT Trim rank)
def kcl (K:Ks):List Value:=List.ofFn K
theorem kcl_length (K:Ks):(kcl K).length=16:=by simp [kcl]
theorem RowP.range {w:World} {g k:Nat} {p x s:T} {K:Ks} (h:RowP w g k p x K s):w.rangeAt g 3 (kcl K):=by
  intro j v hv
  have hj:j < 16:=by
    rcases Nat.lt_or_ge j 16 with h2 | h2
    · exact h2
    · rw [List.getElem?_eq_none (by rw [kcl_length]; exact h2)] at hv; cases hv
  have:=h.kid ⟨j,hj⟩
  rw [this]
  unfold kcl at hv
  rw [List.getElem?_ofFn,dif_pos hj] at hv
  exact hv
theorem kcl_info (K:Ks):(Tryz.prog.info? 85).map (·.size)=some (kcl K).length:=by rw [kcl_length]; kernel_rfl
theorem index_kids (K:Ks) (i:Fin 16) (w:World):(Instr.index 85 (.agg (kcl K).toArray) (.int .i64 i.val)).run Tryz.prog w=.ok (K i) w:=by
  have hi:=i.isLt
  have hu:=Tryz.underlying85
  have hk0:(0:Int)<=(i.val:Int):=by omega
  have hk8:(i.val:Int) < 16:=by omega
  have hat:(kcl K)[i.val]?=some (K i):=by
    unfold kcl
    rw [List.getElem?_ofFn,dif_pos hi]
  have hs:=Tryz.sizeOf82
  have ha:=Tryz.isAgg82
  unfold Instr.index
  go_simp
theorem PAt.ptr {w:World} {F:Fm} {s:Bool} {t:Tr} {v:Value} (h:PAt w F s t v) (hn:¬ t.isNil):∃ g,v=.pointer (some ⟨g,0,none⟩):=by
  obtain ⟨g,_,_,e,_⟩:=h.row hn; exact ⟨g,e⟩
end
section
open Go.RowKit
open Sto (T)
open Tri (Tr Ok upd ix hb lay splitT Trim rank)
open Go.Proofs.YtaficmboooaknaaGreatDoor.Nd (N)
def st19 (a v:Value):Sem Unit:=Instr.storeAt 110 a v
theorem storeAt19 (a v:Value):Instr.storeAt 110 a v=st19 a v:=rfl
attribute [local go_sem ↓] storeAt19
def zero19:Array Value:=#[.int .i64 0,.string ⟨#[]⟩,.string ⟨#[]⟩,.string ⟨#[]⟩,.string ⟨#[]⟩,.string ⟨#[]⟩,.string ⟨#[]⟩,.string ⟨#[]⟩,.string ⟨#[]⟩,.string ⟨#[]⟩,.string ⟨#[]⟩,.string ⟨#[]⟩,.string ⟨#[]⟩,.string ⟨#[]⟩,.string ⟨#[]⟩,.string ⟨#[]⟩,.string ⟨#[]⟩,.string ⟨#[]⟩,.string ⟨#[]⟩]
def lit19 (kd:Nat) (p x:T):Array Value:=#[.int .i64 kd,.string ⟨p.toArray⟩,.string ⟨x.toArray⟩,.string ⟨#[]⟩,.string ⟨#[]⟩,.string ⟨#[]⟩,.string ⟨#[]⟩,.string ⟨#[]⟩,.string ⟨#[]⟩,.string ⟨#[]⟩,.string ⟨#[]⟩,.string ⟨#[]⟩,.string ⟨#[]⟩,.string ⟨#[]⟩,.string ⟨#[]⟩,.string ⟨#[]⟩,.string ⟨#[]⟩,.string ⟨#[]⟩,.string ⟨#[]⟩]
theorem run_st19 {w:World} {C old:Array Value} (hi:(Tryz.prog.info? 110).map (·.size)=some C.size) (ho:old.size=C.size) (h1:C.all (·.oneCell')=true):
    (st19 (.pointer (some ⟨w.heap.size,0,none⟩)) (.agg C)).run Tryz.prog (w.alloc (.cells old 110))=.ok () (w.alloc (.cells C 110)):=by
  unfold st19
  simp only [Instr.storeAt,Instr.sureAddr,Sem.run_bind,Sem.run_pure,Result.andThen_ok,run_storeVar_row (w.alloc (.cells old 110)) w.heap.size 110 110 old C (heap_alloc_new w _) hi ho h1]
  rw [World.setRow_alloc_new]
theorem ncl_set (kd:Int) (p x:T) (L:List T) (k:Nat) (y:T):(ncl ⟨kd,p,x,L⟩).toArray.setIfInBounds (3+k) (.string ⟨y.toArray⟩)=(ncl ⟨kd,p,x,L.set k y⟩).toArray:=by
  rw [List.setIfInBounds_toArray]
  congr 1
  unfold ncl
  rw [Nat.add_comm 3 k]
  simp only [List.set_cons_succ]
  rw [scells_set]
theorem ncl_ones (n:N):(ncl n).toArray.all (·.oneCell')=true:=by
  rw [← Array.all_toList,List.all_eq_true]
  intro v hv
  simp only [ncl,scells,List.mem_cons,List.mem_map] at hv
  rcases hv with rfl | rfl | rfl | ⟨y,_,rfl⟩ <;> rfl
theorem pnode_any {t:Tr} {g:Nat} {s:T} {K:Ks} {F:Fm} (w:World) (hr:RowP w g t.kind t.pth t.vl K s) (hk:∀ i,PAt w F true (t.kid i) (K i)) (hn:¬ t.isNil):
    Calls Tryz.prog 101 #[ptr g] w fun e w'=>e=.returned (ndval (t.node Nd.sumS))/\Below w.heap.size w w':=by
  rw [Tri.node_kid _ hn]
  have HK:=qh hk
  have HR:=qh hr
  unfold ptr
  obtain ⟨kd,hkd⟩:∃ kd,t.kind=kd:=⟨_,rfl⟩
  obtain ⟨p,hp⟩:∃ p,t.pth=p:=⟨_,rfl⟩
  obtain ⟨x,hx⟩:∃ x,t.vl=x:=⟨_,rfl⟩
  rw [hkd,hp,hx] at HR ⊢
  obtain ⟨SL,hSL⟩:∃ SL,(List.ofFn fun i=>(t.kid i).sum Nd.sumS)=SL:=⟨_,rfl⟩
  have HSL:Hid (SL.length=16/\∀ i:Fin 16,SL[i.val]?=some ((t.kid i).sum Nd.sumS)):=qh (by
    rw [← hSL]
    exact ⟨by simp,fun i=>by rw [List.getElem?_ofFn,dif_pos i.isLt]⟩)
  rw [hSL]
  unfold ndval
  obtain ⟨A,hA⟩:∃ A,(ncl ⟨(kd:Int),p,x,SL⟩).toArray=A:=⟨_,rfl⟩
  rw [hA]
  have HA:=qh hA
  clear hr hk hkd hp hx hSL hA
  go_enter Tryz.func101,Tryz.ntmps101
  go_upto_region 1 with fail
  obtain ⟨q,hq⟩:∃ q,w.heap.size=q:=⟨_,rfl⟩
  obtain ⟨w0,hw0⟩:∃ w0,w.alloc (.cells zero19 110)=w0:=⟨_,rfl⟩
  have HQB:Hid (w0.heap[q]?=some (.cells zero19 110 (0,0))):=qh (by rw [← hw0,← hq]; exact heap_alloc_new w _)
  have HB0:Hid (Below w.heap.size w w0):=qh (by rw [← hw0]; exact (Below.refl _ w).alloc (Nat.le_refl _) _)
  have HQ0:Hid (q < w0.heap.size):=qh (lt_of_heap HQB.out)
  unfold zero19 at hw0
  rw [hw0,hq]
  have HQ:=qh hq
  have HG:Hid (∀ w',Below w0.heap.size w0 w'->w'.cell? ⟨g,0,none⟩=some (.int .i64 kd)/\w'.cell? ⟨g,1,none⟩=some (.string ⟨p.toArray⟩)/\w'.cell? ⟨g,2,none⟩=some (.string ⟨x.toArray⟩)):=qh (fun w' hb=>by
    have k1:=(HR.out.below HB0.out).below hb
    exact ⟨k1.kind,k1.path,k1.val⟩)
  have hst:(st19 (.pointer (some ⟨w0.heap.size,0,none⟩)) (.agg (lit19 kd p x))).run Tryz.prog ((w0.alloc (.cells zero19 110)).drew)=.ok () ((w0.alloc (.cells (lit19 kd p x) 110)).drew):=run_st19 (w:=w0.drew) (by kernel_rfl) rfl (by simp [lit19,Value.oneCell'])
  unfold lit19 zero19 at hst
  have B1:Below w0.heap.size w0 w0.drew:=(Below.refl _ _).drew
  have B2:=((Below.refl w0.heap.size w0).alloc (Nat.le_refl _) (.cells zero19 110)).drew
  have B3:=((Below.refl w0.heap.size w0).alloc (Nat.le_refl _) (.cells (lit19 kd p x) 110)).drew
  unfold zero19 at B2
  unfold lit19 at B3
  obtain ⟨c0,c1,c2⟩:=HG.out _ B1
  clear hw0 hq
  go_region_held3 (fun w'=>w'.cell? ⟨g,0,none⟩=some (.int .i64 kd)/\w'.cell? ⟨g,1,none⟩=some (.string ⟨p.toArray⟩)/\w'.cell? ⟨g,2,none⟩=some (.string ⟨x.toArray⟩))
    ((first | (with_reducible exact ⟨c0,c1,c2⟩) | (refine HG.out _ ?_; with_reducible assumption)))
    (fail)
  obtain ⟨q2,hq2⟩:∃ q2,w0.heap.size=q2:=⟨_,rfl⟩
  obtain ⟨w1,hw1⟩:∃ w1,(w0.alloc (.cells (lit19 kd p x) 110)).drew=w1:=⟨_,rfl⟩
  have HN0:Hid (NodeAt w1 q2 ⟨kd,p,x,Nd.part []⟩):=qh (by
    rw [← hw1,← hq2]
    exact heap_alloc_new w0 _)
  have HB1:Hid (Below w.heap.size w w1/\w1.heap[q]?=some (.cells zero19 110 (0,0))/\w.heap.size<=q2/\q ≠ q2):=qh (by
    have h1:Below w0.heap.size w0 w1:=by rw [← hw1]; exact ((Below.refl w0.heap.size w0).alloc (Nat.le_refl _) _).drew
    have:=HQ0.out
    have:=HB0.out.size
    exact ⟨bchain HB0.out h1,(h1.block q HQ0.out).trans HQB.out,by omega,by omega⟩)
  unfold lit19 at hw1
  rw [hw1,hq2]
  have HRR:=qh ((HR.out.below HB1.out.1).range)
  have HI:=qh (kcl_info K)
  have HKE:=qh (fun (i:Fin 16) w=>index_kids K i w)
  clear c0 c1 c2 hst B1 B2 B3 hw1 hq2 HG
  go_wp2_with (refine wpList_load_mid (by rfl) _ _ (by rfl) g 3 (by rfl) (kcl K) _ HRR.out Tryz.underlying85 (by rfl) HI.out ?_)
  obtain ⟨KC,hKC⟩:∃ KC,kcl K=KC:=⟨_,rfl⟩
  rw [hKC] at HKE HI HRR ⊢
  clear hKC
  go_loopw [23] (fun i wr=>∃ k:Nat,k<=16/\i=.int .i64 k/\NodeAt wr q2 ⟨kd,p,x,Nd.part (SL.take k)⟩/\Out (fun j=>j=q2) w1 wr) (fun i _=>16 - (intOf i).toNat)
  case atStart=>exact ⟨0,Nat.zero_le _,rfl,HN0.out,Out.refl _ _⟩
  case round=>
    obtain ⟨k,hk,rfl,hna,hou⟩:=hrel
    have HNA:=qh hna
    have HOU:=qh hou
    have HGQ:Hid (g ≠ q2):=qh (fun e=>by have:=lt_of_heap HR.out; have:=HB1.out.2.2.1; omega)
    by_cases hlt:k < 16
    · obtain ⟨i,hi⟩:∃ i:Fin 16,i.val=k:=⟨⟨k,hlt⟩,rfl⟩
      have h1:(k:Int) < 16:=by omega
      have h0:(0:Int)<=(k:Int):=by omega
      have n0:=HKE.out i
      rw [hi] at n0
      have hti:SL.take (k+1)=SL.take k ++ [(t.kid i).sum Nd.sumS]:=by
        have h2:=HSL.out.2 i
        rw [hi] at h2
        rw [List.take_add_one,h2]; rfl
      have htl:(SL.take k).length=k:=by rw [List.length_take,HSL.out.1]; omega
      have hki:=HK.out i
      by_cases hnl:(t.kid i).isNil
      · have e:K i=.pointer none:=by rw [Tri.isNil_eq hnl] at hki; exact hki
        rw [e] at n0
        have HST:Hid (Nd.part (SL.take (k+1))=Nd.part (SL.take k)):=qh (by
          rw [hti,Tri.isNil_eq hnl]
          exact (Nd.part_nil _ (by rw [htl]; exact hlt)).symm)
        clear hki hnl e hna hou hti htl
        go_wp2
        exact ⟨⟨k+1,by omega,by go_num,by rw [HST.out]; exact HNA.out,HOU.out⟩,by simp [intOf]; omega⟩
      · obtain ⟨g6,s6,K6,e,hs6,-,hr6,-⟩:=hki.row hnl
        have e':K i=.pointer (some ⟨g6,0,none⟩):=e
        rw [hs6 rfl,if_pos rfl] at hr6
        rw [e'] at n0
        have hg6:g6 ≠ q2:=fun e=>by have:=lt_of_heap hr6; have:=HB1.out.2.2.1; omega
        have n19:wr.cell? ⟨g6,19,none⟩=some (.string ⟨((t.kid i).sum Nd.sumS).toArray⟩):=hou.cell (hr6.below HB1.out.1).sum hg6
        have hpl:(Nd.part (SL.take k)).length=16:=Nd.part_len _ (by rw [htl]; omega)
        have m3:=hna.kid k (by rw [hpl]; exact hlt)
        have f3:wr.frozen? ⟨q2,3+k,none⟩=false:=frozen_of_row _ _ _ _ _ hna
        obtain ⟨y,hy⟩:∃ y,(t.kid i).sum Nd.sumS=y:=⟨_,rfl⟩
        rw [hy] at n19 hti
        obtain ⟨y2,hy2⟩:∃ y2,(Nd.part (SL.take k))[k]'(by rw [hpl]; exact hlt)=y2:=⟨_,rfl⟩
        have m3':wr.cell? ⟨q2,3+k,none⟩=some (.string ⟨y2.toArray⟩):=by rw [m3,hy2]
        have HST:Hid (NodeAt (wr.setCell ⟨q2,3+k,none⟩ (.string ⟨y.toArray⟩)) q2 ⟨kd,p,x,Nd.part (SL.take (k+1))⟩):=qh (by
          have h2:=heap_setCell_same _ _ (3+k) _ _ (.string ⟨y.toArray⟩) hna
          rw [ncl_set] at h2
          have h3:=Nd.part_set (SL.take k) y (by rw [htl]; exact hlt)
          rw [htl] at h3
          rw [h3] at h2
          rw [hti]
          exact h2)
        have HOS:=qh (hou.setCell (p:=⟨q2,3+k,none⟩) rfl (.string ⟨y.toArray⟩))
        clear hki hnl e e' hna hou hti htl m3 hy2 hr6 hy hpl hg6
        go_wp2
        exact ⟨⟨k+1,by omega,by go_num,HST.out,HOS.out⟩,by simp [intOf]; omega⟩
    · have h1:¬ ((k:Int) < 16):=by omega
      obtain rfl:k=16:=by omega
      rw [List.take_of_length_le (by rw [HSL.out.1]; omega),Nd.part_all _ HSL.out.1] at HNA
      have hcs:(ncl ⟨kd,p,x,SL⟩).toArray.size=19:=by rw [List.size_toArray,ncl_length _ HSL.out.1]
      have HIN:Hid ((Tryz.prog.info? 110).map (·.size)=some (ncl ⟨kd,p,x,SL⟩).toArray.size):=qh (by rw [hcs]; kernel_rfl)
      have HON:=qh (ncl_ones ⟨kd,p,x,SL⟩)
      have HQR:Hid (wr.heap[q]?=some (.cells zero19 110 (0,0))):=qh ((HOU.out.block q (lt_of_heap HB1.out.2.1) HB1.out.2.2.2).trans HB1.out.2.1)
      have HOL:Hid (zero19.size=(ncl ⟨kd,p,x,SL⟩).toArray.size):=qh (by rw [hcs]; rfl)
      have HRW:Hid (wr.heap[q2]?=some (.cells (ncl ⟨kd,p,x,SL⟩).toArray 110 (0,0))):=qh HNA.out
      have HBW:Hid (∀ A,Below w.heap.size w (wr.setRow q A)):=qh (fun A=>by
        have h2:=(HOU.out.mono (G:=fun j=>j=q2 ∨ j=q) (fun j _ e=>Or.inl e)).setRow (q:=q) (Or.inr rfl) A
        refine HB1.out.1.trans (h2.below (fun j hj=>?_) HB1.out.1.size)
        rcases hj with rfl | rfl
        · exact HB1.out.2.2.1
        · exact Nat.le_of_eq HQ.out)
      rw [HA.out] at HIN HON HOL HRW
      clear hcs hna hou HNA
      go_wp2_with (first | (refine wpList_load_row (by rfl) _ _ (by rfl) q2 (by rfl) _ A _ _ HRW.out Tryz.underlying110 (by rfl) HIN.out ?_) | (refine wpList_store_row (by rfl) _ _ _ (by rfl) q A (by rfl) (by rfl) _ _ HQR.out HIN.out HOL.out HON.out ?_))
      exact bodyPost_ret (v:=.agg A) (results_cell_row rfl _ _ q _ _ _ _ rfl (setRow_at HQR.out) Tryz.underlying110 rfl HIN.out) rfl ⟨rfl,HBW.out A⟩
end
end Go.Proofs.YtaficmboooaknaaGreatDoor
