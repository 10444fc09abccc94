import Derived.Test.YtaficmboooaknaaGreatDoorPp04
import Derived.Test.YtaficmboooaknaaGreatDoorPp01
import Derived.Maps.AppendAt
import Derived.WalkSpells
import Derived.WalkLawsBesides
import Derived.Lib.Strings
import Derived.Test.YtaficmboooaknaaGreatDoorChecked
import Derived.Test.YtaficmboooaknaaGreatDoorPp02
import Derived.Test.YtaficmboooaknaaGreatDoorPp08
import Derived.Deep.Slices
import Derived.DataReads
import Derived.OpenShut
import Derived.SizedLaws
import Derived.Lib.LaidU8
import Derived.Test.YtaficmboooaknaaGreatDoorPp11
import Derived.Lib.SliceRun
import Derived.Test.YtaficmboooaknaaGreatDoorPp10
import Derived.Deep.RegionHeld3
import Derived.Test.YtaficmboooaknaaGreatDoorPp07
import Derived.Test.YtaficmboooaknaaGreatDoorPp03
import Derived.Test.YtaficmboooaknaaGreatDoorPp06
import Derived.Test.YtaficmboooaknaaGreatDoorPp05
set_option maxRecDepth 100000
set_option maxHeartbeats 16000000
namespace Go.Proofs.YtaficmboooaknaaGreatDoor
section
open Go.RowKit
theorem wpList_append_run {P:Program} {w w':World} {ops:Array Oper} {rest:List Oper} {o:Oper} {a:Act} {Q:Exit->Act->World->Prop} (hg:o.guard=none) (s x:Operand) (t:TypeId) (hop:o.op=Op.call { callee:=Callee.builtin Builtin.append,args:=#[s,x],argTypes:=#[t,t] })
    (sv xv r:Value) (hs:a.eval s=sv) (hx:a.eval x=xv) (hrun:(Builtin.append_ #[t,t] o.type #[sv,xv]).run P w=.ok r w') (hK:wpList P ops Q rest (a.put o.dst r) w'):
    wpList P ops Q (o :: rest) a w:=by
  refine wpList_plain hg fun K' hK'=>?_
  unfold Oper.wp
  simp [execOp,hop,resolve,invoke,builtin,hs,hx,hrun,Result.andThen]
  exact hK' _ _ hK
def rowsL {α:Type} (f:α->List Value) (L:List α):List Value:=L.flatMap f
theorem rowsL_length {α:Type} {f:α->List Value} {c:Nat} (hf:∀ a,(f a).length=c) (L:List α):(rowsL f L).length=L.length * c:=by
  induction L with
  | nil=>simp [rowsL]
  | cons a L ih=>
    have e:rowsL f (a :: L)=f a ++ rowsL f L:=by simp [rowsL]
    rw [e,List.length_append,ih,hf,List.length_cons,Nat.succ_mul,Nat.add_comm]
theorem rowsL_append {α:Type} (f:α->List Value) (S T:List α):rowsL f (S ++ T)=rowsL f S ++ rowsL f T:=by simp [rowsL]
theorem rowsL_at {α:Type} {f:α->List Value} {c:Nat} (hf:∀ a,(f a).length=c) (S:List α) (i j:Nat) (hi:i < S.length) (hj:j < c):(rowsL f S)[i * c+j]?=(f S[i])[j]?:=by
  induction S generalizing i with
  | nil=>simp at hi
  | cons a L ih=>
    have e:rowsL f (a :: L)=f a ++ rowsL f L:=by simp [rowsL]
    rw [e]
    cases i with
    | zero=>
      rw [List.getElem?_append_left (by rw [hf]; omega)]
      simp
    | succ i=>
      rw [List.getElem?_append_right (by rw [hf,Nat.succ_mul]; omega)]
      have:(i+1) * c+j - (f a).length=i * c+j:=by rw [hf,Nat.succ_mul]; omega
      rw [this,ih i (by simpa using hi)]
      simp
theorem rowsL_one {α:Type} {f:α->List Value} (h:∀ a,∀ u ∈ f a,u.oneCell'=true) (S:List α):∀ u ∈ rowsL f S,u.oneCell'=true:=by
  intro u hu
  obtain ⟨n,_,hn⟩:=List.mem_flatMap.1 hu
  exact h n u hn
def RowsAt {α:Type} (ty:TypeId) (c:Nat) (f:α->List Value) (w:World) (v:Value) (S:List α):Prop:=
  ∃ (A:Option Addr) (cap:Nat),v=.slice A S.length cap/\S.length<=cap/\(S=[]->A=none/\cap=0 ∨ ∃ b o,A=some ⟨b,o,none⟩)/\(0 < S.length->∃ b o,A=some ⟨b,o,none⟩/\(∃ cs fl,w.heap[b]?=some (.cells cs ty fl))/\∀ i (h:i < S.length) j u,(f S[i])[j]?=some u->w.cell? ⟨b,o+i * c+j,none⟩=some u)
theorem RowsAt.nil {α:Type} (ty:TypeId) (c:Nat) (f:α->List Value) (w:World):RowsAt ty c f w (.slice none 0 0) []:=⟨none,0,rfl,Nat.le_refl _,fun _=>Or.inl ⟨rfl,rfl⟩,fun h=>absurd h (by simp)⟩
theorem RowsAt.form {α:Type} {ty:TypeId} {c:Nat} {f:α->List Value} {w:World} {v:Value} {S:List α} (h:RowsAt ty c f w v S):∃ A cap,v=.slice A S.length cap/\S.length<=cap/\((S=[]/\A=none/\cap=0) ∨ ∃ b o,A=some ⟨b,o,none⟩):=by
  obtain ⟨A,cap,rfl,hc,h0,h1⟩:=h
  refine ⟨A,cap,rfl,hc,?_⟩
  by_cases hs:S=[]
  · exact (h0 hs).imp (fun h=>⟨hs,h⟩) id
  · obtain ⟨b,o,rfl,_⟩:=h1 (List.length_pos_iff.2 hs)
    exact Or.inr ⟨b,o,rfl⟩
theorem RowsAt.outF {α:Type} {ty:TypeId} {c:Nat} {f:α->List Value} {F:Nat->Prop} {w w':World} {v:Value} {S:List α} (h:RowsAt ty c f w v S) (ho:Out F w w') (hF:∀ k cs fl,F k->w.heap[k]? ≠ some (.cells cs ty fl)):RowsAt ty c f w' v S:=by
  obtain ⟨A,cap,rfl,hc,h0,h1⟩:=h
  refine ⟨A,cap,rfl,hc,h0,fun hp=>?_⟩
  obtain ⟨b,o,rfl,⟨cs,fl,hh⟩,hcell⟩:=h1 hp
  have hb:¬ F b:=fun hf=>hF b cs fl hf hh
  exact ⟨b,o,rfl,⟨cs,fl,ho.heap hh hb⟩,fun i hi j u hu=>ho.cell (hcell i hi j u hu) hb⟩
theorem RowsAt.below {α:Type} {ty:TypeId} {c:Nat} {f:α->List Value} {w w':World} {v:Value} {S:List α} (h:RowsAt ty c f w v S) (hb:Below w.heap.size w w'):RowsAt ty c f w' v S:=h.outF (F:=fun _=>False) (Out.of hb) fun _ _ _ hf=>hf.elim
theorem RowsAt.at {α:Type} {ty:TypeId} {c:Nat} {f:α->List Value} {w:World} {A:Option Addr} {n cap:Nat} {S:List α} (h:RowsAt ty c f w (.slice A n cap) S) (k:Nat) (hk:k < S.length):
    ∃ b o,A=some ⟨b,o,none⟩/\∀ j u,(f S[k])[j]?=some u->w.cell? ⟨b,o+k * c+j,none⟩=some u:=by
  obtain ⟨A',cap',hv,_,_,h1⟩:=h
  obtain ⟨rfl,_⟩:A=A'/\_:=by simpa using hv
  obtain ⟨b,o,rfl,_,hcell⟩:=h1 (by omega)
  exact ⟨b,o,rfl,hcell k hk⟩
theorem RowsAt.own {α:Type} {ty:TypeId} {c:Nat} {f:α->List Value} (hf:∀ a,(f a).length=c) {w:World} {B:Nat} {v:Value} {S:List α} (h:w.ownsRow B ty c v S.length (rowsL f S)):RowsAt ty c f w v S:=by
  rcases h.2 with ⟨rfl,h0⟩ | ⟨g,cap,cur,rfl,hB,hh,hn,_⟩
  · obtain rfl:S=[]:=List.eq_nil_of_length_eq_zero h0
    exact RowsAt.nil ty c f w
  · refine ⟨_,cap,rfl,hn,fun _=>Or.inr ⟨_,_,rfl⟩,fun h0=>⟨g,0,rfl,⟨_,_,hh⟩,fun i hi j u hu=>?_⟩⟩
    have hj:j < c:=by rw [← hf S[i]]; exact (List.getElem?_eq_some_iff.1 hu).1
    have:=h.cells (g:=g) rfl (i * c+j) u (by rw [rowsL_at hf S i j hi hj]; exact hu)
    rw [Addr.add_mid] at this; rw [Nat.zero_add]; simpa using this
theorem RowsAt.take {α:Type} {ty:TypeId} {c:Nat} {f:α->List Value} {w:World} {A:Option Addr} {n cap:Nat} {S:List α} (h:RowsAt ty c f w (.slice A n cap) S) (k:Nat) (hk:k<=S.length):RowsAt ty c f w (.slice A k cap) (S.take k):=by
  obtain ⟨A',cap',hv,hcap,h0,h1⟩:=h
  obtain ⟨rfl,rfl,rfl⟩:A=A'/\n=S.length/\cap=cap':=by simpa using hv
  have hl:(S.take k).length=k:=by simp; omega
  refine ⟨A,cap,by rw [hl],by omega,fun _=>?_,fun hp=>?_⟩
  · by_cases hs:S=[]
    · exact h0 hs
    · obtain ⟨b,o,rfl,_⟩:=h1 (List.length_pos_iff.2 hs)
      exact Or.inr ⟨b,o,rfl⟩
  · obtain ⟨b,o,rfl,hlt,hcell⟩:=h1 (by omega)
    refine ⟨b,o,rfl,hlt,fun i hi j u hu=>?_⟩
    rw [hl] at hi
    exact hcell i (by omega) j u (by simpa using hu)
theorem RowsAt.drop {α:Type} {ty:TypeId} {c:Nat} {f:α->List Value} {w:World} {b o n cap:Nat} {S:List α} (h:RowsAt ty c f w (.slice (some ⟨b,o,none⟩) n cap) S) (k:Nat) (hk:k<=S.length) (b' o':Nat) (hbo:k < S.length->b'=b/\o'=o+k * c):RowsAt ty c f w (.slice (some ⟨b',o',none⟩) (n - k) (cap - k)) (S.drop k):=by
  obtain ⟨A',cap',hv,hcap,h0,h1⟩:=h
  obtain ⟨rfl,rfl,rfl⟩:some ⟨b,o,none⟩=A'/\n=S.length/\cap=cap':=by simpa using hv
  have hl:(S.drop k).length=S.length - k:=by simp
  refine ⟨_,_,by rw [hl],by omega,fun _=>Or.inr ⟨_,_,rfl⟩,fun hp=>?_⟩
  rw [hl] at hp
  have hp1:k < S.length:=by omega
  have hp2:0 < S.length:=by omega
  obtain ⟨rfl,rfl⟩:=hbo hp1
  obtain ⟨b2,o2,he,hlt,hcell⟩:=h1 hp2
  cases he
  refine ⟨_,_,rfl,hlt,fun i hi j u hu=>?_⟩
  have hki:k+i < S.length:=by rw [hl] at hi; clear hcell hlt h1 h0; omega
  have:=hcell (k+i) hki j u (by simpa using hu)
  rw [Nat.add_mul,← Nat.add_assoc] at this
  exact this
def RowsIn {α:Type} (c:Nat) (f:α->List Value) (w:World) (v:Value) (S:List α):Prop:=
  ∃ (A:Option Addr) (cap:Nat),v=.slice A S.length cap/\S.length<=cap/\(S=[]->A=none/\cap=0 ∨ ∃ b o,A=some ⟨b,o,none⟩)/\(0 < S.length->∃ b o,A=some ⟨b,o,none⟩/\b < w.heap.size/\∀ i (h:i < S.length) j u,(f S[i])[j]?=some u->w.cell? ⟨b,o+i * c+j,none⟩=some u)
theorem RowsAt.inn {α:Type} {ty:TypeId} {c:Nat} {f:α->List Value} {w:World} {v:Value} {S:List α} (h:RowsAt ty c f w v S):RowsIn c f w v S:=by
  obtain ⟨A,cap,rfl,hc,h0,h1⟩:=h
  refine ⟨A,cap,rfl,hc,h0,fun hp=>?_⟩
  obtain ⟨b,o,rfl,⟨cs,fl,hh⟩,hcell⟩:=h1 hp
  exact ⟨b,o,rfl,lt_of_heap hh,hcell⟩
theorem RowsIn.form {α:Type} {c:Nat} {f:α->List Value} {w:World} {v:Value} {S:List α} (h:RowsIn c f w v S):∃ A cap,v=.slice A S.length cap/\S.length<=cap/\((S=[]/\A=none/\cap=0) ∨ ∃ b o,A=some ⟨b,o,none⟩):=by
  obtain ⟨A,cap,rfl,hc,h0,h1⟩:=h
  refine ⟨A,cap,rfl,hc,?_⟩
  by_cases hs:S=[]
  · exact (h0 hs).imp (fun h=>⟨hs,h⟩) id
  · obtain ⟨b,o,rfl,_⟩:=h1 (List.length_pos_iff.2 hs)
    exact Or.inr ⟨b,o,rfl⟩
theorem RowsIn.below {α:Type} {c:Nat} {f:α->List Value} {w w':World} {v:Value} {S:List α} (h:RowsIn c f w v S) (hb:Below w.heap.size w w'):RowsIn c f w' v S:=by
  obtain ⟨A,cap,rfl,hc,h0,h1⟩:=h
  refine ⟨A,cap,rfl,hc,h0,fun hp=>?_⟩
  obtain ⟨b,o,rfl,hlt,hcell⟩:=h1 hp
  exact ⟨b,o,rfl,Nat.lt_of_lt_of_le hlt hb.size,fun i hi j u hu=>(hb.cell hlt).trans (hcell i hi j u hu)⟩
theorem RowsIn.at {α:Type} {c:Nat} {f:α->List Value} {w:World} {A:Option Addr} {n cap:Nat} {S:List α} (h:RowsIn c f w (.slice A n cap) S) (k:Nat) (hk:k < S.length):
    ∃ b o,A=some ⟨b,o,none⟩/\∀ j u,(f S[k])[j]?=some u->w.cell? ⟨b,o+k * c+j,none⟩=some u:=by
  obtain ⟨A',cap',hv,_,_,h1⟩:=h
  obtain ⟨rfl,_⟩:A=A'/\_:=by simpa using hv
  obtain ⟨b,o,rfl,_,hcell⟩:=h1 (by omega)
  exact ⟨b,o,rfl,hcell k hk⟩
theorem run_append_nothing_rows {c:Nat} (sty ty:TypeId) (hu:Tryz.prog.underlying sty=some (.slice ty)) (hsz:∀ w,(sizeOf ty).run Tryz.prog w=.ok c w) (w:World) (v:Value) (n k B:Nat) (xs:List Value) (h:w.ownsRow B ty c v n xs) (tt:TypeId):(Builtin.append_ #[sty,sty] tt #[v,.slice none 0 k]).run Tryz.prog w=.ok v w:=by
  rcases h.2 with ⟨rfl,rfl⟩ | ⟨g,cap,cur,rfl,hB,hh,hn,_⟩
  · simp [Builtin.append_,run_underlying hu,hsz,Builtin.lenOf,Builtin.firstCells,Result.andThen]
  · simp [Builtin.append_,run_underlying hu,hsz,Builtin.lenOf,Builtin.firstCells,Result.andThen,hn,storeCells]
theorem append_rowsIn {α:Type} {f:α->List Value} {c:Nat} {w:World} {v s:Value} {S:List α} {B n:Nat} {xs:List Value} (sty ty:TypeId) (i0:TypeInfo) (z:Value) (by_:Nat)
    (hu:Tryz.prog.underlying sty=some (.slice ty)) (hsz:∀ w,(sizeOf ty).run Tryz.prog w=.ok c w)
    (hi:Tryz.prog.info? ty=some i0) (hz0:i0.zero=some z) (hz1:i0.size=c) (hz2:i0.bytes=by_) (hz:z.cells.size=c) (hc0:0 < c) (hby:by_<=1000)
    (hf:∀ a,(f a).length=c) (h1:∀ a,∀ u ∈ f a,u.oneCell'=true)
    (hv:RowsIn c f w v S) (hs:w.ownsRow B ty c s n xs) (hl:n+S.length<=1000000) (hB:B<=w.heap.size):
    ∃ v' w',(Builtin.append_ #[sty,sty] sty #[s,v]).run Tryz.prog w=.ok v' w'/\w'.ownsRow B ty c v' (n+S.length) (xs ++ rowsL f S)/\w.grownBy w' s.ownBlock/\(v'.ownBlock=s.ownBlock ∨ v'.ownBlock=some w.heap.size):=by
  obtain ⟨A,cap,rfl,-,-,hc⟩:=hv
  cases A with
  | none=>
    have h0:S.length=0:=by
      by_cases h:S.length=0
      · exact h
      · obtain ⟨b,o,ha,_⟩:=hc (by omega)
        cases ha
    obtain rfl:S=[]:=List.eq_nil_of_length_eq_zero h0
    exact ⟨s,w,run_append_nothing_rows sty ty hu hsz w s n cap B xs hs _,by simpa [rowsL] using hs,⟨rfl,rfl,rfl,Nat.le_refl _,fun _ _ _=>rfl⟩,Or.inl rfl⟩
  | some a=>
    have hbytes:(n+S.length) * by_<=140737488355328:=Nat.le_trans (Nat.mul_le_mul hl hby) (by omega)
    obtain ⟨v',w',h1,h2,h3,_,h5⟩:=run_append_own_at (P:=Tryz.prog) w B sty sty ty i0 z c by_ hu hi hz0 hz1 hz2 hz hc0 s n xs hs a S.length cap (rowsL f S) (rowsL_length hf S)
      (fun j u hu=>by
        have hj:j < S.length * c:=by
          have:=(List.getElem?_eq_some_iff.1 hu).1
          rwa [rowsL_length hf] at this
        have hS:0 < S.length:=Nat.pos_of_ne_zero fun e=>by rw [e,Nat.zero_mul] at hj; omega
        obtain ⟨b,o,hb,_,hcell⟩:=hc hS
        cases hb
        have hi':j / c < S.length:=(Nat.div_lt_iff_lt_mul hc0).2 hj
        have hr:j % c < c:=Nat.mod_lt _ hc0
        have hjj:j / c * c+j % c=j:=by rw [Nat.mul_comm]; exact Nat.div_add_mod j c
        have e:=rowsL_at hf S (j / c) (j % c) hi' hr
        rw [hjj,hu] at e
        have:=hcell (j / c) hi' (j % c) u e.symm
        rw [Addr.add_mid]
        rw [Nat.add_assoc,hjj] at this
        exact this) (rowsL_one h1 S) (by unfold maxLen; omega) hbytes hB
    exact ⟨v',w',h1,h2,h3,h5⟩
theorem append_rows {α:Type} {f:α->List Value} {c:Nat} {w:World} {v s:Value} {S:List α} {B n:Nat} {xs:List Value} (sty ty:TypeId) (i0:TypeInfo) (z:Value) (by_:Nat)
    (hu:Tryz.prog.underlying sty=some (.slice ty)) (hsz:∀ w,(sizeOf ty).run Tryz.prog w=.ok c w)
    (hi:Tryz.prog.info? ty=some i0) (hz0:i0.zero=some z) (hz1:i0.size=c) (hz2:i0.bytes=by_) (hz:z.cells.size=c) (hc0:0 < c) (hby:by_<=1000)
    (hf:∀ a,(f a).length=c) (h1:∀ a,∀ u ∈ f a,u.oneCell'=true)
    (hv:RowsAt ty c f w v S) (hs:w.ownsRow B ty c s n xs) (hl:n+S.length<=1000000) (hB:B<=w.heap.size):
    ∃ v' w',(Builtin.append_ #[sty,sty] sty #[s,v]).run Tryz.prog w=.ok v' w'/\w'.ownsRow B ty c v' (n+S.length) (xs ++ rowsL f S)/\w.grownBy w' s.ownBlock/\(v'.ownBlock=s.ownBlock ∨ v'.ownBlock=some w.heap.size):=
  append_rowsIn sty ty i0 z by_ hu hsz hi hz0 hz1 hz2 hz hc0 hby hf h1 hv.inn hs hl hB
end
namespace Pw
abbrev S:=List UInt8
structure M where
  name:S
  power:Int
instance:Inhabited M:=⟨⟨[],0⟩⟩
theorem M.ext' {a b:M} (h:a.name=b.name) (k:a.power=b.power):a=b:=by cases a; cases b; simp_all
instance:DecidableEq M:=fun a b=>
  if h:a.name=b.name/\a.power=b.power then isTrue (M.ext' h.1 h.2) else isFalse (fun e=>h (by subst e; exact ⟨rfl,rfl⟩))
def okM (p:S) (m:M):Bool:=decide (p < m.name) && decide (m.name.length<=6) && decide (1<=m.power) && decide (m.power<=1000)
def okFrom:S->List M->Bool
  | _,[]=>true
  | p,m :: t=>okM p m && okFrom m.name t
def okL (L:List M):Bool:=decide (1<=L.length) && decide (L.length<=7) && okFrom [] L
def sumP (L:List M):Int:=L.foldr (fun m n=>m.power+n) 0
def pick (L:List M) (names:List S):List M:=L.filter fun m=>decide (m.name ∈ names)
def ofL (L:List M) (names:List S):Nat:=if okL L then (sumP (pick L names)).toNat else 0
theorem snocInd {α:Type} {p:List α->Prop} (h0:p []) (h1:∀ l d,p l->p (l ++ [d])) (l:List α):p l:=by
  have h:∀ r:List α,p r.reverse:=by
    intro r
    induction r with
    | nil=>exact h0
    | cons d r ih=>rw [List.reverse_cons]; exact h1 _ _ ih
  have:=h l.reverse
  rwa [List.reverse_reverse] at this
end Pw
section
open Go.RowKit Go.ChangeShapes Go.WideShapes
open Go.Proofs.YtaficmboooaknaaGreatDoor.Pw (M)
theorem Tryz.infoStr:(Tryz.prog.info? 9).map (fun i=>(i.zero,i.size,i.bytes))=some (some (.string ⟨#[]⟩),1,16):=by kernel_rfl
end
section
open Go.RowKit
open Go.Proofs.YtaficmboooaknaaGreatDoor.Pw (M)
theorem run_append_nothing_s (w:World) (v:Value) (n c B:Nat) (xs:List Value) (h:w.ownsRow B 9 1 v n xs) (ty:TypeId):(Builtin.append_ #[29,29] ty #[v,.slice none 0 c]).run Tryz.prog w=.ok v w:=by
  rcases h.2 with ⟨rfl,rfl⟩ | ⟨g,cap,cur,rfl,hB,hh,hn,_⟩
  · simp [Builtin.append_,run_underlying Tryz.underlying29,Tryz.sizeOf9,Builtin.lenOf,Builtin.firstCells,Result.andThen]
  · simp [Builtin.append_,run_underlying Tryz.underlying29,Tryz.sizeOf9,Builtin.lenOf,Builtin.firstCells,Result.andThen,hn,storeCells]
theorem grown_none (w:World) (r:Option Nat):w.grownBy w r:=⟨rfl,rfl,rfl,Nat.le_refl _,fun _ _ _=>rfl⟩
theorem step_append_run {P:Program} {ops:Array Oper} {o:Oper} {a:Act} {w w':World} {K:Act->World->Prop} {Q:Exit->Act->World->Prop} {E:Prop} (hg:o.guard=none) (s x:Operand) (t:TypeId) (hop:o.op=Op.call { callee:=Callee.builtin Builtin.append,args:=#[s,x],argTypes:=#[t,t] })
    (sv xv r:Value) (hs:a.eval s=sv) (hx:a.eval x=xv) (hrun:(Builtin.append_ #[t,t] o.type #[sv,xv]).run P w=.ok r w') (hK:K (a.put o.dst r) w'):if Region.wanted o (yielded ops a.tmps)=true then Oper.wp P o a w K Q else E:=by
  have hw:Region.wanted o (yielded ops a.tmps)=true:=by simp [Region.wanted,hg]
  rw [if_pos hw]
  unfold Oper.wp
  simp [execOp,hop,resolve,invoke,builtin,hs,hx,hrun,Result.andThen]
  exact hK
theorem append_strs {w:World} {v s:Value} {L:List (List UInt8)} {B n:Nat} {xs:List Value} (hv:Strs w v L) (hs:w.ownsRow B 9 1 s n xs) (hl:n+L.length<=1000000) (hB:B<=w.heap.size):
    ∃ v' w',(Builtin.append_ #[29,29] 29 #[s,v]).run Tryz.prog w=.ok v' w'/\w'.ownsRow B 9 1 v' (n+L.length) (xs ++ scells L)/\w.grownBy w' s.ownBlock/\(v'.ownBlock=s.ownBlock ∨ v'.ownBlock=some w.heap.size):=by
  obtain ⟨i0,hi,hz0,hz1,hz2⟩:=info_parts Tryz.infoStr
  obtain ⟨A,cap,rfl,hc⟩:=hv
  cases A with
  | none=>
    have h0:L.length=0:=by
      by_cases h:L.length=0
      · exact h
      · obtain ⟨a,ha,_⟩:=hc 0 (by omega)
        cases ha
    obtain rfl:L=[]:=List.eq_nil_of_length_eq_zero h0
    exact ⟨s,w,run_append_nothing_s w s n cap B xs hs _,by simpa [scells] using hs,grown_none _ _,Or.inl rfl⟩
  | some a=>
    obtain ⟨v',w',h1,h2,h3,_,h5⟩:=run_append_own_at (P:=Tryz.prog) w B 29 29 9 i0 (.string ⟨#[]⟩) 1 16 Tryz.underlying29 hi hz0 hz1 hz2 rfl (by decide) s n xs hs a L.length cap (scells L) (by simp [scells])
      (fun j u hu=>by
        have hj:j < L.length:=by
          have:=(List.getElem?_eq_some_iff.1 hu).1
          simpa [scells] using this
        obtain ⟨b,hb,hcell⟩:=hc j hj
        cases hb
        simp only [scells,List.getElem?_map,List.getElem?_eq_getElem hj] at hu
        simp at hu
        rw [← hu]
        exact hcell) (by simp [scells,Value.oneCell']) (by unfold maxLen; omega) (by omega) hB
    exact ⟨v',w',h1,h2,h3,h5⟩
end
section
open Go.RowKit
open Go.Proofs.YtaficmboooaknaaGreatDoor.Sto (St)
end
section
open Go.RowKit
open Go.Proofs.YtaficmboooaknaaGreatDoor.Sto (St)
def Sto.sumOf (t:List UInt8):List UInt8:=Dig.sum 1 t
end
section
open Go.RowKit
open Go.Proofs.YtaficmboooaknaaGreatDoor.Sto (St)
end
section
open Sto (T St)
open Tri (Tr Ok hb)
open Go.Proofs.YtaficmboooaknaaGreatDoor.Nd (N)
theorem none_at {L:List T} (h:(L == Nd.none16)=true) (i:Nat) (hi:i < L.length):L[i]=[]:=by
  have e:=beq_iff_eq.1 h
  subst e
  exact List.getElem_replicate ..
end
section
open Go.RowKit
open Sto (T)
open Tri (Tr Ok upd ix hb lay splitT)
theorem pcl_val (k:Nat) (p x x':T) (K:Ks) (s:T):(pcl k p x K s).toArray.setIfInBounds 2 (.string ⟨x'.toArray⟩)=(pcl k p x' K s).toArray:=by
  rw [List.setIfInBounds_toArray]; rfl
theorem RowP.setVal {w:World} {g k:Nat} {p x s:T} {K:Ks} (h:RowP w g k p x K s) (x':T):RowP (w.setCell ⟨g,2,none⟩ (.string ⟨x'.toArray⟩)) g k p x' K s:=by
  have:=heap_setCell_same _ _ 2 _ _ (.string ⟨x'.toArray⟩) h
  rw [pcl_val] at this
  exact this
def updK (K:Ks) (i:Fin 16) (v:Value):Ks:=fun j=>if j=i then v else K j
theorem ofFn_set (K:Ks) (i:Fin 16) (v:Value):(List.ofFn K).set i.val v=List.ofFn (updK K i v):=by
  refine List.ext_getElem (by simp) fun n h1 h2=>?_
  rw [List.getElem_set,List.getElem_ofFn,List.getElem_ofFn]
  unfold updK
  by_cases e:i.val=n
  · rw [if_pos e,if_pos (Fin.ext e.symm)]
  · rw [if_neg e,if_neg (fun h=>e (by rw [← h]))]
theorem pcl_kid (k:Nat) (p x:T) (K:Ks) (s:T) (i:Fin 16) (v:Value):(pcl k p x K s).toArray.setIfInBounds (3+i.val) v=(pcl k p x (updK K i v) s).toArray:=by
  have hi:=i.isLt
  rw [List.setIfInBounds_toArray]
  congr 1
  unfold pcl
  rw [Nat.add_comm 3 i.val]
  simp only [List.set_cons_succ]
  rw [List.set_append_left _ _ (by simp),ofFn_set]
theorem RowP.setKid {w:World} {g k:Nat} {p x s:T} {K:Ks} (h:RowP w g k p x K s) (i:Fin 16) (v:Value):RowP (w.setCell ⟨g,3+i.val,none⟩ v) g k p x (updK K i v) s:=by
  have:=heap_setCell_same _ _ (3+i.val) _ _ v h
  rw [pcl_kid] at this
  exact this
theorem ix_val {a:UInt8} (h:a.toNat<=15):(ix a).val=a.toNat:=by simp only [ix]; omega
theorem byte_drop {p r:T} {n:Nat} {a:UInt8} (h:p.drop n=a :: r):∀ hh,(⟨p.toArray⟩:ByteArray)[n]'hh=a:=by
  intro hh
  have hl:n < p.length:=by
    have:=congrArg List.length h
    simp at this; omega
  show p.toArray[n]'_=a
  rw [List.getElem_toArray]
  have:=List.drop_eq_getElem_cons hl
  rw [h] at this
  exact (List.cons.inj this).1.symm
theorem tail_drop {p r:T} {n:Nat} {a:UInt8} (h:p.drop n=a :: r):(⟨p.toArray⟩:ByteArray).extract (n+1) p.length=⟨r.toArray⟩:=by
  rw [ext_drop]
  have:p.drop (n+1)=r:=by
    rw [← List.drop_drop,h]; rfl
  rw [this]
theorem split_any {t:Tr} {g:Nat} (n:Nat) (w:World) (F:Fm) (hB:F.fresh w) (h:PAt w F false t (ptr g)) (hk:t.kind=1 ∨ t.kind=2) (hf:t.firm) (hfit:t.fits) (hpl:t.pth.length<=1000) (hn:n<=t.pth.length) (hne:t.kind=2->n < t.pth.length):
    Calls Tryz.prog 139 #[ptr g,.int .i64 n] w (MadeT w F (splitT n t)):=by
  unfold MadeT
  have hnn:¬ t.isNil:=fun e=>by rw [← Tri.kind_nil] at e; omega
  obtain ⟨g',s',K,e,-,-,hr,hkk⟩:=h.row hnn
  obtain rfl:=ptr_inj e
  have hb0:Below w.heap.size w (w.alloc (.cells (pcl 3 [] [] noK []).toArray 87)):=(Below.refl _ w).alloc (Nat.le_refl _) _
  have r1:RowP (w.alloc (.cells (pcl 3 [] [] noK []).toArray 87)) w.heap.size 3 [] [] noK []:=RowP.new rfl
  have hr1:=hr.below hb0
  have n0:=hr1.kind
  have n1:=hr1.path
  have n2:=hr1.val
  have m2:=r1.val
  have f2:=r1.free 2
  have HP:=qh h
  have HKK:=qh hkk
  have HR:=qh hr
  have HR1:=qh r1
  have HB0:=qh hb0
  obtain ⟨C,hC⟩:∃ C,(pcl 3 [] [] noK []).toArray=C:=⟨_,rfl⟩
  have HBL:Hid (Tryz.prog.built 87 [(0,.int .i64 3)]=some C):=qh (by rw [← hC]; kernel_rfl)
  rw [hC] at n0 n1 n2 m2 f2 HB0 HR1
  obtain ⟨p,hp⟩:∃ p,t.pth=p:=⟨_,rfl⟩
  obtain ⟨x,hx⟩:∃ x,t.vl=x:=⟨_,rfl⟩
  rw [hp] at n1 hpl hn hne
  rw [hx] at n2
  have HPP:=qh hp
  have HX:=qh hx
  by_cases hlt:n < p.length
  · obtain ⟨a,r,hd⟩:∃ a r,p.drop n=a :: r:=⟨_,_,List.drop_eq_getElem_cons hlt⟩
    have hfp:Nib.fitL p=true:=by
      rcases hk with h1 | h1
      · cases t with
        | leaf q y=>obtain rfl:q=p:=hp; exact hfit
        | _=>cases h1
      · cases t with
        | ext q y=>obtain rfl:q=p:=hp; exact hfit.1
        | _=>cases h1
    have ha:=(Tri.fit_cons.1 (hd ▸ Tri.fit_drop n hfp)).1
    have hbyte:=byte_drop hd
    have htail:=tail_drop hd
    have e2:((n:Int) == (p.length:Int))=false:=by rw [beq_eq_false_iff_ne]; omega
    have z1:(0:Int)<=(n:Int):=by omega
    have z2:(n:Int) < (p.length:Int):=by omega
    have z3:(0:Int)<=(n:Int)+1:=by omega
    have z4:(n:Int)+1<=(p.length:Int):=by omega
    have z5:((n:Int)+1).toNat=n+1:=by omega
    have z8:IntKind.i64.wrap ((n:Int)+1)=(n:Int)+1:=IntWalk.i64_in _ (by omega)
    have z6:(0:Int)<=(a.toNat:Int):=by omega
    have z7:(a.toNat:Int) < 16:=by omega
    have HIX:=qh (ix_val ha)
    have hrl:r.length<=1000:=by have:=congrArg List.length hd; simp at this; omega
    rcases hk with h1 | h1
    · rw [h1] at n0
      have HS:Hid (splitT n t=.br [] (upd Tri.bare (ix a) (.leaf r x))):=qh (by
        cases t with
        | leaf q y=>
          obtain rfl:q=p:=hp
          obtain rfl:y=x:=hx
          exact Tri.split_leaf1 hd
        | _=>cases h1)
      have HLF:Hid (∀ w',Below w.heap.size w w'->w.heap.size < w'.heap.size->Calls Tryz.prog 136 #[.string ⟨r.toArray⟩,.string ⟨x.toArray⟩] w' fun e w''=>∃ v,e=.returned v/\PAt w'' (F.off w.heap.size) false (.leaf r x) v/\Below w'.heap.size w' w''):=qh (fun w' hb hs=>(leaf_any r x w' _ ((hB.size hb.size).off hs)))
      unfold ptr
      clear h hr hkk hf hfit hp hx hne hn hlt hr1 r1 hb0 h1 hC hpl hfp ha hd m2 f2
      go_enter Tryz.func139,Tryz.ntmps139
      go_wp2_with (refine wpList_build_some (by rfl) _ _ (by rfl) [(0,.int .i64 3)] (by first | rfl | (simp [Act.eval]; done) | kernel_rfl) C HBL.out ?_)
      obtain ⟨q,hq⟩:∃ q,w.heap.size=q:=⟨_,rfl⟩
      have HQ:=qh hq
      obtain ⟨w0,hw0⟩:∃ w0,w.alloc (.cells C 87)=w0:=⟨_,rfl⟩
      rw [hw0] at HR1 HB0 n0 n1 n2 ⊢
      rw [hq] at HR1 ⊢
      have HSZ:Hid (w.heap.size < w0.heap.size):=qh (by rw [← hw0]; simp)
      have HN1:Hid (∀ w',Below w0.heap.size w0 w'->w'.cell? ⟨g,1,none⟩=some (.string ⟨p.toArray⟩)/\w'.cell? ⟨g,2,none⟩=some (.string ⟨x.toArray⟩)/\w'.cell? ⟨q,3+a.toNat,none⟩=some (.pointer none)/\w'.frozen? ⟨q,3+a.toNat,none⟩=false):=qh (fun w' hb=>by
        have k1:=(HR.out.below HB0.out).below hb
        have k2:=HR1.out.below hb
        refine ⟨by rw [k1.path,HPP.out],by rw [k1.val,HX.out],?_,k2.free _⟩
        have:=k2.kid (ix a)
        rw [HIX.out] at this
        exact this)
      have HGQ:Hid (g < q):=qh (by rw [← hq]; exact lt_of_heap HR.out)
      have HK1:Hid (∀ w' v,Below w0.heap.size w0 w'->(w'.setCell ⟨q,3+a.toNat,none⟩ v).cell? ⟨g,1,none⟩=some (.string ⟨p.toArray⟩)/\(w'.setCell ⟨q,3+a.toNat,none⟩ v).cell? ⟨g,2,none⟩=some (.string ⟨x.toArray⟩)):=qh (fun w' v hb=>⟨keep_cell (HN1.out w' hb).1 (Nat.ne_of_lt HGQ.out),keep_cell (HN1.out w' hb).2.1 (Nat.ne_of_lt HGQ.out)⟩)
      have BD:Below w0.heap.size w0 w0.drew:=(Below.refl _ _).drew
      have HLF2:Hid (∀ w',Below w0.heap.size w0 w'->Calls Tryz.prog 136 #[.string ⟨r.toArray⟩,.string ⟨x.toArray⟩] w' fun e w''=>∃ g6,e=.returned (.pointer (some ⟨g6,0,none⟩))/\PAt w'' (F.off q) false (.leaf r x) (ptr g6)/\Below w0.heap.size w0 w''):=qh (fun w' hb=>(HLF.out w' (HB0.out.trans (hb.mono (Nat.le_of_lt HSZ.out))) (Nat.lt_of_lt_of_le HSZ.out hb.size)).mono fun e w'' ⟨v,e1,hp,hb2⟩=>by
        obtain ⟨g6,_,_,rfl,_⟩:=hp.row id
        exact ⟨g6,e1,by rw [← hq]; exact hp,hb.trans (hb2.mono hb.size)⟩)
      obtain ⟨c1,c2,c3,c4⟩:=HN1.out _ BD
      clear hq hw0 n0 n1 n2 HLF
      go_region_held3 (fun w'=>w'.cell? ⟨g,1,none⟩=some (.string ⟨p.toArray⟩)/\w'.cell? ⟨g,2,none⟩=some (.string ⟨x.toArray⟩))
        ((first | (with_reducible exact ⟨c1,c2⟩) | (with_reducible exact ⟨d1,d2⟩) | (refine HK1.out _ _ ?_; with_reducible assumption)))
        ((go_at_call 136; refine (HLF2.out _ ?_).mono ?_; (with_reducible assumption); rintro e w6 ⟨g6,rfl,hp6,hb6⟩; obtain ⟨d1,d2,d3,d4⟩:=HN1.out _ hb6))
      all_goals
        go_wp2
        go_ret
        rw [HS.out]
        have hbq:Below w.heap.size w w6:=HB0.out.trans (hb6.mono (Nat.le_of_lt HSZ.out))
        refine ⟨_,rfl,PAt.new (K:=updK noK (ix a) (ptr g6)) id (hB _ (Nat.le_of_eq HQ.out)) ?_ (fun i=>?_),hbq.setCell (p:=⟨q,_,none⟩) (Nat.le_of_eq HQ.out) _⟩
        · have:=(HR1.out.below hb6).setKid (ix a) (ptr g6)
          rw [HIX.out] at this
          exact this
        · simp only [Tri.Tr.kid,updK,Tri.upd]
          split
          · exact hp6.off _ _
          · rfl
    · rw [h1] at n0
      obtain ⟨u,hu⟩:∃ u,t.kid 0=u:=⟨_,rfl⟩
      have hub:u.isBr:=by
        rw [← hu]
        cases t with
        | ext q y=>exact hf.2.1
        | _=>cases h1
      have hun:¬ u.isNil:=by cases u <;> simp_all [Tri.Tr.isBr,Tri.Tr.isNil]
      have hup:u.pth.length<=1000:=by cases u <;> simp_all [Tri.Tr.isBr,Tri.Tr.pth]
      have HUN:=qh (Tri.lay_nn (p:=r) hun)
      have HS:Hid (splitT n t=.br [] (upd Tri.bare (ix a) (lay r u))):=qh (by
        cases t with
        | ext q y=>
          obtain rfl:q=p:=hp
          obtain rfl:y=u:=hu
          exact Tri.split_ext1 hd
        | _=>cases h1)
      obtain ⟨vk,hvk⟩:∃ v,K 0=v:=⟨_,rfl⟩
      have hku:PAt w (F.off w.heap.size) false u vk:=by
        rw [← hu,← hvk]
        exact (hkk 0).weak.new_off (Nat.le_refl _)
      have HVK:=qh hvk
      have HLF:Hid (∀ w',Below w.heap.size w w'->w.heap.size < w'.heap.size->Calls Tryz.prog 140 #[vk,.string ⟨r.toArray⟩] w' fun e w''=>∃ v,e=.returned v/\PAt w'' (F.off w.heap.size) false (lay r u) v/\Below w'.heap.size w' w''):=qh (fun w' hb hs=>(behind_any r w' _ ((hB.size hb.size).off hs) (hku.below hb) (Or.inr hun) hrl hup))
      unfold ptr
      clear hu hub hun hup hvk hku h hr hkk hf hfit hp hx hne hn hlt hr1 r1 hb0 h1 hC hpl hfp ha hd m2 f2
      go_enter Tryz.func139,Tryz.ntmps139
      go_wp2_with (refine wpList_build_some (by rfl) _ _ (by rfl) [(0,.int .i64 3)] (by first | rfl | (simp [Act.eval]; done) | kernel_rfl) C HBL.out ?_)
      obtain ⟨q,hq⟩:∃ q,w.heap.size=q:=⟨_,rfl⟩
      have HQ:=qh hq
      obtain ⟨w0,hw0⟩:∃ w0,w.alloc (.cells C 87)=w0:=⟨_,rfl⟩
      rw [hw0] at HR1 HB0 n0 n1 n2 ⊢
      rw [hq] at HR1 ⊢
      have HSZ:Hid (w.heap.size < w0.heap.size):=qh (by rw [← hw0]; simp)
      have HN1:Hid (∀ w',Below w0.heap.size w0 w'->w'.cell? ⟨g,1,none⟩=some (.string ⟨p.toArray⟩)/\w'.cell? ⟨g,3,none⟩=some vk/\w'.cell? ⟨q,3+a.toNat,none⟩=some (.pointer none)/\w'.frozen? ⟨q,3+a.toNat,none⟩=false):=qh (fun w' hb=>by
        have k1:=(HR.out.below HB0.out).below hb
        have k2:=HR1.out.below hb
        refine ⟨by rw [k1.path,HPP.out],by rw [← HVK.out]; exact k1.kid 0,?_,k2.free _⟩
        have:=k2.kid (ix a)
        rw [HIX.out] at this
        exact this)
      have HGQ:Hid (g < q):=qh (by rw [← hq]; exact lt_of_heap HR.out)
      have HK1:Hid (∀ w' v,Below w0.heap.size w0 w'->(w'.setCell ⟨q,3+a.toNat,none⟩ v).cell? ⟨g,1,none⟩=some (.string ⟨p.toArray⟩)/\(w'.setCell ⟨q,3+a.toNat,none⟩ v).cell? ⟨g,3,none⟩=some vk):=qh (fun w' v hb=>⟨keep_cell (HN1.out w' hb).1 (Nat.ne_of_lt HGQ.out),keep_cell (HN1.out w' hb).2.1 (Nat.ne_of_lt HGQ.out)⟩)
      have BD:Below w0.heap.size w0 w0.drew:=(Below.refl _ _).drew
      have HLF2:Hid (∀ w',Below w0.heap.size w0 w'->Calls Tryz.prog 140 #[vk,.string ⟨r.toArray⟩] w' fun e w''=>∃ g6,e=.returned (.pointer (some ⟨g6,0,none⟩))/\PAt w'' (F.off q) false (lay r u) (ptr g6)/\Below w0.heap.size w0 w''):=qh (fun w' hb=>(HLF.out w' (HB0.out.trans (hb.mono (Nat.le_of_lt HSZ.out))) (Nat.lt_of_lt_of_le HSZ.out hb.size)).mono fun e w'' ⟨v,e1,hp,hb2⟩=>by
        obtain ⟨g6,_,_,rfl,_⟩:=hp.row HUN.out
        exact ⟨g6,e1,by rw [← hq]; exact hp,hb.trans (hb2.mono hb.size)⟩)
      obtain ⟨c1,c2,c3,c4⟩:=HN1.out _ BD
      clear hq hw0 n0 n1 n2 HLF
      go_region_held3 (fun w'=>w'.cell? ⟨g,1,none⟩=some (.string ⟨p.toArray⟩)/\w'.cell? ⟨g,3,none⟩=some vk)
        ((first | (with_reducible exact ⟨c1,c2⟩) | (with_reducible exact ⟨d1,d2⟩) | (refine HK1.out _ _ ?_; with_reducible assumption)))
        ((go_at_call 140; refine (HLF2.out _ ?_).mono ?_; (with_reducible assumption); rintro e w6 ⟨g6,rfl,hp6,hb6⟩; obtain ⟨d1,d2,d3,d4⟩:=HN1.out _ hb6))
      all_goals
        go_wp2
        go_ret
        rw [HS.out]
        have hbq:Below w.heap.size w w6:=HB0.out.trans (hb6.mono (Nat.le_of_lt HSZ.out))
        refine ⟨_,rfl,PAt.new (K:=updK noK (ix a) (ptr g6)) id (hB _ (Nat.le_of_eq HQ.out)) ?_ (fun i=>?_),hbq.setCell (p:=⟨q,_,none⟩) (Nat.le_of_eq HQ.out) _⟩
        · have:=(HR1.out.below hb6).setKid (ix a) (ptr g6)
          rw [HIX.out] at this
          exact this
        · simp only [Tri.Tr.kid,updK,Tri.upd]
          split
          · exact hp6.off _ _
          · rfl
  · obtain rfl:n=p.length:=by omega
    have h1:t.kind=1:=by rcases hk with h | h; exact h; exact absurd (hne h) hlt
    have e2:((p.length:Int) == (p.length:Int))=true:=beq_self_eq_true _
    have HS:Hid (splitT p.length t=.br x Tri.bare):=qh (by
      cases t with
      | leaf q y=>
        obtain rfl:q=p:=hp
        obtain rfl:y=x:=hx
        exact Tri.split_leaf0 (by simp)
      | _=>cases h1)
    have HSV:Hid (C.setIfInBounds 2 (.string ⟨x.toArray⟩)=(pcl 3 [] x noK []).toArray):=qh (by rw [← hC]; exact pcl_val ..)
    unfold ptr
    clear h hr hkk hk hf hfit hp hx hne hn hlt hr1 r1 hb0 h1 n0 hC
    go_enter Tryz.func139,Tryz.ntmps139
    go_wp2_with (refine wpList_build_some (by rfl) _ _ (by rfl) [(0,.int .i64 3)] (by first | rfl | (simp [Act.eval]; done) | kernel_rfl) C HBL.out ?_)
    go_ret
    rw [HS.out,HSV.out]
    exact ⟨_,rfl,PAt.new (K:=noK) id (hB _ (Nat.le_refl _)) (RowP.new rfl) (fun i=>rfl),(Below.refl _ w).alloc (Nat.le_refl _) _⟩
end
section
open Go.RowKit
open Sto (T)
open Tri (Tr Ok upd ix hb lay splitT Trim rank)
def kcl (K:Ks):List Value:=List.ofFn K
theorem kcl_length (K:Ks):(kcl K).length=16:=by simp [kcl]
theorem RowP.range {w:World} {g k:Nat} {p x s:T} {K:Ks} (h:RowP w g k p x K s):w.rangeAt g 3 (kcl K):=by
  intro j v hv
  have hj:j < 16:=by
    rcases Nat.lt_or_ge j 16 with h2 | h2
    · exact h2
    · rw [List.getElem?_eq_none (by rw [kcl_length]; exact h2)] at hv; cases hv
  have:=h.kid ⟨j,hj⟩
  rw [this]
  unfold kcl at hv
  rw [List.getElem?_ofFn,dif_pos hj] at hv
  exact hv
theorem kcl_info (K:Ks):(Tryz.prog.info? 85).map (·.size)=some (kcl K).length:=by rw [kcl_length]; kernel_rfl
theorem index_kids (K:Ks) (i:Fin 16) (w:World):(Instr.index 85 (.agg (kcl K).toArray) (.int .i64 i.val)).run Tryz.prog w=.ok (K i) w:=by
  have hi:=i.isLt
  have hu:=Tryz.underlying85
  have hk0:(0:Int)<=(i.val:Int):=by omega
  have hk8:(i.val:Int) < 16:=by omega
  have hat:(kcl K)[i.val]?=some (K i):=by
    unfold kcl
    rw [List.getElem?_ofFn,dif_pos hi]
  have hs:=Tryz.sizeOf82
  have ha:=Tryz.isAgg82
  unfold Instr.index
  go_simp
theorem PAt.ptr {w:World} {F:Fm} {s:Bool} {t:Tr} {v:Value} (h:PAt w F s t v) (hn:¬ t.isNil):∃ g,v=.pointer (some ⟨g,0,none⟩):=by
  obtain ⟨g,_,_,e,_⟩:=h.row hn; exact ⟨g,e⟩
end
section
open Go.RowKit
open Sto (T)
open Tri (Tr Ok upd ix hb lay splitT Trim rank)
open Go.Proofs.YtaficmboooaknaaGreatDoor.Nd (N)
def st19 (a v:Value):Sem Unit:=Instr.storeAt 110 a v
theorem storeAt19 (a v:Value):Instr.storeAt 110 a v=st19 a v:=rfl
attribute [local go_sem ↓] storeAt19
def zero19:Array Value:=#[.int .i64 0,.string ⟨#[]⟩,.string ⟨#[]⟩,.string ⟨#[]⟩,.string ⟨#[]⟩,.string ⟨#[]⟩,.string ⟨#[]⟩,.string ⟨#[]⟩,.string ⟨#[]⟩,.string ⟨#[]⟩,.string ⟨#[]⟩,.string ⟨#[]⟩,.string ⟨#[]⟩,.string ⟨#[]⟩,.string ⟨#[]⟩,.string ⟨#[]⟩,.string ⟨#[]⟩,.string ⟨#[]⟩,.string ⟨#[]⟩]
def lit19 (kd:Nat) (p x:T):Array Value:=#[.int .i64 kd,.string ⟨p.toArray⟩,.string ⟨x.toArray⟩,.string ⟨#[]⟩,.string ⟨#[]⟩,.string ⟨#[]⟩,.string ⟨#[]⟩,.string ⟨#[]⟩,.string ⟨#[]⟩,.string ⟨#[]⟩,.string ⟨#[]⟩,.string ⟨#[]⟩,.string ⟨#[]⟩,.string ⟨#[]⟩,.string ⟨#[]⟩,.string ⟨#[]⟩,.string ⟨#[]⟩,.string ⟨#[]⟩,.string ⟨#[]⟩]
theorem run_st19 {w:World} {C old:Array Value} (hi:(Tryz.prog.info? 110).map (·.size)=some C.size) (ho:old.size=C.size) (h1:C.all (·.oneCell')=true):
    (st19 (.pointer (some ⟨w.heap.size,0,none⟩)) (.agg C)).run Tryz.prog (w.alloc (.cells old 110))=.ok () (w.alloc (.cells C 110)):=by
  unfold st19
  simp only [Instr.storeAt,Instr.sureAddr,Sem.run_bind,Sem.run_pure,Result.andThen_ok,run_storeVar_row (w.alloc (.cells old 110)) w.heap.size 110 110 old C (heap_alloc_new w _) hi ho h1]
  rw [World.setRow_alloc_new]
theorem ncl_set (kd:Int) (p x:T) (L:List T) (k:Nat) (y:T):(ncl ⟨kd,p,x,L⟩).toArray.setIfInBounds (3+k) (.string ⟨y.toArray⟩)=(ncl ⟨kd,p,x,L.set k y⟩).toArray:=by
  rw [List.setIfInBounds_toArray]
  congr 1
  unfold ncl
  rw [Nat.add_comm 3 k]
  simp only [List.set_cons_succ]
  rw [scells_set]
theorem ncl_ones (n:N):(ncl n).toArray.all (·.oneCell')=true:=by
  rw [← Array.all_toList,List.all_eq_true]
  intro v hv
  simp only [ncl,scells,List.mem_cons,List.mem_map] at hv
  rcases hv with rfl | rfl | rfl | ⟨y,_,rfl⟩ <;> rfl
theorem pnode_any {t:Tr} {g:Nat} {s:T} {K:Ks} {F:Fm} (w:World) (hr:RowP w g t.kind t.pth t.vl K s) (hk:∀ i,PAt w F true (t.kid i) (K i)) (hn:¬ t.isNil):
    Calls Tryz.prog 101 #[ptr g] w fun e w'=>e=.returned (ndval (t.node Nd.sumS))/\Below w.heap.size w w':=by
  rw [Tri.node_kid _ hn]
  have HK:=qh hk
  have HR:=qh hr
  unfold ptr
  obtain ⟨kd,hkd⟩:∃ kd,t.kind=kd:=⟨_,rfl⟩
  obtain ⟨p,hp⟩:∃ p,t.pth=p:=⟨_,rfl⟩
  obtain ⟨x,hx⟩:∃ x,t.vl=x:=⟨_,rfl⟩
  rw [hkd,hp,hx] at HR ⊢
  obtain ⟨SL,hSL⟩:∃ SL,(List.ofFn fun i=>(t.kid i).sum Nd.sumS)=SL:=⟨_,rfl⟩
  have HSL:Hid (SL.length=16/\∀ i:Fin 16,SL[i.val]?=some ((t.kid i).sum Nd.sumS)):=qh (by
    rw [← hSL]
    exact ⟨by simp,fun i=>by rw [List.getElem?_ofFn,dif_pos i.isLt]⟩)
  rw [hSL]
  unfold ndval
  obtain ⟨A,hA⟩:∃ A,(ncl ⟨(kd:Int),p,x,SL⟩).toArray=A:=⟨_,rfl⟩
  rw [hA]
  have HA:=qh hA
  clear hr hk hkd hp hx hSL hA
  go_enter Tryz.func101,Tryz.ntmps101
  go_upto_region 1 with fail
  obtain ⟨q,hq⟩:∃ q,w.heap.size=q:=⟨_,rfl⟩
  obtain ⟨w0,hw0⟩:∃ w0,w.alloc (.cells zero19 110)=w0:=⟨_,rfl⟩
  have HQB:Hid (w0.heap[q]?=some (.cells zero19 110 (0,0))):=qh (by rw [← hw0,← hq]; exact heap_alloc_new w _)
  have HB0:Hid (Below w.heap.size w w0):=qh (by rw [← hw0]; exact (Below.refl _ w).alloc (Nat.le_refl _) _)
  have HQ0:Hid (q < w0.heap.size):=qh (lt_of_heap HQB.out)
  unfold zero19 at hw0
  rw [hw0,hq]
  have HQ:=qh hq
  have HG:Hid (∀ w',Below w0.heap.size w0 w'->w'.cell? ⟨g,0,none⟩=some (.int .i64 kd)/\w'.cell? ⟨g,1,none⟩=some (.string ⟨p.toArray⟩)/\w'.cell? ⟨g,2,none⟩=some (.string ⟨x.toArray⟩)):=qh (fun w' hb=>by
    have k1:=(HR.out.below HB0.out).below hb
    exact ⟨k1.kind,k1.path,k1.val⟩)
  have hst:(st19 (.pointer (some ⟨w0.heap.size,0,none⟩)) (.agg (lit19 kd p x))).run Tryz.prog ((w0.alloc (.cells zero19 110)).drew)=.ok () ((w0.alloc (.cells (lit19 kd p x) 110)).drew):=run_st19 (w:=w0.drew) (by kernel_rfl) rfl (by simp [lit19,Value.oneCell'])
  unfold lit19 zero19 at hst
  have B1:Below w0.heap.size w0 w0.drew:=(Below.refl _ _).drew
  have B2:=((Below.refl w0.heap.size w0).alloc (Nat.le_refl _) (.cells zero19 110)).drew
  have B3:=((Below.refl w0.heap.size w0).alloc (Nat.le_refl _) (.cells (lit19 kd p x) 110)).drew
  unfold zero19 at B2
  unfold lit19 at B3
  obtain ⟨c0,c1,c2⟩:=HG.out _ B1
  clear hw0 hq
  go_region_held3 (fun w'=>w'.cell? ⟨g,0,none⟩=some (.int .i64 kd)/\w'.cell? ⟨g,1,none⟩=some (.string ⟨p.toArray⟩)/\w'.cell? ⟨g,2,none⟩=some (.string ⟨x.toArray⟩))
    ((first | (with_reducible exact ⟨c0,c1,c2⟩) | (refine HG.out _ ?_; with_reducible assumption)))
    (fail)
  obtain ⟨q2,hq2⟩:∃ q2,w0.heap.size=q2:=⟨_,rfl⟩
  obtain ⟨w1,hw1⟩:∃ w1,(w0.alloc (.cells (lit19 kd p x) 110)).drew=w1:=⟨_,rfl⟩
  have HN0:Hid (NodeAt w1 q2 ⟨kd,p,x,Nd.part []⟩):=qh (by
    rw [← hw1,← hq2]
    exact heap_alloc_new w0 _)
  have HB1:Hid (Below w.heap.size w w1/\w1.heap[q]?=some (.cells zero19 110 (0,0))/\w.heap.size<=q2/\q ≠ q2):=qh (by
    have h1:Below w0.heap.size w0 w1:=by rw [← hw1]; exact ((Below.refl w0.heap.size w0).alloc (Nat.le_refl _) _).drew
    have:=HQ0.out
    have:=HB0.out.size
    exact ⟨bchain HB0.out h1,(h1.block q HQ0.out).trans HQB.out,by omega,by omega⟩)
  unfold lit19 at hw1
  rw [hw1,hq2]
  have HRR:=qh ((HR.out.below HB1.out.1).range)
  have HI:=qh (kcl_info K)
  have HKE:=qh (fun (i:Fin 16) w=>index_kids K i w)
  clear c0 c1 c2 hst B1 B2 B3 hw1 hq2 HG
  go_wp2_with (refine wpList_load_mid (by rfl) _ _ (by rfl) g 3 (by rfl) (kcl K) _ HRR.out Tryz.underlying85 (by rfl) HI.out ?_)
  obtain ⟨KC,hKC⟩:∃ KC,kcl K=KC:=⟨_,rfl⟩
  rw [hKC] at HKE HI HRR ⊢
  clear hKC
  go_loopw [23] (fun i wr=>∃ k:Nat,k<=16/\i=.int .i64 k/\NodeAt wr q2 ⟨kd,p,x,Nd.part (SL.take k)⟩/\Out (fun j=>j=q2) w1 wr) (fun i _=>16 - (intOf i).toNat)
  case atStart=>exact ⟨0,Nat.zero_le _,rfl,HN0.out,Out.refl _ _⟩
  case round=>
    obtain ⟨k,hk,rfl,hna,hou⟩:=hrel
    have HNA:=qh hna
    have HOU:=qh hou
    have HGQ:Hid (g ≠ q2):=qh (fun e=>by have:=lt_of_heap HR.out; have:=HB1.out.2.2.1; omega)
    by_cases hlt:k < 16
    · obtain ⟨i,hi⟩:∃ i:Fin 16,i.val=k:=⟨⟨k,hlt⟩,rfl⟩
      have h1:(k:Int) < 16:=by omega
      have h0:(0:Int)<=(k:Int):=by omega
      have n0:=HKE.out i
      rw [hi] at n0
      have hti:SL.take (k+1)=SL.take k ++ [(t.kid i).sum Nd.sumS]:=by
        have h2:=HSL.out.2 i
        rw [hi] at h2
        rw [List.take_add_one,h2]; rfl
      have htl:(SL.take k).length=k:=by rw [List.length_take,HSL.out.1]; omega
      have hki:=HK.out i
      by_cases hnl:(t.kid i).isNil
      · have e:K i=.pointer none:=by rw [Tri.isNil_eq hnl] at hki; exact hki
        rw [e] at n0
        have HST:Hid (Nd.part (SL.take (k+1))=Nd.part (SL.take k)):=qh (by
          rw [hti,Tri.isNil_eq hnl]
          exact (Nd.part_nil _ (by rw [htl]; exact hlt)).symm)
        clear hki hnl e hna hou hti htl
        go_wp2
        exact ⟨⟨k+1,by omega,by go_num,by rw [HST.out]; exact HNA.out,HOU.out⟩,by simp [intOf]; omega⟩
      · obtain ⟨g6,s6,K6,e,hs6,-,hr6,-⟩:=hki.row hnl
        have e':K i=.pointer (some ⟨g6,0,none⟩):=e
        rw [hs6 rfl,if_pos rfl] at hr6
        rw [e'] at n0
        have hg6:g6 ≠ q2:=fun e=>by have:=lt_of_heap hr6; have:=HB1.out.2.2.1; omega
        have n19:wr.cell? ⟨g6,19,none⟩=some (.string ⟨((t.kid i).sum Nd.sumS).toArray⟩):=hou.cell (hr6.below HB1.out.1).sum hg6
        have hpl:(Nd.part (SL.take k)).length=16:=Nd.part_len _ (by rw [htl]; omega)
        have m3:=hna.kid k (by rw [hpl]; exact hlt)
        have f3:wr.frozen? ⟨q2,3+k,none⟩=false:=frozen_of_row _ _ _ _ _ hna
        obtain ⟨y,hy⟩:∃ y,(t.kid i).sum Nd.sumS=y:=⟨_,rfl⟩
        rw [hy] at n19 hti
        obtain ⟨y2,hy2⟩:∃ y2,(Nd.part (SL.take k))[k]'(by rw [hpl]; exact hlt)=y2:=⟨_,rfl⟩
        have m3':wr.cell? ⟨q2,3+k,none⟩=some (.string ⟨y2.toArray⟩):=by rw [m3,hy2]
        have HST:Hid (NodeAt (wr.setCell ⟨q2,3+k,none⟩ (.string ⟨y.toArray⟩)) q2 ⟨kd,p,x,Nd.part (SL.take (k+1))⟩):=qh (by
          have h2:=heap_setCell_same _ _ (3+k) _ _ (.string ⟨y.toArray⟩) hna
          rw [ncl_set] at h2
          have h3:=Nd.part_set (SL.take k) y (by rw [htl]; exact hlt)
          rw [htl] at h3
          rw [h3] at h2
          rw [hti]
          exact h2)
        have HOS:=qh (hou.setCell (p:=⟨q2,3+k,none⟩) rfl (.string ⟨y.toArray⟩))
        clear hki hnl e e' hna hou hti htl m3 hy2 hr6 hy hpl hg6
        go_wp2
        exact ⟨⟨k+1,by omega,by go_num,HST.out,HOS.out⟩,by simp [intOf]; omega⟩
    · have h1:¬ ((k:Int) < 16):=by omega
      obtain rfl:k=16:=by omega
      rw [List.take_of_length_le (by rw [HSL.out.1]; omega),Nd.part_all _ HSL.out.1] at HNA
      have hcs:(ncl ⟨kd,p,x,SL⟩).toArray.size=19:=by rw [List.size_toArray,ncl_length _ HSL.out.1]
      have HIN:Hid ((Tryz.prog.info? 110).map (·.size)=some (ncl ⟨kd,p,x,SL⟩).toArray.size):=qh (by rw [hcs]; kernel_rfl)
      have HON:=qh (ncl_ones ⟨kd,p,x,SL⟩)
      have HQR:Hid (wr.heap[q]?=some (.cells zero19 110 (0,0))):=qh ((HOU.out.block q (lt_of_heap HB1.out.2.1) HB1.out.2.2.2).trans HB1.out.2.1)
      have HOL:Hid (zero19.size=(ncl ⟨kd,p,x,SL⟩).toArray.size):=qh (by rw [hcs]; rfl)
      have HRW:Hid (wr.heap[q2]?=some (.cells (ncl ⟨kd,p,x,SL⟩).toArray 110 (0,0))):=qh HNA.out
      have HBW:Hid (∀ A,Below w.heap.size w (wr.setRow q A)):=qh (fun A=>by
        have h2:=(HOU.out.mono (G:=fun j=>j=q2 ∨ j=q) (fun j _ e=>Or.inl e)).setRow (q:=q) (Or.inr rfl) A
        refine HB1.out.1.trans (h2.below (fun j hj=>?_) HB1.out.1.size)
        rcases hj with rfl | rfl
        · exact HB1.out.2.2.1
        · exact Nat.le_of_eq HQ.out)
      rw [HA.out] at HIN HON HOL HRW
      clear hcs hna hou HNA
      go_wp2_with (first | (refine wpList_load_row (by rfl) _ _ (by rfl) q2 (by rfl) _ A _ _ HRW.out Tryz.underlying110 (by rfl) HIN.out ?_) | (refine wpList_store_row (by rfl) _ _ _ (by rfl) q A (by rfl) (by rfl) _ _ HQR.out HIN.out HOL.out HON.out ?_))
      exact bodyPost_ret (v:=.agg A) (results_cell_row rfl _ _ q _ _ _ _ rfl (setRow_at HQR.out) Tryz.underlying110 rfl HIN.out) rfl ⟨rfl,HBW.out A⟩
end
section
open Go.RowKit
open Sto (T)
open Tri (Tr Ok upd ix hb lay splitT Trim rank)
open Go.Proofs.YtaficmboooaknaaGreatDoor.Nd (N)
theorem Tab.mid {w w':World} {B:Nat} (h:Tab w) (hb:Below B w w') (hB:0 < B):Tab w':=fun i hi=>(hb.cell (p:=⟨0,i,none⟩) hB).trans (h i hi)
theorem from_mono (B:Nat):∀ s g,Fm.from B s g->Fm.from B true g:=fun _ _ _ e=>by cases e
def Keeps (B:Nat) (w w':World):Prop:=(∀ s u z,PAt w (Fm.from B) s u z->PAt w' (Fm.from B) s u z)/\(∀ g k p x K s,RowP w g k p x K s->∃ s',RowP w' g k p x K s')/\(∀ (g:Nat) (cs:Array Value) (ty:TypeId) (fl:Nat × Nat),ty ≠ 87->w.heap[g]?=some (Obj.cells cs ty fl)->w'.heap[g]?=some (Obj.cells cs ty fl))
theorem Keeps.refl (B:Nat) (w:World):Keeps B w w:=⟨fun _ _ _ h=>h,fun _ _ _ _ _ s h=>⟨s,h⟩,fun _ _ _ _ _ h=>h⟩
theorem Keeps.trans {B:Nat} {a b c:World} (h:Keeps B a b) (k:Keeps B b c):Keeps B a c:=⟨fun s u z q=>k.1 s u z (h.1 s u z q),fun g kk p x K s q=>by
  obtain ⟨s',q'⟩:=h.2.1 g kk p x K s q
  exact k.2.1 g kk p x K s' q',fun g cs ty fl ht q=>k.2.2 g cs ty fl ht (h.2.2 g cs ty fl ht q)⟩
theorem Keeps.below {B:Nat} {w w':World} (h:Below w.heap.size w w'):Keeps B w w':=⟨fun _ _ _ q=>q.below h,fun _ _ _ _ _ s q=>⟨s,q.below h⟩,fun g _ _ _ _ q=>(h.block g (lt_of_heap q)).trans q⟩
def SealTo (t:Tr):Prop:=∀ (v:Value) (w:World) (B:Nat),0 < B->B<=w.heap.size->Tab w->Ok t->PAt w (Fm.from B) false t v->
  Calls Tryz.prog 61 #[v] w fun e w'=>e=.returned (.tuple #[])/\PAt w' (Fm.from B) true t v/\Keeps B w w'/\Below B w w'
theorem seal_nil (w:World) (B:Nat):
    Calls Tryz.prog 61 #[.pointer none] w fun e w'=>e=.returned (.tuple #[])/\PAt w' (Fm.from B) true .nil (.pointer none)/\Keeps B w w'/\Below B w w':=by
  go_enter Tryz.func61,Tryz.ntmps61
  go_wp2
  exact bodyPost_ret (results_none rfl _ _ _) rfl ⟨rfl,rfl,Keeps.refl _ _,Below.refl _ _⟩
theorem seal_done {t:Tr} {g:Nat} {K:Ks} (w:World) (B:Nat) (hn:¬ t.isNil) (ho:Ok t) (hr:RowP w g t.kind t.pth t.vl K (t.sum Nd.sumS)) (hk:∀ i,PAt w (Fm.from B) true (t.kid i) (K i)):
    Calls Tryz.prog 61 #[ptr g] w fun e w'=>e=.returned (.tuple #[])/\PAt w' (Fm.from B) true t (ptr g)/\Keeps B w w'/\Below B w w':=by
  have n19:=hr.sum
  have hne:(t.sum Nd.sumS == [])=false:=by rw [beq_eq_false_iff_ne]; exact ho.sum_ne hn
  have HP:Hid (PAt w (Fm.from B) true t (ptr g)):=qh ((PAt.iff hn).2 ⟨g,true,K,rfl,fun _=>rfl,(fun h=>by cases h),hr,hk⟩)
  obtain ⟨S,hS⟩:∃ S,t.sum Nd.sumS=S:=⟨_,rfl⟩
  rw [hS] at n19 hne
  unfold ptr at HP ⊢
  clear hr hk hS
  go_enter Tryz.func61,Tryz.ntmps61
  go_wp2
  exact bodyPost_ret (results_none rfl _ _ _) rfl ⟨rfl,HP.out,Keeps.refl _ _,Below.refl _ _⟩
theorem seal_open {t:Tr} (IH:∀ i,SealTo (t.kid i)) {g:Nat} {K:Ks} (w:World) (B:Nat) (hB:0 < B) (hBw:B<=w.heap.size) (hT:Tab w) (hn:¬ t.isNil) (ho:Ok t) (hr:RowP w g t.kind t.pth t.vl K []) (hg:B<=g) (hk:∀ i,PAt w (Fm.from B) false (t.kid i) (K i)):
    Calls Tryz.prog 61 #[ptr g] w fun e w'=>e=.returned (.tuple #[])/\PAt w' (Fm.from B) true t (ptr g)/\Keeps B w w'/\Below B w w':=by
  have n19:=hr.sum
  have HR:=qh hr
  have HRG:=qh hr.range
  have HI:=qh (kcl_info K)
  have HKE:=qh (fun (i:Fin 16) w=>index_kids K i w)
  have HK:=qh hk
  have HIH:=qh (fun (i:Fin 16) (w':World) (hb:Below B w w') (hp:PAt w' (Fm.from B) false (t.kid i) (K i))=>IH i (K i) w' B hB (Nat.le_trans hBw hb.size) (hT.mid hb hB) (ho.kid i) hp)
  have HTB:=qh (fun (w':World) (hb:Below B w w')=>hT.mid hb hB)
  have HN:=qh (fun (w':World) (sx:T) (hr:RowP w' g t.kind t.pth t.vl K sx) (hk:∀ i,PAt w' (Fm.from B) true (t.kid i) (K i))=>pnode_any w' hr hk hn)
  have HSL:Hid (∀ (w':World) (sx:T),RowP w' g t.kind t.pth t.vl K sx->(∀ i,PAt w' (Fm.from B) true (t.kid i) (K i))->PAt (w'.setCell ⟨g,19,none⟩ (.string ⟨(t.sum Nd.sumS).toArray⟩)) (Fm.from B) true t (ptr g)/\Keeps B w' (w'.setCell ⟨g,19,none⟩ (.string ⟨(t.sum Nd.sumS).toArray⟩))):=qh (fun w' sx hr hk=>by
    refine ⟨PAt.seal (from_mono B) (fun e=>by cases e) hn hr hk,fun s u z h=>PAt.seals (from_mono B) hr hk h,fun g' kk p x K' s h=>?_,fun g' cs ty fl ht h=>?_⟩
    by_cases e:g'=g
    · subst e; exact ⟨_,h.seal _⟩
    · exact ⟨s,(Below.heap_setCell _ ⟨g,19,none⟩ _ g' e).trans h⟩
    · have e:g' ≠ g:=fun e=>by
        subst e
        unfold RowP at hr
        rw [hr] at h
        injection h with h; injection h with _ h _
        exact ht h.symm
      exact (Below.heap_setCell _ ⟨g,19,none⟩ _ g' e).trans h)
  have HDG:Hid (∀ w',Tab w'->Calls Tryz.prog 100 #[ndval (t.node Nd.sumS)] w' fun e w''=>e=.returned (.string ⟨(t.sum Nd.sumS).toArray⟩)/\Below w'.heap.size w' w''):=qh (fun w' h=>by
    rw [Tri.sum_node _ hn]
    exact ndigest_any _ w' (Tri.node_kids _ _) h)
  obtain ⟨S,hS⟩:∃ S,t.sum Nd.sumS=S:=⟨_,rfl⟩
  obtain ⟨ND,hND⟩:∃ ND,ndval (t.node Nd.sumS)=ND:=⟨_,rfl⟩
  rw [hS] at HSL HDG
  rw [hND] at HDG HN
  unfold ptr at HSL HN ⊢
  clear hr hk hT IH hS hND hn ho
  go_enter Tryz.func61,Tryz.ntmps61
  go_wp2_with (refine wpList_load_mid (by rfl) _ _ (by rfl) g 3 (by rfl) (kcl K) _ HRG.out Tryz.underlying85 (by rfl) HI.out ?_)
  obtain ⟨KC,hKC⟩:∃ KC,kcl K=KC:=⟨_,rfl⟩
  rw [hKC] at HKE HI HRG ⊢
  clear hKC
  go_loopw [17] (fun i wr=>∃ k:Nat,k<=16/\i=.int .i64 k/\(∀ j:Fin 16,j.val < k->PAt wr (Fm.from B) true (t.kid j) (K j))/\Keeps B w wr/\Below B w wr) (fun i _=>16 - (intOf i).toNat)
  case atStart=>exact ⟨0,Nat.zero_le _,rfl,fun j hj=>absurd hj (Nat.not_lt_zero _),Keeps.refl _ _,Below.refl _ _⟩
  case round=>
    obtain ⟨k,hk,rfl,hks,hkp,hbw⟩:=hrel
    have HKS:=qh hks
    have HKP:=qh hkp
    have HBW:=qh hbw
    by_cases hlt:k < 16
    · obtain ⟨i,hi⟩:∃ i:Fin 16,i.val=k:=⟨⟨k,hlt⟩,rfl⟩
      have h1:(k:Int) < 16:=by omega
      have h0:(0:Int)<=(k:Int):=by omega
      have n0:=HKE.out i
      rw [hi] at n0
      have HC:=qh (HIH.out i wr hbw (hkp.1 _ _ _ (HK.out i)))
      have HII:=qh hi
      obtain ⟨vk,hvk⟩:∃ vk,K i=vk:=⟨_,rfl⟩
      rw [hvk] at n0 HC
      have HVK:=qh hvk
      clear hks hkp hbw hi hvk
      go_wp2_with fail
      refine HC.out.mono ?_
      rintro e w2 ⟨rfl,hp2,hk2,hb2⟩
      have HP2:=qh hp2
      have HK2:=qh hk2
      have HB2:=qh hb2
      clear hp2 hk2 hb2
      go_wp2
      refine ⟨⟨k+1,by omega,by go_num,fun j hj=>?_,HKP.out.trans HK2.out,HBW.out.trans HB2.out⟩,by simp [intOf]; omega⟩
      by_cases e:j.val < k
      · exact HK2.out.1 _ _ _ (HKS.out j e)
      · obtain rfl:j=i:=Fin.ext (by have:=HII.out; omega)
        rw [HVK.out]
        exact HP2.out
    · have h1:¬ ((k:Int) < 16):=by omega
      obtain rfl:k=16:=by omega
      obtain ⟨sx,hrx⟩:=hkp.2.1 _ _ _ _ _ _ HR.out
      have hall:∀ i,PAt wr (Fm.from B) true (t.kid i) (K i):=fun i=>hks i i.isLt
      have HC:=qh (HN.out wr sx hrx hall)
      have HRX:=qh hrx
      have HAL:=qh hall
      clear hks hkp hbw hrx hall
      go_wp2_with fail
      refine HC.out.mono ?_
      rintro e w2 ⟨rfl,hb2⟩
      have HB2:=qh hb2
      have HBB:Hid (Below B w w2):=qh (HBW.out.trans (hb2.mono (Nat.le_trans hBw HBW.out.size)))
      clear hb2
      go_wp2_with fail
      refine (HDG.out _ (HTB.out _ HBB.out)).mono ?_
      rintro e w3 ⟨rfl,hb3⟩
      have hr3:=(HRX.out.below HB2.out).below hb3
      have hk3:∀ i,PAt w3 (Fm.from B) true (t.kid i) (K i):=fun i=>((HAL.out i).below HB2.out).below hb3
      obtain ⟨p3,q3⟩:=HSL.out w3 sx hr3 hk3
      have HP3:=qh p3
      have HQ3:Hid (Keeps B w (w3.setCell ⟨g,19,none⟩ (.string ⟨S.toArray⟩))):=qh (HKP.out.trans ((Keeps.below HB2.out).trans ((Keeps.below hb3).trans q3)))
      have HB3:Hid (Below B w (w3.setCell ⟨g,19,none⟩ (.string ⟨S.toArray⟩))):=qh ((HBB.out.trans (hb3.mono (Nat.le_trans hBw HBB.out.size))).setCell (p:=⟨g,19,none⟩) hg _)
      have m19:=hr3.sum
      have f19:=hr3.free 19
      clear hr3 hk3 p3 q3 hb3
      go_wp2
      go_end0
      exact ⟨rfl,HP3.out,HQ3.out,HB3.out⟩
theorem seal_to (t:Tr):SealTo t:=by
  induction t using Tri.kid_ind with
  | h0=>
    intro v w B _ _ _ _ h
    have e:v=.pointer none:=h
    subst e
    exact seal_nil w B
  | h t hn IH=>
    intro v w B hB hBw hT ho h
    obtain ⟨g,s',K,rfl,-,h2,hr,hk⟩:=h.row hn
    cases s' with
    | true=>exact seal_done w B hn ho hr hk
    | false=>exact seal_open IH w B hB hBw hT hn ho hr (h2 rfl) hk
theorem ptext_any {t:Tr} {g:Nat} {s:T} {K:Ks} {F:Fm} (w:World) (hr:RowP w g t.kind t.pth t.vl K s) (hk:∀ i,PAt w F true (t.kid i) (K i)) (hn:¬ t.isNil) (ho:Ok t):
    Calls Tryz.prog 87 #[ptr g] w fun e w'=>e=.returned (.string ⟨(Nd.written (t.node Nd.sumS)).toArray⟩)/\Below w.heap.size w w':=by
  have HN:=qh (pnode_any w hr hk hn)
  have HE:=qh (fun w=>nencode_any (t.node Nd.sumS) w (Tri.node_kids _ _))
  unfold Nd.encS Nd.encC at HE
  rw [ho.fine hn,if_pos rfl,if_pos rfl] at HE
  obtain ⟨S,hS⟩:∃ S,Nd.written (t.node Nd.sumS)=S:=⟨_,rfl⟩
  obtain ⟨ND,hND⟩:∃ ND,ndval (t.node Nd.sumS)=ND:=⟨_,rfl⟩
  rw [hS] at HE ⊢
  rw [hND] at HE HN
  unfold ptr at HN ⊢
  clear hr hk hn ho hS hND
  go_enter Tryz.func87,Tryz.ntmps87
  go_wp2_with fail
  refine HN.out.mono ?_
  rintro e w1 ⟨rfl,hb1⟩
  have HB:=qh hb1
  clear hb1
  go_wp2_with fail
  refine (HE.out _).mono ?_
  rintro e w2 ⟨rfl,hb2⟩
  go_wp2
  go_ret
  exact ⟨rfl,bchain HB.out hb2⟩
end
end Go.Proofs.YtaficmboooaknaaGreatDoor
