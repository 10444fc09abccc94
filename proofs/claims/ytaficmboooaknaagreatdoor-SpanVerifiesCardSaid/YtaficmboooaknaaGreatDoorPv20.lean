import Derived.Test.YtaficmboooaknaaGreatDoorPv01
import Derived.Test.YtaficmboooaknaaGreatDoorPv04
import Derived.Test.YtaficmboooaknaaGreatDoorPv15
import Derived.Test.YtaficmboooaknaaGreatDoorPv12
import Derived.Test.YtaficmboooaknaaGreatDoorPv16
import Derived.Test.YtaficmboooaknaaGreatDoorPv07
import Derived.Test.YtaficmboooaknaaGreatDoorPv10
import Derived.Test.YtaficmboooaknaaGreatDoorPv14
import Derived.BigQuiet
set_option maxRecDepth 100000
set_option maxHeartbeats 16000000
namespace Go.Proofs.YtaficmboooaknaaGreatDoor
section
open Go.RowKit
def behind:List UInt8:=[98,101,104,105,110,100]
def Lent (w:World) (B:Nat) (s:Value) (L:List (List UInt8)):Prop:=
  ∃ g cap,s=.slice (some ⟨g,0,none⟩) L.length cap/\Own w B (.slice (some ⟨g,0,none⟩) (L.length+1) cap) (L ++ [behind])
theorem Lent.below {w w':World} {B:Nat} {s:Value} {L:List (List UInt8)} (h:Lent w B s L) (hb:Below w.heap.size w w'):Lent w' B s L:=by
  obtain ⟨g,cap,rfl,h1⟩:=h
  exact ⟨g,cap,rfl,h1.below hb⟩
theorem Lent.strs {w:World} {B:Nat} {s:Value} {L:List (List UInt8)} (h:Lent w B s L):Strs w s L:=by
  obtain ⟨g,cap,rfl,h1⟩:=h
  obtain ⟨A,c,hv,hc⟩:=h1.strs
  obtain ⟨rfl,_⟩:some (⟨g,0,none⟩:Addr)=A/\_:=by simpa using hv
  refine ⟨_,cap,rfl,fun i hi=>?_⟩
  obtain ⟨a,ha,hcell⟩:=hc i (by simp; omega)
  exact ⟨a,ha,by rw [hcell,List.getElem_append_left hi]⟩
theorem Lent.cap {w:World} {B:Nat} {A:Option Addr} {n c:Nat} {L:List (List UInt8)} (h:Lent w B (.slice A n c) L):∃ g,A=some ⟨g,0,none⟩/\n=L.length/\L.length+1<=c/\c<=maxLen/\B<=g/\w.cell? ⟨g,L.length,none⟩=some (.string ⟨behind.toArray⟩):=by
  obtain ⟨g,cap,hv,h1⟩:=h
  obtain ⟨rfl,rfl,rfl⟩:A=some ⟨g,0,none⟩/\n=L.length/\c=cap:=by simpa using hv
  have h2:=World.ownsRow.cells h1 (g:=g) rfl L.length (.string ⟨behind.toArray⟩) (by simp [scells])
  rw [Addr.add_mid,Nat.zero_add] at h2
  rcases h1.2 with ⟨h',_⟩ | ⟨g',cap',cur,hv',hB,hh,hn,hcap,hsz,_⟩
  · simp at h'
  · obtain ⟨rfl,rfl⟩:g=g'/\c=cap':=by simpa using hv'
    exact ⟨g,rfl,rfl,by simpa using hn,hcap,hB,h2⟩
theorem own_cap {w:World} {B g n cap:Nat} {xs:List Value} (h:w.ownsRow B 9 1 (.slice (some ⟨g,0,none⟩) (n+1) cap) (n+1) xs):n<=cap:=by
  rcases h.2 with ⟨h',_⟩ | ⟨g',cap',cur,hv,_,_,hn,_⟩
  · simp at h'
  · obtain ⟨_,rfl⟩:g=g'/\cap=cap':=by simpa using hv
    omega
def LendPost (L:List (List UInt8)) (w:World) (e:Ending) (w':World):Prop:=∃ s,e=.returned s/\Lent w' w.heap.size s L/\Below w.heap.size w w'
theorem own_grown {w0 w w1 w2:World} {B:Nat} {s s':Value} {n n':Nat} {xs xs':List Value} (hB:B<=w0.heap.size) (h:w.ownsRow B 9 1 s n xs) (hb0:Below B w0 w) (hb:Below w.heap.size w w1) (hg:w1.grownBy w2 s.ownBlock) (_hr:w2.ownsRow B 9 1 s' n' xs'):Below B w0 w2:=by
  have h3:Out (fun j=>s.ownBlock=some j) w w2:=(Out.of hb).trans (Out.grown hg (fun _ e=>e))
  exact hb0.trans (h3.below (fun j hj=>(World.ownsRow.lt h j hj).1) (by have:=hb0.size; omega))
theorem lend_any (L:List (List UInt8)) (v:Value) (w:World) (hv:Strs w v L) (hl:L.length<=1000000):
    Calls Tryz.prog 18 #[v] w (LendPost L w):=by
  obtain ⟨i0,hi,hz0,hz1,hz2⟩:=info_parts Tryz.infoStr
  obtain ⟨v1,w1,hrun1,hown1,hgrow1,hat1⟩:=append_strs hv (World.ownsRow_nil w w.heap.size 9 1) (by omega) (Nat.le_refl _)
  simp only [Nat.zero_add,List.nil_append] at hown1
  have HO1:Hid (Own w1 w.heap.size v1 L):=qh hown1
  have HB1:Hid (Below w.heap.size w w1):=qh (own_grown (Nat.le_refl _) (World.ownsRow_nil w w.heap.size 9 1) (Below.refl _ w) (Below.refl _ w) hgrow1 hown1)
  obtain ⟨A,cap,rfl,-⟩:=hv
  obtain ⟨A1,cap1,rfl⟩:=own_form hown1
  have HR1:=qh hrun1
  clear hrun1 hown1 hgrow1 hat1
  have HS1:=qh HB1.out.size
  go_enter Tryz.func18,Tryz.ntmps18
  go_wp2_with (first | (at_builtin; refine wpList_append_run rfl _ _ _ rfl (.slice none 0 0) (.slice A L.length cap) _ (by rfl) (by rfl) HR1.out ?_) | (at_builtin; refine wpList_append_lies _ rfl _ _ _ rfl w.heap.size 9 i0 (.string ⟨#[]⟩) 1 16 Tryz.underlying29 hi hz0 hz1 hz2 rfl (by decide) (.slice A1 L.length cap1) L.length (scells L) (by rfl) (World.ownsRow.alloc HO1.out _) ⟨w1.heap.size,0,none⟩ 1 1 (scells [behind]) (by rfl) rfl (World.news_of_block (heap_new_at _ _ _ rfl)) (by simp [scells,Value.oneCell']) (by decide) (by unfold maxLen; omega) (by omega) (by have:=HS1.out; simp; omega) (w1.heap.size+1) (by simp) ?_; intro g2 cap2 w2 hown2 hgrow2 hat2 hlt2; have hcap2:L.length<=cap2:=own_cap hown2))
  go_ret
  have hb2:Below w.heap.size w w2:=own_grown (Nat.le_refl _) HO1.out HB1.out ((Below.refl _ w1).alloc (Nat.le_refl _) _) hgrow2 hown2
  refine ⟨_,rfl,⟨g2,cap2,rfl,?_⟩,hb2⟩
  unfold Own
  rw [scells_append,List.length_append]
  exact hown2
theorem kept_any (L:List (List UInt8)) (s v:Value) (B:Nat) (w:World) (hs:Lent w B s L) (hv:Strs w v L) (hl:L.length<=1000000):
    Calls Tryz.prog 22 #[s,v] w fun e w'=>e=.returned (.bool true)/\Below w.heap.size w w':=by
  have HS:=qh hs
  have HSM:=qh (same_any L L s v w hs.strs hv (by omega) (by unfold maxLen; omega))
  obtain ⟨g,c,rfl,-⟩:=hs
  obtain ⟨A,cap,rfl,-⟩:=hv
  have e1:decide (L=L)=true:=decide_eq_true rfl
  rw [e1] at HSM
  clear e1
  go_enter Tryz.func22,Tryz.ntmps22
  go_wp2_with fail
  refine HSM.out.mono ?_
  rintro e w1 ⟨rfl,hb⟩
  obtain ⟨g',hg,_,hc1,hc2,_,hcell⟩:=(HS.out.below hb).cap
  obtain rfl:g=g':=by simpa using hg
  have h1:(L.length:Int)+1<=(c:Int):=by omega
  have h2:(0:Int)<=(L.length:Int)+1:=by omega
  have h3:(0:Int)<=(L.length:Int):=by omega
  unfold behind at hcell
  clear hg
  go_wp2
  go_ret
  exact ⟨rfl,hb⟩
end
section
open Go.RowKit Go.ChangeShapes Go.WideShapes
def StrsC (w:World) (v:Value) (L:List (List UInt8)):Prop:=
  ∃ (A:Option Addr) (cap:Nat),v=.slice A L.length cap/\L.length<=cap/\∀ i (h:i < L.length),∃ a,A=some a/\w.cell? (a.add i)=some (.string ⟨L[i].toArray⟩)
theorem StrsC.strs {w:World} {v:Value} {L:List (List UInt8)} (h:StrsC w v L):Strs w v L:=by
  obtain ⟨A,cap,h1,_,h3⟩:=h
  exact ⟨A,cap,h1,h3⟩
theorem StrsC.below {w w':World} {v:Value} {L:List (List UInt8)} (h:StrsC w v L) (hb:Below w.heap.size w w'):StrsC w' v L:=by
  obtain ⟨A,cap,rfl,h1,hc⟩:=h
  refine ⟨A,cap,rfl,h1,fun i hi=>?_⟩
  obtain ⟨a,ha,hcell⟩:=hc i hi
  exact ⟨a,ha,(hb.cell (World.block_lt_of_cell? _ _ hcell)).trans hcell⟩
theorem StrsC.form {w:World} {v:Value} {L:List (List UInt8)} (h:StrsC w v L):∃ A cap,v=.slice A L.length cap/\L.length<=cap:=by
  obtain ⟨A,cap,h1,h2,_⟩:=h
  exact ⟨A,cap,h1,h2⟩
theorem StrsC.of_own {w:World} {B:Nat} {v:Value} {L:List (List UInt8)} (h:Own w B v L):StrsC w v L:=by
  obtain ⟨A,cap,hv,hc⟩:=h.strs
  refine ⟨A,cap,hv,?_,hc⟩
  rcases h.2 with ⟨h1,h2⟩ | ⟨g,c,cur,hv',_,_,hn,_⟩
  · omega
  · rw [hv'] at hv
    obtain ⟨_,rfl⟩:_/\c=cap:=by simpa using hv
    exact hn
theorem StrsC.of_lent {w:World} {B:Nat} {v:Value} {L:List (List UInt8)} (h:Lent w B v L):StrsC w v L:=by
  obtain ⟨A,cap,hv,hc⟩:=h.strs
  subst hv
  obtain ⟨_,_,_,h1,_⟩:=h.cap
  exact ⟨A,cap,rfl,by omega,hc⟩
theorem StrsC.nil (w:World) (A:Option Addr) (cap:Nat):StrsC w (.slice A 0 cap) []:=⟨A,cap,rfl,Nat.zero_le _,fun i h=>absurd h (Nat.not_lt_zero i)⟩
theorem StrsC.head {w:World} {A:Option Addr} {n cap:Nat} {x:List UInt8} {L:List (List UInt8)} (h:StrsC w (.slice A n cap) (x :: L)):∃ a,A=some a/\w.cell? a=some (.string ⟨x.toArray⟩)/\n=L.length+1/\L.length+1<=cap:=by
  obtain ⟨A',cap',hv,h1,hc⟩:=h
  obtain ⟨rfl,rfl,rfl⟩:A=A'/\n=L.length+1/\cap=cap':=by simpa using hv
  obtain ⟨a,ha,hcell⟩:=hc 0 (by simp)
  exact ⟨a,ha,by simpa [Addr.add] using hcell,rfl,h1⟩
theorem StrsC.tail {w:World} {A:Option Addr} {n cap:Nat} {x:List UInt8} {L:List (List UInt8)} (h:StrsC w (.slice A n cap) (x :: L)):
    ∃ A' cap',(∀ W:World,(Instr.slice 29 (.slice A n cap) (some (.int .i64 1)) none none).run Tryz.prog W=.ok (.slice A' L.length cap') W)/\StrsC w (.slice A' L.length cap') L:=by
  obtain ⟨A',cap',hv,h1,hc⟩:=h
  obtain ⟨rfl,rfl,rfl⟩:A=A'/\n=L.length+1/\cap=cap':=by simpa using hv
  rw [List.length_cons] at h1
  obtain ⟨a,ha,-⟩:=hc 0 (by simp)
  subst ha
  have hn:L.length+1 - 1=L.length:=by omega
  by_cases hc1:cap=1
  · subst hc1
    obtain rfl:L=[]:=List.length_eq_zero_iff.1 (by omega)
    have hs:∀ W:World,(sizeOf (Tryz.prog.elem 29)).run Tryz.prog W=.ok 1 W:=fun W=>by kernel_rfl
    refine ⟨some a,0,fun W=>?_,StrsC.nil ..⟩
    rw [run_slice_l W 29 (some a) _ 1 Tryz.underlying29 .i64 1 (by omega) (by simp),hs]
    rfl
  · have hs:∀ W:World,(sizeOf (Tryz.prog.elem 29)).run Tryz.prog W=.ok 1 W:=fun W=>by kernel_rfl
    refine ⟨some (a.add 1),cap - 1,fun W=>?_,some (a.add 1),cap - 1,rfl,by omega,fun i hi=>⟨_,rfl,?_⟩⟩
    · rw [run_slice_l W 29 (some a) (L.length+1) cap Tryz.underlying29 .i64 1 (by omega) (by omega),hs]
      simp [Result.andThen,sliced,hc1]
    · obtain ⟨a',ha',hcell⟩:=hc (i+1) (by simpa using hi)
      obtain rfl:a=a':=by simpa using ha'
      rw [Addr.add_add,Nat.add_comm 1 i]
      simpa using hcell
end
section
open Go.RowKit
open Sto (T St)
open Go.Proofs.YtaficmboooaknaaGreatDoor.Nd (N)
def FirstIs:List T->T->N->Bool->Prop
  | [],_,_,b=>b=false
  | x :: _,s,n,b=>b=Prf.isN s x/\(b=true->(Nd.dec x).1=n)
theorem dec_kids (x:T):(Nd.dec x).1.kids.length=16:=by
  rcases Nd.dec_is x with ⟨_,_,h,_⟩ | ⟨_,h,_⟩
  · exact h
  · rw [h]; rfl
theorem sum_one (x:T):Dig.sum 1 x=Sto.sumOf x:=by
  unfold Dig.sum
  rfl
end
section
open Go.RowKit
open Sto (T St)
open Go.Proofs.YtaficmboooaknaaGreatDoor.Nd (N)
theorem spsum_any (x:T) (w:World) (hT:Tab w) (hx:x.length<=1000000):
    Calls Tryz.prog 74 #[.string ⟨x.toArray⟩] w fun e w'=>e=.returned (.string ⟨(Sto.sumOf x).toArray⟩)/\Below w.heap.size w w':=by
  have HD:=qh (dsum_any 1 x w hT (by omega))
  have e1:Dig.sumC 1=0:=rfl
  rw [e1,sum_one] at HD
  obtain ⟨S,hS⟩:∃ S,Sto.sumOf x=S:=⟨_,rfl⟩
  rw [hS] at HD ⊢
  clear hS hT hx e1
  go_enter Tryz.func74,Tryz.ntmps74
  go_wp2_with fail
  refine HD.out.mono ?_
  rintro e w1 ⟨rfl,hb⟩
  go_wp2
  go_ret
  exact ⟨rfl,hb⟩
def spld19 (v:Value):Sem Value:=Instr.loadAt 110 v
theorem spldAt19 (v:Value):Instr.loadAt 110 v=spld19 v:=rfl
def spst19 (p v:Value):Sem Unit:=Instr.storeAt 110 p v
theorem spstAt19 (p v:Value):Instr.storeAt 110 p v=spst19 p v:=rfl
attribute [local go_sem ↓] spldAt19 spstAt19
theorem run_spld19 {w:World} {g:Nat} {A:Array Value} (hg:w.heap[g]?=some (.cells A 110 (0,0))) (hi:(Tryz.prog.info? 110).map (·.size)=some A.size):(spld19 (.pointer (some ⟨g,0,none⟩))).run Tryz.prog w=.ok (.agg A) w:=by
  unfold spld19
  simp only [Instr.loadAt,Instr.sureAddr,Sem.run_bind,Sem.run_pure,Result.andThen_ok,run_loadVar_row w g 110 110 A (0,0) _ hg Tryz.underlying110 (by rfl) hi]
theorem run_spst19 {w:World} {g:Nat} {A Z:Array Value} (hg:w.heap[g]?=some (.cells Z 110 (0,0))) (hi:(Tryz.prog.info? 110).map (·.size)=some A.size) (hz:Z.size=A.size) (h1:A.all (·.oneCell')=true):(spst19 (.pointer (some ⟨g,0,none⟩)) (.agg A)).run Tryz.prog w=.ok () (w.setRow g A):=by
  unfold spst19
  simp only [Instr.storeAt,Instr.sureAddr,Sem.run_bind,Sem.run_pure,Result.andThen_ok,run_storeVar_row w g 110 110 Z A hg hi hz h1]
structure TkS (w:World) (gl q p:Nat) (zl:Value) (C:Array Value) (w':World):Prop where
  out:Out (fun k=>k=gl) w w'
  left:w'.heap[gl]?=some (.cells #[zl] 29 (0,0))
  node:w'.heap[q]?=some (.cells C 110 (0,0))
  there:∃ Z:Array Value,w'.heap[p]?=some (.cells Z 110 (0,0))/\Z.size=C.size
theorem TkS.below {w:World} {gl q p:Nat} {zl:Value} {C:Array Value} {a b:World} (h:TkS w gl q p zl C a) (hb:Below a.heap.size a b):TkS w gl q p zl C b:=by
  obtain ⟨Z,h1,h2⟩:=h.there
  exact ⟨h.out.trans (Out.of hb),(hb.block _ (lt_of_heap h.left)).trans h.left,(hb.block _ (lt_of_heap h.node)).trans h.node,Z,(hb.block _ (lt_of_heap h1)).trans h1,h2⟩
theorem TkS.drew {w:World} {gl q p:Nat} {zl:Value} {C:Array Value} {a:World} (h:TkS w gl q p zl C a):TkS w gl q p zl C a.drew:=h.below (Below.refl _ _).drew
theorem setRow_other (w:World) (g k:Nat) (cs:Array Value) (h:k ≠ g):(w.setRow g cs).heap[k]?=w.heap[k]?:=by
  simp [World.setRow,Array.getElem?_modify,Ne.symm h]
theorem TkS.store {w:World} {gl q p:Nat} {zl:Value} {C:Array Value} {a:World} (h:TkS w gl q p zl C a) (hp:w.heap.size<=p) (h1:gl ≠ p) (h2:q ≠ p):TkS w gl q p zl C (a.setRow p C):=by
  obtain ⟨Z,h3,h4⟩:=h.there
  refine ⟨?_,(setRow_other a p gl C h1).trans h.left,(setRow_other a p q C h2).trans h.node,C,setRow_heap _ _ _ _ _ _ h3,rfl⟩
  refine ⟨h.out.os,h.out.tape,h.out.output,by simp [World.setRow]; exact h.out.size,fun k hk hg=>?_⟩
  refine Eq.trans ?_ (h.out.block k hk hg)
  exact setRow_other a p k C (fun e=>Nat.lt_irrefl k (Nat.lt_of_lt_of_le hk (e ▸ hp)))
def TakePost (L:List T) (s:T) (gl:Nat) (wv w:World) (e:Ending) (w':World):Prop:=
  ∃ (n:N) (b:Bool),e=.returned (.tuple #[ndval n,.bool b])/\n.kids.length=16/\FirstIs L s n b/\Out (fun k=>k=gl) w w'/\
    ∃ z,w'.heap[gl]?=some (.cells #[z] 29 (0,0))/\StrsC wv z L.tail
theorem sptake_any (L:List T) (s:T) (gl:Nat) (z:Value) (wv w:World) (hbv:Below wv.heap.size wv w) (hg:w.heap[gl]?=some (.cells #[z] 29 (0,0))) (hv:StrsC wv z L) (hTg:∀ w',Out (fun k=>k=gl) w w'->Tab w') (hL:∀ x ∈ L,x.length<=1000000):
    Calls Tryz.prog 72 #[.string ⟨s.toArray⟩,.pointer (some ⟨gl,0,none⟩)] w (TakePost L s gl wv w):=by
  unfold TakePost
  have hlt:gl < w.heap.size:=lt_of_heap hg
  obtain ⟨w0,hw0⟩:∃ w0,w.alloc (.cells #[.int .i64 0,.string ⟨#[]⟩,.string ⟨#[]⟩,.string ⟨#[]⟩,.string ⟨#[]⟩,.string ⟨#[]⟩,.string ⟨#[]⟩,.string ⟨#[]⟩,.string ⟨#[]⟩,.string ⟨#[]⟩,.string ⟨#[]⟩,.string ⟨#[]⟩,.string ⟨#[]⟩,.string ⟨#[]⟩,.string ⟨#[]⟩,.string ⟨#[]⟩,.string ⟨#[]⟩,.string ⟨#[]⟩,.string ⟨#[]⟩] 110)=w0:=⟨_,rfl⟩
  have hb0:Below w.heap.size w w0:=by rw [← hw0]; exact (Below.refl _ w).alloc (Nat.le_refl _) _
  have HB0:=qh hb0
  have HZ0:Hid (w0.heap[w.heap.size]?=some (.cells (ncl Nd.zero).toArray 110 (0,0))):=qh (by rw [← hw0]; exact heap_new_at w _ _ rfl)
  have HI19:Hid ((Tryz.prog.info? 110).map (·.size)=some 19):=qh (by kernel_rfl)
  have HBZ:Hid (Tryz.prog.built 110 []=some (ncl Nd.zero).toArray):=qh (by rfl)
  have HOZ:=qh (ncl_one Nd.zero)
  have HSZ:Hid ((ncl Nd.zero).toArray.size=19):=qh rfl
  obtain ⟨Z,hZ⟩:∃ Z,(ncl Nd.zero).toArray=Z:=⟨_,rfl⟩
  have HZQ:=qh hZ
  rw [hZ] at HZ0 HBZ HOZ HSZ
  have HIZ:Hid ((Tryz.prog.info? 110).map (·.size)=some Z.size):=qh (by rw [HSZ.out]; exact HI19.out)
  have HZ16:Hid (Nd.zero.kids.length=16):=qh rfl
  have HG0:=qh ((hb0.block gl hlt).trans hg)
  have HLT:=qh hlt
  have cg:=cell_of_one HG0.out
  cases L with
  | nil=>
    have HV:=qh hv
    have HG:=qh hg
    obtain ⟨A,cap,rfl,-⟩:=hv.form
    clear hb0 hZ hv hTg hg hlt hbv
    go_enter Tryz.func72,Tryz.ntmps72
    go_upto_region 1 with fail
    clear hw0
    go_wp2_with (first | (refine wpList_build_some (by rfl) _ _ (by rfl) [] (by first | rfl | (simp [Act.eval]; done) | kernel_rfl) Z HBZ.out ?_) | (refine wpList_store_row (by rfl) _ _ _ (by rfl) w.heap.size Z (by rfl) (by rfl) _ _ HZ0.out HIZ.out rfl HOZ.out ?_))
    have HBE:=qh (below_setRow HB0.out (Nat.le_refl _) Z)
    refine bodyPost_ret (nresults_c1t rfl _ _ w.heap.size _ _ _ _ rfl (setRow_heap _ _ _ _ _ _ HZ0.out) Tryz.underlying110 rfl HIZ.out) rfl ⟨Nd.zero,false,by rw [← HZQ.out]; rfl,HZ16.out,rfl,Out.of HBE.out,_,(HBE.out.block gl HLT.out).trans HG.out,HV.out⟩
  | cons x r=>
    have hx:x.length<=1000000:=hL x (List.mem_cons_self ..)
    have HND:=qh (fun w=>ndecode_any x w hx)
    have HSU:=qh (fun w hT=>spsum_any x w hT hx)
    unfold NDecPost ndval at HND
    obtain ⟨⟨n,c⟩,hX⟩:∃ X,Nd.dec x=X:=⟨_,rfl⟩
    have hn16:n.kids.length=16:=by have:=dec_kids x; rw [hX] at this; exact this
    obtain ⟨S,hS⟩:∃ S,Sto.sumOf x=S:=⟨_,rfl⟩
    have HIS:Hid (FirstIs (x :: r) s n (decide (c=0) && decide (S=s))):=qh ⟨by unfold Prf.isN; rw [hX,← hS]; by_cases h1:c=0 <;> by_cases h2:Sto.sumOf x=s <;> simp [h1,h2],fun _=>by rw [hX]⟩
    rw [hX] at HND
    dsimp only at HND
    rw [hS] at HSU
    have HN16:=qh hn16
    have HON:=qh (ncl_one n)
    have HSN:Hid ((ncl n).toArray.size=19):=qh (by rw [List.size_toArray,ncl_length n hn16])
    have HNV:Hid (ndval n=.agg (ncl n).toArray):=qh rfl
    obtain ⟨C,hC⟩:∃ C,(ncl n).toArray=C:=⟨_,rfl⟩
    rw [hC] at HND HON HSN HNV
    have HI:Hid ((Tryz.prog.info? 110).map (·.size)=some C.size):=qh (by rw [HSN.out]; exact HI19.out)
    have HZC:Hid (Z.size=C.size):=qh (HSZ.out.trans HSN.out.symm)
    obtain ⟨A,cap,rfl,-⟩:=hv.form
    obtain ⟨a,rfl,hcell,-,-⟩:=(hv.below hbv).head
    obtain ⟨b,o,sp⟩:=a
    have hblt:=World.block_lt_of_cell? _ _ hcell
    have c0:w0.cell? ⟨b,o,sp⟩=some (.string ⟨x.toArray⟩):=(hb0.cell hblt).trans hcell
    obtain ⟨A',cap',hrun,hst⟩:=hv.tail
    have HST:=qh hst
    obtain ⟨nn,hnn⟩:∃ nn,(x :: r).length=nn:=⟨_,rfl⟩
    have hnn1:nn=r.length+1:=by rw [← hnn,List.length_cons]
    rw [hnn] at hrun cg
    have hq0:((nn:Int) == 0)=false:=by rw [beq_eq_false_iff_ne]; omega
    have hq3:(nn == 0)=false:=by rw [beq_eq_false_iff_ne]; omega
    have hq4:(0:Int) < (nn:Int):=by omega
    have hq5:0 < nn:=by omega
    have fg:=free_of_one HG0.out
    have HTG:=qh hTg
    have HO1:Hid (Out (fun k=>k=gl) w (w0.setCell ⟨gl,0,none⟩ (.slice A' r.length cap'))):=qh (Out.setCell (F:=fun k=>k=gl) (Out.of hb0) (p:=⟨gl,0,none⟩) rfl _)
    have HL1:Hid ((w0.setCell ⟨gl,0,none⟩ (.slice A' r.length cap')).heap[gl]?=some (.cells #[.slice A' r.length cap'] 29 (0,0))):=qh (one_setCell HG0.out)
    have hne:w.heap.size ≠ gl:=by omega
    have HZ1:Hid ((w0.setCell ⟨gl,0,none⟩ (.slice A' r.length cap')).heap[w.heap.size]?=some (.cells Z 110 (0,0))):=qh ((Below.heap_setCell w0 ⟨gl,0,none⟩ _ _ hne).trans HZ0.out)
    clear hb0 hZ hv hbv hTg hg hlt hL hx hX hn16 hS hC hcell hblt hst hne hnn hnn1
    go_enter Tryz.func72,Tryz.ntmps72
    go_upto_region 1 with fail
    clear hw0
    go_wp2_with fail
    generalize hw1:w0.setCell ⟨gl,0,none⟩ (.slice A' r.length cap')=w1 at *
    refine (HND.out _).mono ?_
    rintro e w2 ⟨rfl,hb2⟩
    have HO2:Hid (Out (fun k=>k=gl) w (w2.alloc (.cells C 110))):=qh ((HO1.out.trans (Out.of hb2)).alloc _)
    have hs2:w.heap.size < w2.heap.size:=Nat.lt_of_lt_of_le (lt_of_heap HZ1.out) hb2.size
    have hA:Below w2.heap.size w2 (w2.alloc (.cells C 110)):=(Below.refl _ w2).alloc (Nat.le_refl _) _
    have HK:Hid (TkS w gl w2.heap.size w.heap.size (.slice A' r.length cap') C (w2.alloc (.cells C 110))):=Lib.hid
      ⟨HO2.out,(hA.block _ (Nat.lt_trans HLT.out hs2)).trans ((hb2.block _ (lt_of_heap HL1.out)).trans HL1.out),heap_new_at w2 _ _ rfl,Z,(hA.block _ hs2).trans ((hb2.block _ (lt_of_heap HZ1.out)).trans HZ1.out),HZC.out⟩
    have HQ:Hid (w2.heap.size ≠ w.heap.size):=qh (by omega)
    have HGP:Hid (gl ≠ w.heap.size):=qh (by have:=HLT.out; omega)
    go_upto_region 6 with (refine wpList_store_fresh (by rfl) _ _ _ (by rfl) w2.heap.size rfl C (by rfl) (by rfl) _ _ HI.out HSN.out.symm HON.out ?_)
    obtain ⟨q,hq⟩:∃ q,w2.heap.size=q:=⟨_,rfl⟩
    obtain ⟨p,hp⟩:∃ p,w.heap.size=p:=⟨_,rfl⟩
    obtain ⟨w3,hw3⟩:∃ w3,w2.alloc (.cells C 110)=w3:=⟨_,rfl⟩
    have HPS:Hid (w.heap.size<=p):=qh (Nat.le_of_eq hp)
    rw [hq,hp,hw3] at HK
    rw [hq,hp] at HQ
    rw [hp] at HGP
    rw [hq,hw3,hp]
    have HSS:Hid (∀ w',TkS w gl q p (.slice A' r.length cap') C w'->TkS w gl q p (.slice A' r.length cap') C w'/\(spld19 (.pointer (some ⟨q,0,none⟩))).run Tryz.prog w'=.ok (.agg C) w'/\(spst19 (.pointer (some ⟨p,0,none⟩)) (.agg C)).run Tryz.prog w'=.ok () (w'.setRow p C)):=qh (fun w' h=>by
      obtain ⟨Z',h1,h2⟩:=h.there
      exact ⟨h,run_spld19 h.node HI.out,run_spst19 h1 HI.out h2 HON.out⟩)
    have HSE:Hid (∀ w',TkS w gl q p (.slice A' r.length cap') C w'->TkS w gl q p (.slice A' r.length cap') C (w'.setRow p C)):=qh (fun w' h=>h.store HPS.out HGP.out HQ.out)
    have HCL:Hid (∀ w',TkS w gl q p (.slice A' r.length cap') C w'->Calls Tryz.prog 74 #[.string ⟨x.toArray⟩] w' fun e w''=>e=.returned (.string ⟨S.toArray⟩)/\TkS w gl q p (.slice A' r.length cap') C w''/\Below w'.heap.size w' w''):=qh (fun w' h=>
      (HSU.out w' (HTG.out w' h.out)).mono fun e w'' ⟨q1,q2⟩=>⟨q1,h.below q2,q2⟩)
    have HEND:Hid (∀ w' b,TkS w gl q p (.slice A' r.length cap') C w'->b=(decide (c=0) && decide (S=s))->∃ (n:N) (b':Bool),Ending.returned (.tuple #[.agg C,.bool b])=.returned (.tuple #[ndval n,.bool b'])/\n.kids.length=16/\FirstIs (x :: r) s n b'/\Out (fun k=>k=gl) w w'/\∃ z,w'.heap[gl]?=some (.cells #[z] 29 (0,0))/\StrsC wv z (x :: r).tail):=qh (fun w' b h hb=>
      ⟨n,b,by rw [HNV.out],HN16.out,by rw [hb]; exact HIS.out,h.out,_,h.left,HST.out⟩)
    have BD:=HK.out.drew
    clear hq hp hw3 hb2 hs2 hA HO2 HND
    by_cases hc:c=0
    case neg=>
      have hc1:(c == 0)=false:=beq_eq_false_iff_ne.2 hc
      have hc2:((c:Int) == 0)=false:=by rw [beq_eq_false_iff_ne]; omega
      have hcd:Hid (decide (c=0)=false):=qh (decide_eq_false hc)
      clear hc
      refine region_inv (fun L a w'=>∃ v22 v23 v24 v25 v26 v27 v28 v29 v30:Value,a=⟨#[.string ⟨s.toArray⟩,.pointer (some ⟨gl,0,none⟩),undef,.pointer (some ⟨p,0,none⟩),.bool false,.string ⟨x.toArray⟩,.pointer (some ⟨q,0,none⟩),.int .i64 c,.slice (some ⟨b,o,sp⟩) nn cap,.int .i64 nn,.bool false,undef,.slice (some ⟨b,o,sp⟩) nn cap,.pointer (some ⟨b,o,sp⟩),.string ⟨x.toArray⟩,.slice (some ⟨b,o,sp⟩) nn cap,.slice A' r.length cap',.tuple #[.agg C,.int .i64 c],.string ⟨x.toArray⟩,.tuple #[.agg C,.int .i64 c],.agg C,.int .i64 c,v22,v23,v24,v25,v26,v27,v28,v29,v30],[]⟩/\
        TkS w gl q p (.slice A' r.length cap') C w'/\(L[0]?=some true->v22=.agg C)/\(L[1]?=some true->v23=.int .i64 c)/\(L[2]?=some true->v24=.bool false)/\(L[3]?=some true->v25=.bool false)/\(L[8]?=some true->v30=.bool false)/\(L[9]?=some true->w'.heap[p]?=some (.cells C 110 (0,0)))) (by rfl) ?_ ?_ ?_
      · exact ⟨_,_,_,_,_,_,_,_,_,rfl,BD,by simp,by simp,by simp,by simp,by simp,by simp⟩
      · intro L a w1 hL hI i o ho hi K hK
        obtain ⟨v22,v23,v24,v25,v26,v27,v28,v29,v30,rfl,hT,h0,h1,h2,h3,h8,h9⟩:=hI
        obtain ⟨b0,b1,b2,b3,b4,b5,b6,b7,b8,b9,b10,rfl⟩:∃ b0 b1 b2 b3 b4 b5 b6 b7 b8 b9 b10,L=[b0,b1,b2,b3,b4,b5,b6,b7,b8,b9,b10]:=by
          match L,hL with
          | [b0,b1,b2,b3,b4,b5,b6,b7,b8,b9,b10],_=>exact ⟨b0,b1,b2,b3,b4,b5,b6,b7,b8,b9,b10,rfl⟩
        have hi2:=(List.mem_filter.1 hi).2
        clear hi hL
        obtain ⟨-,l1,l2⟩:=HSS.out _ hT
        rcases i with _ | _ | _ | _ | _ | _ | _ | _ | _ | _ | _ | i
        · obtain rfl:=Option.some.inj ho
          clear ho hi2
          rw [if_pos (by rfl)]
          go_simp
          exact hK _ _ ⟨_,v23,v24,v25,v26,v27,v28,v29,v30,rfl,hT,fun _=>rfl,h1,h2,h3,h8,h9⟩
        · obtain rfl:=Option.some.inj ho
          clear ho hi2
          rw [if_pos (by rfl)]
          go_simp
          exact hK _ _ ⟨v22,_,v24,v25,v26,v27,v28,v29,v30,rfl,hT,h0,fun _=>rfl,h2,h3,h8,h9⟩
        · obtain rfl:=Option.some.inj ho
          simp [Region.binds] at hi2
          obtain rfl:=h1 (by simp [hi2])
          clear ho hi2
          rw [if_pos (by rfl)]
          go_simp
          exact hK _ _ ⟨v22,_,_,v25,v26,v27,v28,v29,v30,rfl,hT,h0,fun _=>rfl,fun _=>rfl,h3,h8,h9⟩
        · obtain rfl:=Option.some.inj ho
          simp [Region.binds] at hi2
          obtain rfl:=h2 (by simp [hi2])
          clear ho hi2
          rw [if_pos (by rfl)]
          go_simp
          exact hK _ _ ⟨v22,v23,_,_,v26,v27,v28,v29,v30,rfl,hT,h0,h1,fun _=>rfl,fun _=>rfl,h8,h9⟩
        · obtain rfl:=Option.some.inj ho
          simp [Region.binds] at hi2
          obtain rfl:=h3 (by simp [hi2])
          clear ho hi2
          rw [if_neg (by rw [show Region.wanted _ _=false from rfl]; decide)]
          exact hK _ _ ⟨v22,v23,v24,_,_,v27,v28,v29,v30,rfl,hT,h0,h1,h2,fun _=>rfl,h8,h9⟩
        · obtain rfl:=Option.some.inj ho
          simp [Region.binds] at hi2
          obtain rfl:=h3 (by simp [hi2])
          clear ho hi2
          rw [if_neg (by rw [show Region.wanted _ _=false from rfl]; decide)]
          exact hK _ _ ⟨v22,v23,v24,_,v26,_,v28,v29,v30,rfl,hT,h0,h1,h2,fun _=>rfl,h8,h9⟩
        · obtain rfl:=Option.some.inj ho
          simp [Region.binds] at hi2
          obtain rfl:=h3 (by simp [hi2])
          clear ho hi2
          rw [if_neg (by rw [show Region.wanted _ _=false from rfl]; decide)]
          exact hK _ _ ⟨v22,v23,v24,_,v26,v27,_,v29,v30,rfl,hT,h0,h1,h2,fun _=>rfl,h8,h9⟩
        · obtain rfl:=Option.some.inj ho
          simp [Region.binds] at hi2
          obtain rfl:=h3 (by simp [hi2])
          clear ho hi2
          rw [if_neg (by rw [show Region.wanted _ _=false from rfl]; decide)]
          exact hK _ _ ⟨v22,v23,v24,_,v26,v27,v28,_,v30,rfl,hT,h0,h1,h2,fun _=>rfl,h8,h9⟩
        · obtain rfl:=Option.some.inj ho
          simp [Region.binds] at hi2
          obtain rfl:=h3 (by simp [hi2])
          clear ho hi2
          rw [if_pos (by rfl)]
          go_simp
          exact hK _ _ ⟨v22,v23,v24,_,v26,v27,v28,v29,_,rfl,hT,h0,h1,h2,fun _=>rfl,fun _=>rfl,h9⟩
        · obtain rfl:=Option.some.inj ho
          simp [Region.binds] at hi2
          obtain rfl:=h0 (by simp [hi2])
          clear ho hi2
          obtain ⟨Z',h5,_⟩:=hT.there
          rw [if_pos (by rfl)]
          go_simp
          exact hK _ _ ⟨_,v23,v24,v25,v26,v27,v28,v29,v30,rfl,HSE.out _ hT,fun _=>rfl,h1,h2,h3,h8,fun _=>setRow_heap _ _ _ _ _ _ h5⟩
        · obtain rfl:=Option.some.inj ho
          simp [Region.binds] at hi2
          obtain rfl:=h8 (by simp [hi2])
          clear ho hi2
          rw [if_pos (by rfl)]
          go_simp
          exact hK _ _ ⟨v22,v23,v24,v25,v26,v27,v28,v29,_,rfl,hT,h0,h1,h2,h3,fun _=>rfl,h9⟩
        · simp at ho
      · intro L a w1 hL hr hI
        obtain ⟨v22,v23,v24,v25,v26,v27,v28,v29,v30,rfl,hT,h0,h1,h2,h3,h8,h9⟩:=hI
        obtain ⟨b0,b1,b2,b3,b4,b5,b6,b7,b8,b9,b10,rfl⟩:∃ b0 b1 b2 b3 b4 b5 b6 b7 b8 b9 b10,L=[b0,b1,b2,b3,b4,b5,b6,b7,b8,b9,b10]:=by
          match L,hL with
          | [b0,b1,b2,b3,b4,b5,b6,b7,b8,b9,b10],_=>exact ⟨b0,b1,b2,b3,b4,b5,b6,b7,b8,b9,b10,rfl⟩
        have hr2:=List.filter_eq_nil_iff.1 hr
        clear hr hL
        have k0:=hr2 0 (by simp)
        have k1:=hr2 1 (by simp)
        have k2:=hr2 2 (by simp)
        have k3:=hr2 3 (by simp)
        have k4:=hr2 4 (by simp)
        have k5:=hr2 5 (by simp)
        have k6:=hr2 6 (by simp)
        have k7:=hr2 7 (by simp)
        have k8:=hr2 8 (by simp)
        have k9:=hr2 9 (by simp)
        have k10:=hr2 10 (by simp)
        clear hr2
        simp [Region.binds] at k0
        subst k0
        simp [Region.binds] at k1
        subst k1
        simp [Region.binds] at k2
        subst k2
        simp [Region.binds] at k3
        subst k3
        simp [Region.binds] at k4
        subst k4
        simp [Region.binds] at k5
        subst k5
        simp [Region.binds] at k6
        subst k6
        simp [Region.binds] at k7
        subst k7
        simp [Region.binds] at k8
        subst k8
        simp [Region.binds] at k9
        subst k9
        have hp9:=h9 rfl
        clear h0 h1 h2 h3 h8 h9
        go_wp2_with fail
        refine bodyPost_ret (nresults_c1t rfl _ _ p _ _ _ _ rfl hp9 Tryz.underlying110 rfl HI.out) rfl ?_
        have he:=HEND.out _ false hT (by rw [hcd.out]; rfl)
        exact he
    subst hc
    go_region_held3 (fun w'=>TkS w gl q p (.slice A' r.length cap') C w'/\(spld19 (.pointer (some ⟨q,0,none⟩))).run Tryz.prog w'=.ok (.agg C) w'/\(spst19 (.pointer (some ⟨p,0,none⟩)) (.agg C)).run Tryz.prog w'=.ok () (w'.setRow p C))
        ((refine HSS.out _ ?_; first | (with_reducible assumption) | (refine HSE.out _ ?_; first | (with_reducible assumption) | exact (And.left (by with_reducible assumption)))))
        (first | (go_at_call 74; refine (HCL.out _ ?_).mono ?_; (first | (with_reducible assumption) | exact (And.left (by with_reducible assumption))); rintro e wa ⟨rfl,hta,hba⟩))
    all_goals
      obtain ⟨Z',h5,_⟩:=hta.there
      have hp9:=setRow_heap _ _ _ C _ _ h5
      go_wp2_with fail
      refine bodyPost_ret (nresults_c1t rfl _ _ p _ _ _ _ rfl hp9 Tryz.underlying110 rfl HI.out) rfl ?_
      have he:=HEND.out _ (S == s) (HSE.out _ hta) (Bool.eq_iff_iff.2 (by simp))
      exact he
end
end Go.Proofs.YtaficmboooaknaaGreatDoor
