import Derived.Test.YtaficmboooaknaaGreatDoorPt16
import Derived.RegionTactic
set_option maxRecDepth 100000
set_option maxHeartbeats 16000000
namespace Go.Proofs.YtaficmboooaknaaGreatDoor
section
open Go.RowKit
open Sto (T St)
open Tri (Tr Ok hb)
open Nd (N)
theorem fine_most {n:N} (hf:Nd.fine n=true):(∃ kd:Nat,(kd:Int)=n.kind/\1<=kd/\kd<=3)/\n.path.length<=16/\n.val.length<=32/\∀ x∈n.kids,x.length<=32:=by
  unfold Nd.fine at hf
  simp only [Bool.and_eq_true,decide_eq_true_eq] at hf
  obtain ⟨h1,_,h3,h4,h5⟩:=hf
  refine ⟨?_,h3,h4,fun x hx=>?_⟩
  · by_cases k1:n.kind=1
    · exact ⟨1,k1.symm,by omega,by omega⟩
    · by_cases k2:n.kind=2
      · exact ⟨2,k2.symm,by omega,by omega⟩
      · by_cases k3:n.kind=3
        · exact ⟨3,k3.symm,by omega,by omega⟩
        · rw [if_neg k1,if_neg k2,if_neg k3] at h5; cases h5
  · unfold Nd.all32 at h1
    have:=List.all_eq_true.1 h1 x hx
    simp only [Bool.or_eq_true,decide_eq_true_eq] at this
    rcases this with e | e
    · rw [e]; simp
    · omega
theorem Loaded.parts {S:St} {sum place:T} {inE:Bool} {t:Tr} {kd:Nat} {P V:T} {L:List T} (h:Loaded S sum place inE t) (hd:Sto.nodeOf S sum=(⟨kd,P,V,L⟩,0)):t.kind=kd/\t.pth=P/\t.vl=V:=by
  have e:=h.node
  rw [hd,Tri.node_kid _ h.nn] at e
  simp only [Prod.mk.injEq,N.mk.injEq,and_true] at e
  exact ⟨by omega,e.2.1.symm,e.2.2.1.symm⟩
theorem items_pos {t:Tr} (h:t.canon) (hn:¬ t.isNil):1<=t.items.length:=List.length_pos_iff.2 (fun e=>hn ((Tri.items_nil h).1 e))
theorem Only.setNew {d q:Nat} {a w:World} (h:Only d a w) (hq:a.heap.size<=q) (i:Nat) (u:Value):Only d a (w.setCell ⟨q,i,none⟩ u):=
  ⟨h.os,h.tape,h.output,by have:=h.size; simpa [World.setCell] using this,fun k hk hg=>(Below.heap_setCell w ⟨q,i,none⟩ u k (by show k≠q; omega)).trans (h.block k hk hg)⟩
def LdI (S:St) (d g n kd:Nat) (P V E sum:T) (L:List T) (hL:L.length=16) (q pb:Nat) (w:World) (i:Nat) (wr:World):Prop:=
  ∃ (k:Fin 16->Tr) (Kv:Ks) (ni:Nat),RowP wr pb kd P V Kv sum/\(∀ j:Fin 16,j.val<i->KidOf S kd E (L[j.val]'(by rw [hL]; exact j.isLt)) j (k j))/\(∀ j,PAt wr (Fm.up (pb+1)) true (k j) (Kv j))/\(∀ j:Fin 16,i<=j.val->k j=.nil)/\
    LdAt wr d g ni/\ni=n+ownN V+cntK k i/\ni<=1024/\NodeAt wr q ⟨kd,P,V,L⟩/\Only d w wr
theorem LdI.done {S:St} {d g n kd:Nat} {P V place sum:T} {L:List T} {hL:L.length=16} {q pb:Nat} {w wr:World} {inE:Bool} (h:LdI S d g n kd P V (place++P) sum L hL q pb w 16 wr) (hf:Nd.fine ⟨kd,P,V,L⟩=true)
    (hl:Sto.look S sum=some (Nd.written ⟨kd,P,V,L⟩)) (hs:Nd.sumS ⟨kd,P,V,L⟩=sum) (hp:place.length+P.length<=16) (hE:inE=true->kd=3) (hv:V≠[]->1<=place.length+P.length/\(place.length+P.length) % 2=0) (hb:w.heap.size<=pb):
    PartPost S sum place inE d g n w (.returned (.tuple #[.pointer (some ⟨pb,0,none⟩),.int .i64 0])) wr:=by
  obtain ⟨k,Kv,ni,hr,hk,hpa,-,hld,hni,hn,-,ho⟩:=h
  have hk':∀ i:Fin 16,KidOf S kd (place++P) ((⟨kd,P,V,L⟩:N).kids[i.val]'(by show i.val<L.length; rw [hL]; exact i.isLt)) i (k i):=fun i=>hk i i.isLt
  have hi:=mkT_is (n:=⟨kd,P,V,L⟩) hL hf hk'
  have hlo:=mkT_loaded (inE:=inE) (place:=place) hL hf rfl hl hs hk' hp (fun e=>by have:=hE e; show (kd:Int)=3; omega) hv
  refine ⟨_,0,ni,rfl,hld,ho,hn,Or.inl ⟨rfl,_,hlo,?_,?_⟩⟩
  · refine (PAt.iff hi.nn).2 ⟨pb,true,Kv,rfl,fun _=>rfl,hb,?_,fun i=>?_⟩
    · have e1:(mkT ⟨kd,P,V,L⟩ k).kind=kd:=by have:=hi.kind; exact Int.ofNat_inj.1 this
      rw [e1,hi.pth,hi.vl,hlo.sum]
      exact hr
    · rw [hi.kid]; exact (hpa i).upMono (by omega)
  · rw [items_count hlo.ok hi.nn,hi.vl,hni,cntK_same (k:=(mkT ⟨kd,P,V,L⟩ k).kid) (m:=k) (fun i _=>hi.kid i)]
    show n+ownN V+cntK k 16=n+(ownN V+cntK k 16)
    omega
theorem LdI.bad {S:St} {n kd:Nat} {P V place sum:T} {L:List T} {hL:L.length=16} {inE:Bool} {i:Nat} (hi:i<16) {k:Fin 16->Tr} {ni:Nat} (hk:∀ j:Fin 16,j.val<i->KidOf S kd (place++P) (L[j.val]'(by rw [hL]; exact j.isLt)) j (k j)) (hni:ni=n+ownN V+cntK k i)
    (hd:Sto.nodeOf S sum=(⟨kd,P,V,L⟩,0)) (hx:L[i]'(by omega)≠[]) (hbad:∀ t,Loaded S (L[i]'(by omega)) (placeT kd (place++P) ⟨i,hi⟩) (decide (kd=2)) t->1024<ni+t.items.length):∀ t,Loaded S sum place inE t->1024<n+t.items.length:=by
  intro t ht
  have hko:=fun j=>ht.kidOf hd (kind:=kd) rfl hL j
  obtain ⟨e1,e2,e3⟩:=ht.parts hd
  have h1:Loaded S (L[i]'(by omega)) (placeT kd (place++P) ⟨i,hi⟩) (decide (kd=2)) (t.kid ⟨i,hi⟩):=by
    rcases hko ⟨i,hi⟩ with ⟨h,_⟩ | ⟨_,h⟩
    · exact absurd h hx
    · exact h
  have h2:=hbad _ h1
  have h3:=items_count ht.ok ht.nn
  have h4:=cntK_step t.kid i hi
  have h5:=cntK_mono t.kid (i:=i+1) (j:=16) (by omega) (by omega)
  have h6:cntK k i=cntK t.kid i:=cntK_same fun j hj=>(hk j hj).one (hko j)
  rw [e3] at h3
  omega
theorem LdI.skip {S:St} {d g n kd:Nat} {P V E sum:T} {L:List T} {hL:L.length=16} {q pb:Nat} {w wr:World} {i:Nat} (hi:i<16) (h:LdI S d g n kd P V E sum L hL q pb w i wr) (hx:L[i]'(by omega)=[]):LdI S d g n kd P V E sum L hL q pb w (i+1) wr:=by
  obtain ⟨k,Kv,ni,hr,hk,hpa,hnil,hld,hni,hn,hnd,ho⟩:=h
  refine ⟨k,Kv,ni,hr,fun j hj=>?_,hpa,fun j hj=>hnil j (by omega),hld,?_,hn,hnd,ho⟩
  · by_cases e:j.val=i
    · obtain rfl:j=⟨i,hi⟩:=Fin.ext e
      exact Or.inl ⟨hx,hnil _ (Nat.le_refl _)⟩
    · exact hk j (by omega)
  · rw [cntK_step k i hi,hnil ⟨i,hi⟩ (Nat.le_refl _),hni]; rfl
theorem LdI.more {S:St} {d g n kd:Nat} {P V E sum:T} {L:List T} {hL:L.length=16} {q pb:Nat} {w wr wk:World} {i:Nat} (hi:i<16) {k:Fin 16->Tr} {Kv:Ks} {ni ni':Nat} {z:Value} {t:Tr}
    (hr:RowP wr pb kd P V Kv sum) (hk:∀ j:Fin 16,j.val<i->KidOf S kd E (L[j.val]'(by rw [hL]; exact j.isLt)) j (k j)) (hpa:∀ j,PAt wr (Fm.up (pb+1)) true (k j) (Kv j)) (hnil:∀ j:Fin 16,i<=j.val->k j=.nil) (hni:ni=n+ownN V+cntK k i) (hnd:NodeAt wr q ⟨kd,P,V,L⟩) (ho:Only d w wr)
    (hx:L[i]'(by omega)≠[]) (ht:Loaded S (L[i]'(by omega)) (placeT kd E ⟨i,hi⟩) (decide (kd=2)) t) (hpt:PAt wk (Fm.up wr.heap.size) true t z) (hn':ni'=ni+t.items.length) (hle:ni'<=1024) (hld:LdAt wk d g ni') (hok:Only d wr wk)
    (hdp:d<pb) (hdq:d≠q) (hqp:q≠pb) (hwp:w.heap.size<=pb):LdI S d g n kd P V E sum L hL q pb w (i+1) (wk.setCell ⟨pb,3+i,none⟩ z):=by
  have hpl:=lt_of_heap hr
  have hql:=lt_of_heap hnd
  have hset:∀ b,b≠pb->(wk.setCell ⟨pb,3+i,none⟩ z).heap[b]?=wk.heap[b]?:=fun b hb'=>heap_setCell_other wk ⟨pb,3+i,none⟩ b z hb'
  refine ⟨Tri.upd k ⟨i,hi⟩ t,updK Kv ⟨i,hi⟩ z,ni',?_,fun j hj=>?_,fun j=>?_,fun j hj=>?_,?_,?_,hle,?_,?_⟩
  · have h1:RowP wk pb kd P V Kv sum:=(hok.block pb hpl (by omega)).trans hr
    exact h1.setKid ⟨i,hi⟩ z
  · simp only [Tri.upd]
    split
    · rename_i e
      subst e
      exact Or.inr ⟨hx,ht⟩
    · rename_i e
      exact hk j (by have:j.val≠i:=fun h=>e (Fin.ext h); omega)
  · simp only [Tri.upd,updK]
    split
    · exact (hpt.upMono (by omega)).up fun b hb' _=>hset b (by omega)
    · exact ((hpa j).upOnly hok (by omega)).up fun b hb' _=>hset b (by omega)
  · simp only [Tri.upd]
    rw [if_neg (fun e=>by have:=congrArg Fin.val e; dsimp only at this; omega)]
    exact hnil j (by omega)
  · exact (hset d (by omega)).trans hld
  · rw [cntK_step _ i hi,cntK_same (k:=Tri.upd k ⟨i,hi⟩ t) (m:=k) (fun j hj=>by
      simp only [Tri.upd]
      rw [if_neg (fun e=>by have:=congrArg Fin.val e; dsimp only at this; omega)])]
    simp only [Tri.upd,if_true]
    omega
  · exact (hset q hqp).trans ((hok.block q hql (fun e=>hdq e.symm)).trans hnd)
  · exact (ho.trans hok).setNew hwp _ _
theorem scells_info (L:List T) (h:L.length=16):(Tryz.prog.info? 108).map (·.size)=some (scells L).length:=by rw [scells_length,h]; kernel_rfl
theorem NodeAt.rng {w:World} {g:Nat} {n:N} (h:NodeAt w g n):w.rangeAt g 3 (scells n.kids):=by
  intro j v hv
  have hj:j<n.kids.length:=by
    rcases Nat.lt_or_ge j n.kids.length with h2 | h2
    · exact h2
    · rw [List.getElem?_eq_none (by rw [scells_length]; exact h2)] at hv; cases hv
  rw [h.kid j hj]
  simpa [scells,hj] using hv
theorem index_strs (L:List T) (hL:L.length=16) (i:Nat) (hi:i<16) (w:World):(Instr.index 108 (.agg (scells L).toArray) (.int .i64 i)).run Tryz.prog w=.ok (.string ⟨(L[i]'(by omega)).toArray⟩) w:=by
  have hu:=Tryz.underlying108
  have hk0:(0:Int)<=(i:Int):=by omega
  have hk8:(i:Int)<16:=by omega
  have hat:(scells L)[i]?=some (.string ⟨(L[i]'(by omega)).toArray⟩):=by
    simp [scells,hL,hi]
  have hs:=Tryz.sizeOf9
  have ha:=Tryz.isAgg9
  unfold Instr.index
  go_simp
theorem fine_deep {kd:Nat} {place P V:T} {L:List T} (hL:L.length=16) (hf:Nd.fine ⟨kd,P,V,L⟩=true) (i:Fin 16) (hx:L[i.val]'(by rw [hL]; exact i.isLt)≠[]):place.length<(placeT kd (place++P) i).length:=by
  have hf2:=hf
  rw [Nd.fine_kinds _ hL] at hf
  unfold placeT
  by_cases k3:kd=3
  · rw [if_pos k3]
    have:(place++P++[hb i]).length=place.length+P.length+1:=by simp [Nat.add_assoc]
    omega
  · rw [if_neg k3]
    by_cases k1:kd=1
    · subst k1
      rw [if_pos (by rfl)] at hf
      simp only [Nd.leafB,Bool.and_eq_true] at hf
      exact absurd (none_at hf.2.2.2 i.val (by show i.val<L.length; rw [hL]; exact i.isLt)) hx
    · by_cases k2:kd=2
      · subst k2
        rw [if_neg (by show ¬ ((2:Int)=1); decide),if_pos (by rfl)] at hf
        simp only [Nd.extB,Bool.and_eq_true,decide_eq_true_eq] at hf
        have:=List.length_pos_iff.2 hf.1
        simp; omega
      · exfalso
        rw [if_neg (by show ¬ ((kd:Int)=1); omega),if_neg (by show ¬ ((kd:Int)=2); omega),if_neg (by show ¬ ((kd:Int)=3); omega)] at hf
        cases hf
theorem ptr_form {P1:Prop} {P2:Tr->Prop} {P3:Tr->Prop} {w:World} {F:Fm} {z:Value} {P4 P5:Prop} (h:(P1/\∃ t,P2 t/\PAt w F true t z/\P3 t)∨(P4/\z=nilp/\P5)):∃ zz,z=.pointer zz:=by
  rcases h with ⟨_,t,_,h,_⟩ | ⟨_,h,_⟩
  · rcases h.cellK with rfl | ⟨g,rfl⟩
    · exact ⟨_,rfl⟩
    · exact ⟨_,rfl⟩
  · exact ⟨_,h⟩
def NoneIs (S:St) (sum:T):Prop:=∀ (place:T) (inE:Bool) (t:Tr),¬ Loaded S sum place inE t
theorem part_step {S:St} {d g m f:Nat} (hS0:OwnSums S) (IH:PartIs S d g m f):PartIs S d g m (f+1):=by
  intro sum place inE n w hf hpl hs hn hL hSt
  have hdm:d≠m:=fun e=>hSt.map.no_cells _ _ _ _ rfl (by rw [← e]; exact hL)
  have hdg:d≠g:=fun e=>by
    have h1:=hSt.head
    rw [← e,hL] at h1
    injection h1 with h1; injection h1 with _ h1 _
    exact absurd h1 (by decide)
  have HST:Hid (∀ w',Only d w w'->StoreAt w' g m S):=qh (fun w' ho=>hSt.out (F:=fun j=>j=d) ⟨ho.os,ho.tape,ho.output,ho.size,fun i hi hne=>ho.block i hi hne⟩ (fun e=>hdg e.symm) (fun e=>hdm e.symm))
  have HND:=qh (stnode_any g m S sum w hSt (by omega))
  have HLD:=qh hL
  have hsome:=nodeOf_some hS0 (x:=sum)
  have hnone:(Sto.nodeOf S sum).2≠0->NoneIs S sum:=fun h place inE t ht=>nodeOf_none h ht
  obtain ⟨⟨nd,c⟩,hX⟩:∃ X,Sto.nodeOf S sum=X:=⟨_,rfl⟩
  rw [hX] at hsome hnone HND
  dsimp only at hsome hnone HND
  have hlc:=hL.store
  have hls:=hL.num
  have HI19:Hid ((Tryz.prog.info? 110).map (·.size)=some 19):=qh (by kernel_rfl)
  by_cases hc:c=0
  case neg=>
    have HNO:=qh (hnone hc)
    have c1:(c == 0)=false:=by rw [beq_eq_false_iff_ne]; exact hc
    have c2:(c != 0)=true:=by rw [bne_iff_ne]; exact hc
    have HC0:=qh hc
    have hk16:(Sto.nodeOf S sum).1.kids.length=16:=by
      unfold Sto.nodeOf
      split
      · rcases Nd.dec_is _ with ⟨_,_,h,_⟩ | ⟨_,h,_⟩
        · exact h
        · rw [h]; rfl
      · rfl
    rw [hX] at hk16
    have HON:=qh (ncl_one nd)
    have HSN:Hid ((ncl nd).toArray.size=19):=qh (by rw [List.size_toArray,ncl_length nd hk16])
    unfold ndval at HND
    obtain ⟨C,hC⟩:∃ C,(ncl nd).toArray=C:=⟨_,rfl⟩
    rw [hC] at HND HON HSN
    have HI:Hid ((Tryz.prog.info? 110).map (·.size)=some C.size):=qh (by rw [HSN.out]; exact HI19.out)
    have HNN:=qh hn
    clear hX hsome hnone hL hSt hk16 hC hc IH hS0 hdm hdg
    go_enter Tryz.func133,Tryz.ntmps133
    go_wp2_with fail
    refine HND.out.mono ?_
    rintro e w1 ⟨rfl,hb1⟩
    have HB2:=qh (hb1.alloc hb1.size (.cells C 110))
    clear hb1
    go_wp2_with (refine wpList_store_fresh (by rfl) _ _ _ (by rfl) w1.heap.size rfl C (by rfl) (by rfl) _ _ HI.out HSN.out.symm HON.out ?_)
    go_ret2
    exact ⟨nilp,c,n,rfl,HLD.out.below HB2.out,Only.of HB2.out,HNN.out,Or.inr ⟨HC0.out,rfl,fun t ht=>absurd ht (HNO.out _ _ _)⟩⟩
  subst hc
  obtain ⟨hfine,h16,hlook,hsum⟩:=hsome rfl
  obtain ⟨⟨kd,hkd,hk1,hk3⟩,hP,hV,hKL⟩:=fine_most hfine
  obtain ⟨kk,P,V,L⟩:=nd
  dsimp only at hkd h16 hP hV hKL
  subst hkd
  have HX:=qh hX
  have HFI:=qh hfine
  have HLO:=qh hlook
  have HSU:=qh hsum
  have HON:=qh (ncl_one ⟨kd,P,V,L⟩)
  have HSN:Hid ((ncl ⟨kd,P,V,L⟩).toArray.size=19):=qh (by rw [List.size_toArray,ncl_length _ h16])
  have HNW:Hid (∀ w1:World,NodeAt (w1.alloc (.cells (ncl ⟨kd,P,V,L⟩).toArray 110)) w1.heap.size ⟨kd,P,V,L⟩):=qh (fun w1=>heap_new_at w1 _ _ rfl)
  unfold ndval at HND
  obtain ⟨C,hC⟩:∃ C,(ncl ⟨kd,P,V,L⟩).toArray=C:=⟨_,rfl⟩
  rw [hC] at HND HON HSN HNW
  have HI:Hid ((Tryz.prog.info? 110).map (·.size)=some C.size):=qh (by rw [HSN.out]; exact HI19.out)
  have HNN:=qh hn
  have HL16:=qh h16
  have HKLS:=qh hKL
  have HPL:=qh hpl
  have HPP:=qh hP
  have HVV:=qh hV
  have HFF:=qh hf
  have HIH:=qh IH
  have HDL:=qh (lt_of_heap hL)
  have hcm:=cat_mk place P
  have hadd:∀ w,(Op.stringOp .add (⟨place.toArray⟩:ByteArray) ⟨P.toArray⟩).run Tryz.prog w=.ok (.string ⟨(place++P).toArray⟩) w:=fun w=>run_string_add_lists w place P (by omega) (by omega)
  have hsum:¬ (9223372036854775807<place.length+P.length):=by omega
  have HEL:Hid ((place++P).length=place.length+P.length):=qh List.length_append
  have hel:(place++P).length<=32:=by rw [List.length_append]; omega
  obtain ⟨E,hE⟩:∃ E,place++P=E:=⟨_,rfl⟩
  rw [hE] at hcm hadd HEL hel
  have HE:=qh hE
  have HSS:=qh hs
  clear hX hfine hlook hL hSt h16 hC IH hS0 hdm hdg hKL hP hV hE hf hpl hs hn hnone
  go_enter Tryz.func133,Tryz.ntmps133
  go_wp2_with fail
  refine HND.out.mono ?_
  rintro e w1 ⟨rfl,hb1⟩
  have HB2:=qh (hb1.alloc hb1.size (.cells C 110))
  have HN2:=qh (HNW.out w1)
  have HQW:Hid (w.heap.size<=w1.heap.size):=qh hb1.size
  clear hb1 HNW
  have cn0:=HN2.out.kind
  have cn1:=HN2.out.path
  have cn2:=HN2.out.val
  go_upto_region 4 with (refine wpList_store_fresh (by rfl) _ _ _ (by rfl) w1.heap.size rfl C (by rfl) (by rfl) _ _ HI.out HSN.out.symm HON.out ?_)
  obtain ⟨q,hq⟩:∃ q,w1.heap.size=q:=⟨_,rfl⟩
  rw [hq] at cn0 cn1 cn2 HN2 HQW ⊢
  obtain ⟨w2,hw2⟩:∃ w2,w1.alloc (.cells C 110)=w2:=⟨_,rfl⟩
  rw [hw2] at cn0 cn1 cn2 HN2 HB2 ⊢
  clear hq hw2
  by_cases hbE:inE=true/\kd≠3
  · obtain ⟨rfl,hk⟩:=hbE
    have k1:((kd:Int) != 3)=true:=by rw [bne_iff_ne]; omega
    have k2:((kd:Int) == 3)=false:=by rw [beq_eq_false_iff_ne]; omega
    have HK:=qh hk
    have HBAD:Hid (∀ t,Loaded S sum place true t->1024<n+t.items.length):=qh (fun t ht=>by
      have e:=(ht.parts HX.out).1
      have:=isBr_kind.1 (ht.br rfl)
      exact absurd (e.symm.trans this) HK.out)
    clear hk
    go_wp2
    go_ret2
    exact ⟨nilp,4,n,rfl,HLD.out.below HB2.out,Only.of HB2.out,HNN.out,Or.inr ⟨by decide,rfl,HBAD.out⟩⟩
  have HIE:Hid (inE=true->kd=3):=qh (fun h=>Classical.byContradiction fun hk=>hbE ⟨h,hk⟩)
  clear hbE
  go_upto_region 5 with fail
  go_cut [43] from 33 to 43 (fun b wx=>b=.bool (decide (16<E.length))/\wx=w2)
  case first=>
    have q5:((E.length:Int) > 16)↔16<E.length:=by omega
    have q6:decide ((16:Int)<(E.length:Int))=decide (16<E.length):=by rw [decide_eq_decide]; omega
    cases inE with
    | false=>
      go_wp2
      go_meet
      case rel=>exact ⟨rfl,rfl⟩
    | true=>
      have k0:kd=3:=HIE.out rfl
      have k1:((kd:Int) != 3)=false:=by rw [k0]; rfl
      have k2:((kd:Int) == 3)=true:=by rw [k0]; rfl
      have k3:(kd:Int)=3:=by omega
      clear k0
      go_wp2
      go_meet
      case rel=>exact ⟨rfl,rfl⟩
  case rest=>
    obtain ⟨rfl,hwc⟩:=hcut
    subst hwc
    obtain ⟨w2,rfl⟩:∃ y,y=wc:=⟨_,rfl⟩
    by_cases hlen:16<E.length
    · rw [decide_eq_true hlen]
      have HBAD:Hid (∀ t,Loaded S sum place inE t->1024<n+t.items.length):=qh (fun t ht=>by
        have e:=(ht.parts HX.out).2.1
        have h1:=ht.short
        have h2:=HEL.out
        rw [e] at h1
        omega)
      clear hlen
      go_wp2
      go_ret2
      exact ⟨nilp,4,n,rfl,HLD.out.below HB2.out,Only.of HB2.out,HNN.out,Or.inr ⟨by decide,rfl,HBAD.out⟩⟩
    rw [decide_eq_false hlen]
    have HEN:Hid (place.length+P.length<=16):=qh (by have:=HEL.out; omega)
    have HL2:=qh (HLD.out.below HB2.out)
    clear hlen
    have HQD:Hid (d≠q):=qh (by have:=HDL.out; have:=HQW.out; omega)
    by_cases hv:V=[]
    · have v1:(V == [])=true:=beq_iff_eq.2 hv
      have v2:(V != [])=false:=by rw [hv]; rfl
      have v3:V.isEmpty=true:=by rw [hv]; rfl
      have HL3:Hid (LdAt w2 d g (n+ownN V)):=qh (by rw [hv]; exact HL2.out)
      have HO3:Hid (Only d w w2):=qh (Only.of HB2.out)
      have HN3:Hid (NodeAt w2 q ⟨kd,P,V,L⟩):=HN2
      have HM3:Hid (n+ownN V<=1024):=qh (by rw [hv]; have:=HNN.out; simp [ownN]; omega)
      have HVE:Hid (V≠[]->1<=place.length+P.length/\(place.length+P.length) % 2=0):=qh (fun h=>absurd hv h)
      clear hv HB2 HN2 HL2 hcm hadd hsum
      obtain ⟨w3,rfl⟩:∃ y,y=w2:=⟨_,rfl⟩
      go_upto_region 11 with fail
      have HQL:Hid (q<w3.heap.size):=qh (lt_of_heap HN3.out)
      have HCN:Hid (∀ w',Below w3.heap.size w3 w'->w'.cell? ⟨q,0,none⟩=some (.int .i64 kd)/\w'.cell? ⟨q,1,none⟩=some (.string ⟨P.toArray⟩)/\w'.cell? ⟨q,2,none⟩=some (.string ⟨V.toArray⟩)):=qh (fun w' h=>⟨(HN3.out.below h).kind,(HN3.out.below h).path,(HN3.out.below h).val⟩)
      have HCLN:Hid (∀ w',Below w3.heap.size w3 w'->Calls Tryz.prog 46 #[.string ⟨sum.toArray⟩] w' fun e w''=>e=.returned (.string ⟨sum.toArray⟩)/\Below w3.heap.size w3 w''):=qh (fun w' h=>(dclone_any sum w' (by have:=HSS.out; omega)).mono fun e w'' q=>⟨q.1,bchain h q.2⟩)
      have BD:Below w3.heap.size w3 w3.drew:=(Below.refl _ _).drew
      obtain ⟨d0,d1,d2⟩:=HCN.out _ BD
      go_cut [14] from 53 to 62 (fun p wx=>∃ pb,p=.pointer (some ⟨pb,0,none⟩)/\RowP wx pb kd P V noK sum/\w3.heap.size<=pb/\Below w3.heap.size w3 wx)
      case first=>
        go_wp2
        go_region_held3 (fun w'=>w'.cell? ⟨q,0,none⟩=some (.int .i64 kd)/\w'.cell? ⟨q,1,none⟩=some (.string ⟨P.toArray⟩)/\w'.cell? ⟨q,2,none⟩=some (.string ⟨V.toArray⟩))
          ((first | (with_reducible exact ⟨d0,d1,d2⟩) | (refine HCN.out _ ?_; first | (with_reducible assumption) | (exact hb6.alloc hb6.size _))))
          ((go_at_call 46; refine (HCLN.out _ ?_).mono ?_; (with_reducible exact BD); rintro e w6 ⟨rfl,hb6⟩))
        all_goals
          go_wp2_with fail
          go_meet
          case rel=>exact ⟨_,rfl,RowP.new rfl,hb6.size,hb6.alloc hb6.size _⟩
      case rest=>
        obtain ⟨pb,rfl,hrow,hpb,hb4⟩:=hcut
        obtain ⟨w4,rfl⟩:∃ y,y=wc:=⟨_,rfl⟩
        have HR4:=qh hrow
        have HPB:Hid (q<pb/\d<pb/\w.heap.size<=pb):=qh ⟨by have:=HQL.out; omega,by have:=HDL.out; have:=HO3.out.size; omega,by have:=HO3.out.size; omega⟩
        have HN4:=qh (HN3.out.below hb4)
        have HL4:=qh (HL3.out.below hb4)
        have HO4:=qh (HO3.out.trans (Only.of hb4))
        have HRR:=qh HN4.out.rng
        have HI16:=qh (scells_info L HL16.out)
        have HIX:=qh (fun i hi w=>index_strs L HL16.out i hi w)
        clear hrow hpb hb4 d0 d1 d2 BD HCLN HCN hlc hls
        go_wp2_with (refine wpList_load_mid (by rfl) _ _ (by rfl) q 3 (by rfl) (scells L) _ HRR.out Tryz.underlying108 (by rfl) HI16.out ?_)
        obtain ⟨SC,hSC⟩:∃ SC,scells L=SC:=⟨_,rfl⟩
        rw [hSC] at HIX HI16 HRR ⊢
        clear hSC
        go_loopw [65] (fun iv wr=>∃ i:Nat,i<=16/\iv=.int .i64 i/\LdI S d g n kd P V E sum L HL16.out q pb w i wr) (fun i _=>16 - (intOf i).toNat)
        case atStart=>exact ⟨0,by omega,rfl,fun _=>.nil,noK,n+ownN V,HR4.out,fun j hj=>by omega,fun j=>PAt.nil _ _ _,fun _ _=>rfl,HL4.out,by simp [cntK_zero],HM3.out,HN4.out,HO4.out⟩
        case round=>
          obtain ⟨i,hi,rfl,hld⟩:=hrel
          by_cases hlt:i<16
          · have h1:(i:Int)<16:=by omega
            have h0:(0:Int)<=(i:Int):=by omega
            have nix:=HIX.out i hlt
            have hkl:=HKLS.out (L[i]'(by rw [HL16.out]; exact hlt)) (List.getElem_mem _)
            have HXI:Hid (∃ x,x=L[i]'(by rw [HL16.out]; exact hlt)):=qh ⟨_,rfl⟩
            by_cases hxe:L[i]'(by rw [HL16.out]; exact hlt)=[]
            · have HSK:=qh (LdI.skip hlt hld hxe)
              rw [hxe] at nix
              clear hld hxe hkl
              go_wp2
              exact ⟨⟨i+1,by omega,by go_num,HSK.out⟩,by simp [intOf]; omega⟩
            · obtain ⟨k,Kv,ni,hr,hk,hpa,hnil,hl,hni,hn,hnd,ho⟩:=hld
              have hdeep:=fine_deep (place:=place) HL16.out HFI.out ⟨i,hlt⟩ hxe
              rw [HE.out] at hdeep
              have hplc:(placeT kd E ⟨i,hlt⟩).length<=100:=by
                unfold placeT
                split
                · simp; omega
                · omega
              have HPLC:Hid (∀ w',Below wr.heap.size wr w'->Calls Tryz.prog 124 #[.int .i64 kd,.string ⟨E.toArray⟩,.int .i64 i] w' fun r w''=>r=.returned (.string ⟨(placeT kd E ⟨i,hlt⟩).toArray⟩)/\Below wr.heap.size wr w''):=qh (fun w' h=>(place_any kd E ⟨i,hlt⟩ w' (by omega) hk3).mono fun r w'' q=>⟨q.1,bchain h q.2⟩)
              have HKID:Hid (∀ w',Below wr.heap.size wr w'->Calls Tryz.prog 165 #[.pointer (some ⟨d,0,none⟩),.int .i64 kd,.string ⟨(L[i]'(by rw [HL16.out]; exact hlt)).toArray⟩,.string ⟨(placeT kd E ⟨i,hlt⟩).toArray⟩] w' (PartPost S (L[i]'(by rw [HL16.out]; exact hlt)) (placeT kd E ⟨i,hlt⟩) (decide (kd=2)) d g ni w')):=qh (fun w' h=>
                ldkid_any HIH.out kd _ _ ni w' (fun hp=>by have:=HFF.out; have:=HPL.out; omega) (by omega) hkl hn (hl.below h) (HST.out w' (ho.trans (Only.of h))))
              have HRW:=qh hr
              have HKK:=qh hk
              have HPA:=qh hpa
              have HNIL:=qh hnil
              have HNI:=qh hni
              have HND2:=qh hnd
              have HOW:=qh ho
              have HXN:=qh hxe
              have HCK:Hid (∀ w',Below wr.heap.size wr w'->w'.cell? ⟨q,0,none⟩=some (.int .i64 kd)):=qh (fun w' h=>(HND2.out.below h).kind)
              have HPK:Hid (∀ w' wk,Below wr.heap.size wr w'->Only d w' wk->wk.cell? ⟨pb,3+i,none⟩=some (Kv ⟨i,hlt⟩)/\wk.frozen? ⟨pb,3+i,none⟩=false/\wk.cell? ⟨q,0,none⟩=some (.int .i64 kd)/\∀ v,(wk.setCell ⟨pb,3+i,none⟩ v).cell? ⟨q,0,none⟩=some (.int .i64 kd)):=qh (fun w' wk h ho=>by
                have h2:=HRW.out.below h
                have h3:RowP wk pb kd P V Kv sum:=(ho.block pb (lt_of_heap h2) (by have:=HPB.out.2.1; omega)).trans h2
                have h4:=ho.cell (HCK.out _ h) (p:=⟨q,0,none⟩) (fun e=>HQD.out e.symm)
                exact ⟨h3.kid ⟨i,hlt⟩,h3.free _,h4,fun v=>keep_cell h4 (Nat.ne_of_lt HPB.out.1)⟩)
              obtain ⟨x,hx⟩:∃ x,L[i]'(by rw [HL16.out]; exact hlt)=x:=⟨_,rfl⟩
              have HXL:=qh hx
              have hx1:(x == [])=false:=by rw [beq_eq_false_iff_ne,← hx]; exact hxe
              have hx2:x.isEmpty=false:=by rw [← hx]; cases h:L[i]'(by rw [HL16.out]; exact hlt) with
                | nil=>exact absurd h hxe
                | cons a r=>rfl
              rw [hx] at nix HKID
              obtain ⟨pl,hplq⟩:∃ pl,placeT kd E ⟨i,hlt⟩=pl:=⟨_,rfl⟩
              have HPQ:=qh hplq
              rw [hplq] at HPLC HKID
              have BD:Below wr.heap.size wr wr.drew:=(Below.refl _ _).drew
              have cD:=HCK.out _ BD
              clear hr hk hpa hnil hl hni hn hnd ho hxe hkl hdeep hplc hx hplq HXI
              go_upto_region 16 with fail
              go_region_held3 (fun w'=>w'.cell? ⟨q,0,none⟩=some (.int .i64 kd))
                ((first | (with_reducible exact cD) | (with_reducible exact qk) | (with_reducible exact qs _) | (refine HCK.out _ ?_; with_reducible assumption)))
                (first | (go_at_call 124; refine (HPLC.out _ ?_).mono ?_; (with_reducible exact BD); rintro e wp ⟨rfl,hp1⟩) | (go_at_call 165; refine (HKID.out _ ?_).mono ?_; (with_reducible exact hp1); rintro e wk ⟨z,c,ni',rfl,hl',ho',hn',hcase⟩; obtain ⟨zz,rfl⟩:=ptr_form hcase; obtain ⟨pk,fk,qk,qs⟩:=HPK.out _ _ hp1 ho'))
              all_goals
                have HOK:Hid (Only d wr wk):=qh ((Only.of hp1).trans ho')
                have HLW:Hid (LdAt (wk.setCell ⟨pb,3+i,none⟩ (.pointer zz)) d g ni'):=qh (hl'.setNew (by have:=HPB.out.2.1; omega) _ _)
                have HNW:Hid (ni'<=1024):=qh hn'
                rcases hcase with ⟨rfl,t,ht,hpt,hnn⟩ | ⟨hc0,hz,hbad⟩
                · have HMORE:Hid (LdI S d g n kd P V E sum L HL16.out q pb w (i+1) (wk.setCell ⟨pb,3+i,none⟩ (.pointer zz))):=qh (LdI.more hlt HRW.out HKK.out HPA.out HNIL.out HNI.out HND2.out HOW.out HXN.out (t:=t) (by rw [HXL.out,HPQ.out]; exact ht) (hpt.upMono hp1.size) hnn hn' hl' HOK.out HPB.out.2.1 HQD.out (Nat.ne_of_lt HPB.out.1) HPB.out.2.2)
                  clear hp1 ho' hl' hn' ht hpt hnn pk fk qk qs
                  go_wp2
                  exact ⟨⟨i+1,by omega,by go_num,HMORE.out⟩,by simp [intOf]; omega⟩
                · have HBAD:Hid (∀ t,Loaded S sum place inE t->1024<n+t.items.length):=qh (LdI.bad (kd:=kd) (P:=P) (V:=V) (L:=L) (hL:=HL16.out) (k:=k) (ni:=ni) hlt (by rw [HE.out]; exact HKK.out) HNI.out HX.out HXN.out (by rw [HE.out,HXL.out,HPQ.out]; exact hbad))
                  have HC0:=qh hc0
                  have HOO:Hid (Only d w (wk.setCell ⟨pb,3+i,none⟩ (.pointer zz))):=qh ((HOW.out.trans HOK.out).setNew HPB.out.2.2 _ _)
                  have c1:(c == 0)=false:=by rw [beq_eq_false_iff_ne]; exact hc0
                  have c2:(c != 0)=true:=by rw [bne_iff_ne]; exact hc0
                  clear hp1 ho' hl' hn' hc0 hz hbad pk fk qk qs
                  go_wp2
                  go_ret2
                  exact ⟨nilp,c,ni',rfl,HLW.out,HOO.out,HNW.out,Or.inr ⟨HC0.out,rfl,HBAD.out⟩⟩
          · obtain rfl:i=16:=by omega
            have h1:¬ ((16:Int)<16):=by decide
            have HDONE:Hid (PartPost S sum place inE d g n w (.returned (.tuple #[.pointer (some ⟨pb,0,none⟩),.int .i64 0])) wr):=qh (by
              rw [← HE.out] at hld
              exact hld.done HFI.out HLO.out HSU.out HEN.out HIE.out HVE.out HPB.out.2.2)
            clear hld
            go_wp2
            go_ret2
            exact HDONE.out
    · have v1:(V == [])=false:=by rw [beq_eq_false_iff_ne]; exact hv
      have v2:(V != [])=true:=by rw [bne_iff_ne]; exact hv
      have v3:V.isEmpty=false:=by cases V <;> simp_all
      have HIT:=qh (lditem_any E w2 HL2.out HNN.out (by omega))
      have HVN:=qh hv
      clear hv
      go_wp2_with fail
      refine HIT.out.mono ?_
      rintro e w3 ⟨c,rfl,ho3,hcase⟩
      have HO3:Hid (Only d w w3):=qh ((Only.of HB2.out).trans ho3)
      have HN3:Hid (NodeAt w3 q ⟨kd,P,V,L⟩):=qh ((ho3.block q (lt_of_heap HN2.out) (fun e=>HQD.out e.symm)).trans HN2.out)
      rcases hcase with ⟨rfl,e1,e2,e3,hl3⟩ | ⟨hc0,hl3,hwhy⟩
      case inr=>
        have c1:(c == 0)=false:=by rw [beq_eq_false_iff_ne]; exact hc0
        have c2:(c != 0)=true:=by rw [bne_iff_ne]; exact hc0
        have HC0:=qh hc0
        have HL3:=qh hl3
        have HBAD:Hid (∀ t,Loaded S sum place inE t->1024<n+t.items.length):=qh (fun t ht=>by
          obtain ⟨e1,e2,e3⟩:=ht.parts HX.out
          have hm:=item_own (t:=t) (by rw [e3]; exact HVN.out)
          have hfi:=ht.fit _ hm
          dsimp only at hfi
          rw [e2,← HEL.out] at hfi
          have h5:=items_pos ht.ok.canon ht.nn
          rcases hwhy with h | h | h <;> omega)
        clear hc0 hl3 hwhy ho3
        go_wp2
        go_ret2
        exact ⟨nilp,c,n,rfl,HL3.out,HO3.out,HNN.out,Or.inr ⟨HC0.out,rfl,HBAD.out⟩⟩
      have HL3:Hid (LdAt w3 d g (n+ownN V)):=qh (by unfold ownN; rw [if_neg HVN.out]; exact hl3)
      have HM3:Hid (n+ownN V<=1024):=qh (by unfold ownN; rw [if_neg HVN.out]; omega)
      have HVE:Hid (V≠[]->1<=place.length+P.length/\(place.length+P.length) % 2=0):=qh (fun _=>by rw [← HEL.out]; exact ⟨e1,e2⟩)
      clear HB2 HN2 HL2 hcm hadd hsum hl3 ho3 e1 e2 e3 cn0 cn1 cn2
      go_upto_region 11 with fail
      have HQL:Hid (q<w3.heap.size):=qh (lt_of_heap HN3.out)
      have HCN:Hid (∀ w',Below w3.heap.size w3 w'->w'.cell? ⟨q,0,none⟩=some (.int .i64 kd)/\w'.cell? ⟨q,1,none⟩=some (.string ⟨P.toArray⟩)/\w'.cell? ⟨q,2,none⟩=some (.string ⟨V.toArray⟩)):=qh (fun w' h=>⟨(HN3.out.below h).kind,(HN3.out.below h).path,(HN3.out.below h).val⟩)
      have HCLN:Hid (∀ w',Below w3.heap.size w3 w'->Calls Tryz.prog 46 #[.string ⟨sum.toArray⟩] w' fun e w''=>e=.returned (.string ⟨sum.toArray⟩)/\Below w3.heap.size w3 w''):=qh (fun w' h=>(dclone_any sum w' (by have:=HSS.out; omega)).mono fun e w'' q=>⟨q.1,bchain h q.2⟩)
      have BD:Below w3.heap.size w3 w3.drew:=(Below.refl _ _).drew
      obtain ⟨d0,d1,d2⟩:=HCN.out _ BD
      go_cut [14] from 53 to 62 (fun p wx=>∃ pb,p=.pointer (some ⟨pb,0,none⟩)/\RowP wx pb kd P V noK sum/\w3.heap.size<=pb/\Below w3.heap.size w3 wx)
      case first=>
        go_wp2
        go_region_held3 (fun w'=>w'.cell? ⟨q,0,none⟩=some (.int .i64 kd)/\w'.cell? ⟨q,1,none⟩=some (.string ⟨P.toArray⟩)/\w'.cell? ⟨q,2,none⟩=some (.string ⟨V.toArray⟩))
          ((first | (with_reducible exact ⟨d0,d1,d2⟩) | (refine HCN.out _ ?_; first | (with_reducible assumption) | (exact hb6.alloc hb6.size _))))
          ((go_at_call 46; refine (HCLN.out _ ?_).mono ?_; (with_reducible exact BD); rintro e w6 ⟨rfl,hb6⟩))
        all_goals
          go_wp2_with fail
          go_meet
          case rel=>exact ⟨_,rfl,RowP.new rfl,hb6.size,hb6.alloc hb6.size _⟩
      case rest=>
        obtain ⟨pb,rfl,hrow,hpb,hb4⟩:=hcut
        obtain ⟨w4,rfl⟩:∃ y,y=wc:=⟨_,rfl⟩
        have HR4:=qh hrow
        have HPB:Hid (q<pb/\d<pb/\w.heap.size<=pb):=qh ⟨by have:=HQL.out; omega,by have:=HDL.out; have:=HO3.out.size; omega,by have:=HO3.out.size; omega⟩
        have HN4:=qh (HN3.out.below hb4)
        have HL4:=qh (HL3.out.below hb4)
        have HO4:=qh (HO3.out.trans (Only.of hb4))
        have HRR:=qh HN4.out.rng
        have HI16:=qh (scells_info L HL16.out)
        have HIX:=qh (fun i hi w=>index_strs L HL16.out i hi w)
        clear hrow hpb hb4 d0 d1 d2 BD HCLN HCN hlc hls
        go_wp2_with (refine wpList_load_mid (by rfl) _ _ (by rfl) q 3 (by rfl) (scells L) _ HRR.out Tryz.underlying108 (by rfl) HI16.out ?_)
        obtain ⟨SC,hSC⟩:∃ SC,scells L=SC:=⟨_,rfl⟩
        rw [hSC] at HIX HI16 HRR ⊢
        clear hSC
        go_loopw [65] (fun iv wr=>∃ i:Nat,i<=16/\iv=.int .i64 i/\LdI S d g n kd P V E sum L HL16.out q pb w i wr) (fun i _=>16 - (intOf i).toNat)
        case atStart=>exact ⟨0,by omega,rfl,fun _=>.nil,noK,n+ownN V,HR4.out,fun j hj=>by omega,fun j=>PAt.nil _ _ _,fun _ _=>rfl,HL4.out,by simp [cntK_zero],HM3.out,HN4.out,HO4.out⟩
        case round=>
          obtain ⟨i,hi,rfl,hld⟩:=hrel
          by_cases hlt:i<16
          · have h1:(i:Int)<16:=by omega
            have h0:(0:Int)<=(i:Int):=by omega
            have nix:=HIX.out i hlt
            have hkl:=HKLS.out (L[i]'(by rw [HL16.out]; exact hlt)) (List.getElem_mem _)
            have HXI:Hid (∃ x,x=L[i]'(by rw [HL16.out]; exact hlt)):=qh ⟨_,rfl⟩
            by_cases hxe:L[i]'(by rw [HL16.out]; exact hlt)=[]
            · have HSK:=qh (LdI.skip hlt hld hxe)
              rw [hxe] at nix
              clear hld hxe hkl
              go_wp2
              exact ⟨⟨i+1,by omega,by go_num,HSK.out⟩,by simp [intOf]; omega⟩
            · obtain ⟨k,Kv,ni,hr,hk,hpa,hnil,hl,hni,hn,hnd,ho⟩:=hld
              have hdeep:=fine_deep (place:=place) HL16.out HFI.out ⟨i,hlt⟩ hxe
              rw [HE.out] at hdeep
              have hplc:(placeT kd E ⟨i,hlt⟩).length<=100:=by
                unfold placeT
                split
                · simp; omega
                · omega
              have HPLC:Hid (∀ w',Below wr.heap.size wr w'->Calls Tryz.prog 124 #[.int .i64 kd,.string ⟨E.toArray⟩,.int .i64 i] w' fun r w''=>r=.returned (.string ⟨(placeT kd E ⟨i,hlt⟩).toArray⟩)/\Below wr.heap.size wr w''):=qh (fun w' h=>(place_any kd E ⟨i,hlt⟩ w' (by omega) hk3).mono fun r w'' q=>⟨q.1,bchain h q.2⟩)
              have HKID:Hid (∀ w',Below wr.heap.size wr w'->Calls Tryz.prog 165 #[.pointer (some ⟨d,0,none⟩),.int .i64 kd,.string ⟨(L[i]'(by rw [HL16.out]; exact hlt)).toArray⟩,.string ⟨(placeT kd E ⟨i,hlt⟩).toArray⟩] w' (PartPost S (L[i]'(by rw [HL16.out]; exact hlt)) (placeT kd E ⟨i,hlt⟩) (decide (kd=2)) d g ni w')):=qh (fun w' h=>
                ldkid_any HIH.out kd _ _ ni w' (fun hp=>by have:=HFF.out; have:=HPL.out; omega) (by omega) hkl hn (hl.below h) (HST.out w' (ho.trans (Only.of h))))
              have HRW:=qh hr
              have HKK:=qh hk
              have HPA:=qh hpa
              have HNIL:=qh hnil
              have HNI:=qh hni
              have HND2:=qh hnd
              have HOW:=qh ho
              have HXN:=qh hxe
              have HCK:Hid (∀ w',Below wr.heap.size wr w'->w'.cell? ⟨q,0,none⟩=some (.int .i64 kd)):=qh (fun w' h=>(HND2.out.below h).kind)
              have HPK:Hid (∀ w' wk,Below wr.heap.size wr w'->Only d w' wk->wk.cell? ⟨pb,3+i,none⟩=some (Kv ⟨i,hlt⟩)/\wk.frozen? ⟨pb,3+i,none⟩=false/\wk.cell? ⟨q,0,none⟩=some (.int .i64 kd)/\∀ v,(wk.setCell ⟨pb,3+i,none⟩ v).cell? ⟨q,0,none⟩=some (.int .i64 kd)):=qh (fun w' wk h ho=>by
                have h2:=HRW.out.below h
                have h3:RowP wk pb kd P V Kv sum:=(ho.block pb (lt_of_heap h2) (by have:=HPB.out.2.1; omega)).trans h2
                have h4:=ho.cell (HCK.out _ h) (p:=⟨q,0,none⟩) (fun e=>HQD.out e.symm)
                exact ⟨h3.kid ⟨i,hlt⟩,h3.free _,h4,fun v=>keep_cell h4 (Nat.ne_of_lt HPB.out.1)⟩)
              obtain ⟨x,hx⟩:∃ x,L[i]'(by rw [HL16.out]; exact hlt)=x:=⟨_,rfl⟩
              have HXL:=qh hx
              have hx1:(x == [])=false:=by rw [beq_eq_false_iff_ne,← hx]; exact hxe
              have hx2:x.isEmpty=false:=by rw [← hx]; cases h:L[i]'(by rw [HL16.out]; exact hlt) with
                | nil=>exact absurd h hxe
                | cons a r=>rfl
              rw [hx] at nix HKID
              obtain ⟨pl,hplq⟩:∃ pl,placeT kd E ⟨i,hlt⟩=pl:=⟨_,rfl⟩
              have HPQ:=qh hplq
              rw [hplq] at HPLC HKID
              have BD:Below wr.heap.size wr wr.drew:=(Below.refl _ _).drew
              have cD:=HCK.out _ BD
              clear hr hk hpa hnil hl hni hn hnd ho hxe hkl hdeep hplc hx hplq HXI
              go_upto_region 16 with fail
              go_region_held3 (fun w'=>w'.cell? ⟨q,0,none⟩=some (.int .i64 kd))
                ((first | (with_reducible exact cD) | (with_reducible exact qk) | (with_reducible exact qs _) | (refine HCK.out _ ?_; with_reducible assumption)))
                (first | (go_at_call 124; refine (HPLC.out _ ?_).mono ?_; (with_reducible exact BD); rintro e wp ⟨rfl,hp1⟩) | (go_at_call 165; refine (HKID.out _ ?_).mono ?_; (with_reducible exact hp1); rintro e wk ⟨z,c,ni',rfl,hl',ho',hn',hcase⟩; obtain ⟨zz,rfl⟩:=ptr_form hcase; obtain ⟨pk,fk,qk,qs⟩:=HPK.out _ _ hp1 ho'))
              all_goals
                have HOK:Hid (Only d wr wk):=qh ((Only.of hp1).trans ho')
                have HLW:Hid (LdAt (wk.setCell ⟨pb,3+i,none⟩ (.pointer zz)) d g ni'):=qh (hl'.setNew (by have:=HPB.out.2.1; omega) _ _)
                have HNW:Hid (ni'<=1024):=qh hn'
                rcases hcase with ⟨rfl,t,ht,hpt,hnn⟩ | ⟨hc0,hz,hbad⟩
                · have HMORE:Hid (LdI S d g n kd P V E sum L HL16.out q pb w (i+1) (wk.setCell ⟨pb,3+i,none⟩ (.pointer zz))):=qh (LdI.more hlt HRW.out HKK.out HPA.out HNIL.out HNI.out HND2.out HOW.out HXN.out (t:=t) (by rw [HXL.out,HPQ.out]; exact ht) (hpt.upMono hp1.size) hnn hn' hl' HOK.out HPB.out.2.1 HQD.out (Nat.ne_of_lt HPB.out.1) HPB.out.2.2)
                  clear hp1 ho' hl' hn' ht hpt hnn pk fk qk qs
                  go_wp2
                  exact ⟨⟨i+1,by omega,by go_num,HMORE.out⟩,by simp [intOf]; omega⟩
                · have HBAD:Hid (∀ t,Loaded S sum place inE t->1024<n+t.items.length):=qh (LdI.bad (kd:=kd) (P:=P) (V:=V) (L:=L) (hL:=HL16.out) (k:=k) (ni:=ni) hlt (by rw [HE.out]; exact HKK.out) HNI.out HX.out HXN.out (by rw [HE.out,HXL.out,HPQ.out]; exact hbad))
                  have HC0:=qh hc0
                  have HOO:Hid (Only d w (wk.setCell ⟨pb,3+i,none⟩ (.pointer zz))):=qh ((HOW.out.trans HOK.out).setNew HPB.out.2.2 _ _)
                  have c1:(c == 0)=false:=by rw [beq_eq_false_iff_ne]; exact hc0
                  have c2:(c != 0)=true:=by rw [bne_iff_ne]; exact hc0
                  clear hp1 ho' hl' hn' hc0 hz hbad pk fk qk qs
                  go_wp2
                  go_ret2
                  exact ⟨nilp,c,ni',rfl,HLW.out,HOO.out,HNW.out,Or.inr ⟨HC0.out,rfl,HBAD.out⟩⟩
          · obtain rfl:i=16:=by omega
            have h1:¬ ((16:Int)<16):=by decide
            have HDONE:Hid (PartPost S sum place inE d g n w (.returned (.tuple #[.pointer (some ⟨pb,0,none⟩),.int .i64 0])) wr):=qh (by
              rw [← HE.out] at hld
              exact hld.done HFI.out HLO.out HSU.out HEN.out HIE.out HVE.out HPB.out.2.2)
            clear hld
            go_wp2
            go_ret2
            exact HDONE.out
theorem part_any {S:St} {d g m:Nat} (hS0:OwnSums S) (f:Nat):PartIs S d g m f:=by
  induction f with
  | zero=>intro sum place inE n w hf; omega
  | succ f ih=>exact part_step hS0 ih
theorem items_good {t:Tr} (h:Ok t):∀ x∈t.items,Nib.fitL x.1=true/\x.2≠[]/\x.2.length<=32:=by
  induction t with
  | nil=>intro x hx; cases hx
  | leaf p v=>intro x hx; rw [List.mem_singleton.1 hx]; exact ⟨h.fits,h.canon,h.small.2⟩
  | ext p t ih=>
    intro x hx
    obtain ⟨q,hq,e⟩:=Tri.mem_behind.1 hx
    have h1:=ih ⟨h.canon.2.2,h.fits.2,h.small.2⟩ _ hq
    exact ⟨by rw [e]; exact Tri.fit_append.2 ⟨h.fits.1,h1.1⟩,h1.2⟩
  | br v k ih=>
    intro x hx
    rcases Tri.mem_br.1 hx with ⟨e1,e2,e3⟩ | ⟨i,q,e,hq⟩
    · exact ⟨by rw [e1]; rfl,by rw [e2]; exact e3,by rw [e2]; exact h.small.1⟩
    · have h1:=ih i ⟨h.canon.1 i,h.fits i,h.small.2 i⟩ _ hq
      refine ⟨?_,h1.2⟩
      rw [e]
      exact Tri.fit_cons.2 ⟨by rw [Tri.hb_toNat]; have:=i.isLt; omega,h1.1⟩
def keysT (t:Tr):St:=t.items.map fun x=>(Nib.joinL x.1,x.2)
theorem Loaded.trs {S:St} {sum:T} {t:Tr} (h:Loaded S sum [] false t) (hl:t.items.length<=1024):TrS (keysT t) t:=by
  have hp:t.items=Tri.paths (keysT t):=by
    unfold Tri.paths keysT
    rw [List.map_map]
    conv=>lhs; rw [← List.map_id t.items]
    refine List.map_congr_left fun x hx=>?_
    have h1:=items_good h.ok x hx
    have h2:=(h.fit x hx).2.2
    simp only [List.length_nil,Nat.zero_add] at h2
    simp only [id,Function.comp,Nib.of_join x.1 h1.1 h2]
  refine ⟨⟨h.ok.canon,h.ok.fits,hp⟩,Tri.paths_rising.1 (by rw [← hp]; exact Tri.items_rising t),fun x hx=>?_,by simp [keysT]; exact hl⟩
  obtain ⟨y,hy,rfl⟩:=List.mem_map.1 hx
  have h1:=items_good h.ok y hy
  have h2:=h.fit y hy
  simp only [List.length_nil,Nat.zero_add] at h2
  have h3:=Nib.joinL_length y.1
  have h4:=List.length_pos_iff.2 h1.2.1
  refine ⟨?_,?_,h4,h1.2.2⟩
  · show 1<=(Nib.joinL y.1).length
    omega
  · show (Nib.joinL y.1).length<=8
    omega
theorem TrS.loaded {S st:St} {t:Tr} (h:TrS S t) (hi:t.inS st) (hn:¬ t.isNil):Loaded st (t.sum Nd.sumS) [] false t:=by
  refine ⟨hn,h.ok,rfl,hi,(fun e=>by cases e),fun x hx=>?_⟩
  rw [h.tree.2.2] at hx
  obtain ⟨y,hy,rfl⟩:=List.mem_map.1 hx
  have:=h.fair y hy
  simp only [Nib.ofL_length,List.length_nil]
  omega
def LoadPost (st:St) (root:T) (w:World) (e:Ending) (w':World):Prop:=
  ∃ (z:Value) (c:Int),e=.returned (.tuple #[z,.int .i64 c])/\Below w.heap.size w w'/\
    ((c=0/\∃ g S t,z=ptr g/\TrAt w' g S/\TrS S t/\t.sum Nd.sumS=root/\t.inS st)∨(c≠0/\z=nilp/\∀ S t,TrS S t->t.inS st->t.sum Nd.sumS=root->False))
theorem tload_any {gs ms:Nat} {st:St} (root:T) (w:World) (hs:StoreAt w gs ms st) (hO:OwnSums st) (hr:root.length<=32):
    Calls Tryz.prog 92 #[.pointer (some ⟨gs,0,none⟩),.string ⟨root.toArray⟩] w (LoadPost st root w):=by
  by_cases h0:root=[]
  · subst h0
    have HNW:=qh (tnew_any w)
    unfold ptr at HNW
    clear hs hO hr
    go_enter Tryz.func92,Tryz.ntmps92
    go_wp2_with fail
    refine HNW.out.mono ?_
    rintro e w1 ⟨g,rfl,t1,-,hb1⟩
    have HT1:=qh t1
    have HB1:=qh hb1
    clear t1 hb1
    go_wp2
    go_ret2
    exact ⟨_,0,rfl,HB1.out,Or.inl ⟨rfl,g,[],.nil,rfl,HT1.out,TrS.empty,rfl,trivial⟩⟩
  have q1:(root == [])=false:=by rw [beq_eq_false_iff_ne]; exact h0
  have q2:root.isEmpty=false:=by cases root <;> simp_all
  have hb0:Below w.heap.size w (w.alloc (.cells #[.pointer (some ⟨gs,0,none⟩),.int .i64 0] 186)):=(Below.refl _ w).alloc (Nat.le_refl _) _
  have hld:LdAt (w.alloc (.cells #[.pointer (some ⟨gs,0,none⟩),.int .i64 0] 186)) w.heap.size gs 0:=heap_alloc_new w _
  have HPA:=qh (part_any hO 17 root [] false 0 _ (by simp) (by simp) hr (by omega) hld (hs.below hb0))
  have HB0:=qh hb0
  have HR0:=qh h0
  clear hs hO hr h0 hb0 hld
  go_enter Tryz.func92,Tryz.ntmps92
  go_wp2_with fail
  refine HPA.out.mono ?_
  rintro e w1 ⟨z,c,n',rfl,hl1,ho1,hn1,hcase⟩
  have HB1:Hid (Below w.heap.size w w1):=qh (HB0.out.trans (ho1.below (Nat.le_refl _) HB0.out.size))
  have hnum:=hl1.num
  obtain ⟨zz,rfl⟩:=ptr_form hcase
  rcases hcase with ⟨rfl,t,ht,hpt,hnn⟩ | ⟨hc0,hz,hbad⟩
  · have HTS:Hid (TrS (keysT t) t):=qh (ht.trs (by omega))
    have HTL:=qh ht
    have HNE:Hid (n'=(keysT t).length):=qh (by simp [keysT]; omega)
    have HPT:=qh hpt
    clear hl1 ho1 hn1 ht hpt hnn
    go_wp2
    go_ret2
    have hbA:Below w1.heap.size w1 (w1.alloc (.cells #[.pointer zz,.int .i64 n'] 84)):=(Below.refl _ w1).alloc (Nat.le_refl _) _
    refine ⟨_,0,rfl,bchain HB1.out hbA,Or.inl ⟨rfl,w1.heap.size,keysT t,t,rfl,⟨.pointer zz,t,?_,?_,HTS.out⟩,HTS.out,HTL.out.sum,HTL.out.inn⟩⟩
    · rw [← HNE.out]; exact heap_alloc_new w1 _
    · exact (HPT.out.imp (fun _ _ _ _ _=>Nat.zero_le _)).below hbA
  · have c1:(c == 0)=false:=by rw [beq_eq_false_iff_ne]; exact hc0
    have c2:(c != 0)=true:=by rw [bne_iff_ne]; exact hc0
    have HC0:=qh hc0
    have HBAD:=qh hbad
    clear hl1 ho1 hn1 hc0 hz hbad
    go_wp2
    go_ret2
    refine ⟨nilp,c,rfl,HB1.out,Or.inr ⟨HC0.out,rfl,fun S t hts hin hsu=>?_⟩⟩
    have hn:¬ t.isNil:=fun h=>HR0.out (by rw [← hsu,Tri.nil_of_isNil h]; rfl)
    have h1:=hts.loaded hin hn
    rw [hsu] at h1
    have h2:=HBAD.out t h1
    have h3:=hts.few
    rw [hts.tree.2.2] at h2
    simp [Tri.paths] at h2
    omega
end
namespace Tri
open Sto (T St Rising keys)
open Nd (N)
end Tri
section
open Go.RowKit
open Sto (T St)
open Tri (Tr Ok hb)
theorem paths_inj {S U:St} (h:Tri.paths S=Tri.paths U):S=U:=by
  unfold Tri.paths at h
  refine (List.map_inj_right fun x y e=>?_).1 h
  have e1:=congrArg Prod.fst e
  have e2:=congrArg Prod.snd e
  exact Prod.ext ((Tri.ofL_eq _ _).1 e1) e2
theorem TrS.one {S U:St} {t:Tr} (h:TrS S t) (k:TrS U t):S=U:=paths_inj (h.tree.2.2.symm.trans k.tree.2.2)
theorem TrS.same {S U st:St} {t u:Tr} (h:TrS S t) (k:TrS U u) (ht:t.inS st) (hu:u.inS st) (e:t.sum Nd.sumS=u.sum Nd.sumS):S=U:=by
  by_cases n1:t.isNil
  · by_cases n2:u.isNil
    · rw [Tri.nil_of_isNil n1] at h; rw [Tri.nil_of_isNil n2] at k
      exact h.one k
    · rw [Tri.nil_of_isNil n1] at e
      exact absurd e.symm (k.ok.sum_ne n2)
  · by_cases n2:u.isNil
    · rw [Tri.nil_of_isNil n2] at e
      exact absurd e (h.ok.sum_ne n1)
    · have:=inS_one h.ok k.ok n1 n2 ht hu e
      subst this
      exact h.one k
theorem rootS_tree {S:St} {t:Tr} (h:TrS S t):rootS S=t.sum Nd.sumS:=by
  unfold rootS
  rw [treeS_of h]
theorem root_short {S:St} {t:Tr} (h:TrS S t):(rootS S).length<=32:=by
  rw [rootS_tree h]
  by_cases hn:t.isNil
  · rw [Tri.nil_of_isNil hn]; simp [Tri.Tr.sum]
  · rw [h.ok.sum_len hn]; omega
end
section
open Sto (T St)
open Tri (Tr Ok hb)
open Nd (N)
theorem mem_nodes {dg:N->T} {t:Tr} (h:¬ t.isNil) (n:N):n∈t.nodes dg↔n=t.node dg∨∃ i,n∈(t.kid i).nodes dg:=by
  cases t with
  | nil=>exact absurd trivial h
  | leaf p v=>simp [Tri.Tr.nodes,Tri.Tr.kid]
  | ext p t=>
    rw [Tri.Tr.nodes,List.mem_cons]
    refine or_congr Iff.rfl ⟨fun h=>⟨0,by simpa [Tri.Tr.kid] using h⟩,fun ⟨i,hi⟩=>?_⟩
    simp only [Tri.Tr.kid] at hi
    split at hi
    · exact hi
    · simp [Tri.Tr.nodes] at hi
  | br v k=>
    rw [Tri.Tr.nodes,List.mem_cons]
    refine or_congr Iff.rfl ?_
    rw [List.mem_flatMap]
    exact ⟨fun ⟨i,_,hi⟩=>⟨i,hi⟩,fun ⟨i,hi⟩=>⟨i,List.mem_finRange i,hi⟩⟩
theorem sum_text {t:Tr} (h:Ok t) (hn:¬ t.isNil):t.sum Nd.sumS=Sto.sumOf (Nd.written (t.node Nd.sumS)):=by
  rw [Tri.sum_node _ hn]
  exact sumS_of (h.fine hn)
theorem kids_text {t:Tr} (h:Ok t) (hn:¬ t.isNil):Sto.kidsT (Nd.written (t.node Nd.sumS))=Nd.kidsL (List.ofFn fun i=>(t.kid i).sum Nd.sumS):=by
  unfold Sto.kidsT
  rw [Nd.dec_written _ (Tri.node_kids _ _) (h.fine hn)]
  conv=>lhs; rw [Tri.node_kid _ hn]
theorem kid_in {t:Tr} (h:Ok t) (i:Fin 16) (hk:¬ (t.kid i).isNil) (hn:¬ t.isNil):(t.kid i).sum Nd.sumS∈Sto.kidsT (Nd.written (t.node Nd.sumS)):=by
  rw [kids_text h hn,Nd.kidsL,List.mem_filter]
  exact ⟨List.mem_ofFn.2 ⟨i,rfl⟩,decide_eq_true ((h.kid i).sum_ne hk)⟩
theorem reach_nodes {S:St} {l:List T} (t:Tr):Ok t->t.inS S->¬ t.isNil->Sto.Reach S l (t.sum Nd.sumS)->∀ n∈t.nodes Nd.sumS,Sto.Reach S l (Sto.sumOf (Nd.written n)):=by
  refine Tri.kid_ind (P:=fun t=>Ok t->t.inS S->¬ t.isNil->Sto.Reach S l (t.sum Nd.sumS)->∀ n∈t.nodes Nd.sumS,Sto.Reach S l (Sto.sumOf (Nd.written n))) (fun _ _ h=>absurd trivial h) ?_ t
  intro t hn ih hok hin _ hr n hm
  rcases (mem_nodes hn n).1 hm with rfl | ⟨i,hi⟩
  · rw [← sum_text hok hn]; exact hr
  · have hk:¬ (t.kid i).isNil:=fun e=>by rw [Tri.nil_of_isNil e] at hi; cases hi
    obtain ⟨h1,h2⟩:=(inS_iff S hn).1 hin
    have h3:=((inS_iff S hk).1 (h2 i)).1
    refine ih i (hok.kid i) (h2 i) hk (Sto.Reach.step hr h1 (kid_in hok i hk hn) ?_) n hi
    exact (Sto.look_isSome S _).1 (by rw [h3]; rfl)
theorem reach_root {S:St} {l:List T} {t:Tr} (hin:t.inS S) (hn:¬ t.isNil) (hl:t.sum Nd.sumS∈l):Sto.Reach S l (t.sum Nd.sumS):=
  .here hl ((Sto.look_isSome S _).1 (by rw [((inS_iff S hn).1 hin).1]; rfl))
end
section
open Go
theorem cnt_set:∀ (L:List Bool) (i:Nat),L[i]?=some false->(L.set i true).count false+1=L.count false
  | [],i,h=>by simp at h
  | b::L,0,h=>by
    simp at h
    subst h
    simp
  | b::L,i+1,h=>by
    have:=cnt_set L i (by simpa using h)
    simp only [List.set_cons_succ,List.count_cons]
    omega
theorem ready_false {md:Region.Mode} {ops:Array Oper} {L:List Bool} {i:Nat} (h:i∈Region.ready md ops L.toArray):L[i]?=some false:=by
  have h2:=(List.mem_filter.1 h).2
  rw [Bool.and_eq_true] at h2
  have h3:=h2.1
  have e:L.toArray.getD i true=L[i]?.getD true:=by simp [Array.getD_eq_getD_getElem?]
  rw [e] at h3
  cases hx:L[i]? with
  | none=>rw [hx] at h3; simp at h3
  | some b=>rw [hx] at h3; cases b <;> simp_all
theorem ready_lt {md:Region.Mode} {ops:Array Oper} {L:List Bool} {i:Nat} (h:i∈Region.ready md ops L.toArray):i<ops.size:=by
  have h2:=(List.mem_filter.1 h).1
  simpa using h2
theorem any_inv {P:Program} {md:Region.Mode} {l:List Oper} {Q:Exit->Act->World->Prop} {I:List Bool->Act->World->Prop}
    (hstep:∀ L a w,L.length=l.length->I L a w->∀ i o,l[i]?=some o->i∈Region.ready md l.toArray L.toArray->∀ K:Act->World->Prop,(∀ a w,I (L.set i true) a w->K a w)->if Region.wanted o (yielded l.toArray a.tmps)=true then Oper.wp P o a w K Q else K (a.put o.dst undef) w)
    (hend:∀ L a w,L.length=l.length->Region.ready md l.toArray L.toArray=[]->I L a w->Q .normal a w):
    ∀ (fuel:Nat) (L:List Bool) (a:Act) (w:World),L.length=l.length->L.count false<=fuel->I L a w->wpAny P md l.toArray Q fuel L.toArray a w
  | 0,L,a,w,hl,hc,hI=>by
    have hr:Region.ready md l.toArray L.toArray=[]:=by
      cases hr:Region.ready md l.toArray L.toArray with
      | nil=>rfl
      | cons i is=>
        have:=ready_false (md:=md) (ops:=l.toArray) (L:=L) (i:=i) (by rw [hr]; simp)
        have:=cnt_set L i this
        omega
    exact ⟨hr,hend L a w hl hr hI⟩
  | fuel+1,L,a,w,hl,hc,hI=>by
    refine ⟨fun hr=>hend L a w hl hr hI,fun i hi=>?_⟩
    have hf:=ready_false hi
    have hlt:i<l.length:=by simpa using ready_lt hi
    have hs:=cnt_set L i hf
    refine wpOp_step (o:=l[i]) (by simp [hlt]) (fun K hK=>?_)
    refine hstep L a w hl hI i l[i] (by simp [hlt]) hi K (fun a' w' h=>hK a' w' ?_)
    have e:L.toArray.setIfInBounds i true=(L.set i true).toArray:=by simp
    rw [e]
    exact any_inv hstep hend fuel (L.set i true) a' w' (by simpa using hl) (by omega) h
theorem region_inv {P:Program} {id:Nat} {l:List Oper} {Q:Exit->Act->World->Prop} {a:Act} {w:World} (I:List Bool->Act->World->Prop) (hm:P.follows .mixedOrders=true)
    (h0:I (List.replicate l.length false) a w.drew)
    (hstep:∀ L a w,L.length=l.length->I L a w->∀ i o,l[i]?=some o->i∈Region.ready .any l.toArray L.toArray->∀ K:Act->World->Prop,(∀ a w,I (L.set i true) a w->K a w)->if Region.wanted o (yielded l.toArray a.tmps)=true then Oper.wp P o a w K Q else K (a.put o.dst undef) w)
    (hend:∀ L a w,L.length=l.length->Region.ready .any l.toArray L.toArray=[]->I L a w->Q .normal a w):
    (Code.region id l.toArray true).wp P Q a w:=by
  refine wp_region_any hm ?_
  have e:Array.replicate l.toArray.size false=(List.replicate l.length false).toArray:=by simp
  rw [e]
  exact any_inv hstep hend _ _ _ _ (by simp) (by simp) h0
end
section
open Go.RowKit
open Sto (T)
open Tri (Tr Ok upd ix hb lay splitT Trim rank)
open Nd (N)
end
section
open Go.RowKit
open Sto (T St)
open Tri (Tr)
def coverS (S:St) (f e:T):List T:=wantedT (fun p=>Tri.inL p f e) (treeS S)
def trailS (S:St) (k:T):List T:=wantedT (fun p=>Tri.begins p (Nib.ofL k)) (treeS S)
theorem strail_any {g:Nat} {S:St} (k:T) (w:World) (h:TrAt w g S) (hl:k.length<=1000):
    Calls Tryz.prog 93 #[ptr g,.string ⟨k.toArray⟩] w (TextsPost w (trailS S k)):=by
  obtain ⟨top,t,h1,h2,h3⟩:=h
  unfold trailS
  rw [treeS_of h3]
  exact trail_any k w hl h1 (h3.sealed h2)
end
end Go.Proofs.YtaficmboooaknaaGreatDoor
