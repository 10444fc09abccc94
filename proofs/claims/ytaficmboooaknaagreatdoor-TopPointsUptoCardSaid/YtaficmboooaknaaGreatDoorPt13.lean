import Derived.Test.YtaficmboooaknaaGreatDoorPt12
set_option maxRecDepth 100000
set_option maxHeartbeats 16000000
namespace Go.Proofs.YtaficmboooaknaaGreatDoor
section
open Go.RowKit
open Sto (T)
open Tri (Tr Ok upd ix hb lay splitT Trim rank)
def seenT (k:Fin 16->Tr) (n:Nat):List (Fin 16):=((List.finRange 16).take n).filter fun i=>!(k i).nilB
def lastT (L:List (Fin 16)):Nat:=match L.getLast? with | none=>0 | some i=>i.val
theorem seen_all (k:Fin 16->Tr):seenT k 16=Tri.there k:=by
  unfold seenT Tri.there
  rw [List.take_of_length_le (by simp)]
theorem seen_succ (k:Fin 16->Tr) (i:Fin 16):seenT k (i.val+1)=if (k i).nilB then seenT k i.val else seenT k i.val++[i]:=by
  unfold seenT
  have hl:i.val<(List.finRange 16).length:=by simp
  rw [List.take_succ_eq_append_getElem hl,List.filter_append]
  have e:(List.finRange 16)[i.val]=i:=by simp
  rw [e]
  cases h:(k i).nilB <;> simp [h]
theorem last_append (L:List (Fin 16)) (i:Fin 16):lastT (L++[i])=i.val:=by simp [lastT]
theorem seen_len (k:Fin 16->Tr) (n:Nat):(seenT k n).length<=16:=by
  unfold seenT
  refine Nat.le_trans (List.length_filter_le _ _) ?_
  simp; omega
def kcl (K:Ks):List Value:=List.ofFn K
theorem kcl_length (K:Ks):(kcl K).length=16:=by simp [kcl]
theorem RowP.range {w:World} {g k:Nat} {p x s:T} {K:Ks} (h:RowP w g k p x K s):w.rangeAt g 3 (kcl K):=by
  intro j v hv
  have hj:j<16:=by
    rcases Nat.lt_or_ge j 16 with h2 | h2
    · exact h2
    · rw [List.getElem?_eq_none (by rw [kcl_length]; exact h2)] at hv; cases hv
  have:=h.kid ⟨j,hj⟩
  rw [this]
  unfold kcl at hv
  rw [List.getElem?_ofFn,dif_pos hj] at hv
  exact hv
theorem kcl_info (K:Ks):(Tryz.prog.info? 85).map (·.size)=some (kcl K).length:=by rw [kcl_length]; kernel_rfl
theorem index_kids (K:Ks) (i:Fin 16) (w:World):(Instr.index 85 (.agg (kcl K).toArray) (.int .i64 i.val)).run Tryz.prog w=.ok (K i) w:=by
  have hi:=i.isLt
  have hu:=Tryz.underlying85
  have hk0:(0:Int)<=(i.val:Int):=by omega
  have hk8:(i.val:Int)<16:=by omega
  have hat:(kcl K)[i.val]?=some (K i):=by
    unfold kcl
    rw [List.getElem?_ofFn,dif_pos hi]
  have hs:=Tryz.sizeOf82
  have ha:=Tryz.isAgg82
  unfold Instr.index
  go_simp
theorem PAt.ptr {w:World} {F:Fm} {s:Bool} {t:Tr} {v:Value} (h:PAt w F s t v) (hn:¬ t.isNil):∃ g,v=.pointer (some ⟨g,0,none⟩):=by
  obtain ⟨g,_,_,e,_⟩:=h.row hn; exact ⟨g,e⟩
theorem narrow0 {v:T} {k:Fin 16->Tr} (h:Tri.there k=[]):Tri.narrowT v k=.leaf [] v:=by unfold Tri.narrowT; rw [h]
theorem narrow1 {v:T} {k:Fin 16->Tr} {i:Fin 16} (h:Tri.there k=[i]):Tri.narrowT v k=if v=[] then lay [hb i] (k i) else .br v k:=by unfold Tri.narrowT; rw [h]
theorem narrow2 {v:T} {k:Fin 16->Tr} {i j:Fin 16} {r:List (Fin 16)} (h:Tri.there k=i::j::r):Tri.narrowT v k=.br v k:=by unfold Tri.narrowT; rw [h]
theorem narrow_any {y:T} {k:Fin 16->Tr} {g:Nat} (w:World) (F:Fm) (hF:F.fresh w) (h:PAt w F false (.br y k) (ptr g)) (hlow:∀ i,(k i).low):
    Calls Tryz.prog 189 #[ptr g] w (MadeT w F (Tri.narrowT y k)):=by
  obtain ⟨g',s',K,e,-,-,hr,hk⟩:=h.row id
  obtain rfl:=ptr_inj e
  have HR:=qh hr
  have HK:Hid (∀ i,PAt w F false (k i) (K i)):=qh (fun i=>(hk i).weak)
  have HH:=qh h
  have HRG:=qh hr.range
  have HI:=qh (kcl_info K)
  have HKE:=qh (fun (i:Fin 16) w=>index_kids K i w)
  have HLF:=qh (leaf_any [] y w F hF)
  have HBH:Hid (∀ (i:Fin 16) w',Below w.heap.size w w'->¬ (k i).isNil->Calls Tryz.prog 140 #[K i,.string ⟨[hb i].toArray⟩] w' (MadeT w' F (lay [hb i] (k i)))):=qh (fun i w' hbw hn=>
    behind_any [hb i] w' F (hF.size hbw.size) ((hk i).weak.below hbw) (Or.inr hn) (by simp) (by
      have:=hlow i
      cases hki:k i <;> simp_all [Tri.Tr.low,Tri.Tr.pth] <;> omega))
  obtain ⟨NT,hNT⟩:∃ NT,Tri.narrowT y k=NT:=⟨_,rfl⟩
  rw [hNT]
  have HNT:=qh hNT
  clear hNT
  unfold MadeT at HLF HBH ⊢
  unfold ptr
  have hcl:=hk
  clear h hr hk hcl
  go_enter Tryz.func189,Tryz.ntmps189
  go_wp2_with (refine wpList_load_mid (by rfl) _ _ (by rfl) g 3 (by rfl) (kcl K) _ HRG.out Tryz.underlying85 (by rfl) HI.out ?_)
  obtain ⟨KC,hKC⟩:∃ KC,kcl K=KC:=⟨_,rfl⟩
  rw [hKC] at HKE HI HRG ⊢
  clear hKC
  go_loop [3,4,11] (fun a hs i=>∃ n:Nat,n<=16/\i=.int .i64 n/\a=.int .i64 (lastT (seenT k n))/\hs=.int .i64 ((seenT k n).length:Nat)) (fun _ _ i=>16 - (intOf i).toNat)
  case atStart=>exact ⟨0,Nat.zero_le _,rfl,rfl,rfl⟩
  case round=>
    obtain ⟨n,hn,rfl,rfl,rfl⟩:=hrel
    by_cases hlt:n<16
    · obtain ⟨i,hi⟩:∃ i:Fin 16,i.val=n:=⟨⟨n,hlt⟩,rfl⟩
      have h1:(n:Int)<16:=by omega
      have h0:(0:Int)<=(n:Int):=by omega
      have n0:=HKE.out i
      rw [hi] at n0
      have HST:=qh (seen_succ k i)
      rw [hi] at HST
      have HLA:=qh (last_append (seenT k n) i)
      rw [hi] at HLA
      have hsl:=seen_len k n
      obtain ⟨L,hL⟩:∃ L,seenT k n=L:=⟨_,rfl⟩
      rw [hL] at HST hsl HLA ⊢
      have z0:IntKind.i64.wrap ((L.length:Int)+1)=(L.length:Int)+1:=IntWalk.i64_in _ (by omega)
      have hki:=HK.out i
      by_cases hnl:(k i).isNil
      · have e:K i=.pointer none:=by rw [Tri.isNil_eq hnl] at hki; exact hki
        rw [e] at n0
        rw [if_pos ((Tri.nilB_iff _).2 hnl)] at HST
        clear hki hnl hL e hsl
        go_wp2
        exact ⟨⟨n+1,by omega,by go_num,by rw [HST.out],by rw [HST.out]⟩,by simp [intOf]; omega⟩
      · obtain ⟨g6,e⟩:=hki.ptr hnl
        rw [e] at n0
        have hnb:(k i).nilB=false:=by
          cases hh:(k i).nilB with
          | false=>rfl
          | true=>exact absurd ((Tri.nilB_iff _).1 hh) hnl
        rw [if_neg (by rw [hnb]; decide)] at HST
        clear hki hnl hL e hsl hnb
        go_wp2
        exact ⟨⟨n+1,by omega,by go_num,by rw [HST.out,HLA.out],by rw [HST.out,List.length_append]; go_num⟩,by simp [intOf]; omega⟩
    · obtain rfl:n=16:=by omega
      rw [seen_all]
      have HTH:Hid (∀ i,i∈Tri.there k->¬ (k i).isNil):=qh (fun i hi=>Tri.mem_there.1 hi)
      have n2:=HR.out.val
      have n2':w.cell? ⟨g,2,none⟩=some (.string ⟨y.toArray⟩):=n2
      clear n2
      cases hL:Tri.there k with
      | nil=>
        replace HNT:Hid (NT=.leaf [] y):=qh (HNT.out.symm.trans (narrow0 hL))
        have e1:((lastT ([]:List (Fin 16)):Nat):Int)=0:=rfl
        clear hL
        go_wp2_with fail
        refine HLF.out.mono ?_
        rintro r w1 ⟨v,rfl,hp,hb⟩
        go_wp2
        go_ret
        rw [HNT.out]
        exact ⟨v,rfl,hp,hb⟩
      | cons i r=>
        cases r with
        | cons j r=>
          replace HNT:Hid (NT=.br y k):=qh (HNT.out.symm.trans (narrow2 hL))
          have e2:(((i::j::r).length:Nat):Int)=(r.length:Int)+2:=by simp; omega
          have e3:((r.length:Int)+2 == 0)=false:=by rw [beq_eq_false_iff_ne]; omega
          have e4:((r.length:Int)+2 == 1)=false:=by rw [beq_eq_false_iff_ne]; omega
          obtain ⟨la,hla⟩:∃ la,lastT (i::j::r)=la:=⟨_,rfl⟩
          rw [e2,hla]
          clear hL hla e2
          go_wp2
          go_ret
          rw [HNT.out]
          exact ⟨_,rfl,HH.out,Below.refl _ _⟩
        | nil=>
          have HNI:=qh (HTH.out i (by rw [hL]; exact List.mem_singleton.2 rfl))
          replace HNT:Hid (NT=if y=[] then lay [hb i] (k i) else .br y k):=qh (HNT.out.symm.trans (narrow1 hL))
          have e1:lastT [i]=i.val:=rfl
          rw [e1]
          have e2:(([i].length:Nat):Int)=1:=rfl
          rw [e2]
          clear hL HTH e2
          by_cases hy:y=[]
          · subst hy
            rw [if_pos rfl] at HNT
            have hi:=i.isLt
            have n3:=HR.out.kid i
            obtain ⟨vk,hvk⟩:∃ vk,K i=vk:=⟨_,rfl⟩
            rw [hvk] at n3
            have HBI:Hid (∀ w',Below w.heap.size w w'->Calls Tryz.prog 140 #[vk,.string ⟨[hb i].toArray⟩] w' fun e w''=>∃ v,e=.returned v/\PAt w'' F false (lay [hb i] (k i)) v/\Below w'.heap.size w' w''):=qh (fun w' hbw=>by rw [← hvk]; exact HBH.out i w' hbw HNI.out)
            have HHF:=qh (fun w=>half_any i w)
            have HCB:Hid (∀ w',Below w.heap.size w w'->w'.cell? ⟨g,3+i.val,none⟩=some vk):=qh (fun w' hbw=>by rw [← hvk]; exact (HR.out.below hbw).kid i)
            have z0:(0:Int)<=(i.val:Int):=by omega
            have z1:(i.val:Int)<16:=by omega
            obtain ⟨n,hn⟩:∃ n,i.val=n:=⟨_,rfl⟩
            rw [hn] at n3 HHF HCB z0 z1 ⊢
            clear hvk hi HBH hn
            go_upto_region 12 with fail
            have BD:Below w.heap.size w w.drew:=(Below.refl _ _).drew
            have n4:w.drew.cell? ⟨g,3+n,none⟩=some vk:=n3
            go_region_held3 (fun w'=>w'.cell? ⟨g,3+n,none⟩=some vk)
              ((first | (with_reducible exact n4) | (with_reducible exact n5) | (with_reducible exact n7)))
              (first | (go_at_call 155; refine (HHF.out _).mono ?_; rintro e w6 ⟨rfl,hb6⟩; have hb6':=bchain BD hb6; have n5:=HCB.out _ hb6') | (go_at_call 140; refine (HBI.out _ ?_).mono ?_; (with_reducible exact hb6'); rintro e w7 ⟨v7,rfl,hp7,hb7⟩; have hb7':=bchain hb6' hb7; have n7:=HCB.out _ hb7'))
            all_goals
              go_wp2
              go_ret
              rw [HNT.out]
              exact ⟨v7,rfl,hp7,hb7'⟩
          · rw [if_neg hy] at HNT
            have hye:(y == [])=false:=by rw [beq_eq_false_iff_ne]; exact hy
            clear HBH
            go_wp2
            go_ret
            rw [HNT.out]
            exact ⟨_,rfl,HH.out,Below.refl _ _⟩
end
section
open Go.RowKit
open Sto (T)
open Tri (Tr Ok upd ix hb lay splitT Trim rank)
open Nd (N)
def st19 (a v:Value):Sem Unit:=Instr.storeAt 110 a v
theorem storeAt19 (a v:Value):Instr.storeAt 110 a v=st19 a v:=rfl
attribute [local go_sem ↓] storeAt19
def zero19:Array Value:=#[.int .i64 0,.string ⟨#[]⟩,.string ⟨#[]⟩,.string ⟨#[]⟩,.string ⟨#[]⟩,.string ⟨#[]⟩,.string ⟨#[]⟩,.string ⟨#[]⟩,.string ⟨#[]⟩,.string ⟨#[]⟩,.string ⟨#[]⟩,.string ⟨#[]⟩,.string ⟨#[]⟩,.string ⟨#[]⟩,.string ⟨#[]⟩,.string ⟨#[]⟩,.string ⟨#[]⟩,.string ⟨#[]⟩,.string ⟨#[]⟩]
def lit19 (kd:Nat) (p x:T):Array Value:=#[.int .i64 kd,.string ⟨p.toArray⟩,.string ⟨x.toArray⟩,.string ⟨#[]⟩,.string ⟨#[]⟩,.string ⟨#[]⟩,.string ⟨#[]⟩,.string ⟨#[]⟩,.string ⟨#[]⟩,.string ⟨#[]⟩,.string ⟨#[]⟩,.string ⟨#[]⟩,.string ⟨#[]⟩,.string ⟨#[]⟩,.string ⟨#[]⟩,.string ⟨#[]⟩,.string ⟨#[]⟩,.string ⟨#[]⟩,.string ⟨#[]⟩]
theorem run_st19 {w:World} {C old:Array Value} (hi:(Tryz.prog.info? 110).map (·.size)=some C.size) (ho:old.size=C.size) (h1:C.all (·.oneCell')=true):
    (st19 (.pointer (some ⟨w.heap.size,0,none⟩)) (.agg C)).run Tryz.prog (w.alloc (.cells old 110))=.ok () (w.alloc (.cells C 110)):=by
  unfold st19
  simp only [Instr.storeAt,Instr.sureAddr,Sem.run_bind,Sem.run_pure,Result.andThen_ok,run_storeVar_row (w.alloc (.cells old 110)) w.heap.size 110 110 old C (heap_alloc_new w _) hi ho h1]
  rw [World.setRow_alloc_new]
theorem ncl_set (kd:Int) (p x:T) (L:List T) (k:Nat) (y:T):(ncl ⟨kd,p,x,L⟩).toArray.setIfInBounds (3+k) (.string ⟨y.toArray⟩)=(ncl ⟨kd,p,x,L.set k y⟩).toArray:=by
  rw [List.setIfInBounds_toArray]
  congr 1
  unfold ncl
  rw [Nat.add_comm 3 k]
  simp only [List.set_cons_succ]
  rw [scells_set]
theorem ncl_ones (n:N):(ncl n).toArray.all (·.oneCell')=true:=by
  rw [← Array.all_toList,List.all_eq_true]
  intro v hv
  simp only [ncl,scells,List.mem_cons,List.mem_map] at hv
  rcases hv with rfl | rfl | rfl | ⟨y,_,rfl⟩ <;> rfl
theorem pnode_any {t:Tr} {g:Nat} {s:T} {K:Ks} {F:Fm} (w:World) (hr:RowP w g t.kind t.pth t.vl K s) (hk:∀ i,PAt w F true (t.kid i) (K i)) (hn:¬ t.isNil):
    Calls Tryz.prog 101 #[ptr g] w fun e w'=>e=.returned (ndval (t.node Nd.sumS))/\Below w.heap.size w w':=by
  rw [Tri.node_kid _ hn]
  have HK:=qh hk
  have HR:=qh hr
  unfold ptr
  obtain ⟨kd,hkd⟩:∃ kd,t.kind=kd:=⟨_,rfl⟩
  obtain ⟨p,hp⟩:∃ p,t.pth=p:=⟨_,rfl⟩
  obtain ⟨x,hx⟩:∃ x,t.vl=x:=⟨_,rfl⟩
  rw [hkd,hp,hx] at HR ⊢
  obtain ⟨SL,hSL⟩:∃ SL,(List.ofFn fun i=>(t.kid i).sum Nd.sumS)=SL:=⟨_,rfl⟩
  have HSL:Hid (SL.length=16/\∀ i:Fin 16,SL[i.val]?=some ((t.kid i).sum Nd.sumS)):=qh (by
    rw [← hSL]
    exact ⟨by simp,fun i=>by rw [List.getElem?_ofFn,dif_pos i.isLt]⟩)
  rw [hSL]
  unfold ndval
  obtain ⟨A,hA⟩:∃ A,(ncl ⟨(kd:Int),p,x,SL⟩).toArray=A:=⟨_,rfl⟩
  rw [hA]
  have HA:=qh hA
  clear hr hk hkd hp hx hSL hA
  go_enter Tryz.func101,Tryz.ntmps101
  go_upto_region 1 with fail
  obtain ⟨q,hq⟩:∃ q,w.heap.size=q:=⟨_,rfl⟩
  obtain ⟨w0,hw0⟩:∃ w0,w.alloc (.cells zero19 110)=w0:=⟨_,rfl⟩
  have HQB:Hid (w0.heap[q]?=some (.cells zero19 110 (0,0))):=qh (by rw [← hw0,← hq]; exact heap_alloc_new w _)
  have HB0:Hid (Below w.heap.size w w0):=qh (by rw [← hw0]; exact (Below.refl _ w).alloc (Nat.le_refl _) _)
  have HQ0:Hid (q<w0.heap.size):=qh (lt_of_heap HQB.out)
  unfold zero19 at hw0
  rw [hw0,hq]
  have HQ:=qh hq
  have HG:Hid (∀ w',Below w0.heap.size w0 w'->w'.cell? ⟨g,0,none⟩=some (.int .i64 kd)/\w'.cell? ⟨g,1,none⟩=some (.string ⟨p.toArray⟩)/\w'.cell? ⟨g,2,none⟩=some (.string ⟨x.toArray⟩)):=qh (fun w' hb=>by
    have k1:=(HR.out.below HB0.out).below hb
    exact ⟨k1.kind,k1.path,k1.val⟩)
  have hst:(st19 (.pointer (some ⟨w0.heap.size,0,none⟩)) (.agg (lit19 kd p x))).run Tryz.prog ((w0.alloc (.cells zero19 110)).drew)=.ok () ((w0.alloc (.cells (lit19 kd p x) 110)).drew):=run_st19 (w:=w0.drew) (by kernel_rfl) rfl (by simp [lit19,Value.oneCell'])
  unfold lit19 zero19 at hst
  have B1:Below w0.heap.size w0 w0.drew:=(Below.refl _ _).drew
  have B2:=((Below.refl w0.heap.size w0).alloc (Nat.le_refl _) (.cells zero19 110)).drew
  have B3:=((Below.refl w0.heap.size w0).alloc (Nat.le_refl _) (.cells (lit19 kd p x) 110)).drew
  unfold zero19 at B2
  unfold lit19 at B3
  obtain ⟨c0,c1,c2⟩:=HG.out _ B1
  clear hw0 hq
  go_region_held3 (fun w'=>w'.cell? ⟨g,0,none⟩=some (.int .i64 kd)/\w'.cell? ⟨g,1,none⟩=some (.string ⟨p.toArray⟩)/\w'.cell? ⟨g,2,none⟩=some (.string ⟨x.toArray⟩))
    ((first | (with_reducible exact ⟨c0,c1,c2⟩) | (refine HG.out _ ?_; with_reducible assumption)))
    (fail)
  obtain ⟨q2,hq2⟩:∃ q2,w0.heap.size=q2:=⟨_,rfl⟩
  obtain ⟨w1,hw1⟩:∃ w1,(w0.alloc (.cells (lit19 kd p x) 110)).drew=w1:=⟨_,rfl⟩
  have HN0:Hid (NodeAt w1 q2 ⟨kd,p,x,Nd.part []⟩):=qh (by
    rw [← hw1,← hq2]
    exact heap_alloc_new w0 _)
  have HB1:Hid (Below w.heap.size w w1/\w1.heap[q]?=some (.cells zero19 110 (0,0))/\w.heap.size<=q2/\q≠q2):=qh (by
    have h1:Below w0.heap.size w0 w1:=by rw [← hw1]; exact ((Below.refl w0.heap.size w0).alloc (Nat.le_refl _) _).drew
    have:=HQ0.out
    have:=HB0.out.size
    exact ⟨bchain HB0.out h1,(h1.block q HQ0.out).trans HQB.out,by omega,by omega⟩)
  unfold lit19 at hw1
  rw [hw1,hq2]
  have HRR:=qh ((HR.out.below HB1.out.1).range)
  have HI:=qh (kcl_info K)
  have HKE:=qh (fun (i:Fin 16) w=>index_kids K i w)
  clear c0 c1 c2 hst B1 B2 B3 hw1 hq2 HG
  go_wp2_with (refine wpList_load_mid (by rfl) _ _ (by rfl) g 3 (by rfl) (kcl K) _ HRR.out Tryz.underlying85 (by rfl) HI.out ?_)
  obtain ⟨KC,hKC⟩:∃ KC,kcl K=KC:=⟨_,rfl⟩
  rw [hKC] at HKE HI HRR ⊢
  clear hKC
  go_loopw [23] (fun i wr=>∃ k:Nat,k<=16/\i=.int .i64 k/\NodeAt wr q2 ⟨kd,p,x,Nd.part (SL.take k)⟩/\Out (fun j=>j=q2) w1 wr) (fun i _=>16 - (intOf i).toNat)
  case atStart=>exact ⟨0,Nat.zero_le _,rfl,HN0.out,Out.refl _ _⟩
  case round=>
    obtain ⟨k,hk,rfl,hna,hou⟩:=hrel
    have HNA:=qh hna
    have HOU:=qh hou
    have HGQ:Hid (g≠q2):=qh (fun e=>by have:=lt_of_heap HR.out; have:=HB1.out.2.2.1; omega)
    by_cases hlt:k<16
    · obtain ⟨i,hi⟩:∃ i:Fin 16,i.val=k:=⟨⟨k,hlt⟩,rfl⟩
      have h1:(k:Int)<16:=by omega
      have h0:(0:Int)<=(k:Int):=by omega
      have n0:=HKE.out i
      rw [hi] at n0
      have hti:SL.take (k+1)=SL.take k++[(t.kid i).sum Nd.sumS]:=by
        have h2:=HSL.out.2 i
        rw [hi] at h2
        rw [List.take_add_one,h2]; rfl
      have htl:(SL.take k).length=k:=by rw [List.length_take,HSL.out.1]; omega
      have hki:=HK.out i
      by_cases hnl:(t.kid i).isNil
      · have e:K i=.pointer none:=by rw [Tri.isNil_eq hnl] at hki; exact hki
        rw [e] at n0
        have HST:Hid (Nd.part (SL.take (k+1))=Nd.part (SL.take k)):=qh (by
          rw [hti,Tri.isNil_eq hnl]
          exact (Nd.part_nil _ (by rw [htl]; exact hlt)).symm)
        clear hki hnl e hna hou hti htl
        go_wp2
        exact ⟨⟨k+1,by omega,by go_num,by rw [HST.out]; exact HNA.out,HOU.out⟩,by simp [intOf]; omega⟩
      · obtain ⟨g6,s6,K6,e,hs6,-,hr6,-⟩:=hki.row hnl
        have e':K i=.pointer (some ⟨g6,0,none⟩):=e
        rw [hs6 rfl,if_pos rfl] at hr6
        rw [e'] at n0
        have hg6:g6≠q2:=fun e=>by have:=lt_of_heap hr6; have:=HB1.out.2.2.1; omega
        have n19:wr.cell? ⟨g6,19,none⟩=some (.string ⟨((t.kid i).sum Nd.sumS).toArray⟩):=hou.cell (hr6.below HB1.out.1).sum hg6
        have hpl:(Nd.part (SL.take k)).length=16:=Nd.part_len _ (by rw [htl]; omega)
        have m3:=hna.kid k (by rw [hpl]; exact hlt)
        have f3:wr.frozen? ⟨q2,3+k,none⟩=false:=frozen_of_row _ _ _ _ _ hna
        obtain ⟨y,hy⟩:∃ y,(t.kid i).sum Nd.sumS=y:=⟨_,rfl⟩
        rw [hy] at n19 hti
        obtain ⟨y2,hy2⟩:∃ y2,(Nd.part (SL.take k))[k]'(by rw [hpl]; exact hlt)=y2:=⟨_,rfl⟩
        have m3':wr.cell? ⟨q2,3+k,none⟩=some (.string ⟨y2.toArray⟩):=by rw [m3,hy2]
        have HST:Hid (NodeAt (wr.setCell ⟨q2,3+k,none⟩ (.string ⟨y.toArray⟩)) q2 ⟨kd,p,x,Nd.part (SL.take (k+1))⟩):=qh (by
          have h2:=heap_setCell_same _ _ (3+k) _ _ (.string ⟨y.toArray⟩) hna
          rw [ncl_set] at h2
          have h3:=Nd.part_set (SL.take k) y (by rw [htl]; exact hlt)
          rw [htl] at h3
          rw [h3] at h2
          rw [hti]
          exact h2)
        have HOS:=qh (hou.setCell (p:=⟨q2,3+k,none⟩) rfl (.string ⟨y.toArray⟩))
        clear hki hnl e e' hna hou hti htl m3 hy2 hr6 hy hpl hg6
        go_wp2
        exact ⟨⟨k+1,by omega,by go_num,HST.out,HOS.out⟩,by simp [intOf]; omega⟩
    · have h1:¬ ((k:Int)<16):=by omega
      obtain rfl:k=16:=by omega
      rw [List.take_of_length_le (by rw [HSL.out.1]; omega),Nd.part_all _ HSL.out.1] at HNA
      have hcs:(ncl ⟨kd,p,x,SL⟩).toArray.size=19:=by rw [List.size_toArray,ncl_length _ HSL.out.1]
      have HIN:Hid ((Tryz.prog.info? 110).map (·.size)=some (ncl ⟨kd,p,x,SL⟩).toArray.size):=qh (by rw [hcs]; kernel_rfl)
      have HON:=qh (ncl_ones ⟨kd,p,x,SL⟩)
      have HQR:Hid (wr.heap[q]?=some (.cells zero19 110 (0,0))):=qh ((HOU.out.block q (lt_of_heap HB1.out.2.1) HB1.out.2.2.2).trans HB1.out.2.1)
      have HOL:Hid (zero19.size=(ncl ⟨kd,p,x,SL⟩).toArray.size):=qh (by rw [hcs]; rfl)
      have HRW:Hid (wr.heap[q2]?=some (.cells (ncl ⟨kd,p,x,SL⟩).toArray 110 (0,0))):=qh HNA.out
      have HBW:Hid (∀ A,Below w.heap.size w (wr.setRow q A)):=qh (fun A=>by
        have h2:=(HOU.out.mono (G:=fun j=>j=q2∨j=q) (fun j _ e=>Or.inl e)).setRow (q:=q) (Or.inr rfl) A
        refine HB1.out.1.trans (h2.below (fun j hj=>?_) HB1.out.1.size)
        rcases hj with rfl | rfl
        · exact HB1.out.2.2.1
        · exact Nat.le_of_eq HQ.out)
      rw [HA.out] at HIN HON HOL HRW
      clear hcs hna hou HNA
      go_wp2_with (first | (refine wpList_load_row (by rfl) _ _ (by rfl) q2 (by rfl) _ A _ _ HRW.out Tryz.underlying110 (by rfl) HIN.out ?_) | (refine wpList_store_row (by rfl) _ _ _ (by rfl) q A (by rfl) (by rfl) _ _ HQR.out HIN.out HOL.out HON.out ?_))
      exact bodyPost_ret (v:=.agg A) (results_cell_row rfl _ _ q _ _ _ _ rfl (setRow_at HQR.out) Tryz.underlying110 rfl HIN.out) rfl ⟨rfl,HBW.out A⟩
theorem Tab.mid {w w':World} {B:Nat} (h:Tab w) (hb:Below B w w') (hB:0<B):Tab w':=fun i hi=>(hb.cell (p:=⟨0,i,none⟩) hB).trans (h i hi)
theorem from_mono (B:Nat):∀ s g,Fm.from B s g->Fm.from B true g:=fun _ _ _ e=>by cases e
def Keeps (B:Nat) (w w':World):Prop:=(∀ s u z,PAt w (Fm.from B) s u z->PAt w' (Fm.from B) s u z)/\(∀ g k p x K s,RowP w g k p x K s->∃ s',RowP w' g k p x K s')/\(∀ (g:Nat) (cs:Array Value) (ty:TypeId) (fl:Nat × Nat),ty≠87->w.heap[g]?=some (Obj.cells cs ty fl)->w'.heap[g]?=some (Obj.cells cs ty fl))
theorem Keeps.refl (B:Nat) (w:World):Keeps B w w:=⟨fun _ _ _ h=>h,fun _ _ _ _ _ s h=>⟨s,h⟩,fun _ _ _ _ _ h=>h⟩
theorem Keeps.trans {B:Nat} {a b c:World} (h:Keeps B a b) (k:Keeps B b c):Keeps B a c:=⟨fun s u z q=>k.1 s u z (h.1 s u z q),fun g kk p x K s q=>by
  obtain ⟨s',q'⟩:=h.2.1 g kk p x K s q
  exact k.2.1 g kk p x K s' q',fun g cs ty fl ht q=>k.2.2 g cs ty fl ht (h.2.2 g cs ty fl ht q)⟩
theorem Keeps.below {B:Nat} {w w':World} (h:Below w.heap.size w w'):Keeps B w w':=⟨fun _ _ _ q=>q.below h,fun _ _ _ _ _ s q=>⟨s,q.below h⟩,fun g _ _ _ _ q=>(h.block g (lt_of_heap q)).trans q⟩
def SealTo (t:Tr):Prop:=∀ (v:Value) (w:World) (B:Nat),0<B->B<=w.heap.size->Tab w->Ok t->PAt w (Fm.from B) false t v->
  Calls Tryz.prog 61 #[v] w fun e w'=>e=.returned (.tuple #[])/\PAt w' (Fm.from B) true t v/\Keeps B w w'/\Below B w w'
theorem seal_nil (w:World) (B:Nat):
    Calls Tryz.prog 61 #[.pointer none] w fun e w'=>e=.returned (.tuple #[])/\PAt w' (Fm.from B) true .nil (.pointer none)/\Keeps B w w'/\Below B w w':=by
  go_enter Tryz.func61,Tryz.ntmps61
  go_wp2
  exact bodyPost_ret (results_none rfl _ _ _) rfl ⟨rfl,rfl,Keeps.refl _ _,Below.refl _ _⟩
theorem seal_done {t:Tr} {g:Nat} {K:Ks} (w:World) (B:Nat) (hn:¬ t.isNil) (ho:Ok t) (hr:RowP w g t.kind t.pth t.vl K (t.sum Nd.sumS)) (hk:∀ i,PAt w (Fm.from B) true (t.kid i) (K i)):
    Calls Tryz.prog 61 #[ptr g] w fun e w'=>e=.returned (.tuple #[])/\PAt w' (Fm.from B) true t (ptr g)/\Keeps B w w'/\Below B w w':=by
  have n19:=hr.sum
  have hne:(t.sum Nd.sumS == [])=false:=by rw [beq_eq_false_iff_ne]; exact ho.sum_ne hn
  have HP:Hid (PAt w (Fm.from B) true t (ptr g)):=qh ((PAt.iff hn).2 ⟨g,true,K,rfl,fun _=>rfl,(fun h=>by cases h),hr,hk⟩)
  obtain ⟨S,hS⟩:∃ S,t.sum Nd.sumS=S:=⟨_,rfl⟩
  rw [hS] at n19 hne
  unfold ptr at HP ⊢
  clear hr hk hS
  go_enter Tryz.func61,Tryz.ntmps61
  go_wp2
  exact bodyPost_ret (results_none rfl _ _ _) rfl ⟨rfl,HP.out,Keeps.refl _ _,Below.refl _ _⟩
theorem seal_open {t:Tr} (IH:∀ i,SealTo (t.kid i)) {g:Nat} {K:Ks} (w:World) (B:Nat) (hB:0<B) (hBw:B<=w.heap.size) (hT:Tab w) (hn:¬ t.isNil) (ho:Ok t) (hr:RowP w g t.kind t.pth t.vl K []) (hg:B<=g) (hk:∀ i,PAt w (Fm.from B) false (t.kid i) (K i)):
    Calls Tryz.prog 61 #[ptr g] w fun e w'=>e=.returned (.tuple #[])/\PAt w' (Fm.from B) true t (ptr g)/\Keeps B w w'/\Below B w w':=by
  have n19:=hr.sum
  have HR:=qh hr
  have HRG:=qh hr.range
  have HI:=qh (kcl_info K)
  have HKE:=qh (fun (i:Fin 16) w=>index_kids K i w)
  have HK:=qh hk
  have HIH:=qh (fun (i:Fin 16) (w':World) (hb:Below B w w') (hp:PAt w' (Fm.from B) false (t.kid i) (K i))=>IH i (K i) w' B hB (Nat.le_trans hBw hb.size) (hT.mid hb hB) (ho.kid i) hp)
  have HTB:=qh (fun (w':World) (hb:Below B w w')=>hT.mid hb hB)
  have HN:=qh (fun (w':World) (sx:T) (hr:RowP w' g t.kind t.pth t.vl K sx) (hk:∀ i,PAt w' (Fm.from B) true (t.kid i) (K i))=>pnode_any w' hr hk hn)
  have HSL:Hid (∀ (w':World) (sx:T),RowP w' g t.kind t.pth t.vl K sx->(∀ i,PAt w' (Fm.from B) true (t.kid i) (K i))->PAt (w'.setCell ⟨g,19,none⟩ (.string ⟨(t.sum Nd.sumS).toArray⟩)) (Fm.from B) true t (ptr g)/\Keeps B w' (w'.setCell ⟨g,19,none⟩ (.string ⟨(t.sum Nd.sumS).toArray⟩))):=qh (fun w' sx hr hk=>by
    refine ⟨PAt.seal (from_mono B) (fun e=>by cases e) hn hr hk,fun s u z h=>PAt.seals (from_mono B) hr hk h,fun g' kk p x K' s h=>?_,fun g' cs ty fl ht h=>?_⟩
    by_cases e:g'=g
    · subst e; exact ⟨_,h.seal _⟩
    · exact ⟨s,(Below.heap_setCell _ ⟨g,19,none⟩ _ g' e).trans h⟩
    · have e:g'≠g:=fun e=>by
        subst e
        unfold RowP at hr
        rw [hr] at h
        injection h with h; injection h with _ h _
        exact ht h.symm
      exact (Below.heap_setCell _ ⟨g,19,none⟩ _ g' e).trans h)
  have HDG:Hid (∀ w',Tab w'->Calls Tryz.prog 100 #[ndval (t.node Nd.sumS)] w' fun e w''=>e=.returned (.string ⟨(t.sum Nd.sumS).toArray⟩)/\Below w'.heap.size w' w''):=qh (fun w' h=>by
    rw [Tri.sum_node _ hn]
    exact ndigest_any _ w' (Tri.node_kids _ _) h)
  obtain ⟨S,hS⟩:∃ S,t.sum Nd.sumS=S:=⟨_,rfl⟩
  obtain ⟨ND,hND⟩:∃ ND,ndval (t.node Nd.sumS)=ND:=⟨_,rfl⟩
  rw [hS] at HSL HDG
  rw [hND] at HDG HN
  unfold ptr at HSL HN ⊢
  clear hr hk hT IH hS hND hn ho
  go_enter Tryz.func61,Tryz.ntmps61
  go_wp2_with (refine wpList_load_mid (by rfl) _ _ (by rfl) g 3 (by rfl) (kcl K) _ HRG.out Tryz.underlying85 (by rfl) HI.out ?_)
  obtain ⟨KC,hKC⟩:∃ KC,kcl K=KC:=⟨_,rfl⟩
  rw [hKC] at HKE HI HRG ⊢
  clear hKC
  go_loopw [17] (fun i wr=>∃ k:Nat,k<=16/\i=.int .i64 k/\(∀ j:Fin 16,j.val<k->PAt wr (Fm.from B) true (t.kid j) (K j))/\Keeps B w wr/\Below B w wr) (fun i _=>16 - (intOf i).toNat)
  case atStart=>exact ⟨0,Nat.zero_le _,rfl,fun j hj=>absurd hj (Nat.not_lt_zero _),Keeps.refl _ _,Below.refl _ _⟩
  case round=>
    obtain ⟨k,hk,rfl,hks,hkp,hbw⟩:=hrel
    have HKS:=qh hks
    have HKP:=qh hkp
    have HBW:=qh hbw
    by_cases hlt:k<16
    · obtain ⟨i,hi⟩:∃ i:Fin 16,i.val=k:=⟨⟨k,hlt⟩,rfl⟩
      have h1:(k:Int)<16:=by omega
      have h0:(0:Int)<=(k:Int):=by omega
      have n0:=HKE.out i
      rw [hi] at n0
      have HC:=qh (HIH.out i wr hbw (hkp.1 _ _ _ (HK.out i)))
      have HII:=qh hi
      obtain ⟨vk,hvk⟩:∃ vk,K i=vk:=⟨_,rfl⟩
      rw [hvk] at n0 HC
      have HVK:=qh hvk
      clear hks hkp hbw hi hvk
      go_wp2_with fail
      refine HC.out.mono ?_
      rintro e w2 ⟨rfl,hp2,hk2,hb2⟩
      have HP2:=qh hp2
      have HK2:=qh hk2
      have HB2:=qh hb2
      clear hp2 hk2 hb2
      go_wp2
      refine ⟨⟨k+1,by omega,by go_num,fun j hj=>?_,HKP.out.trans HK2.out,HBW.out.trans HB2.out⟩,by simp [intOf]; omega⟩
      by_cases e:j.val<k
      · exact HK2.out.1 _ _ _ (HKS.out j e)
      · obtain rfl:j=i:=Fin.ext (by have:=HII.out; omega)
        rw [HVK.out]
        exact HP2.out
    · have h1:¬ ((k:Int)<16):=by omega
      obtain rfl:k=16:=by omega
      obtain ⟨sx,hrx⟩:=hkp.2.1 _ _ _ _ _ _ HR.out
      have hall:∀ i,PAt wr (Fm.from B) true (t.kid i) (K i):=fun i=>hks i i.isLt
      have HC:=qh (HN.out wr sx hrx hall)
      have HRX:=qh hrx
      have HAL:=qh hall
      clear hks hkp hbw hrx hall
      go_wp2_with fail
      refine HC.out.mono ?_
      rintro e w2 ⟨rfl,hb2⟩
      have HB2:=qh hb2
      have HBB:Hid (Below B w w2):=qh (HBW.out.trans (hb2.mono (Nat.le_trans hBw HBW.out.size)))
      clear hb2
      go_wp2_with fail
      refine (HDG.out _ (HTB.out _ HBB.out)).mono ?_
      rintro e w3 ⟨rfl,hb3⟩
      have hr3:=(HRX.out.below HB2.out).below hb3
      have hk3:∀ i,PAt w3 (Fm.from B) true (t.kid i) (K i):=fun i=>((HAL.out i).below HB2.out).below hb3
      obtain ⟨p3,q3⟩:=HSL.out w3 sx hr3 hk3
      have HP3:=qh p3
      have HQ3:Hid (Keeps B w (w3.setCell ⟨g,19,none⟩ (.string ⟨S.toArray⟩))):=qh (HKP.out.trans ((Keeps.below HB2.out).trans ((Keeps.below hb3).trans q3)))
      have HB3:Hid (Below B w (w3.setCell ⟨g,19,none⟩ (.string ⟨S.toArray⟩))):=qh ((HBB.out.trans (hb3.mono (Nat.le_trans hBw HBB.out.size))).setCell (p:=⟨g,19,none⟩) hg _)
      have m19:=hr3.sum
      have f19:=hr3.free 19
      clear hr3 hk3 p3 q3 hb3
      go_wp2
      go_end0
      exact ⟨rfl,HP3.out,HQ3.out,HB3.out⟩
theorem seal_to (t:Tr):SealTo t:=by
  induction t using Tri.kid_ind with
  | h0=>
    intro v w B _ _ _ _ h
    have e:v=.pointer none:=h
    subst e
    exact seal_nil w B
  | h t hn IH=>
    intro v w B hB hBw hT ho h
    obtain ⟨g,s',K,rfl,-,h2,hr,hk⟩:=h.row hn
    cases s' with
    | true=>exact seal_done w B hn ho hr hk
    | false=>exact seal_open IH w B hB hBw hT hn ho hr (h2 rfl) hk
theorem ptext_any {t:Tr} {g:Nat} {s:T} {K:Ks} {F:Fm} (w:World) (hr:RowP w g t.kind t.pth t.vl K s) (hk:∀ i,PAt w F true (t.kid i) (K i)) (hn:¬ t.isNil) (ho:Ok t):
    Calls Tryz.prog 87 #[ptr g] w fun e w'=>e=.returned (.string ⟨(Nd.written (t.node Nd.sumS)).toArray⟩)/\Below w.heap.size w w':=by
  have HN:=qh (pnode_any w hr hk hn)
  have HE:=qh (fun w=>nencode_any (t.node Nd.sumS) w (Tri.node_kids _ _))
  unfold Nd.encS Nd.encC at HE
  rw [ho.fine hn,if_pos rfl,if_pos rfl] at HE
  obtain ⟨S,hS⟩:∃ S,Nd.written (t.node Nd.sumS)=S:=⟨_,rfl⟩
  obtain ⟨ND,hND⟩:∃ ND,ndval (t.node Nd.sumS)=ND:=⟨_,rfl⟩
  rw [hS] at HE ⊢
  rw [hND] at HE HN
  unfold ptr at HN ⊢
  clear hr hk hn ho hS hND
  go_enter Tryz.func87,Tryz.ntmps87
  go_wp2_with fail
  refine HN.out.mono ?_
  rintro e w1 ⟨rfl,hb1⟩
  have HB:=qh hb1
  clear hb1
  go_wp2_with fail
  refine (HE.out _).mono ?_
  rintro e w2 ⟨rfl,hb2⟩
  go_wp2
  go_ret
  exact ⟨rfl,bchain HB.out hb2⟩
namespace Tri
def Tr.visits (want:T->Bool):T->Tr->List (T × Tr)
  | _,.nil=>[]
  | p,.leaf q v=>[(p,.leaf q v)]
  | p,.ext q t=>(p,.ext q t)::if want p then t.visits want (p++q) else []
  | p,.br v k=>(p,.br v k)::if want p then (List.finRange 16).flatMap fun i=>(k i).visits want (p++[hb i]) else []
end Tri
theorem flat_one {α:Type} (f:Fin 16->List α) (h:∀ i,i≠0->f i=[]):(List.finRange 16).flatMap f=f 0:=by
  rw [show List.finRange 16=0::(List.finRange 16).tail from rfl,List.flatMap_cons]
  have:(List.finRange 16).tail.flatMap f=[]:=by
    rw [List.flatMap_eq_nil_iff]
    intro i hi
    refine h i ?_
    rintro rfl
    revert hi
    decide
  rw [this,List.append_nil]
theorem flat_take {α:Type} (f:Fin 16->List α) (k:Nat) (i:Fin 16) (hi:i.val=k):(((List.finRange 16).take k).flatMap f).length+(f i).length<=((List.finRange 16).flatMap f).length:=by
  have h1:(List.finRange 16).take (k+1)=(List.finRange 16).take k++[i]:=by
    have hl:k<(List.finRange 16).length:=by have:=i.isLt; simp; omega
    rw [List.take_succ_eq_append_getElem hl]
    congr 2
    exact Fin.ext (by simp [hi])
  have h2:=congrArg (fun l=>(l.flatMap f).length) (List.take_append_drop (k+1) (List.finRange 16))
  simp only [List.flatMap_append,List.length_append,h1,List.flatMap_singleton] at h2
  omega
theorem visits_kid (want:T->Bool) (p:T) {t:Tr} (h:¬ t.isNil):t.visits want p=(p,t)::if want p then (List.finRange 16).flatMap fun i=>(t.kid i).visits want (placeT t.kind (p++t.pth) i) else []:=by
  cases t with
  | nil=>exact absurd trivial h
  | leaf q v=>
    rw [Tri.Tr.visits]
    have:((List.finRange 16).flatMap fun i=>((Tr.leaf q v).kid i).visits want (placeT (Tr.leaf q v).kind (p++(Tr.leaf q v).pth) i))=[]:=by
      rw [List.flatMap_eq_nil_iff]; intro i _; rfl
    rw [this]
    cases want p <;> rfl
  | ext q u=>
    rw [Tri.Tr.visits,flat_one _ (fun i hi=>by simp only [Tri.Tr.kid,if_neg hi]; rfl)]
    rfl
  | br v k=>
    rw [Tri.Tr.visits]
    simp [Tri.Tr.kid,placeT,Tri.Tr.kind,Tri.Tr.pth]
structure Visits (w0:World) (F:Fm) (id:Nat) (caps:Array Value) (want:T->Bool) (I:World->List (T × Tr)->Prop):Prop where
  call:∀ args w,(callFunc id args).run Tryz.prog w=.ok (.enter id args) w
  keep:∀ w' w'' L,I w' L->Below w'.heap.size w' w''->I w'' L
  step:∀ (w':World) (L:List (T × Tr)) (p:T) (t:Tr) (v:Value),L.length<100000->Below w0.heap.size w0 w'->I w' L->PAt w0 F true t v->¬ t.isNil->Ok t->Nib.fitL p=true->(∀ x∈t.items,p.length+x.1.length<=16)->
    Calls Tryz.prog id (#[v,.string ⟨p.toArray⟩]++caps) w' fun e w''=>e=.returned (.bool (want p))/\I w'' (L++[(p,t)])/\Below w0.heap.size w0 w''
def WalkTo (w0:World) (F:Fm) (id:Nat) (caps:Array Value) (want:T->Bool) (I:World->List (T × Tr)->Prop) (t:Tr):Prop:=
  ∀ (w':World) (L:List (T × Tr)) (p:T) (v:Value),L.length+(t.visits want p).length<=100000->Below w0.heap.size w0 w'->I w' L->PAt w0 F true t v->Ok t->Nib.fitL p=true->(∀ x∈t.items,p.length+x.1.length<=16)->
    Calls Tryz.prog 82 #[v,.string ⟨p.toArray⟩,.func (.func id) #[] caps] w' fun e w''=>e=.returned (.tuple #[])/\I w'' (L++t.visits want p)/\Below w0.heap.size w0 w''
theorem items_kid {t:Tr} (p:T) (h:∀ x∈t.items,p.length+x.1.length<=16) (i:Fin 16):∀ x∈(t.kid i).items,(placeT t.kind (p++t.pth) i).length+x.1.length<=16:=by
  intro x hx
  cases t with
  | nil=>cases hx
  | leaf q v=>cases hx
  | ext q u=>
    simp only [Tri.Tr.kid] at hx
    split at hx
    · have:=h (q++x.1,x.2) (Tri.mem_behind.2 ⟨x.1,hx,rfl⟩)
      simp [placeT,Tri.Tr.kind,Tri.Tr.pth] at this ⊢
      omega
    · cases hx
  | br v k=>
    have:=h (hb i::x.1,x.2) (Tri.mem_br.2 (Or.inr ⟨i,x.1,rfl,hx⟩))
    simp [placeT,Tri.Tr.kind,Tri.Tr.pth] at this ⊢
    omega
theorem pth_len {t:Tr} {p:T} (ho:Ok t) (hn:¬ t.isNil) (h:∀ x∈t.items,p.length+x.1.length<=16):p.length+t.pth.length<=16:=by
  have hne:t.items≠[]:=fun e=>hn ((Tri.items_nil ho.canon).1 e)
  obtain ⟨a,l,e⟩:=List.exists_cons_of_ne_nil hne
  have ha:a∈t.items:=by rw [e]; exact List.mem_cons_self ..
  have h1:=h a ha
  cases t with
  | nil=>exact absurd trivial hn
  | leaf q v=>
    obtain rfl:=List.mem_singleton.1 ha
    exact h1
  | ext q u=>
    obtain ⟨r,_,e2⟩:=Tri.mem_behind.1 ha
    rw [e2] at h1
    simp [Tri.Tr.pth] at h1 ⊢
    omega
  | br v k=>
    simp only [Tri.Tr.pth,List.length_nil]
    omega
theorem hb_fit (i:Fin 16):Nib.fitL [hb i]=true:=Tri.fit_cons.2 ⟨by rw [Tri.hb_toNat]; have:=i.isLt; omega,rfl⟩
theorem place_fit {t:Tr} {p:T} (hf:t.fits) (hp:Nib.fitL p=true) (i:Fin 16):Nib.fitL (placeT t.kind (p++t.pth) i)=true:=by
  have h1:Nib.fitL t.pth=true:=by
    cases t with
    | nil=>rfl
    | leaf q v=>exact hf
    | ext q u=>exact hf.1
    | br v k=>rfl
  have h2:=Tri.fit_append.2 ⟨hp,h1⟩
  unfold placeT
  split
  · exact Tri.fit_append.2 ⟨h2,hb_fit i⟩
  · exact h2
theorem walk_nil {w0:World} {F:Fm} {id:Nat} {caps:Array Value} {want:T->Bool} {I:World->List (T × Tr)->Prop}:WalkTo w0 F id caps want I .nil:=by
  intro w' L p v _ hb hI h _ _ _
  have e:v=.pointer none:=h
  subst e
  have HI:=qh hI
  have HB:=qh hb
  clear hI hb h
  go_enter Tryz.func82,Tryz.ntmps82
  go_wp2
  refine bodyPost_ret (results_none rfl _ _ _) rfl ⟨rfl,?_,HB.out⟩
  rw [Tri.Tr.visits,List.append_nil]
  exact HI.out
theorem walk_some {w0:World} {F:Fm} {id:Nat} {caps:Array Value} {want:T->Bool} {I:World->List (T × Tr)->Prop} (hV:Visits w0 F id caps want I) {t:Tr} (hn:¬ t.isNil) (IH:∀ i,WalkTo w0 F id caps want I (t.kid i)):WalkTo w0 F id caps want I t:=by
  intro w L p v hlen hb hI h ho hf hl
  have HV:=qh (hV.step w L p t v (by rw [visits_kid want p hn,List.length_cons] at hlen; omega) hb hI h hn ho hf hl)
  obtain ⟨g,s',K,rfl,hs,-,hr,hk⟩:=h.row hn
  obtain rfl:=hs rfl
  unfold ptr at HV ⊢
  obtain ⟨b,hbw⟩:∃ b,want p=b:=⟨_,rfl⟩
  rw [hbw] at HV
  have hcall:=hV.call
  have HKEEP:=qh hV.keep
  have HVK:=qh (visits_kid want p hn)
  have HPW:Hid (want p=b):=qh hbw
  have HB:=qh hb
  have HR:=qh hr
  have HRG:Hid (∀ w',Below w0.heap.size w0 w'->RowP w' g t.kind t.pth t.vl K (if True then t.sum Nd.sumS else [])):=qh (fun w' hb'=>by
    have:=hr.below hb'
    simpa using this)
  have HI:=qh (kcl_info K)
  have HKE:=qh (fun (i:Fin 16) w=>index_kids K i w)
  have HK:=qh hk
  have hpl:=pth_len ho hn hl
  have HPL:Hid (∀ (k:Nat),k<=3->∀ (i:Fin 16) w,Calls Tryz.prog 124 #[.int .i64 k,.string ⟨(p++t.pth).toArray⟩,.int .i64 i.val] w fun r w'=>r=.returned (.string ⟨(placeT k (p++t.pth) i).toArray⟩)/\Below w.heap.size w w'):=qh (fun k hk i w=>place_any k _ i w (by simp; omega) hk)
  have HIH:Hid (∀ (i:Fin 16) (w':World) (L':List (T × Tr)),L'.length+((t.kid i).visits want (placeT t.kind (p++t.pth) i)).length<=100000->Below w0.heap.size w0 w'->I w' L'->Calls Tryz.prog 82 #[K i,.string ⟨(placeT t.kind (p++t.pth) i).toArray⟩,.func (.func id) #[] caps] w' fun e w''=>e=.returned (.tuple #[])/\I w'' (L'++(t.kid i).visits want (placeT t.kind (p++t.pth) i))/\Below w0.heap.size w0 w''):=qh (fun i w' L' hle hb' hI'=>
    IH i w' L' _ _ hle hb' hI' (hk i) (ho.kid i) (place_fit ho.fits hf i) (items_kid p hl i))
  have hkd:t.kind<=3:=by cases t <;> simp [Tri.Tr.kind]
  obtain ⟨kd,hkd2⟩:∃ kd,t.kind=kd:=⟨_,rfl⟩
  obtain ⟨pp,hpp⟩:∃ pp,t.pth=pp:=⟨_,rfl⟩
  rw [hkd2,hpp] at HVK HRG HIH
  rw [hpp] at HPL hpl
  rw [hkd2] at hkd
  have HCM:=qh (HPL.out kd hkd)
  have HLEN:Hid (b=true->∀ k (i:Fin 16),i.val=k->(L++[(p,t)]++((List.finRange 16).take k).flatMap fun j=>(t.kid j).visits want (placeT kd (p++pp) j)).length+((t.kid i).visits want (placeT kd (p++pp) i)).length<=100000):=qh (fun hb2 k i hi=>by
    have h2:=hlen
    rw [HVK.out,hbw,if_pos hb2,List.length_cons] at h2
    have h3:=flat_take (fun j=>(t.kid j).visits want (placeT kd (p++pp) j)) k i hi
    simp only [List.length_append,List.length_singleton]
    omega)
  obtain ⟨VT,hVT⟩:∃ VT,t.visits want p=VT:=⟨_,rfl⟩
  rw [hVT] at HVK ⊢
  have cL:p.length<=1000:=by omega
  have cL2:pp.length<=1000:=by omega
  have hcm:=cat_mk p pp
  clear hlen hV h ho hf hl hr hk hb hI IH hkd2 hpp HPL hVT hbw hpl hn
  cases b with
  | false=>
    go_enter Tryz.func82,Tryz.ntmps82
    go_wp2_with fail
    refine HV.out.mono ?_
    rintro e w1 ⟨rfl,hI1,hb1⟩
    go_wp2
    refine bodyPost_ret (results_none rfl _ _ _) rfl ⟨rfl,?_,hb1⟩
    rw [HVK.out,HPW.out]
    exact hI1
  | true=>
    replace HLEN:=qh (HLEN.out rfl)
    go_enter Tryz.func82,Tryz.ntmps82
    go_wp2_with fail
    refine HV.out.mono ?_
    rintro e w1 ⟨rfl,hI1,hb1⟩
    have HI1:=qh hI1
    have HB1:=qh hb1
    have HRA:=qh (HRG.out w1 hb1).range
    clear hI1 hb1
    go_wp2_with (refine wpList_load_mid (by rfl) _ _ (by rfl) g 3 (by rfl) (kcl K) _ HRA.out Tryz.underlying85 (by rfl) HI.out ?_)
    obtain ⟨KC,hKC⟩:∃ KC,kcl K=KC:=⟨_,rfl⟩
    rw [hKC] at HKE HI HRA ⊢
    clear hKC
    go_loopw [21] (fun i wr=>∃ k:Nat,k<=16/\i=.int .i64 k/\I wr (L++[(p,t)]++((List.finRange 16).take k).flatMap fun j=>(t.kid j).visits want (placeT kd (p++pp) j))/\Below w0.heap.size w0 wr) (fun i _=>16 - (intOf i).toNat)
    case atStart=>exact ⟨0,Nat.zero_le _,rfl,by rw [List.take_zero,List.flatMap_nil,List.append_nil]; exact HI1.out,HB1.out⟩
    case round=>
      obtain ⟨k,hk,rfl,hIr,hbr⟩:=hrel
      have HIR:=qh hIr
      have HBR:=qh hbr
      by_cases hlt:k<16
      · obtain ⟨i,hi⟩:∃ i:Fin 16,i.val=k:=⟨⟨k,hlt⟩,rfl⟩
        have h1:(k:Int)<16:=by omega
        have h0:(0:Int)<=(k:Int):=by omega
        have n0:=HKE.out i
        rw [hi] at n0
        have HTK:Hid ((List.finRange 16).take (k+1)=(List.finRange 16).take k++[i]):=qh (by
          have hl:k<(List.finRange 16).length:=by simpa using hlt
          rw [List.take_succ_eq_append_getElem hl]
          congr 2
          exact Fin.ext (by simp [hi]))
        have hki:=HK.out i
        by_cases hnl:(t.kid i).isNil
        · have e:K i=.pointer none:=by rw [Tri.isNil_eq hnl] at hki; exact hki
          rw [e] at n0
          have HZ:Hid ((t.kid i).visits want (placeT kd (p++pp) i)=[]):=qh (by rw [Tri.isNil_eq hnl]; rfl)
          clear hki hnl e hIr hbr
          go_wp2
          exact ⟨⟨k+1,by omega,by go_num,by rw [HTK.out,List.flatMap_append,List.flatMap_singleton,HZ.out,List.append_nil]; exact HIR.out,HBR.out⟩,by simp [intOf]; omega⟩
        · obtain ⟨g6,e⟩:=hki.ptr hnl
          rw [e] at n0
          have HC:=qh (fun (w':World) hb' hI'=>HIH.out i w' _ (HLEN.out k i hi) hb' hI')
          rw [e] at HC
          have HPP:=qh (fun w=>HCM.out i w)
          rw [hi] at HPP
          have hrr:=HRG.out wr hbr
          have m0:wr.cell? ⟨g,0,none⟩=some (.int .i64 kd):=hrr.kind
          have HG:Hid (∀ w',Below wr.heap.size wr w'->w'.cell? ⟨g,0,none⟩=some (.int .i64 kd)/\w'.cell? ⟨g,1,none⟩=some (.string ⟨pp.toArray⟩)):=qh (fun w' hb'=>by
            have k1:=hrr.below hb'
            exact ⟨k1.kind,k1.path⟩)
          have HGB:Hid (∀ w',Below w0.heap.size w0 w'->w'.cell? ⟨g,0,none⟩=some (.int .i64 kd)/\w'.cell? ⟨g,1,none⟩=some (.string ⟨pp.toArray⟩)):=qh (fun w' hb'=>by
            have k1:=HRG.out w' hb'
            exact ⟨k1.kind,k1.path⟩)
          obtain ⟨PL,hPL⟩:∃ PL,placeT kd (p++pp) i=PL:=⟨_,rfl⟩
          rw [hPL] at HC HPP
          have HPLE:=qh hPL
          clear hki hnl e hIr hbr hrr m0 hPL hi
          go_upto_region 5 with fail
          have BD:Below w0.heap.size w0 wr.drew:=HBR.out.drew
          have hID:I wr.drew (L++[(p,t)]++((List.finRange 16).take k).flatMap fun j=>(t.kid j).visits want (placeT kd (p++pp) j)):=HKEEP.out _ _ _ HIR.out (Below.refl _ _).drew
          have HID:=qh hID
          obtain ⟨c0,c1⟩:=HGB.out _ BD
          clear hID
          go_region_with (first | (go_at_call 124; refine (HPP.out _).mono ?_; rintro e w6 ⟨rfl,hb6⟩; have hI6:=qh (HKEEP.out _ _ _ HID.out hb6); have hb6':=BD.trans (hb6.mono BD.size)) | (go_at_call 82; refine (HC.out _ ?_ hI6.out).mono ?_; (with_reducible exact hb6'); rintro e w7 ⟨rfl,hI7,hb7⟩; have hI7':=qh hI7))
          all_goals
            go_wp2
            refine ⟨⟨k+1,by omega,by go_num,?_,hb7⟩,by simp [intOf]; omega⟩
            rw [HTK.out,List.flatMap_append,List.flatMap_singleton,HPLE.out,← List.append_assoc]
            exact hI7'.out
      · have h1:¬ ((k:Int)<16):=by omega
        obtain rfl:k=16:=by omega
        clear hIr hbr
        go_wp2
        go_end0
        refine ⟨rfl,?_,HBR.out⟩
        have h2:=HIR.out
        rw [List.take_of_length_le (by simp)] at h2
        rw [HVK.out,HPW.out,if_pos rfl]
        simpa using h2
theorem walk_to {w0:World} {F:Fm} {id:Nat} {caps:Array Value} {want:T->Bool} {I:World->List (T × Tr)->Prop} (hV:Visits w0 F id caps want I) (t:Tr):WalkTo w0 F id caps want I t:=by
  induction t using Tri.kid_ind with
  | h0=>exact walk_nil
  | h t hn IH=>exact walk_some hV hn IH
end
section
open Go.RowKit
theorem pre_yes {m p:List UInt8} (h:(((⟨m.toArray⟩:ByteArray).extract 0 p.length).toList == p)=true):m.take p.length=p:=by
  rw [Lib.extract_eq] at h; simpa using h
theorem pre_no {m p:List UInt8} (h:(((⟨m.toArray⟩:ByteArray).extract 0 p.length).toList == p)=false):¬ m.take p.length=p:=by
  rw [Lib.extract_eq] at h; simpa using h
theorem side1 {p m:List UInt8} (h:(!Op.bytesLess p m)=true):Nib.sideL p m=1:=by
  unfold Nib.sideL; rw [if_pos (by simpa using h)]
theorem side0 {p m:List UInt8} (h:(!Op.bytesLess p m)=false) (h2:m.take p.length=p):Nib.sideL p m=0:=by
  unfold Nib.sideL; rw [if_neg (by simpa using h),if_pos h2]
theorem sideM {p m:List UInt8} (h:(!Op.bytesLess p m)=false) (h2:¬ m.take p.length=p):Nib.sideL p m=-1:=by
  unfold Nib.sideL; rw [if_neg (by simpa using h),if_neg h2]
theorem short_no {p m:List UInt8} (h:¬ p.length<=m.length):¬ m.take p.length=p:=by
  intro e; have:=congrArg List.length e; simp at this; omega
theorem side_any (p m:List UInt8) (w:World):
    Calls Tryz.prog 67 #[.string ⟨p.toArray⟩,.string ⟨m.toArray⟩] w fun e w'=>e=.returned (.int .i64 (Nib.sideL p m))/\w=w':=by
  go_enter Tryz.func67,Tryz.ntmps67
  go_wp2
  · go_ret
    exact ⟨by rw [side1 ‹_›]; rfl,rfl⟩
  · go_ret
    exact ⟨by rw [side0 ‹_› (pre_yes ‹_›)]; rfl,rfl⟩
  · go_ret
    exact ⟨by rw [sideM ‹_› (pre_no ‹_›)]; rfl,rfl⟩
  · go_ret
    exact ⟨by rw [sideM ‹_› (short_no ‹_›)]; rfl,rfl⟩
end
end Go.Proofs.YtaficmboooaknaaGreatDoor
