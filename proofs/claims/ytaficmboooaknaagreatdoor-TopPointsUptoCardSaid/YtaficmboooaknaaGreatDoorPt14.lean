import Derived.Test.YtaficmboooaknaaGreatDoorPt13
set_option maxRecDepth 100000
set_option maxHeartbeats 16000000
namespace Go.Proofs.YtaficmboooaknaaGreatDoor
section
open Go.RowKit
open Sto (T)
open Tri (Tr Ok upd ix hb lay splitT Trim rank)
theorem prefix_in (s p:T) (w:World):
    Calls Tryz.prog 141 #[.string ⟨s.toArray⟩,.string ⟨p.toArray⟩] w fun e w'=>e=.returned (.bool (decide (s.take p.length=p)))/\w=w':=by
  by_cases h:p.length<=s.length
  · have h1:(p.length:Int)<=(s.length:Int):=by omega
    have h0:(0:Int)<=(p.length:Int):=by omega
    have he:(((⟨s.toArray⟩:ByteArray).extract 0 p.length).toList == p)=decide (s.take p.length=p):=by
      rw [Lib.extract_eq,Bool.eq_iff_iff]; simp
    obtain ⟨b,hb⟩:∃ b,decide (s.take p.length=p)=b:=⟨_,rfl⟩
    rw [hb] at he ⊢
    clear hb
    go_enter Tryz.func141,Tryz.ntmps141
    go_wp2
    go_ret
    exact ⟨rfl,rfl⟩
  · have h1:¬ ((p.length:Int)<=(s.length:Int)):=by omega
    have he:decide (s.take p.length=p)=false:=decide_eq_false (short_no h)
    rw [he]
    clear he
    go_enter Tryz.func141,Tryz.ntmps141
    go_wp2
    go_ret
    exact ⟨rfl,rfl⟩
theorem prefix_any (s p:T) (w:World):
    Calls Tryz.prog 103 #[.string ⟨s.toArray⟩,.string ⟨p.toArray⟩] w fun e w'=>e=.returned (.bool (decide (s.take p.length=p)))/\w=w':=by
  have HP:=qh (fun w=>prefix_in s p w)
  go_enter Tryz.func103,Tryz.ntmps103
  go_wp2_with fail
  refine (HP.out _).mono ?_
  rintro e w1 ⟨rfl,rfl⟩
  go_wp2
  go_ret
  exact ⟨rfl,rfl⟩
def slen:Value->Nat
  | .string b=>b.size
  | _=>0
def fmeas (p q:Value):Nat:=match p with | .pointer none=>0 | _=>slen q+1
theorem fmeas_le (v:Value) (r:T):fmeas v (.string ⟨r.toArray⟩)<=r.length+1:=by
  unfold fmeas
  split
  · omega
  · simp [slen,ByteArray.size]
theorem fmeas_ptr (g:Nat) (q:T):fmeas (.pointer (some ⟨g,0,none⟩)) (.string ⟨q.toArray⟩)=q.length+1:=by simp [fmeas,slen,ByteArray.size]
def findT (t:Tr) (p:T):T:=(t.get p).getD []
theorem find_no {t:Tr} {p:T} (hn:¬ t.isNil) (h:p.take t.pth.length≠t.pth):findT t p=[]:=by
  unfold findT
  cases t with
  | nil=>exact absurd trivial hn
  | leaf q v=>
    rw [Tri.Tr.get,if_neg (fun e=>h (by subst e; simp [Tri.Tr.pth]))]; rfl
  | ext q u=>
    have h2:¬ p.take q.length=q:=h
    rw [Tri.Tr.get,if_neg h2]; rfl
  | br v k=>simp [Tri.Tr.pth] at h
theorem find_ext {t:Tr} {p:T} (hk:t.kind=2) (h:p.take t.pth.length=t.pth):findT t p=findT (t.kid 0) (p.drop t.pth.length):=by
  cases t with
  | ext q u=>
    have h2:p.take q.length=q:=h
    unfold findT
    rw [Tri.Tr.get,if_pos h2]
    simp [Tri.Tr.kid,Tri.Tr.pth]
  | _=>cases hk
theorem find_here {t:Tr} {p:T} (hn:¬ t.isNil) (hk:t.kind≠2) (h:p.take t.pth.length=t.pth) (hd:p.drop t.pth.length=[]):findT t p=t.vl:=by
  have e:p=t.pth:=by rw [← List.take_append_drop t.pth.length p,h,hd,List.append_nil]
  unfold findT
  cases t with
  | nil=>exact absurd trivial hn
  | leaf q v=>
    have e2:p=q:=e
    rw [Tri.Tr.get,if_pos e2]; rfl
  | ext q u=>exact absurd rfl hk
  | br v k=>
    have e2:p=[]:=e
    rw [e2,Tri.Tr.get]
    split
    · rename_i hv; rw [hv]; rfl
    · rfl
theorem find_on {t:Tr} {p r:T} {b:UInt8} (hn:¬ t.isNil) (hk:t.kind≠2) (h:p.take t.pth.length=t.pth) (hd:p.drop t.pth.length=b::r) (hb1:b.toNat<=15):findT t p=findT (t.kid (ix b)) r:=by
  unfold findT
  cases t with
  | nil=>exact absurd trivial hn
  | leaf q v=>
    rw [Tri.Tr.get,if_neg (fun e=>by subst e; simp [Tri.Tr.pth] at hd)]; rfl
  | ext q u=>exact absurd rfl hk
  | br v k=>
    have e:p=b::r:=by simpa [Tri.Tr.pth] using hd
    rw [e,Tri.Tr.get,if_pos hb1]
    rfl
theorem kid_firm {t:Tr} (h:t.firm) (i:Fin 16):(t.kid i).firm:=by
  cases t with
  | nil=>trivial
  | leaf p v=>trivial
  | ext p t=>
    simp only [Tri.Tr.kid]; split
    · exact h.2.2
    · trivial
  | br v k=>exact h i
theorem find_any {t:Tr} {v:Value} {F:Fm} {s:Bool} (p:T) (w:World) (h:PAt w F s t v) (hf:t.firm) (hp:Nib.fitL p=true) (hl:p.length<=16):
    Calls Tryz.prog 98 #[v,.string ⟨p.toArray⟩] w fun e w'=>e=.returned (.string ⟨(findT t p).toArray⟩)/\Below w.heap.size w w':=by
  obtain ⟨res,hres⟩:∃ res,findT t p=res:=⟨_,rfl⟩
  rw [hres]
  have HP:=qh (fun (s p:T) w=>prefix_any s p w)
  have H0:=qh (show ∃ (u:Tr) (q:T) (s':Bool),.string ⟨p.toArray⟩=Value.string ⟨q.toArray⟩/\PAt w F s' u v/\u.firm/\findT u q=res/\Nib.fitL q=true/\q.length<=16 from ⟨t,p,s,rfl,h,hf,hres,hp,hl⟩)
  clear h hf hp hl hres
  go_enter Tryz.func98,Tryz.ntmps98
  go_wp2
  go_loopw [0,1] (fun pz qv wr=>∃ (u:Tr) (q:T) (s':Bool) (pv:Value),pv=pz/\qv=.string ⟨q.toArray⟩/\PAt wr F s' u pv/\u.firm/\findT u q=res/\Nib.fitL q=true/\q.length<=16/\Below w.heap.size w wr) (fun pv qv _=>fmeas pv qv)
  case atStart=>
    obtain ⟨u,q,s',e,h1,h2,h3,h4,h5⟩:=H0.out
    exact ⟨u,q,s',_,rfl,e,h1,h2,h3,h4,h5,Below.refl _ _⟩
  case round=>
    obtain ⟨u,q,s',pv,rfl,rfl,h1,h2,h3,h4,h5,h6⟩:=hrel
    by_cases hn:u.isNil
    · rw [Tri.isNil_eq hn] at h1 h3
      have e:pv=.pointer none:=h1
      subst e
      have HR:Hid (res=[]):=qh h3.symm
      have HB:=qh h6
      clear h1 h2 h3 h4 h5 h6 hn
      go_wp2
      go_ret
      exact ⟨by rw [HR.out]; rfl,HB.out⟩
    · obtain ⟨g,s2,K,rfl,-,-,hr,hk⟩:=h1.row hn
      have HB:=qh h6
      have HK:=qh hk
      have HR:=qh hr
      have n0:=hr.kind
      have n1:=hr.path
      have HPX:=qh (fun w=>HP.out q u.pth w)
      by_cases hpre:q.take u.pth.length=u.pth
      · rw [decide_eq_true hpre] at HPX
        have hle:u.pth.length<=q.length:=by have:=congrArg List.length hpre; simp at this; omega
        have htail:=ext_drop q u.pth.length
        have z0:(0:Int)<=(u.pth.length:Int):=by omega
        have z1:(u.pth.length:Int)<=(q.length:Int):=by omega
        obtain ⟨r,hr'⟩:∃ r,q.drop u.pth.length=r:=⟨_,rfl⟩
        have hrf:Nib.fitL r=true:=by rw [← hr']; exact Tri.fit_drop _ h4
        have hrl:r.length+u.pth.length=q.length:=by rw [← hr']; simp; omega
        rw [hr'] at htail
        by_cases h2k:u.kind=2
        · have hpl:1<=u.pth.length:=by
            cases u with
            | ext a b=>exact List.length_pos_iff.2 h2.1
            | _=>cases h2k
          have hfe:=find_ext h2k hpre
          rw [hr',h3] at hfe
          have n3:=hr.kid 0
          have hk0:=hk 0
          have hf0:=kid_firm h2 0
          have HNX:=qh (show PAt wr F s2 (u.kid 0) (K 0)/\(u.kid 0).firm/\findT (u.kid 0) r=res/\Nib.fitL r=true/\r.length<=16 from ⟨hk0,hf0,hfe.symm,hrf,by omega⟩)
          have HLE:Hid (∀ v,fmeas v (.string ⟨r.toArray⟩)<fmeas (.pointer (some ⟨g,0,none⟩)) (.string ⟨q.toArray⟩)):=qh (fun v=>by have:=fmeas_le v r; rw [fmeas_ptr]; omega)
          rw [h2k] at n0
          obtain ⟨pp,hpp⟩:∃ pp,u.pth=pp:=⟨_,rfl⟩
          rw [hpp] at HPX n1 htail z0 z1
          obtain ⟨vk,hvk⟩:∃ vk,K 0=vk:=⟨_,rfl⟩
          have n3':wr.cell? ⟨g,3,none⟩=some vk:=by rw [← hvk]; exact n3
          rw [hvk] at HNX
          unfold ptr
          clear n3 h1 h2 h3 h4 h5 h6 hn hr hk hpre hpp hvk hk0 hf0 hfe h2k hpl hr' hrf hrl hle
          go_wp2_with fail
          refine (HPX.out _).mono ?_
          rintro e w1 ⟨rfl,rfl⟩
          go_wp2
          obtain ⟨a1,a2,a3,a4,a5⟩:=HNX.out
          exact ⟨⟨_,r,s2,_,rfl,rfl,a1,a2,a3,a4,a5,HB.out⟩,HLE.out _⟩
        · have e2:((u.kind:Int) == 2)=false:=by rw [beq_eq_false_iff_ne]; omega
          obtain ⟨kd,hkd⟩:∃ kd,u.kind=kd:=⟨_,rfl⟩
          rw [hkd] at n0 e2
          cases hd:r with
          | nil=>
            subst hd
            have HRS:Hid (res=u.vl):=qh (by rw [← h3]; exact find_here hn h2k hpre hr')
            have n2:=hr.val
            obtain ⟨pp,hpp⟩:∃ pp,u.pth=pp:=⟨_,rfl⟩
            rw [hpp] at HPX n1 htail z0 z1
            have htail':(⟨q.toArray⟩:ByteArray).extract pp.length q.length=⟨#[]⟩:=htail
            unfold ptr
            clear htail h1 h2 h3 h4 h5 h6 hn hr hk hpre hpp h2k hr' hrf hrl hle hkd
            go_wp2_with fail
            refine (HPX.out _).mono ?_
            rintro e w1 ⟨rfl,rfl⟩
            go_wp2
            go_ret
            exact ⟨by rw [HRS.out]; rfl,HB.out⟩
          | cons b r2=>
            subst hd
            obtain ⟨hb1,hf2⟩:=Tri.fit_cons.1 hrf
            have hix:=ix_val hb1
            have hfe:=find_on hn h2k hpre hr' hb1
            rw [h3] at hfe
            have n3:=hr.kid (ix b)
            rw [hix] at n3
            rw [List.length_cons] at hrl
            have HNX:=qh (show PAt wr F s2 (u.kid (ix b)) (K (ix b))/\(u.kid (ix b)).firm/\findT (u.kid (ix b)) r2=res/\Nib.fitL r2=true/\r2.length<=16 from ⟨hk _,kid_firm h2 _,hfe.symm,hf2,by omega⟩)
            have HLE:Hid (∀ v,fmeas v (.string ⟨r2.toArray⟩)<fmeas (.pointer (some ⟨g,0,none⟩)) (.string ⟨q.toArray⟩)):=qh (fun v=>by have:=fmeas_le v r2; rw [fmeas_ptr]; omega)
            have hbyte:∀ hh,(⟨(b::r2).toArray⟩:ByteArray)[0]'hh=b:=byte_drop rfl
            have htl2:(⟨(b::r2).toArray⟩:ByteArray).extract 1 (b::r2).length=⟨r2.toArray⟩:=tail_drop (n:=0) rfl
            have hne:((b::r2:List UInt8) == [])=false:=rfl
            have y0:(0:Int)<((b::r2).length:Int):=by rw [List.length_cons]; omega
            have y1:(1:Int)<=((b::r2).length:Int):=by rw [List.length_cons]; omega
            have y6:(0:Int)<=(b.toNat:Int):=by omega
            have y7:(b.toNat:Int)<16:=by omega
            obtain ⟨pp,hpp⟩:∃ pp,u.pth=pp:=⟨_,rfl⟩
            rw [hpp] at HPX n1 htail z0 z1
            obtain ⟨P,hP⟩:∃ P,b::r2=P:=⟨_,rfl⟩
            rw [hP] at htail hbyte htl2 hne y0 y1
            obtain ⟨vk,hvk⟩:∃ vk,K (ix b)=vk:=⟨_,rfl⟩
            rw [hvk] at n3 HNX
            unfold ptr
            clear h1 h2 h3 h4 h5 h6 hn hr hk hpre hpp h2k hr' hrf hrl hle hkd hvk hP hfe hix hb1 hf2
            go_wp2_with fail
            refine (HPX.out _).mono ?_
            rintro e w1 ⟨rfl,rfl⟩
            go_upto_region 3 with fail
            go_quiet (fail)
            go_wp2
            obtain ⟨a1,a2,a3,a4,a5⟩:=HNX.out
            exact ⟨⟨_,r2,s2,_,rfl,rfl,a1.below (bel_drewN (Below.refl _ _) _),a2,a3,a4,a5,bel_drewN HB.out _⟩,HLE.out _⟩
      · rw [decide_eq_false hpre] at HPX
        have HRS:Hid (res=[]):=qh (by rw [← h3]; exact find_no hn hpre)
        obtain ⟨pp,hpp⟩:∃ pp,u.pth=pp:=⟨_,rfl⟩
        rw [hpp] at HPX n1
        unfold ptr
        clear h1 h2 h3 h4 h5 h6 hn hr hk hpre hpp
        go_wp2_with fail
        refine (HPX.out _).mono ?_
        rintro e w1 ⟨rfl,rfl⟩
        go_wp2
        go_ret
        exact ⟨by rw [HRS.out]; rfl,HB.out⟩
end
namespace Tri
open Sto (T St Rising keys)
def begins (p m:T):Bool:=decide (m.take p.length=p)
def inL (p f e:T):Bool:=!decide (Nib.sideL p (Nib.ofL f)<0)&&(decide (e=[]) || decide (Nib.sideL p (Nib.ofL e)<1))
theorem side_low (p m:T):Nib.sideL p m<0↔p<m/\m.take p.length≠p:=by
  unfold Nib.sideL
  rw [less_lt]
  by_cases h:p<m
  · by_cases h2:m.take p.length=p <;> simp [h,h2]
  · simp [h]
theorem side_high (p m:T):Nib.sideL p m<1↔p<m:=by
  unfold Nib.sideL
  rw [less_lt]
  by_cases h:p<m
  · by_cases h2:m.take p.length=p <;> simp [h,h2]
  · simp [h]
theorem take_le (p x:T) (h:x.take p.length=p):p<=x:=by
  have e:x=p++x.drop p.length:=by
    have:=(List.take_append_drop p.length x).symm
    rwa [h] at this
  rw [e]
  have:∀ q r:T,q<=q++r:=fun q r=>by
    induction q with
    | nil=>exact List.nil_le _
    | cons b q ih=>exact List.not_lt.1 fun h=>(List.cons_lt_cons_iff.1 h).elim (fun h=>absurd h (UInt8.lt_irrefl b)) (fun h=>List.not_lt.2 ih h.2)
  exact this _ _
theorem begins_mid {p m x:T} (h1:p<=m) (h2:m<=x) (h3:x.take p.length=p):m.take p.length=p:=by
  induction p generalizing m x with
  | nil=>rfl
  | cons a p ih=>
    cases x with
    | nil=>simp at h3
    | cons b x=>
      simp only [List.length_cons,List.take_succ_cons,List.cons.injEq] at h3
      obtain ⟨rfl,h3⟩:=h3
      obtain ⟨q,rfl⟩:=between h1 h2
      have g1:p<=q:=List.not_lt.1 fun h=>List.not_lt.2 h1 (List.cons_lt_cons_iff.2 (Or.inr ⟨rfl,h⟩))
      have g2:q<=x:=List.not_lt.1 fun h=>List.not_lt.2 h2 (List.cons_lt_cons_iff.2 (Or.inr ⟨rfl,h⟩))
      simp only [List.length_cons,List.take_succ_cons,ih g1 g2 h3]
theorem in_trail {p k f e:T} (h:begins p (Nib.ofL k)=true) (hf:f<=k) (he:e=[]∨k<e):inL p f e=true:=by
  have hb:(Nib.ofL k).take p.length=p:=by simpa [begins] using h
  have hp:=take_le p _ hb
  have hfk:Nib.ofL f<=Nib.ofL k:=List.not_lt.1 fun h=>List.not_lt.2 hf ((ofL_lt k f).1 h)
  have h1:¬ Nib.sideL p (Nib.ofL f)<0:=by
    rw [side_low]
    exact fun ⟨a,b⟩=>b (begins_mid (List.le_of_lt a) hfk hb)
  have h2:e=[]∨Nib.sideL p (Nib.ofL e)<1:=he.imp id fun h=>by
    rw [side_high]
    have:=(ofL_lt k e).2 h
    rcases List.le_iff_lt_or_eq.1 hp with h3 | h3
    · exact List.lt_trans h3 this
    · rw [h3]; exact this
  simp only [inL,Bool.and_eq_true,Bool.or_eq_true,decide_eq_true_eq]
  exact ⟨by simp [h1],h2⟩
end Tri
section
open Go.RowKit
open Sto (T)
open Tri (Tr Ok upd ix hb lay splitT Trim rank)
open Nd (N)
theorem app_one {w:World} {B:Nat} {z:Value} {L:List T} (x:T) (h:Own w B z L) (hl:L.length<=100000) (hB:B<=w.heap.size):
    ∃ g c w',(Builtin.append_ #[29,29] 29 #[z,.slice (some ⟨w.heap.size,0,none⟩) 1 1]).run Tryz.prog (w.alloc (.cells #[.string ⟨x.toArray⟩] 9))=.ok (.slice (some ⟨g,0,none⟩) (L.length+1) c) w'/\
      Own w' B (.slice (some ⟨g,0,none⟩) (L.length+1) c) (L++[x])/\Below B w w':=by
  have hv:Strs (w.alloc (.cells #[.string ⟨x.toArray⟩] 9)) (.slice (some ⟨w.heap.size,0,none⟩) 1 1) [x]:=by
    refine ⟨some ⟨w.heap.size,0,none⟩,1,rfl,fun i hi=>?_⟩
    obtain rfl:i=0:=by simpa using hi
    refine ⟨_,rfl,?_⟩
    exact cell_of_row _ _ 0 _ _ _ (heap_alloc_new w _)
  have hs:(w.alloc (.cells #[.string ⟨x.toArray⟩] 9)).ownsRow B 9 1 z L.length (scells L):=World.ownsRow.alloc h _
  obtain ⟨v',w',h1,h2,h3,_⟩:=append_strs hv hs (by simp; omega) (by simp; omega)
  have ho:Own w' B v' (L++[x]):=by
    unfold Own
    rw [List.length_append,scells_append]
    exact h2
  obtain ⟨g,c,e,_,_⟩:=World.ownsRow.form h2 (by simp)
  subst e
  refine ⟨g,c,w',h1,ho,?_⟩
  exact ((Below.refl B w).alloc hB _).grown h3 (by simp; omega) (fun k hk=>(Own.lt h k hk).1)
theorem step_call {P:Program} {ops:Array Oper} {o:Oper} {a:Act} {w:World} {K:Act->World->Prop} {Q:Exit->Act->World->Prop} {E:Prop} (hg:o.guard=none) (f:Nat) (x:Operand) (ts:Array TypeId) (hop:o.op=Op.call { callee:=Callee.value (.func f),args:=#[x],argTypes:=ts })
    (hcf:∀ args w,(callFunc f args).run P w=.ok (.enter f args) w) (R:Ending->World->Prop) (hc:Calls P f #[a.eval x] w R) (hK:∀ e w',R e w'->∃ v,e=.returned v/\K (a.put o.dst v) w'):if Region.wanted o (yielded ops a.tmps)=true then Oper.wp P o a w K Q else E:=by
  have hw:Region.wanted o (yielded ops a.tmps)=true:=by simp [Region.wanted,hg]
  rw [if_pos hw]
  obtain ⟨dst,op,type,pos,after,guard⟩:=o
  simp only at hop
  subst hop
  show Oper.upon P _ a K Q ((callFunc f (#[]++#[x].map a.eval++#[])).run P w)
  rw [hcf,Oper.upon_enter]
  refine Calls.mono (by simpa using hc) ?_
  intro e w' h
  obtain ⟨v,rfl,hk⟩:=hK e w' h
  exact hk
def textsT (want:T->Bool) (L:List (T × Tr)):List T:=(L.filter fun x=>want x.1).map fun x=>Nd.written (x.2.node Nd.sumS)
theorem textsT_len (want:T->Bool) (L:List (T × Tr)):(textsT want L).length<=L.length:=by
  unfold textsT; rw [List.length_map]; exact List.length_filter_le _ _
theorem textsT_add (want:T->Bool) (L:List (T × Tr)) (p:T) (t:Tr):textsT want (L++[(p,t)])=if want p then textsT want L++[Nd.written (t.node Nd.sumS)] else textsT want L:=by
  unfold textsT
  rw [List.filter_append,List.map_append]
  cases h:want p <;> simp [h]
def TextsI (B cl cw:Nat) (wf:Value) (want:T->Bool) (w':World) (L:List (T × Tr)):Prop:=
  ∃ z,w'.heap[cl]?=some (.cells #[z] 29 (0,0))/\w'.heap[cw]?=some (.cells #[wf] 91 (0,0))/\Own w' B z (textsT want L)
structure Wants (w0:World) (id:Nat) (caps:Array Value) (want:T->Bool):Prop where
  call:∀ args w,(callFunc id args).run Tryz.prog w=.ok (.enter id args) w
  step:∀ (w':World) (p:T),Below w0.heap.size w0 w'->Nib.fitL p=true->p.length<=16->Calls Tryz.prog id (#[.string ⟨p.toArray⟩]++caps) w' fun e w''=>e=.returned (.bool (want p))/\Below w'.heap.size w' w''
theorem texts_step {w0:World} {id:Nat} {wc:Array Value} {want:T->Bool} (hW:Wants w0 id wc want) {F:Fm} (B cl cw:Nat) (hB:w0.heap.size<=cl/\cl<B/\cw<B) (hcc:cw≠cl)
    (w':World) (L:List (T × Tr)) (p:T) (t:Tr) (v:Value) (hlen:L.length<100000) (hb:Below w0.heap.size w0 w') (hBw:B<=w'.heap.size) (hI:TextsI B cl cw (.func (.func id) #[] wc) want w' L) (h:PAt w0 F true t v) (hn:¬ t.isNil) (ho:Ok t) (hf:Nib.fitL p=true) (hp16:p.length<=16):
    Calls Tryz.prog 86 #[v,.string ⟨p.toArray⟩,.pointer (some ⟨cw,0,none⟩),.pointer (some ⟨cl,0,none⟩)] w' fun e w''=>e=.returned (.bool (want p))/\TextsI B cl cw (.func (.func id) #[] wc) want w'' (L++[(p,t)])/\Below w0.heap.size w0 w'':=by
  obtain ⟨z,hcl,hcw,hown⟩:=hI
  have hcall:=hW.call
  have HWS:=qh (hW.step w' p hb hf hp16)
  obtain ⟨g,s',K,rfl,hs,-,hr,hk⟩:=h.row hn
  obtain rfl:=hs rfl
  have HTX:Hid (∀ w1,Below w0.heap.size w0 w1->Calls Tryz.prog 87 #[ptr g] w1 fun e w2=>e=.returned (.string ⟨(Nd.written (t.node Nd.sumS)).toArray⟩)/\Below w1.heap.size w1 w2):=qh (fun w1 hb1=>
    ptext_any w1 (hr.below hb1) (fun i=>(hk i).below hb1) hn ho)
  have cw0:=cell_of_one hcw
  obtain ⟨X,hX⟩:∃ X,Nd.written (t.node Nd.sumS)=X:=⟨_,rfl⟩
  have HTA:=qh (textsT_add want L p t)
  rw [hX] at HTX HTA
  obtain ⟨b,hbw⟩:∃ b,want p=b:=⟨_,rfl⟩
  rw [hbw] at HWS HTA ⊢
  have HTL:Hid ((textsT want L).length<=100000):=qh (Nat.le_trans (textsT_len _ _) (Nat.le_of_lt hlen))
  obtain ⟨TL,hTL⟩:∃ TL,textsT want L=TL:=⟨_,rfl⟩
  rw [hTL] at hown HTA HTL
  have HB:=qh hb
  have HOWN:=qh hown
  have HCL:=qh hcl
  have HCW:=qh hcw
  unfold ptr at HTX ⊢
  clear hW h hr hk hX hbw hTL hb hown hcl hcw hn ho hf hlen hp16
  cases b with
  | false=>
    rw [if_neg (by decide)] at HTA
    go_enter Tryz.func86,Tryz.ntmps86
    go_wp2_with fail
    refine HWS.out.mono ?_
    rintro e w1 ⟨rfl,hb1⟩
    go_wp2
    go_ret
    refine ⟨rfl,⟨z,(hb1.block cl (lt_of_heap HCL.out)).trans HCL.out,(hb1.block cw (lt_of_heap HCW.out)).trans HCW.out,?_⟩,HB.out.trans (hb1.mono HB.out.size)⟩
    rw [HTA.out]
    exact HOWN.out.below hb1
  | true=>
    rw [if_pos rfl] at HTA
    go_enter Tryz.func86,Tryz.ntmps86
    go_wp2_with fail
    refine HWS.out.mono ?_
    rintro e w1 ⟨rfl,hb1⟩
    have HB1:Hid (Below w'.heap.size w' w1):=qh hb1
    have HBB1:Hid (Below w0.heap.size w0 w1):=qh (HB.out.trans (hb1.mono HB.out.size))
    clear hb1
    have HCC:Hid (∀ w2,Below w1.heap.size w1 w2->w2.cell? ⟨cl,0,none⟩=some z/\w2.heap[cl]?=some (.cells #[z] 29 (0,0))):=qh (fun w2 hb2=>by
      have h3:=(hb2.block cl (Nat.lt_of_lt_of_le (lt_of_heap HCL.out) HB1.out.size)).trans ((HB1.out.block cl (lt_of_heap HCL.out)).trans HCL.out)
      exact ⟨cell_of_one h3,h3⟩)
    have HTX1:Hid (∀ w2,Below w1.heap.size w1 w2->Calls Tryz.prog 87 #[.pointer (some ⟨g,0,none⟩)] w2 fun e w3=>e=.returned (.string ⟨X.toArray⟩)/\Below w1.heap.size w1 w3):=qh (fun w2 hb2=>
      (HTX.out w2 (bchain HBB1.out hb2)).mono fun e w3 ⟨e1,h3⟩=>⟨e1,bchain hb2 h3⟩)
    have HAPP:Hid (∀ w6,Below w1.heap.size w1 w6->∃ g7 c7 w7,(Builtin.append_ #[29,29] 29 #[z,.slice (some ⟨w6.heap.size,0,none⟩) 1 1]).run Tryz.prog (w6.alloc (.cells #[.string ⟨X.toArray⟩] 9))=.ok (.slice (some ⟨g7,0,none⟩) (TL.length+1) c7) w7/\w6.cell? ⟨cl,0,none⟩=some z/\(w6.alloc (.cells #[.string ⟨X.toArray⟩] 9)).cell? ⟨cl,0,none⟩=some z/\
        w7.cell? ⟨cl,0,none⟩=some z/\w7.frozen? ⟨cl,0,none⟩=false/\TextsI B cl cw (.func (.func id) #[] wc) want (w7.setCell ⟨cl,0,none⟩ (.slice (some ⟨g7,0,none⟩) (TL.length+1) c7)) (L++[(p,t)])/\Below w0.heap.size w0 (w7.setCell ⟨cl,0,none⟩ (.slice (some ⟨g7,0,none⟩) (TL.length+1) c7))):=qh (fun w6 hb6=>by
      have hb16:=bchain HB1.out hb6
      have ho6:=HOWN.out.below hb16
      obtain ⟨g7,c7,w7,ha,ho7,hb7⟩:=app_one X ho6 HTL.out (Nat.le_trans hBw hb16.size)
      obtain ⟨q1,q2⟩:=HCC.out w6 hb6
      have q7:w7.heap[cl]?=some (.cells #[z] 29 (0,0)):=(hb7.block cl hB.2.1).trans q2
      have r6:w6.heap[cw]?=some (.cells #[.func (.func id) #[] wc] 91 (0,0)):=(hb16.block cw (lt_of_heap HCW.out)).trans HCW.out
      have r7:w7.heap[cw]?=some (.cells #[.func (.func id) #[] wc] 91 (0,0)):=(hb7.block cw hB.2.2).trans r6
      refine ⟨g7,c7,w7,ha,q1,cell_of_one (heap_old_at _ q2),cell_of_one q7,free_of_one q7,⟨_,one_setCell q7,(Below.heap_setCell _ ⟨cl,0,none⟩ _ cw hcc).trans r7,?_⟩,?_⟩
      · rw [HTA.out]
        have hgcl:g7≠cl:=fun e=>by have:=(Own.lt ho7 g7 rfl).1; omega
        exact ownsRow_setCell_other ho7 (a:=⟨cl,0,none⟩) (fun e=>hgcl (by simpa [Value.ownBlock] using e)) _
      · have h8:Below w0.heap.size w0 w7:=(bchain HBB1.out hb6).trans (hb7.mono (Nat.le_of_lt (by omega)))
        exact h8.setCell (p:=⟨cl,0,none⟩) hB.1 _)
    go_upto_region 3 with fail
    have BD:Below w1.heap.size w1 w1.drew:=(Below.refl _ _).drew
    have cD:=(HCC.out _ BD).1
    go_region_law (first | (refine step_call rfl 87 (.tmp 13) _ rfl (fun _ _=>rfl) _ (HTX1.out _ BD) ?_; rintro e w6 ⟨rfl,hb6⟩; refine ⟨_,rfl,?_⟩; obtain ⟨g7,c7,w7,happ,k6,k6a,k7,f7,hT7,hB7⟩:=HAPP.out _ hb6) | (refine step_append_run rfl (.tmp 12) (.tmp 15) _ rfl _ _ _ ?_ ?_ happ ?_; (first | rfl | (focus (simp [Act.eval]; done)) | fail); (first | rfl | (focus (simp [Act.eval]; done)) | fail)))
    all_goals
      go_wp2
      go_ret
      exact ⟨rfl,hT7,hB7⟩
end
section
open Sto (T)
open Tri (Tr)
open Nd (N)
theorem spots_place (dg:N->T) (t:Tr) (p:T):∀ x∈t.spots dg p,∃ r,x.1=p++r:=by
  induction t generalizing p with
  | nil=>intro x hx; cases hx
  | leaf q v=>intro x hx; obtain rfl:=List.mem_singleton.1 hx; exact ⟨[],by simp⟩
  | ext q t ih=>
    intro x hx
    rcases List.mem_cons.1 hx with rfl | hx
    · exact ⟨[],by simp⟩
    · obtain ⟨r,e⟩:=ih (p++q) x hx
      exact ⟨q++r,by rw [e,List.append_assoc]⟩
  | br v k ih=>
    intro x hx
    rcases List.mem_cons.1 hx with rfl | hx
    · exact ⟨[],by simp⟩
    · obtain ⟨i,_,hi⟩:=List.mem_flatMap.1 hx
      obtain ⟨r,e⟩:=ih i (p++[Tri.hb i]) x hi
      exact ⟨Tri.hb i::r,by rw [e,List.append_assoc]; rfl⟩
def Down (want:T->Bool):Prop:=∀ p q,want (p++q)=true->want p=true
theorem flat_map {α β γ:Type} (l:List α) (f:α->List β) (g:α->List γ) (pf:β->Bool) (pg:γ->Bool) (m:β->γ) (h:∀ a∈l,((f a).filter pf).map m=(g a).filter pg):((l.flatMap f).filter pf).map m=(l.flatMap g).filter pg:=by
  induction l with
  | nil=>rfl
  | cons a l ih=>
    rw [List.flatMap_cons,List.flatMap_cons,List.filter_append,List.filter_append,List.map_append,h a (List.mem_cons_self ..),ih (fun b hb=>h b (List.mem_cons_of_mem _ hb))]
theorem visits_spots (dg:N->T) {want:T->Bool} (hd:Down want) (t:Tr) (p:T):((t.visits want p).filter fun x=>want x.1).map (fun x=>(x.1,x.2.node dg))=(t.spots dg p).filter fun x=>want x.1:=by
  have none:∀ (t:Tr) (p q:T),want p=false->(t.spots dg (p++q)).filter (fun x=>want x.1)=[]:=fun t p q h=>by
    rw [List.filter_eq_nil_iff]
    intro x hx hw
    obtain ⟨r,e⟩:=spots_place dg t (p++q) x hx
    rw [e,List.append_assoc] at hw
    rw [hd _ _ hw] at h
    cases h
  induction t generalizing p with
  | nil=>rfl
  | leaf q v=>
    rw [Tri.Tr.visits,Tri.Tr.spots]
    cases h:want p <;> simp [h]
  | ext q t ih=>
    rw [Tri.Tr.visits,Tri.Tr.spots]
    cases h:want p with
    | false=>simp [h,none t p q h]
    | true=>simp only [if_true,List.filter_cons,h,List.map_cons,ih (p++q)]
  | br v k ih=>
    rw [Tri.Tr.visits,Tri.Tr.spots]
    cases h:want p with
    | false=>
      simp only [Bool.false_eq_true,if_false,List.filter_cons,h,List.filter_nil,List.map_nil]
      symm
      rw [List.filter_eq_nil_iff]
      intro x hx hw
      obtain ⟨i,_,hi⟩:=List.mem_flatMap.1 hx
      have:=none (k i) p [Tri.hb i] h
      rw [List.filter_eq_nil_iff] at this
      exact this x hi hw
    | true=>
      simp only [if_true,List.filter_cons,h,List.map_cons]
      congr 1
      exact flat_map _ _ _ _ _ _ fun i _=>ih i (p++[Tri.hb i])
def wantedT (want:T->Bool) (t:Tr):List T:=((t.spots Nd.sumS []).filter fun x=>want x.1).map fun x=>Nd.written x.2
theorem wanted_texts {want:T->Bool} (hd:Down want) (t:Tr):textsT want (t.visits want [])=wantedT want t:=by
  unfold wantedT textsT
  rw [← visits_spots Nd.sumS hd t [],List.map_map]
  rfl
theorem down_all:Down fun _=>true:=fun _ _ _=>rfl
theorem down_begins (m:T):Down fun p=>Tri.begins p m:=fun p q h=>by
  simp only [Tri.begins,decide_eq_true_eq] at h ⊢
  have h2:=congrArg (List.take p.length) h
  rw [List.take_take,List.take_append_of_le_length (Nat.le_refl _),List.take_length] at h2
  rw [Nat.min_eq_left (by simp)] at h2
  exact h2
theorem below_beside {p f:T} (q:T) (h:p<f) (h2:f.take p.length≠p):p++q<f:=by
  induction p generalizing f with
  | nil=>exact absurd rfl h2
  | cons a p ih=>
    cases f with
    | nil=>exact absurd h (List.not_lt_nil _)
    | cons b f=>
      rw [List.cons_append]
      rcases List.cons_lt_cons_iff.1 h with h3 | ⟨h4,h3⟩
      · exact List.cons_lt_cons_iff.2 (Or.inl h3)
      · subst h4
        refine List.cons_lt_cons_iff.2 (Or.inr ⟨rfl,ih h3 ?_⟩)
        intro e
        exact h2 (by rw [List.length_cons,List.take_succ_cons,e])
theorem le_app (p q:T):p<=p++q:=Tri.take_le p (p++q) (by simp)
theorem down_in (f e:T):Down fun p=>Tri.inL p f e:=fun p q h=>by
  simp only [Tri.inL,Bool.and_eq_true,Bool.not_eq_true',decide_eq_false_iff_not,Bool.or_eq_true,decide_eq_true_eq] at h ⊢
  obtain ⟨h1,h2⟩:=h
  refine ⟨fun h3=>h1 ?_,h2.imp id fun h4=>?_⟩
  · obtain ⟨a,b⟩:=(Tri.side_low p _).1 h3
    refine (Tri.side_low _ _).2 ⟨below_beside q a b,fun e2=>b ?_⟩
    have h5:=congrArg (List.take p.length) e2
    rw [List.take_take,List.take_append_of_le_length (Nat.le_refl _),List.take_length,Nat.min_eq_left (by simp)] at h5
    exact h5
  · have h5:=(Tri.side_high _ _).1 h4
    exact (Tri.side_high _ _).2 (by
      rcases List.le_iff_lt_or_eq.1 (le_app p q) with h6 | h6
      · exact List.lt_trans h6 h5
      · rw [h6]; exact h5)
end
section
open Go.RowKit
theorem common_any (a b:List UInt8) (w:World) (ha:a.length<=1000000) (hb:b.length<=1000000):
    Calls Tryz.prog 138 #[.string ⟨a.toArray⟩,.string ⟨b.toArray⟩] w fun e w'=>e=.returned (.int .i64 (Nib.commonL a b))/\Below w.heap.size w w':=by
  rcases Nat.lt_or_ge b.length a.length with hm | hm
  all_goals
    go_enter Tryz.func138,Tryz.ntmps138
    go_wp2
    go_loopw [13] (fun i wr=>∃ k:Nat,k<=min a.length b.length/\a.take k=b.take k/\i=.int .i64 k/\Below w.heap.size w wr) (fun i _=>min a.length b.length - (intOf i).toNat)
    case atStart=>exact ⟨0,Nat.zero_le _,by simp,rfl,Below.refl _ _⟩
    case round=>
      obtain ⟨k,hk,hf,rfl,hbel⟩:=hrel
      have HF:=qh hf; clear hf
      by_cases hlt:k<min a.length b.length
      · have h1:(k:Int)<(a.length:Int):=by omega
        have h2:(k:Int)<(b.length:Int):=by omega
        go_wp2
        go_quiet (fail)
        go_wp2
        · go_ret
          have ht:(((a[k]'(by omega)).toNat:Int) != ((b[k]'(by omega)).toNat:Int))=true:=by assumption
          exact ⟨by rw [Nib.commonL_of_diff a b k (by omega) (by omega) HF.out (Nib.byte_ne ht)]; rfl,bel_drewN hbel _⟩
        · go_roundw
          case rel=>
            have ht:(((a[k]'(by omega)).toNat:Int) != ((b[k]'(by omega)).toNat:Int))=false:=by assumption
            exact ⟨k+1,by omega,Nib.take_eq_succ a b k (by omega) (by omega) HF.out (Nib.byte_eq ht),by go_num,bel_drewN hbel _⟩
          case measure=>simp [intOf]; omega
      · go_wp2
        go_ret
        have:=HF.out
        exact ⟨by rw [Nib.commonL_of_end a b k (by omega) this]; exact ret_i64 (by omega),hbel⟩
end
section
open Go.RowKit
open Sto (T)
open Tri (Tr Ok upd ix hb lay splitT Trim rank)
def WithTo (m:Nat):Prop:=∀ (t:Tr) (v:Value) (p x:T) (w:World) (F:Fm),rank t p<=m->F.fresh w->PAt w F false t v->Trim t->Nib.fitL p=true->p.length<=16->
  Calls Tryz.prog 99 #[v,.string ⟨p.toArray⟩,.string ⟨x.toArray⟩] w (MadeT w F (t.put p x))
theorem with_nil (p x:T) (w:World) (F:Fm) (hF:F.fresh w):
    Calls Tryz.prog 99 #[.pointer none,.string ⟨p.toArray⟩,.string ⟨x.toArray⟩] w (MadeT w F (.leaf p x)):=by
  have HLF:=qh (leaf_any p x w F hF)
  unfold MadeT at HLF ⊢
  go_enter Tryz.func99,Tryz.ntmps99
  go_wp2_with fail
  refine HLF.out.mono ?_
  rintro e w1 ⟨v,rfl,hp,hb⟩
  go_wp2
  go_ret
  exact ⟨v,rfl,hp,hb⟩
theorem with_here {y:T} {k:Fin 16->Tr} {v:Value} (x:T) (w:World) (F:Fm) (hF:F.fresh w) (h:PAt w F false (.br y k) v):
    Calls Tryz.prog 99 #[v,.string ⟨#[]⟩,.string ⟨x.toArray⟩] w (MadeT w F (.br x k)):=by
  obtain ⟨g,s',K,rfl,-,-,hr,hk⟩:=h.row id
  have HO:=qh (open_any w hr (fun i=>(hk i).oneCell))
  have n0:w.cell? ⟨g,0,none⟩=some (.int .i64 3):=hr.kind
  have HK:=qh hk
  unfold MadeT
  unfold ptr at HO ⊢
  clear h hr hk
  go_enter Tryz.func99,Tryz.ntmps99
  go_wp2_with fail
  refine HO.out.mono ?_
  rintro e w1 ⟨rfl,hr1,hb1⟩
  have m2:=hr1.val
  have f2:=hr1.free 2
  have HR1:=qh hr1
  have HB:=qh hb1
  clear hr1 hb1
  go_wp2
  go_ret
  have hb2:=HB.out.setCell (p:=⟨w.heap.size,2,none⟩) (Nat.le_refl _) (.string ⟨x.toArray⟩)
  exact ⟨_,rfl,PAt.new (K:=K) id (hF _ (Nat.le_refl _)) (HR1.out.setVal x) (fun i=>((HK.out i).weak).below hb2),hb2⟩
theorem with_below {m:Nat} (IH:WithTo m) {y:T} {k:Fin 16->Tr} {v:Value} (b:UInt8) (p x:T) (w:World) (F:Fm) (hm:2*p.length+1<=m) (hF:F.fresh w) (h:PAt w F false (.br y k) v) (hg:Trim (.br y k)) (hf:Nib.fitL (b::p)=true) (hl:(b::p).length<=16):
    Calls Tryz.prog 99 #[v,.string ⟨(b::p).toArray⟩,.string ⟨x.toArray⟩] w (MadeT w F (.br y (upd k (ix b) ((k (ix b)).put p x)))):=by
  obtain ⟨g,s',K,rfl,-,-,hr,hk⟩:=h.row id
  have HO:=qh (open_any w hr (fun i=>(hk i).oneCell))
  have n0:w.cell? ⟨g,0,none⟩=some (.int .i64 3):=hr.kind
  have HK:=qh hk
  have HR:=qh hr
  obtain ⟨hb1,hfp⟩:=Tri.fit_cons.1 hf
  have hix:=ix_val hb1
  have hpl:p.length<=16:=by simp at hl; omega
  have HI:Hid (∀ w',Below w.heap.size w w'->w.heap.size<w'.heap.size->Calls Tryz.prog 99 #[K (ix b),.string ⟨p.toArray⟩,.string ⟨x.toArray⟩] w' fun e w''=>∃ g6,e=.returned (.pointer (some ⟨g6,0,none⟩))/\PAt w'' (F.off w.heap.size) false ((k (ix b)).put p x) (ptr g6)/\Below w'.heap.size w' w''):=qh (fun w' hb hs=>
    (IH (k (ix b)) (K (ix b)) p x w' _ (Nat.le_trans (Tri.rank_le _ _) hm) ((hF.size hb.size).off hs) (((hk (ix b)).weak.new_off (Nat.le_refl _)).below hb) (hg.br _) hfp hpl).mono fun e w'' ⟨v6,e6,hp6,hb6⟩=>by
      obtain ⟨g6,_,_,rfl,_⟩:=hp6.row (Tri.put_nn _ _ _)
      exact ⟨g6,e6,hp6,hb6⟩)
  have hbyte:∀ hh,(⟨(b::p).toArray⟩:ByteArray)[0]'hh=b:=byte_drop rfl
  have htail:(⟨(b::p).toArray⟩:ByteArray).extract 1 (b::p).length=⟨p.toArray⟩:=tail_drop (n:=0) rfl
  have hne:((b::p:List UInt8) == [])=false:=rfl
  have z0:(0:Int)<((b::p).length:Int):=by rw [List.length_cons]; omega
  have z1:(1:Int)<=((b::p).length:Int):=by rw [List.length_cons]; omega
  have z6:(0:Int)<=(b.toNat:Int):=by omega
  have z7:(b.toNat:Int)<16:=by omega
  have HIX:=qh hix
  obtain ⟨vk,hvk⟩:∃ vk,K (ix b)=vk:=⟨_,rfl⟩
  rw [hvk] at HI
  have HVK:=qh hvk
  obtain ⟨P,hP⟩:∃ P,b::p=P:=⟨_,rfl⟩
  rw [hP] at hbyte htail hne z0 z1 ⊢
  unfold MadeT
  unfold ptr at HO ⊢
  clear h hr hk hg hf hl hm hb1 hfp hix hpl IH hvk hP
  go_enter Tryz.func99,Tryz.ntmps99
  go_wp2_with fail
  refine HO.out.mono ?_
  rintro e w1 ⟨rfl,hr1,hb1⟩
  obtain ⟨q,hq⟩:∃ q,w.heap.size=q:=⟨_,rfl⟩
  have HSZ:Hid (q<w1.heap.size):=qh (by rw [← hq]; exact lt_of_heap hr1)
  have HGQ:Hid (g<q):=qh (by rw [← hq]; exact lt_of_heap HR.out)
  have HR1:=qh hr1
  have HB1:=qh hb1
  rw [hq] at HR1 HB1 HI ⊢
  have HQ:=qh hq
  have HN1:Hid (∀ w',Below w1.heap.size w1 w'->w'.cell? ⟨g,3+b.toNat,none⟩=some vk/\w'.cell? ⟨q,3+b.toNat,none⟩=some vk/\w'.frozen? ⟨q,3+b.toNat,none⟩=false):=qh (fun w' hb=>by
    have k1:=(HR.out.below (by rw [HQ.out]; exact HB1.out)).below hb
    have k2:=HR1.out.below hb
    have e1:=k1.kid (ix b)
    have e2:=k2.kid (ix b)
    rw [HIX.out,HVK.out] at e1 e2
    exact ⟨e1,e2,k2.free _⟩)
  have HK1:Hid (∀ w' v,Below w1.heap.size w1 w'->(w'.setCell ⟨q,3+b.toNat,none⟩ v).cell? ⟨g,3+b.toNat,none⟩=some vk):=qh (fun w' v hb=>keep_cell (HN1.out w' hb).1 (Nat.ne_of_lt HGQ.out))
  have HI2:Hid (∀ w',Below w1.heap.size w1 w'->Calls Tryz.prog 99 #[vk,.string ⟨p.toArray⟩,.string ⟨x.toArray⟩] w' fun e w''=>∃ g6,e=.returned (.pointer (some ⟨g6,0,none⟩))/\PAt w'' (F.off q) false ((k (ix b)).put p x) (ptr g6)/\Below w1.heap.size w1 w''):=qh (fun w' hb=>(HI.out w' (HB1.out.trans (hb.mono (Nat.le_of_lt HSZ.out))) (Nat.lt_of_lt_of_le HSZ.out hb.size)).mono fun e w'' ⟨g6,e6,hp6,hb6⟩=>⟨g6,e6,hp6,hb.trans (hb6.mono hb.size)⟩)
  clear hr1 hb1 hq HI
  go_upto_region 7 with fail
  have BD:Below w1.heap.size w1 w1.drew:=(Below.refl _ _).drew
  obtain ⟨c1,c2,c3⟩:=HN1.out _ BD
  go_region_held3 (fun w'=>w'.cell? ⟨g,3+b.toNat,none⟩=some vk)
    ((first | (with_reducible exact c1) | (with_reducible exact d1) | (refine HK1.out _ _ ?_; with_reducible assumption)))
    ((go_at_call 99; refine (HI2.out _ ?_).mono ?_; (with_reducible assumption); rintro e w6 ⟨g6,rfl,hp6,hb6⟩; obtain ⟨d1,d2,d3⟩:=HN1.out _ hb6))
  all_goals
    go_wp2
    go_ret
    have hbq:Below w.heap.size w w6:=by rw [HQ.out]; exact HB1.out.trans (hb6.mono (Nat.le_of_lt HSZ.out))
    refine ⟨_,rfl,PAt.new (K:=updK K (ix b) (ptr g6)) id (hF _ (Nat.le_of_eq HQ.out)) ?_ (fun i=>?_),by rw [← HQ.out]; exact hbq.setCell (p:=⟨w.heap.size,_,none⟩) (Nat.le_refl _) _⟩
    · have:=(HR1.out.below hb6).setKid (ix b) (ptr g6)
      rw [HIX.out] at this
      exact this
    · simp only [Tri.Tr.kid,updK,Tri.upd]
      split
      · exact hp6.off _ _
      · exact (((HK.out i).weak.new_off (Nat.le_of_eq HQ.out)).below hbq).off _ _
theorem with_plan {t:Tr} {p:T} (hg:Trim t) (hk:t.kind=1∨t.kind=2) (hp:Nib.fitL p=true) (hl:p.length<=16) (x:T):
    ∃ tb,tb=(if Tri.splits t p then splitT (Nib.commonL t.pth p) t else t.kid 0)/\t.put p x=lay (p.take (Nib.commonL t.pth p)) (tb.put (p.drop (Nib.commonL t.pth p)) x)/\
      Trim tb/\rank tb (p.drop (Nib.commonL t.pth p))<=2*p.length/\(tb.put (p.drop (Nib.commonL t.pth p)) x).pth.length<=16:=by
  have hbr:∀ u:Tr,u.isBr->rank u (p.drop (Nib.commonL t.pth p))<=2*p.length/\(u.put (p.drop (Nib.commonL t.pth p)) x).pth.length<=16:=fun u hu=>by
    refine ⟨by rw [Tri.rank_br hu]; simp; omega,?_⟩
    have:=Tri.put_br hu (p.drop (Nib.commonL t.pth p)) x
    generalize u.put (p.drop (Nib.commonL t.pth p)) x=y at this ⊢
    cases y <;> simp_all [Tri.Tr.isBr,Tri.Tr.pth]
  refine ⟨_,rfl,?_⟩
  cases t with
  | nil=>rcases hk with h | h <;> cases h
  | br y k=>rcases hk with h | h <;> cases h
  | leaf q y=>
    refine ⟨Tri.put_leaf_plan hg.fits hp,?_⟩
    by_cases h:Tri.splits (.leaf q y) p=true
    · rw [if_pos h]
      exact ⟨hg.split,hbr _ (Tri.split_br _ _)⟩
    · rw [if_neg h]
      refine ⟨Tri.Trim.nil,by simp [Tri.Tr.kid,rank]; omega,?_⟩
      simp only [Tri.Tr.kid,Tri.Tr.put,Tri.Tr.pth,List.length_drop]
      omega
  | ext q u=>
    refine ⟨Tri.put_ext_plan hg.firm.2.1 hg.firm.1 hg.fits.1 hp,?_⟩
    by_cases h:Tri.splits (.ext q u) p=true
    · rw [if_pos h]
      exact ⟨hg.split,hbr _ (Tri.split_br _ _)⟩
    · rw [if_neg h]
      have e:(Tr.ext q u).kid 0=u:=by simp [Tri.Tr.kid]
      rw [e]
      exact ⟨hg.ext,hbr _ hg.firm.2.1⟩
theorem cut_drop (p:T) (c:Nat):(⟨p.toArray⟩:ByteArray).extract c p.length=⟨(p.drop c).toArray⟩:=ext_drop p c
theorem cut_take (p:T) (c:Nat):(⟨p.toArray⟩:ByteArray).extract 0 c=⟨(p.take c).toArray⟩:=by rw [Lib.extract_eq]; simp
theorem with_else {m:Nat} (IH:WithTo m) {t:Tr} {v:Value} (p x:T) (w:World) (F:Fm) (hk:t.kind=1∨t.kind=2) (hm:2*p.length<=m) (hF:F.fresh w) (h:PAt w F false t v) (hg:Trim t) (hf:Nib.fitL p=true) (hl:p.length<=16):
    Calls Tryz.prog 99 #[v,.string ⟨p.toArray⟩,.string ⟨x.toArray⟩] w (MadeT w F (t.put p x)):=by
  have hnn:¬ t.isNil:=fun e=>by rw [← Tri.kind_nil] at e; omega
  obtain ⟨tb,htb,hput,htr,hrk,hpb⟩:=with_plan hg hk hf hl x
  obtain ⟨g,s',K,rfl,-,-,hr,hkk⟩:=h.row hnn
  have hcl:=Nib.commonL_le t.pth p
  have hqs:t.pth.length<=16:=by
    have:=hg.low
    cases t <;> simp_all [Tri.Tr.low,Tri.Tr.pth]
  have HCM:=qh (fun w=>common_any t.pth p w (by omega) (by omega))
  have n0:=hr.kind
  have n1:=hr.path
  have n3:=hr.kid 0
  have HR:=qh hr
  have HH:=qh h
  have HSP:Hid (Tri.splits t p=true->∀ w',Below w.heap.size w w'->Calls Tryz.prog 139 #[ptr g,.int .i64 (Nib.commonL t.pth p)] w' (MadeT w' F (splitT (Nib.commonL t.pth p) t))):=qh (fun hs w' hb=>
    split_any _ w' F (hF.size hb.size) (h.below hb) hk hg.firm hg.fits (by omega) hcl.1 (fun h2=>by
      cases t with
      | ext q u=>simpa [Tri.splits,Tri.Tr.pth] using hs
      | _=>cases h2))
  obtain ⟨c,hc⟩:∃ c,Nib.commonL t.pth p=c:=⟨_,rfl⟩
  rw [hc] at htb hput hrk hpb hcl HCM HSP
  obtain ⟨q,hq⟩:∃ q,t.pth=q:=⟨_,rfl⟩
  rw [hq] at hcl hqs HCM n1
  have HRB:Hid (∀ w' vb,Below w.heap.size w w'->PAt w' F false tb vb->Calls Tryz.prog 99 #[vb,.string ⟨(p.drop c).toArray⟩,.string ⟨x.toArray⟩] w' (MadeT w' F (tb.put (p.drop c) x))):=qh (fun w' vb hb hp=>
    IH tb vb (p.drop c) x w' F (Nat.le_trans hrk hm) (hF.size hb.size) hp htr (Tri.fit_drop _ hf) (by simp; omega))
  have HBH:Hid (∀ w' v6,Below w.heap.size w w'->PAt w' F false (tb.put (p.drop c) x) v6->Calls Tryz.prog 140 #[v6,.string ⟨(p.take c).toArray⟩] w' (MadeT w' F (t.put p x))):=qh (fun w' v6 hb hp=>by
    rw [hput]
    exact behind_any (p.take c) w' F (hF.size hb.size) hp (Or.inr (Tri.put_nn _ _ _)) (by simp; omega) (by omega))
  have htail:=cut_drop p c
  have htake:=cut_take p c
  have z0:(0:Int)<=(c:Int):=by omega
  have z1:(c:Int)<=(p.length:Int):=by omega
  obtain ⟨P1,hP1⟩:∃ P1,p.drop c=P1:=⟨_,rfl⟩
  obtain ⟨P2,hP2⟩:∃ P2,p.take c=P2:=⟨_,rfl⟩
  rw [hP1] at htail HRB HBH
  rw [hP2] at htake HBH
  have hkd:(t.kind:Int)≠3:=by omega
  have e3:((t.kind:Int) == 3)=false:=by rw [beq_eq_false_iff_ne]; exact hkd
  obtain ⟨b1,hb1⟩:∃ b,decide ((c:Int)<(q.length:Int))=b:=⟨_,rfl⟩
  obtain ⟨b2,hb2⟩:∃ b,((t.kind:Int) == 1)=b:=⟨_,rfl⟩
  obtain ⟨b3,hb3⟩:∃ b,decide ((c:Int)<(p.length:Int))=b:=⟨_,rfl⟩
  have hsp:Tri.splits t p=(b1 || (b2&&b3)):=by
    subst hb1 hb2 hb3
    cases t with
    | nil=>exact absurd trivial hnn
    | br y k=>rcases hk with h | h <;> cases h
    | leaf q' y=>
      obtain rfl:q'=q:=hq
      have hc2:Nib.commonL q' p=c:=hc
      simp only [Tri.splits,hc2,Tri.Tr.kind]
      rw [Bool.eq_iff_iff]; simp
    | ext q' y=>
      obtain rfl:q'=q:=hq
      have hc2:Nib.commonL q' p=c:=hc
      simp only [Tri.splits,hc2,Tri.Tr.kind]
      rw [Bool.eq_iff_iff]; simp
  obtain ⟨kd,hkd2⟩:∃ kd,t.kind=kd:=⟨_,rfl⟩
  rw [hkd2] at n0 e3 hb2
  have hvk:PAt w F false (t.kid 0) (K 0):=(hkk 0).weak
  obtain ⟨vk,hvk2⟩:∃ vk,K 0=vk:=⟨_,rfl⟩
  rw [hvk2] at n3 hvk
  have HVK:=qh hvk
  have HTB:=qh htb
  have HG:Hid (∀ w',Below w.heap.size w w'->w'.cell? ⟨g,0,none⟩=some (.int .i64 kd)/\w'.cell? ⟨g,1,none⟩=some (.string ⟨q.toArray⟩)/\w'.cell? ⟨g,3,none⟩=some vk):=qh (fun w' hb=>by
    have k1:=hr.below hb
    have k3:=k1.kid 0
    rw [hvk2] at k3
    exact ⟨by rw [k1.kind,hkd2],by rw [k1.path,hq],k3⟩)
  have HSB:Hid (Tri.splits t p=(b1 || (b2&&b3))):=qh hsp
  unfold MadeT at HRB HBH HSP ⊢
  unfold ptr at HSP ⊢
  obtain ⟨TP,hTP⟩:∃ TP,t.put p x=TP:=⟨_,rfl⟩
  rw [hTP] at HBH ⊢
  clear h hg hf hl hm hcl hqs hput htr hrk hpb hr hkk IH hP1 hP2 hkd hsp hkd2 hvk hvk2 htb hc hq hTP hnn
  have hb1n:decide (c<q.length)=b1:=by rw [← hb1,decide_eq_decide]; omega
  have hb3n:decide (c<p.length)=b3:=by rw [← hb3,decide_eq_decide]; omega
  have hb2n:(kd == 1)=b2:=by rw [← hb2,Bool.eq_iff_iff]; simp; omega
  have HEND:Hid (∀ w',Below w.heap.size w w'->Below w.heap.size w w'.drew/\∀ vb,PAt w' F false tb vb->PAt w'.drew F false tb vb):=qh (fun w' hb=>⟨hb.drew,fun vb hp=>hp.below (Below.refl _ _).drew⟩)
  have HSPW:Hid (∀ b,Tri.splits t p=b->(b=true->(if Tri.splits t p then splitT c t else t.kid 0)=splitT c t)/\(b=false->(if Tri.splits t p then splitT c t else t.kid 0)=t.kid 0)):=qh (fun b hb=>by rw [hb]; exact ⟨fun e=>by rw [e]; rfl,fun e=>by rw [e]; rfl⟩)
  clear hk
  cases b1 with
  | true=>
    replace HSP:=qh (HSP.out HSB.out)
    replace HTB:Hid (tb=splitT c t):=qh (HTB.out.trans ((HSPW.out _ HSB.out).1 rfl))
    clear HSB HSPW
    go_enter Tryz.func99,Tryz.ntmps99
    go_wp2_with fail
    refine (HCM.out _).mono ?_
    rintro e w1 ⟨rfl,hbw1⟩
    obtain ⟨m0,m1,m3⟩:=HG.out _ hbw1
    have HB1:=qh hbw1
    clear hbw1
    go_wp2_with fail
    refine (HSP.out _ HB1.out).mono ?_
    rintro e w2 ⟨vb,rfl,hpb,hbs⟩
    have HB2:=qh (bchain HB1.out hbs)
    have HPB:Hid (PAt w2 F false tb vb):=qh (by rw [HTB.out]; exact hpb)
    clear hpb hbs m0 m1 m3
    go_upto_region 13 with fail
    obtain ⟨BD,PD0⟩:=HEND.out _ HB2.out
    have PD:=PD0 _ HPB.out
    clear PD0
    go_region_held3 (fun _=>True) (trivial)
      (first | (go_at_call 99; refine (HRB.out _ vb ?_ ?_).mono ?_; (with_reducible exact BD); (with_reducible exact PD); rintro e w6 ⟨v6,rfl,hp6,hb6⟩; have hb6':=bchain BD hb6) | (go_at_call 140; refine (HBH.out _ v6 ?_ ?_).mono ?_; (with_reducible exact hb6'); (with_reducible exact hp6); rintro e w7 ⟨v7,rfl,hp7,hb7⟩; have hb7':=bchain hb6' hb7))
    all_goals
      go_wp2
      go_ret
      exact ⟨v7,rfl,hp7,hb7'⟩
  | false=>
    cases b2 with
    | false=>
      replace HTB:Hid (tb=t.kid 0):=qh (HTB.out.trans ((HSPW.out _ HSB.out).2 rfl))
      clear HSB HSPW HSP
      go_enter Tryz.func99,Tryz.ntmps99
      go_wp2_with fail
      refine (HCM.out _).mono ?_
      rintro e w1 ⟨rfl,hbw1⟩
      obtain ⟨m0,m1,m3⟩:=HG.out _ hbw1
      have HB1:=qh hbw1
      clear hbw1
      obtain ⟨vb,hvb⟩:∃ vb,vk=vb:=⟨_,rfl⟩
      rw [hvb] at m3
      have HPB:Hid (PAt w1 F false tb vb):=qh (by rw [HTB.out,← hvb]; exact HVK.out.below HB1.out)
      clear hvb
      go_upto_region 13 with fail
      obtain ⟨BD,PD0⟩:=HEND.out _ HB1.out
      have PD:=PD0 _ HPB.out
      clear PD0 m0 m1 m3
      go_region_held3 (fun _=>True) (trivial)
        (first | (go_at_call 99; refine (HRB.out _ vb ?_ ?_).mono ?_; (with_reducible exact BD); (with_reducible exact PD); rintro e w6 ⟨v6,rfl,hp6,hb6⟩; have hb6':=bchain BD hb6) | (go_at_call 140; refine (HBH.out _ v6 ?_ ?_).mono ?_; (with_reducible exact hb6'); (with_reducible exact hp6); rintro e w7 ⟨v7,rfl,hp7,hb7⟩; have hb7':=bchain hb6' hb7))
      all_goals
        go_wp2
        go_ret
        exact ⟨v7,rfl,hp7,hb7'⟩
    | true=>
      cases b3 with
      | false=>
        replace HTB:Hid (tb=t.kid 0):=qh (HTB.out.trans ((HSPW.out _ HSB.out).2 rfl))
        clear HSB HSPW HSP
        go_enter Tryz.func99,Tryz.ntmps99
        go_wp2_with fail
        refine (HCM.out _).mono ?_
        rintro e w1 ⟨rfl,hbw1⟩
        obtain ⟨m0,m1,m3⟩:=HG.out _ hbw1
        have HB1:=qh hbw1
        clear hbw1
        obtain ⟨vb,hvb⟩:∃ vb,vk=vb:=⟨_,rfl⟩
        rw [hvb] at m3
        have HPB:Hid (PAt w1 F false tb vb):=qh (by rw [HTB.out,← hvb]; exact HVK.out.below HB1.out)
        clear hvb
        go_upto_region 13 with fail
        obtain ⟨BD,PD0⟩:=HEND.out _ HB1.out
        have PD:=PD0 _ HPB.out
        clear PD0 m0 m1 m3
        go_region_held3 (fun _=>True) (trivial)
          (first | (go_at_call 99; refine (HRB.out _ vb ?_ ?_).mono ?_; (with_reducible exact BD); (with_reducible exact PD); rintro e w6 ⟨v6,rfl,hp6,hb6⟩; have hb6':=bchain BD hb6) | (go_at_call 140; refine (HBH.out _ v6 ?_ ?_).mono ?_; (with_reducible exact hb6'); (with_reducible exact hp6); rintro e w7 ⟨v7,rfl,hp7,hb7⟩; have hb7':=bchain hb6' hb7))
        all_goals
          go_wp2
          go_ret
          exact ⟨v7,rfl,hp7,hb7'⟩
      | true=>
        replace HSP:=qh (HSP.out HSB.out)
        replace HTB:Hid (tb=splitT c t):=qh (HTB.out.trans ((HSPW.out _ HSB.out).1 rfl))
        clear HSB HSPW
        go_enter Tryz.func99,Tryz.ntmps99
        go_wp2_with fail
        refine (HCM.out _).mono ?_
        rintro e w1 ⟨rfl,hbw1⟩
        obtain ⟨m0,m1,m3⟩:=HG.out _ hbw1
        have HB1:=qh hbw1
        clear hbw1
        go_wp2_with fail
        refine (HSP.out _ HB1.out).mono ?_
        rintro e w2 ⟨vb,rfl,hpb,hbs⟩
        have HB2:=qh (bchain HB1.out hbs)
        have HPB:Hid (PAt w2 F false tb vb):=qh (by rw [HTB.out]; exact hpb)
        clear hpb hbs m0 m1 m3
        go_upto_region 13 with fail
        obtain ⟨BD,PD0⟩:=HEND.out _ HB2.out
        have PD:=PD0 _ HPB.out
        clear PD0
        go_region_held3 (fun _=>True) (trivial)
          (first | (go_at_call 99; refine (HRB.out _ vb ?_ ?_).mono ?_; (with_reducible exact BD); (with_reducible exact PD); rintro e w6 ⟨v6,rfl,hp6,hb6⟩; have hb6':=bchain BD hb6) | (go_at_call 140; refine (HBH.out _ v6 ?_ ?_).mono ?_; (with_reducible exact hb6'); (with_reducible exact hp6); rintro e w7 ⟨v7,rfl,hp7,hb7⟩; have hb7':=bchain hb6' hb7))
        all_goals
          go_wp2
          go_ret
          exact ⟨v7,rfl,hp7,hb7'⟩
theorem with_to (m:Nat):WithTo m:=by
  induction m using Nat.strongRecOn with
  | ind m IH=>
    intro t v p x w F hr hF h hg hf hl
    cases t with
    | nil=>
      have e:v=.pointer none:=h
      subst e
      exact with_nil p x w F hF
    | leaf q y=>
      have hm:2*p.length+1<=m:=hr
      exact with_else (IH (m - 1) (by omega)) p x w F (Or.inl rfl) (by omega) hF h hg hf hl
    | ext q u=>
      have hm:2*p.length+1<=m:=hr
      exact with_else (IH (m - 1) (by omega)) p x w F (Or.inr rfl) (by omega) hF h hg hf hl
    | br y k=>
      cases p with
      | nil=>exact with_here x w F hF h
      | cons b p=>
        have hm:2*(b::p).length<=m:=hr
        rw [List.length_cons] at hm
        exact with_below (IH (m - 1) (by omega)) b p x w F (by omega) hF h hg hf hl
theorem with_any {t:Tr} {v:Value} (p x:T) (w:World) (F:Fm) (hF:F.fresh w) (h:PAt w F false t v) (hg:Trim t) (hf:Nib.fitL p=true) (hl:p.length<=16):
    Calls Tryz.prog 99 #[v,.string ⟨p.toArray⟩,.string ⟨x.toArray⟩] w (MadeT w F (t.put p x)):=with_to _ t v p x w F (Nat.le_refl _) hF h hg hf hl
end
end Go.Proofs.YtaficmboooaknaaGreatDoor
