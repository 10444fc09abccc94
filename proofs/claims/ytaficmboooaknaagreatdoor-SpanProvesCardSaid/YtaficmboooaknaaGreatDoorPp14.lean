import Derived.Test.YtaficmboooaknaaGreatDoorPp13
import Derived.Test.YtaficmboooaknaaGreatDoorPp12
import Derived.Test.YtaficmboooaknaaGreatDoorPp01
import Derived.Test.YtaficmboooaknaaGreatDoorPp02
import Derived.WalkSpells
import Derived.WalkLawsBesides
import Derived.Lib.Strings
import Derived.WalkKit
import Derived.Lib.Hide
import Derived.Test.YtaficmboooaknaaGreatDoorPp08
set_option maxRecDepth 100000
set_option maxHeartbeats 16000000
namespace Go.Proofs.YtaficmboooaknaaGreatDoor
section
open Go.RowKit
open Sto (T)
open Tri (Tr Ok upd ix hb lay splitT Trim rank)
theorem with_plan {t:Tr} {p:T} (hg:Trim t) (hk:t.kind=1 ∨ t.kind=2) (hp:Nib.fitL p=true) (hl:p.length<=16) (x:T):
    ∃ tb,tb=(if Tri.splits t p then splitT (Nib.commonL t.pth p) t else t.kid 0)/\t.put p x=lay (p.take (Nib.commonL t.pth p)) (tb.put (p.drop (Nib.commonL t.pth p)) x)/\
      Trim tb/\rank tb (p.drop (Nib.commonL t.pth p))<=2 * p.length/\(tb.put (p.drop (Nib.commonL t.pth p)) x).pth.length<=16:=by
  have hbr:∀ u:Tr,u.isBr->rank u (p.drop (Nib.commonL t.pth p))<=2 * p.length/\(u.put (p.drop (Nib.commonL t.pth p)) x).pth.length<=16:=fun u hu=>by
    refine ⟨by rw [Tri.rank_br hu]; simp; omega,?_⟩
    have:=Tri.put_br hu (p.drop (Nib.commonL t.pth p)) x
    generalize u.put (p.drop (Nib.commonL t.pth p)) x=y at this ⊢
    cases y <;> simp_all [Tri.Tr.isBr,Tri.Tr.pth]
  refine ⟨_,rfl,?_⟩
  cases t with
  | nil=>rcases hk with h | h <;> cases h
  | br y k=>rcases hk with h | h <;> cases h
  | leaf q y=>
    refine ⟨Tri.put_leaf_plan hg.fits hp,?_⟩
    by_cases h:Tri.splits (.leaf q y) p=true
    · rw [if_pos h]
      exact ⟨hg.split,hbr _ (Tri.split_br _ _)⟩
    · rw [if_neg h]
      refine ⟨Tri.Trim.nil,by simp [Tri.Tr.kid,rank]; omega,?_⟩
      simp only [Tri.Tr.kid,Tri.Tr.put,Tri.Tr.pth,List.length_drop]
      omega
  | ext q u=>
    refine ⟨Tri.put_ext_plan hg.firm.2.1 hg.firm.1 hg.fits.1 hp,?_⟩
    by_cases h:Tri.splits (.ext q u) p=true
    · rw [if_pos h]
      exact ⟨hg.split,hbr _ (Tri.split_br _ _)⟩
    · rw [if_neg h]
      have e:(Tr.ext q u).kid 0=u:=by simp [Tri.Tr.kid]
      rw [e]
      exact ⟨hg.ext,hbr _ hg.firm.2.1⟩
theorem cut_drop (p:T) (c:Nat):(⟨p.toArray⟩:ByteArray).extract c p.length=⟨(p.drop c).toArray⟩:=ext_drop p c
theorem cut_take (p:T) (c:Nat):(⟨p.toArray⟩:ByteArray).extract 0 c=⟨(p.take c).toArray⟩:=by rw [Lib.extract_eq]; simp
theorem with_else {m:Nat} (IH:WithTo m) {t:Tr} {v:Value} (p x:T) (w:World) (F:Fm) (hk:t.kind=1 ∨ t.kind=2) (hm:2 * p.length<=m) (hF:F.fresh w) (h:PAt w F false t v) (hg:Trim t) (hf:Nib.fitL p=true) (hl:p.length<=16):
    Calls Tryz.prog 99 #[v,.string ⟨p.toArray⟩,.string ⟨x.toArray⟩] w (MadeT w F (t.put p x)):=by
  have hnn:¬ t.isNil:=fun e=>by rw [← Tri.kind_nil] at e; omega
  obtain ⟨tb,htb,hput,htr,hrk,hpb⟩:=with_plan hg hk hf hl x
  obtain ⟨g,s',K,rfl,-,-,hr,hkk⟩:=h.row hnn
  have hcl:=Nib.commonL_le t.pth p
  have hqs:t.pth.length<=16:=by
    have:=hg.low
    cases t <;> simp_all [Tri.Tr.low,Tri.Tr.pth]
  have HCM:=qh (fun w=>common_any t.pth p w (by omega) (by omega))
  have n0:=hr.kind
  have n1:=hr.path
  have n3:=hr.kid 0
  have HR:=qh hr
  have HH:=qh h
  have HSP:Hid (Tri.splits t p=true->∀ w',Below w.heap.size w w'->Calls Tryz.prog 139 #[ptr g,.int .i64 (Nib.commonL t.pth p)] w' (MadeT w' F (splitT (Nib.commonL t.pth p) t))):=qh (fun hs w' hb=>
    split_any _ w' F (hF.size hb.size) (h.below hb) hk hg.firm hg.fits (by omega) hcl.1 (fun h2=>by
      cases t with
      | ext q u=>simpa [Tri.splits,Tri.Tr.pth] using hs
      | _=>cases h2))
  obtain ⟨c,hc⟩:∃ c,Nib.commonL t.pth p=c:=⟨_,rfl⟩
  rw [hc] at htb hput hrk hpb hcl HCM HSP
  obtain ⟨q,hq⟩:∃ q,t.pth=q:=⟨_,rfl⟩
  rw [hq] at hcl hqs HCM n1
  have HRB:Hid (∀ w' vb,Below w.heap.size w w'->PAt w' F false tb vb->Calls Tryz.prog 99 #[vb,.string ⟨(p.drop c).toArray⟩,.string ⟨x.toArray⟩] w' (MadeT w' F (tb.put (p.drop c) x))):=qh (fun w' vb hb hp=>
    IH tb vb (p.drop c) x w' F (Nat.le_trans hrk hm) (hF.size hb.size) hp htr (Tri.fit_drop _ hf) (by simp; omega))
  have HBH:Hid (∀ w' v6,Below w.heap.size w w'->PAt w' F false (tb.put (p.drop c) x) v6->Calls Tryz.prog 140 #[v6,.string ⟨(p.take c).toArray⟩] w' (MadeT w' F (t.put p x))):=qh (fun w' v6 hb hp=>by
    rw [hput]
    exact behind_any (p.take c) w' F (hF.size hb.size) hp (Or.inr (Tri.put_nn _ _ _)) (by simp; omega) (by omega))
  have htail:=cut_drop p c
  have htake:=cut_take p c
  have z0:(0:Int)<=(c:Int):=by omega
  have z1:(c:Int)<=(p.length:Int):=by omega
  obtain ⟨P1,hP1⟩:∃ P1,p.drop c=P1:=⟨_,rfl⟩
  obtain ⟨P2,hP2⟩:∃ P2,p.take c=P2:=⟨_,rfl⟩
  rw [hP1] at htail HRB HBH
  rw [hP2] at htake HBH
  have hkd:(t.kind:Int) ≠ 3:=by omega
  have e3:((t.kind:Int) == 3)=false:=by rw [beq_eq_false_iff_ne]; exact hkd
  obtain ⟨b1,hb1⟩:∃ b,decide ((c:Int) < (q.length:Int))=b:=⟨_,rfl⟩
  obtain ⟨b2,hb2⟩:∃ b,((t.kind:Int) == 1)=b:=⟨_,rfl⟩
  obtain ⟨b3,hb3⟩:∃ b,decide ((c:Int) < (p.length:Int))=b:=⟨_,rfl⟩
  have hsp:Tri.splits t p=(b1 || (b2 && b3)):=by
    subst hb1 hb2 hb3
    cases t with
    | nil=>exact absurd trivial hnn
    | br y k=>rcases hk with h | h <;> cases h
    | leaf q' y=>
      obtain rfl:q'=q:=hq
      have hc2:Nib.commonL q' p=c:=hc
      simp only [Tri.splits,hc2,Tri.Tr.kind]
      rw [Bool.eq_iff_iff]; simp
    | ext q' y=>
      obtain rfl:q'=q:=hq
      have hc2:Nib.commonL q' p=c:=hc
      simp only [Tri.splits,hc2,Tri.Tr.kind]
      rw [Bool.eq_iff_iff]; simp
  obtain ⟨kd,hkd2⟩:∃ kd,t.kind=kd:=⟨_,rfl⟩
  rw [hkd2] at n0 e3 hb2
  have hvk:PAt w F false (t.kid 0) (K 0):=(hkk 0).weak
  obtain ⟨vk,hvk2⟩:∃ vk,K 0=vk:=⟨_,rfl⟩
  rw [hvk2] at n3 hvk
  have HVK:=qh hvk
  have HTB:=qh htb
  have HG:Hid (∀ w',Below w.heap.size w w'->w'.cell? ⟨g,0,none⟩=some (.int .i64 kd)/\w'.cell? ⟨g,1,none⟩=some (.string ⟨q.toArray⟩)/\w'.cell? ⟨g,3,none⟩=some vk):=qh (fun w' hb=>by
    have k1:=hr.below hb
    have k3:=k1.kid 0
    rw [hvk2] at k3
    exact ⟨by rw [k1.kind,hkd2],by rw [k1.path,hq],k3⟩)
  have HSB:Hid (Tri.splits t p=(b1 || (b2 && b3))):=qh hsp
  unfold MadeT at HRB HBH HSP ⊢
  unfold ptr at HSP ⊢
  obtain ⟨TP,hTP⟩:∃ TP,t.put p x=TP:=⟨_,rfl⟩
  rw [hTP] at HBH ⊢
  clear h hg hf hl hm hcl hqs hput htr hrk hpb hr hkk IH hP1 hP2 hkd hsp hkd2 hvk hvk2 htb hc hq hTP hnn
  have hb1n:decide (c < q.length)=b1:=by rw [← hb1,decide_eq_decide]; omega
  have hb3n:decide (c < p.length)=b3:=by rw [← hb3,decide_eq_decide]; omega
  have hb2n:(kd == 1)=b2:=by rw [← hb2,Bool.eq_iff_iff]; simp; omega
  have HEND:Hid (∀ w',Below w.heap.size w w'->Below w.heap.size w w'.drew/\∀ vb,PAt w' F false tb vb->PAt w'.drew F false tb vb):=qh (fun w' hb=>⟨hb.drew,fun vb hp=>hp.below (Below.refl _ _).drew⟩)
  have HSPW:Hid (∀ b,Tri.splits t p=b->(b=true->(if Tri.splits t p then splitT c t else t.kid 0)=splitT c t)/\(b=false->(if Tri.splits t p then splitT c t else t.kid 0)=t.kid 0)):=qh (fun b hb=>by rw [hb]; exact ⟨fun e=>by rw [e]; rfl,fun e=>by rw [e]; rfl⟩)
  clear hk
  cases b1 with
  | true=>
    replace HSP:=qh (HSP.out HSB.out)
    replace HTB:Hid (tb=splitT c t):=qh (HTB.out.trans ((HSPW.out _ HSB.out).1 rfl))
    clear HSB HSPW
    go_enter Tryz.func99,Tryz.ntmps99
    go_wp2_with fail
    refine (HCM.out _).mono ?_
    rintro e w1 ⟨rfl,hbw1⟩
    obtain ⟨m0,m1,m3⟩:=HG.out _ hbw1
    have HB1:=qh hbw1
    clear hbw1
    go_wp2_with fail
    refine (HSP.out _ HB1.out).mono ?_
    rintro e w2 ⟨vb,rfl,hpb,hbs⟩
    have HB2:=qh (bchain HB1.out hbs)
    have HPB:Hid (PAt w2 F false tb vb):=qh (by rw [HTB.out]; exact hpb)
    clear hpb hbs m0 m1 m3
    go_upto_region 13 with fail
    obtain ⟨BD,PD0⟩:=HEND.out _ HB2.out
    have PD:=PD0 _ HPB.out
    clear PD0
    go_region_held3 (fun _=>True) (trivial)
      (first | (go_at_call 99; refine (HRB.out _ vb ?_ ?_).mono ?_; (with_reducible exact BD); (with_reducible exact PD); rintro e w6 ⟨v6,rfl,hp6,hb6⟩; have hb6':=bchain BD hb6) | (go_at_call 140; refine (HBH.out _ v6 ?_ ?_).mono ?_; (with_reducible exact hb6'); (with_reducible exact hp6); rintro e w7 ⟨v7,rfl,hp7,hb7⟩; have hb7':=bchain hb6' hb7))
    all_goals
      go_wp2
      go_ret
      exact ⟨v7,rfl,hp7,hb7'⟩
  | false=>
    cases b2 with
    | false=>
      replace HTB:Hid (tb=t.kid 0):=qh (HTB.out.trans ((HSPW.out _ HSB.out).2 rfl))
      clear HSB HSPW HSP
      go_enter Tryz.func99,Tryz.ntmps99
      go_wp2_with fail
      refine (HCM.out _).mono ?_
      rintro e w1 ⟨rfl,hbw1⟩
      obtain ⟨m0,m1,m3⟩:=HG.out _ hbw1
      have HB1:=qh hbw1
      clear hbw1
      obtain ⟨vb,hvb⟩:∃ vb,vk=vb:=⟨_,rfl⟩
      rw [hvb] at m3
      have HPB:Hid (PAt w1 F false tb vb):=qh (by rw [HTB.out,← hvb]; exact HVK.out.below HB1.out)
      clear hvb
      go_upto_region 13 with fail
      obtain ⟨BD,PD0⟩:=HEND.out _ HB1.out
      have PD:=PD0 _ HPB.out
      clear PD0 m0 m1 m3
      go_region_held3 (fun _=>True) (trivial)
        (first | (go_at_call 99; refine (HRB.out _ vb ?_ ?_).mono ?_; (with_reducible exact BD); (with_reducible exact PD); rintro e w6 ⟨v6,rfl,hp6,hb6⟩; have hb6':=bchain BD hb6) | (go_at_call 140; refine (HBH.out _ v6 ?_ ?_).mono ?_; (with_reducible exact hb6'); (with_reducible exact hp6); rintro e w7 ⟨v7,rfl,hp7,hb7⟩; have hb7':=bchain hb6' hb7))
      all_goals
        go_wp2
        go_ret
        exact ⟨v7,rfl,hp7,hb7'⟩
    | true=>
      cases b3 with
      | false=>
        replace HTB:Hid (tb=t.kid 0):=qh (HTB.out.trans ((HSPW.out _ HSB.out).2 rfl))
        clear HSB HSPW HSP
        go_enter Tryz.func99,Tryz.ntmps99
        go_wp2_with fail
        refine (HCM.out _).mono ?_
        rintro e w1 ⟨rfl,hbw1⟩
        obtain ⟨m0,m1,m3⟩:=HG.out _ hbw1
        have HB1:=qh hbw1
        clear hbw1
        obtain ⟨vb,hvb⟩:∃ vb,vk=vb:=⟨_,rfl⟩
        rw [hvb] at m3
        have HPB:Hid (PAt w1 F false tb vb):=qh (by rw [HTB.out,← hvb]; exact HVK.out.below HB1.out)
        clear hvb
        go_upto_region 13 with fail
        obtain ⟨BD,PD0⟩:=HEND.out _ HB1.out
        have PD:=PD0 _ HPB.out
        clear PD0 m0 m1 m3
        go_region_held3 (fun _=>True) (trivial)
          (first | (go_at_call 99; refine (HRB.out _ vb ?_ ?_).mono ?_; (with_reducible exact BD); (with_reducible exact PD); rintro e w6 ⟨v6,rfl,hp6,hb6⟩; have hb6':=bchain BD hb6) | (go_at_call 140; refine (HBH.out _ v6 ?_ ?_).mono ?_; (with_reducible exact hb6'); (with_reducible exact hp6); rintro e w7 ⟨v7,rfl,hp7,hb7⟩; have hb7':=bchain hb6' hb7))
        all_goals
          go_wp2
          go_ret
          exact ⟨v7,rfl,hp7,hb7'⟩
      | true=>
        replace HSP:=qh (HSP.out HSB.out)
        replace HTB:Hid (tb=splitT c t):=qh (HTB.out.trans ((HSPW.out _ HSB.out).1 rfl))
        clear HSB HSPW
        go_enter Tryz.func99,Tryz.ntmps99
        go_wp2_with fail
        refine (HCM.out _).mono ?_
        rintro e w1 ⟨rfl,hbw1⟩
        obtain ⟨m0,m1,m3⟩:=HG.out _ hbw1
        have HB1:=qh hbw1
        clear hbw1
        go_wp2_with fail
        refine (HSP.out _ HB1.out).mono ?_
        rintro e w2 ⟨vb,rfl,hpb,hbs⟩
        have HB2:=qh (bchain HB1.out hbs)
        have HPB:Hid (PAt w2 F false tb vb):=qh (by rw [HTB.out]; exact hpb)
        clear hpb hbs m0 m1 m3
        go_upto_region 13 with fail
        obtain ⟨BD,PD0⟩:=HEND.out _ HB2.out
        have PD:=PD0 _ HPB.out
        clear PD0
        go_region_held3 (fun _=>True) (trivial)
          (first | (go_at_call 99; refine (HRB.out _ vb ?_ ?_).mono ?_; (with_reducible exact BD); (with_reducible exact PD); rintro e w6 ⟨v6,rfl,hp6,hb6⟩; have hb6':=bchain BD hb6) | (go_at_call 140; refine (HBH.out _ v6 ?_ ?_).mono ?_; (with_reducible exact hb6'); (with_reducible exact hp6); rintro e w7 ⟨v7,rfl,hp7,hb7⟩; have hb7':=bchain hb6' hb7))
        all_goals
          go_wp2
          go_ret
          exact ⟨v7,rfl,hp7,hb7'⟩
theorem with_to (m:Nat):WithTo m:=by
  induction m using Nat.strongRecOn with
  | ind m IH=>
    intro t v p x w F hr hF h hg hf hl
    cases t with
    | nil=>
      have e:v=.pointer none:=h
      subst e
      exact with_nil p x w F hF
    | leaf q y=>
      have hm:2 * p.length+1<=m:=hr
      exact with_else (IH (m - 1) (by omega)) p x w F (Or.inl rfl) (by omega) hF h hg hf hl
    | ext q u=>
      have hm:2 * p.length+1<=m:=hr
      exact with_else (IH (m - 1) (by omega)) p x w F (Or.inr rfl) (by omega) hF h hg hf hl
    | br y k=>
      cases p with
      | nil=>exact with_here x w F hF h
      | cons b p=>
        have hm:2 * (b :: p).length<=m:=hr
        rw [List.length_cons] at hm
        exact with_below (IH (m - 1) (by omega)) b p x w F (by omega) hF h hg hf hl
theorem with_any {t:Tr} {v:Value} (p x:T) (w:World) (F:Fm) (hF:F.fresh w) (h:PAt w F false t v) (hg:Trim t) (hf:Nib.fitL p=true) (hl:p.length<=16):
    Calls Tryz.prog 99 #[v,.string ⟨p.toArray⟩,.string ⟨x.toArray⟩] w (MadeT w F (t.put p x)):=with_to _ t v p x w F (Nat.le_refl _) hF h hg hf hl
end
section
open Go.RowKit
open Sto (T)
open Tri (Tr Ok upd ix hb lay splitT Trim rank)
def within (t:Tr):Prop:=∀ x ∈ t.items,x.1.length<=16
end
section
open Go.RowKit
open Sto (T)
open Tri (Tr Ok upd ix hb lay splitT Trim rank)
open Go.Proofs.YtaficmboooaknaaGreatDoor.Nd (N)
structure Sealed (w:World) (t:Tr) (v:Value):Prop where
  at_:PAt w (Fm.from 0) true t v
  ok:Ok t
  within:within t
  few:∀ p,(t.spots Nd.sumS p).length<=100000
theorem Sealed.below {w w':World} {t:Tr} {v:Value} (h:Sealed w t v) (hb:Below w.heap.size w w'):Sealed w' t v:=⟨h.at_.below hb,h.ok,h.within,h.few⟩
theorem visits_le (want:T->Bool) (t:Tr) (p:T):(t.visits want p).length<=(t.spots Nd.sumS p).length:=by
  induction t generalizing p with
  | nil=>exact Nat.le_refl _
  | leaf q v=>exact Nat.le_refl _
  | ext q t ih=>
    rw [Tri.Tr.visits,Tri.Tr.spots,List.length_cons,List.length_cons]
    split
    · exact Nat.succ_le_succ (ih _)
    · simp
  | br v k ih=>
    rw [Tri.Tr.visits,Tri.Tr.spots,List.length_cons,List.length_cons]
    split
    · refine Nat.succ_le_succ ?_
      have:∀ l:List (Fin 16),(l.flatMap fun i=>(k i).visits want (p ++ [hb i])).length<=(l.flatMap fun i=>(k i).spots Nd.sumS (p ++ [hb i])).length:=fun l=>by
        induction l with
        | nil=>exact Nat.le_refl _
        | cons i l ihl=>
          rw [List.flatMap_cons,List.flatMap_cons,List.length_append,List.length_append]
          exact Nat.add_le_add (ih i _) ihl
      exact this _
    · simp
theorem texts_visits {w:World} {id:Nat} {wc:Array Value} {want:T->Bool} (hW:Wants w id wc want):
    Visits w (Fm.from 0) 86 #[.pointer (some ⟨w.heap.size,0,none⟩),.pointer (some ⟨w.heap.size+1,0,none⟩)] want (fun w' L=>TextsI (w.heap.size+2) (w.heap.size+1) w.heap.size (.func (.func id) #[] wc) want w' L/\w.heap.size+2<=w'.heap.size) where
  call:=fun _ _=>rfl
  keep:=fun w' w'' L ⟨⟨z,h1,h2,h3⟩,h4⟩ hb=>⟨⟨z,(hb.block _ (lt_of_heap h1)).trans h1,(hb.block _ (lt_of_heap h2)).trans h2,h3.below hb⟩,Nat.le_trans h4 hb.size⟩
  step:=fun w' L p t v hlen hb hI h hn ho hf hl=>by
    have:=texts_step hW (F:=Fm.from 0) (w.heap.size+2) (w.heap.size+1) w.heap.size ⟨by omega,by omega,by omega⟩ (by omega) w' L p t v hlen hb hI.2 hI.1 h hn ho hf (by
      have:=pth_len ho hn hl; omega)
    refine this.mono fun e w'' ⟨h1,h2,h3⟩=>⟨h1,⟨h2,?_⟩,h3⟩
    obtain ⟨z,q1,_⟩:=h2
    have:=lt_of_heap q1
    omega
def TextsPost (w:World) (L:List T) (e:Ending) (w':World):Prop:=∃ z,e=.returned z/\Own w' w.heap.size z L/\Below w.heap.size w w'
theorem texts_any {g:Nat} {t:Tr} {top n:Value} {id:Nat} {wc:Array Value} {want:T->Bool} (w:World) (hg:w.heap[g]?=some (.cells #[top,n] 84 (0,0))) (hs:Sealed w t top) (hW:Wants w id wc want) (hd:Down want):
    Calls Tryz.prog 51 #[ptr g,.func (.func id) #[] wc] w (TextsPost w (wantedT want t)):=by
  unfold TextsPost
  have hmf:∀ (fn:Fn) (first cap:Array Value) (w:World),(Instr.makeFunc fn first cap).run Tryz.prog w=.ok (.func fn first cap) w:=fun _ _ _ _=>rfl
  have hb1:Below w.heap.size w ((w.alloc (.cells #[.func (.func id) #[] wc] 91)).alloc (.cells #[.slice none 0 0] 29)):=((Below.refl _ w).alloc (Nat.le_refl _) _).alloc (by simp) _
  have c0:((w.alloc (.cells #[.func (.func id) #[] wc] 91)).alloc (.cells #[.slice none 0 0] 29)).cell? ⟨g,0,none⟩=some top:=by
    rw [cell_of_row _ g 0 _ _ _ ((hb1.block g (lt_of_heap hg)).trans hg)]; rfl
  have hI0:TextsI (w.heap.size+2) (w.heap.size+1) w.heap.size (.func (.func id) #[] wc) want ((w.alloc (.cells #[.func (.func id) #[] wc] 91)).alloc (.cells #[.slice none 0 0] 29)) []:=
    ⟨_,heap_new_at _ _ _ (by simp),heap_old_at _ (heap_alloc_new w _),Own.nil _ _⟩
  have HWK:=qh (walk_to (texts_visits hW) t _ [] [] top (by
    have:=visits_le want t []
    have:=hs.few []
    simp; omega) hb1 ⟨hI0,by simp⟩ hs.at_ hs.ok rfl (fun x hx=>by
      have:=hs.within x hx
      simpa using this))
  have HWT:=qh (wanted_texts hd t)
  rw [List.nil_append] at HWK
  unfold ptr
  clear hg hs hW hd hb1 hI0
  go_enter Tryz.func51,Tryz.ntmps51
  go_wp2_with fail
  refine HWK.out.mono ?_
  rintro e w2 ⟨rfl,⟨⟨z,h1,h2,h3⟩,h4⟩,hb2⟩
  have m1:=cell_of_one h1
  have HO:Hid (Own w2 w.heap.size z (wantedT want t)):=qh (by rw [← HWT.out]; exact own_lowS h3 (by omega))
  have HB:=qh hb2
  clear h1 h2 h3 h4 hb2
  go_wp2
  go_ret
  exact ⟨z,rfl,HO.out,HB.out⟩
end
section
open Go.RowKit
open Go.Proofs.YtaficmboooaknaaGreatDoor.Sto (St)
def itcl (p:List UInt8 × List UInt8):List Value:=[.string ⟨p.1.toArray⟩,.string ⟨p.2.toArray⟩]
theorem itcl_length (p:List UInt8 × List UInt8):(itcl p).length=2:=rfl
theorem itcl_one (p:List UInt8 × List UInt8):∀ u ∈ itcl p,u.oneCell'=true:=by
  intro u hu
  simp [itcl] at hu
  rcases hu with rfl | rfl <;> rfl
theorem Tryz.infoItem:(Tryz.prog.info? 60).map (fun i=>(i.zero,i.size,i.bytes))=some (some (.agg #[.string ⟨#[]⟩,.string ⟨#[]⟩]),2,32):=by kernel_rfl
def ItAt (w:World) (v:Value) (L:St):Prop:=RowsAt 60 2 itcl w v L
theorem ItAt.at {w:World} {A:Option Addr} {n cap:Nat} {S:St} (h:ItAt w (.slice A n cap) S) (k:Nat) (hk:k < S.length):
    ∃ b o,A=some ⟨b,o,none⟩/\w.cell? ⟨b,o+k * 2,none⟩=some (.string ⟨(S[k].1).toArray⟩)/\w.cell? ⟨b,o+k * 2+1,none⟩=some (.string ⟨(S[k].2).toArray⟩):=by
  obtain ⟨b,o,rfl,h1⟩:=RowsAt.at h k hk
  exact ⟨b,o,rfl,h1 0 _ rfl,h1 1 _ rfl⟩
def ItIn (w:World) (v:Value) (L:St):Prop:=RowsIn 2 itcl w v L
theorem ItAt.inn {w:World} {v:Value} {L:St} (h:ItAt w v L):ItIn w v L:=RowsAt.inn h
theorem ItIn.at {w:World} {A:Option Addr} {n cap:Nat} {S:St} (h:ItIn w (.slice A n cap) S) (k:Nat) (hk:k < S.length):
    ∃ b o,A=some ⟨b,o,none⟩/\w.cell? ⟨b,o+k * 2,none⟩=some (.string ⟨(S[k].1).toArray⟩)/\w.cell? ⟨b,o+k * 2+1,none⟩=some (.string ⟨(S[k].2).toArray⟩):=by
  obtain ⟨b,o,rfl,h1⟩:=RowsIn.at h k hk
  exact ⟨b,o,rfl,h1 0 _ rfl,h1 1 _ rfl⟩
theorem Tri.pos_at {S:St} {x:List UInt8} {i:Nat} (hi:i<=S.length) (hlo:∀ (j:Nat) (_:j < i) (h:j < S.length),S[j].1 < x) (hhi:∀ h:i < S.length,¬ S[i].1 < x):Tri.pos S x=i/\Tri.at_ S x=(S[i]?.map (·.1) == some x):=by
  have e:=Tri.pos_of S x i hi (fun j h=>hlo j h (by omega)) hhi
  exact ⟨e,by rw [Tri.at_,e]⟩
def RAtIs (S:St) (x:List UInt8) (w:World) (e:Ending) (w':World):Prop:=
  e=.returned (.tuple #[.int .i64 (Tri.pos S x),.bool (Tri.at_ S x)])/\∃ q,w'=w.drewN q
theorem rtAt_any (S:St) (v:Value) (x:List UInt8) (w:World) (hv:ItAt w v S) (hl:S.length<=10000):
    Calls Tryz.prog 63 #[v,.string ⟨x.toArray⟩] w (RAtIs S x w):=by
  have HV:=qh hv
  obtain ⟨A,cap,rfl,-,-⟩:=hv.form
  clear hv
  go_enter Tryz.func63,Tryz.ntmps63
  go_wp2
  go_loop [6] (fun iv=>∃ k:Nat,k<=S.length/\iv=.int .i64 k/\∀ (j:Nat) (hj:j < k) (hj':j < S.length),S[j].1 < x) (fun i=>S.length - (intOf i).toNat)
  case atStart=>exact ⟨0,Nat.zero_le _,rfl,fun j hj=>absurd hj (Nat.not_lt_zero j)⟩
  case round=>
    obtain ⟨k,hk,rfl,hall⟩:=hrel
    have HA:=qh hall
    clear hall
    by_cases hlt:k < S.length
    · have h1:(k:Int) < (S.length:Int):=by omega
      have h0:(0:Int)<=(k:Int):=by omega
      have hnb:(k:Int)<=100000:=by omega
      obtain ⟨b,o,rfl,n0,n1⟩:=HV.out.at k hlt
      obtain ⟨y,hy⟩:∃ y,S[k].1=y:=⟨_,rfl⟩
      have HY:=qh hy
      rw [hy] at n0
      by_cases hyx:y < x
      · have e1:Op.bytesLess y x=true:=by rw [less_lt]; simpa using hyx
        have HYX:=qh hyx
        clear n1 hy hyx
        go_wp2
        refine ⟨⟨k+1,by omega,by go_num,?_⟩,by simp [intOf]; omega⟩
        intro j hj hj'
        by_cases e:j < k
        · exact HA.out j e hj'
        · obtain rfl:j=k:=by omega
          rw [HY.out]; exact HYX.out
      · have e1:Op.bytesLess y x=false:=by rw [less_lt]; simpa using hyx
        obtain ⟨c,hc⟩:∃ c,(y == x)=c:=⟨_,rfl⟩
        have HC:Hid (Tri.pos S x=k/\Tri.at_ S x=c):=qh (by
          obtain ⟨g1,g2⟩:=Tri.pos_at (x:=x) hk (fun j hj hj'=>HA.out j hj hj') (fun _=>by rw [hy]; exact hyx)
          refine ⟨g1,?_⟩
          rw [g2,List.getElem?_eq_getElem hlt,← hc,Option.map_some,hy]; rfl)
        have m2:w.drew.cell? ⟨b,o+k * 2,none⟩=some (.string ⟨y.toArray⟩):=n0
        clear n1 hy hyx
        go_wp2
        go_region
        all_goals
          go_wp2
          go_ret2
          exact ⟨by rw [HC.out.1,HC.out.2]; rfl,_,rfl⟩
    · obtain rfl:k=S.length:=by omega
      have h1:¬ ((S.length:Int) < (S.length:Int)):=by omega
      have HC:Hid (Tri.pos S x=S.length/\Tri.at_ S x=false):=qh (by
        obtain ⟨g1,g2⟩:=Tri.pos_at (x:=x) (Nat.le_refl _) (fun j hj hj'=>HA.out j hj hj') (fun h=>absurd h (by omega))
        refine ⟨g1,?_⟩
        rw [g2,List.getElem?_eq_none (Nat.le_refl _)]; rfl)
      go_wp2
      go_ret2
      exact ⟨by rw [HC.out.1,HC.out.2]; rfl,0,rfl⟩
end
section
open Go.RowKit
open Go.Proofs.YtaficmboooaknaaGreatDoor.Sto (St)
def Tri.keyed (x:List UInt8):Bool:=decide (1<=x.length) && decide (x.length<=8)
theorem rKeyed_all (x:List UInt8) (w:World):
    Calls Tryz.prog 62 #[.string ⟨x.toArray⟩] w fun e w'=>e=.returned (.bool (Tri.keyed x))/\w=w':=by
  unfold Tri.keyed
  go_enter Tryz.func62,Tryz.ntmps62
  by_cases h1:1<=x.length
  · have g1:((x.length:Int) ≥ 1):=by omega
    by_cases h2:x.length<=8
    · have g2:((x.length:Int)<=8):=by omega
      go_wp2
      go_ret
      exact ⟨by simp [h1,h2],rfl⟩
    · have g2:¬ ((x.length:Int)<=8):=by omega
      go_wp2
      go_ret
      exact ⟨by simp,rfl⟩
  · have g1:¬ ((x.length:Int) ≥ 1):=by omega
    go_wp2
    go_ret
    exact ⟨by simp,rfl⟩
def Tri.getC (S:St) (x:List UInt8):List UInt8 × Nat:=if Tri.keyed x then (match Sto.look S x with | some v=>(v,0) | none=>([],5)) else ([],1)
theorem Tri.getC_none {S:St} {x:List UInt8} (h:Tri.keyed x=true) (h2:Sto.look S x=none):Tri.getC S x=([],5):=by simp [Tri.getC,h,h2]
theorem Tri.getC_some {S:St} {x y:List UInt8} (h:Tri.keyed x=true) (h2:Sto.look S x=some y):Tri.getC S x=(y,0):=by simp [Tri.getC,h,h2]
end
section
open Go.RowKit
open Go.Proofs.YtaficmboooaknaaGreatDoor.Sto (St)
def Tri.putC (S:St) (x y:List UInt8):Nat:=if Tri.keyed x then (if 1<=y.length/\y.length<=32/\(Tri.at_ S x=true ∨ S.length < 1024) then 0 else 2) else 1
def Tri.putL (S:St) (x y:List UInt8):St:=if Tri.putC S x y=0 then Tri.put S x y else []
theorem Tri.putC_no {S:St} {x y:List UInt8} (h:Tri.keyed x=false):Tri.putC S x y=1:=by simp [Tri.putC,h]
theorem Tri.putC_bad {S:St} {x y:List UInt8} (h:Tri.keyed x=true) (h2:¬ (1<=y.length/\y.length<=32/\(Tri.at_ S x=true ∨ S.length < 1024))):Tri.putC S x y=2:=by rw [Tri.putC,if_pos h,if_neg h2]
theorem Tri.putC_ok {S:St} {x y:List UInt8} (h:Tri.keyed x=true) (h2:1<=y.length/\y.length<=32/\(Tri.at_ S x=true ∨ S.length < 1024)):Tri.putC S x y=0:=by rw [Tri.putC,if_pos h,if_pos h2]
def RtPutPost (S:St) (x y:List UInt8) (w:World) (e:Ending) (w':World):Prop:=
  ∃ v',e=.returned (.tuple #[v',.int .i64 (Tri.putC S x y)])/\ItAt w' v' (Tri.putL S x y)/\Below w.heap.size w w'
theorem RtPutPost.bad {S:St} {x y:List UInt8} {w w':World} {c:Nat} (h:Tri.putC S x y=c) (hc:c ≠ 0) (hb:Below w.heap.size w w'):RtPutPost S x y w (.returned (.tuple #[.slice none 0 0,.int .i64 c])) w':=by
  subst h
  exact ⟨_,rfl,by rw [Tri.putL,if_neg hc]; exact RowsAt.nil ..,hb⟩
theorem RtPutPost.good {S T R:St} {x y:List UInt8} {w w':World} {v':Value} (h:Tri.putC S x y=0) (hp:Tri.put S x y=T ++ (x,y) :: R) (hv:ItAt w' v' (T ++ (x,y) :: R)) (hb:Below w.heap.size w w'):RtPutPost S x y w (.returned (.tuple #[v',.int .i64 0])) w':=by
  refine ⟨v',by rw [h]; rfl,?_,hb⟩
  rw [Tri.putL,if_pos h,hp]; exact hv
theorem append_it {w:World} {v s:Value} {S:St} {B n:Nat} {xs:List Value} (hv:ItAt w v S) (hs:w.ownsRow B 60 2 s n xs) (hl:n+S.length<=1000000) (hB:B<=w.heap.size):
    ∃ v' w',(Builtin.append_ #[22,22] 22 #[s,v]).run Tryz.prog w=.ok v' w'/\w'.ownsRow B 60 2 v' (n+S.length) (xs ++ rowsL itcl S)/\w.grownBy w' s.ownBlock/\(v'.ownBlock=s.ownBlock ∨ v'.ownBlock=some w.heap.size):=by
  obtain ⟨i0,hi,hz0,hz1,hz2⟩:=info_parts Tryz.infoItem
  exact append_rows 22 60 i0 _ 32 Tryz.underlying22 Tryz.sizeOf60 hi hz0 hz1 hz2 rfl (by decide) (by decide) itcl_length itcl_one hv hs hl hB
theorem it_third {w w1 w2:World} {v1 l2:Value} {T R:St} {one:List UInt8 × List UInt8} {g' cap' B:Nat} {o:Obj} (hB:B<=w.heap.size) (hb:Below w.heap.size w w1) (hB1:∀ k,v1.ownBlock=some k->w.heap.size<=k)
    (h2:w2.ownsRow B 60 2 (.slice (some ⟨g',0,none⟩) (T.length+1) cap') (T.length+1) (rowsL itcl T ++ rowsL itcl [one])) (hg:(w1.alloc o).grownBy w2 v1.ownBlock) (hg':w.heap.size<=g') (hs:ItAt w l2 R) (hl:T.length+1+R.length<=1000000):
    ∃ v3 w3,(Builtin.append_ #[22,22] 22 #[.slice (some ⟨g',0,none⟩) (T.length+1) cap',l2]).run Tryz.prog w2=.ok v3 w3/\ItAt w3 v3 (T ++ one :: R)/\Below w.heap.size w w3:=by
  have hb1:=hb.alloc hb.size o
  have hb2:Below w.heap.size w w2:=hb1.trans ((Out.grown hg (F:=fun j=>v1.ownBlock=some j) (fun j e=>e)).below (fun j hj=>hB1 j hj) hb1.size)
  obtain ⟨v3,w3,hrun,hown,hgr,_⟩:=append_it (RowsAt.below hs hb2) h2 hl (Nat.le_trans hB hb2.size)
  refine ⟨v3,w3,hrun,?_,hb2.trans ((Out.grown hgr (F:=fun j=>j=g') (fun j e=>by simp [Value.ownBlock] at e; exact e.symm)).below (fun j hj=>hj ▸ hg') hb2.size)⟩
  have e1:rowsL itcl (T ++ one :: R)=rowsL itcl T ++ rowsL itcl [one] ++ rowsL itcl R:=by
    rw [show T ++ one :: R=(T ++ [one]) ++ R by simp,rowsL_append,rowsL_append]
  have e2:(T ++ one :: R).length=T.length+1+R.length:=by simp; omega
  refine RowsAt.own (B:=B) itcl_length ?_
  rw [e1,e2]
  exact hown
theorem bel_drewI {B:Nat} {a w w':World} (h:Below B a w) (hq:∃ q,w'=w.drewN q):Below B a w':=by
  obtain ⟨q,rfl⟩:=hq
  exact bel_drewN h q
theorem rtPut_all (S:St) (v:Value) (x y:List UInt8) (w:World) (hv:ItAt w v S) (hl:S.length<=10000):
    Calls Tryz.prog 33 #[v,.string ⟨x.toArray⟩,.string ⟨y.toArray⟩] w (RtPutPost S x y w):=by
  have HK:=qh (fun w=>rKeyed_all x w)
  have HV:=qh hv
  have HL:=qh hl
  have HA:=qh (rtAt_any S v x w hv hl)
  have HPE:=qh (Tri.put_eq S x y)
  obtain ⟨A,cap,rfl,hcap,hcs⟩:=hv.form
  have HCS:=qh hcs
  have HCAP:=qh hcap
  have HPL:=qh (Tri.pos_le S x)
  have HPT:Hid (Tri.at_ S x=true->Tri.pos S x < S.length):=qh (fun h=>by
    unfold Tri.at_ at h
    rcases Nat.lt_or_ge (Tri.pos S x) S.length with h2 | h2
    · exact h2
    · rw [List.getElem?_eq_none h2] at h; simp at h)
  have HB0:=qh (Below.refl w.heap.size w)
  obtain ⟨kb,hkb⟩:∃ kb,Tri.keyed x=kb:=⟨_,rfl⟩
  have HKB:=qh hkb
  rw [hkb] at HK
  clear hv hl hkb hcs hcap
  go_enter Tryz.func33,Tryz.ntmps33
  go_wp2_with fail
  refine (HK.out w).mono ?_
  rintro e w1 ⟨rfl,rfl⟩
  cases kb with
  | false=>
    go_wp2
    go_ret2
    exact RtPutPost.bad (Tri.putC_no HKB.out) (by decide) HB0.out
  | true=>
    go_wp2_with fail
    refine HA.out.mono ?_
    rintro e w1 ⟨rfl,hq⟩
    have HB1:Hid (Below w.heap.size w w1):=qh (bel_drewI HB0.out hq)
    have HV1:=qh (RowsAt.below HV.out HB1.out)
    have HSZ1:=qh HB1.out.size
    clear hq
    obtain ⟨b,hb⟩:∃ b,Tri.at_ S x=b:=⟨_,rfl⟩
    have HBB:=qh hb
    rw [hb] at HPE HPT ⊢
    obtain ⟨P,hP⟩:∃ P,Tri.pos S x=P:=⟨_,rfl⟩
    rw [hP] at HPE HPL HPT ⊢
    clear hb hP
    by_cases hbad:1<=y.length/\y.length<=32/\(b=true ∨ S.length < 1024)
    · have HOK:Hid (Tri.putC S x y=0):=qh (Tri.putC_ok HKB.out (by rw [HBB.out]; exact hbad))
      have y1:decide ((y.length:Int) < 1)=false:=decide_eq_false (by omega)
      have y2:decide ((32:Int) < (y.length:Int))=false:=decide_eq_false (by omega)
      have h0:(0:Int)<=(P:Int):=by omega
      have hpc:(P:Int)<=(cap:Int):=by have:=HCAP.out; have:=HPL.out; omega
      have hps:(P:Int)<=(S.length:Int):=by have:=HPL.out; omega
      have ht:=HV1.out.take P HPL.out
      have hTl:(S.take P).length=P:=by have:=HPL.out; simp; omega
      obtain ⟨T,hT⟩:∃ T,S.take P=T:=⟨_,rfl⟩
      rw [hT] at ht hTl HPE
      obtain ⟨v1,w2,hrun1,hown1,hgr1,hat1⟩:=append_it ht (World.ownsRow_nil w1 w1.heap.size 60 2) (by have:=HL.out; have:=HPL.out; omega) (Nat.le_refl _)
      rw [List.nil_append,Nat.zero_add] at hown1
      have hb2:Below w1.heap.size w1 w2:=(Out.grown hgr1 (F:=fun _=>False) (fun j e=>by simp [Value.ownBlock] at e)).below (fun _ hf=>hf.elim) (Nat.le_refl _)
      obtain ⟨i0,hi,hz0,hz1,hz2⟩:=info_parts Tryz.infoItem
      obtain ⟨A1,cap1,rfl⟩:=own_form hown1
      have HOW1:=qh hown1
      have HB2:=qh hb2
      have HTL:Hid (T.length=P/\P<=10000):=qh ⟨hTl,by have:=HL.out; have:=HPL.out; omega⟩
      cases b with
      | false=>
        have hs1:decide ((1024:Int)<=(S.length:Int))=false:=decide_eq_false (by have:=hbad.2.2; simp at this; omega)
        have hRl:(S.drop P).length<=10000:=by have:=HL.out; simp; omega
        obtain ⟨R,hR⟩:∃ R,S.drop P=R:=⟨_,rfl⟩
        simp only [Bool.false_eq_true,if_false,Nat.add_zero] at HPE
        rw [hR] at hRl HPE
        have HTH:=qh (fun w3 g' cap' l2 h2 hg hg' hs=>it_third (w2:=w3) (l2:=l2) (T:=T) (R:=R) (one:=(x,y)) (g':=g') (cap':=cap') (o:=.cells #[.string ⟨x.toArray⟩,.string ⟨y.toArray⟩] 60) (Nat.le_refl _) hb2 (fun k hk=>(World.ownsRow.lt hown1 k hk).1) h2 hg hg' hs (by have:=HL.out; have:=HPL.out; omega))
        have HFIN:Hid (∀ v3 w3,ItAt w3 v3 (T ++ (x,y) :: R)->Below w1.heap.size w1 w3->RtPutPost S x y w (.returned (.tuple #[v3,.int .i64 0])) w3):=qh (fun v3 w3 q1 q2=>RtPutPost.good HOK.out HPE.out q1 (HB1.out.trans (q2.mono HSZ1.out)))
        have HRQ:=qh hR
        clear hgr1 hat1 hb2 hown1 hTl hRl ht hT hR hbad
        rcases HCS.out with ⟨hs0,rfl,rfl⟩ | ⟨b,o,rfl⟩
        · have hSl:S.length=0:=by rw [hs0]; rfl
          obtain rfl:P=0:=by have:=HPL.out; omega
          have HDR:Hid (ItAt w1 (.slice none 0 0) R):=qh (by rw [← HRQ.out,hs0]; exact RowsAt.nil ..)
          rw [hSl] at hs1 ⊢
          clear hs0 hSl hps hpc
          go_wp2_with (first | (at_builtin; refine wpList_append_run rfl _ _ _ rfl (.slice none 0 0) (.slice none 0 0) (.slice A1 T.length cap1) (by rfl) (by rfl) hrun1 ?_) | (at_builtin; refine wpList_append_lies _ rfl _ _ _ rfl w1.heap.size 60 i0 (.agg #[.string ⟨#[]⟩,.string ⟨#[]⟩]) 2 32 Tryz.underlying22 hi hz0 hz1 hz2 rfl (by decide) (.slice A1 T.length cap1) T.length (rowsL itcl T) (by rfl) (World.ownsRow.alloc HOW1.out _) ⟨w2.heap.size,0,none⟩ 1 1 (rowsL itcl [(x,y)]) (by rfl) rfl (World.news_of_block (heap_new_at _ _ _ (by simp))) (by simp [rowsL,itcl,Value.oneCell']) (by decide) (by have:=HTL.out; unfold maxLen; omega) (by have:=HTL.out; omega) (by have:=HB2.out.size; simp at this ⊢; omega) (w2.heap.size+1) (by simp) ?_; intro g' cap' w3 hown3 hgr3 hat3 hlt3) | (at_builtin; obtain ⟨v4,w4,hrun4,hst4,hb4⟩:=HTH.out w3 g' cap' (.slice none 0 0) hown3 hgr3 (World.ownsRow.lt hown3 g' rfl).1 HDR.out; refine wpList_append_run rfl _ _ _ rfl (.slice (some ⟨g',0,none⟩) (T.length+1) cap') (.slice none 0 0) v4 (by rfl) (by rfl) hrun4 ?_))
          go_ret2
          exact HFIN.out _ _ hst4 hb4
        · by_cases hPc:P=cap
          · subst hPc
            have hSP:S.length=P:=by have:=HCAP.out; have:=HPL.out; omega
            have HDR:Hid (ItAt w1 (.slice (some ⟨b,o,none⟩) 0 0) R):=qh (by
              have h:=RowsAt.drop HV1.out P (Nat.le_of_eq hSP.symm) b o (fun h=>by omega)
              rw [HRQ.out,hSP,Nat.sub_self] at h
              exact h)
            rw [hSP] at hs1 ⊢
            clear hSP hps hpc
            go_wp2_with (first | (at_builtin; refine wpList_append_run rfl _ _ _ rfl (.slice none 0 0) (.slice (some ⟨b,o,none⟩) P P) (.slice A1 T.length cap1) (by rfl) (by rfl) hrun1 ?_) | (at_builtin; refine wpList_append_lies _ rfl _ _ _ rfl w1.heap.size 60 i0 (.agg #[.string ⟨#[]⟩,.string ⟨#[]⟩]) 2 32 Tryz.underlying22 hi hz0 hz1 hz2 rfl (by decide) (.slice A1 T.length cap1) T.length (rowsL itcl T) (by rfl) (World.ownsRow.alloc HOW1.out _) ⟨w2.heap.size,0,none⟩ 1 1 (rowsL itcl [(x,y)]) (by rfl) rfl (World.news_of_block (heap_new_at _ _ _ (by simp))) (by simp [rowsL,itcl,Value.oneCell']) (by decide) (by have:=HTL.out; unfold maxLen; omega) (by have:=HTL.out; omega) (by have:=HB2.out.size; simp at this ⊢; omega) (w2.heap.size+1) (by simp) ?_; intro g' cap' w3 hown3 hgr3 hat3 hlt3) | (at_builtin; obtain ⟨v4,w4,hrun4,hst4,hb4⟩:=HTH.out w3 g' cap' (.slice (some ⟨b,o,none⟩) 0 0) hown3 hgr3 (World.ownsRow.lt hown3 g' rfl).1 HDR.out; refine wpList_append_run rfl _ _ _ rfl (.slice (some ⟨g',0,none⟩) (T.length+1) cap') (.slice (some ⟨b,o,none⟩) 0 0) v4 (by rfl) (by rfl) hrun4 ?_))
            go_ret2
            exact HFIN.out _ _ hst4 hb4
          · have hPc2:¬ ((cap:Int) - (P:Int)=0):=by have:=HCAP.out; have:=HPL.out; omega
            have HDR:Hid (ItAt w1 (.slice (some ⟨b,o+P * 2,none⟩) (S.length - P) (cap - P)) R):=qh (by rw [← HRQ.out]; exact RowsAt.drop HV1.out P HPL.out b (o+P * 2) (fun _=>⟨rfl,rfl⟩))
            go_wp2_with (first | (at_builtin; refine wpList_append_run rfl _ _ _ rfl (.slice none 0 0) (.slice (some ⟨b,o,none⟩) P cap) (.slice A1 T.length cap1) (by rfl) (by rfl) hrun1 ?_) | (at_builtin; refine wpList_append_lies _ rfl _ _ _ rfl w1.heap.size 60 i0 (.agg #[.string ⟨#[]⟩,.string ⟨#[]⟩]) 2 32 Tryz.underlying22 hi hz0 hz1 hz2 rfl (by decide) (.slice A1 T.length cap1) T.length (rowsL itcl T) (by rfl) (World.ownsRow.alloc HOW1.out _) ⟨w2.heap.size,0,none⟩ 1 1 (rowsL itcl [(x,y)]) (by rfl) rfl (World.news_of_block (heap_new_at _ _ _ (by simp))) (by simp [rowsL,itcl,Value.oneCell']) (by decide) (by have:=HTL.out; unfold maxLen; omega) (by have:=HTL.out; omega) (by have:=HB2.out.size; simp at this ⊢; omega) (w2.heap.size+1) (by simp) ?_; intro g' cap' w3 hown3 hgr3 hat3 hlt3) | (at_builtin; obtain ⟨v4,w4,hrun4,hst4,hb4⟩:=HTH.out w3 g' cap' (.slice (some ⟨b,o+P * 2,none⟩) (S.length - P) (cap - P)) hown3 hgr3 (World.ownsRow.lt hown3 g' rfl).1 HDR.out; refine wpList_append_run rfl _ _ _ rfl (.slice (some ⟨g',0,none⟩) (T.length+1) cap') (.slice (some ⟨b,o+P * 2,none⟩) (S.length - P) (cap - P)) v4 (by rfl) (by rfl) hrun4 ?_))
            go_ret2
            exact HFIN.out _ _ hst4 hb4
      | true=>
        have hP1:((P:Int)+1)<=(S.length:Int):=by have:=HPT.out rfl; omega
        have hP2:((P:Int)+1)<=(cap:Int):=by have:=HPT.out rfl; have:=HCAP.out; omega
        have hP3:(P:Int)+1<=100000:=by have:=HL.out; have:=HPL.out; omega
        have hP0:(0:Int)<=(P:Int)+1:=by omega
        have hRl:(S.drop (P+1)).length<=10000:=by have:=HL.out; simp; omega
        obtain ⟨R,hR⟩:∃ R,S.drop (P+1)=R:=⟨_,rfl⟩
        simp only [if_true] at HPE
        rw [hR] at hRl HPE
        have HTH:=qh (fun w3 g' cap' l2 h2 hg hg' hs=>it_third (w2:=w3) (l2:=l2) (T:=T) (R:=R) (one:=(x,y)) (g':=g') (cap':=cap') (o:=.cells #[.string ⟨x.toArray⟩,.string ⟨y.toArray⟩] 60) (Nat.le_refl _) hb2 (fun k hk=>(World.ownsRow.lt hown1 k hk).1) h2 hg hg' hs (by have:=HL.out; have:=HPL.out; omega))
        have HFIN:Hid (∀ v3 w3,ItAt w3 v3 (T ++ (x,y) :: R)->Below w1.heap.size w1 w3->RtPutPost S x y w (.returned (.tuple #[v3,.int .i64 0])) w3):=qh (fun v3 w3 q1 q2=>RtPutPost.good HOK.out HPE.out q1 (HB1.out.trans (q2.mono HSZ1.out)))
        have HRQ:=qh hR
        clear hgr1 hat1 hb2 hown1 hTl hRl ht hT hR hbad
        rcases HCS.out with ⟨hs0,rfl,rfl⟩ | ⟨b,o,rfl⟩
        · exfalso; have:=HPT.out rfl; rw [hs0] at this; simp at this
        · by_cases hPc:(P+1)=cap
          · subst hPc
            have hSP:S.length=P+1:=by have:=HCAP.out; have:=HPT.out rfl; omega
            have HDR:Hid (ItAt w1 (.slice (some ⟨b,o,none⟩) 0 0) R):=qh (by
              have h:=RowsAt.drop HV1.out (P+1) (Nat.le_of_eq hSP.symm) b o (fun h=>by omega)
              rw [HRQ.out,hSP,Nat.sub_self] at h
              exact h)
            rw [hSP]
            clear hSP hps
            go_wp2_with (first | (at_builtin; refine wpList_append_run rfl _ _ _ rfl (.slice none 0 0) (.slice (some ⟨b,o,none⟩) P (P+1)) (.slice A1 T.length cap1) (by rfl) (by rfl) hrun1 ?_) | (at_builtin; refine wpList_append_lies _ rfl _ _ _ rfl w1.heap.size 60 i0 (.agg #[.string ⟨#[]⟩,.string ⟨#[]⟩]) 2 32 Tryz.underlying22 hi hz0 hz1 hz2 rfl (by decide) (.slice A1 T.length cap1) T.length (rowsL itcl T) (by rfl) (World.ownsRow.alloc HOW1.out _) ⟨w2.heap.size,0,none⟩ 1 1 (rowsL itcl [(x,y)]) (by rfl) rfl (World.news_of_block (heap_new_at _ _ _ (by simp))) (by simp [rowsL,itcl,Value.oneCell']) (by decide) (by have:=HTL.out; unfold maxLen; omega) (by have:=HTL.out; omega) (by have:=HB2.out.size; simp at this ⊢; omega) (w2.heap.size+1) (by simp) ?_; intro g' cap' w3 hown3 hgr3 hat3 hlt3) | (at_builtin; obtain ⟨v4,w4,hrun4,hst4,hb4⟩:=HTH.out w3 g' cap' (.slice (some ⟨b,o,none⟩) 0 0) hown3 hgr3 (World.ownsRow.lt hown3 g' rfl).1 HDR.out; refine wpList_append_run rfl _ _ _ rfl (.slice (some ⟨g',0,none⟩) (T.length+1) cap') (.slice (some ⟨b,o,none⟩) 0 0) v4 (by rfl) (by rfl) hrun4 ?_))
            go_ret2
            exact HFIN.out _ _ hst4 hb4
          · have hPc2:¬ ((cap:Int) - ((P:Int)+1)=0):=by have:=HCAP.out; have:=HPT.out rfl; omega
            have HDR:Hid (ItAt w1 (.slice (some ⟨b,o+(P+1) * 2,none⟩) (S.length - (P+1)) (cap - (P+1))) R):=qh (by rw [← HRQ.out]; exact RowsAt.drop HV1.out (P+1) (HPT.out rfl) b (o+(P+1) * 2) (fun _=>⟨rfl,rfl⟩))
            go_wp2_with (first | (at_builtin; refine wpList_append_run rfl _ _ _ rfl (.slice none 0 0) (.slice (some ⟨b,o,none⟩) P cap) (.slice A1 T.length cap1) (by rfl) (by rfl) hrun1 ?_) | (at_builtin; refine wpList_append_lies _ rfl _ _ _ rfl w1.heap.size 60 i0 (.agg #[.string ⟨#[]⟩,.string ⟨#[]⟩]) 2 32 Tryz.underlying22 hi hz0 hz1 hz2 rfl (by decide) (.slice A1 T.length cap1) T.length (rowsL itcl T) (by rfl) (World.ownsRow.alloc HOW1.out _) ⟨w2.heap.size,0,none⟩ 1 1 (rowsL itcl [(x,y)]) (by rfl) rfl (World.news_of_block (heap_new_at _ _ _ (by simp))) (by simp [rowsL,itcl,Value.oneCell']) (by decide) (by have:=HTL.out; unfold maxLen; omega) (by have:=HTL.out; omega) (by have:=HB2.out.size; simp at this ⊢; omega) (w2.heap.size+1) (by simp) ?_; intro g' cap' w3 hown3 hgr3 hat3 hlt3) | (at_builtin; obtain ⟨v4,w4,hrun4,hst4,hb4⟩:=HTH.out w3 g' cap' (.slice (some ⟨b,o+(P+1) * 2,none⟩) (S.length - (P+1)) (cap - (P+1))) hown3 hgr3 (World.ownsRow.lt hown3 g' rfl).1 HDR.out; refine wpList_append_run rfl _ _ _ rfl (.slice (some ⟨g',0,none⟩) (T.length+1) cap') (.slice (some ⟨b,o+(P+1) * 2,none⟩) (S.length - (P+1)) (cap - (P+1))) v4 (by rfl) (by rfl) hrun4 ?_))
            go_ret2
            exact HFIN.out _ _ hst4 hb4
    · have HBAD:Hid (Tri.putC S x y=2):=qh (Tri.putC_bad HKB.out (by rw [HBB.out]; exact hbad))
      by_cases c1:1<=y.length
      · have y1:decide ((y.length:Int) < 1)=false:=decide_eq_false (by omega)
        by_cases c2:y.length<=32
        · have y2:decide ((32:Int) < (y.length:Int))=false:=decide_eq_false (by omega)
          cases b with
          | true=>exact absurd ⟨c1,c2,Or.inl rfl⟩ hbad
          | false=>
            have hs1:decide ((1024:Int)<=(S.length:Int))=true:=decide_eq_true (by have:¬ S.length < 1024:=fun h=>hbad ⟨c1,c2,Or.inr h⟩; omega)
            clear hbad
            go_wp2
            go_ret2
            exact RtPutPost.bad HBAD.out (by decide) HB1.out
        · have y2:decide ((32:Int) < (y.length:Int))=true:=decide_eq_true (by omega)
          clear hbad
          go_wp2
          go_ret2
          exact RtPutPost.bad HBAD.out (by decide) HB1.out
      · have y1:decide ((y.length:Int) < 1)=true:=decide_eq_true (by omega)
        clear hbad
        go_wp2
        go_ret2
        exact RtPutPost.bad HBAD.out (by decide) HB1.out
end
section
open Go.RowKit
open Sto (T St)
open Tri (Tr Ok upd ix hb lay splitT Trim rank)
open Go.Proofs.YtaficmboooaknaaGreatDoor.Nd (N)
def OwnI (w:World) (B:Nat) (z:Value) (S:St):Prop:=w.ownsRow B 60 2 z S.length (rowsL itcl S)
theorem OwnI.nil (w:World) (B:Nat):OwnI w B (.slice none 0 0) []:=⟨rfl,Or.inl ⟨rfl,rfl⟩⟩
theorem OwnI.below {w w':World} {B:Nat} {s:Value} {L:St} (h:OwnI w B s L) (hb:Below w.heap.size w w'):OwnI w' B s L:=
  row_out (G:=fun _=>False) h (Out.of hb) (fun _ _ _ _ hf=>hf.elim)
theorem OwnI.lt {w:World} {B:Nat} {s:Value} {L:St} (h:OwnI w B s L) (k:Nat) (hk:s.ownBlock=some k):B<=k/\k < w.heap.size:=World.ownsRow.lt h k hk
theorem OwnI.at_ {w:World} {B:Nat} {s:Value} {L:St} (h:OwnI w B s L):ItAt w s L:=RowsAt.own itcl_length h
theorem OwnI.low {w:World} {B B':Nat} {s:Value} {L:St} (h:OwnI w B s L) (hB:B'<=B):OwnI w B' s L:=by
  refine ⟨h.1,?_⟩
  rcases h.2 with hn | ⟨k,cap,cur,hv,hb,hk,hr⟩
  · exact Or.inl hn
  · exact Or.inr ⟨k,cap,cur,hv,Nat.le_trans hB hb,hk,hr⟩
theorem app_item {w:World} {B:Nat} {z:Value} {S:St} (x y:T) (h:OwnI w B z S) (hl:S.length<=100000) (hB:B<=w.heap.size):
    ∃ g c w',(Builtin.append_ #[22,22] 22 #[z,.slice (some ⟨w.heap.size,0,none⟩) 1 1]).run Tryz.prog (w.alloc (.cells #[.string ⟨x.toArray⟩,.string ⟨y.toArray⟩] 60))=.ok (.slice (some ⟨g,0,none⟩) (S.length+1) c) w'/\
      OwnI w' B (.slice (some ⟨g,0,none⟩) (S.length+1) c) (S ++ [(x,y)])/\Below B w w':=by
  have hv:ItAt (w.alloc (.cells #[.string ⟨x.toArray⟩,.string ⟨y.toArray⟩] 60)) (.slice (some ⟨w.heap.size,0,none⟩) 1 1) [(x,y)]:=
    OwnI.at_ (B:=w.heap.size) ⟨rfl,Or.inr ⟨w.heap.size,1,_,rfl,Nat.le_refl _,heap_alloc_new w _,by simp,by simp [maxLen],rfl,rfl⟩⟩
  have hs:(w.alloc (.cells #[.string ⟨x.toArray⟩,.string ⟨y.toArray⟩] 60)).ownsRow B 60 2 z S.length (rowsL itcl S):=World.ownsRow.alloc h _
  obtain ⟨v',w',h1,h2,h3,_⟩:=append_it hv hs (by simp; omega) (by simp; omega)
  have ho:OwnI w' B v' (S ++ [(x,y)]):=by
    unfold OwnI
    rw [List.length_append,rowsL_append]
    exact h2
  obtain ⟨g,c,e,_,_⟩:=World.ownsRow.form h2 (by simp)
  subst e
  exact ⟨g,c,w',h1,ho,((Below.refl B w).alloc hB _).grown h3 (by simp; omega) (fun k hk=>(OwnI.lt h k hk).1)⟩
def keyP (p:T):T:=if p.length % 2=0 then Nib.joinL p else []
theorem key_any (p:T) (w:World) (hl:p.length<=1000) (hf:Nib.fitL p=true):
    ∃ c:Int,Calls Tryz.prog 84 #[.string ⟨p.toArray⟩] w fun e w'=>e=.returned (.tuple #[.string ⟨(keyP p).toArray⟩,.int .i64 c])/\Below w.heap.size w w':=by
  unfold keyP
  by_cases h:p.length % 2=0
  · rw [if_pos h]; exact ⟨0,key_good p w (by omega) hf h⟩
  · rw [if_neg h]; exact ⟨4,key_odd p w (by omega) hf (by omega)⟩
def itemsT (L:List (T × Tr)):St:=L.flatMap fun x=>if x.2.vl=[] then [] else [(keyP (x.1 ++ x.2.pth),x.2.vl)]
theorem itemsT_len (L:List (T × Tr)):(itemsT L).length<=L.length:=by
  unfold itemsT
  induction L with
  | nil=>exact Nat.le_refl _
  | cons a L ih=>
    rw [List.flatMap_cons,List.length_append,List.length_cons]
    split
    · simp only [List.length_nil]; omega
    · simp only [List.length_singleton]; omega
theorem itemsT_add (L:List (T × Tr)) (p:T) (t:Tr):itemsT (L ++ [(p,t)])=if t.vl=[] then itemsT L else itemsT L ++ [(keyP (p ++ t.pth),t.vl)]:=by
  unfold itemsT
  rw [List.flatMap_append,List.flatMap_singleton]
  split <;> simp
def ItemsI (B cl:Nat) (w':World) (L:List (T × Tr)):Prop:=
  ∃ z,w'.heap[cl]?=some (.cells #[z] 22 (0,0))/\OwnI w' B z (itemsT L)
theorem val_len {t:Tr} (h:Ok t):t.vl.length<=32:=by
  have:=h.small
  cases t with
  | nil=>simp [Tri.Tr.vl]
  | leaf p v=>exact this.2
  | ext p t=>simp [Tri.Tr.vl]
  | br v k=>exact this.1
theorem items_step {w0:World} {F:Fm} (B cl:Nat) (hB:w0.heap.size<=cl/\cl < B)
    (w':World) (L:List (T × Tr)) (p:T) (t:Tr) (v:Value) (hlen:L.length < 100000) (hb:Below w0.heap.size w0 w') (hBw:B<=w'.heap.size) (hI:ItemsI B cl w' L) (h:PAt w0 F true t v) (hn:¬ t.isNil) (ho:Ok t) (hf:Nib.fitL p=true) (hp16:p.length+t.pth.length<=16):
    Calls Tryz.prog 83 #[v,.string ⟨p.toArray⟩,.pointer (some ⟨cl,0,none⟩)] w' fun e w''=>e=.returned (.bool true)/\ItemsI B cl w'' (L ++ [(p,t)])/\Below w0.heap.size w0 w'':=by
  obtain ⟨z,hcl,hown⟩:=hI
  obtain ⟨g,s',K,rfl,hs,-,hr,hk⟩:=h.row hn
  have HR:Hid (∀ w1,Below w0.heap.size w0 w1->w1.cell? ⟨g,1,none⟩=some (.string ⟨t.pth.toArray⟩)/\w1.cell? ⟨g,2,none⟩=some (.string ⟨t.vl.toArray⟩)):=qh (fun w1 hb1=>⟨(hr.below hb1).path,(hr.below hb1).val⟩)
  have hpf:Nib.fitL (p ++ t.pth)=true:=Tri.fit_append.2 ⟨hf,by
    have:=ho.fits
    cases t with
    | nil=>rfl
    | leaf q v=>exact this
    | ext q u=>exact this.1
    | br v k=>rfl⟩
  have HKY:=qh (fun w=>key_any (p ++ t.pth) w (by simp; omega) hpf)
  have HCL:=qh (fun w=>dclone_any t.vl w (by have:=val_len ho; omega))
  have HIA:=qh (itemsT_add L p t)
  have HTL:Hid ((itemsT L).length<=100000):=qh (Nat.le_trans (itemsT_len _) (Nat.le_of_lt hlen))
  obtain ⟨TL,hTL⟩:∃ TL,itemsT L=TL:=⟨_,rfl⟩
  obtain ⟨pp,hpp⟩:∃ pp,t.pth=pp:=⟨_,rfl⟩
  obtain ⟨x,hx⟩:∃ x,t.vl=x:=⟨_,rfl⟩
  rw [hTL] at hown HIA HTL
  rw [hpp] at HR HKY HIA hp16
  rw [hx] at HR HCL HIA
  have HB:=qh hb
  have HOWN:=qh hown
  have HCLL:=qh hcl
  have cL:p.length<=1000:=by omega
  have cL2:pp.length<=1000:=by omega
  have hcm:=cat_mk p pp
  obtain ⟨m1,m2⟩:=HR.out w' hb
  unfold ptr
  clear h hr hk hpp hx hTL hb hown hcl hn ho hf hlen hp16 hpf
  by_cases hxe:x=[]
  · subst hxe
    rw [if_pos rfl] at HIA
    have hz:(([]:List UInt8) == [])=true:=rfl
    go_enter Tryz.func83,Tryz.ntmps83
    go_wp2
    go_ret
    refine ⟨rfl,⟨z,HCLL.out,?_⟩,HB.out⟩
    rw [HIA.out]
    exact HOWN.out
  · rw [if_neg hxe] at HIA
    have hxe2:(x == [])=false:=by rw [beq_eq_false_iff_ne]; exact hxe
    obtain ⟨c,hky⟩:=HKY.out w'
    have HKK:=qh hky
    obtain ⟨X,hX⟩:∃ X,keyP (p ++ pp)=X:=⟨_,rfl⟩
    rw [hX] at HKK HIA
    clear hky HKY hX hxe
    go_enter Tryz.func83,Tryz.ntmps83
    go_wp2_with fail
    refine HKK.out.mono ?_
    rintro e w1 ⟨rfl,hb1⟩
    have HB1:Hid (Below w'.heap.size w' w1):=qh hb1
    have HBB1:Hid (Below w0.heap.size w0 w1):=qh (HB.out.trans (hb1.mono HB.out.size))
    clear hb1
    have HCC:Hid (∀ w2,Below w1.heap.size w1 w2->w2.cell? ⟨cl,0,none⟩=some z/\w2.heap[cl]?=some (.cells #[z] 22 (0,0))):=qh (fun w2 hb2=>by
      have h3:=(hb2.block cl (Nat.lt_of_lt_of_le (lt_of_heap HCLL.out) HB1.out.size)).trans ((HB1.out.block cl (lt_of_heap HCLL.out)).trans HCLL.out)
      exact ⟨cell_of_one h3,h3⟩)
    have HTX1:Hid (∀ w2,Below w1.heap.size w1 w2->Calls Tryz.prog 46 #[.string ⟨x.toArray⟩] w2 fun e w3=>e=.returned (.string ⟨x.toArray⟩)/\Below w1.heap.size w1 w3):=qh (fun w2 hb2=>
      (HCL.out w2).mono fun e w3 ⟨e1,h3⟩=>⟨e1,bchain hb2 h3⟩)
    have HAPP:Hid (∀ w6,Below w1.heap.size w1 w6->∃ g7 c7 w7,(Builtin.append_ #[22,22] 22 #[z,.slice (some ⟨w6.heap.size,0,none⟩) 1 1]).run Tryz.prog (w6.alloc (.cells #[.string ⟨X.toArray⟩,.string ⟨x.toArray⟩] 60))=.ok (.slice (some ⟨g7,0,none⟩) (TL.length+1) c7) w7/\w6.cell? ⟨cl,0,none⟩=some z/\(w6.alloc (.cells #[.string ⟨X.toArray⟩,.string ⟨x.toArray⟩] 60)).cell? ⟨cl,0,none⟩=some z/\
        w7.cell? ⟨cl,0,none⟩=some z/\w7.frozen? ⟨cl,0,none⟩=false/\ItemsI B cl (w7.setCell ⟨cl,0,none⟩ (.slice (some ⟨g7,0,none⟩) (TL.length+1) c7)) (L ++ [(p,t)])/\Below w0.heap.size w0 (w7.setCell ⟨cl,0,none⟩ (.slice (some ⟨g7,0,none⟩) (TL.length+1) c7))):=qh (fun w6 hb6=>by
      have hb16:=bchain HB1.out hb6
      have ho6:=HOWN.out.below hb16
      obtain ⟨g7,c7,w7,ha,ho7,hb7⟩:=app_item X x ho6 HTL.out (Nat.le_trans hBw hb16.size)
      obtain ⟨q1,q2⟩:=HCC.out w6 hb6
      have q7:w7.heap[cl]?=some (.cells #[z] 22 (0,0)):=(hb7.block cl hB.2).trans q2
      refine ⟨g7,c7,w7,ha,q1,cell_of_one (heap_old_at _ q2),cell_of_one q7,free_of_one q7,⟨_,one_setCell q7,?_⟩,?_⟩
      · rw [HIA.out]
        have hgcl:g7 ≠ cl:=fun e=>by have:=(OwnI.lt ho7 g7 rfl).1; omega
        exact ownsRow_setCell_other ho7 (a:=⟨cl,0,none⟩) (fun e=>hgcl (by simpa [Value.ownBlock] using e)) _
      · have h8:Below w0.heap.size w0 w7:=(bchain HBB1.out hb6).trans (hb7.mono (Nat.le_of_lt (by omega)))
        exact h8.setCell (p:=⟨cl,0,none⟩) hB.1 _)
    go_upto_region 3 with fail
    have BD:Below w1.heap.size w1 w1.drew:=(Below.refl _ _).drew
    have cD:=(HCC.out _ BD).1
    have vD:=(HR.out _ (bchain HBB1.out BD)).2
    go_region_law (first | (refine step_call rfl 46 (.tmp 28) _ rfl (fun _ _=>rfl) _ (HTX1.out _ BD) ?_; rintro e w6 ⟨rfl,hb6⟩; refine ⟨_,rfl,?_⟩; obtain ⟨g7,c7,w7,happ,k6,k6a,k7,f7,hT7,hB7⟩:=HAPP.out _ hb6) | (refine step_append_run rfl (.tmp 23) (.tmp 31) _ rfl _ _ _ ?_ ?_ happ ?_; (first | rfl | (focus (simp [Act.eval]; done)) | fail); (first | rfl | (focus (simp [Act.eval]; done)) | fail)))
    all_goals
      go_wp2
      go_ret
      exact ⟨rfl,hT7,hB7⟩
def rawT (L:List (T × Tr)):St:=L.flatMap fun x=>if x.2.vl=[] then [] else [(x.1 ++ x.2.pth,x.2.vl)]
theorem raw_items {t:Tr} (h:t.canon) (p:T):rawT (t.visits (fun _=>true) p)=Tri.behind p t.items:=by
  induction t generalizing p with
  | nil=>rfl
  | leaf q v=>
    have hv:v ≠ []:=h
    simp [rawT,Tri.Tr.visits,Tri.Tr.vl,Tri.Tr.pth,Tri.Tr.items,Tri.behind,hv]
  | ext q t ih=>
    have e:rawT ((Tr.ext q t).visits (fun _=>true) p)=rawT (t.visits (fun _=>true) (p ++ q)):=by
      simp [rawT,Tri.Tr.visits,Tri.Tr.vl]
    rw [e,ih h.2.2,Tri.Tr.items,Tri.behind_append]
  | br v k ih=>
    have hkid:∀ l:List (Fin 16),rawT (l.flatMap fun i=>(k i).visits (fun _=>true) (p ++ [hb i]))=Tri.behind p (l.flatMap fun i=>Tri.behind [hb i] (k i).items):=fun l=>by
      induction l with
      | nil=>rfl
      | cons i l ihl=>
        have e1:rawT ((i :: l).flatMap fun i=>(k i).visits (fun _=>true) (p ++ [hb i]))=rawT ((k i).visits (fun _=>true) (p ++ [hb i])) ++ rawT (l.flatMap fun i=>(k i).visits (fun _=>true) (p ++ [hb i])):=by
          simp [rawT,List.flatMap_cons,List.flatMap_append]
        rw [e1,ihl,ih i (h.1 i),List.flatMap_cons,Tri.behind_append]
        simp [Tri.behind]
    have e:rawT ((Tr.br v k).visits (fun _=>true) p)=Tri.behind p (Tri.own v) ++ rawT ((List.finRange 16).flatMap fun i=>(k i).visits (fun _=>true) (p ++ [hb i])):=by
      unfold rawT
      rw [Tri.Tr.visits,List.flatMap_cons]
      congr 1
      by_cases hv:v=[] <;> simp [Tri.Tr.vl,Tri.Tr.pth,Tri.own,Tri.behind,hv]
    rw [e,hkid,Tri.Tr.items]
    simp [Tri.behind]
theorem items_raw (L:List (T × Tr)):itemsT L=(rawT L).map fun x=>(keyP x.1,x.2):=by
  unfold itemsT rawT
  induction L with
  | nil=>rfl
  | cons a L ih=>
    rw [List.flatMap_cons,List.flatMap_cons,List.map_append,ih]
    congr 1
    split <;> rfl
theorem keyP_of (k:T):keyP (Nib.ofL k)=k:=by
  unfold keyP
  rw [if_pos (by rw [Nib.ofL_length]; omega),Nib.join_of]
theorem items_all {S:St} {t:Tr} (h:Tri.TreeOf S t):itemsT (t.visits (fun _=>true) [])=S:=by
  rw [items_raw,raw_items h.1,h.2.2]
  unfold Tri.paths Tri.behind
  rw [List.map_map,List.map_map]
  conv=>rhs; rw [← List.map_id S]
  refine List.map_congr_left fun x _=>?_
  simp [keyP_of]
theorem items_visits (w:World):
    Visits w (Fm.from 0) 83 #[.pointer (some ⟨w.heap.size,0,none⟩)] (fun _=>true) (fun w' L=>ItemsI (w.heap.size+1) w.heap.size w' L/\w.heap.size+1<=w'.heap.size) where
  call:=fun _ _=>rfl
  keep:=fun w' w'' L ⟨⟨z,h1,h3⟩,h4⟩ hb=>⟨⟨z,(hb.block _ (lt_of_heap h1)).trans h1,h3.below hb⟩,Nat.le_trans h4 hb.size⟩
  step:=fun w' L p t v hlen hb hI h hn ho hf hl=>by
    have:=items_step (F:=Fm.from 0) (w.heap.size+1) w.heap.size ⟨by omega,by omega⟩ w' L p t v hlen hb hI.2 hI.1 h hn ho hf (pth_len ho hn hl)
    refine this.mono fun e w'' ⟨h1,h2,h3⟩=>⟨h1,⟨h2,?_⟩,h3⟩
    obtain ⟨z,q1,_⟩:=h2
    have:=lt_of_heap q1
    omega
def ItemsPost (w:World) (S:St) (e:Ending) (w':World):Prop:=∃ z,e=.returned z/\OwnI w' w.heap.size z S/\Below w.heap.size w w'
theorem items_any {g:Nat} {t:Tr} {S:St} {top n:Value} (w:World) (hg:w.heap[g]?=some (.cells #[top,n] 84 (0,0))) (hs:Sealed w t top) (hT:Tri.TreeOf S t):
    Calls Tryz.prog 49 #[ptr g] w (ItemsPost w S):=by
  unfold ItemsPost
  have hmf:∀ (fn:Fn) (first cap:Array Value) (w:World),(Instr.makeFunc fn first cap).run Tryz.prog w=.ok (.func fn first cap) w:=fun _ _ _ _=>rfl
  have hb1:Below w.heap.size w (w.alloc (.cells #[.slice none 0 0] 22)):=(Below.refl _ w).alloc (Nat.le_refl _) _
  have c0:(w.alloc (.cells #[.slice none 0 0] 22)).cell? ⟨g,0,none⟩=some top:=by
    rw [cell_of_row _ g 0 _ _ _ ((hb1.block g (lt_of_heap hg)).trans hg)]; rfl
  have hI0:ItemsI (w.heap.size+1) w.heap.size (w.alloc (.cells #[.slice none 0 0] 22)) []:=⟨_,heap_alloc_new w _,OwnI.nil _ _⟩
  have HWK:=qh (walk_to (items_visits w) t _ [] [] top (by
    have:=visits_le (fun _=>true) t []
    have:=hs.few []
    simp; omega) hb1 ⟨hI0,by simp⟩ hs.at_ hs.ok rfl (fun x hx=>by
      have:=hs.within x hx
      simpa using this))
  have HWT:=qh (items_all hT)
  rw [List.nil_append] at HWK
  unfold ptr
  clear hg hs hb1 hI0 hT
  go_enter Tryz.func49,Tryz.ntmps49
  go_wp2_with fail
  refine HWK.out.mono ?_
  rintro e w2 ⟨rfl,⟨⟨z,h1,h3⟩,h4⟩,hb2⟩
  have m1:=cell_of_one h1
  have HO:Hid (OwnI w2 w.heap.size z S):=qh (by rw [← HWT.out]; exact h3.low (by omega))
  have HB:=qh hb2
  clear h1 h3 h4 hb2
  go_wp2
  go_ret
  exact ⟨z,rfl,HO.out,HB.out⟩
end
end Go.Proofs.YtaficmboooaknaaGreatDoor
