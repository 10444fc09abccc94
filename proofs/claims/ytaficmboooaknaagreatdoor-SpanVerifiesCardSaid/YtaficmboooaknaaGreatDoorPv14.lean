import Derived.Test.YtaficmboooaknaaGreatDoorChecked
import Derived.Test.YtaficmboooaknaaGreatDoorPv02
import Derived.WalkKit
import Derived.WalkSpells
import Derived.WalkLawsBesides
import Derived.ShutString
import Derived.Lib.Hide
import Derived.Deep.QuietTactic
import Derived.BigQuiet
import Derived.WalkSmall
import Derived.Test.YtaficmboooaknaaGreatDoorPv12
import Derived.Test.YtaficmboooaknaaGreatDoorPv13
import Derived.Test.YtaficmboooaknaaGreatDoorPv01
import Derived.Lib.Strings
import Derived.Test.YtaficmboooaknaaGreatDoorPv08
import Derived.Deep.RegionHeld3
set_option maxRecDepth 100000
set_option maxHeartbeats 16000000
namespace Go.Proofs.YtaficmboooaknaaGreatDoor
section
open Go.RowKit
theorem common_any (a b:List UInt8) (w:World) (ha:a.length<=1000000) (hb:b.length<=1000000):
    Calls Tryz.prog 138 #[.string ⟨a.toArray⟩,.string ⟨b.toArray⟩] w fun e w'=>e=.returned (.int .i64 (Nib.commonL a b))/\Below w.heap.size w w':=by
  rcases Nat.lt_or_ge b.length a.length with hm | hm
  all_goals
    go_enter Tryz.func138,Tryz.ntmps138
    go_wp2
    go_loopw [13] (fun i wr=>∃ k:Nat,k<=min a.length b.length/\a.take k=b.take k/\i=.int .i64 k/\Below w.heap.size w wr) (fun i _=>min a.length b.length - (intOf i).toNat)
    case atStart=>exact ⟨0,Nat.zero_le _,by simp,rfl,Below.refl _ _⟩
    case round=>
      obtain ⟨k,hk,hf,rfl,hbel⟩:=hrel
      have HF:=qh hf; clear hf
      by_cases hlt:k < min a.length b.length
      · have h1:(k:Int) < (a.length:Int):=by omega
        have h2:(k:Int) < (b.length:Int):=by omega
        go_wp2
        go_quiet (fail)
        go_wp2
        · go_ret
          have ht:(((a[k]'(by omega)).toNat:Int) != ((b[k]'(by omega)).toNat:Int))=true:=by assumption
          exact ⟨by rw [Nib.commonL_of_diff a b k (by omega) (by omega) HF.out (Nib.byte_ne ht)]; rfl,bel_drewN hbel _⟩
        · go_roundw
          case rel=>
            have ht:(((a[k]'(by omega)).toNat:Int) != ((b[k]'(by omega)).toNat:Int))=false:=by assumption
            exact ⟨k+1,by omega,Nib.take_eq_succ a b k (by omega) (by omega) HF.out (Nib.byte_eq ht),by go_num,bel_drewN hbel _⟩
          case measure=>simp [intOf]; omega
      · go_wp2
        go_ret
        have:=HF.out
        exact ⟨by rw [Nib.commonL_of_end a b k (by omega) this]; exact ret_i64 (by omega),hbel⟩
end
section
open Go.RowKit
open Sto (T)
open Tri (Tr Ok upd ix hb lay splitT Trim rank)
def WithTo (m:Nat):Prop:=∀ (t:Tr) (v:Value) (p x:T) (w:World) (F:Fm),rank t p<=m->F.fresh w->PAt w F false t v->Trim t->Nib.fitL p=true->p.length<=16->
  Calls Tryz.prog 99 #[v,.string ⟨p.toArray⟩,.string ⟨x.toArray⟩] w (MadeT w F (t.put p x))
theorem with_nil (p x:T) (w:World) (F:Fm) (hF:F.fresh w):
    Calls Tryz.prog 99 #[.pointer none,.string ⟨p.toArray⟩,.string ⟨x.toArray⟩] w (MadeT w F (.leaf p x)):=by
  have HLF:=qh (leaf_any p x w F hF)
  unfold MadeT at HLF ⊢
  go_enter Tryz.func99,Tryz.ntmps99
  go_wp2_with fail
  refine HLF.out.mono ?_
  rintro e w1 ⟨v,rfl,hp,hb⟩
  go_wp2
  go_ret
  exact ⟨v,rfl,hp,hb⟩
theorem with_here {y:T} {k:Fin 16->Tr} {v:Value} (x:T) (w:World) (F:Fm) (hF:F.fresh w) (h:PAt w F false (.br y k) v):
    Calls Tryz.prog 99 #[v,.string ⟨#[]⟩,.string ⟨x.toArray⟩] w (MadeT w F (.br x k)):=by
  obtain ⟨g,s',K,rfl,-,-,hr,hk⟩:=h.row id
  have HO:=qh (open_any w hr (fun i=>(hk i).oneCell))
  have n0:w.cell? ⟨g,0,none⟩=some (.int .i64 3):=hr.kind
  have HK:=qh hk
  unfold MadeT
  unfold ptr at HO ⊢
  clear h hr hk
  go_enter Tryz.func99,Tryz.ntmps99
  go_wp2_with fail
  refine HO.out.mono ?_
  rintro e w1 ⟨rfl,hr1,hb1⟩
  have m2:=hr1.val
  have f2:=hr1.free 2
  have HR1:=qh hr1
  have HB:=qh hb1
  clear hr1 hb1
  go_wp2
  go_ret
  have hb2:=HB.out.setCell (p:=⟨w.heap.size,2,none⟩) (Nat.le_refl _) (.string ⟨x.toArray⟩)
  exact ⟨_,rfl,PAt.new (K:=K) id (hF _ (Nat.le_refl _)) (HR1.out.setVal x) (fun i=>((HK.out i).weak).below hb2),hb2⟩
theorem with_below {m:Nat} (IH:WithTo m) {y:T} {k:Fin 16->Tr} {v:Value} (b:UInt8) (p x:T) (w:World) (F:Fm) (hm:2 * p.length+1<=m) (hF:F.fresh w) (h:PAt w F false (.br y k) v) (hg:Trim (.br y k)) (hf:Nib.fitL (b :: p)=true) (hl:(b :: p).length<=16):
    Calls Tryz.prog 99 #[v,.string ⟨(b :: p).toArray⟩,.string ⟨x.toArray⟩] w (MadeT w F (.br y (upd k (ix b) ((k (ix b)).put p x)))):=by
  obtain ⟨g,s',K,rfl,-,-,hr,hk⟩:=h.row id
  have HO:=qh (open_any w hr (fun i=>(hk i).oneCell))
  have n0:w.cell? ⟨g,0,none⟩=some (.int .i64 3):=hr.kind
  have HK:=qh hk
  have HR:=qh hr
  obtain ⟨hb1,hfp⟩:=Tri.fit_cons.1 hf
  have hix:=ix_val hb1
  have hpl:p.length<=16:=by simp at hl; omega
  have HI:Hid (∀ w',Below w.heap.size w w'->w.heap.size < w'.heap.size->Calls Tryz.prog 99 #[K (ix b),.string ⟨p.toArray⟩,.string ⟨x.toArray⟩] w' fun e w''=>∃ g6,e=.returned (.pointer (some ⟨g6,0,none⟩))/\PAt w'' (F.off w.heap.size) false ((k (ix b)).put p x) (ptr g6)/\Below w'.heap.size w' w''):=qh (fun w' hb hs=>
    (IH (k (ix b)) (K (ix b)) p x w' _ (Nat.le_trans (Tri.rank_le _ _) hm) ((hF.size hb.size).off hs) (((hk (ix b)).weak.new_off (Nat.le_refl _)).below hb) (hg.br _) hfp hpl).mono fun e w'' ⟨v6,e6,hp6,hb6⟩=>by
      obtain ⟨g6,_,_,rfl,_⟩:=hp6.row (Tri.put_nn _ _ _)
      exact ⟨g6,e6,hp6,hb6⟩)
  have hbyte:∀ hh,(⟨(b :: p).toArray⟩:ByteArray)[0]'hh=b:=byte_drop rfl
  have htail:(⟨(b :: p).toArray⟩:ByteArray).extract 1 (b :: p).length=⟨p.toArray⟩:=tail_drop (n:=0) rfl
  have hne:((b :: p:List UInt8) == [])=false:=rfl
  have z0:(0:Int) < ((b :: p).length:Int):=by rw [List.length_cons]; omega
  have z1:(1:Int)<=((b :: p).length:Int):=by rw [List.length_cons]; omega
  have z6:(0:Int)<=(b.toNat:Int):=by omega
  have z7:(b.toNat:Int) < 16:=by omega
  have HIX:=qh hix
  obtain ⟨vk,hvk⟩:∃ vk,K (ix b)=vk:=⟨_,rfl⟩
  rw [hvk] at HI
  have HVK:=qh hvk
  obtain ⟨P,hP⟩:∃ P,b :: p=P:=⟨_,rfl⟩
  rw [hP] at hbyte htail hne z0 z1 ⊢
  unfold MadeT
  unfold ptr at HO ⊢
  clear h hr hk hg hf hl hm hb1 hfp hix hpl IH hvk hP
  go_enter Tryz.func99,Tryz.ntmps99
  go_wp2_with fail
  refine HO.out.mono ?_
  rintro e w1 ⟨rfl,hr1,hb1⟩
  obtain ⟨q,hq⟩:∃ q,w.heap.size=q:=⟨_,rfl⟩
  have HSZ:Hid (q < w1.heap.size):=qh (by rw [← hq]; exact lt_of_heap hr1)
  have HGQ:Hid (g < q):=qh (by rw [← hq]; exact lt_of_heap HR.out)
  have HR1:=qh hr1
  have HB1:=qh hb1
  rw [hq] at HR1 HB1 HI ⊢
  have HQ:=qh hq
  have HN1:Hid (∀ w',Below w1.heap.size w1 w'->w'.cell? ⟨g,3+b.toNat,none⟩=some vk/\w'.cell? ⟨q,3+b.toNat,none⟩=some vk/\w'.frozen? ⟨q,3+b.toNat,none⟩=false):=qh (fun w' hb=>by
    have k1:=(HR.out.below (by rw [HQ.out]; exact HB1.out)).below hb
    have k2:=HR1.out.below hb
    have e1:=k1.kid (ix b)
    have e2:=k2.kid (ix b)
    rw [HIX.out,HVK.out] at e1 e2
    exact ⟨e1,e2,k2.free _⟩)
  have HK1:Hid (∀ w' v,Below w1.heap.size w1 w'->(w'.setCell ⟨q,3+b.toNat,none⟩ v).cell? ⟨g,3+b.toNat,none⟩=some vk):=qh (fun w' v hb=>keep_cell (HN1.out w' hb).1 (Nat.ne_of_lt HGQ.out))
  have HI2:Hid (∀ w',Below w1.heap.size w1 w'->Calls Tryz.prog 99 #[vk,.string ⟨p.toArray⟩,.string ⟨x.toArray⟩] w' fun e w''=>∃ g6,e=.returned (.pointer (some ⟨g6,0,none⟩))/\PAt w'' (F.off q) false ((k (ix b)).put p x) (ptr g6)/\Below w1.heap.size w1 w''):=qh (fun w' hb=>(HI.out w' (HB1.out.trans (hb.mono (Nat.le_of_lt HSZ.out))) (Nat.lt_of_lt_of_le HSZ.out hb.size)).mono fun e w'' ⟨g6,e6,hp6,hb6⟩=>⟨g6,e6,hp6,hb.trans (hb6.mono hb.size)⟩)
  clear hr1 hb1 hq HI
  go_upto_region 7 with fail
  have BD:Below w1.heap.size w1 w1.drew:=(Below.refl _ _).drew
  obtain ⟨c1,c2,c3⟩:=HN1.out _ BD
  go_region_held3 (fun w'=>w'.cell? ⟨g,3+b.toNat,none⟩=some vk)
    ((first | (with_reducible exact c1) | (with_reducible exact d1) | (refine HK1.out _ _ ?_; with_reducible assumption)))
    ((go_at_call 99; refine (HI2.out _ ?_).mono ?_; (with_reducible assumption); rintro e w6 ⟨g6,rfl,hp6,hb6⟩; obtain ⟨d1,d2,d3⟩:=HN1.out _ hb6))
  all_goals
    go_wp2
    go_ret
    have hbq:Below w.heap.size w w6:=by rw [HQ.out]; exact HB1.out.trans (hb6.mono (Nat.le_of_lt HSZ.out))
    refine ⟨_,rfl,PAt.new (K:=updK K (ix b) (ptr g6)) id (hF _ (Nat.le_of_eq HQ.out)) ?_ (fun i=>?_),by rw [← HQ.out]; exact hbq.setCell (p:=⟨w.heap.size,_,none⟩) (Nat.le_refl _) _⟩
    · have:=(HR1.out.below hb6).setKid (ix b) (ptr g6)
      rw [HIX.out] at this
      exact this
    · simp only [Tri.Tr.kid,updK,Tri.upd]
      split
      · exact hp6.off _ _
      · exact (((HK.out i).weak.new_off (Nat.le_of_eq HQ.out)).below hbq).off _ _
end
section
open Go.RowKit
open Sto (T)
open Tri (Tr Ok upd ix hb lay splitT Trim rank)
theorem with_plan {t:Tr} {p:T} (hg:Trim t) (hk:t.kind=1 ∨ t.kind=2) (hp:Nib.fitL p=true) (hl:p.length<=16) (x:T):
    ∃ tb,tb=(if Tri.splits t p then splitT (Nib.commonL t.pth p) t else t.kid 0)/\t.put p x=lay (p.take (Nib.commonL t.pth p)) (tb.put (p.drop (Nib.commonL t.pth p)) x)/\
      Trim tb/\rank tb (p.drop (Nib.commonL t.pth p))<=2 * p.length/\(tb.put (p.drop (Nib.commonL t.pth p)) x).pth.length<=16:=by
  have hbr:∀ u:Tr,u.isBr->rank u (p.drop (Nib.commonL t.pth p))<=2 * p.length/\(u.put (p.drop (Nib.commonL t.pth p)) x).pth.length<=16:=fun u hu=>by
    refine ⟨by rw [Tri.rank_br hu]; simp; omega,?_⟩
    have:=Tri.put_br hu (p.drop (Nib.commonL t.pth p)) x
    generalize u.put (p.drop (Nib.commonL t.pth p)) x=y at this ⊢
    cases y <;> simp_all [Tri.Tr.isBr,Tri.Tr.pth]
  refine ⟨_,rfl,?_⟩
  cases t with
  | nil=>rcases hk with h | h <;> cases h
  | br y k=>rcases hk with h | h <;> cases h
  | leaf q y=>
    refine ⟨Tri.put_leaf_plan hg.fits hp,?_⟩
    by_cases h:Tri.splits (.leaf q y) p=true
    · rw [if_pos h]
      exact ⟨hg.split,hbr _ (Tri.split_br _ _)⟩
    · rw [if_neg h]
      refine ⟨Tri.Trim.nil,by simp [Tri.Tr.kid,rank]; omega,?_⟩
      simp only [Tri.Tr.kid,Tri.Tr.put,Tri.Tr.pth,List.length_drop]
      omega
  | ext q u=>
    refine ⟨Tri.put_ext_plan hg.firm.2.1 hg.firm.1 hg.fits.1 hp,?_⟩
    by_cases h:Tri.splits (.ext q u) p=true
    · rw [if_pos h]
      exact ⟨hg.split,hbr _ (Tri.split_br _ _)⟩
    · rw [if_neg h]
      have e:(Tr.ext q u).kid 0=u:=by simp [Tri.Tr.kid]
      rw [e]
      exact ⟨hg.ext,hbr _ hg.firm.2.1⟩
theorem cut_drop (p:T) (c:Nat):(⟨p.toArray⟩:ByteArray).extract c p.length=⟨(p.drop c).toArray⟩:=ext_drop p c
theorem cut_take (p:T) (c:Nat):(⟨p.toArray⟩:ByteArray).extract 0 c=⟨(p.take c).toArray⟩:=by rw [Lib.extract_eq]; simp
theorem with_else {m:Nat} (IH:WithTo m) {t:Tr} {v:Value} (p x:T) (w:World) (F:Fm) (hk:t.kind=1 ∨ t.kind=2) (hm:2 * p.length<=m) (hF:F.fresh w) (h:PAt w F false t v) (hg:Trim t) (hf:Nib.fitL p=true) (hl:p.length<=16):
    Calls Tryz.prog 99 #[v,.string ⟨p.toArray⟩,.string ⟨x.toArray⟩] w (MadeT w F (t.put p x)):=by
  have hnn:¬ t.isNil:=fun e=>by rw [← Tri.kind_nil] at e; omega
  obtain ⟨tb,htb,hput,htr,hrk,hpb⟩:=with_plan hg hk hf hl x
  obtain ⟨g,s',K,rfl,-,-,hr,hkk⟩:=h.row hnn
  have hcl:=Nib.commonL_le t.pth p
  have hqs:t.pth.length<=16:=by
    have:=hg.low
    cases t <;> simp_all [Tri.Tr.low,Tri.Tr.pth]
  have HCM:=qh (fun w=>common_any t.pth p w (by omega) (by omega))
  have n0:=hr.kind
  have n1:=hr.path
  have n3:=hr.kid 0
  have HR:=qh hr
  have HH:=qh h
  have HSP:Hid (Tri.splits t p=true->∀ w',Below w.heap.size w w'->Calls Tryz.prog 139 #[ptr g,.int .i64 (Nib.commonL t.pth p)] w' (MadeT w' F (splitT (Nib.commonL t.pth p) t))):=qh (fun hs w' hb=>
    split_any _ w' F (hF.size hb.size) (h.below hb) hk hg.firm hg.fits (by omega) hcl.1 (fun h2=>by
      cases t with
      | ext q u=>simpa [Tri.splits,Tri.Tr.pth] using hs
      | _=>cases h2))
  obtain ⟨c,hc⟩:∃ c,Nib.commonL t.pth p=c:=⟨_,rfl⟩
  rw [hc] at htb hput hrk hpb hcl HCM HSP
  obtain ⟨q,hq⟩:∃ q,t.pth=q:=⟨_,rfl⟩
  rw [hq] at hcl hqs HCM n1
  have HRB:Hid (∀ w' vb,Below w.heap.size w w'->PAt w' F false tb vb->Calls Tryz.prog 99 #[vb,.string ⟨(p.drop c).toArray⟩,.string ⟨x.toArray⟩] w' (MadeT w' F (tb.put (p.drop c) x))):=qh (fun w' vb hb hp=>
    IH tb vb (p.drop c) x w' F (Nat.le_trans hrk hm) (hF.size hb.size) hp htr (Tri.fit_drop _ hf) (by simp; omega))
  have HBH:Hid (∀ w' v6,Below w.heap.size w w'->PAt w' F false (tb.put (p.drop c) x) v6->Calls Tryz.prog 140 #[v6,.string ⟨(p.take c).toArray⟩] w' (MadeT w' F (t.put p x))):=qh (fun w' v6 hb hp=>by
    rw [hput]
    exact behind_any (p.take c) w' F (hF.size hb.size) hp (Or.inr (Tri.put_nn _ _ _)) (by simp; omega) (by omega))
  have htail:=cut_drop p c
  have htake:=cut_take p c
  have z0:(0:Int)<=(c:Int):=by omega
  have z1:(c:Int)<=(p.length:Int):=by omega
  obtain ⟨P1,hP1⟩:∃ P1,p.drop c=P1:=⟨_,rfl⟩
  obtain ⟨P2,hP2⟩:∃ P2,p.take c=P2:=⟨_,rfl⟩
  rw [hP1] at htail HRB HBH
  rw [hP2] at htake HBH
  have hkd:(t.kind:Int) ≠ 3:=by omega
  have e3:((t.kind:Int) == 3)=false:=by rw [beq_eq_false_iff_ne]; exact hkd
  obtain ⟨b1,hb1⟩:∃ b,decide ((c:Int) < (q.length:Int))=b:=⟨_,rfl⟩
  obtain ⟨b2,hb2⟩:∃ b,((t.kind:Int) == 1)=b:=⟨_,rfl⟩
  obtain ⟨b3,hb3⟩:∃ b,decide ((c:Int) < (p.length:Int))=b:=⟨_,rfl⟩
  have hsp:Tri.splits t p=(b1 || (b2 && b3)):=by
    subst hb1 hb2 hb3
    cases t with
    | nil=>exact absurd trivial hnn
    | br y k=>rcases hk with h | h <;> cases h
    | leaf q' y=>
      obtain rfl:q'=q:=hq
      have hc2:Nib.commonL q' p=c:=hc
      simp only [Tri.splits,hc2,Tri.Tr.kind]
      rw [Bool.eq_iff_iff]; simp
    | ext q' y=>
      obtain rfl:q'=q:=hq
      have hc2:Nib.commonL q' p=c:=hc
      simp only [Tri.splits,hc2,Tri.Tr.kind]
      rw [Bool.eq_iff_iff]; simp
  obtain ⟨kd,hkd2⟩:∃ kd,t.kind=kd:=⟨_,rfl⟩
  rw [hkd2] at n0 e3 hb2
  have hvk:PAt w F false (t.kid 0) (K 0):=(hkk 0).weak
  obtain ⟨vk,hvk2⟩:∃ vk,K 0=vk:=⟨_,rfl⟩
  rw [hvk2] at n3 hvk
  have HVK:=qh hvk
  have HTB:=qh htb
  have HG:Hid (∀ w',Below w.heap.size w w'->w'.cell? ⟨g,0,none⟩=some (.int .i64 kd)/\w'.cell? ⟨g,1,none⟩=some (.string ⟨q.toArray⟩)/\w'.cell? ⟨g,3,none⟩=some vk):=qh (fun w' hb=>by
    have k1:=hr.below hb
    have k3:=k1.kid 0
    rw [hvk2] at k3
    exact ⟨by rw [k1.kind,hkd2],by rw [k1.path,hq],k3⟩)
  have HSB:Hid (Tri.splits t p=(b1 || (b2 && b3))):=qh hsp
  unfold MadeT at HRB HBH HSP ⊢
  unfold ptr at HSP ⊢
  obtain ⟨TP,hTP⟩:∃ TP,t.put p x=TP:=⟨_,rfl⟩
  rw [hTP] at HBH ⊢
  clear h hg hf hl hm hcl hqs hput htr hrk hpb hr hkk IH hP1 hP2 hkd hsp hkd2 hvk hvk2 htb hc hq hTP hnn
  have hb1n:decide (c < q.length)=b1:=by rw [← hb1,decide_eq_decide]; omega
  have hb3n:decide (c < p.length)=b3:=by rw [← hb3,decide_eq_decide]; omega
  have hb2n:(kd == 1)=b2:=by rw [← hb2,Bool.eq_iff_iff]; simp; omega
  have HEND:Hid (∀ w',Below w.heap.size w w'->Below w.heap.size w w'.drew/\∀ vb,PAt w' F false tb vb->PAt w'.drew F false tb vb):=qh (fun w' hb=>⟨hb.drew,fun vb hp=>hp.below (Below.refl _ _).drew⟩)
  have HSPW:Hid (∀ b,Tri.splits t p=b->(b=true->(if Tri.splits t p then splitT c t else t.kid 0)=splitT c t)/\(b=false->(if Tri.splits t p then splitT c t else t.kid 0)=t.kid 0)):=qh (fun b hb=>by rw [hb]; exact ⟨fun e=>by rw [e]; rfl,fun e=>by rw [e]; rfl⟩)
  clear hk
  cases b1 with
  | true=>
    replace HSP:=qh (HSP.out HSB.out)
    replace HTB:Hid (tb=splitT c t):=qh (HTB.out.trans ((HSPW.out _ HSB.out).1 rfl))
    clear HSB HSPW
    go_enter Tryz.func99,Tryz.ntmps99
    go_wp2_with fail
    refine (HCM.out _).mono ?_
    rintro e w1 ⟨rfl,hbw1⟩
    obtain ⟨m0,m1,m3⟩:=HG.out _ hbw1
    have HB1:=qh hbw1
    clear hbw1
    go_wp2_with fail
    refine (HSP.out _ HB1.out).mono ?_
    rintro e w2 ⟨vb,rfl,hpb,hbs⟩
    have HB2:=qh (bchain HB1.out hbs)
    have HPB:Hid (PAt w2 F false tb vb):=qh (by rw [HTB.out]; exact hpb)
    clear hpb hbs m0 m1 m3
    go_upto_region 13 with fail
    obtain ⟨BD,PD0⟩:=HEND.out _ HB2.out
    have PD:=PD0 _ HPB.out
    clear PD0
    go_region_held3 (fun _=>True) (trivial)
      (first | (go_at_call 99; refine (HRB.out _ vb ?_ ?_).mono ?_; (with_reducible exact BD); (with_reducible exact PD); rintro e w6 ⟨v6,rfl,hp6,hb6⟩; have hb6':=bchain BD hb6) | (go_at_call 140; refine (HBH.out _ v6 ?_ ?_).mono ?_; (with_reducible exact hb6'); (with_reducible exact hp6); rintro e w7 ⟨v7,rfl,hp7,hb7⟩; have hb7':=bchain hb6' hb7))
    all_goals
      go_wp2
      go_ret
      exact ⟨v7,rfl,hp7,hb7'⟩
  | false=>
    cases b2 with
    | false=>
      replace HTB:Hid (tb=t.kid 0):=qh (HTB.out.trans ((HSPW.out _ HSB.out).2 rfl))
      clear HSB HSPW HSP
      go_enter Tryz.func99,Tryz.ntmps99
      go_wp2_with fail
      refine (HCM.out _).mono ?_
      rintro e w1 ⟨rfl,hbw1⟩
      obtain ⟨m0,m1,m3⟩:=HG.out _ hbw1
      have HB1:=qh hbw1
      clear hbw1
      obtain ⟨vb,hvb⟩:∃ vb,vk=vb:=⟨_,rfl⟩
      rw [hvb] at m3
      have HPB:Hid (PAt w1 F false tb vb):=qh (by rw [HTB.out,← hvb]; exact HVK.out.below HB1.out)
      clear hvb
      go_upto_region 13 with fail
      obtain ⟨BD,PD0⟩:=HEND.out _ HB1.out
      have PD:=PD0 _ HPB.out
      clear PD0 m0 m1 m3
      go_region_held3 (fun _=>True) (trivial)
        (first | (go_at_call 99; refine (HRB.out _ vb ?_ ?_).mono ?_; (with_reducible exact BD); (with_reducible exact PD); rintro e w6 ⟨v6,rfl,hp6,hb6⟩; have hb6':=bchain BD hb6) | (go_at_call 140; refine (HBH.out _ v6 ?_ ?_).mono ?_; (with_reducible exact hb6'); (with_reducible exact hp6); rintro e w7 ⟨v7,rfl,hp7,hb7⟩; have hb7':=bchain hb6' hb7))
      all_goals
        go_wp2
        go_ret
        exact ⟨v7,rfl,hp7,hb7'⟩
    | true=>
      cases b3 with
      | false=>
        replace HTB:Hid (tb=t.kid 0):=qh (HTB.out.trans ((HSPW.out _ HSB.out).2 rfl))
        clear HSB HSPW HSP
        go_enter Tryz.func99,Tryz.ntmps99
        go_wp2_with fail
        refine (HCM.out _).mono ?_
        rintro e w1 ⟨rfl,hbw1⟩
        obtain ⟨m0,m1,m3⟩:=HG.out _ hbw1
        have HB1:=qh hbw1
        clear hbw1
        obtain ⟨vb,hvb⟩:∃ vb,vk=vb:=⟨_,rfl⟩
        rw [hvb] at m3
        have HPB:Hid (PAt w1 F false tb vb):=qh (by rw [HTB.out,← hvb]; exact HVK.out.below HB1.out)
        clear hvb
        go_upto_region 13 with fail
        obtain ⟨BD,PD0⟩:=HEND.out _ HB1.out
        have PD:=PD0 _ HPB.out
        clear PD0 m0 m1 m3
        go_region_held3 (fun _=>True) (trivial)
          (first | (go_at_call 99; refine (HRB.out _ vb ?_ ?_).mono ?_; (with_reducible exact BD); (with_reducible exact PD); rintro e w6 ⟨v6,rfl,hp6,hb6⟩; have hb6':=bchain BD hb6) | (go_at_call 140; refine (HBH.out _ v6 ?_ ?_).mono ?_; (with_reducible exact hb6'); (with_reducible exact hp6); rintro e w7 ⟨v7,rfl,hp7,hb7⟩; have hb7':=bchain hb6' hb7))
        all_goals
          go_wp2
          go_ret
          exact ⟨v7,rfl,hp7,hb7'⟩
      | true=>
        replace HSP:=qh (HSP.out HSB.out)
        replace HTB:Hid (tb=splitT c t):=qh (HTB.out.trans ((HSPW.out _ HSB.out).1 rfl))
        clear HSB HSPW
        go_enter Tryz.func99,Tryz.ntmps99
        go_wp2_with fail
        refine (HCM.out _).mono ?_
        rintro e w1 ⟨rfl,hbw1⟩
        obtain ⟨m0,m1,m3⟩:=HG.out _ hbw1
        have HB1:=qh hbw1
        clear hbw1
        go_wp2_with fail
        refine (HSP.out _ HB1.out).mono ?_
        rintro e w2 ⟨vb,rfl,hpb,hbs⟩
        have HB2:=qh (bchain HB1.out hbs)
        have HPB:Hid (PAt w2 F false tb vb):=qh (by rw [HTB.out]; exact hpb)
        clear hpb hbs m0 m1 m3
        go_upto_region 13 with fail
        obtain ⟨BD,PD0⟩:=HEND.out _ HB2.out
        have PD:=PD0 _ HPB.out
        clear PD0
        go_region_held3 (fun _=>True) (trivial)
          (first | (go_at_call 99; refine (HRB.out _ vb ?_ ?_).mono ?_; (with_reducible exact BD); (with_reducible exact PD); rintro e w6 ⟨v6,rfl,hp6,hb6⟩; have hb6':=bchain BD hb6) | (go_at_call 140; refine (HBH.out _ v6 ?_ ?_).mono ?_; (with_reducible exact hb6'); (with_reducible exact hp6); rintro e w7 ⟨v7,rfl,hp7,hb7⟩; have hb7':=bchain hb6' hb7))
        all_goals
          go_wp2
          go_ret
          exact ⟨v7,rfl,hp7,hb7'⟩
theorem with_to (m:Nat):WithTo m:=by
  induction m using Nat.strongRecOn with
  | ind m IH=>
    intro t v p x w F hr hF h hg hf hl
    cases t with
    | nil=>
      have e:v=.pointer none:=h
      subst e
      exact with_nil p x w F hF
    | leaf q y=>
      have hm:2 * p.length+1<=m:=hr
      exact with_else (IH (m - 1) (by omega)) p x w F (Or.inl rfl) (by omega) hF h hg hf hl
    | ext q u=>
      have hm:2 * p.length+1<=m:=hr
      exact with_else (IH (m - 1) (by omega)) p x w F (Or.inr rfl) (by omega) hF h hg hf hl
    | br y k=>
      cases p with
      | nil=>exact with_here x w F hF h
      | cons b p=>
        have hm:2 * (b :: p).length<=m:=hr
        rw [List.length_cons] at hm
        exact with_below (IH (m - 1) (by omega)) b p x w F (by omega) hF h hg hf hl
theorem with_any {t:Tr} {v:Value} (p x:T) (w:World) (F:Fm) (hF:F.fresh w) (h:PAt w F false t v) (hg:Trim t) (hf:Nib.fitL p=true) (hl:p.length<=16):
    Calls Tryz.prog 99 #[v,.string ⟨p.toArray⟩,.string ⟨x.toArray⟩] w (MadeT w F (t.put p x)):=with_to _ t v p x w F (Nat.le_refl _) hF h hg hf hl
end
section
open Go.RowKit
open Sto (T)
open Tri (Tr Ok upd ix hb lay splitT Trim rank)
def within (t:Tr):Prop:=∀ x ∈ t.items,x.1.length<=16
end
section
open Go.RowKit
open Sto (T)
open Tri (Tr Ok upd ix hb lay splitT Trim rank)
open Go.Proofs.YtaficmboooaknaaGreatDoor.Nd (N)
structure Sealed (w:World) (t:Tr) (v:Value):Prop where
  at_:PAt w (Fm.from 0) true t v
  ok:Ok t
  within:within t
  few:∀ p,(t.spots Nd.sumS p).length<=100000
theorem Sealed.below {w w':World} {t:Tr} {v:Value} (h:Sealed w t v) (hb:Below w.heap.size w w'):Sealed w' t v:=⟨h.at_.below hb,h.ok,h.within,h.few⟩
theorem visits_le (want:T->Bool) (t:Tr) (p:T):(t.visits want p).length<=(t.spots Nd.sumS p).length:=by
  induction t generalizing p with
  | nil=>exact Nat.le_refl _
  | leaf q v=>exact Nat.le_refl _
  | ext q t ih=>
    rw [Tri.Tr.visits,Tri.Tr.spots,List.length_cons,List.length_cons]
    split
    · exact Nat.succ_le_succ (ih _)
    · simp
  | br v k ih=>
    rw [Tri.Tr.visits,Tri.Tr.spots,List.length_cons,List.length_cons]
    split
    · refine Nat.succ_le_succ ?_
      have:∀ l:List (Fin 16),(l.flatMap fun i=>(k i).visits want (p ++ [hb i])).length<=(l.flatMap fun i=>(k i).spots Nd.sumS (p ++ [hb i])).length:=fun l=>by
        induction l with
        | nil=>exact Nat.le_refl _
        | cons i l ihl=>
          rw [List.flatMap_cons,List.flatMap_cons,List.length_append,List.length_append]
          exact Nat.add_le_add (ih i _) ihl
      exact this _
    · simp
theorem texts_visits {w:World} {id:Nat} {wc:Array Value} {want:T->Bool} (hW:Wants w id wc want):
    Visits w (Fm.from 0) 86 #[.pointer (some ⟨w.heap.size,0,none⟩),.pointer (some ⟨w.heap.size+1,0,none⟩)] want (fun w' L=>TextsI (w.heap.size+2) (w.heap.size+1) w.heap.size (.func (.func id) #[] wc) want w' L/\w.heap.size+2<=w'.heap.size) where
  call:=fun _ _=>rfl
  keep:=fun w' w'' L ⟨⟨z,h1,h2,h3⟩,h4⟩ hb=>⟨⟨z,(hb.block _ (lt_of_heap h1)).trans h1,(hb.block _ (lt_of_heap h2)).trans h2,h3.below hb⟩,Nat.le_trans h4 hb.size⟩
  step:=fun w' L p t v hlen hb hI h hn ho hf hl=>by
    have:=texts_step hW (F:=Fm.from 0) (w.heap.size+2) (w.heap.size+1) w.heap.size ⟨by omega,by omega,by omega⟩ (by omega) w' L p t v hlen hb hI.2 hI.1 h hn ho hf (by
      have:=pth_len ho hn hl; omega)
    refine this.mono fun e w'' ⟨h1,h2,h3⟩=>⟨h1,⟨h2,?_⟩,h3⟩
    obtain ⟨z,q1,_⟩:=h2
    have:=lt_of_heap q1
    omega
def TextsPost (w:World) (L:List T) (e:Ending) (w':World):Prop:=∃ z,e=.returned z/\Own w' w.heap.size z L/\Below w.heap.size w w'
theorem texts_any {g:Nat} {t:Tr} {top n:Value} {id:Nat} {wc:Array Value} {want:T->Bool} (w:World) (hg:w.heap[g]?=some (.cells #[top,n] 84 (0,0))) (hs:Sealed w t top) (hW:Wants w id wc want) (hd:Down want):
    Calls Tryz.prog 51 #[ptr g,.func (.func id) #[] wc] w (TextsPost w (wantedT want t)):=by
  unfold TextsPost
  have hmf:∀ (fn:Fn) (first cap:Array Value) (w:World),(Instr.makeFunc fn first cap).run Tryz.prog w=.ok (.func fn first cap) w:=fun _ _ _ _=>rfl
  have hb1:Below w.heap.size w ((w.alloc (.cells #[.func (.func id) #[] wc] 91)).alloc (.cells #[.slice none 0 0] 29)):=((Below.refl _ w).alloc (Nat.le_refl _) _).alloc (by simp) _
  have c0:((w.alloc (.cells #[.func (.func id) #[] wc] 91)).alloc (.cells #[.slice none 0 0] 29)).cell? ⟨g,0,none⟩=some top:=by
    rw [cell_of_row _ g 0 _ _ _ ((hb1.block g (lt_of_heap hg)).trans hg)]; rfl
  have hI0:TextsI (w.heap.size+2) (w.heap.size+1) w.heap.size (.func (.func id) #[] wc) want ((w.alloc (.cells #[.func (.func id) #[] wc] 91)).alloc (.cells #[.slice none 0 0] 29)) []:=
    ⟨_,heap_new_at _ _ _ (by simp),heap_old_at _ (heap_alloc_new w _),Own.nil _ _⟩
  have HWK:=qh (walk_to (texts_visits hW) t _ [] [] top (by
    have:=visits_le want t []
    have:=hs.few []
    simp; omega) hb1 ⟨hI0,by simp⟩ hs.at_ hs.ok rfl (fun x hx=>by
      have:=hs.within x hx
      simpa using this))
  have HWT:=qh (wanted_texts hd t)
  rw [List.nil_append] at HWK
  unfold ptr
  clear hg hs hW hd hb1 hI0
  go_enter Tryz.func51,Tryz.ntmps51
  go_wp2_with fail
  refine HWK.out.mono ?_
  rintro e w2 ⟨rfl,⟨⟨z,h1,h2,h3⟩,h4⟩,hb2⟩
  have m1:=cell_of_one h1
  have HO:Hid (Own w2 w.heap.size z (wantedT want t)):=qh (by rw [← HWT.out]; exact own_lowS h3 (by omega))
  have HB:=qh hb2
  clear h1 h2 h3 h4 hb2
  go_wp2
  go_ret
  exact ⟨z,rfl,HO.out,HB.out⟩
end
section
open Go.RowKit
open Go.Proofs.YtaficmboooaknaaGreatDoor.Sto (St)
def itcl (p:List UInt8 × List UInt8):List Value:=[.string ⟨p.1.toArray⟩,.string ⟨p.2.toArray⟩]
theorem itcl_length (p:List UInt8 × List UInt8):(itcl p).length=2:=rfl
theorem itcl_one (p:List UInt8 × List UInt8):∀ u ∈ itcl p,u.oneCell'=true:=by
  intro u hu
  simp [itcl] at hu
  rcases hu with rfl | rfl <;> rfl
theorem Tryz.infoItem:(Tryz.prog.info? 60).map (fun i=>(i.zero,i.size,i.bytes))=some (some (.agg #[.string ⟨#[]⟩,.string ⟨#[]⟩]),2,32):=by kernel_rfl
def ItAt (w:World) (v:Value) (L:St):Prop:=RowsAt 60 2 itcl w v L
theorem ItAt.at {w:World} {A:Option Addr} {n cap:Nat} {S:St} (h:ItAt w (.slice A n cap) S) (k:Nat) (hk:k < S.length):
    ∃ b o,A=some ⟨b,o,none⟩/\w.cell? ⟨b,o+k * 2,none⟩=some (.string ⟨(S[k].1).toArray⟩)/\w.cell? ⟨b,o+k * 2+1,none⟩=some (.string ⟨(S[k].2).toArray⟩):=by
  obtain ⟨b,o,rfl,h1⟩:=RowsAt.at h k hk
  exact ⟨b,o,rfl,h1 0 _ rfl,h1 1 _ rfl⟩
def ItIn (w:World) (v:Value) (L:St):Prop:=RowsIn 2 itcl w v L
theorem ItAt.inn {w:World} {v:Value} {L:St} (h:ItAt w v L):ItIn w v L:=RowsAt.inn h
theorem ItIn.at {w:World} {A:Option Addr} {n cap:Nat} {S:St} (h:ItIn w (.slice A n cap) S) (k:Nat) (hk:k < S.length):
    ∃ b o,A=some ⟨b,o,none⟩/\w.cell? ⟨b,o+k * 2,none⟩=some (.string ⟨(S[k].1).toArray⟩)/\w.cell? ⟨b,o+k * 2+1,none⟩=some (.string ⟨(S[k].2).toArray⟩):=by
  obtain ⟨b,o,rfl,h1⟩:=RowsIn.at h k hk
  exact ⟨b,o,rfl,h1 0 _ rfl,h1 1 _ rfl⟩
end
section
open Go.RowKit
open Go.Proofs.YtaficmboooaknaaGreatDoor.Sto (St)
def Tri.keyed (x:List UInt8):Bool:=decide (1<=x.length) && decide (x.length<=8)
theorem rKeyed_all (x:List UInt8) (w:World):
    Calls Tryz.prog 62 #[.string ⟨x.toArray⟩] w fun e w'=>e=.returned (.bool (Tri.keyed x))/\w=w':=by
  unfold Tri.keyed
  go_enter Tryz.func62,Tryz.ntmps62
  by_cases h1:1<=x.length
  · have g1:((x.length:Int) ≥ 1):=by omega
    by_cases h2:x.length<=8
    · have g2:((x.length:Int)<=8):=by omega
      go_wp2
      go_ret
      exact ⟨by simp [h1,h2],rfl⟩
    · have g2:¬ ((x.length:Int)<=8):=by omega
      go_wp2
      go_ret
      exact ⟨by simp,rfl⟩
  · have g1:¬ ((x.length:Int) ≥ 1):=by omega
    go_wp2
    go_ret
    exact ⟨by simp,rfl⟩
def Tri.getC (S:St) (x:List UInt8):List UInt8 × Nat:=if Tri.keyed x then (match Sto.look S x with | some v=>(v,0) | none=>([],5)) else ([],1)
theorem Tri.getC_none {S:St} {x:List UInt8} (h:Tri.keyed x=true) (h2:Sto.look S x=none):Tri.getC S x=([],5):=by simp [Tri.getC,h,h2]
theorem Tri.getC_some {S:St} {x y:List UInt8} (h:Tri.keyed x=true) (h2:Sto.look S x=some y):Tri.getC S x=(y,0):=by simp [Tri.getC,h,h2]
end
section
open Go.RowKit
open Go.Proofs.YtaficmboooaknaaGreatDoor.Sto (St)
def Tri.putC (S:St) (x y:List UInt8):Nat:=if Tri.keyed x then (if 1<=y.length/\y.length<=32/\(Tri.at_ S x=true ∨ S.length < 1024) then 0 else 2) else 1
theorem Tri.putC_no {S:St} {x y:List UInt8} (h:Tri.keyed x=false):Tri.putC S x y=1:=by simp [Tri.putC,h]
theorem Tri.putC_bad {S:St} {x y:List UInt8} (h:Tri.keyed x=true) (h2:¬ (1<=y.length/\y.length<=32/\(Tri.at_ S x=true ∨ S.length < 1024))):Tri.putC S x y=2:=by rw [Tri.putC,if_pos h,if_neg h2]
theorem Tri.putC_ok {S:St} {x y:List UInt8} (h:Tri.keyed x=true) (h2:1<=y.length/\y.length<=32/\(Tri.at_ S x=true ∨ S.length < 1024)):Tri.putC S x y=0:=by rw [Tri.putC,if_pos h,if_pos h2]
theorem append_it {w:World} {v s:Value} {S:St} {B n:Nat} {xs:List Value} (hv:ItAt w v S) (hs:w.ownsRow B 60 2 s n xs) (hl:n+S.length<=1000000) (hB:B<=w.heap.size):
    ∃ v' w',(Builtin.append_ #[22,22] 22 #[s,v]).run Tryz.prog w=.ok v' w'/\w'.ownsRow B 60 2 v' (n+S.length) (xs ++ rowsL itcl S)/\w.grownBy w' s.ownBlock/\(v'.ownBlock=s.ownBlock ∨ v'.ownBlock=some w.heap.size):=by
  obtain ⟨i0,hi,hz0,hz1,hz2⟩:=info_parts Tryz.infoItem
  exact append_rows 22 60 i0 _ 32 Tryz.underlying22 Tryz.sizeOf60 hi hz0 hz1 hz2 rfl (by decide) (by decide) itcl_length itcl_one hv hs hl hB
end
section
open Go.RowKit
open Sto (T St)
open Tri (Tr Ok upd ix hb lay splitT Trim rank)
open Go.Proofs.YtaficmboooaknaaGreatDoor.Nd (N)
def OwnI (w:World) (B:Nat) (z:Value) (S:St):Prop:=w.ownsRow B 60 2 z S.length (rowsL itcl S)
theorem OwnI.nil (w:World) (B:Nat):OwnI w B (.slice none 0 0) []:=⟨rfl,Or.inl ⟨rfl,rfl⟩⟩
theorem OwnI.below {w w':World} {B:Nat} {s:Value} {L:St} (h:OwnI w B s L) (hb:Below w.heap.size w w'):OwnI w' B s L:=
  row_out (G:=fun _=>False) h (Out.of hb) (fun _ _ _ _ hf=>hf.elim)
theorem OwnI.lt {w:World} {B:Nat} {s:Value} {L:St} (h:OwnI w B s L) (k:Nat) (hk:s.ownBlock=some k):B<=k/\k < w.heap.size:=World.ownsRow.lt h k hk
theorem OwnI.at_ {w:World} {B:Nat} {s:Value} {L:St} (h:OwnI w B s L):ItAt w s L:=RowsAt.own itcl_length h
theorem OwnI.low {w:World} {B B':Nat} {s:Value} {L:St} (h:OwnI w B s L) (hB:B'<=B):OwnI w B' s L:=by
  refine ⟨h.1,?_⟩
  rcases h.2 with hn | ⟨k,cap,cur,hv,hb,hk,hr⟩
  · exact Or.inl hn
  · exact Or.inr ⟨k,cap,cur,hv,Nat.le_trans hB hb,hk,hr⟩
theorem app_item {w:World} {B:Nat} {z:Value} {S:St} (x y:T) (h:OwnI w B z S) (hl:S.length<=100000) (hB:B<=w.heap.size):
    ∃ g c w',(Builtin.append_ #[22,22] 22 #[z,.slice (some ⟨w.heap.size,0,none⟩) 1 1]).run Tryz.prog (w.alloc (.cells #[.string ⟨x.toArray⟩,.string ⟨y.toArray⟩] 60))=.ok (.slice (some ⟨g,0,none⟩) (S.length+1) c) w'/\
      OwnI w' B (.slice (some ⟨g,0,none⟩) (S.length+1) c) (S ++ [(x,y)])/\Below B w w':=by
  have hv:ItAt (w.alloc (.cells #[.string ⟨x.toArray⟩,.string ⟨y.toArray⟩] 60)) (.slice (some ⟨w.heap.size,0,none⟩) 1 1) [(x,y)]:=
    OwnI.at_ (B:=w.heap.size) ⟨rfl,Or.inr ⟨w.heap.size,1,_,rfl,Nat.le_refl _,heap_alloc_new w _,by simp,by simp [maxLen],rfl,rfl⟩⟩
  have hs:(w.alloc (.cells #[.string ⟨x.toArray⟩,.string ⟨y.toArray⟩] 60)).ownsRow B 60 2 z S.length (rowsL itcl S):=World.ownsRow.alloc h _
  obtain ⟨v',w',h1,h2,h3,_⟩:=append_it hv hs (by simp; omega) (by simp; omega)
  have ho:OwnI w' B v' (S ++ [(x,y)]):=by
    unfold OwnI
    rw [List.length_append,rowsL_append]
    exact h2
  obtain ⟨g,c,e,_,_⟩:=World.ownsRow.form h2 (by simp)
  subst e
  exact ⟨g,c,w',h1,ho,((Below.refl B w).alloc hB _).grown h3 (by simp; omega) (fun k hk=>(OwnI.lt h k hk).1)⟩
def keyP (p:T):T:=if p.length % 2=0 then Nib.joinL p else []
theorem key_any (p:T) (w:World) (hl:p.length<=1000) (hf:Nib.fitL p=true):
    ∃ c:Int,Calls Tryz.prog 84 #[.string ⟨p.toArray⟩] w fun e w'=>e=.returned (.tuple #[.string ⟨(keyP p).toArray⟩,.int .i64 c])/\Below w.heap.size w w':=by
  unfold keyP
  by_cases h:p.length % 2=0
  · rw [if_pos h]; exact ⟨0,key_good p w (by omega) hf h⟩
  · rw [if_neg h]; exact ⟨4,key_odd p w (by omega) hf (by omega)⟩
def itemsT (L:List (T × Tr)):St:=L.flatMap fun x=>if x.2.vl=[] then [] else [(keyP (x.1 ++ x.2.pth),x.2.vl)]
theorem itemsT_len (L:List (T × Tr)):(itemsT L).length<=L.length:=by
  unfold itemsT
  induction L with
  | nil=>exact Nat.le_refl _
  | cons a L ih=>
    rw [List.flatMap_cons,List.length_append,List.length_cons]
    split
    · simp only [List.length_nil]; omega
    · simp only [List.length_singleton]; omega
theorem itemsT_add (L:List (T × Tr)) (p:T) (t:Tr):itemsT (L ++ [(p,t)])=if t.vl=[] then itemsT L else itemsT L ++ [(keyP (p ++ t.pth),t.vl)]:=by
  unfold itemsT
  rw [List.flatMap_append,List.flatMap_singleton]
  split <;> simp
def ItemsI (B cl:Nat) (w':World) (L:List (T × Tr)):Prop:=
  ∃ z,w'.heap[cl]?=some (.cells #[z] 22 (0,0))/\OwnI w' B z (itemsT L)
theorem val_len {t:Tr} (h:Ok t):t.vl.length<=32:=by
  have:=h.small
  cases t with
  | nil=>simp [Tri.Tr.vl]
  | leaf p v=>exact this.2
  | ext p t=>simp [Tri.Tr.vl]
  | br v k=>exact this.1
theorem items_step {w0:World} {F:Fm} (B cl:Nat) (hB:w0.heap.size<=cl/\cl < B)
    (w':World) (L:List (T × Tr)) (p:T) (t:Tr) (v:Value) (hlen:L.length < 100000) (hb:Below w0.heap.size w0 w') (hBw:B<=w'.heap.size) (hI:ItemsI B cl w' L) (h:PAt w0 F true t v) (hn:¬ t.isNil) (ho:Ok t) (hf:Nib.fitL p=true) (hp16:p.length+t.pth.length<=16):
    Calls Tryz.prog 83 #[v,.string ⟨p.toArray⟩,.pointer (some ⟨cl,0,none⟩)] w' fun e w''=>e=.returned (.bool true)/\ItemsI B cl w'' (L ++ [(p,t)])/\Below w0.heap.size w0 w'':=by
  obtain ⟨z,hcl,hown⟩:=hI
  obtain ⟨g,s',K,rfl,hs,-,hr,hk⟩:=h.row hn
  have HR:Hid (∀ w1,Below w0.heap.size w0 w1->w1.cell? ⟨g,1,none⟩=some (.string ⟨t.pth.toArray⟩)/\w1.cell? ⟨g,2,none⟩=some (.string ⟨t.vl.toArray⟩)):=qh (fun w1 hb1=>⟨(hr.below hb1).path,(hr.below hb1).val⟩)
  have hpf:Nib.fitL (p ++ t.pth)=true:=Tri.fit_append.2 ⟨hf,by
    have:=ho.fits
    cases t with
    | nil=>rfl
    | leaf q v=>exact this
    | ext q u=>exact this.1
    | br v k=>rfl⟩
  have HKY:=qh (fun w=>key_any (p ++ t.pth) w (by simp; omega) hpf)
  have HCL:=qh (fun w=>dclone_any t.vl w (by have:=val_len ho; omega))
  have HIA:=qh (itemsT_add L p t)
  have HTL:Hid ((itemsT L).length<=100000):=qh (Nat.le_trans (itemsT_len _) (Nat.le_of_lt hlen))
  obtain ⟨TL,hTL⟩:∃ TL,itemsT L=TL:=⟨_,rfl⟩
  obtain ⟨pp,hpp⟩:∃ pp,t.pth=pp:=⟨_,rfl⟩
  obtain ⟨x,hx⟩:∃ x,t.vl=x:=⟨_,rfl⟩
  rw [hTL] at hown HIA HTL
  rw [hpp] at HR HKY HIA hp16
  rw [hx] at HR HCL HIA
  have HB:=qh hb
  have HOWN:=qh hown
  have HCLL:=qh hcl
  have cL:p.length<=1000:=by omega
  have cL2:pp.length<=1000:=by omega
  have hcm:=cat_mk p pp
  obtain ⟨m1,m2⟩:=HR.out w' hb
  unfold ptr
  clear h hr hk hpp hx hTL hb hown hcl hn ho hf hlen hp16 hpf
  by_cases hxe:x=[]
  · subst hxe
    rw [if_pos rfl] at HIA
    have hz:(([]:List UInt8) == [])=true:=rfl
    go_enter Tryz.func83,Tryz.ntmps83
    go_wp2
    go_ret
    refine ⟨rfl,⟨z,HCLL.out,?_⟩,HB.out⟩
    rw [HIA.out]
    exact HOWN.out
  · rw [if_neg hxe] at HIA
    have hxe2:(x == [])=false:=by rw [beq_eq_false_iff_ne]; exact hxe
    obtain ⟨c,hky⟩:=HKY.out w'
    have HKK:=qh hky
    obtain ⟨X,hX⟩:∃ X,keyP (p ++ pp)=X:=⟨_,rfl⟩
    rw [hX] at HKK HIA
    clear hky HKY hX hxe
    go_enter Tryz.func83,Tryz.ntmps83
    go_wp2_with fail
    refine HKK.out.mono ?_
    rintro e w1 ⟨rfl,hb1⟩
    have HB1:Hid (Below w'.heap.size w' w1):=qh hb1
    have HBB1:Hid (Below w0.heap.size w0 w1):=qh (HB.out.trans (hb1.mono HB.out.size))
    clear hb1
    have HCC:Hid (∀ w2,Below w1.heap.size w1 w2->w2.cell? ⟨cl,0,none⟩=some z/\w2.heap[cl]?=some (.cells #[z] 22 (0,0))):=qh (fun w2 hb2=>by
      have h3:=(hb2.block cl (Nat.lt_of_lt_of_le (lt_of_heap HCLL.out) HB1.out.size)).trans ((HB1.out.block cl (lt_of_heap HCLL.out)).trans HCLL.out)
      exact ⟨cell_of_one h3,h3⟩)
    have HTX1:Hid (∀ w2,Below w1.heap.size w1 w2->Calls Tryz.prog 46 #[.string ⟨x.toArray⟩] w2 fun e w3=>e=.returned (.string ⟨x.toArray⟩)/\Below w1.heap.size w1 w3):=qh (fun w2 hb2=>
      (HCL.out w2).mono fun e w3 ⟨e1,h3⟩=>⟨e1,bchain hb2 h3⟩)
    have HAPP:Hid (∀ w6,Below w1.heap.size w1 w6->∃ g7 c7 w7,(Builtin.append_ #[22,22] 22 #[z,.slice (some ⟨w6.heap.size,0,none⟩) 1 1]).run Tryz.prog (w6.alloc (.cells #[.string ⟨X.toArray⟩,.string ⟨x.toArray⟩] 60))=.ok (.slice (some ⟨g7,0,none⟩) (TL.length+1) c7) w7/\w6.cell? ⟨cl,0,none⟩=some z/\(w6.alloc (.cells #[.string ⟨X.toArray⟩,.string ⟨x.toArray⟩] 60)).cell? ⟨cl,0,none⟩=some z/\
        w7.cell? ⟨cl,0,none⟩=some z/\w7.frozen? ⟨cl,0,none⟩=false/\ItemsI B cl (w7.setCell ⟨cl,0,none⟩ (.slice (some ⟨g7,0,none⟩) (TL.length+1) c7)) (L ++ [(p,t)])/\Below w0.heap.size w0 (w7.setCell ⟨cl,0,none⟩ (.slice (some ⟨g7,0,none⟩) (TL.length+1) c7))):=qh (fun w6 hb6=>by
      have hb16:=bchain HB1.out hb6
      have ho6:=HOWN.out.below hb16
      obtain ⟨g7,c7,w7,ha,ho7,hb7⟩:=app_item X x ho6 HTL.out (Nat.le_trans hBw hb16.size)
      obtain ⟨q1,q2⟩:=HCC.out w6 hb6
      have q7:w7.heap[cl]?=some (.cells #[z] 22 (0,0)):=(hb7.block cl hB.2).trans q2
      refine ⟨g7,c7,w7,ha,q1,cell_of_one (heap_old_at _ q2),cell_of_one q7,free_of_one q7,⟨_,one_setCell q7,?_⟩,?_⟩
      · rw [HIA.out]
        have hgcl:g7 ≠ cl:=fun e=>by have:=(OwnI.lt ho7 g7 rfl).1; omega
        exact ownsRow_setCell_other ho7 (a:=⟨cl,0,none⟩) (fun e=>hgcl (by simpa [Value.ownBlock] using e)) _
      · have h8:Below w0.heap.size w0 w7:=(bchain HBB1.out hb6).trans (hb7.mono (Nat.le_of_lt (by omega)))
        exact h8.setCell (p:=⟨cl,0,none⟩) hB.1 _)
    go_upto_region 3 with fail
    have BD:Below w1.heap.size w1 w1.drew:=(Below.refl _ _).drew
    have cD:=(HCC.out _ BD).1
    have vD:=(HR.out _ (bchain HBB1.out BD)).2
    go_region_law (first | (refine step_call rfl 46 (.tmp 28) _ rfl (fun _ _=>rfl) _ (HTX1.out _ BD) ?_; rintro e w6 ⟨rfl,hb6⟩; refine ⟨_,rfl,?_⟩; obtain ⟨g7,c7,w7,happ,k6,k6a,k7,f7,hT7,hB7⟩:=HAPP.out _ hb6) | (refine step_append_run rfl (.tmp 23) (.tmp 31) _ rfl _ _ _ ?_ ?_ happ ?_; (first | rfl | (focus (simp [Act.eval]; done)) | fail); (first | rfl | (focus (simp [Act.eval]; done)) | fail)))
    all_goals
      go_wp2
      go_ret
      exact ⟨rfl,hT7,hB7⟩
def rawT (L:List (T × Tr)):St:=L.flatMap fun x=>if x.2.vl=[] then [] else [(x.1 ++ x.2.pth,x.2.vl)]
theorem raw_items {t:Tr} (h:t.canon) (p:T):rawT (t.visits (fun _=>true) p)=Tri.behind p t.items:=by
  induction t generalizing p with
  | nil=>rfl
  | leaf q v=>
    have hv:v ≠ []:=h
    simp [rawT,Tri.Tr.visits,Tri.Tr.vl,Tri.Tr.pth,Tri.Tr.items,Tri.behind,hv]
  | ext q t ih=>
    have e:rawT ((Tr.ext q t).visits (fun _=>true) p)=rawT (t.visits (fun _=>true) (p ++ q)):=by
      simp [rawT,Tri.Tr.visits,Tri.Tr.vl]
    rw [e,ih h.2.2,Tri.Tr.items,Tri.behind_append]
  | br v k ih=>
    have hkid:∀ l:List (Fin 16),rawT (l.flatMap fun i=>(k i).visits (fun _=>true) (p ++ [hb i]))=Tri.behind p (l.flatMap fun i=>Tri.behind [hb i] (k i).items):=fun l=>by
      induction l with
      | nil=>rfl
      | cons i l ihl=>
        have e1:rawT ((i :: l).flatMap fun i=>(k i).visits (fun _=>true) (p ++ [hb i]))=rawT ((k i).visits (fun _=>true) (p ++ [hb i])) ++ rawT (l.flatMap fun i=>(k i).visits (fun _=>true) (p ++ [hb i])):=by
          simp [rawT,List.flatMap_cons,List.flatMap_append]
        rw [e1,ihl,ih i (h.1 i),List.flatMap_cons,Tri.behind_append]
        simp [Tri.behind]
    have e:rawT ((Tr.br v k).visits (fun _=>true) p)=Tri.behind p (Tri.own v) ++ rawT ((List.finRange 16).flatMap fun i=>(k i).visits (fun _=>true) (p ++ [hb i])):=by
      unfold rawT
      rw [Tri.Tr.visits,List.flatMap_cons]
      congr 1
      by_cases hv:v=[] <;> simp [Tri.Tr.vl,Tri.Tr.pth,Tri.own,Tri.behind,hv]
    rw [e,hkid,Tri.Tr.items]
    simp [Tri.behind]
theorem items_raw (L:List (T × Tr)):itemsT L=(rawT L).map fun x=>(keyP x.1,x.2):=by
  unfold itemsT rawT
  induction L with
  | nil=>rfl
  | cons a L ih=>
    rw [List.flatMap_cons,List.flatMap_cons,List.map_append,ih]
    congr 1
    split <;> rfl
theorem keyP_of (k:T):keyP (Nib.ofL k)=k:=by
  unfold keyP
  rw [if_pos (by rw [Nib.ofL_length]; omega),Nib.join_of]
theorem items_all {S:St} {t:Tr} (h:Tri.TreeOf S t):itemsT (t.visits (fun _=>true) [])=S:=by
  rw [items_raw,raw_items h.1,h.2.2]
  unfold Tri.paths Tri.behind
  rw [List.map_map,List.map_map]
  conv=>rhs; rw [← List.map_id S]
  refine List.map_congr_left fun x _=>?_
  simp [keyP_of]
theorem items_visits (w:World):
    Visits w (Fm.from 0) 83 #[.pointer (some ⟨w.heap.size,0,none⟩)] (fun _=>true) (fun w' L=>ItemsI (w.heap.size+1) w.heap.size w' L/\w.heap.size+1<=w'.heap.size) where
  call:=fun _ _=>rfl
  keep:=fun w' w'' L ⟨⟨z,h1,h3⟩,h4⟩ hb=>⟨⟨z,(hb.block _ (lt_of_heap h1)).trans h1,h3.below hb⟩,Nat.le_trans h4 hb.size⟩
  step:=fun w' L p t v hlen hb hI h hn ho hf hl=>by
    have:=items_step (F:=Fm.from 0) (w.heap.size+1) w.heap.size ⟨by omega,by omega⟩ w' L p t v hlen hb hI.2 hI.1 h hn ho hf (pth_len ho hn hl)
    refine this.mono fun e w'' ⟨h1,h2,h3⟩=>⟨h1,⟨h2,?_⟩,h3⟩
    obtain ⟨z,q1,_⟩:=h2
    have:=lt_of_heap q1
    omega
def ItemsPost (w:World) (S:St) (e:Ending) (w':World):Prop:=∃ z,e=.returned z/\OwnI w' w.heap.size z S/\Below w.heap.size w w'
theorem items_any {g:Nat} {t:Tr} {S:St} {top n:Value} (w:World) (hg:w.heap[g]?=some (.cells #[top,n] 84 (0,0))) (hs:Sealed w t top) (hT:Tri.TreeOf S t):
    Calls Tryz.prog 49 #[ptr g] w (ItemsPost w S):=by
  unfold ItemsPost
  have hmf:∀ (fn:Fn) (first cap:Array Value) (w:World),(Instr.makeFunc fn first cap).run Tryz.prog w=.ok (.func fn first cap) w:=fun _ _ _ _=>rfl
  have hb1:Below w.heap.size w (w.alloc (.cells #[.slice none 0 0] 22)):=(Below.refl _ w).alloc (Nat.le_refl _) _
  have c0:(w.alloc (.cells #[.slice none 0 0] 22)).cell? ⟨g,0,none⟩=some top:=by
    rw [cell_of_row _ g 0 _ _ _ ((hb1.block g (lt_of_heap hg)).trans hg)]; rfl
  have hI0:ItemsI (w.heap.size+1) w.heap.size (w.alloc (.cells #[.slice none 0 0] 22)) []:=⟨_,heap_alloc_new w _,OwnI.nil _ _⟩
  have HWK:=qh (walk_to (items_visits w) t _ [] [] top (by
    have:=visits_le (fun _=>true) t []
    have:=hs.few []
    simp; omega) hb1 ⟨hI0,by simp⟩ hs.at_ hs.ok rfl (fun x hx=>by
      have:=hs.within x hx
      simpa using this))
  have HWT:=qh (items_all hT)
  rw [List.nil_append] at HWK
  unfold ptr
  clear hg hs hb1 hI0 hT
  go_enter Tryz.func49,Tryz.ntmps49
  go_wp2_with fail
  refine HWK.out.mono ?_
  rintro e w2 ⟨rfl,⟨⟨z,h1,h3⟩,h4⟩,hb2⟩
  have m1:=cell_of_one h1
  have HO:Hid (OwnI w2 w.heap.size z S):=qh (by rw [← HWT.out]; exact h3.low (by omega))
  have HB:=qh hb2
  clear h1 h3 h4 hb2
  go_wp2
  go_ret
  exact ⟨z,rfl,HO.out,HB.out⟩
end
section
open Go.RowKit
open Go.Proofs.YtaficmboooaknaaGreatDoor.Sto (St)
end
namespace Tri
open Sto (T St Rising keys)
open Go.Proofs.YtaficmboooaknaaGreatDoor.Nd (N)
theorem pair_sub:∀ i j:Fin 16,i < j->[i,j].Sublist (List.finRange 16):=by decide +kernel
theorem one_sub:∀ i:Fin 16,[i].Sublist (List.finRange 16):=by decide +kernel
theorem spots_len (dg:N->T) {t:Tr} (h:t.canon) (hn:¬ t.isNil) (p:T):(t.spots dg p).length+2<=3 * t.items.length/\(t.isBr->(t.spots dg p).length+3<=3 * t.items.length):=by
  induction t generalizing p with
  | nil=>exact absurd trivial hn
  | leaf q v=>exact ⟨by simp [Tr.spots,Tr.items],fun h=>h.elim⟩
  | ext q t ih=>
    have n1:¬ t.isNil:=by have:=h.2.1; cases t <;> simp_all [Tr.isBr,Tr.isNil]
    have:=(ih h.2.2 n1 (p ++ q)).2 h.2.1
    refine ⟨?_,fun h=>h.elim⟩
    rw [Tr.spots,Tr.items,behind,List.length_map,List.length_cons]
    omega
  | br v k ih=>
    have all:∀ l:List (Fin 16),(l.flatMap fun i=>(k i).spots dg (p ++ [hb i])).length+2 * l.countP (fun i=>!(k i).nilB)<=3 * (l.flatMap fun i=>behind [hb i] (k i).items).length:=by
      intro l
      induction l with
      | nil=>simp
      | cons i l ihl=>
        rw [List.flatMap_cons,List.flatMap_cons,List.length_append,List.length_append,List.countP_cons]
        have hb1:(behind [hb i] (k i).items).length=(k i).items.length:=by rw [behind,List.length_map]
        by_cases e:(k i).isNil
        · have e2:=(nilB_iff _).2 e
          have e3:(k i).spots dg (p ++ [hb i])=[]:=by cases hk:k i with
            | nil=>rfl
            | _=>rw [hk] at e; exact e.elim
          rw [e3,e2]
          simp only [Bool.not_true,Bool.false_eq_true,if_false,List.length_nil]
          omega
        · have e2:(k i).nilB=false:=by cases hk:(k i).nilB with
            | false=>rfl
            | true=>exact absurd ((nilB_iff _).1 hk) e
          have:=(ih i (h.1 i) e (p ++ [hb i])).1
          rw [e2,hb1]
          simp only [Bool.not_false,if_true]
          omega
    have h1:=all (List.finRange 16)
    have h2:4<=3 * (own v).length+2 * (List.finRange 16).countP (fun i=>!(k i).nilB):=by
      have ne:∀ i,¬ (k i).isNil->(!(k i).nilB)=true:=fun i hi=>by
        cases hk:(k i).nilB with
        | false=>rfl
        | true=>exact absurd ((nilB_iff _).1 hk) hi
      rcases h.2 with ⟨i,j,hij,hi,hj⟩ | ⟨hv,i,hi⟩
      · have:=(pair_sub i j hij).countP_le (p:=fun i=>!(k i).nilB)
        simp only [List.countP_cons,ne i hi,ne j hj,if_true,List.countP_nil] at this
        omega
      · have:=(one_sub i).countP_le (p:=fun i=>!(k i).nilB)
        simp only [List.countP_cons,ne i hi,if_true,List.countP_nil] at this
        rw [own,if_neg hv,List.length_singleton]
        omega
    have h3:(Tr.spots dg p (.br v k)).length+3<=3 * (Tr.br v k).items.length:=by
      rw [Tr.spots,Tr.items,List.length_cons,List.length_append]
      omega
    exact ⟨by omega,fun _=>h3⟩
end Tri
section
open Go.RowKit
open Sto (T St)
open Tri (Tr Ok upd ix hb lay splitT Trim rank)
open Go.Proofs.YtaficmboooaknaaGreatDoor.Nd (N)
structure TrS (S:St) (t:Tr):Prop where
  tree:Tri.TreeOf S t
  rise:Sto.Rising S
  fair:∀ x ∈ S,1<=x.1.length/\x.1.length<=8/\1<=x.2.length/\x.2.length<=32
  few:S.length<=1024
theorem TrS.within {S:St} {t:Tr} (h:TrS S t):within t:=fun x hx=>by
  rw [h.tree.2.2] at hx
  obtain ⟨y,hy,rfl⟩:=List.mem_map.1 hx
  have:=(h.fair y hy).2.1
  rw [Nib.ofL_length]; omega
theorem TrS.ok {S:St} {t:Tr} (h:TrS S t):Ok t:=⟨h.tree.1,h.tree.2.1,Tri.small_of h.tree.1 fun x hx=>⟨h.within x hx,by
  rw [h.tree.2.2] at hx
  obtain ⟨y,hy,rfl⟩:=List.mem_map.1 hx
  exact (h.fair y hy).2.2.2⟩⟩
theorem TrS.trim {S:St} {t:Tr} (h:TrS S t):Trim t:=⟨Tri.canon_firm h.tree.1,h.tree.2.1,Tri.small_low h.ok.small⟩
theorem TrS.spots {S:St} {t:Tr} (h:TrS S t) (p:T):(t.spots Nd.sumS p).length<=100000:=by
  by_cases hn:t.isNil
  · rw [Tri.isNil_eq hn]; simp [Tri.Tr.spots]
  · have h1:=(Tri.spots_len Nd.sumS h.tree.1 hn p).1
    have h2:t.items.length=S.length:=by rw [h.tree.2.2]; simp [Tri.paths]
    have:=h.few
    omega
theorem TrS.sealed {S:St} {t:Tr} {w:World} {v:Value} (h:TrS S t) (hp:PAt w (Fm.from 0) true t v):Sealed w t v:=⟨hp,h.ok,h.within,h.spots⟩
theorem TrS.empty:TrS [] .nil:=⟨⟨trivial,trivial,rfl⟩,List.Pairwise.nil,fun x hx=>(by cases hx),by simp⟩
theorem TrS.find {S:St} {t:Tr} (h:TrS S t) (k:T):findT t (Nib.ofL k)=(Sto.look S k).getD []:=by
  unfold findT; rw [h.tree.get h.rise]
theorem TrS.look_ne {S:St} {t:Tr} (h:TrS S t) {k v:T} (hl:Sto.look S k=some v):v ≠ []:=fun e=>by
  have:=(h.fair _ ((Sto.look_mem h.rise k v).1 hl)).2.2.1
  rw [e] at this; simp at this
theorem TrS.put {S:St} {t:Tr} (h:TrS S t) {k v:T} (hk:Tri.putC S k v=0):TrS (Tri.put S k v) (t.put (Nib.ofL k) v):=by
  unfold Tri.putC at hk
  split at hk
  · rename_i hkk
    split at hk
    · rename_i hv
      obtain ⟨v1,v2,v3⟩:=hv
      have hkk2:1<=k.length/\k.length<=8:=by simpa [Tri.keyed] using hkk
      refine ⟨h.tree.put (fun e=>by subst e; simp at v1),Tri.put_rising h.rise _ _,fun x hx=>?_,?_⟩
      · rcases Tri.put_mem hx with hx | rfl
        · exact h.fair x hx
        · exact ⟨hkk2.1,hkk2.2,v1,v2⟩
      · have hf:=h.few
        rw [Tri.put_eq]
        have hp:=Tri.pos_le S k
        rcases v3 with v3 | v3
        · rw [if_pos v3]
          have hp2:Tri.pos S k < S.length:=(Tri.look_pos h.rise k v3).1
          simp; omega
        · simp; omega
    · cases hk
  · cases hk
def TRow (w:World) (g:Nat) (top:Value) (n:Nat):Prop:=w.heap[g]?=some (.cells #[top,.int .i64 n] 84 (0,0))
theorem TRow.below {w w':World} {g n:Nat} {top:Value} (h:TRow w g top n) (hb:Below w.heap.size w w'):TRow w' g top n:=(hb.block g (lt_of_heap h)).trans h
theorem TRow.top {w:World} {g n:Nat} {top:Value} (h:TRow w g top n):w.cell? ⟨g,0,none⟩=some top:=by rw [cell_of_row _ _ _ _ _ _ h]; rfl
theorem TRow.num {w:World} {g n:Nat} {top:Value} (h:TRow w g top n):w.cell? ⟨g,1,none⟩=some (.int .i64 n):=by rw [cell_of_row _ _ _ _ _ _ h]; rfl
def OpenAt (w:World) (F:Fm) (g:Nat) (S:St):Prop:=∃ top t,TRow w g top S.length/\PAt w F false t top/\TrS S t
def TrAt (w:World) (g:Nat) (S:St):Prop:=∃ top t,TRow w g top S.length/\PAt w (Fm.from 0) true t top/\TrS S t
theorem TrAt.below {w w':World} {g:Nat} {S:St} (h:TrAt w g S) (hb:Below w.heap.size w w'):TrAt w' g S:=by
  obtain ⟨top,t,h1,h2,h3⟩:=h
  exact ⟨top,t,h1.below hb,h2.below hb,h3⟩
theorem TrAt.open {w:World} {g:Nat} {S:St} (h:TrAt w g S) (B:Nat):OpenAt w (Fm.from B) g S:=by
  obtain ⟨top,t,h1,h2,h3⟩:=h
  exact ⟨top,t,h1,h2.sealed (fun _ _ e=>by cases e) false,h3⟩
theorem OpenAt.below {w w':World} {F:Fm} {g:Nat} {S:St} (h:OpenAt w F g S) (hb:Below w.heap.size w w'):OpenAt w' F g S:=by
  obtain ⟨top,t,h1,h2,h3⟩:=h
  exact ⟨top,t,h1.below hb,h2.below hb,h3⟩
theorem TrAt.rise {w:World} {g:Nat} {S:St} (h:TrAt w g S):Sto.Rising S:=by
  obtain ⟨_,_,_,_,h3⟩:=h; exact h3.rise
theorem TrAt.few {w:World} {g:Nat} {S:St} (h:TrAt w g S):S.length<=1024:=by
  obtain ⟨_,_,_,_,h3⟩:=h; exact h3.few
theorem tnew_any (w:World):Calls Tryz.prog 32 #[] w fun e w'=>∃ g,e=.returned (ptr g)/\TrAt w' g []/\w.heap.size<=g/\Below w.heap.size w w':=by
  go_enter Tryz.func32,Tryz.ntmps32
  go_wp2
  go_ret
  exact ⟨w.heap.size,rfl,⟨nilp,.nil,heap_alloc_new w _,PAt.nil _ _ _,TrS.empty⟩,Nat.le_refl _,(Below.refl _ w).alloc (Nat.le_refl _) _⟩
theorem iskey_any (x:T) (w:World):
    Calls Tryz.prog 97 #[.string ⟨x.toArray⟩] w fun e w'=>e=.returned (.bool (Tri.keyed x))/\w=w':=by
  by_cases h0:x=[]
  · subst h0
    go_enter Tryz.func97,Tryz.ntmps97
    go_wp2
    go_ret
    exact ⟨rfl,rfl⟩
  · have h1:(x == [])=false:=by rw [beq_eq_false_iff_ne]; exact h0
    have h2:1<=x.length:=List.length_pos_iff.2 h0
    by_cases h8:x.length<=8
    · have h3:(x.length:Int)<=8:=by omega
      have e:Tri.keyed x=true:=by simp [Tri.keyed,h2,h8]
      rw [e]
      clear e h2 h8 h0
      go_enter Tryz.func97,Tryz.ntmps97
      go_wp2
      go_ret
      exact ⟨rfl,rfl⟩
    · have h3:¬ ((x.length:Int)<=8):=by omega
      have e:Tri.keyed x=false:=by simp [Tri.keyed]; omega
      rw [e]
      clear e h2 h8 h0
      go_enter Tryz.func97,Tryz.ntmps97
      go_wp2
      go_ret
      exact ⟨rfl,rfl⟩
end
end Go.Proofs.YtaficmboooaknaaGreatDoor
