import Derived.Test.YtaficmboooaknaaGreatDoorPt14
set_option maxRecDepth 100000
set_option maxHeartbeats 16000000
namespace Go.Proofs.YtaficmboooaknaaGreatDoor
section
open Go.RowKit
open Sto (T)
open Tri (Tr Ok upd ix hb lay splitT Trim rank)
def within (t:Tr):Prop:=∀ x∈t.items,x.1.length<=16
theorem within_ext {q:T} {u:Tr} (h:within (.ext q u)):within u:=fun x hx=>by
  have:=h (q++x.1,x.2) (Tri.mem_behind.2 ⟨x.1,hx,rfl⟩)
  simp at this; omega
theorem within_br {y:T} {k:Fin 16->Tr} (h:within (.br y k)) (i:Fin 16):within (k i):=fun x hx=>by
  have:=h (hb i::x.1,x.2) (Tri.mem_br.2 (Or.inr ⟨i,x.1,rfl,hx⟩))
  simp at this; omega
theorem low_of {t:Tr} (h:t.canon) (hs:within t):t.low:=by
  induction t with
  | nil=>trivial
  | leaf p v=>exact hs (p,v) (List.mem_singleton.2 rfl)
  | ext p t ih=>
    have ht:¬ t.isNil:=by have:=h.2.1; cases t <;> simp_all [Tri.Tr.isBr,Tri.Tr.isNil]
    have hne:t.items≠[]:=fun e=>ht ((Tri.items_nil h.2.2).1 e)
    obtain ⟨a,l,e⟩:=List.exists_cons_of_ne_nil hne
    refine ⟨?_,ih h.2.2 (within_ext hs)⟩
    have:=hs (p++a.1,a.2) (Tri.mem_behind.2 ⟨a.1,by rw [e]; exact List.mem_cons_self ..,rfl⟩)
    simp at this; omega
  | br v k ih=>exact fun i=>ih i (h.1 i) (within_br hs i)
theorem del_within {t:Tr} {p:T} (hc:t.canon) (hf:t.fits) (hp:Nib.fitL p=true) (hg:t.get p≠none) (h:within t):within (t.del p):=fun x hx=>by
  rw [Tri.del_items hc hf hp hg] at hx
  exact h x (Tri.del_mem hx)
def WithoutTo (t:Tr):Prop:=∀ (v:Value) (p:T) (w:World) (F:Fm),F.fresh w->PAt w F false t v->t.canon->t.fits->within t->Nib.fitL p=true->p.length<=16->t.get p≠none->
  Calls Tryz.prog 182 #[v,.string ⟨p.toArray⟩] w (MadeT w F (t.del p))
theorem without_leaf (q x p:T) {v:Value} (w:World) (F:Fm) (h:PAt w F false (.leaf q x) v):
    Calls Tryz.prog 182 #[v,.string ⟨p.toArray⟩] w (MadeT w F .nil):=by
  obtain ⟨g,s',K,rfl,-,-,hr,hk⟩:=h.row id
  have n0:w.cell? ⟨g,0,none⟩=some (.int .i64 1):=hr.kind
  unfold MadeT ptr
  clear h hr hk
  go_enter Tryz.func182,Tryz.ntmps182
  go_wp2
  go_ret
  exact ⟨_,rfl,rfl,Below.refl _ _⟩
theorem without_ext {u:Tr} (IH:WithoutTo u) {q:T} {v:Value} (p:T) (w:World) (F:Fm) (hF:F.fresh w) (h:PAt w F false (.ext q u) v) (hc:(Tr.ext q u).canon) (hf:(Tr.ext q u).fits) (hlo:within (.ext q u)) (hp:Nib.fitL p=true) (hl:p.length<=16) (hg:(Tr.ext q u).get p≠none):
    Calls Tryz.prog 182 #[v,.string ⟨p.toArray⟩] w (MadeT w F (lay q (u.del (p.drop q.length)))):=by
  obtain ⟨g,s',K,rfl,-,-,hr,hk⟩:=h.row id
  have hk0:PAt w F s' u (K 0):=by have:=hk 0; simpa [Tri.Tr.kid] using this
  have hq:p.take q.length=q/\u.get (p.drop q.length)≠none:=by
    simp only [Tri.Tr.get] at hg
    split at hg
    · rename_i e; exact ⟨e,hg⟩
    · exact absurd rfl hg
  have hql:q.length<=p.length:=by have:=congrArg List.length hq.1; simp at this; omega
  obtain ⟨g1,g2,g3,g4⟩:=Tri.del_good hc.2.2 hf.2 (Tri.fit_drop q.length hp) hq.2
  have hdl:(u.del (p.drop q.length)).low:=low_of g1 (del_within hc.2.2 hf.2 (Tri.fit_drop q.length hp) hq.2 (within_ext hlo))
  have HI:Hid (∀ w',Below w.heap.size w w'->Calls Tryz.prog 182 #[K 0,.string ⟨(p.drop q.length).toArray⟩] w' (MadeT w' F (u.del (p.drop q.length)))):=qh (fun w' hb=>
    IH (K 0) _ w' F (hF.size hb.size) (hk0.weak.below hb) hc.2.2 hf.2 (within_ext hlo) (Tri.fit_drop _ hp) (by simp; omega) hq.2)
  have HBH:Hid (∀ w' v6,Below w.heap.size w w'->PAt w' F false (u.del (p.drop q.length)) v6->Calls Tryz.prog 140 #[v6,.string ⟨q.toArray⟩] w' (MadeT w' F (lay q (u.del (p.drop q.length))))):=qh (fun w' v6 hb hp6=>
    behind_any q w' F (hF.size hb.size) hp6 (Or.inr (g3 hc.2.1)) (by omega) (by
      cases hd:u.del (p.drop q.length) <;> simp_all [Tri.Tr.low,Tri.Tr.pth] <;> omega))
  have HG:Hid (∀ w',Below w.heap.size w w'->w'.cell? ⟨g,0,none⟩=some (.int .i64 2)/\w'.cell? ⟨g,1,none⟩=some (.string ⟨q.toArray⟩)/\w'.cell? ⟨g,3,none⟩=some (K 0)):=qh (fun w' hb=>by
    have k1:=hr.below hb
    exact ⟨k1.kind,k1.path,k1.kid 0⟩)
  have htail:=cut_drop p q.length
  have z0:(0:Int)<=(q.length:Int):=by omega
  have z1:(q.length:Int)<=(p.length:Int):=by omega
  obtain ⟨vk,hvk⟩:∃ vk,K 0=vk:=⟨_,rfl⟩
  obtain ⟨P1,hP1⟩:∃ P1,p.drop q.length=P1:=⟨_,rfl⟩
  obtain ⟨ud,hud⟩:∃ ud,u.del (p.drop q.length)=ud:=⟨_,rfl⟩
  rw [hvk] at HI HG
  rw [hud] at HI HBH ⊢
  rw [hP1] at HI htail
  obtain ⟨c0,c1,c2⟩:=HG.out _ (Below.refl _ _)
  unfold MadeT at HI HBH ⊢
  unfold ptr
  clear h hr hk hk0 hq hql g1 g2 g3 g4 hdl hc hf hlo hp hl hg IH hvk hP1 hud c1 c2
  go_enter Tryz.func182,Tryz.ntmps182
  go_upto_region 5 with fail
  have BD:Below w.heap.size w w.drew:=(Below.refl _ _).drew
  obtain ⟨-,d1,d2⟩:=HG.out _ BD
  go_region_held3 (fun w'=>w'.cell? ⟨g,1,none⟩=some (.string ⟨q.toArray⟩)/\w'.cell? ⟨g,3,none⟩=some vk)
    ((first | (with_reducible exact ⟨d1,d2⟩) | (refine (HG.out _ ?_).2; with_reducible assumption)))
    (first | (go_at_call 182; refine (HI.out _ ?_).mono ?_; (with_reducible exact BD); rintro e w6 ⟨v6,rfl,hp6,hb6⟩; have hb6':=bchain BD hb6) | (go_at_call 140; refine (HBH.out _ v6 ?_ ?_).mono ?_; (with_reducible exact hb6'); (with_reducible exact hp6); rintro e w7 ⟨v7,rfl,hp7,hb7⟩; have hb7':=bchain hb6' hb7))
  all_goals
    go_wp2
    go_ret
    exact ⟨v7,rfl,hp7,hb7'⟩
theorem without_here {y:T} {k:Fin 16->Tr} {v:Value} (w:World) (F:Fm) (hF:F.fresh w) (h:PAt w F false (.br y k) v) (hlo:∀ i,(k i).low):
    Calls Tryz.prog 182 #[v,.string ⟨#[]⟩] w (MadeT w F (Tri.narrowT [] k)):=by
  obtain ⟨g,s',K,rfl,-,-,hr,hk⟩:=h.row id
  have HO:=qh (open_any w hr (fun i=>(hk i).oneCell))
  have n0:w.cell? ⟨g,0,none⟩=some (.int .i64 3):=hr.kind
  have HK:=qh hk
  have HLO:=qh hlo
  unfold MadeT
  unfold ptr at HO ⊢
  clear h hr hk
  go_enter Tryz.func182,Tryz.ntmps182
  go_wp2_with fail
  refine HO.out.mono ?_
  rintro e w1 ⟨rfl,hr1,hb1⟩
  have m2:=hr1.val
  have f2:=hr1.free 2
  have HR1:=qh hr1
  have HB:=qh hb1
  clear hr1 hb1
  go_wp2_with fail
  have hb2:=HB.out.setCell (p:=⟨w.heap.size,2,none⟩) (Nat.le_refl _) (.string ⟨#[]⟩)
  have hq2:PAt (w1.setCell ⟨w.heap.size,2,none⟩ (.string ⟨#[]⟩)) F false (.br [] k) (ptr w.heap.size):=PAt.new (K:=K) id (hF _ (Nat.le_refl _)) (HR1.out.setVal []) (fun i=>((HK.out i).weak).below hb2)
  have HN:=qh (narrow_any _ F (hF.size hb2.size) hq2 HLO.out)
  unfold MadeT ptr at HN
  refine HN.out.mono ?_
  rintro e w3 ⟨v3,rfl,hp3,hb3⟩
  go_wp2
  go_ret
  exact ⟨v3,rfl,hp3,bchain hb2 hb3⟩
theorem without_below1 {y:T} {k:Fin 16->Tr} {v:Value} (b:UInt8) (IH:WithoutTo (k (ix b))) (p:T) (w:World) (F:Fm) (hF:F.fresh w) (h:PAt w F false (.br y k) v) (hc:(Tr.br y k).canon) (hft:(Tr.br y k).fits) (hlo:within (.br y k)) (hf:Nib.fitL (b::p)=true) (hl:(b::p).length<=16) (hg:(Tr.br y k).get (b::p)≠none) (hnl:¬ ((k (ix b)).del p).isNil):
    Calls Tryz.prog 182 #[v,.string ⟨(b::p).toArray⟩] w (MadeT w F (Tri.narrowT y (upd k (ix b) ((k (ix b)).del p)))):=by
  obtain ⟨g,s',K,rfl,-,-,hr,hk⟩:=h.row id
  have HO:=qh (open_any w hr (fun i=>(hk i).oneCell))
  have n0:w.cell? ⟨g,0,none⟩=some (.int .i64 3):=hr.kind
  have HK:Hid (∀ i,PAt w F s' (k i) (K i)):=qh hk
  have HR:=qh hr
  obtain ⟨hb1,hfp⟩:=Tri.fit_cons.1 hf
  have hix:=ix_val hb1
  have hpl:p.length<=16:=by simp at hl; omega
  have hgk:(k (ix b)).get p≠none:=by simpa only [Tri.Tr.get,if_pos hb1] using hg
  obtain ⟨ud,hud⟩:∃ ud,(k (ix b)).del p=ud:=⟨_,rfl⟩
  have hlu:∀ i,(upd k (ix b) ud i).low:=fun i=>by
    unfold upd
    split
    · rw [← hud]
      exact low_of (Tri.del_good (hc.1 _) (hft _) hfp hgk).1 (del_within (hc.1 _) (hft _) hfp hgk (within_br hlo _))
    · exact low_of (hc.1 i) (within_br hlo i)
  have HLU:=qh hlu
  have HI:Hid (∀ w',Below w.heap.size w w'->w.heap.size<w'.heap.size->Calls Tryz.prog 182 #[K (ix b),.string ⟨p.toArray⟩] w' fun e w''=>∃ g6,e=.returned (.pointer (some ⟨g6,0,none⟩))/\PAt w'' (F.off w.heap.size) false ud (.pointer (some ⟨g6,0,none⟩))/\Below w'.heap.size w' w''):=qh (fun w' hb hs=>
    (IH (K (ix b)) p w' _ ((hF.size hb.size).off hs) (((hk (ix b)).weak.new_off (Nat.le_refl _)).below hb) (hc.1 _) (hft _) (within_br hlo _) hfp hpl hgk).mono fun e w'' ⟨v6,e6,hp6,hb6⟩=>by
      rw [hud] at hp6
      obtain ⟨g6,rfl⟩:=hp6.ptr (by rw [← hud]; exact hnl)
      exact ⟨g6,e6,hp6,hb6⟩)
  have hbyte:∀ hh,(⟨(b::p).toArray⟩:ByteArray)[0]'hh=b:=byte_drop rfl
  have htail:(⟨(b::p).toArray⟩:ByteArray).extract 1 (b::p).length=⟨p.toArray⟩:=tail_drop (n:=0) rfl
  have hne:((b::p:List UInt8) == [])=false:=rfl
  have z0:(0:Int)<((b::p).length:Int):=by rw [List.length_cons]; omega
  have z1:(1:Int)<=((b::p).length:Int):=by rw [List.length_cons]; omega
  have z6:(0:Int)<=(b.toNat:Int):=by omega
  have z7:(b.toNat:Int)<16:=by omega
  have HIX:=qh hix
  obtain ⟨vk,hvk⟩:∃ vk,K (ix b)=vk:=⟨_,rfl⟩
  rw [hvk] at HI
  have HVK:=qh hvk
  obtain ⟨P,hP⟩:∃ P,b::p=P:=⟨_,rfl⟩
  rw [hP] at hbyte htail hne z0 z1 ⊢
  rw [hud]
  unfold MadeT
  unfold ptr at HO ⊢
  clear h hr hk hc hft hlo hg hf hl hb1 hfp hix hpl IH hvk hP hgk hlu hud hnl
  go_enter Tryz.func182,Tryz.ntmps182
  go_wp2_with fail
  refine HO.out.mono ?_
  rintro e w1 ⟨rfl,hr1,hb1⟩
  obtain ⟨q,hq⟩:∃ q,w.heap.size=q:=⟨_,rfl⟩
  have HSZ:Hid (q<w1.heap.size):=qh (by rw [← hq]; exact lt_of_heap hr1)
  have HGQ:Hid (g<q):=qh (by rw [← hq]; exact lt_of_heap HR.out)
  have HR1:=qh hr1
  have HB1:=qh hb1
  rw [hq] at HR1 HB1 HI ⊢
  have HQ:=qh hq
  have HN1:Hid (∀ w',Below w1.heap.size w1 w'->w'.cell? ⟨g,3+b.toNat,none⟩=some vk/\w'.cell? ⟨q,3+b.toNat,none⟩=some vk/\w'.frozen? ⟨q,3+b.toNat,none⟩=false):=qh (fun w' hb=>by
    have k1:=(HR.out.below (by rw [HQ.out]; exact HB1.out)).below hb
    have k2:=HR1.out.below hb
    have e1:=k1.kid (ix b)
    have e2:=k2.kid (ix b)
    rw [HIX.out,HVK.out] at e1 e2
    exact ⟨e1,e2,k2.free _⟩)
  have HK1:Hid (∀ w' v,Below w1.heap.size w1 w'->(w'.setCell ⟨q,3+b.toNat,none⟩ v).cell? ⟨g,3+b.toNat,none⟩=some vk):=qh (fun w' v hb=>keep_cell (HN1.out w' hb).1 (Nat.ne_of_lt HGQ.out))
  have HI2:Hid (∀ w',Below w1.heap.size w1 w'->Calls Tryz.prog 182 #[vk,.string ⟨p.toArray⟩] w' fun e w''=>∃ g6,e=.returned (.pointer (some ⟨g6,0,none⟩))/\PAt w'' (F.off q) false ud (.pointer (some ⟨g6,0,none⟩))/\Below w1.heap.size w1 w''):=qh (fun w' hb=>(HI.out w' (HB1.out.trans (hb.mono (Nat.le_of_lt HSZ.out))) (Nat.lt_of_lt_of_le HSZ.out hb.size)).mono fun e w'' ⟨g6,e6,hp6,hb6⟩=>⟨g6,e6,hp6,hb.trans (hb6.mono hb.size)⟩)
  have HEND:Hid (∀ w6 v6,Below w1.heap.size w1 w6->PAt w6 (F.off q) false ud v6->Below w.heap.size w (w6.setCell ⟨q,3+b.toNat,none⟩ v6)/\PAt (w6.setCell ⟨q,3+b.toNat,none⟩ v6) F false (.br y (upd k (ix b) ud)) (ptr q)):=qh (fun w6 v6 hb6 hp6=>by
    have hbq:Below w.heap.size w w6:=by rw [HQ.out]; exact HB1.out.trans (hb6.mono (Nat.le_of_lt HSZ.out))
    refine ⟨by rw [← HQ.out]; exact hbq.setCell (p:=⟨w.heap.size,_,none⟩) (Nat.le_refl _) _,PAt.new (K:=updK K (ix b) v6) id (hF _ (Nat.le_of_eq HQ.out)) ?_ (fun i=>?_)⟩
    · have:=(HR1.out.below hb6).setKid (ix b) v6
      rw [HIX.out] at this
      exact this
    · simp only [Tri.Tr.kid,updK,Tri.upd]
      split
      · exact hp6.off _ _
      · exact (((HK.out i).weak.new_off (Nat.le_of_eq HQ.out)).below hbq).off _ _)
  clear hr1 hb1 hq HI
  go_upto_region 9 with fail
  have BD:Below w1.heap.size w1 w1.drew:=(Below.refl _ _).drew
  obtain ⟨c1,c2,c3⟩:=HN1.out _ BD
  go_region_held3 (fun w'=>w'.cell? ⟨g,3+b.toNat,none⟩=some vk)
    ((first | (with_reducible exact c1) | (with_reducible exact d1) | (refine HK1.out _ _ ?_; with_reducible assumption)))
    ((go_at_call 182; refine (HI2.out _ ?_).mono ?_; (with_reducible assumption); rintro e w6 ⟨g6,rfl,hp6,hb6⟩; obtain ⟨d1,d2,d3⟩:=HN1.out _ hb6))
  all_goals
    obtain ⟨hbe,hpe⟩:=HEND.out _ _ hb6 hp6
    have HN:=qh (narrow_any _ F (hF.size hbe.size) hpe HLU.out)
    unfold MadeT ptr at HN
    go_wp2_with fail
    refine HN.out.mono ?_
    rintro e w8 ⟨v8,rfl,hp8,hb8⟩
    go_wp2
    go_ret
    exact ⟨v8,rfl,hp8,bchain hbe hb8⟩
theorem without_below0 {y:T} {k:Fin 16->Tr} {v:Value} (b:UInt8) (IH:WithoutTo (k (ix b))) (p:T) (w:World) (F:Fm) (hF:F.fresh w) (h:PAt w F false (.br y k) v) (hc:(Tr.br y k).canon) (hft:(Tr.br y k).fits) (hlo:within (.br y k)) (hf:Nib.fitL (b::p)=true) (hl:(b::p).length<=16) (hg:(Tr.br y k).get (b::p)≠none) (hnl:((k (ix b)).del p).isNil):
    Calls Tryz.prog 182 #[v,.string ⟨(b::p).toArray⟩] w (MadeT w F (Tri.narrowT y (upd k (ix b) ((k (ix b)).del p)))):=by
  obtain ⟨g,s',K,rfl,-,-,hr,hk⟩:=h.row id
  have HO:=qh (open_any w hr (fun i=>(hk i).oneCell))
  have n0:w.cell? ⟨g,0,none⟩=some (.int .i64 3):=hr.kind
  have HK:Hid (∀ i,PAt w F s' (k i) (K i)):=qh hk
  have HR:=qh hr
  obtain ⟨hb1,hfp⟩:=Tri.fit_cons.1 hf
  have hix:=ix_val hb1
  have hpl:p.length<=16:=by simp at hl; omega
  have hgk:(k (ix b)).get p≠none:=by simpa only [Tri.Tr.get,if_pos hb1] using hg
  obtain ⟨ud,hud⟩:∃ ud,(k (ix b)).del p=ud:=⟨_,rfl⟩
  have hlu:∀ i,(upd k (ix b) ud i).low:=fun i=>by
    unfold upd
    split
    · rw [← hud]
      exact low_of (Tri.del_good (hc.1 _) (hft _) hfp hgk).1 (del_within (hc.1 _) (hft _) hfp hgk (within_br hlo _))
    · exact low_of (hc.1 i) (within_br hlo i)
  have HLU:=qh hlu
  have HI:Hid (∀ w',Below w.heap.size w w'->w.heap.size<w'.heap.size->Calls Tryz.prog 182 #[K (ix b),.string ⟨p.toArray⟩] w' fun e w''=>e=.returned (.pointer none)/\PAt w'' (F.off w.heap.size) false ud (.pointer none)/\Below w'.heap.size w' w''):=qh (fun w' hb hs=>
    (IH (K (ix b)) p w' _ ((hF.size hb.size).off hs) (((hk (ix b)).weak.new_off (Nat.le_refl _)).below hb) (hc.1 _) (hft _) (within_br hlo _) hfp hpl hgk).mono fun e w'' ⟨v6,e6,hp6,hb6⟩=>by
      rw [hud] at hp6
      have hv6:v6=.pointer none:=by rw [hud] at hnl; rw [Tri.isNil_eq hnl] at hp6; exact hp6
      subst hv6
      exact ⟨e6,hp6,hb6⟩)
  have hbyte:∀ hh,(⟨(b::p).toArray⟩:ByteArray)[0]'hh=b:=byte_drop rfl
  have htail:(⟨(b::p).toArray⟩:ByteArray).extract 1 (b::p).length=⟨p.toArray⟩:=tail_drop (n:=0) rfl
  have hne:((b::p:List UInt8) == [])=false:=rfl
  have z0:(0:Int)<((b::p).length:Int):=by rw [List.length_cons]; omega
  have z1:(1:Int)<=((b::p).length:Int):=by rw [List.length_cons]; omega
  have z6:(0:Int)<=(b.toNat:Int):=by omega
  have z7:(b.toNat:Int)<16:=by omega
  have HIX:=qh hix
  obtain ⟨vk,hvk⟩:∃ vk,K (ix b)=vk:=⟨_,rfl⟩
  rw [hvk] at HI
  have HVK:=qh hvk
  obtain ⟨P,hP⟩:∃ P,b::p=P:=⟨_,rfl⟩
  rw [hP] at hbyte htail hne z0 z1 ⊢
  rw [hud]
  unfold MadeT
  unfold ptr at HO ⊢
  clear h hr hk hc hft hlo hg hf hl hb1 hfp hix hpl IH hvk hP hgk hlu hud hnl
  go_enter Tryz.func182,Tryz.ntmps182
  go_wp2_with fail
  refine HO.out.mono ?_
  rintro e w1 ⟨rfl,hr1,hb1⟩
  obtain ⟨q,hq⟩:∃ q,w.heap.size=q:=⟨_,rfl⟩
  have HSZ:Hid (q<w1.heap.size):=qh (by rw [← hq]; exact lt_of_heap hr1)
  have HGQ:Hid (g<q):=qh (by rw [← hq]; exact lt_of_heap HR.out)
  have HR1:=qh hr1
  have HB1:=qh hb1
  rw [hq] at HR1 HB1 HI ⊢
  have HQ:=qh hq
  have HN1:Hid (∀ w',Below w1.heap.size w1 w'->w'.cell? ⟨g,3+b.toNat,none⟩=some vk/\w'.cell? ⟨q,3+b.toNat,none⟩=some vk/\w'.frozen? ⟨q,3+b.toNat,none⟩=false):=qh (fun w' hb=>by
    have k1:=(HR.out.below (by rw [HQ.out]; exact HB1.out)).below hb
    have k2:=HR1.out.below hb
    have e1:=k1.kid (ix b)
    have e2:=k2.kid (ix b)
    rw [HIX.out,HVK.out] at e1 e2
    exact ⟨e1,e2,k2.free _⟩)
  have HK1:Hid (∀ w' v,Below w1.heap.size w1 w'->(w'.setCell ⟨q,3+b.toNat,none⟩ v).cell? ⟨g,3+b.toNat,none⟩=some vk):=qh (fun w' v hb=>keep_cell (HN1.out w' hb).1 (Nat.ne_of_lt HGQ.out))
  have HI2:Hid (∀ w',Below w1.heap.size w1 w'->Calls Tryz.prog 182 #[vk,.string ⟨p.toArray⟩] w' fun e w''=>e=.returned (.pointer none)/\PAt w'' (F.off q) false ud (.pointer none)/\Below w1.heap.size w1 w''):=qh (fun w' hb=>(HI.out w' (HB1.out.trans (hb.mono (Nat.le_of_lt HSZ.out))) (Nat.lt_of_lt_of_le HSZ.out hb.size)).mono fun e w'' ⟨e6,hp6,hb6⟩=>⟨e6,hp6,hb.trans (hb6.mono hb.size)⟩)
  have HEND:Hid (∀ w6 v6,Below w1.heap.size w1 w6->PAt w6 (F.off q) false ud v6->Below w.heap.size w (w6.setCell ⟨q,3+b.toNat,none⟩ v6)/\PAt (w6.setCell ⟨q,3+b.toNat,none⟩ v6) F false (.br y (upd k (ix b) ud)) (ptr q)):=qh (fun w6 v6 hb6 hp6=>by
    have hbq:Below w.heap.size w w6:=by rw [HQ.out]; exact HB1.out.trans (hb6.mono (Nat.le_of_lt HSZ.out))
    refine ⟨by rw [← HQ.out]; exact hbq.setCell (p:=⟨w.heap.size,_,none⟩) (Nat.le_refl _) _,PAt.new (K:=updK K (ix b) v6) id (hF _ (Nat.le_of_eq HQ.out)) ?_ (fun i=>?_)⟩
    · have:=(HR1.out.below hb6).setKid (ix b) v6
      rw [HIX.out] at this
      exact this
    · simp only [Tri.Tr.kid,updK,Tri.upd]
      split
      · exact hp6.off _ _
      · exact (((HK.out i).weak.new_off (Nat.le_of_eq HQ.out)).below hbq).off _ _)
  clear hr1 hb1 hq HI
  go_upto_region 9 with fail
  have BD:Below w1.heap.size w1 w1.drew:=(Below.refl _ _).drew
  obtain ⟨c1,c2,c3⟩:=HN1.out _ BD
  go_region_held3 (fun w'=>w'.cell? ⟨g,3+b.toNat,none⟩=some vk)
    ((first | (with_reducible exact c1) | (with_reducible exact d1) | (refine HK1.out _ _ ?_; with_reducible assumption)))
    ((go_at_call 182; refine (HI2.out _ ?_).mono ?_; (with_reducible assumption); rintro e w6 ⟨rfl,hp6,hb6⟩; obtain ⟨d1,d2,d3⟩:=HN1.out _ hb6))
  all_goals
    obtain ⟨hbe,hpe⟩:=HEND.out _ _ hb6 hp6
    have HN:=qh (narrow_any _ F (hF.size hbe.size) hpe HLU.out)
    unfold MadeT ptr at HN
    go_wp2_with fail
    refine HN.out.mono ?_
    rintro e w8 ⟨v8,rfl,hp8,hb8⟩
    go_wp2
    go_ret
    exact ⟨v8,rfl,hp8,bchain hbe hb8⟩
theorem without_to (t:Tr):WithoutTo t:=by
  induction t with
  | nil=>exact fun v p w F _ _ _ _ _ _ _ hg=>absurd rfl hg
  | leaf q x=>exact fun v p w F _ h _ _ _ _ _ _=>without_leaf q x p w F h
  | ext q u ih=>exact fun v p w F hF h hc hf hlo hp hl hg=>without_ext ih p w F hF h hc hf hlo hp hl hg
  | br y k ih=>
    intro v p w F hF h hc hf hlo hp hl hg
    cases p with
    | nil=>exact without_here w F hF h (fun i=>low_of (hc.1 i) (within_br hlo i))
    | cons b p=>
      by_cases hnl:((k (ix b)).del p).isNil
      · exact without_below0 b (ih _) p w F hF h hc hf hlo hp hl hg hnl
      · exact without_below1 b (ih _) p w F hF h hc hf hlo hp hl hg hnl
end
section
open Go.RowKit
open Sto (T)
open Tri (Tr Ok upd ix hb lay splitT Trim rank)
open Nd (N)
structure Sealed (w:World) (t:Tr) (v:Value):Prop where
  at_:PAt w (Fm.from 0) true t v
  ok:Ok t
  within:within t
  few:∀ p,(t.spots Nd.sumS p).length<=100000
theorem Sealed.below {w w':World} {t:Tr} {v:Value} (h:Sealed w t v) (hb:Below w.heap.size w w'):Sealed w' t v:=⟨h.at_.below hb,h.ok,h.within,h.few⟩
theorem visits_le (want:T->Bool) (t:Tr) (p:T):(t.visits want p).length<=(t.spots Nd.sumS p).length:=by
  induction t generalizing p with
  | nil=>exact Nat.le_refl _
  | leaf q v=>exact Nat.le_refl _
  | ext q t ih=>
    rw [Tri.Tr.visits,Tri.Tr.spots,List.length_cons,List.length_cons]
    split
    · exact Nat.succ_le_succ (ih _)
    · simp
  | br v k ih=>
    rw [Tri.Tr.visits,Tri.Tr.spots,List.length_cons,List.length_cons]
    split
    · refine Nat.succ_le_succ ?_
      have:∀ l:List (Fin 16),(l.flatMap fun i=>(k i).visits want (p++[hb i])).length<=(l.flatMap fun i=>(k i).spots Nd.sumS (p++[hb i])).length:=fun l=>by
        induction l with
        | nil=>exact Nat.le_refl _
        | cons i l ihl=>
          rw [List.flatMap_cons,List.flatMap_cons,List.length_append,List.length_append]
          exact Nat.add_le_add (ih i _) ihl
      exact this _
    · simp
theorem texts_visits {w:World} {id:Nat} {wc:Array Value} {want:T->Bool} (hW:Wants w id wc want):
    Visits w (Fm.from 0) 86 #[.pointer (some ⟨w.heap.size,0,none⟩),.pointer (some ⟨w.heap.size+1,0,none⟩)] want (fun w' L=>TextsI (w.heap.size+2) (w.heap.size+1) w.heap.size (.func (.func id) #[] wc) want w' L/\w.heap.size+2<=w'.heap.size) where
  call:=fun _ _=>rfl
  keep:=fun w' w'' L ⟨⟨z,h1,h2,h3⟩,h4⟩ hb=>⟨⟨z,(hb.block _ (lt_of_heap h1)).trans h1,(hb.block _ (lt_of_heap h2)).trans h2,h3.below hb⟩,Nat.le_trans h4 hb.size⟩
  step:=fun w' L p t v hlen hb hI h hn ho hf hl=>by
    have:=texts_step hW (F:=Fm.from 0) (w.heap.size+2) (w.heap.size+1) w.heap.size ⟨by omega,by omega,by omega⟩ (by omega) w' L p t v hlen hb hI.2 hI.1 h hn ho hf (by
      have:=pth_len ho hn hl; omega)
    refine this.mono fun e w'' ⟨h1,h2,h3⟩=>⟨h1,⟨h2,?_⟩,h3⟩
    obtain ⟨z,q1,_⟩:=h2
    have:=lt_of_heap q1
    omega
def TextsPost (w:World) (L:List T) (e:Ending) (w':World):Prop:=∃ z,e=.returned z/\Own w' w.heap.size z L/\Below w.heap.size w w'
theorem texts_any {g:Nat} {t:Tr} {top n:Value} {id:Nat} {wc:Array Value} {want:T->Bool} (w:World) (hg:w.heap[g]?=some (.cells #[top,n] 84 (0,0))) (hs:Sealed w t top) (hW:Wants w id wc want) (hd:Down want):
    Calls Tryz.prog 51 #[ptr g,.func (.func id) #[] wc] w (TextsPost w (wantedT want t)):=by
  unfold TextsPost
  have hmf:∀ (fn:Fn) (first cap:Array Value) (w:World),(Instr.makeFunc fn first cap).run Tryz.prog w=.ok (.func fn first cap) w:=fun _ _ _ _=>rfl
  have hb1:Below w.heap.size w ((w.alloc (.cells #[.func (.func id) #[] wc] 91)).alloc (.cells #[.slice none 0 0] 29)):=((Below.refl _ w).alloc (Nat.le_refl _) _).alloc (by simp) _
  have c0:((w.alloc (.cells #[.func (.func id) #[] wc] 91)).alloc (.cells #[.slice none 0 0] 29)).cell? ⟨g,0,none⟩=some top:=by
    rw [cell_of_row _ g 0 _ _ _ ((hb1.block g (lt_of_heap hg)).trans hg)]; rfl
  have hI0:TextsI (w.heap.size+2) (w.heap.size+1) w.heap.size (.func (.func id) #[] wc) want ((w.alloc (.cells #[.func (.func id) #[] wc] 91)).alloc (.cells #[.slice none 0 0] 29)) []:=
    ⟨_,heap_new_at _ _ _ (by simp),heap_old_at _ (heap_alloc_new w _),Own.nil _ _⟩
  have HWK:=qh (walk_to (texts_visits hW) t _ [] [] top (by
    have:=visits_le want t []
    have:=hs.few []
    simp; omega) hb1 ⟨hI0,by simp⟩ hs.at_ hs.ok rfl (fun x hx=>by
      have:=hs.within x hx
      simpa using this))
  have HWT:=qh (wanted_texts hd t)
  rw [List.nil_append] at HWK
  unfold ptr
  clear hg hs hW hd hb1 hI0
  go_enter Tryz.func51,Tryz.ntmps51
  go_wp2_with fail
  refine HWK.out.mono ?_
  rintro e w2 ⟨rfl,⟨⟨z,h1,h2,h3⟩,h4⟩,hb2⟩
  have m1:=cell_of_one h1
  have HO:Hid (Own w2 w.heap.size z (wantedT want t)):=qh (by rw [← HWT.out]; exact own_lowS h3 (by omega))
  have HB:=qh hb2
  clear h1 h2 h3 h4 hb2
  go_wp2
  go_ret
  exact ⟨z,rfl,HO.out,HB.out⟩
end
section
open Go.RowKit
open Sto (St)
def itcl (p:List UInt8 × List UInt8):List Value:=[.string ⟨p.1.toArray⟩,.string ⟨p.2.toArray⟩]
theorem itcl_length (p:List UInt8 × List UInt8):(itcl p).length=2:=rfl
theorem itcl_one (p:List UInt8 × List UInt8):∀ u∈itcl p,u.oneCell'=true:=by
  intro u hu
  simp [itcl] at hu
  rcases hu with rfl | rfl <;> rfl
theorem Tryz.infoItem:(Tryz.prog.info? 60).map (fun i=>(i.zero,i.size,i.bytes))=some (some (.agg #[.string ⟨#[]⟩,.string ⟨#[]⟩]),2,32):=by kernel_rfl
def ItAt (w:World) (v:Value) (L:St):Prop:=RowsAt 60 2 itcl w v L
theorem ItAt.at {w:World} {A:Option Addr} {n cap:Nat} {S:St} (h:ItAt w (.slice A n cap) S) (k:Nat) (hk:k<S.length):
    ∃ b o,A=some ⟨b,o,none⟩/\w.cell? ⟨b,o+k*2,none⟩=some (.string ⟨(S[k].1).toArray⟩)/\w.cell? ⟨b,o+k*2+1,none⟩=some (.string ⟨(S[k].2).toArray⟩):=by
  obtain ⟨b,o,rfl,h1⟩:=RowsAt.at h k hk
  exact ⟨b,o,rfl,h1 0 _ rfl,h1 1 _ rfl⟩
def ItIn (w:World) (v:Value) (L:St):Prop:=RowsIn 2 itcl w v L
theorem ItAt.inn {w:World} {v:Value} {L:St} (h:ItAt w v L):ItIn w v L:=RowsAt.inn h
theorem ItIn.at {w:World} {A:Option Addr} {n cap:Nat} {S:St} (h:ItIn w (.slice A n cap) S) (k:Nat) (hk:k<S.length):
    ∃ b o,A=some ⟨b,o,none⟩/\w.cell? ⟨b,o+k*2,none⟩=some (.string ⟨(S[k].1).toArray⟩)/\w.cell? ⟨b,o+k*2+1,none⟩=some (.string ⟨(S[k].2).toArray⟩):=by
  obtain ⟨b,o,rfl,h1⟩:=RowsIn.at h k hk
  exact ⟨b,o,rfl,h1 0 _ rfl,h1 1 _ rfl⟩
def Tri.keyed (x:List UInt8):Bool:=decide (1<=x.length)&&decide (x.length<=8)
def Tri.getC (S:St) (x:List UInt8):List UInt8 × Nat:=if Tri.keyed x then (match Sto.look S x with | some v=>(v,0) | none=>([],5)) else ([],1)
theorem Tri.getC_no {S:St} {x:List UInt8} (h:Tri.keyed x=false):Tri.getC S x=([],1):=by simp [Tri.getC,h]
theorem Tri.getC_none {S:St} {x:List UInt8} (h:Tri.keyed x=true) (h2:Sto.look S x=none):Tri.getC S x=([],5):=by simp [Tri.getC,h,h2]
theorem Tri.getC_some {S:St} {x y:List UInt8} (h:Tri.keyed x=true) (h2:Sto.look S x=some y):Tri.getC S x=(y,0):=by simp [Tri.getC,h,h2]
def Tri.putC (S:St) (x y:List UInt8):Nat:=if Tri.keyed x then (if 1<=y.length/\y.length<=32/\(Tri.at_ S x=true∨S.length<1024) then 0 else 2) else 1
theorem Tri.putC_no {S:St} {x y:List UInt8} (h:Tri.keyed x=false):Tri.putC S x y=1:=by simp [Tri.putC,h]
theorem Tri.putC_bad {S:St} {x y:List UInt8} (h:Tri.keyed x=true) (h2:¬ (1<=y.length/\y.length<=32/\(Tri.at_ S x=true∨S.length<1024))):Tri.putC S x y=2:=by rw [Tri.putC,if_pos h,if_neg h2]
theorem Tri.putC_ok {S:St} {x y:List UInt8} (h:Tri.keyed x=true) (h2:1<=y.length/\y.length<=32/\(Tri.at_ S x=true∨S.length<1024)):Tri.putC S x y=0:=by rw [Tri.putC,if_pos h,if_pos h2]
theorem append_it {w:World} {v s:Value} {S:St} {B n:Nat} {xs:List Value} (hv:ItAt w v S) (hs:w.ownsRow B 60 2 s n xs) (hl:n+S.length<=1000000) (hB:B<=w.heap.size):
    ∃ v' w',(Builtin.append_ #[22,22] 22 #[s,v]).run Tryz.prog w=.ok v' w'/\w'.ownsRow B 60 2 v' (n+S.length) (xs++rowsL itcl S)/\w.grownBy w' s.ownBlock/\(v'.ownBlock=s.ownBlock∨v'.ownBlock=some w.heap.size):=by
  obtain ⟨i0,hi,hz0,hz1,hz2⟩:=info_parts Tryz.infoItem
  exact append_rows 22 60 i0 _ 32 Tryz.underlying22 Tryz.sizeOf60 hi hz0 hz1 hz2 rfl (by decide) (by decide) itcl_length itcl_one hv hs hl hB
end
section
open Go.RowKit
open Sto (T St)
open Tri (Tr Ok upd ix hb lay splitT Trim rank)
open Nd (N)
def OwnI (w:World) (B:Nat) (z:Value) (S:St):Prop:=w.ownsRow B 60 2 z S.length (rowsL itcl S)
theorem OwnI.nil (w:World) (B:Nat):OwnI w B (.slice none 0 0) []:=⟨rfl,Or.inl ⟨rfl,rfl⟩⟩
theorem OwnI.below {w w':World} {B:Nat} {s:Value} {L:St} (h:OwnI w B s L) (hb:Below w.heap.size w w'):OwnI w' B s L:=
  row_out (G:=fun _=>False) h (Out.of hb) (fun _ _ _ _ hf=>hf.elim)
theorem OwnI.lt {w:World} {B:Nat} {s:Value} {L:St} (h:OwnI w B s L) (k:Nat) (hk:s.ownBlock=some k):B<=k/\k<w.heap.size:=World.ownsRow.lt h k hk
theorem OwnI.at_ {w:World} {B:Nat} {s:Value} {L:St} (h:OwnI w B s L):ItAt w s L:=RowsAt.own itcl_length h
theorem OwnI.low {w:World} {B B':Nat} {s:Value} {L:St} (h:OwnI w B s L) (hB:B'<=B):OwnI w B' s L:=by
  refine ⟨h.1,?_⟩
  rcases h.2 with hn | ⟨k,cap,cur,hv,hb,hk,hr⟩
  · exact Or.inl hn
  · exact Or.inr ⟨k,cap,cur,hv,Nat.le_trans hB hb,hk,hr⟩
def keyP (p:T):T:=if p.length % 2=0 then Nib.joinL p else []
theorem keyP_of (k:T):keyP (Nib.ofL k)=k:=by
  unfold keyP
  rw [if_pos (by rw [Nib.ofL_length]; omega),Nib.join_of]
end
section
open Go.RowKit
open Sto (St)
end
namespace Tri
open Sto (T St Rising keys)
open Nd (N)
theorem pair_sub:∀ i j:Fin 16,i<j->[i,j].Sublist (List.finRange 16):=by decide +kernel
theorem one_sub:∀ i:Fin 16,[i].Sublist (List.finRange 16):=by decide +kernel
theorem spots_len (dg:N->T) {t:Tr} (h:t.canon) (hn:¬ t.isNil) (p:T):(t.spots dg p).length+2<=3*t.items.length/\(t.isBr->(t.spots dg p).length+3<=3*t.items.length):=by
  induction t generalizing p with
  | nil=>exact absurd trivial hn
  | leaf q v=>exact ⟨by simp [Tr.spots,Tr.items],fun h=>h.elim⟩
  | ext q t ih=>
    have n1:¬ t.isNil:=by have:=h.2.1; cases t <;> simp_all [Tr.isBr,Tr.isNil]
    have:=(ih h.2.2 n1 (p++q)).2 h.2.1
    refine ⟨?_,fun h=>h.elim⟩
    rw [Tr.spots,Tr.items,behind,List.length_map,List.length_cons]
    omega
  | br v k ih=>
    have all:∀ l:List (Fin 16),(l.flatMap fun i=>(k i).spots dg (p++[hb i])).length+2*l.countP (fun i=>!(k i).nilB)<=3*(l.flatMap fun i=>behind [hb i] (k i).items).length:=by
      intro l
      induction l with
      | nil=>simp
      | cons i l ihl=>
        rw [List.flatMap_cons,List.flatMap_cons,List.length_append,List.length_append,List.countP_cons]
        have hb1:(behind [hb i] (k i).items).length=(k i).items.length:=by rw [behind,List.length_map]
        by_cases e:(k i).isNil
        · have e2:=(nilB_iff _).2 e
          have e3:(k i).spots dg (p++[hb i])=[]:=by cases hk:k i with
            | nil=>rfl
            | _=>rw [hk] at e; exact e.elim
          rw [e3,e2]
          simp only [Bool.not_true,Bool.false_eq_true,if_false,List.length_nil]
          omega
        · have e2:(k i).nilB=false:=by cases hk:(k i).nilB with
            | false=>rfl
            | true=>exact absurd ((nilB_iff _).1 hk) e
          have:=(ih i (h.1 i) e (p++[hb i])).1
          rw [e2,hb1]
          simp only [Bool.not_false,if_true]
          omega
    have h1:=all (List.finRange 16)
    have h2:4<=3*(own v).length+2*(List.finRange 16).countP (fun i=>!(k i).nilB):=by
      have ne:∀ i,¬ (k i).isNil->(!(k i).nilB)=true:=fun i hi=>by
        cases hk:(k i).nilB with
        | false=>rfl
        | true=>exact absurd ((nilB_iff _).1 hk) hi
      rcases h.2 with ⟨i,j,hij,hi,hj⟩ | ⟨hv,i,hi⟩
      · have:=(pair_sub i j hij).countP_le (p:=fun i=>!(k i).nilB)
        simp only [List.countP_cons,ne i hi,ne j hj,if_true,List.countP_nil] at this
        omega
      · have:=(one_sub i).countP_le (p:=fun i=>!(k i).nilB)
        simp only [List.countP_cons,ne i hi,if_true,List.countP_nil] at this
        rw [own,if_neg hv,List.length_singleton]
        omega
    have h3:(Tr.spots dg p (.br v k)).length+3<=3*(Tr.br v k).items.length:=by
      rw [Tr.spots,Tr.items,List.length_cons,List.length_append]
      omega
    exact ⟨by omega,fun _=>h3⟩
end Tri
section
open Go.RowKit
open Sto (T St)
open Tri (Tr Ok upd ix hb lay splitT Trim rank)
open Nd (N)
structure TrS (S:St) (t:Tr):Prop where
  tree:Tri.TreeOf S t
  rise:Sto.Rising S
  fair:∀ x∈S,1<=x.1.length/\x.1.length<=8/\1<=x.2.length/\x.2.length<=32
  few:S.length<=1024
theorem TrS.within {S:St} {t:Tr} (h:TrS S t):within t:=fun x hx=>by
  rw [h.tree.2.2] at hx
  obtain ⟨y,hy,rfl⟩:=List.mem_map.1 hx
  have:=(h.fair y hy).2.1
  rw [Nib.ofL_length]; omega
theorem TrS.ok {S:St} {t:Tr} (h:TrS S t):Ok t:=⟨h.tree.1,h.tree.2.1,Tri.small_of h.tree.1 fun x hx=>⟨h.within x hx,by
  rw [h.tree.2.2] at hx
  obtain ⟨y,hy,rfl⟩:=List.mem_map.1 hx
  exact (h.fair y hy).2.2.2⟩⟩
theorem TrS.trim {S:St} {t:Tr} (h:TrS S t):Trim t:=⟨Tri.canon_firm h.tree.1,h.tree.2.1,Tri.small_low h.ok.small⟩
theorem TrS.spots {S:St} {t:Tr} (h:TrS S t) (p:T):(t.spots Nd.sumS p).length<=100000:=by
  by_cases hn:t.isNil
  · rw [Tri.isNil_eq hn]; simp [Tri.Tr.spots]
  · have h1:=(Tri.spots_len Nd.sumS h.tree.1 hn p).1
    have h2:t.items.length=S.length:=by rw [h.tree.2.2]; simp [Tri.paths]
    have:=h.few
    omega
theorem TrS.sealed {S:St} {t:Tr} {w:World} {v:Value} (h:TrS S t) (hp:PAt w (Fm.from 0) true t v):Sealed w t v:=⟨hp,h.ok,h.within,h.spots⟩
theorem TrS.empty:TrS [] .nil:=⟨⟨trivial,trivial,rfl⟩,List.Pairwise.nil,fun x hx=>(by cases hx),by simp⟩
theorem TrS.find {S:St} {t:Tr} (h:TrS S t) (k:T):findT t (Nib.ofL k)=(Sto.look S k).getD []:=by
  unfold findT; rw [h.tree.get h.rise]
theorem TrS.look_ne {S:St} {t:Tr} (h:TrS S t) {k v:T} (hl:Sto.look S k=some v):v≠[]:=fun e=>by
  have:=(h.fair _ ((Sto.look_mem h.rise k v).1 hl)).2.2.1
  rw [e] at this; simp at this
theorem TrS.put {S:St} {t:Tr} (h:TrS S t) {k v:T} (hk:Tri.putC S k v=0):TrS (Tri.put S k v) (t.put (Nib.ofL k) v):=by
  unfold Tri.putC at hk
  split at hk
  · rename_i hkk
    split at hk
    · rename_i hv
      obtain ⟨v1,v2,v3⟩:=hv
      have hkk2:1<=k.length/\k.length<=8:=by simpa [Tri.keyed] using hkk
      refine ⟨h.tree.put (fun e=>by subst e; simp at v1),Tri.put_rising h.rise _ _,fun x hx=>?_,?_⟩
      · rcases Tri.put_mem hx with hx | rfl
        · exact h.fair x hx
        · exact ⟨hkk2.1,hkk2.2,v1,v2⟩
      · have hf:=h.few
        rw [Tri.put_eq]
        have hp:=Tri.pos_le S k
        rcases v3 with v3 | v3
        · rw [if_pos v3]
          have hp2:Tri.pos S k<S.length:=(Tri.look_pos h.rise k v3).1
          simp; omega
        · simp; omega
    · cases hk
  · cases hk
theorem TrS.del {S:St} {t:Tr} (h:TrS S t) {k:T} (hk:Sto.look S k≠none):TrS (Tri.del S k) (t.del (Nib.ofL k)):=by
  refine ⟨h.tree.del h.rise hk,Tri.del_rising h.rise _,fun x hx=>h.fair x (Tri.del_mem hx),?_⟩
  have hf:=h.few
  have ha:Tri.at_ S k=true:=by rw [Tri.at_look h.rise]; cases hl:Sto.look S k with | none=>exact absurd hl hk | some v=>rfl
  rw [Tri.del_eq h.rise k ha]
  simp; omega
def TRow (w:World) (g:Nat) (top:Value) (n:Nat):Prop:=w.heap[g]?=some (.cells #[top,.int .i64 n] 84 (0,0))
theorem TRow.below {w w':World} {g n:Nat} {top:Value} (h:TRow w g top n) (hb:Below w.heap.size w w'):TRow w' g top n:=(hb.block g (lt_of_heap h)).trans h
theorem TRow.top {w:World} {g n:Nat} {top:Value} (h:TRow w g top n):w.cell? ⟨g,0,none⟩=some top:=by rw [cell_of_row _ _ _ _ _ _ h]; rfl
theorem TRow.num {w:World} {g n:Nat} {top:Value} (h:TRow w g top n):w.cell? ⟨g,1,none⟩=some (.int .i64 n):=by rw [cell_of_row _ _ _ _ _ _ h]; rfl
def OpenAt (w:World) (F:Fm) (g:Nat) (S:St):Prop:=∃ top t,TRow w g top S.length/\PAt w F false t top/\TrS S t
def TrAt (w:World) (g:Nat) (S:St):Prop:=∃ top t,TRow w g top S.length/\PAt w (Fm.from 0) true t top/\TrS S t
theorem TrAt.below {w w':World} {g:Nat} {S:St} (h:TrAt w g S) (hb:Below w.heap.size w w'):TrAt w' g S:=by
  obtain ⟨top,t,h1,h2,h3⟩:=h
  exact ⟨top,t,h1.below hb,h2.below hb,h3⟩
theorem TrAt.open {w:World} {g:Nat} {S:St} (h:TrAt w g S) (B:Nat):OpenAt w (Fm.from B) g S:=by
  obtain ⟨top,t,h1,h2,h3⟩:=h
  exact ⟨top,t,h1,h2.sealed (fun _ _ e=>by cases e) false,h3⟩
theorem tnew_any (w:World):Calls Tryz.prog 32 #[] w fun e w'=>∃ g,e=.returned (ptr g)/\TrAt w' g []/\w.heap.size<=g/\Below w.heap.size w w':=by
  go_enter Tryz.func32,Tryz.ntmps32
  go_wp2
  go_ret
  exact ⟨w.heap.size,rfl,⟨nilp,.nil,heap_alloc_new w _,PAt.nil _ _ _,TrS.empty⟩,Nat.le_refl _,(Below.refl _ w).alloc (Nat.le_refl _) _⟩
theorem iskey_any (x:T) (w:World):
    Calls Tryz.prog 97 #[.string ⟨x.toArray⟩] w fun e w'=>e=.returned (.bool (Tri.keyed x))/\w=w':=by
  by_cases h0:x=[]
  · subst h0
    go_enter Tryz.func97,Tryz.ntmps97
    go_wp2
    go_ret
    exact ⟨rfl,rfl⟩
  · have h1:(x == [])=false:=by rw [beq_eq_false_iff_ne]; exact h0
    have h2:1<=x.length:=List.length_pos_iff.2 h0
    by_cases h8:x.length<=8
    · have h3:(x.length:Int)<=8:=by omega
      have e:Tri.keyed x=true:=by simp [Tri.keyed,h2,h8]
      rw [e]
      clear e h2 h8 h0
      go_enter Tryz.func97,Tryz.ntmps97
      go_wp2
      go_ret
      exact ⟨rfl,rfl⟩
    · have h3:¬ ((x.length:Int)<=8):=by omega
      have e:Tri.keyed x=false:=by simp [Tri.keyed]; omega
      rw [e]
      clear e h2 h8 h0
      go_enter Tryz.func97,Tryz.ntmps97
      go_wp2
      go_ret
      exact ⟨rfl,rfl⟩
theorem tget_any {g:Nat} {S:St} (x:T) (w:World) (h:TrAt w g S):
    Calls Tryz.prog 181 #[ptr g,.string ⟨x.toArray⟩] w fun e w'=>e=.returned (.tuple #[.string ⟨(Tri.getC S x).1.toArray⟩,.int .i64 (Tri.getC S x).2])/\Below w.heap.size w w':=by
  obtain ⟨top,t,h1,h2,h3⟩:=h
  have HK:=qh (fun w=>iskey_any x w)
  unfold ptr
  cases hk:Tri.keyed x with
  | false=>
    rw [Tri.getC_no hk]
    rw [hk] at HK
    clear h1 h2 h3 hk
    go_enter Tryz.func181,Tryz.ntmps181
    go_wp2_with fail
    refine (HK.out _).mono ?_
    rintro e w1 ⟨rfl,rfl⟩
    go_wp2
    go_ret2
    exact ⟨rfl,Below.refl _ _⟩
  | true=>
    rw [hk] at HK
    have hx8:x.length<=8:=by simp [Tri.keyed] at hk; omega
    have HOF:=qh (fun w=>of_any x w (by omega))
    have HFI:Hid (∀ w',Below w.heap.size w w'->Calls Tryz.prog 98 #[top,.string ⟨(Nib.ofL x).toArray⟩] w' fun e w''=>e=.returned (.string ⟨((Sto.look S x).getD []).toArray⟩)/\Below w'.heap.size w' w''):=qh (fun w' hb=>by
      have:=find_any (Nib.ofL x) w' (h2.below hb) h3.trim.firm (Tri.ofL_fit x) (by rw [Nib.ofL_length]; omega)
      rw [h3.find] at this
      exact this)
    have HT:Hid (∀ w',Below w.heap.size w w'->w'.cell? ⟨g,0,none⟩=some top):=qh (fun w' hb=>(h1.below hb).top)
    obtain ⟨P,hP⟩:∃ P,Nib.ofL x=P:=⟨_,rfl⟩
    rw [hP] at HOF HFI
    cases hl:Sto.look S x with
    | none=>
      rw [Tri.getC_none hk hl]
      rw [hl,Option.getD_none] at HFI
      have BD:Below w.heap.size w w.drew:=(Below.refl _ _).drew
      have c0:=HT.out _ BD
      clear h1 h2 h3 hk hl hP
      go_enter Tryz.func181,Tryz.ntmps181
      go_wp2_with fail
      refine (HK.out _).mono ?_
      rintro e w1 ⟨rfl,rfl⟩
      go_upto_region 3 with fail
      go_region_held3 (fun w'=>w'.cell? ⟨g,0,none⟩=some top)
        ((first | (with_reducible assumption) | (refine HT.out _ ?_; with_reducible assumption)))
        (first | (go_at_call 59; refine (HOF.out _).mono ?_; rintro e w6 ⟨rfl,hb6⟩; have hb6':=bchain BD hb6) | (go_at_call 98; refine (HFI.out _ ?_).mono ?_; (with_reducible exact hb6'); rintro e w7 ⟨rfl,hb7⟩; have hb7':=bchain hb6' hb7))
      all_goals
        go_wp2
        go_ret2
        exact ⟨rfl,hb7'⟩
    | some y=>
      have hye:(y == [])=false:=by rw [beq_eq_false_iff_ne]; exact h3.look_ne hl
      have hyl:y.length<=32:=(h3.fair _ ((Sto.look_mem h3.rise x y).1 hl)).2.2.2
      have HCL:=qh (fun w=>dclone_any y w (by omega))
      rw [Tri.getC_some hk hl]
      rw [hl,Option.getD_some] at HFI
      have BD:Below w.heap.size w w.drew:=(Below.refl _ _).drew
      have c0:=HT.out _ BD
      clear h1 h2 h3 hk hl hP hyl
      go_enter Tryz.func181,Tryz.ntmps181
      go_wp2_with fail
      refine (HK.out _).mono ?_
      rintro e w1 ⟨rfl,rfl⟩
      go_upto_region 3 with fail
      go_region_held3 (fun w'=>w'.cell? ⟨g,0,none⟩=some top)
        ((first | (with_reducible assumption) | (refine HT.out _ ?_; with_reducible assumption)))
        (first | (go_at_call 59; refine (HOF.out _).mono ?_; rintro e w6 ⟨rfl,hb6⟩; have hb6':=bchain BD hb6) | (go_at_call 98; refine (HFI.out _ ?_).mono ?_; (with_reducible exact hb6'); rintro e w7 ⟨rfl,hb7⟩; have hb7':=bchain hb6' hb7))
      all_goals
        go_wp2_with fail
        refine (HCL.out _).mono ?_
        rintro e w8 ⟨rfl,hb8⟩
        go_wp2
        go_ret2
        exact ⟨rfl,bchain hb7' hb8⟩
end
end Go.Proofs.YtaficmboooaknaaGreatDoor
