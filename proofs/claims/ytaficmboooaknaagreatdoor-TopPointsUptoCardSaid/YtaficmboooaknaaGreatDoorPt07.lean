import Derived.Test.YtaficmboooaknaaGreatDoorPt06
set_option maxRecDepth 100000
set_option maxHeartbeats 16000000
namespace Go.Proofs.YtaficmboooaknaaGreatDoor
section
open Go.RowKit
open Nd (N)
theorem nresults_c1t {P:Program} {fn:Func} {p u:Tmp} {ty:TypeId} (h:fn.results=#[.cell p ty,.tmp u]) (tmps:Array Value) (w:World) (g:Nat) (t:TypeId) (cs:Array Value) (fr:Nat × Nat) (d:TypeDesc)
    (hp:tmps.getD p undef=.pointer (some ⟨g,0,none⟩)) (hg:w.heap[g]?=some (.cells cs t fr))
    (hu:P.underlying ty=some d) (hd:(match d with | .struct _ | .array _ _=>true | _=>false)=true) (hi:(P.info? ty).map (·.size)=some cs.size):
    (results fn tmps).run P w=.ok (.tuple #[.agg cs,tmps.getD u undef]) w:=by
  have hp':tmps[p]?.getD undef=.pointer (some ⟨g,0,none⟩):=by simpa using hp
  simp [results,h,hp',asAddr,run_loadVar_row w g t ty cs fr d hg hu hd hi]
theorem wpList_build_some {P:Program} {ops:Array Oper} {rest:List Oper} {o:Oper} {a:Act} {w:World} {Q:Exit->Act->World->Prop} (hg:o.guard=none) (t:TypeId) (parts:Array (Nat × Operand)) (ho:o.op=.build t parts)
    (L:List (Nat × Value)) (hL:(parts.map fun (i,x)=>(i,a.eval x)).toList=L) (C:Array Value) (hC:P.built t L=some C)
    (h:wpList P ops Q rest (a.put o.dst (.agg C)) w):wpList P ops Q (o::rest) a w:=
  wpList_build hg t parts ho (by rw [hL,hC]; rfl) (by rw [hL,hC]; exact h)
theorem setCells_row (g:Nat) (t:TypeId):∀ (vs a b c:List Value) (w:World),b.length=vs.length->w.heap[g]?=some (.cells (a++b++c).toArray t (0,0))->(w.setCells g a.length vs).heap[g]?=some (.cells (a++vs++c).toArray t (0,0))
  | [],a,b,c,_,hb,hg=>by
    obtain rfl:b=[]:=List.eq_nil_of_length_eq_zero hb
    exact hg
  | v::vs,a,b,c,w,hb,hg=>by
    match b,hb with
    | y::b,hb=>
      have h1:=heap_setCell_same w g a.length _ _ v hg
      have h2:(a++(y::b)++c).toArray.setIfInBounds a.length v=((a++[v])++b++c).toArray:=by simp
      have h3:=setCells_row g t vs (a++[v]) b c (w.setCell ⟨g,a.length,none⟩ v) (by simpa using hb) (by rw [h1,← h2])
      rw [List.length_append,List.length_singleton] at h3
      have h4:(a++[v])++vs++c=a++(v::vs)++c:=by simp
      rw [h4] at h3
      exact h3
theorem Out.setCells {F:Nat->Prop} {g:Nat} {a:World} (hg:F g):∀ (vs:List Value) (o:Nat) {w:World},Out F a w->Out F a (w.setCells g o vs)
  | [],_,_,h=>h
  | v::vs,o,_,h=>Out.setCells hg vs (o+1) (h.setCell (p:=⟨g,o,none⟩) hg v)
theorem heap_setCells_other (g i:Nat) (hne:i≠g):∀ (vs:List Value) (o:Nat) (w:World),(w.setCells g o vs).heap[i]?=w.heap[i]?
  | [],_,_=>rfl
  | v::vs,o,w=>(heap_setCells_other g i hne vs (o+1) _).trans (heap_setCell_other w ⟨g,o,none⟩ i v hne)
theorem Only.two {g q:Nat} {a b:World} (h:Only g a b):Out (fun j=>j=g∨j=q) a b:=h.out.mono (fun _ _ e=>Or.inl e)
theorem NodeAt.setPath {w:World} {g:Nat} {n:N} (h:NodeAt w g n) (p:List UInt8):NodeAt (w.setCell ⟨g,1,none⟩ (.string ⟨p.toArray⟩)) g { n with path:=p }:=by
  have:=heap_setCell_same w g 1 _ _ (.string ⟨p.toArray⟩) h
  unfold NodeAt
  rw [this]
  simp [ncl]
theorem NodeAt.setVal {w:World} {g:Nat} {n:N} (h:NodeAt w g n) (v:List UInt8):NodeAt (w.setCell ⟨g,2,none⟩ (.string ⟨v.toArray⟩)) g { n with val:=v }:=by
  have:=heap_setCell_same w g 2 _ _ (.string ⟨v.toArray⟩) h
  unfold NodeAt
  rw [this]
  simp [ncl]
theorem NodeAt.setKid {w:World} {g:Nat} {n:N} (h:NodeAt w g n) (i:Nat) (x:List UInt8):NodeAt (w.setCell ⟨g,3+i,none⟩ (.string ⟨x.toArray⟩)) g { n with kids:=n.kids.set i x }:=by
  have:=heap_setCell_same w g (3+i) _ _ (.string ⟨x.toArray⟩) h
  unfold NodeAt
  rw [this,Nat.add_comm 3 i]
  simp [ncl,scells_set]
theorem NodeAt.setKids {w:World} {g:Nat} {n:N} (h:NodeAt w g n) (L:List (List UInt8)) (hn:n.kids.length=L.length):NodeAt (w.setCells g 3 (scells L)) g { n with kids:=L }:=by
  have:=setCells_row g 110 (scells L) [.int .i64 n.kind,.string ⟨n.path.toArray⟩,.string ⟨n.val.toArray⟩] (scells n.kids) [] w (by rw [scells_length,scells_length,hn]) (by
    unfold NodeAt at h
    rw [h]
    simp [ncl])
  unfold NodeAt
  refine this.trans ?_
  simp [ncl]
theorem NodeAt.free {w:World} {g:Nat} {n:N} (h:NodeAt w g n) (i:Nat):w.frozen? ⟨g,i,none⟩=false:=frozen_of_row _ _ _ _ _ h
theorem NodeAt.there {w:World} {g:Nat} {n:N} (h:NodeAt w g n) (hn:n.kids.length=16):w.there g 3 16:=fun j hj=>⟨by rw [h.kid j (by omega)]; rfl,h.free _⟩
theorem ncl_one (n:N):(ncl n).toArray.all (·.oneCell')=true:=by
  have:=scells_one n.kids
  simp [ncl,scells,Value.oneCell']
def NDecPost (s:List UInt8) (w:World) (e:Ending) (w':World):Prop:=
  e=.returned (.tuple #[ndval (Nd.dec s).1,.int .i64 (Nd.dec s).2])/\Below w.heap.size w w'
theorem ndecode_any (s:List UInt8) (w:World) (hl:s.length<=1000000):
    Calls Tryz.prog 73 #[.string ⟨s.toArray⟩] w (NDecPost s w):=by
  unfold NDecPost
  have hb0:Below w.heap.size w (w.alloc (.cells #[.int .i64 0,.string ⟨#[]⟩,.string ⟨#[]⟩,.string ⟨#[]⟩,.string ⟨#[]⟩,.string ⟨#[]⟩,.string ⟨#[]⟩,.string ⟨#[]⟩,.string ⟨#[]⟩,.string ⟨#[]⟩,.string ⟨#[]⟩,.string ⟨#[]⟩,.string ⟨#[]⟩,.string ⟨#[]⟩,.string ⟨#[]⟩,.string ⟨#[]⟩,.string ⟨#[]⟩,.string ⟨#[]⟩,.string ⟨#[]⟩] 110)):=(Below.refl _ w).alloc (Nat.le_refl _) _
  have HB0:=qh hb0
  have HZ0:Hid ((w.alloc (.cells #[.int .i64 0,.string ⟨#[]⟩,.string ⟨#[]⟩,.string ⟨#[]⟩,.string ⟨#[]⟩,.string ⟨#[]⟩,.string ⟨#[]⟩,.string ⟨#[]⟩,.string ⟨#[]⟩,.string ⟨#[]⟩,.string ⟨#[]⟩,.string ⟨#[]⟩,.string ⟨#[]⟩,.string ⟨#[]⟩,.string ⟨#[]⟩,.string ⟨#[]⟩,.string ⟨#[]⟩,.string ⟨#[]⟩,.string ⟨#[]⟩] 110)).heap[w.heap.size]?=some (.cells (ncl Nd.zero).toArray 110 (0,0))):=qh (heap_new_at w _ _ rfl)
  have HI19:Hid ((Tryz.prog.info? 110).map (·.size)=some 19):=qh (by kernel_rfl)
  have HBZ:Hid (Tryz.prog.built 110 []=some (ncl Nd.zero).toArray):=qh (by rfl)
  have HOZ:=qh (ncl_one Nd.zero)
  have HSZ:Hid ((ncl Nd.zero).toArray.size=19):=qh rfl
  obtain ⟨Z,hZ⟩:∃ Z,(ncl Nd.zero).toArray=Z:=⟨_,rfl⟩
  have HZQ:=qh hZ
  rw [hZ] at HZ0 HBZ HOZ HSZ
  have HIZ:Hid ((Tryz.prog.info? 110).map (·.size)=some Z.size):=qh (by rw [HSZ.out]; exact HI19.out)
  obtain ⟨D,hD⟩:∃ D,Nd.dec s=D:=⟨_,rfl⟩
  have HD:=qh hD
  rw [hD]
  clear hD hb0 hZ
  go_enter Tryz.func73,Tryz.ntmps73
  go_wp2_with fail
  obtain ⟨p,hp⟩:∃ p,w.heap.size=p:=⟨_,rfl⟩
  have HP:=qh hp
  rw [hp] at HZ0 ⊢
  generalize (w.alloc (.cells #[.int .i64 0,.string ⟨#[]⟩,.string ⟨#[]⟩,.string ⟨#[]⟩,.string ⟨#[]⟩,.string ⟨#[]⟩,.string ⟨#[]⟩,.string ⟨#[]⟩,.string ⟨#[]⟩,.string ⟨#[]⟩,.string ⟨#[]⟩,.string ⟨#[]⟩,.string ⟨#[]⟩,.string ⟨#[]⟩,.string ⟨#[]⟩,.string ⟨#[]⟩,.string ⟨#[]⟩,.string ⟨#[]⟩,.string ⟨#[]⟩] 110))=w0 at *
  refine (read_any s w0).mono ?_
  rintro e w1 ⟨rfl,hr1,hb1⟩
  have HPG:Hid (p<w0.heap.size):=qh (lt_of_heap HZ0.out)
  have HZ1:Hid (w1.heap[p]?=some (.cells Z 110 (0,0))):=qh ((hb1.block p HPG.out).trans HZ0.out)
  have HB1:Hid (Below p w w1):=qh (by have:=HB0.out; rw [hp] at this; exact this.trans (hb1.mono (Nat.le_of_lt HPG.out)))
  obtain ⟨g,hg⟩:∃ g,w0.heap.size=g:=⟨_,rfl⟩
  rw [hg] at hr1 HPG ⊢
  have HBY:=qh (nrbytes_st 1 (s,0) g w1 hr1 (by show s.length<=_; omega))
  clear hb1 hg hr1 HZ0 HB0 hp
  match s,hl with
  | [],_=>
    have hby:Nd.rdB 1 (([],0):Nd.St)=([],([],20)):=rfl
    rw [hby] at HBY
    obtain rfl:D=(Nd.zero,80):=HD.out.symm
    clear hby
    go_wp2_with fail
    refine HBY.out.mono ?_
    rintro e w2 ⟨rfl,hr2,ho2⟩
    have HZ2:Hid (w2.heap[p]?=some (.cells Z 110 (0,0))):=qh ((ho2.block p (lt_of_heap HZ1.out) (Nat.ne_of_lt HPG.out)).trans HZ1.out)
    have HB2:Hid (Below p w w2):=qh (HB1.out.trans (ho2.below (Nat.le_of_lt HPG.out) (Nat.le_of_lt (lt_of_heap HZ1.out))))
    clear hr2 ho2
    go_wp2_with (first | (refine wpList_build_some (by rfl) _ _ (by rfl) [] (by first | rfl | (simp [Act.eval]; done) | kernel_rfl) Z HBZ.out ?_) | (refine wpList_store_row (by rfl) _ _ _ (by rfl) p Z (by rfl) (by rfl) _ _ HZ2.out HIZ.out rfl HOZ.out ?_))
    refine bodyPost_ret (nresults_c1t rfl _ _ p _ _ _ _ rfl (setRow_heap _ _ _ _ _ _ HZ2.out) Tryz.underlying110 rfl HIZ.out) rfl ⟨by rw [← HZQ.out]; rfl,by rw [HP.out]; exact below_setRow HB2.out (Nat.le_refl _) _⟩
  | k::r,hl=>
    have hby:Nd.rdB 1 ((k::r,0):Nd.St)=([k],(r,0)):=by simp [Nd.rdB]
    rw [hby] at HBY
    have HL:Hid (r.length<=100000000):=qh (by have:(k::r).length=r.length+1:=rfl; omega)
    clear hby hl
    go_wp2_with fail
    refine HBY.out.mono ?_
    rintro e w2 ⟨rfl,hr2,ho2⟩
    have hz2:w2.heap[p]?=some (.cells Z 110 (0,0)):=(ho2.block p (lt_of_heap HZ1.out) (Nat.ne_of_lt HPG.out)).trans HZ1.out
    have hb2:Below p w w2:=HB1.out.trans (ho2.below (Nat.le_of_lt HPG.out) (Nat.le_of_lt (lt_of_heap HZ1.out)))
    have hgq:g<w2.heap.size:=Rd.lt hr2
    have HC0:∀ h,(⟨[k].toArray⟩:ByteArray)[0]'h=k:=fun _=>rfl
    have kb:=byte_lt k
    have k0:(0:Int)<=(k.toNat:Int):=by omega
    obtain ⟨kd,hkd⟩:∃ kd:Int,(k.toNat:Int)=kd:=⟨_,rfl⟩
    have HKD:=qh hkd
    have HBL:Hid (Tryz.prog.built 110 [(0,.int .i64 kd)]=some (ncl ⟨kd,[],[],Nd.none16⟩).toArray):=qh (by rfl)
    have HOC:=qh (ncl_one ⟨kd,[],[],Nd.none16⟩)
    have HS19:Hid ((ncl ⟨kd,[],[],Nd.none16⟩).toArray.size=19):=qh rfl
    have HNA:Hid (NodeAt (w2.alloc (.cells (ncl ⟨kd,[],[],Nd.none16⟩).toArray 110)) w2.heap.size ⟨kd,[],[],Nd.none16⟩):=qh (heap_new_at w2 _ _ rfl)
    obtain ⟨C,hC⟩:∃ C,(ncl ⟨kd,[],[],Nd.none16⟩).toArray=C:=⟨_,rfl⟩
    rw [hC] at HBL HOC HS19 HNA
    have HI2:Hid ((Tryz.prog.info? 110).map (·.size)=some C.size):=qh (by rw [HS19.out]; exact HI19.out)
    have hR3:Rd (w2.alloc (.cells C 110)) g r 0:=hr2.below ((Below.refl _ w2).alloc (Nat.le_refl _) _)
    have hZ3:(w2.alloc (.cells C 110)).heap[p]?=some (.cells Z 110 (0,0)):=heap_old_at _ hz2
    have hB3:Below p w (w2.alloc (.cells C 110)):=hb2.alloc (Nat.le_of_lt (lt_of_heap hz2)) _
    have HPZ:Hid (∀ w',Out (fun j=>j=g∨j=w2.heap.size) (w2.alloc (.cells C 110)) w'->w'.heap[p]?=some (.cells Z 110 (0,0))):=qh (fun w' h=>(h.block p (lt_of_heap hZ3) (fun e=>by have:=HPG.out; rcases e with e | e <;> omega)).trans hZ3)
    have HFB:Hid (∀ w' X,Out (fun j=>j=g∨j=w2.heap.size) (w2.alloc (.cells C 110)) w'->Below w.heap.size w (w'.setRow p X)):=qh (fun w' X h=>by
      rw [HP.out]
      refine below_setRow (hB3.trans (h.below (fun j e=>?_) (Nat.le_of_lt (lt_of_heap hZ3)))) (Nat.le_refl _) X
      have:=HPG.out
      rcases e with e | e <;> omega)
    have HR3:=qh hR3
    have HGQ:Hid (g<w2.heap.size):=qh hgq
    have n0:=HNA.out.kind
    clear hC hr2 ho2 hz2 hb2 hgq hR3 hZ3 hB3 HZ1 HB1 HBY
    by_cases k1:kd=1
    · subst k1
      go_wp2_with (first | (refine wpList_build_some (by rfl) _ _ (by rfl) [(0,.int .i64 1)] (by first | rfl | (simp [Act.eval]; done) | kernel_rfl) C HBL.out ?_) | (refine wpList_store_fresh (by rfl) _ _ _ (by rfl) w2.heap.size rfl C (by rfl) (by rfl) _ _ HI2.out HS19.out.symm HOC.out ?_))
      obtain ⟨q,hq⟩:∃ q,w2.heap.size=q:=⟨_,rfl⟩
      rw [hq] at HNA HPZ HFB HGQ ⊢
      generalize (w2.alloc (.cells C 110))=w3 at *
      clear hq n0
      refine (nreadPath_st true (r,0) g w3 HR3.out HL.out).mono ?_
      rintro e w4 ⟨rfl,hr4,ho4⟩
      have hle1:(Nd.rdP true (r,0)).2.1.length<=r.length:=Nd.rdT_le 9 (r,0)
      have HNN:Hid (Nd.rdN k r=((⟨1,(Nd.rdP true (r,0)).1.1,(Nd.rdT 32 (Nd.rdP true (r,0)).2).1,Nd.none16⟩,(Nd.rdP true (r,0)).1.2),(Nd.rdT 32 (Nd.rdP true (r,0)).2).2)):=qh (if_pos (by have:=HKD.out; omega))
      obtain ⟨⟨⟨P,ok⟩,st1⟩,hP⟩:∃ X,Nd.rdP true (r,0)=X:=⟨_,rfl⟩
      rw [hP] at hr4 HNN hle1 ⊢
      have HN4:Hid (NodeAt w4 q ⟨1,[],[],Nd.none16⟩):=qh ((ho4.block q (lt_of_heap HNA.out) (Nat.ne_of_gt HGQ.out)).trans HNA.out)
      have c4:=HN4.out.path
      have f4:=HN4.out.free 1
      have HN5:Hid (NodeAt (w4.setCell ⟨q,1,none⟩ (.string ⟨P.toArray⟩)) q ⟨1,P,[],Nd.none16⟩):=qh (HN4.out.setPath P)
      have HR5:Hid (Rd (w4.setCell ⟨q,1,none⟩ (.string ⟨P.toArray⟩)) g st1.1 st1.2):=qh ((heap_setCell_other w4 ⟨q,1,none⟩ g _ (Nat.ne_of_lt HGQ.out)).trans hr4)
      have HO5:Hid (Out (fun j=>j=g∨j=q) w3 (w4.setCell ⟨q,1,none⟩ (.string ⟨P.toArray⟩))):=qh (((Out.refl _ w3).trans ho4.two).setCell (p:=⟨q,1,none⟩) (Or.inr rfl) _)
      have HLE1:=qh hle1
      clear hr4 ho4 hP hle1
      go_wp2_with fail
      generalize (w4.setCell ⟨q,1,none⟩ (.string ⟨P.toArray⟩))=w5 at *
      clear c4 f4
      refine (nrtext_st 32 st1 g w5 HR5.out (Nat.le_trans HLE1.out HL.out)).mono ?_
      rintro e w6 ⟨rfl,hr6,ho6⟩
      obtain ⟨⟨V,st2⟩,hV⟩:∃ X,Nd.rdT 32 st1=X:=⟨_,rfl⟩
      have hV':Nd.rdT 32 ((P,ok),st1).2=(V,st2):=hV
      rw [hV'] at HNN
      rw [hV] at hr6 ⊢
      have HN6:Hid (NodeAt w6 q ⟨1,P,[],Nd.none16⟩):=qh ((ho6.block q (lt_of_heap HN5.out) (Nat.ne_of_gt HGQ.out)).trans HN5.out)
      have c6:=HN6.out.val
      have f6:=HN6.out.free 2
      have HN7:Hid (NodeAt (w6.setCell ⟨q,2,none⟩ (.string ⟨V.toArray⟩)) q ⟨1,P,V,Nd.none16⟩):=qh (HN6.out.setVal V)
      have HR7:Hid (Rd (w6.setCell ⟨q,2,none⟩ (.string ⟨V.toArray⟩)) g st2.1 st2.2):=qh ((heap_setCell_other w6 ⟨q,2,none⟩ g _ (Nat.ne_of_lt HGQ.out)).trans hr6)
      have HO7:Hid (Out (fun j=>j=g∨j=q) w3 (w6.setCell ⟨q,2,none⟩ (.string ⟨V.toArray⟩))):=qh ((HO5.out.trans ho6.two).setCell (p:=⟨q,2,none⟩) (Or.inr rfl) _)
      have HM16:Hid ((⟨1,P,V,Nd.none16⟩:N).kids.length=16):=qh rfl
      clear hr6 ho6 hV hV' HN4 HN5 HR5 HO5 HN6
      obtain ⟨m,hm⟩:∃ m:N,(⟨1,P,V,Nd.none16⟩:N)=m:=⟨_,rfl⟩
      have HNQ:Hid (Nd.rdN k r=((m,ok),st2)):=qh (by rw [← hm]; exact HNN.out)
      rw [hm] at HN7 HM16
      clear hm HNN
      obtain ⟨w7,hw7⟩:∃ w7,(w6.setCell ⟨q,2,none⟩ (.string ⟨V.toArray⟩))=w7:=⟨_,rfl⟩
      rw [hw7] at HN7 HR7 HO7
      have HDD:Hid (D=if (ok&&(decide (Pw.endC st2=0)&&Nd.fine m))=true then (m,0) else (Nd.zero,80)):=qh (by rw [← HD.out,Nd.dec,Nd.decOK,HNQ.out])
      cases ok with
      | false=>
        obtain rfl:D=(Nd.zero,80):=HDD.out
        have HZW:=qh (HPZ.out _ HO7.out)
        go_wp2_with (first | (refine wpList_build_some (by rfl) _ _ (by rfl) [] (by first | rfl | (simp [Act.eval]; done) | kernel_rfl) Z HBZ.out ?_) | (refine wpList_store_row (by rfl) _ _ _ (by rfl) p Z (by rfl) (by rfl) _ _ HZW.out HIZ.out rfl HOZ.out ?_))
        refine bodyPost_ret (nresults_c1t rfl _ _ p _ _ _ _ rfl (setRow_heap _ _ _ _ _ _ HZW.out) Tryz.underlying110 rfl HIZ.out) rfl ⟨by rw [← HZQ.out]; rfl,HFB.out _ _ HO7.out⟩
      | true=>
        obtain ⟨E,hE⟩:∃ E,Pw.endC st2=E:=⟨_,rfl⟩
        have HEN:=qh (rend_st st2 g w7 HR7.out)
        rw [hE] at HEN HDD
        clear hE
        go_wp2_with fail
        refine HEN.out.mono ?_
        rintro e w8 ⟨rfl,ho8⟩
        have HO8:Hid (Out (fun j=>j=g∨j=q) w3 w8):=qh (HO7.out.trans ho8.two)
        have HN8:Hid (NodeAt w8 q m):=qh ((ho8.block q (lt_of_heap HN7.out) (Nat.ne_of_gt HGQ.out)).trans HN7.out)
        clear ho8
        by_cases hE0:E=0
        case neg=>
          have hE1:(E == 0)=false:=by rw [beq_eq_false_iff_ne]; exact hE0
          have hE2:(E != 0)=true:=by rw [bne_iff_ne]; exact hE0
          obtain rfl:D=(Nd.zero,80):=HDD.out.trans (if_neg (by rw [decide_eq_false hE0]; simp))
          have HZW:=qh (HPZ.out _ HO8.out)
          clear hE0
          go_wp2_with (first | (refine wpList_build_some (by rfl) _ _ (by rfl) [] (by first | rfl | (simp [Act.eval]; done) | kernel_rfl) Z HBZ.out ?_) | (refine wpList_store_row (by rfl) _ _ _ (by rfl) p Z (by rfl) (by rfl) _ _ HZW.out HIZ.out rfl HOZ.out ?_))
          refine bodyPost_ret (nresults_c1t rfl _ _ p _ _ _ _ rfl (setRow_heap _ _ _ _ _ _ HZW.out) Tryz.underlying110 rfl HIZ.out) rfl ⟨by rw [← HZQ.out]; rfl,HFB.out _ _ HO8.out⟩
        subst hE0
        have HCK:=qh (fun w=>ncheck_any m w HM16.out)
        have HAQ:Hid (w8.heap[q]?=some (.cells (ncl m).toArray 110 (0,0))):=qh HN8.out
        have HAO:=qh (ncl_one m)
        have HASZ:Hid ((ncl m).toArray.size=19):=qh (by rw [List.size_toArray,ncl_length m HM16.out])
        have HNV:Hid (ndval m=.agg (ncl m).toArray):=qh rfl
        rw [HNV.out] at HCK
        obtain ⟨A,hA⟩:∃ A,(ncl m).toArray=A:=⟨_,rfl⟩
        rw [hA] at HCK HAQ HAO HASZ HNV
        have HIA:Hid ((Tryz.prog.info? 110).map (·.size)=some A.size):=qh (by rw [HASZ.out]; exact HI19.out)
        have HOLD:Hid (Z.size=A.size):=qh (HSZ.out.trans HASZ.out.symm)
        clear hA
        cases hf:Nd.fine m with
        | false=>
          rw [hf] at HCK HDD
          rw [if_neg (by decide)] at HCK
          obtain rfl:D=(Nd.zero,80):=HDD.out
          clear hf
          go_wp2_with (refine wpList_load_row_w (by rfl) _ _ (by rfl) q (by rfl) _ A _ _ HAQ.out Tryz.underlying110 (by rfl) HIA.out ?_)
          refine (HCK.out _).mono ?_
          rintro e w9 ⟨rfl,hb9⟩
          have HO9:Hid (Out (fun j=>j=g∨j=q) w3 w9):=qh (HO8.out.trans (Out.of hb9))
          have HZW:=qh (HPZ.out _ HO9.out)
          clear hb9
          go_wp2_with (first | (refine wpList_build_some (by rfl) _ _ (by rfl) [] (by first | rfl | (simp [Act.eval]; done) | kernel_rfl) Z HBZ.out ?_) | (refine wpList_store_row (by rfl) _ _ _ (by rfl) p Z (by rfl) (by rfl) _ _ HZW.out HIZ.out rfl HOZ.out ?_))
          refine bodyPost_ret (nresults_c1t rfl _ _ p _ _ _ _ rfl (setRow_heap _ _ _ _ _ _ HZW.out) Tryz.underlying110 rfl HIZ.out) rfl ⟨by rw [← HZQ.out]; rfl,HFB.out _ _ HO9.out⟩
        | true=>
          rw [hf] at HCK HDD
          rw [if_pos rfl] at HCK
          obtain rfl:D=(m,0):=HDD.out
          clear hf
          go_wp2_with (refine wpList_load_row_w (by rfl) _ _ (by rfl) q (by rfl) _ A _ _ HAQ.out Tryz.underlying110 (by rfl) HIA.out ?_)
          refine (HCK.out _).mono ?_
          rintro e w9 ⟨rfl,hb9⟩
          have HO9:Hid (Out (fun j=>j=g∨j=q) w3 w9):=qh (HO8.out.trans (Out.of hb9))
          have HZW:=qh (HPZ.out _ HO9.out)
          have HA9:Hid (w9.heap[q]?=some (.cells A 110 (0,0))):=qh ((hb9.block q (lt_of_heap HAQ.out)).trans HAQ.out)
          clear hb9
          go_wp2_with (first | (refine wpList_load_row (by rfl) _ _ (by rfl) q (by rfl) _ A _ _ HA9.out Tryz.underlying110 (by rfl) HIA.out ?_) | (refine wpList_store_row (by rfl) _ _ _ (by rfl) p A (by rfl) (by rfl) _ _ HZW.out HIA.out HOLD.out HAO.out ?_))
          refine bodyPost_ret (nresults_c1t rfl _ _ p _ _ _ _ rfl (setRow_heap _ _ _ _ _ _ HZW.out) Tryz.underlying110 rfl HIA.out) rfl ⟨by rw [HNV.out]; rfl,HFB.out _ _ HO9.out⟩
    by_cases k2:kd=2
    · subst k2
      go_wp2_with (first | (refine wpList_build_some (by rfl) _ _ (by rfl) [(0,.int .i64 2)] (by first | rfl | (simp [Act.eval]; done) | kernel_rfl) C HBL.out ?_) | (refine wpList_store_fresh (by rfl) _ _ _ (by rfl) w2.heap.size rfl C (by rfl) (by rfl) _ _ HI2.out HS19.out.symm HOC.out ?_))
      obtain ⟨q,hq⟩:∃ q,w2.heap.size=q:=⟨_,rfl⟩
      rw [hq] at HNA HPZ HFB HGQ ⊢
      generalize (w2.alloc (.cells C 110))=w3 at *
      clear hq n0
      refine (nreadPath_st false (r,0) g w3 HR3.out HL.out).mono ?_
      rintro e w4 ⟨rfl,hr4,ho4⟩
      have hle1:(Nd.rdP false (r,0)).2.1.length<=r.length:=Nd.rdT_le 9 (r,0)
      have HNN:Hid (Nd.rdN k r=((⟨2,(Nd.rdP false (r,0)).1.1,[],Nd.none16.set 0 (Nd.rdB 32 (Nd.rdP false (r,0)).2).1⟩,(Nd.rdP false (r,0)).1.2),(Nd.rdB 32 (Nd.rdP false (r,0)).2).2)):=qh ((if_neg (by have:=HKD.out; omega)).trans (if_pos (by have:=HKD.out; omega)))
      obtain ⟨⟨⟨P,ok⟩,st1⟩,hP⟩:∃ X,Nd.rdP false (r,0)=X:=⟨_,rfl⟩
      rw [hP] at hr4 HNN hle1 ⊢
      have HN4:Hid (NodeAt w4 q ⟨2,[],[],Nd.none16⟩):=qh ((ho4.block q (lt_of_heap HNA.out) (Nat.ne_of_gt HGQ.out)).trans HNA.out)
      have c4:=HN4.out.path
      have f4:=HN4.out.free 1
      have HN5:Hid (NodeAt (w4.setCell ⟨q,1,none⟩ (.string ⟨P.toArray⟩)) q ⟨2,P,[],Nd.none16⟩):=qh (HN4.out.setPath P)
      have HR5:Hid (Rd (w4.setCell ⟨q,1,none⟩ (.string ⟨P.toArray⟩)) g st1.1 st1.2):=qh ((heap_setCell_other w4 ⟨q,1,none⟩ g _ (Nat.ne_of_lt HGQ.out)).trans hr4)
      have HO5:Hid (Out (fun j=>j=g∨j=q) w3 (w4.setCell ⟨q,1,none⟩ (.string ⟨P.toArray⟩))):=qh (((Out.refl _ w3).trans ho4.two).setCell (p:=⟨q,1,none⟩) (Or.inr rfl) _)
      have HLE1:=qh hle1
      clear hr4 ho4 hP hle1
      go_wp2_with fail
      generalize (w4.setCell ⟨q,1,none⟩ (.string ⟨P.toArray⟩))=w5 at *
      clear c4 f4
      refine (nrbytes_st 32 st1 g w5 HR5.out (Nat.le_trans HLE1.out HL.out)).mono ?_
      rintro e w6 ⟨rfl,hr6,ho6⟩
      obtain ⟨⟨V,st2⟩,hV⟩:∃ X,Nd.rdB 32 st1=X:=⟨_,rfl⟩
      have hV':Nd.rdB 32 ((P,ok),st1).2=(V,st2):=hV
      rw [hV'] at HNN
      rw [hV] at hr6 ⊢
      have HN6:Hid (NodeAt w6 q ⟨2,P,[],Nd.none16⟩):=qh ((ho6.block q (lt_of_heap HN5.out) (Nat.ne_of_gt HGQ.out)).trans HN5.out)
      have c6:=HN6.out.kid 0 (show 0<Nd.none16.length by decide)
      have f6:=HN6.out.free 3
      have HN7:Hid (NodeAt (w6.setCell ⟨q,3,none⟩ (.string ⟨V.toArray⟩)) q ⟨2,P,[],Nd.none16.set 0 V⟩):=qh (HN6.out.setKid 0 V)
      have HR7:Hid (Rd (w6.setCell ⟨q,3,none⟩ (.string ⟨V.toArray⟩)) g st2.1 st2.2):=qh ((heap_setCell_other w6 ⟨q,3,none⟩ g _ (Nat.ne_of_lt HGQ.out)).trans hr6)
      have HO7:Hid (Out (fun j=>j=g∨j=q) w3 (w6.setCell ⟨q,3,none⟩ (.string ⟨V.toArray⟩))):=qh ((HO5.out.trans ho6.two).setCell (p:=⟨q,3,none⟩) (Or.inr rfl) _)
      have HM16:Hid ((⟨2,P,[],Nd.none16.set 0 V⟩:N).kids.length=16):=qh rfl
      clear hr6 ho6 hV hV' HN4 HN5 HR5 HO5 HN6
      obtain ⟨m,hm⟩:∃ m:N,(⟨2,P,[],Nd.none16.set 0 V⟩:N)=m:=⟨_,rfl⟩
      have HNQ:Hid (Nd.rdN k r=((m,ok),st2)):=qh (by rw [← hm]; exact HNN.out)
      rw [hm] at HN7 HM16
      clear hm HNN
      simp only [Nat.add_zero] at c6
      obtain ⟨w7,hw7⟩:∃ w7,(w6.setCell ⟨q,3,none⟩ (.string ⟨V.toArray⟩))=w7:=⟨_,rfl⟩
      rw [hw7] at HN7 HR7 HO7
      have HDD:Hid (D=if (ok&&(decide (Pw.endC st2=0)&&Nd.fine m))=true then (m,0) else (Nd.zero,80)):=qh (by rw [← HD.out,Nd.dec,Nd.decOK,HNQ.out])
      cases ok with
      | false=>
        obtain rfl:D=(Nd.zero,80):=HDD.out
        have HZW:=qh (HPZ.out _ HO7.out)
        go_wp2_with (first | (refine wpList_build_some (by rfl) _ _ (by rfl) [] (by first | rfl | (simp [Act.eval]; done) | kernel_rfl) Z HBZ.out ?_) | (refine wpList_store_row (by rfl) _ _ _ (by rfl) p Z (by rfl) (by rfl) _ _ HZW.out HIZ.out rfl HOZ.out ?_))
        refine bodyPost_ret (nresults_c1t rfl _ _ p _ _ _ _ rfl (setRow_heap _ _ _ _ _ _ HZW.out) Tryz.underlying110 rfl HIZ.out) rfl ⟨by rw [← HZQ.out]; rfl,HFB.out _ _ HO7.out⟩
      | true=>
        obtain ⟨E,hE⟩:∃ E,Pw.endC st2=E:=⟨_,rfl⟩
        have HEN:=qh (rend_st st2 g w7 HR7.out)
        rw [hE] at HEN HDD
        clear hE
        go_wp2_with fail
        refine HEN.out.mono ?_
        rintro e w8 ⟨rfl,ho8⟩
        have HO8:Hid (Out (fun j=>j=g∨j=q) w3 w8):=qh (HO7.out.trans ho8.two)
        have HN8:Hid (NodeAt w8 q m):=qh ((ho8.block q (lt_of_heap HN7.out) (Nat.ne_of_gt HGQ.out)).trans HN7.out)
        clear ho8
        by_cases hE0:E=0
        case neg=>
          have hE1:(E == 0)=false:=by rw [beq_eq_false_iff_ne]; exact hE0
          have hE2:(E != 0)=true:=by rw [bne_iff_ne]; exact hE0
          obtain rfl:D=(Nd.zero,80):=HDD.out.trans (if_neg (by rw [decide_eq_false hE0]; simp))
          have HZW:=qh (HPZ.out _ HO8.out)
          clear hE0
          go_wp2_with (first | (refine wpList_build_some (by rfl) _ _ (by rfl) [] (by first | rfl | (simp [Act.eval]; done) | kernel_rfl) Z HBZ.out ?_) | (refine wpList_store_row (by rfl) _ _ _ (by rfl) p Z (by rfl) (by rfl) _ _ HZW.out HIZ.out rfl HOZ.out ?_))
          refine bodyPost_ret (nresults_c1t rfl _ _ p _ _ _ _ rfl (setRow_heap _ _ _ _ _ _ HZW.out) Tryz.underlying110 rfl HIZ.out) rfl ⟨by rw [← HZQ.out]; rfl,HFB.out _ _ HO8.out⟩
        subst hE0
        have HCK:=qh (fun w=>ncheck_any m w HM16.out)
        have HAQ:Hid (w8.heap[q]?=some (.cells (ncl m).toArray 110 (0,0))):=qh HN8.out
        have HAO:=qh (ncl_one m)
        have HASZ:Hid ((ncl m).toArray.size=19):=qh (by rw [List.size_toArray,ncl_length m HM16.out])
        have HNV:Hid (ndval m=.agg (ncl m).toArray):=qh rfl
        rw [HNV.out] at HCK
        obtain ⟨A,hA⟩:∃ A,(ncl m).toArray=A:=⟨_,rfl⟩
        rw [hA] at HCK HAQ HAO HASZ HNV
        have HIA:Hid ((Tryz.prog.info? 110).map (·.size)=some A.size):=qh (by rw [HASZ.out]; exact HI19.out)
        have HOLD:Hid (Z.size=A.size):=qh (HSZ.out.trans HASZ.out.symm)
        clear hA
        cases hf:Nd.fine m with
        | false=>
          rw [hf] at HCK HDD
          rw [if_neg (by decide)] at HCK
          obtain rfl:D=(Nd.zero,80):=HDD.out
          clear hf
          go_wp2_with (refine wpList_load_row_w (by rfl) _ _ (by rfl) q (by rfl) _ A _ _ HAQ.out Tryz.underlying110 (by rfl) HIA.out ?_)
          refine (HCK.out _).mono ?_
          rintro e w9 ⟨rfl,hb9⟩
          have HO9:Hid (Out (fun j=>j=g∨j=q) w3 w9):=qh (HO8.out.trans (Out.of hb9))
          have HZW:=qh (HPZ.out _ HO9.out)
          clear hb9
          go_wp2_with (first | (refine wpList_build_some (by rfl) _ _ (by rfl) [] (by first | rfl | (simp [Act.eval]; done) | kernel_rfl) Z HBZ.out ?_) | (refine wpList_store_row (by rfl) _ _ _ (by rfl) p Z (by rfl) (by rfl) _ _ HZW.out HIZ.out rfl HOZ.out ?_))
          refine bodyPost_ret (nresults_c1t rfl _ _ p _ _ _ _ rfl (setRow_heap _ _ _ _ _ _ HZW.out) Tryz.underlying110 rfl HIZ.out) rfl ⟨by rw [← HZQ.out]; rfl,HFB.out _ _ HO9.out⟩
        | true=>
          rw [hf] at HCK HDD
          rw [if_pos rfl] at HCK
          obtain rfl:D=(m,0):=HDD.out
          clear hf
          go_wp2_with (refine wpList_load_row_w (by rfl) _ _ (by rfl) q (by rfl) _ A _ _ HAQ.out Tryz.underlying110 (by rfl) HIA.out ?_)
          refine (HCK.out _).mono ?_
          rintro e w9 ⟨rfl,hb9⟩
          have HO9:Hid (Out (fun j=>j=g∨j=q) w3 w9):=qh (HO8.out.trans (Out.of hb9))
          have HZW:=qh (HPZ.out _ HO9.out)
          have HA9:Hid (w9.heap[q]?=some (.cells A 110 (0,0))):=qh ((hb9.block q (lt_of_heap HAQ.out)).trans HAQ.out)
          clear hb9
          go_wp2_with (first | (refine wpList_load_row (by rfl) _ _ (by rfl) q (by rfl) _ A _ _ HA9.out Tryz.underlying110 (by rfl) HIA.out ?_) | (refine wpList_store_row (by rfl) _ _ _ (by rfl) p A (by rfl) (by rfl) _ _ HZW.out HIA.out HOLD.out HAO.out ?_))
          refine bodyPost_ret (nresults_c1t rfl _ _ p _ _ _ _ rfl (setRow_heap _ _ _ _ _ _ HZW.out) Tryz.underlying110 rfl HIA.out) rfl ⟨by rw [HNV.out]; rfl,HFB.out _ _ HO9.out⟩
    by_cases k3:kd=3
    · subst k3
      go_wp2_with (first | (refine wpList_build_some (by rfl) _ _ (by rfl) [(0,.int .i64 3)] (by first | rfl | (simp [Act.eval]; done) | kernel_rfl) C HBL.out ?_) | (refine wpList_store_fresh (by rfl) _ _ _ (by rfl) w2.heap.size rfl C (by rfl) (by rfl) _ _ HI2.out HS19.out.symm HOC.out ?_))
      obtain ⟨q,hq⟩:∃ q,w2.heap.size=q:=⟨_,rfl⟩
      rw [hq] at HNA HPZ HFB HGQ ⊢
      generalize (w2.alloc (.cells C 110))=w3 at *
      clear hq n0
      refine (nreadKids_st (r,0) g w3 HR3.out HL.out).mono ?_
      rintro e w4 ⟨rfl,hr4,ho4⟩
      have hle1:(Nd.rdK (r,0)).2.1.length<=r.length:=Nat.le_trans (Nd.rdKids_le _ _ _) (Nd.rdB_le 2 (r,0))
      have HNN:Hid (Nd.rdN k r=((⟨3,[],(Nd.rdT 32 (Nd.rdK (r,0)).2).1,(Nd.rdK (r,0)).1⟩,true),(Nd.rdT 32 (Nd.rdK (r,0)).2).2)):=qh ((if_neg (by have:=HKD.out; omega)).trans ((if_neg (by have:=HKD.out; omega)).trans (if_pos (by have:=HKD.out; omega))))
      have hkl:=Nd.rdK_len (r,0)
      obtain ⟨⟨K,st1⟩,hP⟩:∃ X,Nd.rdK (r,0)=X:=⟨_,rfl⟩
      rw [hP] at hr4 HNN hle1 hkl ⊢
      have hkl:K.length=16:=hkl
      have HN4:Hid (NodeAt w4 q ⟨3,[],[],Nd.none16⟩):=qh ((ho4.block q (lt_of_heap HNA.out) (Nat.ne_of_gt HGQ.out)).trans HNA.out)
      have HTH:=qh (HN4.out.there rfl)
      have HN5:Hid (NodeAt (w4.setCells q 3 (scells K)) q ⟨3,[],[],K⟩):=qh (HN4.out.setKids K (by rw [hkl]; rfl))
      have HR5:Hid (Rd (w4.setCells q 3 (scells K)) g st1.1 st1.2):=qh ((heap_setCells_other q g (Nat.ne_of_lt HGQ.out) (scells K) 3 w4).trans hr4)
      have HO5:Hid (Out (fun j=>j=g∨j=q) w3 (w4.setCells q 3 (scells K))):=qh (Out.setCells (Or.inr rfl) (scells K) 3 ((Out.refl _ w3).trans ho4.two))
      have HLE1:=qh hle1
      have HKI:Hid ((Tryz.prog.info? 108).map (·.size)=some (scells K).toArray.size):=qh (by rw [List.size_toArray,scells_length,hkl]; kernel_rfl)
      have HKO:=qh (scells_one K)
      have HTH2:Hid (w4.there q 3 (scells K).toArray.size):=qh (by rw [List.size_toArray,scells_length,hkl]; exact HTH.out)
      have HKL:=qh hkl
      clear hr4 ho4 hP hle1 hkl HTH
      go_wp2_with (refine wpList_store_mid (by rfl) _ _ _ (by rfl) q 3 (scells K).toArray (by rfl) (by rfl) HTH2.out HKI.out HKO.out ?_)
      generalize (w4.setCells q 3 (scells K))=w5 at *
      refine (nrtext_st 32 st1 g w5 HR5.out (Nat.le_trans HLE1.out HL.out)).mono ?_
      rintro e w6 ⟨rfl,hr6,ho6⟩
      obtain ⟨⟨V,st2⟩,hV⟩:∃ X,Nd.rdT 32 st1=X:=⟨_,rfl⟩
      have hV':Nd.rdT 32 (K,st1).2=(V,st2):=hV
      rw [hV'] at HNN
      rw [hV] at hr6 ⊢
      have HN6:Hid (NodeAt w6 q ⟨3,[],[],K⟩):=qh ((ho6.block q (lt_of_heap HN5.out) (Nat.ne_of_gt HGQ.out)).trans HN5.out)
      have c6:=HN6.out.val
      have f6:=HN6.out.free 2
      have HN7:Hid (NodeAt (w6.setCell ⟨q,2,none⟩ (.string ⟨V.toArray⟩)) q ⟨3,[],V,K⟩):=qh (HN6.out.setVal V)
      have HR7:Hid (Rd (w6.setCell ⟨q,2,none⟩ (.string ⟨V.toArray⟩)) g st2.1 st2.2):=qh ((heap_setCell_other w6 ⟨q,2,none⟩ g _ (Nat.ne_of_lt HGQ.out)).trans hr6)
      have HO7:Hid (Out (fun j=>j=g∨j=q) w3 (w6.setCell ⟨q,2,none⟩ (.string ⟨V.toArray⟩))):=qh ((HO5.out.trans ho6.two).setCell (p:=⟨q,2,none⟩) (Or.inr rfl) _)
      have HM16:Hid ((⟨3,[],V,K⟩:N).kids.length=16):=qh HKL.out
      clear hr6 ho6 hV hV' HN4 HN5 HR5 HO5 HN6
      obtain ⟨m,hm⟩:∃ m:N,(⟨3,[],V,K⟩:N)=m:=⟨_,rfl⟩
      have HNQ:Hid (Nd.rdN k r=((m,true),st2)):=qh (by rw [← hm]; exact HNN.out)
      rw [hm] at HN7 HM16
      clear hm HNN
      obtain ⟨w7,hw7⟩:∃ w7,(w6.setCell ⟨q,2,none⟩ (.string ⟨V.toArray⟩))=w7:=⟨_,rfl⟩
      rw [hw7] at HN7 HR7 HO7
      have HDD:Hid (D=if (true&&(decide (Pw.endC st2=0)&&Nd.fine m))=true then (m,0) else (Nd.zero,80)):=qh (by rw [← HD.out,Nd.dec,Nd.decOK,HNQ.out])
      obtain ⟨E,hE⟩:∃ E,Pw.endC st2=E:=⟨_,rfl⟩
      have HEN:=qh (rend_st st2 g w7 HR7.out)
      rw [hE] at HEN HDD
      clear hE
      go_wp2_with fail
      refine HEN.out.mono ?_
      rintro e w8 ⟨rfl,ho8⟩
      have HO8:Hid (Out (fun j=>j=g∨j=q) w3 w8):=qh (HO7.out.trans ho8.two)
      have HN8:Hid (NodeAt w8 q m):=qh ((ho8.block q (lt_of_heap HN7.out) (Nat.ne_of_gt HGQ.out)).trans HN7.out)
      clear ho8
      by_cases hE0:E=0
      case neg=>
        have hE1:(E == 0)=false:=by rw [beq_eq_false_iff_ne]; exact hE0
        have hE2:(E != 0)=true:=by rw [bne_iff_ne]; exact hE0
        obtain rfl:D=(Nd.zero,80):=HDD.out.trans (if_neg (by rw [decide_eq_false hE0]; simp))
        have HZW:=qh (HPZ.out _ HO8.out)
        clear hE0
        go_wp2_with (first | (refine wpList_build_some (by rfl) _ _ (by rfl) [] (by first | rfl | (simp [Act.eval]; done) | kernel_rfl) Z HBZ.out ?_) | (refine wpList_store_row (by rfl) _ _ _ (by rfl) p Z (by rfl) (by rfl) _ _ HZW.out HIZ.out rfl HOZ.out ?_))
        refine bodyPost_ret (nresults_c1t rfl _ _ p _ _ _ _ rfl (setRow_heap _ _ _ _ _ _ HZW.out) Tryz.underlying110 rfl HIZ.out) rfl ⟨by rw [← HZQ.out]; rfl,HFB.out _ _ HO8.out⟩
      subst hE0
      have HCK:=qh (fun w=>ncheck_any m w HM16.out)
      have HAQ:Hid (w8.heap[q]?=some (.cells (ncl m).toArray 110 (0,0))):=qh HN8.out
      have HAO:=qh (ncl_one m)
      have HASZ:Hid ((ncl m).toArray.size=19):=qh (by rw [List.size_toArray,ncl_length m HM16.out])
      have HNV:Hid (ndval m=.agg (ncl m).toArray):=qh rfl
      rw [HNV.out] at HCK
      obtain ⟨A,hA⟩:∃ A,(ncl m).toArray=A:=⟨_,rfl⟩
      rw [hA] at HCK HAQ HAO HASZ HNV
      have HIA:Hid ((Tryz.prog.info? 110).map (·.size)=some A.size):=qh (by rw [HASZ.out]; exact HI19.out)
      have HOLD:Hid (Z.size=A.size):=qh (HSZ.out.trans HASZ.out.symm)
      clear hA
      cases hf:Nd.fine m with
      | false=>
        rw [hf] at HCK HDD
        rw [if_neg (by decide)] at HCK
        obtain rfl:D=(Nd.zero,80):=HDD.out
        clear hf
        go_wp2_with (refine wpList_load_row_w (by rfl) _ _ (by rfl) q (by rfl) _ A _ _ HAQ.out Tryz.underlying110 (by rfl) HIA.out ?_)
        refine (HCK.out _).mono ?_
        rintro e w9 ⟨rfl,hb9⟩
        have HO9:Hid (Out (fun j=>j=g∨j=q) w3 w9):=qh (HO8.out.trans (Out.of hb9))
        have HZW:=qh (HPZ.out _ HO9.out)
        clear hb9
        go_wp2_with (first | (refine wpList_build_some (by rfl) _ _ (by rfl) [] (by first | rfl | (simp [Act.eval]; done) | kernel_rfl) Z HBZ.out ?_) | (refine wpList_store_row (by rfl) _ _ _ (by rfl) p Z (by rfl) (by rfl) _ _ HZW.out HIZ.out rfl HOZ.out ?_))
        refine bodyPost_ret (nresults_c1t rfl _ _ p _ _ _ _ rfl (setRow_heap _ _ _ _ _ _ HZW.out) Tryz.underlying110 rfl HIZ.out) rfl ⟨by rw [← HZQ.out]; rfl,HFB.out _ _ HO9.out⟩
      | true=>
        rw [hf] at HCK HDD
        rw [if_pos rfl] at HCK
        obtain rfl:D=(m,0):=HDD.out
        clear hf
        go_wp2_with (refine wpList_load_row_w (by rfl) _ _ (by rfl) q (by rfl) _ A _ _ HAQ.out Tryz.underlying110 (by rfl) HIA.out ?_)
        refine (HCK.out _).mono ?_
        rintro e w9 ⟨rfl,hb9⟩
        have HO9:Hid (Out (fun j=>j=g∨j=q) w3 w9):=qh (HO8.out.trans (Out.of hb9))
        have HZW:=qh (HPZ.out _ HO9.out)
        have HA9:Hid (w9.heap[q]?=some (.cells A 110 (0,0))):=qh ((hb9.block q (lt_of_heap HAQ.out)).trans HAQ.out)
        clear hb9
        go_wp2_with (first | (refine wpList_load_row (by rfl) _ _ (by rfl) q (by rfl) _ A _ _ HA9.out Tryz.underlying110 (by rfl) HIA.out ?_) | (refine wpList_store_row (by rfl) _ _ _ (by rfl) p A (by rfl) (by rfl) _ _ HZW.out HIA.out HOLD.out HAO.out ?_))
        refine bodyPost_ret (nresults_c1t rfl _ _ p _ _ _ _ rfl (setRow_heap _ _ _ _ _ _ HZW.out) Tryz.underlying110 rfl HIA.out) rfl ⟨by rw [HNV.out]; rfl,HFB.out _ _ HO9.out⟩
    have e1:(kd == 1)=false:=by rw [beq_eq_false_iff_ne]; exact k1
    have e2:(kd == 2)=false:=by rw [beq_eq_false_iff_ne]; exact k2
    have e3:(kd == 3)=false:=by rw [beq_eq_false_iff_ne]; exact k3
    have HN7:Hid (NodeAt (w2.alloc (.cells C 110)) w2.heap.size ⟨kd,[],[],Nd.none16⟩):=HNA
    have HNQ:Hid (Nd.rdN k r=((⟨kd,[],[],Nd.none16⟩,true),(r,0))):=qh ((if_neg (by have:=HKD.out; omega)).trans ((if_neg (by have:=HKD.out; omega)).trans ((if_neg (by have:=HKD.out; omega)).trans (by rw [HKD.out]))))
    have HO7:Hid (Out (fun j=>j=g∨j=w2.heap.size) (w2.alloc (.cells C 110)) (w2.alloc (.cells C 110))):=qh (Out.refl _ _)
    have HM16:Hid ((⟨kd,[],[],Nd.none16⟩:N).kids.length=16):=qh rfl
    obtain ⟨st2,hst⟩:∃ st2:Nd.St,(r,0)=st2:=⟨_,rfl⟩
    have HR7:Hid (Rd (w2.alloc (.cells C 110)) g st2.1 st2.2):=qh (by rw [← hst]; exact HR3.out)
    rw [hst] at HNQ
    obtain ⟨m,hm⟩:∃ m:N,(⟨kd,[],[],Nd.none16⟩:N)=m:=⟨_,rfl⟩
    rw [hm] at HN7 HM16 HNQ
    have HDD:Hid (D=if (true&&(decide (Pw.endC st2=0)&&Nd.fine m))=true then (m,0) else (Nd.zero,80)):=qh (by rw [← HD.out,Nd.dec,Nd.decOK,HNQ.out])
    have hnf:Nd.fine m=false:=by
      rw [← hm,Nd.fine_kinds _ rfl]
      simp [k1,k2,k3]
    clear hm hst HR3 HNA k1 k2 k3
    obtain ⟨E,hE⟩:∃ E,Pw.endC st2=E:=⟨_,rfl⟩
    obtain rfl:D=(Nd.zero,80):=by rw [HDD.out,hnf]; simp
    go_wp2_with (first | (refine wpList_build_some (by rfl) _ _ (by rfl) [(0,.int .i64 kd)] (by first | rfl | (simp [Act.eval]; done) | kernel_rfl) C HBL.out ?_) | (refine wpList_store_fresh (by rfl) _ _ _ (by rfl) w2.heap.size rfl C (by rfl) (by rfl) _ _ HI2.out HS19.out.symm HOC.out ?_))
    obtain ⟨q,hq⟩:∃ q,w2.heap.size=q:=⟨_,rfl⟩
    rw [hq] at HN7 HPZ HFB HGQ HO7 ⊢
    generalize (w2.alloc (.cells C 110))=w3 at *
    clear hq n0
    have HEN:=qh (rend_st st2 g w3 HR7.out)
    rw [hE] at HEN
    clear hE
    refine HEN.out.mono ?_
    rintro e w8 ⟨rfl,ho8⟩
    have HO8:Hid (Out (fun j=>j=g∨j=q) w3 w8):=qh (HO7.out.trans ho8.two)
    have HN8:Hid (NodeAt w8 q m):=qh ((ho8.block q (lt_of_heap HN7.out) (Nat.ne_of_gt HGQ.out)).trans HN7.out)
    clear ho8
    by_cases hE0:E=0
    case neg=>
      have hE1:(E == 0)=false:=by rw [beq_eq_false_iff_ne]; exact hE0
      have hE2:(E != 0)=true:=by rw [bne_iff_ne]; exact hE0
      have HZW:=qh (HPZ.out _ HO8.out)
      clear hE0
      go_wp2_with (first | (refine wpList_build_some (by rfl) _ _ (by rfl) [] (by first | rfl | (simp [Act.eval]; done) | kernel_rfl) Z HBZ.out ?_) | (refine wpList_store_row (by rfl) _ _ _ (by rfl) p Z (by rfl) (by rfl) _ _ HZW.out HIZ.out rfl HOZ.out ?_))
      refine bodyPost_ret (nresults_c1t rfl _ _ p _ _ _ _ rfl (setRow_heap _ _ _ _ _ _ HZW.out) Tryz.underlying110 rfl HIZ.out) rfl ⟨by rw [← HZQ.out]; rfl,HFB.out _ _ HO8.out⟩
    subst hE0
    have HCK:=qh (fun w=>ncheck_any m w HM16.out)
    have HAQ:Hid (w8.heap[q]?=some (.cells (ncl m).toArray 110 (0,0))):=qh HN8.out
    have HNV:Hid (ndval m=.agg (ncl m).toArray):=qh rfl
    have HASZ:Hid ((ncl m).toArray.size=19):=qh (by rw [List.size_toArray,ncl_length m HM16.out])
    rw [HNV.out,hnf,if_neg (by decide)] at HCK
    obtain ⟨A,hA⟩:∃ A,(ncl m).toArray=A:=⟨_,rfl⟩
    rw [hA] at HCK HAQ HASZ
    have HIA:Hid ((Tryz.prog.info? 110).map (·.size)=some A.size):=qh (by rw [HASZ.out]; exact HI19.out)
    clear hA hnf HNV HDD
    go_wp2_with (refine wpList_load_row_w (by rfl) _ _ (by rfl) q (by rfl) _ A _ _ HAQ.out Tryz.underlying110 (by rfl) HIA.out ?_)
    refine (HCK.out _).mono ?_
    rintro e w9 ⟨rfl,hb9⟩
    have HO9:Hid (Out (fun j=>j=g∨j=q) w3 w9):=qh (HO8.out.trans (Out.of hb9))
    have HZW:=qh (HPZ.out _ HO9.out)
    clear hb9
    go_wp2_with (first | (refine wpList_build_some (by rfl) _ _ (by rfl) [] (by first | rfl | (simp [Act.eval]; done) | kernel_rfl) Z HBZ.out ?_) | (refine wpList_store_row (by rfl) _ _ _ (by rfl) p Z (by rfl) (by rfl) _ _ HZW.out HIZ.out rfl HOZ.out ?_))
    refine bodyPost_ret (nresults_c1t rfl _ _ p _ _ _ _ rfl (setRow_heap _ _ _ _ _ _ HZW.out) Tryz.underlying110 rfl HIZ.out) rfl ⟨by rw [← HZQ.out]; rfl,HFB.out _ _ HO9.out⟩
theorem Nd.written_most (m:N) (hm:m.kids.length=16) (hf:Nd.fine m=true):(Nd.written m).length<=700:=by
  obtain ⟨a,b,c,d,e⟩:=Nd.fine_parts hf
  have h1:=Nd.all32_flat m.kids a
  have h2:=Code.textL_le' m.val 32 d (by omega)
  have h3:=Code.textL_le' (Nib.packL m.path (decide (m.kind=1))) 9 (by rw [Nib.packL_length]; omega) (by omega)
  have hz:(m.kids.getD 0 []).length<=32:=by
    have:=List.all_eq_true.1 a (m.kids[0]'(by omega)) (List.getElem_mem _)
    rw [List.getD_eq_getElem?_getD,List.getElem?_eq_getElem (by omega)]
    simp only [Bool.or_eq_true,decide_eq_true_eq] at this
    show (m.kids[0]'(by omega)).length<=32
    rcases this with q | q
    · rw [q]; simp
    · omega
  unfold Nd.written Nd.branchL
  rw [List.length_cons]
  split
  · simp only [List.length_cons,List.length_append]
    omega
  · rw [List.length_append]
    split <;> omega
/-! ### the chapter's examples -/
end
section
open Go.RowKit
end
section
open Go.RowKit
open Nd (N)
end
section
open Go.RowKit
theorem size_list (s:List UInt8):(⟨s.toArray⟩:ByteArray).size=s.length:=by simp [ByteArray.size]
theorem dclone_any (s:List UInt8) (w:World) (hl:s.length<=140737488351232):
    Calls Tryz.prog 46 #[.string ⟨s.toArray⟩] w fun e w'=>e=.returned (.string ⟨s.toArray⟩)/\Below w.heap.size w w':=by
  go_enter Tryz.func46,Tryz.ntmps46
  go_wp2_with fail
  refine (shelf_clone ⟨s.toArray⟩ w (by rw [size_list]; omega)).mono ?_
  rintro e w1 ⟨rfl,hb⟩
  go_wp2
  go_ret
  exact ⟨rfl,hb⟩
end
section
open Go.RowKit
open Nd (N)
end
namespace Dig
structure N where
  tag:Int
  text:List UInt8
  dig:List UInt8
theorem N.ext' {a b:N} (h1:a.tag=b.tag) (h2:a.text=b.text) (h3:a.dig=b.dig):a=b:=by
  cases a; cases b; simp_all
instance:DecidableEq N:=fun a b=>
  if h:a.tag=b.tag/\a.text=b.text/\a.dig=b.dig then isTrue (N.ext' h.1 h.2.1 h.2.2) else isFalse (fun e=>h (by subst e; exact ⟨rfl,rfl,rfl⟩))
def zero:N:=⟨0,[],[]⟩
def isTag (t:Int):Bool:=decide (1<=t)&&decide (t<=255)
def taken (L:List N) (n:N):Prop:=isTag n.tag=true/\n.dig.length=32/\n∉L/\L.length<1024
instance (L:List N) (n:N):Decidable (taken L n):=by unfold taken; exact inferInstance
def find (L:List N) (d:List UInt8):Option N:=L.find? (fun n=>decide (n.dig=d))
def clash (L:List N):Option (N × N):=(L.find? (fun n=>decide (find L n.dig≠some n))).map (fun n=>((find L n.dig).getD n,n))
end Dig
end Go.Proofs.YtaficmboooaknaaGreatDoor
