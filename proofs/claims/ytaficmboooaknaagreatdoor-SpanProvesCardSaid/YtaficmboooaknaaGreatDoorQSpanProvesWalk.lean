import Derived.Test.YtaficmboooaknaaGreatDoorPp01
import Derived.Test.YtaficmboooaknaaGreatDoorPp24
import Derived.Test.YtaficmboooaknaaGreatDoorPp27
import Derived.Test.YtaficmboooaknaaGreatDoorPp23
set_option maxRecDepth 100000
set_option maxHeartbeats 16000000
namespace Go.Proofs.YtaficmboooaknaaGreatDoor
open Go.RowKit
open Sto (T St)
theorem samePage_any (P:St) (x:T) (M:List T) (A1 A2 B1 B2:Option Addr) (n1 c1 n2 c2 m1 d1 m2 d2:Nat) (w:World) (ha:ItAt w (.slice A1 n1 c1) P) (hb:ItAt w (.slice B1 m1 d1) P) (hc:Strs w (.slice A2 n2 c2) M) (hd:Strs w (.slice B2 m2 d2) M) (hl:P.length<=1000000) (hm:M.length<=1000000):
    Calls Tryz.prog 14 #[.agg #[.slice A1 n1 c1,.string ⟨x.toArray⟩,.slice A2 n2 c2],.agg #[.slice B1 m1 d1,.string ⟨x.toArray⟩,.slice B2 m2 d2]] w fun r w'=>r=.returned (.bool true)/\Below w.heap.size w w':=by
  obtain ⟨w0,hw0⟩:∃ w0,(w.alloc (.cells #[.slice A1 n1 c1,.string ⟨x.toArray⟩,.slice A2 n2 c2] 31)).alloc (.cells #[.slice B1 m1 d1,.string ⟨x.toArray⟩,.slice B2 m2 d2] 31)=w0:=⟨_,rfl⟩
  obtain ⟨q0,hq0⟩:∃ q0,w.heap.size=q0:=⟨_,rfl⟩
  have hb0:Below w.heap.size w w0:=by rw [← hw0]; exact ((Below.refl _ w).alloc (Nat.le_refl _) _).alloc (by simp) _
  have hpa:PageAt w0 q0 (.slice A1 n1 c1) x (.slice A2 n2 c2):=by
    rw [← hw0,← hq0]
    exact PageAt.below (show PageAt (w.alloc _) _ _ _ _ from heap_alloc_new w _) ((Below.refl _ _).alloc (Nat.le_refl _) _)
  have hpb:PageAt w0 (q0+1) (.slice B1 m1 d1) x (.slice B2 m2 d2):=by
    rw [← hw0,← hq0,← World.size_alloc w (.cells #[.slice A1 n1 c1,.string ⟨x.toArray⟩,.slice A2 n2 c2] 31)]
    exact heap_alloc_new _ _
  have HB0:=qh hb0
  have HSI:Hid (∀ w',Below w0.heap.size w0 w'->Calls Tryz.prog 21 #[.slice A1 n1 c1,.slice B1 m1 d1] w' fun r w''=>r=.returned (.bool true)/\Below w0.heap.size w0 w''):=qh (fun w' h=>
    (sameI_any P P _ _ w' (RowsAt.below (RowsAt.below ha hb0) h) (RowsAt.below (RowsAt.below hb hb0) h) hl hl).mono fun e w'' ⟨q1,q2⟩=>⟨by rw [q1,decide_eq_true rfl],bchain h q2⟩)
  have HST:Hid (∀ w',Below w0.heap.size w0 w'->Calls Tryz.prog 42 #[.slice A2 n2 c2,.slice B2 m2 d2] w' fun r w''=>r=.returned (.bool true)/\Below w0.heap.size w0 w''):=qh (fun w' h=>
    (same_any M M _ _ w' ((hc.below hb0).below h) ((hd.below hb0).below h) (by omega) (by unfold maxLen; omega)).mono fun e w'' ⟨q1,q2⟩=>⟨by rw [q1,decide_eq_true rfl],bchain h q2⟩)
  have HS:Hid (∀ w',Below w0.heap.size w0 w'->Below w0.heap.size w0 w'/\w'.cell? ⟨q0,0,none⟩=some (.slice A1 n1 c1)/\w'.cell? ⟨q0,1,none⟩=some (.string ⟨x.toArray⟩)/\w'.cell? ⟨q0,2,none⟩=some (.slice A2 n2 c2)/\w'.cell? ⟨q0+1,0,none⟩=some (.slice B1 m1 d1)/\w'.cell? ⟨q0+1,1,none⟩=some (.string ⟨x.toArray⟩)/\w'.cell? ⟨q0+1,2,none⟩=some (.slice B2 m2 d2)):=qh (fun w' h=>by
    obtain ⟨a1,a2,a3⟩:=(hpa.below h).cells
    obtain ⟨a4,a5,a6⟩:=(hpb.below h).cells
    exact ⟨h,a1,a2,a3,a4,a5,a6⟩)
  have y1:(x == x)=true:=beq_self_eq_true _
  have BD:Below w0.heap.size w0 w0.drew:=(Below.refl _ _).drew
  clear ha hb hc hd hb0 hpa hpb
  go_enter Tryz.func14,Tryz.ntmps14
  go_upto_region 1 with fail
  try rw [hw0]
  try rw [hq0]
  clear hw0 hq0
  obtain ⟨-,a1,a2,a3,a4,a5,a6⟩:=HS.out _ (Below.refl _ _)
  go_wp2_with fail
  refine (HSI.out _ (Below.refl _ _)).mono ?_
  rintro y wa ⟨rfl,hba⟩
  clear a1 a2 a3 a4 a5 a6
  obtain ⟨-,a1,a2,a3,a4,a5,a6⟩:=HS.out _ hba
  have HBA:=qh hba
  clear hba
  go_wp2_with fail
  refine (HST.out _ HBA.out).mono ?_
  rintro y wb ⟨rfl,hbb⟩
  have HBB:=qh (bchain HB0.out hbb)
  clear hbb
  go_wp2
  go_ret
  exact ⟨rfl,HBB.out⟩
theorem PageAt.apart {B z n:Nat} {t:TypeId} {v:Value} {xs:List Value} {w w':World} {q:Nat} {zi zn:Value} {x:T} (h:PageAt w q zi x zn) (ho:Out (fun j=>v.ownBlock=some j) w w') (hr:w.ownsRow B t z v n xs) (ht:t ≠ 31):PageAt w' q zi x zn:=
  ho.heap h (fun e=>row_block_ne hr ht h e)
theorem EndsAt.apart {B z n:Nat} {t:TypeId} {v:Value} {xs:List Value} {w w':World} {q:Nat} {f e:T} {m:Int} (h:EndsAt w q f e m) (ho:Out (fun j=>v.ownBlock=some j) w w') (hr:w.ownsRow B t z v n xs) (ht:t ≠ 24):EndsAt w' q f e m:=
  ho.heap h (fun e=>row_block_ne hr ht h e)
theorem spanProves_walk (lv:Value) (L:St) (f e:T) (m:Int) (w:World) (hi:ItIn w lv L) (hT:Tab w):
    Calls Tryz.prog 3 #[lv,.agg #[.string ⟨f.toArray⟩,.string ⟨e.toArray⟩,.int .i64 m]] w fun x w'=>x=.returned (.bool true)/\Below w.heap.size w w':=by
  obtain ⟨w0,hw0⟩:∃ w0,w.alloc (.cells #[.string ⟨f.toArray⟩,.string ⟨e.toArray⟩,.int .i64 m] 24)=w0:=⟨_,rfl⟩
  obtain ⟨q0,hq0⟩:∃ q0,w.heap.size=q0:=⟨_,rfl⟩
  have hb0:Below w.heap.size w w0:=by rw [← hw0]; exact (Below.refl _ w).alloc (Nat.le_refl _) _
  have ra:EndsAt w0 q0 f e m:=by rw [← hw0,← hq0]; exact heap_alloc_new w _
  have HB0:=qh hb0
  have HE0:=qh ra
  have HI:=qh (RowsIn.below hi hb0)
  have HT:=qh (hT.below hb0)
  have HWK:Hid (∀ w',Below w0.heap.size w0 w'->Calls Tryz.prog 10 #[] w' fun r w''=>r=.returned (.bool true)/\Below w'.heap.size w' w''):=qh (fun w' h=>spworks_any w' (HT.out.below h))
  obtain ⟨A0,cap0,rfl,-,-⟩:=hi.form
  clear ra hb0 hi hT
  go_enter Tryz.func3,Tryz.ntmps3
  go_upto_region 1 with fail
  try rw [hw0]
  try rw [hq0]
  clear hw0 hq0
  obtain ⟨s0,s1,s2⟩:=HE0.out.cells
  by_cases hf:100 < f.length
  · have p1:decide ((100:Int) < (f.length:Int))=true:=decide_eq_true (by omega)
    clear hf
    go_wp2_with fail
    refine (HWK.out _ (Below.refl _ _)).mono ?_
    rintro x w1 ⟨rfl,hb1⟩
    go_wp2
    go_ret
    exact ⟨rfl,bchain HB0.out hb1⟩
  have p1:decide ((100:Int) < (f.length:Int))=false:=decide_eq_false (by omega)
  have HF:Hid (f.length<=100):=qh (by omega)
  clear hf
  by_cases he:100 < e.length
  · have p2:decide ((100:Int) < (e.length:Int))=true:=decide_eq_true (by omega)
    clear he
    go_wp2_with fail
    refine (HWK.out _ (Below.refl _ _)).mono ?_
    rintro x w1 ⟨rfl,hb1⟩
    go_wp2
    go_ret
    exact ⟨rfl,bchain HB0.out hb1⟩
  have p2:decide ((100:Int) < (e.length:Int))=false:=decide_eq_false (by omega)
  have HE:Hid (e.length<=100):=qh (by omega)
  clear he
  have HSO:=qh (ssome_any L _ w0 HI.out HT.out)
  unfold SSomePost at HSO
  go_wp2_with fail
  refine HSO.out.mono ?_
  rintro x w2 ⟨g,z,rfl,ht,hz,hb2⟩
  have HB2:=qh hb2
  have HE2:=qh (HE0.out.below hb2)
  have HR2:=qh ht
  have HZ2:=qh hz
  obtain ⟨S,hS⟩:∃ S,Spn.someS L=S:=⟨_,rfl⟩
  rw [hS] at HR2 HZ2
  obtain ⟨_,t,_,_,hts⟩:=id HR2.out
  have HPR:Hid (∀ w',TrAt w' g S->Calls Tryz.prog 12 #[.pointer (some ⟨g,0,none⟩),.string ⟨f.toArray⟩,.string ⟨e.toArray⟩,.int .i64 m] w' (SPPost S f e m w')):=qh (fun w' h=>spprove_any f e m w' h (by have:=HF.out; omega) (by have:=HE.out; omega))
  have HRP:Hid (∀ w',ItAt w' z S->Calls Tryz.prog 13 #[z,.string ⟨f.toArray⟩,.string ⟨e.toArray⟩,.int .i64 m] w' (RPPost S f e m w')):=qh (fun w' h=>rspprove_any f e m z w' h hts (by have:=HF.out; omega) (by have:=HE.out; omega))
  unfold SPPost at HPR
  unfold RPPost at HRP
  have HML:Hid ((pnodes S f e m).length<=1000000):=qh (Nat.le_trans (pnodes_len hts f e m) (by decide))
  have HPL:Hid ((Scn.pageR S f e m).1.length<=1000000):=qh (by
    have h1:=hts.few
    have h2:=Scn.allR_len S f e
    unfold Scn.pageR
    split
    · split
      · show (Scn.allR S f e).length<=_; omega
      · show ((Scn.allR S f e).take _).length<=_; simp only [List.length_take]; omega
    · simp)
  clear ht hz hb2 HSO hts hS HI
  obtain ⟨P,hP⟩:∃ P,(Scn.pageR S f e m).1=P:=⟨_,rfl⟩
  obtain ⟨x,hx⟩:∃ x,(Scn.pageR S f e m).2.1=x:=⟨_,rfl⟩
  obtain ⟨c,hc⟩:∃ c,(Scn.pageR S f e m).2.2=c:=⟨_,rfl⟩
  obtain ⟨M,hM⟩:∃ M,pnodes S f e m=M:=⟨_,rfl⟩
  rw [hP,hx,hc,hM] at HPR HRP
  rw [hP] at HPL
  rw [hM] at HML
  clear hP hx hc hM s0 s1 s2
  obtain ⟨s0,s1,s2⟩:=HE2.out.cells
  go_wp2_with fail
  refine (HPR.out w2 HR2.out).mono ?_
  rintro y w3 ⟨A1,n1,c1,A2,n2,c2,rfl,ho3,hn3,hb3⟩
  obtain ⟨w4,hw4⟩:∃ w4,w3.alloc (.cells #[.slice A1 n1 c1,.string ⟨x.toArray⟩,.slice A2 n2 c2] 31)=w4:=⟨_,rfl⟩
  obtain ⟨q4,hq4⟩:∃ q4,w3.heap.size=q4:=⟨_,rfl⟩
  have hb4:Below w3.heap.size w3 w4:=by rw [← hw4]; exact (Below.refl _ w3).alloc (Nat.le_refl _) _
  have HB24:=qh (bchain hb3 hb4)
  have HE4:=qh (HE2.out.below HB24.out)
  have HR4:=qh (HR2.out.below HB24.out)
  have HZ4:=qh (RowsAt.below HZ2.out HB24.out)
  have HO4:=qh (ho3.below hb4)
  have HN4:=qh (hn3.below hb4)
  have HLT:Hid (∀ k,(Value.slice A1 n1 c1).ownBlock=some k->k < w4.heap.size):=qh (fun k hk=>Nat.lt_of_lt_of_le (own_itlt ho3 k hk).2 hb4.size)
  have HLN:Hid (∀ k,(Value.slice A2 n2 c2).ownBlock=some k->k < w4.heap.size):=qh (fun k hk=>Nat.lt_of_lt_of_le (Own.lt hn3 k hk).2 hb4.size)
  have HP4:Hid (PageAt w4 q4 (.slice A1 n1 c1) x (.slice A2 n2 c2)):=qh (by rw [← hw4,← hq4]; exact heap_alloc_new w3 _)
  clear s0 s1 s2 hb3 hb4 ho3 hn3
  go_upto_region 7 with fail
  try rw [hw4]
  try rw [hq4]
  clear hw4 hq4
  obtain ⟨s0,s1,s2⟩:=HE4.out.cells
  go_wp2_with fail
  refine (HRP.out w4 HZ4.out).mono ?_
  rintro y w5 ⟨B1,m1,d1,B2,m2,d2,rfl,ho5,hlo5,hn5,hb5⟩
  obtain ⟨w6,hw6⟩:∃ w6,w5.alloc (.cells #[.slice B1 m1 d1,.string ⟨x.toArray⟩,.slice B2 m2 d2] 31)=w6:=⟨_,rfl⟩
  obtain ⟨q6,hq6⟩:∃ q6,w5.heap.size=q6:=⟨_,rfl⟩
  have hb6:Below w5.heap.size w5 w6:=by rw [← hw6]; exact (Below.refl _ w5).alloc (Nat.le_refl _) _
  have HB46:=qh (bchain hb5 hb6)
  have HE6:=qh (HE4.out.below HB46.out)
  have HR6:=qh (HR4.out.below HB46.out)
  have HO6:=qh (HO4.out.below HB46.out)
  have HN6:=qh (HN4.out.below HB46.out)
  have HP6:=qh (HP4.out.below HB46.out)
  have HU6:=qh (RowsAt.below ho5 hb6)
  have HV6:=qh (hn5.below hb6)
  have HLU:=qh hlo5
  have HQ6:Hid (PageAt w6 q6 (.slice B1 m1 d1) x (.slice B2 m2 d2)):=qh (by rw [← hw6,← hq6]; exact heap_alloc_new w5 _)
  clear s0 s1 s2 hb5 hb6 ho5 hn5 hlo5 HRP
  go_upto_region 8 with fail
  try rw [hw6]
  try rw [hq6]
  clear hw6 hq6
  obtain ⟨s3,s4,s5⟩:=HP6.out.cells
  obtain ⟨s6,s7,s8⟩:=HQ6.out.cells
  have hcn:((c:Int) != (c:Int))=false:=bne_self_eq_false _
  have HSM:Hid (∀ (A1 A2 B1 B2:Option Addr) (n1 c1 n2 c2 m1 d1 m2 d2:Nat) (w':World),ItAt w' (.slice A1 n1 c1) P->ItAt w' (.slice B1 m1 d1) P->Strs w' (.slice A2 n2 c2) M->Strs w' (.slice B2 m2 d2) M->Calls Tryz.prog 14 #[.agg #[.slice A1 n1 c1,.string ⟨x.toArray⟩,.slice A2 n2 c2],.agg #[.slice B1 m1 d1,.string ⟨x.toArray⟩,.slice B2 m2 d2]] w' fun r w''=>r=.returned (.bool true)/\Below w'.heap.size w' w''):=qh (fun A1 A2 B1 B2 n1 c1 n2 c2 m1 d1 m2 d2 w' a b c d=>samePage_any P x M A1 A2 B1 B2 n1 c1 n2 c2 m1 d1 m2 d2 w' a b c d HPL.out HML.out)
  go_wp2_with fail
  refine (HSM.out _ _ _ _ _ _ _ _ _ _ _ _ w6 HO6.out.at_ HU6.out HN6.out.strs HV6.out.strs).mono ?_
  rintro y w7 ⟨rfl,hb7⟩
  have HB27:Hid (Below w2.heap.size w2 w7):=qh (bchain (bchain HB24.out HB46.out) hb7)
  have HE7:=qh (HE6.out.below hb7)
  have HR7:=qh (HR6.out.below hb7)
  have HO7:=qh (HO6.out.below hb7)
  have HN7:=qh (HN6.out.below hb7)
  have HP7:=qh (HP6.out.below hb7)
  have HQ7:=qh (HQ6.out.below hb7)
  have HU7:=qh (RowsAt.below HU6.out hb7)
  have HV7:=qh (HV6.out.below hb7)
  clear s3 s4 s5 s6 s7 s8 hb7
  obtain ⟨s3,s4,s5⟩:=HP7.out.cells
  go_wp2_with fail
  refine (spoilTexts_own M (.slice A2 n2 c2) w2.heap.size w7 HN7.out HML.out).mono ?_
  rintro y w8 ⟨rfl,ho8⟩
  have HB28:Hid (Below w2.heap.size w2 w8):=qh (HB27.out.trans (ho8.below (fun k hk=>(Own.lt HN7.out k hk).1) HB27.out.size))
  have HE8:=qh (HE7.out.apart ho8 HN7.out (by decide))
  have HP8:=qh (HP7.out.apart ho8 HN7.out (by decide))
  have HQ8:=qh (HQ7.out.apart ho8 HN7.out (by decide))
  have HR8:=qh (trat_out HR7.out ho8 (fun k hk=>own_bare HN7.out k hk))
  have HO8:Hid (OwnI w8 w2.heap.size (.slice A1 n1 c1) P):=qh (row_apart HO7.out ho8 (fun k hk q=>by
    obtain ⟨cs,fl,hh⟩:=own_block HO7.out k hk
    exact row_block_ne HN7.out (by decide) hh q))
  have HU8:Hid (ItAt w8 (.slice B1 m1 d1) P):=qh (RowsAt.outF HU7.out ho8 (fun k cs fl hk hh=>row_block_ne HN7.out (by decide) hh hk))
  have HV8:Hid (Own w8 w4.heap.size (.slice B2 m2 d2) M):=qh (keep_own HV7.out ho8 (fun k hk q=>by have h1:=(Own.lt HV7.out k hk).1; have h2:=HLN.out k q; omega))
  clear s3 s4 s5 ho8
  obtain ⟨s3,s4,s5⟩:=HP8.out.cells
  go_wp2_with fail
  refine (spoilI_own P (.slice A1 n1 c1) w2.heap.size w8 HO8.out HPL.out).mono ?_
  rintro y w9 ⟨rfl,ho9⟩
  have HB29:Hid (Below w2.heap.size w2 w9):=qh (HB28.out.trans (ho9.below (fun k hk=>(own_itlt HO8.out k hk).1) HB28.out.size))
  have HE9:=qh (HE8.out.apart ho9 HO8.out (by decide))
  have HQ9:=qh (HQ8.out.apart ho9 HO8.out (by decide))
  have HR9:=qh (trat_out HR8.out ho9 (fun k hk cs t fl hh=>by rw [itm_bare HO8.out k hk cs t fl hh]; decide))
  have HU9:Hid (ItAt w9 (.slice B1 m1 d1) P):=qh (ItAt.outA HU8.out ho9 (fun a ha q=>by have h1:=HLU.out a ha; have h2:=HLT.out _ q; omega))
  have HV9:Hid (Own w9 w4.heap.size (.slice B2 m2 d2) M):=qh (keep_own HV8.out ho9 (fun k hk q=>by
    obtain ⟨cs,fl,hh⟩:=own_block HV8.out k hk
    exact row_block_ne HO8.out (by decide) hh q))
  clear s3 s4 s5 ho9
  obtain ⟨s0,s1,s2⟩:=HE9.out.cells
  go_wp2_with fail
  refine (HPR.out w9 HR9.out).mono ?_
  rintro y wa ⟨C1,k1,e1,C2,k2,e2,rfl,hoa,hna,hba⟩
  obtain ⟨wb,hwb⟩:∃ wb,wa.alloc (.cells #[.slice C1 k1 e1,.string ⟨x.toArray⟩,.slice C2 k2 e2] 31)=wb:=⟨_,rfl⟩
  obtain ⟨qb,hqb⟩:∃ qb,wa.heap.size=qb:=⟨_,rfl⟩
  have hbb:Below wa.heap.size wa wb:=by rw [← hwb]; exact (Below.refl _ wa).alloc (Nat.le_refl _) _
  have HB9b:=qh (bchain hba hbb)
  have HQb:=qh (HQ9.out.below HB9b.out)
  have HUb:=qh (RowsAt.below HU9.out HB9b.out)
  have HVb:=qh (HV9.out.below HB9b.out)
  have HOb:=qh (hoa.below hbb)
  have HNb:=qh (hna.below hbb)
  have HPb:Hid (PageAt wb qb (.slice C1 k1 e1) x (.slice C2 k2 e2)):=qh (by rw [← hwb,← hqb]; exact heap_alloc_new wa _)
  have HB2b:Hid (Below w2.heap.size w2 wb):=qh (bchain HB29.out HB9b.out)
  have HB0b:Hid (Below w0.heap.size w0 wb):=qh (bchain HB2.out HB2b.out)
  clear s0 s1 s2 hba hbb hoa hna
  go_upto_region 13 with fail
  try rw [hwb]
  try rw [hqb]
  clear hwb hqb
  obtain ⟨s3,s4,s5⟩:=HPb.out.cells
  obtain ⟨s6,s7,s8⟩:=HQb.out.cells
  go_wp2_with fail
  refine (HSM.out _ _ _ _ _ _ _ _ _ _ _ _ wb HOb.out.at_ HUb.out HNb.out.strs HVb.out.strs).mono ?_
  rintro y wc ⟨rfl,hbc⟩
  have HB0c:=qh (bchain HB0b.out hbc)
  clear hbc s3 s4 s5 s6 s7 s8
  go_wp2_with fail
  refine (HWK.out _ HB0c.out).mono ?_
  rintro y wd ⟨rfl,hbd⟩
  have HBE:=qh (bchain HB0.out (bchain HB0c.out hbd))
  clear hbd
  go_wp2
  go_ret
  exact ⟨rfl,HBE.out⟩
theorem spanProves_law (lv:Value) (L:St) (f e:T) (m:Int) (w:World) (hi:ItIn w lv L) (_:L.length * 32<=reachBytes) (_:(Lit.int .i64 m).wf=true) (hT:Tab w):
    Calls Tryz.prog 3 #[lv,.agg #[.string ⟨f.toArray⟩,.string ⟨e.toArray⟩,.int .i64 m]] w fun x w'=>x=.returned (.bool true)/\Below w.heap.size w w':=spanProves_walk lv L f e m w hi hT
end Go.Proofs.YtaficmboooaknaaGreatDoor
