import Derived.Test.YtaficmboooaknaaGreatDoorPp01
import Derived.Test.YtaficmboooaknaaGreatDoorPp19
import Derived.Test.YtaficmboooaknaaGreatDoorPp04
import Derived.Test.YtaficmboooaknaaGreatDoorPp05
import Derived.Test.YtaficmboooaknaaGreatDoorPp16
import Derived.Test.YtaficmboooaknaaGreatDoorPp15
import Derived.Test.YtaficmboooaknaaGreatDoorPp12
import Derived.Test.YtaficmboooaknaaGreatDoorPp07
import Derived.Test.YtaficmboooaknaaGreatDoorPp10
set_option maxRecDepth 100000
set_option maxHeartbeats 16000000
namespace Go.Proofs.YtaficmboooaknaaGreatDoor
section
open Go.RowKit
open Sto (T St)
open Go.Proofs.YtaficmboooaknaaGreatDoor.Nd (N)
theorem spstep_any (n:N) (i:Nat) (w:World) (hn:n.kids.length=16) (hi:i < 16):
    Calls Tryz.prog 117 #[ndval n,.int .i64 i] w fun e w'=>e=.returned (.string ⟨(Spn.stepP n i).toArray⟩)/\Below w.heap.size w w':=by
  obtain ⟨C,hC,HB0,HCE,HI,HI2⟩:=nbox n w hn
  unfold ndval Spn.stepP
  rw [hC]
  obtain ⟨c0,c1,-⟩:=HCE.out _ (Below.refl _ _)
  obtain ⟨kd,P,V,K⟩:=n
  dsimp only at c0 c1 ⊢
  clear hC hn
  by_cases hk:kd=3
  · subst hk
    rw [if_pos rfl]
    have hu:((UInt8.ofNat i).toNat:Int)=(i:Int):=by simp [UInt8.toNat_ofNat']; omega
    have hcv:=conv_one' (w.alloc (.cells C 110)) (UInt8.ofNat i) (i:Int) hu.symm (w.heap.size+1) (by simp)
    have hw:IntKind.u8.wrap (i:Int)=(i:Int):=by unfold IntKind.wrap; simp [IntKind.bits,IntKind.signed]; omega
    clear hu
    go_enter Tryz.func117,Tryz.ntmps117
    go_wp2
    go_ret
    exact ⟨rfl,HB0.out.alloc HB0.out.size _⟩
  · rw [if_neg hk]
    have hk1:(kd == 3)=false:=beq_eq_false_iff_ne.2 hk
    clear hk
    go_enter Tryz.func117,Tryz.ntmps117
    go_wp2
    go_ret
    exact ⟨rfl,HB0.out⟩
theorem key_all (q:T) (hl:q.length<=1000000):
    ∃ (k:T) (c:Nat),(∀ w,Calls Tryz.prog 84 #[.string ⟨q.toArray⟩] w (fun e w'=>e=.returned (.tuple #[.string ⟨k.toArray⟩,.int .i64 c])/\Below w.heap.size w w'))/\
      (Spn.keyP q).isSome=(decide (c=0) && Tri.keyed k)/\(∀ j,Spn.keyP q=some j->k=j):=by
  cases hf:Nib.fitL q with
  | false=>
    refine ⟨[],3,fun w=>key_bad q w hl hf,?_,?_⟩
    · unfold Spn.keyP; rw [if_neg (by rw [hf]; simp)]; rfl
    · intro j hj; unfold Spn.keyP at hj; rw [if_neg (by rw [hf]; simp)] at hj; cases hj
  | true=>
    by_cases ho:q.length % 2=0
    · refine ⟨Nib.joinL q,0,fun w=>key_good q w hl hf ho,?_,?_⟩
      · unfold Spn.keyP
        by_cases hk:Tri.keyed (Nib.joinL q)=true
        · rw [if_pos ⟨ho,hf,hk⟩,hk]; rfl
        · rw [if_neg (fun h=>hk h.2.2)]
          have:Tri.keyed (Nib.joinL q)=false:=by simpa using hk
          rw [this]; rfl
      · intro j hj
        unfold Spn.keyP at hj
        split at hj
        · exact Option.some.inj hj
        · cases hj
    · refine ⟨[],4,fun w=>key_odd q w hl hf (by omega),?_,?_⟩
      · unfold Spn.keyP; rw [if_neg (fun h=>ho h.1)]; rfl
      · intro j hj; unfold Spn.keyP at hj; rw [if_neg (fun h=>ho h.1)] at hj; cases hj
theorem bel_al {w w':World} (h:Below w.heap.size w w') (o:Obj):Below w.heap.size w (w'.alloc o):=h.alloc h.size o
def ItemPost (q v:T) (w:World) (e:Ending) (w':World):Prop:=
  ∃ k:T,e=.returned (.tuple #[.agg #[.string ⟨k.toArray⟩,.string ⟨v.toArray⟩],.bool (Spn.keyP q).isSome])/\(∀ j,Spn.keyP q=some j->k=j)/\Below w.heap.size w w'
theorem spitem_any (s:Spn.Sp) (n:N) (w:World) (hn:n.kids.length=16) (hp:s.place.length<=1000) (hq:n.path.length<=1000):
    Calls Tryz.prog 75 #[.agg (spl s).toArray,ndval n] w (ItemPost (s.place ++ n.path) n.val w):=by
  unfold ItemPost
  obtain ⟨k,c,hkey,his,hjj⟩:=key_all (s.place ++ n.path) (by simp; omega)
  have HK:=qh hkey
  have HJ:=qh hjj
  have hcat:=cat_mk s.place n.path
  obtain ⟨q,hqq⟩:∃ q,s.place ++ n.path=q:=⟨_,rfl⟩
  rw [hqq] at hcat HK HJ his ⊢
  obtain ⟨so,hso⟩:∃ so,(Spn.keyP q).isSome=so:=⟨_,rfl⟩
  rw [hso] at his ⊢
  unfold spl
  obtain ⟨w0,hw0⟩:∃ w0,w.alloc (.cells #[.string ⟨s.sum.toArray⟩,.string ⟨s.place.toArray⟩,.string ⟨s.lf.toArray⟩,.string ⟨s.le.toArray⟩] 121)=w0:=⟨_,rfl⟩
  have hb0:Below w.heap.size w w0:=by rw [← hw0]; exact (Below.refl _ w).alloc (Nat.le_refl _) _
  have ra:w0.heap[w.heap.size]?=some (.cells #[.string ⟨s.sum.toArray⟩,.string ⟨s.place.toArray⟩,.string ⟨s.lf.toArray⟩,.string ⟨s.le.toArray⟩] 121 (0,0)):=by rw [← hw0]; exact heap_alloc_new w _
  have hs0:w0.heap.size=w.heap.size+1:=by rw [← hw0,World.size_alloc]
  obtain ⟨C,hC,HB0,HCE,HI,HI2⟩:=nbox n w0 hn
  unfold ndval
  rw [hC]
  rw [hs0] at HCE
  obtain ⟨w1,hw1⟩:∃ w1,(w0.alloc (.cells C 110)).alloc (.cells #[.string ⟨#[]⟩,.string ⟨#[]⟩] 60)=w1:=⟨_,rfl⟩
  have hbx:Below (w0.alloc (.cells C 110)).heap.size (w0.alloc (.cells C 110)) w1:=by rw [← hw1]; exact (Below.refl _ _).alloc (Nat.le_refl _) _
  have HV:=qh (fun w' (h:Below w1.heap.size w1 w')=>(HCE.out w' (bchain hbx h)).2.2.1)
  obtain ⟨-,c1,-⟩:=HCE.out _ hbx
  have sa:=(hbx.block w.heap.size (by have:=lt_of_heap ra; simp; omega)).trans ((HB0.out.block w.heap.size (lt_of_heap ra)).trans ra)
  have s1:w1.cell? ⟨w.heap.size,1,none⟩=some (.string ⟨s.place.toArray⟩):=by rw [cell_of_row _ _ 1 _ _ _ sa]; rfl
  have HR:Hid (w1.heap[w.heap.size+1+1]?=some (.cells #[.string ⟨#[]⟩,.string ⟨#[]⟩] 60 (0,0))):=qh (by rw [← hw1,← hs0,← World.size_alloc w0 (.cells C 110)]; exact heap_alloc_new _ _)
  have HB:=qh (bchain (bchain hb0 HB0.out) hbx)
  rw [← hw0] at hw1
  have HEND:Hid (∀ w2 (v:T),Below w1.heap.size w1 w2->∀ wf,wf=(w2.setCell ⟨w.heap.size+1+1,0,none⟩ (.string ⟨k.toArray⟩)).setCell ⟨w.heap.size+1+1,1,none⟩ (.string ⟨v.toArray⟩)->wf.heap[w.heap.size+1+1]?=some (.cells #[.string ⟨k.toArray⟩,.string ⟨v.toArray⟩] 60 (0,0))/\Below w.heap.size w wf):=qh (fun w2 v h wf hwf=>by
    have r2:=(h.block _ (lt_of_heap HR.out)).trans HR.out
    refine ⟨by rw [hwf]; exact cells_set (cells_set r2 0 _) 1 _,?_⟩
    rw [hwf]
    exact ((bchain HB.out h).setCell (p:=⟨w.heap.size+1+1,0,none⟩) (by simp; omega) _).setCell (p:=⟨w.heap.size+1+1,1,none⟩) (by simp; omega) _)
  have HRC:Hid (∀ w',Below w1.heap.size w1 w'->w'.cell? ⟨w.heap.size+1+1,0,none⟩=some (.string ⟨#[]⟩)/\w'.cell? ⟨w.heap.size+1+1,1,none⟩=some (.string ⟨#[]⟩)/\w'.frozen? ⟨w.heap.size+1+1,0,none⟩=false/\w'.frozen? ⟨w.heap.size+1+1,1,none⟩=false):=qh (fun w' h=>by
    have r2:=(h.block _ (lt_of_heap HR.out)).trans HR.out
    exact ⟨by rw [cell_of_row _ _ 0 _ _ _ r2]; rfl,by rw [cell_of_row _ _ 1 _ _ _ r2]; rfl,frozen_of_row _ _ 0 _ _ r2,frozen_of_row _ _ 1 _ _ r2⟩)
  clear hkey hjj hqq hso hb0 ra hC hbx sa hn hw0 hs0
  have hcases:(so=false/\c ≠ 0) ∨ (so=false/\c=0/\k=[]) ∨ (so=false/\c=0/\k ≠ []/\8 < k.length) ∨ (so=true/\c=0/\k ≠ []/\k.length<=8):=by
    by_cases h0:c=0
    · right
      by_cases h1:k=[]
      · left; subst h1; refine ⟨by rw [his,decide_eq_true h0]; rfl,h0,rfl⟩
      · right
        have hk1:=List.length_pos_iff.2 h1
        by_cases h8:k.length<=8
        · right; exact ⟨by rw [his,decide_eq_true h0]; simp [Tri.keyed,h8]; omega,h0,h1,h8⟩
        · left; exact ⟨by rw [his,decide_eq_true h0]; simp [Tri.keyed]; omega,h0,h1,by omega⟩
    · left; exact ⟨by rw [his,decide_eq_false h0]; rfl,h0⟩
  clear his
  rcases hcases with ⟨rfl,h0⟩ | ⟨rfl,rfl,rfl⟩ | ⟨rfl,rfl,h1,h8⟩ | ⟨rfl,rfl,h1,h8⟩
  · have y1:((c:Int) == 0)=false:=by rw [beq_eq_false_iff_ne]; omega
    clear h0
    go_enter Tryz.func75,Tryz.ntmps75
    go_upto_region 1 with fail
    clear hw1
    go_wp2_with fail
    refine (HK.out _).mono ?_
    rintro e w2 ⟨rfl,hb2⟩
    have HB2:=qh hb2
    have v2:=HV.out w2 hb2
    obtain ⟨r0,r1,f0,f1⟩:=HRC.out w2 hb2
    clear hb2
    go_wp2_with fail
    obtain ⟨hf,hbe⟩:=HEND.out w2 n.val HB2.out _ rfl
    refine bodyPost_ret (nresults_c1t rfl _ _ (w.heap.size+1+1) _ _ _ _ rfl hf Tryz.underlying60 rfl (by kernel_rfl)) rfl ?_
    exact ⟨k,rfl,HJ.out,hbe⟩
  · go_enter Tryz.func75,Tryz.ntmps75
    go_upto_region 1 with fail
    clear hw1
    go_wp2_with fail
    refine (HK.out _).mono ?_
    rintro e w2 ⟨rfl,hb2⟩
    have HB2:=qh hb2
    have v2:=HV.out w2 hb2
    obtain ⟨r0,r1,f0,f1⟩:=HRC.out w2 hb2
    clear hb2
    go_wp2_with fail
    obtain ⟨hf,hbe⟩:=HEND.out w2 n.val HB2.out _ rfl
    refine bodyPost_ret (nresults_c1t rfl _ _ (w.heap.size+1+1) _ _ _ _ rfl hf Tryz.underlying60 rfl (by kernel_rfl)) rfl ?_
    exact ⟨[],rfl,HJ.out,hbe⟩
  · have y2:(k == [])=false:=beq_eq_false_iff_ne.2 h1
    have y3:k.isEmpty=false:=by cases k <;> simp_all
    have y4:(8:Int) < (k.length:Int):=by omega
    have y5:¬ ((k.length:Int)<=8):=by omega
    have y6:decide ((k.length:Int)<=8)=false:=decide_eq_false y5
    clear h1 h8
    go_enter Tryz.func75,Tryz.ntmps75
    go_upto_region 1 with fail
    clear hw1
    go_wp2_with fail
    refine (HK.out _).mono ?_
    rintro e w2 ⟨rfl,hb2⟩
    have HB2:=qh hb2
    have v2:=HV.out w2 hb2
    obtain ⟨r0,r1,f0,f1⟩:=HRC.out w2 hb2
    clear hb2
    go_wp2_with fail
    obtain ⟨hf,hbe⟩:=HEND.out w2 n.val HB2.out _ rfl
    refine bodyPost_ret (nresults_c1t rfl _ _ (w.heap.size+1+1) _ _ _ _ rfl hf Tryz.underlying60 rfl (by kernel_rfl)) rfl ?_
    exact ⟨k,rfl,HJ.out,hbe⟩
  · have y2:(k == [])=false:=beq_eq_false_iff_ne.2 h1
    have y3:k.isEmpty=false:=by cases k <;> simp_all
    have y5:(k.length:Int)<=8:=by omega
    have y6:decide ((k.length:Int)<=8)=true:=decide_eq_true y5
    clear h1 h8
    go_enter Tryz.func75,Tryz.ntmps75
    go_upto_region 1 with fail
    clear hw1
    go_wp2_with fail
    refine (HK.out _).mono ?_
    rintro e w2 ⟨rfl,hb2⟩
    have HB2:=qh hb2
    have v2:=HV.out w2 hb2
    obtain ⟨r0,r1,f0,f1⟩:=HRC.out w2 hb2
    clear hb2
    go_wp2_with fail
    obtain ⟨hf,hbe⟩:=HEND.out w2 n.val HB2.out _ rfl
    refine bodyPost_ret (nresults_c1t rfl _ _ (w.heap.size+1+1) _ _ _ _ rfl hf Tryz.underlying60 rfl (by kernel_rfl)) rfl ?_
    exact ⟨k,rfl,HJ.out,hbe⟩
theorem cut_17 (x:T):(⟨x.toArray⟩:ByteArray).extract 0 17=⟨(x.take 17).toArray⟩:=by
  rw [Lib.extract_eq]; simp
theorem spkid_any (s:Spn.Sp) (sum more:T) (w:World) (hp:s.place.length<=1000) (hq:more.length<=1000):
    Calls Tryz.prog 116 #[.agg (spl s).toArray,.string ⟨sum.toArray⟩,.string ⟨more.toArray⟩] w fun e w'=>e=.returned (.tuple #[.agg (spl (Spn.kidSp s sum more)).toArray,.bool (Spn.playsP s.lf s.le more)])/\Below w.heap.size w w':=by
  have HBH:=qh (fun w=>spbehind_any s.lf s.le more w)
  unfold Spn.kidSp spl
  obtain ⟨b,hb⟩:∃ b,Spn.playsP s.lf s.le more=b:=⟨_,rfl⟩
  rw [hb] at HBH ⊢
  dsimp only
  obtain ⟨R1,hR1⟩:∃ R,Spn.restL s.lf more=R:=⟨_,rfl⟩
  obtain ⟨R2,hR2⟩:∃ R,Spn.restL s.le more=R:=⟨_,rfl⟩
  rw [hR1,hR2] at HBH ⊢
  have hcat:=cat_mk s.place more
  have hcut:=cut_17 (s.place ++ more)
  obtain ⟨w0,hw0⟩:∃ w0,(w.alloc (.cells #[.string ⟨s.sum.toArray⟩,.string ⟨s.place.toArray⟩,.string ⟨s.lf.toArray⟩,.string ⟨s.le.toArray⟩] 121)).alloc (.cells #[.string ⟨#[]⟩,.string ⟨#[]⟩,.string ⟨#[]⟩,.string ⟨#[]⟩] 121)=w0:=⟨_,rfl⟩
  have ha:Below w.heap.size w (w.alloc (.cells #[.string ⟨s.sum.toArray⟩,.string ⟨s.place.toArray⟩,.string ⟨s.lf.toArray⟩,.string ⟨s.le.toArray⟩] 121)):=(Below.refl _ w).alloc (Nat.le_refl _) _
  have hb0:Below w.heap.size w w0:=by rw [← hw0]; exact ha.alloc ha.size _
  have ra:w0.heap[w.heap.size]?=some (.cells #[.string ⟨s.sum.toArray⟩,.string ⟨s.place.toArray⟩,.string ⟨s.lf.toArray⟩,.string ⟨s.le.toArray⟩] 121 (0,0)):=by
    rw [← hw0]
    have h1:=heap_alloc_new w (.cells #[.string ⟨s.sum.toArray⟩,.string ⟨s.place.toArray⟩,.string ⟨s.lf.toArray⟩,.string ⟨s.le.toArray⟩] 121)
    exact (Below.heap_alloc _ _ _ (lt_of_heap h1)).trans h1
  have rb:w0.heap[w.heap.size+1]?=some (.cells #[.string ⟨#[]⟩,.string ⟨#[]⟩,.string ⟨#[]⟩,.string ⟨#[]⟩] 121 (0,0)):=by
    rw [← hw0,← World.size_alloc w (.cells #[.string ⟨s.sum.toArray⟩,.string ⟨s.place.toArray⟩,.string ⟨s.lf.toArray⟩,.string ⟨s.le.toArray⟩] 121)]
    exact heap_alloc_new _ _
  have a1:w0.cell? ⟨w.heap.size,1,none⟩=some (.string ⟨s.place.toArray⟩):=by rw [cell_of_row _ _ 1 _ _ _ ra]; rfl
  have a2:w0.cell? ⟨w.heap.size,2,none⟩=some (.string ⟨s.lf.toArray⟩):=by rw [cell_of_row _ _ 2 _ _ _ ra]; rfl
  have a3:w0.cell? ⟨w.heap.size,3,none⟩=some (.string ⟨s.le.toArray⟩):=by rw [cell_of_row _ _ 3 _ _ _ ra]; rfl
  have HA1:Hid (∀ w',Below w0.heap.size w0 w'->(w'.alloc (.cells #[.string ⟨R1.toArray⟩,.string ⟨R2.toArray⟩] 119)).cell? ⟨w.heap.size,1,none⟩=some (.string ⟨s.place.toArray⟩)):=qh (fun w' h=>by
    have r1:=((bel_al h (.cells #[.string ⟨R1.toArray⟩,.string ⟨R2.toArray⟩] 119)).block _ (lt_of_heap ra)).trans ra
    rw [cell_of_row _ _ 1 _ _ _ r1]; rfl)
  have HRB:Hid (∀ w',Below w0.heap.size w0 w'->(w'.alloc (.cells #[.string ⟨R1.toArray⟩,.string ⟨R2.toArray⟩] 119)).heap[w.heap.size+1]?=some (.cells #[.string ⟨#[]⟩,.string ⟨#[]⟩,.string ⟨#[]⟩,.string ⟨#[]⟩] 121 (0,0))):=qh (fun w' h=>((bel_al h _).block _ (lt_of_heap rb)).trans rb)
  have HB:=qh hb0
  clear hb hR1 hR2 ha ra rb
  by_cases h17:17 < (s.place ++ more).length
  · have q1:((17:Int) < ((s.place ++ more).length:Int)):=by omega
    obtain ⟨Q,hQ⟩:∃ Q,s.place ++ more=Q:=⟨_,rfl⟩
    rw [hQ] at hcat hcut q1 ⊢
    clear h17 hQ
    go_enter Tryz.func116,Tryz.ntmps116
    go_upto_region 1 with fail
    clear hw0
    go_wp2_with fail
    refine (HBH.out _).mono ?_
    rintro e w2 ⟨rfl,hb2⟩
    have HB2:=qh hb2
    have p1:=HA1.out w2 hb2
    have rb2:=HRB.out w2 hb2
    obtain ⟨wx,hwx⟩:∃ wx,w2.alloc (.cells #[.string ⟨R1.toArray⟩,.string ⟨R2.toArray⟩] 119)=wx:=⟨_,rfl⟩
    have HBX:Hid (Below w.heap.size w wx):=qh (by rw [← hwx]; exact bel_al (bchain HB.out hb2) _)
    have rp:wx.heap[w2.heap.size]?=some (.cells #[.string ⟨R1.toArray⟩,.string ⟨R2.toArray⟩] 119 (0,0)):=by rw [← hwx]; exact heap_alloc_new w2 _
    rw [hwx] at p1 rb2
    have g0:wx.cell? ⟨w2.heap.size,0,none⟩=some (.string ⟨R1.toArray⟩):=by rw [cell_of_row _ _ 0 _ _ _ rp]; rfl
    have g1:wx.cell? ⟨w2.heap.size,1,none⟩=some (.string ⟨R2.toArray⟩):=by rw [cell_of_row _ _ 1 _ _ _ rp]; rfl
    have r0:wx.cell? ⟨w.heap.size+1,0,none⟩=some (.string ⟨#[]⟩):=by rw [cell_of_row _ _ 0 _ _ _ rb2]; rfl
    have r1:wx.cell? ⟨w.heap.size+1,1,none⟩=some (.string ⟨#[]⟩):=by rw [cell_of_row _ _ 1 _ _ _ rb2]; rfl
    have r2:wx.cell? ⟨w.heap.size+1,2,none⟩=some (.string ⟨#[]⟩):=by rw [cell_of_row _ _ 2 _ _ _ rb2]; rfl
    have r3:wx.cell? ⟨w.heap.size+1,3,none⟩=some (.string ⟨#[]⟩):=by rw [cell_of_row _ _ 3 _ _ _ rb2]; rfl
    have f0:=frozen_of_row _ _ 0 _ _ rb2
    have f1:=frozen_of_row _ _ 1 _ _ rb2
    have f2:=frozen_of_row _ _ 2 _ _ rb2
    have f3:=frozen_of_row _ _ 3 _ _ rb2
    have HFI:=qh (fun a b c d=>cells_set (cells_set (cells_set (cells_set rb2 0 a) 1 b) 2 c) 3 d)
    have HNX:Hid (w.heap.size<=w.heap.size+1):=qh (Nat.le_succ _)
    clear hb2 rb2 rp
    go_wp2_with fail
    have hf:=HFI.out (.string ⟨sum.toArray⟩) (.string ⟨(Q.take 17).toArray⟩) (.string ⟨R1.toArray⟩) (.string ⟨R2.toArray⟩)
    refine bodyPost_ret (nresults_c1t rfl _ _ (w.heap.size+1) _ _ _ _ rfl hf Tryz.underlying121 rfl (by kernel_rfl)) rfl ?_
    exact ⟨rfl,(((HBX.out.setCell (p:=⟨_,0,none⟩) HNX.out _).setCell (p:=⟨_,1,none⟩) HNX.out _).setCell (p:=⟨_,2,none⟩) HNX.out _).setCell (p:=⟨_,3,none⟩) HNX.out _⟩
  · have q1:¬ ((17:Int) < ((s.place ++ more).length:Int)):=by omega
    have q2:(s.place ++ more).take 17=s.place ++ more:=List.take_of_length_le (by omega)
    rw [q2]
    obtain ⟨Q,hQ⟩:∃ Q,s.place ++ more=Q:=⟨_,rfl⟩
    rw [hQ] at hcat q1 ⊢
    clear h17 hQ q2 hcut
    go_enter Tryz.func116,Tryz.ntmps116
    go_upto_region 1 with fail
    clear hw0
    go_wp2_with fail
    refine (HBH.out _).mono ?_
    rintro e w2 ⟨rfl,hb2⟩
    have HB2:=qh hb2
    have p1:=HA1.out w2 hb2
    have rb2:=HRB.out w2 hb2
    obtain ⟨wx,hwx⟩:∃ wx,w2.alloc (.cells #[.string ⟨R1.toArray⟩,.string ⟨R2.toArray⟩] 119)=wx:=⟨_,rfl⟩
    have HBX:Hid (Below w.heap.size w wx):=qh (by rw [← hwx]; exact bel_al (bchain HB.out hb2) _)
    have rp:wx.heap[w2.heap.size]?=some (.cells #[.string ⟨R1.toArray⟩,.string ⟨R2.toArray⟩] 119 (0,0)):=by rw [← hwx]; exact heap_alloc_new w2 _
    rw [hwx] at p1 rb2
    have g0:wx.cell? ⟨w2.heap.size,0,none⟩=some (.string ⟨R1.toArray⟩):=by rw [cell_of_row _ _ 0 _ _ _ rp]; rfl
    have g1:wx.cell? ⟨w2.heap.size,1,none⟩=some (.string ⟨R2.toArray⟩):=by rw [cell_of_row _ _ 1 _ _ _ rp]; rfl
    have r0:wx.cell? ⟨w.heap.size+1,0,none⟩=some (.string ⟨#[]⟩):=by rw [cell_of_row _ _ 0 _ _ _ rb2]; rfl
    have r1:wx.cell? ⟨w.heap.size+1,1,none⟩=some (.string ⟨#[]⟩):=by rw [cell_of_row _ _ 1 _ _ _ rb2]; rfl
    have r2:wx.cell? ⟨w.heap.size+1,2,none⟩=some (.string ⟨#[]⟩):=by rw [cell_of_row _ _ 2 _ _ _ rb2]; rfl
    have r3:wx.cell? ⟨w.heap.size+1,3,none⟩=some (.string ⟨#[]⟩):=by rw [cell_of_row _ _ 3 _ _ _ rb2]; rfl
    have f0:=frozen_of_row _ _ 0 _ _ rb2
    have f1:=frozen_of_row _ _ 1 _ _ rb2
    have f2:=frozen_of_row _ _ 2 _ _ rb2
    have f3:=frozen_of_row _ _ 3 _ _ rb2
    have HFI:=qh (fun a b c d=>cells_set (cells_set (cells_set (cells_set rb2 0 a) 1 b) 2 c) 3 d)
    have HNX:Hid (w.heap.size<=w.heap.size+1):=qh (Nat.le_succ _)
    clear hb2 rb2 rp
    go_wp2_with fail
    have hf:=HFI.out (.string ⟨sum.toArray⟩) (.string ⟨Q.toArray⟩) (.string ⟨R1.toArray⟩) (.string ⟨R2.toArray⟩)
    refine bodyPost_ret (nresults_c1t rfl _ _ (w.heap.size+1) _ _ _ _ rfl hf Tryz.underlying121 rfl (by kernel_rfl)) rfl ?_
    exact ⟨rfl,(((HBX.out.setCell (p:=⟨_,0,none⟩) HNX.out _).setCell (p:=⟨_,1,none⟩) HNX.out _).setCell (p:=⟨_,2,none⟩) HNX.out _).setCell (p:=⟨_,3,none⟩) HNX.out _⟩
end
section
open Go.RowKit
open Sto (T St)
open Go.Proofs.YtaficmboooaknaaGreatDoor.Nd (N)
theorem Spn.below_step (s:Spn.Sp) (n:N) (i:Nat) (hi:i < 16):(Spn.belowR s n ((List.range 16).drop i)).reverse=(Spn.belowR s n ((List.range 16).drop (i+1))).reverse ++ (if n.kids.getD i []=[] then [] else if Spn.playsP s.lf s.le (Spn.stepP n i) then [Spn.kidSp s (n.kids.getD i []) (Spn.stepP n i)] else []):=by
  rw [List.drop_eq_getElem_cons (by simpa using hi),List.getElem_range]
  unfold Spn.belowR
  rw [List.filterMap_cons]
  by_cases h0:n.kids.getD i []=[]
  · rw [if_pos h0,if_pos h0,List.append_nil]
  · rw [if_neg h0,if_neg h0]
    by_cases hp:Spn.playsP s.lf s.le (Spn.stepP n i)=true
    · rw [if_pos hp,if_pos hp]
      simp
    · rw [if_neg hp,if_neg hp,List.append_nil]
theorem bel_set {w w':World} (h:Below w.heap.size w w') {q i:Nat} (hq:w.heap.size<=q) (u:Value):Below w.heap.size w (w'.setCell ⟨q,i,none⟩ u):=h.setCell (p:=⟨q,i,none⟩) hq u
def ldn (v:Value):Sem Value:=Instr.loadAt 110 v
theorem ldAtn (v:Value):Instr.loadAt 110 v=ldn v:=rfl
attribute [local go_sem ↓] ldAtn
theorem run_ldn {w:World} {g:Nat} {A:Array Value} (hg:w.heap[g]?=some (.cells A 110 (0,0))) (hi:(Tryz.prog.info? 110).map (·.size)=some A.size):(ldn (.pointer (some ⟨g,0,none⟩))).run Tryz.prog w=.ok (.agg A) w:=by
  unfold ldn
  simp only [Instr.loadAt,Instr.sureAddr,Sem.run_bind,Sem.run_pure,Result.andThen_ok,run_loadVar_row w g 110 110 A (0,0) _ hg Tryz.underlying110 (by rfl) hi]
def BelowPost (s:Spn.Sp) (n:N) (w:World) (e:Ending) (w':World):Prop:=
  ∃ z,e=.returned z/\OwnQ w' w.heap.size z (Spn.belowP s n).reverse/\Below w.heap.size w w'
theorem spbelow_any (s:Spn.Sp) (n:N) (w:World) (hn:n.kids.length=16) (hp:s.place.length<=1000) (hq:n.path.length<=900):
    Calls Tryz.prog 77 #[.agg (spl s).toArray,ndval n] w (BelowPost s n w):=by
  unfold BelowPost
  have HST:=qh (fun i w hi=>spstep_any n i w hn hi)
  have HKD:=qh (fun sum more w hm=>spkid_any s sum more w hp hm)
  have HBS:=qh (fun i hi=>Spn.below_step s n i hi)
  have HSL:Hid (∀ i,(Spn.stepP n i).length<=1000):=qh (fun i=>by
    unfold Spn.stepP
    split
    · simp
    · omega)
  obtain ⟨w0,hw0⟩:∃ w0,w.alloc (.cells (spl s).toArray 121)=w0:=⟨_,rfl⟩
  have hb0:Below w.heap.size w w0:=by rw [← hw0]; exact (Below.refl _ w).alloc (Nat.le_refl _) _
  have ra:w0.heap[w.heap.size]?=some (.cells (spl s).toArray 121 (0,0)):=by rw [← hw0]; exact heap_alloc_new w _
  have hs0:w0.heap.size=w.heap.size+1:=by rw [← hw0,World.size_alloc]
  obtain ⟨C,hC,HB0,HCE,HI,HI2⟩:=nbox n w0 hn
  unfold ndval at HST ⊢
  rw [hC] at HST ⊢
  rw [hs0] at HCE
  obtain ⟨w1,hw1⟩:∃ w1,w0.alloc (.cells C 110)=w1:=⟨_,rfl⟩
  rw [hw1] at HB0 HCE
  have HB1:=qh (bchain hb0 HB0.out)
  have HN16:=qh hn
  have HF:Hid (∀ w',Below w1.heap.size w1 w'->(w'.cell? ⟨w.heap.size,0,none⟩=some (.string ⟨s.sum.toArray⟩)/\w'.cell? ⟨w.heap.size,1,none⟩=some (.string ⟨s.place.toArray⟩)/\w'.cell? ⟨w.heap.size,2,none⟩=some (.string ⟨s.lf.toArray⟩)/\w'.cell? ⟨w.heap.size,3,none⟩=some (.string ⟨s.le.toArray⟩))/\(ldn (.pointer (some ⟨w.heap.size+1,0,none⟩))).run Tryz.prog w'=.ok (.agg C) w'/\
      ∀ i (h:i < n.kids.length),w'.cell? ⟨w.heap.size+1,3+i,none⟩=some (.string ⟨n.kids[i].toArray⟩)):=qh (fun w' h=>by
    have sa:=(h.block _ (Nat.lt_of_lt_of_le (lt_of_heap ra) HB0.out.size)).trans ((HB0.out.block _ (lt_of_heap ra)).trans ra)
    obtain ⟨-,-,-,-,hr,hh⟩:=HCE.out w' h
    refine ⟨⟨?_,?_,?_,?_⟩,run_ldn hh HI.out,fun i hi=>hr i _ (by simp [scells,hi])⟩
    · rw [cell_of_row _ _ 0 _ _ _ sa]; rfl
    · rw [cell_of_row _ _ 1 _ _ _ sa]; rfl
    · rw [cell_of_row _ _ 2 _ _ _ sa]; rfl
    · rw [cell_of_row _ _ 3 _ _ _ sa]; rfl)
  have HSZ:Hid (w.heap.size<=w1.heap.size):=qh HB1.out.size
  have HEND:Hid (∀ wr z,OwnQ wr w1.heap.size z (Spn.belowR s n ((List.range 16).drop 0)).reverse->Below w1.heap.size w1 wr->OwnQ wr w.heap.size z (Spn.belowP s n).reverse/\Below w.heap.size w wr):=qh (fun wr z h1 h2=>⟨h1.low HSZ.out,bchain HB1.out h2⟩)
  have hw2:(w.alloc (.cells #[.string ⟨s.sum.toArray⟩,.string ⟨s.place.toArray⟩,.string ⟨s.lf.toArray⟩,.string ⟨s.le.toArray⟩] 121)).alloc (.cells C 110)=w1:=by rw [← hw1,← hw0]; rfl
  clear hn hp hq hb0 ra hC hw0 hw1 hs0 HB0 HCE
  unfold spl at HKD ⊢
  go_enter Tryz.func77,Tryz.ntmps77
  go_upto_region 3 with fail
  clear hw2
  go_loopw [5,6] (fun zv iv wr=>∃ (k:Nat) (z:Value),z=zv/\k<=16/\iv=.int .i64 ((k:Int) - 1)/\OwnQ wr w1.heap.size z (Spn.belowR s n ((List.range 16).drop k)).reverse/\Below w1.heap.size w1 wr) (fun _ iv _=>(intOf iv+1).toNat)
  case atStart=>exact ⟨16,_,rfl,Nat.le_refl _,by go_num,OwnQ.nil _ _,Below.refl _ _⟩
  case round=>
    obtain ⟨k,z,rfl,hk,rfl,hown,hb⟩:=hrel
    cases k with
    | zero=>
      obtain ⟨h1,h2⟩:=HEND.out wr z hown hb
      have H1:=qh h1
      have H2:=qh h2
      clear hown hb h1 h2
      go_wp2
      go_ret
      exact ⟨_,rfl,H1.out,H2.out⟩
    | succ i=>
      have hi:i < 16:=by omega
      have hbs:=HBS.out i hi
      have hgd:n.kids.getD i []=n.kids[i]'(by have:=HN16.out; omega):=by
        rw [List.getD_eq_getElem?_getD,List.getElem?_eq_getElem (by have:=HN16.out; omega)]
        rfl
      rw [hgd] at hbs
      have hkc:=(HF.out wr hb).2.2 i (by have:=HN16.out; omega)
      obtain ⟨kd,hkd⟩:∃ kd,n.kids[i]'(by have:=HN16.out; omega)=kd:=⟨_,rfl⟩
      rw [hkd] at hbs hkc
      have HKC:Hid (∀ w',Below w1.heap.size w1 w'->w'.cell? ⟨w.heap.size+1,3+i,none⟩=some (.string ⟨kd.toArray⟩)):=qh (fun w' h=>by rw [← hkd]; exact (HF.out w' h).2.2 i (by have:=HN16.out; omega))
      have y0:(0:Int)<=(i:Int):=by omega
      have y1:(i:Int) < 16:=by omega
      have HOWN:=qh hown
      have HB:=qh hb
      clear hgd hkd hown hb
      by_cases hk0:kd=[]
      · rw [if_pos hk0,List.append_nil] at hbs
        have HBQ:=qh hbs
        have q1:(kd == [])=true:=beq_iff_eq.2 hk0
        have q2:kd.isEmpty=true:=by rw [hk0]; rfl
        clear hbs hk0
        go_wp2
        exact ⟨⟨i,z,rfl,by omega,by go_num,by rw [HBQ.out]; exact HOWN.out,HB.out⟩,by simp [intOf]⟩
      rw [if_neg hk0] at hbs
      have q1:(kd == [])=false:=beq_eq_false_iff_ne.2 hk0
      have q2:kd.isEmpty=false:=by cases kd <;> simp_all
      have HBQ:=qh hbs
      have hsl:=HSL.out i
      obtain ⟨st,hst⟩:∃ st,Spn.stepP n i=st:=⟨_,rfl⟩
      have HSC:Hid (∀ w',Below wr.heap.size wr w'->Calls Tryz.prog 117 #[.agg C,.int .i64 i] w' fun e w''=>e=.returned (.string ⟨st.toArray⟩)/\Below wr.heap.size wr w''/\Below w'.heap.size w' w''):=qh (fun w' h=>by
        have h1:=HST.out i w' hi
        rw [hst] at h1
        exact h1.mono fun e w'' ⟨p1,p2⟩=>⟨p1,bchain h p2,p2⟩)
      rw [hst] at hsl HBQ
      have HKC2:=qh (fun w' (h:Below wr.heap.size wr w')=>(HKD.out kd st w' hsl).mono fun e w'' (hh:_/\_)=>(⟨hh.1,bchain h hh.2,hh.2⟩:_/\Below wr.heap.size wr w''/\Below w'.heap.size w' w''))
      obtain ⟨⟨ks,kp,kf,ke⟩,hkid⟩:∃ kid,Spn.kidSp s kd st=kid:=⟨_,rfl⟩
      obtain ⟨pb,hpb⟩:∃ pb,Spn.playsP s.lf s.le st=pb:=⟨_,rfl⟩
      rw [hkid,hpb] at HKC2
      dsimp only at HKC2
      have HKI:=qh hkid
      have HPB:=qh hpb
      clear hbs hk0 hsl hst hkid hpb HKD HST
      have HS:Hid (∀ w',Below wr.heap.size wr w'->Below wr.heap.size wr w'/\(w'.cell? ⟨w.heap.size,0,none⟩=some (.string ⟨s.sum.toArray⟩)/\w'.cell? ⟨w.heap.size,1,none⟩=some (.string ⟨s.place.toArray⟩)/\w'.cell? ⟨w.heap.size,2,none⟩=some (.string ⟨s.lf.toArray⟩)/\w'.cell? ⟨w.heap.size,3,none⟩=some (.string ⟨s.le.toArray⟩))/\(ldn (.pointer (some ⟨w.heap.size+1,0,none⟩))).run Tryz.prog w'=.ok (.agg C) w'/\w'.cell? ⟨w.heap.size+1,3+i,none⟩=some (.string ⟨kd.toArray⟩)):=qh (fun w' h=>
        ⟨h,(HF.out w' (bchain HB.out h)).1,(HF.out w' (bchain HB.out h)).2.1,HKC.out w' (bchain HB.out h)⟩)
      have BD:Below wr.heap.size wr wr.drew:=(Below.refl _ _).drew
      go_upto_region 6 with fail
      have hx:((i+1:Nat):Int) - 1=(i:Int):=by omega
      rw [hx]
      clear hx
      refine region_inv (fun L a w'=>∃ v7 v8 v18 v19 v20 v21 v22 v23 v24 v25 v26 v27 v28 v29:Value,a=⟨#[.agg #[.string ⟨s.sum.toArray⟩,.string ⟨s.place.toArray⟩,.string ⟨s.lf.toArray⟩,.string ⟨s.le.toArray⟩],.agg C,.pointer (some ⟨w.heap.size,0,none⟩),.pointer (some ⟨w.heap.size+1,0,none⟩),.slice none 0 0,z,.int .i64 (i:Int),v7,v8,.int .i64 (i:Int),.bool true,u11,u12,.int .i64 (i:Int),.pointer (some ⟨w.heap.size+1,3,none⟩),.pointer (some ⟨w.heap.size+1,3+i,none⟩),.string ⟨kd.toArray⟩,.bool false,v18,v19,v20,v21,v22,v23,v24,v25,v26,v27,v28,v29,u30,u31,u32,u33,u34,undef],[]⟩/\Below wr.heap.size wr w'/\(L[0]?=some true->v19=.agg #[.string ⟨s.sum.toArray⟩,.string ⟨s.place.toArray⟩,.string ⟨s.lf.toArray⟩,.string ⟨s.le.toArray⟩])/\(L[1]?=some true->v20=.int .i64 (i:Int))/\(L[2]?=some true->v21=.pointer (some ⟨w.heap.size+1,3,none⟩))/\(L[3]?=some true->v22=.pointer (some ⟨w.heap.size+1,3+i,none⟩))/\(L[4]?=some true->v23=.string ⟨kd.toArray⟩)/\(L[5]?=some true->v24=.agg C)/\(L[6]?=some true->v25=.int .i64 (i:Int))/\(L[7]?=some true->v26=.string ⟨st.toArray⟩)/\(L[8]?=some true->v27=.tuple #[.agg #[.string ⟨ks.toArray⟩,.string ⟨kp.toArray⟩,.string ⟨kf.toArray⟩,.string ⟨ke.toArray⟩],.bool pb])/\(L[9]?=some true->v18=.tuple #[.agg #[.string ⟨ks.toArray⟩,.string ⟨kp.toArray⟩,.string ⟨kf.toArray⟩,.string ⟨ke.toArray⟩],.bool pb])/\(L[10]?=some true->v28=.agg #[.string ⟨ks.toArray⟩,.string ⟨kp.toArray⟩,.string ⟨kf.toArray⟩,.string ⟨ke.toArray⟩])/\(L[11]?=some true->v29=.bool pb)/\(L[12]?=some true->∃ q,v7=.pointer (some ⟨q,0,none⟩)/\wr.heap.size<=q/\w'.heap[q]?=some (.cells (if L[13]?=some true then #[.string ⟨ks.toArray⟩,.string ⟨kp.toArray⟩,.string ⟨kf.toArray⟩,.string ⟨ke.toArray⟩] else #[.string ⟨#[]⟩,.string ⟨#[]⟩,.string ⟨#[]⟩,.string ⟨#[]⟩]) 121 (0,0)))/\(L[14]?=some true->v8=.bool pb)/\(L[13]?=some true->L[12]?=some true)) (by rfl) ?_ ?_ ?_
      · exact ⟨_,_,_,_,_,_,_,_,_,_,_,_,_,_,rfl,BD,by simp,by simp,by simp,by simp,by simp,by simp,by simp,by simp,by simp,by simp,by simp,by simp,by simp,by simp,by simp⟩
      · intro L a w1' hL hI j o ho hj K hK
        obtain ⟨v7,v8,v18,v19,v20,v21,v22,v23,v24,v25,v26,v27,v28,v29,rfl,hB,h0,h1,h2,h3,h4,h5,h6,h7,h8,h9,h10,h11,h12,h14,h13⟩:=hI
        obtain ⟨b0,b1,b2,b3,b4,b5,b6,b7,b8,b9,b10,b11,b12,b13,b14,rfl⟩:∃ b0 b1 b2 b3 b4 b5 b6 b7 b8 b9 b10 b11 b12 b13 b14,L=[b0,b1,b2,b3,b4,b5,b6,b7,b8,b9,b10,b11,b12,b13,b14]:=by
          match L,hL with
          | [b0,b1,b2,b3,b4,b5,b6,b7,b8,b9,b10,b11,b12,b13,b14],_=>exact ⟨b0,b1,b2,b3,b4,b5,b6,b7,b8,b9,b10,b11,b12,b13,b14,rfl⟩
        have hi2:=(List.mem_filter.1 hj).2
        clear hj hL
        obtain ⟨-,⟨k0,k1,k2,k3⟩,kl,kc⟩:=HS.out _ hB
        rcases j with _ | _ | _ | _ | _ | _ | _ | _ | _ | _ | _ | _ | _ | _ | _ | j
        · obtain rfl:=Option.some.inj ho
          clear ho hi2
          rw [if_pos (by rfl)]
          go_simp
          exact hK _ _ ⟨v7,v8,v18,_,v20,v21,v22,v23,v24,v25,v26,v27,v28,v29,rfl,hB,fun _=>rfl,h1,h2,h3,h4,h5,h6,h7,h8,h9,h10,h11,h12,h14,h13⟩
        · obtain rfl:=Option.some.inj ho
          clear ho hi2
          rw [if_pos (by rfl)]
          go_simp
          exact hK _ _ ⟨v7,v8,v18,v19,_,v21,v22,v23,v24,v25,v26,v27,v28,v29,rfl,hB,h0,fun _=>rfl,h2,h3,h4,h5,h6,h7,h8,h9,h10,h11,h12,h14,h13⟩
        · obtain rfl:=Option.some.inj ho
          clear ho hi2
          rw [if_pos (by rfl)]
          go_simp
          exact hK _ _ ⟨v7,v8,v18,v19,v20,_,v22,v23,v24,v25,v26,v27,v28,v29,rfl,hB,h0,h1,fun _=>rfl,h3,h4,h5,h6,h7,h8,h9,h10,h11,h12,h14,h13⟩
        · obtain rfl:=Option.some.inj ho
          simp [Region.binds] at hi2
          obtain rfl:=h2 (by simp [hi2])
          obtain rfl:=h1 (by simp [hi2])
          clear ho hi2
          rw [if_pos (by rfl)]
          go_simp
          exact hK _ _ ⟨v7,v8,v18,v19,_,_,_,v23,v24,v25,v26,v27,v28,v29,rfl,hB,h0,fun _=>rfl,fun _=>rfl,fun _=>rfl,h4,h5,h6,h7,h8,h9,h10,h11,h12,h14,h13⟩
        · obtain rfl:=Option.some.inj ho
          simp [Region.binds] at hi2
          obtain rfl:=h3 (by simp [hi2])
          clear ho hi2
          rw [if_pos (by rfl)]
          go_simp
          exact hK _ _ ⟨v7,v8,v18,v19,v20,v21,_,_,v24,v25,v26,v27,v28,v29,rfl,hB,h0,h1,h2,fun _=>rfl,fun _=>rfl,h5,h6,h7,h8,h9,h10,h11,h12,h14,h13⟩
        · obtain rfl:=Option.some.inj ho
          clear ho hi2
          rw [if_pos (by rfl)]
          go_simp
          exact hK _ _ ⟨v7,v8,v18,v19,v20,v21,v22,v23,_,v25,v26,v27,v28,v29,rfl,hB,h0,h1,h2,h3,h4,fun _=>rfl,h6,h7,h8,h9,h10,h11,h12,h14,h13⟩
        · obtain rfl:=Option.some.inj ho
          clear ho hi2
          rw [if_pos (by rfl)]
          go_simp
          exact hK _ _ ⟨v7,v8,v18,v19,v20,v21,v22,v23,v24,_,v26,v27,v28,v29,rfl,hB,h0,h1,h2,h3,h4,h5,fun _=>rfl,h7,h8,h9,h10,h11,h12,h14,h13⟩
        · obtain rfl:=Option.some.inj ho
          simp [Region.binds] at hi2
          obtain rfl:=h5 (by simp [hi2])
          obtain rfl:=h6 (by simp [hi2])
          clear ho hi2
          rw [if_pos (by rfl)]
          go_simp
          refine (HSC.out _ hB).mono ?_
          rintro r w2 ⟨rfl,hb2',hb2⟩
          exact hK _ _ ⟨v7,v8,v18,v19,v20,v21,v22,v23,_,_,_,v27,v28,v29,rfl,hb2',h0,h1,h2,h3,h4,fun _=>rfl,fun _=>rfl,fun _=>rfl,h8,h9,h10,h11,fun hx=>by
            obtain ⟨q,e1,e2,e3⟩:=h12 hx
            exact ⟨q,e1,e2,(hb2.block q (lt_of_heap e3)).trans e3⟩,h14,h13⟩
        · obtain rfl:=Option.some.inj ho
          simp [Region.binds] at hi2
          obtain rfl:=h0 (by simp [hi2])
          obtain rfl:=h4 (by simp [hi2])
          obtain rfl:=h7 (by simp [hi2])
          clear ho hi2
          rw [if_pos (by rfl)]
          go_simp
          refine (HKC2.out _ hB).mono ?_
          rintro r w2 ⟨rfl,hb2',hb2⟩
          exact hK _ _ ⟨v7,v8,v18,_,v20,v21,v22,_,v24,v25,_,_,v28,v29,rfl,hb2',fun _=>rfl,h1,h2,h3,fun _=>rfl,h5,h6,fun _=>rfl,fun _=>rfl,h9,h10,h11,fun hx=>by
            obtain ⟨q,e1,e2,e3⟩:=h12 hx
            exact ⟨q,e1,e2,(hb2.block q (lt_of_heap e3)).trans e3⟩,h14,h13⟩
        · obtain rfl:=Option.some.inj ho
          simp [Region.binds] at hi2
          obtain rfl:=h8 (by simp [hi2])
          clear ho hi2
          rw [if_pos (by rfl)]
          go_simp
          exact hK _ _ ⟨v7,v8,_,v19,v20,v21,v22,v23,v24,v25,v26,_,v28,v29,rfl,hB,h0,h1,h2,h3,h4,h5,h6,h7,fun _=>rfl,fun _=>rfl,h10,h11,h12,h14,h13⟩
        · obtain rfl:=Option.some.inj ho
          simp [Region.binds] at hi2
          obtain rfl:=h9 (by simp [hi2])
          clear ho hi2
          rw [if_pos (by rfl)]
          go_simp
          exact hK _ _ ⟨v7,v8,_,v19,v20,v21,v22,v23,v24,v25,v26,v27,_,v29,rfl,hB,h0,h1,h2,h3,h4,h5,h6,h7,h8,fun _=>rfl,fun _=>rfl,h11,h12,h14,h13⟩
        · obtain rfl:=Option.some.inj ho
          simp [Region.binds] at hi2
          obtain rfl:=h9 (by simp [hi2])
          clear ho hi2
          rw [if_pos (by rfl)]
          go_simp
          exact hK _ _ ⟨v7,v8,_,v19,v20,v21,v22,v23,v24,v25,v26,v27,v28,_,rfl,hB,h0,h1,h2,h3,h4,h5,h6,h7,h8,fun _=>rfl,h10,fun _=>rfl,h12,h14,h13⟩
        · obtain rfl:=Option.some.inj ho
          simp [Region.binds] at hi2
          have hb13:b13=false:=by
            cases b13 with
            | false=>rfl
            | true=>have:=h13 rfl; simp [hi2] at this
          subst hb13
          clear ho hi2
          rw [if_pos (by rfl)]
          go_simp
          exact hK _ _ ⟨_,v8,v18,v19,v20,v21,v22,v23,v24,v25,v26,v27,v28,v29,rfl,bel_al hB _,h0,h1,h2,h3,h4,h5,h6,h7,h8,h9,h10,h11,fun _=>⟨_,rfl,hB.size,heap_alloc_new _ _⟩,h14,fun hx=>by simp at hx⟩
        · obtain rfl:=Option.some.inj ho
          simp [Region.binds] at hi2
          obtain ⟨q,rfl,e2,e3⟩:=h12 (by simp [hi2])
          obtain rfl:=h10 (by simp [hi2])
          have hb13:b13=false:=by simp [hi2]
          subst hb13
          have hb12:b12=true:=by simp [hi2]
          subst hb12
          clear hi2
          simp only [List.getElem?_cons_succ,List.getElem?_cons_zero] at e3
          rw [if_neg (by simp)] at e3
          have c0:w1'.cell? ⟨q,0,none⟩=some (.string ⟨#[]⟩):=by rw [cell_of_row _ _ 0 _ _ _ e3]; rfl
          have f0:=frozen_of_row _ _ 0 _ _ e3
          have c1:w1'.cell? ⟨q,1,none⟩=some (.string ⟨#[]⟩):=by rw [cell_of_row _ _ 1 _ _ _ e3]; rfl
          have f1:=frozen_of_row _ _ 1 _ _ e3
          have c2:w1'.cell? ⟨q,2,none⟩=some (.string ⟨#[]⟩):=by rw [cell_of_row _ _ 2 _ _ _ e3]; rfl
          have f2:=frozen_of_row _ _ 2 _ _ e3
          have c3:w1'.cell? ⟨q,3,none⟩=some (.string ⟨#[]⟩):=by rw [cell_of_row _ _ 3 _ _ _ e3]; rfl
          have f3:=frozen_of_row _ _ 3 _ _ e3
          clear ho
          rw [if_pos (by rfl)]
          go_simp
          exact hK _ _ ⟨_,v8,v18,v19,v20,v21,v22,v23,v24,v25,v26,v27,_,v29,rfl,bel_set (bel_set (bel_set (bel_set hB e2 _) e2 _) e2 _) e2 _,h0,h1,h2,h3,h4,h5,h6,h7,h8,h9,fun _=>rfl,h11,fun _=>⟨q,rfl,e2,cells_set (cells_set (cells_set (cells_set e3 0 _) 1 _) 2 _) 3 _⟩,h14,fun _=>rfl⟩
        · obtain rfl:=Option.some.inj ho
          simp [Region.binds] at hi2
          obtain rfl:=h11 (by simp [hi2])
          clear ho hi2
          rw [if_pos (by rfl)]
          go_simp
          exact hK _ _ ⟨v7,_,v18,v19,v20,v21,v22,v23,v24,v25,v26,v27,v28,_,rfl,hB,h0,h1,h2,h3,h4,h5,h6,h7,h8,h9,h10,fun _=>rfl,h12,fun _=>rfl,h13⟩
        · simp at ho
      · intro L a w2 hL hr hI
        obtain ⟨v7,v8,v18,v19,v20,v21,v22,v23,v24,v25,v26,v27,v28,v29,rfl,hB,h0,h1,h2,h3,h4,h5,h6,h7,h8,h9,h10,h11,h12,h14,h13⟩:=hI
        obtain ⟨b0,b1,b2,b3,b4,b5,b6,b7,b8,b9,b10,b11,b12,b13,b14,rfl⟩:∃ b0 b1 b2 b3 b4 b5 b6 b7 b8 b9 b10 b11 b12 b13 b14,L=[b0,b1,b2,b3,b4,b5,b6,b7,b8,b9,b10,b11,b12,b13,b14]:=by
          match L,hL with
          | [b0,b1,b2,b3,b4,b5,b6,b7,b8,b9,b10,b11,b12,b13,b14],_=>exact ⟨b0,b1,b2,b3,b4,b5,b6,b7,b8,b9,b10,b11,b12,b13,b14,rfl⟩
        have hr2:=List.filter_eq_nil_iff.1 hr
        clear hr hL
        have k0:=hr2 0 (by simp)
        have k1:=hr2 1 (by simp)
        have k2:=hr2 2 (by simp)
        have k3:=hr2 3 (by simp)
        have k4:=hr2 4 (by simp)
        have k5:=hr2 5 (by simp)
        have k6:=hr2 6 (by simp)
        have k7:=hr2 7 (by simp)
        have k8:=hr2 8 (by simp)
        have k9:=hr2 9 (by simp)
        have k10:=hr2 10 (by simp)
        have k11:=hr2 11 (by simp)
        have k12:=hr2 12 (by simp)
        have k13:=hr2 13 (by simp)
        have k14:=hr2 14 (by simp)
        clear hr2
        simp [Region.binds] at k0
        subst k0
        simp [Region.binds] at k1
        subst k1
        simp [Region.binds] at k2
        subst k2
        simp [Region.binds] at k3
        subst k3
        simp [Region.binds] at k4
        subst k4
        simp [Region.binds] at k5
        subst k5
        simp [Region.binds] at k6
        subst k6
        simp [Region.binds] at k7
        subst k7
        simp [Region.binds] at k8
        subst k8
        simp [Region.binds] at k9
        subst k9
        simp [Region.binds] at k10
        subst k10
        simp [Region.binds] at k11
        subst k11
        simp [Region.binds] at k12
        subst k12
        simp [Region.binds] at k13
        subst k13
        simp [Region.binds] at k14
        subst k14
        obtain ⟨q,rfl,e2,e3⟩:=h12 rfl
        obtain rfl:=h14 rfl
        have e4:w2.heap[q]?=some (.cells #[.string ⟨ks.toArray⟩,.string ⟨kp.toArray⟩,.string ⟨kf.toArray⟩,.string ⟨ke.toArray⟩] 121 (0,0)):=e3
        clear h0 h1 h2 h3 h4 h5 h6 h7 h8 h9 h10 h11 h12 h13 h14 e3
        have HE4:=qh e4
        have HBW:=qh (bchain HB.out hB)
        have HOW:=qh (HOWN.out.below hB)
        clear hB e4 e2 BD
        cases pb with
        | false=>
          rw [HPB.out,if_neg (by decide),List.append_nil] at HBQ
          go_wp2
          exact ⟨⟨i,z,rfl,by omega,by go_num,by rw [HBQ.out]; exact HOW.out,HBW.out⟩,by simp [intOf]⟩
        | true=>
          rw [HPB.out,if_pos rfl,HKI.out] at HBQ
          have d0:w2.cell? ⟨q,0,none⟩=some (.string ⟨ks.toArray⟩):=by rw [cell_of_row _ _ 0 _ _ _ HE4.out]; rfl
          have d1:w2.cell? ⟨q,1,none⟩=some (.string ⟨kp.toArray⟩):=by rw [cell_of_row _ _ 1 _ _ _ HE4.out]; rfl
          have d2:w2.cell? ⟨q,2,none⟩=some (.string ⟨kf.toArray⟩):=by rw [cell_of_row _ _ 2 _ _ _ HE4.out]; rfl
          have d3:w2.cell? ⟨q,3,none⟩=some (.string ⟨ke.toArray⟩):=by rw [cell_of_row _ _ 3 _ _ _ HE4.out]; rfl
          have hbA:Below w2.heap.size w2 (w2.alloc (.cells #[.string ⟨ks.toArray⟩,.string ⟨kp.toArray⟩,.string ⟨kf.toArray⟩,.string ⟨ke.toArray⟩] 121)):=(Below.refl _ w2).alloc (Nat.le_refl _) _
          obtain ⟨v',w',hrun,how,-,hbw⟩:=app_q (w:=w2.alloc (.cells #[.string ⟨ks.toArray⟩,.string ⟨kp.toArray⟩,.string ⟨kf.toArray⟩,.string ⟨ke.toArray⟩] 121)) (HOW.out.below hbA) (one_q w2 ⟨ks,kp,kf,ke⟩) (by
            have h1:(Spn.belowR s n ((List.range 16).drop (i+1))).length<=16:=by
              unfold Spn.belowR
              refine Nat.le_trans (List.length_filterMap_le ..) (by simp; omega)
            simp only [List.length_reverse,List.length_singleton]
            omega) (Nat.le_trans HBW.out.size (Nat.le_of_lt (by simp)))
          have HRUN:=qh hrun
          have HO2:=qh how
          have HB2:Hid (Below w1.heap.size w1 w'):=qh ((bchain HBW.out hbA).trans hbw)
          clear hrun how hbw hbA
          go_wp2_with (at_builtin; refine wpList_append_run rfl _ _ _ rfl z (.slice (some ⟨w2.heap.size,0,none⟩) 1 1) _ (by rfl) (by rfl) HRUN.out ?_)
          exact ⟨⟨i,v',rfl,by omega,by go_num,by rw [HBQ.out]; exact HO2.out,HB2.out⟩,by simp [intOf]⟩
end
section
open Go.RowKit
def behind:List UInt8:=[98,101,104,105,110,100]
theorem Own.set {w:World} {B g n cap i:Nat} {L:List (List UInt8)} (h:Own w B (.slice (some ⟨g,0,none⟩) n cap) L) (_hi:i < L.length) (x:List UInt8):
    Own (w.setCell ⟨g,i,none⟩ (.string ⟨x.toArray⟩)) B (.slice (some ⟨g,0,none⟩) n cap) (L.set i x):=by
  have hn:n=L.length:=by
    obtain ⟨_,_,hv⟩:=own_form h
    simp at hv
    exact hv.2.1
  subst hn
  have:=(World.ownsRow.stored h i (.string ⟨x.toArray⟩)).1
  unfold Own
  rw [List.length_set]
  simpa [scells,List.map_set] using this
end
section
open Go.RowKit Go.ChangeShapes Go.WideShapes
def StrsC (w:World) (v:Value) (L:List (List UInt8)):Prop:=
  ∃ (A:Option Addr) (cap:Nat),v=.slice A L.length cap/\L.length<=cap/\∀ i (h:i < L.length),∃ a,A=some a/\w.cell? (a.add i)=some (.string ⟨L[i].toArray⟩)
theorem StrsC.below {w w':World} {v:Value} {L:List (List UInt8)} (h:StrsC w v L) (hb:Below w.heap.size w w'):StrsC w' v L:=by
  obtain ⟨A,cap,rfl,h1,hc⟩:=h
  refine ⟨A,cap,rfl,h1,fun i hi=>?_⟩
  obtain ⟨a,ha,hcell⟩:=hc i hi
  exact ⟨a,ha,(hb.cell (World.block_lt_of_cell? _ _ hcell)).trans hcell⟩
theorem StrsC.form {w:World} {v:Value} {L:List (List UInt8)} (h:StrsC w v L):∃ A cap,v=.slice A L.length cap/\L.length<=cap:=by
  obtain ⟨A,cap,h1,h2,_⟩:=h
  exact ⟨A,cap,h1,h2⟩
theorem StrsC.of_own {w:World} {B:Nat} {v:Value} {L:List (List UInt8)} (h:Own w B v L):StrsC w v L:=by
  obtain ⟨A,cap,hv,hc⟩:=h.strs
  refine ⟨A,cap,hv,?_,hc⟩
  rcases h.2 with ⟨h1,h2⟩ | ⟨g,c,cur,hv',_,_,hn,_⟩
  · omega
  · rw [hv'] at hv
    obtain ⟨_,rfl⟩:_/\c=cap:=by simpa using hv
    exact hn
theorem StrsC.nil (w:World) (A:Option Addr) (cap:Nat):StrsC w (.slice A 0 cap) []:=⟨A,cap,rfl,Nat.zero_le _,fun i h=>absurd h (Nat.not_lt_zero i)⟩
theorem StrsC.head {w:World} {A:Option Addr} {n cap:Nat} {x:List UInt8} {L:List (List UInt8)} (h:StrsC w (.slice A n cap) (x :: L)):∃ a,A=some a/\w.cell? a=some (.string ⟨x.toArray⟩)/\n=L.length+1/\L.length+1<=cap:=by
  obtain ⟨A',cap',hv,h1,hc⟩:=h
  obtain ⟨rfl,rfl,rfl⟩:A=A'/\n=L.length+1/\cap=cap':=by simpa using hv
  obtain ⟨a,ha,hcell⟩:=hc 0 (by simp)
  exact ⟨a,ha,by simpa [Addr.add] using hcell,rfl,h1⟩
theorem StrsC.tail {w:World} {A:Option Addr} {n cap:Nat} {x:List UInt8} {L:List (List UInt8)} (h:StrsC w (.slice A n cap) (x :: L)):
    ∃ A' cap',(∀ W:World,(Instr.slice 29 (.slice A n cap) (some (.int .i64 1)) none none).run Tryz.prog W=.ok (.slice A' L.length cap') W)/\StrsC w (.slice A' L.length cap') L:=by
  obtain ⟨A',cap',hv,h1,hc⟩:=h
  obtain ⟨rfl,rfl,rfl⟩:A=A'/\n=L.length+1/\cap=cap':=by simpa using hv
  rw [List.length_cons] at h1
  obtain ⟨a,ha,-⟩:=hc 0 (by simp)
  subst ha
  have hn:L.length+1 - 1=L.length:=by omega
  by_cases hc1:cap=1
  · subst hc1
    obtain rfl:L=[]:=List.length_eq_zero_iff.1 (by omega)
    have hs:∀ W:World,(sizeOf (Tryz.prog.elem 29)).run Tryz.prog W=.ok 1 W:=fun W=>by kernel_rfl
    refine ⟨some a,0,fun W=>?_,StrsC.nil ..⟩
    rw [run_slice_l W 29 (some a) _ 1 Tryz.underlying29 .i64 1 (by omega) (by simp),hs]
    rfl
  · have hs:∀ W:World,(sizeOf (Tryz.prog.elem 29)).run Tryz.prog W=.ok 1 W:=fun W=>by kernel_rfl
    refine ⟨some (a.add 1),cap - 1,fun W=>?_,some (a.add 1),cap - 1,rfl,by omega,fun i hi=>⟨_,rfl,?_⟩⟩
    · rw [run_slice_l W 29 (some a) (L.length+1) cap Tryz.underlying29 .i64 1 (by omega) (by omega),hs]
      simp [Result.andThen,sliced,hc1]
    · obtain ⟨a',ha',hcell⟩:=hc (i+1) (by simpa using hi)
      obtain rfl:a=a':=by simpa using ha'
      rw [Addr.add_add,Nat.add_comm 1 i]
      simpa using hcell
end
section
open Go.RowKit
open Sto (T St)
open Go.Proofs.YtaficmboooaknaaGreatDoor.Nd (N)
def FirstIs:List T->T->N->Bool->Prop
  | [],_,_,b=>b=false
  | x :: _,s,n,b=>b=Prf.isN s x/\(b=true->(Nd.dec x).1=n)
theorem dec_kids (x:T):(Nd.dec x).1.kids.length=16:=by
  rcases Nd.dec_is x with ⟨_,_,h,_⟩ | ⟨_,h,_⟩
  · exact h
  · rw [h]; rfl
theorem sum_one (x:T):Dig.sum 1 x=Sto.sumOf x:=by
  unfold Dig.sum
  rfl
end
end Go.Proofs.YtaficmboooaknaaGreatDoor
