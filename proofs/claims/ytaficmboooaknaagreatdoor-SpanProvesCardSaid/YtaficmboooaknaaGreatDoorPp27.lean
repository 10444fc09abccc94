import Derived.Test.YtaficmboooaknaaGreatDoorPp01
import Derived.Test.YtaficmboooaknaaGreatDoorPp24
import Derived.Test.YtaficmboooaknaaGreatDoorPp23
import Derived.Test.YtaficmboooaknaaGreatDoorPp26
import Derived.Test.YtaficmboooaknaaGreatDoorRows
import Derived.Test.YtaficmboooaknaaGreatDoorPp09
import Derived.Lib.LaidU8
import Derived.LaidMore
import Derived.Stop.Joined
import Derived.ProofKit
import Derived.Test.YtaficmboooaknaaGreatDoorPp20
set_option maxRecDepth 100000
set_option maxHeartbeats 16000000
namespace Go.Proofs.YtaficmboooaknaaGreatDoor
section
open Go.RowKit
open Sto (T St)
open Go.Proofs.YtaficmboooaknaaGreatDoor.Nd (N)
def RPPost (S:St) (f e:T) (m:Int) (w:World) (x:Ending) (w':World):Prop:=
  ∃ (A1:Option Addr) (n1 c1:Nat) (A2:Option Addr) (n2 c2:Nat),x=.returned (.tuple #[.agg #[.slice A1 n1 c1,.string ⟨(Scn.pageR S f e m).2.1.toArray⟩,.slice A2 n2 c2],.int .i64 (Scn.pageR S f e m).2.2])/\
    ItAt w' (.slice A1 n1 c1) (Scn.pageR S f e m).1/\(∀ a,A1=some a->w.heap.size<=a.block)/\Own w' w.heap.size (.slice A2 n2 c2) (pnodes S f e m)/\Below w.heap.size w w'
theorem rspprove_any {S:St} {t:Tri.Tr} (f e:T) (m:Int) (v:Value) (w:World) (hv:ItAt w v S) (hts:TrS S t) (hf:f.length<=999000) (he:e.length<=999000):
    Calls Tryz.prog 13 #[v,.string ⟨f.toArray⟩,.string ⟨e.toArray⟩,.int .i64 m] w (RPPost S f e m w):=by
  obtain ⟨w0,hw0⟩:∃ w0,w.alloc (.cells #[.slice none 0 0,.string ⟨#[]⟩,.slice none 0 0] 31)=w0:=⟨_,rfl⟩
  have hb0:Below w.heap.size w w0:=by rw [← hw0]; exact (Below.refl _ w).alloc (Nat.le_refl _) _
  have ra:w0.heap[w.heap.size]?=some (.cells #[.slice none 0 0,.string ⟨#[]⟩,.slice none 0 0] 31 (0,0)):=by rw [← hw0]; exact heap_alloc_new w _
  have HR:Hid (∀ w',Below w0.heap.size w0 w'->w'.heap[w.heap.size]?=some (.cells #[.slice none 0 0,.string ⟨#[]⟩,.slice none 0 0] 31 (0,0))):=qh (fun w' h=>(h.block _ (lt_of_heap ra)).trans ra)
  have HB:=qh hb0
  have HSL:Hid (w.heap.size < w0.heap.size):=qh (lt_of_heap ra)
  have HV:=qh (RowsAt.below hv hb0)
  have HTS:=qh hts
  have HRG:=qh (rscRange_own S v f e m w0 (RowsAt.below hv hb0) (by have:=hts.few; omega) (fun p hp=>by have:=(hts.fair p hp).2.1; omega))
  unfold RPageO at HRG
  unfold RPPost pnodes
  have HPR:=qh (fun (h:1<=m/\m<=16)=>(Spn.page_is hts f e h).2.2)
  have HNX:Hid ((Scn.pageR S f e m).2.1.length<=8):=qh (by
    by_cases hm:1<=m/\m<=16
    · rcases Spn.page_reach hts f e hm with ⟨h1,_⟩ | ⟨_,_,_,h2,_⟩
      · rw [h1]; simp
      · rw [← h2]; exact behind_short _
    · rw [page_bad hm]; simp)
  have HSPF:Hid ((t.spots Nd.sumS []).length<=10000):=qh (by
    have h1:=Tri.spots_few Nd.sumS hts.tree.1 []
    have h2:=hts.few
    rw [hts.tree.2.2] at h1
    simp [Tri.paths] at h1
    omega)
  have HSK:=qh (spots_kids Nd.sumS t [])
  have HEL:=qh he
  have HFL:=qh hf
  obtain ⟨Av,capv,rfl,-,-⟩:=hv.form
  clear hv hb0 ra hts hf he
  by_cases hm:1<=m/\m<=16
  · rw [if_pos hm]
    have hc:=HPR.out hm
    obtain ⟨⟨P,nx,c⟩,hP⟩:∃ X,Scn.pageR S f e m=X:=⟨_,rfl⟩
    rw [hP] at HRG HNX hc ⊢
    dsimp only at HRG HNX hc ⊢
    obtain rfl:c=0:=hc
    have hup:(Spn.upTo nx e).length<=1000000:=by
      unfold Spn.upTo
      split
      · have:=HEL.out; omega
      · have:=HNX.out; omega
    have HRE:Hid (∀ w',Calls Tryz.prog 41 #[.string ⟨nx.toArray⟩,.string ⟨e.toArray⟩] w' fun r w''=>r=.returned (.string ⟨(Spn.upTo nx e).toArray⟩)/\w''=w'):=qh (fun w'=>rupto_any nx e w')
    have HSP:Hid (∀ w',Below w0.heap.size w0 w'->Calls Tryz.prog 40 #[.slice Av S.length capv] w' fun e w''=>∃ s,e=.returned s/\SpAt Nd.sumS w'' s (t.spots Nd.sumS [])/\Below w'.heap.size w' w''):=qh (fun w' h=>(rspots_any _ w' (RowsAt.below HV.out h) HTS.out).mono fun e w'' ⟨s,q1,q2,q3⟩=>⟨s,q1,OwnSp.at_ q2,q3⟩)
    have HCV:Hid (∀ w' s5,SpAt Nd.sumS w' s5 (t.spots Nd.sumS [])->Calls Tryz.prog 39 #[s5,.string ⟨f.toArray⟩,.string ⟨(Spn.upTo nx e).toArray⟩] w' fun r w''=>∃ s,r=.returned s/\Own w'' w'.heap.size s (coverS S f (Spn.upTo nx e))/\Below w'.heap.size w' w''):=qh (fun w' s5 h=>by
      have h1:=rtCover_any Nd.sumS _ s5 f (Spn.upTo nx e) w' h HSPF.out HSK.out (by have:=HFL.out; omega) hup
      rw [pick_cover HTS.out] at h1
      exact h1)
    obtain ⟨U,hU⟩:∃ U,Spn.upTo nx e=U:=⟨_,rfl⟩
    rw [hU] at HRE HCV ⊢
    obtain ⟨CV,hCV⟩:∃ CV,coverS S f U=CV:=⟨_,rfl⟩
    rw [hCV] at HCV ⊢
    clear hm hP hup hU hCV HPR
    go_enter Tryz.func13,Tryz.ntmps13
    go_upto_region 1 with fail
    clear hw0
    go_wp2_with fail
    refine HRG.out.mono ?_
    rintro r w1 ⟨A1,n1,c1,rfl,ho,hlow,hb1⟩
    have HB1:=qh hb1
    have HO1:=qh ho
    have HLOW:=qh hlow
    clear ho hb1 hlow
    go_wp2_with fail
    refine (HSP.out _ HB1.out).mono ?_
    rintro r w2 ⟨s5,rfl,hs5,hb2⟩
    have HB2:=qh (bchain HB1.out hb2)
    have HO2:=qh (RowsAt.below HO1.out hb2)
    have HCV2:=qh (HCV.out w2 s5 hs5)
    clear hb2 hs5
    go_wp2_with fail
    refine (HRE.out _).mono ?_
    rintro r w2' ⟨rfl,hw2⟩
    obtain rfl:=hw2.symm
    go_wp2_with fail
    refine HCV2.out.mono ?_
    rintro r w3 ⟨z,rfl,hz,hb3⟩
    have hr3:=HR.out _ (bchain HB2.out hb3)
    have HFI:=qh (fun a b c=>cells_set3 hr3 a b c)
    have r0:w3.cell? ⟨w.heap.size,0,none⟩=some (.slice none 0 0):=by rw [cell_of_row _ _ 0 _ _ _ hr3]; rfl
    have r1:w3.cell? ⟨w.heap.size,1,none⟩=some (.string ⟨#[]⟩):=by rw [cell_of_row _ _ 1 _ _ _ hr3]; rfl
    have r2:w3.cell? ⟨w.heap.size,2,none⟩=some (.slice none 0 0):=by rw [cell_of_row _ _ 2 _ _ _ hr3]; rfl
    have f0:=frozen_of_row _ _ 0 _ _ hr3
    have f1:=frozen_of_row _ _ 1 _ _ hr3
    have f2:=frozen_of_row _ _ 2 _ _ hr3
    obtain ⟨A2,c2,rfl⟩:=own_form hz
    have HZ3:=qh hz
    have HO3:=qh (RowsAt.below HO2.out hb3)
    have HB3:=qh (bchain HB.out (bchain HB2.out hb3))
    have HRB:=qh hr3
    have HSZ:Hid (w.heap.size<=w0.heap.size/\w.heap.size<=w2.heap.size/\w.heap.size < w0.heap.size):=qh ⟨HB.out.size,Nat.le_trans HB.out.size HB2.out.size,HSL.out⟩
    clear hz hb3 hr3
    go_wp2_with fail
    have hf:=HFI.out (.slice A1 n1 c1) (.string ⟨nx.toArray⟩) (.slice A2 CV.length c2)
    refine bodyPost_ret (nresults_c1t rfl _ _ w.heap.size _ _ _ _ rfl hf Tryz.underlying31 rfl (by kernel_rfl)) rfl ?_
    refine ⟨A1,n1,c1,A2,CV.length,c2,rfl,?_,(fun a h=>Nat.le_trans HSZ.out.1 (HLOW.out a h)),?_,(((HB3.out.setCell (p:=⟨_,0,none⟩) (Nat.le_refl _) _).setCell (p:=⟨_,1,none⟩) (Nat.le_refl _) _).setCell (p:=⟨_,2,none⟩) (Nat.le_refl _) _)⟩
    · exact ItAt.outA HO3.out (outp3 _ _ _) (fun a h q=>by have:=HLOW.out a h; have:=HSZ.out.2.2; omega)
    · exact row_apart (own_lowS HZ3.out HSZ.out.2.1) (outp3 _ _ _) (fun k hk e=>row_block_ne HZ3.out (by decide) HRB.out (e ▸ hk))
  · rw [if_neg hm]
    have hP:=page_bad (S:=S) (f:=f) (e:=e) hm
    rw [hP] at HRG ⊢
    dsimp only at HRG ⊢
    clear hm hP HPR HNX
    go_enter Tryz.func13,Tryz.ntmps13
    go_upto_region 1 with fail
    clear hw0
    go_wp2_with fail
    refine HRG.out.mono ?_
    rintro r w1 ⟨A1,n1,c1,rfl,-,-,hb1⟩
    have HB1:=qh hb1
    have hr3:=HR.out _ hb1
    have HFI:=qh (fun a b c=>cells_set3 hr3 a b c)
    have r0:w1.cell? ⟨w.heap.size,0,none⟩=some (.slice none 0 0):=by rw [cell_of_row _ _ 0 _ _ _ hr3]; rfl
    have r1:w1.cell? ⟨w.heap.size,1,none⟩=some (.string ⟨#[]⟩):=by rw [cell_of_row _ _ 1 _ _ _ hr3]; rfl
    have r2:w1.cell? ⟨w.heap.size,2,none⟩=some (.slice none 0 0):=by rw [cell_of_row _ _ 2 _ _ _ hr3]; rfl
    have f0:=frozen_of_row _ _ 0 _ _ hr3
    have f1:=frozen_of_row _ _ 1 _ _ hr3
    have f2:=frozen_of_row _ _ 2 _ _ hr3
    clear hb1 hr3
    go_wp2_with fail
    have hf:=HFI.out (.slice none 0 0) (.string ⟨#[]⟩) (.slice none 0 0)
    have HB3:=bchain HB.out HB1.out
    refine bodyPost_ret (nresults_c1t rfl _ _ w.heap.size _ _ _ _ rfl hf Tryz.underlying31 rfl (by kernel_rfl)) rfl ?_
    exact ⟨none,0,0,none,0,0,rfl,(OwnI.nil _ w.heap.size).at_,(fun a h=>by cases h),Own.nil _ _,(((HB3.setCell (p:=⟨_,0,none⟩) (Nat.le_refl _) _).setCell (p:=⟨_,1,none⟩) (Nat.le_refl _) _).setCell (p:=⟨_,2,none⟩) (Nat.le_refl _) _)⟩
end
section
open Go.ChangeShapes Go.WideShapes Go.ChangeAt Go.RowKit
theorem gK : Tryz.prog.globalNamed "pharos/sha.constants" = some 0 := by kernel_rfl
theorem tK:(Tryz.prog.globals[0]?).map (·.type)=some 224:=by kernel_rfl
theorem cK:Tryz.prog.cellsOf 224=64:=by kernel_rfl
theorem cW:Tryz.prog.cellsOf 172=1:=by kernel_rfl
def laidK : List (String × DataW Unit) := [("pharos/sha.constants", Rows.laid_pharos_sha_constants)]
theorem tab_of_laid {W:World} (h:laidMetH Tryz.prog laidK W):Tab W:=by
  rw [MakeChecks.laidMetH_plain _ _ _ (by kernel_rfl)] at h
  obtain ⟨g,t,cs,fuel,p,hg,hty,hvar,hd⟩:=Lib.laidMet.reads h (.head _)
  obtain rfl:=Option.some.inj (gK.symm.trans hg)
  obtain rfl:=Option.some.inj (tK.symm.trans hty)
  have hd':DataW.trod (fun _=>()) Tryz.prog W 0 (fun _=>true) false fuel 224 cs.toList=some (Lib.tabData .u32 Sha.kTab,p):=hd
  have hcs:=Lib.cells_of_tab Tryz.underlying224 Tryz.underlying172 cW cK hd'
  intro i hi
  have hk:i < Sha.kTab.length:=hi
  rw [World.var?_cell hg hvar i,← Array.getElem?_toList,hcs]
  simp [hk]
theorem door_met (os:Os) (args:Array Value):laidMetH Tryz.prog laidK ((World.doorLaid Tryz.prog 400 os).forCall (fun _ _=>0) ⟨#[],args,[]⟩).memory:=
  laidMetH_of_parts3 (fuel:=8) (laidMet_of_run' 8 (by kernel_rfl) (by kernel_rfl)) (by kernel_rfl) (by kernel_rfl)
end
section
open Go.RowKit Go.ChangeShapes Go.WideShapes
open Sto (T St)
theorem cellsPgS:Tryz.prog.cellsOf 9=1:=by kernel_rfl
end
section
open Go.RowKit Go.ChangeShapes Go.WideShapes
open Sto (T St)
theorem cellsEnM:Tryz.prog.cellsOf 3=1:=by kernel_rfl
theorem cellsEn:Tryz.prog.cellsOf 24=3:=by kernel_rfl
theorem ends_open {H:Type} {enc:TypeId × Value->H} {W:World} {r:Reach} {b0:Nat} {v:Value} {d:DataW H} {p:List MemPlace}
    (hv:Value.okWide Tryz.prog W r b0 24 v) (h:DataW.Trod enc Tryz.prog W 0 (fun _=>true) true 24 v d p):
    ∃ (f e:T) (m:Int),v=.agg #[.string ⟨f.toArray⟩,.string ⟨e.toArray⟩,.int .i64 m]/\(Lit.int .i64 m).wf=true:=by
  obtain ⟨cs,rfl,_⟩:=okWide_struct Tryz.underlying24 hv
  obtain ⟨fuel,hf⟩:=h
  obtain ⟨ys,n',_,hy,hcl,hyl,hfs⟩:=DataW.trod_struct Tryz.underlying24 hf
  rw [cellsEn] at hcl
  obtain ⟨l⟩:=cs
  change l.length=3 at hcl
  match l,hcl,ys,hyl with
  | [v0,v1,v2],_,[y0,y1,y2],_=>
    have g0:=hfs 0 _ rfl
    have g1:=hfs 1 _ rfl
    have g2:=hfs 2 _ rfl
    simp [cellsPgS,cellsEnM,Value.cells] at g0 g1 g2
    obtain ⟨s0,e0,_,_⟩:=DataW.trod_string Tryz.underlying9 g0
    obtain rfl:v0=.string s0:=by simpa using e0
    obtain ⟨s1,e1,_,_⟩:=DataW.trod_string Tryz.underlying9 g1
    obtain rfl:v1=.string s1:=by simpa using e1
    obtain ⟨t,e2,_,wf⟩:=DataW.trod_int Tryz.underlying3 g2
    obtain rfl:v2=.int .i64 t:=by simpa using e2
    exact ⟨s0.data.toList,s1.data.toList,t,by simp,wf⟩
end
end Go.Proofs.YtaficmboooaknaaGreatDoor
