import Derived.Test.YtaficmboooaknaaGreatDoorRows
import Derived.LaidMore
import Derived.Stop.Joined
import Derived.ProofKit
import Derived.Test.YtaficmboooaknaaGreatDoorPt24
set_option maxRecDepth 100000
set_option maxHeartbeats 16000000
namespace Go.Proofs.YtaficmboooaknaaGreatDoor
section
open Go.ChangeShapes Go.WideShapes Go.ChangeAt Go.RowKit
theorem gK : Tryz.prog.globalNamed "pharos/sha.constants" = some 0 := by kernel_rfl
theorem tK:(Tryz.prog.globals[0]?).map (·.type)=some 224:=by kernel_rfl
theorem cK:Tryz.prog.cellsOf 224=64:=by kernel_rfl
theorem cW:Tryz.prog.cellsOf 172=1:=by kernel_rfl
def laidK : List (String × DataW Unit) := [("pharos/sha.constants", Rows.laid_pharos_sha_constants)]
theorem tab_of_laid {W:World} (h:laidMetH Tryz.prog laidK W):Tab W:=by
  rw [MakeChecks.laidMetH_plain _ _ _ (by kernel_rfl)] at h
  obtain ⟨g,t,cs,fuel,p,hg,hty,hvar,hd⟩:=Lib.laidMet.reads h (.head _)
  obtain rfl:=Option.some.inj (gK.symm.trans hg)
  obtain rfl:=Option.some.inj (tK.symm.trans hty)
  have hd':DataW.trod (fun _=>()) Tryz.prog W 0 (fun _=>true) false fuel 224 cs.toList=some (Lib.tabData .u32 Sha.kTab,p):=hd
  have hcs:=Lib.cells_of_tab Tryz.underlying224 Tryz.underlying172 cW cK hd'
  intro i hi
  have hk:i<Sha.kTab.length:=hi
  rw [World.var?_cell hg hvar i,← Array.getElem?_toList,hcs]
  simp [hk]
theorem door_met (os:Os) (args:Array Value):laidMetH Tryz.prog laidK ((World.doorLaid Tryz.prog 400 os).forCall (fun _ _=>0) ⟨#[],args,[]⟩).memory:=
  laidMetH_of_parts3 (fuel:=8) (laidMet_of_run' 8 (by kernel_rfl) (by kernel_rfl)) (by kernel_rfl) (by kernel_rfl)
end
section
open Go.RowKit Go.ChangeShapes Go.WideShapes
open Sto (T St)
theorem cellsPgS:Tryz.prog.cellsOf 9=1:=by kernel_rfl
theorem cellsPgI:Tryz.prog.cellsOf 22=1:=by kernel_rfl
theorem cellsPgN:Tryz.prog.cellsOf 29=1:=by kernel_rfl
theorem cellsPg:Tryz.prog.cellsOf 31=3:=by kernel_rfl
theorem cell_slice_at {P:Program} {W:World} {r:Reach} {b0:Nat} {t e:TypeId} {v:Value} (ht:P.underlying t=some (.slice e)) (h:Cell.okWide P W r b0 t v):v=.slice none 0 0∨∃ b o len cap,v=.slice (some ⟨b,o,none⟩) len cap/\len<=cap:=by
  simp only [Cell.okWide,ht,Cell.ok] at h
  cases v with
  | slice a len cap=>
    cases a with
    | none=>
      left
      cases len <;> cases cap <;> simp_all
    | some a=>
      right
      obtain ⟨h1,_,h2⟩:=h
      obtain ⟨b,o,sp⟩:=a
      have h3:sp=none:=h2.2.1
      subst h3
      exact ⟨b,o,len,cap,rfl,h1⟩
  | _=>simp_all
theorem itemsI_trod {H:Type} {enc:TypeId × Value->H} {W:World} {r:Reach} {b0 fuel:Nat} {v:Value} {z:DataW H × List MemPlace}
    (hv:Cell.okWide Tryz.prog W r b0 22 v) (hf:DataW.trod enc Tryz.prog W 0 (fun _=>true) true fuel 22 [v]=some z):
    ∃ L,ItIn W v L/\L.length<=maxLen:=by
  rcases cell_slice_at Tryz.underlying22 hv with rfl | ⟨b,o,len,cap,rfl,hlc⟩
  · exact ⟨[],⟨none,0,rfl,Nat.le_refl _,fun _=>Or.inl ⟨rfl,rfl⟩,fun h=>absurd h (by simp)⟩,by simp⟩
  rcases Go.Deep.open_slice Tryz.underlying22 hf with ⟨hcs,_⟩ | ⟨x,l,c,m,n,D,Pl,hcs,_,hl,hm,hmm,hx,hel⟩
  · simp at hcs
  · obtain ⟨hx0,rfl,rfl⟩:(⟨b,o,none⟩:Addr)=x/\len=l/\cap=c:=by simpa using hcs
    subst hx0
    simp only [if_true] at hmm
    subst hmm
    rw [cellsItem] at hel
    have key:∀ i,i<len->∃ q:T × T,W.cell? ⟨b,o+i*2+0,none⟩=some (.string ⟨q.1.toArray⟩)/\W.cell? ⟨b,o+i*2+1,none⟩=some (.string ⟨q.2.toArray⟩):=fun i hi=>by
      obtain ⟨cs',hc,ht⟩:=hel i (by omega)
      obtain ⟨_,_,hat⟩:=World.cells?_some hc
      obtain ⟨q,rfl⟩:=item_cells ht
      have q0:=hat 0 (by omega)
      have q1:=hat 1 (by omega)
      rw [Addr.add_mid,Addr.add_mid] at q0 q1
      exact ⟨q,by simpa [itcl] using q0,by simpa [itcl] using q1⟩
    obtain ⟨f,hf⟩:=Go.Deep.choose_lt (fun i hi=>key i hi)
    have hlen:((List.range len).map f).length=len:=by simp
    refine ⟨(List.range len).map f,⟨some ⟨b,o,none⟩,_,by rw [hlen],by rw [hlen]; exact hlc,fun _=>Or.inr ⟨b,o,rfl⟩,fun h0=>?_⟩,by rw [hlen]; omega⟩
    rw [hlen] at h0
    obtain ⟨q0,_⟩:=hf 0 h0
    refine ⟨b,o,rfl,block_lt_of_cell q0,fun i hi j u hu=>?_⟩
    rw [hlen] at hi
    obtain ⟨q0,q1⟩:=hf i hi
    have e:((List.range len).map f)[i]'(by rw [hlen]; exact hi)=f i:=by simp
    rw [e] at hu
    match j,hu with
    | 0,hu=>simp [itcl] at hu; subst hu; exact q0
    | 1,hu=>simp [itcl] at hu; subst hu; exact q1
    | j+2,hu=>simp [itcl] at hu
theorem strsC_trod {H:Type} {enc:TypeId × Value->H} {W:World} {fuel:Nat} {v:Value} {z:DataW H × List MemPlace}
    (hf:DataW.trod enc Tryz.prog W 0 (fun _=>true) true fuel 29 [v]=some z):
    ∃ L,StrsC W v L/\L.length<=maxLen:=by
  rcases open_strings Tryz.underlying29 Tryz.underlying9 (by kernel_rfl) hf with ⟨hcs,_⟩ | ⟨x,len,cap,ss,hcs,_,hl,hm,hz,_,hcell,hws⟩
  · obtain rfl:v=.slice none 0 0:=by simpa using hcs
    exact ⟨[],StrsC.nil W none 0,Nat.zero_le _⟩
  · obtain rfl:v=.slice (some x) len cap:=by simpa using hcs
    simp only [if_true] at hz
    have hlen:((ss.take len).map (·.data.toList)).length=len:=by simp; omega
    refine ⟨(ss.take len).map (·.data.toList),⟨some x,cap,by rw [hlen],by rw [hlen]; exact hl,fun i hi=>⟨x,rfl,?_⟩⟩,by omega⟩
    rw [hlen] at hi
    rw [hcell i (by omega)]
    simp [List.getD,List.getElem?_eq_getElem (show i<ss.length by omega)]
theorem okWide_cells {P:Program} {W:World} {r:Reach} {b0:Nat} {t:TypeId} {fs:Array Field} {cs:Array Value} {ts:List TypeId} (ht:P.underlying t=some (.struct fs)) (hts:P.cellTypes P.depth t=some ts) (h:Value.okWide P W r b0 t (.agg cs)):
    ∀ i v,cs[i]?=some v->∃ u,ts[i % ts.length]?=some u/\Cell.okWide P W r b0 u v:=by
  simp only [Value.okWide,ht] at h
  obtain ⟨cs',h1,_,ts',h3,_,h4⟩:=h
  obtain rfl:cs=cs':=by simpa using h1
  rw [hts] at h3
  obtain rfl:ts=ts':=Option.some.inj h3
  exact h4
theorem cellsShM:Tryz.prog.cellsOf 3=1:=by kernel_rfl
theorem cellsSh:Tryz.prog.cellsOf 55=8:=by kernel_rfl
theorem typesSh:Tryz.prog.cellTypes Tryz.prog.depth 55=some [9,9,9,3,29,22,9,29]:=by kernel_rfl
theorem shown_open {H:Type} {enc:TypeId × Value->H} {W:World} {r:Reach} {b0:Nat} {v:Value} {d:DataW H} {p:List MemPlace}
    (hv:Value.okWide Tryz.prog W r b0 55 v) (h:DataW.Trod enc Tryz.prog W 0 (fun _=>true) true 55 v d p):
    ∃ (k f e:T) (m:Int) (zk:Value) (K:List T) (zi:Value) (I:St) (x:T) (zn:Value) (L:List T),v=.agg #[.string ⟨k.toArray⟩,.string ⟨f.toArray⟩,.string ⟨e.toArray⟩,.int .i64 m,zk,zi,.string ⟨x.toArray⟩,zn]/\(Lit.int .i64 m).wf=true/\StrsC W zk K/\K.length<=maxLen/\ItIn W zi I/\I.length<=maxLen/\StrsC W zn L/\L.length<=maxLen:=by
  obtain ⟨cs,rfl,_⟩:=okWide_struct Tryz.underlying55 hv
  have hcells:=okWide_cells Tryz.underlying55 typesSh hv
  obtain ⟨fuel,hf⟩:=h
  obtain ⟨ys,n',_,hy,hcl,hyl,hfs⟩:=DataW.trod_struct Tryz.underlying55 hf
  rw [cellsSh] at hcl
  obtain ⟨l⟩:=cs
  change l.length=8 at hcl
  match l,hcl,ys,hyl with
  | [v0,v1,v2,v3,v4,v5,v6,v7],_,[y0,y1,y2,y3,y4,y5],_=>
    have g0:=hfs 0 _ rfl
    have g1:=hfs 1 _ rfl
    have g2:=hfs 2 _ rfl
    have g3:=hfs 3 _ rfl
    have g4:=hfs 4 _ rfl
    have g5:=hfs 5 _ rfl
    simp [cellsPgS,cellsShM,cellsPgN,cellsPg,Value.cells] at g0 g1 g2 g3 g4 g5
    obtain ⟨s0,e0,_,_⟩:=DataW.trod_string Tryz.underlying9 g0
    obtain rfl:v0=.string s0:=by simpa using e0
    obtain ⟨s1,e1,_,_⟩:=DataW.trod_string Tryz.underlying9 g1
    obtain rfl:v1=.string s1:=by simpa using e1
    obtain ⟨s2,e2,_,_⟩:=DataW.trod_string Tryz.underlying9 g2
    obtain rfl:v2=.string s2:=by simpa using e2
    obtain ⟨t,e3,_,wf⟩:=DataW.trod_int Tryz.underlying3 g3
    obtain rfl:v3=.int .i64 t:=by simpa using e3
    obtain ⟨K,hK,hKl⟩:=strsC_trod g4
    obtain ⟨ys,n',_,_,_,hyl,hfs⟩:=DataW.trod_struct Tryz.underlying31 g5
    match ys,hyl with
    | [y0,y1,y2],_=>
      have g0:=hfs 0 _ rfl
      have g1:=hfs 1 _ rfl
      have g2:=hfs 2 _ rfl
      simp [cellsPgI,cellsPgS,cellsPgN] at g0 g1 g2
      obtain ⟨u,hu,hok⟩:=hcells 5 v5 rfl
      obtain rfl:u=22:=by simpa using hu.symm
      obtain ⟨I,hI,hIl⟩:=itemsI_trod hok g0
      obtain ⟨s6,e6,_,_⟩:=DataW.trod_string Tryz.underlying9 g1
      obtain rfl:v6=.string s6:=by simpa using e6
      obtain ⟨L,hL,hLl⟩:=strsC_trod g2
      exact ⟨s0.data.toList,s1.data.toList,s2.data.toList,t,v4,K,v5,I,s6.data.toList,v7,L,by simp,wf,hK,hKl,hI,hIl,hL,hLl⟩
theorem bulk_bound {H:Type} {l:List (DataW H)} (hk:Rows.uptoSmall H l=true):Rows.uptoBulkAll l<=1048576:=of_decide_eq_true hk
theorem bulk_part {H:Type} {d:DataW H} {l:List (DataW H)} (h:d∈l):Rows.uptoBulk d<=Rows.uptoBulkAll l:=by
  induction l with
  | nil=>cases h
  | cons x r ih=>
    simp only [Rows.uptoBulkAll]
    cases List.mem_cons.1 h with
    | inl e=>subst e; omega
    | inr e=>have:=ih e; omega
theorem bulk_string {H:Type} (bytes:List UInt8):Rows.uptoBulk (DataW.lit (H:=H) (.string bytes))=bytes.length+1:=by
  simp [Rows.uptoBulk]
theorem shown_bulk {H:Type} {enc:TypeId × Value->H} {W:World} {k f e:T} {m:Int} {v4 v5 v6 v7:Value} {d:DataW H} {p:List MemPlace}
    (h:DataW.Trod enc Tryz.prog W 0 (fun _=>true) true 55 (.agg #[.string ⟨k.toArray⟩,.string ⟨f.toArray⟩,.string ⟨e.toArray⟩,.int .i64 m,v4,v5,v6,v7]) d p):
    f.length<=Rows.uptoBulk d/\e.length<=Rows.uptoBulk d:=by
  obtain ⟨fuel,hf⟩:=h
  obtain ⟨ys,n',_,hy,hcl,hyl,hfs⟩:=DataW.trod_struct Tryz.underlying55 hf
  match ys,hyl with
  | [y0,y1,y2,y3,y4,y5],_=>
    have g1:=hfs 1 _ rfl
    have g2:=hfs 2 _ rfl
    simp [cellsPgS,Value.cells] at g1 g2
    obtain ⟨s0,e0,x0,_⟩:=DataW.trod_string Tryz.underlying9 g1
    obtain ⟨s1,e1,x1,_⟩:=DataW.trod_string Tryz.underlying9 g2
    obtain rfl:s0=⟨f.toArray⟩:=by simpa using e0.symm
    obtain rfl:s1=⟨e.toArray⟩:=by simpa using e1.symm
    subst x0
    subst x1
    injection hy with hd hp
    subst hd
    have h0:=bulk_string (H:=H) f
    have h1:=bulk_string (H:=H) e
    simp only [List.map_cons,List.map_nil,Rows.uptoBulk,Rows.uptoBulkAll] at h0 h1 ⊢
    constructor <;> simp <;> omega
end
end Go.Proofs.YtaficmboooaknaaGreatDoor
