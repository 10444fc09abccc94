import Derived.Test.YtaficmboooaknaaGreatDoorPp01
import Derived.Test.YtaficmboooaknaaGreatDoorPp09
import Derived.Test.YtaficmboooaknaaGreatDoorPp08
import Derived.KernelRfl
set_option maxRecDepth 100000
set_option maxHeartbeats 16000000
namespace Go.Proofs.YtaficmboooaknaaGreatDoor
section
open Go.RowKit
theorem first_any (w:World):
    Calls Tryz.prog 170 #[] w fun e w'=>e=.returned (.agg (u32s Sha.first.list))/\Below w.heap.size w w':=by
  go_enter Tryz.func170,Tryz.ntmps170
  go_wp2
  refine bodyPost_ret (v:=.agg (u32s Sha.first.list)) (results_cell_row rfl _ _ w.heap.size _ _ (0,0) _ rfl (heap_new_at _ _ _ rfl) Tryz.underlying173 rfl (by kernel_rfl)) rfl ⟨rfl,(Below.refl _ w).alloc (Nat.le_refl _) _⟩
theorem built_hash:Tryz.prog.built 220 [(0,.agg (u32s Sha.first.list))]=some ((hashL Sha.first (List.replicate 64 0) 0).toArray):=by kernel_rfl
theorem wpList_build_to {P:Program} {ops:Array Oper} {rest:List Oper} {o:Oper} {a:Act} {w:World} {Q:Exit->Act->World->Prop} (hg:o.guard=none) (t:TypeId) (parts:Array (Nat × Operand)) (ho:o.op=.build t parts)
    (L:List (Nat × Value)) (hL:(parts.map fun (i,x)=>(i,a.eval x)).toList=L) (C:Array Value) (hC:P.built t L=some C)
    (h:wpList P ops Q rest (a.put o.dst (.agg C)) w):wpList P ops Q (o :: rest) a w:=
  wpList_build hg t parts ho (by rw [hL,hC]; rfl) (by rw [hL,hC]; exact h)
end
section
open Go.RowKit
theorem Tryz.zero72:(Tryz.prog.info? 238).map (fun i=>(i.zero,i.size))=some (some (.agg (u8s (List.replicate 72 0))),72):=by kernel_rfl
theorem tail_any (n:Nat) (w:World) (hn:n<=1152921504606846975):
    Calls Tryz.prog 184 #[.int .u64 n] w fun e w'=>e=.returned (.string ⟨(Sha.tailP n).toArray⟩)/\Below w.heap.size w w':=by
  obtain ⟨m,hm⟩:∃ m:Nat,(n:Int) % 64=(m:Int):=⟨n % 64,by omega⟩
  have hm64:m < 64:=by omega
  obtain ⟨q,hq⟩:∃ q:Nat,(119 - (m:Int)) % 64=(q:Int):=⟨(119 - m) % 64,by omega⟩
  have hq64:q < 64:=by omega
  have HP:Hid (Sha.padN n=1+q):=qh (by unfold Sha.padN; omega)
  have hz:=(zero_of_info Tryz.zero72).1
  obtain ⟨Z,hZ⟩:∃ Z,u8s (List.replicate 72 0)=Z:=⟨_,rfl⟩
  rw [hZ] at hz
  have c0:Z[0]?=some (.int .u8 0):=by rw [← hZ]; rfl
  have HZ:=qh hZ
  clear hZ
  go_enter Tryz.func184,Tryz.ntmps184
  go_wp2
  go_loopw [14] (fun i wr=>∃ k:Nat,k<=8/\i=.int .u64 k/\Below w.heap.size w wr/\wr.heap[w.heap.size]?=some (.cells (u8s (Sha.tailFill n k)) 238 (0,0))) (fun i _=>8 - (intOf i).toNat)
  case atStart=>
    refine ⟨0,by omega,rfl,(Below.refl _ w).alloc (Nat.le_refl _) _,?_⟩
    rw [← HZ.out]
    exact heap_new_at _ _ _ rfl
  case round=>
    obtain ⟨k,hk,rfl,hb,hg⟩:=hrel
    obtain ⟨F,hF⟩:∃ F,Sha.tailFill n k=F:=⟨_,rfl⟩
    have hFl:F.length=72:=by rw [← hF,Sha.tailFill_length]
    rw [hF] at hg
    have HB:=qh hb
    have HG:=qh hg
    have HF:=qh hF
    by_cases hlt:k < 8
    · have hc:wr.cell? ⟨w.heap.size,1+q+k,none⟩=some (.int .u8 ((F.getD (1+q+k) 0).toNat:Int)):=(cell_of_row wr _ _ _ _ _ hg).trans (u8s_at F _ (by omega))
      obtain ⟨old,ho⟩:∃ z,((F.getD (1+q+k) 0).toNat:Int)=z:=⟨_,rfl⟩
      rw [ho] at hc
      have hf:=frozen_of_row wr _ (1+q+k) _ _ hg
      have hn1:Sha.tailFill n (k+1)=F.set (1+q+k) (Sha.byteOf ((n:Int) * 8 / 2 ^ (8 * (7 - k)))):=by rw [← hF,← HP.out]; rfl
      have HN:=qh hn1
      have e0:(1+(q:Int)+(k:Int)).toNat=1+q+k:=by omega
      have e1:(8 * (7 - (k:Int))).toNat=8 * (7 - k):=by omega
      have hk8:(k:Int) < 8:=by omega
      clear hb hg hF hFl ho hn1
      go_wp2
      go_roundw
      case rel=>
        refine ⟨k+1,by omega,by go_num,HB.out.setCell (Nat.le_refl _) _,?_⟩
        rw [HN.out,← u8s_set,Sha.byteOf_toNat]
        exact heap_setCell_same _ _ _ _ _ _ HG.out
      case measure=>simp [intOf]; omega
    · obtain rfl:k=8:=by omega
      have hno:¬ ((8:Nat):Int) < 8:=by omega
      have hTl:(F.take (1+q+8)).length=1+q+8:=by rw [List.length_take,hFl]; omega
      obtain ⟨G,hG⟩:∃ G,F.take (1+q+8)=G:=⟨_,rfl⟩
      have kc:(convert 126 9 (.slice (some ⟨w.heap.size,0,none⟩) (1+q+8) 72)).run Tryz.prog wr=.ok (.string ⟨G.toArray⟩) wr:=by
        have:=run_convert_bytes_back (P:=Tryz.prog) wr 126 9 5 ⟨w.heap.size,0,none⟩ 72 (F.take (1+q+8)) Tryz.underlying126 Tryz.underlying5 Tryz.underlying9 (by
          intro j hj
          rw [hTl] at hj
          rw [Addr.add_mid,Nat.zero_add,cell_of_row wr _ j _ _ _ hg,u8s_at F j (by omega)]
          simp [List.getElem_take,show j < F.length by omega])
        rwa [hTl,hG] at this
      have HR:Hid (G=Sha.tailP n):=qh (by rw [← hG,← HF.out]; unfold Sha.tailP; rw [HP.out])
      have e2:(1+(q:Int)+8).toNat=1+q+8:=by omega
      have e3:(0:Int)<=1+(q:Int)+8:=by omega
      have e4:1+(q:Int)+8<=72:=by omega
      clear hlt hk hg hb hF hFl hTl hG
      go_wp2
      go_ret
      exact ⟨by rw [HR.out]; rfl,HB.out⟩
end
section
open Go.RowKit
theorem sjoin_any (s:Sha.St) (w:World):
    Calls Tryz.prog 185 #[.agg (u32s s.list)] w fun e w'=>e=.returned (.string ⟨(Sha.joinP s).toArray⟩)/\Below w.heap.size w w':=by
  obtain ⟨L,hL⟩:∃ L,s.list=L:=⟨_,rfl⟩
  have hLl:L.length=8:=by rw [← hL]; rfl
  have hj:Sha.joinFill L 8=Sha.joinP s:=by rw [← hL]; rfl
  rw [hL]
  have HJ:=qh hj
  have HLL:=qh hLl
  have hix:∀ (k:Nat),k < 8->∀ w,(Instr.index 173 (.agg (u32s L)) (.int .i64 k)).run Tryz.prog w=.ok (.int .u32 (L.getD k 0)) w:=by
    intro k hk w
    have hu:=Tryz.underlying173
    have hk0:(0:Int)<=(k:Int):=by omega
    have hk8:(k:Int) < 8:=by omega
    have hat:(u32s L)[k]?=some (.int .u32 (L.getD k 0)):=u32s_at L k (by omega)
    unfold Instr.index
    go_simp
  have HIX:=qh hix
  have hsz:(u32s L).size=8:=by rw [u32s_size,hLl]
  have hi:(Tryz.prog.info? 173).map (·.size)=some (u32s L).size:=by rw [hsz]; kernel_rfl
  have HI:=qh hi
  obtain ⟨A,hA⟩:∃ A,u32s L=A:=⟨_,rfl⟩
  rw [hA] at HI HIX ⊢
  clear hA hsz hi hix hj hLl hL
  go_enter Tryz.func185,Tryz.ntmps185
  go_wp2_with (refine wpList_load_row (by rfl) _ _ (by rfl) w.heap.size (by rfl) _ A (0,0) _ (heap_old_at _ (heap_new_at _ _ _ rfl)) Tryz.underlying173 (by rfl) HI.out ?_)
  go_loopw [7] (fun i wr=>∃ k:Nat,k<=8/\i=.int .i64 k/\Below w.heap.size w wr/\wr.heap[w.heap.size+1]?=some (.cells (u8s (Sha.joinFill L k)) 239 (0,0))) (fun i _=>8 - (intOf i).toNat)
  case atStart=>exact ⟨0,by omega,rfl,((Below.refl _ w).alloc (Nat.le_refl _) _).alloc (by simp) _,heap_new_at _ _ _ (by simp)⟩
  case round=>
    obtain ⟨k,hk,rfl,hb,hg⟩:=hrel
    obtain ⟨F,hF⟩:∃ F,Sha.joinFill L k=F:=⟨_,rfl⟩
    have hFl:F.length=32:=by rw [← hF,Sha.joinFill_length]
    rw [hF] at hg
    have HB:=qh hb
    have HG:=qh hg
    have HF:=qh hF
    by_cases hlt:k < 8
    · have hx:=HIX.out k hlt
      have hn:Sha.joinFill L (k+1)=(((F.set (4 * k) (Sha.byteOf (L.getD k 0 / 16777216))).set (4 * k+1) (Sha.byteOf (L.getD k 0 / 65536))).set (4 * k+2) (Sha.byteOf (L.getD k 0 / 256))).set (4 * k+3) (Sha.byteOf (L.getD k 0)):=by rw [← hF]; rfl
      obtain ⟨x,hxx⟩:∃ x,L.getD k 0=x:=⟨_,rfl⟩
      rw [hxx] at hx hn
      have HN:=qh hn
      have hcell:∀ j,j < 32->∃ z,wr.cell? ⟨w.heap.size+1,j,none⟩=some (.int .u8 z):=fun j hj=>⟨_,(cell_of_row wr _ j _ _ _ hg).trans (u8s_at _ j (by omega))⟩
      have hfz:∀ j,wr.frozen? ⟨w.heap.size+1,j,none⟩=false:=fun j=>frozen_of_row wr _ j _ _ hg
      obtain ⟨z0,c0⟩:=hcell (4 * k) (by omega)
      obtain ⟨z1,c1⟩:=hcell (4 * k+1) (by omega)
      obtain ⟨z2,c2⟩:=hcell (4 * k+2) (by omega)
      obtain ⟨z3,c3⟩:=hcell (4 * k+3) (by omega)
      have f0:=hfz (4 * k)
      have f1:=hfz (4 * k+1)
      have f2:=hfz (4 * k+2)
      have f3:=hfz (4 * k+3)
      have e0:(4 * (k:Int)).toNat=4 * k:=by omega
      have e1:(4 * (k:Int)+1).toNat=4 * k+1:=by omega
      have e2:(4 * (k:Int)+2).toNat=4 * k+2:=by omega
      have e3:(4 * (k:Int)+3).toNat=4 * k+3:=by omega
      have hk8:(k:Int) < 8:=by omega
      clear hb hg hF hFl hxx hn hcell hfz
      go_wp2
      go_roundw
      case rel=>
        have hle:w.heap.size<=w.heap.size+1:=Nat.le_succ _
        refine ⟨k+1,by omega,by go_num,(((HB.out.setCell hle _).setCell hle _).setCell hle _).setCell hle _,?_⟩
        rw [HN.out,← u8s_set,← u8s_set,← u8s_set,← u8s_set,Sha.byteOf_toNat,Sha.byteOf_toNat,Sha.byteOf_toNat,Sha.byteOf_toNat]
        exact heap_setCell_same _ _ _ _ _ _ (heap_setCell_same _ _ _ _ _ _ (heap_setCell_same _ _ _ _ _ _ (heap_setCell_same _ _ _ _ _ _ HG.out)))
      case measure=>simp [intOf]; omega
    · obtain rfl:k=8:=by omega
      have hno:¬ ((8:Nat):Int) < 8:=by omega
      have kc:(convert 126 9 (.slice (some ⟨w.heap.size+1,0,none⟩) 32 32)).run Tryz.prog wr=.ok (.string ⟨F.toArray⟩) wr:=by
        have:=run_convert_bytes_back (P:=Tryz.prog) wr 126 9 5 ⟨w.heap.size+1,0,none⟩ 32 F Tryz.underlying126 Tryz.underlying5 Tryz.underlying9 (by
          intro j hj
          rw [Addr.add_mid,Nat.zero_add,cell_of_row wr _ j _ _ _ hg,u8s_at F j hj]
          simp [hj])
        rwa [hFl] at this
      have HR:Hid (F=Sha.joinP s):=qh (by rw [← HF.out,HJ.out])
      clear hlt hk hg hb hF hFl
      go_wp2
      go_ret
      exact ⟨by rw [HR.out]; rfl,HB.out⟩
end
section
open Go.RowKit
theorem HashIs.start {w:World} {g:Nat} (h:w.heap[g]?=some (.cells (hashL Sha.first (List.replicate 64 0) 0).toArray 220 (0,0))):HashIs w g []:=
  ⟨List.replicate 64 0,by simp,rfl,h⟩
theorem Tryz.zero73:(Tryz.prog.info? 220).map (fun i=>(i.zero,i.size))=some (some (.agg (hashL ⟨0,0,0,0,0,0,0,0⟩ (List.replicate 64 0) 0).toArray),73):=by kernel_rfl
theorem hash_one (s:Sha.St) (o:List UInt8) (n:Nat):(hashL s o n).toArray.all (·.oneCell')=true:=by
  refine all_oneCell_toArray ?_
  intro v hv
  simp only [hashL,words8,cellsL,List.mem_append,List.mem_map,List.mem_cons,List.not_mem_nil,or_false] at hv
  rcases hv with (rfl | rfl | rfl | rfl | rfl | rfl | rfl | rfl) | ⟨x,_,rfl⟩ | rfl <;> rfl
theorem wpList_store_new {P:Program} {ops:Array Oper} {rest:List Oper} {o:Oper} {a:Act} {w:World} {Q:Exit->Act->World->Prop} (hgd:o.guard=none) (ty:TypeId) (x y:Operand) (ho:o.op=.store ty x y)
    (g:Nat) (hg:g=w.heap.size) (cells:Array Value) (hx:a.eval x=.pointer (some ⟨g,0,none⟩)) (hy:a.eval y=.agg cells)
    (t:TypeId) (old:Array Value) (hi:(P.info? ty).map (·.size)=some cells.size)
    (hold:old.size=cells.size) (h1:cells.all (·.oneCell')=true)
    (h:wpList P ops Q rest (a.put o.dst undef) (w.alloc (.cells cells t))):wpList P ops Q (o :: rest) a (w.alloc (.cells old t)):=by
  subst hg
  exact wpList_store_row hgd ty x y ho w.heap.size cells hx hy t old (heap_alloc_new w _) hi hold h1 (by rw [World.setRow_alloc_new]; exact h)
theorem hsum_any (t:List UInt8) (g:Nat) (w:World) (hh:HashIs w g t) (hT:Tab w) (hl:t.length<=1152921504606800000):
    Calls Tryz.prog 172 #[.pointer (some ⟨g,0,none⟩)] w fun e w'=>e=.returned (.string ⟨(Sha.sumP t).toArray⟩)/\Below w.heap.size w w':=by
  have hgl:=hh.lt
  have hpos:=hT.pos
  obtain ⟨o,hol,hoq,hg⟩:=hh
  obtain ⟨c,hc⟩:∃ c,t.length=c:=⟨_,rfl⟩
  obtain ⟨C,hC⟩:∃ C,(hashL (Sha.wordsP t) o t.length).toArray=C:=⟨_,rfl⟩
  have hz:=(zero_of_info Tryz.zero73).1
  obtain ⟨Z,hZ⟩:∃ Z,(hashL ⟨0,0,0,0,0,0,0,0⟩ (List.replicate 64 0) 0).toArray=Z:=⟨_,rfl⟩
  have hZs:Z.size=73:=by rw [← hZ,List.size_toArray,hashL_length _ _ _ (by simp)]
  have hCs:C.size=73:=by rw [← hC,List.size_toArray,hashL_length _ _ _ hol]
  have hC1:C.all (·.oneCell')=true:=by rw [← hC]; exact hash_one _ _ _
  have hi:(Tryz.prog.info? 220).map (·.size)=some C.size:=by rw [hCs]; exact (zero_of_info Tryz.zero73).2
  have c72:w.cell? ⟨g,72,none⟩=some (.int .u64 (c:Int)):=by rw [← hc]; exact (cell_of_row w g 72 _ _ _ hg).trans (hashL_count _ _ _ hol)
  have hcop:∀ w' p,w'.heap[p]?=some (.cells C 220 (0,0))->HashIs w' p t:=fun w' p h=>⟨o,hol,hoq,by rw [hC]; exact h⟩
  rw [hC] at hg
  rw [hZ] at hz
  have HC:=qh hc
  have HG:=qh hg
  have HI:=qh hi
  have HC1:=qh hC1
  have HZC:Hid (Z.size=C.size):=qh (by rw [hZs,hCs])
  have HCOP:=qh hcop
  have HT:=qh hT
  clear hc hg hi hC1 hZs hCs hcop hT hC hZ hol hoq
  go_enter Tryz.func172,Tryz.ntmps172
  go_wp2_with (first | (refine wpList_load_row (by rfl) _ _ (by rfl) g (by rfl) _ C _ _ HG.out Tryz.underlying220 (by rfl) HI.out ?_) | (refine wpList_store_new (by rfl) _ _ _ (by rfl) w.heap.size rfl C (by rfl) (by rfl) _ Z HI.out HZC.out HC1.out ?_))
  refine (tail_any c _ (by have:=HC.out; omega)).mono ?_
  rintro e w2 ⟨rfl,hb2⟩
  have hB1:Below w.heap.size w (w.alloc (.cells C 220)):=(Below.refl _ w).alloc (Nat.le_refl _) _
  have hB2:Below w.heap.size w w2:=hB1.trans (hb2.mono hB1.size)
  have hh2:HashIs w2 w.heap.size t:=(HCOP.out _ _ (heap_new_at w _ _ rfl)).below hb2
  have hT2:Tab w2:=HT.out.below hB2
  have hlt:(Sha.tailP c).length<=72:=by rw [Sha.tailP_length]; unfold Sha.padN; omega
  have HW:=qh (write_any t (Sha.tailP c) w.heap.size w2 hh2 hT2 hpos (by omega))
  have HB2:=qh hB2
  clear hb2 hB1 hB2 hh2 hT2 hlt
  go_wp2_with fail
  refine HW.out.mono ?_
  rintro e w3 ⟨rfl,hh3,ho3⟩
  have hB3:Below w.heap.size w w3:=HB2.out.trans (ho3.below (Nat.le_refl _) HB2.out.size)
  have HR:Hid (Sha.sumP t=Sha.joinP (Sha.wordsP (t ++ Sha.tailP c))):=qh (by unfold Sha.sumP; rw [HC.out])
  obtain ⟨o3,hol3,_,hg3⟩:=hh3
  obtain ⟨S,hS⟩:∃ S,Sha.wordsP (t ++ Sha.tailP c)=S:=⟨_,rfl⟩
  rw [hS] at hg3 HR
  have HJ:=qh (sjoin_any S w3)
  have HB3:=qh hB3
  obtain ⟨z0,z1,z2,z3,z4,z5,z6,z7,y0,y1,y2,y3,y4,y5,y6,y7⟩:=words_there hg3
  obtain ⟨a,b,c1,d,e,f,g1,h⟩:=S
  simp only [Sha.St.list,u32s,List.map_cons,List.map_nil] at HJ
  dsimp only at z0 z1 z2 z3 z4 z5 z6 z7
  clear hS hg3 hB3 ho3 y0 y1 y2 y3 y4 y5 y6 y7
  go_wp2_with fail
  refine HJ.out.mono ?_
  rintro e w4 ⟨rfl,hb4⟩
  go_wp2
  go_ret
  exact ⟨by rw [HR.out]; rfl,HB3.out.trans (hb4.mono HB3.out.size)⟩
end
namespace Sha
set_option maxRecDepth 100000
end Sha
section
open Go.RowKit
theorem sum_any (s:List UInt8) (w:World) (hT:Tab w) (hl:s.length<=1152921504606800000):
    Calls Tryz.prog 149 #[.string ⟨s.toArray⟩] w fun e w'=>e=.returned (.string ⟨(Sha.sumP s).toArray⟩)/\Below w.heap.size w w':=by
  have hz:=(zero_of_info Tryz.zero73).1
  obtain ⟨Z,hZ⟩:∃ Z,(hashL ⟨0,0,0,0,0,0,0,0⟩ (List.replicate 64 0) 0).toArray=Z:=⟨_,rfl⟩
  obtain ⟨C,hC⟩:∃ C,(hashL Sha.first (List.replicate 64 0) 0).toArray=C:=⟨_,rfl⟩
  have hZs:Z.size=73:=by rw [← hZ,List.size_toArray,hashL_length _ _ _ (by simp)]
  have hCs:C.size=73:=by rw [← hC,List.size_toArray,hashL_length _ _ _ (by simp)]
  have hC1:C.all (·.oneCell')=true:=by rw [← hC]; exact hash_one _ _ _
  have hi:(Tryz.prog.info? 220).map (·.size)=some C.size:=by rw [hCs]; exact (zero_of_info Tryz.zero73).2
  have hst:∀ w' p,w'.heap[p]?=some (.cells C 220 (0,0))->HashIs w' p []:=fun w' p h=>HashIs.start (by rw [hC]; exact h)
  have hbu:=built_hash
  rw [hC] at hbu
  rw [hZ] at hz
  have HBU:=qh hbu
  have HI:=qh hi
  have HC1:=qh hC1
  have HZC:Hid (Z.size=C.size):=qh (by rw [hZs,hCs])
  have HST:=qh hst
  have HT:=qh hT
  clear hi hC1 hZs hCs hst hT hC hZ hbu
  go_enter Tryz.func149,Tryz.ntmps149
  go_wp2_with fail
  refine (first_any _).mono ?_
  rintro e w1 ⟨rfl,hb1⟩
  go_wp2_with (first | (refine wpList_build_to (by rfl) _ _ (by rfl) [(0,.agg (u32s Sha.first.list))] (by first | rfl | (simp [Act.eval]; done) | kernel_rfl) C HBU.out ?_) | (refine wpList_store_new (by rfl) _ _ _ (by rfl) w1.heap.size rfl C (by rfl) (by rfl) _ Z HI.out HZC.out HC1.out ?_))
  have hB2:Below w.heap.size w (w1.alloc (.cells C 220)):=hb1.alloc hb1.size _
  have hh2:HashIs (w1.alloc (.cells C 220)) w1.heap.size []:=HST.out _ _ (heap_new_at _ _ _ rfl)
  have hT2:=HT.out.below hB2
  have hp:0 < w1.heap.size:=Nat.lt_of_lt_of_le HT.out.pos hb1.size
  have HW:=qh (write_any [] s w1.heap.size _ hh2 hT2 hp (by simp; omega))
  have HB2:=qh hB2
  have HS1:=qh hb1.size
  clear hb1 hB2 hh2 hT2
  refine HW.out.mono ?_
  rintro e w3 ⟨rfl,hh3,ho3⟩
  have hB3:Below w.heap.size w w3:=HB2.out.trans (ho3.below HS1.out HB2.out.size)
  have HS:=qh (hsum_any s w1.heap.size w3 (by simpa using hh3) (HT.out.below hB3) (by omega))
  have HB3:=qh hB3
  clear hh3 ho3 hB3
  go_wp2_with fail
  refine HS.out.mono ?_
  rintro e w4 ⟨rfl,hb4⟩
  go_wp2
  go_ret
  exact ⟨rfl,HB3.out.trans (hb4.mono HB3.out.size)⟩
end
section
open Go.RowKit
theorem isTag_any (t:Int) (w:World):
    Calls Tryz.prog 148 #[.int .i64 t] w fun e w'=>e=.returned (.bool (Dig.isTag t))/\w'=w:=by
  unfold Dig.isTag
  by_cases h1:1<=t
  · by_cases h2:t<=255
    · go_enter Tryz.func148,Tryz.ntmps148
      go_wp2
      go_ret
      simp [h1,h2]
    · go_enter Tryz.func148,Tryz.ntmps148
      go_wp2
      go_ret
      simp [h2]
  · go_enter Tryz.func148,Tryz.ntmps148
    go_wp2
    go_ret
    simp
    omega
def Dig.sum (t:Int) (s:List UInt8):List UInt8:=if Dig.isTag t then Sha.sumP (Sha.byteOf t :: s) else []
def Dig.sumC (t:Int):Int:=if Dig.isTag t then 0 else 1
theorem conv_tag (w:World) (x:Int):(convert 126 9 (.slice (some ⟨w.heap.size,0,none⟩) 1 1)).run Tryz.prog (w.alloc (.cells #[.int .u8 (x % 256)] 5))=.ok (.string ⟨[Sha.byteOf x].toArray⟩) (w.alloc (.cells #[.int .u8 (x % 256)] 5)):=by
  have hg:=heap_alloc_new w (.cells #[.int .u8 (x % 256)] 5)
  refine run_convert_bytes_back (P:=Tryz.prog) _ 126 9 5 ⟨w.heap.size,0,none⟩ 1 [Sha.byteOf x] Tryz.underlying126 Tryz.underlying5 Tryz.underlying9 ?_
  intro j hj
  rw [Addr.add_mid,Nat.zero_add,cell_of_row _ _ j _ _ _ hg]
  match j,hj with
  | 0,_=>simp [Sha.byteOf_toNat]
theorem dsum_any (t:Int) (s:List UInt8) (w:World) (hT:Tab w) (hs:s.length<=140737488351232):
    Calls Tryz.prog 115 #[.int .i64 t,.string ⟨s.toArray⟩] w fun e w'=>e=.returned (.tuple #[.string ⟨(Dig.sum t s).toArray⟩,.int .i64 (Dig.sumC t)])/\Below w.heap.size w w':=by
  unfold Dig.sum Dig.sumC
  by_cases ht:Dig.isTag t=true
  · have HT:=qh ht
    have HTB:=qh hT
    rw [if_pos ht,if_pos ht]
    have HS:=qh (fun w hw=>sum_any (Sha.byteOf t :: s) w hw (by simp; omega))
    obtain ⟨R,hR⟩:∃ R,Sha.sumP (Sha.byteOf t :: s)=R:=⟨_,rfl⟩
    rw [hR] at HS ⊢
    have hcm:=cat_mk [Sha.byteOf t] s
    have kc:=fun w=>conv_tag w t
    rw [List.singleton_append] at hcm
    clear ht hR hT
    go_enter Tryz.func115,Tryz.ntmps115
    go_wp2_with fail
    refine (isTag_any t _).mono ?_
    rintro e w1 ⟨rfl,rfl⟩
    rw [HT.out]
    have hB1:Below w1.heap.size w1 (w1.alloc (.cells #[.int .u8 (t % 256)] 5)):=(Below.refl _ w1).alloc (Nat.le_refl _) _
    go_wp2_with fail
    refine (HS.out _ (HTB.out.below hB1)).mono ?_
    rintro e w2 ⟨rfl,hb2⟩
    go_wp2
    go_ret2
    exact ⟨rfl,bchain hB1 hb2⟩
  · have hf:Dig.isTag t=false:=by simpa using ht
    have HF:=qh hf
    rw [if_neg ht,if_neg ht]
    clear ht hf
    go_enter Tryz.func115,Tryz.ntmps115
    go_wp2_with fail
    refine (isTag_any t _).mono ?_
    rintro e w1 ⟨rfl,rfl⟩
    rw [HF.out]
    go_wp2
    go_ret2
    exact ⟨rfl,Below.refl _ _⟩
end
section
open Go.RowKit
attribute [local go_sem ↓] Go.wp_at_zero Go.wp_at_succ
namespace Sha
def tell4 (x:Int):List UInt8:=[byteOf (x / 16777216),byteOf (x / 65536),byteOf (x / 256),byteOf x]
def tell (L:List Int):Nat->List UInt8
  | 0=>[]
  | k+1=>tell L k ++ tell4 (L.getD k 0)
theorem tell_length (L:List Int) (k:Nat):(tell L k).length=4 * k:=by
  induction k with
  | zero=>rfl
  | succ k ih=>simp [tell,ih,tell4]; omega
theorem set4 (A B:List UInt8) (x:Int) (n:Nat) (hA:A.length=n):((((A ++ 0 :: 0 :: 0 :: 0 :: B).set n (byteOf (x / 16777216))).set (n+1) (byteOf (x / 65536))).set (n+2) (byteOf (x / 256))).set (n+3) (byteOf x)=(A ++ tell4 x) ++ B:=by
  subst hA
  simp [tell4]
theorem joinFill_tell (L:List Int) (k:Nat) (hk:k<=8):joinFill L k=tell L k ++ List.replicate (32 - 4 * k) 0:=by
  induction k with
  | zero=>rfl
  | succ k ih=>
    rw [joinFill,ih (by omega),show 32 - 4 * k=(32 - 4 * (k+1))+1+1+1+1 by omega]
    simp only [List.replicate_succ]
    rw [set4 _ _ _ _ (tell_length L k)]
    rfl
theorem tell_is (s:St):tell s.list 8=joinP s:=by
  rw [joinP,joinFill_tell _ 8 (by omega)]
  simp
end Sha
theorem conv_four2 (w:World) (x0 x1 x2 x3:Int):(convert 126 9 (.slice (some ⟨w.heap.size,0,none⟩) 4 4)).run Tryz.prog (w.alloc (.cells #[.int .u8 (x0 % 256),.int .u8 (x1 % 256),.int .u8 (x2 % 256),.int .u8 (x3 % 256)] 5)).drew=.ok (.string ⟨[Sha.byteOf x0,Sha.byteOf x1,Sha.byteOf x2,Sha.byteOf x3].toArray⟩) (w.alloc (.cells #[.int .u8 (x0 % 256),.int .u8 (x1 % 256),.int .u8 (x2 % 256),.int .u8 (x3 % 256)] 5)).drew:=by
  have hg:(w.alloc (.cells #[.int .u8 (x0 % 256),.int .u8 (x1 % 256),.int .u8 (x2 % 256),.int .u8 (x3 % 256)] 5)).drew.heap[w.heap.size]?=_:=heap_alloc_new w (.cells #[.int .u8 (x0 % 256),.int .u8 (x1 % 256),.int .u8 (x2 % 256),.int .u8 (x3 % 256)] 5)
  refine run_convert_bytes_back (P:=Tryz.prog) _ 126 9 5 ⟨w.heap.size,0,none⟩ 4 [Sha.byteOf x0,Sha.byteOf x1,Sha.byteOf x2,Sha.byteOf x3] Tryz.underlying126 Tryz.underlying5 Tryz.underlying9 ?_
  intro j hj
  rw [Addr.add_mid,Nat.zero_add,cell_of_row _ _ j _ _ _ hg]
  match j,hj with
  | 0,_=>simp [Sha.byteOf_toNat]
  | 1,_=>simp [Sha.byteOf_toNat]
  | 2,_=>simp [Sha.byteOf_toNat]
  | 3,_=>simp [Sha.byteOf_toNat]
theorem rtold_any (s:Sha.St) (w:World):
    Calls Tryz.prog 129 #[.agg (u32s s.list)] w fun e w'=>e=.returned (.string ⟨(Sha.joinP s).toArray⟩)/\Below w.heap.size w w':=by
  obtain ⟨L,hL⟩:∃ L,s.list=L:=⟨_,rfl⟩
  have hLl:L.length=8:=by rw [← hL]; rfl
  have hj:Sha.tell L 8=Sha.joinP s:=by rw [← hL]; exact Sha.tell_is s
  rw [hL]
  have HJ:=qh hj
  have HLL:=qh hLl
  obtain ⟨A,hA⟩:∃ A,u32s L=A:=⟨_,rfl⟩
  have HA:=qh hA
  rw [hA]
  clear hA hj hLl hL
  go_enter Tryz.func129,Tryz.ntmps129
  go_wp2
  go_loopw [3,4] (fun t i wr=>∃ k:Nat,k<=8/\i=.int .i64 k/\t=.string ⟨(Sha.tell L k).toArray⟩/\Below w.heap.size w wr/\wr.heap[w.heap.size]?=some (.cells A 173 (0,0))) (fun _ i _=>8 - (intOf i).toNat)
  case atStart=>exact ⟨0,by omega,rfl,rfl,(Below.refl _ w).alloc (Nat.le_refl _) _,heap_new_at _ _ _ rfl⟩
  case round=>
    obtain ⟨k,hk,rfl,rfl,hb,hg⟩:=hrel
    have HB:=qh hb
    have HG:=qh hg
    by_cases hlt:k < 8
    · have c0:wr.cell? ⟨w.heap.size,k,none⟩=some (.int .u32 (L.getD k 0)):=by
        rw [cell_of_row wr _ k _ _ _ hg,← HA.out]; exact u32s_at L k (by rw [HLL.out]; exact hlt)
      have hn:Sha.tell L (k+1)=Sha.tell L k ++ Sha.tell4 (L.getD k 0):=rfl
      have hXl:=Sha.tell_length L k
      obtain ⟨x,hx⟩:∃ x,L.getD k 0=x:=⟨_,rfl⟩
      obtain ⟨X,hX⟩:∃ X,Sha.tell L k=X:=⟨_,rfl⟩
      obtain ⟨Y,hY⟩:∃ Y,Sha.tell L (k+1)=Y:=⟨_,rfl⟩
      rw [hx] at c0 hn
      rw [hX] at hXl hn ⊢
      rw [hY] at hn
      have hcm:=cat_mk X (Sha.tell4 x)
      rw [← hn] at hcm
      unfold Sha.tell4 at hcm
      have kc:=fun w=>conv_four2 w (x / 16777216) (x / 65536) (x / 256) x
      have hxl:X.length<=32:=by omega
      have hx4:¬ (9223372036854775807 < X.length+4):=by omega
      have HY:=qh hY
      have hlw:=lt_of_heap hg
      have hk8:(k:Int) < 8:=by omega
      have hk0:(0:Int)<=(k:Int):=by omega
      clear hb hg hx hX hY hn hXl
      go_wp2
      go_region
      go_wp2
      go_roundw
      case rel=>exact ⟨k+1,by omega,by go_num,by rw [HY.out],(HB.out.alloc HB.out.size _).drew,heap_old_at _ HG.out⟩
      case measure=>simp [intOf]; omega
    · obtain rfl:k=8:=by omega
      have hno:¬ ((8:Nat):Int) < 8:=by omega
      clear hlt hk hb hg
      go_wp2
      go_ret
      exact ⟨by rw [HJ.out]; rfl,HB.out⟩
end
section
open Go.RowKit
theorem turned_any (x n:Int) (w:World) (h0:1<=n) (h1:n<=31):
    Calls Tryz.prog 156 #[.int .u32 x,.int .i64 n] w fun e w'=>e=.returned (.int .u32 (Sha.rotI x n))/\w'=w:=by
  have hA:0<=32 - n:=by omega
  have hB:32 - n<=32:=by omega
  go_enter Tryz.func156,Tryz.ntmps156
  go_wp2
  go_ret
  refine ⟨?_,rfl⟩
  simp only [Sha.rotI]
  rw [Sha.bits_or_comm]
  rfl
theorem rfirst_any (w:World):
    Calls Tryz.prog 127 #[] w fun e w'=>e=.returned (.agg (u32s Sha.first.list))/\Below w.heap.size w w':=by
  go_enter Tryz.func127,Tryz.ntmps127
  go_wp2
  refine bodyPost_ret (v:=.agg (u32s Sha.first.list)) (results_cell_row rfl _ _ w.heap.size _ _ (0,0) _ rfl (heap_new_at _ _ _ rfl) Tryz.underlying173 rfl (by kernel_rfl)) rfl ⟨rfl,(Below.refl _ w).alloc (Nat.le_refl _) _⟩
def constParts:List (Nat × Value):=Sha.kTab.zipIdx.map fun x=>(x.2,.int .u32 x.1)
theorem built_consts:Tryz.prog.built 224 constParts=some (u32s Sha.kTab):=by kernel_rfl
theorem info64w:(Tryz.prog.info? 224).map (·.size)=some 64:=by kernel_rfl
theorem const_any (i:Nat) (w:World) (hi:i < 64):
    Calls Tryz.prog 157 #[.int .i64 i] w fun e w'=>e=.returned (.int .u32 (Sha.kTab.getD i 0))/\Below w.heap.size w w':=by
  have h64:(i:Int) < 64:=by omega
  have hat:=u32s_at Sha.kTab i hi
  obtain ⟨K,hK⟩:∃ K,u32s Sha.kTab=K:=⟨_,rfl⟩
  rw [hK] at hat
  obtain ⟨x,hx⟩:∃ x,Sha.kTab.getD i 0=x:=⟨_,rfl⟩
  rw [hx] at hat ⊢
  have hbu:=built_consts
  rw [hK] at hbu
  have HBU:=qh hbu
  have HI:Hid ((Tryz.prog.info? 224).map (·.size)=some K.size):=qh (by rw [← hK]; exact info64w)
  have HS:Hid (K.size=64):=qh (by rw [← hK]; rfl)
  have H1:Hid (K.all (·.oneCell')=true):=qh (by rw [← hK]; exact u32s_one _)
  clear hK hx hbu
  go_enter Tryz.func157,Tryz.ntmps157
  go_wp2_with (first | (refine wpList_build_to (by rfl) _ _ (by rfl) constParts (by first | kernel_rfl | rfl) K HBU.out ?_) | (refine wpList_store_new (by rfl) _ _ _ (by rfl) w.heap.size rfl K (by rfl) (by rfl) _ _ HI.out (by rw [HS.out]; rfl) H1.out ?_))
  go_ret
  exact ⟨rfl,(Below.refl _ w).alloc (Nat.le_refl _) _⟩
end
section
open Go.RowKit
attribute [local go_sem ↓] Go.wp_at_zero Go.wp_at_succ
theorem info8w:(Tryz.prog.info? 173).map (·.size)=some 8:=by kernel_rfl
structure Boxed (p:Prop):Prop where
  out:p
theorem rblock_any (s:Sha.St) (b:List UInt8) (w:World) (hb:b.length=64):
    Calls Tryz.prog 128 #[.agg (u32s s.list),.agg (u8s b)] w fun e w'=>e=.returned (.agg (u32s (Sha.blockR s b).list))/\Below w.heap.size w w':=by
  obtain ⟨s0,hs0⟩:∃ s0,s=s0:=⟨_,rfl⟩
  obtain ⟨a,b1,c,d,e,f,g,h⟩:=s
  obtain ⟨bs,hbs⟩:∃ bs,u8s b=bs:=⟨_,rfl⟩
  rw [hbs]
  have HS:=Boxed.mk hs0
  have HBS:=Boxed.mk hbs
  have HLB:=Boxed.mk hb
  simp only [Sha.St.list,u32s,List.map_cons,List.map_nil]
  clear hbs hs0 hb
  go_enter Tryz.func128,Tryz.ntmps128
  go_wp2
  go_loopw [6] (fun i wr=>∃ k:Nat,k<=64/\i=.int .i64 k/\Below w.heap.size w wr/\wr.heap[w.heap.size]?=some (.cells (u32s [a,b1,c,d,e,f,g,h]) 173 (0,0))/\wr.heap[w.heap.size+1]?=some (.cells bs 175 (0,0))/\wr.heap[w.heap.size+1+1]?=some (.cells (u32s (List.replicate 8 0)) 173 (0,0))/\wr.heap[w.heap.size+1+1+1]?=some (.cells (u32s (Sha.fillR b k)) 202 (0,0))) (fun i _=>64 - (intOf i).toNat)
  case atStart=>
    refine ⟨0,by omega,rfl,?_,?_,?_,?_,?_⟩
    · exact ((((Below.refl _ w).alloc (Nat.le_refl _) _).alloc (by simp) _).alloc (by simp; omega) _).alloc (by simp; omega) _
    · exact heap_old_at _ (heap_old_at _ (heap_old_at _ (heap_new_at _ _ _ (by simp))))
    · exact heap_old_at _ (heap_old_at _ (heap_new_at _ _ _ (by simp)))
    · exact heap_old_at _ (heap_new_at _ _ _ (by simp))
    · exact heap_new_at _ _ _ (by simp)
  case round=>
    obtain ⟨k,hk,rfl,hbe,hg0,hg1,hg2,hg3⟩:=hrel
    obtain ⟨F,hF⟩:∃ F,Sha.fillR b k=F:=⟨_,rfl⟩
    have hFl:F.length=16:=by rw [← hF,Sha.fillR_length]
    rw [hF] at hg3
    have HF:=Boxed.mk hF
    have HBE:=Boxed.mk hbe
    have HG0:=Boxed.mk hg0
    have HG1:=Boxed.mk hg1
    have HG2:=Boxed.mk hg2
    have HG3:=Boxed.mk hg3
    by_cases hlt:k < 64
    · obtain ⟨q,hq⟩:∃ q,k / 4=q:=⟨_,rfl⟩
      have hq16:q < 16:=by omega
      have cb:wr.cell? ⟨w.heap.size+1,k,none⟩=some (.int .u8 ((b.getD k 0).toNat:Int)):=by
        rw [cell_of_row wr _ k bs _ _ hg1,← HBS.out]; exact u8s_at b k (by rw [HLB.out]; exact hlt)
      have cw:wr.cell? ⟨w.heap.size+1+1+1,q,none⟩=some (.int .u32 (F.getD q 0)):=(cell_of_row wr _ q _ _ _ hg3).trans (u32s_at F q (by omega))
      have fw:=frozen_of_row wr _ q _ _ hg3
      have hn:Sha.fillR b (k+1)=F.set q ((F.getD q 0 * 256+((b.getD k 0).toNat:Int)) % 4294967296):=by rw [← hF,← hq]; rfl
      obtain ⟨x,hx⟩:∃ x,b.getD k 0=x:=⟨_,rfl⟩
      obtain ⟨y,hy⟩:∃ y,F.getD q 0=y:=⟨_,rfl⟩
      rw [hx] at cb hn
      rw [hy] at cw hn
      have HN:=Boxed.mk hn
      have hxb:=byte_lt x
      have hqt:(k:Int).tdiv 4=(q:Int):=by rw [Int.tdiv_eq_ediv_of_nonneg (by omega)]; omega
      have hqd:(k:Int) / 4=(q:Int):=by omega
      have hqI:(q:Int) < 16:=by omega
      have hq0:(0:Int)<=(q:Int):=by omega
      have hkI:(k:Int) < 64:=by omega
      have hk0:(0:Int)<=(k:Int):=by omega
      have wq:=wrap_small (q:Int) (by omega) (by omega)
      clear hbe hg0 hg1 hg2 hg3 hF hFl hq hn hx hy
      go_wp2
      go_region
      go_wp2
      go_roundw
      case rel=>
        refine ⟨k+1,by omega,by go_num,(HBE.out.setCell (by dsimp only; omega) _).drew,?_,?_,?_,?_⟩
        · exact (Below.heap_setCell _ _ _ _ (by dsimp only; omega)).trans HG0.out
        · exact (Below.heap_setCell _ _ _ _ (by dsimp only; omega)).trans HG1.out
        · exact (Below.heap_setCell _ _ _ _ (by dsimp only; omega)).trans HG2.out
        · rw [HN.out,← u32s_set,show (y * 256+(x.toNat:Int)) % 4294967296=y * 256 % 4294967296+(x.toNat:Int) by omega]
          exact heap_setCell_same _ _ _ _ _ _ HG3.out
      case measure=>simp [intOf]; omega
    · obtain rfl:k=64:=by omega
      have hno:¬ ((64:Nat):Int) < 64:=by omega
      have hc:∀ j,wr.cell? ⟨w.heap.size,j,none⟩=(u32s [a,b1,c,d,e,f,g,h])[j]?:=fun j=>cell_of_row wr _ j _ _ _ hg0
      have k0:=hc 0
      have k1:=hc 1
      have k2:=hc 2
      have k3:=hc 3
      have k4:=hc 4
      have k5:=hc 5
      have k6:=hc 6
      have k7:=hc 7
      simp only [u32s,List.map_cons,List.map_nil,List.getElem?_toArray,List.getElem?_cons_zero,List.getElem?_cons_succ] at k0 k1 k2 k3 k4 k5 k6 k7
      clear hlt hk hbe hg0 hg1 hg2 hg3 hF hc
      obtain ⟨V,hV⟩:∃ V,F=V:=⟨_,rfl⟩
      subst hV
      obtain ⟨V,hV⟩:∃ V,V=F:=⟨_,rfl⟩
      subst hV
      go_wp2
      go_quiet (fail)
      go_wp2
      go_quiet (fail)
      go_wp2
      clear k0 k1 k2 k3 k4 k5 k6 k7
      go_loopw [7,8,9,10,11,12,13,14,15] (fun xa xb xc xd xe xf xg xh i wr=>∃ k:Nat,k<=64/\i=.int .i64 k/\xa=.int .u32 (Sha.roundsR s0 V k).a/\xb=.int .u32 (Sha.roundsR s0 V k).b/\xc=.int .u32 (Sha.roundsR s0 V k).c/\xd=.int .u32 (Sha.roundsR s0 V k).d/\xe=.int .u32 (Sha.roundsR s0 V k).e/\xf=.int .u32 (Sha.roundsR s0 V k).f/\xg=.int .u32 (Sha.roundsR s0 V k).g/\xh=.int .u32 (Sha.roundsR s0 V k).h/\Below w.heap.size w wr/\wr.heap[w.heap.size]?=some (.cells (u32s [a,b1,c,d,e,f,g,h]) 173 (0,0))/\wr.heap[w.heap.size+1+1]?=some (.cells (u32s (List.replicate 8 0)) 173 (0,0))/\wr.heap[w.heap.size+1+1+1]?=some (.cells (u32s (Sha.win V k)) 202 (0,0))) (fun _ _ _ _ _ _ _ _ i _=>64 - (intOf i).toNat)
      case atStart=>
        refine ⟨0,by omega,rfl,by rw [← HS.out]; rfl,by rw [← HS.out]; rfl,by rw [← HS.out]; rfl,by rw [← HS.out]; rfl,by rw [← HS.out]; rfl,by rw [← HS.out]; rfl,by rw [← HS.out]; rfl,by rw [← HS.out]; rfl,bel_drewN (bel_drewN HBE.out _) _,HG0.out,HG2.out,HG3.out⟩
      case round=>
        clear HBE HG0 HG1 HG2 HG3
        obtain ⟨k,hk,rfl,rfl,rfl,rfl,rfl,rfl,rfl,rfl,rfl,hbe,hg0,hg2,hg3⟩:=hrel
        by_cases hlt:k < 64
        · obtain ⟨U,hU⟩:∃ U,Sha.win V k=U:=⟨_,rfl⟩
          obtain ⟨U',hU'⟩:∃ U',Sha.win V (k+1)=U':=⟨_,rfl⟩
          have hUl:U.length=16:=by rw [← hU,Sha.win_length,hFl]
          have hUl':U'.length=16:=by rw [← hU',Sha.win_length,hFl]
          have hnext:U'=Sha.winNext U k:=by rw [← hU',← hU]; rfl
          obtain ⟨T,hT⟩:∃ T,Sha.roundsR s0 V k=T:=⟨_,rfl⟩
          obtain ⟨r0,hr0⟩:∃ r,k % 16=r:=⟨_,rfl⟩
          have hr16:r0 < 16:=by omega
          have hstep:Sha.roundsR s0 V (k+1)=Sha.step T (Sha.kTab.getD k 0) (U'.getD r0 0):=by rw [← hT,← hU',← hr0]; rfl
          obtain ⟨ww,hww⟩:∃ x,U'.getD r0 0=x:=⟨_,rfl⟩
          rw [hww] at hstep
          have hkc:=fun W=>const_any k W hlt
          obtain ⟨kk,hkk⟩:∃ x,Sha.kTab.getD k 0=x:=⟨_,rfl⟩
          rw [hkk] at hstep hkc
          have HKC:=Boxed.mk hkc
          clear hkk hkc
          rw [hU] at hg3
          have HST:=Boxed.mk hstep
          have HU:=Boxed.mk hU'
          have HUL:=Boxed.mk hUl'
          have HWW:=Boxed.mk hww
          have hm0:(k:Int).tmod 16=(r0:Int):=by rw [Int.tmod_eq_emod_of_nonneg (by omega)]; omega
          have hm0':(k:Int) % 16=(r0:Int):=by omega
          have hrI:(r0:Int) < 16:=by omega
          have hrp:(0:Int)<=(r0:Int):=by omega
          have hkI:(k:Int) < 64:=by omega
          rw [hT]
          obtain ⟨ra,rb,rc,rd,re,rf,rg,rh⟩:=T
          clear hU hU' hUl' hstep hww hT
          dsimp only
          by_cases h16:16<=k
          · have h16n:(k:Int) ≥ 16:=by omega
            have hUU:U'=U.set r0 ((U.getD r0 0+Sha.sP (U.getD ((k+1) % 16) 0)+U.getD ((k+9) % 16) 0+Sha.tP (U.getD ((k+14) % 16) 0)) % 4294967296):=by rw [hnext,Sha.winNext,if_pos h16,hr0]
            have hcw:∀ j,j < 16->wr.cell? ⟨w.heap.size+1+1+1,j,none⟩=some (.int .u32 (U.getD j 0)):=fun j hj=>(cell_of_row wr _ j _ _ _ hg3).trans (u32s_at U j (by omega))
            obtain ⟨r1,hr1⟩:∃ r,(k+1) % 16=r:=⟨_,rfl⟩
            have hr1b:r1 < 16:=by omega
            rw [hr1] at hUU
            have hm1:((k:Int)+1).tmod 16=(r1:Int):=by rw [Int.tmod_eq_emod_of_nonneg (by omega)]; omega
            have hm1':((k:Int)+1) % 16=(r1:Int):=by omega
            have hr1I:(r1:Int) < 16:=by omega
            have c1:=hcw r1 hr1b
            obtain ⟨v1,hu1⟩:∃ x,U.getD r1 0=x:=⟨_,rfl⟩
            rw [hu1] at c1 hUU
            clear hr1 hu1
            obtain ⟨r9,hr9⟩:∃ r,(k+9) % 16=r:=⟨_,rfl⟩
            have hr9b:r9 < 16:=by omega
            rw [hr9] at hUU
            have hm9:((k:Int)+9).tmod 16=(r9:Int):=by rw [Int.tmod_eq_emod_of_nonneg (by omega)]; omega
            have hm9':((k:Int)+9) % 16=(r9:Int):=by omega
            have hr9I:(r9:Int) < 16:=by omega
            have c9:=hcw r9 hr9b
            obtain ⟨v9,hu9⟩:∃ x,U.getD r9 0=x:=⟨_,rfl⟩
            rw [hu9] at c9 hUU
            clear hr9 hu9
            obtain ⟨r14,hr14⟩:∃ r,(k+14) % 16=r:=⟨_,rfl⟩
            have hr14b:r14 < 16:=by omega
            rw [hr14] at hUU
            have hm14:((k:Int)+14).tmod 16=(r14:Int):=by rw [Int.tmod_eq_emod_of_nonneg (by omega)]; omega
            have hm14':((k:Int)+14) % 16=(r14:Int):=by omega
            have hr14I:(r14:Int) < 16:=by omega
            have c14:=hcw r14 hr14b
            obtain ⟨v14,hu14⟩:∃ x,U.getD r14 0=x:=⟨_,rfl⟩
            rw [hu14] at c14 hUU
            clear hr14 hu14
            have c0:=hcw r0 hr16
            have f0:=frozen_of_row wr _ r0 _ _ hg3
            obtain ⟨v0,hu0⟩:∃ x,U.getD r0 0=x:=⟨_,rfl⟩
            rw [hu0] at c0 hUU
            have HUU:=Boxed.mk hUU
            have HBE:=Boxed.mk hbe
            have HG0:=Boxed.mk hg0
            have HG2:=Boxed.mk hg2
            have HG3:=Boxed.mk hg3
            clear hu0 hcw hUU hbe hg0 hg2 hg3 hnext hUl hr0
            go_wp2_with fail
            refine (turned_any v1 7 _ (by omega) (by omega)).mono ?_
            rintro _ _ ⟨rfl,rfl⟩
            go_wp2_with fail
            refine (turned_any v1 18 _ (by omega) (by omega)).mono ?_
            rintro _ _ ⟨rfl,rfl⟩
            go_wp2_with fail
            refine (turned_any v14 17 _ (by omega) (by omega)).mono ?_
            rintro _ _ ⟨rfl,rfl⟩
            go_wp2_with fail
            refine (turned_any v14 19 _ (by omega) (by omega)).mono ?_
            rintro _ _ ⟨rfl,rfl⟩
            go_wp2
            go_region
            go_wp2
            generalize hw5:World.drew (World.setCell _ _ _)=w5
            have H53:Boxed (w5.heap[w.heap.size+1+1+1]?=some (.cells (u32s U') 202 (0,0))):=Boxed.mk (by
              rw [← hw5,HUU.out,← u32s_set]
              refine (heap_setCell_same _ _ _ _ _ _ HG3.out).trans ?_
              first | rfl | (simp only [Int.emod_add_emod]; rfl))
            have H50:Boxed (w5.heap[w.heap.size]?=some (.cells (u32s [a,b1,c,d,e,f,g,h]) 173 (0,0))):=Boxed.mk (by rw [← hw5]; exact (Below.heap_setCell _ _ _ _ (by dsimp only; omega)).trans HG0.out)
            have H52:Boxed (w5.heap[w.heap.size+1+1]?=some (.cells (u32s (List.replicate 8 0)) 173 (0,0))):=Boxed.mk (by rw [← hw5]; exact (Below.heap_setCell _ _ _ _ (by dsimp only; omega)).trans HG2.out)
            have HB5:Boxed (Below w.heap.size w w5):=Boxed.mk (by rw [← hw5]; exact (HBE.out.setCell (by dsimp only; omega) _).drew)
            clear hw5 c0 c1 c9 c14 f0 hm1 hm1' hm9 hm9' hm14 hm14'
            have hlt5:=lt_of_heap H53.out
            have hSS:∀ w',Below w5.heap.size w5 w'->w'.cell? ⟨w.heap.size+1+1+1,r0,none⟩=some (.int .u32 ww)/\Below w5.heap.size w5 w':=fun w' hw=>⟨(cell_of_row w' _ r0 _ _ _ ((hw.block _ hlt5).trans H53.out)).trans (by rw [← HWW.out]; exact u32s_at U' r0 (by rw [HUL.out]; omega)),hw⟩
            have HSS:=Boxed.mk hSS
            have HDR:Boxed (Below w5.heap.size w5 w5.drew):=Boxed.mk (Below.refl _ w5).drew
            clear hSS hlt5
            try go_wp2
            go_region_held3 (fun w'=>w'.cell? ⟨w.heap.size+1+1+1,r0,none⟩=some (.int .u32 ww)/\Below w5.heap.size w5 w')
              ((refine HSS.out _ ?_; with_reducible (first | exact HDR.out | exact hB9 | fail)))
              (first | (go_at_call 156; refine (turned_any _ _ _ (by omega) (by omega)).mono ?_; rintro e' w' ⟨rfl,rfl⟩) | (go_at_call 157; refine (HKC.out _).mono ?_; rintro e' w9 ⟨rfl,hb9⟩; (have hB9:Below w5.heap.size w5 w9:=Below.trans HDR.out hb9)))
            have HB9:=Boxed.mk hB9
            clear hB9 hb9
            go_wp2_with fail
            refine (turned_any ra 2 _ (by omega) (by omega)).mono ?_
            rintro _ _ ⟨rfl,rfl⟩
            go_wp2_with fail
            refine (turned_any ra 13 _ (by omega) (by omega)).mono ?_
            rintro _ _ ⟨rfl,rfl⟩
            go_wp2_with fail
            refine (turned_any ra 22 _ (by omega) (by omega)).mono ?_
            rintro _ _ ⟨rfl,rfl⟩
            go_wp2
            go_roundw
            case rel=>
              have hb9:=HB9.out
              have l0:=lt_of_heap H50.out
              have l2:=lt_of_heap H52.out
              have l3:=lt_of_heap H53.out
              refine ⟨k+1,by omega,by go_num,?_,?_,?_,?_,?_,?_,?_,?_,HB5.out.trans (hb9.mono HB5.out.size),(hb9.block _ l0).trans H50.out,(hb9.block _ l2).trans H52.out,by rw [HU.out]; exact (hb9.block _ l3).trans H53.out⟩ <;> rw [HST.out] <;> simp only [Sha.step,Sha.uP,Sha.vP,Int.emod_add_emod] <;> rfl
            case measure=>simp [intOf]; omega
          · have h16n:¬ ((k:Int) ≥ 16):=by omega
            have hUU:U'=U:=by rw [hnext,Sha.winNext,if_neg h16]
            rw [← hUU] at hg3
            obtain ⟨w5,hw5⟩:∃ w5,wr=w5:=⟨_,rfl⟩
            have H53:Boxed (w5.heap[w.heap.size+1+1+1]?=some (.cells (u32s U') 202 (0,0))):=Boxed.mk (by rw [← hw5]; exact hg3)
            have H50:Boxed (w5.heap[w.heap.size]?=some (.cells (u32s [a,b1,c,d,e,f,g,h]) 173 (0,0))):=Boxed.mk (by rw [← hw5]; exact hg0)
            have H52:Boxed (w5.heap[w.heap.size+1+1]?=some (.cells (u32s (List.replicate 8 0)) 173 (0,0))):=Boxed.mk (by rw [← hw5]; exact hg2)
            have HB5:Boxed (Below w.heap.size w w5):=Boxed.mk (by rw [← hw5]; exact hbe)
            rw [hw5]
            clear hw5 hbe hg0 hg2 hg3 hnext hUl hUU hr0
            have hlt5:=lt_of_heap H53.out
            have hSS:∀ w',Below w5.heap.size w5 w'->w'.cell? ⟨w.heap.size+1+1+1,r0,none⟩=some (.int .u32 ww)/\Below w5.heap.size w5 w':=fun w' hw=>⟨(cell_of_row w' _ r0 _ _ _ ((hw.block _ hlt5).trans H53.out)).trans (by rw [← HWW.out]; exact u32s_at U' r0 (by rw [HUL.out]; omega)),hw⟩
            have HSS:=Boxed.mk hSS
            have HDR:Boxed (Below w5.heap.size w5 w5.drew):=Boxed.mk (Below.refl _ w5).drew
            clear hSS hlt5
            try go_wp2
            go_region_held3 (fun w'=>w'.cell? ⟨w.heap.size+1+1+1,r0,none⟩=some (.int .u32 ww)/\Below w5.heap.size w5 w')
              ((refine HSS.out _ ?_; with_reducible (first | exact HDR.out | exact hB9 | fail)))
              (first | (go_at_call 156; refine (turned_any _ _ _ (by omega) (by omega)).mono ?_; rintro e' w' ⟨rfl,rfl⟩) | (go_at_call 157; refine (HKC.out _).mono ?_; rintro e' w9 ⟨rfl,hb9⟩; (have hB9:Below w5.heap.size w5 w9:=Below.trans HDR.out hb9)))
            have HB9:=Boxed.mk hB9
            clear hB9 hb9
            go_wp2_with fail
            refine (turned_any ra 2 _ (by omega) (by omega)).mono ?_
            rintro _ _ ⟨rfl,rfl⟩
            go_wp2_with fail
            refine (turned_any ra 13 _ (by omega) (by omega)).mono ?_
            rintro _ _ ⟨rfl,rfl⟩
            go_wp2_with fail
            refine (turned_any ra 22 _ (by omega) (by omega)).mono ?_
            rintro _ _ ⟨rfl,rfl⟩
            go_wp2
            go_roundw
            case rel=>
              have hb9:=HB9.out
              have l0:=lt_of_heap H50.out
              have l2:=lt_of_heap H52.out
              have l3:=lt_of_heap H53.out
              refine ⟨k+1,by omega,by go_num,?_,?_,?_,?_,?_,?_,?_,?_,HB5.out.trans (hb9.mono HB5.out.size),(hb9.block _ l0).trans H50.out,(hb9.block _ l2).trans H52.out,by rw [HU.out]; exact (hb9.block _ l3).trans H53.out⟩ <;> rw [HST.out] <;> simp only [Sha.step,Sha.uP,Sha.vP,Int.emod_add_emod] <;> rfl
            case measure=>simp [intOf]; omega
        · obtain rfl:k=64:=by omega
          have hno:¬ ((64:Nat):Int) < 64:=by omega
          have hc:∀ j,wr.cell? ⟨w.heap.size,j,none⟩=(u32s [a,b1,c,d,e,f,g,h])[j]?:=fun j=>cell_of_row wr _ j _ _ _ hg0
          have k0:=hc 0
          have k1:=hc 1
          have k2:=hc 2
          have k3:=hc 3
          have k4:=hc 4
          have k5:=hc 5
          have k6:=hc 6
          have k7:=hc 7
          simp only [u32s,List.map_cons,List.map_nil,List.getElem?_toArray,List.getElem?_cons_zero,List.getElem?_cons_succ] at k0 k1 k2 k3 k4 k5 k6 k7
          obtain ⟨T,hT⟩:∃ T,Sha.roundsR s0 V 64=T:=⟨_,rfl⟩
          have HR:Boxed (Sha.blockR ⟨a,b1,c,d,e,f,g,h⟩ b=Sha.addP ⟨a,b1,c,d,e,f,g,h⟩ T):=Boxed.mk (by unfold Sha.blockR; rw [HS.out,HF.out,hT])
          rw [hT]
          obtain ⟨ra,rb,rc,rd,re,rf,rg,rh⟩:=T
          have HG2:=Boxed.mk hg2
          have HBE:=Boxed.mk hbe
          clear hlt hk hbe hg0 hg2 hg3 hc hT
          dsimp only
          go_wp2_with (refine wpList_store_row (by rfl) _ _ _ (by rfl) (w.heap.size+1+1) (u32s (Sha.addP ⟨a,b1,c,d,e,f,g,h⟩ ⟨ra,rb,rc,rd,re,rf,rg,rh⟩).list) (by rfl) (by rfl) _ _ HG2.out (by exact info8w) (by rfl) (u32s_one _) ?_)
          refine bodyPost_ret (v:=.agg (u32s (Sha.addP ⟨a,b1,c,d,e,f,g,h⟩ ⟨ra,rb,rc,rd,re,rf,rg,rh⟩).list)) (results_cell_row rfl _ _ (w.heap.size+1+1) _ _ _ _ rfl (setRow_heap _ _ _ _ _ _ HG2.out) Tryz.underlying173 rfl info8w) rfl ⟨?_,below_setRow HBE.out (by omega) _⟩
          rw [HR.out]
          rfl
end
end Go.Proofs.YtaficmboooaknaaGreatDoor
