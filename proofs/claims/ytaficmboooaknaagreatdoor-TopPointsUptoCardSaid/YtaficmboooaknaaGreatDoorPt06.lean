import Derived.Test.YtaficmboooaknaaGreatDoorPt05
set_option maxRecDepth 100000
set_option maxHeartbeats 16000000
namespace Go.Proofs.YtaficmboooaknaaGreatDoor
section
open Go.RowKit
open Nd (N)
theorem nrtext_st (most:Int) (st:Nd.St) (g:Nat) (w:World) (h:Rd w g st.1 st.2) (hl:st.1.length<=100000000):
    Calls Tryz.prog 111 #[.pointer (some ⟨g,0,none⟩),.int .i64 most] w fun e w'=>e=.returned (.string ⟨(Nd.rdT most st).1.toArray⟩)/\Rd w' g (Nd.rdT most st).2.1 (Nd.rdT most st).2.2/\Only g w w':=by
  unfold Nd.rdT
  by_cases hc:st.2=0
  · rw [if_neg (by simpa using hc)]
    rw [hc] at h
    exact rtext_any most st.1 g w h hl
  · rw [if_pos hc]
    obtain ⟨s,c⟩:=st
    dsimp only at h hc hl ⊢
    have h0:=h.left
    have h1:=h.code
    have hf0:=h.free0
    have hc1:(c != 0)=true:=by rw [bne_iff_ne]; exact hc
    go_enter Tryz.func111,Tryz.ntmps111
    go_wp2_with fail
    refine (count_stuck most s c g w h hc).mono ?_
    rintro e w1 ⟨rfl,rfl⟩
    go_wp2_with fail
    refine (bytes_stuck 0 s c g w1 h hc).mono ?_
    rintro e w2 ⟨rfl,rfl⟩
    go_wp2
    go_ret
    exact ⟨rfl,h.setLeft s,(Only.refl g _).setCell rfl _⟩
theorem nrbytes_st (n:Nat) (st:Nd.St) (g:Nat) (w:World) (h:Rd w g st.1 st.2) (hl:st.1.length<=100000000):
    Calls Tryz.prog 109 #[.pointer (some ⟨g,0,none⟩),.int .i64 n] w fun e w'=>e=.returned (.string ⟨(Nd.rdB n st).1.toArray⟩)/\Rd w' g (Nd.rdB n st).2.1 (Nd.rdB n st).2.2/\Only g w w':=by
  unfold Nd.rdB
  by_cases hc:st.2=0
  · rw [if_neg (by simpa using hc)]
    rw [hc] at h
    refine (bytes_any n st.1 g w h hl).mono ?_
    rintro e w' ⟨rfl,h1,h2⟩
    have hb:Code.bytesR (n:Int) st.1=if st.1.length<n then ([],st.1,20) else (st.1.take n,st.1.drop n,0):=by
      unfold Code.bytesR
      rw [if_neg (by omega)]
      rfl
    rw [hb] at h1 ⊢
    exact ⟨rfl,h1,h2⟩
  · rw [if_pos hc]
    refine (bytes_stuck n st.1 st.2 g w h hc).mono ?_
    rintro e w' ⟨rfl,rfl⟩
    exact ⟨rfl,h,Only.refl _ _⟩
theorem nunpack_any (s:List UInt8) (w:World) (hl:s.length<=1000000):
    Calls Tryz.prog 143 #[.string ⟨s.toArray⟩] w fun e w'=>∃ p is c,e=.returned (.tuple #[.string ⟨p.toArray⟩,.bool is,.int .i64 c])/\(∀ leaf,Nd.unp leaf s=(p,c == 0&&is == leaf))/\Below w.heap.size w w':=by
  match h:Nib.unpackL s with
  | none=>
    refine (unpack_none s w hl h).mono ?_
    rintro e w' ⟨rfl,hb⟩
    exact ⟨_,_,_,rfl,fun leaf=>by unfold Nd.unp; rw [h]; rfl,hb⟩
  | some (p,is)=>
    refine (unpack_some s p is w hl h).mono ?_
    rintro e w' ⟨rfl,hb⟩
    exact ⟨_,_,_,rfl,fun leaf=>by unfold Nd.unp; rw [h]; rfl,hb⟩
theorem Nd.rdT_len (most:Nat) (st:Nd.St):(Nd.rdT most st).1.length<=most:=by
  unfold Nd.rdT
  split
  · simp
  · unfold Code.textR
    split
    · simp
    · rename_i h
      split
      · simp
      · simp only [List.length_take]
        unfold Code.countL at h ⊢
        split
        · simp
        · split
          · simp
          · simp only
            omega
def PathPost (leaf:Bool) (st:Nd.St) (g:Nat) (w:World) (e:Ending) (w':World):Prop:=
  e=.returned (.tuple #[.string ⟨(Nd.rdP leaf st).1.1.toArray⟩,.bool (Nd.rdP leaf st).1.2])/\Rd w' g (Nd.rdP leaf st).2.1 (Nd.rdP leaf st).2.2/\Only g w w'
theorem nreadPath_st (leaf:Bool) (st:Nd.St) (g:Nat) (w:World) (h:Rd w g st.1 st.2) (hl:st.1.length<=100000000):
    Calls Tryz.prog 110 #[.pointer (some ⟨g,0,none⟩),.bool leaf] w (PathPost leaf st g w):=by
  unfold PathPost
  have HT:=qh (nrtext_st 9 st g w h hl)
  have hlen:=Nd.rdT_len 9 st
  have HU:=qh (fun w=>nunpack_any (Nd.rdT 9 st).1 w (by have:(Nd.rdT ((9:Nat):Int) st).1.length<=9:=hlen; rw [show ((9:Nat):Int)=9 from rfl] at this; omega))
  obtain ⟨R,hR⟩:∃ R,Nd.rdP leaf st=R:=⟨_,rfl⟩
  have HR:=qh hR
  rw [hR]
  unfold Nd.rdP at HR
  obtain ⟨⟨t,st1⟩,hT⟩:∃ T,Nd.rdT 9 st=T:=⟨_,rfl⟩
  rw [hT] at HR HT HU
  simp only at HR HT HU
  have HH:=qh h
  clear hR hT hlen h
  go_enter Tryz.func110,Tryz.ntmps110
  go_wp2_with fail
  refine HT.out.mono ?_
  rintro e w1 ⟨rfl,hr1,ho1⟩
  have HR1:=qh hr1
  have HO1:=qh ho1
  clear hr1 ho1
  go_wp2_with fail
  refine (HU.out _).mono ?_
  rintro e w2 ⟨p,is,c,rfl,hu,hb2⟩
  obtain rfl:R=((p,c == 0&&is == leaf),st1):=by rw [← HR.out,hu]
  have HF:Hid (Rd w2 g st1.1 st1.2/\Only g w w2):=qh ⟨HR1.out.below hb2,HO1.out.trans (Only.of hb2)⟩
  clear hu hb2
  by_cases hc:c=0
  · subst hc
    go_wp2
    go_ret2
    exact ⟨rfl,HF.out.1,HF.out.2⟩
  · have hc1:(c == 0)=false:=by rw [beq_eq_false_iff_ne]; exact hc
    go_wp2
    go_ret2
    first | exact ⟨rfl,HF.out.1,HF.out.2⟩ | exact ⟨by rw [hc1]; rfl,HF.out.1,HF.out.2⟩
theorem bytes_of (s:List UInt8) (w:World):∃ c W,(convert 9 126 (.string ⟨s.toArray⟩)).run Tryz.prog w=.ok (.slice (some ⟨w.heap.size,0,none⟩) s.length c) W/\Below w.heap.size w W/\∀ j (hj:j<s.length),W.cell? ⟨w.heap.size,j,none⟩=some (.int .u8 (s[j].toNat:Int)):=by
  have h:=run_bytes_of_string (P:=Tryz.prog) w 9 126 5 ⟨s.toArray⟩ Tryz.underlying9 Tryz.underlying126 Tryz.underlying5
  have hsz:(⟨s.toArray⟩:ByteArray).size=s.length:=by simp [ByteArray.size]
  rw [hsz] at h
  refine ⟨_,_,h,((Below.refl _ w).drew).alloc (Nat.le_refl _) _,fun j hj=>?_⟩
  refine (World.cell?_alloc_mark w.drew _ _ _ j).trans ?_
  rw [bytesRow_at _ _ _ (by simpa using hj)]
  simp
def Nd.part (L:List (List UInt8)):List (List UInt8):=L++List.replicate (16 - L.length) []
theorem Nd.part_len (L:List (List UInt8)) (h:L.length<=16):(Nd.part L).length=16:=by
  unfold Nd.part
  rw [List.length_append,List.length_replicate]
  omega
theorem Nd.part_set (L:List (List UInt8)) (x:List UInt8) (h:L.length<16):(Nd.part L).set L.length x=Nd.part (L++[x]):=by
  unfold Nd.part
  rw [List.set_append_right _ _ (Nat.le_refl _),Nat.sub_self,List.length_append,List.append_assoc,List.length_singleton]
  obtain ⟨j,hj⟩:∃ j,16 - L.length=j+1:=⟨16 - L.length - 1,by omega⟩
  rw [hj,show 16 - (L.length+1)=j by omega,List.replicate_succ]
  rfl
theorem Nd.part_nil (L:List (List UInt8)) (h:L.length<16):Nd.part L=Nd.part (L++[[]]):=by
  unfold Nd.part
  rw [List.length_append,List.append_assoc,List.length_singleton]
  obtain ⟨j,hj⟩:∃ j,16 - L.length=j+1:=⟨16 - L.length - 1,by omega⟩
  rw [hj,show 16 - (L.length+1)=j by omega,List.replicate_succ]
  rfl
theorem Nd.part_all (L:List (List UInt8)) (h:L.length=16):Nd.part L=L:=by
  unfold Nd.part
  rw [h]
  simp
theorem Nd.num2_lt (b:List UInt8):Nd.num2 b<65536:=by
  unfold Nd.num2
  split
  · rename_i x y
    have:=x.toNat_lt
    have:=y.toNat_lt
    omega
  · decide
theorem and_one (m:Nat) (h:m<9223372036854775808):bits .and .i64 (m:Int) 1=((m % 2:Nat):Int):=by
  have hx:m % 2<2:=Nat.mod_lt _ (by decide)
  show IntKind.i64.wrap ((BitVec.ofInt 64 (m:Int) &&& BitVec.ofInt 64 ((1:Nat):Int)).toNat:Int)=_
  rw [BitVec.toNat_and,BitVec.ofInt_natCast,BitVec.toNat_ofNat,BitVec.ofInt_natCast,BitVec.toNat_ofNat,Nat.mod_eq_of_lt (by omega),Nat.mod_eq_of_lt (by omega),Nat.and_one_is_mod]
  simp only [IntKind.wrap,IntKind.bits,IntKind.signed]
  simp
  omega
theorem bit_int (n k:Nat) (h:n<65536):bits .and .i64 ((n:Int) / 2 ^ (15 - k)) 1=if Nd.bitf n k=true then 1 else 0:=by
  have h1:(n:Int) / 2 ^ (15 - k)=((n / 2 ^ (15 - k):Nat):Int):=by simp
  have h2:n / 2 ^ (15 - k)<=n:=Nat.div_le_self _ _
  rw [h1,and_one _ (by omega)]
  unfold Nd.bitf
  rcases Nat.mod_two_eq_zero_or_one (n / 2 ^ (15 - k)) with e | e <;> simp [e]
theorem Nd.rdKids_le (b:Nat->Bool) (k:Nat) (st:Nd.St):(Nd.rdKids b k st).2.1.length<=st.1.length:=by
  induction k with
  | zero=>exact Nat.le_refl _
  | succ k ih=>
    simp only [Nd.rdKids]
    split
    · exact Nat.le_trans (Nd.rdB_le _ _) ih
    · exact ih
theorem Out.setRow {F:Nat->Prop} {a w:World} (h:Out F a w) {q:Nat} (hq:F q) (cs:Array Value):Out F a (w.setRow q cs):=
  ⟨h.os,h.tape,h.output,by rw [size_setRow]; exact h.size,fun i hi hf=>by
    have hne:q≠i:=fun e=>hf (e ▸ hq)
    refine Eq.trans ?_ (h.block i hi hf)
    simp only [World.setRow,Array.getElem?_modify,if_neg hne]⟩
theorem setRow_at {w:World} {q:Nat} {old cs:Array Value} {t:TypeId} {fr:Nat × Nat} (h:w.heap[q]?=some (.cells old t fr)):(w.setRow q cs).heap[q]?=some (.cells cs t fr):=by
  simp [World.setRow,Array.getElem?_modify,h]
def KidsRPost (st:Nd.St) (g:Nat) (w:World) (e:Ending) (w':World):Prop:=
  e=.returned (aval (Nd.rdK st).1)/\Rd w' g (Nd.rdK st).2.1 (Nd.rdK st).2.2/\Only g w w'
theorem nreadKids_st (st:Nd.St) (g:Nat) (w:World) (h:Rd w g st.1 st.2) (hl:st.1.length<=100000000):
    Calls Tryz.prog 112 #[.pointer (some ⟨g,0,none⟩)] w (KidsRPost st g w):=by
  unfold KidsRPost
  obtain ⟨K,hK⟩:∃ K,Nd.rdK st=K:=⟨_,rfl⟩
  have HK:=qh hK
  rw [hK]
  have hb0:Below w.heap.size w (w.alloc (.cells (scells Nd.none16).toArray 108)):=(Below.refl _ w).alloc (Nat.le_refl _) _
  have HT:=qh (fun w h=>nrbytes_st 2 st g w h hl)
  have HRD:=qh (h.below hb0)
  have HB0:=qh hb0
  have hz:(scells Nd.none16).toArray=#[.string ⟨#[]⟩,.string ⟨#[]⟩,.string ⟨#[]⟩,.string ⟨#[]⟩,.string ⟨#[]⟩,.string ⟨#[]⟩,.string ⟨#[]⟩,.string ⟨#[]⟩,.string ⟨#[]⟩,.string ⟨#[]⟩,.string ⟨#[]⟩,.string ⟨#[]⟩,.string ⟨#[]⟩,.string ⟨#[]⟩,.string ⟨#[]⟩,.string ⟨#[]⟩]:=rfl
  have hle:=Nd.rdB_le 2 st
  unfold Nd.rdK at HK
  obtain ⟨⟨b,st1⟩,hT⟩:∃ T,Nd.rdB 2 st=T:=⟨_,rfl⟩
  have hb2:b=[]∨∃ x y,b=[x,y]:=by
    have:(Nd.rdB 2 st).1=[]∨(Nd.rdB 2 st).1.length=2:=by
      unfold Nd.rdB
      split
      · exact Or.inl rfl
      · split
        · exact Or.inl rfl
        · exact Or.inr (by simp only [List.length_take]; omega)
    rw [hT] at this
    rcases this with h | h
    · exact Or.inl h
    · match b,h with
      | [x,y],_=>exact Or.inr ⟨x,y,rfl⟩
  rw [hT] at HT HK hle
  simp only at HT HK hle
  have HL:=qh (Nat.le_trans hle hl)
  have HGW:=qh h.lt
  rw [hz] at HRD HB0
  clear hK hT hb0 h hl hle
  have HROW:=qh (heap_new_at w (.cells (scells Nd.none16).toArray 108) w.heap.size rfl)
  rw [hz] at HROW
  go_enter Tryz.func112,Tryz.ntmps112
  go_wp2_with fail
  have hsz:=lt_of_heap HROW.out
  obtain ⟨q,hq⟩:∃ q,w.heap.size=q:=⟨_,rfl⟩
  have HQ:=qh hq
  rw [hq] at hsz HROW ⊢
  generalize (w.alloc (.cells #[.string ⟨#[]⟩,.string ⟨#[]⟩,.string ⟨#[]⟩,.string ⟨#[]⟩,.string ⟨#[]⟩,.string ⟨#[]⟩,.string ⟨#[]⟩,.string ⟨#[]⟩,.string ⟨#[]⟩,.string ⟨#[]⟩,.string ⟨#[]⟩,.string ⟨#[]⟩,.string ⟨#[]⟩,.string ⟨#[]⟩,.string ⟨#[]⟩,.string ⟨#[]⟩] 108))=w0 at *
  refine (HT.out _ HRD.out).mono ?_
  rintro e w1 ⟨rfl,hr1,ho1⟩
  have HR1:=qh hr1
  have HO1:=qh ho1
  have HROW1:=qh (ho1.block)
  clear hr1 ho1 hq hsz hz
  rcases hb2 with rfl | ⟨x,y,rfl⟩
  · obtain ⟨cc,W,hcv,hbW,-⟩:=bytes_of [] w1
    have HBW:=qh hbW
    clear hbW
    go_wp2
    go_loopw [3,12] (fun b i wr=>∃ n:Nat,b=.int .i64 n/\n=0/\i=.int .i64 0/\wr=W) (fun _ _ _=>0)
    case atStart=>exact ⟨0,rfl,rfl,rfl,rfl⟩
    case round=>
      obtain ⟨n,rfl,hn,rfl,rfl⟩:=hrel
      have HN:Hid (n=Nd.num2 []):=qh hn
      clear hn
      go_wp2_with fail
      obtain ⟨B,hB⟩:∃ B,Nd.num2 ([]:List UInt8)=B:=⟨_,rfl⟩
      rw [hB] at HK HN
      obtain rfl:n=B:=HN.out
      have HROW2:=qh (heap_new_at wr (.cells (scells (Nd.part [])).toArray 108) wr.heap.size rfl)
      have HOW:=qh (HO1.out.trans (Only.of HBW.out))
      have HRW:=qh ((HR1.out.below HBW.out).below ((Below.refl _ wr).alloc (Nat.le_refl _) (.cells (scells (Nd.part [])).toArray 108)))
      have HNL:Hid (n<65536):=qh (by have:=HN.out; have:=Nd.num2_lt ([]:List UInt8); omega)
      have HGQ:Hid (g<wr.heap.size):=qh ((HR1.out.below HBW.out).lt)
      have HGQ1:Hid (q≠g):=qh (by have:=HGW.out; have:=HQ.out; omega)
      have hqw1:q<w1.heap.size:=Nat.lt_of_lt_of_le (lt_of_heap HROW.out) HO1.out.size
      have HQQ:Hid (q≠wr.heap.size):=qh (by have:=HBW.out.size; omega)
      have HLE:Hid (w.heap.size<=wr.heap.size):=qh (by have:=HBW.out.size; have:=HQ.out; omega)
      have HQB:Hid ((wr.alloc (.cells (scells (Nd.part [])).toArray 108)).heap[q]?=some (.cells (scells Nd.none16).toArray 108 (0,0))):=qh (heap_old_at _ ((HBW.out.block q hqw1).trans ((HO1.out.block q (lt_of_heap HROW.out) HGQ1.out).trans HROW.out)))
      have HWB:Hid (Only g w (wr.alloc (.cells (scells (Nd.part [])).toArray 108))):=qh (((Only.of HB0.out).trans (HO1.out.trans (Only.of HBW.out))).trans (Only.of ((Below.refl _ wr).alloc (Nat.le_refl _) _)))
      clear hqw1
      have hwz:wr.alloc (.cells (scells (Nd.part [])).toArray 108)=wr.alloc (.cells #[.string ⟨#[]⟩,.string ⟨#[]⟩,.string ⟨#[]⟩,.string ⟨#[]⟩,.string ⟨#[]⟩,.string ⟨#[]⟩,.string ⟨#[]⟩,.string ⟨#[]⟩,.string ⟨#[]⟩,.string ⟨#[]⟩,.string ⟨#[]⟩,.string ⟨#[]⟩,.string ⟨#[]⟩,.string ⟨#[]⟩,.string ⟨#[]⟩,.string ⟨#[]⟩] 108):=rfl
      rw [← hwz]
      have HBA:Hid (Below wr.heap.size wr (wr.alloc (.cells (scells (Nd.part [])).toArray 108))):=qh ((Below.refl _ wr).alloc (Nat.le_refl _) _)
      obtain ⟨q2,hq2⟩:∃ q2,wr.heap.size=q2:=⟨_,rfl⟩
      have HQ2:=qh hq2
      rw [hq2] at HROW2 HGQ HQQ HLE ⊢
      clear hwz hB hq2
      generalize (wr.alloc (.cells (scells (Nd.part [])).toArray 108))=wB at *
      go_loopw [22] (fun i wv=>∃ k:Nat,k<=16/\i=.int .i64 k/\Rd wv g (Nd.rdKids (Nd.bitf n) k st1).2.1 (Nd.rdKids (Nd.bitf n) k st1).2.2/\wv.heap[q2]?=some (.cells (scells (Nd.part (Nd.rdKids (Nd.bitf n) k st1).1)).toArray 108 (0,0))/\Out (fun j=>j=g∨j=q2) wB wv) (fun i _=>16 - (intOf i).toNat)
      case atStart=>exact ⟨0,Nat.zero_le _,rfl,HRW.out,HROW2.out,Out.refl _ _⟩
      case round=>
        obtain ⟨k,hk,rfl,hrd,hrow,hout⟩:=hrel
        have HRD2:=qh hrd
        have HRW2:=qh hrow
        have HOU:=qh hout
        clear hrd hrow hout
        by_cases hlt:k<16
        · have h1:(k:Int)<16:=by omega
          have h0:(0:Int)<=(k:Int):=by omega
          have hbit:=bit_int n k (by have:=HNL.out; omega)
          have HKL:=qh (Nd.rdKids_len (Nd.bitf n) k st1)
          have HSL:=qh (Nd.rdKids_le (Nd.bitf n) k st1)
          have HSU:Hid (Nd.rdKids (Nd.bitf n) (k+1) st1=if Nd.bitf n k then ((Nd.rdKids (Nd.bitf n) k st1).1++[(Nd.rdB 32 (Nd.rdKids (Nd.bitf n) k st1).2).1],(Nd.rdB 32 (Nd.rdKids (Nd.bitf n) k st1).2).2) else ((Nd.rdKids (Nd.bitf n) k st1).1++[[]],(Nd.rdKids (Nd.bitf n) k st1).2)):=qh rfl
          obtain ⟨⟨L,stk⟩,hLS⟩:∃ P,Nd.rdKids (Nd.bitf n) k st1=P:=⟨_,rfl⟩
          rw [hLS] at HRD2 HRW2 HKL HSL HSU
          clear hLS
          cases hbf:Nd.bitf n k with
          | false=>
            rw [hbf] at hbit HSU
            rw [if_neg (by decide)] at hbit
            rw [if_neg (by decide)] at HSU
            clear hbf
            go_wp2_with fail
            refine ⟨⟨k+1,by omega,by go_num,?_,?_,HOU.out⟩,by simp [intOf]; omega⟩
            · rw [HSU.out]; exact HRD2.out
            · rw [HSU.out]
              show wr.heap[q2]?=some (.cells (scells (Nd.part (L++[[]]))).toArray 108 (0,0))
              rw [← Nd.part_nil L (by rw [HKL.out]; exact hlt)]
              exact HRW2.out
          | true=>
            rw [hbf] at hbit HSU
            rw [if_pos rfl] at hbit
            rw [if_pos rfl] at HSU
            clear hbf
            have HBY:=qh (nrbytes_st 32 stk g wr HRD2.out (Nat.le_trans (show stk.1.length<=st1.1.length from HSL.out) HL.out))
            obtain ⟨⟨x3,st3⟩,hB3⟩:∃ P,Nd.rdB 32 stk=P:=⟨_,rfl⟩
            have hB3':Nd.rdB 32 (L,stk).2=(x3,st3):=hB3
            rw [hB3'] at HSU
            rw [hB3] at HBY
            simp only at HSU
            clear hB3 hB3'
            go_wp2_with fail
            refine HBY.out.mono ?_
            rintro e w3 ⟨rfl,hr3,ho3⟩
            have hrow3:w3.heap[q2]?=some (.cells (scells (Nd.part L)).toArray 108 (0,0)):=(ho3.block q2 (lt_of_heap HRW2.out) (Nat.ne_of_gt HGQ.out)).trans HRW2.out
            have hplen:(scells (Nd.part L)).length=16:=by rw [scells_length,Nd.part_len L (by have:L.length=k:=HKL.out; omega)]
            have hcell:∃ v,w3.cell? ⟨q2,k,none⟩=some v:=⟨(scells (Nd.part L))[k]'(by omega),by rw [cell_of_row w3 q2 k _ _ _ hrow3,List.getElem?_toArray,List.getElem?_eq_getElem]⟩
            obtain ⟨v3,hc3⟩:=hcell
            have hf3:w3.frozen? ⟨q2,k,none⟩=false:=frozen_of_row w3 q2 k _ _ hrow3
            have HR3:Hid (Rd (w3.setCell ⟨q2,k,none⟩ (.string ⟨x3.toArray⟩)) g st3.1 st3.2):=qh ((heap_setCell_other w3 ⟨q2,k,none⟩ g _ (Nat.ne_of_lt HGQ.out)).trans hr3)
            have HO3:Hid (Out (fun j=>j=g∨j=q2) wB (w3.setCell ⟨q2,k,none⟩ (.string ⟨x3.toArray⟩))):=qh ((HOU.out.trans (ho3.out.mono (fun j _ e=>Or.inl e))).setCell (p:=⟨q2,k,none⟩) (Or.inr rfl) _)
            have HW3:Hid ((w3.setCell ⟨q2,k,none⟩ (.string ⟨x3.toArray⟩)).heap[q2]?=some (.cells (scells (Nd.part (L++[x3]))).toArray 108 (0,0))):=qh (by
              have h1:=heap_setCell_same w3 q2 k _ _ (.string ⟨x3.toArray⟩) hrow3
              rw [h1,← Nd.part_set L x3 (by have:L.length=k:=HKL.out; omega),scells_set,show L.length=k from HKL.out]
              simp)
            clear hr3 ho3 hrow3 hplen
            go_wp2_with fail
            refine ⟨⟨k+1,by omega,by go_num,?_,?_,HO3.out⟩,by simp [intOf]; omega⟩
            · rw [HSU.out]; exact HR3.out
            · rw [HSU.out]; exact HW3.out
        · have h1:¬ ((k:Int)<16):=by omega
          obtain rfl:k=16:=by omega
          have hKK:=HK.out
          have hlen16:=Nd.rdKids_len (Nd.bitf n) 16 st1
          rw [hKK] at HRD2 HRW2 hlen16
          rw [Nd.part_all _ hlen16] at HRW2
          have hcs:(scells K.1).toArray.size=16:=by rw [List.size_toArray,scells_length,hlen16]
          have HI:Hid ((Tryz.prog.info? 108).map (·.size)=some (scells K.1).toArray.size):=qh (by rw [hcs]; kernel_rfl)
          have HON1:=qh (scells_one K.1)
          have HQR:Hid (wr.heap[q]?=some (.cells (scells Nd.none16).toArray 108 (0,0))):=qh ((HOU.out.block q (lt_of_heap HQB.out) (fun e=>by rcases e with e | e; exact HGQ1.out e; exact HQQ.out e)).trans HQB.out)
          have hold:(scells Nd.none16).toArray.size=(scells K.1).toArray.size:=by rw [hcs]; rfl
          have HOLD:=qh hold
          obtain ⟨A,hA⟩:∃ A,(scells K.1).toArray=A:=⟨_,rfl⟩
          rw [hA] at HRW2 HI HON1 HOLD
          have HFIN:Hid (Rd (wr.setRow q A) g K.2.1 K.2.2/\Only g w (wr.setRow q A)):=qh (by
            refine ⟨?_,?_⟩
            · have h2:=((Out.refl (fun j=>j=q) wr).setRow (q:=q) rfl A).block g (lt_of_heap HRD2.out) (fun e=>HGQ1.out e.symm)
              exact h2.trans HRD2.out
            · have h2:=(HOU.out.mono (G:=fun j=>j=g∨j=q2∨j=q) (fun j _ e=>e.elim Or.inl (fun e=>Or.inr (Or.inl e)))).setRow (q:=q) (Or.inr (Or.inr rfl)) A
              refine ⟨h2.os.trans HWB.out.os,h2.tape.trans HWB.out.tape,h2.output.trans HWB.out.output,Nat.le_trans HWB.out.size h2.size,fun i hi hg=>?_⟩
              refine (h2.block i (Nat.lt_of_lt_of_le hi HWB.out.size) (fun e=>?_)).trans (HWB.out.block i hi hg)
              rcases e with e | e | e
              · exact hg e
              · have:=HLE.out; omega
              · have:=HQ.out; omega)
          have HA:=qh hA
          clear hold hA hcs hKK hlen16
          go_wp2_with (first | (refine wpList_load_row (by rfl) _ _ (by rfl) q2 (by rfl) _ A _ _ HRW2.out Tryz.underlying108 (by rfl) HI.out ?_) | (refine wpList_store_row (by rfl) _ _ _ (by rfl) q A (by rfl) (by rfl) _ _ HQR.out HI.out HOLD.out HON1.out ?_))
          refine bodyPost_ret (v:=.agg A) (results_cell_row rfl _ _ q _ _ _ _ rfl (setRow_at HQR.out) Tryz.underlying108 rfl HI.out) rfl ⟨by rw [← HA.out]; rfl,HFIN.out.1,HFIN.out.2⟩
  · obtain ⟨cc,W,hcv,hbW,hce⟩:=bytes_of [x,y] w1
    have HBW:=qh hbW
    have e0:=hce 0 (by simp)
    have e1:=hce 1 (by simp)
    simp only [List.getElem_cons_zero,List.getElem_cons_succ] at e0 e1
    have x1:=byte_lt x
    have y1:=byte_lt y
    have w1x:wrap64 (x.toNat:Int)=(x.toNat:Int):=IntWalk.wrap64_in _ (by omega)
    have w1y:wrap64 (y.toNat:Int)=(y.toNat:Int):=IntWalk.wrap64_in _ (by omega)
    have w2x:wrap64 ((x.toNat:Int)*256)=(x.toNat:Int)*256:=IntWalk.wrap64_in _ (by omega)
    have o0:bits .or .i64 0 (x.toNat:Int)=((x.toNat:Nat):Int):=by
      have:=or_int 0 x.toNat (by omega) (by omega)
      simpa using this
    have o1:bits .or .i64 ((x.toNat:Int)*256) (y.toNat:Int)=((x.toNat*256+y.toNat:Nat):Int):=or_int x.toNat y.toNat (by omega) (by omega)
    clear hbW hce
    go_wp2
    go_loopw [3,12] (fun b i wr=>∃ k n:Nat,k<=2/\i=.int .i64 k/\b=.int .i64 n/\n=(if k=0 then 0 else if k=1 then x.toNat else x.toNat*256+y.toNat)/\wr=W) (fun _ i _=>2 - (intOf i).toNat)
    case atStart=>exact ⟨0,0,Nat.zero_le _,rfl,rfl,rfl,rfl⟩
    case round=>
      obtain ⟨k,n,hk,rfl,rfl,hn,rfl⟩:=hrel
      match k,hk with
      | 0,_=>
        obtain rfl:n=0:=by simpa using hn
        clear hn
        go_wp2
        refine ⟨⟨1,x.toNat,by omega,rfl,rfl,rfl,trivial⟩,by simp [intOf]⟩
      | 1,_=>
        obtain rfl:n=x.toNat:=by simpa using hn
        clear hn
        go_wp2
        refine ⟨⟨2,x.toNat*256+y.toNat,by omega,rfl,by go_num,rfl,trivial⟩,by simp [intOf]⟩
      | 2,_=>
        have HN:Hid (n=Nd.num2 [x,y]):=qh (by simpa [Nd.num2] using hn)
        have h22:((2:Nat):Int)=2:=rfl
        rw [h22]
        clear hn h22
        go_wp2_with fail
        obtain ⟨B,hB⟩:∃ B,Nd.num2 [x,y]=B:=⟨_,rfl⟩
        rw [hB] at HK HN
        obtain rfl:n=B:=HN.out
        have HROW2:=qh (heap_new_at wr (.cells (scells (Nd.part [])).toArray 108) wr.heap.size rfl)
        have HOW:=qh (HO1.out.trans (Only.of HBW.out))
        have HRW:=qh ((HR1.out.below HBW.out).below ((Below.refl _ wr).alloc (Nat.le_refl _) (.cells (scells (Nd.part [])).toArray 108)))
        have HNL:Hid (n<65536):=qh (by have:=HN.out; have:=Nd.num2_lt [x,y]; omega)
        have HGQ:Hid (g<wr.heap.size):=qh ((HR1.out.below HBW.out).lt)
        have HGQ1:Hid (q≠g):=qh (by have:=HGW.out; have:=HQ.out; omega)
        have hqw1:q<w1.heap.size:=Nat.lt_of_lt_of_le (lt_of_heap HROW.out) HO1.out.size
        have HQQ:Hid (q≠wr.heap.size):=qh (by have:=HBW.out.size; omega)
        have HLE:Hid (w.heap.size<=wr.heap.size):=qh (by have:=HBW.out.size; have:=HQ.out; omega)
        have HQB:Hid ((wr.alloc (.cells (scells (Nd.part [])).toArray 108)).heap[q]?=some (.cells (scells Nd.none16).toArray 108 (0,0))):=qh (heap_old_at _ ((HBW.out.block q hqw1).trans ((HO1.out.block q (lt_of_heap HROW.out) HGQ1.out).trans HROW.out)))
        have HWB:Hid (Only g w (wr.alloc (.cells (scells (Nd.part [])).toArray 108))):=qh (((Only.of HB0.out).trans (HO1.out.trans (Only.of HBW.out))).trans (Only.of ((Below.refl _ wr).alloc (Nat.le_refl _) _)))
        clear hqw1
        have hwz:wr.alloc (.cells (scells (Nd.part [])).toArray 108)=wr.alloc (.cells #[.string ⟨#[]⟩,.string ⟨#[]⟩,.string ⟨#[]⟩,.string ⟨#[]⟩,.string ⟨#[]⟩,.string ⟨#[]⟩,.string ⟨#[]⟩,.string ⟨#[]⟩,.string ⟨#[]⟩,.string ⟨#[]⟩,.string ⟨#[]⟩,.string ⟨#[]⟩,.string ⟨#[]⟩,.string ⟨#[]⟩,.string ⟨#[]⟩,.string ⟨#[]⟩] 108):=rfl
        rw [← hwz]
        have HBA:Hid (Below wr.heap.size wr (wr.alloc (.cells (scells (Nd.part [])).toArray 108))):=qh ((Below.refl _ wr).alloc (Nat.le_refl _) _)
        obtain ⟨q2,hq2⟩:∃ q2,wr.heap.size=q2:=⟨_,rfl⟩
        have HQ2:=qh hq2
        rw [hq2] at HROW2 HGQ HQQ HLE ⊢
        clear hwz hB hq2
        generalize (wr.alloc (.cells (scells (Nd.part [])).toArray 108))=wB at *
        go_loopw [22] (fun i wv=>∃ k:Nat,k<=16/\i=.int .i64 k/\Rd wv g (Nd.rdKids (Nd.bitf n) k st1).2.1 (Nd.rdKids (Nd.bitf n) k st1).2.2/\wv.heap[q2]?=some (.cells (scells (Nd.part (Nd.rdKids (Nd.bitf n) k st1).1)).toArray 108 (0,0))/\Out (fun j=>j=g∨j=q2) wB wv) (fun i _=>16 - (intOf i).toNat)
        case atStart=>exact ⟨0,Nat.zero_le _,rfl,HRW.out,HROW2.out,Out.refl _ _⟩
        case round=>
          obtain ⟨k,hk,rfl,hrd,hrow,hout⟩:=hrel
          have HRD2:=qh hrd
          have HRW2:=qh hrow
          have HOU:=qh hout
          clear hrd hrow hout
          by_cases hlt:k<16
          · have h1:(k:Int)<16:=by omega
            have h0:(0:Int)<=(k:Int):=by omega
            have hbit:=bit_int n k (by have:=HNL.out; omega)
            have HKL:=qh (Nd.rdKids_len (Nd.bitf n) k st1)
            have HSL:=qh (Nd.rdKids_le (Nd.bitf n) k st1)
            have HSU:Hid (Nd.rdKids (Nd.bitf n) (k+1) st1=if Nd.bitf n k then ((Nd.rdKids (Nd.bitf n) k st1).1++[(Nd.rdB 32 (Nd.rdKids (Nd.bitf n) k st1).2).1],(Nd.rdB 32 (Nd.rdKids (Nd.bitf n) k st1).2).2) else ((Nd.rdKids (Nd.bitf n) k st1).1++[[]],(Nd.rdKids (Nd.bitf n) k st1).2)):=qh rfl
            obtain ⟨⟨L,stk⟩,hLS⟩:∃ P,Nd.rdKids (Nd.bitf n) k st1=P:=⟨_,rfl⟩
            rw [hLS] at HRD2 HRW2 HKL HSL HSU
            clear hLS
            cases hbf:Nd.bitf n k with
            | false=>
              rw [hbf] at hbit HSU
              rw [if_neg (by decide)] at hbit
              rw [if_neg (by decide)] at HSU
              clear hbf
              go_wp2_with fail
              refine ⟨⟨k+1,by omega,by go_num,?_,?_,HOU.out⟩,by simp [intOf]; omega⟩
              · rw [HSU.out]; exact HRD2.out
              · rw [HSU.out]
                show wr.heap[q2]?=some (.cells (scells (Nd.part (L++[[]]))).toArray 108 (0,0))
                rw [← Nd.part_nil L (by rw [HKL.out]; exact hlt)]
                exact HRW2.out
            | true=>
              rw [hbf] at hbit HSU
              rw [if_pos rfl] at hbit
              rw [if_pos rfl] at HSU
              clear hbf
              have HBY:=qh (nrbytes_st 32 stk g wr HRD2.out (Nat.le_trans (show stk.1.length<=st1.1.length from HSL.out) HL.out))
              obtain ⟨⟨x3,st3⟩,hB3⟩:∃ P,Nd.rdB 32 stk=P:=⟨_,rfl⟩
              have hB3':Nd.rdB 32 (L,stk).2=(x3,st3):=hB3
              rw [hB3'] at HSU
              rw [hB3] at HBY
              simp only at HSU
              clear hB3 hB3'
              go_wp2_with fail
              refine HBY.out.mono ?_
              rintro e w3 ⟨rfl,hr3,ho3⟩
              have hrow3:w3.heap[q2]?=some (.cells (scells (Nd.part L)).toArray 108 (0,0)):=(ho3.block q2 (lt_of_heap HRW2.out) (Nat.ne_of_gt HGQ.out)).trans HRW2.out
              have hplen:(scells (Nd.part L)).length=16:=by rw [scells_length,Nd.part_len L (by have:L.length=k:=HKL.out; omega)]
              have hcell:∃ v,w3.cell? ⟨q2,k,none⟩=some v:=⟨(scells (Nd.part L))[k]'(by omega),by rw [cell_of_row w3 q2 k _ _ _ hrow3,List.getElem?_toArray,List.getElem?_eq_getElem]⟩
              obtain ⟨v3,hc3⟩:=hcell
              have hf3:w3.frozen? ⟨q2,k,none⟩=false:=frozen_of_row w3 q2 k _ _ hrow3
              have HR3:Hid (Rd (w3.setCell ⟨q2,k,none⟩ (.string ⟨x3.toArray⟩)) g st3.1 st3.2):=qh ((heap_setCell_other w3 ⟨q2,k,none⟩ g _ (Nat.ne_of_lt HGQ.out)).trans hr3)
              have HO3:Hid (Out (fun j=>j=g∨j=q2) wB (w3.setCell ⟨q2,k,none⟩ (.string ⟨x3.toArray⟩))):=qh ((HOU.out.trans (ho3.out.mono (fun j _ e=>Or.inl e))).setCell (p:=⟨q2,k,none⟩) (Or.inr rfl) _)
              have HW3:Hid ((w3.setCell ⟨q2,k,none⟩ (.string ⟨x3.toArray⟩)).heap[q2]?=some (.cells (scells (Nd.part (L++[x3]))).toArray 108 (0,0))):=qh (by
                have h1:=heap_setCell_same w3 q2 k _ _ (.string ⟨x3.toArray⟩) hrow3
                rw [h1,← Nd.part_set L x3 (by have:L.length=k:=HKL.out; omega),scells_set,show L.length=k from HKL.out]
                simp)
              clear hr3 ho3 hrow3 hplen
              go_wp2_with fail
              refine ⟨⟨k+1,by omega,by go_num,?_,?_,HO3.out⟩,by simp [intOf]; omega⟩
              · rw [HSU.out]; exact HR3.out
              · rw [HSU.out]; exact HW3.out
          · have h1:¬ ((k:Int)<16):=by omega
            obtain rfl:k=16:=by omega
            have hKK:=HK.out
            have hlen16:=Nd.rdKids_len (Nd.bitf n) 16 st1
            rw [hKK] at HRD2 HRW2 hlen16
            rw [Nd.part_all _ hlen16] at HRW2
            have hcs:(scells K.1).toArray.size=16:=by rw [List.size_toArray,scells_length,hlen16]
            have HI:Hid ((Tryz.prog.info? 108).map (·.size)=some (scells K.1).toArray.size):=qh (by rw [hcs]; kernel_rfl)
            have HON1:=qh (scells_one K.1)
            have HQR:Hid (wr.heap[q]?=some (.cells (scells Nd.none16).toArray 108 (0,0))):=qh ((HOU.out.block q (lt_of_heap HQB.out) (fun e=>by rcases e with e | e; exact HGQ1.out e; exact HQQ.out e)).trans HQB.out)
            have hold:(scells Nd.none16).toArray.size=(scells K.1).toArray.size:=by rw [hcs]; rfl
            have HOLD:=qh hold
            obtain ⟨A,hA⟩:∃ A,(scells K.1).toArray=A:=⟨_,rfl⟩
            rw [hA] at HRW2 HI HON1 HOLD
            have HFIN:Hid (Rd (wr.setRow q A) g K.2.1 K.2.2/\Only g w (wr.setRow q A)):=qh (by
              refine ⟨?_,?_⟩
              · have h2:=((Out.refl (fun j=>j=q) wr).setRow (q:=q) rfl A).block g (lt_of_heap HRD2.out) (fun e=>HGQ1.out e.symm)
                exact h2.trans HRD2.out
              · have h2:=(HOU.out.mono (G:=fun j=>j=g∨j=q2∨j=q) (fun j _ e=>e.elim Or.inl (fun e=>Or.inr (Or.inl e)))).setRow (q:=q) (Or.inr (Or.inr rfl)) A
                refine ⟨h2.os.trans HWB.out.os,h2.tape.trans HWB.out.tape,h2.output.trans HWB.out.output,Nat.le_trans HWB.out.size h2.size,fun i hi hg=>?_⟩
                refine (h2.block i (Nat.lt_of_lt_of_le hi HWB.out.size) (fun e=>?_)).trans (HWB.out.block i hi hg)
                rcases e with e | e | e
                · exact hg e
                · have:=HLE.out; omega
                · have:=HQ.out; omega)
            have HA:=qh hA
            clear hold hA hcs hKK hlen16
            go_wp2_with (first | (refine wpList_load_row (by rfl) _ _ (by rfl) q2 (by rfl) _ A _ _ HRW2.out Tryz.underlying108 (by rfl) HI.out ?_) | (refine wpList_store_row (by rfl) _ _ _ (by rfl) q A (by rfl) (by rfl) _ _ HQR.out HI.out HOLD.out HON1.out ?_))
            refine bodyPost_ret (v:=.agg A) (results_cell_row rfl _ _ q _ _ _ _ rfl (setRow_at HQR.out) Tryz.underlying108 rfl HI.out) rfl ⟨by rw [← HA.out]; rfl,HFIN.out.1,HFIN.out.2⟩
end
end Go.Proofs.YtaficmboooaknaaGreatDoor
