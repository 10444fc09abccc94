import Derived.Test.YtaficmboooaknaaGreatDoorPv07
import Derived.Test.YtaficmboooaknaaGreatDoorPv02
import Derived.WalkSpells
import Derived.WalkLawsBesides
import Derived.Deep.RegionLaw
import Derived.Deep.QuietTactic
import Derived.BigQuiet
import Derived.Test.YtaficmboooaknaaGreatDoorPv04
import Derived.Test.YtaficmboooaknaaGreatDoorPv03
import Derived.Deep.RegionWith
import Derived.Deep.DrawnRows
import Derived.Test.YtaficmboooaknaaGreatDoorPv01
set_option maxRecDepth 100000
set_option maxHeartbeats 16000000
namespace Go.Proofs.YtaficmboooaknaaGreatDoor
section
open Go.RowKit
theorem rpack_good (l:List UInt8) (leaf:Bool) (w:World) (hl:l.length<=100000) (hf:Nib.fitL l=true):
    Calls Tryz.prog 154 #[.string ⟨l.toArray⟩,.bool leaf] w fun e w'=>e=.returned (.tuple #[.string ⟨(Nib.packL l leaf).toArray⟩,.int .i64 0])/\Below w.heap.size w w':=by
  rcases Nat.mod_two_eq_zero_or_one l.length with h | h
  · exact rpack_even l leaf w hl hf h
  · exact rpack_odd l leaf w hl hf h
theorem runpack_none (s:List UInt8) (w:World) (hl:s.length<=100000) (h:Nib.unpackL s=none):
    Calls Tryz.prog 120 #[.string ⟨s.toArray⟩] w fun e w'=>e=.returned (.tuple #[.string ⟨#[]⟩,.bool false,.int .i64 3])/\Below w.heap.size w w':=by
  match s,hl,h with
  | [],_,_=>exact runpack_nil w
  | b :: t,hl,h=>
    have hm:Nib.mayL b=false:=by
      rcases hm:Nib.mayL b with _ | _
      · rfl
      · rcases Nat.mod_two_eq_zero_or_one (b.toNat / 16) with h1 | h1
        · rw [Nib.unpackL_even b t hm h1] at h; cases h
        · rw [Nib.unpackL_odd b t hm h1] at h; cases h
    exact runpack_bad b t w (by simp at hl; omega) hm
theorem runpack_some (s p:List UInt8) (is:Bool) (w:World) (hl:s.length<=100000) (h:Nib.unpackL s=some (p,is)):
    Calls Tryz.prog 120 #[.string ⟨s.toArray⟩] w fun e w'=>e=.returned (.tuple #[.string ⟨p.toArray⟩,.bool is,.int .i64 0])/\Below w.heap.size w w':=by
  match s,hl,h with
  | b :: t,hl,h=>
    have hm:=Nib.unpackL_may b t p is h
    rcases Nat.mod_two_eq_zero_or_one (b.toNat / 16) with h1 | h1
    · rw [Nib.unpackL_even b t hm h1] at h
      simp only [Option.some.injEq,Prod.mk.injEq] at h
      obtain ⟨rfl,rfl⟩:=h
      exact runpack_even b t w (by simp at hl; omega) hm h1
    · rw [Nib.unpackL_odd b t hm h1] at h
      simp only [Option.some.injEq,Prod.mk.injEq] at h
      obtain ⟨rfl,rfl⟩:=h
      exact runpack_odd b t w (by simp at hl; omega) hm h1
end
section
open Go.RowKit
theorem rNumber_any (n:Nat) (hn:n < 2 ^ 63) (w:World):
    Calls Tryz.prog 175 #[.int .i64 n] w fun e w'=>e=.returned (.string ⟨(Code.numL n).toArray⟩)/\Below w.heap.size w w':=by
  have hn1:(n:Int) < 9223372036854775808:=by omega
  go_enter Tryz.func175,Tryz.ntmps175
  go_wp2
  go_loopw [0,3] (fun m s wr=>∃ (a:Nat) (t:List UInt8),a<=n/\m=.int .i64 a/\s=.string ⟨t.toArray⟩/\Code.be (Code.sz a) a ++ t=Code.be (Code.sz n) n/\Below w.heap.size w wr) (fun m _ _=>(intOf m).toNat)
  case atStart=>exact ⟨n,[],Nat.le_refl _,rfl,rfl,by simp,Below.refl _ _⟩
  case round=>
    obtain ⟨a,t,ha,rfl,rfl,ht,hbel⟩:=hrel
    have HT:=qh ht
    clear ht
    by_cases h0:a=0
    · subst h0
      have hz:t=Code.be (Code.sz n) n:=by have:=HT.out; rw [Code.sz_zero] at this; exact this
      have hl:=Code.be_length (Code.sz n) n
      rw [← hz] at hl
      have h8:=Code.sz_le8 n (by omega)
      have hZ:=qh hz
      have hcv:=conv_one' wr (UInt8.ofNat (Code.sz n)) (t.length:Int) (by rw [Code.ofNat_toNat _ (by omega)]; omega) _ rfl
      have htl:(t.length:Int) < 256:=by omega
      have hcm:((⟨[UInt8.ofNat (Code.sz n)].toArray⟩:ByteArray) ++ (⟨t.toArray⟩:ByteArray))=⟨(Code.numL n).toArray⟩:=by
        rw [cat_mk,Code.numL,hZ.out]; rfl
      have hbel2:=hbel.alloc hbel.size (.cells #[.int .u8 (t.length:Int)] 5)
      clear hz h8 hl
      generalize UInt8.ofNat (Code.sz n)=y at hcv hcm
      go_wp2
      go_ret
      exact ⟨rfl,hbel2⟩
    · have hst:Code.be (Code.sz (a / 256)) (a / 256) ++ (UInt8.ofNat (a % 256) :: t)=Code.be (Code.sz n) n:=by
        have:=HT.out
        rw [Code.sz_pos a h0,Code.be,List.append_assoc] at this
        exact this
      have hyn:=Code.ofNat_toNat (a % 256) (by omega)
      obtain ⟨y,hy⟩:∃ y,UInt8.ofNat (a % 256)=y:=⟨_,rfl⟩
      rw [hy] at hst hyn
      have hcv:=conv_one' wr y (y.toNat:Int) rfl _ rfl
      have hrem:(a:Int) % 256=(y.toNat:Int):=by omega
      obtain ⟨q,hq⟩:∃ q,a / 256=q:=⟨_,rfl⟩
      have hquo:(a:Int) / 256=(q:Int):=by omega
      have hyb:=y.toNat_lt
      have hcm:=cat_mk [y] t
      rw [List.singleton_append] at hcm
      obtain ⟨u,hu⟩:∃ u,y :: t=u:=⟨_,rfl⟩
      rw [hu] at hcm hst
      rw [hq] at hst
      have hqa:q < a:=by omega
      have hul:u.length=t.length+1:=by rw [← hu]; rfl
      have htl:t.length<=8:=by
        have h1:=congrArg List.length HT.out
        rw [List.length_append,Code.be_length,Code.be_length] at h1
        have:=Code.sz_le8 n (by omega)
        omega
      have ha0:(0:Int) < a:=by omega
      have hS:=qh hst
      have hbel2:=hbel.alloc hbel.size (.cells #[.int .u8 (y.toNat:Int)] 5)
      have ha9:(a:Int)<=9223372036854775807:=by omega
      have hqa9:=qh hqa
      have ha8:=qh ha
      clear hst hy hyn hu hq hn1 hn ha h0 hqa
      go_wp2
      go_roundw
      case rel=>exact ⟨q,u,by have:=hqa9.out; have:=ha8.out; omega,by go_num,rfl,hS.out,hbel2⟩
      case measure=>simp [intOf]; omega
theorem rText_any (s:List UInt8) (w:World) (hl:s.length<=100000000):
    Calls Tryz.prog 153 #[.string ⟨s.toArray⟩] w fun e w'=>e=.returned (.string ⟨(Code.textL s).toArray⟩)/\Below w.heap.size w w':=by
  have hcm:((⟨(Code.numL s.length).toArray⟩:ByteArray) ++ (⟨s.toArray⟩:ByteArray))=⟨(Code.textL s).toArray⟩:=by rw [cat_mk]; rfl
  have hnl:(Code.numL s.length).length<=9:=by
    have:=Code.numL_length s.length
    have:=Code.sz_le8 s.length (by omega)
    omega
  have HM:=qh hcm
  clear hcm
  go_enter Tryz.func153,Tryz.ntmps153
  go_wp2_with fail
  refine (rNumber_any s.length (by omega) w).mono ?_
  rintro e w1 ⟨rfl,hb⟩
  have hcm:=HM.out
  generalize Code.numL s.length=x at hcm hnl ⊢
  go_wp2
  go_ret
  exact ⟨rfl,hb⟩
end
section
open Go.RowKit
open Go.Proofs.YtaficmboooaknaaGreatDoor.Nd (N)
theorem Code.textL_le (s:List UInt8) (n:Nat) (h:s.length<=n) (hn:n<=100):(Code.textL s).length<=n+9:=by
  rw [Code.textL_length]
  have:Code.sz s.length<=8:=Code.sz_le8 s.length (by omega)
  omega
theorem rWritten_flat (n:N) (w:World) (hk:n.kind=1 ∨ n.kind=2) (hn:n.kids.length=16) (hf:Nib.fitL n.path=true) (hp:n.path.length<=16) (hv:n.val.length<=32) (hk0:(n.kids.getD 0 []).length<=32):
    Calls Tryz.prog 122 #[ndval n] w fun e w'=>e=.returned (.string ⟨(Nd.written n).toArray⟩)/\Below w.heap.size w w':=by
  have hat:NodeAt (w.alloc (.cells (ncl n).toArray 110)) w.heap.size n:=heap_new_at w _ _ rfl
  have HAT:=qh hat
  have hb0:Below w.heap.size w (w.alloc (.cells (ncl n).toArray 110)):=(Below.refl _ w).alloc (Nat.le_refl _) _
  have HB0:=qh hb0
  have hkid:∀ w' g,NodeAt w' g n->w'.cell? ⟨g,3,none⟩=some (.string ⟨(n.kids.getD 0 []).toArray⟩):=fun w' g h=>by
    have h1:=h.kid 0 (by omega)
    have h2:n.kids.getD 0 []=n.kids[0]'(by omega):=by
      rw [List.getD_eq_getElem?_getD,List.getElem?_eq_getElem (by omega)]
      rfl
    rw [h2]
    exact h1
  have HCE:Hid (∀ w',Below (w.alloc (.cells (ncl n).toArray 110)).heap.size (w.alloc (.cells (ncl n).toArray 110)) w'->w'.cell? ⟨w.heap.size,0,none⟩=some (.int .i64 n.kind)/\w'.cell? ⟨w.heap.size,1,none⟩=some (.string ⟨n.path.toArray⟩)/\w'.cell? ⟨w.heap.size,2,none⟩=some (.string ⟨n.val.toArray⟩)/\w'.cell? ⟨w.heap.size,3,none⟩=some (.string ⟨(n.kids.getD 0 []).toArray⟩)):=qh (fun w' h=>by
    have:=hat.below h
    exact ⟨this.kind,this.path,this.val,hkid w' _ this⟩)
  have HPK:=qh (fun leaf w=>rpack_good n.path leaf w (by omega) hf)
  have hpl:=Nib.packL_length n.path
  have HT:=qh (fun s (h:s.length<=100) w=>rText_any s w (by omega))
  have htl:=Code.textL_le n.val 32 hv (by omega)
  unfold ndval
  obtain ⟨C,hC⟩:∃ C,(ncl n).toArray=C:=⟨_,rfl⟩
  obtain ⟨Z,hZ⟩:∃ Z,n.kids.getD 0 []=Z:=⟨_,rfl⟩
  obtain ⟨T2,hT2⟩:∃ T,Code.textL n.val=T:=⟨_,rfl⟩
  rcases hk with hk | hk
  · have hpl1:(Nib.packL n.path true).length<=9:=by rw [hpl]; omega
    have htl1:=Code.textL_le _ 9 hpl1 (by omega)
    have HT1:=qh (fun w=>HT.out (Nib.packL n.path true) (by omega) w)
    have HT2:=qh (fun w=>HT.out n.val (by omega) w)
    have HPK1:=qh (fun w=>HPK.out true w)
    obtain ⟨P,hP⟩:∃ P,Nib.packL n.path true=P:=⟨_,rfl⟩
    obtain ⟨T1,hT1⟩:∃ T,Code.textL P=T:=⟨_,rfl⟩
    have hW:Nd.written n=[1] ++ T1 ++ T2:=by
      unfold Nd.written
      rw [hk,if_neg (by decide),if_pos rfl,← hT1,← hP,← hT2]
      simp
    have h1:=cat_mk [1] T1
    have h2:=cat_mk ([1] ++ T1) T2
    rw [hP] at HT1 HPK1 htl1
    rw [hT1] at HT1 htl1
    rw [hT2] at HT2 htl
    rw [hk] at HCE
    rw [hW]
    rw [hC] at HB0 HCE ⊢
    have hlX:([1] ++ T1:List UInt8).length<=30:=by simp; omega
    have hlW:([1] ++ T1 ++ T2:List UInt8).length<=100:=by simp; omega
    obtain ⟨X,hX⟩:∃ X,([1] ++ T1:List UInt8)=X:=⟨_,rfl⟩
    rw [hX] at h1 h2 hlX hlW ⊢
    obtain ⟨Y,hY⟩:∃ Y,X ++ T2=Y:=⟨_,rfl⟩
    rw [hY] at h2 hlW ⊢
    clear HAT hat hb0 hkid hpl hP hT1 hT2 hW hX hY hC hZ hf hp hv hk0 HPK HT hpl1
    obtain ⟨b0,-,-,-⟩:=HCE.out _ (Below.refl _ _)
    have hb1:Below (w.alloc (.cells C 110)).heap.size (w.alloc (.cells C 110)) ((w.alloc (.cells C 110)).alloc (.cells #[.int .u8 1] 5)):=(Below.refl _ _).alloc (Nat.le_refl _) _
    obtain ⟨c0,c1,c2,c3⟩:=HCE.out _ hb1
    have HB1:=qh hb1
    have HFI:Hid (∀ w',Below (w.alloc (.cells C 110)).heap.size (w.alloc (.cells C 110)) w'->Below w.heap.size w w'):=qh (fun w' h=>HB0.out.trans (h.mono (by simp)))
    clear hb1
    have kc:=conv_one' (w.alloc (.cells C 110)) 1 1 rfl (w.heap.size+1) (by simp)
    go_enter Tryz.func122,Tryz.ntmps122
    go_wp2_with fail
    refine (HPK1.out _).mono ?_
    rintro e w1 ⟨rfl,hb⟩
    have HB2:=qh (bchain HB1.out hb)
    clear hb b0 c0 c1 c2 c3
    go_wp2_with fail
    refine (HT1.out _).mono ?_
    rintro e w2 ⟨rfl,hb⟩
    have HB3:=qh (bchain HB2.out hb)
    clear hb
    obtain ⟨c0,c1,c2,c3⟩:=HCE.out _ HB3.out
    go_wp2_with fail
    refine (HT2.out _).mono ?_
    rintro e w3 ⟨rfl,hb⟩
    have HB4:=qh (bchain HB3.out hb)
    go_wp2
    go_ret
    exact ⟨rfl,HFI.out _ HB4.out⟩
  · have hpl1:(Nib.packL n.path false).length<=9:=by rw [hpl]; omega
    have htl1:=Code.textL_le _ 9 hpl1 (by omega)
    have HT1:=qh (fun w=>HT.out (Nib.packL n.path false) (by omega) w)
    have HPK1:=qh (fun w=>HPK.out false w)
    obtain ⟨P,hP⟩:∃ P,Nib.packL n.path false=P:=⟨_,rfl⟩
    obtain ⟨T1,hT1⟩:∃ T,Code.textL P=T:=⟨_,rfl⟩
    have hW:Nd.written n=[2] ++ T1 ++ Z:=by
      unfold Nd.written
      rw [hk,if_neg (by decide),if_neg (by decide),← hT1,← hP,hZ]
      simp
    have h1:=cat_mk [2] T1
    have h2:=cat_mk ([2] ++ T1) Z
    rw [hP] at HT1 HPK1 htl1
    rw [hT1] at HT1 htl1
    rw [hZ] at hk0 HCE
    rw [hk] at HCE
    rw [hW]
    rw [hC] at HB0 HCE ⊢
    have hlX:([2] ++ T1:List UInt8).length<=30:=by simp; omega
    have hlW:([2] ++ T1 ++ Z:List UInt8).length<=100:=by simp; omega
    obtain ⟨X,hX⟩:∃ X,([2] ++ T1:List UInt8)=X:=⟨_,rfl⟩
    rw [hX] at h1 h2 hlX hlW ⊢
    obtain ⟨Y,hY⟩:∃ Y,X ++ Z=Y:=⟨_,rfl⟩
    rw [hY] at h2 hlW ⊢
    clear HAT hat hb0 hkid hpl hP hT1 hT2 hW hX hY hC hZ hf hp hv HPK HT hpl1
    obtain ⟨b0,-,-,-⟩:=HCE.out _ (Below.refl _ _)
    have hb1:Below (w.alloc (.cells C 110)).heap.size (w.alloc (.cells C 110)) ((w.alloc (.cells C 110)).alloc (.cells #[.int .u8 2] 5)):=(Below.refl _ _).alloc (Nat.le_refl _) _
    obtain ⟨c0,c1,c2,c3⟩:=HCE.out _ hb1
    have HB1:=qh hb1
    have HFI:Hid (∀ w',Below (w.alloc (.cells C 110)).heap.size (w.alloc (.cells C 110)) w'->Below w.heap.size w w'):=qh (fun w' h=>HB0.out.trans (h.mono (by simp)))
    clear hb1
    have kc:=conv_one' (w.alloc (.cells C 110)) 2 2 rfl (w.heap.size+1) (by simp)
    go_enter Tryz.func122,Tryz.ntmps122
    go_wp2_with fail
    refine (HPK1.out _).mono ?_
    rintro e w1 ⟨rfl,hb⟩
    have HB2:=qh (bchain HB1.out hb)
    clear hb b0 c0 c1 c2 c3
    go_wp2_with fail
    refine (HT1.out _).mono ?_
    rintro e w2 ⟨rfl,hb⟩
    have HB3:=qh (bchain HB2.out hb)
    clear hb
    obtain ⟨c0,c1,c2,c3⟩:=HCE.out _ HB3.out
    go_wp2
    go_ret
    exact ⟨rfl,HFI.out _ HB3.out⟩
end
section
open Go.RowKit
theorem size_list (s:List UInt8):(⟨s.toArray⟩:ByteArray).size=s.length:=by simp [ByteArray.size]
theorem dclone_any (s:List UInt8) (w:World) (hl:s.length<=140737488351232):
    Calls Tryz.prog 46 #[.string ⟨s.toArray⟩] w fun e w'=>e=.returned (.string ⟨s.toArray⟩)/\Below w.heap.size w w':=by
  go_enter Tryz.func46,Tryz.ntmps46
  go_wp2_with fail
  refine (shelf_clone ⟨s.toArray⟩ w (by rw [size_list]; omega)).mono ?_
  rintro e w1 ⟨rfl,hb⟩
  go_wp2
  go_ret
  exact ⟨rfl,hb⟩
end
section
open Go.RowKit
open Go.Proofs.YtaficmboooaknaaGreatDoor.Nd (N)
theorem Nd.bits8_snoc (l:List (List UInt8)) (x:List UInt8):Nd.bits8 (l ++ [x])=Nd.bits8 l * 2+if x=[] then 0 else 1:=by
  unfold Nd.bits8
  rw [List.foldl_append]
  rfl
theorem Nd.flat_take (l:List (List UInt8)) (k:Nat) (hk:k < l.length):(l.take (k+1)).flatten=(l.take k).flatten ++ l[k]:=by
  rw [List.take_succ_eq_append_getElem hk,List.flatten_append]
  simp
theorem Nd.all32_flat' (l:List (List UInt8)) (h:Nd.all32 l=true) (k:Nat):(l.take k).flatten.length<=32 * l.length:=by
  induction l generalizing k with
  | nil=>simp
  | cons a l ih=>
    rw [Nd.all32_cons,Bool.and_eq_true] at h
    have h2:a.length<=32:=by
      have:=h.1
      simp only [Bool.or_eq_true,decide_eq_true_eq] at this
      rcases this with q | q
      · rw [q]; simp
      · omega
    cases k with
    | zero=>simp
    | succ k=>
      have h1:=ih h.2 k
      rw [List.take_succ_cons,List.flatten_cons,List.length_append,List.length_cons]
      omega
def Nd.hiK (l:List (List UInt8)) (k:Nat):Nat:=Nd.bits8 ((l.take 8).take k)
def Nd.loK (l:List (List UInt8)) (k:Nat):Nat:=Nd.bits8 ((l.drop 8).take (k - 8))
theorem Nd.hiK_lo (l:List (List UInt8)) (k:Nat) (x:List UInt8) (hx:l[k]?=some x) (h:k < 8) (hl:l.length=16):Nd.hiK l (k+1)=Nd.hiK l k * 2+(if x=[] then 0 else 1)/\Nd.loK l (k+1)=Nd.loK l k:=by
  obtain ⟨_,rfl⟩:=List.getElem?_eq_some_iff.1 hx
  unfold Nd.hiK Nd.loK
  constructor
  · have hk:k < (l.take 8).length:=by rw [List.length_take,hl]; omega
    rw [List.take_succ_eq_append_getElem hk,Nd.bits8_snoc,List.getElem_take]
  · rw [show k+1 - 8=0 by omega,show k - 8=0 by omega]
theorem Nd.hiK_hi (l:List (List UInt8)) (k:Nat) (x:List UInt8) (hx:l[k]?=some x) (h:8<=k) (h16:k < 16) (hl:l.length=16):Nd.hiK l (k+1)=Nd.hiK l k/\Nd.loK l (k+1)=Nd.loK l k * 2+(if x=[] then 0 else 1):=by
  obtain ⟨_,rfl⟩:=List.getElem?_eq_some_iff.1 hx
  unfold Nd.hiK Nd.loK
  constructor
  · rw [List.take_take,List.take_take,Nat.min_eq_right (by omega),Nat.min_eq_right (by omega)]
  · have hk:k - 8 < (l.drop 8).length:=by rw [List.length_drop,hl]; omega
    rw [show k+1 - 8=(k - 8)+1 by omega,List.take_succ_eq_append_getElem hk,Nd.bits8_snoc,List.getElem_drop]
    simp only [show 8+(k - 8)=k by omega]
theorem Nd.bits8_pow (l:List (List UInt8)):Nd.bits8 l < 2 ^ l.length:=by
  have key:∀ (l:List (List UInt8)) (s:Nat),l.foldl (fun a k=>a * 2+if k=[] then 0 else 1) s < (s+1) * 2 ^ l.length:=by
    intro l
    induction l with
    | nil=>intro s; simp
    | cons x l ih=>
      intro s
      rw [List.foldl_cons,List.length_cons,Nat.pow_succ]
      refine Nat.lt_of_lt_of_le (ih _) ?_
      rw [Nat.mul_comm (2 ^ l.length) 2,← Nat.mul_assoc]
      refine Nat.mul_le_mul_right _ ?_
      split <;> omega
  have:=key l 0
  rw [Nat.zero_add,Nat.one_mul] at this
  exact this
theorem Nd.hiK_lt (l:List (List UInt8)) (k:Nat):Nd.hiK l k < 256:=by
  unfold Nd.hiK
  refine Nat.lt_of_lt_of_le (Nd.bits8_pow _) ?_
  rw [show 256=2 ^ 8 from rfl]
  refine Nat.pow_le_pow_right (by decide) ?_
  rw [List.length_take,List.length_take]
  omega
theorem Nd.loK_lt (l:List (List UInt8)) (k:Nat) (hl:l.length=16):Nd.loK l k < 256:=by
  unfold Nd.loK
  refine Nat.lt_of_lt_of_le (Nd.bits8_pow _) ?_
  rw [show 256=2 ^ 8 from rfl]
  refine Nat.pow_le_pow_right (by decide) ?_
  rw [List.length_take,List.length_drop,hl]
  omega
theorem rWritten_branch (n:N) (w:World) (hk:n.kind=3) (hn:n.kids.length=16) (ha:Nd.all32 n.kids=true) (hv:n.val.length<=32):
    Calls Tryz.prog 122 #[ndval n] w fun e w'=>e=.returned (.string ⟨(Nd.written n).toArray⟩)/\Below w.heap.size w w':=by
  have hat:NodeAt (w.alloc (.cells (ncl n).toArray 110)) w.heap.size n:=heap_new_at w _ _ rfl
  have HB0:Hid (Below w.heap.size w (w.alloc (.cells (ncl n).toArray 110))):=qh ((Below.refl _ w).alloc (Nat.le_refl _) _)
  have HCE:Hid (∀ w',Below (w.alloc (.cells (ncl n).toArray 110)).heap.size (w.alloc (.cells (ncl n).toArray 110)) w'->w'.cell? ⟨w.heap.size,0,none⟩=some (.int .i64 3)/\w'.cell? ⟨w.heap.size,2,none⟩=some (.string ⟨n.val.toArray⟩)/\∀ (k:Nat) (hk:k < 16),w'.cell? ⟨w.heap.size,3+k,none⟩=some (.string ⟨(n.kids[k]'(by omega)).toArray⟩)):=qh (fun w' h=>by
    have:=hat.below h
    exact ⟨hk ▸ this.kind,this.val,fun k hk=>this.kid k (by omega)⟩)
  have HT:=qh (fun w=>rText_any n.val w (by omega))
  have htl:=Code.textL_le n.val 32 hv (by omega)
  have hW:Nd.written n=([3] ++ Nd.takenL n.kids ++ n.kids.flatten) ++ Code.textL n.val:=by
    unfold Nd.written Nd.branchL
    rw [hk]
    simp [Nd.takenL]
  rw [hW]
  have HFL:=qh (Nd.all32_flat' n.kids ha)
  have HN:=qh hn
  unfold ndval
  obtain ⟨C,hC⟩:∃ C,(ncl n).toArray=C:=⟨_,rfl⟩
  obtain ⟨T2,hT2⟩:∃ T,Code.textL n.val=T:=⟨_,rfl⟩
  rw [hT2] at HT htl ⊢
  obtain ⟨Y,hY⟩:∃ Y,([3] ++ Nd.takenL n.kids ++ n.kids.flatten) ++ T2=Y:=⟨_,rfl⟩
  have HY:=qh hY
  rw [hY]
  rw [hC] at HB0 HCE ⊢
  clear hC hT2 hat hW ha hk hY
  obtain ⟨b0,-,-⟩:=HCE.out _ (Below.refl _ _)
  have hb1:Below (w.alloc (.cells C 110)).heap.size (w.alloc (.cells C 110)) ((w.alloc (.cells C 110)).alloc (.cells #[.int .u8 3] 5)):=(Below.refl _ _).alloc (Nat.le_refl _) _
  obtain ⟨c0,-,-⟩:=HCE.out _ hb1
  have HB1:=qh hb1
  have HFI:Hid (∀ w',Below (w.alloc (.cells C 110)).heap.size (w.alloc (.cells C 110)) w'->Below w.heap.size w w'):=qh (fun w' h=>HB0.out.trans (h.mono (by simp)))
  clear hb1
  have kc:=conv_one' (w.alloc (.cells C 110)) 3 3 rfl (w.heap.size+1) (by simp)
  go_enter Tryz.func122,Tryz.ntmps122
  go_wp2_with fail
  clear b0 c0 kc
  have HSW:Hid (w.heap.size < (w.alloc (.cells C 110)).heap.size):=qh (by simp)
  generalize (w.alloc (.cells C 110))=w0 at *
  generalize (w0.alloc (.cells #[.int .u8 3] 5))=w1 at *
  go_loopw [4,5,6,7] (fun hi lo all i wr=>∃ k h l:Nat,k<=16/\i=.int .i64 k/\hi=.int .i64 h/\lo=.int .i64 l/\h=Nd.hiK n.kids k/\l=Nd.loK n.kids k/\all=.string ⟨(n.kids.take k).flatten.toArray⟩/\wr=w1) (fun _ _ _ i _=>16 - (intOf i).toNat)
  case atStart=>exact ⟨0,0,0,Nat.zero_le _,rfl,rfl,rfl,rfl,rfl,rfl,rfl⟩
  case round=>
    obtain ⟨k,h,l,hk,rfl,rfl,rfl,hh,hl,rfl,rfl⟩:=hrel
    have hh1:(h:Int) < 256:=by have:=Nd.hiK_lt n.kids k; omega
    have hl1:(l:Int) < 256:=by have:=Nd.loK_lt n.kids k hn; omega
    have HH:=qh hh
    have HL:=qh hl
    clear hh hl
    obtain ⟨c0,c1,cK⟩:=HCE.out _ HB1.out
    have HCK:=qh cK
    clear cK
    have hf1:=HFL.out k
    rw [hn] at hf1
    by_cases hlt:k < 16
    · have h1:(k:Int) < 16:=by omega
      have h0:(0:Int)<=(k:Int):=by omega
      have n0:=HCK.out k hlt
      have hfs:=Nd.flat_take n.kids k (by omega)
      have hf2:=HFL.out (k+1)
      rw [hn,hfs,List.length_append] at hf2
      have HFS:=qh hfs
      obtain ⟨x,hx⟩:∃ x,n.kids[k]'(by omega)=x:=⟨_,rfl⟩
      have hxk:n.kids[k]?=some x:=by rw [List.getElem?_eq_getElem (by omega),hx]
      have HS1:=qh (fun h=>Nd.hiK_lo n.kids k x hxk h hn)
      have HS2:=qh (fun h=>Nd.hiK_hi n.kids k x hxk h hlt hn)
      rw [hx] at n0 hf2 HFS
      obtain ⟨F,hF⟩:∃ F,(n.kids.take k).flatten=F:=⟨_,rfl⟩
      rw [hF] at hf1 hf2 HFS ⊢
      have hcat:=cat_mk F x
      clear hx hF hfs hxk
      by_cases h8:k < 8
      · have h81:(k:Int) < 8:=by omega
        obtain ⟨s1,s2⟩:=HS1.out h8
        rw [← HH.out] at s1
        rw [← HL.out] at s2
        by_cases he:x=[]
        · subst he
          rw [if_pos rfl] at s1
          have HA:=qh s1
          have HB:=qh s2
          clear s1 s2 h8
          go_wp2
          exact ⟨⟨k+1,h * 2,l,by omega,by go_num,by go_num,by go_num,HA.out.symm,HB.out.symm,by rw [HFS.out,List.append_nil],trivial⟩,by simp [intOf]; omega⟩
        · have he1:(x == [])=false:=by rw [beq_eq_false_iff_ne]; exact he
          rw [if_neg he] at s1
          have HA:=qh s1
          have HB:=qh s2
          clear s1 s2 h8
          go_wp2
          exact ⟨⟨k+1,h * 2+1,l,by omega,by go_num,by go_num,by go_num,HA.out.symm,HB.out.symm,by rw [HFS.out],trivial⟩,by simp [intOf]; omega⟩
      · have h81:¬ ((k:Int) < 8):=by omega
        obtain ⟨s1,s2⟩:=HS2.out (by omega)
        rw [← HH.out] at s1
        rw [← HL.out] at s2
        by_cases he:x=[]
        · subst he
          rw [if_pos rfl] at s2
          have HA:=qh s1
          have HB:=qh s2
          clear s1 s2 h8
          go_wp2
          exact ⟨⟨k+1,h,l * 2,by omega,by go_num,by go_num,by go_num,HA.out.symm,HB.out.symm,by rw [HFS.out,List.append_nil],trivial⟩,by simp [intOf]; omega⟩
        · have he1:(x == [])=false:=by rw [beq_eq_false_iff_ne]; exact he
          rw [if_neg he] at s2
          have HA:=qh s1
          have HB:=qh s2
          clear s1 s2 h8
          go_wp2
          exact ⟨⟨k+1,h,l * 2+1,by omega,by go_num,by go_num,by go_num,HA.out.symm,HB.out.symm,by rw [HFS.out],trivial⟩,by simp [intOf]; omega⟩
    · have h1:¬ ((k:Int) < 16):=by omega
      obtain rfl:k=16:=by omega
      have e16:n.kids.take 16=n.kids:=List.take_of_length_le (by omega)
      have hhb:h=Nd.bits8 (n.kids.take 8):=by
        rw [HH.out,Nd.hiK,List.take_take]
        rfl
      have hlb:l=Nd.bits8 (n.kids.drop 8):=by
        rw [HL.out,Nd.loK,List.take_of_length_le (by rw [List.length_drop,hn]; omega)]
      rw [e16] at hf1 ⊢
      have hY:=HY.out
      rw [show Nd.takenL n.kids=[Nd.byteN h,Nd.byteN l] by unfold Nd.takenL; rw [← hhb,← hlb]] at hY
      have hxb:(h:Int)=((Nd.byteN h).toNat:Int):=by rw [Nd.byteN,Code.ofNat_toNat _ (by omega)]
      have hyb:(l:Int)=((Nd.byteN l).toNat:Int):=by rw [Nd.byteN,Code.ofNat_toNat _ (by omega)]
      obtain ⟨J,hJ⟩:∃ J,n.kids.flatten=J:=⟨_,rfl⟩
      rw [hJ] at hf1 hY ⊢
      have a1:=cat_mk [3] [Nd.byteN h,Nd.byteN l]
      have l1:([3] ++ [Nd.byteN h,Nd.byteN l]:List UInt8).length=3:=rfl
      obtain ⟨X1,hX1⟩:∃ X,([3] ++ [Nd.byteN h,Nd.byteN l]:List UInt8)=X:=⟨_,rfl⟩
      rw [hX1] at a1 l1 hY
      have a2:=cat_mk X1 J
      have l2:(X1 ++ J).length<=515:=by rw [List.length_append]; omega
      obtain ⟨X2,hX2⟩:∃ X,X1 ++ J=X:=⟨_,rfl⟩
      rw [hX2] at a2 l2 hY
      have a3:=cat_mk X2 T2
      rw [hY] at a3
      have l3:Y.length<=556:=by rw [← hY,List.length_append]; omega
      have HA:Hid (∀ w',Below (wr.alloc (.cells #[.int .u8 h,.int .u8 l] 5)).drew.heap.size (wr.alloc (.cells #[.int .u8 h,.int .u8 l] 5)).drew w'->(convert 126 9 (.slice (some ⟨wr.heap.size,0,none⟩) 2 2)).run Tryz.prog w'=.ok (.string ⟨[Nd.byteN h,Nd.byteN l].toArray⟩) w'):=qh (fun w' hb=>conv_own (row_out (G:=fun _=>False) (ownsTwo wr.drew wr.drew.heap.size (Nat.le_refl _) (Nd.byteN h) (Nd.byteN l) h l hxb hyb) (Out.of hb) (fun _ _ _ _ hf=>hf.elim)))
      have HC2:Hid (∀ w':World,(convert 126 9 (.slice (some ⟨w'.heap.size,0,none⟩) 2 2)).run Tryz.prog (w'.alloc (.cells #[.int .u8 h,.int .u8 l] 5))=.ok (.string ⟨[Nd.byteN h,Nd.byteN l].toArray⟩) (w'.alloc (.cells #[.int .u8 h,.int .u8 l] 5))):=qh (fun w'=>conv_two' w' (Nd.byteN h) (Nd.byteN l) h l hxb hyb)
      clear hxb hyb hhb hlb hJ hX1 hX2 hY e16
      have BD:Below w0.heap.size w0 wr.drew:=HB1.out.drew
      have BA:Below w0.heap.size w0 (wr.alloc (.cells #[.int .u8 h,.int .u8 l] 5)).drew:=BD.alloc BD.size _
      have wh:IntKind.u8.wrap (h:Int)=(h:Int):=IntWalk.u8_in _ (by omega)
      have wl:IntKind.u8.wrap (l:Int)=(l:Int):=IntWalk.u8_in _ (by omega)
      have HTT:Hid (∀ w',Below w0.heap.size w0 w'->Calls Tryz.prog 153 #[.string ⟨n.val.toArray⟩] w' fun e w''=>e=.returned (.string ⟨T2.toArray⟩)/\Below w0.heap.size w0 w''/\Below w'.heap.size w' w''):=qh (fun w' h=>(HT.out w').mono fun e w'' q=>⟨q.1,h.trans (q.2.mono h.size),q.2⟩)
      have kd:(convert 126 9 (.slice (some ⟨wr.heap.size,0,none⟩) 2 2)).run Tryz.prog (wr.alloc (.cells #[.int .u8 h,.int .u8 l] 5)).drew=.ok (.string ⟨[Nd.byteN h,Nd.byteN l].toArray⟩) (wr.alloc (.cells #[.int .u8 h,.int .u8 l] 5)).drew:=HC2.out wr.drew
      have c2:=(HCE.out _ BD).2.1
      have c3:=(HCE.out _ BA).2.1
      go_wp2
      go_region_with (go_at_call 153; refine (HTT.out _ (by with_reducible assumption)).mono ?_; rintro e w2 ⟨rfl,hb2,hq2⟩; have ce:=(HCE.out _ hb2).2.1; have kf:=HC2.out w2; (try (have kg:=HA.out _ hq2)))
      all_goals
        go_wp2
        go_ret
        first | exact ⟨rfl,HFI.out _ hb2⟩ | exact ⟨rfl,HFI.out _ (hb2.alloc hb2.size _)⟩
theorem rWritten_any (n:N) (w:World) (hn:n.kids.length=16) (hf:Nd.fine n=true):
    Calls Tryz.prog 122 #[ndval n] w fun e w'=>e=.returned (.string ⟨(Nd.written n).toArray⟩)/\Below w.heap.size w w':=by
  simp only [Nd.fine,Bool.and_eq_true,decide_eq_true_eq] at hf
  obtain ⟨a,b,c,d,e⟩:=hf
  have hz:(n.kids.getD 0 []).length<=32:=by
    have:=List.all_eq_true.1 a (n.kids[0]'(by omega)) (List.getElem_mem _)
    rw [List.getD_eq_getElem?_getD,List.getElem?_eq_getElem (by omega)]
    simp only [Bool.or_eq_true,decide_eq_true_eq] at this
    show (n.kids[0]'(by omega)).length<=32
    rcases this with q | q
    · rw [q]; simp
    · omega
  by_cases k1:n.kind=1
  · exact rWritten_flat n w (Or.inl k1) hn b c d hz
  by_cases k2:n.kind=2
  · exact rWritten_flat n w (Or.inr k2) hn b c d hz
  by_cases k3:n.kind=3
  · exact rWritten_branch n w k3 hn a d
  rw [if_neg k1,if_neg k2,if_neg k3] at e
  cases e
end
section
open Go.RowKit
open Go.Proofs.YtaficmboooaknaaGreatDoor.Nd (N)
theorem Nd.all32_kids (l:List (List UInt8)):Nd.all32 l=(Nd.kidsL l).all fun k=>decide (k.length=32):=by
  unfold Nd.all32 Nd.kidsL
  induction l with
  | nil=>rfl
  | cons a l ih=>
    by_cases h:a=[]
    · subst h
      simp only [List.all_cons,List.filter_cons]
      rw [ih]
      simp
    · simp only [List.all_cons,List.filter_cons]
      rw [ih]
      simp [h]
def Nd.kindB (n:N):Bool:=
  if n.kind=1 then decide ((Nd.kidsL n.kids).length=0) && decide (n.val ≠ [])
  else if n.kind=2 then decide ((Nd.kidsL n.kids).length=1) && (decide (n.kids.getD 0 [] ≠ []) && (decide (1<=n.path.length) && decide (n.val=[])))
  else if n.kind=3 then decide (n.path.length=0) && (decide (2<=(Nd.kidsL n.kids).length) || (decide ((Nd.kidsL n.kids).length=1) && decide (n.val ≠ [])))
  else false
theorem Nd.fine_eq (n:N):Nd.fine n=(Nd.all32 n.kids && (Nib.fitL n.path && (decide (n.path.length<=16) && (decide (n.val.length<=32) && Nd.kindB n)))):=rfl
theorem rFine_any (n:N) (w:World) (hn:n.kids.length=16) (hp:n.path.length<=1000000):
    Calls Tryz.prog 121 #[ndval n] w fun e w'=>e=.returned (.bool (Nd.fine n))/\Below w.heap.size w w':=by
  rw [Nd.fine_eq,Nd.all32_kids]
  have HKI:=qh (fun w=>rKids_any n w hn)
  unfold KidsPost at HKI
  unfold ndval at HKI ⊢
  have hat:NodeAt (w.alloc (.cells (ncl n).toArray 110)) w.heap.size n:=heap_new_at w _ _ rfl
  have HAT:=qh hat
  have hb0:Below w.heap.size w (w.alloc (.cells (ncl n).toArray 110)):=(Below.refl _ w).alloc (Nat.le_refl _) _
  have HB0:=qh hb0
  have hcs:(ncl n).toArray.size=19:=by rw [List.size_toArray,ncl_length n hn]
  have hk0:∀ w' g,NodeAt w' g n->w'.cell? ⟨g,3,none⟩=some (.string ⟨(n.kids.getD 0 []).toArray⟩):=fun w' g h=>by
    have h1:=h.kid 0 (by omega)
    have h2:n.kids.getD 0 []=n.kids[0]'(by omega):=by
      rw [List.getD_eq_getElem?_getD,List.getElem?_eq_getElem (by omega)]
      rfl
    rw [h2]
    exact h1
  have HI:Hid ((Tryz.prog.info? 110).map (·.size)=some (ncl n).toArray.size):=qh (by rw [hcs]; kernel_rfl)
  have HFI:=qh (fun w=>rfit_any n.path w hp)
  have hln:(Nd.kidsL n.kids).length<=16:=by
    unfold Nd.kidsL
    exact Nat.le_trans (List.length_filter_le _ _) (by omega)
  obtain ⟨KB,hKB⟩:∃ b,Nd.kindB n=b:=⟨_,rfl⟩
  have HKB:=qh hKB
  rw [hKB]
  unfold Nd.kindB at HKB
  have hKND:=hat.kind
  obtain ⟨C,hC⟩:∃ C,(ncl n).toArray=C:=⟨_,rfl⟩
  obtain ⟨F,hF⟩:∃ F,Nib.fitL n.path=F:=⟨_,rfl⟩
  obtain ⟨⟨kd,pa,va,ks⟩,hnn⟩:∃ m,n=m:=⟨_,rfl⟩
  have HK0:=qh hk0
  have HCE:Hid (∀ w',NodeAt w' w.heap.size n->w'.cell? ⟨w.heap.size,0,none⟩=some (.int .i64 n.kind)/\w'.cell? ⟨w.heap.size,1,none⟩=some (.string ⟨n.path.toArray⟩)/\w'.cell? ⟨w.heap.size,2,none⟩=some (.string ⟨n.val.toArray⟩)/\w'.cell? ⟨w.heap.size,3,none⟩=some (.string ⟨(n.kids.getD 0 []).toArray⟩)):=qh (fun w' h=>⟨h.kind,h.path,h.val,hk0 w' _ h⟩)
  have HRO:Hid (NodeAt (w.alloc (.cells C 110)) w.heap.size n):=qh (by rw [← hC]; exact hat)
  obtain ⟨K,hK⟩:∃ K,Nd.kidsL n.kids=K:=⟨_,rfl⟩
  obtain ⟨z0,hz00⟩:∃ x,n.kids.getD 0 []=x:=⟨_,rfl⟩
  rw [hz00] at HKB HCE
  rw [hC] at HB0 HI HKI ⊢
  rw [hF] at HFI ⊢
  rw [hK] at HKI HKB hln ⊢
  have HHR:Hid ((w.alloc (.cells C 110)).heap[w.heap.size]?=some (.cells C 110 (0,0))):=qh (heap_new_at w _ _ rfl)
  have HRO1:Hid (∀ w1,Below w.heap.size (w.alloc (.cells C 110)) w1->True):=qh (fun _ _=>trivial)
  obtain ⟨R,hR⟩:∃ R,((K.all fun k=>decide (k.length=32)) && (F && (decide (n.path.length<=16) && (decide (n.val.length<=32) && KB))))=R:=⟨_,rfl⟩
  have HR:=qh hR
  rw [hR]
  have HLK:=qh hln
  clear HAT hat hb0 hcs hk0 HK0 hz00 hKB hC hF hKND hK hnn kd pa va ks hR hln HRO1
  go_enter Tryz.func121,Tryz.ntmps121
  go_wp2_with (refine wpList_load_row (by rfl) _ _ (by rfl) w.heap.size (by rfl) _ C _ _ HHR.out Tryz.underlying110 (by rfl) HI.out ?_)
  refine (HKI.out _).mono ?_
  rintro e w1 ⟨z,rfl,hown,hb⟩
  have HB1:=qh (HB0.out.trans (hb.mono HB0.out.size))
  have HN1:=qh (HRO.out.below hb)
  have HOW:=qh hown
  obtain ⟨A,cap,rfl⟩:=own_form hown
  obtain ⟨c0,c1,c2,c3⟩:=HCE.out _ HN1.out
  clear hown hb
  go_wp2
  go_loopw [4] (fun i wr=>∃ k:Nat,k<=K.length/\i=.int .i64 k/\Hid (∀ s ∈ K.take k,s.length=32)/\wr=w1) (fun i _=>K.length - (intOf i).toNat)
  case atStart=>exact ⟨0,Nat.zero_le _,rfl,qh (fun s hs=>by simp at hs),rfl⟩
  case round=>
    obtain ⟨k,hk,rfl,HK,rfl⟩:=hrel
    by_cases hlt:k < K.length
    · have h1:(k:Int) < (K.length:Int):=by omega
      have h0:(0:Int)<=(k:Int):=by omega
      have h2:(k:Int)<=16:=by have:=HLK.out; omega
      obtain ⟨q,rfl,n0⟩:=HOW.out.strs_at (Below.refl _ _) k hlt
      have HMEM:=qh (List.getElem_mem hlt)
      have HTK:=qh (List.take_succ_eq_append_getElem hlt)
      obtain ⟨x,hx⟩:∃ x,K[k]=x:=⟨_,rfl⟩
      rw [hx] at n0 HMEM HTK
      clear hx
      by_cases h32:x.length=32
      · have h32':(x.length:Int)=32:=by omega
        have HK':Hid (∀ s ∈ K.take (k+1),s.length=32):=qh (fun s hs=>by
          rw [HTK.out] at hs
          rcases List.mem_append.1 hs with hs | hs
          · exact HK.out s hs
          · obtain rfl:s=x:=by simpa using hs
            exact h32)
        clear h32
        go_wp2
        exact ⟨⟨k+1,by omega,by go_num,HK',trivial⟩,by simp [intOf]; omega⟩
      · have h32':¬ ((x.length:Int)=32):=by omega
        obtain rfl:R=false:=by
          rw [← HR.out,Bool.and_eq_false_iff]
          exact Or.inl (List.all_eq_false.2 ⟨x,HMEM.out,by simpa using h32⟩)
        clear h32
        go_wp2
        go_ret
        exact ⟨rfl,HB1.out⟩
    · have h1:¬ ((k:Int) < (K.length:Int)):=by omega
      obtain rfl:k=K.length:=by omega
      have hall:(K.all fun k=>decide (k.length=32))=true:=List.all_eq_true.2 fun s hs=>by
        have:=HK.out
        rw [List.take_length] at this
        simpa using this s hs
      rw [hall,Bool.true_and] at HR
      clear hall hlt hk HK
      cases F with
      | false=>
        obtain rfl:R=false:=HR.out.symm
        go_wp2_with fail
        refine (HFI.out _).mono ?_
        rintro e w2 ⟨rfl,rfl⟩
        go_wp2
        go_ret
        exact ⟨rfl,HB1.out⟩
      | true=>
        rw [Bool.true_and] at HR
        by_cases hp16:n.path.length<=16
        case neg=>
          have hp':(16:Int) < (n.path.length:Int):=by omega
          obtain rfl:R=false:=by rw [← HR.out,decide_eq_false hp16]; rfl
          clear hp16
          go_wp2_with fail
          refine (HFI.out _).mono ?_
          rintro e w2 ⟨rfl,rfl⟩
          go_wp2
          go_ret
          exact ⟨rfl,HB1.out⟩
        have hp':¬ ((16:Int) < (n.path.length:Int)):=by omega
        rw [decide_eq_true hp16,Bool.true_and] at HR
        by_cases hv32:n.val.length<=32
        case neg=>
          have hv':(32:Int) < (n.val.length:Int):=by omega
          obtain rfl:R=false:=by rw [← HR.out,decide_eq_false hv32]; rfl
          clear hv32 hp16
          go_wp2_with fail
          refine (HFI.out _).mono ?_
          rintro e w2 ⟨rfl,rfl⟩
          go_wp2
          go_ret
          exact ⟨rfl,HB1.out⟩
        have hv':¬ ((32:Int) < (n.val.length:Int)):=by omega
        rw [decide_eq_true hv32,Bool.true_and] at HR
        obtain rfl:KB=R:=HR.out
        clear hv32 hp16 HR
        go_wp2_with fail
        refine (HFI.out _).mono ?_
        rintro e w2 ⟨rfl,rfl⟩
        have hkb:=HKB.out
        by_cases k1:n.kind=1
        · rw [if_pos k1] at hkb
          rw [k1] at c0
          by_cases a1:K=[]
          · subst a1
            by_cases a2:n.val=[]
            · rw [a2] at c2
              obtain rfl:KB=false:=by rw [← hkb]; simp [a2]
              clear hkb
              go_wp2
              go_ret
              exact ⟨rfl,HB1.out⟩
            · have b2:(n.val == [])=false:=by rw [beq_eq_false_iff_ne]; exact a2
              obtain rfl:KB=true:=by rw [← hkb]; simp [a2]
              clear hkb
              go_wp2
              go_ret
              exact ⟨rfl,HB1.out⟩
          · have a3:¬ (K.length=0):=fun h=>a1 (List.eq_nil_of_length_eq_zero h)
            have b1:((K.length:Int) == 0)=false:=by rw [beq_eq_false_iff_ne]; omega
            have b3:¬ ((K.length:Int)=0):=by omega
            obtain rfl:KB=false:=by rw [← hkb]; simp [a1]
            clear hkb
            go_wp2
            go_ret
            exact ⟨rfl,HB1.out⟩
        rw [if_neg k1] at hkb
        have e1:(n.kind == 1)=false:=by rw [beq_eq_false_iff_ne]; exact k1
        by_cases k2:n.kind=2
        · rw [if_pos k2] at hkb
          rw [k2] at c0
          by_cases a1:K.length=1
          · have b1:(K.length:Int)=1:=by omega
            by_cases a2:z0=[]
            · rw [a2] at c3
              obtain rfl:KB=false:=by rw [← hkb]; simp [a2,a1]
              clear hkb
              go_wp2
              go_ret
              exact ⟨rfl,HB1.out⟩
            · have b2:(z0 == [])=false:=by rw [beq_eq_false_iff_ne]; exact a2
              by_cases a4:1<=n.path.length
              · have b4:(1:Int)<=(n.path.length:Int):=by omega
                by_cases a5:n.val=[]
                · rw [a5] at c2
                  obtain rfl:KB=true:=by rw [← hkb]; simp [a1,a2,a4,a5]
                  clear hkb
                  go_wp2
                  go_ret
                  exact ⟨rfl,HB1.out⟩
                · have b5:(n.val == [])=false:=by rw [beq_eq_false_iff_ne]; exact a5
                  obtain rfl:KB=false:=by rw [← hkb]; simp [a5]
                  clear hkb
                  go_wp2
                  go_ret
                  exact ⟨rfl,HB1.out⟩
              · have b4:¬ ((1:Int)<=(n.path.length:Int)):=by omega
                have a6:n.path.length=0:=by omega
                obtain rfl:KB=false:=by rw [← hkb]; simp [a6]
                clear hkb
                go_wp2
                go_ret
                exact ⟨rfl,HB1.out⟩
          · have b1:¬ ((K.length:Int)=1):=by omega
            have b3:((K.length:Int) == 1)=false:=by rw [beq_eq_false_iff_ne]; exact b1
            obtain rfl:KB=false:=by rw [← hkb]; simp [a1]
            clear hkb
            go_wp2
            go_ret
            exact ⟨rfl,HB1.out⟩
        rw [if_neg k2] at hkb
        have e2:(n.kind == 2)=false:=by rw [beq_eq_false_iff_ne]; exact k2
        by_cases k3:n.kind=3
        · rw [if_pos k3] at hkb
          rw [k3] at c0
          by_cases a1:n.path.length=0
          · have b0:(n.path.length:Int)=0:=by omega
            by_cases a2:2<=K.length
            · have b2:(2:Int)<=(K.length:Int):=by omega
              obtain rfl:KB=true:=by rw [← hkb]; simp [a1,a2]
              clear hkb
              go_wp2
              go_ret
              exact ⟨rfl,HB1.out⟩
            · have b2:¬ ((2:Int)<=(K.length:Int)):=by omega
              by_cases a3:K.length=1
              · have b3:(K.length:Int)=1:=by omega
                by_cases a5:n.val=[]
                · rw [a5] at c2
                  obtain rfl:KB=false:=by rw [← hkb]; simp [a5,a2]
                  clear hkb
                  go_wp2
                  go_ret
                  exact ⟨rfl,HB1.out⟩
                · have b5:(n.val == [])=false:=by rw [beq_eq_false_iff_ne]; exact a5
                  obtain rfl:KB=true:=by rw [← hkb]; simp [a1,a3,a5]
                  clear hkb
                  go_wp2
                  go_ret
                  exact ⟨rfl,HB1.out⟩
              · have b3:¬ ((K.length:Int)=1):=by omega
                have b4:((K.length:Int) == 1)=false:=by rw [beq_eq_false_iff_ne]; exact b3
                obtain rfl:KB=false:=by rw [← hkb]; simp [a2,a3]
                clear hkb
                go_wp2
                go_ret
                exact ⟨by simp [b2],HB1.out⟩
          · have b0:¬ ((n.path.length:Int)=0):=by omega
            have b3:((n.path.length:Int) == 0)=false:=by rw [beq_eq_false_iff_ne]; exact b0
            obtain rfl:KB=false:=by rw [← hkb]; simp [a1]
            clear hkb
            go_wp2
            go_ret
            exact ⟨rfl,HB1.out⟩
        rw [if_neg k3] at hkb
        have e3:(n.kind == 3)=false:=by rw [beq_eq_false_iff_ne]; exact k3
        obtain rfl:KB=false:=hkb.symm
        go_wp2
        go_ret
        exact ⟨rfl,HB1.out⟩
end
namespace Dig
structure N where
  tag:Int
  text:List UInt8
  dig:List UInt8
theorem N.ext' {a b:N} (h1:a.tag=b.tag) (h2:a.text=b.text) (h3:a.dig=b.dig):a=b:=by
  cases a; cases b; simp_all
instance:DecidableEq N:=fun a b=>
  if h:a.tag=b.tag/\a.text=b.text/\a.dig=b.dig then isTrue (N.ext' h.1 h.2.1 h.2.2) else isFalse (fun e=>h (by subst e; exact ⟨rfl,rfl,rfl⟩))
def zero:N:=⟨0,[],[]⟩
def isTag (t:Int):Bool:=decide (1<=t) && decide (t<=255)
def taken (L:List N) (n:N):Prop:=isTag n.tag=true/\n.dig.length=32/\n ∉ L/\L.length < 1024
instance (L:List N) (n:N):Decidable (taken L n):=by unfold taken; exact inferInstance
def find (L:List N) (d:List UInt8):Option N:=L.find? (fun n=>decide (n.dig=d))
end Dig
end Go.Proofs.YtaficmboooaknaaGreatDoor
