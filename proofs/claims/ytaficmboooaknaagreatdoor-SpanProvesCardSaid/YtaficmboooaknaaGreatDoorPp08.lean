import Derived.Test.YtaficmboooaknaaGreatDoorPp04
import Derived.Test.YtaficmboooaknaaGreatDoorPp07
import Derived.Test.YtaficmboooaknaaGreatDoorPp03
import Derived.Test.YtaficmboooaknaaGreatDoorPp02
import Derived.Deep.RegionWith
import Derived.Deep.DrawnRows
import Derived.Test.YtaficmboooaknaaGreatDoorPp01
import Derived.WalkKit
import Derived.Test.YtaficmboooaknaaGreatDoorProg
set_option maxRecDepth 100000
set_option maxHeartbeats 16000000
namespace Go.Proofs.YtaficmboooaknaaGreatDoor
section
open Go.RowKit
open Go.Proofs.YtaficmboooaknaaGreatDoor.Nd (N)
theorem Code.textL_le (s:List UInt8) (n:Nat) (h:s.length<=n) (hn:n<=100):(Code.textL s).length<=n+9:=by
  rw [Code.textL_length]
  have:Code.sz s.length<=8:=Code.sz_le8 s.length (by omega)
  omega
theorem rWritten_flat (n:N) (w:World) (hk:n.kind=1 ∨ n.kind=2) (hn:n.kids.length=16) (hf:Nib.fitL n.path=true) (hp:n.path.length<=16) (hv:n.val.length<=32) (hk0:(n.kids.getD 0 []).length<=32):
    Calls Tryz.prog 122 #[ndval n] w fun e w'=>e=.returned (.string ⟨(Nd.written n).toArray⟩)/\Below w.heap.size w w':=by
  have hat:NodeAt (w.alloc (.cells (ncl n).toArray 110)) w.heap.size n:=heap_new_at w _ _ rfl
  have HAT:=qh hat
  have hb0:Below w.heap.size w (w.alloc (.cells (ncl n).toArray 110)):=(Below.refl _ w).alloc (Nat.le_refl _) _
  have HB0:=qh hb0
  have hkid:∀ w' g,NodeAt w' g n->w'.cell? ⟨g,3,none⟩=some (.string ⟨(n.kids.getD 0 []).toArray⟩):=fun w' g h=>by
    have h1:=h.kid 0 (by omega)
    have h2:n.kids.getD 0 []=n.kids[0]'(by omega):=by
      rw [List.getD_eq_getElem?_getD,List.getElem?_eq_getElem (by omega)]
      rfl
    rw [h2]
    exact h1
  have HCE:Hid (∀ w',Below (w.alloc (.cells (ncl n).toArray 110)).heap.size (w.alloc (.cells (ncl n).toArray 110)) w'->w'.cell? ⟨w.heap.size,0,none⟩=some (.int .i64 n.kind)/\w'.cell? ⟨w.heap.size,1,none⟩=some (.string ⟨n.path.toArray⟩)/\w'.cell? ⟨w.heap.size,2,none⟩=some (.string ⟨n.val.toArray⟩)/\w'.cell? ⟨w.heap.size,3,none⟩=some (.string ⟨(n.kids.getD 0 []).toArray⟩)):=qh (fun w' h=>by
    have:=hat.below h
    exact ⟨this.kind,this.path,this.val,hkid w' _ this⟩)
  have HPK:=qh (fun leaf w=>rpack_good n.path leaf w (by omega) hf)
  have hpl:=Nib.packL_length n.path
  have HT:=qh (fun s (h:s.length<=100) w=>rText_any s w (by omega))
  have htl:=Code.textL_le n.val 32 hv (by omega)
  unfold ndval
  obtain ⟨C,hC⟩:∃ C,(ncl n).toArray=C:=⟨_,rfl⟩
  obtain ⟨Z,hZ⟩:∃ Z,n.kids.getD 0 []=Z:=⟨_,rfl⟩
  obtain ⟨T2,hT2⟩:∃ T,Code.textL n.val=T:=⟨_,rfl⟩
  rcases hk with hk | hk
  · have hpl1:(Nib.packL n.path true).length<=9:=by rw [hpl]; omega
    have htl1:=Code.textL_le _ 9 hpl1 (by omega)
    have HT1:=qh (fun w=>HT.out (Nib.packL n.path true) (by omega) w)
    have HT2:=qh (fun w=>HT.out n.val (by omega) w)
    have HPK1:=qh (fun w=>HPK.out true w)
    obtain ⟨P,hP⟩:∃ P,Nib.packL n.path true=P:=⟨_,rfl⟩
    obtain ⟨T1,hT1⟩:∃ T,Code.textL P=T:=⟨_,rfl⟩
    have hW:Nd.written n=[1] ++ T1 ++ T2:=by
      unfold Nd.written
      rw [hk,if_neg (by decide),if_pos rfl,← hT1,← hP,← hT2]
      simp
    have h1:=cat_mk [1] T1
    have h2:=cat_mk ([1] ++ T1) T2
    rw [hP] at HT1 HPK1 htl1
    rw [hT1] at HT1 htl1
    rw [hT2] at HT2 htl
    rw [hk] at HCE
    rw [hW]
    rw [hC] at HB0 HCE ⊢
    have hlX:([1] ++ T1:List UInt8).length<=30:=by simp; omega
    have hlW:([1] ++ T1 ++ T2:List UInt8).length<=100:=by simp; omega
    obtain ⟨X,hX⟩:∃ X,([1] ++ T1:List UInt8)=X:=⟨_,rfl⟩
    rw [hX] at h1 h2 hlX hlW ⊢
    obtain ⟨Y,hY⟩:∃ Y,X ++ T2=Y:=⟨_,rfl⟩
    rw [hY] at h2 hlW ⊢
    clear HAT hat hb0 hkid hpl hP hT1 hT2 hW hX hY hC hZ hf hp hv hk0 HPK HT hpl1
    obtain ⟨b0,-,-,-⟩:=HCE.out _ (Below.refl _ _)
    have hb1:Below (w.alloc (.cells C 110)).heap.size (w.alloc (.cells C 110)) ((w.alloc (.cells C 110)).alloc (.cells #[.int .u8 1] 5)):=(Below.refl _ _).alloc (Nat.le_refl _) _
    obtain ⟨c0,c1,c2,c3⟩:=HCE.out _ hb1
    have HB1:=qh hb1
    have HFI:Hid (∀ w',Below (w.alloc (.cells C 110)).heap.size (w.alloc (.cells C 110)) w'->Below w.heap.size w w'):=qh (fun w' h=>HB0.out.trans (h.mono (by simp)))
    clear hb1
    have kc:=conv_one' (w.alloc (.cells C 110)) 1 1 rfl (w.heap.size+1) (by simp)
    go_enter Tryz.func122,Tryz.ntmps122
    go_wp2_with fail
    refine (HPK1.out _).mono ?_
    rintro e w1 ⟨rfl,hb⟩
    have HB2:=qh (bchain HB1.out hb)
    clear hb b0 c0 c1 c2 c3
    go_wp2_with fail
    refine (HT1.out _).mono ?_
    rintro e w2 ⟨rfl,hb⟩
    have HB3:=qh (bchain HB2.out hb)
    clear hb
    obtain ⟨c0,c1,c2,c3⟩:=HCE.out _ HB3.out
    go_wp2_with fail
    refine (HT2.out _).mono ?_
    rintro e w3 ⟨rfl,hb⟩
    have HB4:=qh (bchain HB3.out hb)
    go_wp2
    go_ret
    exact ⟨rfl,HFI.out _ HB4.out⟩
  · have hpl1:(Nib.packL n.path false).length<=9:=by rw [hpl]; omega
    have htl1:=Code.textL_le _ 9 hpl1 (by omega)
    have HT1:=qh (fun w=>HT.out (Nib.packL n.path false) (by omega) w)
    have HPK1:=qh (fun w=>HPK.out false w)
    obtain ⟨P,hP⟩:∃ P,Nib.packL n.path false=P:=⟨_,rfl⟩
    obtain ⟨T1,hT1⟩:∃ T,Code.textL P=T:=⟨_,rfl⟩
    have hW:Nd.written n=[2] ++ T1 ++ Z:=by
      unfold Nd.written
      rw [hk,if_neg (by decide),if_neg (by decide),← hT1,← hP,hZ]
      simp
    have h1:=cat_mk [2] T1
    have h2:=cat_mk ([2] ++ T1) Z
    rw [hP] at HT1 HPK1 htl1
    rw [hT1] at HT1 htl1
    rw [hZ] at hk0 HCE
    rw [hk] at HCE
    rw [hW]
    rw [hC] at HB0 HCE ⊢
    have hlX:([2] ++ T1:List UInt8).length<=30:=by simp; omega
    have hlW:([2] ++ T1 ++ Z:List UInt8).length<=100:=by simp; omega
    obtain ⟨X,hX⟩:∃ X,([2] ++ T1:List UInt8)=X:=⟨_,rfl⟩
    rw [hX] at h1 h2 hlX hlW ⊢
    obtain ⟨Y,hY⟩:∃ Y,X ++ Z=Y:=⟨_,rfl⟩
    rw [hY] at h2 hlW ⊢
    clear HAT hat hb0 hkid hpl hP hT1 hT2 hW hX hY hC hZ hf hp hv HPK HT hpl1
    obtain ⟨b0,-,-,-⟩:=HCE.out _ (Below.refl _ _)
    have hb1:Below (w.alloc (.cells C 110)).heap.size (w.alloc (.cells C 110)) ((w.alloc (.cells C 110)).alloc (.cells #[.int .u8 2] 5)):=(Below.refl _ _).alloc (Nat.le_refl _) _
    obtain ⟨c0,c1,c2,c3⟩:=HCE.out _ hb1
    have HB1:=qh hb1
    have HFI:Hid (∀ w',Below (w.alloc (.cells C 110)).heap.size (w.alloc (.cells C 110)) w'->Below w.heap.size w w'):=qh (fun w' h=>HB0.out.trans (h.mono (by simp)))
    clear hb1
    have kc:=conv_one' (w.alloc (.cells C 110)) 2 2 rfl (w.heap.size+1) (by simp)
    go_enter Tryz.func122,Tryz.ntmps122
    go_wp2_with fail
    refine (HPK1.out _).mono ?_
    rintro e w1 ⟨rfl,hb⟩
    have HB2:=qh (bchain HB1.out hb)
    clear hb b0 c0 c1 c2 c3
    go_wp2_with fail
    refine (HT1.out _).mono ?_
    rintro e w2 ⟨rfl,hb⟩
    have HB3:=qh (bchain HB2.out hb)
    clear hb
    obtain ⟨c0,c1,c2,c3⟩:=HCE.out _ HB3.out
    go_wp2
    go_ret
    exact ⟨rfl,HFI.out _ HB3.out⟩
end
section
open Go.RowKit
theorem size_list (s:List UInt8):(⟨s.toArray⟩:ByteArray).size=s.length:=by simp [ByteArray.size]
theorem dclone_any (s:List UInt8) (w:World) (hl:s.length<=140737488351232):
    Calls Tryz.prog 46 #[.string ⟨s.toArray⟩] w fun e w'=>e=.returned (.string ⟨s.toArray⟩)/\Below w.heap.size w w':=by
  go_enter Tryz.func46,Tryz.ntmps46
  go_wp2_with fail
  refine (shelf_clone ⟨s.toArray⟩ w (by rw [size_list]; omega)).mono ?_
  rintro e w1 ⟨rfl,hb⟩
  go_wp2
  go_ret
  exact ⟨rfl,hb⟩
end
section
open Go.RowKit
open Go.Proofs.YtaficmboooaknaaGreatDoor.Nd (N)
theorem Nd.bits8_snoc (l:List (List UInt8)) (x:List UInt8):Nd.bits8 (l ++ [x])=Nd.bits8 l * 2+if x=[] then 0 else 1:=by
  unfold Nd.bits8
  rw [List.foldl_append]
  rfl
theorem Nd.flat_take (l:List (List UInt8)) (k:Nat) (hk:k < l.length):(l.take (k+1)).flatten=(l.take k).flatten ++ l[k]:=by
  rw [List.take_succ_eq_append_getElem hk,List.flatten_append]
  simp
theorem Nd.all32_flat' (l:List (List UInt8)) (h:Nd.all32 l=true) (k:Nat):(l.take k).flatten.length<=32 * l.length:=by
  induction l generalizing k with
  | nil=>simp
  | cons a l ih=>
    rw [Nd.all32_cons,Bool.and_eq_true] at h
    have h2:a.length<=32:=by
      have:=h.1
      simp only [Bool.or_eq_true,decide_eq_true_eq] at this
      rcases this with q | q
      · rw [q]; simp
      · omega
    cases k with
    | zero=>simp
    | succ k=>
      have h1:=ih h.2 k
      rw [List.take_succ_cons,List.flatten_cons,List.length_append,List.length_cons]
      omega
def Nd.hiK (l:List (List UInt8)) (k:Nat):Nat:=Nd.bits8 ((l.take 8).take k)
def Nd.loK (l:List (List UInt8)) (k:Nat):Nat:=Nd.bits8 ((l.drop 8).take (k - 8))
theorem Nd.hiK_lo (l:List (List UInt8)) (k:Nat) (x:List UInt8) (hx:l[k]?=some x) (h:k < 8) (hl:l.length=16):Nd.hiK l (k+1)=Nd.hiK l k * 2+(if x=[] then 0 else 1)/\Nd.loK l (k+1)=Nd.loK l k:=by
  obtain ⟨_,rfl⟩:=List.getElem?_eq_some_iff.1 hx
  unfold Nd.hiK Nd.loK
  constructor
  · have hk:k < (l.take 8).length:=by rw [List.length_take,hl]; omega
    rw [List.take_succ_eq_append_getElem hk,Nd.bits8_snoc,List.getElem_take]
  · rw [show k+1 - 8=0 by omega,show k - 8=0 by omega]
theorem Nd.hiK_hi (l:List (List UInt8)) (k:Nat) (x:List UInt8) (hx:l[k]?=some x) (h:8<=k) (h16:k < 16) (hl:l.length=16):Nd.hiK l (k+1)=Nd.hiK l k/\Nd.loK l (k+1)=Nd.loK l k * 2+(if x=[] then 0 else 1):=by
  obtain ⟨_,rfl⟩:=List.getElem?_eq_some_iff.1 hx
  unfold Nd.hiK Nd.loK
  constructor
  · rw [List.take_take,List.take_take,Nat.min_eq_right (by omega),Nat.min_eq_right (by omega)]
  · have hk:k - 8 < (l.drop 8).length:=by rw [List.length_drop,hl]; omega
    rw [show k+1 - 8=(k - 8)+1 by omega,List.take_succ_eq_append_getElem hk,Nd.bits8_snoc,List.getElem_drop]
    simp only [show 8+(k - 8)=k by omega]
theorem Nd.bits8_pow (l:List (List UInt8)):Nd.bits8 l < 2 ^ l.length:=by
  have key:∀ (l:List (List UInt8)) (s:Nat),l.foldl (fun a k=>a * 2+if k=[] then 0 else 1) s < (s+1) * 2 ^ l.length:=by
    intro l
    induction l with
    | nil=>intro s; simp
    | cons x l ih=>
      intro s
      rw [List.foldl_cons,List.length_cons,Nat.pow_succ]
      refine Nat.lt_of_lt_of_le (ih _) ?_
      rw [Nat.mul_comm (2 ^ l.length) 2,← Nat.mul_assoc]
      refine Nat.mul_le_mul_right _ ?_
      split <;> omega
  have:=key l 0
  rw [Nat.zero_add,Nat.one_mul] at this
  exact this
theorem Nd.hiK_lt (l:List (List UInt8)) (k:Nat):Nd.hiK l k < 256:=by
  unfold Nd.hiK
  refine Nat.lt_of_lt_of_le (Nd.bits8_pow _) ?_
  rw [show 256=2 ^ 8 from rfl]
  refine Nat.pow_le_pow_right (by decide) ?_
  rw [List.length_take,List.length_take]
  omega
theorem Nd.loK_lt (l:List (List UInt8)) (k:Nat) (hl:l.length=16):Nd.loK l k < 256:=by
  unfold Nd.loK
  refine Nat.lt_of_lt_of_le (Nd.bits8_pow _) ?_
  rw [show 256=2 ^ 8 from rfl]
  refine Nat.pow_le_pow_right (by decide) ?_
  rw [List.length_take,List.length_drop,hl]
  omega
theorem rWritten_branch (n:N) (w:World) (hk:n.kind=3) (hn:n.kids.length=16) (ha:Nd.all32 n.kids=true) (hv:n.val.length<=32):
    Calls Tryz.prog 122 #[ndval n] w fun e w'=>e=.returned (.string ⟨(Nd.written n).toArray⟩)/\Below w.heap.size w w':=by
  have hat:NodeAt (w.alloc (.cells (ncl n).toArray 110)) w.heap.size n:=heap_new_at w _ _ rfl
  have HB0:Hid (Below w.heap.size w (w.alloc (.cells (ncl n).toArray 110))):=qh ((Below.refl _ w).alloc (Nat.le_refl _) _)
  have HCE:Hid (∀ w',Below (w.alloc (.cells (ncl n).toArray 110)).heap.size (w.alloc (.cells (ncl n).toArray 110)) w'->w'.cell? ⟨w.heap.size,0,none⟩=some (.int .i64 3)/\w'.cell? ⟨w.heap.size,2,none⟩=some (.string ⟨n.val.toArray⟩)/\∀ (k:Nat) (hk:k < 16),w'.cell? ⟨w.heap.size,3+k,none⟩=some (.string ⟨(n.kids[k]'(by omega)).toArray⟩)):=qh (fun w' h=>by
    have:=hat.below h
    exact ⟨hk ▸ this.kind,this.val,fun k hk=>this.kid k (by omega)⟩)
  have HT:=qh (fun w=>rText_any n.val w (by omega))
  have htl:=Code.textL_le n.val 32 hv (by omega)
  have hW:Nd.written n=([3] ++ Nd.takenL n.kids ++ n.kids.flatten) ++ Code.textL n.val:=by
    unfold Nd.written Nd.branchL
    rw [hk]
    simp [Nd.takenL]
  rw [hW]
  have HFL:=qh (Nd.all32_flat' n.kids ha)
  have HN:=qh hn
  unfold ndval
  obtain ⟨C,hC⟩:∃ C,(ncl n).toArray=C:=⟨_,rfl⟩
  obtain ⟨T2,hT2⟩:∃ T,Code.textL n.val=T:=⟨_,rfl⟩
  rw [hT2] at HT htl ⊢
  obtain ⟨Y,hY⟩:∃ Y,([3] ++ Nd.takenL n.kids ++ n.kids.flatten) ++ T2=Y:=⟨_,rfl⟩
  have HY:=qh hY
  rw [hY]
  rw [hC] at HB0 HCE ⊢
  clear hC hT2 hat hW ha hk hY
  obtain ⟨b0,-,-⟩:=HCE.out _ (Below.refl _ _)
  have hb1:Below (w.alloc (.cells C 110)).heap.size (w.alloc (.cells C 110)) ((w.alloc (.cells C 110)).alloc (.cells #[.int .u8 3] 5)):=(Below.refl _ _).alloc (Nat.le_refl _) _
  obtain ⟨c0,-,-⟩:=HCE.out _ hb1
  have HB1:=qh hb1
  have HFI:Hid (∀ w',Below (w.alloc (.cells C 110)).heap.size (w.alloc (.cells C 110)) w'->Below w.heap.size w w'):=qh (fun w' h=>HB0.out.trans (h.mono (by simp)))
  clear hb1
  have kc:=conv_one' (w.alloc (.cells C 110)) 3 3 rfl (w.heap.size+1) (by simp)
  go_enter Tryz.func122,Tryz.ntmps122
  go_wp2_with fail
  clear b0 c0 kc
  have HSW:Hid (w.heap.size < (w.alloc (.cells C 110)).heap.size):=qh (by simp)
  generalize (w.alloc (.cells C 110))=w0 at *
  generalize (w0.alloc (.cells #[.int .u8 3] 5))=w1 at *
  go_loopw [4,5,6,7] (fun hi lo all i wr=>∃ k h l:Nat,k<=16/\i=.int .i64 k/\hi=.int .i64 h/\lo=.int .i64 l/\h=Nd.hiK n.kids k/\l=Nd.loK n.kids k/\all=.string ⟨(n.kids.take k).flatten.toArray⟩/\wr=w1) (fun _ _ _ i _=>16 - (intOf i).toNat)
  case atStart=>exact ⟨0,0,0,Nat.zero_le _,rfl,rfl,rfl,rfl,rfl,rfl,rfl⟩
  case round=>
    obtain ⟨k,h,l,hk,rfl,rfl,rfl,hh,hl,rfl,rfl⟩:=hrel
    have hh1:(h:Int) < 256:=by have:=Nd.hiK_lt n.kids k; omega
    have hl1:(l:Int) < 256:=by have:=Nd.loK_lt n.kids k hn; omega
    have HH:=qh hh
    have HL:=qh hl
    clear hh hl
    obtain ⟨c0,c1,cK⟩:=HCE.out _ HB1.out
    have HCK:=qh cK
    clear cK
    have hf1:=HFL.out k
    rw [hn] at hf1
    by_cases hlt:k < 16
    · have h1:(k:Int) < 16:=by omega
      have h0:(0:Int)<=(k:Int):=by omega
      have n0:=HCK.out k hlt
      have hfs:=Nd.flat_take n.kids k (by omega)
      have hf2:=HFL.out (k+1)
      rw [hn,hfs,List.length_append] at hf2
      have HFS:=qh hfs
      obtain ⟨x,hx⟩:∃ x,n.kids[k]'(by omega)=x:=⟨_,rfl⟩
      have hxk:n.kids[k]?=some x:=by rw [List.getElem?_eq_getElem (by omega),hx]
      have HS1:=qh (fun h=>Nd.hiK_lo n.kids k x hxk h hn)
      have HS2:=qh (fun h=>Nd.hiK_hi n.kids k x hxk h hlt hn)
      rw [hx] at n0 hf2 HFS
      obtain ⟨F,hF⟩:∃ F,(n.kids.take k).flatten=F:=⟨_,rfl⟩
      rw [hF] at hf1 hf2 HFS ⊢
      have hcat:=cat_mk F x
      clear hx hF hfs hxk
      by_cases h8:k < 8
      · have h81:(k:Int) < 8:=by omega
        obtain ⟨s1,s2⟩:=HS1.out h8
        rw [← HH.out] at s1
        rw [← HL.out] at s2
        by_cases he:x=[]
        · subst he
          rw [if_pos rfl] at s1
          have HA:=qh s1
          have HB:=qh s2
          clear s1 s2 h8
          go_wp2
          exact ⟨⟨k+1,h * 2,l,by omega,by go_num,by go_num,by go_num,HA.out.symm,HB.out.symm,by rw [HFS.out,List.append_nil],trivial⟩,by simp [intOf]; omega⟩
        · have he1:(x == [])=false:=by rw [beq_eq_false_iff_ne]; exact he
          rw [if_neg he] at s1
          have HA:=qh s1
          have HB:=qh s2
          clear s1 s2 h8
          go_wp2
          exact ⟨⟨k+1,h * 2+1,l,by omega,by go_num,by go_num,by go_num,HA.out.symm,HB.out.symm,by rw [HFS.out],trivial⟩,by simp [intOf]; omega⟩
      · have h81:¬ ((k:Int) < 8):=by omega
        obtain ⟨s1,s2⟩:=HS2.out (by omega)
        rw [← HH.out] at s1
        rw [← HL.out] at s2
        by_cases he:x=[]
        · subst he
          rw [if_pos rfl] at s2
          have HA:=qh s1
          have HB:=qh s2
          clear s1 s2 h8
          go_wp2
          exact ⟨⟨k+1,h,l * 2,by omega,by go_num,by go_num,by go_num,HA.out.symm,HB.out.symm,by rw [HFS.out,List.append_nil],trivial⟩,by simp [intOf]; omega⟩
        · have he1:(x == [])=false:=by rw [beq_eq_false_iff_ne]; exact he
          rw [if_neg he] at s2
          have HA:=qh s1
          have HB:=qh s2
          clear s1 s2 h8
          go_wp2
          exact ⟨⟨k+1,h,l * 2+1,by omega,by go_num,by go_num,by go_num,HA.out.symm,HB.out.symm,by rw [HFS.out],trivial⟩,by simp [intOf]; omega⟩
    · have h1:¬ ((k:Int) < 16):=by omega
      obtain rfl:k=16:=by omega
      have e16:n.kids.take 16=n.kids:=List.take_of_length_le (by omega)
      have hhb:h=Nd.bits8 (n.kids.take 8):=by
        rw [HH.out,Nd.hiK,List.take_take]
        rfl
      have hlb:l=Nd.bits8 (n.kids.drop 8):=by
        rw [HL.out,Nd.loK,List.take_of_length_le (by rw [List.length_drop,hn]; omega)]
      rw [e16] at hf1 ⊢
      have hY:=HY.out
      rw [show Nd.takenL n.kids=[Nd.byteN h,Nd.byteN l] by unfold Nd.takenL; rw [← hhb,← hlb]] at hY
      have hxb:(h:Int)=((Nd.byteN h).toNat:Int):=by rw [Nd.byteN,Code.ofNat_toNat _ (by omega)]
      have hyb:(l:Int)=((Nd.byteN l).toNat:Int):=by rw [Nd.byteN,Code.ofNat_toNat _ (by omega)]
      obtain ⟨J,hJ⟩:∃ J,n.kids.flatten=J:=⟨_,rfl⟩
      rw [hJ] at hf1 hY ⊢
      have a1:=cat_mk [3] [Nd.byteN h,Nd.byteN l]
      have l1:([3] ++ [Nd.byteN h,Nd.byteN l]:List UInt8).length=3:=rfl
      obtain ⟨X1,hX1⟩:∃ X,([3] ++ [Nd.byteN h,Nd.byteN l]:List UInt8)=X:=⟨_,rfl⟩
      rw [hX1] at a1 l1 hY
      have a2:=cat_mk X1 J
      have l2:(X1 ++ J).length<=515:=by rw [List.length_append]; omega
      obtain ⟨X2,hX2⟩:∃ X,X1 ++ J=X:=⟨_,rfl⟩
      rw [hX2] at a2 l2 hY
      have a3:=cat_mk X2 T2
      rw [hY] at a3
      have l3:Y.length<=556:=by rw [← hY,List.length_append]; omega
      have HA:Hid (∀ w',Below (wr.alloc (.cells #[.int .u8 h,.int .u8 l] 5)).drew.heap.size (wr.alloc (.cells #[.int .u8 h,.int .u8 l] 5)).drew w'->(convert 126 9 (.slice (some ⟨wr.heap.size,0,none⟩) 2 2)).run Tryz.prog w'=.ok (.string ⟨[Nd.byteN h,Nd.byteN l].toArray⟩) w'):=qh (fun w' hb=>conv_own (row_out (G:=fun _=>False) (ownsTwo wr.drew wr.drew.heap.size (Nat.le_refl _) (Nd.byteN h) (Nd.byteN l) h l hxb hyb) (Out.of hb) (fun _ _ _ _ hf=>hf.elim)))
      have HC2:Hid (∀ w':World,(convert 126 9 (.slice (some ⟨w'.heap.size,0,none⟩) 2 2)).run Tryz.prog (w'.alloc (.cells #[.int .u8 h,.int .u8 l] 5))=.ok (.string ⟨[Nd.byteN h,Nd.byteN l].toArray⟩) (w'.alloc (.cells #[.int .u8 h,.int .u8 l] 5))):=qh (fun w'=>conv_two' w' (Nd.byteN h) (Nd.byteN l) h l hxb hyb)
      clear hxb hyb hhb hlb hJ hX1 hX2 hY e16
      have BD:Below w0.heap.size w0 wr.drew:=HB1.out.drew
      have BA:Below w0.heap.size w0 (wr.alloc (.cells #[.int .u8 h,.int .u8 l] 5)).drew:=BD.alloc BD.size _
      have wh:IntKind.u8.wrap (h:Int)=(h:Int):=IntWalk.u8_in _ (by omega)
      have wl:IntKind.u8.wrap (l:Int)=(l:Int):=IntWalk.u8_in _ (by omega)
      have HTT:Hid (∀ w',Below w0.heap.size w0 w'->Calls Tryz.prog 153 #[.string ⟨n.val.toArray⟩] w' fun e w''=>e=.returned (.string ⟨T2.toArray⟩)/\Below w0.heap.size w0 w''/\Below w'.heap.size w' w''):=qh (fun w' h=>(HT.out w').mono fun e w'' q=>⟨q.1,h.trans (q.2.mono h.size),q.2⟩)
      have kd:(convert 126 9 (.slice (some ⟨wr.heap.size,0,none⟩) 2 2)).run Tryz.prog (wr.alloc (.cells #[.int .u8 h,.int .u8 l] 5)).drew=.ok (.string ⟨[Nd.byteN h,Nd.byteN l].toArray⟩) (wr.alloc (.cells #[.int .u8 h,.int .u8 l] 5)).drew:=HC2.out wr.drew
      have c2:=(HCE.out _ BD).2.1
      have c3:=(HCE.out _ BA).2.1
      go_wp2
      go_region_with (go_at_call 153; refine (HTT.out _ (by with_reducible assumption)).mono ?_; rintro e w2 ⟨rfl,hb2,hq2⟩; have ce:=(HCE.out _ hb2).2.1; have kf:=HC2.out w2; (try (have kg:=HA.out _ hq2)))
      all_goals
        go_wp2
        go_ret
        first | exact ⟨rfl,HFI.out _ hb2⟩ | exact ⟨rfl,HFI.out _ (hb2.alloc hb2.size _)⟩
theorem rWritten_any (n:N) (w:World) (hn:n.kids.length=16) (hf:Nd.fine n=true):
    Calls Tryz.prog 122 #[ndval n] w fun e w'=>e=.returned (.string ⟨(Nd.written n).toArray⟩)/\Below w.heap.size w w':=by
  simp only [Nd.fine,Bool.and_eq_true,decide_eq_true_eq] at hf
  obtain ⟨a,b,c,d,e⟩:=hf
  have hz:(n.kids.getD 0 []).length<=32:=by
    have:=List.all_eq_true.1 a (n.kids[0]'(by omega)) (List.getElem_mem _)
    rw [List.getD_eq_getElem?_getD,List.getElem?_eq_getElem (by omega)]
    simp only [Bool.or_eq_true,decide_eq_true_eq] at this
    show (n.kids[0]'(by omega)).length<=32
    rcases this with q | q
    · rw [q]; simp
    · omega
  by_cases k1:n.kind=1
  · exact rWritten_flat n w (Or.inl k1) hn b c d hz
  by_cases k2:n.kind=2
  · exact rWritten_flat n w (Or.inr k2) hn b c d hz
  by_cases k3:n.kind=3
  · exact rWritten_branch n w k3 hn a d
  rw [if_neg k1,if_neg k2,if_neg k3] at e
  cases e
end
section
open Go.RowKit
open Go.Proofs.YtaficmboooaknaaGreatDoor.Nd (N)
theorem Nd.all32_kids (l:List (List UInt8)):Nd.all32 l=(Nd.kidsL l).all fun k=>decide (k.length=32):=by
  unfold Nd.all32 Nd.kidsL
  induction l with
  | nil=>rfl
  | cons a l ih=>
    by_cases h:a=[]
    · subst h
      simp only [List.all_cons,List.filter_cons]
      rw [ih]
      simp
    · simp only [List.all_cons,List.filter_cons]
      rw [ih]
      simp [h]
def Nd.kindB (n:N):Bool:=
  if n.kind=1 then decide ((Nd.kidsL n.kids).length=0) && decide (n.val ≠ [])
  else if n.kind=2 then decide ((Nd.kidsL n.kids).length=1) && (decide (n.kids.getD 0 [] ≠ []) && (decide (1<=n.path.length) && decide (n.val=[])))
  else if n.kind=3 then decide (n.path.length=0) && (decide (2<=(Nd.kidsL n.kids).length) || (decide ((Nd.kidsL n.kids).length=1) && decide (n.val ≠ [])))
  else false
theorem Nd.fine_eq (n:N):Nd.fine n=(Nd.all32 n.kids && (Nib.fitL n.path && (decide (n.path.length<=16) && (decide (n.val.length<=32) && Nd.kindB n)))):=rfl
theorem rFine_any (n:N) (w:World) (hn:n.kids.length=16) (hp:n.path.length<=1000000):
    Calls Tryz.prog 121 #[ndval n] w fun e w'=>e=.returned (.bool (Nd.fine n))/\Below w.heap.size w w':=by
  rw [Nd.fine_eq,Nd.all32_kids]
  have HKI:=qh (fun w=>rKids_any n w hn)
  unfold KidsPost at HKI
  unfold ndval at HKI ⊢
  have hat:NodeAt (w.alloc (.cells (ncl n).toArray 110)) w.heap.size n:=heap_new_at w _ _ rfl
  have HAT:=qh hat
  have hb0:Below w.heap.size w (w.alloc (.cells (ncl n).toArray 110)):=(Below.refl _ w).alloc (Nat.le_refl _) _
  have HB0:=qh hb0
  have hcs:(ncl n).toArray.size=19:=by rw [List.size_toArray,ncl_length n hn]
  have hk0:∀ w' g,NodeAt w' g n->w'.cell? ⟨g,3,none⟩=some (.string ⟨(n.kids.getD 0 []).toArray⟩):=fun w' g h=>by
    have h1:=h.kid 0 (by omega)
    have h2:n.kids.getD 0 []=n.kids[0]'(by omega):=by
      rw [List.getD_eq_getElem?_getD,List.getElem?_eq_getElem (by omega)]
      rfl
    rw [h2]
    exact h1
  have HI:Hid ((Tryz.prog.info? 110).map (·.size)=some (ncl n).toArray.size):=qh (by rw [hcs]; kernel_rfl)
  have HFI:=qh (fun w=>rfit_any n.path w hp)
  have hln:(Nd.kidsL n.kids).length<=16:=by
    unfold Nd.kidsL
    exact Nat.le_trans (List.length_filter_le _ _) (by omega)
  obtain ⟨KB,hKB⟩:∃ b,Nd.kindB n=b:=⟨_,rfl⟩
  have HKB:=qh hKB
  rw [hKB]
  unfold Nd.kindB at HKB
  have hKND:=hat.kind
  obtain ⟨C,hC⟩:∃ C,(ncl n).toArray=C:=⟨_,rfl⟩
  obtain ⟨F,hF⟩:∃ F,Nib.fitL n.path=F:=⟨_,rfl⟩
  obtain ⟨⟨kd,pa,va,ks⟩,hnn⟩:∃ m,n=m:=⟨_,rfl⟩
  have HK0:=qh hk0
  have HCE:Hid (∀ w',NodeAt w' w.heap.size n->w'.cell? ⟨w.heap.size,0,none⟩=some (.int .i64 n.kind)/\w'.cell? ⟨w.heap.size,1,none⟩=some (.string ⟨n.path.toArray⟩)/\w'.cell? ⟨w.heap.size,2,none⟩=some (.string ⟨n.val.toArray⟩)/\w'.cell? ⟨w.heap.size,3,none⟩=some (.string ⟨(n.kids.getD 0 []).toArray⟩)):=qh (fun w' h=>⟨h.kind,h.path,h.val,hk0 w' _ h⟩)
  have HRO:Hid (NodeAt (w.alloc (.cells C 110)) w.heap.size n):=qh (by rw [← hC]; exact hat)
  obtain ⟨K,hK⟩:∃ K,Nd.kidsL n.kids=K:=⟨_,rfl⟩
  obtain ⟨z0,hz00⟩:∃ x,n.kids.getD 0 []=x:=⟨_,rfl⟩
  rw [hz00] at HKB HCE
  rw [hC] at HB0 HI HKI ⊢
  rw [hF] at HFI ⊢
  rw [hK] at HKI HKB hln ⊢
  have HHR:Hid ((w.alloc (.cells C 110)).heap[w.heap.size]?=some (.cells C 110 (0,0))):=qh (heap_new_at w _ _ rfl)
  have HRO1:Hid (∀ w1,Below w.heap.size (w.alloc (.cells C 110)) w1->True):=qh (fun _ _=>trivial)
  obtain ⟨R,hR⟩:∃ R,((K.all fun k=>decide (k.length=32)) && (F && (decide (n.path.length<=16) && (decide (n.val.length<=32) && KB))))=R:=⟨_,rfl⟩
  have HR:=qh hR
  rw [hR]
  have HLK:=qh hln
  clear HAT hat hb0 hcs hk0 HK0 hz00 hKB hC hF hKND hK hnn kd pa va ks hR hln HRO1
  go_enter Tryz.func121,Tryz.ntmps121
  go_wp2_with (refine wpList_load_row (by rfl) _ _ (by rfl) w.heap.size (by rfl) _ C _ _ HHR.out Tryz.underlying110 (by rfl) HI.out ?_)
  refine (HKI.out _).mono ?_
  rintro e w1 ⟨z,rfl,hown,hb⟩
  have HB1:=qh (HB0.out.trans (hb.mono HB0.out.size))
  have HN1:=qh (HRO.out.below hb)
  have HOW:=qh hown
  obtain ⟨A,cap,rfl⟩:=own_form hown
  obtain ⟨c0,c1,c2,c3⟩:=HCE.out _ HN1.out
  clear hown hb
  go_wp2
  go_loopw [4] (fun i wr=>∃ k:Nat,k<=K.length/\i=.int .i64 k/\Hid (∀ s ∈ K.take k,s.length=32)/\wr=w1) (fun i _=>K.length - (intOf i).toNat)
  case atStart=>exact ⟨0,Nat.zero_le _,rfl,qh (fun s hs=>by simp at hs),rfl⟩
  case round=>
    obtain ⟨k,hk,rfl,HK,rfl⟩:=hrel
    by_cases hlt:k < K.length
    · have h1:(k:Int) < (K.length:Int):=by omega
      have h0:(0:Int)<=(k:Int):=by omega
      have h2:(k:Int)<=16:=by have:=HLK.out; omega
      obtain ⟨q,rfl,n0⟩:=HOW.out.strs_at (Below.refl _ _) k hlt
      have HMEM:=qh (List.getElem_mem hlt)
      have HTK:=qh (List.take_succ_eq_append_getElem hlt)
      obtain ⟨x,hx⟩:∃ x,K[k]=x:=⟨_,rfl⟩
      rw [hx] at n0 HMEM HTK
      clear hx
      by_cases h32:x.length=32
      · have h32':(x.length:Int)=32:=by omega
        have HK':Hid (∀ s ∈ K.take (k+1),s.length=32):=qh (fun s hs=>by
          rw [HTK.out] at hs
          rcases List.mem_append.1 hs with hs | hs
          · exact HK.out s hs
          · obtain rfl:s=x:=by simpa using hs
            exact h32)
        clear h32
        go_wp2
        exact ⟨⟨k+1,by omega,by go_num,HK',trivial⟩,by simp [intOf]; omega⟩
      · have h32':¬ ((x.length:Int)=32):=by omega
        obtain rfl:R=false:=by
          rw [← HR.out,Bool.and_eq_false_iff]
          exact Or.inl (List.all_eq_false.2 ⟨x,HMEM.out,by simpa using h32⟩)
        clear h32
        go_wp2
        go_ret
        exact ⟨rfl,HB1.out⟩
    · have h1:¬ ((k:Int) < (K.length:Int)):=by omega
      obtain rfl:k=K.length:=by omega
      have hall:(K.all fun k=>decide (k.length=32))=true:=List.all_eq_true.2 fun s hs=>by
        have:=HK.out
        rw [List.take_length] at this
        simpa using this s hs
      rw [hall,Bool.true_and] at HR
      clear hall hlt hk HK
      cases F with
      | false=>
        obtain rfl:R=false:=HR.out.symm
        go_wp2_with fail
        refine (HFI.out _).mono ?_
        rintro e w2 ⟨rfl,rfl⟩
        go_wp2
        go_ret
        exact ⟨rfl,HB1.out⟩
      | true=>
        rw [Bool.true_and] at HR
        by_cases hp16:n.path.length<=16
        case neg=>
          have hp':(16:Int) < (n.path.length:Int):=by omega
          obtain rfl:R=false:=by rw [← HR.out,decide_eq_false hp16]; rfl
          clear hp16
          go_wp2_with fail
          refine (HFI.out _).mono ?_
          rintro e w2 ⟨rfl,rfl⟩
          go_wp2
          go_ret
          exact ⟨rfl,HB1.out⟩
        have hp':¬ ((16:Int) < (n.path.length:Int)):=by omega
        rw [decide_eq_true hp16,Bool.true_and] at HR
        by_cases hv32:n.val.length<=32
        case neg=>
          have hv':(32:Int) < (n.val.length:Int):=by omega
          obtain rfl:R=false:=by rw [← HR.out,decide_eq_false hv32]; rfl
          clear hv32 hp16
          go_wp2_with fail
          refine (HFI.out _).mono ?_
          rintro e w2 ⟨rfl,rfl⟩
          go_wp2
          go_ret
          exact ⟨rfl,HB1.out⟩
        have hv':¬ ((32:Int) < (n.val.length:Int)):=by omega
        rw [decide_eq_true hv32,Bool.true_and] at HR
        obtain rfl:KB=R:=HR.out
        clear hv32 hp16 HR
        go_wp2_with fail
        refine (HFI.out _).mono ?_
        rintro e w2 ⟨rfl,rfl⟩
        have hkb:=HKB.out
        by_cases k1:n.kind=1
        · rw [if_pos k1] at hkb
          rw [k1] at c0
          by_cases a1:K=[]
          · subst a1
            by_cases a2:n.val=[]
            · rw [a2] at c2
              obtain rfl:KB=false:=by rw [← hkb]; simp [a2]
              clear hkb
              go_wp2
              go_ret
              exact ⟨rfl,HB1.out⟩
            · have b2:(n.val == [])=false:=by rw [beq_eq_false_iff_ne]; exact a2
              obtain rfl:KB=true:=by rw [← hkb]; simp [a2]
              clear hkb
              go_wp2
              go_ret
              exact ⟨rfl,HB1.out⟩
          · have a3:¬ (K.length=0):=fun h=>a1 (List.eq_nil_of_length_eq_zero h)
            have b1:((K.length:Int) == 0)=false:=by rw [beq_eq_false_iff_ne]; omega
            have b3:¬ ((K.length:Int)=0):=by omega
            obtain rfl:KB=false:=by rw [← hkb]; simp [a1]
            clear hkb
            go_wp2
            go_ret
            exact ⟨rfl,HB1.out⟩
        rw [if_neg k1] at hkb
        have e1:(n.kind == 1)=false:=by rw [beq_eq_false_iff_ne]; exact k1
        by_cases k2:n.kind=2
        · rw [if_pos k2] at hkb
          rw [k2] at c0
          by_cases a1:K.length=1
          · have b1:(K.length:Int)=1:=by omega
            by_cases a2:z0=[]
            · rw [a2] at c3
              obtain rfl:KB=false:=by rw [← hkb]; simp [a2,a1]
              clear hkb
              go_wp2
              go_ret
              exact ⟨rfl,HB1.out⟩
            · have b2:(z0 == [])=false:=by rw [beq_eq_false_iff_ne]; exact a2
              by_cases a4:1<=n.path.length
              · have b4:(1:Int)<=(n.path.length:Int):=by omega
                by_cases a5:n.val=[]
                · rw [a5] at c2
                  obtain rfl:KB=true:=by rw [← hkb]; simp [a1,a2,a4,a5]
                  clear hkb
                  go_wp2
                  go_ret
                  exact ⟨rfl,HB1.out⟩
                · have b5:(n.val == [])=false:=by rw [beq_eq_false_iff_ne]; exact a5
                  obtain rfl:KB=false:=by rw [← hkb]; simp [a5]
                  clear hkb
                  go_wp2
                  go_ret
                  exact ⟨rfl,HB1.out⟩
              · have b4:¬ ((1:Int)<=(n.path.length:Int)):=by omega
                have a6:n.path.length=0:=by omega
                obtain rfl:KB=false:=by rw [← hkb]; simp [a6]
                clear hkb
                go_wp2
                go_ret
                exact ⟨rfl,HB1.out⟩
          · have b1:¬ ((K.length:Int)=1):=by omega
            have b3:((K.length:Int) == 1)=false:=by rw [beq_eq_false_iff_ne]; exact b1
            obtain rfl:KB=false:=by rw [← hkb]; simp [a1]
            clear hkb
            go_wp2
            go_ret
            exact ⟨rfl,HB1.out⟩
        rw [if_neg k2] at hkb
        have e2:(n.kind == 2)=false:=by rw [beq_eq_false_iff_ne]; exact k2
        by_cases k3:n.kind=3
        · rw [if_pos k3] at hkb
          rw [k3] at c0
          by_cases a1:n.path.length=0
          · have b0:(n.path.length:Int)=0:=by omega
            by_cases a2:2<=K.length
            · have b2:(2:Int)<=(K.length:Int):=by omega
              obtain rfl:KB=true:=by rw [← hkb]; simp [a1,a2]
              clear hkb
              go_wp2
              go_ret
              exact ⟨rfl,HB1.out⟩
            · have b2:¬ ((2:Int)<=(K.length:Int)):=by omega
              by_cases a3:K.length=1
              · have b3:(K.length:Int)=1:=by omega
                by_cases a5:n.val=[]
                · rw [a5] at c2
                  obtain rfl:KB=false:=by rw [← hkb]; simp [a5,a2]
                  clear hkb
                  go_wp2
                  go_ret
                  exact ⟨rfl,HB1.out⟩
                · have b5:(n.val == [])=false:=by rw [beq_eq_false_iff_ne]; exact a5
                  obtain rfl:KB=true:=by rw [← hkb]; simp [a1,a3,a5]
                  clear hkb
                  go_wp2
                  go_ret
                  exact ⟨rfl,HB1.out⟩
              · have b3:¬ ((K.length:Int)=1):=by omega
                have b4:((K.length:Int) == 1)=false:=by rw [beq_eq_false_iff_ne]; exact b3
                obtain rfl:KB=false:=by rw [← hkb]; simp [a2,a3]
                clear hkb
                go_wp2
                go_ret
                exact ⟨by simp [b2],HB1.out⟩
          · have b0:¬ ((n.path.length:Int)=0):=by omega
            have b3:((n.path.length:Int) == 0)=false:=by rw [beq_eq_false_iff_ne]; exact b0
            obtain rfl:KB=false:=by rw [← hkb]; simp [a1]
            clear hkb
            go_wp2
            go_ret
            exact ⟨rfl,HB1.out⟩
        rw [if_neg k3] at hkb
        have e3:(n.kind == 3)=false:=by rw [beq_eq_false_iff_ne]; exact k3
        obtain rfl:KB=false:=hkb.symm
        go_wp2
        go_ret
        exact ⟨rfl,HB1.out⟩
end
namespace Dig
structure N where
  tag:Int
  text:List UInt8
  dig:List UInt8
theorem N.ext' {a b:N} (h1:a.tag=b.tag) (h2:a.text=b.text) (h3:a.dig=b.dig):a=b:=by
  cases a; cases b; simp_all
instance:DecidableEq N:=fun a b=>
  if h:a.tag=b.tag/\a.text=b.text/\a.dig=b.dig then isTrue (N.ext' h.1 h.2.1 h.2.2) else isFalse (fun e=>h (by subst e; exact ⟨rfl,rfl,rfl⟩))
def zero:N:=⟨0,[],[]⟩
def isTag (t:Int):Bool:=decide (1<=t) && decide (t<=255)
def taken (L:List N) (n:N):Prop:=isTag n.tag=true/\n.dig.length=32/\n ∉ L/\L.length < 1024
instance (L:List N) (n:N):Decidable (taken L n):=by unfold taken; exact inferInstance
def find (L:List N) (d:List UInt8):Option N:=L.find? (fun n=>decide (n.dig=d))
end Dig
namespace Sha
open Go
def rotI (x n:Int):Int:=bits .or .u32 (x * 2 ^ (32 - n).toNat % 4294967296) (x / 2 ^ n.toNat)
def kTab:List Int:=[1116352408,1899447441,3049323471,3921009573,961987163,1508970993,2453635748,2870763221,3624381080,310598401,607225278,1426881987,1925078388,2162078206,2614888103,3248222580,3835390401,4022224774,264347078,604807628,770255983,1249150122,1555081692,1996064986,2554220882,2821834349,2952996808,3210313671,3336571891,3584528711,113926993,338241895,666307205,773529912,1294757372,1396182291,1695183700,1986661051,2177026350,2456956037,2730485921,2820302411,3259730800,3345764771,3516065817,3600352804,4094571909,275423344,430227734,506948616,659060556,883997877,958139571,1322822218,1537002063,1747873779,1955562222,2024104815,2227730452,2361852424,2428436474,2756734187,3204031479,3329325298]
structure St where
  a:Int
  b:Int
  c:Int
  d:Int
  e:Int
  f:Int
  g:Int
  h:Int
def notI (x:Int):Int:=bits .xor .u32 IntKind.u32.max x
def uP (s:St) (k w:Int):Int:=
  (s.h+bits .xor .u32 (bits .xor .u32 (rotI s.e 6) (rotI s.e 11)) (rotI s.e 25)+bits .xor .u32 (bits .and .u32 s.e s.f) (bits .and .u32 (notI s.e) s.g)+k+w) % 4294967296
def vP (s:St):Int:=
  (bits .xor .u32 (bits .xor .u32 (rotI s.a 2) (rotI s.a 13)) (rotI s.a 22)+bits .xor .u32 (bits .xor .u32 (bits .and .u32 s.a s.b) (bits .and .u32 s.a s.c)) (bits .and .u32 s.b s.c)) % 4294967296
def step (s:St) (k w:Int):St:=⟨(uP s k w+vP s) % 4294967296,s.a,s.b,s.c,(s.d+uP s k w) % 4294967296,s.e,s.f,s.g⟩
def rounds (s:St) (W:List Int):Nat->St
  | 0=>s
  | i+1=>step (rounds s W i) (kTab.getD i 0) (W.getD i 0)
def St.list (s:St):List Int:=[s.a,s.b,s.c,s.d,s.e,s.f,s.g,s.h]
def turnP (s:St) (W:List Int):St:=rounds s W 64
def word4 (a b c d:UInt8):Int:=bits .or .u32 (bits .or .u32 (bits .or .u32 ((a.toNat:Int) * 16777216) ((b.toNat:Int) * 65536)) ((c.toNat:Int) * 256)) (d.toNat:Int)
def fill (b:List UInt8):Nat->List Int
  | 0=>List.replicate 64 0
  | k+1=>(fill b k).set k (word4 (b.getD (4 * k) 0) (b.getD (4 * k+1) 0) (b.getD (4 * k+2) 0) (b.getD (4 * k+3) 0))
def sP (x:Int):Int:=bits .xor .u32 (bits .xor .u32 (rotI x 7) (rotI x 18)) (x / 8)
def tP (y:Int):Int:=bits .xor .u32 (bits .xor .u32 (rotI y 17) (rotI y 19)) (y / 1024)
def more (L:List Int) (n:Nat):Int:=(L.getD (n - 16) 0+sP (L.getD (n - 15) 0)+L.getD (n - 7) 0+tP (L.getD (n - 2) 0)) % 4294967296
def ext (L:List Int):Nat->List Int
  | 0=>L
  | k+1=>(ext L k).set (16+k) (more (ext L k) (16+k))
def widenP (b:List UInt8):List Int:=ext (fill b 16) 48
def addTo (H T:List Int):Nat->List Int
  | 0=>H
  | k+1=>(addTo H T k).set k (((addTo H T k).getD k 0+T.getD k 0) % 4294967296)
def addP (s t:St):St:=⟨(s.a+t.a) % 4294967296,(s.b+t.b) % 4294967296,(s.c+t.c) % 4294967296,(s.d+t.d) % 4294967296,(s.e+t.e) % 4294967296,(s.f+t.f) % 4294967296,(s.g+t.g) % 4294967296,(s.h+t.h) % 4294967296⟩
def blockP (s:St) (b:List UInt8):St:=addP s (turnP s (widenP b))
theorem addTo_length (H T:List Int) (k:Nat):(addTo H T k).length=H.length:=by
  induction k with
  | zero=>rfl
  | succ k ih=>simp [addTo,ih]
def first:St:=⟨1779033703,3144134277,1013904242,2773480762,1359893119,2600822924,528734635,1541459225⟩
def byteOf (z:Int):UInt8:=UInt8.ofNat (z % 256).toNat
theorem byteOf_toNat (z:Int):((byteOf z).toNat:Int)=z % 256:=by
  have h0:=Int.emod_nonneg z (show (256:Int) ≠ 0 by decide)
  have h1:=Int.emod_lt_of_pos z (show (0:Int) < 256 by decide)
  simp only [byteOf,UInt8.toNat_ofNat']
  omega
def joinFill (L:List Int):Nat->List UInt8
  | 0=>List.replicate 32 0
  | k+1=>((((joinFill L k).set (4 * k) (byteOf (L.getD k 0 / 16777216))).set (4 * k+1) (byteOf (L.getD k 0 / 65536))).set (4 * k+2) (byteOf (L.getD k 0 / 256))).set (4 * k+3) (byteOf (L.getD k 0))
theorem joinFill_length (L:List Int) (k:Nat):(joinFill L k).length=32:=by
  induction k with
  | zero=>simp [joinFill]
  | succ k ih=>simp [joinFill,ih]
def joinP (s:St):List UInt8:=joinFill s.list 8
def padN (n:Nat):Nat:=1+(119 - n % 64) % 64
def tailFill (n:Nat):Nat->List UInt8
  | 0=>(List.replicate 72 0).set 0 128
  | k+1=>(tailFill n k).set (padN n+k) (byteOf ((n:Int) * 8 / 2 ^ (8 * (7 - k))))
theorem tailFill_length (n k:Nat):(tailFill n k).length=72:=by
  induction k with
  | zero=>simp [tailFill]
  | succ k ih=>simp [tailFill,ih]
def tailP (n:Nat):List UInt8:=(tailFill n 8).take (padN n+8)
theorem tailP_length (n:Nat):(tailP n).length=padN n+8:=by
  simp only [tailP,List.length_take,tailFill_length,padN]
  omega
def absorb (t:List UInt8):Nat->St
  | 0=>first
  | k+1=>blockP (absorb t k) ((t.drop (64 * k)).take 64)
theorem absorb_append (t u:List UInt8) (k:Nat) (h:64 * k<=t.length):absorb (t ++ u) k=absorb t k:=by
  induction k with
  | zero=>rfl
  | succ k ih=>
    simp only [absorb]
    rw [ih (by omega),List.drop_append_of_le_length (by omega),List.take_append_of_le_length (by rw [List.length_drop]; omega)]
def wordsP (t:List UInt8):St:=absorb t (t.length / 64)
def restP (t:List UInt8):List UInt8:=t.drop (64 * (t.length / 64))
theorem words_same (t u:List UInt8) (h:t.length % 64+u.length < 64):wordsP (t ++ u)=wordsP t/\restP (t ++ u)=restP t ++ u:=by
  have e:(t ++ u).length / 64=t.length / 64:=by rw [List.length_append]; omega
  refine ⟨?_,?_⟩
  · unfold wordsP
    rw [e,absorb_append t u _ (by omega)]
  · unfold restP
    rw [e,List.drop_append_of_le_length (by omega)]
theorem words_next (t u:List UInt8) (h:t.length % 64+u.length=64):wordsP (t ++ u)=blockP (wordsP t) (restP t ++ u)/\restP (t ++ u)=[]:=by
  have e:(t ++ u).length / 64=t.length / 64+1:=by rw [List.length_append]; omega
  refine ⟨?_,?_⟩
  · unfold wordsP restP
    rw [e,absorb,absorb_append t u _ (by omega),List.drop_append_of_le_length (by omega),List.take_of_length_le (by rw [List.length_append,List.length_drop]; omega)]
  · unfold restP
    rw [e]
    exact List.drop_eq_nil_of_le (by rw [List.length_append]; omega)
def sumP (t:List UInt8):List UInt8:=joinP (wordsP (t ++ tailP t.length))
theorem sumP_length (t:List UInt8):(sumP t).length=32:=joinFill_length _ _
end Sha
namespace Sha
open Go
theorem bits_or_comm (k:IntKind) (x y:Int):bits .or k x y=bits .or k y x:=by
  unfold bits
  simp only [BitVec.or_comm]
theorem wrap_u32_nat (n:Nat) (h:n < 4294967296):IntKind.u32.wrap (n:Int)=(n:Int):=by
  simp [IntKind.wrap,IntKind.signed,IntKind.bits]
  omega
theorem u32_or_nat (a b:Nat) (ha:a < 4294967296) (hb:b < 4294967296):bits .or .u32 (a:Int) (b:Int)=((a ||| b:Nat):Int):=by
  unfold bits
  have e:((BitVec.ofInt IntKind.u32.bits (a:Int) ||| BitVec.ofInt IntKind.u32.bits (b:Int)).toNat)=a ||| b:=by
    simp only [BitVec.toNat_or,BitVec.ofInt_natCast,BitVec.toNat_ofNat]
    rw [Nat.mod_eq_of_lt (by simpa [IntKind.bits] using ha),Nat.mod_eq_of_lt (by simpa [IntKind.bits] using hb)]
  simp only [e]
  exact wrap_u32_nat _ (Nat.or_lt_two_pow (n:=32) ha hb)
theorem word4_sum (a b c d:UInt8):word4 a b c d=((((a.toNat * 256+b.toNat) * 256+c.toNat) * 256+d.toNat:Nat):Int):=by
  have ha:=a.toNat_lt
  have hb:=b.toNat_lt
  have hc:=c.toNat_lt
  have hd:=d.toNat_lt
  have e1:=Nat.two_pow_add_eq_or_of_lt (i:=24) (b:=b.toNat * 65536) (by omega) a.toNat
  have e2:=Nat.two_pow_add_eq_or_of_lt (i:=16) (b:=c.toNat * 256) (by omega) (a.toNat * 256+b.toNat)
  have e3:=Nat.two_pow_add_eq_or_of_lt (i:=8) (b:=d.toNat) (by omega) ((a.toNat * 256+b.toNat) * 256+c.toNat)
  unfold word4
  rw [show (a.toNat:Int) * 16777216=((2 ^ 24 * a.toNat:Nat):Int) by omega,show (b.toNat:Int) * 65536=((b.toNat * 65536:Nat):Int) by omega,
    show (c.toNat:Int) * 256=((c.toNat * 256:Nat):Int) by omega,u32_or_nat _ _ (by omega) (by omega),← e1,
    show 2 ^ 24 * a.toNat+b.toNat * 65536=2 ^ 16 * (a.toNat * 256+b.toNat) by omega,u32_or_nat _ _ (by omega) (by omega),← e2,
    show 2 ^ 16 * (a.toNat * 256+b.toNat)+c.toNat * 256=2 ^ 8 * ((a.toNat * 256+b.toNat) * 256+c.toNat) by omega,u32_or_nat _ _ (by omega) (by omega),← e3]
  omega
def fillR (b:List UInt8):Nat->List Int
  | 0=>List.replicate 16 0
  | k+1=>(fillR b k).set (k / 4) (((fillR b k).getD (k / 4) 0 * 256+((b.getD k 0).toNat:Int)) % 4294967296)
theorem fillR_length (b:List UInt8) (k:Nat):(fillR b k).length=16:=by
  induction k with
  | zero=>simp [fillR]
  | succ k ih=>simp [fillR,ih]
def winNext (V:List Int) (i:Nat):List Int:=
  if 16<=i then V.set (i % 16) ((V.getD (i % 16) 0+sP (V.getD ((i+1) % 16) 0)+V.getD ((i+9) % 16) 0+tP (V.getD ((i+14) % 16) 0)) % 4294967296) else V
def win (V:List Int):Nat->List Int
  | 0=>V
  | i+1=>winNext (win V i) i
theorem win_length (V:List Int) (i:Nat):(win V i).length=V.length:=by
  induction i with
  | zero=>rfl
  | succ i ih=>
    simp only [win,winNext]
    split <;> simp [ih]
def roundsR (s:St) (V:List Int):Nat->St
  | 0=>s
  | i+1=>step (roundsR s V i) (kTab.getD i 0) ((win V (i+1)).getD (i % 16) 0)
def blockR (s:St) (b:List UInt8):St:=addP s (roundsR s (fillR b 64) 64)
theorem getD_set (l:List Int) (i j:Nat) (v:Int) (hi:i < l.length):(l.set i v).getD j 0=if i=j then v else l.getD j 0:=by
  by_cases h:i=j
  · subst h
    simp [hi]
  · simp [h]
theorem fillR_early (b:List UInt8) (j:Nat) (hj:j < 16):∀ k,k<=4 * j->(fillR b k).getD j 0=0
  | 0,_=>by
    unfold fillR
    simp only [List.getD_eq_getElem?_getD,List.getElem?_replicate,hj,if_true,Option.getD_some]
  | k+1,h=>by
    rw [fillR,getD_set _ _ _ _ (by rw [fillR_length]; omega),if_neg (by omega)]
    exact fillR_early b j hj k (by omega)
theorem fillR_late (b:List UInt8) (j:Nat):∀ n,4 * j+4+n<=64->(fillR b (4 * j+4+n)).getD j 0=(fillR b (4 * j+4)).getD j 0
  | 0,_=>rfl
  | n+1,h=>by
    rw [← Nat.add_assoc,fillR,getD_set _ _ _ _ (by rw [fillR_length]; omega),if_neg (by omega)]
    exact fillR_late b j n (by omega)
theorem fillR_at (b:List UInt8) (j:Nat) (hj:j < 16):(fillR b 64).getD j 0=word4 (b.getD (4 * j) 0) (b.getD (4 * j+1) 0) (b.getD (4 * j+2) 0) (b.getD (4 * j+3) 0):=by
  have h:=fillR_late b j (60 - 4 * j) (by omega)
  rw [show 4 * j+4+(60 - 4 * j)=64 by omega] at h
  have s0:=fillR_early b j hj (4 * j) (Nat.le_refl _)
  have st:∀ k,4 * j<=k->k < 4 * j+4->(fillR b (k+1)).getD j 0=((fillR b k).getD j 0 * 256+((b.getD k 0).toNat:Int)) % 4294967296:=fun k h1 h2=>by
    have e:k / 4=j:=by omega
    rw [fillR,getD_set _ _ _ _ (by rw [fillR_length]; omega),e,if_pos rfl]
  have s1:=st (4 * j) (by omega) (by omega)
  have s2:=st (4 * j+1) (by omega) (by omega)
  have s3:=st (4 * j+2) (by omega) (by omega)
  have s4:=st (4 * j+3) (by omega) (by omega)
  rw [h,s4,s3,s2,s1,s0,word4_sum]
  have h0:=(b.getD (4 * j) 0).toNat_lt
  have h1:=(b.getD (4 * j+1) 0).toNat_lt
  have h2:=(b.getD (4 * j+2) 0).toNat_lt
  have h3:=(b.getD (4 * j+3) 0).toNat_lt
  generalize (b.getD (4 * j) 0).toNat=x0 at *
  generalize (b.getD (4 * j+1) 0).toNat=x1 at *
  generalize (b.getD (4 * j+2) 0).toNat=x2 at *
  generalize (b.getD (4 * j+3) 0).toNat=x3 at *
  omega
theorem fill_len (b:List UInt8) (k:Nat):(fill b k).length=64:=by
  induction k with
  | zero=>simp [fill]
  | succ k ih=>simp [fill,ih]
theorem ext_len (L:List Int) (k:Nat):(ext L k).length=L.length:=by
  induction k with
  | zero=>rfl
  | succ k ih=>simp [ext,ih]
theorem fill_late (b:List UInt8) (j:Nat):∀ n,j+1+n<=64->(fill b (j+1+n)).getD j 0=(fill b (j+1)).getD j 0
  | 0,_=>rfl
  | n+1,h=>by
    rw [← Nat.add_assoc,fill,getD_set _ _ _ _ (by rw [fill_len]; omega),if_neg (by omega)]
    exact fill_late b j n (by omega)
theorem fill_at (b:List UInt8) (j:Nat) (hj:j < 16):(fill b 16).getD j 0=word4 (b.getD (4 * j) 0) (b.getD (4 * j+1) 0) (b.getD (4 * j+2) 0) (b.getD (4 * j+3) 0):=by
  have h:=fill_late b j (15 - j) (by omega)
  rw [show j+1+(15 - j)=16 by omega] at h
  rw [h,fill,getD_set _ _ _ _ (by rw [fill_len]; omega),if_pos rfl]
theorem ext_keep (L:List Int) (hL:L.length=64) (j:Nat):∀ k n,j < 16+k->k+n<=48->(ext L (k+n)).getD j 0=(ext L k).getD j 0
  | _,0,_,_=>rfl
  | k,n+1,h,hk=>by
    rw [← Nat.add_assoc,ext,getD_set _ _ _ _ (by rw [ext_len]; omega),if_neg (by omega)]
    exact ext_keep L hL j k n h (by omega)
theorem ext_low (L:List Int) (hL:L.length=64) (j:Nat) (hj:j < 16):(ext L 48).getD j 0=L.getD j 0:=by
  have:=ext_keep L hL j 0 48 (by omega) (by omega)
  simpa [ext] using this
theorem ext_next (L:List Int) (hL:L.length=64) (i:Nat) (h0:16<=i) (h1:i < 64):(ext L 48).getD i 0=more (ext L 48) i:=by
  have e1:=ext_keep L hL i (i - 16+1) (64 - 1 - i) (by omega) (by omega)
  rw [show i - 16+1+(64 - 1 - i)=48 by omega] at e1
  rw [e1,ext,getD_set _ _ _ _ (by rw [ext_len]; omega),if_pos (by omega),show 16+(i - 16)=i by omega]
  have keep:∀ j,j < i->(ext L (i - 16)).getD j 0=(ext L 48).getD j 0:=fun j hj=>by
    have:=ext_keep L hL j (i - 16) (64 - i) (by omega) (by omega)
    rw [show i - 16+(64 - i)=48 by omega] at this
    exact this.symm
  unfold more
  rw [keep (i - 16) (by omega),keep (i - 15) (by omega),keep (i - 7) (by omega),keep (i - 2) (by omega)]
theorem win_is (b:List UInt8) (i:Nat) (hi:i<=64):∀ m,m < 64->(m < i ∨ m < 16)->(i<=m+16)->(win (fillR b 64) i).getD (m % 16) 0=(widenP b).getD m 0:=by
  have hfl:(fill b 16).length=64:=fill_len b 16
  induction i with
  | zero=>
    intro m hm h1 _
    have hm16:m < 16:=by omega
    rw [win,Nat.mod_eq_of_lt hm16,fillR_at b m hm16,widenP,ext_low _ hfl m hm16,fill_at b m hm16]
  | succ i ih=>
    intro m hm h1 h2
    have ih':=ih (by omega)
    rw [win,winNext]
    by_cases h16:16<=i
    · rw [if_pos h16,getD_set _ _ _ _ (by rw [win_length,fillR_length]; omega)]
      by_cases hmi:m=i
      · subst hmi
        rw [if_pos rfl,widenP,ext_next _ hfl m h16 hm,← widenP]
        unfold more
        rw [← ih' (m - 16) (by omega) (by omega) (by omega),← ih' (m - 15) (by omega) (by omega) (by omega),← ih' (m - 7) (by omega) (by omega) (by omega),← ih' (m - 2) (by omega) (by omega) (by omega),
          show (m - 16) % 16=m % 16 by omega,show (m - 15) % 16=(m+1) % 16 by omega,show (m - 7) % 16=(m+9) % 16 by omega,show (m - 2) % 16=(m+14) % 16 by omega]
      · rw [if_neg (by omega)]
        exact ih' m hm (by omega) (by omega)
    · rw [if_neg h16]
      exact ih' m hm (by omega) (by omega)
theorem roundsR_is (s:St) (b:List UInt8) (i:Nat) (hi:i<=64):roundsR s (fillR b 64) i=rounds s (widenP b) i:=by
  induction i with
  | zero=>rfl
  | succ i ih=>rw [roundsR,rounds,ih (by omega),win_is b (i+1) hi i (by omega) (by omega) (by omega)]
theorem blockR_is (s:St) (b:List UInt8):blockR s b=blockP s b:=by
  unfold blockR blockP turnP
  rw [roundsR_is s b 64 (by omega)]
end Sha
namespace Sha
open Go
def endR (N:Nat):Nat->List UInt8
  | 0=>[]
  | k+1=>byteOf ((N / 256 ^ k:Nat):Int) :: endR N k
theorem endR_length (N k:Nat):(endR N k).length=k:=by
  induction k with
  | zero=>rfl
  | succ k ih=>simp [endR,ih]
theorem set8 (A B:List UInt8) (b0 b1 b2 b3 b4 b5 b6 b7:UInt8) (n:Nat) (hA:A.length=n):
    ((((((((A ++ 0 :: 0 :: 0 :: 0 :: 0 :: 0 :: 0 :: 0 :: B).set (n+0) b0).set (n+1) b1).set (n+2) b2).set (n+3) b3).set (n+4) b4).set (n+5) b5).set (n+6) b6).set (n+7) b7=(A ++ [b0,b1,b2,b3,b4,b5,b6,b7]) ++ B:=by
  subst hA
  simp
theorem tail_base (z:Nat) (hz:z<=63):(List.replicate 72 (0:UInt8)).set 0 128=(128 :: List.replicate z 0) ++ 0 :: 0 :: 0 :: 0 :: 0 :: 0 :: 0 :: 0 :: List.replicate (63 - z) 0:=by
  have e:(List.replicate 72 (0:UInt8))=0 :: (List.replicate z 0 ++ 0 :: 0 :: 0 :: 0 :: 0 :: 0 :: 0 :: 0 :: List.replicate (63 - z) 0):=by
    apply List.ext_getElem
    · simp; omega
    · intro i h1 h2
      rw [List.getElem_replicate]
      have:∀ x ∈ (0:UInt8) :: (List.replicate z 0 ++ 0 :: 0 :: 0 :: 0 :: 0 :: 0 :: 0 :: 0 :: List.replicate (63 - z) 0),x=0:=by
        intro x hx
        simp [List.mem_replicate] at hx
        rcases hx with h | h | h | h <;> simp_all
      exact (this _ (List.getElem_mem h2)).symm
  rw [e]
  rfl
theorem tailP_is (n z:Nat) (hz:z=(119 - n % 64) % 64):tailP n=(128 :: List.replicate z 0) ++ endR (n * 8) 8:=by
  have hp:padN n=1+z:=by rw [hz]; rfl
  have hA:((128:UInt8) :: List.replicate z 0).length=1+z:=by simp; omega
  have h8:=set8 (128 :: List.replicate z 0) (List.replicate (63 - z) 0) (byteOf ((n:Int) * 8 / 2 ^ (8 * (7 - 0)))) (byteOf ((n:Int) * 8 / 2 ^ (8 * (7 - 1)))) (byteOf ((n:Int) * 8 / 2 ^ (8 * (7 - 2)))) (byteOf ((n:Int) * 8 / 2 ^ (8 * (7 - 3)))) (byteOf ((n:Int) * 8 / 2 ^ (8 * (7 - 4)))) (byteOf ((n:Int) * 8 / 2 ^ (8 * (7 - 5)))) (byteOf ((n:Int) * 8 / 2 ^ (8 * (7 - 6)))) (byteOf ((n:Int) * 8 / 2 ^ (8 * (7 - 7)))) (1+z) hA
  have ht:tailFill n 8=((128 :: List.replicate z 0) ++ [byteOf ((n:Int) * 8 / 2 ^ (8 * (7 - 0))),byteOf ((n:Int) * 8 / 2 ^ (8 * (7 - 1))),byteOf ((n:Int) * 8 / 2 ^ (8 * (7 - 2))),byteOf ((n:Int) * 8 / 2 ^ (8 * (7 - 3))),byteOf ((n:Int) * 8 / 2 ^ (8 * (7 - 4))),byteOf ((n:Int) * 8 / 2 ^ (8 * (7 - 5))),byteOf ((n:Int) * 8 / 2 ^ (8 * (7 - 6))),byteOf ((n:Int) * 8 / 2 ^ (8 * (7 - 7)))]) ++ List.replicate (63 - z) 0:=by
    rw [← h8,← tail_base z (by omega)]
    simp only [tailFill,hp]
  rw [tailP,ht,hp,List.take_append_of_le_length (by simp; omega),List.take_of_length_le (by simp; omega)]
  congr 1
def copyR (X:List UInt8):Nat->List UInt8
  | 0=>List.replicate 64 0
  | j+1=>(copyR X j).set j (X.getD j 0)
theorem copyR_length (X:List UInt8) (j:Nat):(copyR X j).length=64:=by
  induction j with
  | zero=>simp [copyR]
  | succ j ih=>simp [copyR,ih]
theorem copyR_is (X:List UInt8) (hX:X.length=64) (j:Nat) (hj:j<=64):copyR X j=X.take j ++ List.replicate (64 - j) 0:=by
  induction j with
  | zero=>simp [copyR]
  | succ j ih=>
    rw [copyR,ih (by omega),show 64 - j=(64 - (j+1))+1 by omega,List.replicate_succ,List.set_append_right _ _ (by simp; omega),
      List.take_succ_eq_append_getElem (by omega)]
    have e:j - (X.take j).length=0:=by simp; omega
    rw [e,List.set_cons_zero,List.getD_eq_getElem?_getD,List.getElem?_eq_getElem (by omega),Option.getD_some,List.append_assoc]
    rfl
theorem copyR_all (X:List UInt8) (hX:X.length=64):copyR X 64=X:=by
  rw [copyR_is X hX 64 (by omega),List.take_of_length_le (by omega)]
  simp
end Sha
section
open Go.RowKit
theorem and31_fin:∀ n:Fin 32,0 < n.val->bits .and .u64 (IntKind.u64.wrap (-(n.val:Int))) 31=32 - (n.val:Int):=by decide +kernel
theorem and31 (n:Int) (h0:1<=n) (h1:n<=31):bits .and .u64 (IntKind.u64.wrap (-n)) 31=32 - n:=by
  have:=and31_fin ⟨n.toNat,by omega⟩ (by simp; omega)
  simpa [Int.toNat_of_nonneg (show 0<=n by omega)] using this
theorem rotl_any (x n:Int) (w:World) (h0:1<=n) (h1:n<=31):
    Calls Tryz.prog 196 #[.int .u32 x,.int .i64 (-n)] w fun e w'=>e=.returned (.int .u32 (Sha.rotI x n))/\w'=w:=by
  have hk:=and31 n h0 h1
  have e:(32 - (32 - n)).toNat=n.toNat:=by omega
  go_enter Tryz.func196,Tryz.ntmps196
  go_wp2
  go_ret
  refine ⟨?_,rfl⟩
  simp [Sha.rotI]
theorem rot_any (x n:Int) (w:World) (h0:1<=n) (h1:n<=31):
    Calls Tryz.prog 195 #[.int .u32 x,.int .i64 n] w fun e w'=>e=.returned (.int .u32 (Sha.rotI x n))/\w'=w:=by
  go_enter Tryz.func195,Tryz.ntmps195
  go_wp2_with fail
  refine (rotl_any x n _ h0 h1).mono ?_
  rintro e w1 ⟨rfl,rfl⟩
  go_wp2
  go_ret
  exact ⟨rfl,rfl⟩
end
end Go.Proofs.YtaficmboooaknaaGreatDoor
