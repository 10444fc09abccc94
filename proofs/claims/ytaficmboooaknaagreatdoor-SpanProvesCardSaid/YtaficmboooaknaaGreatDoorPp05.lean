import Derived.Test.YtaficmboooaknaaGreatDoorPp01
import Derived.Test.YtaficmboooaknaaGreatDoorPp04
import Derived.Test.YtaficmboooaknaaGreatDoorPp02
import Derived.Lib.Hide
import Derived.WalkSpells
import Derived.WalkLawsBesides
import Derived.Deep.RegionLaw
import Derived.Deep.AppendLies
import Derived.Lib.AppendStr
import Derived.Shelf.Strings.Builder1
import Derived.Shelf.Strings.Builder2
import Derived.Shelf.Strings.OnBuilder
import Derived.Test.YtaficmboooaknaaGreatDoorChecked
import Derived.Test.YtaficmboooaknaaGreatDoorPp03
import Derived.Deep.RegionWith
set_option maxRecDepth 100000
set_option maxHeartbeats 16000000
namespace Go.Proofs.YtaficmboooaknaaGreatDoor
section
open Go.RowKit
theorem of_any (l:List UInt8) (w:World) (hl:l.length<=2000000):
    Calls Tryz.prog 59 #[.string ⟨l.toArray⟩] w fun e w'=>e=.returned (.string ⟨(Nib.ofL l).toArray⟩)/\Below w.heap.size w w':=by
  go_enter Tryz.func59,Tryz.ntmps59
  go_wp2_with fail
  refine (spread_any l w.heap.size _ [] w (Nat.le_refl _) hl (by simp) (ownsNil w _)).mono ?_
  rintro e w1 ⟨v',rfl,hown,hbel⟩
  have hc:=conv_own hown
  go_wp2
  go_ret
  exact ⟨rfl,hbel⟩
theorem key_bad (l:List UInt8) (w:World) (hl:l.length<=1000000) (hf:Nib.fitL l=false):
    Calls Tryz.prog 84 #[.string ⟨l.toArray⟩] w fun e w'=>e=.returned (.tuple #[.string ⟨#[]⟩,.int .i64 3])/\Below w.heap.size w w':=by
  have HF:=qh hf; clear hf
  go_enter Tryz.func84,Tryz.ntmps84
  go_wp2_with fail
  refine (fit_any l w hl).mono ?_
  rintro e w1 ⟨rfl,rfl⟩
  rw [HF.out]
  go_wp2
  go_ret2
  exact ⟨rfl,Below.refl _ _⟩
theorem key_odd (l:List UInt8) (w:World) (hl:l.length<=1000000) (hf:Nib.fitL l=true) (ho:l.length % 2=1):
    Calls Tryz.prog 84 #[.string ⟨l.toArray⟩] w fun e w'=>e=.returned (.tuple #[.string ⟨#[]⟩,.int .i64 4])/\Below w.heap.size w w':=by
  have HF:=qh hf; clear hf
  have ho1:((l.length:Int) % 2 != 0)=true:=by rw [bne_iff_ne]; omega
  clear ho
  go_enter Tryz.func84,Tryz.ntmps84
  go_wp2_with fail
  refine (fit_any l w hl).mono ?_
  rintro e w1 ⟨rfl,rfl⟩
  rw [HF.out]
  go_wp2
  go_ret2
  exact ⟨rfl,Below.refl _ _⟩
theorem key_good (l:List UInt8) (w:World) (hl:l.length<=1000000) (hf:Nib.fitL l=true) (ho:l.length % 2=0):
    Calls Tryz.prog 84 #[.string ⟨l.toArray⟩] w fun e w'=>e=.returned (.tuple #[.string ⟨(Nib.joinL l).toArray⟩,.int .i64 0])/\Below w.heap.size w w':=by
  have HF:=qh hf; clear hf
  have ho1:((l.length:Int) % 2 != 0)=false:=by simp; omega
  clear ho
  go_enter Tryz.func84,Tryz.ntmps84
  go_wp2_with fail
  refine (fit_any l w hl).mono ?_
  rintro e w1 ⟨rfl,rfl⟩
  rw [HF.out]
  go_wp2_with fail
  refine (join_any l w.heap.size _ [] w (Nat.le_refl _) hl (by simp) HF.out (ownsNil w _)).mono ?_
  rintro e w1 ⟨v',rfl,hown,hbel⟩
  have hc:=conv_own hown
  go_wp2
  go_ret2
  exact ⟨rfl,hbel⟩
end
section
open Go.RowKit
theorem pack_even (l:List UInt8) (leaf:Bool) (w:World) (hl:l.length<=1000000) (hf:Nib.fitL l=true) (ho:l.length % 2=0):
    Calls Tryz.prog 176 #[.string ⟨l.toArray⟩,.bool leaf] w fun e w'=>e=.returned (.tuple #[.string ⟨(Nib.packL l leaf).toArray⟩,.int .i64 0])/\Below w.heap.size w w':=by
  have HF:=qh hf; clear hf
  have HP:=qh (Nib.packL_even l leaf ho)
  have ho1:((l.length:Int) % 2 != 0)=false:=by simp; omega
  clear ho
  cases leaf
  · go_enter Tryz.func176,Tryz.ntmps176
    go_wp2_with fail
    refine (fit_any l w hl).mono ?_
    rintro e w1 ⟨rfl,rfl⟩
    rw [HF.out]
    go_wp2_with fail
    refine (join_any l w.heap.size _ [0] _ (by simp) hl (by simp) HF.out (ownsOne w _ (Nat.le_refl _) 0 _ rfl)).mono ?_
    rintro e w1 ⟨v',rfl,hown,hbel⟩
    have hc:=conv_own hown
    go_wp2
    go_ret2
    rw [HP.out]
    exact ⟨rfl,((Below.refl _ _).alloc (Nat.le_refl _) _).trans hbel⟩
  · go_enter Tryz.func176,Tryz.ntmps176
    go_wp2_with fail
    refine (fit_any l w hl).mono ?_
    rintro e w1 ⟨rfl,rfl⟩
    rw [HF.out]
    go_wp2_with fail
    refine (join_any l w.heap.size _ [32] _ (by simp) hl (by simp) HF.out (ownsOne w _ (Nat.le_refl _) 32 _ or_0_32)).mono ?_
    rintro e w1 ⟨v',rfl,hown,hbel⟩
    have hc:=conv_own hown
    go_wp2
    go_ret2
    rw [HP.out]
    exact ⟨rfl,((Below.refl _ _).alloc (Nat.le_refl _) _).trans hbel⟩
theorem pack_odd (a:UInt8) (t:List UInt8) (leaf:Bool) (w:World) (hl:(a :: t).length<=1000000) (hf:Nib.fitL (a :: t)=true) (ho:t.length % 2=0):
    Calls Tryz.prog 176 #[.string ⟨(a :: t).toArray⟩,.bool leaf] w fun e w'=>e=.returned (.tuple #[.string ⟨(Nib.packL (a :: t) leaf).toArray⟩,.int .i64 0])/\Below w.heap.size w w':=by
  have HF:=qh hf; clear hf
  have HP:=qh (Nib.packL_odd a t leaf ho)
  have ho1:(((t.length:Int)+1) % 2 != 0)=true:=by rw [bne_iff_ne]; omega
  clear ho
  have HA:=qh (Nib.fitL_get (a :: t) HF.out 0 (by simp))
  have HT:=qh (Nib.fitL_tail a t HF.out)
  have hlt:t.length<=1000000:=by simp at hl; omega
  cases leaf
  · go_enter Tryz.func176,Tryz.ntmps176
    go_wp2_with fail
    refine (fit_any (a :: t) w hl).mono ?_
    rintro e w1 ⟨rfl,rfl⟩
    rw [HF.out]
    go_wp2_with fail
    rw [extract_mk_tail]
    refine (join_any t w.heap.size _ [16+a] _ (by simp) hlt (by simp) HT.out (ownsOne w _ (Nat.le_refl _) (16+a) _ (or_head0 a HA.out))).mono ?_
    rintro e w1 ⟨v',rfl,hown,hbel⟩
    have hc:=conv_own hown
    go_wp2
    go_ret2
    rw [HP.out]
    exact ⟨rfl,((Below.refl _ _).alloc (Nat.le_refl _) _).trans hbel⟩
  · go_enter Tryz.func176,Tryz.ntmps176
    go_wp2_with fail
    refine (fit_any (a :: t) w hl).mono ?_
    rintro e w1 ⟨rfl,rfl⟩
    rw [HF.out]
    go_wp2_with fail
    rw [extract_mk_tail]
    refine (join_any t w.heap.size _ [48+a] _ (by simp) hlt (by simp) HT.out (ownsOne w _ (Nat.le_refl _) (48+a) _ (or_head2 a HA.out))).mono ?_
    rintro e w1 ⟨v',rfl,hown,hbel⟩
    have hc:=conv_own hown
    go_wp2
    go_ret2
    rw [HP.out]
    exact ⟨rfl,((Below.refl _ _).alloc (Nat.le_refl _) _).trans hbel⟩
end
section
open Go.RowKit
theorem mod16_dec (b:UInt8):(((b.toNat:Int) % 16 == 0))=decide (b.toNat % 16=0):=by
  rw [Bool.eq_iff_iff]; simp; omega
theorem may_any (b:UInt8) (w:World):Calls Tryz.prog 166 #[.int .u8 (b.toNat:Int)] w fun e w'=>e=.returned (.bool (Nib.mayL b))/\w=w':=by
  have a1:=and16 b
  have a2:=and15 b
  by_cases h1:b.toNat / 16<=3
  · by_cases h2:b.toNat / 16 % 2=1
    · have e1:(bits .and .u8 (b.toNat:Int) 16 != 0)=true:=by rw [a1]; simpa using h2
      have HR:Hid (Nib.mayL b=true):=by simp [Hid,Nib.mayL,h1,h2]
      have h1':(b.toNat:Int)<=63:=by omega
      clear a1 a2 h1 h2
      go_enter Tryz.func166,Tryz.ntmps166
      go_wp2
      go_ret
      exact ⟨by rw [HR.out]; rfl,rfl⟩
    · have e1:(bits .and .u8 (b.toNat:Int) 16 != 0)=false:=by rw [a1]; simpa using h2
      have HR:Hid (Nib.mayL b=decide (b.toNat % 16=0)):=by simp [Hid,Nib.mayL,h1,h2]
      have h1':(b.toNat:Int)<=63:=by omega
      clear a1 a2 h1 h2
      go_enter Tryz.func166,Tryz.ntmps166
      go_wp2
      go_ret
      exact ⟨by rw [HR.out,← mod16_dec]; rfl,rfl⟩
  · have HR:Hid (Nib.mayL b=false):=by simp [Hid,Nib.mayL,h1]
    have h1':(63:Int) < (b.toNat:Int):=by omega
    clear a1 a2 h1
    go_enter Tryz.func166,Tryz.ntmps166
    go_wp2
    go_ret
    exact ⟨by rw [HR.out]; rfl,rfl⟩
theorem unpack_nil (w:World):Calls Tryz.prog 143 #[.string ⟨#[]⟩] w fun e w'=>e=.returned (.tuple #[.string ⟨#[]⟩,.bool false,.int .i64 3])/\w=w':=by
  go_enter Tryz.func143,Tryz.ntmps143
  go_wp2
  go_ret3
  exact ⟨rfl,rfl⟩
theorem unpack_bad (b:UInt8) (t:List UInt8) (w:World) (_hl:t.length<=1000000) (h:Nib.mayL b=false):
    Calls Tryz.prog 143 #[.string ⟨(b :: t).toArray⟩] w fun e w'=>e=.returned (.tuple #[.string ⟨#[]⟩,.bool false,.int .i64 3])/\w=w':=by
  have H:=qh h; clear h
  go_enter Tryz.func143,Tryz.ntmps143
  go_wp2_with fail
  refine (may_any b w).mono ?_
  rintro e w1 ⟨rfl,rfl⟩
  rw [H.out]
  go_wp2
  go_ret3
  exact ⟨rfl,rfl⟩
theorem unpack_odd (b:UInt8) (t:List UInt8) (w:World) (hl:t.length<=1000000) (h:Nib.mayL b=true) (ho:b.toNat / 16 % 2=1):
    Calls Tryz.prog 143 #[.string ⟨(b :: t).toArray⟩] w fun e w'=>e=.returned (.tuple #[.string ⟨((b % 16) :: Nib.ofL t).toArray⟩,.bool (decide (2<=b.toNat / 16)),.int .i64 0])/\Below w.heap.size w w':=by
  have H:=qh h
  have e1:(bits .and .u8 (b.toNat:Int) 16 != 0)=true:=by rw [and16]; simpa using ho
  have H2:=qh (and32 b (Nib.mayL_le b h).1)
  clear h ho
  have hidx:∀ h,(⟨(b :: t).toArray⟩:ByteArray)[0]'h=b:=fun _=>rfl
  go_enter Tryz.func143,Tryz.ntmps143
  go_wp2_with fail
  refine (may_any b w).mono ?_
  rintro e w1 ⟨rfl,rfl⟩
  rw [H.out]
  go_wp2_with fail
  go_region_with ((go_at_call 96; rw [extract_mk_tail]; refine (spread_any t w.heap.size _ [b % 16] _ ?_ (Nat.le_trans hl (by decide)) ?_ ?_).mono ?_; (simp); (simp); (exact ownsOne w _ (Nat.le_refl _) (b % 16) _ (byte_and15 b)); rintro e w1 ⟨v',rfl,hown,hbel⟩; have hc:=conv_own hown))
  all_goals
    go_wp2
    go_ret3
    exact ⟨by rw [← H2.out]; rfl,(((Below.refl _ _).alloc (Nat.le_refl _) _).drew).trans hbel⟩
theorem unpack_even (b:UInt8) (t:List UInt8) (w:World) (hl:t.length<=1000000) (h:Nib.mayL b=true) (ho:b.toNat / 16 % 2=0):
    Calls Tryz.prog 143 #[.string ⟨(b :: t).toArray⟩] w fun e w'=>e=.returned (.tuple #[.string ⟨(Nib.ofL t).toArray⟩,.bool (decide (2<=b.toNat / 16)),.int .i64 0])/\Below w.heap.size w w':=by
  have H:=qh h
  have e1:(bits .and .u8 (b.toNat:Int) 16 != 0)=false:=by rw [and16]; simp [ho]
  have H2:=qh (and32 b (Nib.mayL_le b h).1)
  clear h ho
  have hidx:∀ h,(⟨(b :: t).toArray⟩:ByteArray)[0]'h=b:=fun _=>rfl
  go_enter Tryz.func143,Tryz.ntmps143
  go_wp2_with fail
  refine (may_any b w).mono ?_
  rintro e w1 ⟨rfl,rfl⟩
  rw [H.out]
  go_wp2_with fail
  go_region_with ((go_at_call 96; rw [extract_mk_tail]; refine (spread_any t w.heap.size _ [] _ ?_ (Nat.le_trans hl (by decide)) ?_ ?_).mono ?_; (simp); (simp); (exact ownsNil _ _); rintro e w1 ⟨v',rfl,hown,hbel⟩; have hc:=conv_own hown))
  all_goals
    go_wp2
    go_ret3
    exact ⟨by rw [← H2.out]; rfl,((Below.refl _ _).drew).trans hbel⟩
end
section
open Go.RowKit
theorem pack_good (l:List UInt8) (leaf:Bool) (w:World) (hl:l.length<=1000000) (hf:Nib.fitL l=true):
    Calls Tryz.prog 176 #[.string ⟨l.toArray⟩,.bool leaf] w fun e w'=>e=.returned (.tuple #[.string ⟨(Nib.packL l leaf).toArray⟩,.int .i64 0])/\Below w.heap.size w w':=by
  rcases Nat.mod_two_eq_zero_or_one l.length with h | h
  · exact pack_even l leaf w hl hf h
  · match l,hl,hf,h with
    | a :: t,hl,hf,h=>exact pack_odd a t leaf w hl hf (by simp at h; omega)
theorem unpack_none (s:List UInt8) (w:World) (hl:s.length<=1000000) (h:Nib.unpackL s=none):
    Calls Tryz.prog 143 #[.string ⟨s.toArray⟩] w fun e w'=>e=.returned (.tuple #[.string ⟨#[]⟩,.bool false,.int .i64 3])/\Below w.heap.size w w':=by
  match s,hl,h with
  | [],_,_=>exact (unpack_nil w).mono fun e w' ⟨h1,h2⟩=>⟨h1,h2 ▸ Below.refl _ _⟩
  | b :: t,hl,h=>
    have hm:Nib.mayL b=false:=by
      rcases hm:Nib.mayL b with _ | _
      · rfl
      · rcases Nat.mod_two_eq_zero_or_one (b.toNat / 16) with h1 | h1
        · rw [Nib.unpackL_even b t hm h1] at h; cases h
        · rw [Nib.unpackL_odd b t hm h1] at h; cases h
    exact (unpack_bad b t w (by simp at hl; omega) hm).mono fun e w' ⟨h1,h2⟩=>⟨h1,h2 ▸ Below.refl _ _⟩
theorem unpack_some (s p:List UInt8) (is:Bool) (w:World) (hl:s.length<=1000000) (h:Nib.unpackL s=some (p,is)):
    Calls Tryz.prog 143 #[.string ⟨s.toArray⟩] w fun e w'=>e=.returned (.tuple #[.string ⟨p.toArray⟩,.bool is,.int .i64 0])/\Below w.heap.size w w':=by
  match s,hl,h with
  | b :: t,hl,h=>
    have hm:=Nib.unpackL_may b t p is h
    rcases Nat.mod_two_eq_zero_or_one (b.toNat / 16) with h1 | h1
    · rw [Nib.unpackL_even b t hm h1] at h
      simp only [Option.some.injEq,Prod.mk.injEq] at h
      obtain ⟨rfl,rfl⟩:=h
      exact unpack_even b t w (by simp at hl; omega) hm h1
    · rw [Nib.unpackL_odd b t hm h1] at h
      simp only [Option.some.injEq,Prod.mk.injEq] at h
      obtain ⟨rfl,rfl⟩:=h
      exact unpack_odd b t w (by simp at hl; omega) hm h1
end
section
open Go.RowKit
theorem bitLenAux_eq (f n:Nat) (h:n < 2 ^ f):Lib.bitLenAux f n=Code.lenN n:=by
  induction f generalizing n with
  | zero=>simp at h; subst h; rfl
  | succ f ih=>
    simp only [Lib.bitLenAux]
    by_cases h0:n=0
    · simp [h0,Code.lenN]
    · rw [if_neg h0,ih (n / 2) (by rw [Nat.pow_succ] at h; omega)]
      by_cases h1:2<=n
      · rw [Code.len_shift n 1 (by simpa using h1)]
      · have e:n=1:=by omega
        subst e
        decide
theorem len64_any (n:Nat) (w:World) (hn:n < 2 ^ 63):
    Calls Tryz.prog 192 #[.int .u64 (n:Int)] w fun e w'=>e=.returned (.int .i64 (Code.lenN n:Nat))/\w'=w:=by
  have h:=shelf_len64 (n:Int) w (by omega) (by omega)
  rw [Int.toNat_natCast,Lib.bitLen,bitLenAux_eq 64 n (by omega)] at h
  exact h
end
section
open Go.RowKit
theorem shr_byte (n k j:Nat):(n:Int) / 2 ^ (8 * (k - 1 - j)) % 256=((UInt8.ofNat (n / 256 ^ (k - 1 - j) % 256)).toNat:Nat):=by
  have e:(2:Nat) ^ (8 * (k - 1 - j))=256 ^ (k - 1 - j):=by rw [Nat.pow_mul]
  have e2:(2:Int) ^ (8 * (k - 1 - j))=((256 ^ (k - 1 - j):Nat):Int):=by rw [← e]; simp
  rw [Code.ofNat_toNat _ (by omega),e2]
  simp
theorem addNum_any (n:Nat) (hn:n < 2 ^ 63) (B:Nat) (v:Value) (xs:List UInt8) (w:World) (hB:B<=w.heap.size) (hx:xs.length<=100000000)
    (hown:w.ownsRow B 5 1 v xs.length (cellsL xs)):
    Calls Tryz.prog 186 #[v,.int .i64 n] w fun e w'=>∃ v',e=.returned v'/\w'.ownsRow B 5 1 v' (xs ++ Code.numL n).length (cellsL (xs ++ Code.numL n))/\Below B w w':=by
  obtain ⟨i0,hi,hz0,hz1,hz2⟩:=info_parts Tryz.infoByte
  obtain ⟨L,hL⟩:∃ L,Code.lenN n=L:=⟨_,rfl⟩
  have hs:=Code.len_sz n
  have h8:=Code.sz_le8 n (by omega)
  obtain ⟨k,hk⟩:∃ k,Code.sz n=k:=⟨_,rfl⟩
  rw [hL,hk] at hs
  have hL8:L<=64:=by omega
  have hsi:((L:Int)+7) / 8=(k:Int):=by omega
  clear hs
  rw [hk] at h8
  have HL:=qh hL
  have HK:=qh hk
  clear hL hk
  go_enter Tryz.func186,Tryz.ntmps186
  go_wp2_with fail
  refine (len64_any n w hn).mono ?_
  rintro e w1 ⟨rfl,rfl⟩
  rw [HL.out]
  go_wp2_with ((at_builtin; refine wpList_append_own _ rfl _ _ 126 rfl B 5 i0 (.int .u8 0) 1 1 Tryz.underlying126 hi hz0 hz1 hz2 rfl (by decide) v xs.length (cellsL xs) rfl (hown.alloc _) ⟨w1.heap.size,0,none⟩ 1 1 [.int .u8 (k:Int)] rfl rfl ?c1 ?c2 ?c3 ?c4 ?c5 ?_))
  case c1=>exact cell_one_new _ _ _
  case c2=>simp [Value.oneCell']
  case c3=>unfold maxLen; omega
  case c4=>omega
  case c5=>simp; omega
  intro v1 w2 hown1 hgrow1 _
  have hrow1:w2.ownsRow B 5 1 v1 (xs ++ [UInt8.ofNat k] ++ Code.be 0 (n / 256 ^ (k - 0))).length (cellsL (xs ++ [UInt8.ofNat k] ++ Code.be 0 (n / 256 ^ (k - 0)))):=by
    have e:=Code.ofNat_toNat k (by omega)
    simpa [cellsL,Code.be,Nat.mod_eq_of_lt (show k < 256 by omega)] using hown1
  have hbel1:Below B w1 w2:=((Below.refl B w1).alloc (by omega) _).grown hgrow1 (by simp; omega) (fun g hg=>(hown.lt g hg).1)
  clear hown1 hgrow1 hown
  go_wp2
  go_loopw [0,18] (fun u i wr=>∃ j:Nat,j<=k/\i=.int .i64 j/\wr.ownsRow B 5 1 u (xs ++ [UInt8.ofNat k] ++ Code.be j (n / 256 ^ (k - j))).length (cellsL (xs ++ [UInt8.ofNat k] ++ Code.be j (n / 256 ^ (k - j))))/\Below B w1 wr) (fun _ i _=>k - (intOf i).toNat)
  case atStart=>exact ⟨0,Nat.zero_le _,rfl,hrow1,hbel1⟩
  case round=>
    obtain ⟨j,hj,rfl,hrow,hbel⟩:=hrel
    by_cases hlt:j < k
    · have h1:(j:Int) < (k:Int):=by omega
      have hsn:=qh (Code.be_step k j n hlt)
      have hlen:=Code.be_length j (n / 256 ^ (k - j))
      have hb:=hbel.size
      obtain ⟨ys,hys⟩:∃ ys,xs ++ [UInt8.ofNat k] ++ Code.be j (n / 256 ^ (k - j))=ys:=⟨_,rfl⟩
      have hyl:ys.length<=200000000:=by rw [← hys]; simp [hlen]; omega
      rw [hys] at hrow
      have HY:=qh hys
      clear hys hlen
      go_wp2_with ((at_builtin; refine wpList_append_own _ rfl _ _ 126 rfl B 5 i0 (.int .u8 0) 1 1 Tryz.underlying126 hi hz0 hz1 hz2 rfl (by decide) u0 ys.length (cellsL ys) rfl (hrow.alloc _) ⟨wr.heap.size,0,none⟩ 1 1 [.int .u8 ((n:Int) / 2 ^ (8 * (k - 1 - j)) % 256)] rfl rfl ?c1 ?c2 ?c3 ?c4 ?c5 ?_))
      case c1=>exact cell_one_new _ _ _
      case c2=>simp [Value.oneCell']
      case c3=>unfold maxLen; omega
      case c4=>omega
      case c5=>simp; omega
      intro v2 w3 hown2 hgrow2 _
      rw [shr_byte] at hown2
      have hrow2:w3.ownsRow B 5 1 v2 (xs ++ [UInt8.ofNat k] ++ Code.be (j+1) (n / 256 ^ (k - (j+1)))).length (cellsL (xs ++ [UInt8.ofNat k] ++ Code.be (j+1) (n / 256 ^ (k - (j+1))))):=by
        rw [← hsn.out,← List.append_assoc,HY.out,cellsL_append,List.length_append]
        exact hown2
      have hbel2:Below B w1 w3:=(hbel.alloc (by omega) _).grown hgrow2 (by simp; omega) (fun g hg=>(hrow.lt g hg).1)
      clear hown2 hgrow2 hrow
      go_wp2
      go_roundw
      case rel=>exact ⟨j+1,by omega,by go_num,hrow2,hbel2⟩
      case measure=>simp [intOf]; omega
    · go_wp2
      go_ret
      have e:j=k:=by omega
      subst e
      rw [Nat.sub_self,Nat.pow_zero,Nat.div_one,List.append_assoc,List.singleton_append] at hrow
      refine ⟨_,rfl,?_,hbel⟩
      rw [Code.numL,HK.out]
      exact hrow
end
section
open Go.RowKit
theorem strCells_mk (l:List UInt8):Lib.strCells ⟨l.toArray⟩=cellsL l:=by simp [Lib.strCells,cellsL]
theorem addText_any (s:List UInt8) (B:Nat) (v:Value) (xs:List UInt8) (w:World) (hB:B<=w.heap.size) (hx:xs.length<=100000000) (hl:s.length<=100000000)
    (hown:w.ownsRow B 5 1 v xs.length (cellsL xs)):
    Calls Tryz.prog 177 #[v,.string ⟨s.toArray⟩] w fun e w'=>∃ v',e=.returned v'/\w'.ownsRow B 5 1 v' (xs ++ Code.textL s).length (cellsL (xs ++ Code.textL s))/\Below B w w':=by
  obtain ⟨i0,hi,hz0,hz1,hz2⟩:=info_parts Tryz.infoByte
  go_enter Tryz.func177,Tryz.ntmps177
  go_wp2_with fail
  refine (addNum_any s.length (by omega) B v xs w hB hx hown).mono ?_
  rintro e w1 ⟨v',rfl,hown1,hbel⟩
  have hb:=hbel.size
  have hlen:(xs ++ Code.numL s.length).length<=100000010:=by
    have:=Code.sz_le8 s.length (by omega)
    have:=Code.numL_length s.length
    rw [List.length_append]; omega
  obtain ⟨ys,hys⟩:∃ ys,xs ++ Code.numL s.length=ys:=⟨_,rfl⟩
  rw [hys] at hown1 hlen
  have HY:=qh hys
  clear hys hown
  go_wp2_with ((at_builtin; refine Lib.wpList_append_own_string _ rfl _ _ 126 9 rfl B 5 i0 Tryz.underlying126 Tryz.underlying9 hi hz0 hz1 hz2 v' ys.length (cellsL ys) rfl hown1 ⟨s.toArray⟩ rfl ?c3 ?c4 ?c5 ?_))
  case c3=>rw [size_of_list]; unfold maxLen; omega
  case c4=>rw [size_of_list]; omega
  case c5=>omega
  intro v2 w2 hown2 hgrow2 _
  rw [strCells_mk] at hown2
  have hrow:w2.ownsRow B 5 1 v2 (xs ++ Code.textL s).length (cellsL (xs ++ Code.textL s)):=by
    rw [Code.textL,← List.append_assoc,HY.out,List.length_append,cellsL_append]
    exact hown2
  have hbel2:Below B w w2:=hbel.grown hgrow2 (by omega) (fun g hg=>(hown1.lt g hg).1)
  clear hown2 hgrow2
  go_wp2
  go_ret
  exact ⟨_,rfl,hrow,hbel2⟩
theorem text_any (s:List UInt8) (w:World) (hl:s.length<=100000000):
    Calls Tryz.prog 159 #[.string ⟨s.toArray⟩] w fun e w'=>e=.returned (.string ⟨(Code.textL s).toArray⟩)/\Below w.heap.size w w':=by
  go_enter Tryz.func159,Tryz.ntmps159
  go_wp2_with fail
  refine (addText_any s w.heap.size _ [] w (Nat.le_refl _) (by simp) hl (ownsNil w _)).mono ?_
  rintro e w1 ⟨v',rfl,hown,hbel⟩
  have hc:=conv_own hown
  go_wp2
  go_ret
  exact ⟨rfl,hbel⟩
end
section
open Go.Shelf Go.RowKit
def lays156_ren:Go.Shelf.Ren:=⟨fun | 156=>161 | 165=>178 | 166=>179 | 169=>180 | 240=>187 | 241=>188 | 276=>193 | 277=>194 | n=>n,fun | 31=>29 | 9=>9 | 3=>3 | 4=>4 | 0=>0 | 20=>20 | 72=>227 | 76=>231 | 70=>225 | 37=>126 | 75=>230 | 127=>164 | 164=>241 | 5=>5 | 80=>47 | n=>n,fun | n=>n⟩
theorem lays156:Go.Proofs.Lays.n156 Tryz.prog lays156_ren:={
  mixed:=by kernel_rfl
  f156:=Tryz.func161.trans (congrArg some (by kernel_rfl))
  f165:=Tryz.func178.trans (congrArg some (by kernel_rfl))
  f166:=Tryz.func179.trans (congrArg some (by kernel_rfl))
  f169:=Tryz.func180.trans (congrArg some (by kernel_rfl))
  f240:=Tryz.func187.trans (congrArg some (by kernel_rfl))
  f241:=Tryz.func188.trans (congrArg some (by kernel_rfl))
  f276:=Tryz.func193.trans (congrArg some (by kernel_rfl))
  f277:=Tryz.func194.trans (congrArg some (by kernel_rfl))
  t0:=Tryz.underlying0
  a0:=Tryz.isAgg0
  z0:=Tryz.sizeOf0
  v0:=Tryz.zeroValue0
  t3:=Tryz.underlying3
  a3:=Tryz.isAgg3
  z3:=Tryz.sizeOf3
  v3:=Tryz.zeroValue3
  t4:=Tryz.underlying4
  a4:=Tryz.isAgg4
  z4:=Tryz.sizeOf4
  v4:=Tryz.zeroValue4
  t9:=Tryz.underlying9
  a9:=Tryz.isAgg9
  z9:=Tryz.sizeOf9
  v9:=Tryz.zeroValue9
  t20:=Tryz.underlying20
  a20:=Tryz.isAgg20
  z20:=Tryz.sizeOf20
  v20:=Tryz.zeroValue20
  t31:=Tryz.underlying29
  a31:=Tryz.isAgg29
  z31:=Tryz.sizeOf29
  v31:=Tryz.zeroValue29
  t37:=Tryz.underlying126
  a37:=Tryz.isAgg126
  z37:=Tryz.sizeOf126
  v37:=Tryz.zeroValue126
  t70:=Tryz.underlying225
  a70:=Tryz.isAgg225
  z70:=Tryz.sizeOf225
  v70:=Tryz.zeroValue225
  t72:=Tryz.underlying227
  a72:=Tryz.isAgg227
  z72:=Tryz.sizeOf227
  v72:=Tryz.zeroValue227
  t75:=Tryz.underlying230
  a75:=Tryz.isAgg230
  z75:=Tryz.sizeOf230
  v75:=Tryz.zeroValue230
  t76:=Tryz.underlying231
  a76:=Tryz.isAgg231
  z76:=Tryz.sizeOf231
  v76:=Tryz.zeroValue231
  t127:=Tryz.underlying164
  a127:=Tryz.isAgg164
  z127:=Tryz.sizeOf164
  v127:=Tryz.zeroValue164
  t164:=Tryz.underlying241
  a164:=Tryz.isAgg241
  z164:=Tryz.sizeOf241
  v164:=Tryz.zeroValue241 }
theorem shelf_Builder_Extra_156:Builder.Extra Tryz.prog lays156_ren:={
  sizeBuilder:=by kernel_rfl
  liesBuilder:=by kernel_rfl
  t5:=Tryz.underlying5
  a5:=Tryz.isAgg5
  z5:=Tryz.sizeOf5
  v5:=Tryz.zeroValue5
  infoByte:=by kernel_rfl
  cellsByte:=by kernel_rfl
  sizeByte:=by kernel_rfl
  neB5:=by decide }
open Go.RowKit in
theorem shelf_strings_Join (bk o c:Nat) (xs:List ByteArray) (sep:ByteArray) (w:World) (hcells:∀ (j:Nat) x,xs[j]?=some x->w.cell? ⟨bk,o+j,none⟩=some (.string x)) (hbk:bk < w.heap.size) (hN:xs.length<=140737488355328) (hcap:xs.length<=c) (hlen:(Lib.join (xs.map (·.data.toList)) sep.data.toList).length<=140737488355328):
    Calls Tryz.prog 161 #[.slice (some ⟨bk,o,none⟩) xs.length c,.string sep] w fun e w'=>e=.returned (.string ⟨(Lib.join (xs.map (·.data.toList)) sep.data.toList).toArray⟩)/\Below w.heap.size w w':=Any.strings_Join lays156 shelf_Builder_Extra_156 bk o c xs sep w hcells hbk hN hcap hlen
end
section
open Go.RowKit
open Go.Proofs.YtaficmboooaknaaGreatDoor.Nd (N)
theorem npacked_any (p:List UInt8) (leaf:Bool) (w:World) (hp:p.length<=16) (hf:Nib.fitL p=true):
    Calls Tryz.prog 158 #[.string ⟨p.toArray⟩,.bool leaf] w fun e w'=>e=.returned (.string ⟨(Code.textL (Nib.packL p leaf)).toArray⟩)/\Below w.heap.size w w':=by
  have HPK:=qh (fun w=>pack_good p leaf w (by omega) hf)
  have hl:(Nib.packL p leaf).length<=9:=by rw [Nib.packL_length]; omega
  have HT:=qh (fun w=>text_any (Nib.packL p leaf) w (by omega))
  clear hp hf hl
  go_enter Tryz.func158,Tryz.ntmps158
  go_wp2_with fail
  refine (HPK.out _).mono ?_
  rintro e w1 ⟨rfl,hb1⟩
  go_wp2_with fail
  refine (HT.out _).mono ?_
  rintro e w2 ⟨rfl,hb2⟩
  have HB:=qh (bchain hb1 hb2)
  go_wp2
  go_ret
  exact ⟨rfl,HB.out⟩
theorem Nd.bits8_step (l:List (List UInt8)) (k:Nat) (hk:k < l.length):Nd.bits8 (l.take (k+1))=Nd.bits8 (l.take k) * 2+if l[k]=[] then 0 else 1:=by
  unfold Nd.bits8
  rw [List.take_succ_eq_append_getElem hk,List.foldl_append]
  rfl
theorem Nd.bits8_app (a b:List (List UInt8)):Nd.bits8 (a ++ b)=Nd.bits8 a * 2 ^ b.length+Nd.bits8 b:=by
  have key:∀ (b:List (List UInt8)) (s:Nat),b.foldl (fun a k=>a * 2+if k=[] then 0 else 1) s=s * 2 ^ b.length+b.foldl (fun a k=>a * 2+if k=[] then 0 else 1) 0:=by
    intro b
    induction b with
    | nil=>intro s; simp
    | cons x b ih=>
      intro s
      rw [List.foldl_cons,List.foldl_cons,ih (s * 2+_),ih (0 * 2+_),List.length_cons,Nat.pow_succ]
      generalize (if x=[] then 0 else 1)=q
      rw [Nat.add_mul,Nat.zero_mul,Nat.zero_add,Nat.mul_assoc s 2,Nat.mul_comm 2]
      omega
  unfold Nd.bits8
  rw [List.foldl_append]
  exact key b _
theorem Nd.bits16 (L:List (List UInt8)) (hL:L.length=16):Nd.bits8 L=Nd.bits8 (L.take 8) * 256+Nd.bits8 (L.drop 8)/\Nd.bits8 (L.take 8) < 256/\Nd.bits8 (L.drop 8) < 256:=by
  have h:=Nd.bits8_app (L.take 8) (L.drop 8)
  have hd:(L.drop 8).length=8:=by rw [List.length_drop,hL]
  rw [List.take_append_drop,hd] at h
  exact ⟨h,Nd.bits8_lt _ (by rw [List.length_take,hL]; rfl),Nd.bits8_lt _ hd⟩
theorem or_one (b:Nat) (h:b < 65536):bits .or .i64 ((b:Int) * 2) 1=((b * 2+1:Nat):Int):=by
  have h3:=i64_or_nat (b * 2) 1 (by omega) (by decide)
  have h4:b * 2 ||| 1=b * 2+1:=by
    have h5:=Nat.shiftLeft_add_eq_or_of_lt (show 1 < 2 ^ 1 by decide) b
    rw [Nat.shiftLeft_eq] at h5
    exact h5.symm
  rw [h4,Int.natCast_mul] at h3
  exact h3
theorem ntaken_any (L:List (List UInt8)) (w:World) (hL:L.length=16):
    Calls Tryz.prog 160 #[aval L] w fun e w'=>e=.returned (.string ⟨[Nd.byteN (Nd.bits8 (L.take 8)),Nd.byteN (Nd.bits8 (L.drop 8))].toArray⟩)/\Below w.heap.size w w':=by
  unfold aval
  have HKE:Hid (∀ (k:Nat) (hk:k < 16),∀ w,(Instr.index 108 (.agg (scells L).toArray) (.int .i64 k)).run Tryz.prog w=.ok (.string ⟨(L[k]'(by omega)).toArray⟩) w):=qh (fun k hk w=>idx_strs L hL k hk w)
  have hcs:(scells L).toArray.size=16:=by rw [List.size_toArray,scells_length,hL]
  have HI:Hid ((Tryz.prog.info? 108).map (·.size)=some (scells L).toArray.size):=qh (by rw [hcs]; kernel_rfl)
  have HRO:Hid ((w.alloc (.cells (scells L).toArray 108)).heap[w.heap.size]?=some (.cells (scells L).toArray 108 (0,0))):=qh (heap_new_at w _ _ rfl)
  have HB:Hid (Below w.heap.size w (w.alloc (.cells (scells L).toArray 108))):=qh ((Below.refl _ w).alloc (Nat.le_refl _) _)
  obtain ⟨C,hC⟩:∃ C,(scells L).toArray=C:=⟨_,rfl⟩
  rw [hC] at HI HRO HB HKE ⊢
  have HN:=qh hL
  clear hC hcs
  go_enter Tryz.func160,Tryz.ntmps160
  go_wp2_with (refine wpList_load_row (by rfl) _ _ (by rfl) w.heap.size (by rfl) _ C _ _ HRO.out Tryz.underlying108 (by rfl) HI.out ?_)
  generalize (w.alloc (.cells C 108))=w0 at *
  go_loopw [3,7] (fun b i wr=>∃ k c:Nat,k<=16/\i=.int .i64 k/\b=.int .i64 c/\c=Nd.bits8 (L.take k)/\c < 2 ^ k/\wr=w0) (fun _ i _=>16 - (intOf i).toNat)
  case atStart=>exact ⟨0,0,Nat.zero_le _,rfl,rfl,rfl,by decide,rfl⟩
  case round=>
    obtain ⟨k,c,hk,rfl,rfl,hc,hc2,rfl⟩:=hrel
    have HC:=qh hc
    have hcb:(c:Int) < 65536:=by
      have h1:2 ^ k<=2 ^ 16:=Nat.pow_le_pow_right (by decide) hk
      have h2:(2:Nat) ^ 16=65536:=rfl
      omega
    have hc0:(0:Int)<=(c:Int):=by omega
    have HC2:=qh hc2
    clear hc hc2
    by_cases hlt:k < 16
    · have h1:(k:Int) < 16:=by omega
      have h0:(0:Int)<=(k:Int):=by omega
      have n0:=HKE.out k hlt
      have HST:=qh (Nd.bits8_step L k (by have:=HN.out; omega))
      obtain ⟨x,hx⟩:∃ x,L[k]'(by have:=HN.out; omega)=x:=⟨_,rfl⟩
      rw [hx] at n0 HST
      clear hx
      by_cases he:x=[]
      · subst he
        rw [if_pos rfl] at HST
        go_wp2
        exact ⟨⟨k+1,c * 2,by omega,by go_num,by go_num,by rw [HST.out,HC.out]; rfl,by rw [Nat.pow_succ]; have:=HC2.out; omega,trivial⟩,by simp [intOf]; omega⟩
      · rw [if_neg he] at HST
        have he1:(x == [])=false:=by rw [beq_eq_false_iff_ne]; exact he
        have ho:=or_one c (by omega)
        go_wp2
        exact ⟨⟨k+1,c * 2+1,by omega,by go_num,by go_num,by rw [HST.out,HC.out],by rw [Nat.pow_succ]; have:=HC2.out; omega,trivial⟩,by simp [intOf]; omega⟩
    · have h1:¬ ((k:Int) < 16):=by omega
      obtain rfl:k=16:=by omega
      rw [List.take_of_length_le (by have:=HN.out; omega)] at HC
      obtain ⟨b1,b2,b3⟩:=Nd.bits16 L HN.out
      rw [← HC.out] at b1
      obtain ⟨h,hh⟩:∃ h,Nd.bits8 (L.take 8)=h:=⟨_,rfl⟩
      obtain ⟨l,hll⟩:∃ l,Nd.bits8 (L.drop 8)=l:=⟨_,rfl⟩
      have HH:=qh hh
      have HL:=qh hll
      rw [hh,hll] at b1
      rw [hh] at b2
      rw [hll] at b3
      have kc:=conv_two' wr (Nd.byteN h) (Nd.byteN l) ((c:Int) / 256) ((c:Int) % 256) (by rw [Nd.byteN,Code.ofNat_toNat _ b2]; omega) (by rw [Nd.byteN,Code.ofNat_toNat _ b3]; omega)
      clear hh hll b1 b2 b3
      go_wp2
      go_ret
      exact ⟨by rw [HH.out,HL.out]; rfl,HB.out.alloc HB.out.size _⟩
theorem Nd.join_flat (l:List (List UInt8)):Lib.join l []=l.flatten:=by
  induction l with
  | nil=>rfl
  | cons a l ih=>
    rw [Lib.join_cons,List.flatten_cons]
    simp [Lib.joinTail]
theorem njoin_any (L:List (List UInt8)) (g:Nat) (w:World) (hL:L.length=16) (hg:g < w.heap.size) (hr:w.rangeAt g 3 (scells L)) (hl:L.flatten.length<=1000000):
    Calls Tryz.prog 161 #[.slice (some ⟨g,3,none⟩) 16 16,.string ⟨#[]⟩] w fun e w'=>e=.returned (.string ⟨L.flatten.toArray⟩)/\Below w.heap.size w w':=by
  have h1:(L.map fun l=>(⟨l.toArray⟩:ByteArray)).length=16:=by rw [List.length_map,hL]
  have h2:(L.map fun l=>(⟨l.toArray⟩:ByteArray)).map (·.data.toList)=L:=by
    rw [List.map_map]
    exact (List.map_congr_left (fun a _=>by simp)).trans (List.map_id _)
  have h3:=shelf_strings_Join g 3 16 (L.map fun l=>⟨l.toArray⟩) ⟨#[]⟩ w (fun j x hx=>by
    rw [List.getElem?_map] at hx
    obtain ⟨l,hl1,rfl⟩:=Option.map_eq_some_iff.1 hx
    exact hr j _ (by simp [scells,hl1])) hg (by rw [h1]; omega) (by rw [h1]; omega) (by
    rw [h2]
    show (Lib.join L []).length<=_
    rw [Nd.join_flat]
    omega)
  rw [h1,h2] at h3
  rw [← Nd.join_flat]
  exact h3
theorem Nd.all32_flat (l:List (List UInt8)) (h:Nd.all32 l=true):l.flatten.length<=32 * l.length:=by
  induction l with
  | nil=>simp
  | cons a l ih=>
    rw [Nd.all32_cons,Bool.and_eq_true] at h
    have h1:=ih h.2
    have h2:a.length<=32:=by
      have:=h.1
      simp only [Bool.or_eq_true,decide_eq_true_eq] at this
      rcases this with q | q
      · rw [q]; simp
      · omega
    rw [List.flatten_cons,List.length_append,List.length_cons]
    omega
theorem Nd.fine_parts {n:N} (h:Nd.fine n=true):Nd.all32 n.kids=true/\Nib.fitL n.path=true/\n.path.length<=16/\n.val.length<=32/\(n.kind=1 ∨ n.kind=2 ∨ n.kind=3):=by
  simp only [Nd.fine,Bool.and_eq_true,decide_eq_true_eq] at h
  obtain ⟨a,b,c,d,e⟩:=h
  refine ⟨a,b,c,d,?_⟩
  by_cases k1:n.kind=1
  · exact Or.inl k1
  by_cases k2:n.kind=2
  · exact Or.inr (Or.inl k2)
  by_cases k3:n.kind=3
  · exact Or.inr (Or.inr k3)
  rw [if_neg k1,if_neg k2,if_neg k3] at e
  cases e
theorem Code.textL_le' (s:List UInt8) (n:Nat) (h:s.length<=n) (hn:n<=100):(Code.textL s).length<=n+9:=by
  rw [Code.textL,List.length_append,Code.numL_length]
  have:Code.sz s.length<=8:=Code.sz_le8 s.length (by omega)
  omega
end
section
open Go.RowKit
open Go.Proofs.YtaficmboooaknaaGreatDoor.Nd (N)
attribute [local go_sem ↓] Go.wp_at_zero Go.wp_at_succ
def load16 (v:Value):Sem Value:=Instr.loadAt 108 v
theorem wp_load16 {P:Program} {dst:Option Tmp} {x:Operand} {ty:TypeId} {pos:String} {after:Array Edge} {guard:Option (Nat × Bool)} {a:Act} {w:World} {K:Act->World->Prop} {Q:Exit->Act->World->Prop} :
    Oper.wp P { dst:=dst,op:=.load 108 x,type:=ty,pos:=pos,after:=after,guard:=guard } a w K Q=Oper.upon P { dst:=dst,op:=.load 108 x,type:=ty,pos:=pos,after:=after,guard:=guard } a K Q (((load16 (a.eval x)).run P w).andThen fun v w'=>.ok (.value v) w'):=by
  unfold Oper.wp execOp load16
  simp only [Sem.run_bind,Sem.run_pure]
attribute [local go_sem ↓] wp_load16
theorem run_l16 {w:World} {g o:Nat} {L:List (List UInt8)} (hc:w.rangeAt g o (scells L)) (hi:(Tryz.prog.info? 108).map (·.size)=some (scells L).length):(load16 (.pointer (some ⟨g,o,none⟩))).run Tryz.prog w=.ok (aval L) w:=
  run_loadAt_mid (P:=Tryz.prog) w g o 108 (scells L) _ hc Tryz.underlying108 rfl hi
def Nd.encS (n:N):List UInt8:=if Nd.fine n then Nd.written n else []
def Nd.encC (n:N):Int:=if Nd.fine n then 0 else 80
theorem nencode_any (n:N) (w:World) (hn:n.kids.length=16):
    Calls Tryz.prog 130 #[ndval n] w fun e w'=>e=.returned (.tuple #[.string ⟨(Nd.encS n).toArray⟩,.int .i64 (Nd.encC n)])/\Below w.heap.size w w':=by
  obtain ⟨C,hC,HB0,HCE,HI,HI2⟩:=nbox n w hn
  have HCK:=qh (fun w=>ncheck_any n w hn)
  unfold Nd.encS Nd.encC
  unfold ndval at HCK ⊢
  rw [hC] at HCK ⊢
  clear hC
  obtain ⟨-,-,-,-,-,cR⟩:=HCE.out _ (Below.refl _ _)
  have HRO:=qh cR
  clear cR
  cases hf:Nd.fine n with
  | false=>
    rw [hf] at HCK
    rw [if_neg (by decide),if_neg (by decide)]
    rw [if_neg (by decide)] at HCK
    clear hf
    go_enter Tryz.func130,Tryz.ntmps130
    go_wp2_with (refine wpList_load_row (by rfl) _ _ (by rfl) w.heap.size (by rfl) _ C _ _ HRO.out Tryz.underlying110 (by rfl) HI.out ?_)
    refine (HCK.out _).mono ?_
    rintro e w1 ⟨rfl,hb1⟩
    go_wp2
    go_ret2
    exact ⟨rfl,bchain HB0.out hb1⟩
  | true=>
    rw [hf] at HCK
    rw [if_pos rfl,if_pos rfl]
    rw [if_pos rfl] at HCK
    obtain ⟨hall,hfit,hp16,hv32,hkd⟩:=Nd.fine_parts hf
    have HTX:=qh (fun w=>text_any n.val w (by omega))
    have HPL:=qh (fun w=>npacked_any n.path true w hp16 hfit)
    have HPE:=qh (fun w=>npacked_any n.path false w hp16 hfit)
    have HTK:=qh (fun w=>ntaken_any n.kids w hn)
    have hfl:=Nd.all32_flat n.kids hall
    have HJN:=qh (fun g w hg hr=>njoin_any n.kids g w hn hg hr (by omega))
    have ht1:=Code.textL_le' (Nib.packL n.path true) 9 (by rw [Nib.packL_length]; omega) (by omega)
    have ht2:=Code.textL_le' (Nib.packL n.path false) 9 (by rw [Nib.packL_length]; omega) (by omega)
    have ht3:=Code.textL_le' n.val 32 hv32 (by omega)
    have hw:Nd.written n=if n.kind=3 then [3] ++ (([Nd.byteN (Nd.bits8 (n.kids.take 8)),Nd.byteN (Nd.bits8 (n.kids.drop 8))] ++ n.kids.flatten) ++ Code.textL n.val) else if n.kind=1 then [1] ++ (Code.textL (Nib.packL n.path true) ++ Code.textL n.val) else [2] ++ (Code.textL (Nib.packL n.path false) ++ n.kids.getD 0 []):=by
      unfold Nd.written Nd.branchL
      rcases hkd with k | k | k <;> rw [k] <;> simp
    rw [hw]
    have hz32:(n.kids.getD 0 []).length<=32:=by
      have:=List.all_eq_true.1 hall (n.kids[0]'(by omega)) (List.getElem_mem _)
      rw [List.getD_eq_getElem?_getD,List.getElem?_eq_getElem (by omega)]
      simp only [Bool.or_eq_true,decide_eq_true_eq] at this
      show (n.kids[0]'(by omega)).length<=32
      rcases this with q | q
      · rw [q]; simp
      · omega
    clear hw hall hfit hp16 hv32 hf
    rcases hkd with hk | hk | hk
    · rw [if_neg (by rw [hk]; decide),if_pos hk]
      have HCF:Hid (∀ w',Below (w.alloc (.cells C 110)).heap.size (w.alloc (.cells C 110)) w'->w'.cell? ⟨w.heap.size,0,none⟩=some (.int .i64 1)/\w'.cell? ⟨w.heap.size,1,none⟩=some (.string ⟨n.path.toArray⟩)/\w'.cell? ⟨w.heap.size,2,none⟩=some (.string ⟨n.val.toArray⟩)):=qh (fun w' h=>by obtain ⟨a,b,c,-⟩:=HCE.out w' h; rw [hk] at a; exact ⟨a,b,c⟩)
      obtain ⟨T1,hT1⟩:∃ T,Code.textL (Nib.packL n.path true)=T:=⟨_,rfl⟩
      obtain ⟨T2,hT2⟩:∃ T,Code.textL n.val=T:=⟨_,rfl⟩
      rw [hT1] at HPL ht1 ⊢
      rw [hT2] at HTX ht3 ⊢
      have h1:=cat_mk T1 T2
      have h2:=cat_mk [1] (T1 ++ T2)
      have hX1:(T1 ++ T2).length<=59:=by rw [List.length_append]; omega
      have hY1:([1] ++ (T1 ++ T2):List UInt8).length<=60:=by rw [List.length_append]; simp only [List.length_singleton]; omega
      obtain ⟨X,hX⟩:∃ X,T1 ++ T2=X:=⟨_,rfl⟩
      rw [hX] at h1 h2 hX1 hY1 ⊢
      obtain ⟨Y,hY⟩:∃ Y,([1] ++ X:List UInt8)=Y:=⟨_,rfl⟩
      rw [hY] at h2 hY1 ⊢
      clear hT1 hT2 hX hY HPE HTK HJN hz32 ht2 hfl
      go_enter Tryz.func130,Tryz.ntmps130
      go_wp2_with (refine wpList_load_row (by rfl) _ _ (by rfl) w.heap.size (by rfl) _ C _ _ HRO.out Tryz.underlying110 (by rfl) HI.out ?_)
      refine (HCK.out _).mono ?_
      rintro e w1 ⟨rfl,hb1⟩
      generalize (w.alloc (.cells C 110))=w0 at *
      have hb2:Below w0.heap.size w0 (w1.alloc (.cells #[.int .u8 1] 5)):=hb1.alloc hb1.size _
      obtain ⟨c0,c1,c2⟩:=HCF.out _ hb1
      obtain ⟨d0,d1,d2⟩:=HCF.out _ hb2
      have HB1:=qh hb1
      have HFI:Hid (∀ w',Below w0.heap.size w0 w'->Below w.heap.size w w'):=qh (fun w' h=>bchain HB0.out h)
      have HBD:=qh hb2.drew
      have HPL':Hid (∀ w',Below w0.heap.size w0 w'->Calls Tryz.prog 158 #[.string ⟨n.path.toArray⟩,.bool true] w' fun e w''=>e=.returned (.string ⟨T1.toArray⟩)/\Below w0.heap.size w0 w''):=qh (fun w' h=>(HPL.out w').mono fun e w'' q=>⟨q.1,h.trans (q.2.mono h.size)⟩)
      have HTX':Hid (∀ w',Below w0.heap.size w0 w'->Calls Tryz.prog 159 #[.string ⟨n.val.toArray⟩] w' fun e w''=>e=.returned (.string ⟨T2.toArray⟩)/\Below w0.heap.size w0 w''):=qh (fun w' h=>(HTX.out w').mono fun e w'' q=>⟨q.1,h.trans (q.2.mono h.size)⟩)
      have kc:=conv_one' w1 1 1 rfl w1.heap.size rfl
      clear hb1 hb2
      go_wp2
      have BD:=HBD.out
      go_region_with (first | (go_at_call 158; refine (HPL'.out _ (by with_reducible assumption)).mono ?_; rintro e w2 ⟨rfl,hb2⟩; have e1:=(HCF.out _ hb2).2.1; have e2:=(HCF.out _ hb2).2.2) | (go_at_call 159; refine (HTX'.out _ (by with_reducible assumption)).mono ?_; rintro e w3 ⟨rfl,hb3⟩; have f1:=(HCF.out _ hb3).2.1; have f2:=(HCF.out _ hb3).2.2))
      all_goals
        go_wp2
        go_ret2
        first | exact ⟨rfl,HFI.out _ hb3⟩ | exact ⟨rfl,HFI.out _ hb2⟩
    · rw [if_neg (by rw [hk]; decide),if_neg (by rw [hk]; decide)]
      have HCF:Hid (∀ w',Below (w.alloc (.cells C 110)).heap.size (w.alloc (.cells C 110)) w'->w'.cell? ⟨w.heap.size,0,none⟩=some (.int .i64 2)/\w'.cell? ⟨w.heap.size,1,none⟩=some (.string ⟨n.path.toArray⟩)/\w'.cell? ⟨w.heap.size,3,none⟩=some (.string ⟨(n.kids.getD 0 []).toArray⟩)):=qh (fun w' h=>by obtain ⟨a,b,-,c,-⟩:=HCE.out w' h; rw [hk] at a; exact ⟨a,b,c⟩)
      obtain ⟨T1,hT1⟩:∃ T,Code.textL (Nib.packL n.path false)=T:=⟨_,rfl⟩
      obtain ⟨T2,hT2⟩:∃ T,n.kids.getD 0 []=T:=⟨_,rfl⟩
      rw [hT1] at HPE ht2 ⊢
      rw [hT2] at HCF hz32 ⊢
      have h1:=cat_mk T1 T2
      have h2:=cat_mk [2] (T1 ++ T2)
      have hX1:(T1 ++ T2).length<=59:=by rw [List.length_append]; omega
      have hY1:([2] ++ (T1 ++ T2):List UInt8).length<=60:=by rw [List.length_append]; simp only [List.length_singleton]; omega
      obtain ⟨X,hX⟩:∃ X,T1 ++ T2=X:=⟨_,rfl⟩
      rw [hX] at h1 h2 hX1 hY1 ⊢
      obtain ⟨Y,hY⟩:∃ Y,([2] ++ X:List UInt8)=Y:=⟨_,rfl⟩
      rw [hY] at h2 hY1 ⊢
      clear hT1 hT2 hX hY HPL HTK HJN HTX ht1 ht3 hfl
      go_enter Tryz.func130,Tryz.ntmps130
      go_wp2_with (refine wpList_load_row (by rfl) _ _ (by rfl) w.heap.size (by rfl) _ C _ _ HRO.out Tryz.underlying110 (by rfl) HI.out ?_)
      refine (HCK.out _).mono ?_
      rintro e w1 ⟨rfl,hb1⟩
      generalize (w.alloc (.cells C 110))=w0 at *
      have hb2:Below w0.heap.size w0 (w1.alloc (.cells #[.int .u8 2] 5)):=hb1.alloc hb1.size _
      obtain ⟨c0,c1,c2⟩:=HCF.out _ hb1
      obtain ⟨d0,d1,d2⟩:=HCF.out _ hb2
      have HFI:Hid (∀ w',Below w0.heap.size w0 w'->Below w.heap.size w w'):=qh (fun w' h=>bchain HB0.out h)
      have HBD:=qh hb2.drew
      have HPL':Hid (∀ w',Below w0.heap.size w0 w'->Calls Tryz.prog 158 #[.string ⟨n.path.toArray⟩,.bool false] w' fun e w''=>e=.returned (.string ⟨T1.toArray⟩)/\Below w0.heap.size w0 w''):=qh (fun w' h=>(HPE.out w').mono fun e w'' q=>⟨q.1,h.trans (q.2.mono h.size)⟩)
      have kc:=conv_one' w1 2 2 rfl w1.heap.size rfl
      clear hb1 hb2
      go_wp2
      have BD:=HBD.out
      go_region_with (go_at_call 158; refine (HPL'.out _ (by with_reducible assumption)).mono ?_; rintro e w2 ⟨rfl,hb2⟩; have e1:=(HCF.out _ hb2).2.1; have e2:=(HCF.out _ hb2).2.2)
      all_goals
        go_wp2
        go_ret2
        exact ⟨rfl,HFI.out _ hb2⟩
    · rw [if_pos hk]
      have HCF:Hid (∀ w',Below (w.alloc (.cells C 110)).heap.size (w.alloc (.cells C 110)) w'->w'.cell? ⟨w.heap.size,0,none⟩=some (.int .i64 3)/\w'.cell? ⟨w.heap.size,2,none⟩=some (.string ⟨n.val.toArray⟩)/\(load16 (.pointer (some ⟨w.heap.size,3,none⟩))).run Tryz.prog w'=.ok (aval n.kids) w'):=qh (fun w' h=>by obtain ⟨a,-,b,-,c,-⟩:=HCE.out w' h; rw [hk] at a; exact ⟨a,b,run_l16 c HI2.out⟩)
      obtain ⟨AV,hAV⟩:∃ v,aval n.kids=v:=⟨_,rfl⟩
      rw [hAV] at HCF HTK
      obtain ⟨T1,hT1⟩:∃ T,[Nd.byteN (Nd.bits8 (n.kids.take 8)),Nd.byteN (Nd.bits8 (n.kids.drop 8))]=T:=⟨_,rfl⟩
      obtain ⟨J,hJ⟩:∃ T,n.kids.flatten=T:=⟨_,rfl⟩
      obtain ⟨T2,hT2⟩:∃ T,Code.textL n.val=T:=⟨_,rfl⟩
      have hT1l:T1.length=2:=by rw [← hT1]; rfl
      rw [hT1] at HTK ⊢
      rw [hJ] at HJN hfl ⊢
      rw [hT2] at HTX ht3 ⊢
      rw [hn] at hfl
      have h0:=cat_mk T1 J
      have h1:=cat_mk (T1 ++ J) T2
      have h2:=cat_mk [3] (T1 ++ J ++ T2)
      have hZ1:(T1 ++ J).length<=514:=by rw [List.length_append]; omega
      have hX1:(T1 ++ J ++ T2).length<=600:=by rw [List.length_append]; omega
      have hY1:([3] ++ (T1 ++ J ++ T2):List UInt8).length<=601:=by rw [List.length_append]; simp only [List.length_singleton]; omega
      obtain ⟨Z,hZ⟩:∃ Z,T1 ++ J=Z:=⟨_,rfl⟩
      rw [hZ] at h0 h1 h2 hZ1 hX1 hY1 ⊢
      obtain ⟨X,hX⟩:∃ X,Z ++ T2=X:=⟨_,rfl⟩
      rw [hX] at h1 h2 hX1 hY1 ⊢
      obtain ⟨Y,hY⟩:∃ Y,([3] ++ X:List UInt8)=Y:=⟨_,rfl⟩
      rw [hY] at h2 hY1 ⊢
      have hsz:w.heap.size < (w.alloc (.cells C 110)).heap.size:=by simp
      clear hT1 hT2 hJ hZ hX hY HPL HPE ht1 ht2 hz32 hAV
      go_enter Tryz.func130,Tryz.ntmps130
      go_wp2_with (refine wpList_load_row (by rfl) _ _ (by rfl) w.heap.size (by rfl) _ C _ _ HRO.out Tryz.underlying110 (by rfl) HI.out ?_)
      refine (HCK.out _).mono ?_
      rintro e w1 ⟨rfl,hb1⟩
      generalize (w.alloc (.cells C 110))=w0 at *
      have hb2:Below w0.heap.size w0 (w1.alloc (.cells #[.int .u8 3] 5)):=hb1.alloc hb1.size _
      obtain ⟨c0,c1,c2⟩:=HCF.out _ hb1
      obtain ⟨d0,d1,d2⟩:=HCF.out _ hb2
      have HFI:Hid (∀ w',Below w0.heap.size w0 w'->Below w.heap.size w w'):=qh (fun w' h=>bchain HB0.out h)
      have HBD:=qh hb2.drew
      have HTK':Hid (∀ w',Below w0.heap.size w0 w'->Calls Tryz.prog 160 #[AV] w' fun e w''=>e=.returned (.string ⟨T1.toArray⟩)/\Below w0.heap.size w0 w''):=qh (fun w' h=>(HTK.out w').mono fun e w'' q=>⟨q.1,h.trans (q.2.mono h.size)⟩)
      have HTX':Hid (∀ w',Below w0.heap.size w0 w'->Calls Tryz.prog 159 #[.string ⟨n.val.toArray⟩] w' fun e w''=>e=.returned (.string ⟨T2.toArray⟩)/\Below w0.heap.size w0 w''):=qh (fun w' h=>(HTX.out w').mono fun e w'' q=>⟨q.1,h.trans (q.2.mono h.size)⟩)
      have HJN':Hid (∀ w',Below w0.heap.size w0 w'->Calls Tryz.prog 161 #[.slice (some ⟨w.heap.size,3,none⟩) 16 16,.string ⟨#[]⟩] w' fun e w''=>e=.returned (.string ⟨J.toArray⟩)/\Below w0.heap.size w0 w''):=qh (fun w' h=>(HJN.out w.heap.size w' (Nat.lt_of_lt_of_le hsz h.size) (HCE.out w' h).2.2.2.2.1).mono fun e w'' q=>⟨q.1,h.trans (q.2.mono h.size)⟩)
      have kc:=conv_one' w1 3 3 rfl w1.heap.size rfl
      have e2:(load16 (.pointer (some ⟨w.heap.size,3,none⟩))).run Tryz.prog (w1.alloc (.cells #[.int .u8 3] 5)).drew=.ok AV (w1.alloc (.cells #[.int .u8 3] 5)).drew:=(HCF.out _ HBD.out).2.2
      clear hb1 hb2 hsz hn
      go_wp2
      have BD:=HBD.out
      go_region_with (first | (go_at_call 160; refine (HTK'.out _ (by with_reducible assumption)).mono ?_; rintro e w2 ⟨rfl,hb2⟩; have e1:=(HCF.out _ hb2).2.1; have e2:=(HCF.out _ hb2).2.2) | (go_at_call 161; refine (HJN'.out _ (by with_reducible assumption)).mono ?_; rintro e w3 ⟨rfl,hb3⟩; have f1:=(HCF.out _ hb3).2.1; have f2:=(HCF.out _ hb3).2.2) | (go_at_call 159; refine (HTX'.out _ (by with_reducible assumption)).mono ?_; rintro e w4 ⟨rfl,hb4⟩; have q1:=(HCF.out _ hb4).2.1; have q2:=(HCF.out _ hb4).2.2))
      all_goals
        go_wp2
        go_ret2
        first | exact ⟨rfl,HFI.out _ hb4⟩ | exact ⟨rfl,HFI.out _ hb3⟩ | exact ⟨rfl,HFI.out _ hb2⟩
end
end Go.Proofs.YtaficmboooaknaaGreatDoor
