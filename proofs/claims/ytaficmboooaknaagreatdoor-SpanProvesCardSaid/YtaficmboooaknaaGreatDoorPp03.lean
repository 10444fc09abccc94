import Derived.Test.YtaficmboooaknaaGreatDoorPp01
import Derived.Test.YtaficmboooaknaaGreatDoorPp02
import Derived.OneCell
import Derived.Lib.Hide
import Derived.WalkSpells
import Derived.WalkLawsBesides
import Derived.Lib.Strings
import Derived.Maps.Keyed
import Derived.SizedLaws
import Derived.DeepKeys4
import Derived.Deep.AppendLies
import Derived.Deep.QuietTactic
import Derived.BigQuiet
import Derived.Deep.WholeRow
import Derived.Deep.MidRow
import Derived.Laws.CopyOwn
import Derived.Deep.RegionHeld3
import Derived.Deep.DrawnRows
import Derived.Deep.Cut
import Derived.Deep.CutRange
set_option maxRecDepth 100000
set_option maxHeartbeats 16000000
namespace Go.Proofs.YtaficmboooaknaaGreatDoor
section
open Go.RowKit
def Rd (w:World) (g:Nat) (s:List UInt8) (c:Int):Prop:=w.heap[g]?=some (.cells #[.string ⟨s.toArray⟩,.int .i64 c] 193 (0,0))
theorem Rd.lt {w:World} {g:Nat} {s:List UInt8} {c:Int} (h:Rd w g s c):g < w.heap.size:=lt_of_block h
theorem Rd.left {w:World} {g:Nat} {s:List UInt8} {c:Int} (h:Rd w g s c):w.cell? ⟨g,0,none⟩=some (.string ⟨s.toArray⟩):=by unfold Rd at h; simp [World.cell?,h]
theorem Rd.code {w:World} {g:Nat} {s:List UInt8} {c:Int} (h:Rd w g s c):w.cell? ⟨g,1,none⟩=some (.int .i64 c):=by unfold Rd at h; simp [World.cell?,h]
theorem Rd.free0 {w:World} {g:Nat} {s:List UInt8} {c:Int} (h:Rd w g s c):w.frozen? ⟨g,0,none⟩=false:=by unfold Rd at h; simp [World.frozen?,h]
theorem Rd.free1 {w:World} {g:Nat} {s:List UInt8} {c:Int} (h:Rd w g s c):w.frozen? ⟨g,1,none⟩=false:=by unfold Rd at h; simp [World.frozen?,h]
theorem Rd.setLeft {w:World} {g:Nat} {s:List UInt8} {c:Int} (h:Rd w g s c) (t:List UInt8):Rd (w.setCell ⟨g,0,none⟩ (.string ⟨t.toArray⟩)) g t c:=by
  have hlt:=h.lt
  unfold Rd at h
  have h':w.heap[g]=.cells #[.string ⟨s.toArray⟩,.int .i64 c] 193 (0,0):=by simpa [Array.getElem?_eq_getElem hlt] using h
  show (w.heap.modify g _)[g]?=_
  rw [Array.getElem?_eq_getElem (by simpa using hlt),Array.getElem_modify_self,h']
  rfl
theorem Rd.setCode {w:World} {g:Nat} {s:List UInt8} {c:Int} (h:Rd w g s c) (d:Int):Rd (w.setCell ⟨g,1,none⟩ (.int .i64 d)) g s d:=by
  have hlt:=h.lt
  unfold Rd at h
  have h':w.heap[g]=.cells #[.string ⟨s.toArray⟩,.int .i64 c] 193 (0,0):=by simpa [Array.getElem?_eq_getElem hlt] using h
  show (w.heap.modify g _)[g]?=_
  rw [Array.getElem?_eq_getElem (by simpa using hlt),Array.getElem_modify_self,h']
  rfl
theorem Rd.new (w:World) (s:List UInt8) (c:Int):Rd (w.alloc (.cells #[.string ⟨s.toArray⟩,.int .i64 c] 193)) w.heap.size s c:=heap_alloc_new w _
theorem Rd.below {w w':World} {g:Nat} {s:List UInt8} {c:Int} (h:Rd w g s c) (hb:Below w.heap.size w w'):Rd w' g s c:=(hb.block g h.lt).trans h
end
section
open Go.RowKit
theorem read_any (s:List UInt8) (w:World):
    Calls Tryz.prog 108 #[.string ⟨s.toArray⟩] w fun e w'=>e=.returned (.pointer (some ⟨w.heap.size,0,none⟩))/\Rd w' w.heap.size s 0/\Below w.heap.size w w':=by
  go_enter Tryz.func108,Tryz.ntmps108
  go_wp2
  go_ret
  exact ⟨rfl,Rd.new w s 0,(Below.refl _ w).alloc (Nat.le_refl _) _⟩
theorem i64_or_nat (a b:Nat) (ha:a < 9223372036854775808) (hb:b < 9223372036854775808):bits .or .i64 (a:Int) (b:Int)=((a ||| b:Nat):Int):=by
  have hx:a ||| b < 2 ^ 63:=Nat.or_lt_two_pow (by omega) (by omega)
  show IntKind.i64.wrap ((BitVec.ofInt 64 (a:Int) ||| BitVec.ofInt 64 (b:Int)).toNat:Int)=_
  rw [BitVec.toNat_or,BitVec.ofInt_natCast,BitVec.toNat_ofNat,BitVec.ofInt_natCast,BitVec.toNat_ofNat,Nat.mod_eq_of_lt (by omega),Nat.mod_eq_of_lt (by omega)]
  simp only [IntKind.wrap,IntKind.bits,IntKind.signed]
  simp
  omega
theorem or_low (a b:Nat) (hb:b < 256):a * 256 ||| b=a * 256+b:=by
  have:=Nat.two_pow_add_eq_or_of_lt (i:=8) (b:=b) (by omega) a
  rw [Nat.mul_comm] at this
  exact this.symm
theorem lead_nil (w:World):Calls Tryz.prog 167 #[.string ⟨#[]⟩] w fun e w'=>e=.returned (.tuple #[.int .i64 0,.int .i64 0,.int .i64 20])/\w'=w:=by
  go_enter Tryz.func167,Tryz.ntmps167
  go_wp2
  go_ret3
  exact ⟨rfl,rfl⟩
theorem lead_big (c:UInt8) (r:List UInt8) (w:World) (hc:c.toNat > 8):Calls Tryz.prog 167 #[.string ⟨(c :: r).toArray⟩] w fun e w'=>e=.returned (.tuple #[.int .i64 0,.int .i64 0,.int .i64 3])/\w'=w:=by
  have hh:∀ h,(⟨(c :: r).toArray⟩:ByteArray)[0]'h=c:=fun _=>rfl
  have hcb:=c.toNat_lt
  have hc1:(c.toNat:Int) > 8:=by omega
  clear hc
  go_enter Tryz.func167,Tryz.ntmps167
  go_wp2
  go_ret3
  exact ⟨rfl,rfl⟩
theorem lead_short (c:UInt8) (r:List UInt8) (w:World) (hc:c.toNat<=8) (hr:r.length < c.toNat) (hl:r.length<=100000000):Calls Tryz.prog 167 #[.string ⟨(c :: r).toArray⟩] w fun e w'=>e=.returned (.tuple #[.int .i64 0,.int .i64 0,.int .i64 20])/\w'=w:=by
  have hh:∀ h,(⟨(c :: r).toArray⟩:ByteArray)[0]'h=c:=fun _=>rfl
  have hc1:¬ ((c.toNat:Int) > 8):=by omega
  have hc2:(r.length:Int) < (c.toNat:Int):=by omega
  go_enter Tryz.func167,Tryz.ntmps167
  go_wp2
  go_ret3
  exact ⟨rfl,rfl⟩
theorem lead_zero (r:List UInt8) (w:World) (hl:r.length<=100000000):Calls Tryz.prog 167 #[.string ⟨((0:UInt8) :: r).toArray⟩] w fun e w'=>e=.returned (.tuple #[.int .i64 0,.int .i64 1,.int .i64 0])/\w'=w:=by
  have hh:∀ h,(⟨((0:UInt8) :: r).toArray⟩:ByteArray)[0]'h=0:=fun _=>rfl
  go_enter Tryz.func167,Tryz.ntmps167
  go_wp2
  go_loop [2,40] (fun n i=>n=.int .i64 0/\i=.int .i64 0) (fun _ _=>0)
  case atStart=>exact ⟨rfl,rfl⟩
  case round=>
    obtain ⟨rfl,rfl⟩:=hrel
    go_wp2
    go_ret3
    exact ⟨rfl,rfl⟩
theorem ext_head (c:UInt8) (d r2:List UInt8):(⟨(c :: (d ++ r2)).toArray⟩:ByteArray).extract 1 (1+d.length)=⟨d.toArray⟩:=by
  rw [Lib.extract_eq]; simp
theorem lead_bad (c x:UInt8) (d q r2:List UInt8) (w:World) (hd:d=x :: q) (hc:c.toNat=d.length) (h8:d.length<=8) (hl:r2.length<=100000000) (hb:x.toNat=0 ∨ d.length=8/\128<=x.toNat):
    Calls Tryz.prog 167 #[.string ⟨(c :: (d ++ r2)).toArray⟩] w fun e w'=>e=.returned (.tuple #[.int .i64 0,.int .i64 0,.int .i64 3])/\w'=w:=by
  have hh:∀ h,(⟨(c :: (d ++ r2)).toArray⟩:ByteArray)[0]'h=c:=fun _=>rfl
  have hx:∀ h,(⟨d.toArray⟩:ByteArray)[0]'h=x:=by subst hd; exact fun _=>rfl
  have he:=ext_head c d r2
  have hxb:=x.toNat_lt
  have hpos:0 < d.length:=by subst hd; simp
  clear hd
  obtain ⟨s,hs⟩:∃ s,c :: (d ++ r2)=s:=⟨_,rfl⟩
  have hsl:s.length=d.length+1+r2.length:=by rw [← hs]; simp; omega
  have hse:s.isEmpty=false:=by rw [← hs]; rfl
  rw [hs] at hh he ⊢
  clear hs
  rcases hb with h0 | ⟨h80,h128⟩
  · go_enter Tryz.func167,Tryz.ntmps167
    go_wp2
    go_ret3
    exact ⟨rfl,rfl⟩
  · rw [h80] at he hc hsl
    have he9:(⟨s.toArray⟩:ByteArray).extract 1 9=⟨d.toArray⟩:=he
    have hd0:((x.toNat:Int) == 0)=false:=by rw [beq_eq_false_iff_ne]; omega
    have hd1:decide (128<=(x.toNat:Int))=true:=decide_eq_true (by omega)
    clear he h8 hpos
    go_enter Tryz.func167,Tryz.ntmps167
    go_wp2
    go_ret3
    exact ⟨rfl,rfl⟩
theorem val_take_lt (d:List UInt8) (h8:d.length<=8) (h:d.length=8->(d.headD 0).toNat < 128) (j:Nat):Code.val (d.take j) < 2 ^ 63:=by
  have e:(256:Nat) ^ 7=2 ^ 56:=by decide
  by_cases hj:(d.take j).length<=7
  · have:=Code.val_lt (d.take j)
    have:=Nat.pow_le_pow_right (n:=256) (by omega) hj
    omega
  · rw [List.length_take] at hj
    rw [List.take_of_length_le (by omega)]
    match d,h8,h,hj with
    | [],_,_,hj=>simp at hj
    | x :: q,h8,h,hj=>
      simp only [List.length_cons] at h8 h hj
      have hx:=h (by omega)
      simp at hx
      have ⟨_,g⟩:=Code.val_ge x q
      rw [show q.length=7 by omega,e] at g
      omega
theorem val_step (d:List UInt8) (k:Nat) (h:k < d.length):Code.val (d.take (k+1))=Code.val (d.take k) * 256+d[k].toNat:=by
  rw [List.take_succ_eq_append_getElem h,Code.val_append]
theorem or_int (a b:Nat) (ha:a * 256+b < 9223372036854775808) (hb:b < 256):bits .or .i64 ((a:Int) * 256) (b:Int)=((a * 256+b:Nat):Int):=by
  have h1:a * 256 < 9223372036854775808:=Nat.lt_of_le_of_lt (Nat.le_add_right _ _) ha
  have h2:b < 9223372036854775808:=Nat.lt_trans hb (by decide)
  have h3:=i64_or_nat (a * 256) b h1 h2
  rw [or_low a b hb,Int.natCast_mul] at h3
  exact h3
theorem lead_good (c x:UInt8) (d q r2:List UInt8) (w:World) (hd:d=x :: q) (hc:c.toNat=d.length) (h8:d.length<=8) (hl:r2.length<=100000000) (h0:x.toNat ≠ 0) (hb:d.length=8->x.toNat < 128):
    Calls Tryz.prog 167 #[.string ⟨(c :: (d ++ r2)).toArray⟩] w fun e w'=>e=.returned (.tuple #[.int .i64 (Code.val d:Nat),.int .i64 (1+d.length:Nat),.int .i64 0])/\w'=w:=by
  have hh:∀ h,(⟨(c :: (d ++ r2)).toArray⟩:ByteArray)[0]'h=c:=fun _=>rfl
  have hx:∀ h,(⟨d.toArray⟩:ByteArray)[0]'h=x:=by subst hd; exact fun _=>rfl
  have he:=ext_head c d r2
  have hxb:=x.toNat_lt
  have hvl:=val_take_lt d h8 (by subst hd; exact hb)
  have hpos:0 < d.length:=by subst hd; simp
  clear hd
  obtain ⟨s,hs⟩:∃ s,c :: (d ++ r2)=s:=⟨_,rfl⟩
  have hsl:s.length=d.length+1+r2.length:=by rw [← hs]; simp; omega
  have hse:s.isEmpty=false:=by rw [← hs]; rfl
  rw [hs] at hh he ⊢
  clear hs
  have hvl':∀ j,Code.val (d.take j) < 2 ^ 63:=hvl
  clear hvl
  rcases Nat.lt_or_ge d.length 8 with h7 | h7
  · have hd0:((x.toNat:Int) == 0)=false:=by rw [beq_eq_false_iff_ne]; omega
    clear hb
    go_enter Tryz.func167,Tryz.ntmps167
    go_wp2
    go_loop [2,40] (fun n i=>∃ k:Nat,k<=d.length/\n=.int .i64 (Code.val (d.take k):Nat)/\i=.int .i64 k) (fun _ i=>d.length - (intOf i).toNat)
    case atStart=>exact ⟨0,Nat.zero_le _,rfl,rfl⟩
    case round=>
      obtain ⟨k,hk,rfl,rfl⟩:=hrel
      by_cases hlt:k < d.length
      · have h1:(k:Int) < (d.length:Int):=by omega
        have hst:=val_step d k hlt
        have hvk:=hvl' (k+1)
        rw [hst] at hvk
        have hst':=qh hst
        have hi:∀ h,(⟨d.toArray⟩:ByteArray)[k]'h=d[k]:=fun _=>rfl
        have hdk:=d[k].toNat_lt
        obtain ⟨V,hV⟩:∃ V,Code.val (d.take k)=V:=⟨_,rfl⟩
        rw [hV] at hst' hvk ⊢
        clear hst hV
        have hor:bits .or .i64 ((V:Int) * 256) (d[k].toNat:Int)=((V * 256+d[k].toNat:Nat):Int):=or_int V d[k].toNat (by omega) (by omega)
        go_wp2
        go_round
        case rel=>exact ⟨k+1,by omega,by rw [hst'.out]; simp,by go_num⟩
        case measure=>simp [intOf]; omega
      · go_wp2
        go_ret3
        have e:k=d.length:=by omega
        subst e
        rw [List.take_length]
        exact ⟨by simp,rfl⟩
  · have hb2:=hb (by omega)
    have h88:d.length=8:=by omega
    rw [h88] at he hc hsl
    have he9:(⟨s.toArray⟩:ByteArray).extract 1 9=⟨d.toArray⟩:=he
    have hd0:((x.toNat:Int) == 0)=false:=by rw [beq_eq_false_iff_ne]; omega
    have hd1:decide (128<=(x.toNat:Int))=false:=decide_eq_false (by omega)
    clear hb he h8 hpos h7
    go_enter Tryz.func167,Tryz.ntmps167
    go_wp2
    go_loop [2,40] (fun n i=>∃ k:Nat,k<=d.length/\n=.int .i64 (Code.val (d.take k):Nat)/\i=.int .i64 k) (fun _ i=>d.length - (intOf i).toNat)
    case atStart=>exact ⟨0,Nat.zero_le _,rfl,rfl⟩
    case round=>
      obtain ⟨k,hk,rfl,rfl⟩:=hrel
      by_cases hlt:k < d.length
      · have h1:(k:Int) < (d.length:Int):=by omega
        have hst:=val_step d k hlt
        have hvk:=hvl' (k+1)
        rw [hst] at hvk
        have hst':=qh hst
        have hi:∀ h,(⟨d.toArray⟩:ByteArray)[k]'h=d[k]:=fun _=>rfl
        have hdk:=d[k].toNat_lt
        obtain ⟨V,hV⟩:∃ V,Code.val (d.take k)=V:=⟨_,rfl⟩
        rw [hV] at hst' hvk ⊢
        clear hst hV
        have hor:bits .or .i64 ((V:Int) * 256) (d[k].toNat:Int)=((V * 256+d[k].toNat:Nat):Int):=or_int V d[k].toNat (by omega) (by omega)
        go_wp2
        go_round
        case rel=>exact ⟨k+1,by omega,by rw [hst'.out]; simp,by go_num⟩
        case measure=>simp [intOf]; omega
      · go_wp2
        go_ret3
        have e:k=d.length:=by omega
        subst e
        rw [List.take_length]
        exact ⟨by simp,rfl⟩
end
section
open Go.RowKit
theorem lead_any (s:List UInt8) (w:World) (hl:s.length<=100000000):
    Calls Tryz.prog 167 #[.string ⟨s.toArray⟩] w fun e w'=>e=.returned (.tuple #[.int .i64 ((Code.leadL s).1:Nat),.int .i64 ((Code.leadL s).2.1:Nat),.int .i64 (Code.leadL s).2.2])/\w'=w:=by
  match s,hl with
  | [],_=>exact lead_nil w
  | c :: r,hl=>
    simp only [List.length_cons] at hl
    by_cases h1:c.toNat > 8
    · rw [Code.leadL,if_pos h1]
      exact lead_big c r w h1
    · by_cases h2:r.length < c.toNat
      · rw [Code.leadL,if_neg h1,if_pos h2]
        exact lead_short c r w (by omega) h2 (by omega)
      · have hr:r=r.take c.toNat ++ r.drop c.toNat:=(List.take_append_drop _ _).symm
        have hdl:(r.take c.toNat).length=c.toNat:=by rw [List.length_take]; omega
        have hd2:(r.drop c.toNat).length<=100000000:=by rw [List.length_drop]; omega
        rw [Code.leadL,if_neg h1,if_neg h2]
        by_cases h0:c.toNat=0
        · have hb:Code.bad c.toNat (r.take c.toNat)=false:=by simp [Code.bad,h0]
          have hc0:c=0:=by
            have:=UInt8.ofNat_toNat (x:=c)
            rw [h0] at this
            exact this.symm
          subst hc0
          rw [hb]
          exact lead_zero r w (by omega)
        · match hd:r.take c.toNat with
          | []=>rw [hd] at hdl; simp at hdl; omega
          | x :: q=>
            rw [hd] at hr hdl
            rcases hb:Code.bad c.toNat (x :: q) with _ | _
            · simp only [Code.bad,List.headD_cons,Bool.or_eq_false_iff,Bool.and_eq_false_iff,decide_eq_false_iff_not,beq_eq_false_iff_ne] at hb
              have h:=lead_good c x (x :: q) q (r.drop c.toNat) w rfl hdl.symm (by omega) hd2 (by rcases hb.1 with a | a; omega; exact a) (fun h8=>by rcases hb.2 with a | a; omega; exact Nat.not_le.1 (of_decide_eq_false a))
              rw [← hr,hdl] at h
              exact h
            · simp only [Code.bad,List.headD_cons,Bool.or_eq_true,Bool.and_eq_true,decide_eq_true_eq,beq_iff_eq] at hb
              have h:=lead_bad c x (x :: q) q (r.drop c.toNat) w rfl hdl.symm (by omega) hd2 (by rcases hb with a | a; exact .inl a.2; exact .inr ⟨by omega,of_decide_eq_true a.2⟩)
              rw [← hr] at h
              exact h
def Code.countL (most:Int) (s:List UInt8):Nat × List UInt8 × Int:=
  if (Code.leadL s).2.2 ≠ 0 then (0,s,(Code.leadL s).2.2) else if ((Code.leadL s).1:Int) > most then (0,s,2) else ((Code.leadL s).1,s.drop (Code.leadL s).2.1,0)
theorem Code.lead_range (s:List UInt8):(Code.leadL s).1 < 2 ^ 63/\(Code.leadL s).2.1<=s.length:=by
  by_cases h:(Code.leadL s).2.2=0
  · have:=Code.lead_ok s h
    exact ⟨this.1,this.2.1⟩
  · match s with
    | []=>simp [Code.leadL]
    | c :: r=>
      simp only [Code.leadL] at h ⊢
      split <;> (try (simp; done))
      split <;> (try (simp; done))
      split <;> (try (simp; done))
      simp_all
theorem count_stuck (most:Int) (s:List UInt8) (c:Int) (g:Nat) (w:World) (h:Rd w g s c) (hc:c ≠ 0):
    Calls Tryz.prog 144 #[.pointer (some ⟨g,0,none⟩),.int .i64 most] w fun e w'=>e=.returned (.int .i64 0)/\w'=w:=by
  have h1:=h.code
  go_enter Tryz.func144,Tryz.ntmps144
  go_wp2
  go_ret
  exact ⟨rfl,rfl⟩
theorem count_any (most:Int) (s:List UInt8) (g:Nat) (w:World) (h:Rd w g s 0) (hl:s.length<=100000000):
    Calls Tryz.prog 144 #[.pointer (some ⟨g,0,none⟩),.int .i64 most] w fun e w'=>e=.returned (.int .i64 ((Code.countL most s).1:Nat))/\Rd w' g (Code.countL most s).2.1 (Code.countL most s).2.2/\Only g w w':=by
  have h0:=h.left
  have h1:=h.code
  have hf0:=h.free0
  have hf1:=h.free1
  obtain ⟨hn,hk⟩:=Code.lead_range s
  have hlead:=qh (lead_any s w hl)
  have he:=ext_drop s (Code.leadL s).2.1
  unfold Code.countL
  generalize (Code.leadL s)=p at hn hk hlead he ⊢
  obtain ⟨n,k,e⟩:=p
  simp only at hn hk hlead he ⊢
  by_cases h2:e=0
  · subst h2
    rw [if_neg (by simp)]
    by_cases h3:(n:Int) > most
    · rw [if_pos h3]
      go_enter Tryz.func144,Tryz.ntmps144
      go_wp2_with fail
      refine hlead.out.mono ?_
      rintro e w1 ⟨rfl,rfl⟩
      go_wp2
      go_ret
      exact ⟨rfl,h.setCode 2,(Only.refl g _).setCell rfl _⟩
    · rw [if_neg h3]
      go_enter Tryz.func144,Tryz.ntmps144
      go_wp2_with fail
      refine hlead.out.mono ?_
      rintro e w1 ⟨rfl,rfl⟩
      go_wp2
      go_ret
      exact ⟨rfl,h.setLeft _,(Only.refl g _).setCell rfl _⟩
  · rw [if_pos h2]
    go_enter Tryz.func144,Tryz.ntmps144
    go_wp2_with fail
    refine hlead.out.mono ?_
    rintro e w1 ⟨rfl,rfl⟩
    go_wp2
    go_ret
    exact ⟨rfl,h.setCode _,(Only.refl g _).setCell rfl _⟩
end
section
open Go.RowKit
theorem clone_any (s:List UInt8) (w:World) (hl:s.length<=100000000):
    Calls Tryz.prog 46 #[.string ⟨s.toArray⟩] w fun e w'=>e=.returned (.string ⟨s.toArray⟩)/\Below w.heap.size w w':=by
  go_enter Tryz.func46,Tryz.ntmps46
  go_wp2_with fail
  refine (shelf_clone ⟨s.toArray⟩ w (by rw [size_of_list]; omega)).mono ?_
  rintro e w1 ⟨rfl,hb⟩
  go_wp2
  go_ret
  exact ⟨rfl,hb⟩
def Code.bytesR (n:Int) (s:List UInt8):List UInt8 × List UInt8 × Int:=
  if n < 0 then ([],s,1) else if n.toNat > s.length then ([],s,20) else (s.take n.toNat,s.drop n.toNat,0)
def Code.textR (most:Int) (s:List UInt8):List UInt8 × List UInt8 × Int:=
  if (Code.countL most s).2.2 ≠ 0 then ([],s,(Code.countL most s).2.2) else
  if (Code.countL most s).1 > (Code.countL most s).2.1.length then ([],s,20) else
  ((Code.countL most s).2.1.take (Code.countL most s).1,(Code.countL most s).2.1.drop (Code.countL most s).1,0)
theorem ext_take (s:List UInt8) (k:Nat):(⟨s.toArray⟩:ByteArray).extract 0 k=⟨(s.take k).toArray⟩:=by
  rw [Lib.extract_eq]
  simp only [List.drop_zero,Nat.sub_zero]
theorem bytes_stuck (n:Int) (s:List UInt8) (c:Int) (g:Nat) (w:World) (h:Rd w g s c) (hc:c ≠ 0):
    Calls Tryz.prog 109 #[.pointer (some ⟨g,0,none⟩),.int .i64 n] w fun e w'=>e=.returned (.string ⟨#[]⟩)/\w'=w:=by
  have h1:=h.code
  have hc1:(c != 0)=true:=by rw [bne_iff_ne]; exact hc
  clear hc
  go_enter Tryz.func109,Tryz.ntmps109
  go_wp2
  go_ret
  exact ⟨rfl,rfl⟩
theorem bytes_any (n:Int) (s:List UInt8) (g:Nat) (w:World) (h:Rd w g s 0) (hl:s.length<=100000000):
    Calls Tryz.prog 109 #[.pointer (some ⟨g,0,none⟩),.int .i64 n] w fun e w'=>e=.returned (.string ⟨(Code.bytesR n s).1.toArray⟩)/\Rd w' g (Code.bytesR n s).2.1 (Code.bytesR n s).2.2/\Only g w w':=by
  have h0:=h.left
  have h1:=h.code
  have hf1:=h.free1
  unfold Code.bytesR
  by_cases hn:n < 0
  · rw [if_pos hn]
    go_enter Tryz.func109,Tryz.ntmps109
    go_wp2
    go_ret
    exact ⟨rfl,h.setCode 1,(Only.refl g _).setCell rfl _⟩
  · rw [if_neg hn]
    obtain ⟨k,rfl⟩:=Int.eq_ofNat_of_zero_le (by omega:0<=n)
    simp only [Int.toNat_natCast]
    by_cases hk:k > s.length
    · rw [if_pos hk]
      have hk1:(k:Int) > (s.length:Int):=by omega
      have hk0:((k:Int) < 0)=False:=by simp
      go_enter Tryz.func109,Tryz.ntmps109
      go_wp2
      go_ret
      exact ⟨rfl,h.setCode 20,(Only.refl g _).setCell rfl _⟩
    · rw [if_neg hk]
      have hk1:¬ ((k:Int) > (s.length:Int)):=by omega
      have hk0:((k:Int) < 0)=False:=by simp
      have he1:=ext_take s k
      have he2:=ext_drop s k
      go_enter Tryz.func109,Tryz.ntmps109
      go_wp2_with fail
      refine (clone_any (s.take k) w (by rw [List.length_take]; omega)).mono ?_
      rintro e w1 ⟨rfl,hb⟩
      have hr:=h.below hb
      have g0:=hr.left
      have gf:=hr.free0
      go_wp2
      go_ret
      exact ⟨rfl,hr.setLeft _,Only.setCell (g:=g) (Only.of hb) rfl _⟩
theorem count_rest (most:Int) (s:List UInt8):(Code.countL most s).2.1.length<=s.length:=by
  unfold Code.countL
  split
  · exact Nat.le_refl _
  · split
    · exact Nat.le_refl _
    · simp only [List.length_drop]; omega
theorem rtext_any (most:Int) (s:List UInt8) (g:Nat) (w:World) (h:Rd w g s 0) (hl:s.length<=100000000):
    Calls Tryz.prog 111 #[.pointer (some ⟨g,0,none⟩),.int .i64 most] w fun e w'=>e=.returned (.string ⟨(Code.textR most s).1.toArray⟩)/\Rd w' g (Code.textR most s).2.1 (Code.textR most s).2.2/\Only g w w':=by
  have h0:=h.left
  have hcl:=count_rest most s
  unfold Code.textR
  have hcount:=qh (count_any most s g w h hl)
  generalize Code.countL most s=p at hcount hcl ⊢
  obtain ⟨n,r,e⟩:=p
  simp only at hcount hcl ⊢
  by_cases he:e=0
  · subst he
    rw [if_neg (by simp)]
    go_enter Tryz.func111,Tryz.ntmps111
    go_wp2_with fail
    refine hcount.out.mono ?_
    rintro e w1 ⟨rfl,hr1,ho1⟩
    go_wp2_with fail
    refine (bytes_any n r g w1 hr1 (by omega)).mono ?_
    rintro e w2 ⟨rfl,hr2,ho2⟩
    have ho:=ho1.trans ho2
    clear ho1 ho2 h0
    unfold Code.bytesR at hr2 ⊢
    have hn0:¬ ((n:Int) < 0):=by omega
    rw [if_neg hn0] at hr2 ⊢
    simp only [Int.toNat_natCast] at hr2 ⊢
    by_cases hk:n > r.length
    · rw [if_pos hk] at hr2 ⊢
      simp only at hr2 ⊢
      have h1:=hr2.code
      have h2:=hr2.left
      have hf:=hr2.free0
      go_wp2
      go_ret
      exact ⟨rfl,hr2.setLeft s,ho.setCell rfl _⟩
    · rw [if_neg hk] at hr2 ⊢
      simp only at hr2 ⊢
      have h1:=hr2.code
      go_wp2
      go_ret
      exact ⟨rfl,hr2,ho⟩
  · rw [if_pos he]
    have he1:(e != 0)=true:=by rw [bne_iff_ne]; exact he
    go_enter Tryz.func111,Tryz.ntmps111
    go_wp2_with fail
    refine hcount.out.mono ?_
    rintro e w1 ⟨rfl,hr1,ho1⟩
    go_wp2_with fail
    refine (bytes_stuck n r _ g w1 hr1 he).mono ?_
    rintro e w2 ⟨rfl,rfl⟩
    have h1:=hr1.code
    have h2:=hr1.left
    have hf:=hr1.free0
    clear h0
    go_wp2
    go_ret
    exact ⟨rfl,hr1.setLeft s,ho1.setCell rfl _⟩
end
section
open Go.RowKit
end
namespace Code
theorem count_num (most:Int) (n:Nat) (r:List UInt8) (h:n < 2 ^ 63) (hm:(n:Int)<=most):countL most (numL n ++ r)=(n,r,0):=by
  have e:=lead_num n h r
  have hd:(numL n ++ r).drop (1+sz n)=r:=by
    rw [← numL_length,List.drop_left]
  unfold countL
  rw [e]
  simp only [ne_eq,not_true_eq_false,if_false]
  rw [if_neg (by omega),hd]
theorem text_text (most:Int) (t r:List UInt8) (h:t.length < 2 ^ 63) (hm:(t.length:Int)<=most):textR most (textL t ++ r)=(t,r,0):=by
  have e:=count_num most t.length (t ++ r) h hm
  unfold textR textL
  rw [List.append_assoc,e]
  simp
end Code
section
open Go.RowKit Go.MapKept
open Go.ChangeMaps (setBlock heap_setBlock_same heap_setBlock_other)
open Go.Maps (Keyed)
structure Out (F:Nat->Prop) (w w':World):Prop where
  os:w'.os=w.os
  tape:w'.tape=w.tape
  output:w'.output=w.output
  size:w.heap.size<=w'.heap.size
  block:∀ k,k < w.heap.size->¬ F k->w'.heap[k]?=w.heap[k]?
theorem Out.refl (F:Nat->Prop) (w:World):Out F w w:=⟨rfl,rfl,rfl,Nat.le_refl _,fun _ _ _=>rfl⟩
theorem Out.trans {F:Nat->Prop} {a b c:World} (h:Out F a b) (k:Out F b c):Out F a c:=
  ⟨k.os.trans h.os,k.tape.trans h.tape,k.output.trans h.output,Nat.le_trans h.size k.size,fun i hi hg=>(k.block i (Nat.lt_of_lt_of_le hi h.size) hg).trans (h.block i hi hg)⟩
theorem Out.mono {F G:Nat->Prop} {a b:World} (h:Out F a b) (hi:∀ k,k < a.heap.size->F k->G k):Out G a b:=
  ⟨h.os,h.tape,h.output,h.size,fun i hl hg=>h.block i hl (fun hf=>hg (hi i hl hf))⟩
theorem Out.of {F:Nat->Prop} {a b:World} (h:Below a.heap.size a b):Out F a b:=⟨h.os,h.tape,h.output,h.size,fun i hi _=>h.block i hi⟩
theorem Out.below {B:Nat} {F:Nat->Prop} {a b:World} (h:Out F a b) (hB:∀ k,F k->B<=k) (hs:B<=a.heap.size):Below B a b:=
  ⟨h.os,h.tape,h.output,h.size,fun i hi=>h.block i (by omega) (fun hf=>absurd (hB i hf) (by omega))⟩
theorem Out.alloc {F:Nat->Prop} {a w:World} (h:Out F a w) (o:Obj):Out F a (w.alloc o):=h.trans (Out.of ((Below.refl _ w).alloc (Nat.le_refl _) o))
theorem Out.setCell {F:Nat->Prop} {a w:World} (h:Out F a w) {p:Addr} (hp:F p.block) (u:Value):Out F a (w.setCell p u):=
  ⟨h.os,h.tape,h.output,by have:=h.size; simpa [World.setCell] using this,fun i hi hg=>(Below.heap_setCell w p u i (fun e=>hg (e ▸ hp))).trans (h.block i hi hg)⟩
theorem Out.grown {F:Nat->Prop} {w w':World} {row:Option Nat} (h:w.grownBy w' row) (hr:∀ k,row=some k->F k):Out F w w':=
  ⟨h.os,h.tape,h.output,h.size,fun i hi hg=>h.block i hi (fun e=>hg (hr i e.symm))⟩
theorem Out.heap {F:Nat->Prop} {w w':World} (h:Out F w w') {k:Nat} {o:Obj} (hk:w.heap[k]?=some o) (hF:¬ F k):w'.heap[k]?=some o:=(h.block k (lt_of_heap hk) hF).trans hk
theorem Out.cell {F:Nat->Prop} {w w':World} (h:Out F w w') {p:Addr} {v:Value} (hc:w.cell? p=some v) (hp:¬ F p.block):w'.cell? p=some v:=
  (World.cell?_of_block (w:=w) (h.block p.block (World.block_lt_of_cell? _ _ hc) hp)).trans hc
theorem str_inj {a b:List UInt8} (h:Value.string ⟨a.toArray⟩=.string ⟨b.toArray⟩):a=b:=by
  injection h with h; injection h with h; exact List.toArray_inj h
theorem cellsS:Tryz.prog.cellsOf 9=1:=by kernel_rfl
theorem own_form {w:World} {B:Nat} {e:TypeId} {z:Nat} {s:Value} {n:Nat} {xs:List Value} (h:w.ownsRow B e z s n xs):∃ A cap,s=.slice A n cap:=by
  rcases h.2 with ⟨rfl,rfl⟩ | ⟨k,cap,cur,rfl,_⟩
  · exact ⟨none,0,rfl⟩
  · exact ⟨_,cap,rfl⟩
theorem row_out {G:Nat->Prop} {w w':World} {B:Nat} {e:TypeId} {z:Nat} {s:Value} {n:Nat} {xs:List Value} (h:w.ownsRow B e z s n xs) (ho:Out G w w') (hd:∀ k cs t f,G k->w.heap[k]? ≠ some (.cells cs t f)):w'.ownsRow B e z s n xs:=by
  refine ⟨h.1,?_⟩
  rcases h.2 with hn | ⟨k,cap,cur,hv,hb,hk,hr⟩
  · exact Or.inl hn
  · exact Or.inr ⟨k,cap,cur,hv,hb,ho.heap hk (fun hg=>hd k _ _ _ hg hk),hr⟩
end
section
abbrev Pw.St:=List UInt8 × Int
def Pw.endC (st:Pw.St):Int:=if st.2=0/\st.1 ≠ [] then 3 else st.2
theorem Pw.textR_le (most:Int) (s:List UInt8):(Code.textR most s).2.1.length<=s.length:=by
  have h:=count_rest most s
  unfold Code.textR
  split
  · exact Nat.le_refl _
  · split
    · exact Nat.le_refl _
    · simp only [List.length_drop]; omega
end
section
open Go.RowKit
theorem Only.out {g:Nat} {w w':World} (h:Only g w w'):Out (fun k=>k=g) w w':=⟨h.os,h.tape,h.output,h.size,h.block⟩
theorem rend_st (st:Pw.St) (g:Nat) (w:World) (h:Rd w g st.1 st.2):
    Calls Tryz.prog 113 #[.pointer (some ⟨g,0,none⟩)] w fun e w'=>e=.returned (.int .i64 (Pw.endC st))/\Only g w w':=by
  obtain ⟨s,c⟩:=st
  dsimp only at h
  have h0:=h.left
  have h1:=h.code
  have hf1:=h.free1
  unfold Pw.endC
  dsimp only
  by_cases hc:c=0
  · subst hc
    cases s with
    | nil=>
      rw [if_neg (by simp)]
      go_enter Tryz.func113,Tryz.ntmps113
      go_wp2
      go_ret
      exact ⟨rfl,Only.refl _ _⟩
    | cons a s=>
      rw [if_pos (by simp)]
      have hrd:=(h.setCode 3).code
      go_enter Tryz.func113,Tryz.ntmps113
      go_wp2
      go_ret
      exact ⟨rfl,(Only.refl g _).setCell rfl _⟩
  · rw [if_neg (fun h=>hc h.1)]
    have hc1:(c == 0)=false:=by rw [beq_eq_false_iff_ne]; exact hc
    go_enter Tryz.func113,Tryz.ntmps113
    go_wp2
    go_ret
    exact ⟨rfl,Only.refl _ _⟩
end
section
open Go.Proofs.YtaficmboooaknaaGreatDoor.Nd (N)
def Nd.rdT (most:Int) (st:Nd.St):List UInt8 × Nd.St:=if st.2 ≠ 0 then ([],st) else ((Code.textR most st.1).1,(Code.textR most st.1).2.1,(Code.textR most st.1).2.2)
theorem Nd.rdT_le (most:Int) (st:Nd.St):(Nd.rdT most st).2.1.length<=st.1.length:=by
  unfold Nd.rdT
  split
  · exact Nat.le_refl _
  · exact Pw.textR_le _ _
theorem Nd.rdB_le (n:Nat) (st:Nd.St):(Nd.rdB n st).2.1.length<=st.1.length:=by
  unfold Nd.rdB
  split
  · exact Nat.le_refl _
  · split
    · exact Nat.le_refl _
    · simp only [List.length_drop]; omega
theorem Nd.rdT_ok {most:Int} {st:Nd.St} (h:(Nd.rdT most st).2.2=0):st.2=0/\st.1=Code.textL (Nd.rdT most st).1 ++ (Nd.rdT most st).2.1:=by
  unfold Nd.rdT at h ⊢
  by_cases h0:st.2=0
  · rw [if_neg (by simpa using h0)] at h ⊢
    refine ⟨h0,?_⟩
    simp only at h ⊢
    unfold Code.textR at h ⊢
    by_cases h1:(Code.countL most st.1).2.2=0
    · rw [if_neg (by simpa using h1)] at h ⊢
      by_cases h2:(Code.countL most st.1).1 > (Code.countL most st.1).2.1.length
      · rw [if_pos h2] at h; simp at h
      · rw [if_neg h2]
        simp only
        have hs:st.1=Code.numL (Code.countL most st.1).1 ++ (Code.countL most st.1).2.1:=by
          unfold Code.countL at h1 ⊢
          split at h1
          · rename_i h3; exact absurd h1 h3
          · rename_i h3
            split at h1
            · simp at h1
            · rename_i h4
              have h5:=Code.lead_ok st.1 (by simpa using h3)
              rw [if_neg h3,if_neg h4]
              simp only
              rw [← h5.2.2,List.take_append_drop]
        have hl:((Code.countL most st.1).2.1.take (Code.countL most st.1).1).length=(Code.countL most st.1).1:=by rw [List.length_take]; omega
        rw [Code.textL,hl,List.append_assoc,List.take_append_drop]
        exact hs
    · rw [if_pos h1] at h; exact absurd h h1
  · rw [if_pos h0] at h
    exact absurd h h0
theorem Nd.rdT_text (most:Nat) (t r:List UInt8) (h:t.length<=most) (hm:most<=1000):Nd.rdT most (Code.textL t ++ r,0)=(t,r,0):=by
  have h1:=Code.text_text most t r (by omega) (by omega)
  simp [Nd.rdT,h1]
/-! ### a packed path -/
def Nd.unp (leaf:Bool) (p:List UInt8):List UInt8 × Bool:=
  match Nib.unpackL p with
  | none=>([],false)
  | some (q,is)=>(q,is == leaf)
def Nd.rdP (leaf:Bool) (st:Nd.St):(List UInt8 × Bool) × Nd.St:=(Nd.unp leaf (Nd.rdT 9 st).1,(Nd.rdT 9 st).2)
theorem Nd.unp_ok {leaf:Bool} {p:List UInt8} (h:(Nd.unp leaf p).2=true):Nib.packL (Nd.unp leaf p).1 leaf=p/\Nib.fitL (Nd.unp leaf p).1=true:=by
  unfold Nd.unp at h ⊢
  match hu:Nib.unpackL p with
  | none=>rw [hu] at h; cases h
  | some (q,is)=>
    rw [hu] at h
    have h1:=Nib.unpack_fit p q is hu
    obtain rfl:is=leaf:=by simpa using h
    exact ⟨h1.2,h1.1⟩
theorem Nd.rdP_ok {leaf:Bool} {st:Nd.St} (h:(Nd.rdP leaf st).1.2=true) (h2:(Nd.rdP leaf st).2.2=0):st.2=0/\st.1=Code.textL (Nib.packL (Nd.rdP leaf st).1.1 leaf) ++ (Nd.rdP leaf st).2.1:=by
  have h3:=Nd.rdT_ok h2
  have h4:=Nd.unp_ok h
  refine ⟨h3.1,?_⟩
  rw [show (Nd.rdP leaf st).1=Nd.unp leaf (Nd.rdT 9 st).1 from rfl,h4.1]
  exact h3.2
theorem Nd.rdP_pack (leaf:Bool) (p r:List UInt8) (hf:Nib.fitL p=true) (hp:p.length<=16):Nd.rdP leaf (Code.textL (Nib.packL p leaf) ++ r,0)=((p,true),r,0):=by
  unfold Nd.rdP
  have h:=Nd.rdT_text 9 (Nib.packL p leaf) r (by rw [Nib.packL_length]; omega) (by decide)
  rw [show ((9:Nat):Int)=9 from rfl] at h
  rw [h]
  unfold Nd.unp
  rw [Nib.unpack_pack p leaf hf]
  simp
/-! ### the sixteen places -/
def Nd.bitf (n i:Nat):Bool:=decide (n / 2 ^ (15 - i) % 2=1)
theorem Nd.bitf_hi (h l i:Nat) (hl:l < 256) (hi:i < 8):Nd.bitf (h * 256+l) i=Nd.bitAt h i:=by
  unfold Nd.bitf Nd.bitAt
  have e:(h * 256+l) / 2 ^ (15 - i)=h / 2 ^ (7 - i):=by
    have h1:(2:Nat) ^ (15 - i)=256 * 2 ^ (7 - i):=by
      rw [show 15 - i=8+(7 - i) by omega,Nat.pow_add]
    have h2:(h * 256+l) / 256=h:=by omega
    rw [h1,← Nat.div_div_eq_div_mul,h2]
  rw [e]
theorem Nd.bitf_lo (h l i:Nat) (hi:8<=i) (hi2:i < 16):Nd.bitf (h * 256+l) i=Nd.bitAt l (i - 8):=by
  unfold Nd.bitf Nd.bitAt
  obtain ⟨j,rfl⟩:∃ j,i=8+j:=⟨i - 8,by omega⟩
  have hj:j < 8:=by omega
  have e1:15 - (8+j)=7 - j:=by omega
  have e2:8+j - 8=j:=by omega
  rw [e1,e2]
  have h1:h * 256=2 ^ (7 - j) * (h * 2 ^ (1+j)):=by
    have:(256:Nat)=2 ^ (7 - j) * 2 ^ (1+j):=by
      rw [← Nat.pow_add,show 7 - j+(1+j)=8 by omega]
    rw [this,Nat.mul_left_comm]
  rw [h1,Nat.mul_add_div (Nat.two_pow_pos _),Nat.pow_add,Nat.mul_left_comm,Nat.pow_one,Nat.mul_add_mod]
def Nd.num2:List UInt8->Nat
  | [x,y]=>x.toNat * 256+y.toNat
  | _=>0
def Nd.rdK (st:Nd.St):List (List UInt8) × Nd.St:=Nd.rdKids (Nd.bitf (Nd.num2 (Nd.rdB 2 st).1)) 16 (Nd.rdB 2 st).2
theorem Nd.byteN_toNat (x:UInt8):Nd.byteN x.toNat=x:=by simp [Nd.byteN]
theorem Nd.rdK_len (st:Nd.St):(Nd.rdK st).1.length=16:=Nd.rdKids_len _ _ _
theorem Nd.rdK_ok {st:Nd.St} (h:(Nd.rdK st).2.2=0):st.2=0/\st.1=Nd.takenL (Nd.rdK st).1 ++ ((Nd.rdK st).1.flatten ++ (Nd.rdK st).2.1):=by
  have h1:=Nd.rdKids_ok _ _ _ h
  obtain ⟨a,b,c,d⟩:=h1
  have h2:=Nd.rdB_ok a
  refine ⟨h2.1,?_⟩
  have hl:=Nd.rdK_len st
  have h3:Nd.takenL (Nd.rdK st).1=(Nd.rdB 2 st).1:=by
    match hq:(Nd.rdB 2 st).1,h2.2.2 with
    | [x,y],_=>
      have hn:Nd.num2 (Nd.rdB 2 st).1=x.toNat * 256+y.toNat:=by rw [hq]; rfl
      rw [hn] at d
      have hx:Nd.bits8 ((Nd.rdK st).1.take 8)=x.toNat:=Nd.bits8_back _ (by rw [List.length_take,hl]; rfl) x (fun i hi=>by
        have:=d i (by omega)
        rw [Nd.bitf_hi _ _ _ y.toNat_lt hi] at this
        rw [this,List.getElem_take]
        unfold Nd.rdK
        simp only [hn])
      have hy:Nd.bits8 ((Nd.rdK st).1.drop 8)=y.toNat:=Nd.bits8_back _ (by rw [List.length_drop,hl]) y (fun i hi=>by
        have:=d (8+i) (by omega)
        rw [Nd.bitf_lo _ _ _ (by omega) (by omega),Nat.add_sub_cancel_left] at this
        rw [this,List.getElem_drop]
        unfold Nd.rdK
        simp only [hn])
      unfold Nd.takenL
      rw [hx,hy,Nd.byteN_toNat,Nd.byteN_toNat]
  rw [h3]
  refine h2.2.1.trans ?_
  exact congrArg _ b
theorem Nd.rdK_taken (L:List (List UInt8)) (r:List UInt8) (hL:L.length=16) (ha:Nd.all32 L=true):Nd.rdK (Nd.takenL L ++ (L.flatten ++ r),0)=(L,r,0):=by
  unfold Nd.rdK
  rw [Nd.rdB_app (Nd.takenL L) _ 2 rfl]
  have h8:(L.take 8).length=8:=by rw [List.length_take,hL]; rfl
  have h8':(L.drop 8).length=8:=by rw [List.length_drop,hL]
  have hx:=Nd.bits8_lt _ h8
  have hy:=Nd.bits8_lt _ h8'
  have hn:Nd.num2 (Nd.takenL L)=Nd.bits8 (L.take 8) * 256+Nd.bits8 (L.drop 8):=by
    simp only [Nd.takenL,Nd.num2,Nd.byteN]
    rw [Code.ofNat_toNat _ hx,Code.ofNat_toNat _ hy]
  simp only [hn]
  have h:=Nd.rdKids_app L ha (Nd.bitf (Nd.bits8 (L.take 8) * 256+Nd.bits8 (L.drop 8))) 16 (by omega) (fun i hi=>by
    by_cases h:i < 8
    · rw [Nd.bitf_hi _ _ _ hy h,Nd.bits8_at _ h8 i h,List.getElem_take]
    · obtain ⟨j,rfl⟩:∃ j,i=8+j:=⟨i - 8,by omega⟩
      rw [Nd.bitf_lo _ _ (8+j) (by omega) hi,Nat.add_sub_cancel_left,Nd.bits8_at _ h8' j (by omega),List.getElem_drop]) r
  have e:L.take 16=L:=List.take_of_length_le (by omega)
  rw [e] at h
  exact h
/-! ### a node -/
def Nd.rdN (k:UInt8) (r:List UInt8):(N × Bool) × Nd.St:=
  if k.toNat=1 then ((⟨1,(Nd.rdP true (r,0)).1.1,(Nd.rdT 32 (Nd.rdP true (r,0)).2).1,Nd.none16⟩,(Nd.rdP true (r,0)).1.2),(Nd.rdT 32 (Nd.rdP true (r,0)).2).2)
  else if k.toNat=2 then ((⟨2,(Nd.rdP false (r,0)).1.1,[],Nd.none16.set 0 (Nd.rdB 32 (Nd.rdP false (r,0)).2).1⟩,(Nd.rdP false (r,0)).1.2),(Nd.rdB 32 (Nd.rdP false (r,0)).2).2)
  else if k.toNat=3 then ((⟨3,[],(Nd.rdT 32 (Nd.rdK (r,0)).2).1,(Nd.rdK (r,0)).1⟩,true),(Nd.rdT 32 (Nd.rdK (r,0)).2).2)
  else ((⟨(k.toNat:Int),[],[],Nd.none16⟩,true),(r,0))
def Nd.decOK (k:UInt8) (r:List UInt8):Bool:=(Nd.rdN k r).1.2 && (decide (Pw.endC (Nd.rdN k r).2=0) && Nd.fine (Nd.rdN k r).1.1)
def Nd.dec:List UInt8->N × Int
  | []=>(Nd.zero,80)
  | k :: r=>if Nd.decOK k r then ((Nd.rdN k r).1.1,0) else (Nd.zero,80)
def Nd.DecIs (s:List UInt8) (p:N × Int):Prop:=
  (p.2=0/\Nd.fine p.1=true/\p.1.kids.length=16/\Nd.written p.1=s) ∨ (p.2=80/\p.1=Nd.zero/\∀ m:N,m.kids.length=16->Nd.fine m=true->Nd.written m ≠ s)
theorem Nd.endC_ok {st:Nd.St} (h:Pw.endC st=0):st.2=0/\st.1=[]:=by
  unfold Pw.endC at h
  split at h
  · cases h
  · rename_i hn
    exact ⟨h,Decidable.byContradiction fun e=>hn ⟨h,e⟩⟩
theorem Nd.rdN_kids (k:UInt8) (r:List UInt8):(Nd.rdN k r).1.1.kids.length=16:=by
  unfold Nd.rdN
  split
  · rfl
  · split
    · simp [Nd.none16]
    · split
      · exact Nd.rdK_len _
      · rfl
theorem Nd.dec_ok {k:UInt8} {r:List UInt8} (h:Nd.decOK k r=true):Nd.fine (Nd.rdN k r).1.1=true/\Nd.written (Nd.rdN k r).1.1=k :: r:=by
  unfold Nd.decOK at h
  simp only [Bool.and_eq_true,decide_eq_true_eq] at h
  obtain ⟨h1,h2,h3⟩:=h
  refine ⟨h3,?_⟩
  have h4:=Nd.endC_ok h2
  have hkb:∀ j:Nat,k.toNat=j->UInt8.ofNat j=k:=fun j e=>by rw [← e]; simp
  unfold Nd.rdN at h1 h3 h4 ⊢
  by_cases k1:k.toNat=1
  · simp only [if_pos k1] at h1 h3 h4 ⊢
    have h5:=Nd.rdT_ok h4.1
    have h6:=Nd.rdP_ok h1 h5.1
    have e:r=Code.textL (Nib.packL (Nd.rdP true (r,0)).1.1 true) ++ Code.textL (Nd.rdT 32 (Nd.rdP true (r,0)).2).1:=by
      refine h6.2.trans ?_
      refine congrArg (fun x=>Code.textL (Nib.packL (Nd.rdP true (r,0)).1.1 true) ++ x) ?_
      rw [h5.2,h4.2,List.append_nil]
    have hb:∀ p v,Nd.written ⟨1,p,v,Nd.none16⟩=(1:UInt8) :: (Code.textL (Nib.packL p true) ++ Code.textL v):=fun _ _=>rfl
    rw [hb,← e]
    exact congrArg (fun x=>x :: r) (hkb 1 k1)
  by_cases k2:k.toNat=2
  · simp only [if_neg k1,if_pos k2] at h1 h3 h4 ⊢
    have h5:=Nd.rdB_ok h4.1
    have h6:=Nd.rdP_ok h1 h5.1
    have e:r=Code.textL (Nib.packL (Nd.rdP false (r,0)).1.1 false) ++ (Nd.rdB 32 (Nd.rdP false (r,0)).2).1:=by
      refine h6.2.trans ?_
      refine congrArg (fun x=>Code.textL (Nib.packL (Nd.rdP false (r,0)).1.1 false) ++ x) ?_
      rw [h5.2.1,h4.2,List.append_nil]
    have hb:∀ p ks,Nd.written ⟨2,p,[],ks⟩=(2:UInt8) :: (Code.textL (Nib.packL p false) ++ ks.getD 0 []):=fun _ _=>rfl
    rw [hb]
    have hz:(Nd.none16.set 0 (Nd.rdB 32 (Nd.rdP false (r,0)).2).1).getD 0 []=(Nd.rdB 32 (Nd.rdP false (r,0)).2).1:=by simp [Nd.none16,List.replicate_succ]
    rw [hz,← e]
    exact congrArg (fun x=>x :: r) (hkb 2 k2)
  by_cases k3:k.toNat=3
  · simp only [if_neg k1,if_neg k2,if_pos k3] at h1 h3 h4 ⊢
    have h5:=Nd.rdT_ok h4.1
    have h6:=Nd.rdK_ok h5.1
    have e:r=Nd.takenL (Nd.rdK (r,0)).1 ++ ((Nd.rdK (r,0)).1.flatten ++ Code.textL (Nd.rdT 32 (Nd.rdK (r,0)).2).1):=by
      refine h6.2.trans ?_
      refine congrArg (fun x=>Nd.takenL (Nd.rdK (r,0)).1 ++ ((Nd.rdK (r,0)).1.flatten ++ x)) ?_
      rw [h5.2,h4.2,List.append_nil]
    have hb:Nd.written ⟨3,[],(Nd.rdT 32 (Nd.rdK (r,0)).2).1,(Nd.rdK (r,0)).1⟩=(3:UInt8) :: (Nd.takenL (Nd.rdK (r,0)).1 ++ ((Nd.rdK (r,0)).1.flatten ++ Code.textL (Nd.rdT 32 (Nd.rdK (r,0)).2).1)):=rfl
    rw [hb,← e]
    exact congrArg (fun x=>x :: r) (hkb 3 k3)
  · simp only [if_neg k1,if_neg k2,if_neg k3] at h3
    have:=(Nd.fine_kinds ⟨(k.toNat:Int),[],[],Nd.none16⟩ rfl).symm.trans h3
    rw [if_neg (by show ¬ ((k.toNat:Int)=1); omega),if_neg (by show ¬ ((k.toNat:Int)=2); omega),if_neg (by show ¬ ((k.toNat:Int)=3); omega)] at this
    cases this
theorem Nd.dec_written (m:N) (hm:m.kids.length=16) (hf:Nd.fine m=true):Nd.dec (Nd.written m)=(m,0):=by
  have hf0:=hf
  rw [Nd.fine_kinds m hm] at hf
  obtain ⟨kd,p,v,ks⟩:=m
  simp only at hm hf
  by_cases k1:kd=1
  · subst k1
    rw [if_pos rfl] at hf
    simp only [Nd.leafB,Nd.pathB,Bool.and_eq_true,decide_eq_true_eq,beq_iff_eq] at hf
    obtain ⟨⟨a,b⟩,c,d,e⟩:=hf
    subst e
    have hw:Nd.written ⟨1,p,v,Nd.none16⟩=(1:UInt8) :: (Code.textL (Nib.packL p true) ++ Code.textL v):=rfl
    have hr:Nd.rdN 1 (Code.textL (Nib.packL p true) ++ Code.textL v)=((⟨1,p,v,Nd.none16⟩,true),[],0):=by
      unfold Nd.rdN
      rw [if_pos (by decide),Nd.rdP_pack true p _ b a]
      have ht:=Nd.rdT_text 32 v [] d (by decide)
      rw [List.append_nil] at ht
      simp only
      rw [show (32:Int)=((32:Nat):Int) from rfl,ht]
    rw [hw,Nd.dec,Nd.decOK,hr]
    simp only
    rw [hf0]
    rfl
  rw [if_neg k1] at hf
  by_cases k2:kd=2
  · subst k2
    rw [if_pos rfl] at hf
    simp only [Nd.extB,Nd.pathB,Bool.and_eq_true,decide_eq_true_eq,beq_iff_eq] at hf
    obtain ⟨a,⟨b,c⟩,d,e,f⟩:=hf
    subst d
    have hk:ks=Nd.none16.set 0 (ks.getD 0 []):=by
      match ks,hm with
      | z :: l,hm=>rw [← f]; simp
    have hw:Nd.written ⟨2,p,[],ks⟩=(2:UInt8) :: (Code.textL (Nib.packL p false) ++ ks.getD 0 []):=rfl
    have hr:Nd.rdN 2 (Code.textL (Nib.packL p false) ++ ks.getD 0 [])=((⟨2,p,[],ks⟩,true),[],0):=by
      unfold Nd.rdN
      rw [if_neg (by decide),if_pos (by decide),Nd.rdP_pack false p _ c b]
      have ht:=Nd.rdB_app (ks.getD 0 []) [] 32 e
      rw [List.append_nil] at ht
      simp only
      rw [ht]
      simp only
      rw [← hk]
    rw [hw,Nd.dec,Nd.decOK,hr]
    simp only
    rw [hf0]
    rfl
  rw [if_neg k2] at hf
  by_cases k3:kd=3
  · subst k3
    rw [if_pos rfl] at hf
    simp only [Nd.branchB,Bool.and_eq_true,decide_eq_true_eq] at hf
    obtain ⟨a,b,c,d⟩:=hf
    subst a
    have hw:Nd.written ⟨3,[],v,ks⟩=(3:UInt8) :: (Nd.takenL ks ++ (ks.flatten ++ Code.textL v)):=rfl
    have hr:Nd.rdN 3 (Nd.takenL ks ++ (ks.flatten ++ Code.textL v))=((⟨3,[],v,ks⟩,true),[],0):=by
      unfold Nd.rdN
      rw [if_neg (by decide),if_neg (by decide),if_pos (by decide),Nd.rdK_taken ks _ hm c]
      have ht:=Nd.rdT_text 32 v [] b (by decide)
      rw [List.append_nil] at ht
      simp only
      rw [show (32:Int)=((32:Nat):Int) from rfl,ht]
    rw [hw,Nd.dec,Nd.decOK,hr]
    simp only
    rw [hf0]
    rfl
  rw [if_neg k3] at hf
  cases hf
theorem Nd.dec_is (s:List UInt8):Nd.DecIs s (Nd.dec s):=by
  match s with
  | []=>
    refine Or.inr ⟨rfl,rfl,fun m hm hf he=>?_⟩
    have:=Nd.dec_written m hm hf
    rw [he] at this
    cases this
  | k :: r=>
    cases h:Nd.decOK k r with
    | true=>
      have h1:=Nd.dec_ok h
      rw [Nd.dec,if_pos h]
      exact Or.inl ⟨rfl,h1.1,Nd.rdN_kids k r,h1.2⟩
    | false=>
      rw [Nd.dec,if_neg (by rw [h]; decide)]
      refine Or.inr ⟨rfl,rfl,fun m hm hf he=>?_⟩
      have:=Nd.dec_written m hm hf
      rw [he,Nd.dec,if_neg (by rw [h]; decide)] at this
      cases this
end
section
open Go.Proofs.YtaficmboooaknaaGreatDoor.Nd (N)
end
section
open Go.Proofs.YtaficmboooaknaaGreatDoor.Nd (N)
end
namespace Tri
open Sto (T St Rising keys)
open Go.Proofs.YtaficmboooaknaaGreatDoor.Nd (N)
def Tr.small:Tr->Prop
  | .nil=>True
  | .leaf p v=>p.length<=16/\v.length<=32
  | .ext p t=>p.length<=16/\t.small
  | .br v k=>v.length<=32/\∀ i,(k i).small
theorem small_of {t:Tr} (h:t.canon) (hs:∀ x ∈ t.items,x.1.length<=16/\x.2.length<=32):t.small:=by
  induction t with
  | nil=>trivial
  | leaf p v=>exact hs (p,v) (List.mem_singleton.2 rfl)
  | ext p t ih=>
    have ht:¬ t.isNil:=by have:=h.2.1; cases t <;> simp_all [Tr.isBr,Tr.isNil]
    have hne:t.items ≠ []:=fun e=>ht ((items_nil h.2.2).1 e)
    obtain ⟨a,l,e⟩:=List.exists_cons_of_ne_nil hne
    refine ⟨?_,ih h.2.2 fun x hx=>?_⟩
    · have:=(hs (p ++ a.1,a.2) (mem_behind.2 ⟨a.1,by rw [e]; exact List.mem_cons_self ..,rfl⟩)).1
      simp at this; omega
    · have:=hs (p ++ x.1,x.2) (mem_behind.2 ⟨x.1,hx,rfl⟩)
      simp at this; exact ⟨by omega,this.2⟩
  | br v k ih=>
    refine ⟨?_,fun i=>ih i (h.1 i) fun x hx=>?_⟩
    · by_cases e:v=[]
      · rw [e]; simp
      · exact (hs ([],v) (mem_br.2 (Or.inl ⟨rfl,rfl,e⟩))).2
    · have:=hs (hb i :: x.1,x.2) (mem_br.2 (Or.inr ⟨i,x.1,rfl,hx⟩))
      simp at this; exact ⟨by omega,this.2⟩
theorem two_le {L:List T} {i j:Nat} (hij:i < j) (hj:j < L.length) (h1:L[i]'(by omega) ≠ []) (h2:L[j] ≠ []):2<=(Nd.kidsL L).length:=by
  induction L generalizing i j with
  | nil=>simp at hj
  | cons a L ih=>
    rw [Nd.kidsL_cons]
    cases j with
    | zero=>omega
    | succ j=>
      have hj':j < L.length:=by simpa using hj
      have h2':L[j] ≠ []:=by simpa using h2
      have one:1<=(Nd.kidsL L).length:=List.length_pos_iff.2 (List.ne_nil_of_mem (a:=L[j]) (by unfold Nd.kidsL; rw [List.mem_filter]; exact ⟨List.getElem_mem hj',by simpa using h2'⟩))
      cases i with
      | zero=>
        have:a ≠ []:=by simpa using h1
        rw [if_neg this,List.length_cons]; omega
      | succ i=>
        have:=ih (i:=i) (j:=j) (by omega) hj' (by simpa using h1) h2'
        split
        · exact this
        · rw [List.length_cons]; omega
theorem one_le {L:List T} {i:Nat} (hi:i < L.length) (h:L[i] ≠ []):1<=(Nd.kidsL L).length:=
  List.length_pos_iff.2 (List.ne_nil_of_mem (a:=L[i]) (by unfold Nd.kidsL; rw [List.mem_filter]; exact ⟨List.getElem_mem hi,by simpa using h⟩))
theorem ofFn_at (f:Fin 16->T) (i:Fin 16):(List.ofFn f)[i.val]'(by rw [List.length_ofFn]; exact i.isLt)=f i:=List.getElem_ofFn _
theorem node_kids (dg:N->T) (t:Tr):(t.node dg).kids.length=16:=by
  cases t <;> simp [Tr.node,Nd.zero]
theorem node_fine (dg:N->T) (hd:∀ n:N,n.kids.length=16->Nd.fine n=true->(dg n).length=32) {t:Tr} (hc:t.canon) (hf:t.fits) (hs:t.small) (hn:¬ t.isNil):Nd.fine (t.node dg)=true:=by
  induction t with
  | nil=>exact absurd trivial hn
  | leaf p v=>
    rw [Nd.fine_kinds _ (node_kids dg _)]
    have h1:v ≠ []:=hc
    have h2:Nib.fitL p=true:=hf
    have h3:=hs.1
    have h4:=hs.2
    simp [Tr.node,Nd.leafB,Nd.pathB,Nd.none16,h1,h2,h3,h4]
  | ext p t ih=>
    have ht:¬ t.isNil:=by have:=hc.2.1; cases t <;> simp_all [Tr.isBr,Tr.isNil]
    have h32:(t.sum dg).length=32:=by rw [sum_node dg ht]; exact hd _ (node_kids dg t) (ih hc.2.2 hf.2 hs.2 ht)
    rw [Nd.fine_kinds _ (node_kids dg _)]
    have h1:p ≠ []:=hc.1
    have h2:Nib.fitL p=true:=hf.1
    have h3:=hs.1
    simp [Tr.node,Nd.extB,Nd.pathB,Nd.none16,h1,h2,h3,h32,List.replicate]
  | br v k ih=>
    have hsum:∀ i,((k i).sum dg=[]/\(k i).isNil) ∨ (((k i).sum dg).length=32/\¬ (k i).isNil):=fun i=>by
      by_cases e:(k i).isNil
      · refine Or.inl ⟨?_,e⟩
        cases hk:k i with
        | nil=>rfl
        | _=>rw [hk] at e; cases e
      · exact Or.inr ⟨by rw [sum_node dg e]; exact hd _ (node_kids dg _) (ih i (hc.1 i) (hf i) (hs.2 i) e),e⟩
    have hne:∀ i,¬ (k i).isNil->(k i).sum dg ≠ []:=fun i h e=>by
      rcases hsum i with h2 | h2
      · exact h h2.2
      · rw [e] at h2; simp at h2
    rw [Nd.fine_kinds _ (node_kids dg _)]
    have h4:=hs.1
    have hall:Nd.all32 (List.ofFn fun i=>(k i).sum dg)=true:=by
      unfold Nd.all32
      rw [List.all_eq_true]
      intro x hx
      obtain ⟨i,rfl⟩:=List.mem_ofFn.1 hx
      rcases hsum i with h | h
      · simp [h.1]
      · simp [h.1]
    have htwo:2<=(if v=[] then 0 else 1)+(Nd.kidsL (List.ofFn fun i=>(k i).sum dg)).length:=by
      rcases hc.2 with ⟨i,j,hij,hi,hj⟩ | ⟨hv,i,hi⟩
      · have:=two_le (L:=List.ofFn fun i=>(k i).sum dg) (i:=i.val) (j:=j.val) hij (by rw [List.length_ofFn]; exact j.isLt) (by rw [ofFn_at (fun i=>(k i).sum dg) i]; exact hne i hi) (by rw [ofFn_at (fun i=>(k i).sum dg) j]; exact hne j hj)
        omega
      · have:=one_le (L:=List.ofFn fun i=>(k i).sum dg) (i:=i.val) (by rw [List.length_ofFn]; exact i.isLt) (by rw [ofFn_at (fun i=>(k i).sum dg) i]; exact hne i hi)
        rw [if_neg hv]; omega
    have fin:∀ K:List T,Nd.all32 K=true->2<=(if v=[] then 0 else 1)+(Nd.kidsL K).length->Nd.branchB ⟨3,[],v,K⟩=true:=fun K h1 h2=>by
      simp [Nd.branchB,h4,h1,h2]
    rw [if_neg (by simp [Tr.node]),if_neg (by simp [Tr.node]),if_pos (show (Tr.node dg (Tr.br v k)).kind=3 from rfl)]
    exact fin _ hall htwo
def Tr.nodes (dg:N->T):Tr->List N
  | .nil=>[]
  | .leaf q v=>[Tr.node dg (.leaf q v)]
  | .ext q t=>Tr.node dg (.ext q t) :: t.nodes dg
  | .br v k=>Tr.node dg (.br v k) :: (List.finRange 16).flatMap fun i=>(k i).nodes dg
theorem spots_nodes (dg:N->T) (t:Tr) (p:T):(t.spots dg p).map (·.2)=t.nodes dg:=by
  induction t generalizing p with
  | nil=>rfl
  | leaf q v=>rfl
  | ext q t ih=>rw [Tr.spots,Tr.nodes,List.map_cons,ih]
  | br v k ih=>
    rw [Tr.spots,Tr.nodes,List.map_cons,List.map_flatMap]
    simp only [ih]
theorem nil_of_isNil {t:Tr} (h:t.isNil):t=.nil:=by cases t <;> first | rfl | cases h
end Tri
end Go.Proofs.YtaficmboooaknaaGreatDoor
