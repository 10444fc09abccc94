import Derived.Test.YtaficmboooaknaaGreatDoorPv01
import Derived.WalkKit
import Derived.Test.YtaficmboooaknaaGreatDoorProg
import Derived.Test.YtaficmboooaknaaGreatDoorPv02
import Derived.Lib.Hide
import Derived.Deep.QuietTactic
import Derived.BigQuiet
import Derived.Deep.WholeRow
import Derived.Deep.MidRow
import Derived.Laws.CopyOwn
import Derived.Deep.RegionHeld3
import Derived.Deep.DrawnRows
import Derived.Deep.Cut
import Derived.Deep.CutRange
set_option maxRecDepth 100000
set_option maxHeartbeats 16000000
namespace Go.Proofs.YtaficmboooaknaaGreatDoor
namespace Sha
open Go
def rotI (x n:Int):Int:=bits .or .u32 (x * 2 ^ (32 - n).toNat % 4294967296) (x / 2 ^ n.toNat)
def kTab:List Int:=[1116352408,1899447441,3049323471,3921009573,961987163,1508970993,2453635748,2870763221,3624381080,310598401,607225278,1426881987,1925078388,2162078206,2614888103,3248222580,3835390401,4022224774,264347078,604807628,770255983,1249150122,1555081692,1996064986,2554220882,2821834349,2952996808,3210313671,3336571891,3584528711,113926993,338241895,666307205,773529912,1294757372,1396182291,1695183700,1986661051,2177026350,2456956037,2730485921,2820302411,3259730800,3345764771,3516065817,3600352804,4094571909,275423344,430227734,506948616,659060556,883997877,958139571,1322822218,1537002063,1747873779,1955562222,2024104815,2227730452,2361852424,2428436474,2756734187,3204031479,3329325298]
structure St where
  a:Int
  b:Int
  c:Int
  d:Int
  e:Int
  f:Int
  g:Int
  h:Int
def notI (x:Int):Int:=bits .xor .u32 IntKind.u32.max x
def uP (s:St) (k w:Int):Int:=
  (s.h+bits .xor .u32 (bits .xor .u32 (rotI s.e 6) (rotI s.e 11)) (rotI s.e 25)+bits .xor .u32 (bits .and .u32 s.e s.f) (bits .and .u32 (notI s.e) s.g)+k+w) % 4294967296
def vP (s:St):Int:=
  (bits .xor .u32 (bits .xor .u32 (rotI s.a 2) (rotI s.a 13)) (rotI s.a 22)+bits .xor .u32 (bits .xor .u32 (bits .and .u32 s.a s.b) (bits .and .u32 s.a s.c)) (bits .and .u32 s.b s.c)) % 4294967296
def step (s:St) (k w:Int):St:=⟨(uP s k w+vP s) % 4294967296,s.a,s.b,s.c,(s.d+uP s k w) % 4294967296,s.e,s.f,s.g⟩
def rounds (s:St) (W:List Int):Nat->St
  | 0=>s
  | i+1=>step (rounds s W i) (kTab.getD i 0) (W.getD i 0)
def St.list (s:St):List Int:=[s.a,s.b,s.c,s.d,s.e,s.f,s.g,s.h]
def turnP (s:St) (W:List Int):St:=rounds s W 64
def word4 (a b c d:UInt8):Int:=bits .or .u32 (bits .or .u32 (bits .or .u32 ((a.toNat:Int) * 16777216) ((b.toNat:Int) * 65536)) ((c.toNat:Int) * 256)) (d.toNat:Int)
def fill (b:List UInt8):Nat->List Int
  | 0=>List.replicate 64 0
  | k+1=>(fill b k).set k (word4 (b.getD (4 * k) 0) (b.getD (4 * k+1) 0) (b.getD (4 * k+2) 0) (b.getD (4 * k+3) 0))
def sP (x:Int):Int:=bits .xor .u32 (bits .xor .u32 (rotI x 7) (rotI x 18)) (x / 8)
def tP (y:Int):Int:=bits .xor .u32 (bits .xor .u32 (rotI y 17) (rotI y 19)) (y / 1024)
def more (L:List Int) (n:Nat):Int:=(L.getD (n - 16) 0+sP (L.getD (n - 15) 0)+L.getD (n - 7) 0+tP (L.getD (n - 2) 0)) % 4294967296
def ext (L:List Int):Nat->List Int
  | 0=>L
  | k+1=>(ext L k).set (16+k) (more (ext L k) (16+k))
def widenP (b:List UInt8):List Int:=ext (fill b 16) 48
def addTo (H T:List Int):Nat->List Int
  | 0=>H
  | k+1=>(addTo H T k).set k (((addTo H T k).getD k 0+T.getD k 0) % 4294967296)
def addP (s t:St):St:=⟨(s.a+t.a) % 4294967296,(s.b+t.b) % 4294967296,(s.c+t.c) % 4294967296,(s.d+t.d) % 4294967296,(s.e+t.e) % 4294967296,(s.f+t.f) % 4294967296,(s.g+t.g) % 4294967296,(s.h+t.h) % 4294967296⟩
def blockP (s:St) (b:List UInt8):St:=addP s (turnP s (widenP b))
theorem addTo_length (H T:List Int) (k:Nat):(addTo H T k).length=H.length:=by
  induction k with
  | zero=>rfl
  | succ k ih=>simp [addTo,ih]
def first:St:=⟨1779033703,3144134277,1013904242,2773480762,1359893119,2600822924,528734635,1541459225⟩
def byteOf (z:Int):UInt8:=UInt8.ofNat (z % 256).toNat
theorem byteOf_toNat (z:Int):((byteOf z).toNat:Int)=z % 256:=by
  have h0:=Int.emod_nonneg z (show (256:Int) ≠ 0 by decide)
  have h1:=Int.emod_lt_of_pos z (show (0:Int) < 256 by decide)
  simp only [byteOf,UInt8.toNat_ofNat']
  omega
def joinFill (L:List Int):Nat->List UInt8
  | 0=>List.replicate 32 0
  | k+1=>((((joinFill L k).set (4 * k) (byteOf (L.getD k 0 / 16777216))).set (4 * k+1) (byteOf (L.getD k 0 / 65536))).set (4 * k+2) (byteOf (L.getD k 0 / 256))).set (4 * k+3) (byteOf (L.getD k 0))
theorem joinFill_length (L:List Int) (k:Nat):(joinFill L k).length=32:=by
  induction k with
  | zero=>simp [joinFill]
  | succ k ih=>simp [joinFill,ih]
def joinP (s:St):List UInt8:=joinFill s.list 8
def padN (n:Nat):Nat:=1+(119 - n % 64) % 64
def tailFill (n:Nat):Nat->List UInt8
  | 0=>(List.replicate 72 0).set 0 128
  | k+1=>(tailFill n k).set (padN n+k) (byteOf ((n:Int) * 8 / 2 ^ (8 * (7 - k))))
theorem tailFill_length (n k:Nat):(tailFill n k).length=72:=by
  induction k with
  | zero=>simp [tailFill]
  | succ k ih=>simp [tailFill,ih]
def tailP (n:Nat):List UInt8:=(tailFill n 8).take (padN n+8)
theorem tailP_length (n:Nat):(tailP n).length=padN n+8:=by
  simp only [tailP,List.length_take,tailFill_length,padN]
  omega
def absorb (t:List UInt8):Nat->St
  | 0=>first
  | k+1=>blockP (absorb t k) ((t.drop (64 * k)).take 64)
theorem absorb_append (t u:List UInt8) (k:Nat) (h:64 * k<=t.length):absorb (t ++ u) k=absorb t k:=by
  induction k with
  | zero=>rfl
  | succ k ih=>
    simp only [absorb]
    rw [ih (by omega),List.drop_append_of_le_length (by omega),List.take_append_of_le_length (by rw [List.length_drop]; omega)]
def wordsP (t:List UInt8):St:=absorb t (t.length / 64)
def restP (t:List UInt8):List UInt8:=t.drop (64 * (t.length / 64))
theorem words_same (t u:List UInt8) (h:t.length % 64+u.length < 64):wordsP (t ++ u)=wordsP t/\restP (t ++ u)=restP t ++ u:=by
  have e:(t ++ u).length / 64=t.length / 64:=by rw [List.length_append]; omega
  refine ⟨?_,?_⟩
  · unfold wordsP
    rw [e,absorb_append t u _ (by omega)]
  · unfold restP
    rw [e,List.drop_append_of_le_length (by omega)]
theorem words_next (t u:List UInt8) (h:t.length % 64+u.length=64):wordsP (t ++ u)=blockP (wordsP t) (restP t ++ u)/\restP (t ++ u)=[]:=by
  have e:(t ++ u).length / 64=t.length / 64+1:=by rw [List.length_append]; omega
  refine ⟨?_,?_⟩
  · unfold wordsP restP
    rw [e,absorb,absorb_append t u _ (by omega),List.drop_append_of_le_length (by omega),List.take_of_length_le (by rw [List.length_append,List.length_drop]; omega)]
  · unfold restP
    rw [e]
    exact List.drop_eq_nil_of_le (by rw [List.length_append]; omega)
def sumP (t:List UInt8):List UInt8:=joinP (wordsP (t ++ tailP t.length))
theorem sumP_length (t:List UInt8):(sumP t).length=32:=joinFill_length _ _
end Sha
namespace Sha
open Go
theorem bits_or_comm (k:IntKind) (x y:Int):bits .or k x y=bits .or k y x:=by
  unfold bits
  simp only [BitVec.or_comm]
theorem wrap_u32_nat (n:Nat) (h:n < 4294967296):IntKind.u32.wrap (n:Int)=(n:Int):=by
  simp [IntKind.wrap,IntKind.signed,IntKind.bits]
  omega
theorem u32_or_nat (a b:Nat) (ha:a < 4294967296) (hb:b < 4294967296):bits .or .u32 (a:Int) (b:Int)=((a ||| b:Nat):Int):=by
  unfold bits
  have e:((BitVec.ofInt IntKind.u32.bits (a:Int) ||| BitVec.ofInt IntKind.u32.bits (b:Int)).toNat)=a ||| b:=by
    simp only [BitVec.toNat_or,BitVec.ofInt_natCast,BitVec.toNat_ofNat]
    rw [Nat.mod_eq_of_lt (by simpa [IntKind.bits] using ha),Nat.mod_eq_of_lt (by simpa [IntKind.bits] using hb)]
  simp only [e]
  exact wrap_u32_nat _ (Nat.or_lt_two_pow (n:=32) ha hb)
theorem word4_sum (a b c d:UInt8):word4 a b c d=((((a.toNat * 256+b.toNat) * 256+c.toNat) * 256+d.toNat:Nat):Int):=by
  have ha:=a.toNat_lt
  have hb:=b.toNat_lt
  have hc:=c.toNat_lt
  have hd:=d.toNat_lt
  have e1:=Nat.two_pow_add_eq_or_of_lt (i:=24) (b:=b.toNat * 65536) (by omega) a.toNat
  have e2:=Nat.two_pow_add_eq_or_of_lt (i:=16) (b:=c.toNat * 256) (by omega) (a.toNat * 256+b.toNat)
  have e3:=Nat.two_pow_add_eq_or_of_lt (i:=8) (b:=d.toNat) (by omega) ((a.toNat * 256+b.toNat) * 256+c.toNat)
  unfold word4
  rw [show (a.toNat:Int) * 16777216=((2 ^ 24 * a.toNat:Nat):Int) by omega,show (b.toNat:Int) * 65536=((b.toNat * 65536:Nat):Int) by omega,
    show (c.toNat:Int) * 256=((c.toNat * 256:Nat):Int) by omega,u32_or_nat _ _ (by omega) (by omega),← e1,
    show 2 ^ 24 * a.toNat+b.toNat * 65536=2 ^ 16 * (a.toNat * 256+b.toNat) by omega,u32_or_nat _ _ (by omega) (by omega),← e2,
    show 2 ^ 16 * (a.toNat * 256+b.toNat)+c.toNat * 256=2 ^ 8 * ((a.toNat * 256+b.toNat) * 256+c.toNat) by omega,u32_or_nat _ _ (by omega) (by omega),← e3]
  omega
def fillR (b:List UInt8):Nat->List Int
  | 0=>List.replicate 16 0
  | k+1=>(fillR b k).set (k / 4) (((fillR b k).getD (k / 4) 0 * 256+((b.getD k 0).toNat:Int)) % 4294967296)
theorem fillR_length (b:List UInt8) (k:Nat):(fillR b k).length=16:=by
  induction k with
  | zero=>simp [fillR]
  | succ k ih=>simp [fillR,ih]
def winNext (V:List Int) (i:Nat):List Int:=
  if 16<=i then V.set (i % 16) ((V.getD (i % 16) 0+sP (V.getD ((i+1) % 16) 0)+V.getD ((i+9) % 16) 0+tP (V.getD ((i+14) % 16) 0)) % 4294967296) else V
def win (V:List Int):Nat->List Int
  | 0=>V
  | i+1=>winNext (win V i) i
theorem win_length (V:List Int) (i:Nat):(win V i).length=V.length:=by
  induction i with
  | zero=>rfl
  | succ i ih=>
    simp only [win,winNext]
    split <;> simp [ih]
def roundsR (s:St) (V:List Int):Nat->St
  | 0=>s
  | i+1=>step (roundsR s V i) (kTab.getD i 0) ((win V (i+1)).getD (i % 16) 0)
def blockR (s:St) (b:List UInt8):St:=addP s (roundsR s (fillR b 64) 64)
theorem getD_set (l:List Int) (i j:Nat) (v:Int) (hi:i < l.length):(l.set i v).getD j 0=if i=j then v else l.getD j 0:=by
  by_cases h:i=j
  · subst h
    simp [hi]
  · simp [h]
theorem fillR_early (b:List UInt8) (j:Nat) (hj:j < 16):∀ k,k<=4 * j->(fillR b k).getD j 0=0
  | 0,_=>by
    unfold fillR
    simp only [List.getD_eq_getElem?_getD,List.getElem?_replicate,hj,if_true,Option.getD_some]
  | k+1,h=>by
    rw [fillR,getD_set _ _ _ _ (by rw [fillR_length]; omega),if_neg (by omega)]
    exact fillR_early b j hj k (by omega)
theorem fillR_late (b:List UInt8) (j:Nat):∀ n,4 * j+4+n<=64->(fillR b (4 * j+4+n)).getD j 0=(fillR b (4 * j+4)).getD j 0
  | 0,_=>rfl
  | n+1,h=>by
    rw [← Nat.add_assoc,fillR,getD_set _ _ _ _ (by rw [fillR_length]; omega),if_neg (by omega)]
    exact fillR_late b j n (by omega)
theorem fillR_at (b:List UInt8) (j:Nat) (hj:j < 16):(fillR b 64).getD j 0=word4 (b.getD (4 * j) 0) (b.getD (4 * j+1) 0) (b.getD (4 * j+2) 0) (b.getD (4 * j+3) 0):=by
  have h:=fillR_late b j (60 - 4 * j) (by omega)
  rw [show 4 * j+4+(60 - 4 * j)=64 by omega] at h
  have s0:=fillR_early b j hj (4 * j) (Nat.le_refl _)
  have st:∀ k,4 * j<=k->k < 4 * j+4->(fillR b (k+1)).getD j 0=((fillR b k).getD j 0 * 256+((b.getD k 0).toNat:Int)) % 4294967296:=fun k h1 h2=>by
    have e:k / 4=j:=by omega
    rw [fillR,getD_set _ _ _ _ (by rw [fillR_length]; omega),e,if_pos rfl]
  have s1:=st (4 * j) (by omega) (by omega)
  have s2:=st (4 * j+1) (by omega) (by omega)
  have s3:=st (4 * j+2) (by omega) (by omega)
  have s4:=st (4 * j+3) (by omega) (by omega)
  rw [h,s4,s3,s2,s1,s0,word4_sum]
  have h0:=(b.getD (4 * j) 0).toNat_lt
  have h1:=(b.getD (4 * j+1) 0).toNat_lt
  have h2:=(b.getD (4 * j+2) 0).toNat_lt
  have h3:=(b.getD (4 * j+3) 0).toNat_lt
  generalize (b.getD (4 * j) 0).toNat=x0 at *
  generalize (b.getD (4 * j+1) 0).toNat=x1 at *
  generalize (b.getD (4 * j+2) 0).toNat=x2 at *
  generalize (b.getD (4 * j+3) 0).toNat=x3 at *
  omega
theorem fill_len (b:List UInt8) (k:Nat):(fill b k).length=64:=by
  induction k with
  | zero=>simp [fill]
  | succ k ih=>simp [fill,ih]
theorem ext_len (L:List Int) (k:Nat):(ext L k).length=L.length:=by
  induction k with
  | zero=>rfl
  | succ k ih=>simp [ext,ih]
theorem fill_late (b:List UInt8) (j:Nat):∀ n,j+1+n<=64->(fill b (j+1+n)).getD j 0=(fill b (j+1)).getD j 0
  | 0,_=>rfl
  | n+1,h=>by
    rw [← Nat.add_assoc,fill,getD_set _ _ _ _ (by rw [fill_len]; omega),if_neg (by omega)]
    exact fill_late b j n (by omega)
theorem fill_at (b:List UInt8) (j:Nat) (hj:j < 16):(fill b 16).getD j 0=word4 (b.getD (4 * j) 0) (b.getD (4 * j+1) 0) (b.getD (4 * j+2) 0) (b.getD (4 * j+3) 0):=by
  have h:=fill_late b j (15 - j) (by omega)
  rw [show j+1+(15 - j)=16 by omega] at h
  rw [h,fill,getD_set _ _ _ _ (by rw [fill_len]; omega),if_pos rfl]
theorem ext_keep (L:List Int) (hL:L.length=64) (j:Nat):∀ k n,j < 16+k->k+n<=48->(ext L (k+n)).getD j 0=(ext L k).getD j 0
  | _,0,_,_=>rfl
  | k,n+1,h,hk=>by
    rw [← Nat.add_assoc,ext,getD_set _ _ _ _ (by rw [ext_len]; omega),if_neg (by omega)]
    exact ext_keep L hL j k n h (by omega)
theorem ext_low (L:List Int) (hL:L.length=64) (j:Nat) (hj:j < 16):(ext L 48).getD j 0=L.getD j 0:=by
  have:=ext_keep L hL j 0 48 (by omega) (by omega)
  simpa [ext] using this
theorem ext_next (L:List Int) (hL:L.length=64) (i:Nat) (h0:16<=i) (h1:i < 64):(ext L 48).getD i 0=more (ext L 48) i:=by
  have e1:=ext_keep L hL i (i - 16+1) (64 - 1 - i) (by omega) (by omega)
  rw [show i - 16+1+(64 - 1 - i)=48 by omega] at e1
  rw [e1,ext,getD_set _ _ _ _ (by rw [ext_len]; omega),if_pos (by omega),show 16+(i - 16)=i by omega]
  have keep:∀ j,j < i->(ext L (i - 16)).getD j 0=(ext L 48).getD j 0:=fun j hj=>by
    have:=ext_keep L hL j (i - 16) (64 - i) (by omega) (by omega)
    rw [show i - 16+(64 - i)=48 by omega] at this
    exact this.symm
  unfold more
  rw [keep (i - 16) (by omega),keep (i - 15) (by omega),keep (i - 7) (by omega),keep (i - 2) (by omega)]
theorem win_is (b:List UInt8) (i:Nat) (hi:i<=64):∀ m,m < 64->(m < i ∨ m < 16)->(i<=m+16)->(win (fillR b 64) i).getD (m % 16) 0=(widenP b).getD m 0:=by
  have hfl:(fill b 16).length=64:=fill_len b 16
  induction i with
  | zero=>
    intro m hm h1 _
    have hm16:m < 16:=by omega
    rw [win,Nat.mod_eq_of_lt hm16,fillR_at b m hm16,widenP,ext_low _ hfl m hm16,fill_at b m hm16]
  | succ i ih=>
    intro m hm h1 h2
    have ih':=ih (by omega)
    rw [win,winNext]
    by_cases h16:16<=i
    · rw [if_pos h16,getD_set _ _ _ _ (by rw [win_length,fillR_length]; omega)]
      by_cases hmi:m=i
      · subst hmi
        rw [if_pos rfl,widenP,ext_next _ hfl m h16 hm,← widenP]
        unfold more
        rw [← ih' (m - 16) (by omega) (by omega) (by omega),← ih' (m - 15) (by omega) (by omega) (by omega),← ih' (m - 7) (by omega) (by omega) (by omega),← ih' (m - 2) (by omega) (by omega) (by omega),
          show (m - 16) % 16=m % 16 by omega,show (m - 15) % 16=(m+1) % 16 by omega,show (m - 7) % 16=(m+9) % 16 by omega,show (m - 2) % 16=(m+14) % 16 by omega]
      · rw [if_neg (by omega)]
        exact ih' m hm (by omega) (by omega)
    · rw [if_neg h16]
      exact ih' m hm (by omega) (by omega)
theorem roundsR_is (s:St) (b:List UInt8) (i:Nat) (hi:i<=64):roundsR s (fillR b 64) i=rounds s (widenP b) i:=by
  induction i with
  | zero=>rfl
  | succ i ih=>rw [roundsR,rounds,ih (by omega),win_is b (i+1) hi i (by omega) (by omega) (by omega)]
theorem blockR_is (s:St) (b:List UInt8):blockR s b=blockP s b:=by
  unfold blockR blockP turnP
  rw [roundsR_is s b 64 (by omega)]
end Sha
namespace Sha
open Go
def endR (N:Nat):Nat->List UInt8
  | 0=>[]
  | k+1=>byteOf ((N / 256 ^ k:Nat):Int) :: endR N k
theorem endR_length (N k:Nat):(endR N k).length=k:=by
  induction k with
  | zero=>rfl
  | succ k ih=>simp [endR,ih]
theorem set8 (A B:List UInt8) (b0 b1 b2 b3 b4 b5 b6 b7:UInt8) (n:Nat) (hA:A.length=n):
    ((((((((A ++ 0 :: 0 :: 0 :: 0 :: 0 :: 0 :: 0 :: 0 :: B).set (n+0) b0).set (n+1) b1).set (n+2) b2).set (n+3) b3).set (n+4) b4).set (n+5) b5).set (n+6) b6).set (n+7) b7=(A ++ [b0,b1,b2,b3,b4,b5,b6,b7]) ++ B:=by
  subst hA
  simp
theorem tail_base (z:Nat) (hz:z<=63):(List.replicate 72 (0:UInt8)).set 0 128=(128 :: List.replicate z 0) ++ 0 :: 0 :: 0 :: 0 :: 0 :: 0 :: 0 :: 0 :: List.replicate (63 - z) 0:=by
  have e:(List.replicate 72 (0:UInt8))=0 :: (List.replicate z 0 ++ 0 :: 0 :: 0 :: 0 :: 0 :: 0 :: 0 :: 0 :: List.replicate (63 - z) 0):=by
    apply List.ext_getElem
    · simp; omega
    · intro i h1 h2
      rw [List.getElem_replicate]
      have:∀ x ∈ (0:UInt8) :: (List.replicate z 0 ++ 0 :: 0 :: 0 :: 0 :: 0 :: 0 :: 0 :: 0 :: List.replicate (63 - z) 0),x=0:=by
        intro x hx
        simp [List.mem_replicate] at hx
        rcases hx with h | h | h | h <;> simp_all
      exact (this _ (List.getElem_mem h2)).symm
  rw [e]
  rfl
theorem tailP_is (n z:Nat) (hz:z=(119 - n % 64) % 64):tailP n=(128 :: List.replicate z 0) ++ endR (n * 8) 8:=by
  have hp:padN n=1+z:=by rw [hz]; rfl
  have hA:((128:UInt8) :: List.replicate z 0).length=1+z:=by simp; omega
  have h8:=set8 (128 :: List.replicate z 0) (List.replicate (63 - z) 0) (byteOf ((n:Int) * 8 / 2 ^ (8 * (7 - 0)))) (byteOf ((n:Int) * 8 / 2 ^ (8 * (7 - 1)))) (byteOf ((n:Int) * 8 / 2 ^ (8 * (7 - 2)))) (byteOf ((n:Int) * 8 / 2 ^ (8 * (7 - 3)))) (byteOf ((n:Int) * 8 / 2 ^ (8 * (7 - 4)))) (byteOf ((n:Int) * 8 / 2 ^ (8 * (7 - 5)))) (byteOf ((n:Int) * 8 / 2 ^ (8 * (7 - 6)))) (byteOf ((n:Int) * 8 / 2 ^ (8 * (7 - 7)))) (1+z) hA
  have ht:tailFill n 8=((128 :: List.replicate z 0) ++ [byteOf ((n:Int) * 8 / 2 ^ (8 * (7 - 0))),byteOf ((n:Int) * 8 / 2 ^ (8 * (7 - 1))),byteOf ((n:Int) * 8 / 2 ^ (8 * (7 - 2))),byteOf ((n:Int) * 8 / 2 ^ (8 * (7 - 3))),byteOf ((n:Int) * 8 / 2 ^ (8 * (7 - 4))),byteOf ((n:Int) * 8 / 2 ^ (8 * (7 - 5))),byteOf ((n:Int) * 8 / 2 ^ (8 * (7 - 6))),byteOf ((n:Int) * 8 / 2 ^ (8 * (7 - 7)))]) ++ List.replicate (63 - z) 0:=by
    rw [← h8,← tail_base z (by omega)]
    simp only [tailFill,hp]
  rw [tailP,ht,hp,List.take_append_of_le_length (by simp; omega),List.take_of_length_le (by simp; omega)]
  congr 1
def copyR (X:List UInt8):Nat->List UInt8
  | 0=>List.replicate 64 0
  | j+1=>(copyR X j).set j (X.getD j 0)
theorem copyR_length (X:List UInt8) (j:Nat):(copyR X j).length=64:=by
  induction j with
  | zero=>simp [copyR]
  | succ j ih=>simp [copyR,ih]
theorem copyR_is (X:List UInt8) (hX:X.length=64) (j:Nat) (hj:j<=64):copyR X j=X.take j ++ List.replicate (64 - j) 0:=by
  induction j with
  | zero=>simp [copyR]
  | succ j ih=>
    rw [copyR,ih (by omega),show 64 - j=(64 - (j+1))+1 by omega,List.replicate_succ,List.set_append_right _ _ (by simp; omega),
      List.take_succ_eq_append_getElem (by omega)]
    have e:j - (X.take j).length=0:=by simp; omega
    rw [e,List.set_cons_zero,List.getD_eq_getElem?_getD,List.getElem?_eq_getElem (by omega),Option.getD_some,List.append_assoc]
    rfl
theorem copyR_all (X:List UInt8) (hX:X.length=64):copyR X 64=X:=by
  rw [copyR_is X hX 64 (by omega),List.take_of_length_le (by omega)]
  simp
end Sha
section
open Go.RowKit
theorem and31_fin:∀ n:Fin 32,0 < n.val->bits .and .u64 (IntKind.u64.wrap (-(n.val:Int))) 31=32 - (n.val:Int):=by decide +kernel
theorem and31 (n:Int) (h0:1<=n) (h1:n<=31):bits .and .u64 (IntKind.u64.wrap (-n)) 31=32 - n:=by
  have:=and31_fin ⟨n.toNat,by omega⟩ (by simp; omega)
  simpa [Int.toNat_of_nonneg (show 0<=n by omega)] using this
theorem rotl_any (x n:Int) (w:World) (h0:1<=n) (h1:n<=31):
    Calls Tryz.prog 196 #[.int .u32 x,.int .i64 (-n)] w fun e w'=>e=.returned (.int .u32 (Sha.rotI x n))/\w'=w:=by
  have hk:=and31 n h0 h1
  have e:(32 - (32 - n)).toNat=n.toNat:=by omega
  go_enter Tryz.func196,Tryz.ntmps196
  go_wp2
  go_ret
  refine ⟨?_,rfl⟩
  simp [Sha.rotI]
theorem rot_any (x n:Int) (w:World) (h0:1<=n) (h1:n<=31):
    Calls Tryz.prog 195 #[.int .u32 x,.int .i64 n] w fun e w'=>e=.returned (.int .u32 (Sha.rotI x n))/\w'=w:=by
  go_enter Tryz.func195,Tryz.ntmps195
  go_wp2_with fail
  refine (rotl_any x n _ h0 h1).mono ?_
  rintro e w1 ⟨rfl,rfl⟩
  go_wp2
  go_ret
  exact ⟨rfl,rfl⟩
end
section
open Go.RowKit
def u32s (l:List Int):Array Value:=(l.map fun x=>Value.int .u32 x).toArray
theorem u32s_at (l:List Int) (j:Nat) (hj:j < l.length):(u32s l)[j]?=some (.int .u32 (l.getD j 0)):=by
  simp [u32s,hj]
theorem u32s_size (l:List Int):(u32s l).size=l.length:=by simp [u32s]
theorem u32s_one (l:List Int):(u32s l).all (·.oneCell')=true:=by
  simp only [u32s,List.all_toArray,List.all_map,List.all_eq_true]
  intro x _
  rfl
theorem u32s_set (l:List Int) (j:Nat) (x:Int):(u32s l).setIfInBounds j (.int .u32 x)=u32s (l.set j x):=by
  simp [u32s,List.map_set]
def u8s (l:List UInt8):Array Value:=(cellsL l).toArray
theorem u8s_at (l:List UInt8) (j:Nat) (hj:j < l.length):(u8s l)[j]?=some (.int .u8 ((l.getD j 0).toNat:Int)):=by
  simp [u8s,cellsL,hj]
theorem u8s_size (l:List UInt8):(u8s l).size=l.length:=by simp [u8s,cellsL]
theorem u8s_set (l:List UInt8) (j:Nat) (x:UInt8):(u8s l).setIfInBounds j (.int .u8 (x.toNat:Int))=u8s (l.set j x):=by
  simp [u8s,cellsL,List.map_set]
def Tab (w:World):Prop:=∀ i:Nat,i < 64->w.cell? ⟨0,i,none⟩=some (.int .u32 (Sha.kTab.getD i 0))
theorem Tab.below {w w':World} (h:Tab w) (hb:Below w.heap.size w w'):Tab w':=fun i hi=>(hb.cell (block_lt_of_cell (h i hi))).trans (h i hi)
theorem Tab.pos {w:World} (h:Tab w):0 < w.heap.size:=block_lt_of_cell (h 0 (by omega))
theorem wrap_small (n:Int) (h0:0<=n) (h1:n<=1000000):IntKind.i64.wrap n=n:=by
  unfold IntKind.wrap
  simp [IntKind.signed,IntKind.bits]
  omega
end
section
open Go.RowKit
def words8 (s:Sha.St):List Value:=[.int .u32 s.a,.int .u32 s.b,.int .u32 s.c,.int .u32 s.d,.int .u32 s.e,.int .u32 s.f,.int .u32 s.g,.int .u32 s.h]
def hashL (s:Sha.St) (o:List UInt8) (n:Nat):List Value:=words8 s ++ (cellsL o ++ [.int .u64 (n:Int)])
theorem hashL_length (s:Sha.St) (o:List UInt8) (n:Nat) (h:o.length=64):(hashL s o n).length=73:=by
  simp [hashL,words8,cellsL_length,h]
theorem hashL_count (s:Sha.St) (o:List UInt8) (n:Nat) (h:o.length=64):(hashL s o n).toArray[72]?=some (.int .u64 (n:Int)):=by
  rw [List.getElem?_toArray]
  unfold hashL
  rw [List.getElem?_append_right (by simp [words8]),List.getElem?_append_right (by simp [words8,cellsL_length,h])]
  simp [words8,cellsL_length,h]
theorem hashL_setCount (s:Sha.St) (o:List UInt8) (n m:Nat) (h:o.length=64):(hashL s o n).toArray.setIfInBounds 72 (.int .u64 (m:Int))=(hashL s o m).toArray:=by
  rw [List.setIfInBounds_toArray]
  unfold hashL
  rw [List.set_append_right _ _ (by simp [words8]),List.set_append_right _ _ (by simp [words8,cellsL_length,h])]
  simp [words8,cellsL_length,h]
theorem hashL_open (s:Sha.St) (o:List UInt8) (n j:Nat) (hj:j < o.length):(hashL s o n).toArray[8+j]?=some (.int .u8 ((o.getD j 0).toNat:Int)):=by
  rw [List.getElem?_toArray]
  unfold hashL
  rw [List.getElem?_append_right (by simp [words8]),List.getElem?_append_left (by simp [words8,cellsL_length,hj])]
  simp [words8,cellsL,hj]
theorem hashL_set8 (s t:Sha.St) (o:List UInt8) (n:Nat):
    ((((((((hashL s o n).toArray.setIfInBounds 0 (.int .u32 t.a)).setIfInBounds 1 (.int .u32 t.b)).setIfInBounds 2 (.int .u32 t.c)).setIfInBounds 3 (.int .u32 t.d)).setIfInBounds 4 (.int .u32 t.e)).setIfInBounds 5 (.int .u32 t.f)).setIfInBounds 6 (.int .u32 t.g)).setIfInBounds 7 (.int .u32 t.h)=(hashL t o n).toArray:=by
  simp [hashL,words8]
theorem hashL_copy (s:Sha.St) (o x:List UInt8) (n m:Nat) (ho:o.length=64) (hm:m+x.length<=64):
    (hashL s o n).take (8+m) ++ cellsL x ++ (hashL s o n).drop (8+m+x.length)=hashL s (o.take m ++ x ++ o.drop (m+x.length)) n:=by
  have h8:(words8 s).length=8:=rfl
  have hc:(cellsL o).length=64:=by rw [cellsL_length,ho]
  unfold hashL
  rw [List.take_append,List.drop_append,h8,List.take_of_length_le (by omega),List.drop_eq_nil_of_le (by omega),show 8+m - 8=m by omega,show 8+m+x.length - 8=m+x.length by omega,
    List.take_append_of_le_length (by omega),List.drop_append_of_le_length (by omega)]
  simp [cellsL]
theorem Only.setRow {g:Nat} {a w:World} (h:Only g a w) (cs:Array Value):Only g a (w.setRow g cs):=
  ⟨h.os,h.tape,h.output,by have:=h.size; simpa using this,fun i hi hg=>(setRow_other w g i cs hg).trans (h.block i hi hg)⟩
theorem Tab.only {w w':World} {g:Nat} (h:Tab w) (ho:Only g w w') (hg:0 < g):Tab w':=fun i hi=>ho.cell (h i hi) (by dsimp only; omega)
def HashIs (w:World) (g:Nat) (t:List UInt8):Prop:=
  ∃ o:List UInt8,o.length=64/\o.take (t.length % 64)=Sha.restP t/\w.heap[g]?=some (.cells (hashL (Sha.wordsP t) o t.length).toArray 220 (0,0))
theorem HashIs.lt {w:World} {g:Nat} {t:List UInt8} (h:HashIs w g t):g < w.heap.size:=by
  obtain ⟨_,_,_,hg⟩:=h
  exact lt_of_heap hg
theorem HashIs.below {w w':World} {g:Nat} {t:List UInt8} (h:HashIs w g t) (hb:Below w.heap.size w w'):HashIs w' g t:=by
  have hlt:=h.lt
  obtain ⟨o,h1,h2,hg⟩:=h
  exact ⟨o,h1,h2,(hb.block g hlt).trans hg⟩
theorem run_copy_part {P:Program} (w:World) (dT sT ty elem:TypeId) (g o dLen dCap n:Nat) (l:List UInt8) (cur:Array Value) (t:TypeId)
    (hu:P.underlying dT=some (.slice elem)) (hs:(P.info? elem).map (·.size)=some 1) (hg:w.heap[g]?=some (.cells cur t (0,0))) (hn:n=Nat.min l.length dLen) (hfit:o+n<=cur.size):
    (Builtin.copy_ #[dT,sT] ty #[.slice (some ⟨g,o,none⟩) dLen dCap,.string ⟨l.toArray⟩]).run P w =
      .ok (goInt n) (w.setRow g (cur.toList.take o ++ cellsL (l.take n) ++ cur.toList.drop (o+n)).toArray):=by
  have hnl:n<=l.length:=by rw [hn]; exact Nat.min_le_left _ _
  have hlen:(cellsL (l.take n)).length=n:=by rw [cellsL_length,List.length_take]; omega
  have hst:=run_storeCells_at P g o t (cellsL (l.take n)) 0 cur w hg (by rw [hlen]; simpa using hfit) (by
    intro v hv
    simp only [cellsL,List.mem_map] at hv
    obtain ⟨x,_,rfl⟩:=hv
    rfl)
  rw [hlen] at hst
  simp only [Nat.add_zero] at hst
  have htk:List.take n (List.map (fun b:UInt8=>Value.int IntKind.u8 (b.toNat:Int)) l)=cellsL (l.take n):=by simp [cellsL,List.map_take]
  have hsz:(⟨l.toArray⟩:ByteArray).size=l.length:=by simp [ByteArray.size]
  cases hq:P.info? elem with
  | none=>simp [hq] at hs
  | some i=>
    simp [Builtin.copy_,run_underlying hu,Builtin.lenOf,Builtin.firstCells,sizeOf,typeInfo,hq,hsz,← hn]
    rw [htk,hst]
    simp [Result.andThen]
theorem step_copy_part {P:Program} {ops:Array Oper} {o:Oper} {a:Act} {w:World} {K:Act->World->Prop} {Q:Exit->Act->World->Prop} {E:Prop} (hgd:o.guard=none) (d s:Operand) (dT sT:TypeId)
    (ho:o.op=.call { callee:=.builtin .copy,args:=#[d,s],argTypes:=#[dT,sT] }) (elem:TypeId) (hu:P.underlying dT=some (.slice elem)) (hsz:(P.info? elem).map (·.size)=some 1)
    (g off dLen dCap n:Nat) (l:List UInt8) (hd:a.eval d=.slice (some ⟨g,off,none⟩) dLen dCap) (hs:a.eval s=.string ⟨l.toArray⟩)
    (cur:Array Value) (t:TypeId) (hg:w.heap[g]?=some (.cells cur t (0,0))) (hn:n=Nat.min l.length dLen) (hfit:off+n<=cur.size)
    (h:∀ w',Hid (w'.heap[g]?=some (.cells (cur.toList.take off ++ cellsL (l.take n) ++ cur.toList.drop (off+n)).toArray t (0,0)))->Hid (Only g w w')->K (a.put o.dst (goInt n)) w'):
    if Region.wanted o (yielded ops a.tmps)=true then Oper.wp P o a w K Q else E:=by
  have hw:Region.wanted o (yielded ops a.tmps)=true:=by simp [Region.wanted,hgd]
  rw [if_pos hw]
  have hrun:=run_copy_part (P:=P) w dT sT o.type elem g off dLen dCap n l cur t hu hsz hg hn hfit
  unfold Oper.wp
  simp [execOp,ho,resolve,invoke,builtin,hd,hs,hrun,Result.andThen]
  exact h _ (qh (by rw [List.append_assoc]; exact setRow_heap w g _ _ t _ hg)) (qh ((Only.refl g w).setRow _))
end
section
open Go.RowKit
theorem Tryz.info8:(Tryz.prog.info? 173).map (·.size)=some 8:=by kernel_rfl
theorem turn_any (s:Sha.St) (W:List Int) (w:World) (hW:W.length=64) (hK:Tab w):
    Calls Tryz.prog 190 #[.agg (u32s s.list),.agg (u32s W)] w fun e w'=>e=.returned (.agg (u32s (Sha.turnP s W).list))/\Below w.heap.size w w':=by
  obtain ⟨s0,hs0⟩:∃ s0,s=s0:=⟨_,rfl⟩
  obtain ⟨a,b,c,d,e,f,g,h⟩:=s
  obtain ⟨ws,hws⟩:∃ ws,u32s W=ws:=⟨_,rfl⟩
  rw [hws,hs0]
  have HS:=qh hs0
  have HWS:=qh hws
  have HK:=qh hK
  have HLW:=qh hW
  rw [← hs0]
  simp only [Sha.St.list,u32s,List.map_cons,List.map_nil]
  clear hws hK hs0 hW
  go_enter Tryz.func190,Tryz.ntmps190
  go_wp2
  go_quiet (fail)
  go_wp2
  go_quiet (fail)
  go_wp2
  go_loopw [5,6,7,8,9,10,11,12,32] (fun xa xb xc xd xe xf xg xh i wr=>∃ k:Nat,k<=64/\i=.int .i64 k/\xa=.int .u32 (Sha.rounds s0 W k).a/\xb=.int .u32 (Sha.rounds s0 W k).b/\xc=.int .u32 (Sha.rounds s0 W k).c/\xd=.int .u32 (Sha.rounds s0 W k).d/\xe=.int .u32 (Sha.rounds s0 W k).e/\xf=.int .u32 (Sha.rounds s0 W k).f/\xg=.int .u32 (Sha.rounds s0 W k).g/\xh=.int .u32 (Sha.rounds s0 W k).h/\
      Below w.heap.size w wr/\wr.heap[w.heap.size+1]?=some (.cells ws 224 (0,0))/\wr.heap[w.heap.size+1+1]?=some (.cells (u32s (List.replicate 8 0)) 173 (0,0))) (fun _ _ _ _ _ _ _ _ i _=>64 - (intOf i).toNat)
  case atStart=>
    refine ⟨0,by omega,rfl,by rw [← HS.out]; rfl,by rw [← HS.out]; rfl,by rw [← HS.out]; rfl,by rw [← HS.out]; rfl,by rw [← HS.out]; rfl,by rw [← HS.out]; rfl,by rw [← HS.out]; rfl,by rw [← HS.out]; rfl,?_,?_,?_⟩
    · exact bel_drewN (bel_drewN ((((Below.refl _ w).alloc (Nat.le_refl _) _).alloc (by simp) _).alloc (by simp; omega) _) _) _
    · exact heap_old_at _ (heap_new_at _ _ _ (by simp))
    · exact heap_new_at _ _ _ (by simp)
  case round=>
    obtain ⟨k,hk,rfl,rfl,rfl,rfl,rfl,rfl,rfl,rfl,rfl,hb,hg1,hg2⟩:=hrel
    have HG1:=qh hg1
    have HG2:=qh hg2
    have HBe:=qh hb
    have hsz:w.heap.size+1 < wr.heap.size:=lt_of_heap hg1
    by_cases hlt:k < 64
    · obtain ⟨S,hS⟩:∃ S,Sha.rounds s0 W k=S:=⟨_,rfl⟩
      have hnext:Sha.rounds s0 W (k+1)=Sha.step S (Sha.kTab.getD k 0) (W.getD k 0):=by rw [← hS]; rfl
      have hcK:wr.cell? ⟨0,k,none⟩=some (.int .u32 (Sha.kTab.getD k 0)):=(HK.out.below hb) k hlt
      have hcW:wr.cell? ⟨w.heap.size+1,k,none⟩=some (.int .u32 (W.getD k 0)):=by
        rw [cell_of_row wr _ k ws _ _ hg1,← HWS.out]; exact u32s_at W k (by rw [HLW.out]; exact hlt)
      obtain ⟨kk,hkk⟩:∃ kk,Sha.kTab.getD k 0=kk:=⟨_,rfl⟩
      obtain ⟨ww,hww⟩:∃ ww,W.getD k 0=ww:=⟨_,rfl⟩
      rw [hkk,hww] at hnext
      rw [hkk] at hcK
      rw [hww] at hcW
      rw [hS]
      have HN:=qh hnext
      clear hnext hkk hww hS hb hg1 hg2
      obtain ⟨a,b,c,d,e,f,g,h⟩:=S
      have h1:(k:Int) < 64:=by omega
      dsimp only
      go_wp2
      go_quiet ((go_at_call 195; exact Calls.quiet_of_same (rot_any _ _ _ (by omega) (by omega))))
      go_wp2_with fail
      refine (rot_any a 2 _ (by omega) (by omega)).mono ?_
      rintro _ _ ⟨rfl,rfl⟩
      go_wp2_with fail
      refine (rot_any a 13 _ (by omega) (by omega)).mono ?_
      rintro _ _ ⟨rfl,rfl⟩
      go_wp2_with fail
      refine (rot_any a 22 _ (by omega) (by omega)).mono ?_
      rintro _ _ ⟨rfl,rfl⟩
      go_wp2
      go_roundw
      case rel=>
        refine ⟨k+1,by omega,by go_num,?_,?_,?_,?_,?_,?_,?_,?_,bel_drewN HBe.out _,HG1.out,HG2.out⟩ <;> rw [HN.out] <;> simp only [Sha.step,Sha.uP,Sha.vP]
        all_goals rfl
      case measure=>simp [intOf]; omega
    · obtain rfl:k=64:=by omega
      have hno:¬ ((64:Nat):Int) < 64:=by omega
      obtain ⟨S,hS⟩:∃ S,Sha.rounds s0 W 64=S:=⟨_,rfl⟩
      have HS64:=qh hS
      rw [hS]
      clear hS hg1 hg2 hb
      obtain ⟨a,b,c,d,e,f,g,h⟩:=S
      dsimp only
      go_wp2_with (refine wpList_store_row (by rfl) _ _ _ (by rfl) (w.heap.size+1+1) (u32s [a,b,c,d,e,f,g,h]) (by rfl) (by rfl) _ _ HG2.out Tryz.info8 (by rfl) (u32s_one _) ?_)
      refine bodyPost_ret (v:=.agg (u32s [a,b,c,d,e,f,g,h])) (results_cell_row rfl _ _ (w.heap.size+1+1) _ _ _ _ rfl (setRow_heap _ _ _ _ _ _ HG2.out) Tryz.underlying173 rfl Tryz.info8) rfl ⟨?_,below_setRow HBe.out (by omega) _⟩
      unfold Sha.turnP
      rw [HS.out,HS64.out]
      rfl
end
section
open Go.RowKit
attribute [local go_sem ↓] Go.wp_at_zero Go.wp_at_succ
theorem Tryz.info64:(Tryz.prog.info? 224).map (·.size)=some 64:=by kernel_rfl
theorem Sha.fill_length (b:List UInt8) (k:Nat):(Sha.fill b k).length=64:=by
  induction k with
  | zero=>simp [Sha.fill]
  | succ k ih=>simp [Sha.fill,ih]
theorem Sha.ext_length (L:List Int) (k:Nat):(Sha.ext L k).length=L.length:=by
  induction k with
  | zero=>rfl
  | succ k ih=>simp [Sha.ext,ih]
theorem widen_any (b:List UInt8) (w:World) (hb:b.length=64):
    Calls Tryz.prog 191 #[.agg (u8s b)] w fun e w'=>e=.returned (.agg (u32s (Sha.widenP b)))/\Below w.heap.size w w':=by
  obtain ⟨bs,hbs⟩:∃ bs,u8s b=bs:=⟨_,rfl⟩
  rw [hbs]
  have HBS:=qh hbs
  have HLB:=qh hb
  clear hbs hb
  go_enter Tryz.func191,Tryz.ntmps191
  go_wp2
  go_loopw [10] (fun i wr=>∃ k:Nat,k<=16/\i=.int .i64 k/\
      Below w.heap.size w wr/\wr.heap[w.heap.size]?=some (.cells bs 175 (0,0))/\wr.heap[w.heap.size+1]?=some (.cells (u32s (List.replicate 64 0)) 224 (0,0))/\wr.heap[w.heap.size+1+1]?=some (.cells (u32s (Sha.fill b k)) 224 (0,0))) (fun i _=>16 - (intOf i).toNat)
  case atStart=>
    refine ⟨0,by omega,rfl,?_,?_,?_,?_⟩
    · exact (((Below.refl _ w).alloc (Nat.le_refl _) _).alloc (by simp) _).alloc (by simp; omega) _
    · exact heap_old_at _ (heap_old_at _ (heap_new_at _ _ _ (by simp)))
    · exact heap_old_at _ (heap_new_at _ _ _ (by simp))
    · exact heap_new_at _ _ _ (by simp)
  case round=>
    obtain ⟨k,hk,rfl,hbe,hg0,hg1,hg2⟩:=hrel
    have HBE:=qh hbe
    have HG0:=qh hg0
    have HG1:=qh hg1
    have HG2:=qh hg2
    have hby:∀ j,j < 64->wr.cell? ⟨w.heap.size,j,none⟩=some (.int .u8 ((b.getD j 0).toNat:Int)):=fun j hj=>by
      rw [cell_of_row wr _ j bs _ _ hg0,← HBS.out]; exact u8s_at b j (by rw [HLB.out]; exact hj)
    clear hbe hg0 hg1
    by_cases hlt:k < 16
    · have c0:=hby (4 * k) (by omega)
      have c1:=hby (4 * k+1) (by omega)
      have c2:=hby (4 * k+2) (by omega)
      have c3:=hby (4 * k+3) (by omega)
      have cw:=(cell_of_row wr _ k _ _ _ hg2).trans (u32s_at (Sha.fill b k) k (by rw [Sha.fill_length]; omega))
      have fw:=frozen_of_row wr _ k _ _ hg2
      have e0:(4 * (k:Int)).toNat=4 * k:=by omega
      have e1:(4 * (k:Int)+1).toNat=4 * k+1:=by omega
      have e2:(4 * (k:Int)+2).toNat=4 * k+2:=by omega
      have e3:(4 * (k:Int)+3).toNat=4 * k+3:=by omega
      obtain ⟨x0,h0⟩:∃ x,b.getD (4 * k) 0=x:=⟨_,rfl⟩
      obtain ⟨x1,h1⟩:∃ x,b.getD (4 * k+1) 0=x:=⟨_,rfl⟩
      obtain ⟨x2,h2⟩:∃ x,b.getD (4 * k+2) 0=x:=⟨_,rfl⟩
      obtain ⟨x3,h3⟩:∃ x,b.getD (4 * k+3) 0=x:=⟨_,rfl⟩
      have hn:Sha.fill b (k+1)=(Sha.fill b k).set k (Sha.word4 x0 x1 x2 x3):=by rw [← h0,← h1,← h2,← h3]; rfl
      have HN:=qh hn
      rw [h0] at c0
      rw [h1] at c1
      rw [h2] at c2
      rw [h3] at c3
      have b0:=byte_lt x0
      have b1:=byte_lt x1
      have b2:=byte_lt x2
      have b3:=byte_lt x3
      obtain ⟨old,ho⟩:∃ x,(Sha.fill b k).getD k 0=x:=⟨_,rfl⟩
      rw [ho] at cw
      clear h0 h1 h2 h3 hn ho hby hg2
      have hki:(k:Int) < 16:=by omega
      have hk64:(k:Int) < 64:=by omega
      have hk0:0<=(k:Int):=by omega
      have l0:4 * (k:Int) < 64:=by omega
      have l1:4 * (k:Int)+1 < 64:=by omega
      have l2:4 * (k:Int)+2 < 64:=by omega
      have l3:4 * (k:Int)+3 < 64:=by omega
      have p0:0<=4 * (k:Int):=by omega
      have p1:0<=4 * (k:Int)+1:=by omega
      have p2:0<=4 * (k:Int)+2:=by omega
      have p3:0<=4 * (k:Int)+3:=by omega
      have q0:=wrap_small (4 * (k:Int)) (by omega) (by omega)
      have q1:=wrap_small (4 * (k:Int)+1) (by omega) (by omega)
      have q2:=wrap_small (4 * (k:Int)+2) (by omega) (by omega)
      have q3:=wrap_small (4 * (k:Int)+3) (by omega) (by omega)
      go_wp2
      go_region_held3 (fun w'=>w'.cell? ⟨w.heap.size,4 * k,none⟩=some (.int .u8 (x0.toNat:Int))/\w'.cell? ⟨w.heap.size,4 * k+1,none⟩=some (.int .u8 (x1.toNat:Int))/\w'.cell? ⟨w.heap.size,4 * k+2,none⟩=some (.int .u8 (x2.toNat:Int))/\w'.cell? ⟨w.heap.size,4 * k+3,none⟩=some (.int .u8 (x3.toNat:Int))) (first | (go_split_ands; refine ⟨?_,?_,?_,?_⟩ <;> first | (refine keep_cell' (by assumption) ?_; dsimp only; omega) | (refine keep_cell (by assumption) ?_; dsimp only; omega)) | go_keep) (fail)
      go_wp2
      go_roundw
      case rel=>
        refine ⟨k+1,by omega,by go_num,(HBE.out.setCell (by dsimp only; omega) _).drew,?_,?_,?_⟩
        · exact (Below.heap_setCell _ _ _ _ (by dsimp only; omega)).trans HG0.out
        · exact (Below.heap_setCell _ _ _ _ (by dsimp only; omega)).trans HG1.out
        · rw [HN.out,← u32s_set]
          refine (heap_setCell_same _ _ _ _ _ _ HG2.out).trans ?_
          rfl
      case measure=>simp [intOf]; omega
    · obtain rfl:k=16:=by omega
      have hno:¬ ((16:Nat):Int) < 16:=by omega
      clear hlt hk hby hg2 HG0
      go_wp2
      obtain ⟨L,hL⟩:∃ L,Sha.fill b 16=L:=⟨_,rfl⟩
      have hl:L.length=64:=by rw [← hL,Sha.fill_length]
      have HL:=qh hL
      have HLL:=qh hl
      rw [hL] at HG2
      clear hL hl hno
      go_loopw [5] (fun i wr=>∃ n:Nat,16<=n/\n<=64/\i=.int .i64 n/\
        Below w.heap.size w wr/\wr.heap[w.heap.size+1]?=some (.cells (u32s (List.replicate 64 0)) 224 (0,0))/\wr.heap[w.heap.size+1+1]?=some (.cells (u32s (Sha.ext L (n - 16))) 224 (0,0))) (fun i _=>64 - (intOf i).toNat)
      case atStart=>exact ⟨16,by omega,by omega,rfl,HBE.out,HG1.out,HG2.out⟩
      case round=>
        clear HBE HG1 HG2
        obtain ⟨n,hn0,hn1,rfl,hbe,hg1,hg2⟩:=hrel
        have HBE:=qh hbe
        have HG1:=qh hg1
        have HG2:=qh hg2
        obtain ⟨M,hM⟩:∃ M,Sha.ext L (n - 16)=M:=⟨_,rfl⟩
        have hML:M.length=64:=by rw [← hM,Sha.ext_length]; exact HLL.out
        have HM:=qh hM
        rw [hM] at hg2 HG2
        have hc:∀ j,j < 64->wr.cell? ⟨w.heap.size+1+1,j,none⟩=some (.int .u32 (M.getD j 0)):=fun j hj=>(cell_of_row wr _ j _ _ _ hg2).trans (u32s_at M j (by omega))
        have hf:∀ j,wr.frozen? ⟨w.heap.size+1+1,j,none⟩=false:=fun j=>frozen_of_row wr _ j _ _ hg2
        clear hbe hg1 hg2 hM
        by_cases hlt:n < 64
        · have c16:=hc (n - 16) (by omega)
          have c15:=hc (n - 15) (by omega)
          have c7:=hc (n - 7) (by omega)
          have c2:=hc (n - 2) (by omega)
          have cn:=hc n hlt
          have fn:=hf n
          have hmore:Sha.more M n=(M.getD (n - 16) 0+Sha.sP (M.getD (n - 15) 0)+M.getD (n - 7) 0+Sha.tP (M.getD (n - 2) 0)) % 4294967296:=rfl
          obtain ⟨a,ha⟩:∃ a,M.getD (n - 16) 0=a:=⟨_,rfl⟩
          obtain ⟨x,hx⟩:∃ a,M.getD (n - 15) 0=a:=⟨_,rfl⟩
          obtain ⟨c,hcc⟩:∃ a,M.getD (n - 7) 0=a:=⟨_,rfl⟩
          obtain ⟨y,hy⟩:∃ a,M.getD (n - 2) 0=a:=⟨_,rfl⟩
          obtain ⟨old,ho⟩:∃ a,M.getD n 0=a:=⟨_,rfl⟩
          rw [ha] at c16 hmore
          rw [hx] at c15 hmore
          rw [hcc] at c7 hmore
          rw [hy] at c2 hmore
          rw [ho] at cn
          have HMO:=qh hmore
          clear hmore ha hx hcc hy ho hc hf
          obtain ⟨j16,hj16⟩:∃ j,j+16=n:=⟨n - 16,by omega⟩
          rw [show n - 16=j16 by omega] at c16
          have r16:(n:Int) - 16=(j16:Int):=by omega
          have q16:=wrap_small (j16:Int) (by omega) (by omega)
          have p16:0<=(j16:Int):=by omega
          have l16:(j16:Int) < 64:=by omega
          obtain ⟨j15,hj15⟩:∃ j,j+15=n:=⟨n - 15,by omega⟩
          rw [show n - 15=j15 by omega] at c15
          have r15:(n:Int) - 15=(j15:Int):=by omega
          have q15:=wrap_small (j15:Int) (by omega) (by omega)
          have p15:0<=(j15:Int):=by omega
          have l15:(j15:Int) < 64:=by omega
          obtain ⟨j7,hj7⟩:∃ j,j+7=n:=⟨n - 7,by omega⟩
          rw [show n - 7=j7 by omega] at c7
          have r7:(n:Int) - 7=(j7:Int):=by omega
          have q7:=wrap_small (j7:Int) (by omega) (by omega)
          have p7:0<=(j7:Int):=by omega
          have l7:(j7:Int) < 64:=by omega
          obtain ⟨j2,hj2⟩:∃ j,j+2=n:=⟨n - 2,by omega⟩
          rw [show n - 2=j2 by omega] at c2
          have r2:(n:Int) - 2=(j2:Int):=by omega
          have q2:=wrap_small (j2:Int) (by omega) (by omega)
          have p2:0<=(j2:Int):=by omega
          have l2:(j2:Int) < 64:=by omega
          have hn64:(n:Int) < 64:=by omega
          have p0:0<=(n:Int):=by omega
          have d16:j16 ≠ n:=by omega
          have d7:j7 ≠ n:=by omega
          clear hj16 hj15 hj7 hj2
          go_wp2
          go_quiet (fail)
          go_wp2_with fail
          refine (rot_any x 7 _ (by omega) (by omega)).mono ?_
          rintro _ _ ⟨rfl,rfl⟩
          go_wp2_with fail
          refine (rot_any x 18 _ (by omega) (by omega)).mono ?_
          rintro _ _ ⟨rfl,rfl⟩
          go_wp2_with fail
          refine (rot_any y 17 _ (by omega) (by omega)).mono ?_
          rintro _ _ ⟨rfl,rfl⟩
          go_wp2_with fail
          refine (rot_any y 19 _ (by omega) (by omega)).mono ?_
          rintro _ _ ⟨rfl,rfl⟩
          go_wp2
          go_region_held3 (fun w'=>w'.cell? ⟨w.heap.size+1+1,j16,none⟩=some (.int .u32 a)/\w'.cell? ⟨w.heap.size+1+1,j7,none⟩=some (.int .u32 c)) (first | (go_split_ands; refine ⟨keep_offN c16 (fun e=>d16 (congrArg Addr.off e)),keep_offN c7 (fun e=>d7 (congrArg Addr.off e))⟩) | go_keep) (fail)
          go_wp2
          go_roundw
          case rel=>
            refine ⟨n+1,by omega,by omega,by go_num,(bel_drewN HBE.out _).setCell (show w.heap.size<=w.heap.size+1+1 by omega) _,?_,?_⟩
            · exact (Below.heap_setCell _ _ _ _ (by dsimp only; omega)).trans HG1.out
            · rw [show n+1 - 16=(n - 16)+1 by omega,Sha.ext,HM.out,show 16+(n - 16)=n by omega,← u32s_set,HMO.out]
              refine (heap_setCell_same _ _ _ _ _ _ HG2.out).trans ?_
              simp only [Int.emod_add_emod]
              rfl
          case measure=>simp [intOf]; omega
        · obtain rfl:n=64:=by omega
          have hno:¬ ((64:Nat):Int) < 64:=by omega
          clear hlt hn0 hn1 hc hf
          have hsz:(u32s M).size=64:=by rw [u32s_size,hML]
          have hi:(Tryz.prog.info? 224).map (·.size)=some (u32s M).size:=by rw [hsz]; exact Tryz.info64
          have ho:(u32s (List.replicate 64 0)).size=(u32s M).size:=by rw [hsz]; rfl
          have HI:=qh hi
          have HO:=qh ho
          have HR:Hid (u32s M=u32s (Sha.widenP b)):=qh (by rw [← HM.out]; unfold Sha.widenP; rw [HL.out])
          have HT:=qh (u32s_one M)
          clear hsz hi ho hML
          obtain ⟨R,hR⟩:∃ R,u32s M=R:=⟨_,rfl⟩
          rw [hR] at HG2 HI HO HR HT
          clear hR
          go_wp2_with (first | (refine wpList_load_row (by rfl) _ _ (by rfl) (w.heap.size+1+1) (by rfl) _ R _ _ HG2.out Tryz.underlying224 (by rfl) HI.out ?_) | (refine wpList_store_row (by rfl) _ _ _ (by rfl) (w.heap.size+1) R (by rfl) (by rfl) _ _ HG1.out HI.out HO.out HT.out ?_))
          refine bodyPost_ret (v:=.agg R) (results_cell_row rfl _ _ (w.heap.size+1) _ _ _ _ rfl (setRow_heap _ _ _ _ _ _ HG1.out) Tryz.underlying224 rfl HI.out) rfl ⟨?_,below_setRow HBE.out (by omega) _⟩
          rw [HR.out]
end
end Go.Proofs.YtaficmboooaknaaGreatDoor
