import Derived.Test.YtaficmboooaknaaGreatDoorPv01
import Derived.Test.YtaficmboooaknaaGreatDoorPv23
import Derived.Test.YtaficmboooaknaaGreatDoorPv08
import Derived.Test.YtaficmboooaknaaGreatDoorPv07
import Derived.Test.YtaficmboooaknaaGreatDoorPv13
import Derived.Test.YtaficmboooaknaaGreatDoorPv16
import Derived.Test.YtaficmboooaknaaGreatDoorPv20
import Derived.Test.YtaficmboooaknaaGreatDoorPv11
import Derived.Test.YtaficmboooaknaaGreatDoorPv14
import Derived.Test.YtaficmboooaknaaGreatDoorPv17
set_option maxRecDepth 100000
set_option maxHeartbeats 16000000
namespace Go.Proofs.YtaficmboooaknaaGreatDoor
section
open Go.RowKit
open Go.Proofs.YtaficmboooaknaaGreatDoor.Nd (N)
theorem Nd.rdT_len' (z:Int) (most:Nat) (hz:z=most) (st:Nd.St):(Nd.rdT z st).1.length<=most:=by
  rw [hz]
  exact Nd.rdT_len most st
theorem Nd.rdB_two (st:Nd.St):(Nd.rdB 2 st).1=[] ∨ (Nd.rdB 2 st).1.length=2:=by
  unfold Nd.rdB
  split
  · exact Or.inl rfl
  · split
    · exact Or.inl rfl
    · exact Or.inr (by simp only [List.length_take]; omega)
theorem Nd.bit_tmod (b j:Nat):(((b:Int) / 2 ^ (7 - j)).tmod 2 == 1)=Nd.bitAt b j:=by
  have h1:(b:Int) / 2 ^ (7 - j)=((b / 2 ^ (7 - j):Nat):Int):=by simp
  rw [h1]
  unfold Nd.bitAt
  generalize b / 2 ^ (7 - j)=m
  rw [Int.tmod_eq_emod_of_nonneg (by omega),Bool.eq_iff_iff,beq_iff_eq,decide_eq_true_eq]
  omega
theorem rndecode_any (s:List UInt8) (w:World) (hl:s.length<=1000000):
    Calls Tryz.prog 79 #[.string ⟨s.toArray⟩] w (NDecPost s w):=by
  unfold NDecPost
  rw [← Nd.dec_same s]
  have hb0:Below w.heap.size w (w.alloc (.cells #[.int .i64 0,.string ⟨#[]⟩,.string ⟨#[]⟩,.string ⟨#[]⟩,.string ⟨#[]⟩,.string ⟨#[]⟩,.string ⟨#[]⟩,.string ⟨#[]⟩,.string ⟨#[]⟩,.string ⟨#[]⟩,.string ⟨#[]⟩,.string ⟨#[]⟩,.string ⟨#[]⟩,.string ⟨#[]⟩,.string ⟨#[]⟩,.string ⟨#[]⟩,.string ⟨#[]⟩,.string ⟨#[]⟩,.string ⟨#[]⟩] 110)):=(Below.refl _ w).alloc (Nat.le_refl _) _
  have HB0:=qh hb0
  have HZ0:Hid ((w.alloc (.cells #[.int .i64 0,.string ⟨#[]⟩,.string ⟨#[]⟩,.string ⟨#[]⟩,.string ⟨#[]⟩,.string ⟨#[]⟩,.string ⟨#[]⟩,.string ⟨#[]⟩,.string ⟨#[]⟩,.string ⟨#[]⟩,.string ⟨#[]⟩,.string ⟨#[]⟩,.string ⟨#[]⟩,.string ⟨#[]⟩,.string ⟨#[]⟩,.string ⟨#[]⟩,.string ⟨#[]⟩,.string ⟨#[]⟩,.string ⟨#[]⟩] 110)).heap[w.heap.size]?=some (.cells (ncl Nd.zero).toArray 110 (0,0))):=qh (heap_new_at w _ _ rfl)
  have HI19:Hid ((Tryz.prog.info? 110).map (·.size)=some 19):=qh (by kernel_rfl)
  have HBZ:Hid (Tryz.prog.built 110 []=some (ncl Nd.zero).toArray):=qh (by rfl)
  have HOZ:=qh (ncl_one Nd.zero)
  have HSZ:Hid ((ncl Nd.zero).toArray.size=19):=qh rfl
  obtain ⟨Z,hZ⟩:∃ Z,(ncl Nd.zero).toArray=Z:=⟨_,rfl⟩
  have HZQ:=qh hZ
  rw [hZ] at HZ0 HBZ HOZ HSZ
  have HIZ:Hid ((Tryz.prog.info? 110).map (·.size)=some Z.size):=qh (by rw [HSZ.out]; exact HI19.out)
  obtain ⟨D,hD⟩:∃ D,Nd.decR s=D:=⟨_,rfl⟩
  have HD:=qh hD
  rw [hD]
  clear hD hb0 hZ
  match s,hl with
  | [],_=>
    obtain rfl:D=(Nd.zero,80):=HD.out.symm
    have HFB:Hid (∀ X,Below w.heap.size w ((w.alloc (.cells #[.int .i64 0,.string ⟨#[]⟩,.string ⟨#[]⟩,.string ⟨#[]⟩,.string ⟨#[]⟩,.string ⟨#[]⟩,.string ⟨#[]⟩,.string ⟨#[]⟩,.string ⟨#[]⟩,.string ⟨#[]⟩,.string ⟨#[]⟩,.string ⟨#[]⟩,.string ⟨#[]⟩,.string ⟨#[]⟩,.string ⟨#[]⟩,.string ⟨#[]⟩,.string ⟨#[]⟩,.string ⟨#[]⟩,.string ⟨#[]⟩] 110)).setRow w.heap.size X)):=qh (fun X=>below_setRow HB0.out (Nat.le_refl _) X)
    go_enter Tryz.func79,Tryz.ntmps79
    go_wp2_with (first | (refine wpList_build_some (by rfl) _ _ (by rfl) [] (by first | rfl | (simp [Act.eval]; done) | kernel_rfl) Z HBZ.out ?_) | (refine wpList_store_row (by rfl) _ _ _ (by rfl) w.heap.size Z (by rfl) (by rfl) _ _ HZ0.out HIZ.out rfl HOZ.out ?_))
    refine bodyPost_ret (nresults_c1t rfl _ _ w.heap.size _ _ _ _ rfl (setRow_heap _ _ _ _ _ _ HZ0.out) Tryz.underlying110 rfl HIZ.out) rfl ⟨by rw [← HZQ.out]; rfl,HFB.out _⟩
  | k :: r,hl=>
    have HL:Hid (r.length<=100000000):=qh (by have:(k :: r).length=r.length+1:=rfl; omega)
    have hrl:(r.length:Int)<=1000000:=by have:(k :: r).length=r.length+1:=rfl; omega
    have HC0:∀ h,(⟨(k :: r).toArray⟩:ByteArray)[0]'h=k:=fun _=>rfl
    have hex:(⟨(k :: r).toArray⟩:ByteArray).extract 1 (r.length+1)=⟨r.toArray⟩:=ext_drop (k :: r) 1
    have kb:=byte_lt k
    have k0:(0:Int)<=(k.toNat:Int):=by omega
    clear hl
    have HRD:Hid (RRd ((w.alloc (.cells #[.int .i64 0,.string ⟨#[]⟩,.string ⟨#[]⟩,.string ⟨#[]⟩,.string ⟨#[]⟩,.string ⟨#[]⟩,.string ⟨#[]⟩,.string ⟨#[]⟩,.string ⟨#[]⟩,.string ⟨#[]⟩,.string ⟨#[]⟩,.string ⟨#[]⟩,.string ⟨#[]⟩,.string ⟨#[]⟩,.string ⟨#[]⟩,.string ⟨#[]⟩,.string ⟨#[]⟩,.string ⟨#[]⟩,.string ⟨#[]⟩] 110)).alloc (.cells #[.string ⟨r.toArray⟩,.int .i64 0] 167)) (w.heap.size+1) r 0):=qh (heap_new_at _ _ _ (by simp))
    have HZ1:Hid (((w.alloc (.cells #[.int .i64 0,.string ⟨#[]⟩,.string ⟨#[]⟩,.string ⟨#[]⟩,.string ⟨#[]⟩,.string ⟨#[]⟩,.string ⟨#[]⟩,.string ⟨#[]⟩,.string ⟨#[]⟩,.string ⟨#[]⟩,.string ⟨#[]⟩,.string ⟨#[]⟩,.string ⟨#[]⟩,.string ⟨#[]⟩,.string ⟨#[]⟩,.string ⟨#[]⟩,.string ⟨#[]⟩,.string ⟨#[]⟩,.string ⟨#[]⟩] 110)).alloc (.cells #[.string ⟨r.toArray⟩,.int .i64 0] 167)).heap[w.heap.size]?=some (.cells Z 110 (0,0))):=qh (heap_old_at _ HZ0.out)
    have HB1:Hid (Below w.heap.size w ((w.alloc (.cells #[.int .i64 0,.string ⟨#[]⟩,.string ⟨#[]⟩,.string ⟨#[]⟩,.string ⟨#[]⟩,.string ⟨#[]⟩,.string ⟨#[]⟩,.string ⟨#[]⟩,.string ⟨#[]⟩,.string ⟨#[]⟩,.string ⟨#[]⟩,.string ⟨#[]⟩,.string ⟨#[]⟩,.string ⟨#[]⟩,.string ⟨#[]⟩,.string ⟨#[]⟩,.string ⟨#[]⟩,.string ⟨#[]⟩,.string ⟨#[]⟩] 110)).alloc (.cells #[.string ⟨r.toArray⟩,.int .i64 0] 167))):=qh (HB0.out.alloc HB0.out.size _)
    obtain ⟨w1,hw1⟩:∃ w1,((w.alloc (.cells #[.int .i64 0,.string ⟨#[]⟩,.string ⟨#[]⟩,.string ⟨#[]⟩,.string ⟨#[]⟩,.string ⟨#[]⟩,.string ⟨#[]⟩,.string ⟨#[]⟩,.string ⟨#[]⟩,.string ⟨#[]⟩,.string ⟨#[]⟩,.string ⟨#[]⟩,.string ⟨#[]⟩,.string ⟨#[]⟩,.string ⟨#[]⟩,.string ⟨#[]⟩,.string ⟨#[]⟩,.string ⟨#[]⟩,.string ⟨#[]⟩] 110)).alloc (.cells #[.string ⟨r.toArray⟩,.int .i64 0] 167))=w1:=⟨_,rfl⟩
    have hs1:w1.heap.size=w.heap.size+2:=by rw [← hw1]; simp
    rw [hw1] at HRD HZ1 HB1
    obtain ⟨kd,hkd⟩:∃ kd:Int,(k.toNat:Int)=kd:=⟨_,rfl⟩
    have HKD:=qh hkd
    have HBL:Hid (Tryz.prog.built 110 [(0,.int .i64 kd)]=some (ncl ⟨kd,[],[],Nd.none16⟩).toArray):=qh (by rfl)
    have HOC:=qh (ncl_one ⟨kd,[],[],Nd.none16⟩)
    have HS19:Hid ((ncl ⟨kd,[],[],Nd.none16⟩).toArray.size=19):=qh rfl
    have HNA:Hid (NodeAt (w1.alloc (.cells (ncl ⟨kd,[],[],Nd.none16⟩).toArray 110)) w1.heap.size ⟨kd,[],[],Nd.none16⟩):=qh (heap_new_at w1 _ _ rfl)
    obtain ⟨C,hC⟩:∃ C,(ncl ⟨kd,[],[],Nd.none16⟩).toArray=C:=⟨_,rfl⟩
    rw [hC] at HBL HOC HS19 HNA
    have HI2:Hid ((Tryz.prog.info? 110).map (·.size)=some C.size):=qh (by rw [HS19.out]; exact HI19.out)
    have hz3:(w1.alloc (.cells C 110)).heap[w.heap.size]?=some (.cells Z 110 (0,0)):=heap_old_at _ HZ1.out
    have HR3:Hid (RRd (w1.alloc (.cells C 110)) (w.heap.size+1) r 0):=qh (HRD.out.below ((Below.refl _ w1).alloc (Nat.le_refl _) _))
    have HPZ:Hid (∀ w',Out (fun j=>j=w.heap.size+1 ∨ j=w1.heap.size) (w1.alloc (.cells C 110)) w'->w'.heap[w.heap.size]?=some (.cells Z 110 (0,0))):=qh (fun w' h=>(h.block _ (lt_of_heap hz3) (fun e=>by rcases e with e | e <;> omega)).trans hz3)
    have HFB:Hid (∀ w' X,Out (fun j=>j=w.heap.size+1 ∨ j=w1.heap.size) (w1.alloc (.cells C 110)) w'->Below w.heap.size w (w'.setRow w.heap.size X)):=qh (fun w' X h=>by
      have hB3:Below w.heap.size w (w1.alloc (.cells C 110)):=HB1.out.alloc (by omega) _
      refine below_setRow (hB3.trans (h.below (fun j e=>?_) (Nat.le_of_lt (lt_of_heap hz3)))) (Nat.le_refl _) X
      rcases e with e | e <;> omega)
    have HGQ:Hid (w.heap.size+1 < w1.heap.size):=qh (by omega)
    have n0:=HNA.out.kind
    have HS1:=qh hs1
    clear hC HRD HZ1 HB1 HZ0 HB0 hz3 hs1
    by_cases k3:kd=3
    · subst k3
      have hk3:k.toNat=3:=by have:=HKD.out; omega
      go_enter Tryz.func79,Tryz.ntmps79
      go_wp2_with (first | (refine wpList_build_some (by rfl) _ _ (by rfl) [(0,.int .i64 3)] (by first | rfl | (simp [Act.eval]; done) | kernel_rfl) C HBL.out ?_) | (refine wpList_store_fresh (by rfl) _ _ _ (by rfl) w1.heap.size rfl C (by rfl) (by rfl) _ _ HI2.out HS19.out.symm HOC.out ?_))
      obtain ⟨q,hq⟩:∃ q,w1.heap.size=q:=⟨_,rfl⟩
      obtain ⟨p,hp⟩:∃ p,w.heap.size=p:=⟨_,rfl⟩
      have HP:=qh hp
      rw [hp] at HPZ HFB HGQ HR3 ⊢
      obtain ⟨g,hg⟩:∃ g,p+1=g:=⟨_,rfl⟩
      rw [hg] at HPZ HFB HGQ HR3 ⊢
      rw [hq] at HNA HPZ HFB HGQ ⊢
      generalize (w1.alloc (.cells C 110))=w3 at *
      clear hq hp hg n0 hw1 HC0 hex
      refine (rnbytes_st 2 (r,0) g w3 HR3.out HL.out).mono ?_
      rintro e w4 ⟨rfl,hr4,ho4⟩
      have HNR:Hid (Nd.rdR k r=if (Nd.rdB 2 (r,0)).1.length < 2 then none else some (⟨3,[],(Nd.rdT 32 (Nd.rdKids (Nd.bitf (Nd.num2 (Nd.rdB 2 (r,0)).1)) 16 (Nd.rdB 2 (r,0)).2).2).1,(Nd.rdKids (Nd.bitf (Nd.num2 (Nd.rdB 2 (r,0)).1)) 16 (Nd.rdB 2 (r,0)).2).1⟩,(Nd.rdT 32 (Nd.rdKids (Nd.bitf (Nd.num2 (Nd.rdB 2 (r,0)).1)) 16 (Nd.rdB 2 (r,0)).2).2).2)):=qh (if_pos hk3)
      have hle1:(Nd.rdB 2 (r,0)).2.1.length<=r.length:=Nd.rdB_le 2 (r,0)
      have hb2:=Nd.rdB_two (r,0)
      obtain ⟨⟨b,st1⟩,hB⟩:∃ P,Nd.rdB 2 (r,0)=P:=⟨_,rfl⟩
      rw [hB] at hr4 HNR hle1 hb2 ⊢
      have HLE1:Hid (st1.1.length<=100000000):=qh (Nat.le_trans hle1 HL.out)
      have HN4:Hid (NodeAt w4 q ⟨3,[],[],Nd.none16⟩):=qh ((ho4.block q (lt_of_heap HNA.out) (Nat.ne_of_gt HGQ.out)).trans HNA.out)
      have HO4:Hid (Out (fun j=>j=g ∨ j=q) w3 w4):=qh ((Out.refl _ w3).trans ho4.two)
      have HR4:Hid (RRd w4 g st1.1 st1.2):=qh hr4
      clear hB hle1 hr4 ho4
      have hbb:b=[] ∨ ∃ x y,b=[x,y]:=by
        rcases hb2 with h | h
        · exact Or.inl h
        · match b,h with
          | [x,y],_=>exact Or.inr ⟨x,y,rfl⟩
      clear hb2
      rcases hbb with rfl | ⟨x,y,rfl⟩
      · have hno:Nd.rdR k r=none:=HNR.out.trans (if_pos (by show 0 < 2; decide))
        obtain rfl:D=(Nd.zero,80):=by rw [← HD.out,Nd.decR,hno]
        have HZW:=qh (HPZ.out _ HO4.out)
        clear hno
        go_wp2_with (first | (refine wpList_build_some (by rfl) _ _ (by rfl) [] (by first | rfl | (simp [Act.eval]; done) | kernel_rfl) Z HBZ.out ?_) | (refine wpList_store_row (by rfl) _ _ _ (by rfl) p Z (by rfl) (by rfl) _ _ HZW.out HIZ.out rfl HOZ.out ?_))
        refine bodyPost_ret (nresults_c1t rfl _ _ p _ _ _ _ rfl (setRow_heap _ _ _ _ _ _ HZW.out) Tryz.underlying110 rfl HIZ.out) rfl ⟨by rw [← HZQ.out]; rfl,by rw [HP.out]; exact HFB.out _ _ HO4.out⟩
      have HNR2:Hid (Nd.rdR k r=some (⟨3,[],(Nd.rdT 32 (Nd.rdKids (Nd.bitf (Nd.num2 [x,y])) 16 st1).2).1,(Nd.rdKids (Nd.bitf (Nd.num2 [x,y])) 16 st1).1⟩,(Nd.rdT 32 (Nd.rdKids (Nd.bitf (Nd.num2 [x,y])) 16 st1).2).2)):=qh (HNR.out.trans (if_neg (by show ¬ (2 < 2); decide)))
      have HCX:∀ h,(⟨[x,y].toArray⟩:ByteArray)[0]'h=x:=fun _=>rfl
      have HCY:∀ h,(⟨[x,y].toArray⟩:ByteArray)[1]'h=y:=fun _=>rfl
      have HBX:Hid (∀ j,j < 8->Nd.bitf (Nd.num2 [x,y]) j=Nd.bitAt x.toNat j):=qh (fun j h=>Nd.bitf_hi x.toNat y.toNat j y.toNat_lt h)
      have HBY:Hid (∀ j,j < 8->Nd.bitf (Nd.num2 [x,y]) (8+j)=Nd.bitAt y.toNat j):=qh (fun j h=>by
        have:=Nd.bitf_lo x.toNat y.toNat (8+j) (by omega) (by omega)
        rw [Nat.add_sub_cancel_left] at this
        exact this)
      obtain ⟨n,hnn⟩:∃ n,Nd.num2 [x,y]=n:=⟨_,rfl⟩
      rw [hnn] at HNR2 HBX HBY
      have HXB:=qh (byte_lt x)
      have HYB:=qh (byte_lt y)
      clear hnn HNR kb k0
      go_wp2_with fail
      go_loopw [7] (fun i wv=>∃ j:Nat,j<=16/\i=.int .i64 j/\RRd wv g (Nd.rdKids (Nd.bitf n) j st1).2.1 (Nd.rdKids (Nd.bitf n) j st1).2.2/\NodeAt wv q ⟨3,[],[],Nd.part (Nd.rdKids (Nd.bitf n) j st1).1⟩/\Out (fun j=>j=g ∨ j=q) w3 wv) (fun i _=>16 - (intOf i).toNat)
      case atStart=>exact ⟨0,Nat.zero_le _,rfl,HR4.out,HN4.out,HO4.out⟩
      case round=>
        obtain ⟨j,hj,rfl,hrd,hnd,hout⟩:=hrel
        have HRD2:=qh hrd
        have HND2:=qh hnd
        have HOU:=qh hout
        clear hrd hnd hout
        by_cases hlt:j < 16
        · have h1:(j:Int) < 16:=by omega
          have h0:(0:Int)<=(j:Int):=by omega
          have HKL:=qh (Nd.rdKids_len (Nd.bitf n) j st1)
          have HSL:=qh (Nd.rdKids_le (Nd.bitf n) j st1)
          have HSU:Hid (Nd.rdKids (Nd.bitf n) (j+1) st1=if Nd.bitf n j then ((Nd.rdKids (Nd.bitf n) j st1).1 ++ [(Nd.rdB 32 (Nd.rdKids (Nd.bitf n) j st1).2).1],(Nd.rdB 32 (Nd.rdKids (Nd.bitf n) j st1).2).2) else ((Nd.rdKids (Nd.bitf n) j st1).1 ++ [[]],(Nd.rdKids (Nd.bitf n) j st1).2)):=qh rfl
          obtain ⟨⟨L,stk⟩,hLS⟩:∃ P,Nd.rdKids (Nd.bitf n) j st1=P:=⟨_,rfl⟩
          rw [hLS] at HRD2 HND2 HKL HSL HSU
          clear hLS
          have HLL:Hid (L.length=j):=HKL
          by_cases h8:j < 8
          · have q1:(j:Int) / 8=0:=by omega
            have q2:(j:Int) % 8=(j:Int):=by omega
            have q3:(j:Int).tdiv 8=0:=by rw [Int.tdiv_eq_ediv_of_nonneg h0]; exact q1
            have q4:(j:Int).tmod 8=(j:Int):=by rw [Int.tmod_eq_emod_of_nonneg h0]; exact q2
            have q5:(j:Int)<=7:=by omega
            have hbx:=(Nd.bit_tmod x.toNat j).trans (HBX.out j h8).symm
            cases hbf:Nd.bitf n j with
            | false=>
              rw [hbf] at hbx HSU
              rw [if_neg (by decide)] at HSU
              clear hbf
              go_wp2_with fail
              refine ⟨⟨j+1,by omega,by go_num,?_,?_,HOU.out⟩,by simp [intOf]; omega⟩
              · rw [HSU.out]; exact HRD2.out
              · rw [HSU.out]
                show NodeAt wr q ⟨3,[],[],Nd.part (L ++ [[]])⟩
                rw [← Nd.part_nil L (by rw [HLL.out]; exact hlt)]
                exact HND2.out
            | true=>
              rw [hbf] at hbx HSU
              rw [if_pos rfl] at HSU
              clear hbf
              have HBYT:=qh (rnbytes_st 32 stk g wr HRD2.out (Nat.le_trans (show stk.1.length<=st1.1.length from HSL.out) HLE1.out))
              obtain ⟨⟨x3,st3⟩,hB3⟩:∃ P,Nd.rdB 32 stk=P:=⟨_,rfl⟩
              have hB3':Nd.rdB 32 (L,stk).2=(x3,st3):=hB3
              rw [hB3'] at HSU
              rw [hB3] at HBYT
              clear hB3 hB3'
              go_wp2_with fail
              refine HBYT.out.mono ?_
              rintro e w5 ⟨rfl,hr5,ho5⟩
              have hn5:NodeAt w5 q ⟨3,[],[],Nd.part L⟩:=(ho5.block q (lt_of_heap HND2.out) (Nat.ne_of_gt HGQ.out)).trans HND2.out
              have hpl:=Nd.part_len L (by have:=HLL.out; omega)
              obtain ⟨v5,c5⟩:∃ v,w5.cell? ⟨q,3+j,none⟩=some v:=⟨_,hn5.kid j (by show j < (Nd.part L).length; omega)⟩
              have f5:=hn5.free (3+j)
              have HR5:Hid (RRd (w5.setCell ⟨q,3+j,none⟩ (.string ⟨x3.toArray⟩)) g st3.1 st3.2):=qh ((heap_setCell_other w5 ⟨q,3+j,none⟩ g _ (Nat.ne_of_lt HGQ.out)).trans hr5)
              have HO5:Hid (Out (fun j=>j=g ∨ j=q) w3 (w5.setCell ⟨q,3+j,none⟩ (.string ⟨x3.toArray⟩))):=qh ((HOU.out.trans ho5.two).setCell (p:=⟨q,3+j,none⟩) (Or.inr rfl) _)
              have HN5:Hid (NodeAt (w5.setCell ⟨q,3+j,none⟩ (.string ⟨x3.toArray⟩)) q ⟨3,[],[],Nd.part (L ++ [x3])⟩):=qh (by
                have:=hn5.setKid j x3
                have e:=Nd.part_set L x3 (by rw [HLL.out]; exact hlt)
                rw [HLL.out] at e
                simp only [e] at this
                exact this)
              clear hr5 ho5 hn5 hpl
              go_wp2_with fail
              refine ⟨⟨j+1,by omega,by go_num,?_,?_,HO5.out⟩,by simp [intOf]; omega⟩
              · rw [HSU.out]; exact HR5.out
              · rw [HSU.out]; exact HN5.out
          · obtain ⟨i,hi8⟩:∃ i,j=8+i:=⟨j - 8,by omega⟩
            have q1:(j:Int) / 8=1:=by omega
            have q2:(j:Int) % 8=(i:Int):=by omega
            have q3:(j:Int).tdiv 8=1:=by rw [Int.tdiv_eq_ediv_of_nonneg h0]; exact q1
            have q4:(j:Int).tmod 8=(i:Int):=by rw [Int.tmod_eq_emod_of_nonneg h0]; exact q2
            have q5:(i:Int)<=7:=by omega
            have q6:(0:Int)<=(i:Int):=by omega
            have hbx:=(Nd.bit_tmod y.toNat i).trans (by rw [hi8]; exact (HBY.out i (by omega)).symm:Nd.bitAt y.toNat i=Nd.bitf n j)
            clear hi8
            cases hbf:Nd.bitf n j with
            | false=>
              rw [hbf] at hbx HSU
              rw [if_neg (by decide)] at HSU
              clear hbf
              go_wp2_with fail
              refine ⟨⟨j+1,by omega,by go_num,?_,?_,HOU.out⟩,by simp [intOf]; omega⟩
              · rw [HSU.out]; exact HRD2.out
              · rw [HSU.out]
                show NodeAt wr q ⟨3,[],[],Nd.part (L ++ [[]])⟩
                rw [← Nd.part_nil L (by rw [HLL.out]; exact hlt)]
                exact HND2.out
            | true=>
              rw [hbf] at hbx HSU
              rw [if_pos rfl] at HSU
              clear hbf
              have HBYT:=qh (rnbytes_st 32 stk g wr HRD2.out (Nat.le_trans (show stk.1.length<=st1.1.length from HSL.out) HLE1.out))
              obtain ⟨⟨x3,st3⟩,hB3⟩:∃ P,Nd.rdB 32 stk=P:=⟨_,rfl⟩
              have hB3':Nd.rdB 32 (L,stk).2=(x3,st3):=hB3
              rw [hB3'] at HSU
              rw [hB3] at HBYT
              clear hB3 hB3'
              go_wp2_with fail
              refine HBYT.out.mono ?_
              rintro e w5 ⟨rfl,hr5,ho5⟩
              have hn5:NodeAt w5 q ⟨3,[],[],Nd.part L⟩:=(ho5.block q (lt_of_heap HND2.out) (Nat.ne_of_gt HGQ.out)).trans HND2.out
              have hpl:=Nd.part_len L (by have:=HLL.out; omega)
              obtain ⟨v5,c5⟩:∃ v,w5.cell? ⟨q,3+j,none⟩=some v:=⟨_,hn5.kid j (by show j < (Nd.part L).length; omega)⟩
              have f5:=hn5.free (3+j)
              have HR5:Hid (RRd (w5.setCell ⟨q,3+j,none⟩ (.string ⟨x3.toArray⟩)) g st3.1 st3.2):=qh ((heap_setCell_other w5 ⟨q,3+j,none⟩ g _ (Nat.ne_of_lt HGQ.out)).trans hr5)
              have HO5:Hid (Out (fun j=>j=g ∨ j=q) w3 (w5.setCell ⟨q,3+j,none⟩ (.string ⟨x3.toArray⟩))):=qh ((HOU.out.trans ho5.two).setCell (p:=⟨q,3+j,none⟩) (Or.inr rfl) _)
              have HN5:Hid (NodeAt (w5.setCell ⟨q,3+j,none⟩ (.string ⟨x3.toArray⟩)) q ⟨3,[],[],Nd.part (L ++ [x3])⟩):=qh (by
                have:=hn5.setKid j x3
                have e:=Nd.part_set L x3 (by rw [HLL.out]; exact hlt)
                rw [HLL.out] at e
                simp only [e] at this
                exact this)
              clear hr5 ho5 hn5 hpl
              go_wp2_with fail
              refine ⟨⟨j+1,by omega,by go_num,?_,?_,HO5.out⟩,by simp [intOf]; omega⟩
              · rw [HSU.out]; exact HR5.out
              · rw [HSU.out]; exact HN5.out
        · have h1:¬ ((j:Int) < 16):=by omega
          obtain rfl:j=16:=by omega
          have hlen16:=Nd.rdKids_len (Nd.bitf n) 16 st1
          have hle16:=Nd.rdKids_le (Nd.bitf n) 16 st1
          obtain ⟨⟨K,st5⟩,hK⟩:∃ P,Nd.rdKids (Nd.bitf n) 16 st1=P:=⟨_,rfl⟩
          rw [hK] at HRD2 HND2 HNR2 hlen16 hle16
          have hlK:K.length=16:=hlen16
          have HPA:=qh (Nd.part_all K hlK)
          rw [show Nd.part (K,st5).1=K from Nd.part_all K hlK] at HND2
          have HL5:Hid (st5.1.length<=100000000):=qh (Nat.le_trans hle16 HLE1.out)
          have HKL:=qh hlK
          clear hK hlen16 hle16 hlK HBX HBY
          go_wp2_with fail
          refine (rntext_st 32 st5 g wr HRD2.out HL5.out).mono ?_
          rintro e w6 ⟨rfl,hr6,ho6⟩
          obtain ⟨⟨V,st2⟩,hV⟩:∃ X,Nd.rdT 32 st5=X:=⟨_,rfl⟩
          have hV':Nd.rdT 32 (K,st5).2=(V,st2):=hV
          rw [hV'] at HNR2
          rw [hV] at hr6 ⊢
          have HN6:Hid (NodeAt w6 q ⟨3,[],[],K⟩):=qh ((ho6.block q (lt_of_heap HND2.out) (Nat.ne_of_gt HGQ.out)).trans HND2.out)
          have c6:=HN6.out.val
          have f6:=HN6.out.free 2
          have HN7:Hid (NodeAt (w6.setCell ⟨q,2,none⟩ (.string ⟨V.toArray⟩)) q ⟨3,[],V,K⟩):=qh (HN6.out.setVal V)
          have HR7:Hid (RRd (w6.setCell ⟨q,2,none⟩ (.string ⟨V.toArray⟩)) g st2.1 st2.2):=qh ((heap_setCell_other w6 ⟨q,2,none⟩ g _ (Nat.ne_of_lt HGQ.out)).trans hr6)
          have HO7:Hid (Out (fun j=>j=g ∨ j=q) w3 (w6.setCell ⟨q,2,none⟩ (.string ⟨V.toArray⟩))):=qh ((HOU.out.trans ho6.two).setCell (p:=⟨q,2,none⟩) (Or.inr rfl) _)
          have HM16:Hid ((⟨3,[],V,K⟩:N).kids.length=16):=qh HKL.out
          have HMP:Hid ((⟨3,[],V,K⟩:N).path.length<=1000000):=qh (by show 0<=1000000; omega)
          clear hr6 ho6 hV hV' HRD2 HND2 HOU HN6
          obtain ⟨m,hm⟩:∃ m:N,(⟨3,[],V,K⟩:N)=m:=⟨_,rfl⟩
          have HNQ:Hid (Nd.rdR k r=some (m,st2)):=qh (by rw [← hm]; exact HNR2.out)
          rw [hm] at HN7 HM16 HMP
          clear hm HNR2
          obtain ⟨w7,hw7⟩:∃ w7,(w6.setCell ⟨q,2,none⟩ (.string ⟨V.toArray⟩))=w7:=⟨_,rfl⟩
          rw [hw7] at HN7 HR7 HO7
          have HDD:Hid (D=if Nd.okR (k :: r) m st2=true then (m,0) else (Nd.zero,80)):=qh (by rw [← HD.out,Nd.decR,HNQ.out])
          have e7:=HR7.out.code
          by_cases hE0:st2.2=0
          case neg=>
            have hE1:(st2.2 == 0)=false:=by rw [beq_eq_false_iff_ne]; exact hE0
            have hE2:(st2.2 != 0)=true:=by rw [bne_iff_ne]; exact hE0
            obtain rfl:D=(Nd.zero,80):=HDD.out.trans (if_neg (by unfold Nd.okR; rw [decide_eq_false hE0]; simp))
            have HZW:=qh (HPZ.out _ HO7.out)
            clear hE0
            go_wp2_with (first | (refine wpList_build_some (by rfl) _ _ (by rfl) [] (by first | rfl | (simp [Act.eval]; done) | kernel_rfl) Z HBZ.out ?_) | (refine wpList_store_row (by rfl) _ _ _ (by rfl) p Z (by rfl) (by rfl) _ _ HZW.out HIZ.out rfl HOZ.out ?_))
            refine bodyPost_ret (nresults_c1t rfl _ _ p _ _ _ _ rfl (setRow_heap _ _ _ _ _ _ HZW.out) Tryz.underlying110 rfl HIZ.out) rfl ⟨by rw [← HZQ.out]; rfl,by rw [HP.out]; exact HFB.out _ _ HO7.out⟩
          rw [hE0] at e7
          have HFN:=qh (fun w=>rFine_any m w HM16.out HMP.out)
          have HAQ:Hid (w7.heap[q]?=some (.cells (ncl m).toArray 110 (0,0))):=qh HN7.out
          have HAO:=qh (ncl_one m)
          have HASZ:Hid ((ncl m).toArray.size=19):=qh (by rw [List.size_toArray,ncl_length m HM16.out])
          have HNV:Hid (ndval m=.agg (ncl m).toArray):=qh rfl
          have HWR:=qh (fun w h=>rWritten_any m w HM16.out h)
          rw [HNV.out] at HFN HWR
          obtain ⟨A,hA⟩:∃ A,(ncl m).toArray=A:=⟨_,rfl⟩
          rw [hA] at HFN HWR HAQ HAO HASZ HNV
          have HIA:Hid ((Tryz.prog.info? 110).map (·.size)=some A.size):=qh (by rw [HASZ.out]; exact HI19.out)
          have HOLD:Hid (Z.size=A.size):=qh (HSZ.out.trans HASZ.out.symm)
          clear hA
          cases hf:Nd.fine m with
          | false=>
            rw [hf] at HFN
            obtain rfl:D=(Nd.zero,80):=HDD.out.trans (if_neg (by unfold Nd.okR; rw [hf]; simp))
            clear hf hE0
            go_wp2_with (refine wpList_load_row_w (by rfl) _ _ (by rfl) q (by rfl) _ A _ _ HAQ.out Tryz.underlying110 (by rfl) HIA.out ?_)
            refine (HFN.out _).mono ?_
            rintro e w9 ⟨rfl,hb9⟩
            have HO9:Hid (Out (fun j=>j=g ∨ j=q) w3 w9):=qh (HO7.out.trans (Out.of hb9))
            have HZW:=qh (HPZ.out _ HO9.out)
            clear hb9
            go_wp2_with (first | (refine wpList_build_some (by rfl) _ _ (by rfl) [] (by first | rfl | (simp [Act.eval]; done) | kernel_rfl) Z HBZ.out ?_) | (refine wpList_store_row (by rfl) _ _ _ (by rfl) p Z (by rfl) (by rfl) _ _ HZW.out HIZ.out rfl HOZ.out ?_))
            refine bodyPost_ret (nresults_c1t rfl _ _ p _ _ _ _ rfl (setRow_heap _ _ _ _ _ _ HZW.out) Tryz.underlying110 rfl HIZ.out) rfl ⟨by rw [← HZQ.out]; rfl,by rw [HP.out]; exact HFB.out _ _ HO9.out⟩
          | true=>
            rw [hf] at HFN
            have HWT:=qh (fun w=>HWR.out w hf)
            have hok:Nd.okR (k :: r) m st2=decide (Nd.written m=k :: r):=by unfold Nd.okR; rw [hf,decide_eq_true hE0]; simp
            rw [hok] at HDD
            clear hf hE0 hok
            obtain ⟨T,hT⟩:∃ T,Nd.written m=T:=⟨_,rfl⟩
            rw [hT] at HWT HDD
            clear hT
            go_wp2_with (refine wpList_load_row_w (by rfl) _ _ (by rfl) q (by rfl) _ A _ _ HAQ.out Tryz.underlying110 (by rfl) HIA.out ?_)
            refine (HFN.out _).mono ?_
            rintro e w9 ⟨rfl,hb9⟩
            have HO9:Hid (Out (fun j=>j=g ∨ j=q) w3 w9):=qh (HO7.out.trans (Out.of hb9))
            have HA9:Hid (w9.heap[q]?=some (.cells A 110 (0,0))):=qh ((hb9.block q (lt_of_heap HAQ.out)).trans HAQ.out)
            clear hb9
            go_wp2_with (refine wpList_load_row_w (by rfl) _ _ (by rfl) q (by rfl) _ A _ _ HA9.out Tryz.underlying110 (by rfl) HIA.out ?_)
            refine (HWT.out _).mono ?_
            rintro e w10 ⟨rfl,hb10⟩
            have HO10:Hid (Out (fun j=>j=g ∨ j=q) w3 w10):=qh (HO9.out.trans (Out.of hb10))
            have HZW:=qh (HPZ.out _ HO10.out)
            have HA10:Hid (w10.heap[q]?=some (.cells A 110 (0,0))):=qh ((hb10.block q (lt_of_heap HA9.out)).trans HA9.out)
            clear hb10
            by_cases hTs:T=k :: r
            · obtain rfl:D=(m,0):=HDD.out.trans (if_pos (by rw [decide_eq_true hTs]))
              subst hTs
              go_wp2_with (first | (refine wpList_load_row (by rfl) _ _ (by rfl) q (by rfl) _ A _ _ HA10.out Tryz.underlying110 (by rfl) HIA.out ?_) | (refine wpList_store_row (by rfl) _ _ _ (by rfl) p A (by rfl) (by rfl) _ _ HZW.out HIA.out HOLD.out HAO.out ?_))
              refine bodyPost_ret (nresults_c1t rfl _ _ p _ _ _ _ rfl (setRow_heap _ _ _ _ _ _ HZW.out) Tryz.underlying110 rfl HIA.out) rfl ⟨by rw [HNV.out]; rfl,by rw [HP.out]; exact HFB.out _ _ HO10.out⟩
            · obtain rfl:D=(Nd.zero,80):=HDD.out.trans (if_neg (by rw [decide_eq_false hTs]; simp))
              have ht1:(T == k :: r)=false:=by rw [beq_eq_false_iff_ne]; exact hTs
              go_wp2_with (first | (refine wpList_build_some (by rfl) _ _ (by rfl) [] (by first | rfl | (simp [Act.eval]; done) | kernel_rfl) Z HBZ.out ?_) | (refine wpList_store_row (by rfl) _ _ _ (by rfl) p Z (by rfl) (by rfl) _ _ HZW.out HIZ.out rfl HOZ.out ?_))
              refine bodyPost_ret (nresults_c1t rfl _ _ p _ _ _ _ rfl (setRow_heap _ _ _ _ _ _ HZW.out) Tryz.underlying110 rfl HIZ.out) rfl ⟨by rw [← HZQ.out]; rfl,by rw [HP.out]; exact HFB.out _ _ HO10.out⟩
    have hk3:¬ (k.toNat=3):=by have:=HKD.out; omega
    by_cases k1:kd=1
    · subst k1
      go_enter Tryz.func79,Tryz.ntmps79
      go_wp2_with (first | (refine wpList_build_some (by rfl) _ _ (by rfl) [(0,.int .i64 1)] (by first | rfl | (simp [Act.eval]; done) | kernel_rfl) C HBL.out ?_) | (refine wpList_store_fresh (by rfl) _ _ _ (by rfl) w1.heap.size rfl C (by rfl) (by rfl) _ _ HI2.out HS19.out.symm HOC.out ?_))
      obtain ⟨q,hq⟩:∃ q,w1.heap.size=q:=⟨_,rfl⟩
      obtain ⟨p,hp⟩:∃ p,w.heap.size=p:=⟨_,rfl⟩
      have HP:=qh hp
      rw [hp] at HPZ HFB HGQ HR3 ⊢
      obtain ⟨g,hg⟩:∃ g,p+1=g:=⟨_,rfl⟩
      rw [hg] at HPZ HFB HGQ HR3 ⊢
      rw [hq] at HNA HPZ HFB HGQ ⊢
      generalize (w1.alloc (.cells C 110))=w3 at *
      clear hq hp hg n0 hw1 HC0 hex
      refine (rntext_st 100 (r,0) g w3 HR3.out HL.out).mono ?_
      rintro e w4 ⟨rfl,hr4,ho4⟩
      have HNR:Hid (Nd.rdR k r=match Nib.unpackL (Nd.rdT 100 (r,0)).1 with
        | none=>none
        | some (p,_)=>if k.toNat=1 then some (⟨1,p,(Nd.rdT 32 (Nd.rdT 100 (r,0)).2).1,Nd.none16⟩,(Nd.rdT 32 (Nd.rdT 100 (r,0)).2).2)
          else some (⟨(k.toNat:Int),p,[],Nd.none16.set 0 (Nd.rdB 32 (Nd.rdT 100 (r,0)).2).1⟩,(Nd.rdB 32 (Nd.rdT 100 (r,0)).2).2)):=qh (if_neg hk3)
      have hle1:(Nd.rdT 100 (r,0)).2.1.length<=r.length:=Nd.rdT_le 100 (r,0)
      have htl:=Nd.rdT_len' 100 100 rfl (r,0)
      obtain ⟨⟨t,st1⟩,hB⟩:∃ P,Nd.rdT 100 (r,0)=P:=⟨_,rfl⟩
      rw [hB] at hr4 HNR hle1 htl ⊢
      have htl:t.length<=100:=htl
      have HLE1:Hid (st1.1.length<=100000000):=qh (Nat.le_trans hle1 HL.out)
      have HN4:Hid (NodeAt w4 q ⟨1,[],[],Nd.none16⟩):=qh ((ho4.block q (lt_of_heap HNA.out) (Nat.ne_of_gt HGQ.out)).trans HNA.out)
      have HO4:Hid (Out (fun j=>j=g ∨ j=q) w3 w4):=qh ((Out.refl _ w3).trans ho4.two)
      have HR4:Hid (RRd w4 g st1.1 st1.2):=qh hr4
      have HUN:=qh (fun w=>rnunpack_any t w (by omega))
      have HPL:Hid (∀ p is,Nib.unpackL t=some (p,is)->p.length<=1000000):=qh (fun p is h=>by have:=Nib.unpack_len t p is h; omega)
      clear hB hle1 hr4 ho4 htl kb k0
      go_wp2_with fail
      refine (HUN.out _).mono ?_
      rintro e w5 ⟨hu,hb5⟩
      have HN5:Hid (NodeAt w5 q ⟨1,[],[],Nd.none16⟩):=qh (HN4.out.below hb5)
      have HO5:Hid (Out (fun j=>j=g ∨ j=q) w3 w5):=qh (HO4.out.trans (Out.of hb5))
      have HR5:Hid (RRd w5 g st1.1 st1.2):=qh (HR4.out.below hb5)
      clear hb5
      rcases hu with ⟨hu,rfl⟩ | ⟨P,is,hu,rfl⟩
      · have hno:Nd.rdR k r=none:=HNR.out.trans (by simp only [hu])
        obtain rfl:D=(Nd.zero,80):=by rw [← HD.out,Nd.decR,hno]
        have HZW:=qh (HPZ.out _ HO5.out)
        clear hno hu
        go_wp2_with (first | (refine wpList_build_some (by rfl) _ _ (by rfl) [] (by first | rfl | (simp [Act.eval]; done) | kernel_rfl) Z HBZ.out ?_) | (refine wpList_store_row (by rfl) _ _ _ (by rfl) p Z (by rfl) (by rfl) _ _ HZW.out HIZ.out rfl HOZ.out ?_))
        refine bodyPost_ret (nresults_c1t rfl _ _ p _ _ _ _ rfl (setRow_heap _ _ _ _ _ _ HZW.out) Tryz.underlying110 rfl HIZ.out) rfl ⟨by rw [← HZQ.out]; rfl,by rw [HP.out]; exact HFB.out _ _ HO5.out⟩
      have HPP:Hid (P.length<=1000000):=qh (HPL.out P is hu)
      have HNR2:Hid (Nd.rdR k r=some ((⟨1,P,(Nd.rdT 32 (t,st1).2).1,Nd.none16⟩:N),(Nd.rdT 32 (t,st1).2).2)):=qh (HNR.out.trans (by simp only [hu]; exact if_pos (by have:=HKD.out; omega)))
      clear hu
      have c5:=HN5.out.path
      have f5:=HN5.out.free 1
      have k5:=(HN5.out.setPath P).kind
      have HN6:Hid (NodeAt (w5.setCell ⟨q,1,none⟩ (.string ⟨P.toArray⟩)) q ⟨1,P,[],Nd.none16⟩):=qh (HN5.out.setPath P)
      have HR6:Hid (RRd (w5.setCell ⟨q,1,none⟩ (.string ⟨P.toArray⟩)) g st1.1 st1.2):=qh ((heap_setCell_other w5 ⟨q,1,none⟩ g _ (Nat.ne_of_lt HGQ.out)).trans HR5.out)
      have HO6:Hid (Out (fun j=>j=g ∨ j=q) w3 (w5.setCell ⟨q,1,none⟩ (.string ⟨P.toArray⟩))):=qh (HO5.out.setCell (p:=⟨q,1,none⟩) (Or.inr rfl) _)
      go_wp2_with fail
      generalize (w5.setCell ⟨q,1,none⟩ (.string ⟨P.toArray⟩))=w6 at *
      clear c5 f5 k5
      refine (rntext_st 32 st1 g w6 HR6.out HLE1.out).mono ?_
      rintro e w8 ⟨rfl,hr8,ho8⟩
      obtain ⟨⟨V,st2⟩,hV⟩:∃ X,Nd.rdT 32 st1=X:=⟨_,rfl⟩
      have hV':Nd.rdT 32 (t,st1).2=(V,st2):=hV
      rw [hV'] at HNR2
      rw [hV] at hr8 ⊢
      have HN8:Hid (NodeAt w8 q ⟨1,P,[],Nd.none16⟩):=qh ((ho8.block q (lt_of_heap HN6.out) (Nat.ne_of_gt HGQ.out)).trans HN6.out)
      have c8:=HN8.out.val
      have f8:=HN8.out.free 2
      have HN7:Hid (NodeAt (w8.setCell ⟨q,2,none⟩ (.string ⟨V.toArray⟩)) q (⟨1,P,V,Nd.none16⟩)):=qh (HN8.out.setVal V)
      have HR7:Hid (RRd (w8.setCell ⟨q,2,none⟩ (.string ⟨V.toArray⟩)) g st2.1 st2.2):=qh ((heap_setCell_other w8 ⟨q,2,none⟩ g _ (Nat.ne_of_lt HGQ.out)).trans hr8)
      have HO7:Hid (Out (fun j=>j=g ∨ j=q) w3 (w8.setCell ⟨q,2,none⟩ (.string ⟨V.toArray⟩))):=qh ((HO6.out.trans ho8.two).setCell (p:=⟨q,2,none⟩) (Or.inr rfl) _)
      have HM16:Hid ((⟨1,P,V,Nd.none16⟩:N).kids.length=16):=qh rfl
      have HMP:Hid ((⟨1,P,V,Nd.none16⟩:N).path.length<=1000000):=qh HPP.out
      clear hr8 ho8 hV hV' HN4 HN5 HN6 HN8 HR4 HR5 HR6 HO4 HO5 HO6
      obtain ⟨m,hm⟩:∃ m:N,(⟨1,P,V,Nd.none16⟩:N)=m:=⟨_,rfl⟩
      have HNQ:Hid (Nd.rdR k r=some (m,st2)):=qh (by rw [← hm]; exact HNR2.out)
      rw [hm] at HN7 HM16 HMP
      clear hm HNR2
      obtain ⟨w7,hw7⟩:∃ w7,(w8.setCell ⟨q,2,none⟩ (.string ⟨V.toArray⟩))=w7:=⟨_,rfl⟩
      rw [hw7] at HN7 HR7 HO7
      have HDD:Hid (D=if Nd.okR (k :: r) m st2=true then (m,0) else (Nd.zero,80)):=qh (by rw [← HD.out,Nd.decR,HNQ.out])
      have e7:=HR7.out.code
      by_cases hE0:st2.2=0
      case neg=>
        have hE1:(st2.2 == 0)=false:=by rw [beq_eq_false_iff_ne]; exact hE0
        have hE2:(st2.2 != 0)=true:=by rw [bne_iff_ne]; exact hE0
        obtain rfl:D=(Nd.zero,80):=HDD.out.trans (if_neg (by unfold Nd.okR; rw [decide_eq_false hE0]; simp))
        have HZW:=qh (HPZ.out _ HO7.out)
        clear hE0
        go_wp2_with (first | (refine wpList_build_some (by rfl) _ _ (by rfl) [] (by first | rfl | (simp [Act.eval]; done) | kernel_rfl) Z HBZ.out ?_) | (refine wpList_store_row (by rfl) _ _ _ (by rfl) p Z (by rfl) (by rfl) _ _ HZW.out HIZ.out rfl HOZ.out ?_))
        refine bodyPost_ret (nresults_c1t rfl _ _ p _ _ _ _ rfl (setRow_heap _ _ _ _ _ _ HZW.out) Tryz.underlying110 rfl HIZ.out) rfl ⟨by rw [← HZQ.out]; rfl,by rw [HP.out]; exact HFB.out _ _ HO7.out⟩
      rw [hE0] at e7
      have HFN:=qh (fun w=>rFine_any m w HM16.out HMP.out)
      have HAQ:Hid (w7.heap[q]?=some (.cells (ncl m).toArray 110 (0,0))):=qh HN7.out
      have HAO:=qh (ncl_one m)
      have HASZ:Hid ((ncl m).toArray.size=19):=qh (by rw [List.size_toArray,ncl_length m HM16.out])
      have HNV:Hid (ndval m=.agg (ncl m).toArray):=qh rfl
      have HWR:=qh (fun w h=>rWritten_any m w HM16.out h)
      rw [HNV.out] at HFN HWR
      obtain ⟨A,hA⟩:∃ A,(ncl m).toArray=A:=⟨_,rfl⟩
      rw [hA] at HFN HWR HAQ HAO HASZ HNV
      have HIA:Hid ((Tryz.prog.info? 110).map (·.size)=some A.size):=qh (by rw [HASZ.out]; exact HI19.out)
      have HOLD:Hid (Z.size=A.size):=qh (HSZ.out.trans HASZ.out.symm)
      clear hA
      cases hf:Nd.fine m with
      | false=>
        rw [hf] at HFN
        obtain rfl:D=(Nd.zero,80):=HDD.out.trans (if_neg (by unfold Nd.okR; rw [hf]; simp))
        clear hf hE0
        go_wp2_with (refine wpList_load_row_w (by rfl) _ _ (by rfl) q (by rfl) _ A _ _ HAQ.out Tryz.underlying110 (by rfl) HIA.out ?_)
        refine (HFN.out _).mono ?_
        rintro e w9 ⟨rfl,hb9⟩
        have HO9:Hid (Out (fun j=>j=g ∨ j=q) w3 w9):=qh (HO7.out.trans (Out.of hb9))
        have HZW:=qh (HPZ.out _ HO9.out)
        clear hb9
        go_wp2_with (first | (refine wpList_build_some (by rfl) _ _ (by rfl) [] (by first | rfl | (simp [Act.eval]; done) | kernel_rfl) Z HBZ.out ?_) | (refine wpList_store_row (by rfl) _ _ _ (by rfl) p Z (by rfl) (by rfl) _ _ HZW.out HIZ.out rfl HOZ.out ?_))
        refine bodyPost_ret (nresults_c1t rfl _ _ p _ _ _ _ rfl (setRow_heap _ _ _ _ _ _ HZW.out) Tryz.underlying110 rfl HIZ.out) rfl ⟨by rw [← HZQ.out]; rfl,by rw [HP.out]; exact HFB.out _ _ HO9.out⟩
      | true=>
        rw [hf] at HFN
        have HWT:=qh (fun w=>HWR.out w hf)
        have hok:Nd.okR (k :: r) m st2=decide (Nd.written m=k :: r):=by unfold Nd.okR; rw [hf,decide_eq_true hE0]; simp
        rw [hok] at HDD
        clear hf hE0 hok
        obtain ⟨T,hT⟩:∃ T,Nd.written m=T:=⟨_,rfl⟩
        rw [hT] at HWT HDD
        clear hT
        go_wp2_with (refine wpList_load_row_w (by rfl) _ _ (by rfl) q (by rfl) _ A _ _ HAQ.out Tryz.underlying110 (by rfl) HIA.out ?_)
        refine (HFN.out _).mono ?_
        rintro e w9 ⟨rfl,hb9⟩
        have HO9:Hid (Out (fun j=>j=g ∨ j=q) w3 w9):=qh (HO7.out.trans (Out.of hb9))
        have HA9:Hid (w9.heap[q]?=some (.cells A 110 (0,0))):=qh ((hb9.block q (lt_of_heap HAQ.out)).trans HAQ.out)
        clear hb9
        go_wp2_with (refine wpList_load_row_w (by rfl) _ _ (by rfl) q (by rfl) _ A _ _ HA9.out Tryz.underlying110 (by rfl) HIA.out ?_)
        refine (HWT.out _).mono ?_
        rintro e w10 ⟨rfl,hb10⟩
        have HO10:Hid (Out (fun j=>j=g ∨ j=q) w3 w10):=qh (HO9.out.trans (Out.of hb10))
        have HZW:=qh (HPZ.out _ HO10.out)
        have HA10:Hid (w10.heap[q]?=some (.cells A 110 (0,0))):=qh ((hb10.block q (lt_of_heap HA9.out)).trans HA9.out)
        clear hb10
        by_cases hTs:T=k :: r
        · obtain rfl:D=(m,0):=HDD.out.trans (if_pos (by rw [decide_eq_true hTs]))
          subst hTs
          go_wp2_with (first | (refine wpList_load_row (by rfl) _ _ (by rfl) q (by rfl) _ A _ _ HA10.out Tryz.underlying110 (by rfl) HIA.out ?_) | (refine wpList_store_row (by rfl) _ _ _ (by rfl) p A (by rfl) (by rfl) _ _ HZW.out HIA.out HOLD.out HAO.out ?_))
          refine bodyPost_ret (nresults_c1t rfl _ _ p _ _ _ _ rfl (setRow_heap _ _ _ _ _ _ HZW.out) Tryz.underlying110 rfl HIA.out) rfl ⟨by rw [HNV.out]; rfl,by rw [HP.out]; exact HFB.out _ _ HO10.out⟩
        · obtain rfl:D=(Nd.zero,80):=HDD.out.trans (if_neg (by rw [decide_eq_false hTs]; simp))
          have ht1:(T == k :: r)=false:=by rw [beq_eq_false_iff_ne]; exact hTs
          go_wp2_with (first | (refine wpList_build_some (by rfl) _ _ (by rfl) [] (by first | rfl | (simp [Act.eval]; done) | kernel_rfl) Z HBZ.out ?_) | (refine wpList_store_row (by rfl) _ _ _ (by rfl) p Z (by rfl) (by rfl) _ _ HZW.out HIZ.out rfl HOZ.out ?_))
          refine bodyPost_ret (nresults_c1t rfl _ _ p _ _ _ _ rfl (setRow_heap _ _ _ _ _ _ HZW.out) Tryz.underlying110 rfl HIZ.out) rfl ⟨by rw [← HZQ.out]; rfl,by rw [HP.out]; exact HFB.out _ _ HO10.out⟩
    have e1:(kd == 1)=false:=by rw [beq_eq_false_iff_ne]; exact k1
    have e3:(kd == 3)=false:=by rw [beq_eq_false_iff_ne]; exact k3
    go_enter Tryz.func79,Tryz.ntmps79
    go_wp2_with (first | (refine wpList_build_some (by rfl) _ _ (by rfl) [(0,.int .i64 kd)] (by first | rfl | (simp [Act.eval]; done) | kernel_rfl) C HBL.out ?_) | (refine wpList_store_fresh (by rfl) _ _ _ (by rfl) w1.heap.size rfl C (by rfl) (by rfl) _ _ HI2.out HS19.out.symm HOC.out ?_))
    obtain ⟨q,hq⟩:∃ q,w1.heap.size=q:=⟨_,rfl⟩
    obtain ⟨p,hp⟩:∃ p,w.heap.size=p:=⟨_,rfl⟩
    have HP:=qh hp
    rw [hp] at HPZ HFB HGQ HR3 ⊢
    obtain ⟨g,hg⟩:∃ g,p+1=g:=⟨_,rfl⟩
    rw [hg] at HPZ HFB HGQ HR3 ⊢
    rw [hq] at HNA HPZ HFB HGQ ⊢
    generalize (w1.alloc (.cells C 110))=w3 at *
    clear hq hp hg n0 hw1 HC0 hex
    refine (rntext_st 100 (r,0) g w3 HR3.out HL.out).mono ?_
    rintro e w4 ⟨rfl,hr4,ho4⟩
    have HNR:Hid (Nd.rdR k r=match Nib.unpackL (Nd.rdT 100 (r,0)).1 with
      | none=>none
      | some (p,_)=>if k.toNat=1 then some (⟨1,p,(Nd.rdT 32 (Nd.rdT 100 (r,0)).2).1,Nd.none16⟩,(Nd.rdT 32 (Nd.rdT 100 (r,0)).2).2)
        else some (⟨(k.toNat:Int),p,[],Nd.none16.set 0 (Nd.rdB 32 (Nd.rdT 100 (r,0)).2).1⟩,(Nd.rdB 32 (Nd.rdT 100 (r,0)).2).2)):=qh (if_neg hk3)
    have hle1:(Nd.rdT 100 (r,0)).2.1.length<=r.length:=Nd.rdT_le 100 (r,0)
    have htl:=Nd.rdT_len' 100 100 rfl (r,0)
    obtain ⟨⟨t,st1⟩,hB⟩:∃ P,Nd.rdT 100 (r,0)=P:=⟨_,rfl⟩
    rw [hB] at hr4 HNR hle1 htl ⊢
    have htl:t.length<=100:=htl
    have HLE1:Hid (st1.1.length<=100000000):=qh (Nat.le_trans hle1 HL.out)
    have HN4:Hid (NodeAt w4 q ⟨kd,[],[],Nd.none16⟩):=qh ((ho4.block q (lt_of_heap HNA.out) (Nat.ne_of_gt HGQ.out)).trans HNA.out)
    have HO4:Hid (Out (fun j=>j=g ∨ j=q) w3 w4):=qh ((Out.refl _ w3).trans ho4.two)
    have HR4:Hid (RRd w4 g st1.1 st1.2):=qh hr4
    have HUN:=qh (fun w=>rnunpack_any t w (by omega))
    have HPL:Hid (∀ p is,Nib.unpackL t=some (p,is)->p.length<=1000000):=qh (fun p is h=>by have:=Nib.unpack_len t p is h; omega)
    clear hB hle1 hr4 ho4 htl kb k0
    go_wp2_with fail
    refine (HUN.out _).mono ?_
    rintro e w5 ⟨hu,hb5⟩
    have HN5:Hid (NodeAt w5 q ⟨kd,[],[],Nd.none16⟩):=qh (HN4.out.below hb5)
    have HO5:Hid (Out (fun j=>j=g ∨ j=q) w3 w5):=qh (HO4.out.trans (Out.of hb5))
    have HR5:Hid (RRd w5 g st1.1 st1.2):=qh (HR4.out.below hb5)
    clear hb5
    rcases hu with ⟨hu,rfl⟩ | ⟨P,is,hu,rfl⟩
    · have hno:Nd.rdR k r=none:=HNR.out.trans (by simp only [hu])
      obtain rfl:D=(Nd.zero,80):=by rw [← HD.out,Nd.decR,hno]
      have HZW:=qh (HPZ.out _ HO5.out)
      clear hno hu
      go_wp2_with (first | (refine wpList_build_some (by rfl) _ _ (by rfl) [] (by first | rfl | (simp [Act.eval]; done) | kernel_rfl) Z HBZ.out ?_) | (refine wpList_store_row (by rfl) _ _ _ (by rfl) p Z (by rfl) (by rfl) _ _ HZW.out HIZ.out rfl HOZ.out ?_))
      refine bodyPost_ret (nresults_c1t rfl _ _ p _ _ _ _ rfl (setRow_heap _ _ _ _ _ _ HZW.out) Tryz.underlying110 rfl HIZ.out) rfl ⟨by rw [← HZQ.out]; rfl,by rw [HP.out]; exact HFB.out _ _ HO5.out⟩
    have HPP:Hid (P.length<=1000000):=qh (HPL.out P is hu)
    have HNR2:Hid (Nd.rdR k r=some ((⟨(k.toNat:Int),P,[],Nd.none16.set 0 (Nd.rdB 32 (t,st1).2).1⟩:N),(Nd.rdB 32 (t,st1).2).2)):=qh (HNR.out.trans (by simp only [hu]; exact if_neg (by have:=HKD.out; omega)))
    clear hu
    have c5:=HN5.out.path
    have f5:=HN5.out.free 1
    have k5:=(HN5.out.setPath P).kind
    have HN6:Hid (NodeAt (w5.setCell ⟨q,1,none⟩ (.string ⟨P.toArray⟩)) q ⟨kd,P,[],Nd.none16⟩):=qh (HN5.out.setPath P)
    have HR6:Hid (RRd (w5.setCell ⟨q,1,none⟩ (.string ⟨P.toArray⟩)) g st1.1 st1.2):=qh ((heap_setCell_other w5 ⟨q,1,none⟩ g _ (Nat.ne_of_lt HGQ.out)).trans HR5.out)
    have HO6:Hid (Out (fun j=>j=g ∨ j=q) w3 (w5.setCell ⟨q,1,none⟩ (.string ⟨P.toArray⟩))):=qh (HO5.out.setCell (p:=⟨q,1,none⟩) (Or.inr rfl) _)
    go_wp2_with fail
    generalize (w5.setCell ⟨q,1,none⟩ (.string ⟨P.toArray⟩))=w6 at *
    clear c5 f5 k5
    refine (rnbytes_st 32 st1 g w6 HR6.out HLE1.out).mono ?_
    rintro e w8 ⟨rfl,hr8,ho8⟩
    obtain ⟨⟨V,st2⟩,hV⟩:∃ X,Nd.rdB 32 st1=X:=⟨_,rfl⟩
    have hV':Nd.rdB 32 (t,st1).2=(V,st2):=hV
    rw [hV'] at HNR2
    rw [hV] at hr8 ⊢
    have HN8:Hid (NodeAt w8 q ⟨kd,P,[],Nd.none16⟩):=qh ((ho8.block q (lt_of_heap HN6.out) (Nat.ne_of_gt HGQ.out)).trans HN6.out)
    have c8:=HN8.out.kid 0 (show 0 < Nd.none16.length by decide)
    have f8:=HN8.out.free 3
    have HN7:Hid (NodeAt (w8.setCell ⟨q,3,none⟩ (.string ⟨V.toArray⟩)) q (⟨kd,P,[],Nd.none16.set 0 V⟩)):=qh (HN8.out.setKid 0 V)
    have HR7:Hid (RRd (w8.setCell ⟨q,3,none⟩ (.string ⟨V.toArray⟩)) g st2.1 st2.2):=qh ((heap_setCell_other w8 ⟨q,3,none⟩ g _ (Nat.ne_of_lt HGQ.out)).trans hr8)
    have HO7:Hid (Out (fun j=>j=g ∨ j=q) w3 (w8.setCell ⟨q,3,none⟩ (.string ⟨V.toArray⟩))):=qh ((HO6.out.trans ho8.two).setCell (p:=⟨q,3,none⟩) (Or.inr rfl) _)
    have HM16:Hid ((⟨kd,P,[],Nd.none16.set 0 V⟩:N).kids.length=16):=qh rfl
    have HMP:Hid ((⟨kd,P,[],Nd.none16.set 0 V⟩:N).path.length<=1000000):=qh HPP.out
    clear hr8 ho8 hV hV' HN4 HN5 HN6 HN8 HR4 HR5 HR6 HO4 HO5 HO6
    obtain ⟨m,hm⟩:∃ m:N,(⟨kd,P,[],Nd.none16.set 0 V⟩:N)=m:=⟨_,rfl⟩
    have HNQ:Hid (Nd.rdR k r=some (m,st2)):=qh (by rw [← hm]; rw [← HKD.out]; exact HNR2.out)
    rw [hm] at HN7 HM16 HMP
    clear hm HNR2
    obtain ⟨w7,hw7⟩:∃ w7,(w8.setCell ⟨q,3,none⟩ (.string ⟨V.toArray⟩))=w7:=⟨_,rfl⟩
    rw [hw7] at HN7 HR7 HO7
    have HDD:Hid (D=if Nd.okR (k :: r) m st2=true then (m,0) else (Nd.zero,80)):=qh (by rw [← HD.out,Nd.decR,HNQ.out])
    have e7:=HR7.out.code
    by_cases hE0:st2.2=0
    case neg=>
      have hE1:(st2.2 == 0)=false:=by rw [beq_eq_false_iff_ne]; exact hE0
      have hE2:(st2.2 != 0)=true:=by rw [bne_iff_ne]; exact hE0
      obtain rfl:D=(Nd.zero,80):=HDD.out.trans (if_neg (by unfold Nd.okR; rw [decide_eq_false hE0]; simp))
      have HZW:=qh (HPZ.out _ HO7.out)
      clear hE0
      go_wp2_with (first | (refine wpList_build_some (by rfl) _ _ (by rfl) [] (by first | rfl | (simp [Act.eval]; done) | kernel_rfl) Z HBZ.out ?_) | (refine wpList_store_row (by rfl) _ _ _ (by rfl) p Z (by rfl) (by rfl) _ _ HZW.out HIZ.out rfl HOZ.out ?_))
      refine bodyPost_ret (nresults_c1t rfl _ _ p _ _ _ _ rfl (setRow_heap _ _ _ _ _ _ HZW.out) Tryz.underlying110 rfl HIZ.out) rfl ⟨by rw [← HZQ.out]; rfl,by rw [HP.out]; exact HFB.out _ _ HO7.out⟩
    rw [hE0] at e7
    have HFN:=qh (fun w=>rFine_any m w HM16.out HMP.out)
    have HAQ:Hid (w7.heap[q]?=some (.cells (ncl m).toArray 110 (0,0))):=qh HN7.out
    have HAO:=qh (ncl_one m)
    have HASZ:Hid ((ncl m).toArray.size=19):=qh (by rw [List.size_toArray,ncl_length m HM16.out])
    have HNV:Hid (ndval m=.agg (ncl m).toArray):=qh rfl
    have HWR:=qh (fun w h=>rWritten_any m w HM16.out h)
    rw [HNV.out] at HFN HWR
    obtain ⟨A,hA⟩:∃ A,(ncl m).toArray=A:=⟨_,rfl⟩
    rw [hA] at HFN HWR HAQ HAO HASZ HNV
    have HIA:Hid ((Tryz.prog.info? 110).map (·.size)=some A.size):=qh (by rw [HASZ.out]; exact HI19.out)
    have HOLD:Hid (Z.size=A.size):=qh (HSZ.out.trans HASZ.out.symm)
    clear hA
    cases hf:Nd.fine m with
    | false=>
      rw [hf] at HFN
      obtain rfl:D=(Nd.zero,80):=HDD.out.trans (if_neg (by unfold Nd.okR; rw [hf]; simp))
      clear hf hE0
      go_wp2_with (refine wpList_load_row_w (by rfl) _ _ (by rfl) q (by rfl) _ A _ _ HAQ.out Tryz.underlying110 (by rfl) HIA.out ?_)
      refine (HFN.out _).mono ?_
      rintro e w9 ⟨rfl,hb9⟩
      have HO9:Hid (Out (fun j=>j=g ∨ j=q) w3 w9):=qh (HO7.out.trans (Out.of hb9))
      have HZW:=qh (HPZ.out _ HO9.out)
      clear hb9
      go_wp2_with (first | (refine wpList_build_some (by rfl) _ _ (by rfl) [] (by first | rfl | (simp [Act.eval]; done) | kernel_rfl) Z HBZ.out ?_) | (refine wpList_store_row (by rfl) _ _ _ (by rfl) p Z (by rfl) (by rfl) _ _ HZW.out HIZ.out rfl HOZ.out ?_))
      refine bodyPost_ret (nresults_c1t rfl _ _ p _ _ _ _ rfl (setRow_heap _ _ _ _ _ _ HZW.out) Tryz.underlying110 rfl HIZ.out) rfl ⟨by rw [← HZQ.out]; rfl,by rw [HP.out]; exact HFB.out _ _ HO9.out⟩
    | true=>
      rw [hf] at HFN
      have HWT:=qh (fun w=>HWR.out w hf)
      have hok:Nd.okR (k :: r) m st2=decide (Nd.written m=k :: r):=by unfold Nd.okR; rw [hf,decide_eq_true hE0]; simp
      rw [hok] at HDD
      clear hf hE0 hok
      obtain ⟨T,hT⟩:∃ T,Nd.written m=T:=⟨_,rfl⟩
      rw [hT] at HWT HDD
      clear hT
      go_wp2_with (refine wpList_load_row_w (by rfl) _ _ (by rfl) q (by rfl) _ A _ _ HAQ.out Tryz.underlying110 (by rfl) HIA.out ?_)
      refine (HFN.out _).mono ?_
      rintro e w9 ⟨rfl,hb9⟩
      have HO9:Hid (Out (fun j=>j=g ∨ j=q) w3 w9):=qh (HO7.out.trans (Out.of hb9))
      have HA9:Hid (w9.heap[q]?=some (.cells A 110 (0,0))):=qh ((hb9.block q (lt_of_heap HAQ.out)).trans HAQ.out)
      clear hb9
      go_wp2_with (refine wpList_load_row_w (by rfl) _ _ (by rfl) q (by rfl) _ A _ _ HA9.out Tryz.underlying110 (by rfl) HIA.out ?_)
      refine (HWT.out _).mono ?_
      rintro e w10 ⟨rfl,hb10⟩
      have HO10:Hid (Out (fun j=>j=g ∨ j=q) w3 w10):=qh (HO9.out.trans (Out.of hb10))
      have HZW:=qh (HPZ.out _ HO10.out)
      have HA10:Hid (w10.heap[q]?=some (.cells A 110 (0,0))):=qh ((hb10.block q (lt_of_heap HA9.out)).trans HA9.out)
      clear hb10
      by_cases hTs:T=k :: r
      · obtain rfl:D=(m,0):=HDD.out.trans (if_pos (by rw [decide_eq_true hTs]))
        subst hTs
        go_wp2_with (first | (refine wpList_load_row (by rfl) _ _ (by rfl) q (by rfl) _ A _ _ HA10.out Tryz.underlying110 (by rfl) HIA.out ?_) | (refine wpList_store_row (by rfl) _ _ _ (by rfl) p A (by rfl) (by rfl) _ _ HZW.out HIA.out HOLD.out HAO.out ?_))
        refine bodyPost_ret (nresults_c1t rfl _ _ p _ _ _ _ rfl (setRow_heap _ _ _ _ _ _ HZW.out) Tryz.underlying110 rfl HIA.out) rfl ⟨by rw [HNV.out]; rfl,by rw [HP.out]; exact HFB.out _ _ HO10.out⟩
      · obtain rfl:D=(Nd.zero,80):=HDD.out.trans (if_neg (by rw [decide_eq_false hTs]; simp))
        have ht1:(T == k :: r)=false:=by rw [beq_eq_false_iff_ne]; exact hTs
        go_wp2_with (first | (refine wpList_build_some (by rfl) _ _ (by rfl) [] (by first | rfl | (simp [Act.eval]; done) | kernel_rfl) Z HBZ.out ?_) | (refine wpList_store_row (by rfl) _ _ _ (by rfl) p Z (by rfl) (by rfl) _ _ HZW.out HIZ.out rfl HOZ.out ?_))
        refine bodyPost_ret (nresults_c1t rfl _ _ p _ _ _ _ rfl (setRow_heap _ _ _ _ _ _ HZW.out) Tryz.underlying110 rfl HIZ.out) rfl ⟨by rw [← HZQ.out]; rfl,by rw [HP.out]; exact HFB.out _ _ HO10.out⟩
end
section
open Go.RowKit
theorem rtIn_any (p f e:List UInt8) (w:World) (hf:f.length<=1000000) (he:e.length<=1000000):
    Calls Tryz.prog 69 #[.string ⟨p.toArray⟩,.string ⟨f.toArray⟩,.string ⟨e.toArray⟩] w fun x w'=>x=.returned (.bool (Tri.inL p f e))/\Below w.heap.size w w':=by
  have HO1:=qh (fun w=>rof_any f w hf)
  have HO2:=qh (fun w=>rof_any e w he)
  have HS1:=qh (fun w=>rside_any p (Nib.ofL f) w)
  have HS2:=qh (fun w=>rside_any p (Nib.ofL e) w)
  have HB0:=qh (Below.refl w.heap.size w)
  unfold Tri.inL
  obtain ⟨F,hF⟩:∃ F,Nib.ofL f=F:=⟨_,rfl⟩
  obtain ⟨E,hE⟩:∃ E,Nib.ofL e=E:=⟨_,rfl⟩
  obtain ⟨s1,h1⟩:∃ s,Nib.sideL p F=s:=⟨_,rfl⟩
  obtain ⟨s2,h2⟩:∃ s,Nib.sideL p E=s:=⟨_,rfl⟩
  rw [hF] at HO1 HS1 ⊢
  rw [hE] at HO2 HS2 ⊢
  rw [h1] at HS1 ⊢
  rw [h2] at HS2 ⊢
  have HE:Hid ((e == [])=decide (e=[])):=qh (by cases e <;> rfl)
  clear hf he hF hE h1 h2
  by_cases c1:s1 < 0
  · have d1:decide (s1 < 0)=true:=decide_eq_true c1
    rw [d1]
    go_enter Tryz.func69,Tryz.ntmps69
    go_wp2_with fail
    refine (HO1.out _).mono ?_
    rintro x w1 ⟨rfl,hb1⟩
    have HB1:=qh hb1
    clear hb1
    go_wp2_with fail
    refine (HS1.out _).mono ?_
    rintro x w2 ⟨rfl,rfl⟩
    go_wp2
    go_ret
    exact ⟨rfl,HB1.out⟩
  · have d1:decide (s1 < 0)=false:=decide_eq_false c1
    rw [d1]
    go_enter Tryz.func69,Tryz.ntmps69
    go_wp2_with fail
    refine (HO1.out _).mono ?_
    rintro x w1 ⟨rfl,hb1⟩
    have HB1:=qh hb1
    clear hb1
    go_wp2_with fail
    refine (HS1.out _).mono ?_
    rintro x w2 ⟨rfl,rfl⟩
    cases e with
    | nil=>
      go_wp2
      go_ret
      exact ⟨by simp,HB1.out⟩
    | cons a e=>
      go_wp2_with fail
      refine (HO2.out _).mono ?_
      rintro x w3 ⟨rfl,hb3⟩
      have HB3:=qh (bchain HB1.out hb3)
      clear hb3
      go_wp2_with fail
      refine (HS2.out _).mono ?_
      rintro x w4 ⟨rfl,rfl⟩
      go_wp2
      go_ret
      exact ⟨by simp,HB3.out⟩
end
section
open Go.RowKit
open Sto (T St)
open Go.Proofs.YtaficmboooaknaaGreatDoor.Nd (N)
theorem rkey_all (q:T) (hl:q.length<=1000000):
    ∃ (k:T) (c:Nat),(∀ w,Calls Tryz.prog 80 #[.string ⟨q.toArray⟩] w (fun e w'=>e=.returned (.tuple #[.string ⟨k.toArray⟩,.int .i64 c])/\Below w.heap.size w w'))/\
      (Spn.keyP q).isSome=(decide (c=0) && Tri.keyed k)/\(∀ j,Spn.keyP q=some j->k=j):=by
  cases hf:Nib.fitL q with
  | false=>
    refine ⟨[],3,fun w=>rkey_bad q w hl hf,?_,?_⟩
    · unfold Spn.keyP; rw [if_neg (by rw [hf]; simp)]; rfl
    · intro j hj; unfold Spn.keyP at hj; rw [if_neg (by rw [hf]; simp)] at hj; cases hj
  | true=>
    by_cases ho:q.length % 2=0
    · refine ⟨Nib.joinL q,0,fun w=>rkey_good q w hl hf ho,?_,?_⟩
      · unfold Spn.keyP
        by_cases hk:Tri.keyed (Nib.joinL q)=true
        · rw [if_pos ⟨ho,hf,hk⟩,hk]; rfl
        · rw [if_neg (fun h=>hk h.2.2)]
          have:Tri.keyed (Nib.joinL q)=false:=by simpa using hk
          rw [this]; rfl
      · intro j hj
        unfold Spn.keyP at hj
        split at hj
        · exact Option.some.inj hj
        · cases hj
    · refine ⟨[],4,fun w=>rkey_odd q w hl hf (by omega),?_,?_⟩
      · unfold Spn.keyP; rw [if_neg (fun h=>ho h.1)]; rfl
      · intro j hj; unfold Spn.keyP at hj; rw [if_neg (fun h=>ho h.1)] at hj; cases hj
theorem nresults_c1 {P:Program} {fn:Func} {p:Tmp} {ty:TypeId} (h:fn.results=#[.cell p ty]) (tmps:Array Value) (w:World) (g:Nat) (t:TypeId) (cs:Array Value) (fr:Nat × Nat) (d:TypeDesc)
    (hp:tmps.getD p undef=.pointer (some ⟨g,0,none⟩)) (hg:w.heap[g]?=some (.cells cs t fr))
    (hu:P.underlying ty=some d) (hd:(match d with | .struct _ | .array _ _=>true | _=>false)=true) (hi:(P.info? ty).map (·.size)=some cs.size):
    (results fn tmps).run P w=.ok (.agg cs) w:=by
  have hp':tmps[p]?.getD undef=.pointer (some ⟨g,0,none⟩):=by simpa using hp
  simp [results,h,hp',asAddr,run_loadVar_row w g t ty cs fr d hg hu hd hi]
theorem Spn.kidsF_count {g:T->T->St × List T->Option (St × List T)} (h:∀ s p st u,g s p st=some u->u.1.length+u.2.length<=st.1.length+st.2.length) (n:N) (p:T) (R:List Nat):∀ st u,Spn.kidsF g n p R st=some u->u.1.length+u.2.length<=st.1.length+st.2.length:=by
  induction R with
  | nil=>
    intro st u hu
    rw [Spn.kidsF] at hu
    rw [← Option.some.inj hu]
    exact Nat.le_refl _
  | cons i r ih=>
    intro st u hu
    rw [Spn.kidsF] at hu
    split at hu
    · exact ih st u hu
    · split at hu
      · cases hu
      · rename_i s' hs'
        exact Nat.le_trans (ih s' u hu) (h _ _ _ _ hs')
theorem Spn.take_count {f e:T} {n:N} {p:T} {I J:St} (h:Spn.takeI f e n p I=some J):J.length<=I.length+1:=by
  unfold Spn.takeI at h
  split at h
  · rw [← Option.some.inj h]; omega
  · split at h
    · cases h
    · rw [← Option.some.inj h]
      split <;> simp
theorem Spn.gat_count (f e:T) (k:Nat):∀ s p st u,Spn.gat f e k s p st=some u->u.1.length+u.2.length<=st.1.length+st.2.length:=by
  induction k with
  | zero=>
    intro s p st u hu
    rw [Spn.gat] at hu
    split at hu
    · cases hu
    · rw [← Option.some.inj hu]; exact Nat.le_refl _
  | succ k ih=>
    intro s p st u hu
    rw [Spn.gat] at hu
    split at hu
    · split at hu
      · cases hu
      · rename_i x r hst
        split at hu
        · split at hu
          · cases hu
          · rename_i J hJ
            have h1:=Spn.kidsF_count ih _ _ _ _ u hu
            have h2:=Spn.take_count hJ
            rw [hst,List.length_cons]
            dsimp only at h1
            omega
        · cases hu
    · rw [← Option.some.inj hu]; exact Nat.le_refl _
theorem Spn.gather_count {f e s p:T} {st u:St × List T} (h:Spn.gather f e s p st=some u):u.1.length+u.2.length<=st.1.length+st.2.length:=Spn.gat_count f e _ s p st u h
theorem rgather_bad (A1 A2:Option Addr) (n1 c1 n2 c2:Nat) (s p f e:T) (w:World):
    Calls Tryz.prog 48 #[.agg #[.slice A1 n1 c1,.slice A2 n2 c2,.bool false],.string ⟨s.toArray⟩,.string ⟨p.toArray⟩,.string ⟨f.toArray⟩,.string ⟨e.toArray⟩] w fun r w'=>r=.returned (.agg #[.slice A1 n1 c1,.slice A2 n2 c2,.bool false])/\Below w.heap.size w w':=by
  have HB:Hid (Below w.heap.size w ((w.alloc (.cells #[.slice A1 n1 c1,.slice A2 n2 c2,.bool false] 80)).alloc (.cells #[.slice A1 n1 c1,.slice A2 n2 c2,.bool false] 80))):=qh (((Below.refl _ w).alloc (Nat.le_refl _) _).alloc (by simp) _)
  have HR:Hid (((w.alloc (.cells #[.slice A1 n1 c1,.slice A2 n2 c2,.bool false] 80)).alloc (.cells #[.slice A1 n1 c1,.slice A2 n2 c2,.bool false] 80)).heap[w.heap.size+1]?=some (.cells #[.slice A1 n1 c1,.slice A2 n2 c2,.bool false] 80 (0,0))):=qh (by
    rw [← World.size_alloc w (.cells #[.slice A1 n1 c1,.slice A2 n2 c2,.bool false] 80)]
    exact heap_alloc_new _ _)
  go_enter Tryz.func48,Tryz.ntmps48
  go_wp2_with fail
  refine bodyPost_ret (nresults_c1 rfl _ _ (w.heap.size+1) _ _ _ _ rfl HR.out Tryz.underlying80 rfl (by kernel_rfl)) rfl ?_
  exact ⟨rfl,HB.out⟩
end
end Go.Proofs.YtaficmboooaknaaGreatDoor
