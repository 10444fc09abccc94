import Derived.Test.YtaficmboooaknaaGreatDoorPp01
import Derived.Test.YtaficmboooaknaaGreatDoorPp14
import Derived.Test.YtaficmboooaknaaGreatDoorPp02
import Derived.Deep.RegionHeld3
import Derived.Test.YtaficmboooaknaaGreatDoorPp03
import Derived.Deep.Slices
import Derived.DataReads
import Derived.OpenShut
import Derived.SizedLaws
import Derived.Lib.LaidU8
import Derived.BigQuiet
import Derived.WalkSpells
import Derived.WalkLawsBesides
import Derived.Deep.QuietTactic
import Derived.Test.YtaficmboooaknaaGreatDoorPp12
import Derived.Test.YtaficmboooaknaaGreatDoorPp07
import Derived.Test.YtaficmboooaknaaGreatDoorPp11
set_option maxRecDepth 100000
set_option maxHeartbeats 16000000
namespace Go.Proofs.YtaficmboooaknaaGreatDoor
section
open Go.RowKit
open Go.Proofs.YtaficmboooaknaaGreatDoor.Sto (St)
end
namespace Tri
open Sto (T St Rising keys)
open Go.Proofs.YtaficmboooaknaaGreatDoor.Nd (N)
theorem pair_sub:∀ i j:Fin 16,i < j->[i,j].Sublist (List.finRange 16):=by decide +kernel
theorem one_sub:∀ i:Fin 16,[i].Sublist (List.finRange 16):=by decide +kernel
theorem spots_len (dg:N->T) {t:Tr} (h:t.canon) (hn:¬ t.isNil) (p:T):(t.spots dg p).length+2<=3 * t.items.length/\(t.isBr->(t.spots dg p).length+3<=3 * t.items.length):=by
  induction t generalizing p with
  | nil=>exact absurd trivial hn
  | leaf q v=>exact ⟨by simp [Tr.spots,Tr.items],fun h=>h.elim⟩
  | ext q t ih=>
    have n1:¬ t.isNil:=by have:=h.2.1; cases t <;> simp_all [Tr.isBr,Tr.isNil]
    have:=(ih h.2.2 n1 (p ++ q)).2 h.2.1
    refine ⟨?_,fun h=>h.elim⟩
    rw [Tr.spots,Tr.items,behind,List.length_map,List.length_cons]
    omega
  | br v k ih=>
    have all:∀ l:List (Fin 16),(l.flatMap fun i=>(k i).spots dg (p ++ [hb i])).length+2 * l.countP (fun i=>!(k i).nilB)<=3 * (l.flatMap fun i=>behind [hb i] (k i).items).length:=by
      intro l
      induction l with
      | nil=>simp
      | cons i l ihl=>
        rw [List.flatMap_cons,List.flatMap_cons,List.length_append,List.length_append,List.countP_cons]
        have hb1:(behind [hb i] (k i).items).length=(k i).items.length:=by rw [behind,List.length_map]
        by_cases e:(k i).isNil
        · have e2:=(nilB_iff _).2 e
          have e3:(k i).spots dg (p ++ [hb i])=[]:=by cases hk:k i with
            | nil=>rfl
            | _=>rw [hk] at e; exact e.elim
          rw [e3,e2]
          simp only [Bool.not_true,Bool.false_eq_true,if_false,List.length_nil]
          omega
        · have e2:(k i).nilB=false:=by cases hk:(k i).nilB with
            | false=>rfl
            | true=>exact absurd ((nilB_iff _).1 hk) e
          have:=(ih i (h.1 i) e (p ++ [hb i])).1
          rw [e2,hb1]
          simp only [Bool.not_false,if_true]
          omega
    have h1:=all (List.finRange 16)
    have h2:4<=3 * (own v).length+2 * (List.finRange 16).countP (fun i=>!(k i).nilB):=by
      have ne:∀ i,¬ (k i).isNil->(!(k i).nilB)=true:=fun i hi=>by
        cases hk:(k i).nilB with
        | false=>rfl
        | true=>exact absurd ((nilB_iff _).1 hk) hi
      rcases h.2 with ⟨i,j,hij,hi,hj⟩ | ⟨hv,i,hi⟩
      · have:=(pair_sub i j hij).countP_le (p:=fun i=>!(k i).nilB)
        simp only [List.countP_cons,ne i hi,ne j hj,if_true,List.countP_nil] at this
        omega
      · have:=(one_sub i).countP_le (p:=fun i=>!(k i).nilB)
        simp only [List.countP_cons,ne i hi,if_true,List.countP_nil] at this
        rw [own,if_neg hv,List.length_singleton]
        omega
    have h3:(Tr.spots dg p (.br v k)).length+3<=3 * (Tr.br v k).items.length:=by
      rw [Tr.spots,Tr.items,List.length_cons,List.length_append]
      omega
    exact ⟨by omega,fun _=>h3⟩
end Tri
section
open Go.RowKit
open Sto (T St)
open Tri (Tr Ok upd ix hb lay splitT Trim rank)
open Go.Proofs.YtaficmboooaknaaGreatDoor.Nd (N)
structure TrS (S:St) (t:Tr):Prop where
  tree:Tri.TreeOf S t
  rise:Sto.Rising S
  fair:∀ x ∈ S,1<=x.1.length/\x.1.length<=8/\1<=x.2.length/\x.2.length<=32
  few:S.length<=1024
theorem TrS.within {S:St} {t:Tr} (h:TrS S t):within t:=fun x hx=>by
  rw [h.tree.2.2] at hx
  obtain ⟨y,hy,rfl⟩:=List.mem_map.1 hx
  have:=(h.fair y hy).2.1
  rw [Nib.ofL_length]; omega
theorem TrS.ok {S:St} {t:Tr} (h:TrS S t):Ok t:=⟨h.tree.1,h.tree.2.1,Tri.small_of h.tree.1 fun x hx=>⟨h.within x hx,by
  rw [h.tree.2.2] at hx
  obtain ⟨y,hy,rfl⟩:=List.mem_map.1 hx
  exact (h.fair y hy).2.2.2⟩⟩
theorem TrS.trim {S:St} {t:Tr} (h:TrS S t):Trim t:=⟨Tri.canon_firm h.tree.1,h.tree.2.1,Tri.small_low h.ok.small⟩
theorem TrS.spots {S:St} {t:Tr} (h:TrS S t) (p:T):(t.spots Nd.sumS p).length<=100000:=by
  by_cases hn:t.isNil
  · rw [Tri.isNil_eq hn]; simp [Tri.Tr.spots]
  · have h1:=(Tri.spots_len Nd.sumS h.tree.1 hn p).1
    have h2:t.items.length=S.length:=by rw [h.tree.2.2]; simp [Tri.paths]
    have:=h.few
    omega
theorem TrS.sealed {S:St} {t:Tr} {w:World} {v:Value} (h:TrS S t) (hp:PAt w (Fm.from 0) true t v):Sealed w t v:=⟨hp,h.ok,h.within,h.spots⟩
theorem TrS.empty:TrS [] .nil:=⟨⟨trivial,trivial,rfl⟩,List.Pairwise.nil,fun x hx=>(by cases hx),by simp⟩
theorem TrS.find {S:St} {t:Tr} (h:TrS S t) (k:T):findT t (Nib.ofL k)=(Sto.look S k).getD []:=by
  unfold findT; rw [h.tree.get h.rise]
theorem TrS.look_ne {S:St} {t:Tr} (h:TrS S t) {k v:T} (hl:Sto.look S k=some v):v ≠ []:=fun e=>by
  have:=(h.fair _ ((Sto.look_mem h.rise k v).1 hl)).2.2.1
  rw [e] at this; simp at this
theorem TrS.put {S:St} {t:Tr} (h:TrS S t) {k v:T} (hk:Tri.putC S k v=0):TrS (Tri.put S k v) (t.put (Nib.ofL k) v):=by
  unfold Tri.putC at hk
  split at hk
  · rename_i hkk
    split at hk
    · rename_i hv
      obtain ⟨v1,v2,v3⟩:=hv
      have hkk2:1<=k.length/\k.length<=8:=by simpa [Tri.keyed] using hkk
      refine ⟨h.tree.put (fun e=>by subst e; simp at v1),Tri.put_rising h.rise _ _,fun x hx=>?_,?_⟩
      · rcases Tri.put_mem hx with hx | rfl
        · exact h.fair x hx
        · exact ⟨hkk2.1,hkk2.2,v1,v2⟩
      · have hf:=h.few
        rw [Tri.put_eq]
        have hp:=Tri.pos_le S k
        rcases v3 with v3 | v3
        · rw [if_pos v3]
          have hp2:Tri.pos S k < S.length:=(Tri.look_pos h.rise k v3).1
          simp; omega
        · simp; omega
    · cases hk
  · cases hk
def TRow (w:World) (g:Nat) (top:Value) (n:Nat):Prop:=w.heap[g]?=some (.cells #[top,.int .i64 n] 84 (0,0))
theorem TRow.below {w w':World} {g n:Nat} {top:Value} (h:TRow w g top n) (hb:Below w.heap.size w w'):TRow w' g top n:=(hb.block g (lt_of_heap h)).trans h
theorem TRow.top {w:World} {g n:Nat} {top:Value} (h:TRow w g top n):w.cell? ⟨g,0,none⟩=some top:=by rw [cell_of_row _ _ _ _ _ _ h]; rfl
theorem TRow.num {w:World} {g n:Nat} {top:Value} (h:TRow w g top n):w.cell? ⟨g,1,none⟩=some (.int .i64 n):=by rw [cell_of_row _ _ _ _ _ _ h]; rfl
def OpenAt (w:World) (F:Fm) (g:Nat) (S:St):Prop:=∃ top t,TRow w g top S.length/\PAt w F false t top/\TrS S t
def TrAt (w:World) (g:Nat) (S:St):Prop:=∃ top t,TRow w g top S.length/\PAt w (Fm.from 0) true t top/\TrS S t
theorem TrAt.below {w w':World} {g:Nat} {S:St} (h:TrAt w g S) (hb:Below w.heap.size w w'):TrAt w' g S:=by
  obtain ⟨top,t,h1,h2,h3⟩:=h
  exact ⟨top,t,h1.below hb,h2.below hb,h3⟩
theorem TrAt.open {w:World} {g:Nat} {S:St} (h:TrAt w g S) (B:Nat):OpenAt w (Fm.from B) g S:=by
  obtain ⟨top,t,h1,h2,h3⟩:=h
  exact ⟨top,t,h1,h2.sealed (fun _ _ e=>by cases e) false,h3⟩
theorem OpenAt.below {w w':World} {F:Fm} {g:Nat} {S:St} (h:OpenAt w F g S) (hb:Below w.heap.size w w'):OpenAt w' F g S:=by
  obtain ⟨top,t,h1,h2,h3⟩:=h
  exact ⟨top,t,h1.below hb,h2.below hb,h3⟩
theorem TrAt.rise {w:World} {g:Nat} {S:St} (h:TrAt w g S):Sto.Rising S:=by
  obtain ⟨_,_,_,_,h3⟩:=h; exact h3.rise
theorem TrAt.few {w:World} {g:Nat} {S:St} (h:TrAt w g S):S.length<=1024:=by
  obtain ⟨_,_,_,_,h3⟩:=h; exact h3.few
theorem tnew_any (w:World):Calls Tryz.prog 32 #[] w fun e w'=>∃ g,e=.returned (ptr g)/\TrAt w' g []/\w.heap.size<=g/\Below w.heap.size w w':=by
  go_enter Tryz.func32,Tryz.ntmps32
  go_wp2
  go_ret
  exact ⟨w.heap.size,rfl,⟨nilp,.nil,heap_alloc_new w _,PAt.nil _ _ _,TrS.empty⟩,Nat.le_refl _,(Below.refl _ w).alloc (Nat.le_refl _) _⟩
theorem iskey_any (x:T) (w:World):
    Calls Tryz.prog 97 #[.string ⟨x.toArray⟩] w fun e w'=>e=.returned (.bool (Tri.keyed x))/\w=w':=by
  by_cases h0:x=[]
  · subst h0
    go_enter Tryz.func97,Tryz.ntmps97
    go_wp2
    go_ret
    exact ⟨rfl,rfl⟩
  · have h1:(x == [])=false:=by rw [beq_eq_false_iff_ne]; exact h0
    have h2:1<=x.length:=List.length_pos_iff.2 h0
    by_cases h8:x.length<=8
    · have h3:(x.length:Int)<=8:=by omega
      have e:Tri.keyed x=true:=by simp [Tri.keyed,h2,h8]
      rw [e]
      clear e h2 h8 h0
      go_enter Tryz.func97,Tryz.ntmps97
      go_wp2
      go_ret
      exact ⟨rfl,rfl⟩
    · have h3:¬ ((x.length:Int)<=8):=by omega
      have e:Tri.keyed x=false:=by simp [Tri.keyed]; omega
      rw [e]
      clear e h2 h8 h0
      go_enter Tryz.func97,Tryz.ntmps97
      go_wp2
      go_ret
      exact ⟨rfl,rfl⟩
end
section
open Go.RowKit
open Sto (T St)
open Tri (Tr Ok upd ix hb lay splitT Trim rank)
open Go.Proofs.YtaficmboooaknaaGreatDoor.Nd (N)
def TWithPost (S:St) (k v:T) (F:Fm) (w:World) (e:Ending) (w':World):Prop:=
  ∃ z,e=.returned (.tuple #[z,.int .i64 (Tri.putC S k v)])/\(Tri.putC S k v=0->∃ g',z=ptr g'/\w.heap.size<=g'/\OpenAt w' F g' (Tri.put S k v))/\(Tri.putC S k v ≠ 0->z=nilp)/\Below w.heap.size w w'
theorem TWithPost.bad {S:St} {k v:T} {F:Fm} {w w':World} {c:Nat} (h:Tri.putC S k v=c) (hc:c ≠ 0) (hb:Below w.heap.size w w'):TWithPost S k v F w (.returned (.tuple #[.pointer none,.int .i64 c])) w':=by
  subst h
  exact ⟨_,rfl,fun e=>absurd e hc,fun _=>rfl,hb⟩
theorem TWithPost.good {S:St} {k v:T} {F:Fm} {w w':World} {g' n:Nat} {top:Value} {t:Tr} (h:Tri.putC S k v=0) (hg:w.heap.size<=g') (hr:TRow w' g' top n) (hn:n=(Tri.put S k v).length) (hp:PAt w' F false t top) (hs:TrS (Tri.put S k v) t) (hb:Below w.heap.size w w'):TWithPost S k v F w (.returned (.tuple #[.pointer (some ⟨g',0,none⟩),.int .i64 0])) w':=by
  subst hn
  exact ⟨_,by rw [h]; rfl,fun _=>⟨g',rfl,hg,top,t,hr,hp,hs⟩,fun e=>absurd h e,hb⟩
theorem twith_good {g:Nat} {S:St} (k v:T) (w:World) (F:Fm) (hF:F.fresh w) (h:OpenAt w F g S) (hc:Tri.putC S k v=0):
    Calls Tryz.prog 60 #[ptr g,.string ⟨k.toArray⟩,.string ⟨v.toArray⟩] w (TWithPost S k v F w):=by
  obtain ⟨top,t,h1,h2,h3⟩:=h
  have hc0:=hc
  unfold Tri.putC at hc
  split at hc
  · rename_i hkk
    split at hc
    · rename_i hv
      obtain ⟨v1,v2,v3⟩:=hv
      have hkk2:1<=k.length/\k.length<=8:=by simpa [Tri.keyed] using hkk
      have HK:=qh (fun w=>iskey_any k w)
      rw [hkk] at HK
      have HOF:=qh (fun w=>of_any k w (by omega))
      have HFI:Hid (∀ w',Below w.heap.size w w'->Calls Tryz.prog 98 #[top,.string ⟨(Nib.ofL k).toArray⟩] w' fun e w''=>e=.returned (.string ⟨((Sto.look S k).getD []).toArray⟩)/\Below w'.heap.size w' w''):=qh (fun w' hb=>by
        have:=find_any (Nib.ofL k) w' (h2.below hb) h3.trim.firm (Tri.ofL_fit k) (by rw [Nib.ofL_length]; omega)
        rw [h3.find] at this
        exact this)
      have HCL:=qh (fun w=>dclone_any v w (by omega))
      have HWI:Hid (∀ w',Below w.heap.size w w'->Calls Tryz.prog 99 #[top,.string ⟨(Nib.ofL k).toArray⟩,.string ⟨v.toArray⟩] w' fun e w''=>∃ g9,e=.returned (.pointer (some ⟨g9,0,none⟩))/\PAt w'' F false (t.put (Nib.ofL k) v) (.pointer (some ⟨g9,0,none⟩))/\Below w'.heap.size w' w''):=qh (fun w' hb=>
        (with_any (Nib.ofL k) v w' F (hF.size hb.size) (h2.below hb) h3.trim (Tri.ofL_fit k) (by rw [Nib.ofL_length]; omega)).mono fun e w'' ⟨v9,e1,hp,hb9⟩=>by
          obtain ⟨g9,rfl⟩:=hp.ptr (Tri.put_nn _ _ _)
          exact ⟨g9,e1,hp,hb9⟩)
      have HTS:=qh (h3.put hc0)
      have HCC:=qh hc0
      have HPN:=qh (Tri.put_len S k v)
      have HAL:=qh (Tri.at_look h3.rise k)
      have HT:Hid (∀ w',Below w.heap.size w w'->w'.cell? ⟨g,0,none⟩=some top/\w'.cell? ⟨g,1,none⟩=some (.int .i64 S.length)):=qh (fun w' hb=>⟨(h1.below hb).top,(h1.below hb).num⟩)
      obtain ⟨P,hP⟩:∃ P,Nib.ofL k=P:=⟨_,rfl⟩
      rw [hP] at HOF HFI HWI HTS
      have hve:(v == [])=false:=by rw [beq_eq_false_iff_ne]; intro e; subst e; simp at v1
      have hvl:¬ ((v.length:Int) > 32):=by omega
      have hvl2:decide ((32:Int) < (v.length:Int))=false:=decide_eq_false (by omega)
      have hvl3:decide (32 < v.length)=false:=decide_eq_false (by omega)
      unfold ptr
      have BD:Below w.heap.size w w.drew:=(Below.refl _ _).drew
      obtain ⟨c0,c1⟩:=HT.out _ BD
      have hfew:=h3.few
      have hlen:∀ (n:Nat),n=(Tri.put S k v).length->n<=1024:=fun n hn=>by rw [hn]; exact HTS.out.few
      cases hl:Sto.look S k with
      | some y=>
        have hye:(y == [])=false:=by rw [beq_eq_false_iff_ne]; exact h3.look_ne hl
        have hpl:S.length=(Tri.put S k v).length:=by
          rw [HPN.out,if_pos (by rw [HAL.out,hl]; rfl)]; omega
        have HPL:=qh hpl
        have hgt:¬ ((S.length:Int) > 1024):=by omega
        have hgt2:¬ ((1024:Int) < (S.length:Int)):=by omega
        rw [hl,Option.getD_some] at HFI
        clear h1 h2 h3 hkk hP hkk2 v1 v2 v3 hc hc0 HPN HAL hl hfew hlen hpl
        go_enter Tryz.func60,Tryz.ntmps60
        go_wp2_with fail
        refine (HK.out _).mono ?_
        rintro e w1 ⟨rfl,rfl⟩
        go_upto_region 5 with fail
        go_region_held3 (fun w'=>w'.cell? ⟨g,1,none⟩=some (.int .i64 S.length))
          ((first | (with_reducible assumption) | (refine (HT.out _ ?_).2; with_reducible assumption)))
          ((go_at_call 59; refine (HOF.out _).mono ?_; rintro e w6 ⟨rfl,hb6⟩; have hb6':=bchain BD hb6))
        all_goals
          obtain ⟨d0,d1⟩:=HT.out _ hb6'
          go_wp2_with fail
          refine (HFI.out _ hb6').mono ?_
          rintro e w7 ⟨rfl,hb7⟩
          have hb7':=bchain hb6' hb7
          have BD7:Below w.heap.size w w7.drew:=hb7'.drew
          go_upto_region 10 with fail
          obtain ⟨e0,e1⟩:=HT.out _ BD7
          clear c0 c1 d0 d1
          go_region_held3 (fun w'=>w'.cell? ⟨g,0,none⟩=some top)
            ((first | (with_reducible assumption) | (refine (HT.out _ ?_).1; with_reducible assumption) | (refine (HT.out _ ?_).1; refine Below.alloc ?_ ?_ _; (with_reducible assumption); (with_reducible exact hs9))))
            (first | (go_at_call 46; refine (HCL.out _).mono ?_; rintro e w8 ⟨rfl,hb8⟩; have hb8':=bchain BD7 hb8) | (go_at_call 99; refine (HWI.out _ ?_).mono ?_; (with_reducible exact hb8'); rintro e w9 ⟨g9,rfl,hp9,hb9⟩; have hb9':=bchain hb8' hb9; have hs9:=hb9'.size))
          all_goals
            go_wp2
            go_ret2
            have hba:=hb9'.alloc hs9 (.cells #[.pointer (some ⟨g9,0,none⟩),.int .i64 S.length] 84)
            exact TWithPost.good HCC.out hs9 (heap_alloc_new w9 _) HPL.out (hp9.below ((Below.refl _ w9).alloc (Nat.le_refl _) _)) HTS.out hba
      | none=>
        have hpl:S.length+1=(Tri.put S k v).length:=by
          rw [HPN.out,if_neg (by rw [HAL.out,hl]; simp)]
        have z8:IntKind.i64.wrap ((S.length:Int)+1)=(S.length:Int)+1:=IntWalk.i64_in _ (by omega)
        have hl1:=hlen _ hpl
        have HPL:=qh hpl
        have hgt:¬ ((S.length:Int)+1 > 1024):=by omega
        have hgt2:¬ ((1024:Int) < (S.length:Int)+1):=by omega
        rw [hl,Option.getD_none] at HFI
        clear hl1 h1 h2 h3 hkk hP hkk2 v1 v2 v3 hc hc0 HPN HAL hl hfew hlen hpl
        go_enter Tryz.func60,Tryz.ntmps60
        go_wp2_with fail
        refine (HK.out _).mono ?_
        rintro e w1 ⟨rfl,rfl⟩
        go_upto_region 5 with fail
        go_region_held3 (fun w'=>w'.cell? ⟨g,1,none⟩=some (.int .i64 S.length))
          ((first | (with_reducible assumption) | (refine (HT.out _ ?_).2; with_reducible assumption)))
          ((go_at_call 59; refine (HOF.out _).mono ?_; rintro e w6 ⟨rfl,hb6⟩; have hb6':=bchain BD hb6))
        all_goals
          obtain ⟨d0,d1⟩:=HT.out _ hb6'
          go_wp2_with fail
          refine (HFI.out _ hb6').mono ?_
          rintro e w7 ⟨rfl,hb7⟩
          have hb7':=bchain hb6' hb7
          have BD7:Below w.heap.size w w7.drew:=hb7'.drew
          go_upto_region 10 with fail
          obtain ⟨e0,e1⟩:=HT.out _ BD7
          clear c0 c1 d0 d1
          go_region_held3 (fun w'=>w'.cell? ⟨g,0,none⟩=some top)
            ((first | (with_reducible assumption) | (refine (HT.out _ ?_).1; with_reducible assumption) | (refine (HT.out _ ?_).1; refine Below.alloc ?_ ?_ _; (with_reducible assumption); (with_reducible exact hs9))))
            (first | (go_at_call 46; refine (HCL.out _).mono ?_; rintro e w8 ⟨rfl,hb8⟩; have hb8':=bchain BD7 hb8) | (go_at_call 99; refine (HWI.out _ ?_).mono ?_; (with_reducible exact hb8'); rintro e w9 ⟨g9,rfl,hp9,hb9⟩; have hb9':=bchain hb8' hb9; have hs9:=hb9'.size))
          all_goals
            go_wp2
            go_ret2
            have hba:=hb9'.alloc hs9 (.cells #[.pointer (some ⟨g9,0,none⟩),.int .i64 ((S.length+1:Nat):Int)] 84)
            exact TWithPost.good HCC.out hs9 (heap_alloc_new w9 _) HPL.out (hp9.below ((Below.refl _ w9).alloc (Nat.le_refl _) _)) HTS.out hba
    · cases hc
  · cases hc
theorem twith_any {g:Nat} {S:St} (k v:T) (w:World) (F:Fm) (hF:F.fresh w) (h:OpenAt w F g S):
    Calls Tryz.prog 60 #[ptr g,.string ⟨k.toArray⟩,.string ⟨v.toArray⟩] w (TWithPost S k v F w):=by
  have HK:=qh (fun w=>iskey_any k w)
  cases hk:Tri.keyed k with
  | false=>
    rw [hk] at HK
    have HC:=qh (Tri.putC_no (S:=S) (y:=v) hk)
    unfold ptr
    clear h hk
    go_enter Tryz.func60,Tryz.ntmps60
    go_wp2_with fail
    refine (HK.out _).mono ?_
    rintro e w1 ⟨rfl,rfl⟩
    go_wp2
    go_ret2
    exact TWithPost.bad HC.out (by decide) (Below.refl _ _)
  | true=>
    rw [hk] at HK
    by_cases hok:1<=v.length/\v.length<=32/\(Tri.at_ S k=true ∨ S.length < 1024)
    · exact twith_good k v w F hF h (Tri.putC_ok hk hok)
    · have HC:=qh (Tri.putC_bad (S:=S) (y:=v) hk hok)
      by_cases hv0:v=[]
      · subst hv0
        unfold ptr
        clear h hk hok
        go_enter Tryz.func60,Tryz.ntmps60
        go_wp2_with fail
        refine (HK.out _).mono ?_
        rintro e w1 ⟨rfl,rfl⟩
        go_wp2
        go_ret2
        exact TWithPost.bad HC.out (by decide) (Below.refl _ _)
      · have hve:(v == [])=false:=by rw [beq_eq_false_iff_ne]; exact hv0
        have hv1:1<=v.length:=List.length_pos_iff.2 hv0
        by_cases hv2:v.length<=32
        · obtain ⟨top,t,h1,h2,h3⟩:=h
          have hno:¬ (Tri.at_ S k=true ∨ S.length < 1024):=fun e=>hok ⟨hv1,hv2,e⟩
          have hl:Sto.look S k=none:=by
            have:=Tri.at_look h3.rise k
            cases hl:Sto.look S k with
            | none=>rfl
            | some y=>exact absurd (Or.inl (by rw [this,hl]; rfl)) hno
          have hfew:S.length=1024:=by
            have:=h3.few
            have:¬ S.length < 1024:=fun e=>hno (Or.inr e)
            omega
          have hx8:k.length<=8:=by simp [Tri.keyed] at hk; omega
          have HOF:=qh (fun w=>of_any k w (by omega))
          have HFI:Hid (∀ w',Below w.heap.size w w'->Calls Tryz.prog 98 #[top,.string ⟨(Nib.ofL k).toArray⟩] w' fun e w''=>e=.returned (.string ⟨#[]⟩)/\Below w'.heap.size w' w''):=qh (fun w' hb=>by
            have:=find_any (Nib.ofL k) w' (h2.below hb) h3.trim.firm (Tri.ofL_fit k) (by rw [Nib.ofL_length]; omega)
            rw [h3.find,hl] at this
            exact this)
          have HT:Hid (∀ w',Below w.heap.size w w'->w'.cell? ⟨g,0,none⟩=some top/\w'.cell? ⟨g,1,none⟩=some (.int .i64 1024)):=qh (fun w' hb=>⟨(h1.below hb).top,by have:=(h1.below hb).num; rw [hfew] at this; exact this⟩)
          obtain ⟨P,hP⟩:∃ P,Nib.ofL k=P:=⟨_,rfl⟩
          rw [hP] at HOF HFI
          have BD:Below w.heap.size w w.drew:=(Below.refl _ _).drew
          obtain ⟨c0,c1⟩:=HT.out _ BD
          have hvl2:decide ((32:Int) < (v.length:Int))=false:=decide_eq_false (by omega)
          have hvl3:decide (32 < v.length)=false:=decide_eq_false (by omega)
          have hvl:¬ ((v.length:Int) > 32):=by omega
          unfold ptr
          clear h1 h2 h3 hk hP hl hno hok hfew hv0 hv1 hv2 hx8
          go_enter Tryz.func60,Tryz.ntmps60
          go_wp2_with fail
          refine (HK.out _).mono ?_
          rintro e w1 ⟨rfl,rfl⟩
          go_upto_region 5 with fail
          go_region_held3 (fun w'=>w'.cell? ⟨g,1,none⟩=some (.int .i64 1024))
            ((first | (with_reducible assumption) | (refine (HT.out _ ?_).2; with_reducible assumption)))
            ((go_at_call 59; refine (HOF.out _).mono ?_; rintro e w6 ⟨rfl,hb6⟩; have hb6':=bchain BD hb6))
          all_goals
            obtain ⟨d0,d1⟩:=HT.out _ hb6'
            go_wp2_with fail
            refine (HFI.out _ hb6').mono ?_
            rintro e w7 ⟨rfl,hb7⟩
            have hb7':=bchain hb6' hb7
            go_wp2
            go_ret2
            exact TWithPost.bad HC.out (by decide) hb7'
        · have hvl:(v.length:Int) > 32:=by omega
          have hvl2:decide ((32:Int) < (v.length:Int))=true:=decide_eq_true (by omega)
          have hvl3:decide (32 < v.length)=true:=decide_eq_true (by omega)
          unfold ptr
          clear h hk hok hv0 hv1 hv2
          go_enter Tryz.func60,Tryz.ntmps60
          go_wp2_with fail
          refine (HK.out _).mono ?_
          rintro e w1 ⟨rfl,rfl⟩
          go_wp2
          go_ret2
          exact TWithPost.bad HC.out (by decide) (Below.refl _ _)
def TPutPost (S:St) (k v:T) (w:World) (e:Ending) (w':World):Prop:=
  ∃ z,e=.returned (.tuple #[z,.int .i64 (Tri.putC S k v)])/\(Tri.putC S k v=0->∃ g',z=ptr g'/\TrAt w' g' (Tri.put S k v))/\(Tri.putC S k v ≠ 0->z=nilp)/\Below w.heap.size w w'
theorem TPutPost.bad {S:St} {k v:T} {w w':World} {c:Nat} (h:Tri.putC S k v=c) (hc:c ≠ 0) (hb:Below w.heap.size w w'):TPutPost S k v w (.returned (.tuple #[.pointer none,.int .i64 c])) w':=by
  subst h
  exact ⟨_,rfl,fun e=>absurd e hc,fun _=>rfl,hb⟩
theorem TPutPost.good {S:St} {k v:T} {w w':World} {g':Nat} (h:Tri.putC S k v=0) (ht:TrAt w' g' (Tri.put S k v)) (hb:Below w.heap.size w w'):TPutPost S k v w (.returned (.tuple #[.pointer (some ⟨g',0,none⟩),.int .i64 0])) w':=
  ⟨_,by rw [h]; rfl,fun _=>⟨g',rfl,ht⟩,fun e=>absurd h e,hb⟩
theorem tput_any {g:Nat} {S:St} (k v:T) (w:World) (h:TrAt w g S) (hT:Tab w):
    Calls Tryz.prog 34 #[ptr g,.string ⟨k.toArray⟩,.string ⟨v.toArray⟩] w (TPutPost S k v w):=by
  have HW:=qh (twith_any k v w (Fm.from w.heap.size) (fun g hg _=>hg) (h.open w.heap.size))
  have HT:=qh hT
  unfold TWithPost ptr at HW
  unfold ptr
  obtain ⟨c,hc⟩:∃ c,Tri.putC S k v=c:=⟨_,rfl⟩
  rw [hc] at HW
  have HCC:=qh hc
  clear h hT hc
  go_enter Tryz.func34,Tryz.ntmps34
  go_wp2_with fail
  refine HW.out.mono ?_
  rintro e w1 ⟨z,rfl,hz1,hz0,hb1⟩
  have HB1:=qh hb1
  by_cases hc0:c=0
  · obtain ⟨g',rfl,hg',top,t,hr,hp,hs⟩:=hz1 hc0
    subst hc0
    have HSE:=qh (seal_to t top w1 w.heap.size HT.out.pos hb1.size (HT.out.below hb1) hs.ok hp)
    have HR:=qh hr
    have HS:=qh hs
    have m0:=hr.top
    clear hz1 hz0 hb1 hr hp hs hg'
    go_wp2_with fail
    refine HSE.out.mono ?_
    rintro e w2 ⟨rfl,hp2,hk2,hb2⟩
    have HP2:=qh hp2
    have HR2:Hid (TRow w2 g' top (Tri.put S k v).length):=qh (hk2.2.2 _ _ _ _ (by decide) HR.out)
    have HB2:=qh (HB1.out.trans hb2)
    clear hp2 hk2 hb2
    go_wp2
    go_ret2
    exact TPutPost.good HCC.out ⟨top,t,HR2.out,HP2.out.sealed (fun _ _ e=>by cases e) true,HS.out⟩ HB2.out
  · have e0:((c:Int) == 0)=false:=by rw [beq_eq_false_iff_ne]; omega
    have e1:z=.pointer none:=hz0 hc0
    subst e1
    have HC:=qh hc0
    clear hz1 hz0 hb1 hc0
    go_wp2
    go_ret2
    exact TPutPost.bad HCC.out HC.out HB1.out
end
section
open Go.RowKit
open Sto (T St)
open Tri (Tr Ok upd ix hb lay splitT Trim rank)
open Go.Proofs.YtaficmboooaknaaGreatDoor.Nd (N)
theorem troot_any {g n:Nat} {top:Value} {t:Tr} (w:World) (hr:TRow w g top n) (hp:PAt w (Fm.from 0) true t top) (ho:Ok t):
    Calls Tryz.prog 23 #[ptr g] w fun e w'=>e=.returned (.string ⟨(t.sum Nd.sumS).toArray⟩)/\Below w.heap.size w w':=by
  have m0:=hr.top
  by_cases hn:t.isNil
  · rw [Tri.isNil_eq hn] at hp ⊢
    have e:top=.pointer none:=hp
    subst e
    unfold ptr
    clear hr hp
    go_enter Tryz.func23,Tryz.ntmps23
    go_wp2
    go_ret
    exact ⟨rfl,Below.refl _ _⟩
  · obtain ⟨g2,s',K,rfl,hs,-,h2,-⟩:=hp.row hn
    obtain rfl:=hs rfl
    have m1:=h2.sum
    have HCL:=qh (fun w=>dclone_any (t.sum Nd.sumS) w (by rw [ho.sum_len hn]; omega))
    obtain ⟨X,hX⟩:∃ X,t.sum Nd.sumS=X:=⟨_,rfl⟩
    rw [if_pos rfl,hX] at m1
    rw [hX] at HCL ⊢
    unfold ptr at *
    clear hr h2 hX hn ho
    go_enter Tryz.func23,Tryz.ntmps23
    go_wp2_with fail
    refine (HCL.out _).mono ?_
    rintro e w1 ⟨rfl,hb⟩
    go_wp2
    go_ret
    exact ⟨rfl,hb⟩
end
section
open Go.RowKit
open Go.Proofs.YtaficmboooaknaaGreatDoor.Sto (St)
def Tri.ofR:St->St->St × Nat
  | S,[]=>(S,0)
  | S,a :: r=>if Tri.putC S a.1 a.2=0 then Tri.ofR (Tri.put S a.1 a.2) r else ([],Tri.putC S a.1 a.2)
theorem Tri.ofR_step {S L:St} {k:Nat} (hk:k < L.length) (h:Tri.putC S L[k].1 L[k].2=0):Tri.ofR S (L.drop k)=Tri.ofR (Tri.put S L[k].1 L[k].2) (L.drop (k+1)):=by
  rw [List.drop_eq_getElem_cons hk,Tri.ofR,if_pos h]
theorem Tri.ofR_bad {S L:St} {k:Nat} (hk:k < L.length) (h:Tri.putC S L[k].1 L[k].2 ≠ 0):Tri.ofR S (L.drop k)=([],Tri.putC S L[k].1 L[k].2):=by
  rw [List.drop_eq_getElem_cons hk,Tri.ofR,if_neg h]
end
section
open Go.RowKit
open Sto (T St)
open Tri (Tr Ok upd ix hb lay splitT Trim rank)
open Go.Proofs.YtaficmboooaknaaGreatDoor.Nd (N)
def TOfPost (L:St) (w:World) (e:Ending) (w':World):Prop:=
  ∃ z,e=.returned (.tuple #[z,.int .i64 (Tri.ofR [] L).2])/\((Tri.ofR [] L).2=0->∃ g',z=ptr g'/\TrAt w' g' (Tri.ofR [] L).1)/\((Tri.ofR [] L).2 ≠ 0->z=nilp)/\Below w.heap.size w w'
theorem TOfPost.bad {L S:St} {c:Nat} {w w':World} (h:Tri.ofR [] L=(S,c)) (hc:c ≠ 0) (hb:Below w.heap.size w w'):TOfPost L w (.returned (.tuple #[.pointer none,.int .i64 c])) w':=⟨nilp,by rw [h]; rfl,by rw [h]; exact fun e=>absurd e hc,fun _=>rfl,hb⟩
theorem TOfPost.good {L S:St} {g':Nat} {w w':World} (h:Tri.ofR [] L=(S,0)) (hT:TrAt w' g' S) (hb:Below w.heap.size w w'):TOfPost L w (.returned (.tuple #[.pointer (some ⟨g',0,none⟩),.int .i64 0])) w':=⟨_,by rw [h]; rfl,by rw [h]; exact fun _=>⟨g',rfl,hT⟩,by rw [h]; exact fun e=>absurd rfl e,hb⟩
theorem tof_wide (L:St) (v:Value) (w:World) (hv:ItIn w v L) (hl:L.length<=5000000000000) (hT:Tab w):
    Calls Tryz.prog 31 #[v] w (TOfPost L w):=by
  have HV:=qh hv
  have HT:=qh hT
  have HL:=qh hl
  have HNW:=qh (tnew_any w)
  unfold ptr at HNW
  obtain ⟨A,cap,rfl,-,-⟩:=hv.form
  clear hv hT
  go_enter Tryz.func31,Tryz.ntmps31
  go_wp2_with fail
  refine HNW.out.mono ?_
  rintro e w1 ⟨g0,rfl,ht0,-,hb1⟩
  have HB1:=qh hb1
  have H0:=qh (ht0.open w.heap.size)
  clear ht0 hb1
  go_wp2
  go_loopw [4,12] (fun av iv wr=>∃ (k:Nat) (gk:Nat) (S:St),av=.pointer (some ⟨gk,0,none⟩)/\k<=L.length/\iv=.int .i64 k/\OpenAt wr (Fm.from w.heap.size) gk S/\Tri.ofR [] L=Tri.ofR S (L.drop k)/\Below w.heap.size w wr) (fun _ i _=>L.length - (intOf i).toNat)
  case atStart=>exact ⟨0,g0,[],rfl,Nat.zero_le _,rfl,H0.out,rfl,HB1.out⟩
  case round=>
    obtain ⟨k,gk,S,rfl,hk,rfl,hop,hof,hb⟩:=hrel
    have HB:=qh hb
    have HOF:=qh hof
    by_cases hlt:k < L.length
    · have h1:(k:Int) < (L.length:Int):=by omega
      have h0:(0:Int)<=(k:Int):=by omega
      have hnb:(k:Int)<=5000000000000:=by omega
      have HVW:=qh (RowsIn.below HV.out hb)
      obtain ⟨b,o,rfl,n0,n1⟩:=ItIn.at HVW.out k hlt
      have HST:=qh (Tri.ofR_step (S:=S) hlt)
      have HSB:=qh (Tri.ofR_bad (S:=S) hlt)
      obtain ⟨x,hx⟩:∃ x,L[k].1=x:=⟨_,rfl⟩
      obtain ⟨y,hy⟩:∃ y,L[k].2=y:=⟨_,rfl⟩
      rw [hx,hy] at HST HSB
      rw [hx] at n0
      rw [hy] at n1
      have hba:Below wr.heap.size wr (wr.alloc (.cells #[.string ⟨x.toArray⟩,.string ⟨y.toArray⟩] 60)):=(Below.refl _ wr).alloc (Nat.le_refl _) _
      have HWI:=qh (twith_any x y (wr.alloc (.cells #[.string ⟨x.toArray⟩,.string ⟨y.toArray⟩] 60)) (Fm.from w.heap.size) (fun g hg _=>Nat.le_trans hb.size (Nat.le_trans hba.size hg)) (hop.below hba))
      have HBA:Hid (∀ w',Below (wr.alloc (.cells #[.string ⟨x.toArray⟩,.string ⟨y.toArray⟩] 60)).heap.size (wr.alloc (.cells #[.string ⟨x.toArray⟩,.string ⟨y.toArray⟩] 60)) w'->Below w.heap.size w w'):=qh (fun w' h=>HB.out.trans ((bchain hba h).mono HB.out.size))
      unfold TWithPost ptr at HWI
      obtain ⟨c,hc⟩:∃ c,Tri.putC S x y=c:=⟨_,rfl⟩
      rw [hc] at HWI HST HSB
      clear hop hof hb hx hy hba hc
      go_wp2_with fail
      refine HWI.out.mono ?_
      rintro e w2 ⟨z,rfl,hz1,hz0,hb2⟩
      have HB2:=qh (HBA.out _ hb2)
      by_cases hc0:c=0
      · obtain ⟨g',rfl,-,hop2⟩:=hz1 hc0
        subst hc0
        replace HST:=qh (HST.out rfl)
        have HOP:=qh hop2
        clear hz1 hz0 hb2 hop2
        go_wp2
        exact ⟨⟨k+1,g',Tri.put S x y,rfl,by omega,by go_num,HOP.out,by rw [HOF.out]; exact HST.out,HB2.out⟩,by simp [intOf]; omega⟩
      · have hc1:((c:Int) == 0)=false:=by rw [beq_eq_false_iff_ne]; omega
        have e1:z=.pointer none:=hz0 hc0
        subst e1
        have HC:=qh hc0
        clear hz1 hz0 hb2 hc0
        go_wp2
        go_ret2
        exact TOfPost.bad (HOF.out.trans (HSB.out HC.out)) HC.out HB2.out
    · obtain rfl:k=L.length:=by omega
      have h1:¬ ((L.length:Int) < (L.length:Int)):=by omega
      have HEND:Hid (Tri.ofR [] L=(S,0)):=qh (by rw [HOF.out,List.drop_length]; rfl)
      obtain ⟨top,t,hr,hp,hs⟩:=hop
      have HSE:=qh (seal_to t top wr w.heap.size HT.out.pos hb.size (HT.out.mid hb HT.out.pos) hs.ok hp)
      have HR:=qh hr
      have HS:=qh hs
      have m0:=hr.top
      clear hof hb hr hp hs
      go_wp2_with fail
      refine HSE.out.mono ?_
      rintro e w2 ⟨rfl,hp2,hk2,hb2⟩
      have HTR:Hid (TrAt w2 gk S):=qh ⟨top,t,hk2.2.2 _ _ _ _ (by decide) HR.out,hp2.sealed (fun _ _ e=>by cases e) true,HS.out⟩
      have HB2:=qh (HB.out.trans hb2)
      clear hp2 hk2 hb2
      go_wp2
      go_ret2
      exact TOfPost.good HEND.out HTR.out HB2.out
theorem tof_in (L:St) (v:Value) (w:World) (hv:ItIn w v L) (hl:L.length<=10000) (hT:Tab w):
    Calls Tryz.prog 31 #[v] w (TOfPost L w):=tof_wide L v w hv (by omega) hT
theorem tof_any (L:St) (v:Value) (w:World) (hv:ItAt w v L) (hl:L.length<=10000) (hT:Tab w):
    Calls Tryz.prog 31 #[v] w (TOfPost L w):=tof_in L v w hv.inn hl hT
end
section
open Go.RowKit
open Sto (T)
open Tri (Tr Ok upd ix hb lay splitT Trim rank)
open Go.Proofs.YtaficmboooaknaaGreatDoor.Nd (N)
theorem cover_wants {cf ce cl:Nat} {f e:T} (w:World) (hf:w.heap[cf]?=some (.cells #[.string ⟨(Nib.ofL f).toArray⟩] 9 (0,0))) (he:w.heap[ce]?=some (.cells #[.string ⟨e.toArray⟩] 9 (0,0))) (hl:w.heap[cl]?=some (.cells #[.string ⟨(Nib.ofL e).toArray⟩] 9 (0,0))):
    Wants w 66 #[.pointer (some ⟨cf,0,none⟩),.pointer (some ⟨ce,0,none⟩),.pointer (some ⟨cl,0,none⟩)] (fun p=>Tri.inL p f e) where
  call:=fun _ _=>rfl
  step:=fun w' p hb _ _=>by
    show Calls Tryz.prog 66 #[.string ⟨p.toArray⟩,.pointer (some ⟨cf,0,none⟩),.pointer (some ⟨ce,0,none⟩),.pointer (some ⟨cl,0,none⟩)] w' _
    have c0:=cell_of_one ((hb.block cf (lt_of_heap hf)).trans hf)
    have c1:=cell_of_one ((hb.block ce (lt_of_heap he)).trans he)
    have c2:=cell_of_one ((hb.block cl (lt_of_heap hl)).trans hl)
    have H1:=qh (fun w=>side_any p (Nib.ofL f) w)
    have H2:=qh (fun w=>side_any p (Nib.ofL e) w)
    rw [in_sides]
    obtain ⟨a,ha⟩:∃ a,Nib.sideL p (Nib.ofL f)=a:=⟨_,rfl⟩
    obtain ⟨b,hb2⟩:∃ b,Nib.sideL p (Nib.ofL e)=b:=⟨_,rfl⟩
    rw [ha] at H1 ⊢
    rw [hb2] at H2 ⊢
    obtain ⟨x,hx⟩:∃ x,(a != -1)=x:=⟨_,rfl⟩
    obtain ⟨y,hy⟩:∃ y,(e == [])=y:=⟨_,rfl⟩
    obtain ⟨z,hz⟩:∃ z,(b != 1)=z:=⟨_,rfl⟩
    rw [hx,hy,hz]
    have hx2:(!(a == -1))=x:=hx
    have hz2:(!(b == 1))=z:=hz
    clear hb hf he hl ha hb2
    cases x with
    | false=>
      go_enter Tryz.func66,Tryz.ntmps66
      go_wp2_with fail
      refine (H1.out _).mono ?_
      rintro e w1 ⟨rfl,rfl⟩
      go_wp2
      go_ret
      exact ⟨rfl,Below.refl _ _⟩
    | true=>
      cases y with
      | true=>
        go_enter Tryz.func66,Tryz.ntmps66
        go_wp2_with fail
        refine (H1.out _).mono ?_
        rintro e w1 ⟨rfl,rfl⟩
        go_wp2
        go_ret
        exact ⟨rfl,Below.refl _ _⟩
      | false=>
        go_enter Tryz.func66,Tryz.ntmps66
        go_wp2_with fail
        refine (H1.out _).mono ?_
        rintro e w1 ⟨rfl,rfl⟩
        go_wp2_with fail
        refine (H2.out _).mono ?_
        rintro e w1 ⟨rfl,rfl⟩
        go_wp2
        go_ret
        exact ⟨rfl,Below.refl _ _⟩
end
section
open Go.RowKit
open Sto (T St)
open Tri (Tr Ok upd ix hb lay splitT Trim rank)
open Go.Proofs.YtaficmboooaknaaGreatDoor.Nd (N)
namespace Tri
end Tri
theorem wanted_all (t:Tr):wantedT (fun _=>true) t=(t.spots Nd.sumS []).map fun x=>Nd.written x.2:=by
  unfold wantedT
  rw [List.filter_eq_self.2 (fun _ _=>rfl)]
end
section
open Go.RowKit Go.ChangeShapes Go.WideShapes
structure ActT where
  kind:Int
  key:List UInt8
  val:List UInt8
instance:Inhabited ActT:=⟨⟨0,[],[]⟩⟩
end
section
open Go.RowKit
open Sto (T St)
open Tri (Tr)
end
section
open Go.RowKit
open Sto (T St)
open Tri (Tr)
end
section
open Go.RowKit
open Sto (T St)
theorem take_snoc_it {L K:St} {k:Nat} (h1:k < L.length) (h2:k < K.length):L.take (k+1)=K.take (k+1) ↔ L.take k=K.take k/\L[k]=K[k]:=by
  rw [List.take_succ_eq_append_getElem h1,List.take_succ_eq_append_getElem h2]
  constructor
  · intro h
    have:=List.append_inj' h rfl
    exact ⟨this.1,by simpa using this.2⟩
  · rintro ⟨a,b⟩
    rw [a,b]
theorem sameI_in (L K:St) (u v:Value) (w:World) (hu:ItIn w u L) (hv:ItIn w v K) (hl:L.length<=1000000) (hk:K.length<=1000000):
    Calls Tryz.prog 21 #[u,v] w fun x w'=>x=.returned (.bool (decide (L=K)))/\Below w.heap.size w w':=by
  have HU:=qh hu
  have HV:=qh hv
  obtain ⟨A,cap,rfl,-,-⟩:=hu.form
  obtain ⟨B,cap2,rfl,-,-⟩:=hv.form
  clear hu hv
  by_cases he:L.length=K.length
  · have h0:((L.length:Int) == (K.length:Int))=true:=by rw [beq_iff_eq]; omega
    have HE:=qh he
    go_enter Tryz.func21,Tryz.ntmps21
    go_wp2
    go_loopw [5,6] (fun s i wr=>∃ k:Nat,k<=L.length/\s=.bool (decide (L.take k=K.take k))/\i=.int .i64 k/\Below w.heap.size w wr/\(L.take k ≠ K.take k->L ≠ K)) (fun _ i _=>L.length - (intOf i).toNat)
    case atStart=>exact ⟨0,Nat.zero_le _,by simp,rfl,Below.refl _ _,by simp⟩
    case round=>
      obtain ⟨k,hk,rfl,rfl,hbel,hno⟩:=hrel
      have HN:=qh hno
      have HB:=qh hbel
      clear hno hbel
      rcases htk:decide (L.take k=K.take k) with _ | _
      · have HT:=qh htk
        clear htk
        go_wp2
        go_ret
        refine ⟨?_,HB.out⟩
        have h:=HN.out (of_decide_eq_false HT.out)
        rw [decide_eq_false h]
        rfl
      · have HT:=qh htk
        clear htk
        by_cases hlt:k < L.length
        · have h1:(k:Int) < (L.length:Int):=by omega
          have h2:(k:Int) < (K.length:Int):=by omega
          have h3:(0:Int)<=(k:Int):=by omega
          obtain ⟨b,o,rfl,n0,n1⟩:=ItIn.at (RowsIn.below HU.out HB.out) k hlt
          obtain ⟨b2,o2,rfl,m0,m1⟩:=ItIn.at (RowsIn.below HV.out HB.out) k (by omega)
          have HSN:=qh (take_snoc_it hlt (show k < K.length by omega))
          have HNE:Hid (∀ h:k < K.length,L[k] ≠ K[k]->L ≠ K):=qh (fun _ h e=>by subst e; exact h rfl)
          obtain ⟨⟨x,p⟩,hx⟩:∃ m,L[k]=m:=⟨_,rfl⟩
          obtain ⟨⟨y,q⟩,hy⟩:∃ m,K[k]'(by omega)=m:=⟨_,rfl⟩
          rw [hx] at n0 n1
          rw [hy] at m0 m1
          rw [hx,hy] at HSN
          rw [hx] at HNE
          have HNE2:Hid (((x,p):T × T) ≠ (y,q)->L ≠ K):=qh (by have:=HNE.out (by omega); rwa [hy] at this)
          dsimp only at n0 n1 m0 m1
          clear hx hy HNE
          by_cases exy:x=y
          · have e1:(x == y)=true:=by rw [beq_iff_eq]; exact exy
            have EXY:=qh exy
            clear exy
            by_cases epq:p=q
            · have e2:(p == q)=true:=by rw [beq_iff_eq]; exact epq
              have HR:Hid (decide (L.take (k+1)=K.take (k+1))=true):=qh (decide_eq_true (HSN.out.2 ⟨of_decide_eq_true HT.out,by rw [EXY.out,epq]⟩))
              clear epq
              go_wp2
              go_quiet (fail)
              go_wp2
              go_roundw
              case rel=>exact ⟨k+1,by omega,by rw [HR.out],by go_num,bel_drewN HB.out _,fun h=>absurd (of_decide_eq_true HR.out) h⟩
              case measure=>simp [intOf]; omega
            · have e2:(p == q)=false:=by rw [beq_eq_false_iff_ne]; exact epq
              have HD:Hid (L ≠ K):=qh (HNE2.out (fun e=>epq (congrArg Prod.snd e)))
              have HR:Hid (decide (L.take (k+1)=K.take (k+1))=false):=qh (decide_eq_false (fun h=>epq (congrArg Prod.snd (HSN.out.1 h).2)))
              clear epq
              go_wp2
              go_quiet (fail)
              go_wp2
              go_roundw
              case rel=>exact ⟨k+1,by omega,by rw [HR.out],by go_num,bel_drewN HB.out _,fun _=>HD.out⟩
              case measure=>simp [intOf]; omega
          · have e1:(x == y)=false:=by rw [beq_eq_false_iff_ne]; exact exy
            have HD:Hid (L ≠ K):=qh (HNE2.out (fun e=>exy (congrArg Prod.fst e)))
            have HR:Hid (decide (L.take (k+1)=K.take (k+1))=false):=qh (decide_eq_false (fun h=>exy (congrArg Prod.fst (HSN.out.1 h).2)))
            clear exy
            go_wp2
            go_quiet (fail)
            go_wp2
            go_roundw
            case rel=>exact ⟨k+1,by omega,by rw [HR.out],by go_num,bel_drewN HB.out _,fun _=>HD.out⟩
            case measure=>simp [intOf]; omega
        · have h1:¬ ((k:Int) < (L.length:Int)):=by omega
          have HR:Hid (decide (L=K)=true):=qh (decide_eq_true (by
            have:=of_decide_eq_true HT.out
            rwa [List.take_of_length_le (by omega),List.take_of_length_le (by omega)] at this))
          go_wp2
          go_ret
          exact ⟨by rw [HR.out]; rfl,HB.out⟩
  · have h0:((L.length:Int) == (K.length:Int))=false:=by rw [beq_eq_false_iff_ne]; omega
    have HD:Hid (decide (L=K)=false):=qh (decide_eq_false (fun e=>he (by rw [e])))
    clear he
    go_enter Tryz.func21,Tryz.ntmps21
    go_wp2
    go_loopw [5,6] (fun s i wr=>s=.bool false/\i=.int .i64 0/\Below w.heap.size w wr) (fun _ _ _=>0)
    case atStart=>exact ⟨rfl,rfl,Below.refl _ _⟩
    case round=>
      obtain ⟨rfl,rfl,hb⟩:=hrel
      go_wp2
      go_ret
      exact ⟨by rw [HD.out]; rfl,hb⟩
theorem sameI_any (L K:St) (u v:Value) (w:World) (hu:ItAt w u L) (hv:ItAt w v K) (hl:L.length<=1000000) (hk:K.length<=1000000):
    Calls Tryz.prog 21 #[u,v] w fun x w'=>x=.returned (.bool (decide (L=K)))/\Below w.heap.size w w':=sameI_in L K u v w hu.inn hv.inn hl hk
end
section
open Go.RowKit
theorem Code.take_snoc_eq {L M:List (List UInt8)} {k:Nat} (h1:k < L.length) (h2:k < M.length):L.take (k+1)=M.take (k+1) ↔ L.take k=M.take k/\L[k]=M[k]:=by
  rw [List.take_succ_eq_append_getElem h1,List.take_succ_eq_append_getElem h2]
  constructor
  · intro h
    have:=List.append_inj' h rfl
    exact ⟨this.1,by simpa using this.2⟩
  · rintro ⟨a,b⟩
    rw [a,b]
theorem same_any (L M:List (List UInt8)) (u v:Value) (w:World) (hu:Strs w u L) (hv:Strs w v M) (hl:L.length<=100000000) (hm:M.length<=maxLen):
    Calls Tryz.prog 42 #[u,v] w fun x w'=>x=.returned (.bool (decide (L=M)))/\Below w.heap.size w w':=by
  obtain ⟨A,cap,rfl,hc⟩:=hu
  obtain ⟨B,cap2,rfl,hd⟩:=hv
  unfold maxLen at hm
  by_cases he:L.length=M.length
  · have h0:((L.length:Int) == (M.length:Int))=true:=by rw [beq_iff_eq]; omega
    have he':=qh he
    go_enter Tryz.func42,Tryz.ntmps42
    go_wp2
    go_loopw [5,6] (fun s i wr=>∃ k:Nat,k<=L.length/\s=.bool (decide (L.take k=M.take k))/\i=.int .i64 k/\Below w.heap.size w wr/\(L.take k ≠ M.take k->L ≠ M)) (fun _ i _=>L.length - (intOf i).toNat)
    case atStart=>exact ⟨0,Nat.zero_le _,by simp,rfl,Below.refl _ _,by simp⟩
    case round=>
      obtain ⟨k,hk,rfl,rfl,hbel,hno⟩:=hrel
      have HN:=qh hno
      clear hno
      rcases htk:decide (L.take k=M.take k) with _ | _
      · have HT:=qh htk
        clear htk
        go_wp2
        go_ret
        refine ⟨?_,hbel⟩
        have h:=HN.out (of_decide_eq_false HT.out)
        rw [decide_eq_false h]
        rfl
      · have HT:=qh htk
        clear htk
        by_cases hlt:k < L.length
        · have h1:(k:Int) < (L.length:Int):=by omega
          have h2:(k:Int) < (M.length:Int):=by omega
          obtain ⟨a,rfl,hcell⟩:=hc k hlt
          obtain ⟨b,rfl,hdell⟩:=hd k (by omega)
          have hcell1:=(hbel.cell (World.block_lt_of_cell? _ _ hcell)).trans hcell
          have hdell1:=(hbel.cell (World.block_lt_of_cell? _ _ hdell)).trans hdell
          have hsn:=qh (Code.take_snoc_eq hlt (show k < M.length by omega))
          clear hc hd hcell hdell
          obtain ⟨s,hs⟩:∃ s,L[k]=s:=⟨_,rfl⟩
          obtain ⟨t,ht⟩:∃ t,M[k]=t:=⟨_,rfl⟩
          rw [hs] at hcell1 hsn
          rw [ht] at hdell1 hsn
          clear hs ht
          go_wp2
          go_quiet (fail)
          go_wp2
          go_roundw
          case rel=>
            refine ⟨k+1,by omega,?_,by go_num,bel_drewN hbel _,?_⟩
            · have e:=hsn.out
              have e1:=of_decide_eq_true HT.out
              by_cases hst:s=t
              · rw [decide_eq_true (e.2 ⟨e1,hst⟩)]; simp [hst]
              · rw [decide_eq_false (fun h=>hst (e.1 h).2)]; simp [hst]
            · intro h hLM
              subst hLM
              exact h rfl
          case measure=>simp [intOf]; omega
        · go_wp2
          go_ret
          refine ⟨?_,hbel⟩
          have e:=of_decide_eq_true HT.out
          have he2:=he'.out
          rw [List.take_of_length_le (by omega),List.take_of_length_le (by omega)] at e
          rw [decide_eq_true e]
          rfl
  · have h0:((L.length:Int) == (M.length:Int))=false:=by rw [beq_eq_false_iff_ne]; omega
    have hne:decide (L=M)=false:=decide_eq_false (fun h=>he (by rw [h]))
    rw [hne]
    clear he hc hd hne
    go_enter Tryz.func42,Tryz.ntmps42
    go_wp2
    go_loop [5,6] (fun s i=>s=.bool false/\i=.int .i64 0) (fun _ _=>0)
    case atStart=>exact ⟨rfl,rfl⟩
    case round=>
      obtain ⟨rfl,rfl⟩:=hrel
      go_wp2
      go_ret
      exact ⟨rfl,Below.refl _ _⟩
end
section
open Go.RowKit
open Sto (T St)
open Tri (Tr)
def treeS (S:St):Tr:=S.foldr (fun x t=>t.put (Nib.ofL x.1) x.2) .nil
theorem treeS_tree (S:St) (hS:Sto.Rising S) (hv:∀ p ∈ S,p.2 ≠ []):Tri.TreeOf S (treeS S):=by
  induction S with
  | nil=>exact ⟨trivial,trivial,rfl⟩
  | cons a r ih=>
    obtain ⟨h1,h2⟩:=List.pairwise_cons.1 hS
    have h3:=(ih h2 fun p h=>hv p (List.mem_cons_of_mem _ h)).put (k:=a.1) (hv a (List.mem_cons_self ..))
    have e:Tri.put r a.1 a.2=a :: r:=by
      cases r with
      | nil=>rfl
      | cons b r=>
        have hab:=h1 b (List.mem_cons_self ..)
        rw [Tri.put,if_neg (fun h=>List.lt_irrefl _ (List.lt_trans h hab)),if_neg (fun e=>Sto.lt_ne hab e.symm)]
    rw [e] at h3
    exact h3
theorem treeS_of {S:St} {t:Tr} (h:TrS S t):treeS S=t:=
  (treeS_tree S h.rise fun p hp e=>by have:=(h.fair p hp).2.2.1; rw [e] at this; simp at this).one h.tree
def rootS (S:St):T:=(treeS S).sum Nd.sumS
def nodesS (S:St):List T:=wantedT (fun _=>true) (treeS S)
theorem sroot_any {g:Nat} {S:St} (w:World) (h:TrAt w g S):
    Calls Tryz.prog 23 #[ptr g] w fun e w'=>e=.returned (.string ⟨(rootS S).toArray⟩)/\Below w.heap.size w w':=by
  obtain ⟨top,t,h1,h2,h3⟩:=h
  unfold rootS
  rw [treeS_of h3]
  exact troot_any w h1 h2 h3.ok
theorem sitems_any {g:Nat} {S:St} (w:World) (h:TrAt w g S):
    Calls Tryz.prog 49 #[ptr g] w (ItemsPost w S):=by
  obtain ⟨top,t,h1,h2,h3⟩:=h
  exact items_any w h1 (h3.sealed h2) h3.tree
end
section
open Go.RowKit
open Sto (T St)
open Tri (Tr Ok hb)
open Go.Proofs.YtaficmboooaknaaGreatDoor.Nd (N)
theorem sumS_of {n:N} (h:Nd.fine n=true):Nd.sumS n=Sto.sumOf (Nd.written n):=by
  unfold Nd.sumS Sto.sumOf
  rw [if_pos h]
theorem nodesS_nodes {S:St} {t:Tr} (h:TrS S t):nodesS S=(t.nodes Nd.sumS).map Nd.written:=by
  unfold nodesS
  rw [treeS_of h,wanted_all,← Tri.spots_nodes Nd.sumS t [],List.map_map]
  rfl
theorem nodes_fine {t:Tr} (h:Ok t):∀ n ∈ t.nodes Nd.sumS,Nd.fine n=true/\n.kids.length=16:=by
  induction t with
  | nil=>intro n hn; cases hn
  | leaf p v=>intro n hn; rw [List.mem_singleton.1 hn]; exact ⟨h.fine id,Tri.node_kids ..⟩
  | ext p t ih=>
    intro n hn
    rcases List.mem_cons.1 hn with e | e
    · rw [e]; exact ⟨h.fine id,Tri.node_kids ..⟩
    · exact ih ⟨h.canon.2.2,h.fits.2,h.small.2⟩ n e
  | br v k ih=>
    intro n hn
    rcases List.mem_cons.1 hn with e | e
    · rw [e]; exact ⟨h.fine id,Tri.node_kids ..⟩
    · obtain ⟨i,_,hi⟩:=List.mem_flatMap.1 e
      exact ih i ⟨h.canon.1 i,h.fits i,h.small.2 i⟩ n hi
theorem nodesS_short {S:St} {t:Tr} (h:TrS S t):∀ x ∈ nodesS S,x.length<=999:=by
  intro x hx
  rw [nodesS_nodes h] at hx
  obtain ⟨n,hn,rfl⟩:=List.mem_map.1 hx
  obtain ⟨h1,h2⟩:=nodes_fine h.ok n hn
  have:=Nd.written_most n h2 h1
  omega
end
section
open Go.RowKit
open Sto (T St)
open Tri (Tr Ok hb)
open Go.Proofs.YtaficmboooaknaaGreatDoor.Nd (N)
end
section
open Go.RowKit
open Sto (T St)
open Tri (Tr Ok hb)
open Go.Proofs.YtaficmboooaknaaGreatDoor.Nd (N)
end
section
open Go.RowKit
open Sto (T St)
open Tri (Tr Ok hb)
open Go.Proofs.YtaficmboooaknaaGreatDoor.Nd (N)
end
namespace Tri
open Sto (T St Rising keys)
open Go.Proofs.YtaficmboooaknaaGreatDoor.Nd (N)
theorem withL_take (b:UInt8) (R:St) (k:Nat) (hk:k < R.length):withL b (R.take (k+1))=withL b (R.take k) ++ (if R[k].1.head?=some b then [R[k]] else []):=by
  rw [List.take_succ_eq_append_getElem hk,withL,withL,List.filter_append]
  by_cases h:R[k].1.head?=some b
  · simp [h]
  · simp [h]
theorem withL_le (b:UInt8) (R:St):(withL b R).length<=R.length:=List.length_filter_le _ _
def spotsK (dg:N->T) (p:T) (k:Fin 16->Tr) (j:Nat):List (T × N):=((List.finRange 16).take j).flatMap fun i=>(k i).spots dg (p ++ [hb i])
theorem spotsK_step (dg:N->T) (p:T) (k:Fin 16->Tr) (j:Nat) (hj:j < 16):spotsK dg p k (j+1)=spotsK dg p k j ++ (k ⟨j,hj⟩).spots dg (p ++ [hb ⟨j,hj⟩]):=by
  unfold spotsK
  have h:j < (List.finRange 16).length:=by rw [List.length_finRange]; exact hj
  rw [List.take_succ_eq_append_getElem h,List.flatMap_append]
  simp
theorem spotsK_all (dg:N->T) (p:T) (v:T) (k:Fin 16->Tr):(p,Tr.node dg (.br v k)) :: spotsK dg p k 16=Tr.spots dg p (.br v k):=by
  unfold spotsK
  rw [List.take_of_length_le (by rw [List.length_finRange]; exact Nat.le_refl _)]
  rfl
theorem spotsK_le (dg:N->T) (p:T) (v:T) (k:Fin 16->Tr) (j:Nat):(spotsK dg p k j).length<=(Tr.spots dg p (.br v k)).length:=by
  have e:Tr.spots dg p (.br v k)=(p,Tr.node dg (.br v k)) :: (spotsK dg p k j ++ ((List.finRange 16).drop j).flatMap fun i=>(k i).spots dg (p ++ [hb i])):=by
    unfold spotsK
    rw [← List.flatMap_append,List.take_append_drop]
    rfl
  rw [e]
  simp only [List.length_cons,List.length_append]
  omega
def kidsK (dg:N->T) (k:Fin 16->Tr) (j:Nat):List T:=List.ofFn fun i:Fin 16=>if i.val < j then (k i).sum dg else []
theorem kidsK_len (dg:N->T) (k:Fin 16->Tr) (j:Nat):(kidsK dg k j).length=16:=by simp [kidsK]
theorem kidsK_at (dg:N->T) (k:Fin 16->Tr) (j i:Nat) (hi:i < 16):(kidsK dg k j)[i]'(by rw [kidsK_len]; exact hi)=if i < j then (k ⟨i,hi⟩).sum dg else []:=by
  unfold kidsK
  rw [List.getElem_ofFn]
theorem kidsK_zero (dg:N->T) (k:Fin 16->Tr):kidsK dg k 0=List.replicate 16 []:=by
  refine List.ext_getElem (by rw [kidsK_len]; simp) fun i h1 h2=>?_
  rw [kidsK_at dg k 0 i (by rw [kidsK_len] at h1; exact h1),if_neg (by omega),List.getElem_replicate]
theorem kidsK_set (dg:N->T) (k:Fin 16->Tr) (j:Nat) (hj:j < 16):(kidsK dg k j).set j ((k ⟨j,hj⟩).sum dg)=kidsK dg k (j+1):=by
  refine List.ext_getElem (by rw [List.length_set,kidsK_len,kidsK_len]) fun i h1 h2=>?_
  have hi:i < 16:=by rw [kidsK_len] at h2; exact h2
  rw [List.getElem_set,kidsK_at dg k (j+1) i hi]
  by_cases e:j=i
  · subst e; rw [if_pos rfl,if_pos (by omega)]
  · rw [if_neg e,kidsK_at dg k j i hi]
    by_cases h:i < j
    · rw [if_pos h,if_pos (by omega)]
    · rw [if_neg h,if_neg (by omega)]
theorem kidsK_skip (dg:N->T) (k:Fin 16->Tr) (j:Nat) (hj:j < 16) (h:(k ⟨j,hj⟩).sum dg=[]):kidsK dg k (j+1)=kidsK dg k j:=by
  rw [← kidsK_set dg k j hj,h]
  refine List.ext_getElem (by rw [List.length_set]) fun i h1 h2=>?_
  have hi:i < 16:=by rw [kidsK_len] at h2; exact h2
  rw [List.getElem_set]
  by_cases e:j=i
  · subst e; rw [if_pos rfl,kidsK_at dg k j j hi,if_neg (by omega)]
  · rw [if_neg e]
theorem kidsK_all (dg:N->T) (k:Fin 16->Tr):kidsK dg k 16=List.ofFn fun i=>(k i).sum dg:=by
  unfold kidsK
  congr 1
  funext i
  rw [if_pos i.isLt]
theorem br_node (dg:N->T) (v:T) (k:Fin 16->Tr):Tr.node dg (.br v k)=⟨3,[],v,kidsK dg k 16⟩:=by rw [kidsK_all]; rfl
theorem nil_spots (dg:N->T) (p:T) {t:Tr} (h:t.isNil):t.spots dg p=[]/\t.sum dg=[]:=by
  cases t with
  | nil=>exact ⟨rfl,rfl⟩
  | _=>cases h
theorem br_some {v:T} {k:Fin 16->Tr} (h:(Tr.br v k).canon):∃ x ∈ (Tr.br v k).items,1<=x.1.length:=by
  rcases br_apart h with ⟨_,x,hx,e⟩ | ⟨x,hx,y,hy,i,j,q,r,_,e,_⟩
  · exact ⟨x,hx,List.length_pos_iff.2 e⟩
  · exact ⟨x,hx,by rw [e]; simp⟩
theorem kid_item {v:T} {k:Fin 16->Tr} (i:Fin 16) {x:T × T} (h:x ∈ (k i).items):(hb i :: x.1,x.2) ∈ (Tr.br v k).items:=mem_br.2 (Or.inr ⟨i,x.1,rfl,h⟩)
theorem kid_few {v:T} {k:Fin 16->Tr} (i:Fin 16):(k i).items.length<=(Tr.br v k).items.length:=by
  rw [← with_kids i k]
  unfold cutL
  rw [List.length_map]
  refine Nat.le_trans (withL_le _ _) ?_
  rw [br_items,List.length_append]
  omega
theorem spots_few (dg:N->T) {t:Tr} (h:t.canon) (p:T):(t.spots dg p).length<=3 * t.items.length:=by
  by_cases hn:t.isNil
  · rw [(nil_spots dg p hn).1]; simp
  · have:=(spots_len dg h hn p).1
    omega
end Tri
section
open Go.RowKit
open Sto (T St)
open Tri (Tr Ok hb)
theorem paths_inj {S U:St} (h:Tri.paths S=Tri.paths U):S=U:=by
  unfold Tri.paths at h
  refine (List.map_inj_right fun x y e=>?_).1 h
  have e1:=congrArg Prod.fst e
  have e2:=congrArg Prod.snd e
  exact Prod.ext ((Tri.ofL_eq _ _).1 e1) e2
theorem TrS.one {S U:St} {t:Tr} (h:TrS S t) (k:TrS U t):S=U:=paths_inj (h.tree.2.2.symm.trans k.tree.2.2)
end
section
open Sto (T St)
open Tri (Tr Ok hb)
open Go.Proofs.YtaficmboooaknaaGreatDoor.Nd (N)
theorem sum_text {t:Tr} (h:Ok t) (hn:¬ t.isNil):t.sum Nd.sumS=Sto.sumOf (Nd.written (t.node Nd.sumS)):=by
  rw [Tri.sum_node _ hn]
  exact sumS_of (h.fine hn)
end
end Go.Proofs.YtaficmboooaknaaGreatDoor
