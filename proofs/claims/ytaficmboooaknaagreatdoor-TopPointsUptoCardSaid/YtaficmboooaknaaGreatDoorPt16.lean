import Derived.Test.YtaficmboooaknaaGreatDoorPt15
set_option maxRecDepth 100000
set_option maxHeartbeats 16000000
namespace Go.Proofs.YtaficmboooaknaaGreatDoor
section
open Go.RowKit
open Sto (T St)
open Tri (Tr Ok upd ix hb lay splitT Trim rank)
open Nd (N)
def TWithPost (S:St) (k v:T) (F:Fm) (w:World) (e:Ending) (w':World):Prop:=
  ∃ z,e=.returned (.tuple #[z,.int .i64 (Tri.putC S k v)])/\(Tri.putC S k v=0->∃ g',z=ptr g'/\w.heap.size<=g'/\OpenAt w' F g' (Tri.put S k v))/\(Tri.putC S k v≠0->z=nilp)/\Below w.heap.size w w'
theorem TWithPost.bad {S:St} {k v:T} {F:Fm} {w w':World} {c:Nat} (h:Tri.putC S k v=c) (hc:c≠0) (hb:Below w.heap.size w w'):TWithPost S k v F w (.returned (.tuple #[.pointer none,.int .i64 c])) w':=by
  subst h
  exact ⟨_,rfl,fun e=>absurd e hc,fun _=>rfl,hb⟩
theorem TWithPost.good {S:St} {k v:T} {F:Fm} {w w':World} {g' n:Nat} {top:Value} {t:Tr} (h:Tri.putC S k v=0) (hg:w.heap.size<=g') (hr:TRow w' g' top n) (hn:n=(Tri.put S k v).length) (hp:PAt w' F false t top) (hs:TrS (Tri.put S k v) t) (hb:Below w.heap.size w w'):TWithPost S k v F w (.returned (.tuple #[.pointer (some ⟨g',0,none⟩),.int .i64 0])) w':=by
  subst hn
  exact ⟨_,by rw [h]; rfl,fun _=>⟨g',rfl,hg,top,t,hr,hp,hs⟩,fun e=>absurd h e,hb⟩
theorem twith_good {g:Nat} {S:St} (k v:T) (w:World) (F:Fm) (hF:F.fresh w) (h:OpenAt w F g S) (hc:Tri.putC S k v=0):
    Calls Tryz.prog 60 #[ptr g,.string ⟨k.toArray⟩,.string ⟨v.toArray⟩] w (TWithPost S k v F w):=by
  obtain ⟨top,t,h1,h2,h3⟩:=h
  have hc0:=hc
  unfold Tri.putC at hc
  split at hc
  · rename_i hkk
    split at hc
    · rename_i hv
      obtain ⟨v1,v2,v3⟩:=hv
      have hkk2:1<=k.length/\k.length<=8:=by simpa [Tri.keyed] using hkk
      have HK:=qh (fun w=>iskey_any k w)
      rw [hkk] at HK
      have HOF:=qh (fun w=>of_any k w (by omega))
      have HFI:Hid (∀ w',Below w.heap.size w w'->Calls Tryz.prog 98 #[top,.string ⟨(Nib.ofL k).toArray⟩] w' fun e w''=>e=.returned (.string ⟨((Sto.look S k).getD []).toArray⟩)/\Below w'.heap.size w' w''):=qh (fun w' hb=>by
        have:=find_any (Nib.ofL k) w' (h2.below hb) h3.trim.firm (Tri.ofL_fit k) (by rw [Nib.ofL_length]; omega)
        rw [h3.find] at this
        exact this)
      have HCL:=qh (fun w=>dclone_any v w (by omega))
      have HWI:Hid (∀ w',Below w.heap.size w w'->Calls Tryz.prog 99 #[top,.string ⟨(Nib.ofL k).toArray⟩,.string ⟨v.toArray⟩] w' fun e w''=>∃ g9,e=.returned (.pointer (some ⟨g9,0,none⟩))/\PAt w'' F false (t.put (Nib.ofL k) v) (.pointer (some ⟨g9,0,none⟩))/\Below w'.heap.size w' w''):=qh (fun w' hb=>
        (with_any (Nib.ofL k) v w' F (hF.size hb.size) (h2.below hb) h3.trim (Tri.ofL_fit k) (by rw [Nib.ofL_length]; omega)).mono fun e w'' ⟨v9,e1,hp,hb9⟩=>by
          obtain ⟨g9,rfl⟩:=hp.ptr (Tri.put_nn _ _ _)
          exact ⟨g9,e1,hp,hb9⟩)
      have HTS:=qh (h3.put hc0)
      have HCC:=qh hc0
      have HPN:=qh (Tri.put_len S k v)
      have HAL:=qh (Tri.at_look h3.rise k)
      have HT:Hid (∀ w',Below w.heap.size w w'->w'.cell? ⟨g,0,none⟩=some top/\w'.cell? ⟨g,1,none⟩=some (.int .i64 S.length)):=qh (fun w' hb=>⟨(h1.below hb).top,(h1.below hb).num⟩)
      obtain ⟨P,hP⟩:∃ P,Nib.ofL k=P:=⟨_,rfl⟩
      rw [hP] at HOF HFI HWI HTS
      have hve:(v == [])=false:=by rw [beq_eq_false_iff_ne]; intro e; subst e; simp at v1
      have hvl:¬ ((v.length:Int) > 32):=by omega
      have hvl2:decide ((32:Int)<(v.length:Int))=false:=decide_eq_false (by omega)
      have hvl3:decide (32<v.length)=false:=decide_eq_false (by omega)
      unfold ptr
      have BD:Below w.heap.size w w.drew:=(Below.refl _ _).drew
      obtain ⟨c0,c1⟩:=HT.out _ BD
      have hfew:=h3.few
      have hlen:∀ (n:Nat),n=(Tri.put S k v).length->n<=1024:=fun n hn=>by rw [hn]; exact HTS.out.few
      cases hl:Sto.look S k with
      | some y=>
        have hye:(y == [])=false:=by rw [beq_eq_false_iff_ne]; exact h3.look_ne hl
        have hpl:S.length=(Tri.put S k v).length:=by
          rw [HPN.out,if_pos (by rw [HAL.out,hl]; rfl)]; omega
        have HPL:=qh hpl
        have hgt:¬ ((S.length:Int) > 1024):=by omega
        have hgt2:¬ ((1024:Int)<(S.length:Int)):=by omega
        rw [hl,Option.getD_some] at HFI
        clear h1 h2 h3 hkk hP hkk2 v1 v2 v3 hc hc0 HPN HAL hl hfew hlen hpl
        go_enter Tryz.func60,Tryz.ntmps60
        go_wp2_with fail
        refine (HK.out _).mono ?_
        rintro e w1 ⟨rfl,rfl⟩
        go_upto_region 5 with fail
        go_region_held3 (fun w'=>w'.cell? ⟨g,1,none⟩=some (.int .i64 S.length))
          ((first | (with_reducible assumption) | (refine (HT.out _ ?_).2; with_reducible assumption)))
          ((go_at_call 59; refine (HOF.out _).mono ?_; rintro e w6 ⟨rfl,hb6⟩; have hb6':=bchain BD hb6))
        all_goals
          obtain ⟨d0,d1⟩:=HT.out _ hb6'
          go_wp2_with fail
          refine (HFI.out _ hb6').mono ?_
          rintro e w7 ⟨rfl,hb7⟩
          have hb7':=bchain hb6' hb7
          have BD7:Below w.heap.size w w7.drew:=hb7'.drew
          go_upto_region 10 with fail
          obtain ⟨e0,e1⟩:=HT.out _ BD7
          clear c0 c1 d0 d1
          go_region_held3 (fun w'=>w'.cell? ⟨g,0,none⟩=some top)
            ((first | (with_reducible assumption) | (refine (HT.out _ ?_).1; with_reducible assumption) | (refine (HT.out _ ?_).1; refine Below.alloc ?_ ?_ _; (with_reducible assumption); (with_reducible exact hs9))))
            (first | (go_at_call 46; refine (HCL.out _).mono ?_; rintro e w8 ⟨rfl,hb8⟩; have hb8':=bchain BD7 hb8) | (go_at_call 99; refine (HWI.out _ ?_).mono ?_; (with_reducible exact hb8'); rintro e w9 ⟨g9,rfl,hp9,hb9⟩; have hb9':=bchain hb8' hb9; have hs9:=hb9'.size))
          all_goals
            go_wp2
            go_ret2
            have hba:=hb9'.alloc hs9 (.cells #[.pointer (some ⟨g9,0,none⟩),.int .i64 S.length] 84)
            exact TWithPost.good HCC.out hs9 (heap_alloc_new w9 _) HPL.out (hp9.below ((Below.refl _ w9).alloc (Nat.le_refl _) _)) HTS.out hba
      | none=>
        have hpl:S.length+1=(Tri.put S k v).length:=by
          rw [HPN.out,if_neg (by rw [HAL.out,hl]; simp)]
        have z8:IntKind.i64.wrap ((S.length:Int)+1)=(S.length:Int)+1:=IntWalk.i64_in _ (by omega)
        have hl1:=hlen _ hpl
        have HPL:=qh hpl
        have hgt:¬ ((S.length:Int)+1 > 1024):=by omega
        have hgt2:¬ ((1024:Int)<(S.length:Int)+1):=by omega
        rw [hl,Option.getD_none] at HFI
        clear hl1 h1 h2 h3 hkk hP hkk2 v1 v2 v3 hc hc0 HPN HAL hl hfew hlen hpl
        go_enter Tryz.func60,Tryz.ntmps60
        go_wp2_with fail
        refine (HK.out _).mono ?_
        rintro e w1 ⟨rfl,rfl⟩
        go_upto_region 5 with fail
        go_region_held3 (fun w'=>w'.cell? ⟨g,1,none⟩=some (.int .i64 S.length))
          ((first | (with_reducible assumption) | (refine (HT.out _ ?_).2; with_reducible assumption)))
          ((go_at_call 59; refine (HOF.out _).mono ?_; rintro e w6 ⟨rfl,hb6⟩; have hb6':=bchain BD hb6))
        all_goals
          obtain ⟨d0,d1⟩:=HT.out _ hb6'
          go_wp2_with fail
          refine (HFI.out _ hb6').mono ?_
          rintro e w7 ⟨rfl,hb7⟩
          have hb7':=bchain hb6' hb7
          have BD7:Below w.heap.size w w7.drew:=hb7'.drew
          go_upto_region 10 with fail
          obtain ⟨e0,e1⟩:=HT.out _ BD7
          clear c0 c1 d0 d1
          go_region_held3 (fun w'=>w'.cell? ⟨g,0,none⟩=some top)
            ((first | (with_reducible assumption) | (refine (HT.out _ ?_).1; with_reducible assumption) | (refine (HT.out _ ?_).1; refine Below.alloc ?_ ?_ _; (with_reducible assumption); (with_reducible exact hs9))))
            (first | (go_at_call 46; refine (HCL.out _).mono ?_; rintro e w8 ⟨rfl,hb8⟩; have hb8':=bchain BD7 hb8) | (go_at_call 99; refine (HWI.out _ ?_).mono ?_; (with_reducible exact hb8'); rintro e w9 ⟨g9,rfl,hp9,hb9⟩; have hb9':=bchain hb8' hb9; have hs9:=hb9'.size))
          all_goals
            go_wp2
            go_ret2
            have hba:=hb9'.alloc hs9 (.cells #[.pointer (some ⟨g9,0,none⟩),.int .i64 ((S.length+1:Nat):Int)] 84)
            exact TWithPost.good HCC.out hs9 (heap_alloc_new w9 _) HPL.out (hp9.below ((Below.refl _ w9).alloc (Nat.le_refl _) _)) HTS.out hba
    · cases hc
  · cases hc
theorem twith_any {g:Nat} {S:St} (k v:T) (w:World) (F:Fm) (hF:F.fresh w) (h:OpenAt w F g S):
    Calls Tryz.prog 60 #[ptr g,.string ⟨k.toArray⟩,.string ⟨v.toArray⟩] w (TWithPost S k v F w):=by
  have HK:=qh (fun w=>iskey_any k w)
  cases hk:Tri.keyed k with
  | false=>
    rw [hk] at HK
    have HC:=qh (Tri.putC_no (S:=S) (y:=v) hk)
    unfold ptr
    clear h hk
    go_enter Tryz.func60,Tryz.ntmps60
    go_wp2_with fail
    refine (HK.out _).mono ?_
    rintro e w1 ⟨rfl,rfl⟩
    go_wp2
    go_ret2
    exact TWithPost.bad HC.out (by decide) (Below.refl _ _)
  | true=>
    rw [hk] at HK
    by_cases hok:1<=v.length/\v.length<=32/\(Tri.at_ S k=true∨S.length<1024)
    · exact twith_good k v w F hF h (Tri.putC_ok hk hok)
    · have HC:=qh (Tri.putC_bad (S:=S) (y:=v) hk hok)
      by_cases hv0:v=[]
      · subst hv0
        unfold ptr
        clear h hk hok
        go_enter Tryz.func60,Tryz.ntmps60
        go_wp2_with fail
        refine (HK.out _).mono ?_
        rintro e w1 ⟨rfl,rfl⟩
        go_wp2
        go_ret2
        exact TWithPost.bad HC.out (by decide) (Below.refl _ _)
      · have hve:(v == [])=false:=by rw [beq_eq_false_iff_ne]; exact hv0
        have hv1:1<=v.length:=List.length_pos_iff.2 hv0
        by_cases hv2:v.length<=32
        · obtain ⟨top,t,h1,h2,h3⟩:=h
          have hno:¬ (Tri.at_ S k=true∨S.length<1024):=fun e=>hok ⟨hv1,hv2,e⟩
          have hl:Sto.look S k=none:=by
            have:=Tri.at_look h3.rise k
            cases hl:Sto.look S k with
            | none=>rfl
            | some y=>exact absurd (Or.inl (by rw [this,hl]; rfl)) hno
          have hfew:S.length=1024:=by
            have:=h3.few
            have:¬ S.length<1024:=fun e=>hno (Or.inr e)
            omega
          have hx8:k.length<=8:=by simp [Tri.keyed] at hk; omega
          have HOF:=qh (fun w=>of_any k w (by omega))
          have HFI:Hid (∀ w',Below w.heap.size w w'->Calls Tryz.prog 98 #[top,.string ⟨(Nib.ofL k).toArray⟩] w' fun e w''=>e=.returned (.string ⟨#[]⟩)/\Below w'.heap.size w' w''):=qh (fun w' hb=>by
            have:=find_any (Nib.ofL k) w' (h2.below hb) h3.trim.firm (Tri.ofL_fit k) (by rw [Nib.ofL_length]; omega)
            rw [h3.find,hl] at this
            exact this)
          have HT:Hid (∀ w',Below w.heap.size w w'->w'.cell? ⟨g,0,none⟩=some top/\w'.cell? ⟨g,1,none⟩=some (.int .i64 1024)):=qh (fun w' hb=>⟨(h1.below hb).top,by have:=(h1.below hb).num; rw [hfew] at this; exact this⟩)
          obtain ⟨P,hP⟩:∃ P,Nib.ofL k=P:=⟨_,rfl⟩
          rw [hP] at HOF HFI
          have BD:Below w.heap.size w w.drew:=(Below.refl _ _).drew
          obtain ⟨c0,c1⟩:=HT.out _ BD
          have hvl2:decide ((32:Int)<(v.length:Int))=false:=decide_eq_false (by omega)
          have hvl3:decide (32<v.length)=false:=decide_eq_false (by omega)
          have hvl:¬ ((v.length:Int) > 32):=by omega
          unfold ptr
          clear h1 h2 h3 hk hP hl hno hok hfew hv0 hv1 hv2 hx8
          go_enter Tryz.func60,Tryz.ntmps60
          go_wp2_with fail
          refine (HK.out _).mono ?_
          rintro e w1 ⟨rfl,rfl⟩
          go_upto_region 5 with fail
          go_region_held3 (fun w'=>w'.cell? ⟨g,1,none⟩=some (.int .i64 1024))
            ((first | (with_reducible assumption) | (refine (HT.out _ ?_).2; with_reducible assumption)))
            ((go_at_call 59; refine (HOF.out _).mono ?_; rintro e w6 ⟨rfl,hb6⟩; have hb6':=bchain BD hb6))
          all_goals
            obtain ⟨d0,d1⟩:=HT.out _ hb6'
            go_wp2_with fail
            refine (HFI.out _ hb6').mono ?_
            rintro e w7 ⟨rfl,hb7⟩
            have hb7':=bchain hb6' hb7
            go_wp2
            go_ret2
            exact TWithPost.bad HC.out (by decide) hb7'
        · have hvl:(v.length:Int) > 32:=by omega
          have hvl2:decide ((32:Int)<(v.length:Int))=true:=decide_eq_true (by omega)
          have hvl3:decide (32<v.length)=true:=decide_eq_true (by omega)
          unfold ptr
          clear h hk hok hv0 hv1 hv2
          go_enter Tryz.func60,Tryz.ntmps60
          go_wp2_with fail
          refine (HK.out _).mono ?_
          rintro e w1 ⟨rfl,rfl⟩
          go_wp2
          go_ret2
          exact TWithPost.bad HC.out (by decide) (Below.refl _ _)
def TPutPost (S:St) (k v:T) (w:World) (e:Ending) (w':World):Prop:=
  ∃ z,e=.returned (.tuple #[z,.int .i64 (Tri.putC S k v)])/\(Tri.putC S k v=0->∃ g',z=ptr g'/\TrAt w' g' (Tri.put S k v))/\(Tri.putC S k v≠0->z=nilp)/\Below w.heap.size w w'
theorem TPutPost.bad {S:St} {k v:T} {w w':World} {c:Nat} (h:Tri.putC S k v=c) (hc:c≠0) (hb:Below w.heap.size w w'):TPutPost S k v w (.returned (.tuple #[.pointer none,.int .i64 c])) w':=by
  subst h
  exact ⟨_,rfl,fun e=>absurd e hc,fun _=>rfl,hb⟩
theorem TPutPost.good {S:St} {k v:T} {w w':World} {g':Nat} (h:Tri.putC S k v=0) (ht:TrAt w' g' (Tri.put S k v)) (hb:Below w.heap.size w w'):TPutPost S k v w (.returned (.tuple #[.pointer (some ⟨g',0,none⟩),.int .i64 0])) w':=
  ⟨_,by rw [h]; rfl,fun _=>⟨g',rfl,ht⟩,fun e=>absurd h e,hb⟩
theorem tput_any {g:Nat} {S:St} (k v:T) (w:World) (h:TrAt w g S) (hT:Tab w):
    Calls Tryz.prog 34 #[ptr g,.string ⟨k.toArray⟩,.string ⟨v.toArray⟩] w (TPutPost S k v w):=by
  have HW:=qh (twith_any k v w (Fm.from w.heap.size) (fun g hg _=>hg) (h.open w.heap.size))
  have HT:=qh hT
  unfold TWithPost ptr at HW
  unfold ptr
  obtain ⟨c,hc⟩:∃ c,Tri.putC S k v=c:=⟨_,rfl⟩
  rw [hc] at HW
  have HCC:=qh hc
  clear h hT hc
  go_enter Tryz.func34,Tryz.ntmps34
  go_wp2_with fail
  refine HW.out.mono ?_
  rintro e w1 ⟨z,rfl,hz1,hz0,hb1⟩
  have HB1:=qh hb1
  by_cases hc0:c=0
  · obtain ⟨g',rfl,hg',top,t,hr,hp,hs⟩:=hz1 hc0
    subst hc0
    have HSE:=qh (seal_to t top w1 w.heap.size HT.out.pos hb1.size (HT.out.below hb1) hs.ok hp)
    have HR:=qh hr
    have HS:=qh hs
    have m0:=hr.top
    clear hz1 hz0 hb1 hr hp hs hg'
    go_wp2_with fail
    refine HSE.out.mono ?_
    rintro e w2 ⟨rfl,hp2,hk2,hb2⟩
    have HP2:=qh hp2
    have HR2:Hid (TRow w2 g' top (Tri.put S k v).length):=qh (hk2.2.2 _ _ _ _ (by decide) HR.out)
    have HB2:=qh (HB1.out.trans hb2)
    clear hp2 hk2 hb2
    go_wp2
    go_ret2
    exact TPutPost.good HCC.out ⟨top,t,HR2.out,HP2.out.sealed (fun _ _ e=>by cases e) true,HS.out⟩ HB2.out
  · have e0:((c:Int) == 0)=false:=by rw [beq_eq_false_iff_ne]; omega
    have e1:z=.pointer none:=hz0 hc0
    subst e1
    have HC:=qh hc0
    clear hz1 hz0 hb1 hc0
    go_wp2
    go_ret2
    exact TPutPost.bad HCC.out HC.out HB1.out
def TDelPost (S:St) (k:T) (w:World) (e:Ending) (w':World):Prop:=
  ∃ z,e=.returned (.tuple #[z,.int .i64 (Tri.getC S k).2])/\((Tri.getC S k).2=0->∃ g',z=ptr g'/\TrAt w' g' (Tri.del S k))/\((Tri.getC S k).2≠0->z=nilp)/\Below w.heap.size w w'
theorem TDelPost.bad {S:St} {k:T} {w w':World} (hc:(Tri.getC S k).2≠0) (hb:Below w.heap.size w w'):TDelPost S k w (.returned (.tuple #[.pointer none,.int .i64 (Tri.getC S k).2])) w':=⟨_,rfl,fun e=>absurd e hc,fun _=>rfl,hb⟩
theorem TDelPost.good {S:St} {k:T} {w w':World} {g':Nat} (h:(Tri.getC S k).2=0) (ht:TrAt w' g' (Tri.del S k)) (hb:Below w.heap.size w w'):TDelPost S k w (.returned (.tuple #[.pointer (some ⟨g',0,none⟩),.int .i64 0])) w':=
  ⟨_,by rw [h]; rfl,fun _=>⟨g',rfl,ht⟩,fun e=>absurd h e,hb⟩
theorem getC_zero {S:St} {k:T} (h:(Tri.getC S k).2=0):Tri.keyed k=true/\Sto.look S k≠none:=by
  unfold Tri.getC at h
  split at h
  · rename_i hk
    split at h
    · rename_i y hy; exact ⟨hk,by rw [hy]; simp⟩
    · cases h
  · cases h
theorem tdel_bad {g:Nat} {S:St} (k:T) (w:World) (h:TrAt w g S) (hc:(Tri.getC S k).2≠0):
    Calls Tryz.prog 162 #[ptr g,.string ⟨k.toArray⟩] w (TDelPost S k w):=by
  have HG:=qh (tget_any k w h)
  have HC:=qh hc
  obtain ⟨x,c,hx⟩:∃ x c,Tri.getC S k=(x,c):=⟨_,_,rfl⟩
  have HX:=qh hx
  rw [hx] at hc HG
  have e0:((c:Int) == 0)=false:=by rw [beq_eq_false_iff_ne]; simp only at hc; omega
  unfold ptr at HG ⊢
  clear h hc hx
  go_enter Tryz.func162,Tryz.ntmps162
  go_wp2_with fail
  refine HG.out.mono ?_
  rintro e w1 ⟨rfl,hb1⟩
  go_wp2
  go_ret2
  have:=TDelPost.bad HC.out hb1
  rw [HX.out] at this
  exact this
theorem tdel_some {g:Nat} {S:St} (k:T) (w:World) (h:TrAt w g S) (hT:Tab w) (hc:(Tri.getC S k).2=0) (hnl:∀ t,TrS S t->¬ (t.del (Nib.ofL k)).isNil):
    Calls Tryz.prog 162 #[ptr g,.string ⟨k.toArray⟩] w (TDelPost S k w):=by
  have HG:=qh (tget_any k w h)
  obtain ⟨top,t,h1,h2,h3⟩:=h
  have hnt:=hnl t h3
  obtain ⟨hkk,hlk⟩:=getC_zero hc
  have hx8:k.length<=8:=by simp [Tri.keyed] at hkk; omega
  have HOF:=qh (fun w=>of_any k w (by omega))
  have hgt:t.get (Nib.ofL k)≠none:=by rw [h3.tree.get h3.rise]; exact hlk
  have HWI:Hid (∀ w',Below w.heap.size w w'->Calls Tryz.prog 182 #[top,.string ⟨(Nib.ofL k).toArray⟩] w' fun e w''=>∃ g9,e=.returned (.pointer (some ⟨g9,0,none⟩))/\PAt w'' (Fm.from w.heap.size) false (t.del (Nib.ofL k)) (.pointer (some ⟨g9,0,none⟩))/\Below w'.heap.size w' w''):=qh (fun w' hb=>
    (without_to t top (Nib.ofL k) w' (Fm.from w.heap.size) (fun g hg _=>Nat.le_trans hb.size hg) ((h2.sealed (fun _ _ e=>by cases e) false).below hb) h3.tree.1 h3.tree.2.1 h3.within (Tri.ofL_fit k) (by rw [Nib.ofL_length]; omega) hgt).mono fun e w'' ⟨v9,e1,hp,hb9⟩=>by
      obtain ⟨g9,rfl⟩:=hp.ptr hnt
      exact ⟨g9,e1,hp,hb9⟩)
  have HTS:=qh (h3.del hlk)
  have hat:Tri.at_ S k=true:=by rw [Tri.at_look h3.rise]; cases hl:Sto.look S k with | none=>exact absurd hl hlk | some v=>rfl
  have hdl:=Tri.del_len h3.rise k hat
  obtain ⟨n,hn⟩:∃ n,(Tri.del S k).length=n:=⟨_,rfl⟩
  rw [hn] at hdl
  have hfew:=h3.few
  have HT:Hid (∀ w',Below w.heap.size w w'->w'.cell? ⟨g,0,none⟩=some top/\w'.cell? ⟨g,1,none⟩=some (.int .i64 ((n:Int)+1))):=qh (fun w' hb=>⟨(h1.below hb).top,by have:=(h1.below hb).num; rw [← hdl] at this; exact this⟩)
  have z8:IntKind.i64.wrap ((n:Int)+1 - 1)=(n:Int):=(IntWalk.i64_in ((n:Int)+1 - 1) (by omega)).trans (by omega)
  have z9:IntKind.i64.wrap ((n:Int))=(n:Int):=IntWalk.i64_in _ (by omega)
  obtain ⟨P,hP⟩:∃ P,Nib.ofL k=P:=⟨_,rfl⟩
  rw [hP] at HOF HWI HTS
  have HTB:=qh hT
  have HN:=qh hn
  have HCC:=qh hc
  obtain ⟨x,hx⟩:∃ x,Tri.getC S k=(x,0):=⟨(Tri.getC S k).1,by rw [← hc]⟩
  rw [hx] at HG
  unfold ptr at HG ⊢
  have hqq:w.heap.size<=w.heap.size:=Nat.le_refl _
  clear h1 h2 h3 hkk hlk hx8 hP hgt hat hdl hfew hT hn hx hc hnl hnt hqq
  go_enter Tryz.func162,Tryz.ntmps162
  go_wp2_with fail
  refine HG.out.mono ?_
  rintro e w1 ⟨rfl,hb1⟩
  have HB1:=qh hb1
  go_upto_region 4 with fail
  have BD:Below w.heap.size w w1.drew:=HB1.out.drew
  obtain ⟨c0,c1⟩:=HT.out _ BD
  clear hb1
  go_region_held3 (fun w'=>w'.cell? ⟨g,0,none⟩=some top/\w'.cell? ⟨g,1,none⟩=some (.int .i64 ((n:Int)+1)))
    ((first | (with_reducible exact ⟨c0,c1⟩) | (refine HT.out _ ?_; with_reducible assumption) | (refine HT.out _ ?_; refine Below.alloc ?_ ?_ _; (with_reducible assumption); (with_reducible exact hs9))))
    (first | (go_at_call 59; refine (HOF.out _).mono ?_; rintro e w6 ⟨rfl,hb6⟩; have hb6':=bchain BD hb6) | (go_at_call 182; refine (HWI.out _ ?_).mono ?_; (with_reducible exact hb6'); rintro e w9 ⟨g9,rfl,hp9,hb9⟩; have hb9':=bchain hb6' hb9; have hs9:=hb9'.size))
  all_goals
    have hba:=hb9'.alloc hs9 (.cells #[(.pointer (some ⟨g9,0,none⟩)),.int .i64 n] 84)
    have hr:TRow (w9.alloc (.cells #[(.pointer (some ⟨g9,0,none⟩)),.int .i64 n] 84)) w9.heap.size (.pointer (some ⟨g9,0,none⟩)) n:=heap_alloc_new w9 _
    have hp:=hp9.below ((Below.refl _ w9).alloc (Nat.le_refl _) (.cells #[(.pointer (some ⟨g9,0,none⟩)),.int .i64 n] 84))
    have HSE:=qh (seal_to _ _ _ w.heap.size HTB.out.pos hba.size (HTB.out.below hba) HTS.out.ok hp)
    have HR:=qh hr
    have HBA:=qh hba
    have m0:=hr.top
    clear hr hp hba
    go_wp2_with fail
    refine HSE.out.mono ?_
    rintro e w2 ⟨rfl,hp2,hk2,hb2⟩
    have HP2:=qh hp2
    have HR2:Hid (TRow w2 w9.heap.size (.pointer (some ⟨g9,0,none⟩)) (Tri.del S k).length):=qh (by rw [HN.out]; exact hk2.2.2 _ _ _ _ (by decide) HR.out)
    have HB2:=qh (HBA.out.trans hb2)
    clear hp2 hk2 hb2
    go_wp2
    go_ret2
    exact TDelPost.good HCC.out ⟨_,_,HR2.out,HP2.out.sealed (fun _ _ e=>by cases e) true,HTS.out⟩ HB2.out
theorem tdel_none {g:Nat} {S:St} (k:T) (w:World) (h:TrAt w g S) (hT:Tab w) (hc:(Tri.getC S k).2=0) (hnl:∀ t,TrS S t->(t.del (Nib.ofL k)).isNil):
    Calls Tryz.prog 162 #[ptr g,.string ⟨k.toArray⟩] w (TDelPost S k w):=by
  have HG:=qh (tget_any k w h)
  obtain ⟨top,t,h1,h2,h3⟩:=h
  have hnt:=hnl t h3
  obtain ⟨hkk,hlk⟩:=getC_zero hc
  have hx8:k.length<=8:=by simp [Tri.keyed] at hkk; omega
  have HOF:=qh (fun w=>of_any k w (by omega))
  have hgt:t.get (Nib.ofL k)≠none:=by rw [h3.tree.get h3.rise]; exact hlk
  have HWI:Hid (∀ w',Below w.heap.size w w'->Calls Tryz.prog 182 #[top,.string ⟨(Nib.ofL k).toArray⟩] w' fun e w''=>e=.returned (.pointer none)/\PAt w'' (Fm.from w.heap.size) false (t.del (Nib.ofL k)) (.pointer none)/\Below w'.heap.size w' w''):=qh (fun w' hb=>
    (without_to t top (Nib.ofL k) w' (Fm.from w.heap.size) (fun g hg _=>Nat.le_trans hb.size hg) ((h2.sealed (fun _ _ e=>by cases e) false).below hb) h3.tree.1 h3.tree.2.1 h3.within (Tri.ofL_fit k) (by rw [Nib.ofL_length]; omega) hgt).mono fun e w'' ⟨v9,e1,hp,hb9⟩=>by
      have hv9:v9=.pointer none:=by rw [Tri.isNil_eq hnt] at hp; exact hp
      subst hv9
      exact ⟨e1,hp,hb9⟩)
  have HTS:=qh (h3.del hlk)
  have hat:Tri.at_ S k=true:=by rw [Tri.at_look h3.rise]; cases hl:Sto.look S k with | none=>exact absurd hl hlk | some v=>rfl
  have hdl:=Tri.del_len h3.rise k hat
  obtain ⟨n,hn⟩:∃ n,(Tri.del S k).length=n:=⟨_,rfl⟩
  rw [hn] at hdl
  have hfew:=h3.few
  have HT:Hid (∀ w',Below w.heap.size w w'->w'.cell? ⟨g,0,none⟩=some top/\w'.cell? ⟨g,1,none⟩=some (.int .i64 ((n:Int)+1))):=qh (fun w' hb=>⟨(h1.below hb).top,by have:=(h1.below hb).num; rw [← hdl] at this; exact this⟩)
  have z8:IntKind.i64.wrap ((n:Int)+1 - 1)=(n:Int):=(IntWalk.i64_in ((n:Int)+1 - 1) (by omega)).trans (by omega)
  have z9:IntKind.i64.wrap ((n:Int))=(n:Int):=IntWalk.i64_in _ (by omega)
  obtain ⟨P,hP⟩:∃ P,Nib.ofL k=P:=⟨_,rfl⟩
  rw [hP] at HOF HWI HTS
  have HTB:=qh hT
  have HN:=qh hn
  have HCC:=qh hc
  obtain ⟨x,hx⟩:∃ x,Tri.getC S k=(x,0):=⟨(Tri.getC S k).1,by rw [← hc]⟩
  rw [hx] at HG
  unfold ptr at HG ⊢
  have hqq:w.heap.size<=w.heap.size:=Nat.le_refl _
  clear h1 h2 h3 hkk hlk hx8 hP hgt hat hdl hfew hT hn hx hc hnl hnt hqq
  go_enter Tryz.func162,Tryz.ntmps162
  go_wp2_with fail
  refine HG.out.mono ?_
  rintro e w1 ⟨rfl,hb1⟩
  have HB1:=qh hb1
  go_upto_region 4 with fail
  have BD:Below w.heap.size w w1.drew:=HB1.out.drew
  obtain ⟨c0,c1⟩:=HT.out _ BD
  clear hb1
  go_region_held3 (fun w'=>w'.cell? ⟨g,0,none⟩=some top/\w'.cell? ⟨g,1,none⟩=some (.int .i64 ((n:Int)+1)))
    ((first | (with_reducible exact ⟨c0,c1⟩) | (refine HT.out _ ?_; with_reducible assumption) | (refine HT.out _ ?_; refine Below.alloc ?_ ?_ _; (with_reducible assumption); (with_reducible exact hs9))))
    (first | (go_at_call 59; refine (HOF.out _).mono ?_; rintro e w6 ⟨rfl,hb6⟩; have hb6':=bchain BD hb6) | (go_at_call 182; refine (HWI.out _ ?_).mono ?_; (with_reducible exact hb6'); rintro e w9 ⟨rfl,hp9,hb9⟩; have hb9':=bchain hb6' hb9; have hs9:=hb9'.size))
  all_goals
    have hba:=hb9'.alloc hs9 (.cells #[(.pointer none),.int .i64 n] 84)
    have hr:TRow (w9.alloc (.cells #[(.pointer none),.int .i64 n] 84)) w9.heap.size (.pointer none) n:=heap_alloc_new w9 _
    have hp:=hp9.below ((Below.refl _ w9).alloc (Nat.le_refl _) (.cells #[(.pointer none),.int .i64 n] 84))
    have HSE:=qh (seal_to _ _ _ w.heap.size HTB.out.pos hba.size (HTB.out.below hba) HTS.out.ok hp)
    have HR:=qh hr
    have HBA:=qh hba
    have m0:=hr.top
    clear hr hp hba
    go_wp2_with fail
    refine HSE.out.mono ?_
    rintro e w2 ⟨rfl,hp2,hk2,hb2⟩
    have HP2:=qh hp2
    have HR2:Hid (TRow w2 w9.heap.size (.pointer none) (Tri.del S k).length):=qh (by rw [HN.out]; exact hk2.2.2 _ _ _ _ (by decide) HR.out)
    have HB2:=qh (HBA.out.trans hb2)
    clear hp2 hk2 hb2
    go_wp2
    go_ret2
    exact TDelPost.good HCC.out ⟨_,_,HR2.out,HP2.out.sealed (fun _ _ e=>by cases e) true,HTS.out⟩ HB2.out
theorem tdel_any {g:Nat} {S:St} (k:T) (w:World) (h:TrAt w g S) (hT:Tab w):
    Calls Tryz.prog 162 #[ptr g,.string ⟨k.toArray⟩] w (TDelPost S k w):=by
  by_cases hc:(Tri.getC S k).2=0
  · have h0:=h
    obtain ⟨top,t,h1,h2,h3⟩:=h
    by_cases hn:(t.del (Nib.ofL k)).isNil
    · exact tdel_none k w h0 hT hc (fun u hu=>by rw [hu.tree.one h3.tree]; exact hn)
    · exact tdel_some k w h0 hT hc (fun u hu=>by rw [hu.tree.one h3.tree]; exact hn)
  · exact tdel_bad k w h hc
theorem troot_any {g n:Nat} {top:Value} {t:Tr} (w:World) (hr:TRow w g top n) (hp:PAt w (Fm.from 0) true t top) (ho:Ok t):
    Calls Tryz.prog 23 #[ptr g] w fun e w'=>e=.returned (.string ⟨(t.sum Nd.sumS).toArray⟩)/\Below w.heap.size w w':=by
  have m0:=hr.top
  by_cases hn:t.isNil
  · rw [Tri.isNil_eq hn] at hp ⊢
    have e:top=.pointer none:=hp
    subst e
    unfold ptr
    clear hr hp
    go_enter Tryz.func23,Tryz.ntmps23
    go_wp2
    go_ret
    exact ⟨rfl,Below.refl _ _⟩
  · obtain ⟨g2,s',K,rfl,hs,-,h2,-⟩:=hp.row hn
    obtain rfl:=hs rfl
    have m1:=h2.sum
    have HCL:=qh (fun w=>dclone_any (t.sum Nd.sumS) w (by rw [ho.sum_len hn]; omega))
    obtain ⟨X,hX⟩:∃ X,t.sum Nd.sumS=X:=⟨_,rfl⟩
    rw [if_pos rfl,hX] at m1
    rw [hX] at HCL ⊢
    unfold ptr at *
    clear hr h2 hX hn ho
    go_enter Tryz.func23,Tryz.ntmps23
    go_wp2_with fail
    refine (HCL.out _).mono ?_
    rintro e w1 ⟨rfl,hb⟩
    go_wp2
    go_ret
    exact ⟨rfl,hb⟩
end
section
open Go.RowKit
open Sto (St)
end
section
open Go.RowKit
open Sto (T St)
open Tri (Tr Ok upd ix hb lay splitT Trim rank)
open Nd (N)
end
section
open Go.RowKit
open Sto (T)
open Tri (Tr Ok upd ix hb lay splitT Trim rank)
open Nd (N)
theorem nodes_wants (w:World):Wants w 52 #[] (fun _=>true) where
  call:=fun _ _=>rfl
  step:=fun w' p _ _ _=>by
    show Calls Tryz.prog 52 #[.string ⟨p.toArray⟩] w' _
    go_enter Tryz.func52,Tryz.ntmps52
    go_wp2
    go_ret
    exact ⟨rfl,Below.refl _ _⟩
theorem nodes_any {g:Nat} {t:Tr} {top n:Value} (w:World) (hg:w.heap[g]?=some (.cells #[top,n] 84 (0,0))) (hs:Sealed w t top):
    Calls Tryz.prog 26 #[ptr g] w (TextsPost w (wantedT (fun _=>true) t)):=by
  have HT:=qh (texts_any w hg hs (nodes_wants w) down_all)
  unfold TextsPost ptr at HT
  unfold TextsPost ptr
  clear hg hs
  go_enter Tryz.func26,Tryz.ntmps26
  go_wp2_with fail
  refine HT.out.mono ?_
  rintro e w1 ⟨z,rfl,ho,hb⟩
  go_wp2
  go_ret
  exact ⟨z,rfl,ho,hb⟩
theorem trail_wants {c:Nat} {path:T} (w:World) (hc:w.heap[c]?=some (.cells #[.string ⟨path.toArray⟩] 9 (0,0))):Wants w 134 #[.pointer (some ⟨c,0,none⟩)] (fun p=>Tri.begins p path) where
  call:=fun _ _=>rfl
  step:=fun w' p hb _ _=>by
    show Calls Tryz.prog 134 #[.string ⟨p.toArray⟩,.pointer (some ⟨c,0,none⟩)] w' _
    have c0:=cell_of_one ((hb.block c (lt_of_heap hc)).trans hc)
    have HP:=qh (fun w=>prefix_any path p w)
    unfold Tri.begins
    go_enter Tryz.func134,Tryz.ntmps134
    go_wp2_with fail
    refine (HP.out _).mono ?_
    rintro e w1 ⟨rfl,rfl⟩
    go_wp2
    go_ret
    exact ⟨rfl,Below.refl _ _⟩
theorem trail_any {g:Nat} {t:Tr} {top n:Value} (key:T) (w:World) (hl:key.length<=1000) (hg:w.heap[g]?=some (.cells #[top,n] 84 (0,0))) (hs:Sealed w t top):
    Calls Tryz.prog 93 #[ptr g,.string ⟨key.toArray⟩] w (TextsPost w (wantedT (fun p=>Tri.begins p (Nib.ofL key)) t)):=by
  have hmf:∀ (fn:Fn) (first cap:Array Value) (w:World),(Instr.makeFunc fn first cap).run Tryz.prog w=.ok (.func fn first cap) w:=fun _ _ _ _=>rfl
  have HOF:=qh (fun w=>of_any key w (by omega))
  have HT:Hid (∀ w1 path,Below w.heap.size w w1->Calls Tryz.prog 51 #[ptr g,.func (.func 134) #[] #[.pointer (some ⟨w1.heap.size,0,none⟩)]] (w1.alloc (.cells #[.string ⟨path.toArray⟩] 9)) (TextsPost (w1.alloc (.cells #[.string ⟨path.toArray⟩] 9)) (wantedT (fun p=>Tri.begins p path) t))):=qh (fun w1 path hb=>by
    have hb2:=hb.alloc hb.size (.cells #[.string ⟨path.toArray⟩] 9)
    exact texts_any _ ((hb2.block g (lt_of_heap hg)).trans hg) (hs.below hb2) (trail_wants _ (heap_alloc_new w1 _)) (down_begins path))
  unfold TextsPost ptr at HT
  unfold TextsPost ptr
  obtain ⟨P,hP⟩:∃ P,Nib.ofL key=P:=⟨_,rfl⟩
  rw [hP] at HOF ⊢
  clear hg hs hP
  go_enter Tryz.func93,Tryz.ntmps93
  go_wp2_with fail
  refine (HOF.out _).mono ?_
  rintro e w1 ⟨rfl,hb1⟩
  have HB1:=qh hb1
  clear hb1
  go_wp2_with fail
  refine (HT.out w1 P HB1.out).mono ?_
  rintro e w2 ⟨z,rfl,ho,hb⟩
  have HB2:Hid (Below w.heap.size w w2):=qh (bchain (HB1.out.alloc HB1.out.size _) hb)
  have HO:Hid (Own w2 w.heap.size z (wantedT (fun p=>Tri.begins p P) t)):=qh (own_lowS ho (by have:=HB1.out.size; simp; omega))
  clear ho hb
  go_wp2
  go_ret
  exact ⟨z,rfl,HO.out,HB2.out⟩
end
section
open Go.RowKit
open Sto (T St)
open Tri (Tr Ok upd ix hb lay splitT Trim rank)
open Nd (N)
namespace Tri
def wK:St:=[([107],[118])]
theorem wU_tree:TreeOf wK (.leaf [6,11] [118]):=by
  have h0:TreeOf [] .nil:=⟨trivial,trivial,rfl⟩
  have h1:TreeOf (put [] [107] [118]) (Tr.put .nil (Nib.ofL [107]) [118]):=h0.put (by decide)
  exact h1
theorem wU_text:Nd.written (Tr.node Nd.sumS (.leaf [6,11] [118]))=[1,1,2,32,107,1,1,118]:=by decide +kernel
end Tri
theorem wanted_all (t:Tr):wantedT (fun _=>true) t=(t.spots Nd.sumS []).map fun x=>Nd.written x.2:=by
  unfold wantedT
  rw [List.filter_eq_self.2 (fun _ _=>rfl)]
end
section
open Go.RowKit Go.ChangeShapes Go.WideShapes
structure ActT where
  kind:Int
  key:List UInt8
  val:List UInt8
instance:Inhabited ActT:=⟨⟨0,[],[]⟩⟩
end
section
open Go.RowKit
open Sto (T St)
open Tri (Tr)
end
section
open Go.RowKit
open Sto (T St)
theorem take_snoc_it {L K:St} {k:Nat} (h1:k<L.length) (h2:k<K.length):L.take (k+1)=K.take (k+1)↔L.take k=K.take k/\L[k]=K[k]:=by
  rw [List.take_succ_eq_append_getElem h1,List.take_succ_eq_append_getElem h2]
  constructor
  · intro h
    have:=List.append_inj' h rfl
    exact ⟨this.1,by simpa using this.2⟩
  · rintro ⟨a,b⟩
    rw [a,b]
end
section
open Go.RowKit
def Code.few (L:List (List UInt8)) (n e:Nat):Bool:=decide (L.length<=n)&&L.all fun s=>decide (s.length<=e)
theorem Code.few_iff (L:List (List UInt8)) (n e:Nat):Code.few L n e=true↔L.length<=n/\∀ s∈L,s.length<=e:=by simp [Code.few]
theorem Code.all_snoc (L:List (List UInt8)) (e k:Nat) (h:k<L.length):((L.take (k+1)).all fun s=>decide (s.length<=e))=(((L.take k).all fun s=>decide (s.length<=e))&&decide (L[k].length<=e)):=by
  rw [List.take_succ_eq_append_getElem h,List.all_append]
  simp only [List.all_cons,List.all_nil,Bool.and_true]
theorem few_any (L:List (List UInt8)) (v:Value) (n e:Nat) (w:World) (hs:Strs w v L) (hl:L.length<=maxLen):
    Calls Tryz.prog 29 #[v,.int .i64 n,.int .i64 e] w fun x w'=>x=.returned (.bool (Code.few L n e))/\w'=w:=by
  obtain ⟨A,cap,rfl,hc⟩:=hs
  unfold maxLen at hl
  by_cases hbig:L.length > n
  · have hf:Code.few L n e=false:=by rw [Code.few,decide_eq_false (by omega)]; rfl
    rw [hf]
    clear hf hc
    have hb:(L.length:Int) > n:=by omega
    go_enter Tryz.func29,Tryz.ntmps29
    go_wp2
    go_ret
    exact ⟨rfl,rfl⟩
  · have hf:Code.few L n e=L.all fun s=>decide (s.length<=e):=by rw [Code.few,decide_eq_true (by omega)]; rfl
    have HF:=qh hf
    have hb:¬ ((L.length:Int) > n):=by omega
    clear hbig hf
    go_enter Tryz.func29,Tryz.ntmps29
    go_wp2
    go_loop [7] (fun i=>∃ k:Nat,k<=L.length/\i=.int .i64 k/\((L.take k).all fun s=>decide (s.length<=e))=true) (fun i=>L.length - (intOf i).toNat)
    case atStart=>exact ⟨0,Nat.zero_le _,rfl,rfl⟩
    case round=>
      obtain ⟨k,hk,rfl,hall⟩:=hrel
      have HA:=qh hall
      clear hall
      by_cases hlt:k<L.length
      · have h1:(k:Int)<(L.length:Int):=by omega
        obtain ⟨a,rfl,hcell⟩:=hc k hlt
        clear hc
        have hsn:=qh (Code.all_snoc L e k hlt)
        have hmem:=qh (List.getElem_mem hlt)
        obtain ⟨t,ht⟩:∃ t,L[k]=t:=⟨_,rfl⟩
        rw [ht] at hcell hsn hmem
        clear ht
        by_cases hte:t.length<=e
        · have h2:¬ ((t.length:Int) > (e:Int)):=by omega
          go_wp2
          go_round
          case rel=>exact ⟨k+1,by omega,by go_num,by rw [hsn.out,HA.out,decide_eq_true hte]; rfl⟩
          case measure=>simp [intOf]; omega
        · have h2:(t.length:Int) > (e:Int):=by omega
          have hno:(L.all fun s=>decide (s.length<=e))=false:=by
            rw [List.all_eq_false]
            exact ⟨t,hmem.out,by simpa using hte⟩
          have HN:=qh hno
          clear hno
          go_wp2
          go_ret
          refine ⟨?_,rfl⟩
          rw [HF.out,HN.out]
          rfl
      · go_wp2
        go_ret
        refine ⟨?_,rfl⟩
        have HB:=HA.out
        rw [List.take_of_length_le (by omega)] at HB
        rw [HF.out,HB]
        rfl
end
section
open Go.RowKit
open Sto (T St)
open Tri (Tr)
def treeS (S:St):Tr:=S.foldr (fun x t=>t.put (Nib.ofL x.1) x.2) .nil
theorem treeS_tree (S:St) (hS:Sto.Rising S) (hv:∀ p∈S,p.2≠[]):Tri.TreeOf S (treeS S):=by
  induction S with
  | nil=>exact ⟨trivial,trivial,rfl⟩
  | cons a r ih=>
    obtain ⟨h1,h2⟩:=List.pairwise_cons.1 hS
    have h3:=(ih h2 fun p h=>hv p (List.mem_cons_of_mem _ h)).put (k:=a.1) (hv a (List.mem_cons_self ..))
    have e:Tri.put r a.1 a.2=a::r:=by
      cases r with
      | nil=>rfl
      | cons b r=>
        have hab:=h1 b (List.mem_cons_self ..)
        rw [Tri.put,if_neg (fun h=>List.lt_irrefl _ (List.lt_trans h hab)),if_neg (fun e=>Sto.lt_ne hab e.symm)]
    rw [e] at h3
    exact h3
theorem treeS_of {S:St} {t:Tr} (h:TrS S t):treeS S=t:=
  (treeS_tree S h.rise fun p hp e=>by have:=(h.fair p hp).2.2.1; rw [e] at this; simp at this).one h.tree
def rootS (S:St):T:=(treeS S).sum Nd.sumS
def nodesS (S:St):List T:=wantedT (fun _=>true) (treeS S)
theorem sroot_any {g:Nat} {S:St} (w:World) (h:TrAt w g S):
    Calls Tryz.prog 23 #[ptr g] w fun e w'=>e=.returned (.string ⟨(rootS S).toArray⟩)/\Below w.heap.size w w':=by
  obtain ⟨top,t,h1,h2,h3⟩:=h
  unfold rootS
  rw [treeS_of h3]
  exact troot_any w h1 h2 h3.ok
theorem snodes_any {g:Nat} {S:St} (w:World) (h:TrAt w g S):
    Calls Tryz.prog 26 #[ptr g] w (TextsPost w (nodesS S)):=by
  obtain ⟨top,t,h1,h2,h3⟩:=h
  unfold nodesS
  rw [treeS_of h3]
  exact nodes_any w h1 (h3.sealed h2)
theorem TrAt.nodes_len {w:World} {g:Nat} {S:St} (h:TrAt w g S):(nodesS S).length<=100000:=by
  obtain ⟨top,t,h1,h2,h3⟩:=h
  unfold nodesS
  rw [treeS_of h3,wanted_all,List.length_map]
  exact h3.spots []
end
section
open Go.RowKit
open Sto (T St)
open Tri (Tr Ok hb)
open Nd (N)
def putAll (st:St) (L:List T):St:=L.foldl (fun s t=>Sto.put s (Sto.sumOf t) t) st
theorem putAll_take {st:St} {L:List T} {k:Nat} (h:k<L.length):putAll st (L.take (k+1))=Sto.put (putAll st (L.take k)) (Sto.sumOf L[k]) L[k]:=by
  unfold putAll
  rw [List.take_succ_eq_append_getElem h,List.foldl_append]; rfl
def Clash (L:List T):Prop:=∃ s∈L,∃ t∈L,s≠t/\Sto.sumOf s=Sto.sumOf t
structure OfTexts (st:St) (C:List T):Prop where
  rise:Sto.Rising st
  own:OwnSums st
  of:∀ x t,Sto.look st x=some t->t∈C
theorem OfTexts.nil (C:List T):OfTexts [] C:=⟨Sto.rising_nil,OwnSums.nil,fun x t h=>by cases h⟩
theorem OfTexts.put {st:St} {C:List T} (h:OfTexts st C) {t:T} (ht:t∈C) (hn:¬ Clash C):OfTexts (Sto.put st (Sto.sumOf t) t) C/\Sto.look (Sto.put st (Sto.sumOf t) t) (Sto.sumOf t)=some t/\∀ x y,Sto.look st x=some y->Sto.look (Sto.put st (Sto.sumOf t) t) x=some y:=by
  have hown:=h.own.put h.rise t
  have hkeep:∀ x y,Sto.look st x=some y->Sto.look (Sto.put st (Sto.sumOf t) t) x=some y:=fun x y hl=>by
    obtain ⟨s,hs⟩:∃ s,Sto.sumOf t=s:=⟨_,rfl⟩
    rw [hs,Sto.look_put h.rise]
    by_cases e:x=s
    · rw [if_pos e,← e,hl]; rfl
    · rw [if_neg e]; exact hl
  have hit:Sto.look (Sto.put st (Sto.sumOf t) t) (Sto.sumOf t)=some t:=by
    obtain ⟨s,hs⟩:∃ s,Sto.sumOf t=s:=⟨_,rfl⟩
    rw [hs,Sto.look_put h.rise,if_pos rfl]
    cases hl:Sto.look st s with
    | none=>rfl
    | some y=>
      have hy:=h.of s y hl
      have hys:=h.own s y hl
      by_cases e:y=t
      · rw [e]; rfl
      · exact absurd ⟨y,hy,t,ht,e,hys.trans hs.symm⟩ hn
  refine ⟨⟨Sto.put_rising h.rise _ _,hown,fun x y hl=>?_⟩,hit,hkeep⟩
  obtain ⟨s,hs⟩:∃ s,Sto.sumOf t=s:=⟨_,rfl⟩
  rw [hs,Sto.look_put h.rise] at hl
  by_cases e:x=s
  · rw [if_pos e] at hl
    cases hk:Sto.look st s with
    | none=>
      rw [hk] at hl
      have e2:t=y:=Option.some.inj hl
      rw [← e2]; exact ht
    | some z=>
      rw [hk] at hl
      have e2:z=y:=Option.some.inj hl
      rw [← e2]; exact h.of _ _ hk
  · rw [if_neg e] at hl
    exact h.of _ _ hl
theorem putAll_keep {C:List T} (hn:¬ Clash C) (L:List T):∀ {st:St},OfTexts st C->(∀ t∈L,t∈C)->OfTexts (putAll st L) C/\(∀ t∈L,Sto.look (putAll st L) (Sto.sumOf t)=some t)/\∀ x y,Sto.look st x=some y->Sto.look (putAll st L) x=some y:=by
  induction L with
  | nil=>intro st h _; exact ⟨h,fun t ht=>(by cases ht),fun _ _ h=>h⟩
  | cons a L ih=>
    intro st h hL
    obtain ⟨h1,h2,h3⟩:=h.put (hL a (List.mem_cons_self ..)) hn
    obtain ⟨g1,g2,g3⟩:=ih h1 (fun t ht=>hL t (List.mem_cons_of_mem _ ht))
    refine ⟨g1,fun t ht=>?_,fun x y hl=>g3 x y (h3 x y hl)⟩
    rcases List.mem_cons.1 ht with rfl | ht
    · exact g3 _ _ h2
    · exact g2 t ht
theorem putAll_own (L:List T):∀ {st:St},Sto.Rising st->OwnSums st->OwnSums (putAll st L)/\Sto.Rising (putAll st L):=by
  induction L with
  | nil=>intro st h1 h2; exact ⟨h2,h1⟩
  | cons a L ih=>intro st h1 h2; exact ih (Sto.put_rising h1 _ _) (h2.put h1 a)
theorem sumS_of {n:N} (h:Nd.fine n=true):Nd.sumS n=Sto.sumOf (Nd.written n):=by
  unfold Nd.sumS Sto.sumOf
  rw [if_pos h]
theorem inS_of {st:St} {t:Tr} (h:Ok t) (hl:∀ n∈t.nodes Nd.sumS,Sto.look st (Sto.sumOf (Nd.written n))=some (Nd.written n)):t.inS st:=by
  have one:∀ {t:Tr},Ok t->¬ t.isNil->(∀ n∈t.nodes Nd.sumS,Sto.look st (Sto.sumOf (Nd.written n))=some (Nd.written n))->Sto.look st (t.sum Nd.sumS)=some (Nd.written (t.node Nd.sumS)):=by
    intro t h hn hl
    obtain ⟨r,hr⟩:=Tri.nodes_head Nd.sumS hn
    have h1:=hl (t.node Nd.sumS) (by rw [hr]; exact List.mem_cons_self ..)
    have h2:Nd.sumS (t.node Nd.sumS)=Sto.sumOf (Nd.written (t.node Nd.sumS)):=sumS_of (h.fine hn)
    rw [Tri.sum_node _ hn,h2]
    exact h1
  induction t with
  | nil=>trivial
  | leaf p v=>exact one h id hl
  | ext p t ih=>exact ⟨one h id hl,ih ⟨h.canon.2.2,h.fits.2,h.small.2⟩ (fun n hn=>hl n (List.mem_cons_of_mem _ hn))⟩
  | br v k ih=>
    refine ⟨one h id hl,fun i=>ih i ⟨h.canon.1 i,h.fits i,h.small.2 i⟩ (fun n hn=>hl n (List.mem_cons_of_mem _ ?_))⟩
    exact List.mem_flatMap.2 ⟨i,List.mem_finRange i,hn⟩
theorem nodesS_nodes {S:St} {t:Tr} (h:TrS S t):nodesS S=(t.nodes Nd.sumS).map Nd.written:=by
  unfold nodesS
  rw [treeS_of h,wanted_all,← Tri.spots_nodes Nd.sumS t [],List.map_map]
  rfl
theorem nodes_fine {t:Tr} (h:Ok t):∀ n∈t.nodes Nd.sumS,Nd.fine n=true/\n.kids.length=16:=by
  induction t with
  | nil=>intro n hn; cases hn
  | leaf p v=>intro n hn; rw [List.mem_singleton.1 hn]; exact ⟨h.fine id,Tri.node_kids ..⟩
  | ext p t ih=>
    intro n hn
    rcases List.mem_cons.1 hn with e | e
    · rw [e]; exact ⟨h.fine id,Tri.node_kids ..⟩
    · exact ih ⟨h.canon.2.2,h.fits.2,h.small.2⟩ n e
  | br v k ih=>
    intro n hn
    rcases List.mem_cons.1 hn with e | e
    · rw [e]; exact ⟨h.fine id,Tri.node_kids ..⟩
    · obtain ⟨i,_,hi⟩:=List.mem_flatMap.1 e
      exact ih i ⟨h.canon.1 i,h.fits i,h.small.2 i⟩ n hi
theorem nodesS_short {S:St} {t:Tr} (h:TrS S t):∀ x∈nodesS S,x.length<=999:=by
  intro x hx
  rw [nodesS_nodes h] at hx
  obtain ⟨n,hn,rfl⟩:=List.mem_map.1 hx
  obtain ⟨h1,h2⟩:=nodes_fine h.ok n hn
  have:=Nd.written_most n h2 h1
  omega
theorem TrAt.out {w w':World} {g m:Nat} {S:St} (h:TrAt w g S) (ho:Out (fun j=>j=m) w w') (hm:∀ cs t f,w.heap[m]?≠some (.cells cs t f)):TrAt w' g S:=by
  obtain ⟨top,t,h1,h2,h3⟩:=h
  refine ⟨top,t,ho.heap h1 (fun e=>hm _ _ _ (by rw [← e]; exact h1)),h2.change (fun _ _ _ h=>h) fun g k p x K s s2 _ hr=>ho.heap hr (fun e=>hm _ _ _ (by rw [← e]; exact hr)),h3⟩
theorem tab_out {P:Program} {k:TypeId} {κ α:Type} {M:MapLaw P k κ α} {w w':World} {m:Nat} {f:κ->Option α} (hT:Tab w) (h:FnAt M w m f) (ho:Out (fun i=>i=m) w w'):Tab w':=fun i hi=>by
  refine ho.cell (hT i hi) fun e=>?_
  obtain ⟨es,c,he,_⟩:=h
  have hk:=hT i hi
  have e':(0:Nat)=m:=e
  subst e'
  simp [World.cell?,he] at hk
theorem tsave_any {g gs ms:Nat} {S st:St} (w:World) (h:TrAt w g S) (hs:StoreAt w gs ms st) (hT:Tab w):
    Calls Tryz.prog 90 #[.pointer (some ⟨g,0,none⟩),.pointer (some ⟨gs,0,none⟩)] w fun e w'=>e=.returned (.string ⟨(rootS S).toArray⟩)/\StoreAt w' gs ms (putAll st (nodesS S))/\Out (fun j=>j=ms) w w':=by
  have HH:=qh h
  have HS:=qh hs
  have HT:=qh hT
  have HNO:=qh (snodes_any w h)
  unfold ptr TextsPost at HNO
  have HNL:=qh h.nodes_len
  have HSH:Hid (∀ x∈nodesS S,x.length<=999):=qh (by
    obtain ⟨top,t,-,-,hts⟩:=h
    exact nodesS_short hts)
  have HRO:=qh (fun w' (h':TrAt w' g S)=>sroot_any w' h')
  unfold ptr at HRO
  obtain ⟨NS,hNS⟩:∃ NS,nodesS S=NS:=⟨_,rfl⟩
  rw [hNS] at HNO HNL HSH ⊢
  obtain ⟨RS,hRS⟩:∃ RS,rootS S=RS:=⟨_,rfl⟩
  rw [hRS] at HRO ⊢
  clear h hs hT hNS hRS
  go_enter Tryz.func90,Tryz.ntmps90
  go_wp2_with fail
  refine HNO.out.mono ?_
  rintro e w1 ⟨z,rfl,o1,hb1⟩
  have HO1:=qh o1
  have HB1:=qh hb1
  have HT1:=qh (HT.out.below hb1)
  have HS1:=qh (HS.out.below hb1)
  have HH1:=qh (HH.out.below hb1)
  have HNC:Hid (∀ w',Out (fun j=>j=ms) w1 w'->∀ k cs t f,k=ms->w1.heap[k]?≠some (.cells cs t f)):=qh (fun _ _ k cs t f e=>HS1.out.map.no_cells k cs t f e)
  obtain ⟨A,cap,rfl⟩:=own_form o1
  clear o1 hb1
  go_wp2
  go_loopw [10] (fun iv wr=>∃ k:Nat,k<=NS.length/\iv=.int .i64 k/\StoreAt wr gs ms (putAll st (NS.take k))/\Out (fun j=>j=ms) w1 wr) (fun i _=>NS.length - (intOf i).toNat)
  case atStart=>exact ⟨0,Nat.zero_le _,rfl,HS1.out,Out.refl _ _⟩
  case round=>
    obtain ⟨k,hk,rfl,hst,hou⟩:=hrel
    have HST:=qh hst
    have HOU:=qh hou
    by_cases hlt:k<NS.length
    · have h1:(k:Int)<(NS.length:Int):=by omega
      have h0:(0:Int)<=(k:Int):=by omega
      have hnb:(k:Int)<=100000:=by have:=HNL.out; omega
      have hown:Own wr w.heap.size (.slice A NS.length cap) NS:=row_out HO1.out hou (fun k cs t f e=>HNC.out _ hou k cs t f e)
      obtain ⟨a,rfl,hcell⟩:=hown.strs_at (Below.refl _ wr) k hlt
      have HPT:=qh (putAll_take (st:=st) hlt)
      have HPU:=qh (stput_any gs ms (putAll st (NS.take k)) NS[k] wr hst (tab_out HT1.out HS1.out.map hou) (by have:=HSH.out _ (List.getElem_mem hlt); omega))
      unfold StPutPost at HPU
      rw [← HPT.out] at HPU
      obtain ⟨y,hy⟩:∃ y,NS[k]=y:=⟨_,rfl⟩
      rw [hy] at hcell HPU
      clear hst hou hown hy
      go_wp2_with fail
      refine HPU.out.mono ?_
      rintro e w2 ⟨rfl,hst2,hou2⟩
      have HST2:=qh hst2
      have HOU2:=qh (HOU.out.trans hou2)
      clear hst2 hou2 hcell
      go_wp2
      exact ⟨⟨k+1,by omega,by go_num,HST2.out,HOU2.out⟩,by simp [intOf]; omega⟩
    · obtain rfl:k=NS.length:=by omega
      have h1:¬ ((NS.length:Int)<(NS.length:Int)):=by omega
      rw [List.take_length] at HST
      have HTR:=qh (HH1.out.out hou (fun cs t f=>HS1.out.map.no_cells _ cs t f rfl))
      clear hst hou
      go_wp2_with fail
      refine (HRO.out _ HTR.out).mono ?_
      rintro e w2 ⟨rfl,hb2⟩
      have HST2:=qh (HST.out.below hb2)
      have HOU2:Hid (Out (fun j=>j=ms) w w2):=qh ((Out.of HB1.out).trans (HOU.out.trans (Out.of hb2)))
      clear hb2
      go_wp2
      go_ret
      exact ⟨rfl,HST2.out,HOU2.out⟩
def LdAt (w:World) (d g n:Nat):Prop:=w.heap[d]?=some (.cells #[.pointer (some ⟨g,0,none⟩),.int .i64 n] 186 (0,0))
theorem LdAt.store {w:World} {d g n:Nat} (h:LdAt w d g n):w.cell? ⟨d,0,none⟩=some (.pointer (some ⟨g,0,none⟩)):=by rw [cell_of_row _ _ _ _ _ _ h]; rfl
theorem LdAt.num {w:World} {d g n:Nat} (h:LdAt w d g n):w.cell? ⟨d,1,none⟩=some (.int .i64 n):=by rw [cell_of_row _ _ _ _ _ _ h]; rfl
theorem LdAt.free {w:World} {d g n:Nat} (h:LdAt w d g n) (i:Nat):w.frozen? ⟨d,i,none⟩=false:=frozen_of_row _ _ _ _ _ h
theorem LdAt.below {w w':World} {d g n:Nat} (h:LdAt w d g n) (hb:Below w.heap.size w w'):LdAt w' d g n:=(hb.block d (lt_of_heap h)).trans h
theorem LdAt.set {w:World} {d g n:Nat} (h:LdAt w d g n) (m:Nat):LdAt (w.setCell ⟨d,1,none⟩ (.int .i64 m)) d g m:=by
  have:=heap_setCell_same w d 1 _ _ (.int .i64 m) h
  exact this
theorem LdAt.setNew {w:World} {d g n q:Nat} (h:LdAt w d g n) (hq:q≠d) (i:Nat) (v:Value):LdAt (w.setCell ⟨q,i,none⟩ v) d g n:=(heap_setCell_other w ⟨q,i,none⟩ d v (fun e=>hq e.symm)).trans h
def LItemPost (p:T) (d g n:Nat) (w:World) (e:Ending) (w':World):Prop:=
  ∃ c:Int,e=.returned (.int .i64 c)/\Only d w w'/\((c=0/\1<=p.length/\p.length % 2=0/\n<1024/\LdAt w' d g (n+1))∨(c≠0/\LdAt w' d g n/\(p.length=0∨p.length % 2=1∨n=1024)))
theorem lditem_any {d g n:Nat} (p:T) (w:World) (h:LdAt w d g n) (hn:n<=1024) (hp:p.length<=1000):
    Calls Tryz.prog 164 #[.pointer (some ⟨d,0,none⟩),.string ⟨p.toArray⟩] w (LItemPost p d g n w):=by
  have HH:=qh h
  have HP:Hid (∀ (c:Int) (w':World),Only d w w'->((c=0/\1<=p.length/\p.length % 2=0/\n<1024/\LdAt w' d g (n+1))∨(c≠0/\LdAt w' d g n/\(p.length=0∨p.length % 2=1∨n=1024)))->LItemPost p d g n w (.returned (.int .i64 c)) w'):=qh (fun c w' a b=>⟨c,rfl,a,b⟩)
  by_cases h0:p=[]
  · have HX:Hid (p.length=0):=qh (by rw [h0]; rfl)
    have h1:(p == [])=true:=beq_iff_eq.2 h0
    have h2:p.isEmpty=true:=by rw [h0]; rfl
    clear h h0
    go_enter Tryz.func164,Tryz.ntmps164
    go_wp2
    go_ret
    exact HP.out 4 w (Only.refl _ _) (Or.inr ⟨by decide,HH.out,Or.inl HX.out⟩)
  have h1:(p == [])=false:=by rw [beq_eq_false_iff_ne]; exact h0
  have h2:p.isEmpty=false:=by cases p <;> simp_all
  have hp1:1<=p.length:=List.length_pos_iff.2 h0
  rcases Nat.mod_two_eq_zero_or_one p.length with hm | hm
  case inr=>
    have r1:(p.length:Int) % 2=1:=by omega
    have r2:(p.length:Int).tmod 2=1:=by rw [Int.tmod_eq_emod_of_nonneg (by omega)]; exact r1
    have HX:Hid (p.length % 2=1):=qh hm
    clear h h0 hm
    go_enter Tryz.func164,Tryz.ntmps164
    go_wp2
    go_ret
    exact HP.out 4 w (Only.refl _ _) (Or.inr ⟨by decide,HH.out,Or.inr (Or.inl HX.out)⟩)
  have r1:(p.length:Int) % 2=0:=by omega
  have r2:(p.length:Int).tmod 2=0:=by rw [Int.tmod_eq_emod_of_nonneg (by omega)]; exact r1
  have HX:Hid (1<=p.length/\p.length % 2=0):=qh ⟨hp1,hm⟩
  have c1:=h.num
  have f1:=h.free 1
  by_cases hn2:n=1024
  · have n1:((n:Int) == 1024)=true:=by rw [beq_iff_eq]; omega
    have n2:(n:Int)=1024:=by omega
    have HN2:=qh hn2
    clear h h0 hm hp1 hn hn2
    go_enter Tryz.func164,Tryz.ntmps164
    go_wp2
    go_ret
    exact HP.out 2 w (Only.refl _ _) (Or.inr ⟨by decide,HH.out,Or.inr (Or.inr HN2.out)⟩)
  have n1:((n:Int) == 1024)=false:=by rw [beq_eq_false_iff_ne]; omega
  have n2:¬ ((n:Int)=1024):=by omega
  have n3:IntKind.i64.wrap ((n:Int)+1)=(n:Int)+1:=IntWalk.i64_in _ (by omega)
  have HN:Hid (n<1024):=qh (by omega)
  have HE:Hid (((n+1:Nat):Int)=(n:Int)+1):=qh (by omega)
  clear h h0 hm hp1 hn hn2
  go_enter Tryz.func164,Tryz.ntmps164
  go_wp2
  go_ret
  refine HP.out 0 _ ((Only.refl d w).setCell (p:=⟨d,1,none⟩) rfl _) (Or.inl ⟨rfl,HX.out.1,HX.out.2,HN.out,?_⟩)
  have:=HH.out.set (n+1)
  rw [HE.out] at this
  exact this
def Fm.up (B:Nat):Fm:=fun _ g=>B<=g
theorem PAt.up {w w':World} {B:Nat} {s:Bool} {t:Tr} {v:Value} (h:PAt w (Fm.up B) s t v) (ho:∀ g,B<=g->g<w.heap.size->w'.heap[g]?=w.heap[g]?):PAt w' (Fm.up B) s t v:=
  h.change (fun _ _ _ h=>h) fun g _ _ _ _ _ _ hg hr=>(ho g hg (lt_of_heap hr)).trans hr
theorem PAt.upOnly {w w':World} {B d:Nat} {s:Bool} {t:Tr} {v:Value} (h:PAt w (Fm.up B) s t v) (ho:Only d w w') (hd:d<B):PAt w' (Fm.up B) s t v:=
  h.up fun g hg hlt=>ho.block g hlt (by omega)
theorem PAt.upMono {w:World} {B C:Nat} {s:Bool} {t:Tr} {v:Value} (h:PAt w (Fm.up B) s t v) (hc:C<=B):PAt w (Fm.up C) s t v:=h.imp fun _ _ _ hg=>Nat.le_trans hc hg
def PartPost (S:St) (sum place:T) (inE:Bool) (d g n:Nat) (w:World) (e:Ending) (w':World):Prop:=
  ∃ (z:Value) (c:Int) (n':Nat),e=.returned (.tuple #[z,.int .i64 c])/\LdAt w' d g n'/\Only d w w'/\n'<=1024/\
    ((c=0/\∃ t,Loaded S sum place inE t/\PAt w' (Fm.up w.heap.size) true t z/\n'=n+t.items.length)∨(c≠0/\z=nilp/\∀ t,Loaded S sum place inE t->1024<n+t.items.length))
def PartIs (S:St) (d g m:Nat) (f:Nat):Prop:=∀ (sum place:T) (inE:Bool) (n:Nat) (w:World),16 - place.length<f->place.length<=16->sum.length<=32->n<=1024->LdAt w d g n->StoreAt w g m S->
  Calls Tryz.prog 133 #[.pointer (some ⟨d,0,none⟩),.string ⟨sum.toArray⟩,.string ⟨place.toArray⟩,.bool inE] w (PartPost S sum place inE d g n w)
theorem ldkid_any {S:St} {d g m f:Nat} (IH:PartIs S d g m f) (kind:Nat) (sum place:T) (n:Nat) (w:World) (hf:place.length<=16->16 - place.length<f) (hpl:place.length<=1000) (hs:sum.length<=32) (hn:n<=1024) (hL:LdAt w d g n) (hS:StoreAt w g m S):
    Calls Tryz.prog 165 #[.pointer (some ⟨d,0,none⟩),.int .i64 kind,.string ⟨sum.toArray⟩,.string ⟨place.toArray⟩] w (PartPost S sum place (decide (kind=2)) d g n w):=by
  by_cases hp:place.length<=16
  · have q1:¬ ((place.length:Int) > 16):=by omega
    have q2:decide ((16:Int)<(place.length:Int))=false:=decide_eq_false (by omega)
    have q3:decide (16<place.length)=false:=decide_eq_false (by omega)
    have q4:¬ (16<place.length):=by omega
    have HI:=qh (IH sum place (decide (kind=2)) n w (hf hp) hp hs hn hL hS)
    clear IH hf hs hn hL hS hp
    by_cases h2:kind=2
    · have k1:((kind:Int) == 2)=true:=by rw [beq_iff_eq]; omega
      have k2:(kind:Int)=2:=by omega
      rw [decide_eq_true h2] at HI ⊢
      clear h2
      go_enter Tryz.func165,Tryz.ntmps165
      go_wp2_with fail
      refine HI.out.mono ?_
      rintro e w1 ⟨z,c,n',rfl,r⟩
      have HR:=qh r
      clear r
      go_wp2
      go_ret2
      exact ⟨z,c,n',rfl,HR.out⟩
    · have k1:((kind:Int) == 2)=false:=by rw [beq_eq_false_iff_ne]; omega
      have k2:¬ ((kind:Int)=2):=by omega
      rw [decide_eq_false h2] at HI ⊢
      clear h2
      go_enter Tryz.func165,Tryz.ntmps165
      go_wp2_with fail
      refine HI.out.mono ?_
      rintro e w1 ⟨z,c,n',rfl,r⟩
      have HR:=qh r
      clear r
      go_wp2
      go_ret2
      exact ⟨z,c,n',rfl,HR.out⟩
  · have q1:(place.length:Int) > 16:=by omega
    have q2:decide ((16:Int)<(place.length:Int))=true:=decide_eq_true (by omega)
    have q3:decide (16<place.length)=true:=decide_eq_true (by omega)
    have HP:Hid (PartPost S sum place (decide (kind=2)) d g n w (.returned (.tuple #[.pointer none,.int .i64 4])) w):=qh ⟨nilp,4,n,rfl,hL,Only.refl _ _,hn,Or.inr ⟨by decide,rfl,fun t ht=>by have:=ht.short; omega⟩⟩
    clear IH hf hs hn hL hS hp
    go_enter Tryz.func165,Tryz.ntmps165
    go_wp2
    go_ret2
    exact HP.out
end
end Go.Proofs.YtaficmboooaknaaGreatDoor
