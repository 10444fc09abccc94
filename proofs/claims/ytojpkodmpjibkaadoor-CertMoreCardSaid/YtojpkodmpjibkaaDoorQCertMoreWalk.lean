/- The walk of the law CertMore: it answers true, whatever it is given. -/
import Derived.Test.YtojpkodmpjibkaaDoorPk12
import Derived.IntWalk
namespace Go.Proofs.YtojpkodmpjibkaaDoor
open Go.RowKit Go.ChangeShapes Go.WideShapes
open Go.Proofs.YtojpkodmpjibkaaDoor.Ct (C)
open Go.Proofs.YtojpkodmpjibkaaDoor.Pw (M)

/-- All that is in the one table is in the other. -/
def Ct.Sub (T T' : List Ora.Sig) : Prop := ∀ k, (Ora.look T k).isSome = true → (Ora.look T' k).isSome = true
theorem Ct.Sub.sign {T T' : List Ora.Sig} (h : Ct.Sub T T') (hr : Ora.Rising T') (k : Ora.K) (b : Bool) : Ct.Sub T (Ora.signP T' k b).1 := fun x hx => Ct.sign_more hr k b x (h x hx)

def SomeSum (w : World) (e : Ending) (w' : World) : Prop := ∃ (mk : List UInt8) (c : Int), e = .returned (.tuple #[.string ⟨mk.toArray⟩, .int .i64 c]) ∧ mk.length ≤ 32 ∧ Below w.heap.size w w'

set_option maxRecDepth 100000 in
set_option maxHeartbeats 4000000 in
theorem cmore_walk (t : Int) (u y : Value) (L : List M) (S : List Ct.St) (D : List UInt8) (s : Value) (N : List (List UInt8)) (z : Value) (F : List Ct.St) (w : World) (_ : (Lit.int .i64 t).wf = true) (hu : Mems w u L) (_ : L.length * 24 ≤ reachBytes) (hy : Css w y S) (_ : S.length * 48 ≤ reachBytes) (hok : ∀ s ∈ S, OkCs s)
    (_ : D.length ≤ maxLen) (hs : Strs w s N) (hN : N.length ≤ maxLen) (hz : Css w z F) (_ : F.length * 48 ≤ reachBytes) (hokF : ∀ s ∈ F, OkCs s) (hT : Tab w) :
    Calls Tryd.prog 7 #[.agg #[.int .i64 t, u, y], .agg #[.string ⟨D.toArray⟩, s], z] w fun e w' => e = .returned (.bool true) ∧ Below w.heap.size w w' := by
  have hl63 : maxLen = 9223372036854775807 := rfl
  rw [hl63] at hN
  have HU := Lib.hid hu
  have HY := Lib.hid hy
  have HS := Lib.hid hs
  have HFF := Lib.hid hz
  have HTA := Lib.hid hT
  have HOK := Lib.hid hok
  have HOF := Lib.hid hokF
  obtain ⟨A, cap, rfl⟩ := hu.form
  obtain ⟨A2, cap2, rfl⟩ := hy.form
  obtain ⟨A3, cap3, rfl, -⟩ := hs
  obtain ⟨A4, cap4, rfl⟩ := hz.form
  have HX := Lib.hid (boxed2 w (.cells #[.int .i64 t, .slice A L.length cap, .slice A2 S.length cap2] 25) (.cells #[.string ⟨D.toArray⟩, .slice A3 N.length cap3] 28))
  obtain ⟨w2, hw2⟩ : ∃ x, ((w.alloc (.cells #[.int .i64 t, .slice A L.length cap, .slice A2 S.length cap2] 25)).alloc (.cells #[.string ⟨D.toArray⟩, .slice A3 N.length cap3] 28)) = x := ⟨_, rfl⟩
  have hz2 : w2.heap.size = w.heap.size + 2 := by rw [← hw2]; simp
  rw [hw2] at HX
  have HZ := Lib.hid hz2
  have HBZ : Hid (Below (w.heap.size + 2) w2 w2) := Lib.hid (Below.refl _ _)
  have HTR := Lib.hid (fun w' (h : Below (w.heap.size + 2) w2 w') => table_any S (.slice A2 S.length cap2) w' (HY.out.below (HX.out w' h).2.2.1) HOK.out)
  unfold TablePost at HTR
  obtain ⟨T, hTT⟩ : ∃ T, Ct.fillT (S.take 30) = T := ⟨_, rfl⟩
  rw [hTT] at HTR
  have HCC := Lib.hid (fun T g m w' (h : Below (w.heap.size + 2) w2 w') ht => ccheck_any t L (.slice A L.length cap) ⟨D, N⟩ (.slice A3 N.length cap3) g m T w' (HU.out.below (HX.out w' h).2.2.1) (HS.out.below (HX.out w' h).2.2.1) ht (HTA.out.below (HX.out w' h).2.2.1))
  have HGOOD : Hid (∀ T', Ct.checkP t L ⟨D, N⟩ T = 0 → Ct.Sub T T' → Ct.checkP t L ⟨D, N⟩ T' = 0) := Lib.hid (fun T' h hs => Ct.more_good h hs)
  have HC1 := Lib.hid (HCC.out T)
  obtain ⟨R, hR⟩ : ∃ R, Ct.checkP t L ⟨D, N⟩ T = R := ⟨_, rfl⟩
  rw [hR] at HC1 HGOOD
  dsimp only at HC1 HCC
  clear hl63 hT hok hokF hz2 hTT hR
  go_enter Tryd.func7, Tryd.ntmps7
  go_wp2_with fail
  clear hw2
  refine (cworks_any _ (HTA.out.below (HX.out _ HBZ.out).2.2.1)).mono ?_
  rintro e w3 ⟨rfl, hb⟩
  have HB3 : Hid (Below (w.heap.size + 2) w2 w3) := Lib.hid (hb.mono (Nat.le_of_eq HZ.out.symm))
  obtain ⟨c0, c1, c2, -, -, -⟩ := cells3 (HX.out _ HB3.out).1
  clear hb
  go_wp2_with fail
  refine (HTR.out _ HB3.out).mono ?_
  rintro e w4 ⟨g, m, sl, rfl, hg, hm, ht, hos, hb⟩
  have HB4 := Lib.hid (HB3.out.trans (hb.mono (HX.out _ HB3.out).2.2.2))
  have HT4 := Lib.hid ht
  have HM : Hid (w.heap.size + 2 ≤ m) := Lib.hid (Nat.le_trans (HX.out _ HB3.out).2.2.2 hm)
  clear hb ht hos c0 c1 c2 hg hm
  obtain ⟨c0, c1, c2, -, -, -⟩ := cells3 (HX.out _ HB4.out).1
  obtain ⟨d0, d1, -, -⟩ := cells2 (HX.out _ HB4.out).2.1
  by_cases h50 : 50 < N.length
  · have h50' : (50 : Int) < (N.length : Int) := by omega
    clear h50
    go_wp2
    go_ret
    exact ⟨rfl, (HX.out _ HB4.out).2.2.1⟩
  have h50' : ¬ ((50 : Int) < (N.length : Int)) := by omega
  clear h50
  by_cases hRR : R = 0
  case neg =>
    have hR1 : (R == 0) = false := by rw [beq_eq_false_iff_ne]; exact hRR
    have hR2 : (R != 0) = true := by rw [bne_iff_ne]; exact hRR
    clear hRR HGOOD
    go_wp2_with fail
    refine (HC1.out g m _ HB4.out HT4.out).mono ?_
    rintro e w5 ⟨rfl, hb⟩
    have HB5 := Lib.hid (HB4.out.trans (hb.mono (HX.out _ HB4.out).2.2.2))
    go_wp2
    go_ret
    exact ⟨rfl, (HX.out _ HB5.out).2.2.1⟩
  subst hRR
  have HGO1 := Lib.hid (fun T' => HGOOD.out T' rfl)
  clear HGOOD
  go_wp2_with fail
  refine (HC1.out g m _ HB4.out HT4.out).mono ?_
  rintro e w5 ⟨rfl, hb⟩
  have HB5 := Lib.hid (HB4.out.trans (hb.mono (HX.out _ HB4.out).2.2.2))
  have HT5 := Lib.hid (HT4.out.below hb)
  clear hb c0 c1 c2 d0 d1
  go_wp2
  go_loopw [9] (fun i wr => ∃ (k : Nat) (T' : List Ora.Sig), k ≤ 10 ∧ k ≤ F.length ∧ i = .int .i64 k ∧ TabAt wr g m T' ∧ Hid (Ct.Sub T T') ∧ Below (w.heap.size + 2) w2 wr) (fun i _ => 10 - (intOf i).toNat)
  case atStart => exact ⟨0, T, by omega, Nat.zero_le _, rfl, HT5.out, Lib.hid (fun k h => h), HB5.out⟩
  case round =>
    obtain ⟨k, T', hk10, hkF, rfl, ht, HSUB, hb⟩ := hrel
    have HTk := Lib.hid ht
    have HBk := Lib.hid hb
    clear ht hb HT5 HB5
    by_cases hlt : k < F.length ∧ k < 10
    · have h1 : (k : Int) < (F.length : Int) := by omega
      have h2 : (k : Int) < 10 := by omega
      have h0 : (0 : Int) ≤ (k : Int) := by omega
      obtain ⟨b, o, rfl, hblt, -⟩ := HFF.out.at (Below.refl _ w) k hlt.1
      have HC : Hid (∀ w', Below w.heap.size w w' → w'.cell? ⟨b, o + k * 4, none⟩ = some (.int .i64 F[k].tag) ∧ w'.cell? ⟨b, o + k * 4 + 2, none⟩ = some (.string ⟨F[k].sum.toArray⟩)) :=
        Lib.hid (fun w' hb => by obtain ⟨b', o', he, _, q1, q2, q3, _⟩ := HFF.out.at hb k hlt.1; cases he; exact ⟨q1, q3⟩)
      have HC2 : Hid (∀ w', Below w.heap.size w w' → w'.cell? ⟨b, o + k * 4 + 1, none⟩ = some (.string ⟨F[k].who.toArray⟩) ∧ w'.cell? ⟨b, o + k * 4 + 3, none⟩ = some (.bool F[k].dis)) :=
        Lib.hid (fun w' hb => by obtain ⟨b', o', he, _, q1, q2, q3, q4⟩ := HFF.out.at hb k hlt.1; cases he; exact ⟨q2, q4⟩)
      have HO := Lib.hid (HOF.out F[k] (List.getElem_mem hlt.1))
      obtain ⟨⟨tg, x, d, ds⟩, hs⟩ : ∃ s, F[k] = s := ⟨_, rfl⟩
      rw [hs] at HC HC2 HO
      dsimp only at HC HC2
      have htg := HO.out.tag
      have HSM : Hid (∀ (q : Int) w', Below (w.heap.size + 2) w2 w' → Calls Tryd.prog 32 #[.int .i64 q, .string ⟨(Ct.cut d 100).toArray⟩] w' (SomeSum w')) := Lib.hid (fun q w' h => (dsum_any q (Ct.cut d 100) w' (HTA.out.below (HX.out _ h).2.2.1) (by unfold Ct.cut; rw [List.length_take]; omega)).mono fun e w'' ⟨he, hb⟩ => ⟨_, _, he, Dig.sum_length _ _, hb⟩)
      unfold SomeSum at HSM
      have HCU := Lib.hid (fun w => cut_any d 100 w (by omega))
      obtain ⟨dc, hdc⟩ : ∃ x, Ct.cut d 100 = x := ⟨_, rfl⟩
      rw [hdc] at HSM HCU
      have HSG := Lib.hid (fun (mk : List UInt8) (hm : mk.length ≤ 32) w ht => sign_any g m T' (x, mk) (!ds) w ht ⟨HO.out.who, by dsimp only; omega⟩)
      dsimp only at HSG
      obtain ⟨c0, c1⟩ := HC.out wr (HX.out _ HBk.out).2.2.1
      have HBD : Hid (Below (w.heap.size + 2) w2 wr.drew) := Lib.hid HBk.out.drew
      have HTD : Hid (TabAt wr.drew g m T') := Lib.hid (HTk.out.below (Below.refl _ wr).drew)
      clear hs hblt hdc htg
      have HCX : Hid (∀ w', Below (w.heap.size + 2) w2 w' → w'.cell? ⟨b, o + k * 4, none⟩ = some (.int .i64 tg) ∧ w'.cell? ⟨b, o + k * 4 + 2, none⟩ = some (.string ⟨d.toArray⟩)) := Lib.hid (fun w' h => HC.out w' (HX.out _ h).2.2.1)
      have HCX2 : Hid (∀ w', Below (w.heap.size + 2) w2 w' → w'.cell? ⟨b, o + k * 4 + 1, none⟩ = some (.string ⟨x.toArray⟩) ∧ w'.cell? ⟨b, o + k * 4 + 3, none⟩ = some (.bool ds)) := Lib.hid (fun w' h => HC2.out w' (HX.out _ h).2.2.1)
      go_wp2
      go_region_held3 (fun w' => w'.cell? ⟨b, o + k * 4, none⟩ = some (.int .i64 tg) ∧ w'.cell? ⟨b, o + k * 4 + 2, none⟩ = some (.string ⟨d.toArray⟩))
        ((refine HCX.out _ ?_; with_reducible (first | exact hB6 | exact HBD.out | fail)))
        (first | (go_at_call 33; refine (HCU.out _).mono ?_; rintro e w6 ⟨rfl, hw6⟩; cases hw6) | (go_at_call 32; refine (HSM.out _ _ HBD.out).mono ?_; rintro e w6 ⟨mk, c, rfl, hmk, hb6⟩; (have hB6 : Below (w.heap.size + 2) w2 w6 := HBD.out.trans (hb6.mono (HX.out _ HBD.out).2.2.2)); (have HT6 := Lib.hid (HTD.out.below hb6)); (have HMK := Lib.hid hmk); clear hb6 hmk))
      all_goals
        have HB6 := Lib.hid hB6
        obtain ⟨c2, c3⟩ := HCX2.out w6 hB6
        have HBD6 : Hid (Below (w.heap.size + 2) w2 w6.drew) := Lib.hid hB6.drew
        have HTD6 : Hid (TabAt w6.drew g m T') := Lib.hid (HT6.out.below (Below.refl _ w6).drew)
        clear hB6
        by_cases hc : c = 0
        · subst hc
          go_wp2
          go_region_held3 (fun w' => w'.cell? ⟨b, o + k * 4 + 1, none⟩ = some (.string ⟨x.toArray⟩) ∧ w'.cell? ⟨b, o + k * 4 + 3, none⟩ = some (.bool ds))
            ((refine HCX2.out _ ?_; with_reducible (first | exact hB7 | exact HBD6.out | fail)))
            ((go_at_call 34; refine (HSG.out mk HMK.out _ HTD6.out).mono ?_; rintro e w7 ⟨rfl, ht7, ho7⟩; (have hB7 : Below (w.heap.size + 2) w2 w7 := HBD6.out.trans (ho7.below (fun _ hi => hi ▸ HM.out) (HX.out _ HBD6.out).2.2.2)); (have HT7 := Lib.hid ht7); clear ht7 ho7))
          all_goals
            go_wp2
            exact ⟨⟨k + 1, _, by omega, by omega, by go_num, HT7.out, Lib.hid (HSUB.out.sign HTD6.out.rise _ _), hB7⟩, by simp [intOf]; omega⟩
        · have hc1 : (c == 0) = false := by rw [beq_eq_false_iff_ne]; exact hc
          clear hc
          go_wp2
          exact ⟨⟨k + 1, T', by omega, by omega, by go_num, HT6.out, HSUB, HB6.out⟩, by simp [intOf]; omega⟩
    · have HR : Hid (Ct.checkP t L ⟨D, N⟩ T' = 0) := Lib.hid (HGO1.out T' HSUB.out)
      have HC3 := Lib.hid (HCC.out T' g m _ HBk.out HTk.out)
      rw [HR.out] at HC3
      obtain ⟨c0, c1, c2, -, -, -⟩ := cells3 (HX.out _ HBk.out).1
      obtain ⟨d0, d1, -, -⟩ := cells2 (HX.out _ HBk.out).2.1
      by_cases hc : k < F.length
      · have h1 : (k : Int) < (F.length : Int) := by omega
        have h2 : ¬ ((k : Int) < 10) := by omega
        clear hlt hc
        go_wp2_with fail
        refine HC3.out.mono ?_
        rintro e w6 ⟨rfl, hb⟩
        have HB6 := Lib.hid (HBk.out.trans (hb.mono (HX.out _ HBk.out).2.2.2))
        go_wp2
        go_ret
        exact ⟨rfl, (HX.out _ HB6.out).2.2.1⟩
      · have h1 : ¬ ((k : Int) < (F.length : Int)) := by omega
        clear hlt hc
        go_wp2_with fail
        refine HC3.out.mono ?_
        rintro e w6 ⟨rfl, hb⟩
        have HB6 := Lib.hid (HBk.out.trans (hb.mono (HX.out _ HBk.out).2.2.2))
        go_wp2
        go_ret
        exact ⟨rfl, (HX.out _ HB6.out).2.2.1⟩
end Go.Proofs.YtojpkodmpjibkaaDoor
