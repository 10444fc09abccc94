/- The document's Encode, Decode, Digest. -/
import Derived.Test.YtbjfihbjfoaghaaDoorPowRefRead
import Derived.Test.YtbjfihbjfoaghaaDoorPowRef
import Derived.Test.YtbjfihbjfoaghaaDoorDigTag
namespace Go.Proofs.YtbjfihbjfoaghaaDoor
open Go.RowKit
open Go.Proofs.YtbjfihbjfoaghaaDoor.Pw (M)

set_option maxRecDepth 8000 in
set_option maxHeartbeats 2000000 in
theorem rencode_any (L : List M) (v : Value) (w : World) (hv : Mems w v L) :
    Calls Tryd.prog 27 #[v] w fun e w' => e = .returned (.tuple #[.string ⟨(Pw.encL L).toArray⟩, .int .i64 (Pw.checkC L)]) ∧ Below w.heap.size w w' := by
  have HV := Lib.hid hv
  obtain ⟨A, cap, rfl⟩ := hv.form
  have HCK := Lib.hid (rcheck_any L _ w HV.out)
  unfold Pw.encL
  cases hok : Pw.okL L with
  | false =>
    rw [Pw.checkC_bad hok] at HCK ⊢
    rw [if_neg (by simp)]
    clear hok hv
    go_enter Tryd.func27, Tryd.ntmps27
    go_wp2_with fail
    refine HCK.out.mono ?_
    rintro e w1 ⟨rfl, hb⟩
    go_wp2
    go_ret2
    exact ⟨rfl, hb⟩
  | true =>
    rw [Pw.checkC_ok hok] at HCK ⊢
    rw [if_pos rfl]
    have HOK := Lib.hid hok
    have hl7 := (Pw.okL_len hok).2
    have HN := Lib.hid (fun w => rNumber_any L.length (by omega) w)
    have HST := Lib.hid (Pw.encB_take L)
    have HLE := Lib.hid (Pw.encB_le hok)
    have HE : Hid (Pw.encB L = Code.numL L.length ++ (L.take L.length).flatMap Pw.encM) := Lib.hid (by rw [List.take_length]; rfl)
    obtain ⟨E, hE⟩ : ∃ E, Pw.encB L = E := ⟨_, rfl⟩
    obtain ⟨P, hP⟩ : ∃ P, Code.numL L.length = P := ⟨_, rfl⟩
    rw [hP] at HN HST HLE HE
    rw [hE] at HE ⊢
    clear hok hv hE hP
    go_enter Tryd.func27, Tryd.ntmps27
    go_wp2_with fail
    refine HCK.out.mono ?_
    rintro e w1 ⟨rfl, hb1⟩
    go_wp2_with fail
    refine (HN.out _).mono ?_
    rintro e w2 ⟨rfl, hb2⟩
    have HB2 := Lib.hid (bchain hb1 hb2)
    clear hb1 hb2
    go_wp2
    go_loopw [4, 5] (fun s i wr => ∃ k : Nat, k ≤ L.length ∧ i = .int .i64 k ∧ s = .string ⟨(P ++ (L.take k).flatMap Pw.encM).toArray⟩ ∧ Below w.heap.size w wr) (fun _ i _ => L.length - (intOf i).toNat)
    case atStart => exact ⟨0, Nat.zero_le _, rfl, by simp, HB2.out⟩
    case round =>
      obtain ⟨k, hk, rfl, rfl, hb⟩ := hrel
      have HB := Lib.hid hb
      clear hb HB2
      by_cases hlt : k < L.length
      · have h1 : (k : Int) < (L.length : Int) := by omega
        have h0 : (0 : Int) ≤ (k : Int) := by omega
        obtain ⟨b, o, rfl, n0, n1⟩ := HV.out.at HB.out k hlt
        have hst := HST.out k hlt
        have hle := HLE.out k
        have hmem := Pw.okL_mem HOK.out L[k] (List.getElem_mem hlt)
        obtain ⟨⟨x, q⟩, hm⟩ : ∃ m, L[k] = m := ⟨_, rfl⟩
        rw [hm] at n0 n1 hst hmem
        dsimp only at n0 n1 hst hmem
        obtain ⟨n, rfl⟩ : ∃ n : Nat, q = n := ⟨q.toNat, by omega⟩
        simp only [Int.toNat_natCast] at hst
        have HTX := Lib.hid (fun w => rText_any x w (by omega))
        have HNM := Lib.hid (fun w => rNumber_any n (by omega) w)
        have htl : (Code.textL x).length ≤ 20 := by
          have := Pw.numL_le x.length (by omega)
          simp only [Code.textL, List.length_append]; omega
        have hnl := Pw.numL_le n (by omega)
        obtain ⟨X, hX⟩ : ∃ X, Code.textL x = X := ⟨_, rfl⟩
        obtain ⟨Y, hY⟩ : ∃ Y, Code.numL n = Y := ⟨_, rfl⟩
        rw [hX] at HTX hst htl
        rw [hY] at HNM hst hnl
        obtain ⟨S, hS⟩ : ∃ S, P ++ (L.take k).flatMap Pw.encM = S := ⟨_, rfl⟩
        rw [hS] at hst hle ⊢
        have hcm1 := cat_mk S X
        have hcm2 := cat_mk (S ++ X) Y
        have hxy : (S ++ X).length ≤ 300 := by rw [List.length_append]; omega
        rw [← List.append_assoc] at hst
        obtain ⟨Z, hZ⟩ : ∃ Z, S ++ X = Z := ⟨_, rfl⟩
        rw [hZ] at hcm1 hcm2 hst hxy
        obtain ⟨S2, hS2⟩ : ∃ S2, Z ++ Y = S2 := ⟨_, rfl⟩
        rw [hS2] at hcm2 hst
        have HST2 := Lib.hid hst
        have HC1 : Hid (∀ w', Below wr.heap.size wr w' → w'.cell? ⟨b, o + k * 2 + 1, none⟩ = some (.int .i64 (n : Int))) := Lib.hid (fun w' hb => (hb.cell (block_lt_of_cell n1)).trans n1)
        have HBD : Hid (Below wr.heap.size wr wr.drew) := Lib.hid (Below.refl _ wr).drew
        clear hm hX hY hS hZ hS2 hst hmem
        go_wp2_with fail
        go_region_with (first | (go_at_call 39; refine (HTX.out _).mono ?_; rintro e wa ⟨rfl, hba⟩; have hBa : Below wr.heap.size wr wa := bchain HBD.out hba; have hca := HC1.out wa hBa) | (go_at_call 38; refine (HNM.out _).mono ?_; rintro e wb ⟨rfl, hbb⟩))
        all_goals
          have hbn := bchain HB.out (bchain hBa hbb)
          clear hba hbb hBa hca
          go_wp2
          exact ⟨⟨k + 1, by omega, by go_num, by rw [HST2.out], hbn⟩, by simp [intOf]; omega⟩
      · have h1 : ¬ ((k : Int) < (L.length : Int)) := by omega
        obtain rfl : k = L.length := by omega
        rw [← HE.out]
        go_wp2
        go_ret2
        exact ⟨rfl, HB.out⟩

set_option maxRecDepth 8000 in
theorem rdigest_any (L : List M) (v : Value) (w : World) (hv : Mems w v L) :
    Calls Tryd.prog 32 #[v] w fun e w' => e = .returned (.string ⟨(Pw.digL L).toArray⟩) ∧ Below w.heap.size w w' := by
  have HEN := Lib.hid (rencode_any L v w hv)
  have hle := Pw.encL_le L
  obtain ⟨A, cap, rfl⟩ := hv.form
  cases hok : Pw.okL L with
  | false =>
    rw [Pw.checkC_bad hok, show Pw.encL L = [] by simp [Pw.encL, hok]] at HEN
    rw [show Pw.digL L = [] by simp [Pw.digL, hok]]
    clear hok hv hle
    go_enter Tryd.func32, Tryd.ntmps32
    go_wp2_with fail
    refine HEN.out.mono ?_
    rintro e w1 ⟨rfl, hb⟩
    go_wp2
    go_ret
    exact ⟨rfl, hb⟩
  | true =>
    have e1 : Pw.encL L = Pw.encB L := by simp [Pw.encL, hok]
    rw [Pw.checkC_ok hok, e1] at HEN
    rw [e1] at hle
    rw [show Pw.digL L = Sha.sumP (Sha.byteOf 4 :: Pw.encB L) by simp [Pw.digL, hok]]
    have HD := Lib.hid (fun w => rTagged_any 4 (Pw.encB L) w (by omega))
    obtain ⟨E, hE⟩ : ∃ E, Pw.encB L = E := ⟨_, rfl⟩
    rw [hE] at HEN HD hle ⊢
    obtain ⟨D, hD⟩ : ∃ D, Sha.sumP (Sha.byteOf 4 :: E) = D := ⟨_, rfl⟩
    rw [hD] at HD ⊢
    clear hok hv hE hD e1
    go_enter Tryd.func32, Tryd.ntmps32
    go_wp2_with fail
    refine HEN.out.mono ?_
    rintro e w1 ⟨rfl, hb⟩
    go_wp2_with fail
    refine (HD.out _).mono ?_
    rintro e w2 ⟨rfl, hb2⟩
    go_wp2
    go_ret
    exact ⟨rfl, bchain hb hb2⟩

/-- The document's reader in block g, the row t of members. -/
structure RDecAt (w : World) (B g : Nat) (t : Value) (L : List M) (st : Pw.St) : Prop where
  rd : RRd w g st.1 st.2
  row : OwnM w B t L
  apart : t.ownBlock ≠ some g
  from_ : B ≤ g
theorem RDecAt.read {w w' : World} {B g : Nat} {t : Value} {L : List M} {st st' : Pw.St} (h : RDecAt w B g t L st) (hr : RRd w' g st'.1 st'.2) (ho : Only g w w') : RDecAt w' B g t L st' :=
  ⟨hr, row_keep h.row ho.out (fun _ hk e => h.apart (e ▸ hk)), h.apart, h.from_⟩
theorem RDecAt.below {w w' : World} {B g : Nat} {t : Value} {L : List M} {st : Pw.St} (h : RDecAt w B g t L st) (hb : Below w.heap.size w w') : RDecAt w' B g t L st :=
  ⟨h.rd.below hb, h.row.below hb, h.apart, h.from_⟩
theorem RDecAt.append {w w0 w' : World} {B g g' H n cap : Nat} {t : Value} {L : List M} {st : Pw.St} {m : M} (h : RDecAt w B g t L st) (hb : Below w.heap.size w w0) (hg : w0.grownBy w' t.ownBlock) (hown : w'.ownsRow B 43 2 (.slice (some ⟨g', 0, none⟩) n cap) n (mrows L ++ mcells m)) (hn : n = L.length + 1) (hat : t.ownBlock = some g' ∨ g' = H) (hH : w.heap.size ≤ H) : RDecAt w' B g (.slice (some ⟨g', 0, none⟩) n cap) (L ++ [m]) st := by
  have h0 := h.below hb
  have hlt := h.rd.lt
  refine ⟨?_, ?_, ?_, h.from_⟩
  · have ho := Out.grown hg (F := fun k => t.ownBlock = some k) (fun _ e => e)
    exact (ho.block g h0.rd.lt (fun e => h.apart e)).trans h0.rd
  · unfold OwnM
    rw [mrows_append, List.length_append, show mrows [m] = mcells m by simp [mrows]]
    subst hn
    exact hown
  · intro e
    simp [Value.ownBlock] at e
    subst e
    rcases hat with h1 | h1
    · exact h.apart h1
    · omega
theorem RDecAt.bel {w w' : World} {B g : Nat} {t : Value} {L : List M} {st : Pw.St} (h : RDecAt w B g t L st) (hB : B ≤ w.heap.size) (ho : Only g w w') : Below B w w' := ho.below h.from_ hB

theorem Pw.endC_ok {st : Pw.St} (h : Pw.endC st = 0) : st.2 = 0 ∧ st.1 = [] := by
  unfold Pw.endC at h
  split at h
  · simp at h
  · rename_i h3
    refine ⟨h, ?_⟩
    by_cases he : st.1 = []
    · exact he
    · exact absurd ⟨h, he⟩ h3
theorem Pw.decOK_iff (s : List UInt8) : Pw.decOK s = true ↔ Pw.decN s ≤ 7 ∧ (Pw.decR s).2.2 = 0 ∧ Pw.okL (Pw.decR s).1 = true ∧ Pw.encB (Pw.decR s).1 = s := by
  constructor
  · intro h
    have h2 := Pw.dec_enc h
    have h' := h
    simp only [Pw.decOK, Bool.and_eq_true, decide_eq_true_eq] at h'
    have e : Pw.decL s = (Pw.decR s).1 := by unfold Pw.decL; rw [if_pos h]
    rw [e] at h2
    exact ⟨h'.1.1, (Pw.endC_ok h'.1.2).1, h2.1, h2.2⟩
  · rintro ⟨h1, h2, h3, h4⟩
    have h5 := Pw.decR_ok h2
    have h6 : (Pw.decR s).2.1 = [] := by
      have h7 := congrArg List.length h5
      rw [List.length_append, h4] at h7
      exact List.eq_nil_of_length_eq_zero (by omega)
    simp only [Pw.decOK, Bool.and_eq_true, decide_eq_true_eq]
    exact ⟨⟨h1, by simp [Pw.endC, h2, h6]⟩, h3⟩
theorem Pw.decR_first {s : List UInt8} (h : (Pw.decR s).2.2 = 0) : (Pw.rdN (s, 0)).2.2 = 0 := (Pw.rdMs_ok h).1

set_option maxRecDepth 8000 in
set_option maxHeartbeats 2000000 in
theorem rdecode_any (s : List UInt8) (w : World) (hl : s.length ≤ 1000000) :
    Calls Tryd.prog 29 #[.string ⟨s.toArray⟩] w (DecPost s w) := by
  obtain ⟨i0, hi, hz0, hz1, hz2⟩ := info_parts Tryd.infoMember
  have HN := Lib.hid (fun g w h => rrnum_st (s, 0) g w h (by dsimp only; omega))
  have hn63 := Pw.rdN_lt (s, 0)
  have HRL := Lib.hid (fun k => Nat.le_trans (Pw.rdMs_le k (Pw.rdN (s, 0)).2) (Pw.rdN_le (s, 0)))
  have HDN : Hid (Pw.decN s = (Pw.rdN (s, 0)).1) := Lib.hid rfl
  have HDR : Hid (Pw.decR s = Pw.rdMs (Pw.decN s) (Pw.rdN (s, 0)).2) := Lib.hid rfl
  have HFI := Lib.hid (@Pw.decR_first s)
  have HIFF := Lib.hid (Pw.decOK_iff s)
  obtain ⟨⟨n, st⟩, hp⟩ : ∃ p, Pw.rdN (s, 0) = p := ⟨_, rfl⟩
  rw [hp] at HN hn63 HRL HDN HDR HFI
  obtain ⟨s1, c1⟩ := st
  dsimp only at HN hn63 HRL HDN HDR HFI
  rw [HDN.out] at HDR
  have hn : (n : Int) ≤ 9223372036854775807 := by omega
  have HL := Lib.hid hl
  clear hp hn63 hl
  go_enter Tryd.func29, Tryd.ntmps29
  go_wp2_with fail
  have hr0 : RRd (w.alloc (.cells #[.string ⟨s.toArray⟩, .int .i64 0] 57)) w.heap.size s 0 := heap_new_at _ _ _ rfl
  have hb0 : Below w.heap.size w (w.alloc (.cells #[.string ⟨s.toArray⟩, .int .i64 0] 57)) := (Below.refl _ w).alloc (Nat.le_refl _) _
  obtain ⟨G, hG⟩ : ∃ G, w.heap.size = G := ⟨_, rfl⟩
  rw [hG] at hr0 hb0
  have HG := Lib.hid hG
  have HB1 := Lib.hid hb0
  have HG1 := Lib.hid (Nat.le_of_lt hr0.lt)
  have HR0 := Lib.hid hr0
  rw [hG]
  clear hG hr0 hb0
  generalize w.alloc (.cells #[.string ⟨s.toArray⟩, .int .i64 0] 57) = w1 at *
  refine (HN.out G w1 HR0.out).mono ?_
  rintro e w2 ⟨rfl, hr2, ho2⟩
  have HB2 : Hid (Below G w w2) := Lib.hid (HB1.out.trans (ho2.below (Nat.le_refl _) HG1.out))
  have HD2 : Hid (RDecAt w2 G G (.slice none 0 0) [] (s1, c1)) := Lib.hid ⟨hr2, OwnM.nil _ _, by simp [Value.ownBlock], Nat.le_refl _⟩
  have g1 := hr2.code
  clear hr2 ho2
  by_cases hc1 : c1 ≠ 0
  · have hc1' : (c1 != 0) = true := by rw [bne_iff_ne]; exact hc1
    have HF : Hid (Pw.decOK s = false) := Lib.hid (by
      rw [Bool.eq_false_iff]
      intro h
      exact hc1 (HFI.out (HIFF.out.1 h).2.1))
    go_wp2
    go_ret2
    exact decPost_bad HF.out (by rw [HG.out]; exact HB2.out)
  obtain rfl : c1 = 0 := by omega
  clear hc1
  by_cases h7 : 7 < n
  · have h7' : (7 : Int) < (n : Int) := by omega
    have HF : Hid (Pw.decOK s = false) := Lib.hid (by
      rw [Bool.eq_false_iff]
      intro h
      have := (HIFF.out.1 h).1
      rw [HDN.out] at this
      omega)
    go_wp2
    go_ret2
    exact decPost_bad HF.out (by rw [HG.out]; exact HB2.out)
  · have h7' : ¬ ((7 : Int) < (n : Int)) := by omega
    go_wp2
    clear g1
    go_loopw [6, 7] (fun t i wr => ∃ (k : Nat) (u : Value), u = t ∧ k ≤ n ∧ i = .int .i64 k ∧ RDecAt wr G G u (Pw.rdMs k (s1, 0)).1 (Pw.rdMs k (s1, 0)).2 ∧ Below G w wr) (fun _ i _ => n - (intOf i).toNat)
    case atStart => exact ⟨0, _, rfl, Nat.zero_le _, rfl, HD2.out, HB2.out⟩
    case round =>
      obtain ⟨k, u, rfl, hk, rfl, hd, hb⟩ := hrel
      have HD := Lib.hid hd
      have HB := Lib.hid hb
      have HKL := Lib.hid (Pw.rdMs_length k (s1, 0))
      have HGS : Hid (G ≤ wr.heap.size) := Lib.hid (Nat.le_of_lt hd.rd.lt)
      clear hd hb HD2 HB2 HR0 HB1
      by_cases hlt : k < n
      · have h1 : (k : Int) < (n : Int) := by omega
        have HSN1 : Hid ((Pw.rdMs (k + 1) (s1, 0)).1 = (Pw.rdMs k (s1, 0)).1 ++ [(Pw.rdM (Pw.rdMs k (s1, 0)).2).1]) := Lib.hid rfl
        have HSN2 : Hid ((Pw.rdMs (k + 1) (s1, 0)).2 = (Pw.rdM (Pw.rdMs k (s1, 0)).2).2) := Lib.hid rfl
        have HLE := Lib.hid (Nat.le_trans (HRL.out k) (Nat.le_trans HL.out (by omega : 1000000 ≤ 100000000)))
        obtain ⟨⟨Q, q⟩, hq⟩ : ∃ q, Pw.rdMs k (s1, 0) = q := ⟨_, rfl⟩
        rw [hq] at HD HKL HSN1 HSN2 HLE
        dsimp only at HD HKL HSN1 HSN2 HLE
        have HT := Lib.hid (fun w h => rrtext_st q G w h HLE.out)
        have HNN := Lib.hid (fun w h => rrnum_st (Pw.rdT q).2 G w h (Nat.le_trans (Pw.rdT_le q) HLE.out))
        have HM : Hid (Pw.rdM q = (⟨(Pw.rdT q).1, ((Pw.rdN (Pw.rdT q).2).1 : Nat)⟩, (Pw.rdN (Pw.rdT q).2).2)) := Lib.hid rfl
        obtain ⟨⟨x, q1⟩, hx⟩ : ∃ p, Pw.rdT q = p := ⟨_, rfl⟩
        rw [hx] at HT HNN HM
        dsimp only at HT HNN HM
        obtain ⟨⟨p, q2⟩, hp⟩ : ∃ p, Pw.rdN q1 = p := ⟨_, rfl⟩
        rw [hp] at HNN HM
        dsimp only at HNN HM
        rw [HM.out] at HSN1 HSN2
        clear hq hx hp
        have HQ7 : Hid (Q.length ≤ 7) := Lib.hid (by have := HKL.out; omega)
        go_wp2_with fail
        refine (HT.out _ HD.out.rd).mono ?_
        rintro e w3 ⟨rfl, hr3, ho3⟩
        have HD3 := Lib.hid (HD.out.read (st' := q1) hr3 ho3)
        have HB3 := Lib.hid (HB.out.trans (HD.out.bel HGS.out ho3))
        clear hr3 ho3
        go_wp2_with fail
        refine (HNN.out _ HD3.out.rd).mono ?_
        rintro e w4 ⟨rfl, hr4, ho4⟩
        have HD4 := Lib.hid (HD3.out.read (st' := q2) hr4 ho4)
        have HB4 := Lib.hid (HB3.out.trans (HD3.out.bel (Nat.le_of_lt HD3.out.rd.lt) ho4))
        have HG4 : Hid (G ≤ w4.heap.size) := Lib.hid (Nat.le_of_lt HD4.out.rd.lt)
        clear hr4 ho4
        go_wp2_with (at_builtin; refine wpList_append_lies _ rfl _ _ _ rfl G 43 i0 (.agg #[.string ⟨#[]⟩, .int .i64 0]) 2 24 Tryd.underlying22 hi hz0 hz1 hz2 rfl (by decide) u Q.length (mrows Q) (by first | rfl | (simp; done)) (World.ownsRow.alloc HD4.out.row _) ⟨w4.heap.size, 0, none⟩ 1 1 (mcells ⟨x, (p : Nat)⟩) (by rfl) rfl (World.news_of_block (heap_new_at _ _ _ rfl)) (by simp [mcells, Value.oneCell']) (by decide) (by have := HQ7.out; unfold maxLen; omega) (by have := HQ7.out; omega) (by have := HG4.out; simp; omega) (w4.heap.size + 1) (by simp) ?_; intro g' cap' w5 hown5 hgrow5 hat5 hlt5)
        have hb4 := (Below.refl w4.heap.size w4).alloc (Nat.le_refl _) (.cells #[.string ⟨x.toArray⟩, .int .i64 (p : Nat)] 43)
        have hd5 := HD4.out.append hb4 hgrow5 hown5 rfl hat5 (by omega)
        have hb5 : Below G w w5 := by
          have h3 : Out (fun j => u.ownBlock = some j) w4 w5 := (Out.of hb4).trans (Out.grown hgrow5 (fun _ e => e))
          exact HB4.out.trans (h3.below (fun j hj => (World.ownsRow.lt HD4.out.row j hj).1) HG4.out)
        exact ⟨⟨k + 1, _, rfl, by omega, by go_num, by rw [HSN1.out, HSN2.out]; exact hd5, hb5⟩, by simp [intOf]; omega⟩
      · have h1 : ¬ ((k : Int) < (n : Int)) := by omega
        obtain rfl : k = n := by omega
        rw [← HDR.out] at HD
        have HN7 : Hid (Pw.decN s ≤ 7) := Lib.hid (by rw [HDN.out]; omega)
        have HDL : Hid (Pw.decOK s = true → Pw.decL s = (Pw.decR s).1 ∧ Pw.decC s = 0) := Lib.hid (fun h => by simp [Pw.decL, Pw.decC, h])
        obtain ⟨⟨Q, ⟨q, c⟩⟩, hq⟩ : ∃ q, Pw.decR s = q := ⟨_, rfl⟩
        rw [hq] at HD HIFF HDL
        dsimp only at HD HIFF HDL
        have HEN := Lib.hid (fun w h => rencode_any Q u w h)
        have HEL : Hid (Pw.okL Q = true → Pw.encL Q = Pw.encB Q) := Lib.hid (fun h => by simp [Pw.encL, h])
        clear hq
        obtain ⟨E, hE⟩ : ∃ E, Pw.encL Q = E := ⟨_, rfl⟩
        rw [hE] at HEN HEL
        clear hE
        go_wp2_with fail
        refine (HEN.out _ HD.out.row.mems).mono ?_
        rintro e w3 ⟨rfl, hb3⟩
        have HD3 := Lib.hid (HD.out.below hb3)
        have HB3 := Lib.hid (HB.out.trans (hb3.mono HGS.out))
        have g1 := HD3.out.rd.code
        clear hb3
        by_cases hc : c ≠ 0
        · have hc' : (c != 0) = true := by rw [bne_iff_ne]; exact hc
          have HF : Hid (Pw.decOK s = false) := Lib.hid (by
            rw [Bool.eq_false_iff]; intro h; exact hc (HIFF.out.1 h).2.1)
          dsimp only at g1
          go_wp2
          go_ret2
          exact decPost_bad HF.out (by rw [HG.out]; exact HB3.out)
        obtain rfl : c = 0 := by omega
        clear hc
        dsimp only at g1
        cases hQ : Pw.okL Q with
        | false =>
          have HF : Hid (Pw.decOK s = false) := Lib.hid (by
            rw [Bool.eq_false_iff]; intro h; have := (HIFF.out.1 h).2.2.1; rw [hQ] at this; cases this)
          rw [Pw.checkC_bad hQ]
          clear hQ
          go_wp2
          go_ret2
          exact decPost_bad HF.out (by rw [HG.out]; exact HB3.out)
        | true =>
          have HE := Lib.hid (HEL.out hQ)
          rw [Pw.checkC_ok hQ]
          by_cases he : E = s
          · subst he
            have HF := Lib.hid (HDL.out (HIFF.out.2 ⟨HN7.out, rfl, hQ, HE.out.symm⟩))
            clear hQ
            go_wp2
            go_ret2
            refine ⟨u, ?_, ?_, ?_⟩
            · rw [HF.out.2]; rfl
            · rw [HF.out.1, HG.out]; exact HD3.out.row
            · rw [HG.out]; exact HB3.out
          · have he' : (E == s) = false := by rw [beq_eq_false_iff_ne]; exact he
            have HF : Hid (Pw.decOK s = false) := Lib.hid (by
              rw [Bool.eq_false_iff]; intro h; exact he (HE.out.trans (HIFF.out.1 h).2.2.2))
            clear hQ
            go_wp2
            go_ret2
            exact decPost_bad HF.out (by rw [HG.out]; exact HB3.out)
end Go.Proofs.YtbjfihbjfoaghaaDoor
