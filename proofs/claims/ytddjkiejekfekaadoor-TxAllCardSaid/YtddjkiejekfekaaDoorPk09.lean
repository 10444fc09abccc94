/- PowRefDec, TxRefWritten -/
import Derived.Test.YtddjkiejekfekaaDoorPk07
import Derived.Test.YtddjkiejekfekaaDoorPk05
import Derived.Test.YtddjkiejekfekaaDoorPk06
import Derived.Test.YtddjkiejekfekaaDoorPk08
namespace Go.Proofs.YtddjkiejekfekaaDoor
open Go.RowKit
open Go.Proofs.YtddjkiejekfekaaDoor.Pw (M)

set_option maxRecDepth 8000 in
set_option maxHeartbeats 2000000 in
theorem rencode_any (L : List M) (v : Value) (w : World) (hv : Mems w v L) :
    Calls Tryd.prog 57 #[v] w fun e w' => e = .returned (.tuple #[.string ⟨(Pw.encL L).toArray⟩, .int .i64 (Pw.checkC L)]) ∧ Below w.heap.size w w' := by
  have HV := Lib.hid hv
  obtain ⟨A, cap, rfl⟩ := hv.form
  have HCK := Lib.hid (rcheck_any L _ w HV.out)
  unfold Pw.encL
  cases hok : Pw.okL L with
  | false =>
    rw [Pw.checkC_bad hok] at HCK ⊢
    rw [if_neg (by simp)]
    clear hok hv
    go_enter Tryd.func57, Tryd.ntmps57
    go_wp2_with fail
    refine HCK.out.mono ?_
    rintro e w1 ⟨rfl, hb⟩
    go_wp2
    go_ret2
    exact ⟨rfl, hb⟩
  | true =>
    rw [Pw.checkC_ok hok] at HCK ⊢
    rw [if_pos rfl]
    have HOK := Lib.hid hok
    have hl7 := (Pw.okL_len hok).2
    have HN := Lib.hid (fun w => rNumber_any L.length (by omega) w)
    have HST := Lib.hid (Pw.encB_take L)
    have HLE := Lib.hid (Pw.encB_le hok)
    have HE : Hid (Pw.encB L = Code.numL L.length ++ (L.take L.length).flatMap Pw.encM) := Lib.hid (by rw [List.take_length]; rfl)
    obtain ⟨E, hE⟩ : ∃ E, Pw.encB L = E := ⟨_, rfl⟩
    obtain ⟨P, hP⟩ : ∃ P, Code.numL L.length = P := ⟨_, rfl⟩
    rw [hP] at HN HST HLE HE
    rw [hE] at HE ⊢
    clear hok hv hE hP
    go_enter Tryd.func57, Tryd.ntmps57
    go_wp2_with fail
    refine HCK.out.mono ?_
    rintro e w1 ⟨rfl, hb1⟩
    go_wp2_with fail
    refine (HN.out _).mono ?_
    rintro e w2 ⟨rfl, hb2⟩
    have HB2 := Lib.hid (bchain hb1 hb2)
    clear hb1 hb2
    go_wp2
    go_loopw [4, 5] (fun s i wr => ∃ k : Nat, k ≤ L.length ∧ i = .int .i64 k ∧ s = .string ⟨(P ++ (L.take k).flatMap Pw.encM).toArray⟩ ∧ Below w.heap.size w wr) (fun _ i _ => L.length - (intOf i).toNat)
    case atStart => exact ⟨0, Nat.zero_le _, rfl, by simp, HB2.out⟩
    case round =>
      obtain ⟨k, hk, rfl, rfl, hb⟩ := hrel
      have HB := Lib.hid hb
      clear hb HB2
      by_cases hlt : k < L.length
      · have h1 : (k : Int) < (L.length : Int) := by omega
        have h0 : (0 : Int) ≤ (k : Int) := by omega
        obtain ⟨b, o, rfl, n0, n1⟩ := HV.out.at HB.out k hlt
        have hst := HST.out k hlt
        have hle := HLE.out k
        have hmem := Pw.okL_mem HOK.out L[k] (List.getElem_mem hlt)
        obtain ⟨⟨x, q⟩, hm⟩ : ∃ m, L[k] = m := ⟨_, rfl⟩
        rw [hm] at n0 n1 hst hmem
        dsimp only at n0 n1 hst hmem
        obtain ⟨n, rfl⟩ : ∃ n : Nat, q = n := ⟨q.toNat, by omega⟩
        simp only [Int.toNat_natCast] at hst
        have HTX := Lib.hid (fun w => rText_any x w (by omega))
        have HNM := Lib.hid (fun w => rNumber_any n (by omega) w)
        have htl : (Code.textL x).length ≤ 20 := by
          have := Pw.numL_le x.length (by omega)
          simp only [Code.textL, List.length_append]; omega
        have hnl := Pw.numL_le n (by omega)
        obtain ⟨X, hX⟩ : ∃ X, Code.textL x = X := ⟨_, rfl⟩
        obtain ⟨Y, hY⟩ : ∃ Y, Code.numL n = Y := ⟨_, rfl⟩
        rw [hX] at HTX hst htl
        rw [hY] at HNM hst hnl
        obtain ⟨S, hS⟩ : ∃ S, P ++ (L.take k).flatMap Pw.encM = S := ⟨_, rfl⟩
        rw [hS] at hst hle ⊢
        have hcm1 := cat_mk S X
        have hcm2 := cat_mk (S ++ X) Y
        have hxy : (S ++ X).length ≤ 300 := by rw [List.length_append]; omega
        rw [← List.append_assoc] at hst
        obtain ⟨Z, hZ⟩ : ∃ Z, S ++ X = Z := ⟨_, rfl⟩
        rw [hZ] at hcm1 hcm2 hst hxy
        obtain ⟨S2, hS2⟩ : ∃ S2, Z ++ Y = S2 := ⟨_, rfl⟩
        rw [hS2] at hcm2 hst
        have HST2 := Lib.hid hst
        have HC1 : Hid (∀ w', Below wr.heap.size wr w' → w'.cell? ⟨b, o + k * 2 + 1, none⟩ = some (.int .i64 (n : Int))) := Lib.hid (fun w' hb => (hb.cell (block_lt_of_cell n1)).trans n1)
        have HBD : Hid (Below wr.heap.size wr wr.drew) := Lib.hid (Below.refl _ wr).drew
        clear hm hX hY hS hZ hS2 hst hmem
        go_wp2_with fail
        go_region_with (first | (go_at_call 55; refine (HTX.out _).mono ?_; rintro e wa ⟨rfl, hba⟩; have hBa : Below wr.heap.size wr wa := bchain HBD.out hba; have hca := HC1.out wa hBa) | (go_at_call 56; refine (HNM.out _).mono ?_; rintro e wb ⟨rfl, hbb⟩))
        all_goals
          have hbn := bchain HB.out (bchain hBa hbb)
          clear hba hbb hBa hca
          go_wp2
          exact ⟨⟨k + 1, by omega, by go_num, by rw [HST2.out], hbn⟩, by simp [intOf]; omega⟩
      · have h1 : ¬ ((k : Int) < (L.length : Int)) := by omega
        obtain rfl : k = L.length := by omega
        rw [← HE.out]
        go_wp2
        go_ret2
        exact ⟨rfl, HB.out⟩

/-- The document's reader in block g, the row t of members. -/
structure RDecAt (w : World) (B g : Nat) (t : Value) (L : List M) (st : Pw.St) : Prop where
  rd : RRd w g st.1 st.2
  row : OwnM w B t L
  apart : t.ownBlock ≠ some g
  from_ : B ≤ g
theorem RDecAt.read {w w' : World} {B g : Nat} {t : Value} {L : List M} {st st' : Pw.St} (h : RDecAt w B g t L st) (hr : RRd w' g st'.1 st'.2) (ho : Only g w w') : RDecAt w' B g t L st' :=
  ⟨hr, row_keep h.row ho.out (fun _ hk e => h.apart (e ▸ hk)), h.apart, h.from_⟩
theorem RDecAt.below {w w' : World} {B g : Nat} {t : Value} {L : List M} {st : Pw.St} (h : RDecAt w B g t L st) (hb : Below w.heap.size w w') : RDecAt w' B g t L st :=
  ⟨h.rd.below hb, h.row.below hb, h.apart, h.from_⟩
theorem RDecAt.append {w w0 w' : World} {B g g' H n cap : Nat} {t : Value} {L : List M} {st : Pw.St} {m : M} (h : RDecAt w B g t L st) (hb : Below w.heap.size w w0) (hg : w0.grownBy w' t.ownBlock) (hown : w'.ownsRow B 44 2 (.slice (some ⟨g', 0, none⟩) n cap) n (mrows L ++ mcells m)) (hn : n = L.length + 1) (hat : t.ownBlock = some g' ∨ g' = H) (hH : w.heap.size ≤ H) : RDecAt w' B g (.slice (some ⟨g', 0, none⟩) n cap) (L ++ [m]) st := by
  have h0 := h.below hb
  have hlt := h.rd.lt
  refine ⟨?_, ?_, ?_, h.from_⟩
  · have ho := Out.grown hg (F := fun k => t.ownBlock = some k) (fun _ e => e)
    exact (ho.block g h0.rd.lt (fun e => h.apart e)).trans h0.rd
  · unfold OwnM
    rw [mrows_append, List.length_append, show mrows [m] = mcells m by simp [mrows]]
    subst hn
    exact hown
  · intro e
    simp [Value.ownBlock] at e
    subst e
    rcases hat with h1 | h1
    · exact h.apart h1
    · omega
theorem RDecAt.bel {w w' : World} {B g : Nat} {t : Value} {L : List M} {st : Pw.St} (h : RDecAt w B g t L st) (hB : B ≤ w.heap.size) (ho : Only g w w') : Below B w w' := ho.below h.from_ hB

theorem Pw.endC_ok {st : Pw.St} (h : Pw.endC st = 0) : st.2 = 0 ∧ st.1 = [] := by
  unfold Pw.endC at h
  split at h
  · simp at h
  · rename_i h3
    refine ⟨h, ?_⟩
    by_cases he : st.1 = []
    · exact he
    · exact absurd ⟨h, he⟩ h3
theorem Pw.decOK_iff (s : List UInt8) : Pw.decOK s = true ↔ Pw.decN s ≤ 7 ∧ (Pw.decR s).2.2 = 0 ∧ Pw.okL (Pw.decR s).1 = true ∧ Pw.encB (Pw.decR s).1 = s := by
  constructor
  · intro h
    have h2 := Pw.dec_enc h
    have h' := h
    simp only [Pw.decOK, Bool.and_eq_true, decide_eq_true_eq] at h'
    have e : Pw.decL s = (Pw.decR s).1 := by unfold Pw.decL; rw [if_pos h]
    rw [e] at h2
    exact ⟨h'.1.1, (Pw.endC_ok h'.1.2).1, h2.1, h2.2⟩
  · rintro ⟨h1, h2, h3, h4⟩
    have h5 := Pw.decR_ok h2
    have h6 : (Pw.decR s).2.1 = [] := by
      have h7 := congrArg List.length h5
      rw [List.length_append, h4] at h7
      exact List.eq_nil_of_length_eq_zero (by omega)
    simp only [Pw.decOK, Bool.and_eq_true, decide_eq_true_eq]
    exact ⟨⟨h1, by simp [Pw.endC, h2, h6]⟩, h3⟩
theorem Pw.decR_first {s : List UInt8} (h : (Pw.decR s).2.2 = 0) : (Pw.rdN (s, 0)).2.2 = 0 := (Pw.rdMs_ok h).1

set_option maxRecDepth 8000 in
set_option maxHeartbeats 2000000 in
theorem rdecode_any (s : List UInt8) (w : World) (hl : s.length ≤ 1000000) :
    Calls Tryd.prog 39 #[.string ⟨s.toArray⟩] w (DecPost s w) := by
  obtain ⟨i0, hi, hz0, hz1, hz2⟩ := info_parts Tryd.infoMember
  have HN := Lib.hid (fun g w h => rrnum_st (s, 0) g w h (by dsimp only; omega))
  have hn63 := Pw.rdN_lt (s, 0)
  have HRL := Lib.hid (fun k => Nat.le_trans (Pw.rdMs_le k (Pw.rdN (s, 0)).2) (Pw.rdN_le (s, 0)))
  have HDN : Hid (Pw.decN s = (Pw.rdN (s, 0)).1) := Lib.hid rfl
  have HDR : Hid (Pw.decR s = Pw.rdMs (Pw.decN s) (Pw.rdN (s, 0)).2) := Lib.hid rfl
  have HFI := Lib.hid (@Pw.decR_first s)
  have HIFF := Lib.hid (Pw.decOK_iff s)
  obtain ⟨⟨n, st⟩, hp⟩ : ∃ p, Pw.rdN (s, 0) = p := ⟨_, rfl⟩
  rw [hp] at HN hn63 HRL HDN HDR HFI
  obtain ⟨s1, c1⟩ := st
  dsimp only at HN hn63 HRL HDN HDR HFI
  rw [HDN.out] at HDR
  have hn : (n : Int) ≤ 9223372036854775807 := by omega
  have HL := Lib.hid hl
  clear hp hn63 hl
  go_enter Tryd.func39, Tryd.ntmps39
  go_wp2_with fail
  have hr0 : RRd (w.alloc (.cells #[.string ⟨s.toArray⟩, .int .i64 0] 58)) w.heap.size s 0 := heap_new_at _ _ _ rfl
  have hb0 : Below w.heap.size w (w.alloc (.cells #[.string ⟨s.toArray⟩, .int .i64 0] 58)) := (Below.refl _ w).alloc (Nat.le_refl _) _
  obtain ⟨G, hG⟩ : ∃ G, w.heap.size = G := ⟨_, rfl⟩
  rw [hG] at hr0 hb0
  have HG := Lib.hid hG
  have HB1 := Lib.hid hb0
  have HG1 := Lib.hid (Nat.le_of_lt hr0.lt)
  have HR0 := Lib.hid hr0
  rw [hG]
  clear hG hr0 hb0
  generalize w.alloc (.cells #[.string ⟨s.toArray⟩, .int .i64 0] 58) = w1 at *
  refine (HN.out G w1 HR0.out).mono ?_
  rintro e w2 ⟨rfl, hr2, ho2⟩
  have HB2 : Hid (Below G w w2) := Lib.hid (HB1.out.trans (ho2.below (Nat.le_refl _) HG1.out))
  have HD2 : Hid (RDecAt w2 G G (.slice none 0 0) [] (s1, c1)) := Lib.hid ⟨hr2, OwnM.nil _ _, by simp [Value.ownBlock], Nat.le_refl _⟩
  have g1 := hr2.code
  clear hr2 ho2
  by_cases hc1 : c1 ≠ 0
  · have hc1' : (c1 != 0) = true := by rw [bne_iff_ne]; exact hc1
    have HF : Hid (Pw.decOK s = false) := Lib.hid (by
      rw [Bool.eq_false_iff]
      intro h
      exact hc1 (HFI.out (HIFF.out.1 h).2.1))
    go_wp2
    go_ret2
    exact decPost_bad HF.out (by rw [HG.out]; exact HB2.out)
  obtain rfl : c1 = 0 := by omega
  clear hc1
  by_cases h7 : 7 < n
  · have h7' : (7 : Int) < (n : Int) := by omega
    have HF : Hid (Pw.decOK s = false) := Lib.hid (by
      rw [Bool.eq_false_iff]
      intro h
      have := (HIFF.out.1 h).1
      rw [HDN.out] at this
      omega)
    go_wp2
    go_ret2
    exact decPost_bad HF.out (by rw [HG.out]; exact HB2.out)
  · have h7' : ¬ ((7 : Int) < (n : Int)) := by omega
    go_wp2
    clear g1
    go_loopw [6, 7] (fun t i wr => ∃ (k : Nat) (u : Value), u = t ∧ k ≤ n ∧ i = .int .i64 k ∧ RDecAt wr G G u (Pw.rdMs k (s1, 0)).1 (Pw.rdMs k (s1, 0)).2 ∧ Below G w wr) (fun _ i _ => n - (intOf i).toNat)
    case atStart => exact ⟨0, _, rfl, Nat.zero_le _, rfl, HD2.out, HB2.out⟩
    case round =>
      obtain ⟨k, u, rfl, hk, rfl, hd, hb⟩ := hrel
      have HD := Lib.hid hd
      have HB := Lib.hid hb
      have HKL := Lib.hid (Pw.rdMs_length k (s1, 0))
      have HGS : Hid (G ≤ wr.heap.size) := Lib.hid (Nat.le_of_lt hd.rd.lt)
      clear hd hb HD2 HB2 HR0 HB1
      by_cases hlt : k < n
      · have h1 : (k : Int) < (n : Int) := by omega
        have HSN1 : Hid ((Pw.rdMs (k + 1) (s1, 0)).1 = (Pw.rdMs k (s1, 0)).1 ++ [(Pw.rdM (Pw.rdMs k (s1, 0)).2).1]) := Lib.hid rfl
        have HSN2 : Hid ((Pw.rdMs (k + 1) (s1, 0)).2 = (Pw.rdM (Pw.rdMs k (s1, 0)).2).2) := Lib.hid rfl
        have HLE := Lib.hid (Nat.le_trans (HRL.out k) (Nat.le_trans HL.out (by omega : 1000000 ≤ 100000000)))
        obtain ⟨⟨Q, q⟩, hq⟩ : ∃ q, Pw.rdMs k (s1, 0) = q := ⟨_, rfl⟩
        rw [hq] at HD HKL HSN1 HSN2 HLE
        dsimp only at HD HKL HSN1 HSN2 HLE
        have HT := Lib.hid (fun w h => rrtext_st q G w h HLE.out)
        have HNN := Lib.hid (fun w h => rrnum_st (Pw.rdT q).2 G w h (Nat.le_trans (Pw.rdT_le q) HLE.out))
        have HM : Hid (Pw.rdM q = (⟨(Pw.rdT q).1, ((Pw.rdN (Pw.rdT q).2).1 : Nat)⟩, (Pw.rdN (Pw.rdT q).2).2)) := Lib.hid rfl
        obtain ⟨⟨x, q1⟩, hx⟩ : ∃ p, Pw.rdT q = p := ⟨_, rfl⟩
        rw [hx] at HT HNN HM
        dsimp only at HT HNN HM
        obtain ⟨⟨p, q2⟩, hp⟩ : ∃ p, Pw.rdN q1 = p := ⟨_, rfl⟩
        rw [hp] at HNN HM
        dsimp only at HNN HM
        rw [HM.out] at HSN1 HSN2
        clear hq hx hp
        have HQ7 : Hid (Q.length ≤ 7) := Lib.hid (by have := HKL.out; omega)
        go_wp2_with fail
        refine (HT.out _ HD.out.rd).mono ?_
        rintro e w3 ⟨rfl, hr3, ho3⟩
        have HD3 := Lib.hid (HD.out.read (st' := q1) hr3 ho3)
        have HB3 := Lib.hid (HB.out.trans (HD.out.bel HGS.out ho3))
        clear hr3 ho3
        go_wp2_with fail
        refine (HNN.out _ HD3.out.rd).mono ?_
        rintro e w4 ⟨rfl, hr4, ho4⟩
        have HD4 := Lib.hid (HD3.out.read (st' := q2) hr4 ho4)
        have HB4 := Lib.hid (HB3.out.trans (HD3.out.bel (Nat.le_of_lt HD3.out.rd.lt) ho4))
        have HG4 : Hid (G ≤ w4.heap.size) := Lib.hid (Nat.le_of_lt HD4.out.rd.lt)
        clear hr4 ho4
        go_wp2_with (at_builtin; refine wpList_append_lies _ rfl _ _ _ rfl G 44 i0 (.agg #[.string ⟨#[]⟩, .int .i64 0]) 2 24 Tryd.underlying22 hi hz0 hz1 hz2 rfl (by decide) u Q.length (mrows Q) (by first | rfl | (simp; done)) (World.ownsRow.alloc HD4.out.row _) ⟨w4.heap.size, 0, none⟩ 1 1 (mcells ⟨x, (p : Nat)⟩) (by rfl) rfl (World.news_of_block (heap_new_at _ _ _ rfl)) (by simp [mcells, Value.oneCell']) (by decide) (by have := HQ7.out; unfold maxLen; omega) (by have := HQ7.out; omega) (by have := HG4.out; simp; omega) (w4.heap.size + 1) (by simp) ?_; intro g' cap' w5 hown5 hgrow5 hat5 hlt5)
        have hb4 := (Below.refl w4.heap.size w4).alloc (Nat.le_refl _) (.cells #[.string ⟨x.toArray⟩, .int .i64 (p : Nat)] 44)
        have hd5 := HD4.out.append hb4 hgrow5 hown5 rfl hat5 (by omega)
        have hb5 : Below G w w5 := by
          have h3 : Out (fun j => u.ownBlock = some j) w4 w5 := (Out.of hb4).trans (Out.grown hgrow5 (fun _ e => e))
          exact HB4.out.trans (h3.below (fun j hj => (World.ownsRow.lt HD4.out.row j hj).1) HG4.out)
        exact ⟨⟨k + 1, _, rfl, by omega, by go_num, by rw [HSN1.out, HSN2.out]; exact hd5, hb5⟩, by simp [intOf]; omega⟩
      · have h1 : ¬ ((k : Int) < (n : Int)) := by omega
        obtain rfl : k = n := by omega
        rw [← HDR.out] at HD
        have HN7 : Hid (Pw.decN s ≤ 7) := Lib.hid (by rw [HDN.out]; omega)
        have HDL : Hid (Pw.decOK s = true → Pw.decL s = (Pw.decR s).1 ∧ Pw.decC s = 0) := Lib.hid (fun h => by simp [Pw.decL, Pw.decC, h])
        obtain ⟨⟨Q, ⟨q, c⟩⟩, hq⟩ : ∃ q, Pw.decR s = q := ⟨_, rfl⟩
        rw [hq] at HD HIFF HDL
        dsimp only at HD HIFF HDL
        have HEN := Lib.hid (fun w h => rencode_any Q u w h)
        have HEL : Hid (Pw.okL Q = true → Pw.encL Q = Pw.encB Q) := Lib.hid (fun h => by simp [Pw.encL, h])
        clear hq
        obtain ⟨E, hE⟩ : ∃ E, Pw.encL Q = E := ⟨_, rfl⟩
        rw [hE] at HEN HEL
        clear hE
        go_wp2_with fail
        refine (HEN.out _ HD.out.row.mems).mono ?_
        rintro e w3 ⟨rfl, hb3⟩
        have HD3 := Lib.hid (HD.out.below hb3)
        have HB3 := Lib.hid (HB.out.trans (hb3.mono HGS.out))
        have g1 := HD3.out.rd.code
        clear hb3
        by_cases hc : c ≠ 0
        · have hc' : (c != 0) = true := by rw [bne_iff_ne]; exact hc
          have HF : Hid (Pw.decOK s = false) := Lib.hid (by
            rw [Bool.eq_false_iff]; intro h; exact hc (HIFF.out.1 h).2.1)
          dsimp only at g1
          go_wp2
          go_ret2
          exact decPost_bad HF.out (by rw [HG.out]; exact HB3.out)
        obtain rfl : c = 0 := by omega
        clear hc
        dsimp only at g1
        cases hQ : Pw.okL Q with
        | false =>
          have HF : Hid (Pw.decOK s = false) := Lib.hid (by
            rw [Bool.eq_false_iff]; intro h; have := (HIFF.out.1 h).2.2.1; rw [hQ] at this; cases this)
          rw [Pw.checkC_bad hQ]
          clear hQ
          go_wp2
          go_ret2
          exact decPost_bad HF.out (by rw [HG.out]; exact HB3.out)
        | true =>
          have HE := Lib.hid (HEL.out hQ)
          rw [Pw.checkC_ok hQ]
          by_cases he : E = s
          · subst he
            have HF := Lib.hid (HDL.out (HIFF.out.2 ⟨HN7.out, rfl, hQ, HE.out.symm⟩))
            clear hQ
            go_wp2
            go_ret2
            refine ⟨u, ?_, ?_, ?_⟩
            · rw [HF.out.2]; rfl
            · rw [HF.out.1, HG.out]; exact HD3.out.row
            · rw [HG.out]; exact HB3.out
          · have he' : (E == s) = false := by rw [beq_eq_false_iff_ne]; exact he
            have HF : Hid (Pw.decOK s = false) := Lib.hid (by
              rw [Bool.eq_false_iff]; intro h; exact he (HE.out.trans (HIFF.out.1 h).2.2.2))
            clear hQ
            go_wp2
            go_ret2
            exact decPost_bad HF.out (by rw [HG.out]; exact HB3.out)
end Go.Proofs.YtddjkiejekfekaaDoor
namespace Go.Proofs.YtddjkiejekfekaaDoor
open Go.RowKit
open Go.Proofs.YtddjkiejekfekaaDoor.Pw (M)
open Go.Proofs.YtddjkiejekfekaaDoor.Txn (X)

/-- A slice of one byte, of the region's own. -/
def VsB (B : Nat) (y : UInt8) (w : World) (b : Option Bool) (v : Value) : Prop := b = some true → ∃ g, v = .slice (some ⟨g, 0, none⟩) 1 1 ∧ w.ownsRow B 5 1 (.slice (some ⟨g, 0, none⟩) 1 1) [y].length (cellsL [y])
theorem VsB.below {B : Nat} {y : UInt8} {w w' : World} {b : Option Bool} {v : Value} (h : VsB B y w b v) (hb : Below w.heap.size w w') : VsB B y w' b v := fun h1 => by
  obtain ⟨g, e, h3⟩ := h h1
  exact ⟨g, e, row_keep (G := fun _ => False) h3 (Out.of hb) (fun _ _ => id)⟩
set_option maxRecDepth 100000 in
set_option maxHeartbeats 4000000 in
theorem rWritten_any (x : X) (z : Value) (w : World) (hz : Mems w z x.mem) (hf : Txn.fine x = true) :
    Calls Tryd.prog 30 #[xval x z] w fun r w' => r = .returned (.string ⟨(Txn.written x).toArray⟩) ∧ Below w.heap.size w w' := by
  obtain ⟨w0, hw0, hb0, ra⟩ := tx_box x z w
  obtain ⟨f1, f2, f3, f4, f5⟩ := Txn.fine_of hf
  have HK := Lib.hid (Txn.kind_of f5)
  have HB := Lib.hid hb0
  have HM := Lib.hid (hz.below hb0)
  obtain ⟨q0, hq0⟩ : ∃ q0, w.heap.size = q0 := ⟨_, rfl⟩
  rw [hq0] at ra
  have HA := Lib.hid ra
  obtain ⟨Az, capz, rfl⟩ := hz.form
  obtain ⟨n, hn⟩ : ∃ n : Nat, x.seq = (n : Int) := ⟨x.seq.toNat, by omega⟩
  have HTX : Hid (∀ (s : List UInt8) w', s.length ≤ 1000 → Below w0.heap.size w0 w' → Calls Tryd.prog 55 #[.string ⟨s.toArray⟩] w' fun e w'' => e = .returned (.string ⟨(Code.textL s).toArray⟩) ∧ Below w0.heap.size w0 w'' ∧ Below w'.heap.size w' w'') := Lib.hid (fun s w' hs h => (rText_any s w' (by omega)).mono fun e w'' ⟨p, q⟩ => ⟨p, bchain h q, q⟩)
  have HNU : Hid (∀ (n : Nat) w', n < 2 ^ 63 → Below w0.heap.size w0 w' → Calls Tryd.prog 56 #[.int .i64 n] w' fun e w'' => e = .returned (.string ⟨(Code.numL n).toArray⟩) ∧ Below w0.heap.size w0 w'' ∧ Below w'.heap.size w' w'') := Lib.hid (fun n w' hs h => (rNumber_any n hs w').mono fun e w'' ⟨p, q⟩ => ⟨p, bchain h q, q⟩)
  obtain ⟨y, hy⟩ : ∃ y, UInt8.ofNat x.kind.toNat = y := ⟨_, rfl⟩
  have hk4 : 1 ≤ x.kind ∧ x.kind ≤ 4 := by rcases HK.out with h | h | h | h <;> (have := h.1; omega)
  have hyk : x.kind = (y.toNat : Int) := by rw [← hy]; simp; omega
  have hw8 : IntKind.u8.wrap x.kind = (y.toNat : Int) := by rw [← hyk]; unfold IntKind.wrap; simp [IntKind.bits, IntKind.signed]; omega
  obtain ⟨a0, a1, a2, a3, a4, a5, a6, a7⟩ := ra.cells
  have hsn : n < 2 ^ 63 := by omega
  rw [hn] at a2
  obtain ⟨m, hm⟩ : ∃ m : Nat, x.amt = (m : Int) := ⟨x.amt.toNat, by rcases HK.out with h | h | h | h <;> omega⟩
  have HMA := Lib.hid hm
  obtain ⟨F, hF⟩ : ∃ F, Code.textL x.frm = F := ⟨_, rfl⟩
  obtain ⟨U, hU⟩ : ∃ U, Code.numL n = U := ⟨_, rfl⟩
  have hx6 : x.frm.length ≤ 1000 := by omega
  have hFl : F.length ≤ 1000 := by rw [← hF]; unfold Code.textL; have := Code.numL_length x.frm.length; have := Code.sz_le8 x.frm.length (by omega); simp; omega
  have hUl : U.length ≤ 1000 := by rw [← hU]; have := Code.numL_length n; have := Code.sz_le8 n (by omega); omega
  have HT1 := Lib.hid (fun w' h => HTX.out x.frm w' hx6 h)
  have HN1 := Lib.hid (fun w' h => HNU.out n w' hsn h)
  rw [hF] at HT1
  rw [hU] at HN1
  have c1 := cat_mk [y] F
  have c2 := cat_mk ([y] ++ F) U
  have hl1 : ([y] ++ F).length ≤ 2000 := by simp; omega
  have hg1 : ¬ (9223372036854775807 < 1 + F.length) := by omega
  have HW : Hid (Txn.written x = [y] ++ F ++ U ++ Txn.tailB x) := Lib.hid (by rw [← hF, ← hU, ← hy]; unfold Txn.written; rw [hn]; simp)
  obtain ⟨S1, hS1⟩ : ∃ S1, [y] ++ F = S1 := ⟨_, rfl⟩
  rw [hS1] at c1 c2 hl1 HW
  have hl2 : (S1 ++ U).length ≤ 3000 := by simp; omega
  have hg2 : ¬ (9223372036854775807 < S1.length + U.length) := by omega
  obtain ⟨S2, hS2⟩ : ∃ S2, S1 ++ U = S2 := ⟨_, rfl⟩
  rw [hS2] at c2 hl2 HW
  have BD : Below w0.heap.size w0 w0.drew := (Below.refl _ _).drew
  have HC : Hid (∀ w', Below w0.heap.size w0 w' → w'.cell? ⟨q0, 0, none⟩ = some (.int .i64 x.kind) ∧ w'.cell? ⟨q0, 1, none⟩ = some (.string ⟨x.frm.toArray⟩) ∧ w'.cell? ⟨q0, 2, none⟩ = some (.int .i64 n)) := Lib.hid (fun w' h => by
    have h1 := (HA.out.below h).cells
    exact ⟨h1.1, h1.2.1, by rw [h1.2.2.1, hn]⟩)
  rw [hn, hm] at hw0
  unfold xval
  have HYK := Lib.hid hyk
  clear hb0 ra hz hf f1 f2 f3 f4 f5 hF hU hy hyk hk4 hS1 hS2
  rw [hn, hm]
  clear hm hn
  go_enter Tryd.func30, Tryd.ntmps30
  go_upto_region 1 with fail
  try rw [hw0]
  try rw [hq0]
  clear hw0 hq0
  refine region_inv (fun Lq aq w' => ∃ v6 v7 v8 v9 v10 v11 v12 v13 v14 v15 v16 v17 v18 v3 : Value, aq = ⟨#[Value.agg #[Value.int IntKind.i64 x.kind, Value.string { data := List.toArray x.frm }, Value.int IntKind.i64 ↑n, Value.string { data := List.toArray x.dst }, Value.int IntKind.i64 ↑m, Value.string { data := List.toArray x.key }, Value.string { data := List.toArray x.val }, Value.slice Az x.mem.length capz], Value.pointer (some { block := q0, off := 0 }), Value.string { data := #[] }, v3, undef, undef, v6, v7, v8, v9, v10, v11, v12, v13, v14, v15, v16, v17, v18, undef, undef, undef, undef, undef, undef, undef, undef, undef, undef, undef, undef, undef, undef, undef, undef, undef, undef, undef, undef, undef, undef, undef, undef, undef, undef, undef, undef, undef, undef, undef, undef, undef, undef, undef, undef, undef, undef, undef, undef, undef], []⟩ ∧ Below w0.heap.size w0 w' ∧ (Lq[0]? = some true → v6 = .pointer (some ⟨q0, 0, none⟩)) ∧ (Lq[1]? = some true → v7 = .int .i64 x.kind) ∧ (Lq[2]? = some true → v8 = .int .u8 (y.toNat : Int)) ∧ VsB w0.heap.size y w' Lq[3]? v9 ∧ (Lq[4]? = some true → v10 = .string ⟨[y].toArray⟩) ∧ (Lq[5]? = some true → v11 = .pointer (some ⟨q0, 1, none⟩)) ∧ (Lq[6]? = some true → v12 = .string ⟨x.frm.toArray⟩) ∧ (Lq[7]? = some true → v13 = .string ⟨F.toArray⟩) ∧ (Lq[8]? = some true → v14 = .string ⟨S1.toArray⟩) ∧ (Lq[9]? = some true → v15 = .pointer (some ⟨q0, 2, none⟩)) ∧ (Lq[10]? = some true → v16 = .int .i64 (n : Int)) ∧ (Lq[11]? = some true → v17 = .string ⟨U.toArray⟩) ∧ (Lq[12]? = some true → v18 = .string ⟨S2.toArray⟩) ∧ (Lq[13]? = some true → v3 = .string ⟨S2.toArray⟩)) (by rfl) ?_ ?_ ?_
  · exact ⟨_, _, _, _, _, _, _, _, _, _, _, _, _, _, rfl, BD, (fun h => by simp at h), (fun h => by simp at h), (fun h => by simp at h), (fun h => by simp at h), (fun h => by simp at h), (fun h => by simp at h), (fun h => by simp at h), (fun h => by simp at h), (fun h => by simp at h), (fun h => by simp at h), (fun h => by simp at h), (fun h => by simp at h), (fun h => by simp at h), (fun h => by simp at h)⟩
  · intro Lq aq w1r hL hI j o ho hj K hK
    obtain ⟨v6, v7, v8, v9, v10, v11, v12, v13, v14, v15, v16, v17, v18, v3, rfl, hB, h0, h1, h2, h3, h4, h5, h6, h7, h8, h9, h10, h11, h12, h13⟩ := hI
    obtain ⟨b0, b1, b2, b3, b4, b5, b6, b7, b8, b9, b10, b11, b12, b13, rfl⟩ : ∃ b0 b1 b2 b3 b4 b5 b6 b7 b8 b9 b10 b11 b12 b13, Lq = [b0, b1, b2, b3, b4, b5, b6, b7, b8, b9, b10, b11, b12, b13] := by
      match Lq, hL with
      | [b0, b1, b2, b3, b4, b5, b6, b7, b8, b9, b10, b11, b12, b13], _ => exact ⟨b0, b1, b2, b3, b4, b5, b6, b7, b8, b9, b10, b11, b12, b13, rfl⟩
    have hi2 := (List.mem_filter.1 hj).2
    clear hj hL
    obtain ⟨d0, d1, d2⟩ := HC.out _ hB
    rcases j with _ | _ | _ | _ | _ | _ | _ | _ | _ | _ | _ | _ | _ | _ | j
    · obtain rfl := Option.some.inj ho
      clear ho
      rw [if_pos (by rfl)]
      go_simp
      exact hK _ _ ⟨_, v7, v8, v9, v10, v11, v12, v13, v14, v15, v16, v17, v18, v3, rfl, hB, (fun _ => rfl), h1, h2, h3, h4, h5, h6, h7, h8, h9, h10, h11, h12, h13⟩
    · obtain rfl := Option.some.inj ho
      simp [Region.binds] at hi2
      obtain rfl := h0 (by simp [hi2])
      clear ho hi2
      rw [if_pos (by rfl)]
      go_simp
      exact hK _ _ ⟨_, _, v8, v9, v10, v11, v12, v13, v14, v15, v16, v17, v18, v3, rfl, hB, (fun _ => rfl), (fun _ => rfl), h2, h3, h4, h5, h6, h7, h8, h9, h10, h11, h12, h13⟩
    · obtain rfl := Option.some.inj ho
      simp [Region.binds] at hi2
      obtain rfl := h1 (by simp [hi2])
      clear ho hi2
      rw [if_pos (by rfl)]
      go_simp
      exact hK _ _ ⟨v6, _, _, v9, v10, v11, v12, v13, v14, v15, v16, v17, v18, v3, rfl, hB, h0, (fun _ => rfl), (fun _ => rfl), h3, h4, h5, h6, h7, h8, h9, h10, h11, h12, h13⟩
    · obtain rfl := Option.some.inj ho
      simp [Region.binds] at hi2
      obtain rfl := h2 (by simp [hi2])
      clear ho hi2
      rw [if_pos (by rfl)]
      go_simp
      have hbn : Below w1r.heap.size w1r (w1r.alloc (.cells #[.int .u8 (y.toNat : Int)] 5)) := (Below.refl _ w1r).alloc (Nat.le_refl _) _
      have hB2 := bchain hB hbn
      exact hK _ _ ⟨v6, v7, _, _, v10, v11, v12, v13, v14, v15, v16, v17, v18, v3, rfl, hB2, h0, h1, (fun _ => rfl), (fun _ => ⟨_, rfl, ownsOne w1r _ hB.size y _ rfl⟩), h4, h5, h6, h7, h8, h9, h10, h11, h12, h13⟩
    · obtain rfl := Option.some.inj ho
      simp [Region.binds] at hi2
      obtain ⟨g, rfl, hrow⟩ := h3 (by simp [hi2])
      have hcv := conv_own hrow
      clear ho hi2
      rw [if_pos (by rfl)]
      go_simp
      exact hK _ _ ⟨v6, v7, v8, _, _, v11, v12, v13, v14, v15, v16, v17, v18, v3, rfl, hB, h0, h1, h2, (show VsB w0.heap.size y w1r _ _ from fun _ => ⟨g, rfl, hrow⟩), (fun _ => rfl), h5, h6, h7, h8, h9, h10, h11, h12, h13⟩
    · obtain rfl := Option.some.inj ho
      clear ho
      rw [if_pos (by rfl)]
      go_simp
      exact hK _ _ ⟨v6, v7, v8, v9, v10, _, v12, v13, v14, v15, v16, v17, v18, v3, rfl, hB, h0, h1, h2, h3, h4, (fun _ => rfl), h6, h7, h8, h9, h10, h11, h12, h13⟩
    · obtain rfl := Option.some.inj ho
      simp [Region.binds] at hi2
      obtain rfl := h5 (by simp [hi2])
      clear ho hi2
      rw [if_pos (by rfl)]
      go_simp
      exact hK _ _ ⟨v6, v7, v8, v9, v10, _, _, v13, v14, v15, v16, v17, v18, v3, rfl, hB, h0, h1, h2, h3, h4, (fun _ => rfl), (fun _ => rfl), h7, h8, h9, h10, h11, h12, h13⟩
    · obtain rfl := Option.some.inj ho
      simp [Region.binds] at hi2
      obtain rfl := h6 (by simp [hi2])
      clear ho hi2
      rw [if_pos (by rfl)]
      go_simp
      refine (HT1.out _ hB).mono ?_
      rintro r w2 ⟨rfl, hB2, hbn⟩
      exact hK _ _ ⟨v6, v7, v8, v9, v10, v11, _, _, v14, v15, v16, v17, v18, v3, rfl, hB2, h0, h1, h2, (h3.below hbn), h4, h5, (fun _ => rfl), (fun _ => rfl), h8, h9, h10, h11, h12, h13⟩
    · obtain rfl := Option.some.inj ho
      simp [Region.binds] at hi2
      obtain rfl := h4 (by simp [hi2])
      obtain rfl := h7 (by simp [hi2])
      clear ho hi2
      rw [if_pos (by rfl)]
      go_simp
      exact hK _ _ ⟨v6, v7, v8, v9, _, v11, v12, _, _, v15, v16, v17, v18, v3, rfl, hB, h0, h1, h2, h3, (fun _ => rfl), h5, h6, (fun _ => rfl), (fun _ => rfl), h9, h10, h11, h12, h13⟩
    · obtain rfl := Option.some.inj ho
      clear ho
      rw [if_pos (by rfl)]
      go_simp
      exact hK _ _ ⟨v6, v7, v8, v9, v10, v11, v12, v13, v14, _, v16, v17, v18, v3, rfl, hB, h0, h1, h2, h3, h4, h5, h6, h7, h8, (fun _ => rfl), h10, h11, h12, h13⟩
    · obtain rfl := Option.some.inj ho
      simp [Region.binds] at hi2
      obtain rfl := h9 (by simp [hi2])
      clear ho hi2
      rw [if_pos (by rfl)]
      go_simp
      exact hK _ _ ⟨v6, v7, v8, v9, v10, v11, v12, v13, v14, _, _, v17, v18, v3, rfl, hB, h0, h1, h2, h3, h4, h5, h6, h7, h8, (fun _ => rfl), (fun _ => rfl), h11, h12, h13⟩
    · obtain rfl := Option.some.inj ho
      simp [Region.binds] at hi2
      obtain rfl := h10 (by simp [hi2])
      clear ho hi2
      rw [if_pos (by rfl)]
      go_simp
      refine (HN1.out _ hB).mono ?_
      rintro r w2 ⟨rfl, hB2, hbn⟩
      exact hK _ _ ⟨v6, v7, v8, v9, v10, v11, v12, v13, v14, v15, _, _, v18, v3, rfl, hB2, h0, h1, h2, (h3.below hbn), h4, h5, h6, h7, h8, h9, (fun _ => rfl), (fun _ => rfl), h12, h13⟩
    · obtain rfl := Option.some.inj ho
      simp [Region.binds] at hi2
      obtain rfl := h8 (by simp [hi2])
      obtain rfl := h11 (by simp [hi2])
      clear ho hi2
      rw [if_pos (by rfl)]
      go_simp
      exact hK _ _ ⟨v6, v7, v8, v9, v10, v11, v12, v13, _, v15, v16, _, _, v3, rfl, hB, h0, h1, h2, h3, h4, h5, h6, h7, (fun _ => rfl), h9, h10, (fun _ => rfl), (fun _ => rfl), h13⟩
    · obtain rfl := Option.some.inj ho
      simp [Region.binds] at hi2
      obtain rfl := h12 (by simp [hi2])
      clear ho hi2
      rw [if_pos (by rfl)]
      go_simp
      exact hK _ _ ⟨v6, v7, v8, v9, v10, v11, v12, v13, v14, v15, v16, v17, _, _, rfl, hB, h0, h1, h2, h3, h4, h5, h6, h7, h8, h9, h10, h11, (fun _ => rfl), (fun _ => rfl)⟩
    · simp at ho
  · intro Lq aq w2 hL hr hI
    obtain ⟨v6, v7, v8, v9, v10, v11, v12, v13, v14, v15, v16, v17, v18, v3, rfl, hB, h0, h1, h2, h3, h4, h5, h6, h7, h8, h9, h10, h11, h12, h13⟩ := hI
    obtain ⟨b0, b1, b2, b3, b4, b5, b6, b7, b8, b9, b10, b11, b12, b13, rfl⟩ : ∃ b0 b1 b2 b3 b4 b5 b6 b7 b8 b9 b10 b11 b12 b13, Lq = [b0, b1, b2, b3, b4, b5, b6, b7, b8, b9, b10, b11, b12, b13] := by
      match Lq, hL with
      | [b0, b1, b2, b3, b4, b5, b6, b7, b8, b9, b10, b11, b12, b13], _ => exact ⟨b0, b1, b2, b3, b4, b5, b6, b7, b8, b9, b10, b11, b12, b13, rfl⟩
    have hr2 := List.filter_eq_nil_iff.1 hr
    clear hr hL
    have k0 := hr2 0 (by simp)
    have k1 := hr2 1 (by simp)
    have k2 := hr2 2 (by simp)
    have k3 := hr2 3 (by simp)
    have k4 := hr2 4 (by simp)
    have k5 := hr2 5 (by simp)
    have k6 := hr2 6 (by simp)
    have k7 := hr2 7 (by simp)
    have k8 := hr2 8 (by simp)
    have k9 := hr2 9 (by simp)
    have k10 := hr2 10 (by simp)
    have k11 := hr2 11 (by simp)
    have k12 := hr2 12 (by simp)
    have k13 := hr2 13 (by simp)
    clear hr2
    simp [Region.binds] at k0
    subst k0
    simp [Region.binds] at k1
    subst k1
    simp [Region.binds] at k2
    subst k2
    simp [Region.binds] at k3
    subst k3
    simp [Region.binds] at k4
    subst k4
    simp [Region.binds] at k5
    subst k5
    simp [Region.binds] at k6
    subst k6
    simp [Region.binds] at k7
    subst k7
    simp [Region.binds] at k8
    subst k8
    simp [Region.binds] at k9
    subst k9
    simp [Region.binds] at k10
    subst k10
    simp [Region.binds] at k11
    subst k11
    simp [Region.binds] at k12
    subst k12
    simp [Region.binds] at k13
    subst k13
    obtain rfl := h0 rfl
    obtain rfl := h1 rfl
    obtain rfl := h2 rfl
    obtain rfl := h4 rfl
    obtain rfl := h5 rfl
    obtain rfl := h6 rfl
    obtain rfl := h7 rfl
    obtain rfl := h8 rfl
    obtain rfl := h9 rfl
    obtain rfl := h10 rfl
    obtain rfl := h11 rfl
    obtain rfl := h12 rfl
    obtain rfl := h13 rfl
    have HB2 := Lib.hid hB
    have BD2 : Below w0.heap.size w0 w2.drew := hB.drew
    have HCC : Hid (∀ w', Below w0.heap.size w0 w' → w'.cell? ⟨q0, 3, none⟩ = some (.string ⟨x.dst.toArray⟩) ∧ w'.cell? ⟨q0, 4, none⟩ = some (.int .i64 m) ∧ w'.cell? ⟨q0, 5, none⟩ = some (.string ⟨x.key.toArray⟩) ∧ w'.cell? ⟨q0, 6, none⟩ = some (.string ⟨x.val.toArray⟩)) := Lib.hid (fun w' h => by
      have h1 := (HA.out.below h).cells
      exact ⟨h1.2.2.2.1, by rw [h1.2.2.2.2.1, HMA.out], h1.2.2.2.2.2.1, h1.2.2.2.2.2.2.1⟩)
    clear a0 a1 a2 a3 a4 a5 a6 a7 h0 h1 h2 h3 h4 h5 h6 h7 h8 h9 h10 h11 h12 h13 c1 c2 hg1 hg2 hl1 BD
    have a0 := (HA.out.below hB).cells.1
    have a7 := (HA.out.below hB).cells.2.2.2.2.2.2.2
    have HM2 := Lib.hid (HM.out.below hB)
    obtain ⟨a3, a4, a5, a6⟩ := HCC.out _ hB
    clear hB
    rcases HK.out with ⟨hk, q1, q2, q3, q4, q5, q6, q7⟩ | ⟨hk, q1, q2, q3, q4, q5, q6, q7⟩ | ⟨hk, q1, q2, q3, q4, q5, q6⟩ | ⟨hk, q1, q2, q3, q4, q5⟩
    · have r1 : (x.kind == 1) = true := beq_iff_eq.2 hk
      have hd6 : x.dst.length ≤ 1000 := by omega
      have hm6 : m < 2 ^ 63 := by have := HMA.out; omega
      have HTL : Hid (Txn.tailB x = Code.textL x.dst ++ Code.numL m) := Lib.hid (by unfold Txn.tailB; rw [if_pos hk, HMA.out]; rfl)
      have HDL : Hid ((Code.textL x.dst).length ≤ 1100) := Lib.hid (by unfold Code.textL; have := Code.numL_length x.dst.length; have := Code.sz_le8 x.dst.length (by omega); simp; omega)
      have HAL : Hid ((Code.numL m).length ≤ 1000) := Lib.hid (by have := Code.numL_length m; have := Code.sz_le8 m (by omega); omega)
      have HD1 := Lib.hid (fun w' h => HTX.out x.dst w' hd6 h)
      have HA1 := Lib.hid (fun w' h => HNU.out m w' hm6 h)
      obtain ⟨D, hD⟩ : ∃ D, Code.textL x.dst = D := ⟨_, rfl⟩
      obtain ⟨A, hA⟩ : ∃ A, Code.numL m = A := ⟨_, rfl⟩
      rw [hD] at HTL HDL HD1
      rw [hA] at HTL HAL HA1
      have e1 := cat_mk S2 D
      have e2 := cat_mk (S2 ++ D) A
      have hl3 : (S2 ++ D).length ≤ 5000 := by have := HDL.out; simp; omega
      have hg3 : ¬ (9223372036854775807 < S2.length + D.length) := by have := HDL.out; omega
      have HWW : Hid (Txn.written x = S2 ++ D ++ A) := Lib.hid (by rw [HW.out, HTL.out, List.append_assoc])
      obtain ⟨S3, hS3⟩ : ∃ S3, S2 ++ D = S3 := ⟨_, rfl⟩
      rw [hS3] at e1 e2 hl3 HWW
      have hg4 : ¬ (9223372036854775807 < S3.length + A.length) := by have := HAL.out; omega
      clear hd6 hm6 hD hA hS3 hk q1 q2 q3 q4 q5 q6 q7
      go_upto_region 6 with fail
      go_region_with (first | (go_at_call 55; refine (HD1.out _ (by with_reducible assumption)).mono ?_; rintro r wa ⟨rfl, hba, -⟩; obtain ⟨b3, b4, b5, b6⟩ := HCC.out _ hba) | (go_at_call 56; refine (HA1.out _ (by with_reducible assumption)).mono ?_; rintro r wb ⟨rfl, hbb, -⟩))
      all_goals
        go_wp2
        go_ret
        exact ⟨by rw [HWW.out]; rfl, bchain HB.out hbb⟩
    · have r1 : (x.kind == 1) = false := beq_eq_false_iff_ne.2 (by omega)
      have r2 : (x.kind == 2) = true := beq_iff_eq.2 hk
      have hk6 : x.key.length ≤ 1000 := by omega
      have hv6 : x.val.length ≤ 1000 := by omega
      have HTL : Hid (Txn.tailB x = Code.textL x.key ++ Code.textL x.val) := Lib.hid (by unfold Txn.tailB; rw [if_neg (by omega), if_pos hk])
      have HDL : Hid ((Code.textL x.key).length ≤ 1100) := Lib.hid (by unfold Code.textL; have := Code.numL_length x.key.length; have := Code.sz_le8 x.key.length (by omega); simp; omega)
      have HAL : Hid ((Code.textL x.val).length ≤ 1100) := Lib.hid (by unfold Code.textL; have := Code.numL_length x.val.length; have := Code.sz_le8 x.val.length (by omega); simp; omega)
      have e1 := cat_mk S2 (Code.textL x.key)
      have e2 := cat_mk (S2 ++ Code.textL x.key) (Code.textL x.val)
      have hl3 : (S2 ++ Code.textL x.key).length ≤ 5000 := by have := HDL.out; simp; omega
      have hg3 : ¬ (9223372036854775807 < S2.length + (Code.textL x.key).length) := by have := HDL.out; omega
      have HWW : Hid (Txn.written x = S2 ++ Code.textL x.key ++ Code.textL x.val) := Lib.hid (by rw [HW.out, HTL.out, List.append_assoc])
      obtain ⟨S3, hS3⟩ : ∃ S3, S2 ++ Code.textL x.key = S3 := ⟨_, rfl⟩
      rw [hS3] at e1 e2 hl3 HWW
      have hg4 : ¬ (9223372036854775807 < S3.length + (Code.textL x.val).length) := by have := HAL.out; omega
      clear hS3 hk q1 q2 q3 q4 q5 q6 q7
      go_upto_region 8 with fail
      go_region_with (go_at_call 55; refine (HTX.out _ _ (by with_reducible assumption) (by with_reducible assumption)).mono ?_; rintro r wa ⟨rfl, hba, -⟩; obtain ⟨b3, b4, b5, b6⟩ := HCC.out _ hba)
      all_goals
        go_wp2
        go_ret
        exact ⟨by rw [HWW.out]; rfl, bchain HB.out (by assumption)⟩
    · have r1 : (x.kind == 1) = false := beq_eq_false_iff_ne.2 (by omega)
      have r2 : (x.kind == 2) = false := beq_eq_false_iff_ne.2 (by omega)
      have r3 : (x.kind == 3) = true := beq_iff_eq.2 hk
      have hk6 : x.key.length ≤ 1000 := by omega
      have HTL : Hid (Txn.tailB x = Code.textL x.key) := Lib.hid (by unfold Txn.tailB; rw [if_neg (by omega), if_neg (by omega), if_pos hk])
      have HDL : Hid ((Code.textL x.key).length ≤ 1100) := Lib.hid (by unfold Code.textL; have := Code.numL_length x.key.length; have := Code.sz_le8 x.key.length (by omega); simp; omega)
      have e1 := cat_mk S2 (Code.textL x.key)
      have hg3 : ¬ (9223372036854775807 < S2.length + (Code.textL x.key).length) := by have := HDL.out; omega
      have HWW : Hid (Txn.written x = S2 ++ Code.textL x.key) := Lib.hid (by rw [HW.out, HTL.out])
      obtain ⟨S3, hS3⟩ : ∃ S3, S2 ++ Code.textL x.key = S3 := ⟨_, rfl⟩
      rw [hS3] at e1 HWW
      clear hS3 hk q1 q2 q3 q4 q5 q6
      go_wp2_with fail
      refine (HTX.out _ _ hk6 HB2.out).mono ?_
      rintro r wa ⟨rfl, hba, -⟩
      go_wp2
      go_ret
      exact ⟨by rw [HWW.out]; rfl, bchain HB.out hba⟩
    · have r1 : (x.kind == 1) = false := beq_eq_false_iff_ne.2 (by omega)
      have r2 : (x.kind == 2) = false := beq_eq_false_iff_ne.2 (by omega)
      have r3 : (x.kind == 3) = false := beq_eq_false_iff_ne.2 (by omega)
      have HEN := Lib.hid (rencode_any x.mem _ w2 HM2.out)
      have hle := Pw.encB_le q5 x.mem.length
      rw [List.take_length] at hle
      have hle' : (Pw.encB x.mem).length ≤ 1000 := Nat.le_trans hle (by decide)
      have HTL : Hid (Txn.tailB x = Code.textL (Pw.encB x.mem)) := Lib.hid (by unfold Txn.tailB; rw [if_neg (by omega), if_neg (by omega), if_neg (by omega)])
      rw [show Pw.encL x.mem = Pw.encB x.mem by simp [Pw.encL, q5], Pw.checkC_ok q5] at HEN
      obtain ⟨E, hE⟩ : ∃ E, Pw.encB x.mem = E := ⟨_, rfl⟩
      rw [hE] at HEN hle' HTL
      have HDL : Hid ((Code.textL E).length ≤ 1100) := Lib.hid (by unfold Code.textL; have := Code.numL_length E.length; have := Code.sz_le8 E.length (by omega); simp; omega)
      have e1 := cat_mk S2 (Code.textL E)
      have hg3 : ¬ (9223372036854775807 < S2.length + (Code.textL E).length) := by have := HDL.out; omega
      have HWW : Hid (Txn.written x = S2 ++ Code.textL E) := Lib.hid (by rw [HW.out, HTL.out])
      obtain ⟨S3, hS3⟩ : ∃ S3, S2 ++ Code.textL E = S3 := ⟨_, rfl⟩
      rw [hS3] at e1 HWW
      clear hS3 hk q1 q2 q3 q4 q5 hE hle
      go_wp2_with fail
      refine HEN.out.mono ?_
      rintro r w3 ⟨rfl, hb3⟩
      have HB3 := Lib.hid (bchain HB2.out hb3)
      clear hb3
      go_wp2_with fail
      refine (HTX.out _ _ hle' HB3.out).mono ?_
      rintro r wa ⟨rfl, hba, -⟩
      go_wp2
      go_ret
      exact ⟨by rw [HWW.out]; rfl, bchain HB.out hba⟩
end Go.Proofs.YtddjkiejekfekaaDoor
