/- ProofRef -/
import Derived.Test.YtjfefphgikncnaaGreatDoorPk17
import Derived.Test.YtjfefphgikncnaaGreatDoorPk18
import Derived.Test.YtjfefphgikncnaaGreatDoorPk22
import Derived.Test.YtjfefphgikncnaaGreatDoorPk11
import Derived.Test.YtjfefphgikncnaaGreatDoorPk07
import Derived.Test.YtjfefphgikncnaaGreatDoorPk14
import Derived.Test.YtjfefphgikncnaaGreatDoorPk15
import Derived.Deep.RegionHeld3
namespace Go.Proofs.YtjfefphgikncnaaGreatDoor
open Go.RowKit
open Sto (T St)
open Go.Proofs.YtjfefphgikncnaaGreatDoor.Nd (N)

theorem Prf.follow_fol {s l : T} {L : List T} (hs : s ≠ []) : Prf.follow s l L = Prf.fol s l L := by unfold Prf.fol; rw [if_neg hs]
/-- A value behind which more lies: the document answers it, and false. -/
def RFolPostV (o : Option T) (w : World) (e : Ending) (w' : World) : Prop :=
  ∃ (v : T) (b : Bool), e = .returned (.tuple #[.string ⟨v.toArray⟩, .bool b]) ∧ b = o.isSome ∧ (b = true → v = o.getD []) ∧ Below w.heap.size w w'
theorem RFolPostV.yes {o : Option T} (v : T) {w w' : World} (h : o = some v) (hb : Below w.heap.size w w') : RFolPostV o w (.returned (.tuple #[.string ⟨v.toArray⟩, .bool true])) w' := by
  subst h
  exact ⟨v, true, rfl, rfl, fun _ => rfl, hb⟩
theorem RFolPostV.no {o : Option T} (v : T) {w w' : World} (h : o = none) (hb : Below w.heap.size w w') : RFolPostV o w (.returned (.tuple #[.string ⟨v.toArray⟩, .bool false])) w' := by
  subst h
  exact ⟨v, false, rfl, rfl, (fun e => Bool.noConfusion e), hb⟩
set_option maxRecDepth 100000 in
set_option maxHeartbeats 4000000 in
theorem rfollow_any (L : List T) : ∀ (s l : T) (v : Value) (w : World), StrsC w v L → (∀ x ∈ L, x.length ≤ 999) → Nib.fitL l = true → l.length ≤ 1000 →
    Calls Tryz.prog 63 #[.string ⟨s.toArray⟩, .string ⟨l.toArray⟩, v] w (RFolPostV (Prf.follow s l L) w) := by
  induction L with
  | nil =>
    intro s l v w hv _ _ _
    obtain ⟨A, cap, rfl, -⟩ := hv.form
    have HO : Hid (Prf.follow s l [] = none) := Lib.hid rfl
    clear hv
    go_enter Tryz.func63, Tryz.ntmps63
    go_wp2
    go_ret2
    exact RFolPostV.no [] HO.out (Below.refl _ _)
  | cons x r ih =>
    intro s l v w hv hL hfit hl
    obtain ⟨o, ho⟩ : ∃ o, Prf.follow s l (x :: r) = o := ⟨_, rfl⟩
    rw [ho]
    have HI19 : Hid ((Tryz.prog.info? 136).map (·.size) = some 19) := Lib.hid (by kernel_rfl)
    have hx : x.length ≤ 999 := hL x (List.mem_cons_self ..)
    have HIH : Hid (∀ (s l : T) (v : Value) (w : World), StrsC w v r → Nib.fitL l = true → l.length ≤ 1000 → Calls Tryz.prog 63 #[.string ⟨s.toArray⟩, .string ⟨l.toArray⟩, v] w (RFolPostV (Prf.follow s l r) w)) := Lib.hid (fun s l v w h1 h2 h3 => ih s l v w h1 (fun y hy => hL y (List.mem_cons_of_mem _ hy)) h2 h3)
    have HTG : Hid (∀ w', Calls Tryz.prog 53 #[.int .i64 1, .string ⟨x.toArray⟩] w' fun e w'' => e = .returned (.string ⟨(Sto.sumOf x).toArray⟩) ∧ Below w'.heap.size w' w'') := Lib.hid (fun w' => by
      have := rTagged_any 1 x w' hx
      unfold Sto.sumOf Dig.sum
      rw [if_pos (by decide)]
      exact this)
    have HND := Lib.hid (fun w => rndecode_any x w (by omega))
    have HFT := Lib.hid hfit
    have HLL := Lib.hid hl
    obtain ⟨A, cap, rfl, -⟩ := hv.form
    obtain ⟨a, ha, hcell, -, hcap⟩ := hv.head
    subst ha
    obtain ⟨ab, ao, asp⟩ := a
    have hblt := World.block_lt_of_cell? _ _ hcell
    have HCW : Hid (∀ w', Below w.heap.size w w' → w'.cell? ⟨ab, ao, asp⟩ = some (.string ⟨x.toArray⟩)) := Lib.hid (fun w' h => (h.cell hblt).trans hcell)
    obtain ⟨A', cap', hrun, hst⟩ := hv.tail
    have HST := Lib.hid hst
    obtain ⟨rn, hrn⟩ : ∃ rn, r.length = rn := ⟨_, rfl⟩
    have HRN := Lib.hid hrn
    obtain ⟨nn, hnn⟩ : ∃ nn, (x :: r).length = nn := ⟨_, rfl⟩
    have hnn1 : nn = rn + 1 := by rw [← hnn, ← hrn, List.length_cons]
    rw [hrn] at hrun HST
    rw [hnn] at hrun ⊢
    have e0 : ((nn : Int) == 0) = false := by rw [beq_eq_false_iff_ne]; omega
    have e1 : (0 : Int) < (nn : Int) := by omega
    have e2 : 0 < nn := by omega
    have e3 : (nn == 0) = false := by rw [beq_eq_false_iff_ne]; omega
    have HSUM := Lib.hid ho
    obtain ⟨X, hX⟩ : ∃ X, Sto.sumOf x = X := ⟨_, rfl⟩
    have hXl : X.length = 32 := by rw [← hX]; exact Sto.sumOf_len x
    have HXE := Lib.hid hX
    rw [hX] at HTG
    clear hv hL hfit hl hcell hblt hst hrn hnn hnn1 hX ho hx ih
    by_cases hs : X = s
    case neg =>
      have hs1 : (X == s) = false := beq_eq_false_iff_ne.2 hs
      have hs2 : (X != s) = true := by rw [bne_iff_ne]; exact hs
      have HO : Hid (o = none) := Lib.hid (by rw [← HSUM.out, Prf.follow, if_neg (fun e => hs (HXE.out.symm.trans e.1))])
      have c0 := HCW.out _ (Below.refl _ _)
      clear hs hrun hXl
      go_enter Tryz.func63, Tryz.ntmps63
      go_wp2_with fail
      refine (HTG.out _).mono ?_
      rintro e w1 ⟨rfl, hb1⟩
      have HB1 := Lib.hid hb1
      clear hb1
      go_wp2
      go_ret2
      exact RFolPostV.no [] HO.out HB1.out
    subst hs
    have hsne : X ≠ [] := fun e => by rw [e] at hXl; cases hXl
    have HSN := Lib.hid hsne
    have hs1 : (X == X) = true := beq_self_eq_true _
    have hs2 : (X != X) = false := by simp
    have c0 := HCW.out _ (Below.refl _ _)
    unfold NDecPost ndval at HND
    have hn16 := Prf.dec16 x
    have HKX := Lib.hid (Prf.dec_code x)
    have HTO := Lib.hid (fun h => Prf.Told.of (x := x) h)
    obtain ⟨⟨n, cd⟩, hD⟩ : ∃ X, Nd.dec x = X := ⟨_, rfl⟩
    have HDX := Lib.hid hD
    rw [hD] at HND HTO HKX hn16
    dsimp only at HND HTO HKX hn16
    have HN16 := Lib.hid hn16
    have HNV : Hid (∀ w2 : World, NodeAt (w2.alloc (.cells (ncl n).toArray 136)) w2.heap.size n) := Lib.hid (fun w2 => heap_new_at w2 _ _ rfl)
    have HON := Lib.hid (ncl_one n)
    have HSZ : Hid ((ncl n).toArray.size = 19) := Lib.hid (by rw [List.size_toArray, ncl_length n hn16])
    obtain ⟨C, hC⟩ : ∃ C, (ncl n).toArray = C := ⟨_, rfl⟩
    rw [hC] at HND HNV HON HSZ
    have HI : Hid ((Tryz.prog.info? 136).map (·.size) = some C.size) := Lib.hid (by rw [HSZ.out]; exact HI19.out)
    clear hC hD hn16 hsne hXl
    go_enter Tryz.func63, Tryz.ntmps63
    go_wp2_with fail
    refine (HTG.out _).mono ?_
    rintro e w1 ⟨rfl, hb1⟩
    have HB1 := Lib.hid hb1
    have c1 := HCW.out _ hb1
    clear hb1 c0 HTG
    go_wp2_with fail
    refine (HND.out _).mono ?_
    rintro e w2 ⟨rfl, hb2⟩
    have hb2' := bchain HB1.out hb2
    have HB2 : Hid (Below w.heap.size w (w2.alloc (.cells C 136))) := Lib.hid (hb2'.alloc hb2'.size _)
    have HNA := Lib.hid (HNV.out w2)
    clear hb2 hb2' c1 HND
    by_cases hcd : cd = 0
    case neg =>
      have hc1 : (cd != 0) = true := by rw [bne_iff_ne]; exact hcd
      have hc2 : (cd == 0) = false := beq_eq_false_iff_ne.2 hcd
      have HO : Hid (o = none) := Lib.hid (by rw [← HSUM.out, Prf.follow, if_neg (fun e => hcd (by have := e.2; rw [HDX.out] at this; exact this))])
      clear hcd
      go_wp2_with (refine wpList_store_fresh (by rfl) _ _ _ (by rfl) w2.heap.size rfl C (by rfl) (by rfl) _ _ HI.out HSZ.out.symm HON.out ?_)
      go_ret2
      exact RFolPostV.no [] HO.out HB2.out
    subst hcd
    have hto : Prf.Told n := HTO.out rfl
    have hN : Prf.isN X x = true := decide_eq_true ⟨HXE.out, by rw [HDX.out]⟩
    have hX1 : (Nd.dec x).1 = n := by rw [HDX.out]
    have HNN := Lib.hid hN
    have HXX := Lib.hid hX1
    have HFO : Hid (Prf.fol X l (x :: r) = o) := Lib.hid ((Prf.follow_fol HSN.out).symm.trans HSUM.out)
    have cn0 := HNA.out.kind
    have cn1 := HNA.out.path
    have cn2 := HNA.out.val
    have HKI : Hid (∀ i (h : i < n.kids.length), (w2.alloc (.cells C 136)).cell? ⟨w2.heap.size, 3 + i, none⟩ = some (.string ⟨n.kids[i].toArray⟩)) := Lib.hid (fun i h => HNA.out.kid i h)
    have hkind := hto.kind
    have hpl := hto.path
    have HSX : Hid (StrsC (w2.alloc (.cells C 136)) (.slice A' rn cap') r) := Lib.hid (HST.out.below HB2.out)
    clear hto hN hX1 HNV HST HCW HTO HKX
    go_upto_region 7 with (refine wpList_store_fresh (by rfl) _ _ _ (by rfl) w2.heap.size rfl C (by rfl) (by rfl) _ _ HI.out HSZ.out.symm HON.out ?_)
    obtain ⟨q, hq⟩ : ∃ q, w2.heap.size = q := ⟨_, rfl⟩
    rw [hq] at cn0 cn1 cn2 HKI ⊢
    obtain ⟨w3, hw3⟩ : ∃ w3, w2.alloc (.cells C 136) = w3 := ⟨_, rfl⟩
    rw [hw3] at cn0 cn1 cn2 HKI HB2 HSX ⊢
    clear hq hw3 HNA
    have HZ : Hid ((r = [] ∧ rn = 0) ∨ (r ≠ [] ∧ 0 < rn)) := Lib.hid (by
      by_cases hr : r = []
      · subst hr; exact Or.inl ⟨rfl, HRN.out.symm⟩
      · have := List.length_pos_iff.2 hr; have := HRN.out; exact Or.inr ⟨hr, by omega⟩)
    clear hrun
    obtain ⟨kd, P, V, K⟩ := n
    dsimp only at cn0 cn1 cn2 HKI hkind hpl
    rcases hkind with rfl | ⟨rfl, hk0⟩ | rfl
    · have hfo : Prf.fol X l (x :: r) = _ := Prf.fol_leaf HSN.out HNN.out HXX.out rfl
      dsimp only at hfo
      rw [HFO.out] at hfo
      rcases HZ.out with ⟨rfl, rfl⟩ | ⟨hr, hrp⟩
      · rw [if_pos rfl] at hfo
        by_cases hp : P = l
        · subst hp
          rw [if_pos rfl] at hfo
          have HO := Lib.hid hfo
          have y1 : (P == P) = true := beq_self_eq_true _
          clear hfo
          go_wp2
          go_ret2
          exact RFolPostV.yes V HO.out HB2.out
        · rw [if_neg hp] at hfo
          have HO := Lib.hid hfo
          have y1 : (P == l) = false := beq_eq_false_iff_ne.2 hp
          clear hfo hp
          go_wp2
          go_ret2
          exact RFolPostV.yes [] HO.out HB2.out
      · rw [if_neg hr] at hfo
        have HO := Lib.hid hfo
        have z1 : ((rn : Int) == 0) = false := by rw [beq_eq_false_iff_ne]; omega
        have z3 : (rn == 0) = false := by rw [beq_eq_false_iff_ne]; omega
        have z4 : ¬ rn = 0 := by omega
        by_cases hp : P = l
        · subst hp
          have y1 : (P == P) = true := beq_self_eq_true _
          clear hfo hr hrp
          go_wp2
          go_ret2
          exact RFolPostV.no V HO.out HB2.out
        · have y1 : (P == l) = false := beq_eq_false_iff_ne.2 hp
          clear hfo hp hr hrp
          go_wp2
          go_ret2
          exact RFolPostV.no [] HO.out HB2.out
    · have cn3 := HKI.out 0 (by rw [HN16.out]; omega)
      have ek : K.getD 0 [] = K[0]'(by have := HN16.out; dsimp only at this; omega) := by
        rw [List.getD_eq_getElem?_getD, List.getElem?_eq_getElem (by have := HN16.out; dsimp only at this; omega)]
        rfl
      rw [ek] at hk0
      by_cases hp : l.take P.length = P
      · have hfo : Prf.fol X l (x :: r) = _ := Prf.fol_ext HSN.out HNN.out HXX.out rfl (by dsimp only; rw [ek]; exact hk0) hp
        dsimp only at hfo
        rw [HFO.out, ek] at hfo
        obtain ⟨k0, hk0'⟩ : ∃ k0, K[0]'(by have := HN16.out; dsimp only at this; omega) = k0 := ⟨_, rfl⟩
        rw [hk0'] at hfo hk0
        try dsimp only at cn3
        rw [hk0'] at cn3
        simp only [Nat.add_zero] at cn3
        have hle : P.length ≤ l.length := by
          have := congrArg List.length hp
          simp at this
          omega
        have hfd : Nib.fitL (l.drop P.length) = true := Tri.fit_drop _ HFT.out
        have hld : (l.drop P.length).length ≤ 1000 := by have := HLL.out; rw [List.length_drop]; omega
        have htail := ext_drop l P.length
        have he : (((⟨l.toArray⟩ : ByteArray).extract 0 P.length).toList == P) = true := by rw [Lib.extract_eq]; simpa using hp
        obtain ⟨l2, hl2⟩ : ∃ l2, l.drop P.length = l2 := ⟨_, rfl⟩
        rw [hl2] at hfo hfd hld htail
        have HCA : Hid (∀ w', Below w3.heap.size w3 w' → Calls Tryz.prog 63 #[.string ⟨k0.toArray⟩, .string ⟨l2.toArray⟩, .slice A' rn cap'] w' fun e w'' => ∃ (v : T) (b : Bool), e = .returned (.tuple #[.string ⟨v.toArray⟩, .bool b]) ∧ b = o.isSome ∧ (b = true → v = o.getD []) ∧ Below w3.heap.size w3 w'') := Lib.hid (fun w' hb => by
          have h1 := HIH.out k0 l2 _ w' (HSX.out.below hb) hfd hld
          rw [Prf.follow_fol hk0, ← hfo] at h1
          exact h1.mono fun e w'' ⟨v, b, q1, q2, q3, q4⟩ => ⟨v, b, q1, q2, q3, bchain hb q4⟩)
        have z0 : (0 : Int) ≤ (P.length : Int) := by omega
        have z1 : (P.length : Int) ≤ (l.length : Int) := by omega
        have z2 : decide ((P.length : Int) ≤ (l.length : Int)) = true := decide_eq_true z1
        have HCC : Hid (∀ w', Below w3.heap.size w3 w' → w'.cell? ⟨q, 3, none⟩ = some (.string ⟨k0.toArray⟩)) := Lib.hid (fun w' h => (h.cell (World.block_lt_of_cell? _ _ cn3)).trans cn3)
        clear hfo hp hk0 hk0' hfd hld hl2 hle ek hpl
        go_upto_region 13 with fail
        go_quiet (fail)
        obtain ⟨w4, hw4⟩ : ∃ w4, w3.drewN nq = w4 := ⟨_, rfl⟩
        have B4 : Below w3.heap.size w3 w4 := by rw [← hw4]; exact bel_drewN (Below.refl _ _) _
        have B5 : Below w3.heap.size w3 w4.drew := B4.drew
        have c5 := HCC.out _ B5
        rw [hw4]
        go_upto_region 14 with fail
        go_region_held3 (fun w' => w'.cell? ⟨q, 3, none⟩ = some (.string ⟨k0.toArray⟩))
          ((first | (with_reducible assumption) | (refine (HCC.out _ ?_); with_reducible assumption)))
          (first | (go_at_call 63; refine (HCA.out _ ?_).mono ?_; (with_reducible assumption); rintro e w6 ⟨v6, b6, rfl, hb6, hv6, hw6⟩))
        all_goals
          have H6 := Lib.hid hb6
          have H7 := Lib.hid hv6
          have H8 := Lib.hid (bchain HB2.out hw6)
          clear hb6 hv6 hw6
          go_wp2
          go_ret2
          first | exact ⟨v6, b6, rfl, H6.out, H7.out, H8.out⟩ | exact ⟨v6, o.isSome, rfl, rfl, fun e => H7.out (H6.out.trans e), H8.out⟩
      · have hfo : Prf.fol X l (x :: r) = _ := Prf.fol_off HSN.out HNN.out HXX.out rfl hp
        rw [HFO.out] at hfo
        have HO : Hid (o = if r = [] then some [] else none) := Lib.hid hfo
        clear hfo hk0 ek cn3
        by_cases hle : P.length ≤ l.length
        · have he : (((⟨l.toArray⟩ : ByteArray).extract 0 P.length).toList == P) = false := by rw [Lib.extract_eq, beq_eq_false_iff_ne]; simpa using hp
          have z0 : (0 : Int) ≤ (P.length : Int) := by omega
          have z1 : (P.length : Int) ≤ (l.length : Int) := by omega
          have z2 : decide ((P.length : Int) ≤ (l.length : Int)) = true := decide_eq_true z1
          clear hp hpl
          go_upto_region 13 with fail
          go_quiet (fail)
          have HBQ := Lib.hid (bel_drewN HB2.out nq)
          rcases HZ.out with ⟨rfl, rfl⟩ | ⟨hr, hrp⟩
          · have HO2 := Lib.hid (HO.out.trans (if_pos rfl))
            clear z0 z1 z2 hle
            go_wp2
            go_ret2
            exact RFolPostV.yes [] HO2.out HBQ.out
          · have HO2 := Lib.hid (HO.out.trans (if_neg hr))
            have x1 : ((rn : Int) == 0) = false := by rw [beq_eq_false_iff_ne]; omega
            have x3 : (rn == 0) = false := by rw [beq_eq_false_iff_ne]; omega
            have x4 : ¬ rn = 0 := by omega
            clear z0 z1 z2 hle hr hrp
            go_wp2
            go_ret2
            exact RFolPostV.no [] HO2.out HBQ.out
        · have z1 : ¬ ((P.length : Int) ≤ (l.length : Int)) := by omega
          have z2 : decide ((P.length : Int) ≤ (l.length : Int)) = false := decide_eq_false z1
          clear hp hpl
          go_upto_region 13 with fail
          go_quiet (fail)
          have HBQ := Lib.hid (bel_drewN HB2.out nq)
          rcases HZ.out with ⟨rfl, rfl⟩ | ⟨hr, hrp⟩
          · have HO2 := Lib.hid (HO.out.trans (if_pos rfl))
            clear z1 z2 hle
            go_wp2
            go_ret2
            exact RFolPostV.yes [] HO2.out HBQ.out
          · have HO2 := Lib.hid (HO.out.trans (if_neg hr))
            have x1 : ((rn : Int) == 0) = false := by rw [beq_eq_false_iff_ne]; omega
            have x3 : (rn == 0) = false := by rw [beq_eq_false_iff_ne]; omega
            have x4 : ¬ rn = 0 := by omega
            clear z1 z2 hle hr hrp
            go_wp2
            go_ret2
            exact RFolPostV.no [] HO2.out HBQ.out
    · cases l with
      | nil =>
        have hfo : Prf.fol X [] (x :: r) = _ := Prf.fol_end HSN.out HNN.out HXX.out rfl
        rw [HFO.out] at hfo
        have HO : Hid (o = if r = [] then some V else none) := Lib.hid hfo
        clear hfo hpl
        rcases HZ.out with ⟨rfl, rfl⟩ | ⟨hr, hrp⟩
        · have HO2 := Lib.hid (HO.out.trans (if_pos rfl))
          go_wp2
          go_ret2
          exact RFolPostV.yes V HO2.out HB2.out
        · have HO2 := Lib.hid (HO.out.trans (if_neg hr))
          have x1 : ((rn : Int) == 0) = false := by rw [beq_eq_false_iff_ne]; omega
          have x3 : (rn == 0) = false := by rw [beq_eq_false_iff_ne]; omega
          have x4 : ¬ rn = 0 := by omega
          clear hr hrp
          go_wp2
          go_ret2
          exact RFolPostV.no V HO2.out HB2.out
      | cons b l2 =>
        have hfo : Prf.fol X (b :: l2) (x :: r) = _ := Prf.fol_kid HSN.out HNN.out HXX.out rfl
        rw [HFO.out] at hfo
        dsimp only at hfo
        obtain ⟨hb15, hf2⟩ := Tri.fit_cons.1 HFT.out
        have hbl : b.toNat < K.length := by have := HN16.out; dsimp only at this; omega
        have cn3 := HKI.out b.toNat hbl
        have ek : K.getD b.toNat [] = K[b.toNat] := by
          rw [List.getD_eq_getElem?_getD, List.getElem?_eq_getElem hbl]
          rfl
        rw [ek] at hfo
        obtain ⟨k0, hk0'⟩ : ∃ k0, K[b.toNat] = k0 := ⟨_, rfl⟩
        try dsimp only at cn3
        rw [hk0'] at cn3 hfo
        have hll : l2.length ≤ 1000 := by have := HLL.out; rw [List.length_cons] at this; omega
        have HCA : Hid (k0 ≠ [] → ∀ w', Below w3.heap.size w3 w' → Calls Tryz.prog 63 #[.string ⟨k0.toArray⟩, .string ⟨l2.toArray⟩, .slice A' rn cap'] w' fun e w'' => ∃ (v : T) (b : Bool), e = .returned (.tuple #[.string ⟨v.toArray⟩, .bool b]) ∧ b = o.isSome ∧ (b = true → v = o.getD []) ∧ Below w3.heap.size w3 w'') := Lib.hid (fun hk0 w' hb => by
          have h1 := HIH.out k0 l2 _ w' (HSX.out.below hb) hf2 hll
          rw [Prf.follow_fol hk0, ← hfo] at h1
          exact h1.mono fun e w'' ⟨v, b, q1, q2, q3, q4⟩ => ⟨v, b, q1, q2, q3, bchain hb q4⟩)
        have HOE : Hid (k0 = [] → o = if r = [] then some [] else none) := Lib.hid (fun e => by rw [hfo, e, Prf.fol_nil])
        have hbyte : ∀ hh, (⟨(b :: l2).toArray⟩ : ByteArray)[0]'hh = b := byte_drop rfl
        have htl2 : (⟨(b :: l2).toArray⟩ : ByteArray).extract 1 (b :: l2).length = ⟨l2.toArray⟩ := tail_drop (n := 0) rfl
        have hne : ((b :: l2 : List UInt8) == []) = false := rfl
        have y0 : (0 : Int) < ((b :: l2).length : Int) := by rw [List.length_cons]; omega
        have y1 : (1 : Int) ≤ ((b :: l2).length : Int) := by rw [List.length_cons]; omega
        have y6 : (0 : Int) ≤ (b.toNat : Int) := by omega
        have y7 : (b.toNat : Int) < 16 := by omega
        obtain ⟨Q, hQ⟩ : ∃ Q, b :: l2 = Q := ⟨_, rfl⟩
        rw [hQ] at hbyte htl2 hne y0 y1 ⊢
        clear hfo hk0' ek hbl hb15 hf2 hll hQ hpl
        by_cases hk0 : k0 = []
        · subst hk0
          rcases HZ.out with ⟨rfl, rfl⟩ | ⟨hr, hrp⟩
          · have HO2 := Lib.hid ((HOE.out rfl).trans (if_pos rfl))
            go_wp2
            go_ret2
            exact RFolPostV.yes [] HO2.out HB2.out
          · have HO2 := Lib.hid ((HOE.out rfl).trans (if_neg hr))
            have x1 : ((rn : Int) == 0) = false := by rw [beq_eq_false_iff_ne]; omega
            have x3 : (rn == 0) = false := by rw [beq_eq_false_iff_ne]; omega
            have x4 : ¬ rn = 0 := by omega
            clear hr hrp
            go_wp2
            go_ret2
            exact RFolPostV.no [] HO2.out HB2.out
        · have HCL := Lib.hid (HCA.out hk0 w3 (Below.refl _ _))
          have hk1 : (k0 == []) = false := beq_eq_false_iff_ne.2 hk0
          have hk2 : k0.isEmpty = false := by cases k0 <;> simp_all
          clear hk0
          go_wp2_with fail
          refine HCL.out.mono ?_
          rintro e w6 ⟨v6, b6, rfl, hb6, hv6, hw6⟩
          have H6 := Lib.hid hb6
          have H7 := Lib.hid hv6
          have H8 := Lib.hid (bchain HB2.out hw6)
          clear hb6 hv6 hw6
          go_wp2
          go_ret2
          exact ⟨v6, b6, rfl, H6.out, H7.out, H8.out⟩
/-- What Follow's answer tells Verify. -/
theorem Prf.verify_of {root key : T} {L : List T} (hk : Tri.keyed key = true) (hr : root ≠ []) : Prf.verify root key L = match Prf.follow root (Nib.ofL key) L with | some v => (v, decide (v ≠ []), 0) | none => ([], false, 130) := by
  unfold Prf.verify
  rw [if_pos hk, if_neg hr]
  first | done | rfl
theorem rverify_any (root key : T) (v : Value) (L : List T) (w : World) (hv : StrsC w v L) (hL : ∀ x ∈ L, x.length ≤ 999) :
    Calls Tryz.prog 33 #[.string ⟨root.toArray⟩, .string ⟨key.toArray⟩, v] w fun e w' => e = .returned (.tuple #[.string ⟨(Prf.verify root key L).1.toArray⟩, .bool (Prf.verify root key L).2.1, .int .i64 (Prf.verify root key L).2.2]) ∧ Below w.heap.size w w' := by
  have HK := Lib.hid (fun w => rKeyed_all key w)
  obtain ⟨A, cap, hve, -⟩ := hv.form
  cases hk : Tri.keyed key with
  | false =>
    rw [hk] at HK
    have e : Prf.verify root key L = ([], false, 1) := by unfold Prf.verify; rw [if_neg (by rw [hk]; simp)]
    rw [e]
    subst hve
    clear hv hL hk e
    go_enter Tryz.func33, Tryz.ntmps33
    go_wp2_with fail
    refine (HK.out _).mono ?_
    rintro e w1 ⟨rfl, rfl⟩
    go_wp2
    go_ret3
    exact ⟨rfl, Below.refl _ _⟩
  | true =>
    rw [hk] at HK
    by_cases hr : root = []
    · subst hr
      by_cases hn : L = []
      · subst hn
        have e : Prf.verify [] key [] = ([], false, 0) := by unfold Prf.verify; rw [if_pos hk, if_pos rfl, if_pos rfl]
        rw [e]
        subst hve
        clear hv hL hk e
        go_enter Tryz.func33, Tryz.ntmps33
        go_wp2_with fail
        refine (HK.out _).mono ?_
        rintro e w1 ⟨rfl, rfl⟩
        go_wp2
        go_ret3
        exact ⟨rfl, Below.refl _ _⟩
      · have e : Prf.verify [] key L = ([], false, 130) := by unfold Prf.verify; rw [if_pos hk, if_pos rfl, if_neg hn]
        rw [e]
        subst hve
        have hn1 := List.length_pos_iff.2 hn
        have z1 : (0 : Int) < (L.length : Int) := by omega
        clear hv hL hk e hn
        go_enter Tryz.func33, Tryz.ntmps33
        go_wp2_with fail
        refine (HK.out _).mono ?_
        rintro e w1 ⟨rfl, rfl⟩
        go_wp2
        go_ret3
        exact ⟨rfl, Below.refl _ _⟩
    · have q1 : (root == []) = false := beq_eq_false_iff_ne.2 hr
      have q3 : root.isEmpty = false := by cases root <;> simp_all
      rw [Prf.verify_of hk hr]
      have hk8 : key.length ≤ 8 := by simp [Tri.keyed] at hk; omega
      have HOF := Lib.hid (fun w => rof_any key w (by omega))
      have HFO := Lib.hid (fun w1 (hb : Below w.heap.size w w1) => rfollow_any L root (Nib.ofL key) v w1 (hv.below hb) hL (Tri.ofL_fit key) (by rw [Nib.ofL_length]; omega))
      unfold RFolPostV at HFO
      obtain ⟨q, hq⟩ : ∃ q, Nib.ofL key = q := ⟨_, rfl⟩
      rw [hq] at HOF HFO ⊢
      obtain ⟨o, ho⟩ : ∃ o, Prf.follow root q L = o := ⟨_, rfl⟩
      rw [ho] at HFO ⊢
      subst hve
      clear hv hL hk hk8 hq ho hr
      go_enter Tryz.func33, Tryz.ntmps33
      go_wp2_with fail
      refine (HK.out _).mono ?_
      rintro e w1 ⟨rfl, rfl⟩
      go_wp2_with fail
      refine (HOF.out _).mono ?_
      rintro e w2 ⟨rfl, hb2⟩
      have HB2 := Lib.hid hb2
      clear hb2
      go_wp2_with fail
      refine (HFO.out _ HB2.out).mono ?_
      rintro e w3 ⟨v3, b3, rfl, hbs, hvs, hb3⟩
      have HB3 := Lib.hid (bchain HB2.out hb3)
      have HVS := Lib.hid hvs
      have HBS := Lib.hid hbs
      clear hb3 hvs hbs
      cases o with
      | none =>
        obtain rfl : b3 = false := HBS.out
        go_wp2
        go_ret3
        exact ⟨rfl, HB3.out⟩
      | some u =>
        obtain rfl : b3 = true := HBS.out
        obtain rfl : v3 = u := HVS.out rfl
        by_cases hu : v3 = []
        · subst hu
          go_wp2
          go_ret3
          exact ⟨rfl, HB3.out⟩
        · have q2 : (v3 != []) = true := by rw [bne_iff_ne]; exact hu
          have q3 : v3.isEmpty = false := by cases v3 <;> simp_all
          have q1 : (v3 == []) = false := beq_eq_false_iff_ne.2 hu
          have q4 : Hid ((!decide (v3 = [])) = true) := Lib.hid (by rw [decide_eq_false hu]; rfl)
          clear hu
          go_wp2
          go_ret3
          refine ⟨?_, HB3.out⟩
          rw [q4.out]
          rfl
end Go.Proofs.YtjfefphgikncnaaGreatDoor
