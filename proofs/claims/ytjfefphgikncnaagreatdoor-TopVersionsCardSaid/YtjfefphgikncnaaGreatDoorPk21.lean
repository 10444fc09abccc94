/- ProofFollow, ProofWorks, TopKeeps, VerWas, VerStep, TopMem, VerSP, ArgChanges, VerFind, VerRoots -/
import Derived.Test.YtjfefphgikncnaaGreatDoorPk20
import Derived.WalkMore
import Derived.Test.YtjfefphgikncnaaGreatDoorPk16
import Derived.Test.YtjfefphgikncnaaGreatDoorPk19
import Derived.Test.YtjfefphgikncnaaGreatDoorPk11
import Derived.Test.YtjfefphgikncnaaGreatDoorPk14
import Derived.Test.YtjfefphgikncnaaGreatDoorPk12
namespace Go.Proofs.YtjfefphgikncnaaGreatDoor
open Go.RowKit
open Sto (T St)
open Go.Proofs.YtjfefphgikncnaaGreatDoor.Nd (N)

/-- How many things a slice has. -/
def nlen : Value → Nat
  | .slice _ n _ => n
  | _ => 0
def FolPost (o : Option T) (w : World) (e : Ending) (w' : World) : Prop :=
  e = .returned (.tuple #[.string ⟨(o.getD []).toArray⟩, .int .i64 (if o.isSome then 0 else 130)]) ∧ Below w.heap.size w w'
theorem FolPost.yes {o : Option T} {v : T} {w w' : World} (h : o = some v) (hb : Below w.heap.size w w') : FolPost o w (.returned (.tuple #[.string ⟨v.toArray⟩, .int .i64 0])) w' := by
  subst h
  exact ⟨rfl, hb⟩
theorem FolPost.no {o : Option T} {w w' : World} (h : o = none) (hb : Below w.heap.size w w') : FolPost o w (.returned (.tuple #[.string ⟨#[]⟩, .int .i64 130])) w' := by
  subst h
  exact ⟨rfl, hb⟩
set_option maxRecDepth 100000 in
set_option maxHeartbeats 1000000 in
theorem follow_any (s0 l0 : T) (v : Value) (L0 : List T) (w : World) (hv : StrsC w v L0) (hT : Tab w) (hL : ∀ x ∈ L0, x.length ≤ 1000000) (hf0 : Nib.fitL l0 = true) (hl0 : l0.length ≤ 1000) :
    Calls Tryz.prog 61 #[.string ⟨s0.toArray⟩, .string ⟨l0.toArray⟩, v] w (FolPost (Prf.fol s0 l0 L0) w) := by
  obtain ⟨o, ho⟩ : ∃ o, Prf.fol s0 l0 L0 = o := ⟨_, rfl⟩
  rw [ho]
  have HT := Lib.hid hT
  have HCU := Lib.hid (fun (s p : T) w => cut_any s p w)
  have H0 := Lib.hid (show StrsC w v L0 ∧ Prf.fol s0 l0 L0 = o ∧ Nib.fitL l0 = true ∧ l0.length ≤ 1000 ∧ ∀ x ∈ L0, x.length ≤ 1000000 from ⟨hv, ho, hf0, hl0, hL⟩)
  have HI19 : Hid ((Tryz.prog.info? 136).map (·.size) = some 19) := Lib.hid (by kernel_rfl)
  clear hv hT hL hf0 hl0 ho
  go_enter Tryz.func61, Tryz.ntmps61
  go_wp2
  go_step3
  go_wp2
  go_step3
  go_wp2
  go_loopw [0, 1, 2, 6] (fun sv lv nv xv wr => ∃ (s l : T) (L : List T) (zv : Value), zv = nv ∧ xv = .string ⟨#[]⟩ ∧ sv = .string ⟨s.toArray⟩ ∧ lv = .string ⟨l.toArray⟩ ∧ StrsC wr zv L ∧ Prf.fol s l L = o ∧ Nib.fitL l = true ∧ l.length ≤ 1000 ∧ (∀ x ∈ L, x.length ≤ 1000000) ∧ Below w.heap.size w wr) (fun _ _ nv _ _ => nlen nv)
  case atStart =>
    obtain ⟨h1, h2, h3, h4, h5⟩ := H0.out
    exact ⟨s0, l0, L0, _, rfl, rfl, rfl, rfl, h1, h2, h3, h4, h5, Below.refl _ _⟩
  case round =>
    obtain ⟨s, l, L, zv, rfl, rfl, rfl, rfl, hst, hfo, hfit, hl, hL, hb⟩ := hrel
    have HB := Lib.hid hb
    have HST := Lib.hid hst
    by_cases hs : s = []
    · subst hs
      rw [Prf.fol_nil] at hfo
      obtain ⟨A, cap, rfl, -⟩ := hst.form
      by_cases hn : L = []
      · subst hn
        rw [if_pos rfl] at hfo
        have HO := Lib.hid hfo.symm
        clear hst hfo hfit hl hL hb
        go_wp2
        try rw [Exit.noGoto_ret]
        go_ret2
        exact FolPost.yes (v := []) HO.out HB.out
      · rw [if_neg hn] at hfo
        have HO := Lib.hid hfo.symm
        have q1 : (0 : Int) < (L.length : Int) := by have := List.length_pos_iff.2 hn; omega
        clear hst hfo hfit hl hL hb hn
        go_wp2
        try rw [Exit.noGoto_ret]
        go_ret2
        exact FolPost.no HO.out HB.out
    have q1 : (s == []) = false := beq_eq_false_iff_ne.2 hs
    have q2 : (s != []) = true := by rw [bne_iff_ne]; exact hs
    have q3 : s.isEmpty = false := by cases s <;> simp_all
    have HFI := Lib.hid (pfirst_any L s zv wr hst (HT.out.below hb) hL)
    unfold FirstPost at HFI
    have HS := Lib.hid hs
    have HFO := Lib.hid hfo
    have HFT := Lib.hid hfit
    have HL1 := Lib.hid hl
    have HLS := Lib.hid hL
    clear hst hfo hfit hb hs hL hl
    go_wp2_with fail
    refine HFI.out.mono ?_
    rintro e w2 ⟨n, bb, rfl, hn16, hb2, his⟩
    have HIS := Lib.hid his
    have HN16 := Lib.hid hn16
    have HB2 := Lib.hid (bchain HB.out (hb2.alloc hb2.size (.cells (ncl n).toArray 136)))
    have HST2 := Lib.hid (HST.out.below (hb2.alloc hb2.size (.cells (ncl n).toArray 136)))
    have HON := Lib.hid (ncl_one n)
    have HSN : Hid ((ncl n).toArray.size = 19) := Lib.hid (by rw [List.size_toArray, ncl_length n hn16])
    have HNW : Hid (NodeAt (w2.alloc (.cells (ncl n).toArray 136)) w2.heap.size n) := Lib.hid (heap_new_at w2 _ _ rfl)
    unfold ndval
    obtain ⟨C, hC⟩ : ∃ C, (ncl n).toArray = C := ⟨_, rfl⟩
    rw [hC] at HON HSN HNW HB2 HST2 ⊢
    have HI : Hid ((Tryz.prog.info? 136).map (·.size) = some C.size) := Lib.hid (by rw [HSN.out]; exact HI19.out)
    have cn0 := HNW.out.kind
    clear his hn16 hb2 hC HFI
    cases L with
    | nil =>
      obtain rfl : bb = false := HIS.out
      have HO : Hid (o = none) := Lib.hid (by rw [← HFO.out]; exact Prf.fol_none HS.out)
      clear cn0
      go_wp2_with (refine wpList_store_fresh (by rfl) _ _ _ (by rfl) w2.heap.size rfl C (by rfl) (by rfl) _ _ HI.out HSN.out.symm HON.out ?_)
      try rw [Exit.noGoto_ret]
      go_ret2
      exact FolPost.no HO.out HB2.out
    | cons x r =>
      cases bb with
      | false =>
        have HO : Hid (o = none) := Lib.hid (by rw [← HFO.out]; exact Prf.fol_bad HS.out HIS.out.1.symm)
        clear cn0
        go_wp2_with (refine wpList_store_fresh (by rfl) _ _ _ (by rfl) w2.heap.size rfl C (by rfl) (by rfl) _ _ HI.out HSN.out.symm HON.out ?_)
        try rw [Exit.noGoto_ret]
        go_ret2
        exact FolPost.no HO.out HB2.out
      | true =>
        have hN : Prf.isN s x = true := HIS.out.1.symm
        have hX : (Nd.dec x).1 = n := HIS.out.2 rfl
        have hto : Prf.Told n := by rw [← hX]; exact Prf.Told.of (of_decide_eq_true hN).2
        obtain ⟨A, cap, hz, -⟩ := HST2.out.form
        subst hz
        obtain ⟨A', cap', hrun, hst3⟩ := HST2.out.tail
        have hrl : nlen (.slice A' r.length cap') < nlen (.slice A (x :: r).length cap) := by simp [nlen]
        have HRL := Lib.hid hrl
        have HRS : Hid (∀ x ∈ r, x.length ≤ 1000000) := Lib.hid (fun y hy => HLS.out y (List.mem_cons_of_mem _ hy))
        obtain ⟨nn, hnn⟩ : ∃ nn, (x :: r).length = nn := ⟨_, rfl⟩
        rw [hnn] at hrun ⊢
        obtain ⟨rn, hrn⟩ : ∃ rn, r.length = rn := ⟨_, rfl⟩
        rw [hrn] at hrun HRL hst3
        have HRN := Lib.hid hrn
        have HST3 := Lib.hid hst3
        have cn1 := HNW.out.path
        have cn2 := HNW.out.val
        have HKI : Hid (∀ i (h : i < n.kids.length), (w2.alloc (.cells C 136)).cell? ⟨w2.heap.size, 3 + i, none⟩ = some (.string ⟨n.kids[i].toArray⟩)) := Lib.hid (fun i h => HNW.out.kid i h)
        have HTO := Lib.hid hto
        have HNN := Lib.hid hN
        have HXX := Lib.hid hX
        have hkind := hto.kind
        clear hto hN hX hst3 hrl hnn hrn
        go_upto_region 5 with (refine wpList_store_fresh (by rfl) _ _ _ (by rfl) w2.heap.size rfl C (by rfl) (by rfl) _ _ HI.out HSN.out.symm HON.out ?_)
        obtain ⟨q, hq⟩ : ∃ q, w2.heap.size = q := ⟨_, rfl⟩
        rw [hq] at cn0 cn1 cn2 HKI ⊢
        obtain ⟨w3, hw3⟩ : ∃ w3, w2.alloc (.cells C 136) = w3 := ⟨_, rfl⟩
        rw [hw3] at cn0 cn1 cn2 HKI HB2 HST3 ⊢
        clear hq hw3 HNW HST2 HST HB
        obtain ⟨kd, P, V, K⟩ := n
        dsimp only at cn0 cn1 cn2 HKI hkind
        rcases hkind with rfl | ⟨rfl, hk0⟩ | rfl
        · have hfo : Prf.fol s l (x :: r) = _ := Prf.fol_leaf HS.out HNN.out HXX.out rfl
          dsimp only at hfo
          rw [HFO.out] at hfo
          by_cases hr : r = []
          · subst hr
            obtain rfl : rn = 0 := HRN.out.symm
            rw [if_pos rfl] at hfo
            by_cases hp : P = l
            · subst hp
              rw [if_pos rfl] at hfo
              have HO := Lib.hid hfo
              have y1 : (P == P) = true := beq_self_eq_true _
              clear hfo
              go_wp2
              try rw [Exit.noGoto_ret]
              go_ret2
              exact FolPost.yes (v := V) HO.out HB2.out
            · rw [if_neg hp] at hfo
              have HO := Lib.hid hfo
              have y1 : (P == l) = false := beq_eq_false_iff_ne.2 hp
              clear hfo hp
              go_wp2
              try rw [Exit.noGoto_ret]
              go_ret2
              exact FolPost.yes (v := []) HO.out HB2.out
          · rw [if_neg hr] at hfo
            have HO := Lib.hid hfo
            have z1 : (0 : Int) < (rn : Int) := by have := List.length_pos_iff.2 hr; have := HRN.out; omega
            have z2 : 0 < rn := by omega
            by_cases hp : P = l
            · subst hp
              have y1 : (P == P) = true := beq_self_eq_true _
              clear hfo hr
              go_wp2
              try rw [Exit.noGoto_ret]
              go_ret2
              exact FolPost.no HO.out HB2.out
            · have y1 : (P == l) = false := beq_eq_false_iff_ne.2 hp
              clear hfo hp hr
              go_wp2
              try rw [Exit.noGoto_ret]
              go_ret2
              exact FolPost.no HO.out HB2.out
        · have HCP := Lib.hid (fun w => HCU.out l P w)
          by_cases hp : l.take P.length = P
          · have hfo : Prf.fol s l (x :: r) = _ := Prf.fol_ext HS.out HNN.out HXX.out rfl hk0 hp
            try dsimp only at hfo
            rw [HFO.out] at hfo
            have ecut : cutP l P = l.drop P.length := by unfold cutP; rw [if_pos hp]
            rw [decide_eq_true hp, ecut] at HCP
            have cn3 := HKI.out 0 (by rw [HN16.out]; omega)
            have ek : K.getD 0 [] = K[0]'(by have := HN16.out; dsimp only at this; omega) := by
              rw [List.getD_eq_getElem?_getD, List.getElem?_eq_getElem (by have := HN16.out; dsimp only at this; omega)]
              rfl
            rw [ek] at hfo
            obtain ⟨k0, hk0'⟩ : ∃ k0, K[0]'(by have := HN16.out; dsimp only at this; omega) = k0 := ⟨_, rfl⟩
            try dsimp only at cn3
            rw [hk0'] at cn3 hfo
            simp only [Nat.add_zero] at cn3
            have hfd : Nib.fitL (l.drop P.length) = true := Tri.fit_drop _ HFT.out
            have hld : (l.drop P.length).length ≤ 1000 := by have := HL1.out; rw [List.length_drop]; omega
            obtain ⟨l2, hl2⟩ : ∃ l2, l.drop P.length = l2 := ⟨_, rfl⟩
            rw [hl2] at HCP hfo hfd hld
            have HNX := Lib.hid (show Prf.fol k0 l2 r = o ∧ Nib.fitL l2 = true ∧ l2.length ≤ 1000 from ⟨hfo.symm, hfd, hld⟩)
            clear hfo hp ecut hk0 ek hk0' hfd hld hl2
            go_wp2_with fail
            refine (HCP.out _).mono ?_
            rintro e w4 ⟨rfl, rfl⟩
            go_wp2
            obtain ⟨a1, a2, a3⟩ := HNX.out
            exact ⟨⟨k0, l2, r, _, rfl, rfl, rfl, rfl, HST3.out, a1, a2, a3, HRS.out, HB2.out⟩, HRL.out⟩
          · have hfo : Prf.fol s l (x :: r) = _ := Prf.fol_off HS.out HNN.out HXX.out rfl hp
            rw [HFO.out] at hfo
            rw [decide_eq_false hp] at HCP
            clear hp hk0
            by_cases hr : r = []
            · subst hr
              obtain rfl : rn = 0 := HRN.out.symm
              rw [if_pos rfl] at hfo
              have HO := Lib.hid hfo
              clear hfo
              go_wp2_with fail
              refine (HCP.out _).mono ?_
              rintro e w4 ⟨rfl, rfl⟩
              go_wp2
              try rw [Exit.noGoto_ret]
              go_ret2
              exact FolPost.yes (v := []) HO.out HB2.out
            · rw [if_neg hr] at hfo
              have HO := Lib.hid hfo
              have z1 : (0 : Int) < (rn : Int) := by have := List.length_pos_iff.2 hr; have := HRN.out; omega
              have z2 : 0 < rn := by omega
              clear hfo hr
              go_wp2_with fail
              refine (HCP.out _).mono ?_
              rintro e w4 ⟨rfl, rfl⟩
              go_wp2
              try rw [Exit.noGoto_ret]
              go_ret2
              exact FolPost.no HO.out HB2.out
        · cases l with
          | nil =>
            have hfo : Prf.fol s [] (x :: r) = _ := Prf.fol_end HS.out HNN.out HXX.out rfl
            try dsimp only at hfo
            rw [HFO.out] at hfo
            by_cases hr : r = []
            · subst hr
              obtain rfl : rn = 0 := HRN.out.symm
              rw [if_pos rfl] at hfo
              have HO := Lib.hid hfo
              clear hfo
              go_wp2
              try rw [Exit.noGoto_ret]
              go_ret2
              exact FolPost.yes (v := V) HO.out HB2.out
            · rw [if_neg hr] at hfo
              have HO := Lib.hid hfo
              have z1 : (0 : Int) < (rn : Int) := by have := List.length_pos_iff.2 hr; have := HRN.out; omega
              have z2 : 0 < rn := by omega
              clear hfo hr
              go_wp2
              try rw [Exit.noGoto_ret]
              go_ret2
              exact FolPost.no HO.out HB2.out
          | cons b l2 =>
            have hfo : Prf.fol s (b :: l2) (x :: r) = _ := Prf.fol_kid HS.out HNN.out HXX.out rfl
            try dsimp only at hfo
            rw [HFO.out] at hfo
            obtain ⟨hb15, hf2⟩ := Tri.fit_cons.1 HFT.out
            have hbl : b.toNat < K.length := by have := HN16.out; dsimp only at this; omega
            have cn3 := HKI.out b.toNat hbl
            have ek : K.getD b.toNat [] = K[b.toNat] := by
              rw [List.getD_eq_getElem?_getD, List.getElem?_eq_getElem hbl]
              rfl
            rw [ek] at hfo
            obtain ⟨k0, hk0'⟩ : ∃ k0, K[b.toNat] = k0 := ⟨_, rfl⟩
            try dsimp only at cn3
            rw [hk0'] at cn3 hfo
            have hll : l2.length ≤ 1000 := by have := HL1.out; rw [List.length_cons] at this; omega
            have HNX := Lib.hid (show Prf.fol k0 l2 r = o ∧ Nib.fitL l2 = true ∧ l2.length ≤ 1000 from ⟨hfo.symm, hf2, hll⟩)
            have hbyte : ∀ hh, (⟨(b :: l2).toArray⟩ : ByteArray)[0]'hh = b := byte_drop rfl
            have htl2 : (⟨(b :: l2).toArray⟩ : ByteArray).extract 1 (b :: l2).length = ⟨l2.toArray⟩ := tail_drop (n := 0) rfl
            have hne : ((b :: l2 : List UInt8) == []) = false := rfl
            have y0 : (0 : Int) < ((b :: l2).length : Int) := by rw [List.length_cons]; omega
            have y1 : (1 : Int) ≤ ((b :: l2).length : Int) := by rw [List.length_cons]; omega
            have y6 : (0 : Int) ≤ (b.toNat : Int) := by omega
            have y7 : (b.toNat : Int) < 16 := by omega
            obtain ⟨Q, hQ⟩ : ∃ Q, b :: l2 = Q := ⟨_, rfl⟩
            rw [hQ] at hbyte htl2 hne y0 y1 ⊢
            clear hfo hk0' ek hbl hb15 hf2 hll hQ
            go_upto_region 17 with fail
            go_quiet (fail)
            go_wp2
            obtain ⟨a1, a2, a3⟩ := HNX.out
            exact ⟨⟨k0, l2, r, _, rfl, rfl, rfl, rfl, HST3.out.below (bel_drewN (Below.refl _ _) _), a1, a2, a3, HRS.out, bel_drewN HB2.out _⟩, HRL.out⟩
/-- Verify. -/
theorem verify_any (root key : T) (v : Value) (L : List T) (w : World) (hv : StrsC w v L) (hT : Tab w) (hL : ∀ x ∈ L, x.length ≤ 1000000) :
    Calls Tryz.prog 32 #[.string ⟨root.toArray⟩, .string ⟨key.toArray⟩, v] w fun e w' => e = .returned (.tuple #[.string ⟨(Prf.verify root key L).1.toArray⟩, .bool (Prf.verify root key L).2.1, .int .i64 (Prf.verify root key L).2.2]) ∧ Below w.heap.size w w' := by
  rw [Prf.verify_fol]
  have HK := Lib.hid (fun w => piskey_any key w)
  cases hk : Tri.keyed key with
  | false =>
    rw [hk] at HK
    simp only [if_neg (show ¬ (false = true) by simp)]
    clear hv hT hL hk
    go_enter Tryz.func32, Tryz.ntmps32
    go_wp2_with fail
    refine (HK.out _).mono ?_
    rintro e w1 ⟨rfl, rfl⟩
    go_wp2
    go_ret3
    exact ⟨rfl, Below.refl _ _⟩
  | true =>
    rw [hk] at HK
    simp only [if_true]
    have hk8 : key.length ≤ 8 := by simp [Tri.keyed] at hk; omega
    have HOF := Lib.hid (fun w => of_any key w (by omega))
    have HFO := Lib.hid (fun w1 (hb : Below w.heap.size w w1) => follow_any root (Nib.ofL key) v L w1 (hv.below hb) (hT.below hb) hL (Tri.ofL_fit key) (by rw [Nib.ofL_length]; omega))
    unfold FolPost at HFO
    obtain ⟨q, hq⟩ : ∃ q, Nib.ofL key = q := ⟨_, rfl⟩
    rw [hq] at HOF HFO ⊢
    obtain ⟨A, cap, rfl, -⟩ := hv.form
    obtain ⟨o, ho⟩ : ∃ o, Prf.fol root q L = o := ⟨_, rfl⟩
    rw [ho] at HFO ⊢
    clear hv hT hL hk hk8 hq ho
    go_enter Tryz.func32, Tryz.ntmps32
    go_wp2_with fail
    refine (HK.out _).mono ?_
    rintro e w1 ⟨rfl, rfl⟩
    go_wp2_with fail
    refine (HOF.out _).mono ?_
    rintro e w2 ⟨rfl, hb2⟩
    have HB2 := Lib.hid hb2
    clear hb2
    go_wp2_with fail
    refine (HFO.out _ HB2.out).mono ?_
    rintro e w3 ⟨rfl, hb3⟩
    have HB3 := Lib.hid (bchain HB2.out hb3)
    clear hb3
    cases o with
    | none =>
      simp only [Option.getD, Option.isSome, if_neg (show ¬ (false = true) by simp)]
      go_wp2
      go_ret3
      exact ⟨rfl, HB3.out⟩
    | some u =>
      simp only [Option.getD, Option.isSome, if_true]
      by_cases hu : u = []
      · subst hu
        go_wp2
        go_ret3
        exact ⟨rfl, HB3.out⟩
      · have q2 : (u != []) = true := by rw [bne_iff_ne]; exact hu
        have q3 : u.isEmpty = false := by cases u <;> simp_all
        have q1 : (u == []) = false := beq_eq_false_iff_ne.2 hu
        have q4 : Hid ((!decide (u = [])) = true) := Lib.hid (by rw [decide_eq_false hu]; rfl)
        clear hu
        go_wp2
        go_ret3
        refine ⟨?_, HB3.out⟩
        rw [q4.out]
        rfl
/-- Prove. -/
def ProveC (key : T) : Nat := if Tri.keyed key then 0 else 1
def proveS (S : St) (key : T) : List T := if Tri.keyed key then trailS S key else []
def ProvePost (S : St) (key : T) (w : World) (e : Ending) (w' : World) : Prop :=
  ∃ z, e = .returned (.tuple #[z, .int .i64 (ProveC key)]) ∧ Own w' w.heap.size z (proveS S key) ∧ Below w.heap.size w w'
theorem prove_any {g : Nat} {S : St} (key : T) (w : World) (h : TrAt w g S) :
    Calls Tryz.prog 26 #[ptr g, .string ⟨key.toArray⟩] w (ProvePost S key w) := by
  unfold ProvePost ProveC proveS
  have HK := Lib.hid (fun w => piskey_any key w)
  cases hk : Tri.keyed key with
  | false =>
    rw [hk] at HK
    simp only [if_neg (show ¬ (false = true) by simp)]
    unfold ptr
    clear h hk
    go_enter Tryz.func26, Tryz.ntmps26
    go_wp2_with fail
    refine (HK.out _).mono ?_
    rintro e w1 ⟨rfl, rfl⟩
    go_wp2
    go_ret2
    exact ⟨_, rfl, Own.nil _ _, Below.refl _ _⟩
  | true =>
    rw [hk] at HK
    simp only [if_true]
    have hk8 : key.length ≤ 8 := by simp [Tri.keyed] at hk; omega
    have HTR := Lib.hid (strail_any key w h (by omega))
    unfold TextsPost ptr at HTR
    unfold ptr
    clear h hk hk8
    go_enter Tryz.func26, Tryz.ntmps26
    go_wp2_with fail
    refine (HK.out _).mono ?_
    rintro e w1 ⟨rfl, rfl⟩
    go_wp2_with fail
    refine HTR.out.mono ?_
    rintro e w2 ⟨z, rfl, ho, hb⟩
    have HO := Lib.hid ho
    have HB := Lib.hid hb
    clear ho hb
    go_wp2
    go_ret2
    exact ⟨_, rfl, HO.out, HB.out⟩
end Go.Proofs.YtjfefphgikncnaaGreatDoor
namespace Go.Proofs.YtjfefphgikncnaaGreatDoor
open Go.RowKit
open Sto (T St)

theorem prove_wK {g : Nat} (k : T) (w : World) (h : TrAt w g Tri.wK) (hk : Tri.keyed k = true) :
    Calls Tryz.prog 26 #[.pointer (some ⟨g, 0, none⟩), .string ⟨k.toArray⟩] w fun e w' => ∃ z, e = .returned (.tuple #[z, .int .i64 0]) ∧ Own w' w.heap.size z Prf.wP ∧ Below w.heap.size w w' := by
  have h1 := prove_any k w h
  unfold ProvePost ProveC proveS at h1
  rw [if_pos hk, if_pos hk, Prf.wK_trail] at h1
  exact h1
theorem verify_wK (r k : T) (v : Value) (w : World) (x : T) (b : Bool) (c : Nat) (hv : StrsC w v Prf.wP) (hT : Tab w) (h : Prf.verify r k Prf.wP = (x, b, c)) :
    Calls Tryz.prog 32 #[.string ⟨r.toArray⟩, .string ⟨k.toArray⟩, v] w fun e w' => e = .returned (.tuple #[.string ⟨x.toArray⟩, .bool b, .int .i64 c]) ∧ Below w.heap.size w w' := by
  have h1 := verify_any r k v Prf.wP w hv hT (by decide)
  rw [h] at h1
  exact h1
end Go.Proofs.YtjfefphgikncnaaGreatDoor
namespace Go.Proofs.YtjfefphgikncnaaGreatDoor
open Go.RowKit
open Sto (T St)
namespace Ver
theorem kc : M.zero.comC 1 Tri.wK = 0 := by decide +kernel
theorem kx : chsS [] Tri.wK = Tri.wK := by decide +kernel
def kM : M := M.zero.com 1 Tri.wK
theorem kr : M.zero.comR 1 Tri.wK = rootS Tri.wK := by
  unfold M.comR
  rw [if_pos kc]
  show rootS (chsS [] Tri.wK) = _
  rw [kx]
theorem kv : kM.vs = [(1, Tri.wK)] := by
  unfold kM M.com
  rw [if_pos kc]
  show [] ++ [(1, chsS [] Tri.wK)] = _
  rw [kx]
  rfl
theorem kf : kM.find 1 = some Tri.wK := by
  unfold M.find
  rw [kv]
  decide +kernel
theorem kg : kM.Good := M.Good.zero.com 1 Tri.wK
theorem kn : nodesS Tri.wK = Prf.wP := by decide +kernel
theorem kh : kM.Has ([] ++ Prf.wP) := by
  have a1 := M.Has.zero.com kc
  have e1 : nodesS (chsS M.zero.top Tri.wK) = Prf.wP := by
    show nodesS (chsS [] Tri.wK) = _
    rw [kx, kn]
  rw [e1] at a1
  exact a1
theorem kno : ¬ Clash ([] ++ Prf.wP) := by
  rintro ⟨s, hs, t, ht, h1, _⟩
  simp only [Prf.wP, List.nil_append, List.mem_cons, List.not_mem_nil, or_false] at hs ht
  exact h1 (hs.trans ht.symm)
end Ver
set_option maxRecDepth 100000 in
set_option maxHeartbeats 4000000 in
theorem keeps_any {VAt : World → (Nat → Prop) → Nat → Ver.M → Prop} (HV : VerOk VAt) (w : World) (hT : Tab w) : Calls Tryz.prog 36 #[] w fun e w' => e = .returned (.bool true) ∧ Below w.heap.size w w' := by
  have HNW := Lib.hid (HV.new w hT)
  have HT := Lib.hid hT
  have HV := Lib.hid HV
  clear hT
  go_enter Tryz.func36, Tryz.ntmps36
  go_wp2_with fail
  refine HNW.out.mono ?_
  rintro e w1 ⟨v, F1, rfl, hv1, hF1, hb1⟩
  have HB1 := Lib.hid hb1
  have HV1 := Lib.hid hv1
  have HF1 := Lib.hid hF1
  have HT1 := Lib.hid (HT.out.below hb1)
  clear hv1 hF1 hb1
  unfold ptr
  go_wp2_with fail
  have HA1 : Hid (Below w1.heap.size w1 (w1.alloc (.cells #[.string ⟨#[107]⟩, .string ⟨#[118]⟩] 39))) := Lib.hid ((Below.refl _ w1).alloc (Nat.le_refl _) _)
  obtain ⟨R, hR⟩ : ∃ R, rootS Tri.wK = R := ⟨_, rfl⟩
  have HK : Hid (Prf.verify R [107] Prf.wP = ([118], true, 0)) := Lib.hid (by rw [← hR]; exact Prf.wK_k)
  have HC1 : Hid (Calls Tryz.prog 14 #[ptr v, .int .i64 1, .slice (some ⟨w1.heap.size, 0, none⟩) 1 1] (w1.alloc (.cells #[.string ⟨#[107]⟩, .string ⟨#[118]⟩] 39)) fun e w' => e = .returned (.tuple #[.string ⟨R.toArray⟩, .int .i64 0]) ∧ VNext VAt (w1.alloc (.cells #[.string ⟨#[107]⟩, .string ⟨#[118]⟩] 39)) F1 v Ver.kM w') := Lib.hid ((HV.out.commit 1 _ Tri.wK (HV.out.keep HV1.out HA1.out) (HT1.out.below HA1.out) (one_items w1 [107] [118]) (by decide) (by decide) (by decide) (by decide)).mono fun e w' ⟨h1, h2⟩ => by
    rw [Ver.kr, Ver.kc, hR] at h1
    exact ⟨h1, h2⟩)
  unfold ptr at HC1
  clear hR
  refine HC1.out.mono ?_
  rintro e w2 ⟨rfl, hn2⟩
  have hb2 := next_below hn2 (B := w.heap.size) HF1.out (Nat.le_trans HB1.out.size HA1.out.size)
  have HB2 : Hid (Below w.heap.size w w2) := Lib.hid ((bchain HB1.out HA1.out).trans hb2)
  obtain ⟨F2, hv2, -, hf2, ht2⟩ := hn2
  have HT2 := Lib.hid ht2
  have HAT1 : Hid (Calls Tryz.prog 18 #[ptr v, .int .i64 1] w2 fun e w' => ∃ gt, e = .returned (.tuple #[ptr gt, .int .i64 0]) ∧ TrAt w' gt Tri.wK ∧ Below w2.heap.size w2 w') := Lib.hid ((HV.out.at_ 1 (by decide) (by decide) hv2).mono fun e w' h => by
    unfold AtPost at h
    rw [Ver.kf] at h
    exact Ver.load_one Ver.kh Ver.kg Ver.kno (x := (1, Tri.wK)) (by rw [Ver.kv]; exact List.mem_cons_self ..) h)
  unfold ptr at HAT1
  clear hv2 hf2 ht2 hb2 HC1 HNW
  go_wp2_with fail
  refine HAT1.out.mono ?_
  rintro e w4 ⟨gt, rfl, tt4, hb4⟩
  have HB4 := Lib.hid (bchain HB2.out hb4)
  have HT4 := Lib.hid (HT2.out.below hb4)
  have HPR := Lib.hid (prove_wK [107] w4 tt4 (by decide))
  clear tt4 hb4
  go_wp2_with fail
  refine HPR.out.mono ?_
  rintro e w5 ⟨zn, rfl, ho5, hb5⟩
  have HB5 := Lib.hid (bchain HB4.out hb5)
  have HVE := Lib.hid (verify_wK R [107] zn w5 [118] true 0 (StrsC.of_own ho5) (HT4.out.below hb5) HK.out)
  clear ho5 hb5
  go_wp2_with fail
  refine HVE.out.mono ?_
  rintro e w6 ⟨rfl, hb6⟩
  have HB6 := Lib.hid (bchain HB5.out hb6)
  clear hb6
  go_wp2
  go_ret
  exact ⟨rfl, HB6.out⟩
end Go.Proofs.YtjfefphgikncnaaGreatDoor
namespace Go.Proofs.YtjfefphgikncnaaGreatDoor
open Go.RowKit
open Sto (T St)

theorem keyI (h : Int) (hw : (Lit.int .i64 h).wf = true) : ∃ l, keyOf Tryz.prog 3 (.int .i64 h) = some l := ⟨_, Go.Maps.keyOf_int_mk Tryz.underlying3 hw⟩
def wasMap : MapLaw Tryz.prog 3 Int Nat := ⟨fun h => .int .i64 h, fun g => ptr g, fun h => (Lit.int .i64 h).wf = true, Go.Maps.int_keyed Tryz.underlying3, keyI, fun _ _ h => by injection h⟩
set_option maxRecDepth 100000 in
theorem zeroTrie (w : World) : (zeroValue 29).run Tryz.prog w = .ok (.pointer none) w := by kernel_rfl
/-- The map in block b has, for each of the versions, its trie. -/
def WasAt (w : World) (b : Nat) (L : List (Int × St)) : Prop := ∃ f, FnAt wasMap w b f ∧ ∀ x ∈ L, ∃ g, f x.1 = some g ∧ TrAt w g x.2
theorem WasAt.made (w : World) (b : Nat) (h : b = w.heap.size) : WasAt (w.alloc (.map #[] 0)) b [] := ⟨_, FnAt.made wasMap w b h, fun x hx => by cases hx⟩
theorem WasAt.lt {w : World} {b : Nat} {L : List (Int × St)} (h : WasAt w b L) : b < w.heap.size := by
  obtain ⟨f, h1, _⟩ := h
  exact h1.lt
theorem WasAt.no_cells {w : World} {b : Nat} {L : List (Int × St)} (h : WasAt w b L) (cs : Array Value) (t : TypeId) (fr : Nat × Nat) : w.heap[b]? ≠ some (.cells cs t fr) := by
  obtain ⟨f, h1, _⟩ := h
  exact h1.no_cells b cs t fr rfl
theorem WasAt.outB {F : Nat → Prop} {w w' : World} {b : Nat} {L : List (Int × St)} (h : WasAt w b L) (ho : Out F w w') (hb : ¬ F b) (hF : ∀ k, F k → ∀ cs t f, w.heap[k]? = some (.cells cs t f) → t ≠ 99 ∧ t ≠ 82) : WasAt w' b L := by
  obtain ⟨f, h1, h2⟩ := h
  exact ⟨f, h1.out ho hb, fun x hx => let ⟨g, e, ht⟩ := h2 x hx; ⟨g, e, ht.outB ho hF⟩⟩
theorem WasAt.below {w w' : World} {b : Nat} {L : List (Int × St)} (h : WasAt w b L) (hb : Below w.heap.size w w') : WasAt w' b L := h.outB (F := fun _ => False) (Out.of hb) id (fun _ hk => hk.elim)
theorem WasAt.sub {w : World} {b : Nat} {L M : List (Int × St)} (h : WasAt w b L) (hs : ∀ x ∈ M, x ∈ L) : WasAt w b M := by
  obtain ⟨f, h1, h2⟩ := h
  exact ⟨f, h1, fun x hx => h2 x (hs x hx)⟩
/-- The newest version's trie is put. -/
theorem WasAt.put {w : World} {b g : Nat} {L : List (Int × St)} {h : Int} {S : St} (hw : WasAt w b L) (hh : (Lit.int .i64 h).wf = true) (hL : ∀ x ∈ L, x.1 < h) (ht : TrAt w g S) :
    ∃ w', (Instr.mapUpdate 27 (.map (some b)) (.int .i64 h) (.pointer (some ⟨g, 0, none⟩))).run Tryz.prog w = .ok () w' ∧ WasAt w' b (L ++ [(h, S)]) ∧ Out (fun i => i = b) w w' := by
  have hnc := hw.no_cells
  obtain ⟨f, h1, h2⟩ := hw
  obtain ⟨w', r1, r2, r3, _⟩ := h1.put Tryz.underlying27 (s := h) hh g
  have hF : ∀ k, (fun i => i = b) k → ∀ cs t f, w.heap[k]? = some (.cells cs t f) → t ≠ 99 ∧ t ≠ 82 := fun k hk cs t f e => absurd (by rw [← show k = b from hk]; exact e) (hnc cs t f)
  refine ⟨w', r1, ⟨_, r2, fun x hx => ?_⟩, r3⟩
  rcases List.mem_append.1 hx with hx | hx
  · obtain ⟨g', e, ht'⟩ := h2 x hx
    have hne : x.1 ≠ h := by have := hL x hx; omega
    exact ⟨g', by rw [updF_other _ _ _ _ hne]; exact e, ht'.outB r3 hF⟩
  · rw [List.mem_singleton.1 hx]
    exact ⟨g, updF_same .., ht.outB r3 hF⟩
theorem WasAt.look {w : World} {b : Nat} {L : List (Int × St)} (h : WasAt w b L) {x : Int × St} (hx : x ∈ L) (hw : (Lit.int .i64 x.1).wf = true) :
    ∃ g, (Instr.lookup 27 (.map (some b)) (.int .i64 x.1) false).run Tryz.prog w = .ok (.pointer (some ⟨g, 0, none⟩)) w ∧ TrAt w g x.2 := by
  obtain ⟨f, h1, h2⟩ := h
  obtain ⟨g, e, ht⟩ := h2 x hx
  have := h1.look Tryz.underlying27 (s := x.1) hw false (zeroTrie w)
  rw [e] at this
  exact ⟨g, this, ht⟩
end Go.Proofs.YtjfefphgikncnaaGreatDoor
namespace Go.Proofs.YtjfefphgikncnaaGreatDoor
open Go.RowKit
open Sto (T St)

theorem own_keep {F : Nat → Prop} {w w' : World} {B : Nat} {z : Value} {L : List T} (h : Own w B z L) (ho : Out F w w') (hF : ∀ k, z.ownBlock = some k → ¬ F k) : Own w' B z L := by
  refine ⟨h.1, ?_⟩
  rcases h.2 with h0 | ⟨g, cap, cur, hv, hB, hh, hr⟩
  · exact Or.inl h0
  · exact Or.inr ⟨g, cap, cur, hv, hB, ho.heap hh (hF g (by rw [hv]; rfl)), hr⟩
theorem own_blk {w : World} {B : Nat} {z : Value} {L : List T} (h : Own w B z L) (k : Nat) (hk : z.ownBlock = some k) : B ≤ k ∧ k < w.heap.size := World.ownsRow.lt h k hk
theorem own_cells {w : World} {B : Nat} {z : Value} {L : List T} (h : Own w B z L) (k : Nat) (hk : z.ownBlock = some k) : ∃ cur, w.heap[k]? = some (.cells cur 9 (0, 0)) := by
  rcases h.2 with ⟨rfl, _⟩ | ⟨g, cap, cur, rfl, hB, hh, _⟩
  · cases hk
  · obtain rfl : g = k := by simpa [Value.ownBlock] using hk
    exact ⟨cur, hh⟩
/-- The memory: the versions n, the map of the tries V, the law's own trie S, the texts C. -/
structure SM (VAt : World → (Nat → Prop) → Nat → Ver.M → Prop) (B g : Nat) (w : World) (n : Ver.M) (F : Nat → Prop) (gn mb : Nat) (tz : Value) (C : List T) (V : List (Int × St)) (S : St) : Prop where
  at_ : VAt w F g n
  low : ∀ k, F k → B ≤ k
  tab : Tab w
  was : WasAt w mb V
  wasF : ¬ F mb
  wasB : B ≤ mb
  now : TrAt w gn S
  own : Own w B tz C
  ownF : ∀ k, tz.ownBlock = some k → ¬ F k
variable {VAt : World → (Nat → Prop) → Nat → Ver.M → Prop}
theorem SM.below (HV : VerOkL VAt) {B g : Nat} {w w' : World} {n : Ver.M} {F : Nat → Prop} {gn mb : Nat} {tz : Value} {C : List T} {V : List (Int × St)} {S : St} (h : SM VAt B g w n F gn mb tz C V S) (hb : Below w.heap.size w w') : SM VAt B g w' n F gn mb tz C V S :=
  ⟨HV.keep h.at_ hb, h.low, h.tab.below hb, h.was.below hb, h.wasF, h.wasB, h.now.below hb, own_keep (F := fun _ => False) h.own (Out.of hb) (fun _ _ => id), h.ownF⟩
/-- The program's versions change. -/
theorem SM.step (HV : VerOkL VAt) {B g : Nat} {w w' : World} {n n' : Ver.M} {F : Nat → Prop} {gn mb : Nat} {tz : Value} {C : List T} {V : List (Int × St)} {S : St} (h : SM VAt B g w n F gn mb tz C V S) (hn : VNext VAt w F g n' w') (hB : B ≤ w.heap.size) :
    ∃ F', SM VAt B g w' n' F' gn mb tz C V S ∧ Below B w w' := by
  have hb := next_below hn h.low hB
  obtain ⟨F', h1, h2, h3, h4⟩ := hn
  have hnew : ∀ k, k < w.heap.size → ¬ F k → ¬ F' k := fun k hk hf e => by
    rcases h3 k e with h | h
    · exact hf h
    · omega
  exact ⟨F', ⟨h1, fun k hk => (h3 k hk).elim (h.low k) (Nat.le_trans hB), h4, h.was.outB h2 h.wasF (HV.bare h.at_), hnew mb h.was.lt h.wasF, h.wasB, h.now.outB h2 (HV.bare h.at_), own_keep h.own h2 h.ownF, fun k hk => hnew k (own_blk h.own k hk).2 (h.ownF k hk)⟩, hb⟩
theorem SM.trie {B g : Nat} {w : World} {n : Ver.M} {F : Nat → Prop} {gn gn' mb : Nat} {tz : Value} {C : List T} {V : List (Int × St)} {S S' : St} (h : SM VAt B g w n F gn mb tz C V S) (ht : TrAt w gn' S') : SM VAt B g w n F gn' mb tz C V S' :=
  ⟨h.at_, h.low, h.tab, h.was, h.wasF, h.wasB, ht, h.own, h.ownF⟩
/-- The law's own trie is put into its map. -/
theorem SM.put (HV : VerOkL VAt) {B g : Nat} {w : World} {n : Ver.M} {F : Nat → Prop} {gn mb : Nat} {tz : Value} {C : List T} {V : List (Int × St)} {S : St} {x : Int} (h : SM VAt B g w n F gn mb tz C V S) (hh : (Lit.int .i64 x).wf = true) (hL : ∀ y ∈ V, y.1 < x) (hB : B ≤ w.heap.size) :
    ∃ w', (Instr.mapUpdate 27 (.map (some mb)) (.int .i64 x) (.pointer (some ⟨gn, 0, none⟩))).run Tryz.prog w = .ok () w' ∧ SM VAt B g w' n F gn mb tz C (V ++ [(x, S)]) S ∧ Below B w w' := by
  obtain ⟨w', r1, r2, r3⟩ := h.was.put hh hL h.now
  have hnc := h.was.no_cells
  have hty : ∀ k, (fun i => i = mb) k → ∀ cs t f, w.heap[k]? = some (.cells cs t f) → t ≠ 99 ∧ t ≠ 82 := fun k hk cs t f e => absurd (by rw [← show k = mb from hk]; exact e) (hnc cs t f)
  refine ⟨w', r1, ⟨HV.part h.at_ r3 (fun k hk => ⟨by rw [show k = mb from hk]; exact h.wasF, hty k hk⟩), h.low, ?_, r2, h.wasF, h.wasB, h.now.outB r3 hty, own_keep h.own r3 (fun k hk e => ?_), h.ownF⟩, r3.below (fun k hk => by rw [show k = mb from hk]; exact h.wasB) hB⟩
  · obtain ⟨f, hf, _⟩ := h.was
    exact tab_out h.tab hf r3
  · obtain ⟨cur, hc⟩ := own_cells h.own k hk
    exact hnc cur _ _ (by rw [← show k = mb from e]; exact hc)
/-- Texts are appended. -/
theorem SM.app (HV : VerOkL VAt) {B g : Nat} {w : World} {n : Ver.M} {F : Nat → Prop} {gn mb : Nat} {tz : Value} {C D : List T} {V : List (Int × St)} {S : St} {dz : Value} (h : SM VAt B g w n F gn mb tz C V S) (hd : Strs w dz D) (hl : C.length + D.length ≤ 1000000) (hB : B ≤ w.heap.size) (hT : 0 < B) :
    ∃ tz' w', (Builtin.append_ #[28, 28] 28 #[tz, dz]).run Tryz.prog w = .ok tz' w' ∧ SM VAt B g w' n F gn mb tz' (C ++ D) V S ∧ Below B w w' := by
  obtain ⟨tz', w', r1, r2, r3, r4⟩ := append_strs hd h.own hl hB
  have ho : Out (fun k => tz.ownBlock = some k) w w' := Out.grown r3 (fun k e => e.symm ▸ rfl)
  have hty : ∀ k, (fun k => tz.ownBlock = some k) k → ∀ cs t f, w.heap[k]? = some (.cells cs t f) → t ≠ 99 ∧ t ≠ 82 := fun k hk cs t f e => by
    obtain ⟨cur, hc⟩ := own_cells h.own k hk
    rw [hc] at e
    cases e
    exact ⟨by decide, by decide⟩
  have hmb : ¬ (tz.ownBlock = some mb) := fun e => by
    obtain ⟨cur, hc⟩ := own_cells h.own mb e
    exact h.was.no_cells cur _ _ hc
  have hown : Own w' B tz' (C ++ D) := by
    unfold Own
    rw [List.length_append]
    have e : scells (C ++ D) = scells C ++ scells D := by simp [scells]
    rw [e]
    exact r2
  refine ⟨tz', w', r1, ⟨HV.part h.at_ ho (fun k hk => ⟨h.ownF k hk, hty k hk⟩), h.low, ?_, h.was.outB ho hmb hty, h.wasF, h.wasB, h.now.outB ho hty, hown, fun k hk e => ?_⟩, ho.below (fun k hk => (own_blk h.own k hk).1) hB⟩
  · exact h.tab.mid (ho.below (fun k hk => (own_blk h.own k hk).1) hB) hT
  · rcases r4 with q | q
    · exact h.ownF k (q.symm.trans hk) e
    · rw [q] at hk
      have := HV.old h.at_ k e
      have := Option.some.inj hk
      omega
end Go.Proofs.YtjfefphgikncnaaGreatDoor
namespace Go.Proofs.YtjfefphgikncnaaGreatDoor
open Go.RowKit
open Sto (T St)

def ptcl (g : Nat) : List Value := [.pointer (some ⟨g, 0, none⟩)]
theorem ptcl_length (g : Nat) : (ptcl g).length = 1 := rfl
theorem ptcl_one (g : Nat) : ∀ u ∈ ptcl g, u.oneCell' = true := by
  intro u hu
  rw [List.mem_singleton.1 hu]
  rfl
set_option maxRecDepth 100000 in
theorem infoTrieP : (Tryz.prog.info? 29).map (fun i => (i.zero, i.size, i.bytes)) = some (some (.pointer none), 1, 8) := by kernel_rfl
set_option maxRecDepth 100000 in
theorem sizeTrieP (w : World) : (sizeOf 29).run Tryz.prog w = .ok 1 w := by kernel_rfl
/-- A row of tries of the call's own. -/
def TrisAt (w : World) (B : Nat) (z : Value) (V : List St) : Prop :=
  ∃ G : List Nat, G.length = V.length ∧ w.ownsRow B 29 1 z G.length (rowsL ptcl G) ∧ ∀ i (_ : i < V.length) (h2 : i < G.length), TrAt w G[i] (V[i])
theorem TrisAt.nil (w : World) (B : Nat) : TrisAt w B (.slice none 0 0) [] := ⟨[], rfl, ⟨rfl, Or.inl ⟨rfl, rfl⟩⟩, fun i h => absurd h (Nat.not_lt_zero i)⟩
theorem TrisAt.blk {w : World} {B : Nat} {z : Value} {V : List St} (h : TrisAt w B z V) (k : Nat) (hk : z.ownBlock = some k) : B ≤ k ∧ k < w.heap.size := by
  obtain ⟨G, _, h1, _⟩ := h
  exact World.ownsRow.lt h1 k hk
theorem TrisAt.cells {w : World} {B : Nat} {z : Value} {V : List St} (h : TrisAt w B z V) (k : Nat) (hk : z.ownBlock = some k) : ∃ cur, w.heap[k]? = some (.cells cur 29 (0, 0)) := by
  obtain ⟨G, _, h1, _⟩ := h
  rcases h1.2 with ⟨rfl, _⟩ | ⟨g, cap, cur, rfl, hB, hh, _⟩
  · cases hk
  · obtain rfl : g = k := by simpa [Value.ownBlock] using hk
    exact ⟨cur, hh⟩
theorem TrisAt.form {w : World} {B : Nat} {z : Value} {V : List St} (h : TrisAt w B z V) : ∃ A cap, z = .slice A V.length cap := by
  obtain ⟨G, hl, h1, _⟩ := h
  rcases h1.2 with ⟨rfl, h0⟩ | ⟨g, cap, cur, rfl, _⟩
  · exact ⟨none, 0, by rw [← hl, h0]⟩
  · exact ⟨_, cap, by rw [← hl]⟩
theorem TrisAt.keep {F : Nat → Prop} {w w' : World} {B : Nat} {z : Value} {V : List St} (h : TrisAt w B z V) (ho : Out F w w') (hF : ∀ k, z.ownBlock = some k → ¬ F k) (hb : ∀ k, F k → ∀ cs t f, w.heap[k]? = some (.cells cs t f) → t ≠ 99 ∧ t ≠ 82) : TrisAt w' B z V := by
  obtain ⟨G, hl, h1, h2⟩ := h
  refine ⟨G, hl, ⟨h1.1, ?_⟩, fun i hi hg => (h2 i hi hg).outB ho hb⟩
  rcases h1.2 with h0 | ⟨g, cap, cur, hv, hB, hh, hr⟩
  · exact Or.inl h0
  · exact Or.inr ⟨g, cap, cur, hv, hB, ho.heap hh (hF g (by rw [hv]; rfl)), hr⟩
theorem TrisAt.below {w w' : World} {B : Nat} {z : Value} {V : List St} (h : TrisAt w B z V) (hb : Below w.heap.size w w') : TrisAt w' B z V :=
  h.keep (F := fun _ => False) (Out.of hb) (fun _ _ => id) fun _ hk => hk.elim
/-- One of them. -/
theorem TrisAt.at {w : World} {B : Nat} {A : Option Addr} {n cap : Nat} {V : List St} (h : TrisAt w B (.slice A n cap) V) (k : Nat) (hk : k < V.length) : ∃ b g, A = some ⟨b, 0, none⟩ ∧ w.cell? ⟨b, k, none⟩ = some (.pointer (some ⟨g, 0, none⟩)) ∧ TrAt w g (V[k]) := by
  obtain ⟨G, hl, h1, h2⟩ := h
  rcases h1.2 with ⟨_, h0⟩ | ⟨g, cap', cur, hv, hB, hh, _⟩
  · omega
  · obtain ⟨rfl, _⟩ : A = some ⟨g, 0, none⟩ ∧ _ := by simpa using hv
    refine ⟨g, G[k]'(by omega), rfl, ?_, h2 k hk (by omega)⟩
    have h3 := World.ownsRow.cells h1 (g := g) rfl k (.pointer (some ⟨G[k]'(by omega), 0, none⟩)) (by
      have := rowsL_at ptcl_length G k 0 (by omega) (by decide)
      rw [Nat.mul_one, Nat.add_zero] at this
      rw [this]
      rfl)
    rw [Addr.add_mid, Nat.zero_add] at h3
    exact h3
/-- A trie is appended. -/
theorem TrisAt.app {w : World} {B : Nat} {z : Value} {V : List St} {g : Nat} {S : St} (h : TrisAt w B z V) (ht : TrAt w g S) (hl : V.length ≤ 100000) (hB : B ≤ w.heap.size) :
    ∃ z' w', (Builtin.append_ #[68, 68] 68 #[z, .slice (some ⟨w.heap.size, 0, none⟩) 1 1]).run Tryz.prog (w.alloc (.cells #[.pointer (some ⟨g, 0, none⟩)] 29)) = .ok z' w' ∧
      TrisAt w' B z' (V ++ [S]) ∧ Out (fun k => z.ownBlock = some k) w w' ∧ (z'.ownBlock = z.ownBlock ∨ ∃ k, z'.ownBlock = some k ∧ w.heap.size ≤ k) := by
  obtain ⟨i0, hi, hz0, hz1, hz2⟩ := info_parts infoTrieP
  have hA : Below w.heap.size w (w.alloc (.cells #[.pointer (some ⟨g, 0, none⟩)] 29)) := (Below.refl _ w).alloc (Nat.le_refl _) _
  have hv : RowsIn 1 ptcl (w.alloc (.cells #[.pointer (some ⟨g, 0, none⟩)] 29)) (.slice (some ⟨w.heap.size, 0, none⟩) 1 1) [g] := by
    refine ⟨some ⟨w.heap.size, 0, none⟩, 1, rfl, Nat.le_refl _, fun e => by simp at e, fun _ => ⟨w.heap.size, 0, rfl, by simp, fun i hi j u hu => ?_⟩⟩
    obtain rfl : i = 0 := by simpa using hi
    have hj : j = 0 := by
      have := (List.getElem?_eq_some_iff.1 hu).1
      simp [ptcl] at this
      exact this
    subst hj
    simp [ptcl] at hu
    subst hu
    exact cell_of_row _ _ 0 _ _ _ (heap_alloc_new w _)
  have h1 := h.below hA
  obtain ⟨G, hG, h2, h3⟩ := h1
  obtain ⟨z', w', r1, r2, r3, r4⟩ := append_rowsIn 68 29 i0 _ 8 Tryz.underlying68 sizeTrieP hi hz0 hz1 hz2 rfl (by decide) (by decide) ptcl_length ptcl_one hv h2 (by simp; omega) (by simp; omega)
  have ho : Out (fun k => z.ownBlock = some k) (w.alloc (.cells #[.pointer (some ⟨g, 0, none⟩)] 29)) w' := Out.grown r3 (fun k e => e.symm ▸ rfl)
  have hty : ∀ k, (fun k => z.ownBlock = some k) k → ∀ cs t f, (w.alloc (.cells #[.pointer (some ⟨g, 0, none⟩)] 29)).heap[k]? = some (.cells cs t f) → t ≠ 99 ∧ t ≠ 82 := fun k hk cs t f e => by
    obtain ⟨cur, hc⟩ := (h.below hA).cells k hk
    rw [hc] at e
    cases e
    exact ⟨by decide, by decide⟩
  refine ⟨z', w', r1, ⟨G ++ [g], by simp [hG], ?_, fun i hi hg => ?_⟩, (Out.alloc (Out.refl _ w) _).trans ho, ?_⟩
  · rw [List.length_append, rowsL_append]
    exact r2
  · by_cases hlt : i < V.length
    · rw [List.getElem_append_left hlt, List.getElem_append_left (by omega)]
      exact (h3 i hlt (by omega)).outB ho hty
    · have e1 : i = V.length := by simp at hi; omega
      subst e1
      have e2 : (G ++ [g])[V.length]'hg = g := by
        rw [List.getElem_append_right (by omega)]
        simp
      have e3 : (V ++ [S])[V.length]'hi = S := by
        rw [List.getElem_append_right (by omega)]
        simp
      rw [e2, e3]
      exact (ht.below hA).outB ho hty
  · rcases r4 with q | q
    · exact Or.inl q
    · exact Or.inr ⟨_, q, by simp⟩
/-- The memory: the versions n, the row of the tries V, the law's own trie S, the texts C. -/
structure ST (VAt : World → (Nat → Prop) → Nat → Ver.M → Prop) (B g : Nat) (w : World) (n : Ver.M) (F : Nat → Prop) (gn : Nat) (wz tz : Value) (C : List T) (V : List St) (S : St) : Prop where
  at_ : VAt w F g n
  low : ∀ k, F k → B ≤ k
  tab : Tab w
  was : TrisAt w B wz V
  wasF : ∀ k, wz.ownBlock = some k → ¬ F k
  now : TrAt w gn S
  own : Own w B tz C
  ownF : ∀ k, tz.ownBlock = some k → ¬ F k
variable {VAt : World → (Nat → Prop) → Nat → Ver.M → Prop}
theorem ST.below (HV : VerOkL VAt) {B g : Nat} {w w' : World} {n : Ver.M} {F : Nat → Prop} {gn : Nat} {wz tz : Value} {C : List T} {V : List St} {S : St} (h : ST VAt B g w n F gn wz tz C V S) (hb : Below w.heap.size w w') : ST VAt B g w' n F gn wz tz C V S :=
  ⟨HV.keep h.at_ hb, h.low, h.tab.below hb, h.was.below hb, h.wasF, h.now.below hb, own_keep (F := fun _ => False) h.own (Out.of hb) (fun _ _ => id), h.ownF⟩
/-- The program's versions change. -/
theorem ST.step (HV : VerOkL VAt) {B g : Nat} {w w' : World} {n n' : Ver.M} {F : Nat → Prop} {gn : Nat} {wz tz : Value} {C : List T} {V : List St} {S : St} (h : ST VAt B g w n F gn wz tz C V S) (hn : VNext VAt w F g n' w') (hB : B ≤ w.heap.size) :
    ∃ F', ST VAt B g w' n' F' gn wz tz C V S ∧ Below B w w' ∧ Out F w w' := by
  have hb := next_below hn h.low hB
  obtain ⟨F', h1, h2, h3, h4⟩ := hn
  have hnew : ∀ k, k < w.heap.size → ¬ F k → ¬ F' k := fun k hk hf e => by
    rcases h3 k e with h | h
    · exact hf h
    · omega
  exact ⟨F', ⟨h1, fun k hk => (h3 k hk).elim (h.low k) (Nat.le_trans hB), h4, h.was.keep h2 h.wasF (HV.bare h.at_), fun k hk => hnew k (h.was.blk k hk).2 (h.wasF k hk), h.now.outB h2 (HV.bare h.at_), own_keep h.own h2 h.ownF, fun k hk => hnew k (own_blk h.own k hk).2 (h.ownF k hk)⟩, hb, h2⟩
theorem ST.trie {B g : Nat} {w : World} {n : Ver.M} {F : Nat → Prop} {gn gn' : Nat} {wz tz : Value} {C : List T} {V : List St} {S S' : St} (h : ST VAt B g w n F gn wz tz C V S) (ht : TrAt w gn' S') : ST VAt B g w n F gn' wz tz C V S' :=
  ⟨h.at_, h.low, h.tab, h.was, h.wasF, ht, h.own, h.ownF⟩
/-- The law's own trie is appended to its row. -/
theorem ST.put (HV : VerOkL VAt) {B g : Nat} {w : World} {n : Ver.M} {F : Nat → Prop} {gn : Nat} {wz tz : Value} {C : List T} {V : List St} {S : St} (h : ST VAt B g w n F gn wz tz C V S) (hl : V.length ≤ 100000) (hB : B ≤ w.heap.size) (hT : 0 < B) :
    ∃ wz' w', (Builtin.append_ #[68, 68] 68 #[wz, .slice (some ⟨w.heap.size, 0, none⟩) 1 1]).run Tryz.prog (w.alloc (.cells #[.pointer (some ⟨gn, 0, none⟩)] 29)) = .ok wz' w' ∧ ST VAt B g w' n F gn wz' tz C (V ++ [S]) S ∧ Below B w w' := by
  obtain ⟨wz', w', r1, r2, ho, r4⟩ := h.was.app h.now hl hB
  have hty : ∀ k, (fun k => wz.ownBlock = some k) k → ∀ cs t f, w.heap[k]? = some (.cells cs t f) → t ≠ 99 ∧ t ≠ 82 := fun k hk cs t f e => by
    obtain ⟨cur, hc⟩ := h.was.cells k hk
    rw [hc] at e
    cases e
    exact ⟨by decide, by decide⟩
  have hbl := ho.below (fun k hk => (h.was.blk k hk).1) hB
  refine ⟨wz', w', r1, ⟨HV.part h.at_ ho (fun k hk => ⟨h.wasF k hk, hty k hk⟩), h.low, h.tab.mid hbl hT, r2, fun k hk e => ?_, h.now.outB ho hty, own_keep h.own ho (fun k hk e => ?_), h.ownF⟩, hbl⟩
  · rcases r4 with q | ⟨k2, q, hk2⟩
    · exact h.wasF k (q.symm.trans hk) e
    · rw [q] at hk
      have := HV.old h.at_ k e
      have := Option.some.inj hk
      omega
  · obtain ⟨c1, hc1⟩ := own_cells h.own k hk
    obtain ⟨c2, hc2⟩ := h.was.cells k e
    rw [hc1] at hc2
    cases hc2
/-- Texts are appended. -/
theorem ST.app (HV : VerOkL VAt) {B g : Nat} {w : World} {n : Ver.M} {F : Nat → Prop} {gn : Nat} {wz tz : Value} {C D : List T} {V : List St} {S : St} {dz : Value} (h : ST VAt B g w n F gn wz tz C V S) (hd : Strs w dz D) (hl : C.length + D.length ≤ 1000000) (hB : B ≤ w.heap.size) (hT : 0 < B) :
    ∃ tz' w', (Builtin.append_ #[28, 28] 28 #[tz, dz]).run Tryz.prog w = .ok tz' w' ∧ ST VAt B g w' n F gn wz tz' (C ++ D) V S ∧ Below B w w' := by
  obtain ⟨tz', w', r1, r2, r3, r4⟩ := append_strs hd h.own hl hB
  have ho : Out (fun k => tz.ownBlock = some k) w w' := Out.grown r3 (fun k e => e.symm ▸ rfl)
  have hty : ∀ k, (fun k => tz.ownBlock = some k) k → ∀ cs t f, w.heap[k]? = some (.cells cs t f) → t ≠ 99 ∧ t ≠ 82 := fun k hk cs t f e => by
    obtain ⟨cur, hc⟩ := own_cells h.own k hk
    rw [hc] at e
    cases e
    exact ⟨by decide, by decide⟩
  have hown : Own w' B tz' (C ++ D) := by
    unfold Own
    rw [List.length_append]
    have e : scells (C ++ D) = scells C ++ scells D := by simp [scells]
    rw [e]
    exact r2
  have hbl := ho.below (fun k hk => (own_blk h.own k hk).1) hB
  refine ⟨tz', w', r1, ⟨HV.part h.at_ ho (fun k hk => ⟨h.ownF k hk, hty k hk⟩), h.low, h.tab.mid hbl hT, h.was.keep ho (fun k hk e => ?_) hty, h.wasF, h.now.outB ho hty, hown, fun k hk e => ?_⟩, hbl⟩
  · obtain ⟨c1, hc1⟩ := own_cells h.own k e
    obtain ⟨c2, hc2⟩ := h.was.cells k hk
    rw [hc1] at hc2
    cases hc2
  · rcases r4 with q | q
    · exact h.ownF k (q.symm.trans hk) e
    · rw [q] at hk
      have := HV.old h.at_ k e
      have := Option.some.inj hk
      omega
end Go.Proofs.YtjfefphgikncnaaGreatDoor
namespace Go.Proofs.YtjfefphgikncnaaGreatDoor
open Go.RowKit
open Sto (T St)

/-- What the law knows behind i acts. -/
structure SP (i : Nat) (m : Ver.M) (C : List T) (fine : Bool) : Prop where
  size : m.Sz i
  few : C.length ≤ 400 * i
  short : ∀ x ∈ C, x.length ≤ 999
  has : m.Has C
  fine : fine = true ∨ Clash C
theorem SP.tell {i : Nat} {m : Ver.M} {C : List T} {f f' : Bool} (h : SP i m C f) (hf : f' = true ∨ Clash C) : SP i m C f' := ⟨h.size, h.few, h.short, h.has, hf⟩
theorem SP.prune {i : Nat} {m : Ver.M} {C : List T} {f : Bool} (h : SP i m C f) (g : m.Good) (b : Int) : SP (i + 1) (m.prune b) C f := ⟨(h.size.prune b).more (by omega), by have := h.few; omega, h.short, h.has.prune g b, h.fine⟩
theorem SP.same {i : Nat} {m : Ver.M} {C : List T} {f : Bool} (h : SP i m C f) {x : Int} {D : St} (hc : m.comC x D ≠ 0) : SP (i + 1) (m.com x D) C f := by
  have e : m.com x D = m := by unfold Ver.M.com; rw [if_neg hc]
  rw [e]
  exact ⟨h.size.more (by omega), by have := h.few; omega, h.short, h.has, h.fine⟩
theorem SP.com {i : Nat} {m : Ver.M} {C : List T} {f : Bool} (h : SP i m C f) (g : m.Good) (hi : i + 1 ≤ 13) {x : Int} {D : St} (hD : D.length ≤ 10) (hc : m.comC x D = 0) : SP (i + 1) (m.com x D) (C ++ nodesS (Ver.chsS m.top D)) f := by
  obtain ⟨t, ht⟩ := Ver.chsS_good D g.top (Ver.M.comC_zero hc).2.2.2.2
  have h1 := Ver.nodes_three ht
  have h2 := Ver.chsS_len D m.top
  have h3 := h.size.top
  have h4 := h.few
  refine ⟨h.size.com g hi x hD, by rw [List.length_append]; omega, fun y hy => ?_, h.has.com hc, h.fine.imp id (Ver.clash_more _)⟩
  rcases List.mem_append.1 hy with hy | hy
  · exact h.short y hy
  · exact nodesS_short ht y hy
theorem com_vs {m : Ver.M} {x : Int} {D : St} (hc : m.comC x D = 0) : (m.com x D).vs = m.vs ++ [(x, Ver.chsS m.top D)] := by
  unfold Ver.M.com
  rw [if_pos hc]
/-- What At's trie and the law's own have in common. -/
theorem fine_next {m : Ver.M} {C : List T} (h : m.Has C) (g : m.Good) {x : Int × St} (hx : x ∈ m.vs) {S : St} {t : Tri.Tr} (h1 : TrS S t) (h2 : t.sum Nd.sumS = rootS x.2) (h3 : t.inS m.st) : decide (S = x.2) = true ∨ Clash C := by
  by_cases hn : Clash C
  · exact Or.inr hn
  · exact Or.inl (decide_eq_true (h.load g hn hx h1 h2 h3))
theorem fine_lost {m : Ver.M} {C : List T} (h : m.Has C) (g : m.Good) {x : Int × St} (hx : x ∈ m.vs) (hb : ∀ S t, TrS S t → t.inS m.st → t.sum Nd.sumS = rootS x.2 → False) : Clash C :=
  Classical.byContradiction fun hn => by
    obtain ⟨S, t, h1, h2, h3⟩ := h.loads g hn hx
    exact hb S t h1 h2 h3
end Go.Proofs.YtjfefphgikncnaaGreatDoor
namespace Go.Proofs.YtjfefphgikncnaaGreatDoor
open Go.RowKit Go.ChangeShapes Go.WideShapes
open Sto (T St)

instance : Inhabited St := ⟨[]⟩
set_option maxRecDepth 100000 in
theorem cellsCh : Tryz.prog.cellsOf 70 = 1 := by kernel_rfl
set_option maxRecDepth 100000 in
theorem cellsVI2 : Tryz.prog.cellsOf 31 = 1 := by kernel_rfl
/-- A slice of changes. -/
def VChs (w : World) (v : Value) (L : List St) : Prop :=
  ∃ (A : Option Addr) (cap : Nat), v = .slice A L.length cap ∧ (0 < L.length → ∃ b o, A = some ⟨b, o, none⟩ ∧ b < w.heap.size ∧ ∀ i (h : i < L.length), ∃ z,
    w.cell? ⟨b, o + i, none⟩ = some z ∧ ItLo w z L[i])
theorem VChs.below {w w' : World} {v : Value} {L : List St} (h : VChs w v L) (hb : Below w.heap.size w w') : VChs w' v L := by
  obtain ⟨A, cap, rfl, hc⟩ := h
  refine ⟨A, cap, rfl, fun h0 => ?_⟩
  obtain ⟨b, o, rfl, hlt, hcell⟩ := hc h0
  refine ⟨b, o, rfl, Nat.lt_of_lt_of_le hlt hb.size, fun i hi => ?_⟩
  obtain ⟨z, h1, h2⟩ := hcell i hi
  exact ⟨z, (hb.cell hlt).trans h1, h2.below hb⟩
theorem VChs.form {w : World} {v : Value} {L : List St} (h : VChs w v L) : ∃ A cap, v = .slice A L.length cap := by
  obtain ⟨A, cap, rfl, _⟩ := h
  exact ⟨A, cap, rfl⟩
theorem VChs.at {w : World} {A : Option Addr} {n cap : Nat} {L : List St} (h : VChs w (.slice A n cap) L) (k : Nat) (hk : k < L.length) :
    ∃ b o z, A = some ⟨b, o, none⟩ ∧ w.cell? ⟨b, o + k, none⟩ = some z ∧ ItLo w z L[k] := by
  obtain ⟨A', cap', hv, h1⟩ := h
  obtain ⟨rfl, _⟩ : A = A' ∧ _ := by simpa using hv
  obtain ⟨b, o, rfl, _, hcell⟩ := h1 (by omega)
  obtain ⟨z, q⟩ := hcell k hk
  exact ⟨b, o, z, rfl, q⟩
set_option maxRecDepth 100000 in
theorem vch_cells {H : Type} {enc : TypeId × Value → H} {W : World} {fuel : Nat} {cs : List Value} {x : DataW H × List MemPlace} (ht : DataW.trod enc Tryz.prog W 0 (fun _ => true) true fuel 70 cs = some x) :
    ∃ (s : St) (z : Value), cs = [z] ∧ ItLo W z s := by
  obtain ⟨ys, n', _, hy, hcl, hyl, hfs⟩ := DataW.trod_struct Tryz.underlying70 ht
  rw [cellsCh] at hcl
  match cs, hcl, ys, hyl with
  | [v0], _, [y0], _ =>
    have g0 := hfs 0 _ rfl
    simp [cellsVI2] at g0
    obtain ⟨C, hC⟩ := items_trod g0
    exact ⟨C, v0, rfl, hC⟩
set_option maxRecDepth 100000 in
theorem vchs_open {H : Type} {enc : TypeId × Value → H} {W : World} {r : Reach} {b0 : Nat} {v : Value} {d : DataW H} {p : List MemPlace}
    (hv : Value.okWide Tryz.prog W r b0 67 v) (h : DataW.Trod enc Tryz.prog W 0 (fun _ => true) true 67 v d p)
    (_ : ∀ n ∈ d.weights Tryz.prog 67, n ≤ reachBytes) :
    ∃ L, VChs W v L ∧ 0 ≤ L.length := by
  obtain ⟨a0, len, cap, rfl⟩ := okWide_slice Tryz.underlying67 hv
  obtain ⟨fuel, hf⟩ := h
  rcases Go.Deep.open_slice Tryz.underlying67 hf with ⟨hcs, _⟩ | ⟨x, l, c, m, n, D, Pl, hcs, _, hl, hm, hmm, hx, hel⟩
  · simp [Value.cells] at hcs
    obtain ⟨rfl, rfl, rfl⟩ := hcs
    exact ⟨[], ⟨none, 0, rfl, fun h => absurd h (by simp)⟩, by simp⟩
  · simp [Value.cells] at hcs
    obtain ⟨rfl, rfl, rfl⟩ := hcs
    simp only [if_true] at hmm
    subst hmm
    rw [cellsCh] at hel
    have key : ∀ i, i < len → ∃ q : St × Value, W.cell? ((x.add (i * 1)).add 0) = some q.2 ∧ ItLo W q.2 q.1 := fun i hi => by
      obtain ⟨cs', hc, ht⟩ := hel i (by omega)
      obtain ⟨_, _, hat⟩ := World.cells?_some hc
      obtain ⟨q, z, rfl, h1⟩ := vch_cells ht
      exact ⟨(q, z), hat 0 (by omega), h1⟩
    obtain ⟨f, hf⟩ := Go.Deep.choose_lt (fun i hi => key i hi)
    have hlen : ((List.range len).map fun i => (f i).1).length = len := by simp
    refine ⟨(List.range len).map fun i => (f i).1, ⟨some x, _, by rw [hlen], fun h0 => ?_⟩, by omega⟩
    rw [hlen] at h0
    obtain ⟨b, o, sp⟩ := x
    obtain ⟨q0, h1⟩ := hf 0 h0
    obtain ⟨A', cap', hz⟩ := h1.form
    have hcell' : W.cell? ⟨b, o, sp⟩ = some (.slice A' (f 0).1.length cap') := by rw [← hz]; simpa [Addr.add] using q0
    obtain rfl := cell_spot hcell'
    refine ⟨b, o, rfl, block_lt_of_cell hcell', fun i hi => ⟨(f i).2, ?_⟩⟩
    rw [hlen] at hi
    obtain ⟨q0, q1⟩ := hf i hi
    rw [Addr.add_mid, Addr.add_mid] at q0
    exact ⟨by simpa using q0, by simpa using q1⟩
end Go.Proofs.YtjfefphgikncnaaGreatDoor
namespace Go.Proofs.YtjfefphgikncnaaGreatDoor
open Sto (T St)

theorem reach_set {S : St} {l k : List T} (h : ∀ x, x ∈ l → x ∈ k) {x : T} (hr : Sto.Reach S l x) : Sto.Reach S k x := by
  induction hr with
  | here h1 h2 => exact .here (h _ h1) h2
  | step _ h2 h3 h4 ih => exact .step ih h2 h3 h4
theorem keepL_set {S : St} (hS : Sto.Rising S) {l k : List T} (h : ∀ x, x ∈ l ↔ x ∈ k) : Sto.keepL S l = Sto.keepL S k := by
  unfold Sto.keepL
  refine List.filter_congr fun a _ => decide_eq_decide.2 ?_
  rw [Sto.reachL_mem hS, Sto.reachL_mem hS]
  exact ⟨reach_set fun x => (h x).1, reach_set fun x => (h x).2⟩
namespace Ver
def M.last (m : M) : Option Int := m.vs.getLast?.map (·.1)
theorem find_iff {m : M} (g : m.Good) {x : Int} {I : St} : m.find x = some I ↔ (x, I) ∈ m.vs := ⟨M.find_mem, fun h => M.find_of g h⟩
theorem find_comI {m : M} {h : Int} {C I : St} (h3 : ∀ x ∈ m.vs, x.1 < h) (x : Int) : (m.comI h C I).find x = if x = h then some (chsS I C) else m.find x := by
  unfold M.comI M.find
  simp only [List.find?_append]
  by_cases e : x = h
  · rw [if_pos e]
    have hn : m.vs.find? (fun y => decide (y.1 = x)) = none := List.find?_eq_none.2 fun y hy => by
      have := h3 y hy
      simp
      omega
    rw [hn]
    simp [e]
  · rw [if_neg e]
    have e2 : ¬ (h = x) := fun e3 => e e3.symm
    cases m.vs.find? (fun y => decide (y.1 = x)) with
    | none => simp [e2]
    | some y => simp
theorem last_comI {m : M} {h : Int} {C I : St} : (m.comI h C I).last = some h := by
  unfold M.comI
  simp [M.last]
/-- The newest version's height, and what stands for it where there is none. -/
def M.newest (m : M) : Int := m.last.getD (-9223372036854775808)
theorem newest_comI {m : M} {h : Int} {C I : St} : (m.comI h C I).newest = h := by
  unfold M.newest
  rw [last_comI]; rfl
theorem last_at {m : M} {x : Int} : m.last = some x ↔ ∃ h : 0 < m.vs.length, (m.vs[m.vs.length - 1]'(by omega)).1 = x := by
  unfold M.last
  rw [List.getLast?_eq_getElem?]
  by_cases h : 0 < m.vs.length
  · rw [List.getElem?_eq_getElem (by omega)]
    simp only [Option.map_some, Option.some.injEq]
    exact ⟨fun e => ⟨h, e⟩, fun ⟨_, e⟩ => e⟩
  · rw [List.getElem?_eq_none (by omega)]
    simp [h]
theorem find_prune {m : M} (g : m.Good) (b x : Int) : (m.prune b).find x = if x < b ∧ m.last ≠ some x then none else m.find x := by
  cases hf : m.find x with
  | none =>
    have : (m.prune b).find x = none := M.find_none fun y hy e => by
      have h1 := (upto_sub m.vs b).subset hy
      have h2 := M.find_of g h1
      rw [e, hf] at h2
      cases h2
    rw [this]
    split <;> rfl
  | some I =>
    obtain ⟨i, hi, hie⟩ := List.mem_iff_getElem.1 (M.find_mem hf)
    have hx : m.vs[i].1 = x := by rw [hie]
    have hI : m.vs[i].2 = I := by rw [hie]
    have h1 := prune_find g b hi
    rw [hx, hI] at h1
    rw [h1]
    by_cases hs : stay m.vs b i = true
    · rw [if_pos hs, if_neg]
      rintro ⟨h2, h3⟩
      rcases (stay_iff hi).1 hs with h4 | h4
      · rw [hx] at h4; omega
      · exact h3 (last_at.2 ⟨by omega, by simp only [show m.vs.length - 1 = i from by omega]; exact hx⟩)
    · rw [if_neg hs, if_pos]
      have h2 : ¬ (b ≤ m.vs[i].1 ∨ i + 1 = m.vs.length) := fun e => hs ((stay_iff hi).2 e)
      refine ⟨by rw [hx] at h2; omega, fun e => h2 (Or.inr ?_)⟩
      obtain ⟨h3, h4⟩ := last_at.1 e
      have := rise_inj g.rise hi (j := m.vs.length - 1) (by omega) (by rw [hx, h4])
      omega
theorem last_prune (m : M) (b : Int) : (m.prune b).last = m.last := by
  unfold M.last M.prune
  simp only [last_upto]
/-- Nothing of a height that is not less is there: what Commit asks, by the newest height alone. -/
theorem above_last {m : M} (g : m.Good) (h : Int) : (∃ x ∈ m.vs, h ≤ x.1) ↔ ∃ y, m.last = some y ∧ h ≤ y := by
  constructor
  · rintro ⟨x, hx, hle⟩
    obtain ⟨i, hi, rfl⟩ := List.mem_iff_getElem.1 hx
    refine ⟨_, last_at.2 ⟨by omega, rfl⟩, ?_⟩
    rcases Nat.lt_or_ge i (m.vs.length - 1) with h1 | h1
    · have := List.pairwise_iff_getElem.1 g.rise i (m.vs.length - 1) hi (by omega) h1
      omega
    · have e : i = m.vs.length - 1 := by omega
      subst e
      exact hle
  · rintro ⟨y, hy, hle⟩
    obtain ⟨h1, h2⟩ := last_at.1 hy
    exact ⟨_, List.getElem_mem (show m.vs.length - 1 < m.vs.length by omega), by rw [h2]; exact hle⟩
end Ver
end Go.Proofs.YtjfefphgikncnaaGreatDoor
namespace Go.Proofs.YtjfefphgikncnaaGreatDoor
open Go.RowKit
open Sto (T St)

/-- A version's own struct: its root alone. -/
def rval (r : T) : Value := .agg #[.string ⟨r.toArray⟩]
def rootsMap : MapLaw Tryz.prog 3 Int T := ⟨fun h => .int .i64 h, rval, fun h => (Lit.int .i64 h).wf = true, Go.Maps.int_keyed Tryz.underlying3, keyI, fun _ _ h => by injection h⟩
set_option maxRecDepth 100000 in
theorem zeroRoot (w : World) : (zeroValue 84).run Tryz.prog w = .ok (rval []) w := by kernel_rfl
/-- The map in block b has each version's root. -/
def RootsAt (w : World) (b : Nat) (m : Ver.M) : Prop := FnAt rootsMap w b fun h => (m.find h).map rootS
theorem RootsAt.made (w : World) (b : Nat) (h : b = w.heap.size) : RootsAt (w.alloc (.map #[] 0)) b .zero := FnAt.made rootsMap w b h
theorem RootsAt.out {F : Nat → Prop} {w w' : World} {b : Nat} {m : Ver.M} (h : RootsAt w b m) (ho : Out F w w') (hF : ¬ F b) : RootsAt w' b m := FnAt.out h ho hF
theorem findR_eq (m : Ver.M) (x : Int) : (((m.find x).map rootS).map rootsMap.val).getD (rval []) = rval (m.findR x) := by
  unfold Ver.M.findR
  cases m.find x <;> rfl
theorem RootsAt.look {w : World} {b : Nat} {m : Ver.M} (h : RootsAt w b m) (x : Int) (hx : (Lit.int .i64 x).wf = true) :
    (Instr.lookup 77 (.map (some b)) (.int .i64 x) true).run Tryz.prog w = .ok (.tuple #[.agg #[.string ⟨(m.findR x).toArray⟩], .bool (m.find x).isSome]) w := by
  have := FnAt.look h Tryz.underlying77 (s := x) hx true (zeroRoot w)
  have e2 : ((m.find x).map rootS).isSome = (m.find x).isSome := by cases m.find x <;> rfl
  rw [findR_eq, e2] at this
  exact this
theorem RootsAt.put {w : World} {b : Nat} {m : Ver.M} {x : Int} {C I : St} (h : RootsAt w b m) (hc : m.comCI x C I = 0) :
    ∃ w', (Instr.mapUpdate 77 (.map (some b)) (.int .i64 x) (.agg #[.string ⟨(rootS (Ver.chsS I C)).toArray⟩])).run Tryz.prog w = .ok () w' ∧ RootsAt w' b (m.comI x C I) ∧ Out (fun i => i = b) w w' := by
  obtain ⟨h1, h2, h3, _⟩ := Ver.M.comCI_zero hc
  obtain ⟨w', r1, r2, r3, _⟩ := FnAt.put h Tryz.underlying77 (s := x) (wf_height ⟨h1, h2⟩) (rootS (Ver.chsS I C))
  refine ⟨w', r1, FnAt.congr r2 fun s => ?_, r3⟩
  rw [Ver.find_comI h3]
  unfold updF
  split <;> rfl
end Go.Proofs.YtjfefphgikncnaaGreatDoor
