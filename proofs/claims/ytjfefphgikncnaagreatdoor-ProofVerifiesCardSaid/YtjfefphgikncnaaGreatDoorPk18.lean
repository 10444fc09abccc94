/- ProofSome, BookLend, StrsC, ProofFirst, ProofCut, ProofFollow, ProofWorks, TriRefIn -/
import Derived.Test.YtjfefphgikncnaaGreatDoorPk17
import Derived.Test.YtjfefphgikncnaaGreatDoorPk15
import Derived.Deep.RegionHeld3
import Derived.Test.YtjfefphgikncnaaGreatDoorPk04
import Derived.Test.YtjfefphgikncnaaGreatDoorPk16
import Derived.Test.YtjfefphgikncnaaGreatDoorPk13
import Derived.Test.YtjfefphgikncnaaGreatDoorPk07
import Derived.Test.YtjfefphgikncnaaGreatDoorPk10
import Derived.Test.YtjfefphgikncnaaGreatDoorPk14
import Derived.WalkMore
namespace Go.Proofs.YtjfefphgikncnaaGreatDoor
open Go.RowKit
open Sto (T St)

def SomePost (L : St) (w : World) (e : Ending) (w' : World) : Prop :=
  ∃ g z, e = .returned (.tuple #[.pointer (some ⟨g, 0, none⟩), z]) ∧ TrAt w' g (Prf.someS L) ∧ ItAt w' z (Prf.someS L) ∧ Below w.heap.size w w'
theorem putL_good {S : St} {x y : T} (h : Tri.putC S x y = 0) : Tri.putL S x y = Tri.put S x y := by unfold Tri.putL; rw [if_pos h]
set_option maxRecDepth 100000 in
set_option maxHeartbeats 4000000 in
theorem psome_any (L : St) (v : Value) (w : World) (hv : ItIn w v L) (hT : Tab w) :
    Calls Tryz.prog 25 #[v] w (SomePost L w) := by
  have HV := Lib.hid hv
  have HT := Lib.hid hT
  have HNW := Lib.hid (tnew_any w)
  unfold ptr at HNW
  obtain ⟨A, cap, rfl, -, -⟩ := hv.form
  clear hv hT
  go_enter Tryz.func25, Tryz.ntmps25
  go_wp2_with fail
  refine HNW.out.mono ?_
  rintro e w1 ⟨g0, rfl, ht0, -, hb1⟩
  have HB1 := Lib.hid hb1
  have H0 := Lib.hid ht0
  clear ht0 hb1
  go_wp2
  go_loopw [4, 5, 6] (fun av zv iv wr => ∃ (k : Nat) (gk : Nat) (zz : Value), zz = zv ∧ av = .pointer (some ⟨gk, 0, none⟩) ∧ k ≤ L.length ∧ k ≤ 20 ∧ iv = .int .i64 k ∧ TrAt wr gk ((L.take k).foldl Prf.stepS []) ∧ ItAt wr zz ((L.take k).foldl Prf.stepS []) ∧ Below w.heap.size w wr) (fun _ _ i _ => 20 - (intOf i).toNat)
  case atStart => exact ⟨0, g0, _, rfl, rfl, Nat.zero_le _, Nat.zero_le _, rfl, H0.out, RowsAt.nil .., HB1.out⟩
  case round =>
    obtain ⟨k, gk, zz, rfl, rfl, hk, hk20, rfl, htr, hit, hb⟩ := hrel
    have HB := Lib.hid hb
    have HTR := Lib.hid htr
    have HIT := Lib.hid hit
    have h0 : (0 : Int) ≤ (k : Int) := by omega
    have hnb : (k : Int) ≤ 100 := by omega
    by_cases hlt : k < L.length
    case neg =>
      obtain rfl : k = L.length := by omega
      have h1 : ¬ ((L.length : Int) < (L.length : Int)) := by omega
      have h1d : decide ((L.length : Int) < (L.length : Int)) = false := decide_eq_false h1
      have HS : Hid ((L.take L.length).foldl Prf.stepS [] = Prf.someS L) := Lib.hid (by unfold Prf.someS; rw [List.take_length, List.take_of_length_le hk20])
      rw [HS.out] at HTR HIT
      clear htr hit hb
      go_wp2
      go_ret2
      exact ⟨gk, _, rfl, HTR.out, HIT.out, HB.out⟩
    by_cases hl20 : k < 20
    case neg =>
      obtain rfl : k = 20 := by omega
      have h1 : ((20 : Nat) : Int) < (L.length : Int) := by omega
      have h1d : decide (((20 : Nat) : Int) < (L.length : Int)) = true := decide_eq_true h1
      have h2 : ((20 : Int)) < (L.length : Int) := by omega
      have h2d : decide (((20 : Int)) < (L.length : Int)) = true := decide_eq_true h2
      have HS : Hid ((L.take 20).foldl Prf.stepS [] = Prf.someS L) := Lib.hid rfl
      rw [HS.out] at HTR HIT
      clear htr hit hb
      go_wp2
      go_ret2
      exact ⟨gk, _, rfl, HTR.out, HIT.out, HB.out⟩
    have h1 : (k : Int) < (L.length : Int) := by omega
    have h1d : decide ((k : Int) < (L.length : Int)) = true := decide_eq_true h1
    have h2 : (k : Int) < 20 := by omega
    have h2d : decide ((k : Int) < 20) = true := decide_eq_true h2
    have HST := Lib.hid (Prf.some_step L k hlt)
    obtain ⟨b, o, rfl, n0, n1⟩ := ItIn.at (RowsIn.below HV.out hb) k hlt
    obtain ⟨⟨x, y⟩, hxy⟩ : ∃ m, L[k] = m := ⟨_, rfl⟩
    rw [hxy] at n0 n1 HST
    dsimp only at n0 n1
    obtain ⟨S, hS⟩ : ∃ S, (L.take k).foldl Prf.stepS [] = S := ⟨_, rfl⟩
    rw [hS] at HTR HIT HST
    have hSl : S.length ≤ 10000 := by
      obtain ⟨_, t, _, _, ht⟩ := HTR.out
      have := ht.few
      omega
    have HCW : Hid (∀ w', Below wr.heap.size wr w' → w'.cell? ⟨b, o + k * 2, none⟩ = some (.string ⟨x.toArray⟩) ∧ w'.cell? ⟨b, o + k * 2 + 1, none⟩ = some (.string ⟨y.toArray⟩)) := Lib.hid (fun w' h => ⟨(h.cell (World.block_lt_of_cell? _ _ n0)).trans n0, (h.cell (World.block_lt_of_cell? _ _ n1)).trans n1⟩)
    have HPU : Hid (∀ w', Below wr.heap.size wr w' → Calls Tryz.prog 37 #[.pointer (some ⟨gk, 0, none⟩), .string ⟨x.toArray⟩, .string ⟨y.toArray⟩] w' fun e w'' => ∃ z, e = .returned (.tuple #[z, .int .i64 (Tri.putC S x y)]) ∧ (Tri.putC S x y = 0 → ∃ g', z = .pointer (some ⟨g', 0, none⟩) ∧ TrAt w'' g' (Tri.put S x y)) ∧ Below wr.heap.size wr w'') := Lib.hid (fun w' hb' =>
      (tput_any x y w' (HTR.out.below hb') (HT.out.below (bchain HB.out hb'))).mono fun e w'' ⟨z, q1, q2, q3, q4⟩ => ⟨z, q1, q2, bchain hb' q4⟩)
    have HRP : Hid (∀ w', Below wr.heap.size wr w' → Calls Tryz.prog 55 #[zz, .string ⟨x.toArray⟩, .string ⟨y.toArray⟩] w' fun e w'' => ∃ z, e = .returned (.tuple #[z, .int .i64 (Tri.putC S x y)]) ∧ ItAt w'' z (Tri.putL S x y) ∧ Below wr.heap.size wr w'') := Lib.hid (fun w' hb' =>
      (rtPut_all S zz x y w' (RowsAt.below HIT.out hb') hSl).mono fun e w'' ⟨z, q1, q2, q3⟩ => ⟨z, q1, q2, bchain hb' q3⟩)
    have HBW : Hid (∀ w', Below wr.heap.size wr w' → Below w.heap.size w w') := Lib.hid (fun w' hb' => bchain HB.out hb')
    have HPL := Lib.hid (fun h => putL_good (S := S) (x := x) (y := y) h)
    have HSP : Hid (Prf.stepS S (x, y) = if Tri.putC S x y = 0 then Tri.put S x y else S) := Lib.hid rfl
    rw [HSP.out] at HST
    obtain ⟨c, hc⟩ : ∃ c, Tri.putC S x y = c := ⟨_, rfl⟩
    have HC0 := Lib.hid hc
    rw [hc] at HPU HRP HPL HST
    have BD : Below wr.heap.size wr wr.drew := (Below.refl _ _).drew
    obtain ⟨d0, d1⟩ := HCW.out _ BD
    clear htr hit hb hxy hS hc hSl n0 n1 HSP
    go_upto_region 6 with fail
    go_cut [7, 8] from 20 to 34 (fun nv cv wx => ∃ z : Value, z = nv ∧ cv = .int .i64 c ∧ ItAt wx z (Tri.putL S x y) ∧ Below wr.heap.size wr wx)
    case first =>
      go_region_held3 (fun w' => w'.cell? ⟨b, o + k * 2, none⟩ = some (.string ⟨x.toArray⟩) ∧ w'.cell? ⟨b, o + k * 2 + 1, none⟩ = some (.string ⟨y.toArray⟩))
        ((first | (with_reducible assumption) | (refine (HCW.out _ ?_); with_reducible assumption)))
        (first | (go_at_call 55; refine (HRP.out _ ?_).mono ?_; (with_reducible assumption); rintro e w6 ⟨z1, rfl, hz1, hb6⟩))
      all_goals
        go_wp2_with fail
        go_meet
        exact ⟨_, rfl, rfl, hz1, hb6⟩
    case rest =>
      obtain ⟨z, rfl, rfl, hit2, hb2⟩ := hcut
      obtain ⟨wx, rfl⟩ : ∃ y, y = wc := ⟨_, rfl⟩
      have HI2 := Lib.hid hit2
      have HB2 := Lib.hid hb2
      have BX : Below wx.heap.size wx wx.drew := (Below.refl _ _).drew
      have HCX : Hid (∀ w', Below wx.heap.size wx w' → w'.cell? ⟨b, o + k * 2, none⟩ = some (.string ⟨x.toArray⟩) ∧ w'.cell? ⟨b, o + k * 2 + 1, none⟩ = some (.string ⟨y.toArray⟩)) := Lib.hid (fun w' h => HCW.out w' (bchain HB2.out h))
      obtain ⟨d0, d1⟩ := HCX.out _ BX
      clear hit2 hb2 BD
      by_cases hc : c = 0
      case neg =>
        have e0 : ((c : Int) != 0) = true := by rw [bne_iff_ne]; omega
        have e1 : ((c : Int) == 0) = false := by rw [beq_eq_false_iff_ne]; omega
        rw [if_neg hc] at HST
        clear hc BX d0 d1
        go_wp2
        refine ⟨⟨k + 1, gk, _, rfl, rfl, by omega, by omega, by go_num, ?_, ?_, HBW.out _ HB2.out⟩, by simp [intOf]; omega⟩
        · rw [HST.out]; exact HTR.out.below HB2.out
        · rw [HST.out]; exact RowsAt.below HIT.out HB2.out
      subst hc
      rw [if_pos rfl] at HST
      have HPX : Hid (∀ w', Below wx.heap.size wx w' → Calls Tryz.prog 37 #[.pointer (some ⟨gk, 0, none⟩), .string ⟨x.toArray⟩, .string ⟨y.toArray⟩] w' fun e w'' => ∃ g', e = .returned (.tuple #[.pointer (some ⟨g', 0, none⟩), .int .i64 0]) ∧ TrAt w'' g' (Tri.put S x y) ∧ Below wx.heap.size wx w'') := Lib.hid (fun w' hb' =>
        (tput_any x y w' (HTR.out.below (bchain HB2.out hb')) (HT.out.below (HBW.out _ (bchain HB2.out hb')))).mono fun e w'' ⟨z, q1, q2, q3, q4⟩ => by
          rw [HC0.out] at q1 q2
          obtain ⟨g', rfl, h⟩ := q2 rfl
          exact ⟨g', q1, h, bchain hb' q4⟩)
      have HI3 : Hid (ItAt wx z (Tri.put S x y)) := Lib.hid (by rw [← HPL.out rfl]; exact HI2.out)
      clear HPU HI2 HPL HRP
      go_upto_region 9 with fail
      go_region_held3 (fun w' => w'.cell? ⟨b, o + k * 2, none⟩ = some (.string ⟨x.toArray⟩) ∧ w'.cell? ⟨b, o + k * 2 + 1, none⟩ = some (.string ⟨y.toArray⟩))
        ((first | (with_reducible assumption) | (refine (HCX.out _ ?_); with_reducible assumption)))
        (first | (go_at_call 37; refine (HPX.out _ ?_).mono ?_; (with_reducible assumption); rintro e w7 ⟨g', rfl, ht7, hb7⟩))
      all_goals
        have HT7 := Lib.hid ht7
        have HB7 := Lib.hid hb7
        clear ht7 hb7
        go_wp2
        refine ⟨⟨k + 1, g', _, rfl, rfl, by omega, by omega, by go_num, ?_, ?_, HBW.out _ (bchain HB2.out HB7.out)⟩, by simp [intOf]; omega⟩
        · rw [HST.out]; exact HT7.out
        · rw [HST.out]; exact RowsAt.below HI3.out HB7.out
end Go.Proofs.YtjfefphgikncnaaGreatDoor
namespace Go.Proofs.YtjfefphgikncnaaGreatDoor
open Go.RowKit

def behind : List UInt8 := [98, 101, 104, 105, 110, 100]
/-- A list that is lent: its texts, and a mark behind their end. -/
def Lent (w : World) (B : Nat) (s : Value) (L : List (List UInt8)) : Prop :=
  ∃ g cap, s = .slice (some ⟨g, 0, none⟩) L.length cap ∧ Own w B (.slice (some ⟨g, 0, none⟩) (L.length + 1) cap) (L ++ [behind])
theorem Lent.below {w w' : World} {B : Nat} {s : Value} {L : List (List UInt8)} (h : Lent w B s L) (hb : Below w.heap.size w w') : Lent w' B s L := by
  obtain ⟨g, cap, rfl, h1⟩ := h
  exact ⟨g, cap, rfl, h1.below hb⟩
theorem Lent.strs {w : World} {B : Nat} {s : Value} {L : List (List UInt8)} (h : Lent w B s L) : Strs w s L := by
  obtain ⟨g, cap, rfl, h1⟩ := h
  obtain ⟨A, c, hv, hc⟩ := h1.strs
  obtain ⟨rfl, _⟩ : some (⟨g, 0, none⟩ : Addr) = A ∧ _ := by simpa using hv
  refine ⟨_, cap, rfl, fun i hi => ?_⟩
  obtain ⟨a, ha, hcell⟩ := hc i (by simp; omega)
  exact ⟨a, ha, by rw [hcell, List.getElem_append_left hi]⟩
theorem Lent.cap {w : World} {B : Nat} {A : Option Addr} {n c : Nat} {L : List (List UInt8)} (h : Lent w B (.slice A n c) L) : ∃ g, A = some ⟨g, 0, none⟩ ∧ n = L.length ∧ L.length + 1 ≤ c ∧ c ≤ maxLen ∧ B ≤ g ∧ w.cell? ⟨g, L.length, none⟩ = some (.string ⟨behind.toArray⟩) := by
  obtain ⟨g, cap, hv, h1⟩ := h
  obtain ⟨rfl, rfl, rfl⟩ : A = some ⟨g, 0, none⟩ ∧ n = L.length ∧ c = cap := by simpa using hv
  have h2 := World.ownsRow.cells h1 (g := g) rfl L.length (.string ⟨behind.toArray⟩) (by simp [scells])
  rw [Addr.add_mid, Nat.zero_add] at h2
  rcases h1.2 with ⟨h', _⟩ | ⟨g', cap', cur, hv', hB, hh, hn, hcap, hsz, _⟩
  · simp at h'
  · obtain ⟨rfl, rfl⟩ : g = g' ∧ c = cap' := by simpa using hv'
    exact ⟨g, rfl, rfl, by simpa using hn, hcap, hB, h2⟩

theorem own_cap {w : World} {B g n cap : Nat} {xs : List Value} (h : w.ownsRow B 9 1 (.slice (some ⟨g, 0, none⟩) (n + 1) cap) (n + 1) xs) : n ≤ cap := by
  rcases h.2 with ⟨h', _⟩ | ⟨g', cap', cur, hv, _, _, hn, _⟩
  · simp at h'
  · obtain ⟨_, rfl⟩ : g = g' ∧ cap = cap' := by simpa using hv
    omega
def LendPost (L : List (List UInt8)) (w : World) (e : Ending) (w' : World) : Prop := ∃ s, e = .returned s ∧ Lent w' w.heap.size s L ∧ Below w.heap.size w w'
theorem own_grown {w0 w w1 w2 : World} {B : Nat} {s s' : Value} {n n' : Nat} {xs xs' : List Value} (hB : B ≤ w0.heap.size) (h : w.ownsRow B 9 1 s n xs) (hb0 : Below B w0 w) (hb : Below w.heap.size w w1) (hg : w1.grownBy w2 s.ownBlock) (_hr : w2.ownsRow B 9 1 s' n' xs') : Below B w0 w2 := by
  have h3 : Out (fun j => s.ownBlock = some j) w w2 := (Out.of hb).trans (Out.grown hg (fun _ e => e))
  exact hb0.trans (h3.below (fun j hj => (World.ownsRow.lt h j hj).1) (by have := hb0.size; omega))
set_option maxRecDepth 8000 in
set_option maxHeartbeats 1000000 in
theorem lend_any (L : List (List UInt8)) (v : Value) (w : World) (hv : Strs w v L) (hl : L.length ≤ 1000000) :
    Calls Tryz.prog 31 #[v] w (LendPost L w) := by
  obtain ⟨i0, hi, hz0, hz1, hz2⟩ := info_parts Tryz.infoStr
  obtain ⟨v1, w1, hrun1, hown1, hgrow1, hat1⟩ := append_strs hv (World.ownsRow_nil w w.heap.size 9 1) (by omega) (Nat.le_refl _)
  simp only [Nat.zero_add, List.nil_append] at hown1
  have HO1 : Hid (Own w1 w.heap.size v1 L) := Lib.hid hown1
  have HB1 : Hid (Below w.heap.size w w1) := Lib.hid (own_grown (Nat.le_refl _) (World.ownsRow_nil w w.heap.size 9 1) (Below.refl _ w) (Below.refl _ w) hgrow1 hown1)
  obtain ⟨A, cap, rfl, -⟩ := hv
  obtain ⟨A1, cap1, rfl⟩ := own_form hown1
  have HR1 := Lib.hid hrun1
  clear hrun1 hown1 hgrow1 hat1
  have HS1 := Lib.hid HB1.out.size
  go_enter Tryz.func31, Tryz.ntmps31
  go_wp2_with (first | (at_builtin; refine wpList_append_run rfl _ _ _ rfl (.slice none 0 0) (.slice A L.length cap) _ (by rfl) (by rfl) HR1.out ?_) | (at_builtin; refine wpList_append_lies _ rfl _ _ _ rfl w.heap.size 9 i0 (.string ⟨#[]⟩) 1 16 Tryz.underlying28 hi hz0 hz1 hz2 rfl (by decide) (.slice A1 L.length cap1) L.length (scells L) (by rfl) (World.ownsRow.alloc HO1.out _) ⟨w1.heap.size, 0, none⟩ 1 1 (scells [behind]) (by rfl) rfl (World.news_of_block (heap_new_at _ _ _ rfl)) (by simp [scells, Value.oneCell']) (by decide) (by unfold maxLen; omega) (by omega) (by have := HS1.out; simp; omega) (w1.heap.size + 1) (by simp) ?_; intro g2 cap2 w2 hown2 hgrow2 hat2 hlt2; have hcap2 : L.length ≤ cap2 := own_cap hown2))
  go_ret
  have hb2 : Below w.heap.size w w2 := own_grown (Nat.le_refl _) HO1.out HB1.out ((Below.refl _ w1).alloc (Nat.le_refl _) _) hgrow2 hown2
  refine ⟨_, rfl, ⟨g2, cap2, rfl, ?_⟩, hb2⟩
  unfold Own
  rw [scells_append, List.length_append]
  exact hown2

set_option maxRecDepth 8000 in
set_option maxHeartbeats 1000000 in
theorem kept_any (L : List (List UInt8)) (s v : Value) (B : Nat) (w : World) (hs : Lent w B s L) (hv : Strs w v L) (hl : L.length ≤ 1000000) :
    Calls Tryz.prog 34 #[s, v] w fun e w' => e = .returned (.bool true) ∧ Below w.heap.size w w' := by
  have HS := Lib.hid hs
  have HSM := Lib.hid (same_any L L s v w hs.strs hv (by omega) (by unfold maxLen; omega))
  obtain ⟨g, c, rfl, -⟩ := hs
  obtain ⟨A, cap, rfl, -⟩ := hv
  have e1 : decide (L = L) = true := decide_eq_true rfl
  rw [e1] at HSM
  clear e1
  go_enter Tryz.func34, Tryz.ntmps34
  go_wp2_with fail
  refine HSM.out.mono ?_
  rintro e w1 ⟨rfl, hb⟩
  obtain ⟨g', hg, _, hc1, hc2, _, hcell⟩ := (HS.out.below hb).cap
  obtain rfl : g = g' := by simpa using hg
  have h1 : (L.length : Int) + 1 ≤ (c : Int) := by omega
  have h2 : (0 : Int) ≤ (L.length : Int) + 1 := by omega
  have h3 : (0 : Int) ≤ (L.length : Int) := by omega
  unfold behind at hcell
  clear hg
  go_wp2
  go_ret
  exact ⟨rfl, hb⟩

/-- One text of a row of the call's own, set. -/
theorem Own.set {w : World} {B g n cap i : Nat} {L : List (List UInt8)} (h : Own w B (.slice (some ⟨g, 0, none⟩) n cap) L) (_hi : i < L.length) (x : List UInt8) :
    Own (w.setCell ⟨g, i, none⟩ (.string ⟨x.toArray⟩)) B (.slice (some ⟨g, 0, none⟩) n cap) (L.set i x) := by
  have hn : n = L.length := by
    obtain ⟨_, _, hv⟩ := own_form h
    simp at hv
    exact hv.2.1
  subst hn
  have := (World.ownsRow.stored h i (.string ⟨x.toArray⟩)).1
  unfold Own
  rw [List.length_set]
  simpa [scells, List.map_set] using this
end Go.Proofs.YtjfefphgikncnaaGreatDoor
namespace Go.Proofs.YtjfefphgikncnaaGreatDoor
open Go.RowKit Go.ChangeShapes Go.WideShapes

def StrsC (w : World) (v : Value) (L : List (List UInt8)) : Prop :=
  ∃ (A : Option Addr) (cap : Nat), v = .slice A L.length cap ∧ L.length ≤ cap ∧ ∀ i (h : i < L.length), ∃ a, A = some a ∧ w.cell? (a.add i) = some (.string ⟨L[i].toArray⟩)
theorem StrsC.strs {w : World} {v : Value} {L : List (List UInt8)} (h : StrsC w v L) : Strs w v L := by
  obtain ⟨A, cap, h1, _, h3⟩ := h
  exact ⟨A, cap, h1, h3⟩
theorem StrsC.below {w w' : World} {v : Value} {L : List (List UInt8)} (h : StrsC w v L) (hb : Below w.heap.size w w') : StrsC w' v L := by
  obtain ⟨A, cap, rfl, h1, hc⟩ := h
  refine ⟨A, cap, rfl, h1, fun i hi => ?_⟩
  obtain ⟨a, ha, hcell⟩ := hc i hi
  exact ⟨a, ha, (hb.cell (World.block_lt_of_cell? _ _ hcell)).trans hcell⟩
theorem StrsC.form {w : World} {v : Value} {L : List (List UInt8)} (h : StrsC w v L) : ∃ A cap, v = .slice A L.length cap ∧ L.length ≤ cap := by
  obtain ⟨A, cap, h1, h2, _⟩ := h
  exact ⟨A, cap, h1, h2⟩
theorem StrsC.of_own {w : World} {B : Nat} {v : Value} {L : List (List UInt8)} (h : Own w B v L) : StrsC w v L := by
  obtain ⟨A, cap, hv, hc⟩ := h.strs
  refine ⟨A, cap, hv, ?_, hc⟩
  rcases h.2 with ⟨h1, h2⟩ | ⟨g, c, cur, hv', _, _, hn, _⟩
  · omega
  · rw [hv'] at hv
    obtain ⟨_, rfl⟩ : _ ∧ c = cap := by simpa using hv
    exact hn
theorem StrsC.of_lent {w : World} {B : Nat} {v : Value} {L : List (List UInt8)} (h : Lent w B v L) : StrsC w v L := by
  obtain ⟨A, cap, hv, hc⟩ := h.strs
  subst hv
  obtain ⟨_, _, _, h1, _⟩ := h.cap
  exact ⟨A, cap, rfl, by omega, hc⟩
theorem StrsC.nil (w : World) (A : Option Addr) (cap : Nat) : StrsC w (.slice A 0 cap) [] := ⟨A, cap, rfl, Nat.zero_le _, fun i h => absurd h (Nat.not_lt_zero i)⟩
/-- The first text. -/
theorem StrsC.head {w : World} {A : Option Addr} {n cap : Nat} {x : List UInt8} {L : List (List UInt8)} (h : StrsC w (.slice A n cap) (x :: L)) : ∃ a, A = some a ∧ w.cell? a = some (.string ⟨x.toArray⟩) ∧ n = L.length + 1 ∧ L.length + 1 ≤ cap := by
  obtain ⟨A', cap', hv, h1, hc⟩ := h
  obtain ⟨rfl, rfl, rfl⟩ : A = A' ∧ n = L.length + 1 ∧ cap = cap' := by simpa using hv
  obtain ⟨a, ha, hcell⟩ := hc 0 (by simp)
  exact ⟨a, ha, by simpa [Addr.add] using hcell, rfl, h1⟩
set_option maxRecDepth 100000 in
/-- What is behind it: 'l[1:]'. -/
theorem StrsC.tail {w : World} {A : Option Addr} {n cap : Nat} {x : List UInt8} {L : List (List UInt8)} (h : StrsC w (.slice A n cap) (x :: L)) :
    ∃ A' cap', (∀ W : World, (Instr.slice 28 (.slice A n cap) (some (.int .i64 1)) none none).run Tryz.prog W = .ok (.slice A' L.length cap') W) ∧ StrsC w (.slice A' L.length cap') L := by
  obtain ⟨A', cap', hv, h1, hc⟩ := h
  obtain ⟨rfl, rfl, rfl⟩ : A = A' ∧ n = L.length + 1 ∧ cap = cap' := by simpa using hv
  rw [List.length_cons] at h1
  obtain ⟨a, ha, -⟩ := hc 0 (by simp)
  subst ha
  have hn : L.length + 1 - 1 = L.length := by omega
  by_cases hc1 : cap = 1
  · subst hc1
    obtain rfl : L = [] := List.length_eq_zero_iff.1 (by omega)
    have hs : ∀ W : World, (sizeOf (Tryz.prog.elem 28)).run Tryz.prog W = .ok 1 W := fun W => by kernel_rfl
    refine ⟨some a, 0, fun W => ?_, StrsC.nil ..⟩
    rw [run_slice_l W 28 (some a) _ 1 Tryz.underlying28 .i64 1 (by omega) (by simp), hs]
    rfl
  · have hs : ∀ W : World, (sizeOf (Tryz.prog.elem 28)).run Tryz.prog W = .ok 1 W := fun W => by kernel_rfl
    refine ⟨some (a.add 1), cap - 1, fun W => ?_, some (a.add 1), cap - 1, rfl, by omega, fun i hi => ⟨_, rfl, ?_⟩⟩
    · rw [run_slice_l W 28 (some a) (L.length + 1) cap Tryz.underlying28 .i64 1 (by omega) (by omega), hs]
      simp [Result.andThen, sliced, hc1]
    · obtain ⟨a', ha', hcell⟩ := hc (i + 1) (by simpa using hi)
      obtain rfl : a = a' := by simpa using ha'
      rw [Addr.add_add, Nat.add_comm 1 i]
      simpa using hcell
/-- 'l[:k]'. -/
theorem StrsC.take {w : World} {A : Option Addr} {n cap : Nat} {L : List (List UInt8)} (h : StrsC w (.slice A n cap) L) (k : Nat) (hk : k ≤ L.length) :
    StrsC w (.slice A k cap) (L.take k) := by
  obtain ⟨A', cap', hv, h1, hc⟩ := h
  obtain ⟨rfl, rfl, rfl⟩ : A = A' ∧ n = L.length ∧ cap = cap' := by simpa using hv
  have e : (L.take k).length = k := by simp; omega
  refine ⟨A, cap, by rw [e], by omega, fun i hi => ?_⟩
  obtain ⟨a, ha, hcell⟩ := hc i (by omega)
  exact ⟨a, ha, by rw [hcell, List.getElem_take]⟩

set_option maxRecDepth 100000 in
theorem strs_openC {H : Type} {enc : TypeId × Value → H} {W : World} {r : Reach} {b0 : Nat} {v : Value} {d : DataW H} {p : List MemPlace}
    (hv : Value.okWide Tryz.prog W r b0 28 v) (h : DataW.Trod enc Tryz.prog W 0 (fun _ => true) true 28 v d p) :
    ∃ L, StrsC W v L ∧ L.length ≤ maxLen ∧ ∀ s ∈ L, s.length ≤ maxLen := by
  obtain ⟨a0, len, cap, rfl⟩ := okWide_slice Tryz.underlying28 hv
  obtain ⟨fuel, hf⟩ := h
  rcases open_strings Tryz.underlying28 Tryz.underlying9 (by kernel_rfl) hf with ⟨hcs, _⟩ | ⟨x, l, c, ss, hcs, _, hl, hm, hz, _, hcell, hws⟩
  · simp [Value.cells] at hcs
    obtain ⟨rfl, rfl, rfl⟩ := hcs
    exact ⟨[], StrsC.nil W none 0, Nat.zero_le _, fun s hs => by simp at hs⟩
  · simp [Value.cells] at hcs
    obtain ⟨rfl, rfl, rfl⟩ := hcs
    simp only [if_true] at hz
    have hlen : ((ss.take len).map (·.data.toList)).length = len := by simp; omega
    refine ⟨(ss.take len).map (·.data.toList), ⟨some x, cap, by rw [hlen], by rw [hlen]; exact hl, fun i hi => ⟨x, rfl, ?_⟩⟩, by omega, ?_⟩
    · rw [hlen] at hi
      rw [hcell i (by omega)]
      simp [List.getD, List.getElem?_eq_getElem (show i < ss.length by omega)]
    · intro s hs
      obtain ⟨b, hb, rfl⟩ := List.mem_map.1 hs
      have := hws b (List.mem_of_mem_take hb)
      rw [Array.length_toList]
      exact this
end Go.Proofs.YtjfefphgikncnaaGreatDoor
namespace Go.Proofs.YtjfefphgikncnaaGreatDoor
open Go.RowKit
open Sto (T St)
open Go.Proofs.YtjfefphgikncnaaGreatDoor.Nd (N)

theorem piskey_any (x : T) (w : World) :
    Calls Tryz.prog 56 #[.string ⟨x.toArray⟩] w fun e w' => e = .returned (.bool (Tri.keyed x)) ∧ w = w' := by
  by_cases h0 : x = []
  · subst h0
    go_enter Tryz.func56, Tryz.ntmps56
    go_wp2
    go_ret
    exact ⟨rfl, rfl⟩
  · have h1 : (x == []) = false := by rw [beq_eq_false_iff_ne]; exact h0
    have h1b : (x != []) = true := by rw [bne_iff_ne]; exact h0
    have h1c : x.isEmpty = false := by cases x <;> simp_all
    have h2 : 1 ≤ x.length := List.length_pos_iff.2 h0
    by_cases h8 : x.length ≤ 8
    · have h3 : (x.length : Int) ≤ 8 := by omega
      have e : Tri.keyed x = true := by simp [Tri.keyed, h2, h8]
      rw [e]
      clear e h2 h8 h0
      go_enter Tryz.func56, Tryz.ntmps56
      go_wp2
      go_ret
      exact ⟨rfl, rfl⟩
    · have h3 : ¬ ((x.length : Int) ≤ 8) := by omega
      have e : Tri.keyed x = false := by simp [Tri.keyed]; omega
      rw [e]
      clear e h2 h8 h0
      go_enter Tryz.func56, Tryz.ntmps56
      go_wp2
      go_ret
      exact ⟨rfl, rfl⟩
/-- What first tells. -/
def FirstIs : List T → T → N → Bool → Prop
  | [], _, _, b => b = false
  | x :: _, s, n, b => b = Prf.isN s x ∧ (b = true → (Nd.dec x).1 = n)
def FirstPost (L : List T) (s : T) (w : World) (e : Ending) (w' : World) : Prop :=
  ∃ (n : N) (b : Bool), e = .returned (.tuple #[ndval n, .bool b]) ∧ n.kids.length = 16 ∧ Below w.heap.size w w' ∧ FirstIs L s n b
theorem dec_kids (x : T) : (Nd.dec x).1.kids.length = 16 := by
  rcases Nd.dec_is x with ⟨_, _, h, _⟩ | ⟨_, h, _⟩
  · exact h
  · rw [h]; rfl
theorem sum_one (x : T) : Dig.sum 1 x = Sto.sumOf x := by
  unfold Dig.sum
  rfl
set_option maxRecDepth 100000 in
set_option maxHeartbeats 4000000 in
theorem pfirst_any (L : List T) (s : T) (v : Value) (w : World) (hv : StrsC w v L) (hT : Tab w) (hL : ∀ x ∈ L, x.length ≤ 1000000) :
    Calls Tryz.prog 89 #[v, .string ⟨s.toArray⟩] w (FirstPost L s w) := by
  unfold FirstPost
  have hb0 : Below w.heap.size w (w.alloc (.cells #[.int .i64 0, .string ⟨#[]⟩, .string ⟨#[]⟩, .string ⟨#[]⟩, .string ⟨#[]⟩, .string ⟨#[]⟩, .string ⟨#[]⟩, .string ⟨#[]⟩, .string ⟨#[]⟩, .string ⟨#[]⟩, .string ⟨#[]⟩, .string ⟨#[]⟩, .string ⟨#[]⟩, .string ⟨#[]⟩, .string ⟨#[]⟩, .string ⟨#[]⟩, .string ⟨#[]⟩, .string ⟨#[]⟩, .string ⟨#[]⟩] 136)) := (Below.refl _ w).alloc (Nat.le_refl _) _
  have HB0 := Lib.hid hb0
  have HZ0 : Hid ((w.alloc (.cells #[.int .i64 0, .string ⟨#[]⟩, .string ⟨#[]⟩, .string ⟨#[]⟩, .string ⟨#[]⟩, .string ⟨#[]⟩, .string ⟨#[]⟩, .string ⟨#[]⟩, .string ⟨#[]⟩, .string ⟨#[]⟩, .string ⟨#[]⟩, .string ⟨#[]⟩, .string ⟨#[]⟩, .string ⟨#[]⟩, .string ⟨#[]⟩, .string ⟨#[]⟩, .string ⟨#[]⟩, .string ⟨#[]⟩, .string ⟨#[]⟩] 136)).heap[w.heap.size]? = some (.cells (ncl Nd.zero).toArray 136 (0, 0))) := Lib.hid (heap_new_at w _ _ rfl)
  have HI19 : Hid ((Tryz.prog.info? 136).map (·.size) = some 19) := Lib.hid (by kernel_rfl)
  have HBZ : Hid (Tryz.prog.built 136 [] = some (ncl Nd.zero).toArray) := Lib.hid (by rfl)
  have HOZ := Lib.hid (ncl_one Nd.zero)
  have HSZ : Hid ((ncl Nd.zero).toArray.size = 19) := Lib.hid rfl
  obtain ⟨Z, hZ⟩ : ∃ Z, (ncl Nd.zero).toArray = Z := ⟨_, rfl⟩
  have HZQ := Lib.hid hZ
  rw [hZ] at HZ0 HBZ HOZ HSZ
  have HIZ : Hid ((Tryz.prog.info? 136).map (·.size) = some Z.size) := Lib.hid (by rw [HSZ.out]; exact HI19.out)
  have HZ16 : Hid (Nd.zero.kids.length = 16) := Lib.hid rfl
  have HV0 := Lib.hid (hv.below hb0)
  have HT0 := Lib.hid (hT.below hb0)
  cases L with
  | nil =>
    obtain ⟨A, cap, rfl, -⟩ := hv.form
    clear hb0 hZ hv hT
    go_enter Tryz.func89, Tryz.ntmps89
    go_wp2_with (first | (refine wpList_build_some (by rfl) _ _ (by rfl) [] (by first | rfl | (simp [Act.eval]; done) | kernel_rfl) Z HBZ.out ?_) | (refine wpList_store_row (by rfl) _ _ _ (by rfl) w.heap.size Z (by rfl) (by rfl) _ _ HZ0.out HIZ.out rfl HOZ.out ?_))
    refine bodyPost_ret (nresults_c1t rfl _ _ w.heap.size _ _ _ _ rfl (setRow_heap _ _ _ _ _ _ HZ0.out) Tryz.underlying136 rfl HIZ.out) rfl ⟨Nd.zero, false, by rw [← HZQ.out]; rfl, HZ16.out, below_setRow HB0.out (Nat.le_refl _) _, rfl⟩
  | cons x r =>
    obtain ⟨A, cap, rfl, -⟩ := hv.form
    have hx : x.length ≤ 1000000 := hL x (List.mem_cons_self ..)
    have HND := Lib.hid (fun w => ndecode_any x w hx)
    have HDS := Lib.hid (fun w hT => dsum_any 1 x w hT (by omega))
    unfold NDecPost ndval at HND
    obtain ⟨⟨n, c⟩, hX⟩ : ∃ X, Nd.dec x = X := ⟨_, rfl⟩
    have hn16 : n.kids.length = 16 := by have := dec_kids x; rw [hX] at this; exact this
    have HIS : Hid (∀ b, b = decide (Sto.sumOf x = s ∧ c = 0) → FirstIs (x :: r) s n b) := Lib.hid (fun b hb => ⟨by rw [hb]; unfold Prf.isN; rw [hX], fun _ => by rw [hX]⟩)
    have HISZ : Hid (c ≠ 0 → FirstIs (x :: r) s Nd.zero false) := Lib.hid (fun h => ⟨by unfold Prf.isN; rw [hX, decide_eq_false (fun e => h e.2)], fun e => by cases e⟩)
    have HISS : Hid (Sto.sumOf x ≠ s → FirstIs (x :: r) s Nd.zero false) := Lib.hid (fun h => ⟨by unfold Prf.isN; rw [decide_eq_false (fun e => h e.1)], fun e => by cases e⟩)
    rw [hX] at HND
    dsimp only at HND
    have e1 : Dig.sumC 1 = 0 := rfl
    rw [e1, sum_one] at HDS
    obtain ⟨S, hS⟩ : ∃ S, Sto.sumOf x = S := ⟨_, rfl⟩
    rw [hS] at HDS HIS HISS
    have HN16 := Lib.hid hn16
    have HON := Lib.hid (ncl_one n)
    have HSN : Hid ((ncl n).toArray.size = 19) := Lib.hid (by rw [List.size_toArray, ncl_length n hn16])
    have HNV : Hid (ndval n = .agg (ncl n).toArray) := Lib.hid rfl
    obtain ⟨C, hC⟩ : ∃ C, (ncl n).toArray = C := ⟨_, rfl⟩
    rw [hC] at HND HON HSN HNV
    have HI : Hid ((Tryz.prog.info? 136).map (·.size) = some C.size) := Lib.hid (by rw [HSN.out]; exact HI19.out)
    have HZC : Hid (Z.size = C.size) := Lib.hid (HSZ.out.trans HSN.out.symm)
    have HCZ : Hid (C.size = Z.size) := Lib.hid HZC.out.symm
    obtain ⟨a, rfl, hcell, -, -⟩ := hv.head
    obtain ⟨b, o, sp⟩ := a
    have hblt := World.block_lt_of_cell? _ _ hcell
    have HCW : Hid (∀ w', Below w.heap.size w w' → w'.cell? ⟨b, o, sp⟩ = some (.string ⟨x.toArray⟩)) := Lib.hid (fun w' h => (h.cell hblt).trans hcell)
    have HTW : Hid (∀ w', Below w.heap.size w w' → Tab w') := Lib.hid (fun w' h => hT.below h)
    have hq1 : ((r.length : Int) + 1 == 0) = false := by rw [beq_eq_false_iff_ne]; omega
    have hq2 : (0 : Int) < (r.length : Int) + 1 := by omega
    have cz := HCW.out _ HB0.out
    clear hb0 hZ hv hT hX hn16 hS hC hcell hblt hL HV0 HT0 e1 hx
    go_enter Tryz.func89, Tryz.ntmps89
    go_wp2_with fail
    obtain ⟨p, hp⟩ : ∃ p, w.heap.size = p := ⟨_, rfl⟩
    have HP := Lib.hid hp
    rw [hp] at HZ0 HB0 HCW HTW ⊢
    generalize (w.alloc (.cells #[.int .i64 0, .string ⟨#[]⟩, .string ⟨#[]⟩, .string ⟨#[]⟩, .string ⟨#[]⟩, .string ⟨#[]⟩, .string ⟨#[]⟩, .string ⟨#[]⟩, .string ⟨#[]⟩, .string ⟨#[]⟩, .string ⟨#[]⟩, .string ⟨#[]⟩, .string ⟨#[]⟩, .string ⟨#[]⟩, .string ⟨#[]⟩, .string ⟨#[]⟩, .string ⟨#[]⟩, .string ⟨#[]⟩, .string ⟨#[]⟩] 136)) = w0 at *
    refine (HND.out _).mono ?_
    rintro e w1 ⟨rfl, hb1⟩
    have hpw := lt_of_heap HZ0.out
    have HB1 : Hid (Below p w w1) := Lib.hid (HB0.out.trans (hb1.mono (Nat.le_of_lt hpw)))
    have HZ1 : Hid (w1.heap[p]? = some (.cells Z 136 (0, 0))) := Lib.hid ((hb1.block p hpw).trans HZ0.out)
    have HB2 : Hid (Below p w (w1.setRow p C)) := Lib.hid (below_setRow HB1.out (Nat.le_refl _) _)
    have HC2 : Hid ((w1.setRow p C).heap[p]? = some (.cells C 136 (0, 0))) := Lib.hid (setRow_heap _ _ _ _ _ _ HZ1.out)
    have c2 := HCW.out _ HB2.out
    clear hb1 hpw HZ0 cz
    by_cases hc : c = 0
    case neg =>
      have hc1 : (c != 0) = true := by rw [bne_iff_ne]; exact hc
      have HF := Lib.hid (HISZ.out hc)
      clear hc c2
      go_wp2_with (first | (refine wpList_store_row (by rfl) _ _ _ (by rfl) p C (by rfl) (by rfl) _ _ HZ1.out HI.out HZC.out HON.out ?_) | (refine wpList_build_some (by rfl) _ _ (by rfl) [] (by first | rfl | (simp [Act.eval]; done) | kernel_rfl) Z HBZ.out ?_) | (refine wpList_store_row (by rfl) _ _ _ (by rfl) p Z (by rfl) (by rfl) _ _ HC2.out HIZ.out HCZ.out HOZ.out ?_))
      refine bodyPost_ret (nresults_c1t rfl _ _ p _ _ _ _ rfl (setRow_heap _ _ _ _ _ _ HC2.out) Tryz.underlying136 rfl HIZ.out) rfl ⟨Nd.zero, false, by rw [← HZQ.out]; rfl, HZ16.out, by rw [HP.out]; exact below_setRow HB2.out (Nat.le_refl _) _, HF.out⟩
    subst hc
    have HD2 := Lib.hid (HDS.out (w1.setRow p C) (HTW.out _ HB2.out))
    go_wp2_with (first | (refine wpList_store_row (by rfl) _ _ _ (by rfl) p C (by rfl) (by rfl) _ _ HZ1.out HI.out HZC.out HON.out ?_))
    refine HD2.out.mono ?_
    rintro e w3 ⟨rfl, hb3⟩
    have HC3 : Hid (w3.heap[p]? = some (.cells C 136 (0, 0))) := Lib.hid ((hb3.block p (lt_of_heap HC2.out)).trans HC2.out)
    have HB3 : Hid (Below p w w3) := Lib.hid (HB2.out.trans (hb3.mono (Nat.le_of_lt (lt_of_heap HC2.out))))
    clear hb3 c2 HD2 HDS
    by_cases hs : S = s
    · subst hs
      have hs1 : (S != S) = false := by simp
      have HF := Lib.hid (HIS.out true (by simp))
      go_wp2_with (first | (refine wpList_load_row (by rfl) _ _ (by rfl) p (by rfl) _ C _ _ HC3.out Tryz.underlying136 (by rfl) HI.out ?_) | (refine wpList_store_row (by rfl) _ _ _ (by rfl) p C (by rfl) (by rfl) _ _ HC3.out HI.out rfl HON.out ?_))
      refine bodyPost_ret (nresults_c1t rfl _ _ p _ _ _ _ rfl (setRow_heap _ _ _ _ _ _ HC3.out) Tryz.underlying136 rfl HI.out) rfl ⟨n, true, by rw [HNV.out]; rfl, HN16.out, by rw [HP.out]; exact below_setRow HB3.out (Nat.le_refl _) _, HF.out⟩
    · have hs1 : (S != s) = true := by rw [bne_iff_ne]; exact hs
      have hs2 : (S == s) = false := beq_eq_false_iff_ne.2 hs
      have HF := Lib.hid (HISS.out hs)
      clear hs
      go_wp2_with (first | (refine wpList_build_some (by rfl) _ _ (by rfl) [] (by first | rfl | (simp [Act.eval]; done) | kernel_rfl) Z HBZ.out ?_) | (refine wpList_store_row (by rfl) _ _ _ (by rfl) p Z (by rfl) (by rfl) _ _ HC3.out HIZ.out HCZ.out HOZ.out ?_))
      refine bodyPost_ret (nresults_c1t rfl _ _ p _ _ _ _ rfl (setRow_heap _ _ _ _ _ _ HC3.out) Tryz.underlying136 rfl HIZ.out) rfl ⟨Nd.zero, false, by rw [← HZQ.out]; rfl, HZ16.out, by rw [HP.out]; exact below_setRow HB3.out (Nat.le_refl _) _, HF.out⟩
end Go.Proofs.YtjfefphgikncnaaGreatDoor
namespace Go.Proofs.YtjfefphgikncnaaGreatDoor
open Go.RowKit
open Sto (T)

/-- What is behind a beginning; the text itself, if it does not begin so. -/
def cutP (s p : T) : T := if s.take p.length = p then s.drop p.length else s
theorem cut_in (s p : T) (w : World) :
    Calls Tryz.prog 120 #[.string ⟨s.toArray⟩, .string ⟨p.toArray⟩] w fun e w' => e = .returned (.tuple #[.string ⟨(cutP s p).toArray⟩, .bool (decide (s.take p.length = p))]) ∧ w = w' := by
  have HP := Lib.hid (fun w => prefix_in s p w)
  unfold cutP
  by_cases h : s.take p.length = p
  · have hle : p.length ≤ s.length := by
      have := congrArg List.length h
      simp at this
      omega
    have h1 : (p.length : Int) ≤ (s.length : Int) := by omega
    have h0 : (0 : Int) ≤ (p.length : Int) := by omega
    have e1 : decide (s.take p.length = p) = true := decide_eq_true h
    rw [e1] at HP ⊢
    rw [if_pos h]
    have he : (⟨s.toArray⟩ : ByteArray).extract p.length s.length = ⟨(s.drop p.length).toArray⟩ := by
      rw [Lib.extract_eq]
      simp [List.take_of_length_le]
    clear h e1 hle
    go_enter Tryz.func120, Tryz.ntmps120
    go_wp2_with fail
    refine (HP.out _).mono ?_
    rintro e w1 ⟨rfl, rfl⟩
    go_wp2
    go_ret2
    exact ⟨rfl, rfl⟩
  · have e1 : decide (s.take p.length = p) = false := decide_eq_false h
    rw [e1] at HP ⊢
    rw [if_neg h]
    clear h e1
    go_enter Tryz.func120, Tryz.ntmps120
    go_wp2_with fail
    refine (HP.out _).mono ?_
    rintro e w1 ⟨rfl, rfl⟩
    go_wp2
    go_ret2
    exact ⟨rfl, rfl⟩
theorem cut_any (s p : T) (w : World) :
    Calls Tryz.prog 90 #[.string ⟨s.toArray⟩, .string ⟨p.toArray⟩] w fun e w' => e = .returned (.tuple #[.string ⟨(cutP s p).toArray⟩, .bool (decide (s.take p.length = p))]) ∧ w = w' := by
  have HP := Lib.hid (fun w => cut_in s p w)
  go_enter Tryz.func90, Tryz.ntmps90
  go_wp2_with fail
  refine (HP.out _).mono ?_
  rintro e w1 ⟨rfl, rfl⟩
  go_wp2
  go_ret2
  exact ⟨rfl, rfl⟩
end Go.Proofs.YtjfefphgikncnaaGreatDoor
namespace Go.Proofs.YtjfefphgikncnaaGreatDoor
open Go.RowKit
open Sto (T St)
open Go.Proofs.YtjfefphgikncnaaGreatDoor.Nd (N)

/-- How many things a slice has. -/
def nlen : Value → Nat
  | .slice _ n _ => n
  | _ => 0
def FolPost (o : Option T) (w : World) (e : Ending) (w' : World) : Prop :=
  e = .returned (.tuple #[.string ⟨(o.getD []).toArray⟩, .int .i64 (if o.isSome then 0 else 130)]) ∧ Below w.heap.size w w'
theorem FolPost.yes {o : Option T} {v : T} {w w' : World} (h : o = some v) (hb : Below w.heap.size w w') : FolPost o w (.returned (.tuple #[.string ⟨v.toArray⟩, .int .i64 0])) w' := by
  subst h
  exact ⟨rfl, hb⟩
theorem FolPost.no {o : Option T} {w w' : World} (h : o = none) (hb : Below w.heap.size w w') : FolPost o w (.returned (.tuple #[.string ⟨#[]⟩, .int .i64 130])) w' := by
  subst h
  exact ⟨rfl, hb⟩
set_option maxRecDepth 100000 in
set_option maxHeartbeats 1000000 in
theorem follow_any (s0 l0 : T) (v : Value) (L0 : List T) (w : World) (hv : StrsC w v L0) (hT : Tab w) (hL : ∀ x ∈ L0, x.length ≤ 1000000) (hf0 : Nib.fitL l0 = true) (hl0 : l0.length ≤ 1000) :
    Calls Tryz.prog 61 #[.string ⟨s0.toArray⟩, .string ⟨l0.toArray⟩, v] w (FolPost (Prf.fol s0 l0 L0) w) := by
  obtain ⟨o, ho⟩ : ∃ o, Prf.fol s0 l0 L0 = o := ⟨_, rfl⟩
  rw [ho]
  have HT := Lib.hid hT
  have HCU := Lib.hid (fun (s p : T) w => cut_any s p w)
  have H0 := Lib.hid (show StrsC w v L0 ∧ Prf.fol s0 l0 L0 = o ∧ Nib.fitL l0 = true ∧ l0.length ≤ 1000 ∧ ∀ x ∈ L0, x.length ≤ 1000000 from ⟨hv, ho, hf0, hl0, hL⟩)
  have HI19 : Hid ((Tryz.prog.info? 136).map (·.size) = some 19) := Lib.hid (by kernel_rfl)
  clear hv hT hL hf0 hl0 ho
  go_enter Tryz.func61, Tryz.ntmps61
  go_wp2
  go_step3
  go_wp2
  go_step3
  go_wp2
  go_loopw [0, 1, 2, 6] (fun sv lv nv xv wr => ∃ (s l : T) (L : List T) (zv : Value), zv = nv ∧ xv = .string ⟨#[]⟩ ∧ sv = .string ⟨s.toArray⟩ ∧ lv = .string ⟨l.toArray⟩ ∧ StrsC wr zv L ∧ Prf.fol s l L = o ∧ Nib.fitL l = true ∧ l.length ≤ 1000 ∧ (∀ x ∈ L, x.length ≤ 1000000) ∧ Below w.heap.size w wr) (fun _ _ nv _ _ => nlen nv)
  case atStart =>
    obtain ⟨h1, h2, h3, h4, h5⟩ := H0.out
    exact ⟨s0, l0, L0, _, rfl, rfl, rfl, rfl, h1, h2, h3, h4, h5, Below.refl _ _⟩
  case round =>
    obtain ⟨s, l, L, zv, rfl, rfl, rfl, rfl, hst, hfo, hfit, hl, hL, hb⟩ := hrel
    have HB := Lib.hid hb
    have HST := Lib.hid hst
    by_cases hs : s = []
    · subst hs
      rw [Prf.fol_nil] at hfo
      obtain ⟨A, cap, rfl, -⟩ := hst.form
      by_cases hn : L = []
      · subst hn
        rw [if_pos rfl] at hfo
        have HO := Lib.hid hfo.symm
        clear hst hfo hfit hl hL hb
        go_wp2
        try rw [Exit.noGoto_ret]
        go_ret2
        exact FolPost.yes (v := []) HO.out HB.out
      · rw [if_neg hn] at hfo
        have HO := Lib.hid hfo.symm
        have q1 : (0 : Int) < (L.length : Int) := by have := List.length_pos_iff.2 hn; omega
        clear hst hfo hfit hl hL hb hn
        go_wp2
        try rw [Exit.noGoto_ret]
        go_ret2
        exact FolPost.no HO.out HB.out
    have q1 : (s == []) = false := beq_eq_false_iff_ne.2 hs
    have q2 : (s != []) = true := by rw [bne_iff_ne]; exact hs
    have q3 : s.isEmpty = false := by cases s <;> simp_all
    have HFI := Lib.hid (pfirst_any L s zv wr hst (HT.out.below hb) hL)
    unfold FirstPost at HFI
    have HS := Lib.hid hs
    have HFO := Lib.hid hfo
    have HFT := Lib.hid hfit
    have HL1 := Lib.hid hl
    have HLS := Lib.hid hL
    clear hst hfo hfit hb hs hL hl
    go_wp2_with fail
    refine HFI.out.mono ?_
    rintro e w2 ⟨n, bb, rfl, hn16, hb2, his⟩
    have HIS := Lib.hid his
    have HN16 := Lib.hid hn16
    have HB2 := Lib.hid (bchain HB.out (hb2.alloc hb2.size (.cells (ncl n).toArray 136)))
    have HST2 := Lib.hid (HST.out.below (hb2.alloc hb2.size (.cells (ncl n).toArray 136)))
    have HON := Lib.hid (ncl_one n)
    have HSN : Hid ((ncl n).toArray.size = 19) := Lib.hid (by rw [List.size_toArray, ncl_length n hn16])
    have HNW : Hid (NodeAt (w2.alloc (.cells (ncl n).toArray 136)) w2.heap.size n) := Lib.hid (heap_new_at w2 _ _ rfl)
    unfold ndval
    obtain ⟨C, hC⟩ : ∃ C, (ncl n).toArray = C := ⟨_, rfl⟩
    rw [hC] at HON HSN HNW HB2 HST2 ⊢
    have HI : Hid ((Tryz.prog.info? 136).map (·.size) = some C.size) := Lib.hid (by rw [HSN.out]; exact HI19.out)
    have cn0 := HNW.out.kind
    clear his hn16 hb2 hC HFI
    cases L with
    | nil =>
      obtain rfl : bb = false := HIS.out
      have HO : Hid (o = none) := Lib.hid (by rw [← HFO.out]; exact Prf.fol_none HS.out)
      clear cn0
      go_wp2_with (refine wpList_store_fresh (by rfl) _ _ _ (by rfl) w2.heap.size rfl C (by rfl) (by rfl) _ _ HI.out HSN.out.symm HON.out ?_)
      try rw [Exit.noGoto_ret]
      go_ret2
      exact FolPost.no HO.out HB2.out
    | cons x r =>
      cases bb with
      | false =>
        have HO : Hid (o = none) := Lib.hid (by rw [← HFO.out]; exact Prf.fol_bad HS.out HIS.out.1.symm)
        clear cn0
        go_wp2_with (refine wpList_store_fresh (by rfl) _ _ _ (by rfl) w2.heap.size rfl C (by rfl) (by rfl) _ _ HI.out HSN.out.symm HON.out ?_)
        try rw [Exit.noGoto_ret]
        go_ret2
        exact FolPost.no HO.out HB2.out
      | true =>
        have hN : Prf.isN s x = true := HIS.out.1.symm
        have hX : (Nd.dec x).1 = n := HIS.out.2 rfl
        have hto : Prf.Told n := by rw [← hX]; exact Prf.Told.of (of_decide_eq_true hN).2
        obtain ⟨A, cap, hz, -⟩ := HST2.out.form
        subst hz
        obtain ⟨A', cap', hrun, hst3⟩ := HST2.out.tail
        have hrl : nlen (.slice A' r.length cap') < nlen (.slice A (x :: r).length cap) := by simp [nlen]
        have HRL := Lib.hid hrl
        have HRS : Hid (∀ x ∈ r, x.length ≤ 1000000) := Lib.hid (fun y hy => HLS.out y (List.mem_cons_of_mem _ hy))
        obtain ⟨nn, hnn⟩ : ∃ nn, (x :: r).length = nn := ⟨_, rfl⟩
        rw [hnn] at hrun ⊢
        obtain ⟨rn, hrn⟩ : ∃ rn, r.length = rn := ⟨_, rfl⟩
        rw [hrn] at hrun HRL hst3
        have HRN := Lib.hid hrn
        have HST3 := Lib.hid hst3
        have cn1 := HNW.out.path
        have cn2 := HNW.out.val
        have HKI : Hid (∀ i (h : i < n.kids.length), (w2.alloc (.cells C 136)).cell? ⟨w2.heap.size, 3 + i, none⟩ = some (.string ⟨n.kids[i].toArray⟩)) := Lib.hid (fun i h => HNW.out.kid i h)
        have HTO := Lib.hid hto
        have HNN := Lib.hid hN
        have HXX := Lib.hid hX
        have hkind := hto.kind
        clear hto hN hX hst3 hrl hnn hrn
        go_upto_region 5 with (refine wpList_store_fresh (by rfl) _ _ _ (by rfl) w2.heap.size rfl C (by rfl) (by rfl) _ _ HI.out HSN.out.symm HON.out ?_)
        obtain ⟨q, hq⟩ : ∃ q, w2.heap.size = q := ⟨_, rfl⟩
        rw [hq] at cn0 cn1 cn2 HKI ⊢
        obtain ⟨w3, hw3⟩ : ∃ w3, w2.alloc (.cells C 136) = w3 := ⟨_, rfl⟩
        rw [hw3] at cn0 cn1 cn2 HKI HB2 HST3 ⊢
        clear hq hw3 HNW HST2 HST HB
        obtain ⟨kd, P, V, K⟩ := n
        dsimp only at cn0 cn1 cn2 HKI hkind
        rcases hkind with rfl | ⟨rfl, hk0⟩ | rfl
        · have hfo : Prf.fol s l (x :: r) = _ := Prf.fol_leaf HS.out HNN.out HXX.out rfl
          dsimp only at hfo
          rw [HFO.out] at hfo
          by_cases hr : r = []
          · subst hr
            obtain rfl : rn = 0 := HRN.out.symm
            rw [if_pos rfl] at hfo
            by_cases hp : P = l
            · subst hp
              rw [if_pos rfl] at hfo
              have HO := Lib.hid hfo
              have y1 : (P == P) = true := beq_self_eq_true _
              clear hfo
              go_wp2
              try rw [Exit.noGoto_ret]
              go_ret2
              exact FolPost.yes (v := V) HO.out HB2.out
            · rw [if_neg hp] at hfo
              have HO := Lib.hid hfo
              have y1 : (P == l) = false := beq_eq_false_iff_ne.2 hp
              clear hfo hp
              go_wp2
              try rw [Exit.noGoto_ret]
              go_ret2
              exact FolPost.yes (v := []) HO.out HB2.out
          · rw [if_neg hr] at hfo
            have HO := Lib.hid hfo
            have z1 : (0 : Int) < (rn : Int) := by have := List.length_pos_iff.2 hr; have := HRN.out; omega
            have z2 : 0 < rn := by omega
            by_cases hp : P = l
            · subst hp
              have y1 : (P == P) = true := beq_self_eq_true _
              clear hfo hr
              go_wp2
              try rw [Exit.noGoto_ret]
              go_ret2
              exact FolPost.no HO.out HB2.out
            · have y1 : (P == l) = false := beq_eq_false_iff_ne.2 hp
              clear hfo hp hr
              go_wp2
              try rw [Exit.noGoto_ret]
              go_ret2
              exact FolPost.no HO.out HB2.out
        · have HCP := Lib.hid (fun w => HCU.out l P w)
          by_cases hp : l.take P.length = P
          · have hfo : Prf.fol s l (x :: r) = _ := Prf.fol_ext HS.out HNN.out HXX.out rfl hk0 hp
            try dsimp only at hfo
            rw [HFO.out] at hfo
            have ecut : cutP l P = l.drop P.length := by unfold cutP; rw [if_pos hp]
            rw [decide_eq_true hp, ecut] at HCP
            have cn3 := HKI.out 0 (by rw [HN16.out]; omega)
            have ek : K.getD 0 [] = K[0]'(by have := HN16.out; dsimp only at this; omega) := by
              rw [List.getD_eq_getElem?_getD, List.getElem?_eq_getElem (by have := HN16.out; dsimp only at this; omega)]
              rfl
            rw [ek] at hfo
            obtain ⟨k0, hk0'⟩ : ∃ k0, K[0]'(by have := HN16.out; dsimp only at this; omega) = k0 := ⟨_, rfl⟩
            try dsimp only at cn3
            rw [hk0'] at cn3 hfo
            simp only [Nat.add_zero] at cn3
            have hfd : Nib.fitL (l.drop P.length) = true := Tri.fit_drop _ HFT.out
            have hld : (l.drop P.length).length ≤ 1000 := by have := HL1.out; rw [List.length_drop]; omega
            obtain ⟨l2, hl2⟩ : ∃ l2, l.drop P.length = l2 := ⟨_, rfl⟩
            rw [hl2] at HCP hfo hfd hld
            have HNX := Lib.hid (show Prf.fol k0 l2 r = o ∧ Nib.fitL l2 = true ∧ l2.length ≤ 1000 from ⟨hfo.symm, hfd, hld⟩)
            clear hfo hp ecut hk0 ek hk0' hfd hld hl2
            go_wp2_with fail
            refine (HCP.out _).mono ?_
            rintro e w4 ⟨rfl, rfl⟩
            go_wp2
            obtain ⟨a1, a2, a3⟩ := HNX.out
            exact ⟨⟨k0, l2, r, _, rfl, rfl, rfl, rfl, HST3.out, a1, a2, a3, HRS.out, HB2.out⟩, HRL.out⟩
          · have hfo : Prf.fol s l (x :: r) = _ := Prf.fol_off HS.out HNN.out HXX.out rfl hp
            rw [HFO.out] at hfo
            rw [decide_eq_false hp] at HCP
            clear hp hk0
            by_cases hr : r = []
            · subst hr
              obtain rfl : rn = 0 := HRN.out.symm
              rw [if_pos rfl] at hfo
              have HO := Lib.hid hfo
              clear hfo
              go_wp2_with fail
              refine (HCP.out _).mono ?_
              rintro e w4 ⟨rfl, rfl⟩
              go_wp2
              try rw [Exit.noGoto_ret]
              go_ret2
              exact FolPost.yes (v := []) HO.out HB2.out
            · rw [if_neg hr] at hfo
              have HO := Lib.hid hfo
              have z1 : (0 : Int) < (rn : Int) := by have := List.length_pos_iff.2 hr; have := HRN.out; omega
              have z2 : 0 < rn := by omega
              clear hfo hr
              go_wp2_with fail
              refine (HCP.out _).mono ?_
              rintro e w4 ⟨rfl, rfl⟩
              go_wp2
              try rw [Exit.noGoto_ret]
              go_ret2
              exact FolPost.no HO.out HB2.out
        · cases l with
          | nil =>
            have hfo : Prf.fol s [] (x :: r) = _ := Prf.fol_end HS.out HNN.out HXX.out rfl
            try dsimp only at hfo
            rw [HFO.out] at hfo
            by_cases hr : r = []
            · subst hr
              obtain rfl : rn = 0 := HRN.out.symm
              rw [if_pos rfl] at hfo
              have HO := Lib.hid hfo
              clear hfo
              go_wp2
              try rw [Exit.noGoto_ret]
              go_ret2
              exact FolPost.yes (v := V) HO.out HB2.out
            · rw [if_neg hr] at hfo
              have HO := Lib.hid hfo
              have z1 : (0 : Int) < (rn : Int) := by have := List.length_pos_iff.2 hr; have := HRN.out; omega
              have z2 : 0 < rn := by omega
              clear hfo hr
              go_wp2
              try rw [Exit.noGoto_ret]
              go_ret2
              exact FolPost.no HO.out HB2.out
          | cons b l2 =>
            have hfo : Prf.fol s (b :: l2) (x :: r) = _ := Prf.fol_kid HS.out HNN.out HXX.out rfl
            try dsimp only at hfo
            rw [HFO.out] at hfo
            obtain ⟨hb15, hf2⟩ := Tri.fit_cons.1 HFT.out
            have hbl : b.toNat < K.length := by have := HN16.out; dsimp only at this; omega
            have cn3 := HKI.out b.toNat hbl
            have ek : K.getD b.toNat [] = K[b.toNat] := by
              rw [List.getD_eq_getElem?_getD, List.getElem?_eq_getElem hbl]
              rfl
            rw [ek] at hfo
            obtain ⟨k0, hk0'⟩ : ∃ k0, K[b.toNat] = k0 := ⟨_, rfl⟩
            try dsimp only at cn3
            rw [hk0'] at cn3 hfo
            have hll : l2.length ≤ 1000 := by have := HL1.out; rw [List.length_cons] at this; omega
            have HNX := Lib.hid (show Prf.fol k0 l2 r = o ∧ Nib.fitL l2 = true ∧ l2.length ≤ 1000 from ⟨hfo.symm, hf2, hll⟩)
            have hbyte : ∀ hh, (⟨(b :: l2).toArray⟩ : ByteArray)[0]'hh = b := byte_drop rfl
            have htl2 : (⟨(b :: l2).toArray⟩ : ByteArray).extract 1 (b :: l2).length = ⟨l2.toArray⟩ := tail_drop (n := 0) rfl
            have hne : ((b :: l2 : List UInt8) == []) = false := rfl
            have y0 : (0 : Int) < ((b :: l2).length : Int) := by rw [List.length_cons]; omega
            have y1 : (1 : Int) ≤ ((b :: l2).length : Int) := by rw [List.length_cons]; omega
            have y6 : (0 : Int) ≤ (b.toNat : Int) := by omega
            have y7 : (b.toNat : Int) < 16 := by omega
            obtain ⟨Q, hQ⟩ : ∃ Q, b :: l2 = Q := ⟨_, rfl⟩
            rw [hQ] at hbyte htl2 hne y0 y1 ⊢
            clear hfo hk0' ek hbl hb15 hf2 hll hQ
            go_upto_region 17 with fail
            go_quiet (fail)
            go_wp2
            obtain ⟨a1, a2, a3⟩ := HNX.out
            exact ⟨⟨k0, l2, r, _, rfl, rfl, rfl, rfl, HST3.out.below (bel_drewN (Below.refl _ _) _), a1, a2, a3, HRS.out, bel_drewN HB2.out _⟩, HRL.out⟩
/-- Verify. -/
theorem verify_any (root key : T) (v : Value) (L : List T) (w : World) (hv : StrsC w v L) (hT : Tab w) (hL : ∀ x ∈ L, x.length ≤ 1000000) :
    Calls Tryz.prog 32 #[.string ⟨root.toArray⟩, .string ⟨key.toArray⟩, v] w fun e w' => e = .returned (.tuple #[.string ⟨(Prf.verify root key L).1.toArray⟩, .bool (Prf.verify root key L).2.1, .int .i64 (Prf.verify root key L).2.2]) ∧ Below w.heap.size w w' := by
  rw [Prf.verify_fol]
  have HK := Lib.hid (fun w => piskey_any key w)
  cases hk : Tri.keyed key with
  | false =>
    rw [hk] at HK
    simp only [if_neg (show ¬ (false = true) by simp)]
    clear hv hT hL hk
    go_enter Tryz.func32, Tryz.ntmps32
    go_wp2_with fail
    refine (HK.out _).mono ?_
    rintro e w1 ⟨rfl, rfl⟩
    go_wp2
    go_ret3
    exact ⟨rfl, Below.refl _ _⟩
  | true =>
    rw [hk] at HK
    simp only [if_true]
    have hk8 : key.length ≤ 8 := by simp [Tri.keyed] at hk; omega
    have HOF := Lib.hid (fun w => of_any key w (by omega))
    have HFO := Lib.hid (fun w1 (hb : Below w.heap.size w w1) => follow_any root (Nib.ofL key) v L w1 (hv.below hb) (hT.below hb) hL (Tri.ofL_fit key) (by rw [Nib.ofL_length]; omega))
    unfold FolPost at HFO
    obtain ⟨q, hq⟩ : ∃ q, Nib.ofL key = q := ⟨_, rfl⟩
    rw [hq] at HOF HFO ⊢
    obtain ⟨A, cap, rfl, -⟩ := hv.form
    obtain ⟨o, ho⟩ : ∃ o, Prf.fol root q L = o := ⟨_, rfl⟩
    rw [ho] at HFO ⊢
    clear hv hT hL hk hk8 hq ho
    go_enter Tryz.func32, Tryz.ntmps32
    go_wp2_with fail
    refine (HK.out _).mono ?_
    rintro e w1 ⟨rfl, rfl⟩
    go_wp2_with fail
    refine (HOF.out _).mono ?_
    rintro e w2 ⟨rfl, hb2⟩
    have HB2 := Lib.hid hb2
    clear hb2
    go_wp2_with fail
    refine (HFO.out _ HB2.out).mono ?_
    rintro e w3 ⟨rfl, hb3⟩
    have HB3 := Lib.hid (bchain HB2.out hb3)
    clear hb3
    cases o with
    | none =>
      simp only [Option.getD, Option.isSome, if_neg (show ¬ (false = true) by simp)]
      go_wp2
      go_ret3
      exact ⟨rfl, HB3.out⟩
    | some u =>
      simp only [Option.getD, Option.isSome, if_true]
      by_cases hu : u = []
      · subst hu
        go_wp2
        go_ret3
        exact ⟨rfl, HB3.out⟩
      · have q2 : (u != []) = true := by rw [bne_iff_ne]; exact hu
        have q3 : u.isEmpty = false := by cases u <;> simp_all
        have q1 : (u == []) = false := beq_eq_false_iff_ne.2 hu
        have q4 : Hid ((!decide (u = [])) = true) := Lib.hid (by rw [decide_eq_false hu]; rfl)
        clear hu
        go_wp2
        go_ret3
        refine ⟨?_, HB3.out⟩
        rw [q4.out]
        rfl
/-- Prove. -/
def ProveC (key : T) : Nat := if Tri.keyed key then 0 else 1
def proveS (S : St) (key : T) : List T := if Tri.keyed key then trailS S key else []
def ProvePost (S : St) (key : T) (w : World) (e : Ending) (w' : World) : Prop :=
  ∃ z, e = .returned (.tuple #[z, .int .i64 (ProveC key)]) ∧ Own w' w.heap.size z (proveS S key) ∧ Below w.heap.size w w'
theorem prove_any {g : Nat} {S : St} (key : T) (w : World) (h : TrAt w g S) :
    Calls Tryz.prog 26 #[ptr g, .string ⟨key.toArray⟩] w (ProvePost S key w) := by
  unfold ProvePost ProveC proveS
  have HK := Lib.hid (fun w => piskey_any key w)
  cases hk : Tri.keyed key with
  | false =>
    rw [hk] at HK
    simp only [if_neg (show ¬ (false = true) by simp)]
    unfold ptr
    clear h hk
    go_enter Tryz.func26, Tryz.ntmps26
    go_wp2_with fail
    refine (HK.out _).mono ?_
    rintro e w1 ⟨rfl, rfl⟩
    go_wp2
    go_ret2
    exact ⟨_, rfl, Own.nil _ _, Below.refl _ _⟩
  | true =>
    rw [hk] at HK
    simp only [if_true]
    have hk8 : key.length ≤ 8 := by simp [Tri.keyed] at hk; omega
    have HTR := Lib.hid (strail_any key w h (by omega))
    unfold TextsPost ptr at HTR
    unfold ptr
    clear h hk hk8
    go_enter Tryz.func26, Tryz.ntmps26
    go_wp2_with fail
    refine (HK.out _).mono ?_
    rintro e w1 ⟨rfl, rfl⟩
    go_wp2_with fail
    refine HTR.out.mono ?_
    rintro e w2 ⟨z, rfl, ho, hb⟩
    have HO := Lib.hid ho
    have HB := Lib.hid hb
    clear ho hb
    go_wp2
    go_ret2
    exact ⟨_, rfl, HO.out, HB.out⟩
end Go.Proofs.YtjfefphgikncnaaGreatDoor
namespace Go.Proofs.YtjfefphgikncnaaGreatDoor
open Go.RowKit
open Sto (T St)

theorem prove_wK {g : Nat} (k : T) (w : World) (h : TrAt w g Tri.wK) (hk : Tri.keyed k = true) :
    Calls Tryz.prog 26 #[.pointer (some ⟨g, 0, none⟩), .string ⟨k.toArray⟩] w fun e w' => ∃ z, e = .returned (.tuple #[z, .int .i64 0]) ∧ Own w' w.heap.size z Prf.wP ∧ Below w.heap.size w w' := by
  have h1 := prove_any k w h
  unfold ProvePost ProveC proveS at h1
  rw [if_pos hk, if_pos hk, Prf.wK_trail] at h1
  exact h1
theorem verify_wK (r k : T) (v : Value) (w : World) (x : T) (b : Bool) (c : Nat) (hv : StrsC w v Prf.wP) (hT : Tab w) (h : Prf.verify r k Prf.wP = (x, b, c)) :
    Calls Tryz.prog 32 #[.string ⟨r.toArray⟩, .string ⟨k.toArray⟩, v] w fun e w' => e = .returned (.tuple #[.string ⟨x.toArray⟩, .bool b, .int .i64 c]) ∧ Below w.heap.size w w' := by
  have h1 := verify_any r k v Prf.wP w hv hT (by decide)
  rw [h] at h1
  exact h1
set_option maxRecDepth 100000 in
set_option maxHeartbeats 2000000 in
theorem pworks_any (w : World) (hT : Tab w) : Calls Tryz.prog 24 #[] w fun e w' => e = .returned (.bool true) ∧ Below w.heap.size w w' := by
  have HTT := Lib.hid hT
  have hbA : Below w.heap.size w (w.alloc (.cells #[.string ⟨#[107]⟩, .string ⟨#[118]⟩] 39)) := (Below.refl _ w).alloc (Nat.le_refl _) _
  have HO2 : Hid (Calls Tryz.prog 54 #[.slice (some ⟨w.heap.size, 0, none⟩) 1 1] (w.alloc (.cells #[.string ⟨#[107]⟩, .string ⟨#[118]⟩] 39)) (TOfPost Tri.wK (w.alloc (.cells #[.string ⟨#[107]⟩, .string ⟨#[118]⟩] 39)))) := Lib.hid
    (tof_any Tri.wK _ _ (OwnI.at_ (B := w.heap.size) ⟨rfl, Or.inr ⟨w.heap.size, 1, _, rfl, Nat.le_refl _, heap_alloc_new w _, by simp [Tri.wK], by simp [maxLen], rfl, rfl⟩⟩) (by decide) (hT.below hbA))
  unfold TOfPost at HO2
  rw [Tri.wK_of] at HO2
  have HBA := Lib.hid hbA
  clear hbA hT
  go_enter Tryz.func24, Tryz.ntmps24
  go_wp2_with fail
  refine HO2.out.mono ?_
  rintro e w1 ⟨z1, rfl, h1, -, hb1⟩
  obtain ⟨g1, rfl, t1⟩ := h1 trivial
  have HB1 : Hid (Below w.heap.size w w1) := Lib.hid (bchain HBA.out hb1)
  have HT1 := Lib.hid t1
  clear h1 t1 hb1
  unfold ptr
  go_wp2_with fail
  refine (prove_wK [107] w1 HT1.out (by decide)).mono ?_
  rintro e w2 ⟨za, rfl, hoa, hb2⟩
  have HB2 := Lib.hid (bchain HB1.out hb2)
  have HT2 := Lib.hid (HT1.out.below hb2)
  have HA2 := Lib.hid hoa
  clear hoa hb2
  go_wp2_with fail
  refine (prove_wK [120] w2 HT2.out (by decide)).mono ?_
  rintro e w3 ⟨zb, rfl, hob, hb3⟩
  have HB3 := Lib.hid (bchain HB2.out hb3)
  have HT3 := Lib.hid (HT2.out.below hb3)
  have HA3 := Lib.hid (HA2.out.below hb3)
  have HO3 := Lib.hid hob
  clear hob hb3
  obtain ⟨R, hR⟩ : ∃ R, rootS Tri.wK = R := ⟨_, rfl⟩
  have HK : Hid (Prf.verify R [107] Prf.wP = ([118], true, 0)) := Lib.hid (by rw [← hR]; exact Prf.wK_k)
  have HX : Hid (Prf.verify R [120] Prf.wP = ([], false, 0)) := Lib.hid (by rw [← hR]; exact Prf.wK_x)
  have HRT : Hid (∀ w', TrAt w' g1 Tri.wK → Calls Tryz.prog 20 #[.pointer (some ⟨g1, 0, none⟩)] w' fun e w'' => e = .returned (.string ⟨R.toArray⟩) ∧ Below w'.heap.size w' w'') := Lib.hid (fun w' h => by
    have := sroot_any w' h
    rw [hR] at this
    exact this)
  clear hR
  go_wp2_with fail
  refine (HRT.out w3 HT3.out).mono ?_
  rintro e w4 ⟨rfl, hb4⟩
  have HB4 := Lib.hid (bchain HB3.out hb4)
  have HT4 := Lib.hid (HT3.out.below hb4)
  have HA4 := Lib.hid (HA3.out.below hb4)
  have HO4 := Lib.hid (HO3.out.below hb4)
  clear hb4
  go_wp2_with fail
  refine (verify_wK R [107] za w4 [118] true 0 (StrsC.of_own HA4.out) (HTT.out.below HB4.out) HK.out).mono ?_
  rintro e w5 ⟨rfl, hb5⟩
  have HB5 := Lib.hid (bchain HB4.out hb5)
  have HT5 := Lib.hid (HT4.out.below hb5)
  have HA5 := Lib.hid (HA4.out.below hb5)
  have HO5 := Lib.hid (HO4.out.below hb5)
  clear hb5
  go_wp2_with fail
  refine (HRT.out w5 HT5.out).mono ?_
  rintro e w6 ⟨rfl, hb6⟩
  have HB6 := Lib.hid (bchain HB5.out hb6)
  have HA6 := Lib.hid (HA5.out.below hb6)
  have HO6 := Lib.hid (HO5.out.below hb6)
  clear hb6
  go_wp2_with fail
  refine (verify_wK R [120] zb w6 [] false 0 (StrsC.of_own HO6.out) (HTT.out.below HB6.out) HX.out).mono ?_
  rintro e w7 ⟨rfl, hb7⟩
  have HB7 := Lib.hid (bchain HB6.out hb7)
  have HA7 := Lib.hid (HA6.out.below hb7)
  have HO7 := Lib.hid (HO6.out.below hb7)
  clear hb7
  go_wp2_with fail
  refine (verify_wK [] [107] za w7 [] false 130 (StrsC.of_own HA7.out) (HTT.out.below HB7.out) Prf.wK_none).mono ?_
  rintro e w8 ⟨rfl, hb8⟩
  have HB8 := Lib.hid (bchain HB7.out hb8)
  have HA8 := Lib.hid (HA7.out.below hb8)
  have HO8 := Lib.hid (HO7.out.below hb8)
  clear hb8
  have HSM := Lib.hid (same_any Prf.wP Prf.wP za zb w8 HA8.out.strs HO8.out.strs (by decide) (by unfold maxLen; decide))
  rw [decide_eq_true rfl] at HSM
  obtain ⟨A, cap, rfl⟩ := own_form HA8.out
  have hl1 : (Prf.wP.length : Int) = 1 := rfl
  obtain ⟨n1, hn1⟩ : ∃ n1, Prf.wP.length = n1 := ⟨_, rfl⟩
  obtain rfl : n1 = 1 := hn1.symm
  rw [hn1] at HSM ⊢
  clear hl1 hn1
  go_wp2_with fail
  refine HSM.out.mono ?_
  rintro e w9 ⟨rfl, hb9⟩
  have HB9 := Lib.hid (bchain HB8.out hb9)
  clear hb9
  go_wp2
  go_ret
  exact ⟨rfl, HB9.out⟩
end Go.Proofs.YtjfefphgikncnaaGreatDoor
namespace Go.Proofs.YtjfefphgikncnaaGreatDoor
open Go.RowKit

end Go.Proofs.YtjfefphgikncnaaGreatDoor
