/- PowRefRead, CodeRefList, TxRdr, Results, ShaTold, ShaRef, ShaRefBlock -/
import Derived.Test.YtlckcfpdiigjiaaGreatDoorPk02
import Derived.Test.YtlckcfpdiigjiaaGreatDoorPk07
import Derived.Test.YtlckcfpdiigjiaaGreatDoorPk04
import Derived.Test.YtlckcfpdiigjiaaGreatDoorPk01
import Derived.Laws.ResultCell
namespace Go.Proofs.YtlckcfpdiigjiaaGreatDoor
open Go.RowKit

def Pw.takeR (s : List UInt8) : Nat × List UInt8 × Int := if (Code.leadL s).2.2 ≠ 0 then (0, [], (Code.leadL s).2.2) else ((Code.leadL s).1, s.drop (Code.leadL s).2.1, 0)
theorem index_cons (c : UInt8) (d r2 : List UInt8) (j : Nat) (hj : j < d.length) : ∀ h, (⟨(c :: (d ++ r2)).toArray⟩ : ByteArray)[j + 1]'h = d[j] := by
  intro h
  have e : (c :: (d ++ r2))[j + 1]'(by simp; omega) = d[j] := by rw [List.getElem_cons_succ, List.getElem_append_left hj]
  exact e

set_option maxHeartbeats 400000 in
theorem rtake_nil (w : World) : Calls Tryz.prog 75 #[.string ⟨#[]⟩] w fun e w' => e = .returned (.tuple #[.int .i64 0, .string ⟨#[]⟩, .int .i64 20]) ∧ Below w.heap.size w w' := by
  go_enter Tryz.func75, Tryz.ntmps75
  go_wp2
  go_ret3
  exact ⟨rfl, Below.refl _ _⟩
set_option maxHeartbeats 400000 in
theorem rtake_big (c : UInt8) (r : List UInt8) (w : World) (hc : c.toNat > 8) : Calls Tryz.prog 75 #[.string ⟨(c :: r).toArray⟩] w fun e w' => e = .returned (.tuple #[.int .i64 0, .string ⟨#[]⟩, .int .i64 3]) ∧ Below w.heap.size w w' := by
  have hh : ∀ h, (⟨(c :: r).toArray⟩ : ByteArray)[0]'h = c := fun _ => rfl
  have hcb := c.toNat_lt
  have hc1 : (8 : Int) < (c.toNat : Int) := by omega
  go_enter Tryz.func75, Tryz.ntmps75
  go_wp2
  go_ret3
  exact ⟨rfl, Below.refl _ _⟩
set_option maxHeartbeats 400000 in
theorem rtake_short (c : UInt8) (r : List UInt8) (w : World) (hc : ¬ c.toNat > 8) (hr : r.length < c.toNat) : Calls Tryz.prog 75 #[.string ⟨(c :: r).toArray⟩] w fun e w' => e = .returned (.tuple #[.int .i64 0, .string ⟨#[]⟩, .int .i64 20]) ∧ Below w.heap.size w w' := by
  have hh : ∀ h, (⟨(c :: r).toArray⟩ : ByteArray)[0]'h = c := fun _ => rfl
  have hcb := c.toNat_lt
  have hc1 : ¬ ((8 : Int) < (c.toNat : Int)) := by omega
  have hlen : ((r.length : Int) + 1) < (c.toNat : Int) + 1 := by omega
  go_enter Tryz.func75, Tryz.ntmps75
  go_wp2
  go_ret3
  exact ⟨rfl, Below.refl _ _⟩
set_option maxHeartbeats 1000000 in
theorem rtake_zero (r : List UInt8) (w : World) : Calls Tryz.prog 75 #[.string ⟨((0 : UInt8) :: r).toArray⟩] w fun e w' => e = .returned (.tuple #[.int .i64 0, .string ⟨r.toArray⟩, .int .i64 0]) ∧ Below w.heap.size w w' := by
  have hh : ∀ h, (⟨((0 : UInt8) :: r).toArray⟩ : ByteArray)[0]'h = 0 := fun _ => rfl
  have he : (⟨((0 : UInt8) :: r).toArray⟩ : ByteArray).extract 1 (r.length + 1) = ⟨r.toArray⟩ := extract_mk_tail 0 r
  go_enter Tryz.func75, Tryz.ntmps75
  go_wp2
  go_loop [6, 7] (fun n i => n = .int .i64 0 ∧ i = .int .i64 1) (fun _ _ => 0)
  case atStart => exact ⟨rfl, rfl⟩
  case round =>
    obtain ⟨rfl, rfl⟩ := hrel
    go_wp2
    go_quiet (fail)
    go_wp2
    go_ret3
    exact ⟨rfl, (Below.refl _ w).trans ⟨rfl, rfl, rfl, Nat.le_refl _, fun _ _ => rfl⟩⟩
set_option maxHeartbeats 1000000 in
theorem rtake_bad (c x : UInt8) (d q r2 : List UInt8) (w : World) (hd : d = x :: q) (hc : c.toNat = d.length) (h8 : d.length ≤ 8) (hl : r2.length ≤ 100000000) (hb : x.toNat = 0 ∨ d.length = 8 ∧ 128 ≤ x.toNat) :
    Calls Tryz.prog 75 #[.string ⟨(c :: (d ++ r2)).toArray⟩] w fun e w' => e = .returned (.tuple #[.int .i64 0, .string ⟨#[]⟩, .int .i64 3]) ∧ Below w.heap.size w w' := by
  have hh : ∀ h, (⟨(c :: (d ++ r2)).toArray⟩ : ByteArray)[0]'h = c := fun _ => rfl
  have hx : ∀ h, (⟨(c :: (d ++ r2)).toArray⟩ : ByteArray)[1]'h = x := by subst hd; exact fun _ => rfl
  have hxb := x.toNat_lt
  have hpos : 0 < d.length := by subst hd; simp
  clear hd
  obtain ⟨s, hs⟩ : ∃ s, c :: (d ++ r2) = s := ⟨_, rfl⟩
  have hsl : s.length = d.length + 1 + r2.length := by rw [← hs]; simp; omega
  have hse : s.isEmpty = false := by rw [← hs]; rfl
  have hsn : ¬ (s.length = 0) := by omega
  rw [hs] at hh hx ⊢
  clear hs
  rcases hb with h0 | ⟨h80, h128⟩
  · go_enter Tryz.func75, Tryz.ntmps75
    go_wp2
    go_ret3
    exact ⟨rfl, Below.refl _ _⟩
  · rw [h80] at hc hsl
    have hd1 : (127 : Int) < (x.toNat : Int) := by omega
    have hd0 : ((x.toNat : Int) == 0) = false := by rw [beq_eq_false_iff_ne]; omega
    clear h8 hpos
    go_enter Tryz.func75, Tryz.ntmps75
    go_wp2
    go_ret3
    exact ⟨rfl, Below.refl _ _⟩
set_option maxRecDepth 100000 in
set_option maxHeartbeats 2000000 in
theorem rtake_good (c x : UInt8) (d q r2 : List UInt8) (w : World) (hd : d = x :: q) (hc : c.toNat = d.length) (h8 : d.length ≤ 8) (hl : r2.length ≤ 100000000) (h0 : x.toNat ≠ 0) (hb : d.length = 8 → x.toNat < 128) :
    Calls Tryz.prog 75 #[.string ⟨(c :: (d ++ r2)).toArray⟩] w fun e w' => e = .returned (.tuple #[.int .i64 (Code.val d : Nat), .string ⟨r2.toArray⟩, .int .i64 0]) ∧ Below w.heap.size w w' := by
  have hh : ∀ h, (⟨(c :: (d ++ r2)).toArray⟩ : ByteArray)[0]'h = c := fun _ => rfl
  have hx : ∀ h, (⟨(c :: (d ++ r2)).toArray⟩ : ByteArray)[1]'h = x := by subst hd; exact fun _ => rfl
  have HIX := Lib.hid (index_cons c d r2)
  have hxb := x.toNat_lt
  have HVL := Lib.hid (val_take_lt d h8 (by subst hd; exact hb))
  have hpos : 0 < d.length := by subst hd; simp
  have he := ext_drop (c :: (d ++ r2)) (d.length + 1)
  rw [show (c :: (d ++ r2)).drop (d.length + 1) = r2 by simp] at he
  clear hd
  obtain ⟨s, hs⟩ : ∃ s, c :: (d ++ r2) = s := ⟨_, rfl⟩
  have hsl : s.length = d.length + 1 + r2.length := by rw [← hs]; simp; omega
  have hse : s.isEmpty = false := by rw [← hs]; rfl
  rw [hs] at hh hx he HIX ⊢
  have hd0 : ((x.toNat : Int) == 0) = false := by rw [beq_eq_false_iff_ne]; omega
  obtain ⟨K, hK⟩ : ∃ K, d.length = K := ⟨_, rfl⟩
  have HK := Lib.hid hK
  rw [hK] at hc h8 hpos he hsl hb
  clear hs hK
  have hcp : (0 : Int) < (K : Int) := by omega
  rcases Nat.lt_or_ge K 8 with h7 | h7
  · have hne : ¬ ((K : Int) = 8) := by omega
    have he2 : (⟨s.toArray⟩ : ByteArray).extract (K + 1) (K + 1 + r2.length) = ⟨r2.toArray⟩ := by rw [← hsl]; exact he
    clear hb
    go_enter Tryz.func75, Tryz.ntmps75
    go_wp2
    go_loop [6, 7] (fun n i => ∃ k : Nat, k ≤ K ∧ n = .int .i64 (Code.val (d.take k) : Nat) ∧ i = .int .i64 ((k : Nat) + 1 : Int)) (fun _ i => K + 1 - (intOf i).toNat)
    case atStart => exact ⟨0, Nat.zero_le _, rfl, rfl⟩
    case round =>
      obtain ⟨k, hk, rfl, rfl⟩ := hrel
      by_cases hlt : k < K
      · have h1 : (k : Int) + 1 ≤ ((K : Nat) : Int) := by omega
        have h2 : (0 : Int) ≤ (k : Int) + 1 := by omega
        have h3 : (k : Int) + 1 < (s.length : Int) := by omega
        have hkd : k < d.length := by rw [HK.out]; exact hlt
        have HST := Lib.hid (val_step d k hkd)
        have hvk := HVL.out (k + 1)
        rw [HST.out] at hvk
        have hix := HIX.out k hkd
        obtain ⟨y, hy⟩ : ∃ y, d[k] = y := ⟨_, rfl⟩
        rw [hy] at HST hvk hix
        have hyb := y.toNat_lt
        obtain ⟨V, hV⟩ : ∃ V, Code.val (d.take k) = V := ⟨_, rfl⟩
        rw [hV] at HST hvk ⊢
        clear hy hV
        have hv1 : (V : Int) * 256 + (y.toNat : Int) ≤ 9223372036854775807 := by omega
        have hv2 : (V : Int) ≤ 36028797018963967 := by omega
        have hyb2 : (y.toNat : Int) < 256 := by omega
        clear hvk hyb
        go_wp2
        go_round
        case rel => exact ⟨k + 1, by omega, by rw [HST.out]; go_num, by go_num⟩
        case measure => simp [intOf]; omega
      · obtain rfl : k = K := by omega
        have h1 : ¬ (((k : Nat) : Int) + 1 ≤ ((k : Nat) : Int)) := by omega
        have HD : Hid (d.take k = d) := Lib.hid (by rw [← HK.out, List.take_length])
        rw [HD.out]
        go_wp2
        go_quiet (fail)
        go_wp2
        go_ret3
        exact ⟨rfl, (Below.refl _ w).trans ⟨rfl, rfl, rfl, Nat.le_refl _, fun _ _ => rfl⟩⟩
  · obtain rfl : K = 8 := by omega
    have he2 : (⟨s.toArray⟩ : ByteArray).extract 9 (9 + r2.length) = ⟨r2.toArray⟩ := by rw [show 9 + r2.length = s.length by omega]; exact he
    have hx1 : ¬ ((127 : Int) < (x.toNat : Int)) := by have := hb rfl; omega
    clear hb
    go_enter Tryz.func75, Tryz.ntmps75
    go_wp2
    go_loop [6, 7] (fun n i => ∃ k : Nat, k ≤ 8 ∧ n = .int .i64 (Code.val (d.take k) : Nat) ∧ i = .int .i64 ((k : Nat) + 1 : Int)) (fun _ i => 8 + 1 - (intOf i).toNat)
    case atStart => exact ⟨0, Nat.zero_le _, rfl, rfl⟩
    case round =>
      obtain ⟨k, hk, rfl, rfl⟩ := hrel
      by_cases hlt : k < 8
      · have h1 : (k : Int) + 1 ≤ ((8 : Nat) : Int) := by omega
        have h2 : (0 : Int) ≤ (k : Int) + 1 := by omega
        have h3 : (k : Int) + 1 < (s.length : Int) := by omega
        have hkd : k < d.length := by rw [HK.out]; exact hlt
        have HST := Lib.hid (val_step d k hkd)
        have hvk := HVL.out (k + 1)
        rw [HST.out] at hvk
        have hix := HIX.out k hkd
        obtain ⟨y, hy⟩ : ∃ y, d[k] = y := ⟨_, rfl⟩
        rw [hy] at HST hvk hix
        have hyb := y.toNat_lt
        obtain ⟨V, hV⟩ : ∃ V, Code.val (d.take k) = V := ⟨_, rfl⟩
        rw [hV] at HST hvk ⊢
        clear hy hV
        have hv1 : (V : Int) * 256 + (y.toNat : Int) ≤ 9223372036854775807 := by omega
        have hv2 : (V : Int) ≤ 36028797018963967 := by omega
        have hyb2 : (y.toNat : Int) < 256 := by omega
        clear hvk hyb
        go_wp2
        go_round
        case rel => exact ⟨k + 1, by omega, by rw [HST.out]; go_num, by go_num⟩
        case measure => simp [intOf]; omega
      · obtain rfl : k = 8 := by omega
        have HD : Hid (d.take 8 = d) := Lib.hid (by rw [← HK.out, List.take_length])
        rw [HD.out]
        go_wp2
        go_quiet (fail)
        go_wp2
        go_ret3
        exact ⟨rfl, (Below.refl _ w).trans ⟨rfl, rfl, rfl, Nat.le_refl _, fun _ _ => rfl⟩⟩
end Go.Proofs.YtlckcfpdiigjiaaGreatDoor
namespace Go.Proofs.YtlckcfpdiigjiaaGreatDoor
open Go.RowKit

theorem rtake_any (s : List UInt8) (w : World) (hl : s.length ≤ 100000000) :
    Calls Tryz.prog 75 #[.string ⟨s.toArray⟩] w fun e w' => e = .returned (.tuple #[.int .i64 ((Pw.takeR s).1 : Nat), .string ⟨(Pw.takeR s).2.1.toArray⟩, .int .i64 (Pw.takeR s).2.2]) ∧ Below w.heap.size w w' := by
  unfold Pw.takeR
  match s, hl with
  | [], _ => exact rtake_nil w
  | c :: r, hl =>
    simp only [List.length_cons] at hl
    by_cases h1 : c.toNat > 8
    · rw [Code.leadL, if_pos h1]
      exact rtake_big c r w h1
    · by_cases h2 : r.length < c.toNat
      · rw [Code.leadL, if_neg h1, if_pos h2]
        exact rtake_short c r w h1 h2
      · have hr : r = r.take c.toNat ++ r.drop c.toNat := (List.take_append_drop _ _).symm
        have hdl : (r.take c.toNat).length = c.toNat := by rw [List.length_take]; omega
        have hd2 : (r.drop c.toNat).length ≤ 100000000 := by rw [List.length_drop]; omega
        have hdr : (c :: r).drop (1 + c.toNat) = r.drop c.toNat := by rw [Nat.add_comm]; rfl
        rw [Code.leadL, if_neg h1, if_neg h2]
        by_cases h0 : c.toNat = 0
        · have hb : Code.bad c.toNat (r.take c.toNat) = false := by simp [Code.bad, h0]
          have hc0 : c = 0 := by
            have := UInt8.ofNat_toNat (x := c)
            rw [h0] at this
            exact this.symm
          subst hc0
          rw [hb]
          exact rtake_zero r w
        · match hd : r.take c.toNat with
          | [] => rw [hd] at hdl; simp at hdl; omega
          | x :: q =>
            rw [hd] at hr hdl
            rcases hb : Code.bad c.toNat (x :: q) with _ | _
            · simp only [Code.bad, List.headD_cons, Bool.or_eq_false_iff, Bool.and_eq_false_iff, decide_eq_false_iff_not, beq_eq_false_iff_ne] at hb
              have h := rtake_good c x (x :: q) q (r.drop c.toNat) w rfl hdl.symm (by omega) hd2 (by rcases hb.1 with a | a; omega; exact a) (fun h8 => by rcases hb.2 with a | a; omega; exact Nat.not_le.1 (of_decide_eq_false a))
              rw [← hr] at h
              rw [if_neg (by simp), if_neg (by simp)]
              dsimp only
              rw [hdr]
              exact h
            · simp only [Code.bad, List.headD_cons, Bool.or_eq_true, Bool.and_eq_true, decide_eq_true_eq, beq_iff_eq] at hb
              have h := rtake_bad c x (x :: q) q (r.drop c.toNat) w rfl hdl.symm (by omega) hd2 (by rcases hb with a | a; exact .inl a.2; exact .inr ⟨by omega, of_decide_eq_true a.2⟩)
              rw [← hr] at h
              exact h

/-- The document's reader in memory. -/
def RRd (w : World) (g : Nat) (s : List UInt8) (c : Int) : Prop := w.heap[g]? = some (.cells #[.string ⟨s.toArray⟩, .int .i64 c] 104 (0, 0))
theorem RRd.lt {w : World} {g : Nat} {s : List UInt8} {c : Int} (h : RRd w g s c) : g < w.heap.size := lt_of_block h
theorem RRd.left {w : World} {g : Nat} {s : List UInt8} {c : Int} (h : RRd w g s c) : w.cell? ⟨g, 0, none⟩ = some (.string ⟨s.toArray⟩) := cell_of_row _ _ _ _ _ _ h
theorem RRd.code {w : World} {g : Nat} {s : List UInt8} {c : Int} (h : RRd w g s c) : w.cell? ⟨g, 1, none⟩ = some (.int .i64 c) := cell_of_row _ _ _ _ _ _ h
theorem RRd.free0 {w : World} {g : Nat} {s : List UInt8} {c : Int} (h : RRd w g s c) : w.frozen? ⟨g, 0, none⟩ = false := frozen_of_row _ _ _ _ _ h
theorem RRd.free1 {w : World} {g : Nat} {s : List UInt8} {c : Int} (h : RRd w g s c) : w.frozen? ⟨g, 1, none⟩ = false := frozen_of_row _ _ _ _ _ h
theorem RRd.setLeft {w : World} {g : Nat} {s : List UInt8} {c : Int} (h : RRd w g s c) (t : List UInt8) : RRd (w.setCell ⟨g, 0, none⟩ (.string ⟨t.toArray⟩)) g t c := by
  have := heap_setCell_same _ _ 0 _ _ (.string ⟨t.toArray⟩) h
  simpa [RRd] using this
theorem RRd.setCode {w : World} {g : Nat} {s : List UInt8} {c : Int} (h : RRd w g s c) (d : Int) : RRd (w.setCell ⟨g, 1, none⟩ (.int .i64 d)) g s d := by
  have := heap_setCell_same _ _ 1 _ _ (.int .i64 d) h
  simpa [RRd] using this
theorem RRd.below {w w' : World} {g : Nat} {s : List UInt8} {c : Int} (h : RRd w g s c) (hb : Below w.heap.size w w') : RRd w' g s c := (hb.block g h.lt).trans h

set_option maxRecDepth 8000 in
set_option maxHeartbeats 1000000 in
theorem rrnum_st (st : Pw.St) (g : Nat) (w : World) (h : RRd w g st.1 st.2) (hl : st.1.length ≤ 100000000) :
    Calls Tryz.prog 49 #[.pointer (some ⟨g, 0, none⟩)] w fun e w' => e = .returned (.int .i64 ((Pw.rdN st).1 : Nat)) ∧ RRd w' g (Pw.rdN st).2.1 (Pw.rdN st).2.2 ∧ Only g w w' := by
  obtain ⟨s, c⟩ := st
  dsimp only at h hl
  have h0 := h.left
  have h1 := h.code
  unfold Pw.rdN
  dsimp only
  by_cases hc : c = 0
  · subst hc
    rw [if_neg (by simp)]
    have HT := Lib.hid (rtake_any s w hl)
    have HLR := Lib.hid (Code.lead_range s)
    have HP : Hid (Code.countL 9223372036854775807 s = if (Pw.takeR s).2.2 ≠ 0 then (0, s, (Pw.takeR s).2.2) else ((Pw.takeR s).1, (Pw.takeR s).2.1, 0)) := Lib.hid (by
      have h63 := (Code.lead_range s).1
      unfold Code.countL Pw.takeR
      by_cases he : (Code.leadL s).2.2 = 0
      · have e1 : ¬ ((Code.leadL s).2.2 ≠ 0) := by simpa using he
        have e2 : ¬ (((Code.leadL s).1 : Int) > 9223372036854775807) := by omega
        simp only [if_neg e1, if_neg e2]
        rw [if_neg (by simp)]
      · simp only [if_pos he])
    obtain ⟨⟨n, r, e⟩, hp⟩ : ∃ p, Pw.takeR s = p := ⟨_, rfl⟩
    rw [hp] at HT HP
    dsimp only at HT HP
    rw [HP.out]
    have HR := Lib.hid h
    clear hp hl
    by_cases he : e = 0
    · subst he
      rw [if_neg (by simp)]
      dsimp only
      go_enter Tryz.func49, Tryz.ntmps49
      go_wp2_with fail
      refine HT.out.mono ?_
      rintro e w1 ⟨rfl, hb⟩
      have h2 := HR.out.below hb
      have h3 := h2.setCode 0
      have HO : Hid (Only g w w1) := Lib.hid (Only.of hb)
      have g1 := h2.code
      have g0 := h3.left
      have f1 := h2.free1
      have f0 := h3.free0
      have HR3 := Lib.hid h3
      clear h2 h3 hb h0 h1 h
      go_wp2
      go_ret
      exact ⟨rfl, HR3.out.setLeft r, (HO.out.setCell rfl _).setCell rfl _⟩
    · rw [if_pos he]
      dsimp only
      have he' : (e != 0) = true := by rw [bne_iff_ne]; exact he
      go_enter Tryz.func49, Tryz.ntmps49
      go_wp2_with fail
      refine HT.out.mono ?_
      rintro e w1 ⟨rfl, hb⟩
      have h2 := HR.out.below hb
      have HO : Hid (Only g w w1) := Lib.hid (Only.of hb)
      have g1 := h2.code
      have f1 := h2.free1
      have HR2 := Lib.hid h2
      clear h2 hb h0 h1 h
      go_wp2
      go_ret
      exact ⟨rfl, HR2.out.setCode _, HO.out.setCell rfl _⟩
  · rw [if_pos hc]
    have hc' : (c != 0) = true := by rw [bne_iff_ne]; exact hc
    go_enter Tryz.func49, Tryz.ntmps49
    go_wp2
    go_ret
    exact ⟨rfl, h, Only.refl _ _⟩

end Go.Proofs.YtlckcfpdiigjiaaGreatDoor
namespace Go.Proofs.YtlckcfpdiigjiaaGreatDoor
open Go.RowKit

/-- What is left to be read behind k texts, against the whole. -/
def Code.Left (Q : List (List UInt8) × List UInt8 × Int) (n k : Nat) (each : Int) (r : List UInt8) (O : List (List UInt8)) (c : Int) : Prop :=
  (c = 0 ∧ Q.2.2 = (Code.readN (n - k) each r).2.2 ∧ (Q.2.2 = 0 → Q.1 = O ++ (Code.readN (n - k) each r).1 ∧ Q.2.1 = (Code.readN (n - k) each r).2.1)) ∨ (c ≠ 0 ∧ Q.2.2 = c)
theorem Code.Left.bad {Q : List (List UInt8) × List UInt8 × Int} {n k : Nat} {each : Int} {r : List UInt8} {O : List (List UInt8)} (h : Code.Left Q n k each r O 0) (hk : k < n) (he : (Code.textR each r).2.2 ≠ 0) (r' : List UInt8) (O' : List (List UInt8)) : Code.Left Q n (k + 1) each r' O' (Code.textR each r).2.2 := by
  rcases h with ⟨_, h1, h2⟩ | ⟨h, _⟩
  · refine Or.inr ⟨he, ?_⟩
    obtain ⟨m, hm⟩ : ∃ m, n - k = m + 1 := ⟨n - k - 1, by omega⟩
    rw [h1, hm, Code.readN, if_pos he]
  · exact absurd rfl h
theorem Code.Left.good {Q : List (List UInt8) × List UInt8 × Int} {n k : Nat} {each : Int} {r : List UInt8} {O : List (List UInt8)} (h : Code.Left Q n k each r O 0) (hk : k < n) (he : (Code.textR each r).2.2 = 0) : Code.Left Q n (k + 1) each (Code.textR each r).2.1 (O ++ [(Code.textR each r).1]) 0 := by
  rcases h with ⟨_, h1, h2⟩ | ⟨h, _⟩
  · refine Or.inl ⟨rfl, ?_⟩
    obtain ⟨m, hm⟩ : ∃ m, n - k = m + 1 := ⟨n - k - 1, by omega⟩
    have hm' : n - (k + 1) = m := by omega
    rw [hm, Code.readN, if_neg (by simpa using he)] at h1 h2
    rw [hm']
    refine ⟨h1, fun q => ?_⟩
    obtain ⟨h3, h4⟩ := h2 q
    exact ⟨by rw [h3]; simp, h4⟩
  · exact absurd rfl h

theorem Own.only {w w' : World} {B g : Nat} {v : Value} {L : List (List UInt8)} (h : Own w B v L) (ho : Only g w w') (hg : g < B) : Own w' B v L := by
  refine ⟨h.1, ?_⟩
  rcases h.2 with hn | ⟨k, cap, cur, hv, hb, hk, hr⟩
  · exact Or.inl hn
  · exact Or.inr ⟨k, cap, cur, hv, hb, (ho.block k (lt_of_heap hk) (by omega)).trans hk, hr⟩

set_option maxRecDepth 8000 in
set_option maxHeartbeats 400000 in
theorem rrend_st (st : Pw.St) (g : Nat) (w : World) (h : RRd w g st.1 st.2) :
    Calls Tryz.prog 50 #[.pointer (some ⟨g, 0, none⟩)] w fun e w' => e = .returned (.int .i64 (Pw.endC st)) ∧ Only g w w' := by
  obtain ⟨s, c⟩ := st
  dsimp only at h
  have h0 := h.left
  have h1 := h.code
  have hf1 := h.free1
  unfold Pw.endC
  dsimp only
  by_cases hc : c = 0
  · subst hc
    cases s with
    | nil =>
      rw [if_neg (by simp)]
      go_enter Tryz.func50, Tryz.ntmps50
      go_wp2
      go_ret
      exact ⟨rfl, Only.refl _ _⟩
    | cons a s =>
      rw [if_pos (by simp)]
      have hrd := (h.setCode 3).code
      go_enter Tryz.func50, Tryz.ntmps50
      go_wp2
      go_ret
      exact ⟨rfl, (Only.refl g _).setCell rfl _⟩
  · rw [if_neg (fun h => hc h.1)]
    have hc1 : (c == 0) = false := by rw [beq_eq_false_iff_ne]; exact hc
    go_enter Tryz.func50, Tryz.ntmps50
    go_wp2
    go_ret
    exact ⟨rfl, Only.refl _ _⟩
end Go.Proofs.YtlckcfpdiigjiaaGreatDoor
namespace Go.Proofs.YtlckcfpdiigjiaaGreatDoor
open Go.RowKit

end Go.Proofs.YtlckcfpdiigjiaaGreatDoor
namespace Go.Proofs.YtlckcfpdiigjiaaGreatDoor
open Go.RowKit

theorem results_c1t {P : Program} {fn : Func} {p u : Tmp} {ty : TypeId} (h : fn.results = #[.cell p ty, .tmp u]) (tmps : Array Value) (w : World) (g : Nat) (t : TypeId) (cs : Array Value) (fr : Nat × Nat) (d : TypeDesc)
    (hp : tmps.getD p undef = .pointer (some ⟨g, 0, none⟩)) (hg : w.heap[g]? = some (.cells cs t fr))
    (hu : P.underlying ty = some d) (hd : (match d with | .struct _ | .array _ _ => true | _ => false) = true) (hi : (P.info? ty).map (·.size) = some cs.size) :
    (results fn tmps).run P w = .ok (.tuple #[.agg cs, tmps.getD u undef]) w := by
  have hp' : tmps[p]?.getD undef = .pointer (some ⟨g, 0, none⟩) := by simpa using hp
  simp [results, h, hp', asAddr, run_loadVar_row w g t ty cs fr d hg hu hd hi]
end Go.Proofs.YtlckcfpdiigjiaaGreatDoor
namespace Go.Proofs.YtlckcfpdiigjiaaGreatDoor
open Go.RowKit
attribute [local go_sem ↓] Go.wp_at_zero Go.wp_at_succ

namespace Sha
def tell4 (x : Int) : List UInt8 := [byteOf (x / 16777216), byteOf (x / 65536), byteOf (x / 256), byteOf x]
def tell (L : List Int) : Nat → List UInt8
  | 0 => []
  | k + 1 => tell L k ++ tell4 (L.getD k 0)
theorem tell_length (L : List Int) (k : Nat) : (tell L k).length = 4 * k := by
  induction k with
  | zero => rfl
  | succ k ih => simp [tell, ih, tell4]; omega
theorem set4 (A B : List UInt8) (x : Int) (n : Nat) (hA : A.length = n) : ((((A ++ 0 :: 0 :: 0 :: 0 :: B).set n (byteOf (x / 16777216))).set (n + 1) (byteOf (x / 65536))).set (n + 2) (byteOf (x / 256))).set (n + 3) (byteOf x) = (A ++ tell4 x) ++ B := by
  subst hA
  simp [tell4]
theorem joinFill_tell (L : List Int) (k : Nat) (hk : k ≤ 8) : joinFill L k = tell L k ++ List.replicate (32 - 4 * k) 0 := by
  induction k with
  | zero => rfl
  | succ k ih =>
    rw [joinFill, ih (by omega), show 32 - 4 * k = (32 - 4 * (k + 1)) + 1 + 1 + 1 + 1 by omega]
    simp only [List.replicate_succ]
    rw [set4 _ _ _ _ (tell_length L k)]
    rfl
theorem tell_is (s : St) : tell s.list 8 = joinP s := by
  rw [joinP, joinFill_tell _ 8 (by omega)]
  simp
end Sha
theorem conv_four2 (w : World) (x0 x1 x2 x3 : Int) : (convert 110 9 (.slice (some ⟨w.heap.size, 0, none⟩) 4 4)).run Tryz.prog (w.alloc (.cells #[.int .u8 (x0 % 256), .int .u8 (x1 % 256), .int .u8 (x2 % 256), .int .u8 (x3 % 256)] 5)).drew = .ok (.string ⟨[Sha.byteOf x0, Sha.byteOf x1, Sha.byteOf x2, Sha.byteOf x3].toArray⟩) (w.alloc (.cells #[.int .u8 (x0 % 256), .int .u8 (x1 % 256), .int .u8 (x2 % 256), .int .u8 (x3 % 256)] 5)).drew := by
  have hg : (w.alloc (.cells #[.int .u8 (x0 % 256), .int .u8 (x1 % 256), .int .u8 (x2 % 256), .int .u8 (x3 % 256)] 5)).drew.heap[w.heap.size]? = _ := heap_alloc_new w (.cells #[.int .u8 (x0 % 256), .int .u8 (x1 % 256), .int .u8 (x2 % 256), .int .u8 (x3 % 256)] 5)
  refine run_convert_bytes_back (P := Tryz.prog) _ 110 9 5 ⟨w.heap.size, 0, none⟩ 4 [Sha.byteOf x0, Sha.byteOf x1, Sha.byteOf x2, Sha.byteOf x3] Tryz.underlying110 Tryz.underlying5 Tryz.underlying9 ?_
  intro j hj
  rw [Addr.add_mid, Nat.zero_add, cell_of_row _ _ j _ _ _ hg]
  match j, hj with
  | 0, _ => simp [Sha.byteOf_toNat]
  | 1, _ => simp [Sha.byteOf_toNat]
  | 2, _ => simp [Sha.byteOf_toNat]
  | 3, _ => simp [Sha.byteOf_toNat]

set_option maxRecDepth 8000 in
set_option maxHeartbeats 1000000 in
theorem rtold_any (s : Sha.St) (w : World) :
    Calls Tryz.prog 104 #[.agg (u32s s.list)] w fun e w' => e = .returned (.string ⟨(Sha.joinP s).toArray⟩) ∧ Below w.heap.size w w' := by
  obtain ⟨L, hL⟩ : ∃ L, s.list = L := ⟨_, rfl⟩
  have hLl : L.length = 8 := by rw [← hL]; rfl
  have hj : Sha.tell L 8 = Sha.joinP s := by rw [← hL]; exact Sha.tell_is s
  rw [hL]
  have HJ := Lib.hid hj
  have HLL := Lib.hid hLl
  obtain ⟨A, hA⟩ : ∃ A, u32s L = A := ⟨_, rfl⟩
  have HA := Lib.hid hA
  rw [hA]
  clear hA hj hLl hL
  go_enter Tryz.func104, Tryz.ntmps104
  go_wp2
  go_loopw [3, 4] (fun t i wr => ∃ k : Nat, k ≤ 8 ∧ i = .int .i64 k ∧ t = .string ⟨(Sha.tell L k).toArray⟩ ∧ Below w.heap.size w wr ∧ wr.heap[w.heap.size]? = some (.cells A 140 (0, 0))) (fun _ i _ => 8 - (intOf i).toNat)
  case atStart => exact ⟨0, by omega, rfl, rfl, (Below.refl _ w).alloc (Nat.le_refl _) _, heap_new_at _ _ _ rfl⟩
  case round =>
    obtain ⟨k, hk, rfl, rfl, hb, hg⟩ := hrel
    have HB := Lib.hid hb
    have HG := Lib.hid hg
    by_cases hlt : k < 8
    · have c0 : wr.cell? ⟨w.heap.size, k, none⟩ = some (.int .u32 (L.getD k 0)) := by
        rw [cell_of_row wr _ k _ _ _ hg, ← HA.out]; exact u32s_at L k (by rw [HLL.out]; exact hlt)
      have hn : Sha.tell L (k + 1) = Sha.tell L k ++ Sha.tell4 (L.getD k 0) := rfl
      have hXl := Sha.tell_length L k
      obtain ⟨x, hx⟩ : ∃ x, L.getD k 0 = x := ⟨_, rfl⟩
      obtain ⟨X, hX⟩ : ∃ X, Sha.tell L k = X := ⟨_, rfl⟩
      obtain ⟨Y, hY⟩ : ∃ Y, Sha.tell L (k + 1) = Y := ⟨_, rfl⟩
      rw [hx] at c0 hn
      rw [hX] at hXl hn ⊢
      rw [hY] at hn
      have hcm := cat_mk X (Sha.tell4 x)
      rw [← hn] at hcm
      unfold Sha.tell4 at hcm
      have kc := fun w => conv_four2 w (x / 16777216) (x / 65536) (x / 256) x
      have hxl : X.length ≤ 32 := by omega
      have hx4 : ¬ (9223372036854775807 < X.length + 4) := by omega
      have HY := Lib.hid hY
      have hlw := lt_of_heap hg
      have hk8 : (k : Int) < 8 := by omega
      have hk0 : (0 : Int) ≤ (k : Int) := by omega
      clear hb hg hx hX hY hn hXl
      go_wp2
      go_region
      go_wp2
      go_roundw
      case rel => exact ⟨k + 1, by omega, by go_num, by rw [HY.out], (HB.out.alloc HB.out.size _).drew, heap_old_at _ HG.out⟩
      case measure => simp [intOf]; omega
    · obtain rfl : k = 8 := by omega
      have hno : ¬ ((8 : Nat) : Int) < 8 := by omega
      clear hlt hk hb hg
      go_wp2
      go_ret
      exact ⟨by rw [HJ.out]; rfl, HB.out⟩
end Go.Proofs.YtlckcfpdiigjiaaGreatDoor
namespace Go.Proofs.YtlckcfpdiigjiaaGreatDoor
open Go.RowKit

set_option maxHeartbeats 400000 in
theorem turned_any (x n : Int) (w : World) (h0 : 1 ≤ n) (h1 : n ≤ 31) :
    Calls Tryz.prog 115 #[.int .u32 x, .int .i64 n] w fun e w' => e = .returned (.int .u32 (Sha.rotI x n)) ∧ w' = w := by
  have hA : 0 ≤ 32 - n := by omega
  have hB : 32 - n ≤ 32 := by omega
  go_enter Tryz.func115, Tryz.ntmps115
  go_wp2
  go_ret
  refine ⟨?_, rfl⟩
  simp only [Sha.rotI]
  rw [Sha.bits_or_comm]
  rfl
set_option maxRecDepth 8000 in
set_option maxHeartbeats 1000000 in
theorem rfirst_any (w : World) :
    Calls Tryz.prog 102 #[] w fun e w' => e = .returned (.agg (u32s Sha.first.list)) ∧ Below w.heap.size w w' := by
  go_enter Tryz.func102, Tryz.ntmps102
  go_wp2
  refine bodyPost_ret (v := .agg (u32s Sha.first.list)) (results_cell_row rfl _ _ w.heap.size _ _ (0, 0) _ rfl (heap_new_at _ _ _ rfl) Tryz.underlying140 rfl (by kernel_rfl)) rfl ⟨rfl, (Below.refl _ w).alloc (Nat.le_refl _) _⟩
def constParts : List (Nat × Value) := Sha.kTab.zipIdx.map fun x => (x.2, .int .u32 x.1)
theorem built_consts : Tryz.prog.built 171 constParts = some (u32s Sha.kTab) := by kernel_rfl
theorem info64w : (Tryz.prog.info? 171).map (·.size) = some 64 := by kernel_rfl

set_option maxRecDepth 8000 in
set_option maxHeartbeats 1000000 in
theorem const_any (i : Nat) (w : World) (hi : i < 64) :
    Calls Tryz.prog 116 #[.int .i64 i] w fun e w' => e = .returned (.int .u32 (Sha.kTab.getD i 0)) ∧ Below w.heap.size w w' := by
  have h64 : (i : Int) < 64 := by omega
  have hat := u32s_at Sha.kTab i hi
  obtain ⟨K, hK⟩ : ∃ K, u32s Sha.kTab = K := ⟨_, rfl⟩
  rw [hK] at hat
  obtain ⟨x, hx⟩ : ∃ x, Sha.kTab.getD i 0 = x := ⟨_, rfl⟩
  rw [hx] at hat ⊢
  have hbu := built_consts
  rw [hK] at hbu
  have HBU := Lib.hid hbu
  have HI : Hid ((Tryz.prog.info? 171).map (·.size) = some K.size) := Lib.hid (by rw [← hK]; exact info64w)
  have HS : Hid (K.size = 64) := Lib.hid (by rw [← hK]; rfl)
  have H1 : Hid (K.all (·.oneCell') = true) := Lib.hid (by rw [← hK]; exact u32s_one _)
  clear hK hx hbu
  go_enter Tryz.func116, Tryz.ntmps116
  go_wp2_with (first | (refine wpList_build_to (by rfl) _ _ (by rfl) constParts (by first | kernel_rfl | rfl) K HBU.out ?_) | (refine wpList_store_new (by rfl) _ _ _ (by rfl) w.heap.size rfl K (by rfl) (by rfl) _ _ HI.out (by rw [HS.out]; rfl) H1.out ?_))
  go_ret
  exact ⟨rfl, (Below.refl _ w).alloc (Nat.le_refl _) _⟩
end Go.Proofs.YtlckcfpdiigjiaaGreatDoor
namespace Go.Proofs.YtlckcfpdiigjiaaGreatDoor
open Go.RowKit
attribute [local go_sem ↓] Go.wp_at_zero Go.wp_at_succ

theorem info8w : (Tryz.prog.info? 140).map (·.size) = some 8 := by kernel_rfl
/-- A fact that nothing unfolds. -/
structure Boxed (p : Prop) : Prop where
  out : p

set_option maxRecDepth 8000 in
set_option maxHeartbeats 4000000 in
theorem rblock_any (s : Sha.St) (b : List UInt8) (w : World) (hb : b.length = 64) :
    Calls Tryz.prog 103 #[.agg (u32s s.list), .agg (u8s b)] w fun e w' => e = .returned (.agg (u32s (Sha.blockR s b).list)) ∧ Below w.heap.size w w' := by
  obtain ⟨s0, hs0⟩ : ∃ s0, s = s0 := ⟨_, rfl⟩
  obtain ⟨a, b1, c, d, e, f, g, h⟩ := s
  obtain ⟨bs, hbs⟩ : ∃ bs, u8s b = bs := ⟨_, rfl⟩
  rw [hbs]
  have HS := Boxed.mk hs0
  have HBS := Boxed.mk hbs
  have HLB := Boxed.mk hb
  simp only [Sha.St.list, u32s, List.map_cons, List.map_nil]
  clear hbs hs0 hb
  go_enter Tryz.func103, Tryz.ntmps103
  go_wp2
  go_loopw [6] (fun i wr => ∃ k : Nat, k ≤ 64 ∧ i = .int .i64 k ∧ Below w.heap.size w wr ∧ wr.heap[w.heap.size]? = some (.cells (u32s [a, b1, c, d, e, f, g, h]) 140 (0, 0)) ∧ wr.heap[w.heap.size + 1]? = some (.cells bs 142 (0, 0)) ∧ wr.heap[w.heap.size + 1 + 1]? = some (.cells (u32s (List.replicate 8 0)) 140 (0, 0)) ∧ wr.heap[w.heap.size + 1 + 1 + 1]? = some (.cells (u32s (Sha.fillR b k)) 155 (0, 0))) (fun i _ => 64 - (intOf i).toNat)
  case atStart =>
    refine ⟨0, by omega, rfl, ?_, ?_, ?_, ?_, ?_⟩
    · exact ((((Below.refl _ w).alloc (Nat.le_refl _) _).alloc (by simp) _).alloc (by simp; omega) _).alloc (by simp; omega) _
    · exact heap_old_at _ (heap_old_at _ (heap_old_at _ (heap_new_at _ _ _ (by simp))))
    · exact heap_old_at _ (heap_old_at _ (heap_new_at _ _ _ (by simp)))
    · exact heap_old_at _ (heap_new_at _ _ _ (by simp))
    · exact heap_new_at _ _ _ (by simp)
  case round =>
    obtain ⟨k, hk, rfl, hbe, hg0, hg1, hg2, hg3⟩ := hrel
    obtain ⟨F, hF⟩ : ∃ F, Sha.fillR b k = F := ⟨_, rfl⟩
    have hFl : F.length = 16 := by rw [← hF, Sha.fillR_length]
    rw [hF] at hg3
    have HF := Boxed.mk hF
    have HBE := Boxed.mk hbe
    have HG0 := Boxed.mk hg0
    have HG1 := Boxed.mk hg1
    have HG2 := Boxed.mk hg2
    have HG3 := Boxed.mk hg3
    by_cases hlt : k < 64
    · obtain ⟨q, hq⟩ : ∃ q, k / 4 = q := ⟨_, rfl⟩
      have hq16 : q < 16 := by omega
      have cb : wr.cell? ⟨w.heap.size + 1, k, none⟩ = some (.int .u8 ((b.getD k 0).toNat : Int)) := by
        rw [cell_of_row wr _ k bs _ _ hg1, ← HBS.out]; exact u8s_at b k (by rw [HLB.out]; exact hlt)
      have cw : wr.cell? ⟨w.heap.size + 1 + 1 + 1, q, none⟩ = some (.int .u32 (F.getD q 0)) := (cell_of_row wr _ q _ _ _ hg3).trans (u32s_at F q (by omega))
      have fw := frozen_of_row wr _ q _ _ hg3
      have hn : Sha.fillR b (k + 1) = F.set q ((F.getD q 0 * 256 + ((b.getD k 0).toNat : Int)) % 4294967296) := by rw [← hF, ← hq]; rfl
      obtain ⟨x, hx⟩ : ∃ x, b.getD k 0 = x := ⟨_, rfl⟩
      obtain ⟨y, hy⟩ : ∃ y, F.getD q 0 = y := ⟨_, rfl⟩
      rw [hx] at cb hn
      rw [hy] at cw hn
      have HN := Boxed.mk hn
      have hxb := byte_lt x
      have hqt : (k : Int).tdiv 4 = (q : Int) := by rw [Int.tdiv_eq_ediv_of_nonneg (by omega)]; omega
      have hqd : (k : Int) / 4 = (q : Int) := by omega
      have hqI : (q : Int) < 16 := by omega
      have hq0 : (0 : Int) ≤ (q : Int) := by omega
      have hkI : (k : Int) < 64 := by omega
      have hk0 : (0 : Int) ≤ (k : Int) := by omega
      have wq := wrap_small (q : Int) (by omega) (by omega)
      clear hbe hg0 hg1 hg2 hg3 hF hFl hq hn hx hy
      go_wp2
      go_region
      go_wp2
      go_roundw
      case rel =>
        refine ⟨k + 1, by omega, by go_num, (HBE.out.setCell (by dsimp only; omega) _).drew, ?_, ?_, ?_, ?_⟩
        · exact (Below.heap_setCell _ _ _ _ (by dsimp only; omega)).trans HG0.out
        · exact (Below.heap_setCell _ _ _ _ (by dsimp only; omega)).trans HG1.out
        · exact (Below.heap_setCell _ _ _ _ (by dsimp only; omega)).trans HG2.out
        · rw [HN.out, ← u32s_set, show (y * 256 + (x.toNat : Int)) % 4294967296 = y * 256 % 4294967296 + (x.toNat : Int) by omega]
          exact heap_setCell_same _ _ _ _ _ _ HG3.out
      case measure => simp [intOf]; omega
    · obtain rfl : k = 64 := by omega
      have hno : ¬ ((64 : Nat) : Int) < 64 := by omega
      have hc : ∀ j, wr.cell? ⟨w.heap.size, j, none⟩ = (u32s [a, b1, c, d, e, f, g, h])[j]? := fun j => cell_of_row wr _ j _ _ _ hg0
      have k0 := hc 0
      have k1 := hc 1
      have k2 := hc 2
      have k3 := hc 3
      have k4 := hc 4
      have k5 := hc 5
      have k6 := hc 6
      have k7 := hc 7
      simp only [u32s, List.map_cons, List.map_nil, List.getElem?_toArray, List.getElem?_cons_zero, List.getElem?_cons_succ] at k0 k1 k2 k3 k4 k5 k6 k7
      clear hlt hk hbe hg0 hg1 hg2 hg3 hF hc
      obtain ⟨V, hV⟩ : ∃ V, F = V := ⟨_, rfl⟩
      subst hV
      obtain ⟨V, hV⟩ : ∃ V, V = F := ⟨_, rfl⟩
      subst hV
      go_wp2
      go_quiet (fail)
      go_wp2
      go_quiet (fail)
      go_wp2
      clear k0 k1 k2 k3 k4 k5 k6 k7
      go_loopw [7, 8, 9, 10, 11, 12, 13, 14, 15] (fun xa xb xc xd xe xf xg xh i wr => ∃ k : Nat, k ≤ 64 ∧ i = .int .i64 k ∧ xa = .int .u32 (Sha.roundsR s0 V k).a ∧ xb = .int .u32 (Sha.roundsR s0 V k).b ∧ xc = .int .u32 (Sha.roundsR s0 V k).c ∧ xd = .int .u32 (Sha.roundsR s0 V k).d ∧ xe = .int .u32 (Sha.roundsR s0 V k).e ∧ xf = .int .u32 (Sha.roundsR s0 V k).f ∧ xg = .int .u32 (Sha.roundsR s0 V k).g ∧ xh = .int .u32 (Sha.roundsR s0 V k).h ∧ Below w.heap.size w wr ∧ wr.heap[w.heap.size]? = some (.cells (u32s [a, b1, c, d, e, f, g, h]) 140 (0, 0)) ∧ wr.heap[w.heap.size + 1 + 1]? = some (.cells (u32s (List.replicate 8 0)) 140 (0, 0)) ∧ wr.heap[w.heap.size + 1 + 1 + 1]? = some (.cells (u32s (Sha.win V k)) 155 (0, 0))) (fun _ _ _ _ _ _ _ _ i _ => 64 - (intOf i).toNat)
      case atStart =>
        refine ⟨0, by omega, rfl, by rw [← HS.out]; rfl, by rw [← HS.out]; rfl, by rw [← HS.out]; rfl, by rw [← HS.out]; rfl, by rw [← HS.out]; rfl, by rw [← HS.out]; rfl, by rw [← HS.out]; rfl, by rw [← HS.out]; rfl, bel_drewN (bel_drewN HBE.out _) _, HG0.out, HG2.out, HG3.out⟩
      case round =>
        clear HBE HG0 HG1 HG2 HG3
        obtain ⟨k, hk, rfl, rfl, rfl, rfl, rfl, rfl, rfl, rfl, rfl, hbe, hg0, hg2, hg3⟩ := hrel
        by_cases hlt : k < 64
        · obtain ⟨U, hU⟩ : ∃ U, Sha.win V k = U := ⟨_, rfl⟩
          obtain ⟨U', hU'⟩ : ∃ U', Sha.win V (k + 1) = U' := ⟨_, rfl⟩
          have hUl : U.length = 16 := by rw [← hU, Sha.win_length, hFl]
          have hUl' : U'.length = 16 := by rw [← hU', Sha.win_length, hFl]
          have hnext : U' = Sha.winNext U k := by rw [← hU', ← hU]; rfl
          obtain ⟨T, hT⟩ : ∃ T, Sha.roundsR s0 V k = T := ⟨_, rfl⟩
          obtain ⟨r0, hr0⟩ : ∃ r, k % 16 = r := ⟨_, rfl⟩
          have hr16 : r0 < 16 := by omega
          have hstep : Sha.roundsR s0 V (k + 1) = Sha.step T (Sha.kTab.getD k 0) (U'.getD r0 0) := by rw [← hT, ← hU', ← hr0]; rfl
          obtain ⟨ww, hww⟩ : ∃ x, U'.getD r0 0 = x := ⟨_, rfl⟩
          rw [hww] at hstep
          have hkc := fun W => const_any k W hlt
          obtain ⟨kk, hkk⟩ : ∃ x, Sha.kTab.getD k 0 = x := ⟨_, rfl⟩
          rw [hkk] at hstep hkc
          have HKC := Boxed.mk hkc
          clear hkk hkc
          rw [hU] at hg3
          have HST := Boxed.mk hstep
          have HU := Boxed.mk hU'
          have HUL := Boxed.mk hUl'
          have HWW := Boxed.mk hww
          have hm0 : (k : Int).tmod 16 = (r0 : Int) := by rw [Int.tmod_eq_emod_of_nonneg (by omega)]; omega
          have hm0' : (k : Int) % 16 = (r0 : Int) := by omega
          have hrI : (r0 : Int) < 16 := by omega
          have hrp : (0 : Int) ≤ (r0 : Int) := by omega
          have hkI : (k : Int) < 64 := by omega
          rw [hT]
          obtain ⟨ra, rb, rc, rd, re, rf, rg, rh⟩ := T
          clear hU hU' hUl' hstep hww hT
          dsimp only
          by_cases h16 : 16 ≤ k
          · have h16n : (k : Int) ≥ 16 := by omega
            have hUU : U' = U.set r0 ((U.getD r0 0 + Sha.sP (U.getD ((k + 1) % 16) 0) + U.getD ((k + 9) % 16) 0 + Sha.tP (U.getD ((k + 14) % 16) 0)) % 4294967296) := by rw [hnext, Sha.winNext, if_pos h16, hr0]
            have hcw : ∀ j, j < 16 → wr.cell? ⟨w.heap.size + 1 + 1 + 1, j, none⟩ = some (.int .u32 (U.getD j 0)) := fun j hj => (cell_of_row wr _ j _ _ _ hg3).trans (u32s_at U j (by omega))
            obtain ⟨r1, hr1⟩ : ∃ r, (k + 1) % 16 = r := ⟨_, rfl⟩
            have hr1b : r1 < 16 := by omega
            rw [hr1] at hUU
            have hm1 : ((k : Int) + 1).tmod 16 = (r1 : Int) := by rw [Int.tmod_eq_emod_of_nonneg (by omega)]; omega
            have hm1' : ((k : Int) + 1) % 16 = (r1 : Int) := by omega
            have hr1I : (r1 : Int) < 16 := by omega
            have c1 := hcw r1 hr1b
            obtain ⟨v1, hu1⟩ : ∃ x, U.getD r1 0 = x := ⟨_, rfl⟩
            rw [hu1] at c1 hUU
            clear hr1 hu1
            obtain ⟨r9, hr9⟩ : ∃ r, (k + 9) % 16 = r := ⟨_, rfl⟩
            have hr9b : r9 < 16 := by omega
            rw [hr9] at hUU
            have hm9 : ((k : Int) + 9).tmod 16 = (r9 : Int) := by rw [Int.tmod_eq_emod_of_nonneg (by omega)]; omega
            have hm9' : ((k : Int) + 9) % 16 = (r9 : Int) := by omega
            have hr9I : (r9 : Int) < 16 := by omega
            have c9 := hcw r9 hr9b
            obtain ⟨v9, hu9⟩ : ∃ x, U.getD r9 0 = x := ⟨_, rfl⟩
            rw [hu9] at c9 hUU
            clear hr9 hu9
            obtain ⟨r14, hr14⟩ : ∃ r, (k + 14) % 16 = r := ⟨_, rfl⟩
            have hr14b : r14 < 16 := by omega
            rw [hr14] at hUU
            have hm14 : ((k : Int) + 14).tmod 16 = (r14 : Int) := by rw [Int.tmod_eq_emod_of_nonneg (by omega)]; omega
            have hm14' : ((k : Int) + 14) % 16 = (r14 : Int) := by omega
            have hr14I : (r14 : Int) < 16 := by omega
            have c14 := hcw r14 hr14b
            obtain ⟨v14, hu14⟩ : ∃ x, U.getD r14 0 = x := ⟨_, rfl⟩
            rw [hu14] at c14 hUU
            clear hr14 hu14
            have c0 := hcw r0 hr16
            have f0 := frozen_of_row wr _ r0 _ _ hg3
            obtain ⟨v0, hu0⟩ : ∃ x, U.getD r0 0 = x := ⟨_, rfl⟩
            rw [hu0] at c0 hUU
            have HUU := Boxed.mk hUU
            have HBE := Boxed.mk hbe
            have HG0 := Boxed.mk hg0
            have HG2 := Boxed.mk hg2
            have HG3 := Boxed.mk hg3
            clear hu0 hcw hUU hbe hg0 hg2 hg3 hnext hUl hr0
            go_wp2_with fail
            refine (turned_any v1 7 _ (by omega) (by omega)).mono ?_
            rintro _ _ ⟨rfl, rfl⟩
            go_wp2_with fail
            refine (turned_any v1 18 _ (by omega) (by omega)).mono ?_
            rintro _ _ ⟨rfl, rfl⟩
            go_wp2_with fail
            refine (turned_any v14 17 _ (by omega) (by omega)).mono ?_
            rintro _ _ ⟨rfl, rfl⟩
            go_wp2_with fail
            refine (turned_any v14 19 _ (by omega) (by omega)).mono ?_
            rintro _ _ ⟨rfl, rfl⟩
            go_wp2
            go_region
            go_wp2
            generalize hw5 : World.drew (World.setCell _ _ _) = w5
            have H53 : Boxed (w5.heap[w.heap.size + 1 + 1 + 1]? = some (.cells (u32s U') 155 (0, 0))) := Boxed.mk (by
              rw [← hw5, HUU.out, ← u32s_set]
              refine (heap_setCell_same _ _ _ _ _ _ HG3.out).trans ?_
              first | rfl | (simp only [Int.emod_add_emod]; rfl))
            have H50 : Boxed (w5.heap[w.heap.size]? = some (.cells (u32s [a, b1, c, d, e, f, g, h]) 140 (0, 0))) := Boxed.mk (by rw [← hw5]; exact (Below.heap_setCell _ _ _ _ (by dsimp only; omega)).trans HG0.out)
            have H52 : Boxed (w5.heap[w.heap.size + 1 + 1]? = some (.cells (u32s (List.replicate 8 0)) 140 (0, 0))) := Boxed.mk (by rw [← hw5]; exact (Below.heap_setCell _ _ _ _ (by dsimp only; omega)).trans HG2.out)
            have HB5 : Boxed (Below w.heap.size w w5) := Boxed.mk (by rw [← hw5]; exact (HBE.out.setCell (by dsimp only; omega) _).drew)
            clear hw5 c0 c1 c9 c14 f0 hm1 hm1' hm9 hm9' hm14 hm14'
            have hlt5 := lt_of_heap H53.out
            have hSS : ∀ w', Below w5.heap.size w5 w' → w'.cell? ⟨w.heap.size + 1 + 1 + 1, r0, none⟩ = some (.int .u32 ww) ∧ Below w5.heap.size w5 w' := fun w' hw => ⟨(cell_of_row w' _ r0 _ _ _ ((hw.block _ hlt5).trans H53.out)).trans (by rw [← HWW.out]; exact u32s_at U' r0 (by rw [HUL.out]; omega)), hw⟩
            have HSS := Boxed.mk hSS
            have HDR : Boxed (Below w5.heap.size w5 w5.drew) := Boxed.mk (Below.refl _ w5).drew
            clear hSS hlt5
            try go_wp2
            go_region_held3 (fun w' => w'.cell? ⟨w.heap.size + 1 + 1 + 1, r0, none⟩ = some (.int .u32 ww) ∧ Below w5.heap.size w5 w')
              ((refine HSS.out _ ?_; with_reducible (first | exact HDR.out | exact hB9 | fail)))
              (first | (go_at_call 115; refine (turned_any _ _ _ (by omega) (by omega)).mono ?_; rintro e' w' ⟨rfl, rfl⟩) | (go_at_call 116; refine (HKC.out _).mono ?_; rintro e' w9 ⟨rfl, hb9⟩; (have hB9 : Below w5.heap.size w5 w9 := Below.trans HDR.out hb9)))
            have HB9 := Boxed.mk hB9
            clear hB9 hb9
            go_wp2_with fail
            refine (turned_any ra 2 _ (by omega) (by omega)).mono ?_
            rintro _ _ ⟨rfl, rfl⟩
            go_wp2_with fail
            refine (turned_any ra 13 _ (by omega) (by omega)).mono ?_
            rintro _ _ ⟨rfl, rfl⟩
            go_wp2_with fail
            refine (turned_any ra 22 _ (by omega) (by omega)).mono ?_
            rintro _ _ ⟨rfl, rfl⟩
            go_wp2
            go_roundw
            case rel =>
              have hb9 := HB9.out
              have l0 := lt_of_heap H50.out
              have l2 := lt_of_heap H52.out
              have l3 := lt_of_heap H53.out
              refine ⟨k + 1, by omega, by go_num, ?_, ?_, ?_, ?_, ?_, ?_, ?_, ?_, HB5.out.trans (hb9.mono HB5.out.size), (hb9.block _ l0).trans H50.out, (hb9.block _ l2).trans H52.out, by rw [HU.out]; exact (hb9.block _ l3).trans H53.out⟩ <;> rw [HST.out] <;> simp only [Sha.step, Sha.uP, Sha.vP, Int.emod_add_emod] <;> rfl
            case measure => simp [intOf]; omega
          · have h16n : ¬ ((k : Int) ≥ 16) := by omega
            have hUU : U' = U := by rw [hnext, Sha.winNext, if_neg h16]
            rw [← hUU] at hg3
            obtain ⟨w5, hw5⟩ : ∃ w5, wr = w5 := ⟨_, rfl⟩
            have H53 : Boxed (w5.heap[w.heap.size + 1 + 1 + 1]? = some (.cells (u32s U') 155 (0, 0))) := Boxed.mk (by rw [← hw5]; exact hg3)
            have H50 : Boxed (w5.heap[w.heap.size]? = some (.cells (u32s [a, b1, c, d, e, f, g, h]) 140 (0, 0))) := Boxed.mk (by rw [← hw5]; exact hg0)
            have H52 : Boxed (w5.heap[w.heap.size + 1 + 1]? = some (.cells (u32s (List.replicate 8 0)) 140 (0, 0))) := Boxed.mk (by rw [← hw5]; exact hg2)
            have HB5 : Boxed (Below w.heap.size w w5) := Boxed.mk (by rw [← hw5]; exact hbe)
            rw [hw5]
            clear hw5 hbe hg0 hg2 hg3 hnext hUl hUU hr0
            have hlt5 := lt_of_heap H53.out
            have hSS : ∀ w', Below w5.heap.size w5 w' → w'.cell? ⟨w.heap.size + 1 + 1 + 1, r0, none⟩ = some (.int .u32 ww) ∧ Below w5.heap.size w5 w' := fun w' hw => ⟨(cell_of_row w' _ r0 _ _ _ ((hw.block _ hlt5).trans H53.out)).trans (by rw [← HWW.out]; exact u32s_at U' r0 (by rw [HUL.out]; omega)), hw⟩
            have HSS := Boxed.mk hSS
            have HDR : Boxed (Below w5.heap.size w5 w5.drew) := Boxed.mk (Below.refl _ w5).drew
            clear hSS hlt5
            try go_wp2
            go_region_held3 (fun w' => w'.cell? ⟨w.heap.size + 1 + 1 + 1, r0, none⟩ = some (.int .u32 ww) ∧ Below w5.heap.size w5 w')
              ((refine HSS.out _ ?_; with_reducible (first | exact HDR.out | exact hB9 | fail)))
              (first | (go_at_call 115; refine (turned_any _ _ _ (by omega) (by omega)).mono ?_; rintro e' w' ⟨rfl, rfl⟩) | (go_at_call 116; refine (HKC.out _).mono ?_; rintro e' w9 ⟨rfl, hb9⟩; (have hB9 : Below w5.heap.size w5 w9 := Below.trans HDR.out hb9)))
            have HB9 := Boxed.mk hB9
            clear hB9 hb9
            go_wp2_with fail
            refine (turned_any ra 2 _ (by omega) (by omega)).mono ?_
            rintro _ _ ⟨rfl, rfl⟩
            go_wp2_with fail
            refine (turned_any ra 13 _ (by omega) (by omega)).mono ?_
            rintro _ _ ⟨rfl, rfl⟩
            go_wp2_with fail
            refine (turned_any ra 22 _ (by omega) (by omega)).mono ?_
            rintro _ _ ⟨rfl, rfl⟩
            go_wp2
            go_roundw
            case rel =>
              have hb9 := HB9.out
              have l0 := lt_of_heap H50.out
              have l2 := lt_of_heap H52.out
              have l3 := lt_of_heap H53.out
              refine ⟨k + 1, by omega, by go_num, ?_, ?_, ?_, ?_, ?_, ?_, ?_, ?_, HB5.out.trans (hb9.mono HB5.out.size), (hb9.block _ l0).trans H50.out, (hb9.block _ l2).trans H52.out, by rw [HU.out]; exact (hb9.block _ l3).trans H53.out⟩ <;> rw [HST.out] <;> simp only [Sha.step, Sha.uP, Sha.vP, Int.emod_add_emod] <;> rfl
            case measure => simp [intOf]; omega
        · obtain rfl : k = 64 := by omega
          have hno : ¬ ((64 : Nat) : Int) < 64 := by omega
          have hc : ∀ j, wr.cell? ⟨w.heap.size, j, none⟩ = (u32s [a, b1, c, d, e, f, g, h])[j]? := fun j => cell_of_row wr _ j _ _ _ hg0
          have k0 := hc 0
          have k1 := hc 1
          have k2 := hc 2
          have k3 := hc 3
          have k4 := hc 4
          have k5 := hc 5
          have k6 := hc 6
          have k7 := hc 7
          simp only [u32s, List.map_cons, List.map_nil, List.getElem?_toArray, List.getElem?_cons_zero, List.getElem?_cons_succ] at k0 k1 k2 k3 k4 k5 k6 k7
          obtain ⟨T, hT⟩ : ∃ T, Sha.roundsR s0 V 64 = T := ⟨_, rfl⟩
          have HR : Boxed (Sha.blockR ⟨a, b1, c, d, e, f, g, h⟩ b = Sha.addP ⟨a, b1, c, d, e, f, g, h⟩ T) := Boxed.mk (by unfold Sha.blockR; rw [HS.out, HF.out, hT])
          rw [hT]
          obtain ⟨ra, rb, rc, rd, re, rf, rg, rh⟩ := T
          have HG2 := Boxed.mk hg2
          have HBE := Boxed.mk hbe
          clear hlt hk hbe hg0 hg2 hg3 hc hT
          dsimp only
          go_wp2_with (refine wpList_store_row (by rfl) _ _ _ (by rfl) (w.heap.size + 1 + 1) (u32s (Sha.addP ⟨a, b1, c, d, e, f, g, h⟩ ⟨ra, rb, rc, rd, re, rf, rg, rh⟩).list) (by rfl) (by rfl) _ _ HG2.out (by exact info8w) (by rfl) (u32s_one _) ?_)
          refine bodyPost_ret (v := .agg (u32s (Sha.addP ⟨a, b1, c, d, e, f, g, h⟩ ⟨ra, rb, rc, rd, re, rf, rg, rh⟩).list)) (results_cell_row rfl _ _ (w.heap.size + 1 + 1) _ _ _ _ rfl (setRow_heap _ _ _ _ _ _ HG2.out) Tryz.underlying140 rfl info8w) rfl ⟨?_, below_setRow HBE.out (by omega) _⟩
          rw [HR.out]
          rfl
end Go.Proofs.YtlckcfpdiigjiaaGreatDoor
