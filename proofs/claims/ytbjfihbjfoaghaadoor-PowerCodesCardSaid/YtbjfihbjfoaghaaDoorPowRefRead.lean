/- The document's reader: take, text, Num, Text, in any state; The document's reader in any state: Num, Text. -/
import Derived.Test.YtbjfihbjfoaghaaDoorPowDec
import Derived.Test.YtbjfihbjfoaghaaDoorCodeRef
namespace Go.Proofs.YtbjfihbjfoaghaaDoor
open Go.RowKit
open Go.Proofs.YtbjfihbjfoaghaaDoor.Pw (M)

theorem bel_drewN' {B : Nat} {a w : World} (h : Below B a w) (n : Nat) : Below B a (w.drewN n) := h.trans ⟨rfl, rfl, rfl, Nat.le_refl _, fun _ _ => rfl⟩
def Pw.takeR (s : List UInt8) : Nat × List UInt8 × Int := if (Code.leadL s).2.2 ≠ 0 then (0, [], (Code.leadL s).2.2) else ((Code.leadL s).1, s.drop (Code.leadL s).2.1, 0)
theorem index_cons (c : UInt8) (d r2 : List UInt8) (j : Nat) (hj : j < d.length) : ∀ h, (⟨(c :: (d ++ r2)).toArray⟩ : ByteArray)[j + 1]'h = d[j] := by
  intro h
  have e : (c :: (d ++ r2))[j + 1]'(by simp; omega) = d[j] := by rw [List.getElem_cons_succ, List.getElem_append_left hj]
  exact e

set_option maxHeartbeats 400000 in
theorem rtake_nil (w : World) : Calls Tryd.prog 55 #[.string ⟨#[]⟩] w fun e w' => e = .returned (.tuple #[.int .i64 0, .string ⟨#[]⟩, .int .i64 20]) ∧ Below w.heap.size w w' := by
  go_enter Tryd.func55, Tryd.ntmps55
  go_wp2
  go_ret3
  exact ⟨rfl, Below.refl _ _⟩
set_option maxHeartbeats 400000 in
theorem rtake_big (c : UInt8) (r : List UInt8) (w : World) (hc : c.toNat > 8) : Calls Tryd.prog 55 #[.string ⟨(c :: r).toArray⟩] w fun e w' => e = .returned (.tuple #[.int .i64 0, .string ⟨#[]⟩, .int .i64 3]) ∧ Below w.heap.size w w' := by
  have hh : ∀ h, (⟨(c :: r).toArray⟩ : ByteArray)[0]'h = c := fun _ => rfl
  have hcb := c.toNat_lt
  have hc1 : (8 : Int) < (c.toNat : Int) := by omega
  go_enter Tryd.func55, Tryd.ntmps55
  go_wp2
  go_ret3
  exact ⟨rfl, Below.refl _ _⟩
set_option maxHeartbeats 400000 in
theorem rtake_short (c : UInt8) (r : List UInt8) (w : World) (hc : ¬ c.toNat > 8) (hr : r.length < c.toNat) : Calls Tryd.prog 55 #[.string ⟨(c :: r).toArray⟩] w fun e w' => e = .returned (.tuple #[.int .i64 0, .string ⟨#[]⟩, .int .i64 20]) ∧ Below w.heap.size w w' := by
  have hh : ∀ h, (⟨(c :: r).toArray⟩ : ByteArray)[0]'h = c := fun _ => rfl
  have hcb := c.toNat_lt
  have hc1 : ¬ ((8 : Int) < (c.toNat : Int)) := by omega
  have hlen : ((r.length : Int) + 1) < (c.toNat : Int) + 1 := by omega
  go_enter Tryd.func55, Tryd.ntmps55
  go_wp2
  go_ret3
  exact ⟨rfl, Below.refl _ _⟩
set_option maxHeartbeats 1000000 in
theorem rtake_zero (r : List UInt8) (w : World) : Calls Tryd.prog 55 #[.string ⟨((0 : UInt8) :: r).toArray⟩] w fun e w' => e = .returned (.tuple #[.int .i64 0, .string ⟨r.toArray⟩, .int .i64 0]) ∧ Below w.heap.size w w' := by
  have hh : ∀ h, (⟨((0 : UInt8) :: r).toArray⟩ : ByteArray)[0]'h = 0 := fun _ => rfl
  have he : (⟨((0 : UInt8) :: r).toArray⟩ : ByteArray).extract 1 (r.length + 1) = ⟨r.toArray⟩ := extract_mk_tail 0 r
  go_enter Tryd.func55, Tryd.ntmps55
  go_wp2
  go_loop [6, 7] (fun n i => n = .int .i64 0 ∧ i = .int .i64 1) (fun _ _ => 0)
  case atStart => exact ⟨rfl, rfl⟩
  case round =>
    obtain ⟨rfl, rfl⟩ := hrel
    go_wp2
    go_quiet (fail)
    go_wp2
    go_ret3
    exact ⟨rfl, (Below.refl _ w).trans ⟨rfl, rfl, rfl, Nat.le_refl _, fun _ _ => rfl⟩⟩
set_option maxHeartbeats 1000000 in
theorem rtake_bad (c x : UInt8) (d q r2 : List UInt8) (w : World) (hd : d = x :: q) (hc : c.toNat = d.length) (h8 : d.length ≤ 8) (hl : r2.length ≤ 100000000) (hb : x.toNat = 0 ∨ d.length = 8 ∧ 128 ≤ x.toNat) :
    Calls Tryd.prog 55 #[.string ⟨(c :: (d ++ r2)).toArray⟩] w fun e w' => e = .returned (.tuple #[.int .i64 0, .string ⟨#[]⟩, .int .i64 3]) ∧ Below w.heap.size w w' := by
  have hh : ∀ h, (⟨(c :: (d ++ r2)).toArray⟩ : ByteArray)[0]'h = c := fun _ => rfl
  have hx : ∀ h, (⟨(c :: (d ++ r2)).toArray⟩ : ByteArray)[1]'h = x := by subst hd; exact fun _ => rfl
  have hxb := x.toNat_lt
  have hpos : 0 < d.length := by subst hd; simp
  clear hd
  obtain ⟨s, hs⟩ : ∃ s, c :: (d ++ r2) = s := ⟨_, rfl⟩
  have hsl : s.length = d.length + 1 + r2.length := by rw [← hs]; simp; omega
  have hse : s.isEmpty = false := by rw [← hs]; rfl
  have hsn : ¬ (s.length = 0) := by omega
  rw [hs] at hh hx ⊢
  clear hs
  rcases hb with h0 | ⟨h80, h128⟩
  · go_enter Tryd.func55, Tryd.ntmps55
    go_wp2
    go_ret3
    exact ⟨rfl, Below.refl _ _⟩
  · rw [h80] at hc hsl
    have hd1 : (127 : Int) < (x.toNat : Int) := by omega
    have hd0 : ((x.toNat : Int) == 0) = false := by rw [beq_eq_false_iff_ne]; omega
    clear h8 hpos
    go_enter Tryd.func55, Tryd.ntmps55
    go_wp2
    go_ret3
    exact ⟨rfl, Below.refl _ _⟩
set_option maxRecDepth 100000 in
set_option maxHeartbeats 2000000 in
theorem rtake_good (c x : UInt8) (d q r2 : List UInt8) (w : World) (hd : d = x :: q) (hc : c.toNat = d.length) (h8 : d.length ≤ 8) (hl : r2.length ≤ 100000000) (h0 : x.toNat ≠ 0) (hb : d.length = 8 → x.toNat < 128) :
    Calls Tryd.prog 55 #[.string ⟨(c :: (d ++ r2)).toArray⟩] w fun e w' => e = .returned (.tuple #[.int .i64 (Code.val d : Nat), .string ⟨r2.toArray⟩, .int .i64 0]) ∧ Below w.heap.size w w' := by
  have hh : ∀ h, (⟨(c :: (d ++ r2)).toArray⟩ : ByteArray)[0]'h = c := fun _ => rfl
  have hx : ∀ h, (⟨(c :: (d ++ r2)).toArray⟩ : ByteArray)[1]'h = x := by subst hd; exact fun _ => rfl
  have HIX := Lib.hid (index_cons c d r2)
  have hxb := x.toNat_lt
  have HVL := Lib.hid (val_take_lt d h8 (by subst hd; exact hb))
  have hpos : 0 < d.length := by subst hd; simp
  have he := ext_drop (c :: (d ++ r2)) (d.length + 1)
  rw [show (c :: (d ++ r2)).drop (d.length + 1) = r2 by simp] at he
  clear hd
  obtain ⟨s, hs⟩ : ∃ s, c :: (d ++ r2) = s := ⟨_, rfl⟩
  have hsl : s.length = d.length + 1 + r2.length := by rw [← hs]; simp; omega
  have hse : s.isEmpty = false := by rw [← hs]; rfl
  rw [hs] at hh hx he HIX ⊢
  have hd0 : ((x.toNat : Int) == 0) = false := by rw [beq_eq_false_iff_ne]; omega
  obtain ⟨K, hK⟩ : ∃ K, d.length = K := ⟨_, rfl⟩
  have HK := Lib.hid hK
  rw [hK] at hc h8 hpos he hsl hb
  clear hs hK
  have hcp : (0 : Int) < (K : Int) := by omega
  rcases Nat.lt_or_ge K 8 with h7 | h7
  · have hne : ¬ ((K : Int) = 8) := by omega
    have he2 : (⟨s.toArray⟩ : ByteArray).extract (K + 1) (K + 1 + r2.length) = ⟨r2.toArray⟩ := by rw [← hsl]; exact he
    clear hb
    go_enter Tryd.func55, Tryd.ntmps55
    go_wp2
    go_loop [6, 7] (fun n i => ∃ k : Nat, k ≤ K ∧ n = .int .i64 (Code.val (d.take k) : Nat) ∧ i = .int .i64 ((k : Nat) + 1 : Int)) (fun _ i => K + 1 - (intOf i).toNat)
    case atStart => exact ⟨0, Nat.zero_le _, rfl, rfl⟩
    case round =>
      obtain ⟨k, hk, rfl, rfl⟩ := hrel
      by_cases hlt : k < K
      · have h1 : (k : Int) + 1 ≤ ((K : Nat) : Int) := by omega
        have h2 : (0 : Int) ≤ (k : Int) + 1 := by omega
        have h3 : (k : Int) + 1 < (s.length : Int) := by omega
        have hkd : k < d.length := by rw [HK.out]; exact hlt
        have HST := Lib.hid (val_step d k hkd)
        have hvk := HVL.out (k + 1)
        rw [HST.out] at hvk
        have hix := HIX.out k hkd
        obtain ⟨y, hy⟩ : ∃ y, d[k] = y := ⟨_, rfl⟩
        rw [hy] at HST hvk hix
        have hyb := y.toNat_lt
        obtain ⟨V, hV⟩ : ∃ V, Code.val (d.take k) = V := ⟨_, rfl⟩
        rw [hV] at HST hvk ⊢
        clear hy hV
        have hv1 : (V : Int) * 256 + (y.toNat : Int) ≤ 9223372036854775807 := by omega
        have hv2 : (V : Int) ≤ 36028797018963967 := by omega
        have hyb2 : (y.toNat : Int) < 256 := by omega
        clear hvk hyb
        go_wp2
        go_round
        case rel => exact ⟨k + 1, by omega, by rw [HST.out]; go_num, by go_num⟩
        case measure => simp [intOf]; omega
      · obtain rfl : k = K := by omega
        have h1 : ¬ (((k : Nat) : Int) + 1 ≤ ((k : Nat) : Int)) := by omega
        have HD : Hid (d.take k = d) := Lib.hid (by rw [← HK.out, List.take_length])
        rw [HD.out]
        go_wp2
        go_quiet (fail)
        go_wp2
        go_ret3
        exact ⟨rfl, (Below.refl _ w).trans ⟨rfl, rfl, rfl, Nat.le_refl _, fun _ _ => rfl⟩⟩
  · obtain rfl : K = 8 := by omega
    have he2 : (⟨s.toArray⟩ : ByteArray).extract 9 (9 + r2.length) = ⟨r2.toArray⟩ := by rw [show 9 + r2.length = s.length by omega]; exact he
    have hx1 : ¬ ((127 : Int) < (x.toNat : Int)) := by have := hb rfl; omega
    clear hb
    go_enter Tryd.func55, Tryd.ntmps55
    go_wp2
    go_loop [6, 7] (fun n i => ∃ k : Nat, k ≤ 8 ∧ n = .int .i64 (Code.val (d.take k) : Nat) ∧ i = .int .i64 ((k : Nat) + 1 : Int)) (fun _ i => 8 + 1 - (intOf i).toNat)
    case atStart => exact ⟨0, Nat.zero_le _, rfl, rfl⟩
    case round =>
      obtain ⟨k, hk, rfl, rfl⟩ := hrel
      by_cases hlt : k < 8
      · have h1 : (k : Int) + 1 ≤ ((8 : Nat) : Int) := by omega
        have h2 : (0 : Int) ≤ (k : Int) + 1 := by omega
        have h3 : (k : Int) + 1 < (s.length : Int) := by omega
        have hkd : k < d.length := by rw [HK.out]; exact hlt
        have HST := Lib.hid (val_step d k hkd)
        have hvk := HVL.out (k + 1)
        rw [HST.out] at hvk
        have hix := HIX.out k hkd
        obtain ⟨y, hy⟩ : ∃ y, d[k] = y := ⟨_, rfl⟩
        rw [hy] at HST hvk hix
        have hyb := y.toNat_lt
        obtain ⟨V, hV⟩ : ∃ V, Code.val (d.take k) = V := ⟨_, rfl⟩
        rw [hV] at HST hvk ⊢
        clear hy hV
        have hv1 : (V : Int) * 256 + (y.toNat : Int) ≤ 9223372036854775807 := by omega
        have hv2 : (V : Int) ≤ 36028797018963967 := by omega
        have hyb2 : (y.toNat : Int) < 256 := by omega
        clear hvk hyb
        go_wp2
        go_round
        case rel => exact ⟨k + 1, by omega, by rw [HST.out]; go_num, by go_num⟩
        case measure => simp [intOf]; omega
      · obtain rfl : k = 8 := by omega
        have HD : Hid (d.take 8 = d) := Lib.hid (by rw [← HK.out, List.take_length])
        rw [HD.out]
        go_wp2
        go_quiet (fail)
        go_wp2
        go_ret3
        exact ⟨rfl, (Below.refl _ w).trans ⟨rfl, rfl, rfl, Nat.le_refl _, fun _ _ => rfl⟩⟩
end Go.Proofs.YtbjfihbjfoaghaaDoor
namespace Go.Proofs.YtbjfihbjfoaghaaDoor
open Go.RowKit
open Go.Proofs.YtbjfihbjfoaghaaDoor.Pw (M)

theorem rtake_any (s : List UInt8) (w : World) (hl : s.length ≤ 100000000) :
    Calls Tryd.prog 55 #[.string ⟨s.toArray⟩] w fun e w' => e = .returned (.tuple #[.int .i64 ((Pw.takeR s).1 : Nat), .string ⟨(Pw.takeR s).2.1.toArray⟩, .int .i64 (Pw.takeR s).2.2]) ∧ Below w.heap.size w w' := by
  unfold Pw.takeR
  match s, hl with
  | [], _ => exact rtake_nil w
  | c :: r, hl =>
    simp only [List.length_cons] at hl
    by_cases h1 : c.toNat > 8
    · rw [Code.leadL, if_pos h1]
      exact rtake_big c r w h1
    · by_cases h2 : r.length < c.toNat
      · rw [Code.leadL, if_neg h1, if_pos h2]
        exact rtake_short c r w h1 h2
      · have hr : r = r.take c.toNat ++ r.drop c.toNat := (List.take_append_drop _ _).symm
        have hdl : (r.take c.toNat).length = c.toNat := by rw [List.length_take]; omega
        have hd2 : (r.drop c.toNat).length ≤ 100000000 := by rw [List.length_drop]; omega
        have hdr : (c :: r).drop (1 + c.toNat) = r.drop c.toNat := by rw [Nat.add_comm]; rfl
        rw [Code.leadL, if_neg h1, if_neg h2]
        by_cases h0 : c.toNat = 0
        · have hb : Code.bad c.toNat (r.take c.toNat) = false := by simp [Code.bad, h0]
          have hc0 : c = 0 := by
            have := UInt8.ofNat_toNat (x := c)
            rw [h0] at this
            exact this.symm
          subst hc0
          rw [hb]
          exact rtake_zero r w
        · match hd : r.take c.toNat with
          | [] => rw [hd] at hdl; simp at hdl; omega
          | x :: q =>
            rw [hd] at hr hdl
            rcases hb : Code.bad c.toNat (x :: q) with _ | _
            · simp only [Code.bad, List.headD_cons, Bool.or_eq_false_iff, Bool.and_eq_false_iff, decide_eq_false_iff_not, beq_eq_false_iff_ne] at hb
              have h := rtake_good c x (x :: q) q (r.drop c.toNat) w rfl hdl.symm (by omega) hd2 (by rcases hb.1 with a | a; omega; exact a) (fun h8 => by rcases hb.2 with a | a; omega; exact Nat.not_le.1 (of_decide_eq_false a))
              rw [← hr] at h
              rw [if_neg (by simp), if_neg (by simp)]
              dsimp only
              rw [hdr]
              exact h
            · simp only [Code.bad, List.headD_cons, Bool.or_eq_true, Bool.and_eq_true, decide_eq_true_eq, beq_iff_eq] at hb
              have h := rtake_bad c x (x :: q) q (r.drop c.toNat) w rfl hdl.symm (by omega) hd2 (by rcases hb with a | a; exact .inl a.2; exact .inr ⟨by omega, of_decide_eq_true a.2⟩)
              rw [← hr] at h
              exact h

def Pw.textP (s : List UInt8) : List UInt8 × List UInt8 × Int :=
  if (Pw.takeR s).2.2 ≠ 0 then ([], [], (Pw.takeR s).2.2) else if 6 < (Pw.takeR s).1 then ([], [], 2) else if (Pw.takeR s).2.1.length < (Pw.takeR s).1 then ([], [], 20) else ((Pw.takeR s).2.1.take (Pw.takeR s).1, (Pw.takeR s).2.1.drop (Pw.takeR s).1, 0)
theorem Pw.takeR_lt (s : List UInt8) : (Pw.takeR s).1 < 2 ^ 63 ∧ (Pw.takeR s).2.1.length ≤ s.length := by
  unfold Pw.takeR
  split
  · simp
  · exact ⟨(Code.lead_range s).1, by simp⟩
set_option maxRecDepth 8000 in
set_option maxHeartbeats 1000000 in
theorem rtext2_any (s : List UInt8) (w : World) (hl : s.length ≤ 100000000) :
    Calls Tryd.prog 56 #[.string ⟨s.toArray⟩, .int .i64 6] w fun e w' => e = .returned (.tuple #[.string ⟨(Pw.textP s).1.toArray⟩, .string ⟨(Pw.textP s).2.1.toArray⟩, .int .i64 (Pw.textP s).2.2]) ∧ Below w.heap.size w w' := by
  have HT := Lib.hid (rtake_any s w hl)
  have hr := Pw.takeR_lt s
  unfold Pw.textP
  obtain ⟨⟨n, r, e⟩, hp⟩ : ∃ p, Pw.takeR s = p := ⟨_, rfl⟩
  rw [hp] at HT hr ⊢
  dsimp only at HT hr ⊢
  have hrl : r.length ≤ 100000000 := by omega
  clear hp hl
  by_cases he : e = 0
  · subst he
    rw [if_neg (by simp)]
    by_cases h6 : 6 < n
    · rw [if_pos h6]
      have h6' : (6 : Int) < (n : Int) := by omega
      clear hr
      go_enter Tryd.func56, Tryd.ntmps56
      go_wp2_with fail
      refine HT.out.mono ?_
      rintro e w1 ⟨rfl, hb⟩
      go_wp2
      go_ret3
      exact ⟨rfl, hb⟩
    · rw [if_neg h6]
      have h6' : ¬ ((6 : Int) < (n : Int)) := by omega
      by_cases hlen : r.length < n
      · rw [if_pos hlen]
        have hlen' : (r.length : Int) < (n : Int) := by omega
        clear hr
        go_enter Tryd.func56, Tryd.ntmps56
        go_wp2_with fail
        refine HT.out.mono ?_
        rintro e w1 ⟨rfl, hb⟩
        go_wp2
        go_ret3
        exact ⟨rfl, hb⟩
      · rw [if_neg hlen]
        have hlen' : ¬ ((r.length : Int) < (n : Int)) := by omega
        have he1 := ext_take r n
        have he2 := ext_drop r n
        have hn0 : (0 : Int) ≤ (n : Int) := by omega
        have hn1 : (n : Int) ≤ (r.length : Int) := by omega
        clear hr
        go_enter Tryd.func56, Tryd.ntmps56
        go_wp2_with fail
        refine HT.out.mono ?_
        rintro e w1 ⟨rfl, hb⟩
        go_wp2
        go_quiet (fail)
        go_wp2
        go_ret3
        exact ⟨rfl, bel_drewN' hb _⟩
  · rw [if_pos he]
    have he' : (e != 0) = true := by rw [bne_iff_ne]; exact he
    clear hr
    go_enter Tryd.func56, Tryd.ntmps56
    go_wp2_with fail
    refine HT.out.mono ?_
    rintro e w1 ⟨rfl, hb⟩
    go_wp2
    go_ret3
    exact ⟨rfl, hb⟩

/-- The document's reader in memory. -/
def RRd (w : World) (g : Nat) (s : List UInt8) (c : Int) : Prop := w.heap[g]? = some (.cells #[.string ⟨s.toArray⟩, .int .i64 c] 57 (0, 0))
theorem RRd.lt {w : World} {g : Nat} {s : List UInt8} {c : Int} (h : RRd w g s c) : g < w.heap.size := lt_of_block h
theorem RRd.left {w : World} {g : Nat} {s : List UInt8} {c : Int} (h : RRd w g s c) : w.cell? ⟨g, 0, none⟩ = some (.string ⟨s.toArray⟩) := cell_of_row _ _ _ _ _ _ h
theorem RRd.code {w : World} {g : Nat} {s : List UInt8} {c : Int} (h : RRd w g s c) : w.cell? ⟨g, 1, none⟩ = some (.int .i64 c) := cell_of_row _ _ _ _ _ _ h
theorem RRd.free0 {w : World} {g : Nat} {s : List UInt8} {c : Int} (h : RRd w g s c) : w.frozen? ⟨g, 0, none⟩ = false := frozen_of_row _ _ _ _ _ h
theorem RRd.free1 {w : World} {g : Nat} {s : List UInt8} {c : Int} (h : RRd w g s c) : w.frozen? ⟨g, 1, none⟩ = false := frozen_of_row _ _ _ _ _ h
theorem RRd.setLeft {w : World} {g : Nat} {s : List UInt8} {c : Int} (h : RRd w g s c) (t : List UInt8) : RRd (w.setCell ⟨g, 0, none⟩ (.string ⟨t.toArray⟩)) g t c := by
  have := heap_setCell_same _ _ 0 _ _ (.string ⟨t.toArray⟩) h
  simpa [RRd] using this
theorem RRd.setCode {w : World} {g : Nat} {s : List UInt8} {c : Int} (h : RRd w g s c) (d : Int) : RRd (w.setCell ⟨g, 1, none⟩ (.int .i64 d)) g s d := by
  have := heap_setCell_same _ _ 1 _ _ (.int .i64 d) h
  simpa [RRd] using this
theorem RRd.below {w w' : World} {g : Nat} {s : List UInt8} {c : Int} (h : RRd w g s c) (hb : Below w.heap.size w w') : RRd w' g s c := (hb.block g h.lt).trans h

set_option maxRecDepth 8000 in
set_option maxHeartbeats 1000000 in
theorem rrnum_st (st : Pw.St) (g : Nat) (w : World) (h : RRd w g st.1 st.2) (hl : st.1.length ≤ 100000000) :
    Calls Tryd.prog 44 #[.pointer (some ⟨g, 0, none⟩)] w fun e w' => e = .returned (.int .i64 ((Pw.rdN st).1 : Nat)) ∧ RRd w' g (Pw.rdN st).2.1 (Pw.rdN st).2.2 ∧ Only g w w' := by
  obtain ⟨s, c⟩ := st
  dsimp only at h hl
  have h0 := h.left
  have h1 := h.code
  unfold Pw.rdN
  dsimp only
  by_cases hc : c = 0
  · subst hc
    rw [if_neg (by simp)]
    have HT := Lib.hid (rtake_any s w hl)
    have HLR := Lib.hid (Code.lead_range s)
    have HP : Hid (Code.countL 9223372036854775807 s = if (Pw.takeR s).2.2 ≠ 0 then (0, s, (Pw.takeR s).2.2) else ((Pw.takeR s).1, (Pw.takeR s).2.1, 0)) := Lib.hid (by
      have h63 := (Code.lead_range s).1
      unfold Code.countL Pw.takeR
      by_cases he : (Code.leadL s).2.2 = 0
      · have e1 : ¬ ((Code.leadL s).2.2 ≠ 0) := by simpa using he
        have e2 : ¬ (((Code.leadL s).1 : Int) > 9223372036854775807) := by omega
        simp only [if_neg e1, if_neg e2]
        rw [if_neg (by simp)]
      · simp only [if_pos he])
    obtain ⟨⟨n, r, e⟩, hp⟩ : ∃ p, Pw.takeR s = p := ⟨_, rfl⟩
    rw [hp] at HT HP
    dsimp only at HT HP
    rw [HP.out]
    have HR := Lib.hid h
    clear hp hl
    by_cases he : e = 0
    · subst he
      rw [if_neg (by simp)]
      dsimp only
      go_enter Tryd.func44, Tryd.ntmps44
      go_wp2_with fail
      refine HT.out.mono ?_
      rintro e w1 ⟨rfl, hb⟩
      have h2 := HR.out.below hb
      have h3 := h2.setCode 0
      have HO : Hid (Only g w w1) := Lib.hid (Only.of hb)
      have g1 := h2.code
      have g0 := h3.left
      have f1 := h2.free1
      have f0 := h3.free0
      have HR3 := Lib.hid h3
      clear h2 h3 hb h0 h1 h
      go_wp2
      go_ret
      exact ⟨rfl, HR3.out.setLeft r, (HO.out.setCell rfl _).setCell rfl _⟩
    · rw [if_pos he]
      dsimp only
      have he' : (e != 0) = true := by rw [bne_iff_ne]; exact he
      go_enter Tryd.func44, Tryd.ntmps44
      go_wp2_with fail
      refine HT.out.mono ?_
      rintro e w1 ⟨rfl, hb⟩
      have h2 := HR.out.below hb
      have HO : Hid (Only g w w1) := Lib.hid (Only.of hb)
      have g1 := h2.code
      have f1 := h2.free1
      have HR2 := Lib.hid h2
      clear h2 hb h0 h1 h
      go_wp2
      go_ret
      exact ⟨rfl, HR2.out.setCode _, HO.out.setCell rfl _⟩
  · rw [if_pos hc]
    have hc' : (c != 0) = true := by rw [bne_iff_ne]; exact hc
    go_enter Tryd.func44, Tryd.ntmps44
    go_wp2
    go_ret
    exact ⟨rfl, h, Only.refl _ _⟩

set_option maxRecDepth 8000 in
set_option maxHeartbeats 1000000 in
theorem rrtext_st (st : Pw.St) (g : Nat) (w : World) (h : RRd w g st.1 st.2) (hl : st.1.length ≤ 100000000) :
    Calls Tryd.prog 45 #[.pointer (some ⟨g, 0, none⟩), .int .i64 6] w fun e w' => e = .returned (.string ⟨(Pw.rdT st).1.toArray⟩) ∧ RRd w' g (Pw.rdT st).2.1 (Pw.rdT st).2.2 ∧ Only g w w' := by
  obtain ⟨s, c⟩ := st
  dsimp only at h hl
  have h0 := h.left
  have h1 := h.code
  unfold Pw.rdT
  dsimp only
  by_cases hc : c = 0
  · subst hc
    rw [if_neg (by simp)]
    have HT := Lib.hid (rtext2_any s w hl)
    have HP : Hid (Code.textR 6 s = if (Pw.textP s).2.2 ≠ 0 then ([], s, (Pw.textP s).2.2) else ((Pw.textP s).1, (Pw.textP s).2.1, 0)) := Lib.hid (by
      unfold Code.textR Code.countL Pw.textP Pw.takeR
      by_cases he : (Code.leadL s).2.2 = 0
      · have e1 : ¬ ((Code.leadL s).2.2 ≠ 0) := by simpa using he
        simp only [if_neg e1]
        by_cases h6 : 6 < (Code.leadL s).1
        · have h6' : ((Code.leadL s).1 : Int) > 6 := by omega
          simp [h6, h6']
        · have h6' : ¬ (((Code.leadL s).1 : Int) > 6) := by omega
          simp only [if_neg h6, if_neg h6']
          by_cases hlen : (s.drop (Code.leadL s).2.1).length < (Code.leadL s).1
          · simp only [if_pos hlen]
            simp
          · simp only [if_neg hlen]
            simp
      · simp [he])
    obtain ⟨⟨x, r, e⟩, hp⟩ : ∃ p, Pw.textP s = p := ⟨_, rfl⟩
    rw [hp] at HT HP
    dsimp only at HT HP
    rw [HP.out]
    have HR := Lib.hid h
    clear hp hl
    by_cases he : e = 0
    · subst he
      rw [if_neg (by simp)]
      dsimp only
      go_enter Tryd.func45, Tryd.ntmps45
      go_wp2_with fail
      refine HT.out.mono ?_
      rintro e w1 ⟨rfl, hb⟩
      have h2 := HR.out.below hb
      have h3 := h2.setCode 0
      have HO : Hid (Only g w w1) := Lib.hid (Only.of hb)
      have g1 := h2.code
      have g0 := h3.left
      have f1 := h2.free1
      have f0 := h3.free0
      have HR3 := Lib.hid h3
      clear h2 h3 hb h0 h1 h
      go_wp2
      go_ret
      exact ⟨rfl, HR3.out.setLeft r, (HO.out.setCell rfl _).setCell rfl _⟩
    · rw [if_pos he]
      dsimp only
      have he' : (e != 0) = true := by rw [bne_iff_ne]; exact he
      go_enter Tryd.func45, Tryd.ntmps45
      go_wp2_with fail
      refine HT.out.mono ?_
      rintro e w1 ⟨rfl, hb⟩
      have h2 := HR.out.below hb
      have HO : Hid (Only g w w1) := Lib.hid (Only.of hb)
      have g1 := h2.code
      have f1 := h2.free1
      have HR2 := Lib.hid h2
      clear h2 hb h0 h1 h
      go_wp2
      go_ret
      exact ⟨rfl, HR2.out.setCode _, HO.out.setCell rfl _⟩
  · rw [if_pos hc]
    have hc' : (c != 0) = true := by rw [bne_iff_ne]; exact hc
    go_enter Tryd.func45, Tryd.ntmps45
    go_wp2
    go_ret
    exact ⟨rfl, h, Only.refl _ _⟩
end Go.Proofs.YtbjfihbjfoaghaaDoor
