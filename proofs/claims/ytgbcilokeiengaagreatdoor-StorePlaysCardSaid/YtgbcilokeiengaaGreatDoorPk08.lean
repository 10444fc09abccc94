/- PowRefRead, CodeRefList, NibRef, NibRefPack, NibRefUnpack, NibRefU, NodeRefRdr, NodeRefWritten -/
import Derived.Test.YtgbcilokeiengaaGreatDoorPk02
import Derived.Test.YtgbcilokeiengaaGreatDoorPk07
import Derived.Test.YtgbcilokeiengaaGreatDoorPk03
import Derived.Test.YtgbcilokeiengaaGreatDoorPk01
import Derived.Test.YtgbcilokeiengaaGreatDoorPk05
import Derived.WalkSpells
import Derived.WalkLawsBesides
import Derived.Lib.Hide
import Derived.Test.YtgbcilokeiengaaGreatDoorPk04
namespace Go.Proofs.YtgbcilokeiengaaGreatDoor
open Go.RowKit

theorem bel_drewN' {B : Nat} {a w : World} (h : Below B a w) (n : Nat) : Below B a (w.drewN n) := h.trans ⟨rfl, rfl, rfl, Nat.le_refl _, fun _ _ => rfl⟩
def Pw.takeR (s : List UInt8) : Nat × List UInt8 × Int := if (Code.leadL s).2.2 ≠ 0 then (0, [], (Code.leadL s).2.2) else ((Code.leadL s).1, s.drop (Code.leadL s).2.1, 0)
theorem index_cons (c : UInt8) (d r2 : List UInt8) (j : Nat) (hj : j < d.length) : ∀ h, (⟨(c :: (d ++ r2)).toArray⟩ : ByteArray)[j + 1]'h = d[j] := by
  intro h
  have e : (c :: (d ++ r2))[j + 1]'(by simp; omega) = d[j] := by rw [List.getElem_cons_succ, List.getElem_append_left hj]
  exact e

set_option maxHeartbeats 400000 in
theorem rtake_nil (w : World) : Calls Tryz.prog 84 #[.string ⟨#[]⟩] w fun e w' => e = .returned (.tuple #[.int .i64 0, .string ⟨#[]⟩, .int .i64 20]) ∧ Below w.heap.size w w' := by
  go_enter Tryz.func84, Tryz.ntmps84
  go_wp2
  go_ret3
  exact ⟨rfl, Below.refl _ _⟩
set_option maxHeartbeats 400000 in
theorem rtake_big (c : UInt8) (r : List UInt8) (w : World) (hc : c.toNat > 8) : Calls Tryz.prog 84 #[.string ⟨(c :: r).toArray⟩] w fun e w' => e = .returned (.tuple #[.int .i64 0, .string ⟨#[]⟩, .int .i64 3]) ∧ Below w.heap.size w w' := by
  have hh : ∀ h, (⟨(c :: r).toArray⟩ : ByteArray)[0]'h = c := fun _ => rfl
  have hcb := c.toNat_lt
  have hc1 : (8 : Int) < (c.toNat : Int) := by omega
  go_enter Tryz.func84, Tryz.ntmps84
  go_wp2
  go_ret3
  exact ⟨rfl, Below.refl _ _⟩
set_option maxHeartbeats 400000 in
theorem rtake_short (c : UInt8) (r : List UInt8) (w : World) (hc : ¬ c.toNat > 8) (hr : r.length < c.toNat) : Calls Tryz.prog 84 #[.string ⟨(c :: r).toArray⟩] w fun e w' => e = .returned (.tuple #[.int .i64 0, .string ⟨#[]⟩, .int .i64 20]) ∧ Below w.heap.size w w' := by
  have hh : ∀ h, (⟨(c :: r).toArray⟩ : ByteArray)[0]'h = c := fun _ => rfl
  have hcb := c.toNat_lt
  have hc1 : ¬ ((8 : Int) < (c.toNat : Int)) := by omega
  have hlen : ((r.length : Int) + 1) < (c.toNat : Int) + 1 := by omega
  go_enter Tryz.func84, Tryz.ntmps84
  go_wp2
  go_ret3
  exact ⟨rfl, Below.refl _ _⟩
set_option maxHeartbeats 1000000 in
theorem rtake_zero (r : List UInt8) (w : World) : Calls Tryz.prog 84 #[.string ⟨((0 : UInt8) :: r).toArray⟩] w fun e w' => e = .returned (.tuple #[.int .i64 0, .string ⟨r.toArray⟩, .int .i64 0]) ∧ Below w.heap.size w w' := by
  have hh : ∀ h, (⟨((0 : UInt8) :: r).toArray⟩ : ByteArray)[0]'h = 0 := fun _ => rfl
  have he : (⟨((0 : UInt8) :: r).toArray⟩ : ByteArray).extract 1 (r.length + 1) = ⟨r.toArray⟩ := extract_mk_tail 0 r
  go_enter Tryz.func84, Tryz.ntmps84
  go_wp2
  go_loop [6, 7] (fun n i => n = .int .i64 0 ∧ i = .int .i64 1) (fun _ _ => 0)
  case atStart => exact ⟨rfl, rfl⟩
  case round =>
    obtain ⟨rfl, rfl⟩ := hrel
    go_wp2
    go_quiet (fail)
    go_wp2
    go_ret3
    exact ⟨rfl, (Below.refl _ w).trans ⟨rfl, rfl, rfl, Nat.le_refl _, fun _ _ => rfl⟩⟩
set_option maxHeartbeats 1000000 in
theorem rtake_bad (c x : UInt8) (d q r2 : List UInt8) (w : World) (hd : d = x :: q) (hc : c.toNat = d.length) (h8 : d.length ≤ 8) (hl : r2.length ≤ 100000000) (hb : x.toNat = 0 ∨ d.length = 8 ∧ 128 ≤ x.toNat) :
    Calls Tryz.prog 84 #[.string ⟨(c :: (d ++ r2)).toArray⟩] w fun e w' => e = .returned (.tuple #[.int .i64 0, .string ⟨#[]⟩, .int .i64 3]) ∧ Below w.heap.size w w' := by
  have hh : ∀ h, (⟨(c :: (d ++ r2)).toArray⟩ : ByteArray)[0]'h = c := fun _ => rfl
  have hx : ∀ h, (⟨(c :: (d ++ r2)).toArray⟩ : ByteArray)[1]'h = x := by subst hd; exact fun _ => rfl
  have hxb := x.toNat_lt
  have hpos : 0 < d.length := by subst hd; simp
  clear hd
  obtain ⟨s, hs⟩ : ∃ s, c :: (d ++ r2) = s := ⟨_, rfl⟩
  have hsl : s.length = d.length + 1 + r2.length := by rw [← hs]; simp; omega
  have hse : s.isEmpty = false := by rw [← hs]; rfl
  have hsn : ¬ (s.length = 0) := by omega
  rw [hs] at hh hx ⊢
  clear hs
  rcases hb with h0 | ⟨h80, h128⟩
  · go_enter Tryz.func84, Tryz.ntmps84
    go_wp2
    go_ret3
    exact ⟨rfl, Below.refl _ _⟩
  · rw [h80] at hc hsl
    have hd1 : (127 : Int) < (x.toNat : Int) := by omega
    have hd0 : ((x.toNat : Int) == 0) = false := by rw [beq_eq_false_iff_ne]; omega
    clear h8 hpos
    go_enter Tryz.func84, Tryz.ntmps84
    go_wp2
    go_ret3
    exact ⟨rfl, Below.refl _ _⟩
set_option maxRecDepth 100000 in
set_option maxHeartbeats 2000000 in
theorem rtake_good (c x : UInt8) (d q r2 : List UInt8) (w : World) (hd : d = x :: q) (hc : c.toNat = d.length) (h8 : d.length ≤ 8) (hl : r2.length ≤ 100000000) (h0 : x.toNat ≠ 0) (hb : d.length = 8 → x.toNat < 128) :
    Calls Tryz.prog 84 #[.string ⟨(c :: (d ++ r2)).toArray⟩] w fun e w' => e = .returned (.tuple #[.int .i64 (Code.val d : Nat), .string ⟨r2.toArray⟩, .int .i64 0]) ∧ Below w.heap.size w w' := by
  have hh : ∀ h, (⟨(c :: (d ++ r2)).toArray⟩ : ByteArray)[0]'h = c := fun _ => rfl
  have hx : ∀ h, (⟨(c :: (d ++ r2)).toArray⟩ : ByteArray)[1]'h = x := by subst hd; exact fun _ => rfl
  have HIX := Lib.hid (index_cons c d r2)
  have hxb := x.toNat_lt
  have HVL := Lib.hid (val_take_lt d h8 (by subst hd; exact hb))
  have hpos : 0 < d.length := by subst hd; simp
  have he := ext_drop (c :: (d ++ r2)) (d.length + 1)
  rw [show (c :: (d ++ r2)).drop (d.length + 1) = r2 by simp] at he
  clear hd
  obtain ⟨s, hs⟩ : ∃ s, c :: (d ++ r2) = s := ⟨_, rfl⟩
  have hsl : s.length = d.length + 1 + r2.length := by rw [← hs]; simp; omega
  have hse : s.isEmpty = false := by rw [← hs]; rfl
  rw [hs] at hh hx he HIX ⊢
  have hd0 : ((x.toNat : Int) == 0) = false := by rw [beq_eq_false_iff_ne]; omega
  obtain ⟨K, hK⟩ : ∃ K, d.length = K := ⟨_, rfl⟩
  have HK := Lib.hid hK
  rw [hK] at hc h8 hpos he hsl hb
  clear hs hK
  have hcp : (0 : Int) < (K : Int) := by omega
  rcases Nat.lt_or_ge K 8 with h7 | h7
  · have hne : ¬ ((K : Int) = 8) := by omega
    have he2 : (⟨s.toArray⟩ : ByteArray).extract (K + 1) (K + 1 + r2.length) = ⟨r2.toArray⟩ := by rw [← hsl]; exact he
    clear hb
    go_enter Tryz.func84, Tryz.ntmps84
    go_wp2
    go_loop [6, 7] (fun n i => ∃ k : Nat, k ≤ K ∧ n = .int .i64 (Code.val (d.take k) : Nat) ∧ i = .int .i64 ((k : Nat) + 1 : Int)) (fun _ i => K + 1 - (intOf i).toNat)
    case atStart => exact ⟨0, Nat.zero_le _, rfl, rfl⟩
    case round =>
      obtain ⟨k, hk, rfl, rfl⟩ := hrel
      by_cases hlt : k < K
      · have h1 : (k : Int) + 1 ≤ ((K : Nat) : Int) := by omega
        have h2 : (0 : Int) ≤ (k : Int) + 1 := by omega
        have h3 : (k : Int) + 1 < (s.length : Int) := by omega
        have hkd : k < d.length := by rw [HK.out]; exact hlt
        have HST := Lib.hid (val_step d k hkd)
        have hvk := HVL.out (k + 1)
        rw [HST.out] at hvk
        have hix := HIX.out k hkd
        obtain ⟨y, hy⟩ : ∃ y, d[k] = y := ⟨_, rfl⟩
        rw [hy] at HST hvk hix
        have hyb := y.toNat_lt
        obtain ⟨V, hV⟩ : ∃ V, Code.val (d.take k) = V := ⟨_, rfl⟩
        rw [hV] at HST hvk ⊢
        clear hy hV
        have hv1 : (V : Int) * 256 + (y.toNat : Int) ≤ 9223372036854775807 := by omega
        have hv2 : (V : Int) ≤ 36028797018963967 := by omega
        have hyb2 : (y.toNat : Int) < 256 := by omega
        clear hvk hyb
        go_wp2
        go_round
        case rel => exact ⟨k + 1, by omega, by rw [HST.out]; go_num, by go_num⟩
        case measure => simp [intOf]; omega
      · obtain rfl : k = K := by omega
        have h1 : ¬ (((k : Nat) : Int) + 1 ≤ ((k : Nat) : Int)) := by omega
        have HD : Hid (d.take k = d) := Lib.hid (by rw [← HK.out, List.take_length])
        rw [HD.out]
        go_wp2
        go_quiet (fail)
        go_wp2
        go_ret3
        exact ⟨rfl, (Below.refl _ w).trans ⟨rfl, rfl, rfl, Nat.le_refl _, fun _ _ => rfl⟩⟩
  · obtain rfl : K = 8 := by omega
    have he2 : (⟨s.toArray⟩ : ByteArray).extract 9 (9 + r2.length) = ⟨r2.toArray⟩ := by rw [show 9 + r2.length = s.length by omega]; exact he
    have hx1 : ¬ ((127 : Int) < (x.toNat : Int)) := by have := hb rfl; omega
    clear hb
    go_enter Tryz.func84, Tryz.ntmps84
    go_wp2
    go_loop [6, 7] (fun n i => ∃ k : Nat, k ≤ 8 ∧ n = .int .i64 (Code.val (d.take k) : Nat) ∧ i = .int .i64 ((k : Nat) + 1 : Int)) (fun _ i => 8 + 1 - (intOf i).toNat)
    case atStart => exact ⟨0, Nat.zero_le _, rfl, rfl⟩
    case round =>
      obtain ⟨k, hk, rfl, rfl⟩ := hrel
      by_cases hlt : k < 8
      · have h1 : (k : Int) + 1 ≤ ((8 : Nat) : Int) := by omega
        have h2 : (0 : Int) ≤ (k : Int) + 1 := by omega
        have h3 : (k : Int) + 1 < (s.length : Int) := by omega
        have hkd : k < d.length := by rw [HK.out]; exact hlt
        have HST := Lib.hid (val_step d k hkd)
        have hvk := HVL.out (k + 1)
        rw [HST.out] at hvk
        have hix := HIX.out k hkd
        obtain ⟨y, hy⟩ : ∃ y, d[k] = y := ⟨_, rfl⟩
        rw [hy] at HST hvk hix
        have hyb := y.toNat_lt
        obtain ⟨V, hV⟩ : ∃ V, Code.val (d.take k) = V := ⟨_, rfl⟩
        rw [hV] at HST hvk ⊢
        clear hy hV
        have hv1 : (V : Int) * 256 + (y.toNat : Int) ≤ 9223372036854775807 := by omega
        have hv2 : (V : Int) ≤ 36028797018963967 := by omega
        have hyb2 : (y.toNat : Int) < 256 := by omega
        clear hvk hyb
        go_wp2
        go_round
        case rel => exact ⟨k + 1, by omega, by rw [HST.out]; go_num, by go_num⟩
        case measure => simp [intOf]; omega
      · obtain rfl : k = 8 := by omega
        have HD : Hid (d.take 8 = d) := Lib.hid (by rw [← HK.out, List.take_length])
        rw [HD.out]
        go_wp2
        go_quiet (fail)
        go_wp2
        go_ret3
        exact ⟨rfl, (Below.refl _ w).trans ⟨rfl, rfl, rfl, Nat.le_refl _, fun _ _ => rfl⟩⟩
end Go.Proofs.YtgbcilokeiengaaGreatDoor
namespace Go.Proofs.YtgbcilokeiengaaGreatDoor
open Go.RowKit

theorem rtake_any (s : List UInt8) (w : World) (hl : s.length ≤ 100000000) :
    Calls Tryz.prog 84 #[.string ⟨s.toArray⟩] w fun e w' => e = .returned (.tuple #[.int .i64 ((Pw.takeR s).1 : Nat), .string ⟨(Pw.takeR s).2.1.toArray⟩, .int .i64 (Pw.takeR s).2.2]) ∧ Below w.heap.size w w' := by
  unfold Pw.takeR
  match s, hl with
  | [], _ => exact rtake_nil w
  | c :: r, hl =>
    simp only [List.length_cons] at hl
    by_cases h1 : c.toNat > 8
    · rw [Code.leadL, if_pos h1]
      exact rtake_big c r w h1
    · by_cases h2 : r.length < c.toNat
      · rw [Code.leadL, if_neg h1, if_pos h2]
        exact rtake_short c r w h1 h2
      · have hr : r = r.take c.toNat ++ r.drop c.toNat := (List.take_append_drop _ _).symm
        have hdl : (r.take c.toNat).length = c.toNat := by rw [List.length_take]; omega
        have hd2 : (r.drop c.toNat).length ≤ 100000000 := by rw [List.length_drop]; omega
        have hdr : (c :: r).drop (1 + c.toNat) = r.drop c.toNat := by rw [Nat.add_comm]; rfl
        rw [Code.leadL, if_neg h1, if_neg h2]
        by_cases h0 : c.toNat = 0
        · have hb : Code.bad c.toNat (r.take c.toNat) = false := by simp [Code.bad, h0]
          have hc0 : c = 0 := by
            have := UInt8.ofNat_toNat (x := c)
            rw [h0] at this
            exact this.symm
          subst hc0
          rw [hb]
          exact rtake_zero r w
        · match hd : r.take c.toNat with
          | [] => rw [hd] at hdl; simp at hdl; omega
          | x :: q =>
            rw [hd] at hr hdl
            rcases hb : Code.bad c.toNat (x :: q) with _ | _
            · simp only [Code.bad, List.headD_cons, Bool.or_eq_false_iff, Bool.and_eq_false_iff, decide_eq_false_iff_not, beq_eq_false_iff_ne] at hb
              have h := rtake_good c x (x :: q) q (r.drop c.toNat) w rfl hdl.symm (by omega) hd2 (by rcases hb.1 with a | a; omega; exact a) (fun h8 => by rcases hb.2 with a | a; omega; exact Nat.not_le.1 (of_decide_eq_false a))
              rw [← hr] at h
              rw [if_neg (by simp), if_neg (by simp)]
              dsimp only
              rw [hdr]
              exact h
            · simp only [Code.bad, List.headD_cons, Bool.or_eq_true, Bool.and_eq_true, decide_eq_true_eq, beq_iff_eq] at hb
              have h := rtake_bad c x (x :: q) q (r.drop c.toNat) w rfl hdl.symm (by omega) hd2 (by rcases hb with a | a; exact .inl a.2; exact .inr ⟨by omega, of_decide_eq_true a.2⟩)
              rw [← hr] at h
              exact h

def Pw.textP (s : List UInt8) : List UInt8 × List UInt8 × Int :=
  if (Pw.takeR s).2.2 ≠ 0 then ([], [], (Pw.takeR s).2.2) else if 6 < (Pw.takeR s).1 then ([], [], 2) else if (Pw.takeR s).2.1.length < (Pw.takeR s).1 then ([], [], 20) else ((Pw.takeR s).2.1.take (Pw.takeR s).1, (Pw.takeR s).2.1.drop (Pw.takeR s).1, 0)
theorem Pw.takeR_lt (s : List UInt8) : (Pw.takeR s).1 < 2 ^ 63 ∧ (Pw.takeR s).2.1.length ≤ s.length := by
  unfold Pw.takeR
  split
  · simp
  · exact ⟨(Code.lead_range s).1, by simp⟩
/-- The document's reader in memory. -/
def RRd (w : World) (g : Nat) (s : List UInt8) (c : Int) : Prop := w.heap[g]? = some (.cells #[.string ⟨s.toArray⟩, .int .i64 c] 88 (0, 0))
theorem RRd.lt {w : World} {g : Nat} {s : List UInt8} {c : Int} (h : RRd w g s c) : g < w.heap.size := lt_of_block h
theorem RRd.left {w : World} {g : Nat} {s : List UInt8} {c : Int} (h : RRd w g s c) : w.cell? ⟨g, 0, none⟩ = some (.string ⟨s.toArray⟩) := cell_of_row _ _ _ _ _ _ h
theorem RRd.code {w : World} {g : Nat} {s : List UInt8} {c : Int} (h : RRd w g s c) : w.cell? ⟨g, 1, none⟩ = some (.int .i64 c) := cell_of_row _ _ _ _ _ _ h
theorem RRd.free0 {w : World} {g : Nat} {s : List UInt8} {c : Int} (h : RRd w g s c) : w.frozen? ⟨g, 0, none⟩ = false := frozen_of_row _ _ _ _ _ h
theorem RRd.free1 {w : World} {g : Nat} {s : List UInt8} {c : Int} (h : RRd w g s c) : w.frozen? ⟨g, 1, none⟩ = false := frozen_of_row _ _ _ _ _ h
theorem RRd.setLeft {w : World} {g : Nat} {s : List UInt8} {c : Int} (h : RRd w g s c) (t : List UInt8) : RRd (w.setCell ⟨g, 0, none⟩ (.string ⟨t.toArray⟩)) g t c := by
  have := heap_setCell_same _ _ 0 _ _ (.string ⟨t.toArray⟩) h
  simpa [RRd] using this
theorem RRd.setCode {w : World} {g : Nat} {s : List UInt8} {c : Int} (h : RRd w g s c) (d : Int) : RRd (w.setCell ⟨g, 1, none⟩ (.int .i64 d)) g s d := by
  have := heap_setCell_same _ _ 1 _ _ (.int .i64 d) h
  simpa [RRd] using this
theorem RRd.below {w w' : World} {g : Nat} {s : List UInt8} {c : Int} (h : RRd w g s c) (hb : Below w.heap.size w w') : RRd w' g s c := (hb.block g h.lt).trans h

end Go.Proofs.YtgbcilokeiengaaGreatDoor
namespace Go.Proofs.YtgbcilokeiengaaGreatDoor
open Go.RowKit

def Code.textPm (most : Int) (s : List UInt8) : List UInt8 × List UInt8 × Int :=
  if (Pw.takeR s).2.2 ≠ 0 then ([], [], (Pw.takeR s).2.2) else if most < ((Pw.takeR s).1 : Int) then ([], [], 2) else if (Pw.takeR s).2.1.length < (Pw.takeR s).1 then ([], [], 20) else ((Pw.takeR s).2.1.take (Pw.takeR s).1, (Pw.takeR s).2.1.drop (Pw.takeR s).1, 0)
theorem Code.textR_Pm (most : Int) (s : List UInt8) : Code.textR most s = if (Code.textPm most s).2.2 ≠ 0 then ([], s, (Code.textPm most s).2.2) else ((Code.textPm most s).1, (Code.textPm most s).2.1, 0) := by
  unfold Code.textR Code.countL Code.textPm Pw.takeR
  by_cases he : (Code.leadL s).2.2 = 0
  · have e1 : ¬ ((Code.leadL s).2.2 ≠ 0) := by simpa using he
    simp only [if_neg e1]
    by_cases h6 : most < ((Code.leadL s).1 : Int)
    · simp [h6]
    · simp only [if_neg h6]
      by_cases hlen : (s.drop (Code.leadL s).2.1).length < (Code.leadL s).1
      · simp only [if_pos hlen]
        simp
      · simp only [if_neg hlen]
        simp
  · simp [he]
set_option maxRecDepth 8000 in
set_option maxHeartbeats 1000000 in
theorem rtextm_any (most : Int) (s : List UInt8) (w : World) (hl : s.length ≤ 100000000) :
    Calls Tryz.prog 67 #[.string ⟨s.toArray⟩, .int .i64 most] w fun e w' => e = .returned (.tuple #[.string ⟨(Code.textPm most s).1.toArray⟩, .string ⟨(Code.textPm most s).2.1.toArray⟩, .int .i64 (Code.textPm most s).2.2]) ∧ Below w.heap.size w w' := by
  have HT := Lib.hid (rtake_any s w hl)
  have hr := Pw.takeR_lt s
  unfold Code.textPm
  obtain ⟨⟨n, r, e⟩, hp⟩ : ∃ p, Pw.takeR s = p := ⟨_, rfl⟩
  rw [hp] at HT hr ⊢
  dsimp only at HT hr ⊢
  have hrl : r.length ≤ 100000000 := by omega
  clear hp hl
  by_cases he : e = 0
  · subst he
    rw [if_neg (by simp)]
    by_cases h6 : most < (n : Int)
    · rw [if_pos h6]
      clear hr
      go_enter Tryz.func67, Tryz.ntmps67
      go_wp2_with fail
      refine HT.out.mono ?_
      rintro e w1 ⟨rfl, hb⟩
      go_wp2
      go_ret3
      exact ⟨rfl, hb⟩
    · rw [if_neg h6]
      by_cases hlen : r.length < n
      · rw [if_pos hlen]
        have hlen' : (r.length : Int) < (n : Int) := by omega
        clear hr
        go_enter Tryz.func67, Tryz.ntmps67
        go_wp2_with fail
        refine HT.out.mono ?_
        rintro e w1 ⟨rfl, hb⟩
        go_wp2
        go_ret3
        exact ⟨rfl, hb⟩
      · rw [if_neg hlen]
        have hlen' : ¬ ((r.length : Int) < (n : Int)) := by omega
        have he1 := ext_take r n
        have he2 := ext_drop r n
        have hn0 : (0 : Int) ≤ (n : Int) := by omega
        have hn1 : (n : Int) ≤ (r.length : Int) := by omega
        clear hr
        go_enter Tryz.func67, Tryz.ntmps67
        go_wp2_with fail
        refine HT.out.mono ?_
        rintro e w1 ⟨rfl, hb⟩
        go_wp2
        go_quiet (fail)
        go_wp2
        go_ret3
        exact ⟨rfl, bel_drewN' hb _⟩
  · rw [if_pos he]
    have he' : (e != 0) = true := by rw [bne_iff_ne]; exact he
    clear hr
    go_enter Tryz.func67, Tryz.ntmps67
    go_wp2_with fail
    refine HT.out.mono ?_
    rintro e w1 ⟨rfl, hb⟩
    go_wp2
    go_ret3
    exact ⟨rfl, hb⟩

/-- What is left to be read behind k texts, against the whole. -/
def Code.Left (Q : List (List UInt8) × List UInt8 × Int) (n k : Nat) (each : Int) (r : List UInt8) (O : List (List UInt8)) (c : Int) : Prop :=
  (c = 0 ∧ Q.2.2 = (Code.readN (n - k) each r).2.2 ∧ (Q.2.2 = 0 → Q.1 = O ++ (Code.readN (n - k) each r).1 ∧ Q.2.1 = (Code.readN (n - k) each r).2.1)) ∨ (c ≠ 0 ∧ Q.2.2 = c)
theorem Code.Left.bad {Q : List (List UInt8) × List UInt8 × Int} {n k : Nat} {each : Int} {r : List UInt8} {O : List (List UInt8)} (h : Code.Left Q n k each r O 0) (hk : k < n) (he : (Code.textR each r).2.2 ≠ 0) (r' : List UInt8) (O' : List (List UInt8)) : Code.Left Q n (k + 1) each r' O' (Code.textR each r).2.2 := by
  rcases h with ⟨_, h1, h2⟩ | ⟨h, _⟩
  · refine Or.inr ⟨he, ?_⟩
    obtain ⟨m, hm⟩ : ∃ m, n - k = m + 1 := ⟨n - k - 1, by omega⟩
    rw [h1, hm, Code.readN, if_pos he]
  · exact absurd rfl h
theorem Own.only {w w' : World} {B g : Nat} {v : Value} {L : List (List UInt8)} (h : Own w B v L) (ho : Only g w w') (hg : g < B) : Own w' B v L := by
  refine ⟨h.1, ?_⟩
  rcases h.2 with hn | ⟨k, cap, cur, hv, hb, hk, hr⟩
  · exact Or.inl hn
  · exact Or.inr ⟨k, cap, cur, hv, hb, (ho.block k (lt_of_heap hk) (by omega)).trans hk, hr⟩

end Go.Proofs.YtgbcilokeiengaaGreatDoor
namespace Go.Proofs.YtgbcilokeiengaaGreatDoor
open Go.RowKit

set_option maxHeartbeats 400000 in
theorem rof_any (l : List UInt8) (w : World) (hl : l.length ≤ 1000000) :
    Calls Tryz.prog 68 #[.string ⟨l.toArray⟩] w fun e w' => e = .returned (.string ⟨(Nib.ofL l).toArray⟩) ∧ Below w.heap.size w w' := by
  go_enter Tryz.func68, Tryz.ntmps68
  go_wp2
  go_loopw [3, 4] (fun s i wr => ∃ k : Nat, k ≤ l.length ∧ i = .int .i64 k ∧ s = .string ⟨(Nib.ofL (l.take k)).toArray⟩ ∧ Below w.heap.size w wr) (fun _ i _ => l.length - (intOf i).toNat)
  case atStart => exact ⟨0, Nat.zero_le _, rfl, rfl, Below.refl _ _⟩
  case round =>
    obtain ⟨k, hk, rfl, rfl, hbel⟩ := hrel
    by_cases hlt : k < l.length
    · have h1 : (k : Int) < (l.length : Int) := by omega
      have hsn := Lib.hid (Nib.ofL_snoc l k hlt)
      have hlen := Nib.ofL_length (l.take k)
      have hb := hbel.size
      obtain ⟨ys, hys⟩ : ∃ ys, Nib.ofL (l.take k) = ys := ⟨_, rfl⟩
      have hyl : ys.length ≤ 4000000 := by rw [← hys]; simp [hlen]; omega
      have HY := Lib.hid hys
      rw [hys]
      clear hys hlen
      obtain ⟨c, hc⟩ : ∃ c, l[k] = c := ⟨_, rfl⟩
      have hidx : ∀ h, (⟨l.toArray⟩ : ByteArray)[k]'h = c := fun _ => hc
      rw [hc] at hsn
      clear hc
      have hcv := conv_two wr (c / 16) (c % 16) ((c.toNat : Int) / 16 % 256) ((c.toNat : Int) % 16) (by rw [Nib.toNat_div16]; have := byte_lt c; omega) (by rw [Nib.toNat_mod16])
      go_wp2
      go_region
      go_wp2
      go_roundw
      case rel =>
        refine ⟨k + 1, by omega, by go_num, ?_, (hbel.alloc hb _).drew⟩
        rw [hsn.out, HY.out]
        exact congrArg Value.string (cat_mk ys [c / 16, c % 16])
      case measure => simp [intOf]; omega
    · go_wp2
      go_ret
      rw [List.take_of_length_le (by omega)]
      exact ⟨rfl, hbel⟩

set_option maxHeartbeats 400000 in
theorem rkey_good (l : List UInt8) (w : World) (hl : l.length ≤ 1000000) (hf : Nib.fitL l = true) (ho : l.length % 2 = 0) :
    Calls Tryz.prog 86 #[.string ⟨l.toArray⟩] w fun e w' => e = .returned (.tuple #[.string ⟨(Nib.joinL l).toArray⟩, .int .i64 0]) ∧ Below w.heap.size w w' := by
  have HF := Lib.hid hf; clear hf
  have ho1 : ((l.length : Int) % 2 != 0) = false := by simp; omega
  have HO := Lib.hid ho
  clear ho
  go_enter Tryz.func86, Tryz.ntmps86
  go_wp2_with fail
  refine (rfit_any l w hl).mono ?_
  rintro e w1 ⟨rfl, rfl⟩
  rw [HF.out]
  go_wp2
  go_loopw [4, 5] (fun s i wr => ∃ k : Nat, 2 * k ≤ l.length ∧ i = .int .i64 (2 * (k : Int)) ∧ s = .string ⟨(Nib.joinL (l.take (2 * k))).toArray⟩ ∧ Below w.heap.size w wr) (fun _ i _ => l.length - (intOf i).toNat)
  case atStart => exact ⟨0, by omega, rfl, rfl, Below.refl _ _⟩
  case round =>
    obtain ⟨k, hk, rfl, rfl, hbel⟩ := hrel
    have hev := HO.out
    by_cases hlt : 2 * k < l.length
    · have h1 : (2 : Int) * (k : Int) < (l.length : Int) := by omega
      have h2 : (2 : Int) * (k : Int) + 1 < (l.length : Int) := by omega
      have hk2 : 2 * k + 1 < l.length := by omega
      have hsn := Lib.hid (Nib.joinL_snoc l k hk2)
      have hlen := Nib.joinL_length (l.take (2 * k))
      have HA := Nib.fitL_get l HF.out (2 * k) (by omega)
      have HC := Nib.fitL_get l HF.out (2 * k + 1) (by omega)
      have hb := hbel.size
      obtain ⟨ys, hys⟩ : ∃ ys, Nib.joinL (l.take (2 * k)) = ys := ⟨_, rfl⟩
      have hyl : ys.length ≤ 4000000 := by rw [← hys]; simp [hlen]; omega
      have HY := Lib.hid hys
      rw [hys]
      clear hys hlen hev
      obtain ⟨c, hc⟩ : ∃ c, l[2 * k] = c := ⟨_, rfl⟩
      obtain ⟨d, hd⟩ : ∃ d, l[2 * k + 1] = d := ⟨_, rfl⟩
      have hidx : ∀ h, (⟨l.toArray⟩ : ByteArray)[2 * k]'h = c := fun _ => hc
      have hidy : ∀ h, (⟨l.toArray⟩ : ByteArray)[2 * k + 1]'h = d := fun _ => hd
      rw [hc, hd] at hsn
      rw [hc] at HA
      rw [hd] at HC
      clear hc hd
      have e1 : IntKind.i64.wrap (2 * (k : Int) + 1) = 2 * (k : Int) + 1 := IntWalk.i64_in _ (by omega)
      have e3 : (0 : Int) ≤ 2 * (k : Int) := by omega
      have e4 : (0 : Int) ≤ 2 * (k : Int) + 1 := by omega
      have e5 : (2 * (k : Int)).toNat = 2 * k := by omega
      have e6 : (2 * (k : Int) + 1).toNat = 2 * k + 1 := by omega
      have hcv := conv_one wr (c * 16 + d) ((c.toNat : Int) * 16 + (d.toNat : Int)) (join_toNat c d HA HC)
      go_wp2
      go_region
      go_wp2
      go_roundw
      case rel =>
        refine ⟨k + 1, by omega, by go_num, ?_, (hbel.alloc hb _).drew⟩
        rw [hsn.out, HY.out]
        exact congrArg Value.string (cat_mk ys [c * 16 + d])
      case measure => simp [intOf]; omega
    · go_wp2
      go_ret2
      rw [Nib.joinL_take_end l k (by omega)]
      exact ⟨rfl, hbel⟩

end Go.Proofs.YtgbcilokeiengaaGreatDoor
namespace Go.Proofs.YtgbcilokeiengaaGreatDoor
open Go.RowKit

theorem fit_head (a : UInt8) (ha : a.toNat ≤ 15) (l : List UInt8) (h : Nib.fitL l = true) : Nib.fitL (a :: l) = true := Nib.fit_cons a l ha h
theorem kinds (n : Nat) : (Nib.kindL n false).toNat = n % 2 ∧ (Nib.kindL n true).toNat = n % 2 + 2 := by
  unfold Nib.kindL
  rcases Nat.mod_two_eq_zero_or_one n with h | h <;> simp [h]

set_option maxHeartbeats 400000 in
theorem rpack_even (l : List UInt8) (leaf : Bool) (w : World) (hl : l.length ≤ 100000) (hf : Nib.fitL l = true) (ho : l.length % 2 = 0) :
    Calls Tryz.prog 71 #[.string ⟨l.toArray⟩, .bool leaf] w fun e w' => e = .returned (.tuple #[.string ⟨(Nib.packL l leaf).toArray⟩, .int .i64 0]) ∧ Below w.heap.size w w' := by
  have HF := Lib.hid hf; clear hf
  have HP : Hid (Nib.packL l leaf = Nib.joinL ([Nib.kindL l.length leaf, 0] ++ l)) := by
    unfold Hid Nib.packL Nib.headL; rw [if_neg (by omega)]
  have hm : (l.length : Int) % 2 = 0 := by omega
  have HK := Lib.hid (kinds l.length)
  have HO := Lib.hid ho
  clear ho
  cases leaf
  · have hcv := conv_two' w (Nib.kindL l.length false) 0 0 0 (by rw [HK.out.1, HO.out]; rfl) rfl
    go_enter Tryz.func71, Tryz.ntmps71
    go_wp2_with fail
    refine (rfit_any l w (by omega)).mono ?_
    rintro e w1 ⟨rfl, rfl⟩
    rw [HF.out]
    go_wp2_with fail
    rw [cat_mk]
    refine (rkey_good ([Nib.kindL l.length false, 0] ++ l) _ (by simp; omega) (fit_head _ (by rw [HK.out.1]; omega) _ (fit_head 0 (by simp) l HF.out)) (by have := HO.out; simp; omega)).mono ?_
    rintro e w1 ⟨rfl, hb⟩
    go_wp2
    go_ret2
    rw [HP.out]
    exact ⟨rfl, bchain ((Below.refl _ _).alloc (Nat.le_refl _) _) hb⟩
  · have hcv := conv_two' w (Nib.kindL l.length true) 0 2 0 (by rw [HK.out.2, HO.out]; rfl) rfl
    go_enter Tryz.func71, Tryz.ntmps71
    go_wp2_with fail
    refine (rfit_any l w (by omega)).mono ?_
    rintro e w1 ⟨rfl, rfl⟩
    rw [HF.out]
    go_wp2_with fail
    rw [cat_mk]
    refine (rkey_good ([Nib.kindL l.length true, 0] ++ l) _ (by simp; omega) (fit_head _ (by rw [HK.out.2]; omega) _ (fit_head 0 (by simp) l HF.out)) (by have := HO.out; simp; omega)).mono ?_
    rintro e w1 ⟨rfl, hb⟩
    go_wp2
    go_ret2
    rw [HP.out]
    exact ⟨rfl, bchain ((Below.refl _ _).alloc (Nat.le_refl _) _) hb⟩

set_option maxHeartbeats 400000 in
theorem rpack_odd (l : List UInt8) (leaf : Bool) (w : World) (hl : l.length ≤ 100000) (hf : Nib.fitL l = true) (ho : l.length % 2 = 1) :
    Calls Tryz.prog 71 #[.string ⟨l.toArray⟩, .bool leaf] w fun e w' => e = .returned (.tuple #[.string ⟨(Nib.packL l leaf).toArray⟩, .int .i64 0]) ∧ Below w.heap.size w w' := by
  have HF := Lib.hid hf; clear hf
  have HP : Hid (Nib.packL l leaf = Nib.joinL ([Nib.kindL l.length leaf] ++ l)) := by
    unfold Hid Nib.packL Nib.headL; rw [if_pos ho]
  have hm : (l.length : Int) % 2 = 1 := by omega
  have HK := Lib.hid (kinds l.length)
  have HO := Lib.hid ho
  clear ho
  cases leaf
  · have hcv := conv_two' w (Nib.kindL l.length false) 0 1 0 (by rw [HK.out.1, HO.out]; rfl) rfl
    have hcw := conv_one' (w.alloc (.cells #[.int .u8 1, .int .u8 0] 5)) (Nib.kindL l.length false) 1 (by rw [HK.out.1, HO.out]; rfl) (w.heap.size + 1) (by simp)
    go_enter Tryz.func71, Tryz.ntmps71
    go_wp2_with fail
    refine (rfit_any l w (by omega)).mono ?_
    rintro e w1 ⟨rfl, rfl⟩
    rw [HF.out]
    go_wp2_with fail
    rw [cat_mk]
    refine (rkey_good ([Nib.kindL l.length false] ++ l) _ (by simp; omega) (fit_head _ (by rw [HK.out.1]; omega) l HF.out) (by have := HO.out; simp; omega)).mono ?_
    rintro e w1 ⟨rfl, hb⟩
    go_wp2
    go_ret2
    rw [HP.out]
    exact ⟨rfl, bchain (((Below.refl _ _).alloc (Nat.le_refl _) _).alloc (by simp) _) hb⟩
  · have hcv := conv_two' w (Nib.kindL l.length true) 0 3 0 (by rw [HK.out.2, HO.out]; rfl) rfl
    have hcw := conv_one' (w.alloc (.cells #[.int .u8 3, .int .u8 0] 5)) (Nib.kindL l.length true) 3 (by rw [HK.out.2, HO.out]; rfl) (w.heap.size + 1) (by simp)
    go_enter Tryz.func71, Tryz.ntmps71
    go_wp2_with fail
    refine (rfit_any l w (by omega)).mono ?_
    rintro e w1 ⟨rfl, rfl⟩
    rw [HF.out]
    go_wp2_with fail
    rw [cat_mk]
    refine (rkey_good ([Nib.kindL l.length true] ++ l) _ (by simp; omega) (fit_head _ (by rw [HK.out.2]; omega) l HF.out) (by have := HO.out; simp; omega)).mono ?_
    rintro e w1 ⟨rfl, hb⟩
    go_wp2
    go_ret2
    rw [HP.out]
    exact ⟨rfl, bchain (((Below.refl _ _).alloc (Nat.le_refl _) _).alloc (by simp) _) hb⟩

end Go.Proofs.YtgbcilokeiengaaGreatDoor
namespace Go.Proofs.YtgbcilokeiengaaGreatDoor
open Go.RowKit

set_option maxHeartbeats 400000 in
theorem runpack_nil (w : World) : Calls Tryz.prog 48 #[.string ⟨#[]⟩] w fun e w' => e = .returned (.tuple #[.string ⟨#[]⟩, .bool false, .int .i64 3]) ∧ Below w.heap.size w w' := by
  go_enter Tryz.func48, Tryz.ntmps48
  go_wp2
  go_ret3
  exact ⟨rfl, Below.refl _ _⟩

/-- What the walk needs of the first byte's halves. -/
theorem halves (b : UInt8) : ∃ h g : UInt8, b / 16 = h ∧ b % 16 = g ∧ h.toNat = b.toNat / 16 ∧ g.toNat = b.toNat % 16 := ⟨_, _, rfl, rfl, by simp, by simp⟩

set_option maxHeartbeats 400000 in
theorem runpack_bad (b : UInt8) (t : List UInt8) (w : World) (hl : t.length ≤ 100000) (h : Nib.mayL b = false) :
    Calls Tryz.prog 48 #[.string ⟨(b :: t).toArray⟩] w fun e w' => e = .returned (.tuple #[.string ⟨#[]⟩, .bool false, .int .i64 3]) ∧ Below w.heap.size w w' := by
  obtain ⟨hi, lo, e1, e2, e3, e4⟩ := halves b
  have hm : 3 < hi.toNat ∨ (hi.toNat ≤ 3 ∧ hi.toNat % 2 = 0 ∧ lo.toNat ≠ 0) := by
    rw [e3, e4]
    simp [Nib.mayL] at h
    omega
  have HO : Hid (Nib.ofL (b :: t) = hi :: lo :: Nib.ofL t) := by unfold Hid; rw [Nib.ofL_cons, e1, e2]
  clear e1 e2 e3 e4 h
  obtain ⟨r, hr⟩ : ∃ r, Nib.ofL t = r := ⟨_, rfl⟩
  have hrl := Nib.ofL_length t
  rw [hr] at HO hrl
  have hrl' : r.length ≤ 200000 := by omega
  clear hr hrl
  have i0 : ∀ h, (⟨(hi :: lo :: r).toArray⟩ : ByteArray)[0]'h = hi := fun _ => rfl
  have i1 : ∀ h, (⟨(hi :: lo :: r).toArray⟩ : ByteArray)[1]'h = lo := fun _ => rfl
  rcases hm with hm | ⟨hm, hm2, hm3⟩
  · have t1 : (3 : Int) < (hi.toNat : Int) := by omega
    clear hm
    go_enter Tryz.func48, Tryz.ntmps48
    go_wp2_with fail
    refine (rof_any (b :: t) w (by simp; omega)).mono ?_
    rintro e w1 ⟨rfl, hb1⟩
    rw [HO.out]
    go_wp2
    go_ret3
    exact ⟨rfl, hb1⟩
  · have t1 : (hi.toNat : Int) ≤ 3 := by omega
    have t2 : ((hi.toNat : Int) % 2 == 0) = true := by simp; omega
    have t3 : ((lo.toNat : Int) != 0) = true := by rw [bne_iff_ne]; omega
    clear hm hm2 hm3
    go_enter Tryz.func48, Tryz.ntmps48
    go_wp2_with fail
    refine (rof_any (b :: t) w (by simp; omega)).mono ?_
    rintro e w1 ⟨rfl, hb1⟩
    rw [HO.out]
    go_wp2
    go_ret3
    exact ⟨rfl, hb1⟩

theorem ext2 (a b : UInt8) (r : List UInt8) (n : Nat) (h : n = r.length + 2) : (⟨(a :: b :: r).toArray⟩ : ByteArray).extract 2 n = ⟨r.toArray⟩ := by
  subst h
  apply ByteArray.ext
  simp

theorem ret3 {s s' : ByteArray} {b b' : Bool} (h : s = s') (hb : b = b') : Ending.returned (.tuple #[.string s, .bool b, .int .i64 0]) = .returned (.tuple #[.string s', .bool b', .int .i64 0]) := by rw [h, hb]

set_option maxHeartbeats 400000 in
theorem runpack_odd (b : UInt8) (t : List UInt8) (w : World) (hl : t.length ≤ 100000) (h : Nib.mayL b = true) (ho : b.toNat / 16 % 2 = 1) :
    Calls Tryz.prog 48 #[.string ⟨(b :: t).toArray⟩] w fun e w' => e = .returned (.tuple #[.string ⟨((b % 16) :: Nib.ofL t).toArray⟩, .bool (decide (2 ≤ b.toNat / 16)), .int .i64 0]) ∧ Below w.heap.size w w' := by
  have hle := (Nib.mayL_le b h).1
  obtain ⟨hi, lo, e1, e2, e3, e4⟩ := halves b
  have HO : Hid (Nib.ofL (b :: t) = hi :: lo :: Nib.ofL t) := by unfold Hid; rw [Nib.ofL_cons, e1, e2]
  have t1 : (hi.toNat : Int) ≤ 3 := by omega
  have t2 : ((hi.toNat : Int) % 2 == 0) = false := by simp; omega
  have t3 : ((hi.toNat : Int) % 2 == 1) = true := by simp; omega
  have HD : Hid (decide (2 ≤ b.toNat / 16) = decide ((2 : Int) ≤ (hi.toNat : Int))) := by unfold Hid; rw [e3]; simp; omega
  rw [e2]
  clear e1 e2 e3 e4 h ho hle
  obtain ⟨r, hr⟩ : ∃ r, Nib.ofL t = r := ⟨_, rfl⟩
  have hrl := Nib.ofL_length t
  rw [hr] at HO hrl
  rw [hr]
  have hrl' : r.length ≤ 200000 := by omega
  clear hr hrl
  have i0 : ∀ h, (⟨(hi :: lo :: r).toArray⟩ : ByteArray)[0]'h = hi := fun _ => rfl
  have i1 : ∀ h, (⟨(hi :: lo :: r).toArray⟩ : ByteArray)[1]'h = lo := fun _ => rfl
  go_enter Tryz.func48, Tryz.ntmps48
  go_wp2_with fail
  refine (rof_any (b :: t) w (by simp; omega)).mono ?_
  rintro e w1 ⟨rfl, hb1⟩
  rw [HO.out]
  go_wp2
  go_ret3
  exact ⟨ret3 (extract_mk_tail hi (lo :: r)) HD.out.symm, hb1⟩

set_option maxHeartbeats 400000 in
theorem runpack_even (b : UInt8) (t : List UInt8) (w : World) (hl : t.length ≤ 100000) (h : Nib.mayL b = true) (ho : b.toNat / 16 % 2 = 0) :
    Calls Tryz.prog 48 #[.string ⟨(b :: t).toArray⟩] w fun e w' => e = .returned (.tuple #[.string ⟨(Nib.ofL t).toArray⟩, .bool (decide (2 ≤ b.toNat / 16)), .int .i64 0]) ∧ Below w.heap.size w w' := by
  have hle := (Nib.mayL_le b h).1
  have hz : b.toNat % 16 = 0 := (Nib.mayL_le b h).2.resolve_left (by omega)
  obtain ⟨hi, lo, e1, e2, e3, e4⟩ := halves b
  have HO : Hid (Nib.ofL (b :: t) = hi :: lo :: Nib.ofL t) := by unfold Hid; rw [Nib.ofL_cons, e1, e2]
  have t1 : (hi.toNat : Int) ≤ 3 := by omega
  have t2 : ((hi.toNat : Int) % 2 == 0) = true := by simp; omega
  have t3 : ((hi.toNat : Int) % 2 == 1) = false := by simp; omega
  have t4 : ((lo.toNat : Int) != 0) = false := by simp; omega
  have HD : Hid (decide (2 ≤ b.toNat / 16) = decide ((2 : Int) ≤ (hi.toNat : Int))) := by unfold Hid; rw [e3]; simp; omega
  clear e1 e2 e3 e4 h ho hle hz
  obtain ⟨r, hr⟩ : ∃ r, Nib.ofL t = r := ⟨_, rfl⟩
  have hrl := Nib.ofL_length t
  rw [hr] at HO hrl
  rw [hr]
  have hrl' : r.length ≤ 200000 := by omega
  clear hr hrl
  have i0 : ∀ h, (⟨(hi :: lo :: r).toArray⟩ : ByteArray)[0]'h = hi := fun _ => rfl
  have i1 : ∀ h, (⟨(hi :: lo :: r).toArray⟩ : ByteArray)[1]'h = lo := fun _ => rfl
  go_enter Tryz.func48, Tryz.ntmps48
  go_wp2_with fail
  refine (rof_any (b :: t) w (by simp; omega)).mono ?_
  rintro e w1 ⟨rfl, hb1⟩
  rw [HO.out]
  go_wp2
  go_ret3
  exact ⟨ret3 (ext2 hi lo r _ rfl) HD.out.symm, hb1⟩

end Go.Proofs.YtgbcilokeiengaaGreatDoor
namespace Go.Proofs.YtgbcilokeiengaaGreatDoor
open Go.RowKit

theorem rpack_good (l : List UInt8) (leaf : Bool) (w : World) (hl : l.length ≤ 100000) (hf : Nib.fitL l = true) :
    Calls Tryz.prog 71 #[.string ⟨l.toArray⟩, .bool leaf] w fun e w' => e = .returned (.tuple #[.string ⟨(Nib.packL l leaf).toArray⟩, .int .i64 0]) ∧ Below w.heap.size w w' := by
  rcases Nat.mod_two_eq_zero_or_one l.length with h | h
  · exact rpack_even l leaf w hl hf h
  · exact rpack_odd l leaf w hl hf h
theorem runpack_none (s : List UInt8) (w : World) (hl : s.length ≤ 100000) (h : Nib.unpackL s = none) :
    Calls Tryz.prog 48 #[.string ⟨s.toArray⟩] w fun e w' => e = .returned (.tuple #[.string ⟨#[]⟩, .bool false, .int .i64 3]) ∧ Below w.heap.size w w' := by
  match s, hl, h with
  | [], _, _ => exact runpack_nil w
  | b :: t, hl, h =>
    have hm : Nib.mayL b = false := by
      rcases hm : Nib.mayL b with _ | _
      · rfl
      · rcases Nat.mod_two_eq_zero_or_one (b.toNat / 16) with h1 | h1
        · rw [Nib.unpackL_even b t hm h1] at h; cases h
        · rw [Nib.unpackL_odd b t hm h1] at h; cases h
    exact runpack_bad b t w (by simp at hl; omega) hm
theorem runpack_some (s p : List UInt8) (is : Bool) (w : World) (hl : s.length ≤ 100000) (h : Nib.unpackL s = some (p, is)) :
    Calls Tryz.prog 48 #[.string ⟨s.toArray⟩] w fun e w' => e = .returned (.tuple #[.string ⟨p.toArray⟩, .bool is, .int .i64 0]) ∧ Below w.heap.size w w' := by
  match s, hl, h with
  | b :: t, hl, h =>
    have hm := Nib.unpackL_may b t p is h
    rcases Nat.mod_two_eq_zero_or_one (b.toNat / 16) with h1 | h1
    · rw [Nib.unpackL_even b t hm h1] at h
      simp only [Option.some.injEq, Prod.mk.injEq] at h
      obtain ⟨rfl, rfl⟩ := h
      exact runpack_even b t w (by simp at hl; omega) hm h1
    · rw [Nib.unpackL_odd b t hm h1] at h
      simp only [Option.some.injEq, Prod.mk.injEq] at h
      obtain ⟨rfl, rfl⟩ := h
      exact runpack_odd b t w (by simp at hl; omega) hm h1

end Go.Proofs.YtgbcilokeiengaaGreatDoor
namespace Go.Proofs.YtgbcilokeiengaaGreatDoor
open Go.RowKit

set_option maxRecDepth 8000 in
set_option maxHeartbeats 1000000 in
theorem rntext_st (most : Int) (st : Nd.St) (g : Nat) (w : World) (h : RRd w g st.1 st.2) (hl : st.1.length ≤ 100000000) :
    Calls Tryz.prog 47 #[.pointer (some ⟨g, 0, none⟩), .int .i64 most] w fun e w' => e = .returned (.string ⟨(Nd.rdT most st).1.toArray⟩) ∧ RRd w' g (Nd.rdT most st).2.1 (Nd.rdT most st).2.2 ∧ Only g w w' := by
  obtain ⟨s, c⟩ := st
  dsimp only at h hl
  have h0 := h.left
  have h1 := h.code
  unfold Nd.rdT
  dsimp only
  by_cases hc : c = 0
  · subst hc
    rw [if_neg (by simp)]
    have HT := Lib.hid (rtextm_any most s w hl)
    have HP := Lib.hid (Code.textR_Pm most s)
    obtain ⟨⟨x, r, e⟩, hp⟩ : ∃ p, Code.textPm most s = p := ⟨_, rfl⟩
    rw [hp] at HT HP
    dsimp only at HT HP
    rw [HP.out]
    have HR := Lib.hid h
    clear hp hl
    by_cases he : e = 0
    · subst he
      rw [if_neg (by simp)]
      dsimp only
      go_enter Tryz.func47, Tryz.ntmps47
      go_wp2_with fail
      refine HT.out.mono ?_
      rintro e w1 ⟨rfl, hb⟩
      have h2 := HR.out.below hb
      have h3 := h2.setCode 0
      have HO : Hid (Only g w w1) := Lib.hid (Only.of hb)
      have g1 := h2.code
      have g0 := h3.left
      have f1 := h2.free1
      have f0 := h3.free0
      have HR3 := Lib.hid h3
      clear h2 h3 hb h0 h1 h
      go_wp2
      go_ret
      exact ⟨rfl, HR3.out.setLeft r, (HO.out.setCell rfl _).setCell rfl _⟩
    · rw [if_pos he]
      dsimp only
      have he' : (e != 0) = true := by rw [bne_iff_ne]; exact he
      go_enter Tryz.func47, Tryz.ntmps47
      go_wp2_with fail
      refine HT.out.mono ?_
      rintro e w1 ⟨rfl, hb⟩
      have h2 := HR.out.below hb
      have HO : Hid (Only g w w1) := Lib.hid (Only.of hb)
      have g1 := h2.code
      have f1 := h2.free1
      have HR2 := Lib.hid h2
      clear h2 hb h0 h1 h
      go_wp2
      go_ret
      exact ⟨rfl, HR2.out.setCode _, HO.out.setCell rfl _⟩
  · rw [if_pos hc]
    have hc' : (c != 0) = true := by rw [bne_iff_ne]; exact hc
    go_enter Tryz.func47, Tryz.ntmps47
    go_wp2
    go_ret
    exact ⟨rfl, h, Only.refl _ _⟩
set_option maxRecDepth 8000 in
set_option maxHeartbeats 1000000 in
theorem rnbytes_st (n : Nat) (st : Nd.St) (g : Nat) (w : World) (h : RRd w g st.1 st.2) (hl : st.1.length ≤ 100000000) :
    Calls Tryz.prog 46 #[.pointer (some ⟨g, 0, none⟩), .int .i64 n] w fun e w' => e = .returned (.string ⟨(Nd.rdB n st).1.toArray⟩) ∧ RRd w' g (Nd.rdB n st).2.1 (Nd.rdB n st).2.2 ∧ Only g w w' := by
  obtain ⟨s, c⟩ := st
  dsimp only at h hl
  have h0 := h.left
  have h1 := h.code
  have f0 := h.free0
  have f1 := h.free1
  unfold Nd.rdB
  dsimp only
  by_cases hc : c = 0
  · subst hc
    rw [if_neg (by simp)]
    have hn0 : ¬ ((n : Int) < 0) := by omega
    by_cases hs : s.length < n
    · rw [if_pos hs]
      have hs1 : (s.length : Int) < (n : Int) := by omega
      have HR := Lib.hid h
      clear hs
      go_enter Tryz.func46, Tryz.ntmps46
      go_wp2
      go_ret
      exact ⟨rfl, HR.out.setCode _, (Only.refl g w).setCell rfl _⟩
    · rw [if_neg hs]
      have hs1 : ¬ ((s.length : Int) < (n : Int)) := by omega
      have hs2 : (n : Int) ≤ (s.length : Int) := by omega
      have HR := Lib.hid h
      have et := ext_take s n
      have ed := ext_drop s n
      clear hs
      go_enter Tryz.func46, Tryz.ntmps46
      go_wp2
      go_ret
      exact ⟨rfl, HR.out.setLeft _, (Only.refl g w).setCell rfl _⟩
  · rw [if_pos hc]
    have hc' : (c != 0) = true := by rw [bne_iff_ne]; exact hc
    go_enter Tryz.func46, Tryz.ntmps46
    go_wp2
    go_ret
    exact ⟨rfl, h, Only.refl _ _⟩
theorem rnunpack_any (s : List UInt8) (w : World) (hl : s.length ≤ 100000) :
    Calls Tryz.prog 48 #[.string ⟨s.toArray⟩] w fun e w' => ((Nib.unpackL s = none ∧ e = .returned (.tuple #[.string ⟨#[]⟩, .bool false, .int .i64 3])) ∨ ∃ p is, Nib.unpackL s = some (p, is) ∧ e = .returned (.tuple #[.string ⟨p.toArray⟩, .bool is, .int .i64 0])) ∧ Below w.heap.size w w' := by
  match h : Nib.unpackL s with
  | none =>
    refine (runpack_none s w hl h).mono ?_
    rintro e w' ⟨rfl, hb⟩
    exact ⟨Or.inl ⟨rfl, rfl⟩, hb⟩
  | some (p, is) =>
    refine (runpack_some s p is w hl h).mono ?_
    rintro e w' ⟨rfl, hb⟩
    exact ⟨Or.inr ⟨p, is, rfl, rfl⟩, hb⟩
/-- The document's reading. -/
def Nd.rdR (k : UInt8) (r : List UInt8) : Option (Nd.N × Nd.St) :=
  if k.toNat = 3 then (if (Nd.rdB 2 (r, 0)).1.length < 2 then none else some (⟨3, [], (Nd.rdT 32 (Nd.rdK (r, 0)).2).1, (Nd.rdK (r, 0)).1⟩, (Nd.rdT 32 (Nd.rdK (r, 0)).2).2))
  else match Nib.unpackL (Nd.rdT 100 (r, 0)).1 with
    | none => none
    | some (p, _) => if k.toNat = 1 then some (⟨1, p, (Nd.rdT 32 (Nd.rdT 100 (r, 0)).2).1, Nd.none16⟩, (Nd.rdT 32 (Nd.rdT 100 (r, 0)).2).2)
      else some (⟨(k.toNat : Int), p, [], Nd.none16.set 0 (Nd.rdB 32 (Nd.rdT 100 (r, 0)).2).1⟩, (Nd.rdB 32 (Nd.rdT 100 (r, 0)).2).2)
def Nd.okR (s : List UInt8) (m : Nd.N) (st : Nd.St) : Bool := decide (st.2 = 0) && (Nd.fine m && decide (Nd.written m = s))
def Nd.decR : List UInt8 → Nd.N × Int
  | [] => (Nd.zero, 80)
  | k :: r => match Nd.rdR k r with
    | none => (Nd.zero, 80)
    | some (m, st) => if Nd.okR (k :: r) m st = true then (m, 0) else (Nd.zero, 80)
theorem Nd.rdR_kids {k : UInt8} {r : List UInt8} {m : Nd.N} {st : Nd.St} (h : Nd.rdR k r = some (m, st)) : m.kids.length = 16 := by
  unfold Nd.rdR at h
  split at h
  · split at h
    · cases h
    · cases h; exact Nd.rdK_len _
  · split at h
    · cases h
    · split at h
      · cases h; rfl
      · cases h; simp [Nd.none16]
theorem Nd.rdR_written (m : Nd.N) (hm : m.kids.length = 16) (hf : Nd.fine m = true) : ∃ k r st, Nd.written m = k :: r ∧ Nd.rdR k r = some (m, st) ∧ st.2 = 0 := by
  have hf0 := hf
  rw [Nd.fine_kinds m hm] at hf
  obtain ⟨kd, p, v, ks⟩ := m
  simp only at hm hf
  by_cases k1 : kd = 1
  · subst k1
    rw [if_pos rfl] at hf
    simp only [Nd.leafB, Nd.pathB, Bool.and_eq_true, decide_eq_true_eq, beq_iff_eq] at hf
    obtain ⟨⟨a, b⟩, c, d, e⟩ := hf
    subst e
    refine ⟨1, Code.textL (Nib.packL p true) ++ Code.textL v, ([], 0), rfl, ?_, rfl⟩
    have h1 := Nd.rdT_text 100 (Nib.packL p true) (Code.textL v) (by rw [Nib.packL_length]; omega) (by decide)
    have h2 := Nd.rdT_text 32 v [] d (by decide)
    rw [List.append_nil] at h2
    rw [show ((100 : Nat) : Int) = 100 from rfl] at h1
    rw [show ((32 : Nat) : Int) = 32 from rfl] at h2
    unfold Nd.rdR
    rw [if_neg (by decide), h1]
    simp only [Nib.unpack_pack p true b]
    rw [if_pos (by decide), h2]
  rw [if_neg k1] at hf
  by_cases k2 : kd = 2
  · subst k2
    rw [if_pos rfl] at hf
    simp only [Nd.extB, Nd.pathB, Bool.and_eq_true, decide_eq_true_eq, beq_iff_eq] at hf
    obtain ⟨a, ⟨b, c⟩, d, e, f⟩ := hf
    subst d
    have hk : Nd.none16.set 0 (ks.getD 0 []) = ks := by
      match ks, hm with
      | z :: l, hm => rw [← f]; simp
    refine ⟨2, Code.textL (Nib.packL p false) ++ ks.getD 0 [], ([], 0), rfl, ?_, rfl⟩
    have h1 := Nd.rdT_text 100 (Nib.packL p false) (ks.getD 0 []) (by rw [Nib.packL_length]; omega) (by decide)
    have h2 := Nd.rdB_app (ks.getD 0 []) [] 32 e
    rw [List.append_nil] at h2
    rw [show ((100 : Nat) : Int) = 100 from rfl] at h1
    unfold Nd.rdR
    rw [if_neg (by decide), h1]
    simp only [Nib.unpack_pack p false c]
    rw [if_neg (by decide), h2]
    simp only
    rw [hk]
    rfl
  rw [if_neg k2] at hf
  by_cases k3 : kd = 3
  · subst k3
    rw [if_pos rfl] at hf
    simp only [Nd.branchB, Bool.and_eq_true, decide_eq_true_eq] at hf
    obtain ⟨a, b, c, d⟩ := hf
    subst a
    refine ⟨3, Nd.takenL ks ++ (ks.flatten ++ Code.textL v), ([], 0), rfl, ?_, rfl⟩
    have h2 := Nd.rdT_text 32 v [] b (by decide)
    rw [List.append_nil] at h2
    rw [show ((32 : Nat) : Int) = 32 from rfl] at h2
    unfold Nd.rdR
    rw [if_pos (by decide), Nd.rdB_app (Nd.takenL ks) _ 2 rfl, if_neg (by show ¬ (2 < 2); decide), Nd.rdK_taken ks _ hm c, h2]
  rw [if_neg k3] at hf
  cases hf
theorem Nd.decR_is (s : List UInt8) : Nd.DecIs s (Nd.decR s) := by
  have key : Nd.decR s = (Nd.zero, 80) → ∀ m : Nd.N, m.kids.length = 16 → Nd.fine m = true → Nd.written m ≠ s := by
    intro h m hm hf he
    obtain ⟨k, r, st, h1, h2, h3⟩ := Nd.rdR_written m hm hf
    rw [← he, h1] at h
    simp only [Nd.decR, h2] at h
    rw [if_pos (by simp [Nd.okR, h3, hf, h1])] at h
    cases h
  match s with
  | [] => exact Or.inr ⟨rfl, rfl, key rfl⟩
  | k :: r =>
    match hR : Nd.rdR k r with
    | none =>
      have e : Nd.decR (k :: r) = (Nd.zero, 80) := by simp only [Nd.decR, hR]
      rw [e]
      exact Or.inr ⟨rfl, rfl, key e⟩
    | some (m, st) =>
      cases ho : Nd.okR (k :: r) m st with
      | false =>
        have e : Nd.decR (k :: r) = (Nd.zero, 80) := by
          simp only [Nd.decR, hR, ho]
          rfl
        rw [e]
        exact Or.inr ⟨rfl, rfl, key e⟩
      | true =>
        have e : Nd.decR (k :: r) = (m, 0) := by
          simp only [Nd.decR, hR, ho]
          rfl
        rw [e]
        simp only [Nd.okR, Bool.and_eq_true, decide_eq_true_eq] at ho
        exact Or.inl ⟨rfl, ho.2.1, Nd.rdR_kids hR, ho.2.2⟩
theorem Nd.dec_same (s : List UInt8) : Nd.decR s = Nd.dec s := Nd.dec_one (Nd.decR_is s) (Nd.dec_is s)
end Go.Proofs.YtgbcilokeiengaaGreatDoor
namespace Go.Proofs.YtgbcilokeiengaaGreatDoor
open Go.RowKit
open Go.Proofs.YtgbcilokeiengaaGreatDoor.Nd (N)

theorem Code.textL_le (s : List UInt8) (n : Nat) (h : s.length ≤ n) (hn : n ≤ 100) : (Code.textL s).length ≤ n + 9 := by
  rw [Code.textL_length]
  have : Code.sz s.length ≤ 8 := Code.sz_le8 s.length (by omega)
  omega
set_option maxRecDepth 100000 in
set_option maxHeartbeats 2000000 in
theorem rWritten_flat (n : N) (w : World) (hk : n.kind = 1 ∨ n.kind = 2) (hn : n.kids.length = 16) (hf : Nib.fitL n.path = true) (hp : n.path.length ≤ 16) (hv : n.val.length ≤ 32) (hk0 : (n.kids.getD 0 []).length ≤ 32) :
    Calls Tryz.prog 50 #[ndval n] w fun e w' => e = .returned (.string ⟨(Nd.written n).toArray⟩) ∧ Below w.heap.size w w' := by
  have hat : NodeAt (w.alloc (.cells (ncl n).toArray 72)) w.heap.size n := heap_new_at w _ _ rfl
  have HAT := Lib.hid hat
  have hb0 : Below w.heap.size w (w.alloc (.cells (ncl n).toArray 72)) := (Below.refl _ w).alloc (Nat.le_refl _) _
  have HB0 := Lib.hid hb0
  have hkid : ∀ w' g, NodeAt w' g n → w'.cell? ⟨g, 3, none⟩ = some (.string ⟨(n.kids.getD 0 []).toArray⟩) := fun w' g h => by
    have h1 := h.kid 0 (by omega)
    have h2 : n.kids.getD 0 [] = n.kids[0]'(by omega) := by
      rw [List.getD_eq_getElem?_getD, List.getElem?_eq_getElem (by omega)]
      rfl
    rw [h2]
    exact h1
  have HCE : Hid (∀ w', Below (w.alloc (.cells (ncl n).toArray 72)).heap.size (w.alloc (.cells (ncl n).toArray 72)) w' → w'.cell? ⟨w.heap.size, 0, none⟩ = some (.int .i64 n.kind) ∧ w'.cell? ⟨w.heap.size, 1, none⟩ = some (.string ⟨n.path.toArray⟩) ∧ w'.cell? ⟨w.heap.size, 2, none⟩ = some (.string ⟨n.val.toArray⟩) ∧ w'.cell? ⟨w.heap.size, 3, none⟩ = some (.string ⟨(n.kids.getD 0 []).toArray⟩)) := Lib.hid (fun w' h => by
    have := hat.below h
    exact ⟨this.kind, this.path, this.val, hkid w' _ this⟩)
  have HPK := Lib.hid (fun leaf w => rpack_good n.path leaf w (by omega) hf)
  have hpl := Nib.packL_length n.path
  have HT := Lib.hid (fun s (h : s.length ≤ 100) w => rText_any s w (by omega))
  have htl := Code.textL_le n.val 32 hv (by omega)
  unfold ndval
  obtain ⟨C, hC⟩ : ∃ C, (ncl n).toArray = C := ⟨_, rfl⟩
  obtain ⟨Z, hZ⟩ : ∃ Z, n.kids.getD 0 [] = Z := ⟨_, rfl⟩
  obtain ⟨T2, hT2⟩ : ∃ T, Code.textL n.val = T := ⟨_, rfl⟩
  rcases hk with hk | hk
  · have hpl1 : (Nib.packL n.path true).length ≤ 9 := by rw [hpl]; omega
    have htl1 := Code.textL_le _ 9 hpl1 (by omega)
    have HT1 := Lib.hid (fun w => HT.out (Nib.packL n.path true) (by omega) w)
    have HT2 := Lib.hid (fun w => HT.out n.val (by omega) w)
    have HPK1 := Lib.hid (fun w => HPK.out true w)
    obtain ⟨P, hP⟩ : ∃ P, Nib.packL n.path true = P := ⟨_, rfl⟩
    obtain ⟨T1, hT1⟩ : ∃ T, Code.textL P = T := ⟨_, rfl⟩
    have hW : Nd.written n = [1] ++ T1 ++ T2 := by
      unfold Nd.written
      rw [hk, if_neg (by decide), if_pos rfl, ← hT1, ← hP, ← hT2]
      simp
    have h1 := cat_mk [1] T1
    have h2 := cat_mk ([1] ++ T1) T2
    rw [hP] at HT1 HPK1 htl1
    rw [hT1] at HT1 htl1
    rw [hT2] at HT2 htl
    rw [hk] at HCE
    rw [hW]
    rw [hC] at HB0 HCE ⊢
    have hlX : ([1] ++ T1 : List UInt8).length ≤ 30 := by simp; omega
    have hlW : ([1] ++ T1 ++ T2 : List UInt8).length ≤ 100 := by simp; omega
    obtain ⟨X, hX⟩ : ∃ X, ([1] ++ T1 : List UInt8) = X := ⟨_, rfl⟩
    rw [hX] at h1 h2 hlX hlW ⊢
    obtain ⟨Y, hY⟩ : ∃ Y, X ++ T2 = Y := ⟨_, rfl⟩
    rw [hY] at h2 hlW ⊢
    clear HAT hat hb0 hkid hpl hP hT1 hT2 hW hX hY hC hZ hf hp hv hk0 HPK HT hpl1
    obtain ⟨b0, -, -, -⟩ := HCE.out _ (Below.refl _ _)
    have hb1 : Below (w.alloc (.cells C 72)).heap.size (w.alloc (.cells C 72)) ((w.alloc (.cells C 72)).alloc (.cells #[.int .u8 1] 5)) := (Below.refl _ _).alloc (Nat.le_refl _) _
    obtain ⟨c0, c1, c2, c3⟩ := HCE.out _ hb1
    have HB1 := Lib.hid hb1
    have HFI : Hid (∀ w', Below (w.alloc (.cells C 72)).heap.size (w.alloc (.cells C 72)) w' → Below w.heap.size w w') := Lib.hid (fun w' h => HB0.out.trans (h.mono (by simp)))
    clear hb1
    have kc := conv_one' (w.alloc (.cells C 72)) 1 1 rfl (w.heap.size + 1) (by simp)
    go_enter Tryz.func50, Tryz.ntmps50
    go_wp2_with fail
    refine (HPK1.out _).mono ?_
    rintro e w1 ⟨rfl, hb⟩
    have HB2 := Lib.hid (bchain HB1.out hb)
    clear hb b0 c0 c1 c2 c3
    go_wp2_with fail
    refine (HT1.out _).mono ?_
    rintro e w2 ⟨rfl, hb⟩
    have HB3 := Lib.hid (bchain HB2.out hb)
    clear hb
    obtain ⟨c0, c1, c2, c3⟩ := HCE.out _ HB3.out
    go_wp2_with fail
    refine (HT2.out _).mono ?_
    rintro e w3 ⟨rfl, hb⟩
    have HB4 := Lib.hid (bchain HB3.out hb)
    go_wp2
    go_ret
    exact ⟨rfl, HFI.out _ HB4.out⟩
  · have hpl1 : (Nib.packL n.path false).length ≤ 9 := by rw [hpl]; omega
    have htl1 := Code.textL_le _ 9 hpl1 (by omega)
    have HT1 := Lib.hid (fun w => HT.out (Nib.packL n.path false) (by omega) w)
    have HPK1 := Lib.hid (fun w => HPK.out false w)
    obtain ⟨P, hP⟩ : ∃ P, Nib.packL n.path false = P := ⟨_, rfl⟩
    obtain ⟨T1, hT1⟩ : ∃ T, Code.textL P = T := ⟨_, rfl⟩
    have hW : Nd.written n = [2] ++ T1 ++ Z := by
      unfold Nd.written
      rw [hk, if_neg (by decide), if_neg (by decide), ← hT1, ← hP, hZ]
      simp
    have h1 := cat_mk [2] T1
    have h2 := cat_mk ([2] ++ T1) Z
    rw [hP] at HT1 HPK1 htl1
    rw [hT1] at HT1 htl1
    rw [hZ] at hk0 HCE
    rw [hk] at HCE
    rw [hW]
    rw [hC] at HB0 HCE ⊢
    have hlX : ([2] ++ T1 : List UInt8).length ≤ 30 := by simp; omega
    have hlW : ([2] ++ T1 ++ Z : List UInt8).length ≤ 100 := by simp; omega
    obtain ⟨X, hX⟩ : ∃ X, ([2] ++ T1 : List UInt8) = X := ⟨_, rfl⟩
    rw [hX] at h1 h2 hlX hlW ⊢
    obtain ⟨Y, hY⟩ : ∃ Y, X ++ Z = Y := ⟨_, rfl⟩
    rw [hY] at h2 hlW ⊢
    clear HAT hat hb0 hkid hpl hP hT1 hT2 hW hX hY hC hZ hf hp hv HPK HT hpl1
    obtain ⟨b0, -, -, -⟩ := HCE.out _ (Below.refl _ _)
    have hb1 : Below (w.alloc (.cells C 72)).heap.size (w.alloc (.cells C 72)) ((w.alloc (.cells C 72)).alloc (.cells #[.int .u8 2] 5)) := (Below.refl _ _).alloc (Nat.le_refl _) _
    obtain ⟨c0, c1, c2, c3⟩ := HCE.out _ hb1
    have HB1 := Lib.hid hb1
    have HFI : Hid (∀ w', Below (w.alloc (.cells C 72)).heap.size (w.alloc (.cells C 72)) w' → Below w.heap.size w w') := Lib.hid (fun w' h => HB0.out.trans (h.mono (by simp)))
    clear hb1
    have kc := conv_one' (w.alloc (.cells C 72)) 2 2 rfl (w.heap.size + 1) (by simp)
    go_enter Tryz.func50, Tryz.ntmps50
    go_wp2_with fail
    refine (HPK1.out _).mono ?_
    rintro e w1 ⟨rfl, hb⟩
    have HB2 := Lib.hid (bchain HB1.out hb)
    clear hb b0 c0 c1 c2 c3
    go_wp2_with fail
    refine (HT1.out _).mono ?_
    rintro e w2 ⟨rfl, hb⟩
    have HB3 := Lib.hid (bchain HB2.out hb)
    clear hb
    obtain ⟨c0, c1, c2, c3⟩ := HCE.out _ HB3.out
    go_wp2
    go_ret
    exact ⟨rfl, HFI.out _ HB3.out⟩
end Go.Proofs.YtgbcilokeiengaaGreatDoor
