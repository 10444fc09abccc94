/- The law ScanBehind, walked. -/
import Derived.Test.YtkdecmijnojhoaaDoorPk10
import Derived.Test.YtkdecmijnojhoaaDoorPk11
namespace Go.Proofs.YtkdecmijnojhoaaDoor
open Go.RowKit
open Sto (T St)

set_option maxRecDepth 100000 in
set_option maxHeartbeats 4000000 in
theorem scanBehind_walk (HBE : BehindOk) (HRA : RangeOk) (a b : T) (w : World) (ha : a.length ≤ maxLen) (hT : Tab w) :
    Calls Tryd.prog 4 #[.string ⟨a.toArray⟩, .string ⟨b.toArray⟩] w fun e w' => e = .returned (.bool true) ∧ Below w.heap.size w w' := by
  have HWK := Lib.hid (scworks_any HBE HRA w hT)
  have HBK := Lib.hid (fun w => HBE a w ha)
  clear HBE HRA hT ha
  go_enter Tryd.func4, Tryd.ntmps4
  go_wp2_with fail
  refine HWK.out.mono ?_
  rintro e w1 ⟨rfl, hb1⟩
  have HB1 := Lib.hid hb1
  clear hb1 HWK
  by_cases ha8 : 8 < a.length
  · have q1 : (8 : Int) < (a.length : Int) := by omega
    have q2 : decide ((8 : Int) < (a.length : Int)) = true := decide_eq_true q1
    have q3 : ¬ ((a.length : Int) ≤ 8) := by omega
    have q4 : decide ((a.length : Int) ≤ 8) = false := decide_eq_false q3
    have hbh : Scn.behind a = [] := Scn.behind_long ha8
    rw [hbh] at HBK
    clear ha8
    go_wp2_with fail
    refine (HBK.out w1).mono ?_
    rintro e w2 ⟨rfl, hb2⟩
    go_wp2
    go_ret
    exact ⟨rfl, bchain HB1.out hb2⟩
  have q1 : ¬ ((8 : Int) < (a.length : Int)) := by omega
  have q2 : decide ((8 : Int) < (a.length : Int)) = false := decide_eq_false q1
  have q3 : (a.length : Int) ≤ 8 := by omega
  have q4 : decide ((a.length : Int) ≤ 8) = true := decide_eq_true q3
  by_cases hb8 : 8 < b.length
  · have r1 : (8 : Int) < (b.length : Int) := by omega
    have r2 : decide ((8 : Int) < (b.length : Int)) = true := decide_eq_true r1
    clear ha8 hb8 HBK
    go_wp2
    go_ret
    exact ⟨rfl, HB1.out⟩
  have r1 : ¬ ((8 : Int) < (b.length : Int)) := by omega
  have r2 : decide ((8 : Int) < (b.length : Int)) = false := decide_eq_false r1
  have hle := Scn.behind_least (a := a) (b := b) (by omega) (by omega)
  obtain ⟨N, hN⟩ : ∃ N, Scn.behind a = N := ⟨_, rfl⟩
  rw [hN] at hle HBK
  clear hN ha8 hb8
  go_wp2_with fail
  refine (HBK.out w1).mono ?_
  rintro e w2 ⟨rfl, hb2⟩
  have HB2 := Lib.hid (bchain HB1.out hb2)
  clear hb2
  cases N with
  | nil =>
    have h := hle.1 rfl
    clear hle
    rcases List.le_iff_lt_or_eq.1 h with h | h
    · have e1 : Op.bytesLess b a = true := by rw [less_lt]; exact decide_eq_true h
      clear h
      go_wp2
      go_ret
      exact ⟨rfl, HB2.out⟩
    · have e1 : Op.bytesLess b a = false := by rw [less_lt, h]; exact decide_eq_false (List.lt_irrefl _)
      have e2 : (b == a) = true := beq_iff_eq.2 h
      clear h
      go_wp2
      go_ret
      exact ⟨rfl, HB2.out⟩
  | cons n N =>
    obtain ⟨h1, h2, h3⟩ := hle.2 (by simp)
    have e1 : Op.bytesLess (n :: N) a = false := by rw [less_lt]; exact decide_eq_false fun h => List.lt_irrefl _ (List.lt_trans h h1)
    have e0 : ((n :: N) == a) = false := by rw [beq_eq_false_iff_ne]; exact fun h => List.lt_irrefl _ (h ▸ h1)
    have s1 : (((n :: N).length : Nat) : Int) ≤ 8 := by omega
    have s2 : decide ((((n :: N).length : Nat) : Int) ≤ 8) = true := decide_eq_true s1
    obtain ⟨M, hM⟩ : ∃ M, n :: N = M := ⟨_, rfl⟩
    have hMe : (M == []) = false := by rw [← hM]; rfl
    have hMi : M.isEmpty = false := by rw [← hM]; rfl
    rw [hM] at e0 e1 s1 s2 h3 ⊢
    clear hle h1 h2 hM
    by_cases hab : a < b
    · have e2 : Op.bytesLess b a = false := by rw [less_lt]; exact decide_eq_false fun h => List.lt_irrefl _ (List.lt_trans h hab)
      have e4 : (b == a) = false := by rw [beq_eq_false_iff_ne]; exact fun h => List.lt_irrefl _ (h ▸ hab)
      have e3 : Op.bytesLess b M = false := by rw [less_lt]; exact decide_eq_false (List.not_lt.2 (h3.1 hab))
      clear h3 hab
      go_wp2
      go_ret
      exact ⟨rfl, HB2.out⟩
    · have e3 : Op.bytesLess b M = true := by rw [less_lt]; exact decide_eq_true (Classical.byContradiction fun h => hab (h3.2 (List.not_lt.1 h)))
      rcases List.le_iff_lt_or_eq.1 (List.not_lt.1 hab) with h | h
      · have e2 : Op.bytesLess b a = true := by rw [less_lt]; exact decide_eq_true h
        clear h3 hab h
        go_wp2
        go_ret
        exact ⟨rfl, HB2.out⟩
      · have e2 : Op.bytesLess b a = false := by rw [less_lt, h]; exact decide_eq_false (List.lt_irrefl _)
        have e4 : (b == a) = true := beq_iff_eq.2 h
        clear h3 hab h
        go_wp2
        go_ret
        exact ⟨rfl, HB2.out⟩
theorem scanBehind_law (HBE : BehindOk) (HRA : RangeOk) (a b : ByteArray) (w : World) (ha : a.size ≤ maxLen) (_ : b.size ≤ maxLen) (hT : Tab w) :
    Calls Tryd.prog 4 #[.string a, .string b] w fun e w' => e = .returned (.bool true) ∧ Below w.heap.size w w' := by
  obtain ⟨x, rfl⟩ := bytes_list a
  obtain ⟨y, rfl⟩ := bytes_list b
  exact scanBehind_walk HBE HRA x y w ha hT
theorem scanBehind_done (a b : ByteArray) (w : World) (ha : a.size ≤ maxLen) (hb : b.size ≤ maxLen) (hT : Tab w) :
    Calls Tryd.prog 4 #[.string a, .string b] w fun e w' => e = .returned (.bool true) ∧ Below w.heap.size w w' := scanBehind_law behind_ok range_ok a b w ha hb hT
end Go.Proofs.YtkdecmijnojhoaaDoor
