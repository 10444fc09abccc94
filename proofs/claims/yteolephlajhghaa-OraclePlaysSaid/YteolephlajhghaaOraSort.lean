/- The order of signatures (oracle.inOrder), and the library's sort by it. -/
import Derived.Test.YteolephlajhghaaOraBase
import Derived.Test.YteolephlajhghaaOraShelf
namespace Go.Proofs.Yteolephlajhghaa
open Go.RowKit Go.Sort
open Go.Proofs.Yteolephlajhghaa.Ora (K Sig)

/-- Draws and new blocks, nothing else. -/
def Grew (w w' : World) : Prop := ∃ q os, w' = grow (w.drewN q) os
theorem Grew.refl (w : World) : Grew w w := ⟨0, #[], by simp [World.drewN]⟩
theorem Grew.alloc {a w : World} (h : Grew a w) (o : Obj) : Grew a (w.alloc o) := by
  obtain ⟨q, os, rfl⟩ := h
  exact ⟨q, os ++ #[o], by rw [alloc_eq_grow, grow_grow]⟩
theorem Grew.drew {a w : World} (h : Grew a w) : Grew a w.drew := by
  obtain ⟨q, os, rfl⟩ := h
  exact ⟨q + 1, os, rfl⟩
theorem Grew.drewN {a w : World} (h : Grew a w) (n : Nat) : Grew a (w.drewN n) := by
  obtain ⟨q, os, rfl⟩ := h
  exact ⟨q + n, os, by simp [World.drewN, grow, Nat.add_assoc]⟩
theorem Grew.below {w w' : World} (h : Grew w w') : Below w.heap.size w w' := by
  obtain ⟨q, os, rfl⟩ := h
  exact ⟨rfl, rfl, rfl, by simp [grow, World.drewN], fun k hk => heap_grow_old (w.drewN q) os hk⟩

/-- strings.Compare, cmp.Or of two, as plain functions. -/
def cmpS (a b : List UInt8) : Int := Lib.compareBytes a b
def orI (x y : Int) : Int := if x = 0 then y else x
theorem cmpS_spec : ∀ (a b : List UInt8), (cmpS a b < 0 ↔ a < b) ∧ (cmpS a b = 0 ↔ a = b)
  | [], [] => by simp [cmpS, Lib.compareBytes]
  | [], _ :: _ => by simp [cmpS, Lib.compareBytes]
  | _ :: _, [] => by simp [cmpS, Lib.compareBytes]
  | x :: a, y :: b => by
    have ih := cmpS_spec a b
    unfold cmpS at ih ⊢
    unfold Lib.compareBytes
    rw [List.cons_lt_cons_iff]
    by_cases h1 : x < y
    · have h2 : x ≠ y := fun e => UInt8.lt_irrefl y (e ▸ h1)
      simp [h1, h2]
    · by_cases h2 : y < x
      · have h3 : x ≠ y := fun e => UInt8.lt_irrefl y (e ▸ h2)
        simp [h1, h2, h3]
      · obtain rfl : x = y := UInt8.le_antisymm (UInt8.not_lt.1 h2) (UInt8.not_lt.1 h1)
        simp only [h1, if_false, List.cons.injEq, true_and, false_or]
        exact ih
def cmpK (a b : K) : Int := orI (cmpS a.1 b.1) (cmpS a.2 b.2)
theorem cmpK_lt (a b : K) : decide (cmpK a b < 0) = Ora.kLt a b := by
  rw [Bool.eq_iff_iff, Ora.kLt_iff, decide_eq_true_eq]
  obtain ⟨h1, h2⟩ := cmpS_spec a.1 b.1
  obtain ⟨h3, h4⟩ := cmpS_spec a.2 b.2
  unfold cmpK orI
  by_cases e : cmpS a.1 b.1 = 0
  · rw [if_pos e, h3]
    have hab := h2.1 e
    rw [hab]
    simp [List.lt_irrefl]
  · rw [if_neg e, h1]
    have hn : a.1 ≠ b.1 := fun q => e (h2.2 q)
    simp [hn]
theorem ltOf_kLt (x y : Sig) : ltOf (fun x y : Sig => cmpK x.1 y.1) x y = Ora.kLt x.1 y.1 := cmpK_lt x.1 y.1
theorem swoK : SWO (ltOf fun x y : Sig => cmpK x.1 y.1) where
  irrefl x := by rw [ltOf_kLt]; exact Ora.kLt_irrefl _
  trans x y z h1 h2 := by rw [ltOf_kLt] at *; exact Ora.kLt_trans h1 h2
  ntrans x y z h1 h2 := by
    rw [ltOf_kLt] at *
    cases h : Ora.kLt x.1 z.1 with
    | false => rfl
    | true =>
      by_cases e : x.1 = y.1
      · rw [e, h2] at h; cases h
      · have := Ora.kLt_trans (Ora.kLt_total h1 e) h
        rw [h2] at this; cases this

theorem cmp_any (a b : List UInt8) (w : World) : Calls Try.prog 29 #[.string ⟨a.toArray⟩, .string ⟨b.toArray⟩] w fun e w' => e = .returned (.int .i64 (cmpS a b)) ∧ w' = w :=
  shelf_strings_Compare ⟨a.toArray⟩ ⟨b.toArray⟩ w

set_option maxRecDepth 8000 in
set_option maxHeartbeats 1000000 in
theorem or_any (x y : Int) (g : Nat) (w : World) (h0 : w.cell? ⟨g, 0, none⟩ = some (.int .i64 x)) (h1 : w.cell? ⟨g, 1, none⟩ = some (.int .i64 y)) :
    Calls Try.prog 28 #[.slice (some ⟨g, 0, none⟩) 2 2] w fun e w' => e = .returned (.int .i64 (orI x y)) ∧ w' = w := by
  by_cases ex : x = 0
  · by_cases ey : y = 0
    · subst ex; subst ey
      go_enter Try.func28, Try.ntmps28
      go_wp2
      refine wp_loop_rounds 3 ?_
      rw [rounds_succ]
      go_wp2
      rw [rounds_succ]
      go_wp2
      rw [rounds_succ]
      go_wp2
      go_ret
      exact ⟨rfl, rfl⟩
    · subst ex
      have hy : (y == 0) = false := by simpa using ey
      have ho : orI 0 y = y := by simp [orI]
      rw [ho]
      go_enter Try.func28, Try.ntmps28
      go_wp2
      refine wp_loop_rounds 3 ?_
      rw [rounds_succ]
      go_wp2
      rw [rounds_succ]
      go_wp2
      go_ret
      exact ⟨rfl, rfl⟩
  · have hx : (x == 0) = false := by simpa using ex
    have ho : orI x y = x := by simp [orI, ex]
    rw [ho]
    go_enter Try.func28, Try.ntmps28
    go_wp2
    refine wp_loop_rounds 3 ?_
    rw [rounds_succ]
    go_wp2
    go_ret
    exact ⟨rfl, rfl⟩
end Go.Proofs.Yteolephlajhghaa
