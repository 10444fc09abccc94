/- The walks of the book's Few and SameTexts. -/
import Derived.Test.YtbjfihbjfoaghaaDoorArgStrs
import Derived.WalkSpells
import Derived.WalkLawsBesides
import Derived.Deep.QuietTactic
import Derived.BigQuiet
namespace Go.Proofs.YtbjfihbjfoaghaaDoor
open Go.RowKit

def Code.few (L : List (List UInt8)) (n e : Nat) : Bool := decide (L.length ≤ n) && L.all fun s => decide (s.length ≤ e)
theorem Code.few_iff (L : List (List UInt8)) (n e : Nat) : Code.few L n e = true ↔ L.length ≤ n ∧ ∀ s ∈ L, s.length ≤ e := by simp [Code.few]
theorem Code.all_snoc (L : List (List UInt8)) (e k : Nat) (h : k < L.length) : ((L.take (k + 1)).all fun s => decide (s.length ≤ e)) = (((L.take k).all fun s => decide (s.length ≤ e)) && decide (L[k].length ≤ e)) := by
  rw [List.take_succ_eq_append_getElem h, List.all_append]
  simp only [List.all_cons, List.all_nil, Bool.and_true]

theorem Code.take_snoc_eq {L M : List (List UInt8)} {k : Nat} (h1 : k < L.length) (h2 : k < M.length) : L.take (k + 1) = M.take (k + 1) ↔ L.take k = M.take k ∧ L[k] = M[k] := by
  rw [List.take_succ_eq_append_getElem h1, List.take_succ_eq_append_getElem h2]
  constructor
  · intro h
    have := List.append_inj' h rfl
    exact ⟨this.1, by simpa using this.2⟩
  · rintro ⟨a, b⟩
    rw [a, b]

set_option maxHeartbeats 400000 in
theorem same_any (L M : List (List UInt8)) (u v : Value) (w : World) (hu : Strs w u L) (hv : Strs w v M) (hl : L.length ≤ 100000000) (hm : M.length ≤ maxLen) :
    Calls Tryd.prog 21 #[u, v] w fun x w' => x = .returned (.bool (decide (L = M))) ∧ Below w.heap.size w w' := by
  obtain ⟨A, cap, rfl, hc⟩ := hu
  obtain ⟨B, cap2, rfl, hd⟩ := hv
  unfold maxLen at hm
  by_cases he : L.length = M.length
  · have h0 : ((L.length : Int) == (M.length : Int)) = true := by rw [beq_iff_eq]; omega
    have he' := Lib.hid he
    go_enter Tryd.func21, Tryd.ntmps21
    go_wp2
    go_loopw [5, 6] (fun s i wr => ∃ k : Nat, k ≤ L.length ∧ s = .bool (decide (L.take k = M.take k)) ∧ i = .int .i64 k ∧ Below w.heap.size w wr ∧ (L.take k ≠ M.take k → L ≠ M)) (fun _ i _ => L.length - (intOf i).toNat)
    case atStart => exact ⟨0, Nat.zero_le _, by simp, rfl, Below.refl _ _, by simp⟩
    case round =>
      obtain ⟨k, hk, rfl, rfl, hbel, hno⟩ := hrel
      have HN := Lib.hid hno
      clear hno
      rcases htk : decide (L.take k = M.take k) with _ | _
      · have HT := Lib.hid htk
        clear htk
        go_wp2
        go_ret
        refine ⟨?_, hbel⟩
        have h := HN.out (of_decide_eq_false HT.out)
        rw [decide_eq_false h]
        rfl
      · have HT := Lib.hid htk
        clear htk
        by_cases hlt : k < L.length
        · have h1 : (k : Int) < (L.length : Int) := by omega
          have h2 : (k : Int) < (M.length : Int) := by omega
          obtain ⟨a, rfl, hcell⟩ := hc k hlt
          obtain ⟨b, rfl, hdell⟩ := hd k (by omega)
          have hcell1 := (hbel.cell (World.block_lt_of_cell? _ _ hcell)).trans hcell
          have hdell1 := (hbel.cell (World.block_lt_of_cell? _ _ hdell)).trans hdell
          have hsn := Lib.hid (Code.take_snoc_eq hlt (show k < M.length by omega))
          clear hc hd hcell hdell
          obtain ⟨s, hs⟩ : ∃ s, L[k] = s := ⟨_, rfl⟩
          obtain ⟨t, ht⟩ : ∃ t, M[k] = t := ⟨_, rfl⟩
          rw [hs] at hcell1 hsn
          rw [ht] at hdell1 hsn
          clear hs ht
          go_wp2
          go_quiet (fail)
          go_wp2
          go_roundw
          case rel =>
            refine ⟨k + 1, by omega, ?_, by go_num, below_drewN hbel _, ?_⟩
            · have e := hsn.out
              have e1 := of_decide_eq_true HT.out
              by_cases hst : s = t
              · rw [decide_eq_true (e.2 ⟨e1, hst⟩)]; simp [hst]
              · rw [decide_eq_false (fun h => hst (e.1 h).2)]; simp [hst]
            · intro h hLM
              subst hLM
              exact h rfl
          case measure => simp [intOf]; omega
        · go_wp2
          go_ret
          refine ⟨?_, hbel⟩
          have e := of_decide_eq_true HT.out
          have he2 := he'.out
          rw [List.take_of_length_le (by omega), List.take_of_length_le (by omega)] at e
          rw [decide_eq_true e]
          rfl
  · have h0 : ((L.length : Int) == (M.length : Int)) = false := by rw [beq_eq_false_iff_ne]; omega
    have hne : decide (L = M) = false := decide_eq_false (fun h => he (by rw [h]))
    rw [hne]
    clear he hc hd hne
    go_enter Tryd.func21, Tryd.ntmps21
    go_wp2
    go_loop [5, 6] (fun s i => s = .bool false ∧ i = .int .i64 0) (fun _ _ => 0)
    case atStart => exact ⟨rfl, rfl⟩
    case round =>
      obtain ⟨rfl, rfl⟩ := hrel
      go_wp2
      go_ret
      exact ⟨rfl, Below.refl _ _⟩

end Go.Proofs.YtbjfihbjfoaghaaDoor
