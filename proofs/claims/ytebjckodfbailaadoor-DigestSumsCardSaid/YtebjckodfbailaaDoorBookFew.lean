/- The walk of the book's Few. -/
import Derived.Test.YtebjckodfbailaaDoorCodeStrs
import Derived.WalkSpells
import Derived.WalkLawsBesides
import Derived.Deep.QuietTactic
import Derived.BigQuiet
namespace Go.Proofs.YtebjckodfbailaaDoor
open Go.RowKit

def Code.few (L : List (List UInt8)) (n e : Nat) : Bool := decide (L.length ≤ n) && L.all fun s => decide (s.length ≤ e)
theorem Code.few_iff (L : List (List UInt8)) (n e : Nat) : Code.few L n e = true ↔ L.length ≤ n ∧ ∀ s ∈ L, s.length ≤ e := by simp [Code.few]
theorem Code.all_snoc (L : List (List UInt8)) (e k : Nat) (h : k < L.length) : ((L.take (k + 1)).all fun s => decide (s.length ≤ e)) = (((L.take k).all fun s => decide (s.length ≤ e)) && decide (L[k].length ≤ e)) := by
  rw [List.take_succ_eq_append_getElem h, List.all_append]
  simp only [List.all_cons, List.all_nil, Bool.and_true]

set_option maxHeartbeats 400000 in
theorem few_any (L : List (List UInt8)) (v : Value) (n e : Nat) (w : World) (hs : Strs w v L) (hl : L.length ≤ maxLen) :
    Calls Tryd.prog 8 #[v, .int .i64 n, .int .i64 e] w fun x w' => x = .returned (.bool (Code.few L n e)) ∧ w' = w := by
  obtain ⟨A, cap, rfl, hc⟩ := hs
  unfold maxLen at hl
  by_cases hbig : L.length > n
  · have hf : Code.few L n e = false := by rw [Code.few, decide_eq_false (by omega)]; rfl
    rw [hf]
    clear hf hc
    have hb : (L.length : Int) > n := by omega
    go_enter Tryd.func8, Tryd.ntmps8
    go_wp2
    go_ret
    exact ⟨rfl, rfl⟩
  · have hf : Code.few L n e = L.all fun s => decide (s.length ≤ e) := by rw [Code.few, decide_eq_true (by omega)]; rfl
    have HF := Lib.hid hf
    have hb : ¬ ((L.length : Int) > n) := by omega
    clear hbig hf
    go_enter Tryd.func8, Tryd.ntmps8
    go_wp2
    go_loop [7] (fun i => ∃ k : Nat, k ≤ L.length ∧ i = .int .i64 k ∧ ((L.take k).all fun s => decide (s.length ≤ e)) = true) (fun i => L.length - (intOf i).toNat)
    case atStart => exact ⟨0, Nat.zero_le _, rfl, rfl⟩
    case round =>
      obtain ⟨k, hk, rfl, hall⟩ := hrel
      have HA := Lib.hid hall
      clear hall
      by_cases hlt : k < L.length
      · have h1 : (k : Int) < (L.length : Int) := by omega
        obtain ⟨a, rfl, hcell⟩ := hc k hlt
        clear hc
        have hsn := Lib.hid (Code.all_snoc L e k hlt)
        have hmem := Lib.hid (List.getElem_mem hlt)
        obtain ⟨t, ht⟩ : ∃ t, L[k] = t := ⟨_, rfl⟩
        rw [ht] at hcell hsn hmem
        clear ht
        by_cases hte : t.length ≤ e
        · have h2 : ¬ ((t.length : Int) > (e : Int)) := by omega
          go_wp2
          go_round
          case rel => exact ⟨k + 1, by omega, by go_num, by rw [hsn.out, HA.out, decide_eq_true hte]; rfl⟩
          case measure => simp [intOf]; omega
        · have h2 : (t.length : Int) > (e : Int) := by omega
          have hno : (L.all fun s => decide (s.length ≤ e)) = false := by
            rw [List.all_eq_false]
            exact ⟨t, hmem.out, by simpa using hte⟩
          have HN := Lib.hid hno
          clear hno
          go_wp2
          go_ret
          refine ⟨?_, rfl⟩
          rw [HF.out, HN.out]
          rfl
      · go_wp2
        go_ret
        refine ⟨?_, rfl⟩
        have HB := HA.out
        rw [List.take_of_length_le (by omega)] at HB
        rw [HF.out, HB]
        rfl

end Go.Proofs.YtebjckodfbailaaDoor
