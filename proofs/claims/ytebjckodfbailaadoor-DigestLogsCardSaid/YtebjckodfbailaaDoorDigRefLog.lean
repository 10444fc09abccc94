/- The document's Find, Clash, Put. -/
import Derived.Test.YtebjckodfbailaaDoorDigClashWalk
namespace Go.Proofs.YtebjckodfbailaaDoor
open Go.RowKit

def FindPost (L : List Dig.N) (d : List UInt8) (w : World) (e : Ending) (w' : World) : Prop :=
  ∃ z : Int, e = .returned (.int .i64 z) ∧ ((z = -1 ∧ ∀ (j : Nat) (hj : j < L.length), L[j].dig ≠ d) ∨ ∃ (k : Nat) (hk : k < L.length), z = k ∧ L[k].dig = d ∧ ∀ (j : Nat) (hj : j < k), (L[j]'(by omega)).dig ≠ d) ∧ w' = w

set_option maxRecDepth 8000 in
set_option maxHeartbeats 1000000 in
theorem rFind_any (L : List Dig.N) (v : Value) (d : List UInt8) (w : World) (hv : Noteds w v L) (hlen : L.length ≤ 4000000000000) :
    Calls Tryd.prog 30 #[v, .string ⟨d.toArray⟩] w (FindPost L d w) := by
  have HV := Lib.hid hv
  obtain ⟨A, cap, rfl⟩ := hv.form
  clear hv
  go_enter Tryd.func30, Tryd.ntmps30
  go_wp2
  go_loop [5] (fun iv => ∃ k : Nat, k ≤ L.length ∧ iv = .int .i64 k ∧ ∀ (j : Nat) (hj : j < k) (hj' : j < L.length), L[j].dig ≠ d) (fun i => L.length - (intOf i).toNat)
  case atStart => exact ⟨0, Nat.zero_le _, rfl, fun j hj => absurd hj (Nat.not_lt_zero j)⟩
  case round =>
    obtain ⟨k, hk, rfl, hall⟩ := hrel
    have HA := Lib.hid hall
    clear hall
    by_cases hlt : k < L.length
    · have h1 : (k : Int) < (L.length : Int) := by omega
      have h0 : (0 : Int) ≤ (k : Int) := by omega
      obtain ⟨b, o, rfl, hbl⟩ := HV.out.addr (by omega)
      obtain ⟨n0, n1, n2⟩ := HV.out.at rfl k hlt
      by_cases he : L[k].dig = d
      · have HE := Lib.hid he
        rw [he] at n2
        clear he n0 n1
        go_wp2
        go_ret
        exact ⟨_, rfl, Or.inr ⟨k, hlt, rfl, HE.out, fun j hj => HA.out j hj (by omega)⟩, rfl⟩
      · have HE := Lib.hid he
        obtain ⟨x, hx⟩ : ∃ x, L[k].dig = x := ⟨_, rfl⟩
        rw [hx] at n2 he
        have hb : (x == d) = false := by simpa using he
        clear n0 n1 hx
        go_wp2
        refine ⟨⟨k + 1, by omega, by go_num, ?_⟩, by simp [intOf]; omega⟩
        intro j hj hj'
        by_cases e : j < k
        · exact HA.out j e hj'
        · obtain rfl : j = k := by omega
          exact HE.out
    · obtain rfl : k = L.length := by omega
      have h1 : ¬ ((L.length : Int) < (L.length : Int)) := by omega
      go_wp2
      go_ret
      exact ⟨_, rfl, Or.inl ⟨rfl, fun j hj => HA.out j hj hj⟩, rfl⟩

def ClashPost (L : List Dig.N) (w : World) (e : Ending) (w' : World) : Prop :=
  ∃ x y : Int, e = .returned (.tuple #[.int .i64 x, .int .i64 y]) ∧ ((x = -1 ∧ y = -1 ∧ Dig.clash L = none) ∨ ∃ (i k : Nat) (hi : i < L.length) (hk : k < L.length), x = i ∧ y = k ∧ Dig.clash L = some (L[i], L[k])) ∧ w' = w
theorem Dig.find_first {L : List Dig.N} {d : List UInt8} {k : Nat} (hk : k < L.length) (he : L[k].dig = d) (h : ∀ (j : Nat) (hj : j < k), (L[j]'(by omega)).dig ≠ d) : Dig.find L d = some L[k] := by
  unfold Dig.find
  rw [List.find?_eq_some_iff_getElem]
  exact ⟨by simpa using he, k, hk, rfl, fun j hj => by simpa using h j hj⟩

set_option maxRecDepth 8000 in
set_option maxHeartbeats 1000000 in
theorem rClash_any (L : List Dig.N) (v : Value) (w : World) (hv : Noteds w v L) (hlen : L.length ≤ 4000000000000) (hnd : L.Nodup) :
    Calls Tryd.prog 31 #[v] w (ClashPost L w) := by
  have HV := Lib.hid hv
  have HND := Lib.hid hnd
  have HF := Lib.hid (fun d => rFind_any L v d w hv hlen)
  obtain ⟨A, cap, rfl⟩ := hv.form
  clear hv hnd
  go_enter Tryd.func31, Tryd.ntmps31
  go_wp2
  go_loop [4] (fun iv => ∃ k : Nat, k ≤ L.length ∧ iv = .int .i64 k ∧ ∀ (j : Nat) (hj : j < k) (hj' : j < L.length), Dig.find L L[j].dig = some L[j]) (fun i => L.length - (intOf i).toNat)
  case atStart => exact ⟨0, Nat.zero_le _, rfl, fun j hj => absurd hj (Nat.not_lt_zero j)⟩
  case round =>
    obtain ⟨k, hk, rfl, hall⟩ := hrel
    have HA := Lib.hid hall
    clear hall
    by_cases hlt : k < L.length
    · have h1 : (k : Int) < (L.length : Int) := by omega
      have h0 : (0 : Int) ≤ (k : Int) := by omega
      obtain ⟨b, o, rfl, hbl⟩ := HV.out.addr (by omega)
      obtain ⟨n0, n1, n2⟩ := HV.out.at rfl k hlt
      have HFK := Lib.hid (HF.out L[k].dig)
      obtain ⟨x, hx⟩ : ∃ x, L[k].dig = x := ⟨_, rfl⟩
      have HX := Lib.hid hx
      rw [hx] at n2 HFK
      clear n0 n1 hx
      go_wp2_with fail
      refine HFK.out.mono ?_
      rintro e w1 ⟨z, rfl, hz, hw⟩
      subst hw
      rcases hz with ⟨_, hno⟩ | ⟨i, hi, rfl, he, hlo⟩
      · exact absurd HX.out (hno k hlt)
      · have hik : i ≤ k := by
          by_cases h : k < i
          · exact absurd HX.out (hlo k h)
          · omega
        have HFI := Lib.hid (Dig.find_first hi he hlo)
        clear he hlo
        by_cases hlt2 : i < k
        · have h2 : (i : Int) < (k : Int) := by omega
          go_wp2
          go_ret2
          refine ⟨_, _, rfl, Or.inr ⟨i, k, hi, hlt, rfl, rfl, ?_⟩, rfl⟩
          refine Dig.clash_some hlt (fun j hj => HA.out j hj (by omega)) (m := L[i]) (by rw [HX.out, HFI.out]) ?_
          intro e
          exact (List.pairwise_iff_getElem.1 HND.out) i k hi hlt hlt2 e
        · obtain rfl : i = k := by omega
          have h2 : ¬ ((i : Int) < (i : Int)) := by omega
          go_wp2
          refine ⟨⟨i + 1, by omega, by go_num, ?_⟩, by simp [intOf]; omega⟩
          intro j hj hj'
          by_cases e : j < i
          · exact HA.out j e hj'
          · obtain rfl : j = i := by omega
            rw [HX.out, HFI.out]
    · obtain rfl : k = L.length := by omega
      have h1 : ¬ ((L.length : Int) < (L.length : Int)) := by omega
      go_wp2
      go_ret2
      exact ⟨_, _, rfl, Or.inl ⟨rfl, rfl, Dig.clash_none (fun j hj => HA.out j hj hj)⟩, rfl⟩
end Go.Proofs.YtebjckodfbailaaDoor
