/- The document's answer: At, Signed, Honest. -/
import Derived.Test.YteolephlajhghaaOraHonest
namespace Go.Proofs.Yteolephlajhghaa
open Go.RowKit
open Go.Proofs.Yteolephlajhghaa.Ora (K Sig)

namespace Ora
/-- The place of a signature, or of the first one behind it; whether it is there. -/
def atP : List Sig → K → Nat × Bool
  | [], _ => (0, false)
  | a :: r, k => if k = a.1 then (0, true) else if kLt k a.1 then (0, false) else ((atP r k).1 + 1, (atP r k).2)
theorem at_le (S : List Sig) (k : K) : (atP S k).1 ≤ S.length := by
  induction S with
  | nil => simp [atP]
  | cons a r ih =>
    rw [atP]
    split
    · simp
    · split
      · simp
      · simp; exact ih
theorem at_look {S : List Sig} (hS : Rising S) (k : K) : (atP S k).2 = (look S k).isSome := by
  induction S with
  | nil => rfl
  | cons a r ih =>
    obtain ⟨h1, h2⟩ := List.pairwise_cons.1 hS
    rw [atP, look]
    split
    · rfl
    · rename_i e
      split
      · rename_i l
        rw [look_none_of fun b hb q => kLt_ne (kLt_trans l (h1 b hb)) q.symm]
        rfl
      · exact ih h2
theorem at_put (S : List Sig) (k : K) (h : Bool) :
    ((atP S k).2 = true → ∃ hlt : (atP S k).1 < S.length, S[(atP S k).1].1 = k ∧ put S k h = S.take (atP S k).1 ++ (k, S[(atP S k).1].2 && h) :: S.drop ((atP S k).1 + 1)) ∧
    ((atP S k).2 = false → put S k h = S.take (atP S k).1 ++ (k, h) :: S.drop (atP S k).1) := by
  induction S with
  | nil => exact ⟨fun q => by simp [atP] at q, fun _ => by simp [atP, put]⟩
  | cons a r ih =>
    by_cases e : k = a.1
    · have ha : atP (a :: r) k = (0, true) := by rw [atP, if_pos e]
      have hp : put (a :: r) k h = (k, a.2 && h) :: r := by rw [put, if_pos e]
      rw [ha, hp]
      exact ⟨fun _ => ⟨by simp, by simpa using e.symm, by simp⟩, fun q => by cases q⟩
    · by_cases l : kLt k a.1 = true
      · have ha : atP (a :: r) k = (0, false) := by rw [atP, if_neg e, if_pos l]
        have hp : put (a :: r) k h = (k, h) :: a :: r := by rw [put, if_neg e, if_pos l]
        rw [ha, hp]
        exact ⟨(fun q => by cases q), fun _ => by simp⟩
      · have ha : atP (a :: r) k = ((atP r k).1 + 1, (atP r k).2) := by rw [atP, if_neg e, if_neg l]
        have hp : put (a :: r) k h = a :: put r k h := by rw [put, if_neg e, if_neg l]
        rw [ha, hp]
        obtain ⟨i1, i2⟩ := ih
        refine ⟨fun q => ?_, fun q => ?_⟩
        · obtain ⟨hlt, hk, hput⟩ := i1 q
          exact ⟨by simpa using hlt, by simpa using hk, by rw [hput]; simp⟩
        · rw [i2 q]; simp
theorem at_drop (S : List Sig) (k : K) (i : Nat) (hi : i < S.length) :
    atP (S.drop i) k = if k = S[i].1 then (0, true) else if kLt k S[i].1 then (0, false) else ((atP (S.drop (i + 1)) k).1 + 1, (atP (S.drop (i + 1)) k).2) := by
  rw [List.drop_eq_getElem_cons hi, atP]
theorem hon_drop (S : List Sig) (who : List UInt8) (i : Nat) (hi : i < S.length) : honP (S.drop i) who = ((!decide (S[i].1.1 = who) || S[i].2) && honP (S.drop (i + 1)) who) := by
  rw [List.drop_eq_getElem_cons hi]
  rfl
end Ora

theorem lt_of_not {a b : List UInt8} (h : ¬ b < a) (e : a ≠ b) : a < b := (List.le_iff_lt_or_eq.1 (List.not_lt.1 h)).elim id (fun q => absurd q e)

set_option maxRecDepth 8000 in
set_option maxHeartbeats 1000000 in
theorem rAt_any (S : List Sig) (v : Value) (k : K) (w : World) (hv : Sgs w v S) (hl : S.length ≤ 1000000) :
    Calls Try.prog 19 #[v, .string ⟨k.1.toArray⟩, .string ⟨k.2.toArray⟩] w fun e w' => e = .returned (.tuple #[.int .i64 ((Ora.atP S k).1 : Nat), .bool (Ora.atP S k).2]) ∧ w' = w := by
  obtain ⟨u, m⟩ := k
  have HV := Lib.hid hv
  obtain ⟨A, cap, rfl, -⟩ := hv.form
  obtain ⟨⟨P, T⟩, hP⟩ : ∃ z, Ora.atP S (u, m) = z := ⟨_, rfl⟩
  have HP := Lib.hid hP
  rw [hP]
  dsimp only
  clear hv hP
  go_enter Try.func19, Try.ntmps19
  go_wp2
  go_loopw [8] (fun i wr => ∃ i0 : Nat, i0 ≤ S.length ∧ i = .int .i64 i0 ∧ Hid (P = i0 + (Ora.atP (S.drop i0) (u, m)).1 ∧ T = (Ora.atP (S.drop i0) (u, m)).2) ∧ wr = w) (fun i _ => S.length - (intOf i).toNat)
  case atStart => exact ⟨0, Nat.zero_le _, rfl, Lib.hid (by rw [List.drop_zero, HP.out]; simp), rfl⟩
  case round =>
    obtain ⟨i, hi, rfl, HA, rfl⟩ := hrel
    by_cases hlt : i < S.length
    · have h1 : (i : Int) < (S.length : Int) := by omega
      have h0 : (0 : Int) ≤ (i : Int) := by omega
      obtain ⟨b, o, rfl, c0, c1, -⟩ := HV.out.at (Below.refl _ wr) i hlt
      have HD := Lib.hid (Ora.at_drop S (u, m) i hlt)
      obtain ⟨⟨⟨x, d⟩, h⟩, hs⟩ : ∃ s, S[i] = s := ⟨_, rfl⟩
      rw [hs] at c0 c1 HD
      dsimp only at c0 c1 HD
      clear hs
      by_cases ex : x = u
      · have e1 : (x == u) = true := by simpa using ex
        by_cases ed : d = m
        · have e2 : (d == m) = true := by simpa using ed
          have hPT : P = i ∧ T = true := by
            have := HA.out
            rw [HD.out, if_pos (by rw [ex, ed])] at this
            simpa using this
          obtain ⟨rfl, rfl⟩ := hPT
          clear ex ed
          go_wp2
          go_ret2
          exact ⟨rfl, rfl⟩
        · have e2 : (d == m) = false := by simpa using ed
          have e3 : Op.bytesLess x u = false := by rw [less_lt, ex]; simp
          by_cases el : m < d
          · have e4 : Op.bytesLess d m = false := by rw [less_lt]; simpa using List.le_of_lt el
            have hPT : P = i ∧ T = false := by
              have := HA.out
              rw [HD.out, if_neg (fun q => ed (by cases q; rfl)), if_pos ((Ora.kLt_iff _ _).2 (Or.inr ⟨ex.symm, el⟩))] at this
              simpa using this
            obtain ⟨rfl, rfl⟩ := hPT
            clear ex ed el
            go_wp2
            go_ret2
            exact ⟨rfl, rfl⟩
          · have e4 : Op.bytesLess d m = true := by rw [less_lt, decide_eq_true_eq]; exact lt_of_not el ed
            have HA' : Hid (P = i + 1 + (Ora.atP (S.drop (i + 1)) (u, m)).1 ∧ T = (Ora.atP (S.drop (i + 1)) (u, m)).2) := Lib.hid (by
              have := HA.out
              rw [HD.out, if_neg (fun q => ed (by cases q; rfl)), if_neg (fun q => by rcases (Ora.kLt_iff _ _).1 q with q | ⟨_, q⟩; (· dsimp only at q; rw [ex] at q; exact List.lt_irrefl _ q); (· exact el q))] at this
              exact ⟨by rw [this.1]; omega, this.2⟩)
            clear ex ed el
            go_wp2
            exact ⟨⟨i + 1, by omega, by go_num, HA', trivial⟩, by simp [intOf]; omega⟩
      · have e1 : (x == u) = false := by simpa using ex
        by_cases el : u < x
        · have e3 : Op.bytesLess x u = false := by rw [less_lt]; simpa using List.le_of_lt el
          have hPT : P = i ∧ T = false := by
            have := HA.out
            rw [HD.out, if_neg (fun q => ex (by cases q; rfl)), if_pos ((Ora.kLt_iff _ _).2 (Or.inl el))] at this
            simpa using this
          obtain ⟨rfl, rfl⟩ := hPT
          clear ex el
          go_wp2
          go_ret2
          exact ⟨rfl, rfl⟩
        · have e3 : Op.bytesLess x u = true := by rw [less_lt, decide_eq_true_eq]; exact lt_of_not el ex
          have HA' : Hid (P = i + 1 + (Ora.atP (S.drop (i + 1)) (u, m)).1 ∧ T = (Ora.atP (S.drop (i + 1)) (u, m)).2) := Lib.hid (by
            have := HA.out
            rw [HD.out, if_neg (fun q => ex (by cases q; rfl)), if_neg (fun q => by rcases (Ora.kLt_iff _ _).1 q with q | ⟨q, _⟩; (· exact el q); (· exact ex q.symm))] at this
            exact ⟨by rw [this.1]; omega, this.2⟩)
          clear ex el
          go_wp2
          exact ⟨⟨i + 1, by omega, by go_num, HA', trivial⟩, by simp [intOf]; omega⟩
    · have h1 : ¬ ((i : Int) < (S.length : Int)) := by omega
      obtain rfl : i = S.length := by omega
      have hPT : P = S.length ∧ T = false := by
        have := HA.out
        rw [List.drop_length] at this
        simpa [Ora.atP] using this
      obtain ⟨rfl, rfl⟩ := hPT
      go_wp2
      go_ret2
      exact ⟨rfl, rfl⟩

set_option maxRecDepth 8000 in
set_option maxHeartbeats 400000 in
theorem rSigned_any (S : List Sig) (v : Value) (k : K) (w : World) (hv : Sgs w v S) (hS : Ora.Rising S) (hl : S.length ≤ 1000000) :
    Calls Try.prog 20 #[v, .string ⟨k.1.toArray⟩, .string ⟨k.2.toArray⟩] w fun e w' => e = .returned (.bool (Ora.look S k).isSome) ∧ w' = w := by
  have HA := Lib.hid (rAt_any S v k w hv hl)
  rw [Ora.at_look hS] at HA
  obtain ⟨P, hP⟩ : ∃ P, (Ora.atP S k).1 = P := ⟨_, rfl⟩
  obtain ⟨T, hT⟩ : ∃ T, (Ora.look S k).isSome = T := ⟨_, rfl⟩
  rw [hP, hT] at HA
  rw [hT]
  clear hv hP hT
  go_enter Try.func20, Try.ntmps20
  go_wp2_with fail
  refine HA.out.mono ?_
  rintro e w1 ⟨rfl, rfl⟩
  go_wp2
  go_ret
  exact ⟨rfl, rfl⟩

set_option maxRecDepth 8000 in
set_option maxHeartbeats 1000000 in
theorem rHonest_any (S : List Sig) (v : Value) (who : List UInt8) (w : World) (hv : Sgs w v S) (hl : S.length ≤ 1000000) :
    Calls Try.prog 21 #[v, .string ⟨who.toArray⟩] w fun e w' => e = .returned (.bool (Ora.honP S who)) ∧ w' = w := by
  have HV := Lib.hid hv
  obtain ⟨A, cap, rfl, -⟩ := hv.form
  obtain ⟨H, hH⟩ : ∃ H, Ora.honP S who = H := ⟨_, rfl⟩
  have HH := Lib.hid hH
  rw [hH]
  clear hv hH
  go_enter Try.func21, Try.ntmps21
  go_wp2
  go_loopw [5] (fun i wr => ∃ i0 : Nat, i0 ≤ S.length ∧ i = .int .i64 i0 ∧ Hid (H = Ora.honP (S.drop i0) who) ∧ wr = w) (fun i _ => S.length - (intOf i).toNat)
  case atStart => exact ⟨0, Nat.zero_le _, rfl, Lib.hid (by rw [List.drop_zero, HH.out]), rfl⟩
  case round =>
    obtain ⟨i, hi, rfl, HA, rfl⟩ := hrel
    by_cases hlt : i < S.length
    · have h1 : (i : Int) < (S.length : Int) := by omega
      have h0 : (0 : Int) ≤ (i : Int) := by omega
      obtain ⟨b, o, rfl, c0, -, c2⟩ := HV.out.at (Below.refl _ wr) i hlt
      have HD := Lib.hid (Ora.hon_drop S who i hlt)
      obtain ⟨⟨⟨x, d⟩, h⟩, hs⟩ : ∃ s, S[i] = s := ⟨_, rfl⟩
      rw [hs] at c0 c2 HD
      dsimp only at c0 c2 HD
      clear hs
      by_cases ex : x = who
      · have e1 : (x == who) = true := by simpa using ex
        cases h with
        | false =>
          obtain rfl : H = false := by rw [HA.out, HD.out]; simp [ex]
          clear ex
          go_wp2
          go_ret
          exact ⟨rfl, rfl⟩
        | true =>
          have HA' : Hid (H = Ora.honP (S.drop (i + 1)) who) := Lib.hid (by rw [HA.out, HD.out]; simp)
          clear ex
          go_wp2
          exact ⟨⟨i + 1, by omega, by go_num, HA', trivial⟩, by simp [intOf]; omega⟩
      · have e1 : (x == who) = false := by simpa using ex
        have HA' : Hid (H = Ora.honP (S.drop (i + 1)) who) := Lib.hid (by rw [HA.out, HD.out]; simp [ex])
        clear ex
        go_wp2
        exact ⟨⟨i + 1, by omega, by go_num, HA', trivial⟩, by simp [intOf]; omega⟩
    · have h1 : ¬ ((i : Int) < (S.length : Int)) := by omega
      obtain rfl : i = S.length := by omega
      obtain rfl : H = true := by rw [HA.out, List.drop_length]; rfl
      go_wp2
      go_ret
      exact ⟨rfl, rfl⟩
end Go.Proofs.Yteolephlajhghaa
