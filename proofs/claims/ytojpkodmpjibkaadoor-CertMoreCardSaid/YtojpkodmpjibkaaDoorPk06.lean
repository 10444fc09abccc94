/- CertRef, OraShelf, OraSortShelf, Grew, OraSort, OraTab, OraOrder, OraSorted, OraHonest, OraAll, OraSign, OraWorks -/
import Derived.Test.YtojpkodmpjibkaaDoorPk01
import Derived.Test.YtojpkodmpjibkaaDoorPk05
import Derived.Test.YtojpkodmpjibkaaDoorPk03
import Derived.WalkSpells
import Derived.WalkLawsBesides
import Derived.Lib.Strings
import Derived.Shelf.Small.Strs
import Derived.Shelf.SlMaps.Clone
import Derived.Test.YtojpkodmpjibkaaDoorChecked
import Derived.Shelf.SlSortCmp.NoneTotal
import Derived.Test.YtojpkodmpjibkaaDoorPk02
import Derived.Sort.Grow
import Derived.Deep.Draws
import Derived.Laws.MakeOwn
namespace Go.Proofs.YtojpkodmpjibkaaDoor
open Go.RowKit Go.ChangeShapes Go.WideShapes
open Go.Proofs.YtojpkodmpjibkaaDoor.Ct (C)

theorem Ct.isT_cases (t : Int) : (t = 5 ∧ Ct.isT t = true) ∨ (t = 6 ∧ Ct.isT t = true) ∨ ((t == 5) = false ∧ (t == 6) = false ∧ Ct.isT t = false) := by
  by_cases h5 : t = 5
  · exact Or.inl ⟨h5, by simp [Ct.isT, h5]⟩
  · by_cases h6 : t = 6
    · exact Or.inr (Or.inl ⟨h6, by simp [Ct.isT, h6]⟩)
    · exact Or.inr (Or.inr ⟨by simpa using h5, by simpa using h6, by simp [Ct.isT, h5, h6]⟩)

set_option maxRecDepth 8000 in
set_option maxHeartbeats 400000 in
theorem rTag_any (t : Int) (w : World) : Calls Tryd.prog 39 #[.int .i64 t] w fun e w' => e = .returned (.bool (Ct.isT t)) ∧ w' = w := by
  rcases Ct.isT_cases t with ⟨rfl, h⟩ | ⟨rfl, h⟩ | ⟨h5, h6, h⟩
  all_goals
    rw [h]
    clear h
    go_enter Tryd.func39, Tryd.ntmps39
    go_wp2
    go_ret
    exact ⟨rfl, rfl⟩

/-- What Mark tells. -/
def Ct.markR (t : Int) (s : List UInt8) : List UInt8 := if Ct.markC t s = 0 then Ct.markP t s else []
set_option maxRecDepth 8000 in
set_option maxHeartbeats 400000 in
theorem rMark_any (t : Int) (s : List UInt8) (w : World) :
    Calls Tryd.prog 14 #[.int .i64 t, .string ⟨s.toArray⟩] w fun e w' => e = .returned (.tuple #[.string ⟨(Ct.markR t s).toArray⟩, .int .i64 (Ct.markC t s)]) ∧ Below w.heap.size w w' := by
  have HT := Lib.hid (rTag_any t w)
  cases ht : Ct.isT t with
  | false =>
    have h1 : Ct.markC t s = 1 := by simp [Ct.markC, ht]
    have h2 : Ct.markR t s = [] := by simp [Ct.markR, h1]
    rw [h1, h2]
    rw [ht] at HT
    clear ht h1 h2
    go_enter Tryd.func14, Tryd.ntmps14
    go_wp2_with fail
    refine HT.out.mono ?_
    rintro e w1 ⟨rfl, rfl⟩
    go_wp2
    go_ret2
    exact ⟨rfl, Below.refl _ _⟩
  | true =>
    rw [ht] at HT
    by_cases hl : s.length = 32
    · have h1 : Ct.markC t s = 0 := by simp [Ct.markC, ht, hl]
      have h2 : Ct.markR t s = Ct.markP t s := by simp [Ct.markR, h1]
      rw [h1, h2]
      have HTG := Lib.hid (fun w => rTagged_any t s w (by omega))
      change Hid (∀ w, Calls _ _ _ w fun e w' => e = .returned (.string ⟨(Ct.markP t s).toArray⟩) ∧ _) at HTG
      obtain ⟨R, hR⟩ : ∃ R, Ct.markP t s = R := ⟨_, rfl⟩
      rw [hR] at HTG ⊢
      have hl' : (s.length : Int) = 32 := by omega
      clear ht h1 h2 hR hl
      go_enter Tryd.func14, Tryd.ntmps14
      go_wp2_with fail
      refine HT.out.mono ?_
      rintro e w1 ⟨rfl, rfl⟩
      go_wp2_with fail
      refine (HTG.out _).mono ?_
      rintro e w2 ⟨rfl, hb⟩
      go_wp2
      go_ret2
      exact ⟨rfl, hb⟩
    · have h1 : Ct.markC t s = 3 := by simp [Ct.markC, ht, hl]
      have h2 : Ct.markR t s = [] := by simp [Ct.markR, h1]
      rw [h1, h2]
      have hl' : ¬ ((s.length : Int) = 32) := by omega
      clear ht h1 h2 hl
      go_enter Tryd.func14, Tryd.ntmps14
      go_wp2_with fail
      refine HT.out.mono ?_
      rintro e w1 ⟨rfl, rfl⟩
      go_wp2
      go_ret2
      exact ⟨rfl, Below.refl _ _⟩

theorem Ct.step (L : List (List UInt8)) (k : Nat) (h : k < L.length) : Pw.okFrom [] ((L.map Ct.toM).take (k + 1)) = (Pw.okFrom [] ((L.map Ct.toM).take k) && Pw.okM (Pw.lastOf [] ((L.map Ct.toM).take k)) (Ct.toM L[k])) := by
  have := Pw.okFrom_take (L.map Ct.toM) k (by simpa using h)
  rwa [List.getElem_map] at this
theorem Ct.bad (L : List (List UInt8)) (k : Nat) (h : k < L.length) (hb : Pw.okM (Pw.lastOf [] ((L.map Ct.toM).take k)) (Ct.toM L[k]) = false) : Ct.okNs L = false := by
  refine Pw.okFrom_bad (L.map Ct.toM) k (by simpa using h) ?_
  rwa [List.getElem_map]
theorem Ct.last (L : List (List UInt8)) (k : Nat) (h : k < L.length) : Pw.lastOf [] ((L.map Ct.toM).take (k + 1)) = L[k] := by
  have := Pw.lastOf_take (L.map Ct.toM) k (by simpa using h)
  rwa [List.getElem_map] at this
theorem Ct.okM_to (p s : List UInt8) : Pw.okM p (Ct.toM s) = (decide (p < s) && decide (s.length ≤ 6)) := by
  show (decide (p < s) && decide (s.length ≤ 6) && decide ((1 : Int) ≤ 1) && decide ((1 : Int) ≤ 1000)) = _
  rw [show decide ((1 : Int) ≤ 1) = true from rfl, show decide ((1 : Int) ≤ 1000) = true from rfl, Bool.and_true, Bool.and_true]

/-- The first text's address has no spot. -/
theorem addr_plain {w : World} {q : Addr} {v : Value} (h : w.cell? (q.add 0) = some v) : ∃ b o, q = ⟨b, o, none⟩ := by
  obtain ⟨b, o, s⟩ := q
  have h' : w.cell? ⟨b, o, s⟩ = some v := by simpa [Addr.add] using h
  obtain rfl := cell_spot h'
  exact ⟨b, o, rfl⟩

set_option maxRecDepth 100000 in
set_option maxHeartbeats 2000000 in
theorem rMay_any (c : C) (s : Value) (w : World) (hs : Strs w s c.sig) (hl : c.sig.length ≤ 1000000) :
    Calls Tryd.prog 48 #[.agg #[.string ⟨c.dig.toArray⟩, s]] w fun e w' => e = .returned (.bool (Ct.may c)) ∧ Below w.heap.size w w' := by
  obtain ⟨D, L⟩ := c
  dsimp only at hs hl ⊢
  have HS := Lib.hid hs
  obtain ⟨A, cap, rfl, -⟩ := hs
  have hb : Below w.heap.size w (w.alloc (.cells #[.string ⟨D.toArray⟩, .slice A L.length cap] 28)) := (Below.refl _ w).alloc (Nat.le_refl _) _
  obtain ⟨g0, g1, -, -⟩ := cells2 (heap_new_at w (.cells #[.string ⟨D.toArray⟩, .slice A L.length cap] 28) w.heap.size rfl)
  by_cases h32 : D.length = 32
  case neg =>
    have hm : Ct.may ⟨D, L⟩ = false := by simp [Ct.may, h32]
    have h32' : ¬ ((D.length : Int) = 32) := by omega
    rw [hm]
    clear hm h32 g0 g1
    go_enter Tryd.func48, Tryd.ntmps48
    go_wp2
    go_ret
    exact ⟨rfl, hb⟩
  have h32' : ((D.length : Int) = 32) := by omega
  by_cases h7 : L.length ≤ 7
  case neg =>
    have hm : Ct.may ⟨D, L⟩ = false := by simp [Ct.may, h7]
    have h7' : (7 : Int) < (L.length : Int) := by omega
    rw [hm]
    clear hm h7 h32 g0 g1
    go_enter Tryd.func48, Tryd.ntmps48
    go_wp2
    go_ret
    exact ⟨rfl, hb⟩
  have h7' : ¬ ((7 : Int) < (L.length : Int)) := by omega
  have hm : Ct.may ⟨D, L⟩ = Ct.okNs L := by simp [Ct.may, h32, h7]
  rw [hm]
  obtain ⟨O, hO⟩ : ∃ O, Ct.okNs L = O := ⟨_, rfl⟩
  have HO := Lib.hid hO
  rw [hO]
  have HB := Lib.hid hb
  clear hm hO h32 hb g0 g1 hl
  go_enter Tryd.func48, Tryd.ntmps48
  go_wp2
  obtain ⟨g0, g1, -, -⟩ := cells2 (heap_new_at w (.cells #[.string ⟨D.toArray⟩, .slice A L.length cap] 28) w.heap.size rfl)
  obtain ⟨p, hp⟩ : ∃ p, w.heap.size = p := ⟨_, rfl⟩
  have HPW := Lib.hid hp
  have hsz := lt_of_heap (heap_new_at w (.cells #[.string ⟨D.toArray⟩, .slice A L.length cap] 28) w.heap.size rfl)
  rw [hp] at g0 g1 hsz ⊢
  generalize (w.alloc (.cells #[.string ⟨D.toArray⟩, .slice A L.length cap] 28)) = w0 at *
  have HG1 := Lib.hid g1
  have HSZ := Lib.hid hsz
  clear g0 g1 hsz hp
  go_loopw [3] (fun i wr => ∃ k : Nat, k ≤ L.length ∧ i = .int .i64 k ∧ Hid (Pw.okFrom [] ((L.map Ct.toM).take k) = true) ∧ Below w0.heap.size w0 wr) (fun i _ => L.length - (intOf i).toNat)
  case atStart => exact ⟨0, Nat.zero_le _, rfl, Lib.hid rfl, Below.refl _ _⟩
  case round =>
    obtain ⟨k, hk, rfl, HK, hb⟩ := hrel
    have HBk := Lib.hid hb
    have HBw : Hid (∀ n, Below w.heap.size w (wr.drewN n)) := Lib.hid (fun n => bel_drewN (HB.out.trans (hb.mono (by rw [HPW.out]; exact Nat.le_of_lt HSZ.out))) n)
    have HBw0 : Hid (Below w.heap.size w wr) := Lib.hid (HB.out.trans (hb.mono (by rw [HPW.out]; exact Nat.le_of_lt HSZ.out)))
    have g1 := (hb.cell HSZ.out).trans HG1.out
    by_cases hlt : k < L.length
    · have h1 : (k : Int) < (L.length : Int) := by omega
      have h0 : (0 : Int) ≤ (k : Int) := by omega
      have h2 : (k : Int) ≤ 7 := by omega
      have hsw := HS.out.below HBw0.out
      obtain ⟨A3, cap3, hv3, hc3⟩ := hsw
      obtain ⟨rfl, rfl⟩ : A = A3 ∧ cap = cap3 := by simpa using hv3
      obtain ⟨q, rfl, n0⟩ := hc3 k hlt
      obtain ⟨qz, hqz, nz⟩ := hc3 0 (by omega)
      obtain rfl : q = qz := by simpa using hqz
      obtain ⟨qb, qo, rfl⟩ := addr_plain nz
      clear hqz nz
      rw [Addr.add_mid] at n0
      have HST := Lib.hid (Ct.step L k hlt)
      have HBAD := Lib.hid (Ct.bad L k hlt)
      have hlast : ∀ k', k = k' + 1 → ∃ h : k' < L.length, Pw.lastOf [] ((L.map Ct.toM).take k) = L[k'] := fun k' e => ⟨by omega, by subst e; exact Ct.last L k' (by omega)⟩
      obtain ⟨x, hx⟩ : ∃ x, L[k] = x := ⟨_, rfl⟩
      rw [hx] at n0 HST HBAD
      rw [Ct.okM_to] at HST HBAD
      clear hx hb hv3
      by_cases e1 : x.length < 1
      · have d1 : decide ((x.length : Int) < 1) = true := by simpa using (by omega : (x.length : Int) < 1)
        obtain rfl : O = false := by
          rw [← HO.out]
          refine HBAD.out ?_
          obtain rfl : x = [] := List.eq_nil_of_length_eq_zero (by omega)
          simp
        have d1' : (x.length : Int) < 1 := by omega
        clear hlast e1
        go_wp2
        go_quiet (fail)
        all_goals
          go_wp2
          go_ret
          exact ⟨rfl, HBw.out _⟩
      have d1 : decide ((x.length : Int) < 1) = false := by simpa using (by omega : ¬ (x.length : Int) < 1)
      have d1' : ¬ ((x.length : Int) < 1) := by omega
      have hxn : ([] : List UInt8) < x := (Pw.lt_nil x).2 (fun q => e1 (by rw [q]; simp))
      by_cases e2 : x.length ≤ 6
      case neg =>
        have d2 : decide ((6 : Int) < (x.length : Int)) = true := by simpa using (by omega : (6 : Int) < (x.length : Int))
        have d2' : (6 : Int) < (x.length : Int) := by omega
        obtain rfl : O = false := by
          rw [← HO.out]
          refine HBAD.out ?_
          simp [e2]
        clear hlast e1 e2 hxn
        go_wp2
        go_quiet (fail)
        all_goals
          go_wp2
          go_ret
          exact ⟨rfl, HBw.out _⟩
      have d2 : decide ((6 : Int) < (x.length : Int)) = false := by simpa using (by omega : ¬ (6 : Int) < (x.length : Int))
      have d2' : ¬ ((6 : Int) < (x.length : Int)) := by omega
      cases k with
      | zero =>
        have h1' : (0 : Int) < (L.length : Int) := by omega
        have HK' : Hid (Pw.okFrom [] ((L.map Ct.toM).take (0 + 1)) = true) := Lib.hid (by
          rw [HST.out, HK.out]
          simp [Pw.lastOf, hxn, e2])
        simp only [Nat.add_zero] at n0
        clear hlast e1 e2 hxn h1 h0 h2
        go_wp2
        go_quiet (fail)
        all_goals
          go_wp2
          exact ⟨⟨0 + 1, by omega, by go_num, HK', bel_drewN HBk.out _⟩, by simp [intOf]; omega⟩
      | succ k =>
        obtain ⟨hk', hla⟩ := hlast k rfl
        obtain ⟨q', hq', m0⟩ := hc3 k hk'
        obtain rfl : (⟨qb, qo, none⟩ : Addr) = q' := by simpa using hq'
        rw [Addr.add_mid] at m0
        obtain ⟨y, hy⟩ : ∃ y, L[k] = y := ⟨_, rfl⟩
        rw [hy] at m0 hla
        rw [hla] at HST HBAD
        have hp1 : (0 : Int) < ((k + 1 : Nat) : Int) := by omega
        have hp2 : (0 : Int) < (k : Int) + 1 := by omega
        have hp3 : (0 : Int) ≤ (k : Int) + 1 := by omega
        have hp4 : (k : Int) + 1 < (L.length : Int) := by omega
        have hp5 : ((k : Int) + 1).toNat = k + 1 := by omega
        have hp6 : (0 : Int) ≤ (k : Int) := by omega
        have hp7 : (k : Int) < (L.length : Int) := by omega
        clear hlast hy hq' hla
        by_cases e3 : y < x
        · have s1 : Op.bytesLess x y = false := by rw [less_lt]; simpa using List.le_of_lt e3
          have s2 : (x == y) = false := by rw [beq_eq_false_iff_ne]; rintro rfl; exact absurd e3 (List.lt_irrefl _)
          have HK' : Hid (Pw.okFrom [] ((L.map Ct.toM).take (k + 1 + 1)) = true) := Lib.hid (by
            rw [HST.out, HK.out]
            simp [e3, e2])
          clear e1 e2 hxn e3
          go_wp2
          go_quiet (fail)
          all_goals
            go_wp2
            exact ⟨⟨k + 1 + 1, by omega, by go_num, HK', bel_drewN HBk.out _⟩, by simp [intOf]; omega⟩
        · obtain rfl : O = false := by
            rw [← HO.out]
            refine HBAD.out ?_
            simp [e3]
          by_cases e4 : x = y
          · have s1 : Op.bytesLess x y = false := by rw [less_lt, e4]; simp
            have s2 : (x == y) = true := by simpa using e4
            clear e1 e2 hxn e3 e4
            go_wp2
            go_quiet (fail)
            all_goals
              go_wp2
              go_ret
              exact ⟨rfl, HBw.out _⟩
          · have s1 : Op.bytesLess x y = true := by
              rw [less_lt, decide_eq_true_eq]
              exact (List.le_iff_lt_or_eq.1 (List.not_lt.1 e3)).elim id (fun q => absurd q e4)
            clear e1 e2 hxn e3 e4
            go_wp2
            go_quiet (fail)
            all_goals
              go_wp2
              go_ret
              exact ⟨rfl, HBw.out _⟩
    · have h1 : ¬ ((k : Int) < (L.length : Int)) := by omega
      obtain rfl : k = L.length := by omega
      obtain rfl : O = true := by
        rw [← HO.out]
        have := HK.out
        rw [List.take_of_length_le (by simp)] at this
        exact this
      go_wp2
      go_ret
      exact ⟨rfl, HBw0.out⟩
end Go.Proofs.YtojpkodmpjibkaaDoor
namespace Go.Proofs.YtojpkodmpjibkaaDoor
open Go.Shelf Go.RowKit
def lays106_ren : Go.Shelf.Ren := ⟨fun | 106 => 88 | 213 => 115 | 265 => 129 | n => n, fun | 9 => 9 | 3 => 3 | n => n, fun | n => n⟩
theorem lays106 : Go.Proofs.Lays.n106 Tryd.prog lays106_ren := {
  mixed := by kernel_rfl
  f106 := Tryd.func88.trans (congrArg some (by kernel_rfl))
  f213 := Tryd.func115.trans (congrArg some (by kernel_rfl))
  f265 := Tryd.func129.trans (congrArg some (by kernel_rfl))
  t3 := Tryd.underlying3
  a3 := Tryd.isAgg3
  z3 := Tryd.sizeOf3
  v3 := Tryd.zeroValue3
  t9 := Tryd.underlying9
  a9 := Tryd.isAgg9
  z9 := Tryd.sizeOf9
  v9 := Tryd.zeroValue9 }
theorem shelf_strings_Compare (a b : ByteArray) (w : World) :
    Calls Tryd.prog 88 #[.string a, .string b] w fun e w' => e = .returned (.int .i64 (Lib.compareBytes a.data.toList b.data.toList)) ∧ w' = w := Any.strings_Compare lays106 a b w
end Go.Proofs.YtojpkodmpjibkaaDoor
namespace Go.Proofs.YtojpkodmpjibkaaDoor
open Go.Shelf Go.RowKit Go.Sort
def laysort_ren : Go.Shelf.Ren := ⟨fun | 6 => 66 | 15 => 82 | 14 => 86 | 28 => 103 | 29 => 92 | 20 => 107 | 21 => 108 | 22 => 109 | 23 => 110 | 24 => 111 | 25 => 112 | 26 => 113 | 27 => 114 | 46 => 126 | 47 => 119 | 48 => 120 | 49 => 127 | 50 => 128 | 57 => 132 | n => n, fun | 22 => 32 | 24 => 101 | 25 => 103 | 3 => 3 | 39 => 119 | 0 => 0 | 53 => 120 | 55 => 124 | 4 => 4 | 46 => 140 | 45 => 139 | 50 => 106 | 5 => 5 | 9 => 9 | 66 => 156 | 70 => 160 | 76 => 170 | 77 => 171 | n => n, fun | n => n⟩
theorem laysort : Go.Proofs.SlLaysF0.n6 Tryd.prog laysort_ren := {
  mixed := by kernel_rfl
  f6 := ⟨Tryd.f66.name, by decide, Tryd.func66.trans (congrArg some (by kernel_rfl))⟩
  f14 := ⟨Tryd.f86.name, by decide, Tryd.func86.trans (congrArg some (by kernel_rfl))⟩
  f15 := Tryd.func82.trans (congrArg some (by kernel_rfl))
  f20 := ⟨Tryd.f107.name, by decide, Tryd.func107.trans (congrArg some (by kernel_rfl))⟩
  f21 := ⟨Tryd.f108.name, by decide, Tryd.func108.trans (congrArg some (by kernel_rfl))⟩
  f22 := ⟨Tryd.f109.name, by decide, Tryd.func109.trans (congrArg some (by kernel_rfl))⟩
  f23 := ⟨Tryd.f110.name, by decide, Tryd.func110.trans (congrArg some (by kernel_rfl))⟩
  f24 := ⟨Tryd.f111.name, by decide, Tryd.func111.trans (congrArg some (by kernel_rfl))⟩
  f25 := ⟨Tryd.f112.name, by decide, Tryd.func112.trans (congrArg some (by kernel_rfl))⟩
  f26 := ⟨Tryd.f113.name, by decide, Tryd.func113.trans (congrArg some (by kernel_rfl))⟩
  f27 := ⟨Tryd.f114.name, by decide, Tryd.func114.trans (congrArg some (by kernel_rfl))⟩
  f28 := Tryd.func103.trans (congrArg some (by kernel_rfl))
  f29 := Tryd.func92.trans (congrArg some (by kernel_rfl))
  f46 := ⟨Tryd.f126.name, by decide, Tryd.func126.trans (congrArg some (by kernel_rfl))⟩
  f47 := Tryd.func119.trans (congrArg some (by kernel_rfl))
  f48 := Tryd.func120.trans (congrArg some (by kernel_rfl))
  f49 := ⟨Tryd.f127.name, by decide, Tryd.func127.trans (congrArg some (by kernel_rfl))⟩
  f50 := ⟨Tryd.f128.name, by decide, Tryd.func128.trans (congrArg some (by kernel_rfl))⟩
  f57 := ⟨Tryd.f132.name, by decide, Tryd.func132.trans (congrArg some (by kernel_rfl))⟩
  t0 := Tryd.underlying0
  a0 := Tryd.isAgg0
  z0 := Tryd.sizeOf0
  v0 := Tryd.zeroValue0
  t3 := Tryd.underlying3
  a3 := Tryd.isAgg3
  z3 := Tryd.sizeOf3
  v3 := Tryd.zeroValue3
  t4 := Tryd.underlying4
  a4 := Tryd.isAgg4
  z4 := Tryd.sizeOf4
  v4 := Tryd.zeroValue4
  t5 := Tryd.underlying5
  a5 := Tryd.isAgg5
  z5 := Tryd.sizeOf5
  v5 := Tryd.zeroValue5
  t9 := Tryd.underlying9
  a9 := Tryd.isAgg9
  z9 := Tryd.sizeOf9
  v9 := Tryd.zeroValue9
  t22 := Tryd.underlying32
  a22 := Tryd.isAgg32
  z22 := Tryd.sizeOf32
  v22 := Tryd.zeroValue32
  t25 := Tryd.underlying103
  a25 := Tryd.isAgg103
  z25 := Tryd.sizeOf103
  v25 := Tryd.zeroValue103
  t39 := Tryd.underlying119
  a39 := Tryd.isAgg119
  z39 := Tryd.sizeOf119
  v39 := Tryd.zeroValue119
  t45 := Tryd.underlying139
  a45 := Tryd.isAgg139
  z45 := Tryd.sizeOf139
  v45 := Tryd.zeroValue139
  t46 := Tryd.underlying140
  a46 := Tryd.isAgg140
  z46 := Tryd.sizeOf140
  v46 := Tryd.zeroValue140
  t50 := Tryd.underlying106
  a50 := Tryd.isAgg106
  z50 := Tryd.sizeOf106
  v50 := Tryd.zeroValue106
  t53 := Tryd.underlying120
  a53 := Tryd.isAgg120
  z53 := Tryd.sizeOf120
  v53 := Tryd.zeroValue120
  t55 := Tryd.underlying124
  a55 := Tryd.isAgg124
  z55 := Tryd.sizeOf124
  v55 := Tryd.zeroValue124
  t66 := Tryd.underlying156
  a66 := Tryd.isAgg156
  z66 := Tryd.sizeOf156
  v66 := Tryd.zeroValue156
  t70 := Tryd.underlying160
  a70 := Tryd.isAgg160
  z70 := Tryd.sizeOf160
  v70 := Tryd.zeroValue160
  t76 := Tryd.underlying170
  a76 := Tryd.isAgg170
  z76 := Tryd.sizeOf170
  v76 := Tryd.zeroValue170
  t77 := Tryd.underlying171
  a77 := Tryd.isAgg171
  z77 := Tryd.sizeOf171
  v77 := Tryd.zeroValue171 }
theorem shelf_slices_SortFunc {α : Type} [Inhabited α] (enc : α → List Value) (hk : ∀ x, (enc x).length = 3) (h1 : ∀ x, ∀ v ∈ enc x, v.oneCell' = true) (cf : α → α → Int) (hO : SWO (ltOf cf)) (g : Nat) (cb : Array Value) (blk off cap : Nat) (d : Array α) (w : World)
    (eg : ∀ args w, (callFunc g args).run Tryd.prog w = .ok (.enter g args) w) (hcmp : CmpLays Tryd.prog g cb enc 3 cf blk off d.size w) (hH : HoldsK enc 3 w blk off d) (hblk : blk < w.heap.size) (hsz : d.size < 4611686018427387904) :
    Calls Tryd.prog 66 #[.slice (some ⟨blk, off, none⟩) d.size cap, .func (.func g) #[] cb] w fun e w' =>
      e = .returned (.tuple #[]) ∧ ∃ d' n os, PermIn 0 d.size d d' ∧ SortedIn (ltOf cf) 0 d.size d' ∧ w' = sortWorldK enc 3 w blk off n d' os :=
  AnyQ.slices_SortFunc laysort 3 Tryd.isAgg101 Tryd.sizeOf101 enc hk h1 cf hO g cb blk off cap d w eg hcmp hH hblk hsz
theorem shelf_slices_SortFunc_none (p : Option Addr) (cap : Nat) (fv : Value) (w : World) :
    Calls Tryd.prog 66 #[.slice p 0 cap, fv] w fun e w' => e = .returned (.tuple #[]) ∧ w' = w := AnyF.slices_SortFunc_none laysort p cap fv w
end Go.Proofs.YtojpkodmpjibkaaDoor
namespace Go.Proofs.YtojpkodmpjibkaaDoor
open Go.RowKit Go.Sort

/-- Draws and new blocks, nothing else. -/
def Grew (w w' : World) : Prop := ∃ q os, w' = grow (w.drewN q) os
theorem Grew.refl (w : World) : Grew w w := ⟨0, #[], by simp [World.drewN]⟩
theorem Grew.alloc {a w : World} (h : Grew a w) (o : Obj) : Grew a (w.alloc o) := by
  obtain ⟨q, os, rfl⟩ := h
  exact ⟨q, os ++ #[o], by rw [alloc_eq_grow, grow_grow]⟩
theorem Grew.drew {a w : World} (h : Grew a w) : Grew a w.drew := by
  obtain ⟨q, os, rfl⟩ := h
  exact ⟨q + 1, os, rfl⟩
theorem Grew.drewN {a w : World} (h : Grew a w) (n : Nat) : Grew a (w.drewN n) := by
  obtain ⟨q, os, rfl⟩ := h
  exact ⟨q + n, os, by simp [World.drewN, grow, Nat.add_assoc]⟩
theorem Grew.below {w w' : World} (h : Grew w w') : Below w.heap.size w w' := by
  obtain ⟨q, os, rfl⟩ := h
  exact ⟨rfl, rfl, rfl, by simp [grow, World.drewN], fun k hk => heap_grow_old (w.drewN q) os hk⟩
end Go.Proofs.YtojpkodmpjibkaaDoor
namespace Go.Proofs.YtojpkodmpjibkaaDoor
open Go.RowKit Go.Sort
open Go.Proofs.YtojpkodmpjibkaaDoor.Ora (K Sig)

/-- strings.Compare, cmp.Or of two, as plain functions. -/
def cmpS (a b : List UInt8) : Int := Lib.compareBytes a b
def orI (x y : Int) : Int := if x = 0 then y else x
theorem cmpS_spec : ∀ (a b : List UInt8), (cmpS a b < 0 ↔ a < b) ∧ (cmpS a b = 0 ↔ a = b)
  | [], [] => by simp [cmpS, Lib.compareBytes]
  | [], _ :: _ => by simp [cmpS, Lib.compareBytes]
  | _ :: _, [] => by simp [cmpS, Lib.compareBytes]
  | x :: a, y :: b => by
    have ih := cmpS_spec a b
    unfold cmpS at ih ⊢
    unfold Lib.compareBytes
    rw [List.cons_lt_cons_iff]
    by_cases h1 : x < y
    · have h2 : x ≠ y := fun e => UInt8.lt_irrefl y (e ▸ h1)
      simp [h1, h2]
    · by_cases h2 : y < x
      · have h3 : x ≠ y := fun e => UInt8.lt_irrefl y (e ▸ h2)
        simp [h1, h2, h3]
      · obtain rfl : x = y := UInt8.le_antisymm (UInt8.not_lt.1 h2) (UInt8.not_lt.1 h1)
        simp only [h1, if_false, List.cons.injEq, true_and, false_or]
        exact ih
def cmpK (a b : K) : Int := orI (cmpS a.1 b.1) (cmpS a.2 b.2)
theorem cmpK_lt (a b : K) : decide (cmpK a b < 0) = Ora.kLt a b := by
  rw [Bool.eq_iff_iff, Ora.kLt_iff, decide_eq_true_eq]
  obtain ⟨h1, h2⟩ := cmpS_spec a.1 b.1
  obtain ⟨h3, h4⟩ := cmpS_spec a.2 b.2
  unfold cmpK orI
  by_cases e : cmpS a.1 b.1 = 0
  · rw [if_pos e, h3]
    have hab := h2.1 e
    rw [hab]
    simp [List.lt_irrefl]
  · rw [if_neg e, h1]
    have hn : a.1 ≠ b.1 := fun q => e (h2.2 q)
    simp [hn]
theorem ltOf_kLt (x y : Sig) : ltOf (fun x y : Sig => cmpK x.1 y.1) x y = Ora.kLt x.1 y.1 := cmpK_lt x.1 y.1
theorem swoK : SWO (ltOf fun x y : Sig => cmpK x.1 y.1) where
  irrefl x := by rw [ltOf_kLt]; exact Ora.kLt_irrefl _
  trans x y z h1 h2 := by rw [ltOf_kLt] at *; exact Ora.kLt_trans h1 h2
  ntrans x y z h1 h2 := by
    rw [ltOf_kLt] at *
    cases h : Ora.kLt x.1 z.1 with
    | false => rfl
    | true =>
      by_cases e : x.1 = y.1
      · rw [e, h2] at h; cases h
      · have := Ora.kLt_trans (Ora.kLt_total h1 e) h
        rw [h2] at this; cases this

theorem cmp_any (a b : List UInt8) (w : World) : Calls Tryd.prog 88 #[.string ⟨a.toArray⟩, .string ⟨b.toArray⟩] w fun e w' => e = .returned (.int .i64 (cmpS a b)) ∧ w' = w :=
  shelf_strings_Compare ⟨a.toArray⟩ ⟨b.toArray⟩ w

set_option maxRecDepth 8000 in
set_option maxHeartbeats 1000000 in
theorem or_any (x y : Int) (g : Nat) (w : World) (h0 : w.cell? ⟨g, 0, none⟩ = some (.int .i64 x)) (h1 : w.cell? ⟨g, 1, none⟩ = some (.int .i64 y)) :
    Calls Tryd.prog 87 #[.slice (some ⟨g, 0, none⟩) 2 2] w fun e w' => e = .returned (.int .i64 (orI x y)) ∧ w' = w := by
  by_cases ex : x = 0
  · by_cases ey : y = 0
    · subst ex; subst ey
      go_enter Tryd.func87, Tryd.ntmps87
      go_wp2
      refine wp_loop_rounds 3 ?_
      rw [rounds_succ]
      go_wp2
      rw [rounds_succ]
      go_wp2
      rw [rounds_succ]
      go_wp2
      go_ret
      exact ⟨rfl, rfl⟩
    · subst ex
      have hy : (y == 0) = false := by simpa using ey
      have ho : orI 0 y = y := by simp [orI]
      rw [ho]
      go_enter Tryd.func87, Tryd.ntmps87
      go_wp2
      refine wp_loop_rounds 3 ?_
      rw [rounds_succ]
      go_wp2
      rw [rounds_succ]
      go_wp2
      go_ret
      exact ⟨rfl, rfl⟩
  · have hx : (x == 0) = false := by simpa using ex
    have ho : orI x y = x := by simp [orI, ex]
    rw [ho]
    go_enter Tryd.func87, Tryd.ntmps87
    go_wp2
    refine wp_loop_rounds 3 ?_
    rw [rounds_succ]
    go_wp2
    go_ret
    exact ⟨rfl, rfl⟩
end Go.Proofs.YtojpkodmpjibkaaDoor
namespace Go.Proofs.YtojpkodmpjibkaaDoor
open Go.RowKit
open Go.Proofs.YtojpkodmpjibkaaDoor.Ora (K Sig)

/-- A new table. -/
def NewPost (w : World) (S : List Sig) (e : Ending) (w' : World) : Prop := ∃ g m, e = .returned (.pointer (some ⟨g, 0, none⟩)) ∧ w.heap.size ≤ g ∧ w.heap.size ≤ m ∧ TabAt w' g m S ∧ Below w.heap.size w w'

set_option maxRecDepth 8000 in
set_option maxHeartbeats 400000 in
theorem new_any (w : World) : Calls Tryd.prog 35 #[] w (NewPost w []) := by
  have hmm := @run_makeMap Tryd.prog
  go_enter Tryd.func35, Tryd.ntmps35
  go_wp2
  go_ret
  refine ⟨w.heap.size + 1, w.heap.size, rfl, by omega, by omega, ⟨heap_new_at _ _ _ (by simp), ?_, Ora.rising_nil⟩, ((Below.refl _ w).alloc (Nat.le_refl _) _).alloc (by simp) _⟩
  exact ((FnAt.made sigMap w w.heap.size rfl).congr (fun _ => rfl)).below ((Below.refl _ _).alloc (Nat.le_refl _) _)

set_option maxRecDepth 8000 in
set_option maxHeartbeats 400000 in
theorem signed_grew (g m : Nat) (S : List Sig) (k : K) (w : World) (h : TabAt w g m S) (hk : OkK k) :
    Calls Tryd.prog 28 #[.pointer (some ⟨g, 0, none⟩), .string ⟨k.1.toArray⟩, .string ⟨k.2.toArray⟩] w fun e w' => e = .returned (.bool (Ora.look S k).isSome) ∧ Grew w w' := by
  have hc := h.cell
  have hlook := h.map.look Tryd.underlying92 hk true (zeroSteps w)
  obtain ⟨x, d⟩ := k
  obtain ⟨o, ho⟩ : ∃ o, Ora.look S (x, d) = o := ⟨_, rfl⟩
  rw [ho] at hlook ⊢
  dsimp only
  cases o with
  | none =>
    have hlook2 : (Instr.lookup 92 (.map (some m)) (.agg #[.string ⟨x.toArray⟩, .string ⟨d.toArray⟩]) true).run Tryd.prog w = .ok (.tuple #[.agg #[.bool false], .bool false]) w := hlook
    clear hlook h ho
    go_enter Tryd.func28, Tryd.ntmps28
    go_wp2
    go_ret
    exact ⟨rfl, (Grew.refl w).alloc _⟩
  | some b =>
    have hlook2 : (Instr.lookup 92 (.map (some m)) (.agg #[.string ⟨x.toArray⟩, .string ⟨d.toArray⟩]) true).run Tryd.prog w = .ok (.tuple #[.agg #[.bool b], .bool true]) w := hlook
    clear hlook h ho
    go_enter Tryd.func28, Tryd.ntmps28
    go_wp2
    go_ret
    exact ⟨rfl, (Grew.refl w).alloc _⟩

theorem signed_any (g m : Nat) (S : List Sig) (k : K) (w : World) (h : TabAt w g m S) (hk : OkK k) :
    Calls Tryd.prog 28 #[.pointer (some ⟨g, 0, none⟩), .string ⟨k.1.toArray⟩, .string ⟨k.2.toArray⟩] w fun e w' => e = .returned (.bool (Ora.look S k).isSome) ∧ Below w.heap.size w w' :=
  (signed_grew g m S k w h hk).mono fun _ _ ⟨he, hg⟩ => ⟨he, hg.below⟩

end Go.Proofs.YtojpkodmpjibkaaDoor
namespace Go.Proofs.YtojpkodmpjibkaaDoor
open Go.RowKit Go.Sort
open Go.Proofs.YtojpkodmpjibkaaDoor.Ora (K Sig)

set_option maxRecDepth 8000 in
set_option maxHeartbeats 1000000 in
theorem order_any (x y : Sig) (W : World) : Calls Tryd.prog 67 #[sval x, sval y] W fun e w' => e = .returned (.int .i64 (cmpK x.1 y.1)) ∧ Grew W w' := by
  obtain ⟨⟨a, b⟩, h⟩ := x
  obtain ⟨⟨c, d⟩, i⟩ := y
  unfold sval cmpK
  dsimp only
  go_enter Tryd.func67, Tryd.ntmps67
  go_wp2
  have hg : Grew W ((W.alloc (.cells #[.string ⟨a.toArray⟩, .string ⟨b.toArray⟩, .bool h] 101)).alloc (.cells #[.string ⟨c.toArray⟩, .string ⟨d.toArray⟩, .bool i] 101)) := ((Grew.refl W).alloc _).alloc _
  obtain ⟨c0, c1, -, -, -, -⟩ := cells3 (heap_old_at (.cells #[.string ⟨c.toArray⟩, .string ⟨d.toArray⟩, .bool i] 101) (heap_new_at W (.cells #[.string ⟨a.toArray⟩, .string ⟨b.toArray⟩, .bool h] 101) W.heap.size rfl))
  obtain ⟨d0, d1, -, -, -, -⟩ := cells3 (heap_new_at (W.alloc (.cells #[.string ⟨a.toArray⟩, .string ⟨b.toArray⟩, .bool h] 101)) (.cells #[.string ⟨c.toArray⟩, .string ⟨d.toArray⟩, .bool i] 101) (W.heap.size + 1) (by simp))
  generalize ((W.alloc (.cells #[.string ⟨a.toArray⟩, .string ⟨b.toArray⟩, .bool h] 101)).alloc (.cells #[.string ⟨c.toArray⟩, .string ⟨d.toArray⟩, .bool i] 101)) = w0 at *
  have HG := Lib.hid hg
  clear hg
  have HC : Hid (∀ w', Below w0.heap.size w0 w' → w'.cell? ⟨W.heap.size, 0, none⟩ = some (.string ⟨a.toArray⟩) ∧ w'.cell? ⟨W.heap.size, 1, none⟩ = some (.string ⟨b.toArray⟩) ∧ w'.cell? ⟨W.heap.size + 1, 0, none⟩ = some (.string ⟨c.toArray⟩) ∧ w'.cell? ⟨W.heap.size + 1, 1, none⟩ = some (.string ⟨d.toArray⟩)) :=
    Lib.hid (fun w' hb => ⟨(hb.cell (World.block_lt_of_cell? _ _ c0)).trans c0, (hb.cell (World.block_lt_of_cell? _ _ c1)).trans c1, (hb.cell (World.block_lt_of_cell? _ _ d0)).trans d0, (hb.cell (World.block_lt_of_cell? _ _ d1)).trans d1⟩)
  have HBD : Hid (Below w0.heap.size w0 w0.drew) := Lib.hid (Below.refl _ w0).drew
  have HBA : Hid (∀ o, Below w0.heap.size w0 (w0.alloc o).drew) := Lib.hid (fun o => ((Below.refl _ w0).alloc (Nat.le_refl _) o).drew)
  go_region_held3 (fun w' => w'.cell? ⟨W.heap.size, 0, none⟩ = some (.string ⟨a.toArray⟩) ∧ w'.cell? ⟨W.heap.size, 1, none⟩ = some (.string ⟨b.toArray⟩) ∧ w'.cell? ⟨W.heap.size + 1, 0, none⟩ = some (.string ⟨c.toArray⟩) ∧ w'.cell? ⟨W.heap.size + 1, 1, none⟩ = some (.string ⟨d.toArray⟩))
    ((refine HC.out _ ?_; with_reducible (first | exact HBD.out | exact HBA.out _ | fail)))
    (first | (go_at_call 88; refine (cmp_any _ _ _).mono ?_; rintro e w1 ⟨rfl, rfl⟩) | (go_at_call 87; refine (or_any (cmpS a c) (cmpS b d) _ _ ?_ ?_).mono ?_; (exact (cell_of_row _ _ 0 _ _ _ (heap_new_at _ _ _ (by simp)))); (exact (cell_of_row _ _ 1 _ _ _ (heap_new_at _ _ _ (by simp)))); rintro e w1 ⟨rfl, rfl⟩))
  all_goals
    go_wp2
    go_ret
    exact ⟨rfl, (HG.out.alloc _).drew⟩
end Go.Proofs.YtojpkodmpjibkaaDoor
namespace Go.Proofs.YtojpkodmpjibkaaDoor
open Go.RowKit Go.Sort
open Go.Proofs.YtojpkodmpjibkaaDoor.Ora (K Sig)

theorem flat_sgrows (L : List Sig) : flatK scl 3 L.toArray = (sgrows L).toArray := by
  apply Array.ext_getElem?
  intro j
  by_cases hj : j < L.length * 3
  · have h1 : j / 3 < L.length := by omega
    have e : j = j / 3 * 3 + j % 3 := by omega
    have h2 : (flatK scl 3 L.toArray)[j]? = some (flatK scl 3 L.toArray)[j]! := by
      rw [getElem!_pos _ j (by simpa using hj)]; exact Array.getElem?_eq_getElem _
    rw [h2, get_flatK _ _ _ _ (by simpa using hj), List.getElem?_toArray]
    have h3 : L.toArray[j / 3]! = L[j / 3] := by rw [getElem!_pos _ (j / 3) (by simpa using h1)]; simp
    rw [h3]
    have h4 := sgrows_at L (j / 3) (j % 3) h1 (by omega)
    rw [← e] at h4
    rw [h4]
    have h5 : j % 3 < (scl L[j / 3]).length := by simp [scl]; omega
    rw [List.getElem?_eq_getElem h5, getElem!_pos (scl L[j / 3]) (j % 3) h5]
  · rw [Array.getElem?_eq_none (by simp; omega), Array.getElem?_eq_none (by simp [sgrows_length]; omega)]

theorem cmpLays (blk off size : Nat) (w : World) : CmpLays Tryd.prog 67 #[] scl 3 (fun x y : Sig => cmpK x.1 y.1) blk off size w :=
  fun _ _ _ _ x y => order_any x y _

theorem sorts_any (L S : List Sig) (s : Value) (B : Nat) (w : World) (h : OwnS w B s L) (hS : Ora.Rising S) (hp : L.Perm S) (hl : L.length ≤ 1000000) (hB : B ≤ w.heap.size) :
    Calls Tryd.prog 66 #[s, .func (.func 67) #[] #[]] w fun e w' => e = .returned (.tuple #[]) ∧ OwnS w' B s S ∧ Below B w w' := by
  have hSl : S.length = L.length := hp.length_eq.symm
  rcases h.2 with ⟨rfl, h0⟩ | ⟨g, cap, cur, rfl, hg, hh, hn, hcap, hsz, htake⟩
  · obtain rfl : L = [] := List.eq_nil_of_length_eq_zero h0
    obtain rfl : S = [] := List.eq_nil_of_length_eq_zero hSl
    refine (shelf_slices_SortFunc_none none 0 _ w).mono ?_
    rintro e w' ⟨rfl, rfl⟩
    exact ⟨rfl, OwnS.nil w' B, (Below.refl _ w').mono hB⟩
  · have hlt := lt_of_heap hh
    have hcell : ∀ j (hj : j < L.length * 3), cur[j]? = (sgrows L)[j]? := fun j hj => by
      have e := congrArg (fun l => l[j]?) htake
      rw [List.getElem?_take_of_lt hj, Array.getElem?_toList] at e
      exact e
    have hH : HoldsK scl 3 w g 0 L.toArray := by
      unfold HoldsK
      rw [flat_sgrows]
      intro j hj
      simp only [List.size_toArray, sgrows_length] at hj
      refine ⟨?_, frozen_of_row _ _ _ _ _ hh⟩
      rw [Nat.zero_add, cell_of_row w g j _ _ _ hh, hcell j hj, List.getElem?_eq_getElem (by rw [sgrows_length]; exact hj)]
      rw [getElem!_pos _ j (by simpa [sgrows_length] using hj)]
      simp
    have eg : ∀ args w, (callFunc 67 args).run Tryd.prog w = .ok (.enter 67 args) w := enters_of Tryd.func67 (by kernel_rfl) rfl
    refine (shelf_slices_SortFunc scl (fun _ => rfl) (fun x v hv => by simp [scl] at hv; rcases hv with rfl | rfl | rfl <;> rfl) (fun x y : Sig => cmpK x.1 y.1) swoK 67 #[] g 0 cap L.toArray w eg (cmpLays g 0 _ w) hH hlt (by simp; omega)).mono ?_
    rintro e w' ⟨rfl, d', n, os, hperm, hsort, rfl⟩
    have hd : d'.toList = S := by
      obtain ⟨q1, _, q3⟩ := hperm
      have q1' : d'.size = L.length := by simpa using q1
      have ex : ∀ a : Array Sig, a.size = L.length → (a.extract 0 L.toArray.size).toList = a.toList := fun a ha => by
        have : L.toArray.size = a.size := by simp [ha]
        rw [this]; simp
      rw [ex d' q1', ex L.toArray (by simp)] at q3
      refine Ora.rising_of_perm hS (q3.trans (by simpa using hp)) ?_
      rw [List.pairwise_iff_getElem]
      intro i j hi hj hij
      have hs := hsort i j (Nat.zero_le _) hij (by simpa [q1'] using hj)
      rw [ltOf_kLt] at hs
      rw [getElem!_pos d' i (by simpa using hi), getElem!_pos d' j (by simpa using hj)] at hs
      simpa using hs
    obtain rfl : d' = S.toArray := by rw [← hd]
    clear hperm hsort hd
    unfold sortWorldK putRowK
    rw [flat_sgrows]
    have hother : ∀ k, k < w.heap.size → k ≠ g → (grow (putRow id (Sort.ahead w n) g 0 (sgrows S).toArray) os).heap[k]? = w.heap[k]? := fun k hk hne => by
      simp only [Go.Sort.grow, Go.Sort.putRow, Go.Sort.mapBlock, Go.Sort.ahead]
      rw [Array.getElem?_append_left (by simpa using hk), Array.getElem?_modify, if_neg (fun e => hne e.symm)]
    have hthis : (grow (putRow id (Sort.ahead w n) g 0 (sgrows S).toArray) os).heap[g]? = some (.cells (Go.Sort.putCells id 0 (sgrows S).toArray cur) 101 (0, 0)) := by
      simp only [Go.Sort.grow, Go.Sort.putRow, Go.Sort.mapBlock, Go.Sort.ahead]
      rw [Array.getElem?_append_left (by simpa using hlt), Array.getElem?_modify, if_pos rfl, hh]
      rfl
    refine ⟨rfl, ⟨by rw [sgrows_length], Or.inr ⟨g, cap, _, by rw [hSl], hg, hthis, by omega, hcap, by simp [Go.Sort.putCells, hsz], ?_⟩⟩, ⟨rfl, rfl, rfl, ?_, fun k hk => hother k (by omega) (by omega)⟩⟩
    · apply List.ext_getElem?
      intro j
      by_cases hj : j < S.length * 3
      · rw [List.getElem?_take_of_lt hj, Array.getElem?_toList]
        have hjc : j < cur.size := by omega
        have hjs : j < (sgrows S).length := by rw [sgrows_length]; exact hj
        simp [Go.Sort.putCells, hjs, hjc]
      · rw [List.getElem?_eq_none (by simp; omega), List.getElem?_eq_none (by rw [sgrows_length]; omega)]
    · simp [Go.Sort.grow, Go.Sort.putRow, Go.Sort.mapBlock, Go.Sort.ahead]
end Go.Proofs.YtojpkodmpjibkaaDoor
namespace Go.Proofs.YtojpkodmpjibkaaDoor
open Go.RowKit
open Go.Proofs.YtojpkodmpjibkaaDoor.Ora (K Sig)

end Go.Proofs.YtojpkodmpjibkaaDoor
namespace Go.Proofs.YtojpkodmpjibkaaDoor
open Go.RowKit
open Go.Proofs.YtojpkodmpjibkaaDoor.Ora (K Sig)

theorem le_of_sub {α : Type} [BEq α] [LawfulBEq α] : ∀ {l M : List α}, l.Nodup → (∀ x ∈ l, x ∈ M) → l.length ≤ M.length
  | [], _, _, _ => Nat.zero_le _
  | a :: r, M, hn, hs => by
    obtain ⟨h1, h2⟩ := List.nodup_cons.1 hn
    have ha := hs a (List.mem_cons_self ..)
    have := le_of_sub (M := M.erase a) h2 fun x hx => (List.mem_erase_of_ne (fun e => h1 (by rw [← e]; exact hx))).2 (hs x (List.mem_cons_of_mem _ hx))
    rw [List.length_erase_of_mem ha] at this
    have hpos : 0 < M.length := List.length_pos_of_mem ha
    simp only [List.length_cons]
    omega
theorem FnRange.nodup {P : Program} {k : TypeId} {κ α : Type} {M : MapLaw P k κ α} {w : World} {b r : Nat} {f : κ → Option α} {done : List κ} {cnt : Nat} (h : FnRange M w b r f done cnt) : done.Nodup ∧ ∀ s ∈ done, f s ≠ none := by
  obtain ⟨_, _, _, _, _, _, _, _, _, _, _, _, _, _, h1, _, h2⟩ := h
  exact ⟨h1, h2⟩
theorem Ora.done_le {S : List Sig} (hS : Ora.Rising S) {done : List K} (hn : done.Nodup) (hs : ∀ s ∈ done, Ora.look S s ≠ none) : done.length ≤ S.length := by
  have := le_of_sub (M := S.map (·.1)) hn fun k hk => by
    cases hf : Ora.look S k with
    | none => exact absurd hf (hs k hk)
    | some b => exact List.mem_map.2 ⟨(k, b), (Ora.look_mem hS k b).1 hf, rfl⟩
  simpa using this
theorem Ora.all_perm {S L : List Sig} (hS : Ora.Rising S) (hn : (L.map (·.1)).Nodup) (hh : ∀ x ∈ L, Ora.look S x.1 = some x.2) (hall : ∀ k, Ora.look S k ≠ none → k ∈ L.map (·.1)) : L.Perm S := by
  refine (List.perm_ext_iff_of_nodup (List.Pairwise.imp (fun {a b} hab => fun (e : a = b) => hab (by rw [e])) (List.pairwise_map.1 hn)) (List.Pairwise.imp (fun {a b} hab => fun (e : a = b) => Ora.kLt_ne hab (congrArg Prod.fst e)) hS)).2 ?_
  rintro ⟨k, b⟩
  rw [← Ora.look_mem hS]
  constructor
  · exact fun h => hh _ h
  · intro h
    obtain ⟨⟨k', b'⟩, hm, rfl⟩ := List.mem_map.1 (hall k (by rw [h]; simp))
    have := hh _ hm
    dsimp only at this h
    rw [this] at h
    cases h
    exact hm

theorem all_step {w3 w5 w6 : World} {B m r cnt g' cap : Nat} {S L : List Sig} {t : Value} {k : K} {b : Bool} {o : Obj} (hf : FnRange sigMap w3 m r (Ora.look S) (L.map (·.1) ++ [k]) cnt) (hrow : OwnS w3 B t L) (hb : Below w3.heap.size w3 w5) (hB : B ≤ w3.heap.size)
    (hown : w6.ownsRow B 101 3 (.slice (some ⟨g', 0, none⟩) (L.length + 1) cap) (L.length + 1) (sgrows L ++ sgrows [(k, b)])) (hgrow : (w5.alloc o).grownBy w6 t.ownBlock) :
    FnRange sigMap w6 m r (Ora.look S) ((L ++ [(k, b)]).map (·.1)) cnt ∧ OwnS w6 B (.slice (some ⟨g', 0, none⟩) (L.length + 1) cap) (L ++ [(k, b)]) ∧ Below B w3 w6 := by
  have hb5 : Below w3.heap.size w3 (w5.alloc o) := hb.alloc hb.size o
  have hf5 := hf.below hb5
  have hrow5 := hrow.below hb5
  have hcell : ∀ j, t.ownBlock = some j → ∃ cs ty f, (w5.alloc o).heap[j]? = some (.cells cs ty f) := fun j hj => by
    rcases hrow5.2 with ⟨rfl, _⟩ | ⟨g, c, cur, rfl, _, hh, _⟩
    · simp [Value.ownBlock] at hj
    · simp [Value.ownBlock] at hj
      subst hj
      exact ⟨_, _, _, hh⟩
  have ho : Out (fun j => t.ownBlock = some j) (w5.alloc o) w6 := Out.grown hgrow (fun j e => e)
  refine ⟨?_, ?_, ?_⟩
  · rw [List.map_append]
    exact hf5.out ho (fun e => by obtain ⟨cs, ty, f, h⟩ := hcell _ e; exact hf5.map.no_cells _ _ _ _ rfl h) (fun e => by obtain ⟨cs, ty, f, h⟩ := hcell _ e; exact hf5.no_cells _ _ _ _ rfl h)
  · unfold OwnS
    rw [sgrows_append, List.length_append]
    exact hown
  · exact (hb5.mono hB).trans (ho.below (fun j hj => (World.ownsRow.lt hrow5 j hj).1) (Nat.le_trans hB hb5.size))

def AllPost (S : List Sig) (w : World) (e : Ending) (w' : World) : Prop := ∃ s, e = .returned s ∧ OwnS w' w.heap.size s S ∧ Below w.heap.size w w'

set_option maxRecDepth 8000 in
set_option maxHeartbeats 2000000 in
theorem all_any (g m : Nat) (S : List Sig) (w : World) (h : TabAt w g m S) (hl : S.length ≤ 1000000) :
    Calls Tryd.prog 37 #[.pointer (some ⟨g, 0, none⟩)] w (AllPost S w) := by
  have hc := h.cell
  have HS := Lib.hid h.rise
  have hlen := h.len 3
  obtain ⟨i0, hi, hz0, hz1, hz2⟩ := info_parts Tryd.infoSigned
  obtain ⟨w1, hmk, hown1, hg1⟩ := run_make_own (P := Tryd.prog) w w.heap.size 32 101 i0 (.agg #[.string ⟨#[]⟩, .string ⟨#[]⟩, .bool false]) 3 Tryd.underlying32 hi hz0 hz1 .i64 .i64 S.length (by rw [hz2]; omega) (by unfold maxLen; omega) (Nat.le_refl _)
  have hb1 : Below w.heap.size w w1 := (Out.grown hg1 (F := fun _ => False) (fun k e => by cases e)).below (fun _ hf => hf.elim) (Nat.le_refl _)
  have h1 := h.below hb1
  have hc1 := h1.cell
  obtain ⟨w2, cnt2, hrg, hfr2, hb2, hs2⟩ := h1.map.range Tryd.underlying92
  obtain ⟨r, hr⟩ : ∃ r, w1.heap.size = r := ⟨_, rfl⟩
  rw [hr] at hrg hfr2 hb2
  obtain ⟨B, hB⟩ : ∃ B, w.heap.size = B := ⟨_, rfl⟩
  rw [hB] at hown1 hb1 hmk
  have HBr : Hid (B ≤ r) := Lib.hid (by rw [← hr, ← hB]; exact hg1.size)
  have HB0 := Lib.hid hB
  have HF0 := Lib.hid hfr2
  have HB2 : Hid (Below B w w2) := Lib.hid (hb1.trans (hb2.mono HBr.out))
  have HROW : Hid (OwnS w2 B (.slice (some ⟨B, 0, none⟩) 0 S.length) []) := Lib.hid (OwnS.below (L := []) hown1 (hr.symm ▸ hb2))
  clear h h1 hfr2 hb2 hs2 hr hown1 hg1 hb1 hB
  go_enter Tryd.func37, Tryd.ntmps37
  go_wp2
  clear hmk hrg hlen hc hc1
  go_loopw [3] (fun s wr => ∃ (L : List Sig) (cnt : Nat) (t : Value), t = s ∧ FnRange sigMap wr m r (Ora.look S) (L.map (·.1)) cnt ∧ OwnS wr B t L ∧ (∀ x ∈ L, Ora.look S x.1 = some x.2) ∧ Below B w wr) (fun _ wr => wr.rangeLeft m r)
  case atStart => exact ⟨[], cnt2, _, rfl, HF0.out, HROW.out, (fun x hx => by simp at hx), HB2.out⟩
  case round =>
    obtain ⟨L, cnt, t, rfl, hfr, hrow, hhas, hb⟩ := hrel
    have HB := Lib.hid hb
    have HH := Lib.hid hhas
    have HFR := Lib.hid hfr
    have HRW := Lib.hid hrow
    have hLl := Ora.done_le HS.out hfr.nodup.1 hfr.nodup.2
    rw [List.length_map] at hLl
    have HLL : Hid (L.length ≤ 1000000) := Lib.hid (by omega)
    clear HF0 HROW HB2
    rcases hfr.next 0 with ⟨hall, hrun⟩ | ⟨⟨x, d⟩, a, w3, cnt3, hf, hok, hnot, hrun, hfr3, hlt, ho, hsz, hen⟩
    · have hnx : ∀ ty, (Instr.next (.pointer (some ⟨r, 0, none⟩)) false ty).run Tryd.prog wr = _ := fun _ => hrun
      have HSO := Lib.hid (sorts_any L S t B wr hrow HS.out (Ora.all_perm HS.out hfr.nodup.1 hhas hall) HLL.out (by have := hb.size; have := HB0.out; omega))
      clear hfr hrow hhas hb hLl hall hrun
      go_wp2_with fail
      refine HSO.out.mono ?_
      rintro e w4 ⟨rfl, hown, hb4⟩
      go_wp2
      go_ret
      exact ⟨t, rfl, by rw [HB0.out]; exact hown, by rw [HB0.out]; exact HB.out.trans hb4⟩
    · dsimp only [sigMap, kval] at hrun hen
      have hnx : ∀ ty, (Instr.next (.pointer (some ⟨r, 0, none⟩)) false ty).run Tryd.prog wr = _ := fun _ => hrun
      have HB3 : Hid (Below B w w3) := Lib.hid (hb.trans (ho.below (fun i hi => by rw [hi]; exact HBr.out) (by have := hb.size; have := HB0.out; omega)))
      have HRW3 : Hid (OwnS w3 B t L) := Lib.hid (hrow.out ho (fun j cs ty f e => hfr.no_cells _ _ _ _ e))
      have HFR3 := Lib.hid hfr3
      have HLT := Lib.hid hlt
      have HF := Lib.hid hf
      have HCP := Lib.hid (fun w => scopied_any (x, d) w hok)
      unfold kval at HCP
      dsimp only at HCP
      have HB3s : Hid (B ≤ w3.heap.size) := Lib.hid (by have := HB3.out.size; have := HB0.out; omega)
      clear hfr hrow hhas hb hLl hrun hfr3 hlt hf hok hnot ho hsz
      go_wp2_with fail
      refine (HCP.out _).mono ?_
      rintro e w4 ⟨rfl, hb4⟩
      obtain ⟨q, hq⟩ : ∃ q, w3.heap.size = q := ⟨_, rfl⟩
      have g0 := (hb4.block q (by simp [hq]; omega)).trans (heap_old_at (.cells #[.bool a] 90) (heap_new_at w3 (.cells #[.string ⟨x.toArray⟩, .string ⟨d.toArray⟩] 96) q hq.symm))
      have g1 := (hb4.block (q + 1) (by simp [hq])).trans (heap_new_at (w3.alloc (.cells #[.string ⟨x.toArray⟩, .string ⟨d.toArray⟩] 96)) (.cells #[.bool a] 90) (q + 1) (by simp [hq]))
      have hb4' : Below q w3 w4 := by
        have h0 : Below q w3 ((w3.alloc (.cells #[.string ⟨x.toArray⟩, .string ⟨d.toArray⟩] 96)).alloc (.cells #[.bool a] 90)) := ((Below.refl q w3).alloc (Nat.le_of_eq hq.symm) _).alloc (by simp [hq]) _
        exact h0.trans (hb4.mono (by simp [hq]; omega))
      rw [hq]
      obtain ⟨c0, c1, f0, f1⟩ := cells2 g0
      have g2 := set2 (.string ⟨x.toArray⟩) (.string ⟨d.toArray⟩) g0
      obtain ⟨e0, e1, -, -⟩ := cells2 g2
      have e2 : ((w4.setCell ⟨q, 0, none⟩ (.string ⟨x.toArray⟩)).setCell ⟨q, 1, none⟩ (.string ⟨d.toArray⟩)).cell? ⟨q + 1, 0, none⟩ = some (.bool a) := keep_cell (keep_cell (cell_of_row _ _ 0 _ _ _ g1) (by simp)) (by simp)
      have HB5 : Hid (Below w3.heap.size w3 ((w4.setCell ⟨q, 0, none⟩ (.string ⟨x.toArray⟩)).setCell ⟨q, 1, none⟩ (.string ⟨d.toArray⟩))) := Lib.hid (by rw [hq]; exact (hb4'.setCell (Nat.le_refl _) _).setCell (Nat.le_refl _) _)
      have HR5 := Lib.hid (HRW3.out.below HB5.out)
      have HG5 : Hid (B ≤ ((w4.setCell ⟨q, 0, none⟩ (.string ⟨x.toArray⟩)).setCell ⟨q, 1, none⟩ (.string ⟨d.toArray⟩)).heap.size) := Lib.hid (Nat.le_trans HB3s.out HB5.out.size)
      clear g0 g1 g2 hb4 hb4' hq
      go_wp2_with ((at_builtin; refine wpList_append_lies _ rfl _ _ _ rfl B 101 i0 (.agg #[.string ⟨#[]⟩, .string ⟨#[]⟩, .bool false]) 3 40 Tryd.underlying32 hi hz0 hz1 hz2 rfl (by decide) t L.length (sgrows L) (by rfl) (World.ownsRow.alloc HR5.out _) ⟨w4.heap.size, 0, none⟩ 1 1 (sgrows [((x, d), a)]) (by rfl) rfl (World.news_of_block (heap_new_at _ _ _ (by simp))) (by simp [sgrows, scl, Value.oneCell']) (by decide) (by have := HLL.out; unfold maxLen; omega) (by have := HLL.out; omega) (by have := HG5.out; simp at this ⊢; omega) (w4.heap.size + 1) (by simp) ?_; intro g' cap' w6 hown6 hgrow6 hat6 hlt6))
      obtain ⟨r1, r2, r3⟩ := all_step HFR3.out HRW3.out HB5.out HB3s.out hown6 hgrow6
      refine ⟨⟨L ++ [((x, d), a)], cnt3, _, rfl, r1, r2, ?_, HB3.out.trans r3⟩, ?_⟩
      · intro z hz
        rcases List.mem_append.1 hz with hz | hz
        · exact HH.out z hz
        · obtain rfl : z = ((x, d), a) := by simpa using hz
          exact HF.out
      · rw [r1.left_eq, HFR.out.left_eq]; exact HLT.out
end Go.Proofs.YtojpkodmpjibkaaDoor
namespace Go.Proofs.YtojpkodmpjibkaaDoor
open Go.RowKit
open Go.Proofs.YtojpkodmpjibkaaDoor.Ora (K Sig)

def SignPost (w : World) (g m : Nat) (S : List Sig) (k : K) (h : Bool) (e : Ending) (w' : World) : Prop :=
  e = .returned (.int .i64 (Ora.signP S k h).2) ∧ TabAt w' g m (Ora.signP S k h).1 ∧ Out (fun i => i = m) w w'
theorem SignPost.same {w w' : World} {g m : Nat} {S : List Sig} {k : K} {h : Bool} {e : Ending} {c : Int} (hs : Ora.signP S k h = (S, c)) (he : e = .returned (.int .i64 c)) (ht : TabAt w g m S) (hb : Below w.heap.size w w') : SignPost w g m S k h e w' := by
  unfold SignPost
  rw [hs]
  exact ⟨he, ht.below hb, Out.of hb⟩

theorem sign_put {w w3 w4 : World} {g m : Nat} {S : List Sig} {k : K} {h v : Bool} {o : Option Bool} (ht : TabAt w3 g m S) (h3 : Below w.heap.size w w3) (hf : FnAt sigMap w4 m (updF (Ora.look S) k (some v))) (ho : Out (fun i => i = m) w3.drew w4) (hl : Ora.look S k = o) (hv : v = Ora.over o h) :
    TabAt w4 g m (Ora.put S k h) ∧ Out (fun i => i = m) w w4 := by
  refine ⟨⟨ho.heap (by exact ht.head) (fun e => ht.map.no_cells _ _ _ _ e ht.head), hf.congr (fun s => ?_), Ora.put_rising ht.rise k h⟩, (Out.of h3).trans ho.of_drew⟩
  rw [Ora.look_put ht.rise, hl, ← hv]
  rfl

set_option maxRecDepth 8000 in
set_option maxHeartbeats 1000000 in
theorem sign_any (g m : Nat) (S : List Sig) (k : K) (h : Bool) (w : World) (ht : TabAt w g m S) (hk : OkK k) :
    Calls Tryd.prog 34 #[.pointer (some ⟨g, 0, none⟩), .string ⟨k.1.toArray⟩, .string ⟨k.2.toArray⟩, .bool h] w (SignPost w g m S k h) := by
  obtain ⟨x, d⟩ := k
  have HT := Lib.hid ht
  have HB0 := Lib.hid (Below.refl w.heap.size w)
  by_cases h1 : x.length < 1 ∨ 6 < x.length
  case pos =>
    have HS : Hid (Ora.signP S (x, d) h = (S, 1)) := Lib.hid (if_pos h1)
    dsimp only
    by_cases h2 : x.length < 1
    · have h2' : (x.length : Int) < 1 := by omega
      clear ht hk h1 h2
      go_enter Tryd.func34, Tryd.ntmps34
      go_wp2
      go_ret
      exact SignPost.same HS.out rfl HT.out HB0.out
    · have h2' : ¬ ((x.length : Int) < 1) := by omega
      have h3' : (6 : Int) < (x.length : Int) := by omega
      clear ht hk h1 h2
      go_enter Tryd.func34, Tryd.ntmps34
      go_wp2
      go_ret
      exact SignPost.same HS.out rfl HT.out HB0.out
  have h2' : ¬ ((x.length : Int) < 1) := by omega
  have h3' : ¬ ((6 : Int) < (x.length : Int)) := by omega
  by_cases h4 : d.length = 32
  case neg =>
    have HS : Hid (Ora.signP S (x, d) h = (S, 3)) := Lib.hid (by unfold Ora.signP; rw [if_neg h1, if_pos h4])
    have h4' : ¬ ((d.length : Int) = 32) := by omega
    dsimp only
    clear ht hk h1 h4
    go_enter Tryd.func34, Tryd.ntmps34
    go_wp2
    go_ret
    exact SignPost.same HS.out rfl HT.out HB0.out
  have h4' : ((d.length : Int) = 32) := by omega
  have HK := Lib.hid hk
  have HCP := Lib.hid (fun w => scopied_any (x, d) w hk)
  have HSP : Hid (Ora.signP S (x, d) h = if Ora.look S (x, d) = none ∧ 1024 ≤ S.length then (S, 2) else (Ora.put S (x, d) h, 0)) := Lib.hid (by unfold Ora.signP; rw [if_neg h1, if_neg (by simpa using h4)])
  unfold kval at HCP
  dsimp only at HCP ⊢
  clear ht hk h1 h4
  go_enter Tryd.func34, Tryd.ntmps34
  go_wp2_with fail
  refine (HCP.out _).mono ?_
  rintro e w1 ⟨rfl, hb1⟩
  go_wp2
  have hb2 : Below w.heap.size w (w1.alloc (.cells #[.string ⟨x.toArray⟩, .string ⟨d.toArray⟩] 96)) := hb1.alloc hb1.size _
  obtain ⟨c0, c1, -, -⟩ := cells2 (heap_new_at w1 (.cells #[.string ⟨x.toArray⟩, .string ⟨d.toArray⟩] 96) w1.heap.size rfl)
  obtain ⟨p, hp⟩ : ∃ p, w1.heap.size = p := ⟨_, rfl⟩
  have hsz : (w1.alloc (.cells #[.string ⟨x.toArray⟩, .string ⟨d.toArray⟩] 96)).heap.size = p + 1 := by simp [hp]
  rw [hp] at c0 c1 ⊢
  have HPW : Hid (w.heap.size ≤ p) := Lib.hid (hp ▸ hb1.size)
  generalize (w1.alloc (.cells #[.string ⟨x.toArray⟩, .string ⟨d.toArray⟩] 96)) = w2 at *
  have HSZ := Lib.hid hsz
  have HB2 := Lib.hid hb2
  have ht2 := HT.out.below hb2
  have HT2 := Lib.hid ht2
  have hc := ht2.cell
  clear hb1 hb2 hp hsz
  have l1 := (ht2.map.below (Below.refl _ w2).drew).look Tryd.underlying92 HK.out true (zeroSteps w2.drew)
  have l2 := (ht2.map.below ((Below.refl _ w2).alloc (Nat.le_refl _) (.cells #[.bool false] 90)).drew).look Tryd.underlying92 HK.out true (zeroSteps _)
  have hba := (Below.refl w2.heap.size w2).alloc (Nat.le_refl _) (.cells #[.bool false] 90)
  have a0 := (hba.cell (World.block_lt_of_cell? _ _ c0)).trans c0
  have a1 := (hba.cell (World.block_lt_of_cell? _ _ c1)).trans c1
  have ac := (hba.cell (World.block_lt_of_cell? _ _ hc)).trans hc
  clear ht2 hba
  obtain ⟨o, ho⟩ : ∃ o, Ora.look S (x, d) = o := ⟨_, rfl⟩
  have HO := Lib.hid ho
  rw [ho] at l1 l2
  clear ho
  have HTA := Lib.hid (HT2.out.below ((Below.refl w2.heap.size w2).alloc (Nat.le_refl _) (.cells #[.bool false] 90)).drew)
  have HBA := Lib.hid (((HB2.out).alloc HB2.out.size (.cells #[.bool false] 90)).drew)
  cases o with
  | none =>
    have l3 : (Instr.lookup 92 (.map (some m)) (.agg #[.string ⟨x.toArray⟩, .string ⟨d.toArray⟩]) true).run Tryd.prog w2.drew = .ok (.tuple #[.agg #[.bool false], .bool false]) w2.drew := l1
    have l4 : (Instr.lookup 92 (.map (some m)) (.agg #[.string ⟨x.toArray⟩, .string ⟨d.toArray⟩]) true).run Tryd.prog (w2.alloc (.cells #[.bool false] 90)).drew = .ok (.tuple #[.agg #[.bool false], .bool false]) (w2.alloc (.cells #[.bool false] 90)).drew := l2
    have hlen := HTA.out.len 3
    by_cases hl : 1024 ≤ S.length
    · have hl' : (1024 : Int) ≤ (S.length : Int) := by omega
      have HS : Hid (Ora.signP S (x, d) h = (S, 2)) := Lib.hid (by rw [HSP.out, if_pos ⟨HO.out, hl⟩])
      clear l1 l2 hl
      go_region
      all_goals
        go_wp2
        go_ret
        exact SignPost.same HS.out rfl HT.out HBA.out
    · have hl' : ¬ ((1024 : Int) ≤ (S.length : Int)) := by omega
      have HS : Hid (Ora.signP S (x, d) h = (Ora.put S (x, d) h, 0)) := Lib.hid (by rw [HSP.out, if_neg (fun q => hl q.2)])
      obtain ⟨w4, hrun, hf4, ho4, hs4⟩ := (HTA.out.map.below (Below.refl _ _).drew).put Tryd.underlying92 (s := (x, d)) HK.out h
      have HP4 := Lib.hid (sign_put (h := h) HTA.out HBA.out hf4 ho4 HO.out rfl)
      dsimp only [sigMap, kval] at hrun
      clear l1 l2 hl hf4 ho4 hs4
      have HF : Hid (∀ e, e = .returned (.int .i64 0) → SignPost w g m S (x, d) h e w4) := Lib.hid (fun e he => by unfold SignPost; rw [HS.out]; exact ⟨he, HP4.out⟩)
      go_region
      all_goals
        go_wp2
        clear l3 l4 hlen
        cases h
        all_goals
          go_region
          all_goals
            go_wp2
            go_ret
            exact HF.out _ rfl
  | some b =>
    have HTB := Lib.hid (HT2.out.below ((Below.refl w2.heap.size w2).alloc (Nat.le_refl _) (.cells #[.bool b] 90)).drew)
    have HBB := Lib.hid (((HB2.out).alloc HB2.out.size (.cells #[.bool b] 90)).drew)
    have hba := (Below.refl w2.heap.size w2).alloc (Nat.le_refl _) (.cells #[.bool b] 90)
    have b0 := (hba.cell (World.block_lt_of_cell? _ _ c0)).trans c0
    have b1 := (hba.cell (World.block_lt_of_cell? _ _ c1)).trans c1
    have bc := (hba.cell (World.block_lt_of_cell? _ _ hc)).trans hc
    clear hba
    have l3 : (Instr.lookup 92 (.map (some m)) (.agg #[.string ⟨x.toArray⟩, .string ⟨d.toArray⟩]) true).run Tryd.prog w2.drew = .ok (.tuple #[.agg #[.bool b], .bool true]) w2.drew := l1
    have l4 : (Instr.lookup 92 (.map (some m)) (.agg #[.string ⟨x.toArray⟩, .string ⟨d.toArray⟩]) true).run Tryd.prog (w2.alloc (.cells #[.bool false] 90)).drew = .ok (.tuple #[.agg #[.bool b], .bool true]) (w2.alloc (.cells #[.bool false] 90)).drew := l2
    have HS : Hid (Ora.signP S (x, d) h = (Ora.put S (x, d) h, 0)) := Lib.hid (by rw [HSP.out, if_neg (fun q => by rw [HO.out] at q; cases q.1)])
    obtain ⟨w4, hrun, hf4, ho4, hs4⟩ := (HTB.out.map.below (Below.refl _ _).drew).put Tryd.underlying92 (s := (x, d)) HK.out (b && h)
    have HP4 := Lib.hid (sign_put (h := h) HTB.out HBB.out hf4 ho4 HO.out rfl)
    dsimp only [sigMap, kval] at hrun
    have HF : Hid (∀ e, e = .returned (.int .i64 0) → SignPost w g m S (x, d) h e w4) := Lib.hid (fun e he => by unfold SignPost; rw [HS.out]; exact ⟨he, HP4.out⟩)
    clear l1 l2 hf4 ho4 hs4
    go_region
    all_goals
      go_wp2
      clear l3 l4
      cases h
      all_goals
        cases b
        all_goals
          simp only [Bool.and_true, Bool.and_false] at hrun
          go_region
          all_goals
            go_wp2
            go_ret
            exact HF.out _ rfl
end Go.Proofs.YtojpkodmpjibkaaDoor
namespace Go.Proofs.YtojpkodmpjibkaaDoor
open Go.RowKit
open Go.Proofs.YtojpkodmpjibkaaDoor.Ora (K Sig)

/-- A step that signs, in a table of the call's own. -/
theorem bsign {B m : Nat} {w w1 w2 : World} (hb : Below B w w1) (hm : B ≤ m) (hB : B ≤ w.heap.size) (ho : Out (fun i => i = m) w1 w2) : Below B w w2 :=
  hb.trans (ho.below (fun _ hi => hi ▸ hm) (Nat.le_trans hB hb.size))
end Go.Proofs.YtojpkodmpjibkaaDoor
