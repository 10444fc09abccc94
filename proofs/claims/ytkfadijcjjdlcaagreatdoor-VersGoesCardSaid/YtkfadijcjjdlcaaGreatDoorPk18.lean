/- ArgVActs, VerLong, VerWorks, VerWas, VerFind, VerRoots, VerShelf, VerHeights, NodeKids -/
import Derived.Test.YtkfadijcjjdlcaaGreatDoorPk17
import Derived.Test.YtkfadijcjjdlcaaGreatDoorPk03
import Derived.Shelf.SlIterI.Nil
import Derived.Shelf.SortM.Plain
import Derived.Shelf.SortM.SortNone
import Derived.Shelf.SlGeneric
import Derived.Test.YtkfadijcjjdlcaaGreatDoorChecked
import Derived.Test.YtkfadijcjjdlcaaGreatDoorPk04
import Derived.Test.YtkfadijcjjdlcaaGreatDoorPk06
import Derived.Test.YtkfadijcjjdlcaaGreatDoorPk08
namespace Go.Proofs.YtkfadijcjjdlcaaGreatDoor
open Go.RowKit Go.ChangeShapes Go.WideShapes
open Sto (T St)

instance : Inhabited Ver.Act := ⟨⟨0, 0, []⟩⟩
set_option maxRecDepth 100000 in
theorem cellsVA : Tryz.prog.cellsOf 33 = 3 := by kernel_rfl
set_option maxRecDepth 100000 in
theorem cellsVI : Tryz.prog.cellsOf 31 = 1 := by kernel_rfl
/-- A slice of acts. -/
def VActs (w : World) (v : Value) (L : List Ver.Act) : Prop :=
  ∃ (A : Option Addr) (cap : Nat), v = .slice A L.length cap ∧ (0 < L.length → ∃ b o, A = some ⟨b, o, none⟩ ∧ b < w.heap.size ∧ ∀ i (h : i < L.length), ∃ z,
    w.cell? ⟨b, o + i * 3, none⟩ = some (.int .i64 L[i].kind) ∧ w.cell? ⟨b, o + i * 3 + 1, none⟩ = some (.int .i64 L[i].height) ∧ w.cell? ⟨b, o + i * 3 + 2, none⟩ = some z ∧ ItLo w z L[i].chg)
theorem VActs.below {w w' : World} {v : Value} {L : List Ver.Act} (h : VActs w v L) (hb : Below w.heap.size w w') : VActs w' v L := by
  obtain ⟨A, cap, rfl, hc⟩ := h
  refine ⟨A, cap, rfl, fun h0 => ?_⟩
  obtain ⟨b, o, rfl, hlt, hcell⟩ := hc h0
  refine ⟨b, o, rfl, Nat.lt_of_lt_of_le hlt hb.size, fun i hi => ?_⟩
  obtain ⟨z, h1, h2, h3, h4⟩ := hcell i hi
  exact ⟨z, (hb.cell hlt).trans h1, (hb.cell hlt).trans h2, (hb.cell hlt).trans h3, h4.below hb⟩
theorem VActs.form {w : World} {v : Value} {L : List Ver.Act} (h : VActs w v L) : ∃ A cap, v = .slice A L.length cap := by
  obtain ⟨A, cap, rfl, _⟩ := h
  exact ⟨A, cap, rfl⟩
theorem VActs.at {w : World} {A : Option Addr} {n cap : Nat} {L : List Ver.Act} (h : VActs w (.slice A n cap) L) (k : Nat) (hk : k < L.length) :
    ∃ b o z, A = some ⟨b, o, none⟩ ∧ w.cell? ⟨b, o + k * 3, none⟩ = some (.int .i64 L[k].kind) ∧ w.cell? ⟨b, o + k * 3 + 1, none⟩ = some (.int .i64 L[k].height) ∧ w.cell? ⟨b, o + k * 3 + 2, none⟩ = some z ∧ ItLo w z L[k].chg := by
  obtain ⟨A', cap', hv, h1⟩ := h
  obtain ⟨rfl, _⟩ : A = A' ∧ _ := by simpa using hv
  obtain ⟨b, o, rfl, _, hcell⟩ := h1 (by omega)
  obtain ⟨z, q⟩ := hcell k hk
  exact ⟨b, o, z, rfl, q⟩
/-- A slice of items inside something else. -/
theorem items_trod {H : Type} {enc : TypeId × Value → H} {W : World} {fuel : Nat} {v : Value} {z : DataW H × List MemPlace}
    (hf : DataW.trod enc Tryz.prog W 0 (fun _ => true) true fuel 31 [v] = some z) : ∃ L, ItLo W v L := by
  rcases Go.Deep.open_slice Tryz.underlying31 hf with ⟨hcs, _⟩ | ⟨x, l, c, m, n, D, Pl, hcs, _, hl, hm, hmm, hx, hel⟩
  · obtain rfl : v = .slice none 0 0 := by simpa using hcs
    exact ⟨[], none, 0, rfl, fun h => absurd h (by simp)⟩
  · obtain rfl : v = .slice (some x) l c := by simpa using hcs
    simp only [if_true] at hmm
    subst hmm
    rw [cellsItem] at hel
    have key : ∀ i, i < l → ∃ q : T × T, W.cell? ((x.add (i * 2)).add 0) = some (.string ⟨q.1.toArray⟩) ∧ W.cell? ((x.add (i * 2)).add 1) = some (.string ⟨q.2.toArray⟩) := fun i hi => by
      obtain ⟨cs', hc, ht⟩ := hel i (by omega)
      obtain ⟨_, _, hat⟩ := World.cells?_some hc
      obtain ⟨q, rfl⟩ := item_cells ht
      exact ⟨q, by simpa [itcl] using hat 0 (by omega), by simpa [itcl] using hat 1 (by omega)⟩
    obtain ⟨f, hf⟩ := Go.Deep.choose_lt (fun i hi => key i hi)
    have hlen : ((List.range l).map f).length = l := by simp
    refine ⟨(List.range l).map f, some x, _, by rw [hlen], fun h0 => ?_⟩
    rw [hlen] at h0
    obtain ⟨b, o, sp⟩ := x
    obtain ⟨q0, _⟩ := hf 0 h0
    have hcell' : W.cell? ⟨b, o, sp⟩ = some (.string ⟨(f 0).1.toArray⟩) := by simpa [Addr.add] using q0
    obtain rfl := cell_spot hcell'
    refine ⟨b, o, rfl, block_lt_of_cell hcell', fun i hi => ?_⟩
    rw [hlen] at hi
    obtain ⟨q0, q1⟩ := hf i hi
    rw [Addr.add_mid, Addr.add_mid] at q0 q1
    simpa using ⟨q0, q1⟩
set_option maxRecDepth 100000 in
theorem vact_cells {H : Type} {enc : TypeId × Value → H} {W : World} {fuel : Nat} {cs : List Value} {x : DataW H × List MemPlace} (ht : DataW.trod enc Tryz.prog W 0 (fun _ => true) true fuel 33 cs = some x) :
    ∃ (s : Ver.Act) (z : Value), cs = [.int .i64 s.kind, .int .i64 s.height, z] ∧ ItLo W z s.chg ∧ (Lit.int .i64 s.kind).wf = true ∧ (Lit.int .i64 s.height).wf = true := by
  obtain ⟨ys, n', _, hy, hcl, hyl, hfs⟩ := DataW.trod_struct Tryz.underlying33 ht
  rw [cellsVA] at hcl
  match cs, hcl, ys, hyl with
  | [v0, v1, v2], _, [y0, y1, y2], _ =>
    have g0 := hfs 0 _ rfl
    have g1 := hfs 1 _ rfl
    have g2 := hfs 2 _ rfl
    simp [cellsIn, cellsVI] at g0 g1 g2
    obtain ⟨t0, e0, _, wf0⟩ := DataW.trod_int Tryz.underlying3 g0
    obtain ⟨t1, e1, _, wf1⟩ := DataW.trod_int Tryz.underlying3 g1
    obtain ⟨C, hC⟩ := items_trod g2
    obtain rfl : v0 = .int .i64 t0 := by simpa using e0
    obtain rfl : v1 = .int .i64 t1 := by simpa using e1
    exact ⟨⟨t0, t1, C⟩, v2, rfl, hC, wf0, wf1⟩
set_option maxRecDepth 100000 in
theorem vacts_open {H : Type} {enc : TypeId × Value → H} {W : World} {r : Reach} {b0 : Nat} {v : Value} {d : DataW H} {p : List MemPlace}
    (hv : Value.okWide Tryz.prog W r b0 22 v) (h : DataW.Trod enc Tryz.prog W 0 (fun _ => true) true 22 v d p)
    (hz : ∀ n ∈ d.weights Tryz.prog 22, n ≤ reachBytes) :
    ∃ L, VActs W v L ∧ L.length * 40 ≤ reachBytes ∧ ∀ s ∈ L, (Lit.int .i64 s.kind).wf = true ∧ (Lit.int .i64 s.height).wf = true := by
  obtain ⟨a0, len, cap, rfl⟩ := okWide_slice Tryz.underlying22 hv
  obtain ⟨fuel, hf⟩ := h
  rcases Go.Deep.open_slice Tryz.underlying22 hf with ⟨hcs, _⟩ | ⟨x, l, c, m, n, D, Pl, hcs, _, hl, hm, hmm, hx, hel⟩
  · simp [Value.cells] at hcs
    obtain ⟨rfl, rfl, rfl⟩ := hcs
    exact ⟨[], ⟨none, 0, rfl, fun h => absurd h (by simp)⟩, by simp, fun n hn => by simp at hn⟩
  · simp [Value.cells] at hcs
    obtain ⟨rfl, rfl, rfl⟩ := hcs
    simp only [if_true] at hmm
    subst hmm
    rw [cellsVA] at hel hx
    obtain ⟨hd, -⟩ := Prod.mk.inj hx
    have hlen40 : len * 40 ≤ reachBytes := by
      have h1 := hz ((((List.range len).map D).length + ((List.range (m - len)).map fun j => D (len + j)).length) * Tryz.prog.bytesOf 33) (by
        rw [hd]; simp [DataW.weights, Tryz.underlying22])
      rw [show Tryz.prog.bytesOf 33 = 40 from by kernel_rfl] at h1
      simp only [List.length_map, List.length_range] at h1
      omega
    have key : ∀ i, i < len → ∃ q : Ver.Act × Value, W.cell? ((x.add (i * 3)).add 0) = some (.int .i64 q.1.kind) ∧ W.cell? ((x.add (i * 3)).add 1) = some (.int .i64 q.1.height) ∧ W.cell? ((x.add (i * 3)).add 2) = some q.2 ∧ ItLo W q.2 q.1.chg ∧ (Lit.int .i64 q.1.kind).wf = true ∧ (Lit.int .i64 q.1.height).wf = true := fun i hi => by
      obtain ⟨cs', hc, ht⟩ := hel i (by omega)
      obtain ⟨_, _, hat⟩ := World.cells?_some hc
      obtain ⟨q, z, rfl, h1, h2, h3⟩ := vact_cells ht
      exact ⟨(q, z), hat 0 (by omega), hat 1 (by omega), hat 2 (by omega), h1, h2, h3⟩
    obtain ⟨f, hf⟩ := Go.Deep.choose_lt (fun i hi => key i hi)
    have hlen : ((List.range len).map fun i => (f i).1).length = len := by simp
    refine ⟨(List.range len).map fun i => (f i).1, ⟨some x, _, by rw [hlen], fun h0 => ?_⟩, by rw [hlen]; exact hlen40, ?_⟩
    · rw [hlen] at h0
      obtain ⟨b, o, sp⟩ := x
      obtain ⟨q0, _⟩ := hf 0 h0
      have hcell' : W.cell? ⟨b, o, sp⟩ = some (.int .i64 (f 0).1.kind) := by simpa [Addr.add] using q0
      obtain rfl := cell_spot hcell'
      refine ⟨b, o, rfl, block_lt_of_cell hcell', fun i hi => ⟨(f i).2, ?_⟩⟩
      rw [hlen] at hi
      obtain ⟨q0, q1, q2, q3, _⟩ := hf i hi
      rw [Addr.add_mid, Addr.add_mid] at q0 q1 q2
      simpa using ⟨q0, q1, q2, q3⟩
    · intro s hs
      obtain ⟨i, hi, rfl⟩ := List.mem_map.1 hs
      exact (hf i (List.mem_range.1 hi)).2.2.2.2
end Go.Proofs.YtkfadijcjjdlcaaGreatDoor
namespace Go.Proofs.YtkfadijcjjdlcaaGreatDoor
open Go.RowKit
open Sto (T St)

def Ver.FitC (C : St) : Prop := C.length ≤ 10 ∧ ∀ x ∈ C, x.1.length ≤ 100 ∧ x.2.length ≤ 100
def Ver.Fit (L : List Ver.Act) : Prop := L.length ≤ 10 ∧ ∀ a ∈ L, Ver.FitC a.chg
def LongPost (L : List Ver.Act) (w : World) (e : Ending) (w' : World) : Prop := ∃ b : Bool, e = .returned (.bool b) ∧ w = w' ∧ (b = false → Ver.Fit L)
set_option maxRecDepth 100000 in
set_option maxHeartbeats 2000000 in
theorem vlong_any (L : List Ver.Act) (v : Value) (w : World) (hv : VActs w v L) :
    Calls Tryz.prog 7 #[v] w (LongPost L w) := by
  have HV := Lib.hid hv
  obtain ⟨A, cap, rfl⟩ := hv.form
  clear hv
  by_cases hlm : 10 < L.length
  · have h1 : (10 : Int) < (L.length : Int) := by omega
    clear hlm
    go_enter Tryz.func7, Tryz.ntmps7
    go_wp2
    go_ret
    exact ⟨true, rfl, rfl, fun h => by cases h⟩
  have h1 : ¬ ((10 : Int) < (L.length : Int)) := by omega
  have HL10 : Hid (L.length ≤ 10) := Lib.hid (by omega)
  clear hlm
  go_enter Tryz.func7, Tryz.ntmps7
  go_wp2
  go_loopw [3] (fun iv wr => wr = w ∧ ∃ i : Nat, i ≤ L.length ∧ iv = .int .i64 i ∧ ∀ j (hj : j < i) (hj2 : j < L.length), Ver.FitC L[j].chg) (fun i _ => L.length - (intOf i).toNat)
  case atStart => exact ⟨rfl, 0, Nat.zero_le _, rfl, fun j hj => absurd hj (Nat.not_lt_zero _)⟩
  case round =>
    obtain ⟨rfl, i, hi, rfl, hall⟩ := hrel
    have HALL := Lib.hid hall
    clear hall
    by_cases hlt : i < L.length
    · have g1 : (i : Int) < (L.length : Int) := by omega
      have g0 : (0 : Int) ≤ (i : Int) := by omega
      have g2 : (i : Int) ≤ 100000 := by have := HL10.out; omega
      obtain ⟨b, o, z, rfl, -, -, n2, hz⟩ := HV.out.at i hlt
      have HSTEP : Hid (Ver.FitC L[i].chg → ∀ j (hj : j < i + 1) (hj2 : j < L.length), Ver.FitC L[j].chg) := Lib.hid (fun a1 j hj hj2 => by
        by_cases e : j < i
        · exact HALL.out j e hj2
        · obtain rfl : j = i := by omega
          exact a1)
      obtain ⟨C, hC⟩ : ∃ C, L[i].chg = C := ⟨_, rfl⟩
      rw [hC] at hz HSTEP
      have HZ := Lib.hid hz
      obtain ⟨A2, cap2, rfl⟩ := hz.form
      have HLT := Lib.hid hlt
      clear hz hC hlt
      by_cases hc : 10 < C.length
      · have q1 : (10 : Int) < (C.length : Int) := by omega
        clear hc
        go_wp2
        go_ret
        exact ⟨true, rfl, rfl, fun h => by cases h⟩
      have q1 : ¬ ((10 : Int) < (C.length : Int)) := by omega
      have HC10 : Hid (C.length ≤ 10) := Lib.hid (by omega)
      clear hc
      go_wp2
      obtain ⟨wo, rfl⟩ : ∃ y, y = wr := ⟨_, rfl⟩
      go_loopw [4] (fun kv wr => wr = wo ∧ ∃ k : Nat, k ≤ C.length ∧ kv = .int .i64 k ∧ ∀ j (hj : j < k) (hj2 : j < C.length), C[j].1.length ≤ 100 ∧ C[j].2.length ≤ 100) (fun k _ => C.length - (intOf k).toNat)
      case atStart => exact ⟨rfl, 0, Nat.zero_le _, rfl, fun j hj => absurd hj (Nat.not_lt_zero _)⟩
      case round =>
        obtain ⟨rfl, k, hk, rfl, hin⟩ := hrel
        have HIN := Lib.hid hin
        clear hin
        by_cases hlk : k < C.length
        · have e1 : (k : Int) < (C.length : Int) := by omega
          have e0 : (0 : Int) ≤ (k : Int) := by omega
          have e2 : (k : Int) ≤ 100000 := by have := HC10.out; omega
          obtain ⟨b2, o2, rfl, m1, m2⟩ := HZ.out.at k hlk
          have HKK : Hid (C[k].1.length ≤ 100 → C[k].2.length ≤ 100 → ∀ j (hj : j < k + 1) (hj2 : j < C.length), C[j].1.length ≤ 100 ∧ C[j].2.length ≤ 100) := Lib.hid (fun a1 a2 j hj hj2 => by
            by_cases e : j < k
            · exact HIN.out j e hj2
            · obtain rfl : j = k := by omega
              exact ⟨a1, a2⟩)
          obtain ⟨x, hx⟩ : ∃ x, C[k].1 = x := ⟨_, rfl⟩
          obtain ⟨y, hy⟩ : ∃ y, C[k].2 = y := ⟨_, rfl⟩
          rw [hx] at m1
          rw [hy] at m2
          rw [hx, hy] at HKK
          have HLK := Lib.hid hlk
          clear hx hy hlk
          by_cases hx1 : 100 < x.length
          · have p1 : (100 : Int) < (x.length : Int) := by omega
            have p2 : decide ((100 : Int) < (x.length : Int)) = true := decide_eq_true p1
            clear hx1
            go_wp2
            go_ret
            exact ⟨true, rfl, rfl, fun h => by cases h⟩
          have p1 : ¬ ((100 : Int) < (x.length : Int)) := by omega
          have p2 : decide ((100 : Int) < (x.length : Int)) = false := decide_eq_false p1
          by_cases hy1 : 100 < y.length
          · have p3 : (100 : Int) < (y.length : Int) := by omega
            have p4 : decide ((100 : Int) < (y.length : Int)) = true := decide_eq_true p3
            clear hx1 hy1
            go_wp2
            go_ret
            exact ⟨true, rfl, rfl, fun h => by cases h⟩
          have p3 : ¬ ((100 : Int) < (y.length : Int)) := by omega
          have p4 : decide ((100 : Int) < (y.length : Int)) = false := decide_eq_false p3
          have HST := Lib.hid (HKK.out (by omega) (by omega))
          clear hx1 hy1
          go_wp2
          go_roundw
          case rel => exact ⟨trivial, k + 1, by have := HLK.out; omega, by go_num, HST.out⟩
          case measure => have := HLK.out; simp [intOf]; omega
        · obtain rfl : k = C.length := by omega
          have e1 : ¬ ((C.length : Int) < (C.length : Int)) := by omega
          have HFC : Hid (Ver.FitC C) := Lib.hid ⟨HC10.out, fun x hx => by
            obtain ⟨j, hj, rfl⟩ := List.mem_iff_getElem.1 hx
            exact HIN.out j hj hj⟩
          clear hlk
          go_wp2
          go_roundw
          case rel => exact ⟨trivial, i + 1, by have := HLT.out; omega, by go_num, HSTEP.out HFC.out⟩
          case measure => have := HLT.out; simp [intOf]; omega
    · obtain rfl : i = L.length := by omega
      have g1 : ¬ ((L.length : Int) < (L.length : Int)) := by omega
      have HFIT : Hid (Ver.Fit L) := Lib.hid ⟨HL10.out, fun a ha => by
        obtain ⟨j, hj, rfl⟩ := List.mem_iff_getElem.1 ha
        exact HALL.out j hj hj⟩
      clear hlt
      go_wp2
      go_ret
      exact ⟨false, rfl, rfl, fun _ => HFIT.out⟩
end Go.Proofs.YtkfadijcjjdlcaaGreatDoor
namespace Go.Proofs.YtkfadijcjjdlcaaGreatDoor
open Go.RowKit
open Sto (T St)
namespace Ver
def i1 : St := [([97], [49])]
def i2 : St := [([97], [50])]
def r1 : T := [179, 96, 70, 33, 115, 212, 72, 145, 239, 123, 146, 240, 71, 3, 73, 52, 245, 159, 167, 130, 109, 137, 73, 71, 223, 255, 148, 59, 122, 58, 38, 210]
def r2 : T := [213, 234, 176, 218, 212, 170, 0, 6, 9, 60, 154, 58, 74, 162, 209, 171, 124, 34, 137, 42, 156, 150, 138, 82, 206, 60, 51, 62, 110, 11, 13, 199]
def t1 : T := [1, 1, 2, 32, 97, 1, 1, 49]
def t2 : T := [1, 1, 2, 32, 97, 1, 1, 50]
theorem n1 : nodesS i1 = [t1] := by decide +kernel
theorem n2 : nodesS i2 = [t2] := by decide +kernel
theorem s1 : Sto.sumOf t1 = r1 := by decide +kernel
theorem s2 : Sto.sumOf t2 = r2 := by decide +kernel
theorem q1 : rootS i1 = r1 := by decide +kernel
theorem q2 : rootS i2 = r2 := by decide +kernel
theorem x1 : chsS [] i1 = i1 := by decide +kernel
theorem x2 : chsS i1 i2 = i2 := by decide +kernel
def k1 : M := ⟨[(1, i1)], 0, [(r1, t1)]⟩
def k2 : M := ⟨[(1, i1), (2, i2)], 0, [(r1, t1), (r2, t2)]⟩
def k3 : M := ⟨[(2, i2)], 2, [(r2, t2)]⟩
theorem c1 : M.zero.comC 1 i1 = 0 := by decide +kernel
theorem c2 : k1.comC 2 i2 = 0 := by decide +kernel
set_option maxRecDepth 100000 in
theorem m1 : M.zero.com 1 i1 = k1 := by
  unfold M.com
  rw [if_pos c1]
  show (⟨[] ++ [(1, chsS [] i1)], 0, putAll [] (nodesS (chsS [] i1))⟩ : M) = k1
  rw [x1, n1]
  show (⟨[(1, i1)], 0, Sto.put [] (Sto.sumOf t1) t1⟩ : M) = k1
  rw [s1]
  have e : Sto.put [] r1 t1 = [(r1, t1)] := by decide +kernel
  rw [e]
  rfl
set_option maxRecDepth 100000 in
theorem m2 : k1.com 2 i2 = k2 := by
  unfold M.com
  rw [if_pos c2]
  show (⟨[(1, i1)] ++ [(2, chsS i1 i2)], 0, putAll [(r1, t1)] (nodesS (chsS i1 i2))⟩ : M) = k2
  rw [x2, n2]
  have e0 : putAll [(r1, t1)] [t2] = Sto.put [(r1, t1)] (Sto.sumOf t2) t2 := rfl
  rw [e0, s2]
  have e : Sto.put [(r1, t1)] r2 t2 = [(r1, t1), (r2, t2)] := by decide +kernel
  rw [e]
  rfl
set_option maxRecDepth 100000 in
theorem m3 : k2.prune 2 = k3 := by
  unfold M.prune
  have e1 : upto k2.vs 2 k2.vs.length = [(2, i2)] := by decide +kernel
  rw [e1]
  show (⟨[(2, i2)], max 0 2, Sto.keepL k2.st [rootS i2]⟩ : M) = k3
  rw [q2]
  have e2 : Sto.keepL k2.st [r2] = [(r2, t2)] := by decide +kernel
  rw [e2]
  rfl
theorem o1 : M.zero.comR 1 i1 = r1 := by
  unfold M.comR
  rw [if_pos c1]
  show rootS (chsS [] i1) = r1
  rw [x1, q1]
theorem o2 : k1.comR 2 i2 = r2 := by
  unfold M.comR
  rw [if_pos c2]
  show rootS (chsS i1 i2) = r2
  rw [x2, q2]
theorem g2 : k2.Good := by rw [← m2, ← m1]; exact (M.Good.zero.com 1 i1).com 2 i2
theorem no12 : ¬ Clash ([t1] ++ [t2]) := by
  rintro ⟨s, hs, t, ht, h1, h2⟩
  simp only [List.cons_append, List.nil_append, List.mem_cons, List.not_mem_nil, or_false] at hs ht
  have hr : r1 ≠ r2 := by decide
  rcases hs with rfl | rfl <;> rcases ht with rfl | rfl
  · exact h1 rfl
  · rw [s1, s2] at h2; exact hr h2
  · rw [s1, s2] at h2; exact hr h2.symm
  · exact h1 rfl
theorem no0 : ¬ Clash [] := by
  rintro ⟨s, hs, _⟩
  cases hs
theorem no1 : ¬ Clash ([] ++ [t1]) := by
  rintro ⟨s, hs, t, ht, h1, _⟩
  simp only [List.nil_append, List.mem_cons, List.not_mem_nil, or_false] at hs ht
  exact h1 (hs.trans ht.symm)
theorem h1 : k1.Has ([] ++ [t1]) := by
  have a1 := M.Has.zero.com c1
  rw [m1] at a1
  have e1 : nodesS (chsS M.zero.top i1) = [t1] := by
    show nodesS (chsS [] i1) = [t1]
    rw [x1, n1]
  rw [e1] at a1
  exact a1
theorem h2 : k2.Has ([t1] ++ [t2]) := by
  have a1 := M.Has.zero.com c1
  rw [m1] at a1
  have a2 := a1.com c2
  rw [m2] at a2
  have e1 : nodesS (chsS M.zero.top i1) = [t1] := by
    show nodesS (chsS [] i1) = [t1]
    rw [x1, n1]
  have e2 : nodesS (chsS k1.top i2) = [t2] := by
    show nodesS (chsS i1 i2) = [t2]
    rw [x2, n2]
  rw [e1, e2] at a2
  exact a2
theorem h3 : k3.Has ([t1] ++ [t2]) := by rw [← m3]; exact h2.prune g2 2
theorem g3 : k3.Good := by rw [← m3]; exact g2.prune 2
theorem f1 : k2.find 1 = some i1 := by decide +kernel
theorem f2 : k3.find 1 = none := by decide +kernel
theorem f3 : k3.find 2 = some i2 := by decide +kernel
theorem f4 : k3.findC 1 = 120 := by decide +kernel
/-- What is loaded where no two texts clash. -/
theorem load_one {m : M} {C : List T} (h : m.Has C) (g : m.Good) (hn : ¬ Clash C) {x : Int × St} (hx : x ∈ m.vs) {w w' : World} {e : Ending} (hp : LoadPost m.st (rootS x.2) w e w') :
    ∃ gt, e = .returned (.tuple #[ptr gt, .int .i64 0]) ∧ TrAt w' gt x.2 ∧ Below w.heap.size w w' := by
  obtain ⟨z, c, rfl, hb, ⟨rfl, gt, S, t, rfl, h1, h2, h3, h4⟩ | ⟨_, _, hbad⟩⟩ := hp
  · have e1 := h.load g hn hx h2 h3 h4
    subst e1
    exact ⟨gt, rfl, h1, hb⟩
  · obtain ⟨S, t, h1, h2, h3⟩ := h.loads g hn hx
    exact (hbad S t h1 h2 h3).elim
end Ver

theorem height_at (m : Ver.M) (i : Nat) (h : i < m.vs.length) : (m.vs.map (·.1))[i]'(by rw [List.length_map]; exact h) = m.vs[i].1 := List.getElem_map ..
theorem one_items (w : World) (x y : T) : ItLo (w.alloc (.cells #[.string ⟨x.toArray⟩, .string ⟨y.toArray⟩] 39)) (.slice (some ⟨w.heap.size, 0, none⟩) 1 1) [(x, y)] :=
  ItLo.of_at (OwnI.at_ (B := w.heap.size) ⟨rfl, Or.inr ⟨w.heap.size, 1, _, rfl, Nat.le_refl _, heap_alloc_new w _, by simp, by simp [maxLen], rfl, rfl⟩⟩)
/-- Behind New: all that lay stays. -/
theorem next_below {VAt : World → (Nat → Prop) → Nat → Ver.M → Prop} {w w' : World} {F : Nat → Prop} {v B : Nat} {m : Ver.M} (h : VNext VAt w F v m w') (hF : ∀ k, F k → B ≤ k) (hB : B ≤ w.heap.size) : Below B w w' := by
  obtain ⟨F', _, ho, _, _⟩ := h
  exact ho.below hF hB
set_option maxRecDepth 100000 in
set_option maxHeartbeats 4000000 in
theorem vworks_any {VAt : World → (Nat → Prop) → Nat → Ver.M → Prop} (HV : VerOkL VAt) (w : World) (hT : Tab w) : Calls Tryz.prog 6 #[] w fun e w' => e = .returned (.bool true) ∧ Below w.heap.size w w' := by
  have HNW := Lib.hid (HV.new w hT)
  have HT := Lib.hid hT
  have HV := Lib.hid HV
  clear hT
  go_enter Tryz.func6, Tryz.ntmps6
  go_wp2_with fail
  refine HNW.out.mono ?_
  rintro e w1 ⟨v, F1, rfl, hv1, hF1, hb1⟩
  have HB1 := Lib.hid hb1
  have HV1 := Lib.hid hv1
  have HF1 := Lib.hid hF1
  have HT1 := Lib.hid (HT.out.below hb1)
  clear hv1 hF1 hb1
  unfold ptr
  go_wp2_with fail
  have HA1 : Hid (Below w1.heap.size w1 (w1.alloc (.cells #[.string ⟨#[97]⟩, .string ⟨#[49]⟩] 39))) := Lib.hid ((Below.refl _ w1).alloc (Nat.le_refl _) _)
  have HC1 : Hid (Calls Tryz.prog 11 #[ptr v, .int .i64 1, .slice (some ⟨w1.heap.size, 0, none⟩) 1 1] (w1.alloc (.cells #[.string ⟨#[97]⟩, .string ⟨#[49]⟩] 39)) fun e w' => e = .returned (.tuple #[.string ⟨Ver.r1.toArray⟩, .int .i64 0]) ∧ VNext VAt (w1.alloc (.cells #[.string ⟨#[97]⟩, .string ⟨#[49]⟩] 39)) F1 v Ver.k1 w') := Lib.hid ((HV.out.commitL 1 _ Ver.i1 (HV.out.keep HV1.out HA1.out) (HT1.out.below HA1.out) (one_items w1 [97] [49]) (by decide) (by decide) (by decide) (by decide)).mono fun e w' ⟨m', c, r, hk, h1, h2⟩ => by
    obtain ⟨e1, e2, e3⟩ := hk.exact_ Ver.M.Has.zero Ver.no0 Ver.c1
    subst e1 e2 e3
    rw [Ver.o1] at h1
    rw [Ver.m1] at h2
    exact ⟨h1, h2⟩)
  unfold ptr at HC1
  refine HC1.out.mono ?_
  rintro e w2 ⟨rfl, hn2⟩
  have hb2 := next_below hn2 (B := w.heap.size) HF1.out (Nat.le_trans HB1.out.size HA1.out.size)
  have HB2 : Hid (Below w.heap.size w w2) := Lib.hid ((bchain HB1.out HA1.out).trans hb2)
  obtain ⟨F2, hv2, -, hf2, ht2⟩ := hn2
  have HF2 : Hid (∀ k, F2 k → w.heap.size ≤ k) := Lib.hid (fun k hk => by
    rcases hf2 k hk with h | h
    · exact HF1.out k h
    · exact Nat.le_trans HB1.out.size (Nat.le_trans HA1.out.size h))
  have HV2 := Lib.hid hv2
  have HT2 := Lib.hid ht2
  have HA2 : Hid (Below w2.heap.size w2 (w2.alloc (.cells #[.string ⟨#[97]⟩, .string ⟨#[50]⟩] 39))) := Lib.hid ((Below.refl _ w2).alloc (Nat.le_refl _) _)
  have HC2 : Hid (Calls Tryz.prog 11 #[ptr v, .int .i64 2, .slice (some ⟨w2.heap.size, 0, none⟩) 1 1] (w2.alloc (.cells #[.string ⟨#[97]⟩, .string ⟨#[50]⟩] 39)) fun e w' => e = .returned (.tuple #[.string ⟨Ver.r2.toArray⟩, .int .i64 0]) ∧ VNext VAt (w2.alloc (.cells #[.string ⟨#[97]⟩, .string ⟨#[50]⟩] 39)) F2 v Ver.k2 w') := Lib.hid ((HV.out.commitL 2 _ Ver.i2 (HV.out.keep HV2.out HA2.out) (HT2.out.below HA2.out) (one_items w2 [97] [50]) (by decide) (by decide) (by decide) (by decide)).mono fun e w' ⟨m', c, r, hk, h1, h2⟩ => by
    obtain ⟨e1, e2, e3⟩ := hk.exact_ Ver.h1 Ver.no1 Ver.c2
    subst e1 e2 e3
    rw [Ver.o2] at h1
    rw [Ver.m2] at h2
    exact ⟨h1, h2⟩)
  unfold ptr at HC2
  clear hv2 hf2 ht2 hb2
  go_wp2_with fail
  refine HC2.out.mono ?_
  rintro e w3 ⟨rfl, hn3⟩
  have hb3 := next_below hn3 (B := w.heap.size) HF2.out (Nat.le_trans HB2.out.size HA2.out.size)
  have HB3 : Hid (Below w.heap.size w w3) := Lib.hid ((bchain HB2.out HA2.out).trans hb3)
  obtain ⟨F3, hv3, -, hf3, ht3⟩ := hn3
  have HF3 : Hid (∀ k, F3 k → w.heap.size ≤ k) := Lib.hid (fun k hk => by
    rcases hf3 k hk with h | h
    · exact HF2.out k h
    · exact Nat.le_trans HB2.out.size (Nat.le_trans HA2.out.size h))
  have HV3 := Lib.hid hv3
  have HT3 := Lib.hid ht3
  have HAT1 : Hid (Calls Tryz.prog 15 #[ptr v, .int .i64 1] w3 fun e w' => ∃ gt, e = .returned (.tuple #[ptr gt, .int .i64 0]) ∧ TrAt w' gt Ver.i1 ∧ Below w3.heap.size w3 w') := Lib.hid ((HV.out.at_ 1 (by decide) (by decide) hv3).mono fun e w' h => by
    unfold AtPost at h
    rw [Ver.f1] at h
    exact Ver.load_one Ver.h2 Ver.g2 Ver.no12 (x := (1, Ver.i1)) (List.mem_cons_self ..) h)
  unfold ptr at HAT1
  clear hv3 hf3 ht3 hb3 HC1 HC2 HNW
  go_wp2_with fail
  refine HAT1.out.mono ?_
  rintro e w4 ⟨gt, rfl, tt4, hb4⟩
  have HB4 := Lib.hid (bchain HB3.out hb4)
  have HV4 := Lib.hid (HV.out.keep HV3.out hb4)
  have HT4 := Lib.hid (HT3.out.below hb4)
  have HK4 := Lib.hid hb4
  have HTT := Lib.hid (sroot_any w4 tt4)
  rw [Ver.q1] at HTT
  unfold ptr at HTT
  have e1 : (Ver.r1 == Ver.r2) = false := by decide
  have e2 : (Ver.r1 == Ver.r1) = true := by decide
  have e3 : (Ver.r1 != Ver.r1) = false := by decide
  have e4 : (Ver.r2 == Ver.r2) = true := by decide
  clear tt4 hb4
  go_wp2_with fail
  refine HTT.out.mono ?_
  rintro e w5 ⟨rfl, hb5⟩
  have HB5 := Lib.hid (bchain HB4.out hb5)
  have HPR := Lib.hid (HV.out.prune 2 (HV.out.keep HV4.out hb5) (HT4.out.below hb5) (by decide) (by decide))
  rw [Ver.m3] at HPR
  have e5 : ((Ver.k2.vs.length - Ver.k3.vs.length : Nat) : Int) = 1 := by decide
  rw [e5] at HPR
  unfold ptr at HPR
  have HK5 := Lib.hid (bchain HK4.out hb5)
  clear hb5 e5
  go_wp2_with fail
  refine HPR.out.mono ?_
  rintro e w6 ⟨rfl, hn6⟩
  have hb6 := next_below hn6 (B := w.heap.size) HF3.out HB5.out.size
  have HB6 := Lib.hid (HB5.out.trans hb6)
  obtain ⟨F6, hv6, -, -, ht6⟩ := hn6
  have HV6 := Lib.hid hv6
  have HAT2 : Hid (Calls Tryz.prog 15 #[ptr v, .int .i64 1] w6 fun e w' => e = .returned (.tuple #[nilp, .int .i64 120]) ∧ Below w6.heap.size w6 w') := Lib.hid ((HV.out.at_ 1 (by decide) (by decide) hv6).mono fun e w' h => by
    unfold AtPost at h
    rw [Ver.f2, Ver.f4] at h
    exact h)
  unfold ptr nilp at HAT2
  clear hv6 hb6 ht6
  go_wp2_with fail
  refine HAT2.out.mono ?_
  rintro e w7 ⟨rfl, hb7⟩
  have HB7 := Lib.hid (bchain HB6.out hb7)
  have HV7 := Lib.hid (HV.out.keep HV6.out hb7)
  have HAT3 : Hid (Calls Tryz.prog 15 #[ptr v, .int .i64 2] w7 fun e w' => ∃ gt, e = .returned (.tuple #[ptr gt, .int .i64 0]) ∧ TrAt w' gt Ver.i2 ∧ Below w7.heap.size w7 w') := Lib.hid ((HV.out.at_ 2 (by decide) (by decide) HV7.out).mono fun e w' h => by
    unfold AtPost at h
    rw [Ver.f3] at h
    exact Ver.load_one Ver.h3 Ver.g3 Ver.no12 (x := (2, Ver.i2)) (List.mem_cons_self ..) h)
  unfold ptr at HAT3
  clear hb7
  go_wp2_with fail
  refine HAT3.out.mono ?_
  rintro e w8 ⟨gu, rfl, tt8, hb8⟩
  have HB8 := Lib.hid (bchain HB7.out hb8)
  have HV8 := Lib.hid (HV.out.keep HV7.out hb8)
  have HTU := Lib.hid (sroot_any w8 tt8)
  rw [Ver.q2] at HTU
  unfold ptr at HTU
  clear tt8 hb8
  go_wp2_with fail
  refine HTU.out.mono ?_
  rintro e w9 ⟨rfl, hb9⟩
  have HB9 := Lib.hid (bchain HB8.out hb9)
  have HTX := Lib.hid (HV.out.texts (HV.out.keep HV8.out hb9) (by decide))
  have e6 : ((Ver.k3.st.length : Nat) : Int) = 1 := by decide
  rw [e6] at HTX
  unfold ptr at HTX
  clear hb9 e6
  go_wp2_with fail
  refine HTX.out.mono ?_
  rintro e w10 ⟨rfl, hb10⟩
  go_wp2
  go_ret
  exact ⟨rfl, bchain HB9.out hb10⟩
end Go.Proofs.YtkfadijcjjdlcaaGreatDoor
namespace Go.Proofs.YtkfadijcjjdlcaaGreatDoor
open Go.RowKit
open Sto (T St)

theorem keyI (h : Int) (hw : (Lit.int .i64 h).wf = true) : ∃ l, keyOf Tryz.prog 3 (.int .i64 h) = some l := ⟨_, Go.Maps.keyOf_int_mk Tryz.underlying3 hw⟩
def wasMap : MapLaw Tryz.prog 3 Int Nat := ⟨fun h => .int .i64 h, fun g => ptr g, fun h => (Lit.int .i64 h).wf = true, Go.Maps.int_keyed Tryz.underlying3, keyI, fun _ _ h => by injection h⟩
set_option maxRecDepth 100000 in
theorem zeroTrie (w : World) : (zeroValue 29).run Tryz.prog w = .ok (.pointer none) w := by kernel_rfl
/-- The map in block b has, for each of the versions, its trie. -/
def WasAt (w : World) (b : Nat) (L : List (Int × St)) : Prop := ∃ f, FnAt wasMap w b f ∧ ∀ x ∈ L, ∃ g, f x.1 = some g ∧ TrAt w g x.2
theorem WasAt.made (w : World) (b : Nat) (h : b = w.heap.size) : WasAt (w.alloc (.map #[] 0)) b [] := ⟨_, FnAt.made wasMap w b h, fun x hx => by cases hx⟩
theorem WasAt.lt {w : World} {b : Nat} {L : List (Int × St)} (h : WasAt w b L) : b < w.heap.size := by
  obtain ⟨f, h1, _⟩ := h
  exact h1.lt
theorem WasAt.no_cells {w : World} {b : Nat} {L : List (Int × St)} (h : WasAt w b L) (cs : Array Value) (t : TypeId) (fr : Nat × Nat) : w.heap[b]? ≠ some (.cells cs t fr) := by
  obtain ⟨f, h1, _⟩ := h
  exact h1.no_cells b cs t fr rfl
theorem WasAt.outB {F : Nat → Prop} {w w' : World} {b : Nat} {L : List (Int × St)} (h : WasAt w b L) (ho : Out F w w') (hb : ¬ F b) (hF : ∀ k, F k → ∀ cs t f, w.heap[k]? = some (.cells cs t f) → t ≠ 80 ∧ t ≠ 61) : WasAt w' b L := by
  obtain ⟨f, h1, h2⟩ := h
  exact ⟨f, h1.out ho hb, fun x hx => let ⟨g, e, ht⟩ := h2 x hx; ⟨g, e, ht.outB ho hF⟩⟩
theorem WasAt.below {w w' : World} {b : Nat} {L : List (Int × St)} (h : WasAt w b L) (hb : Below w.heap.size w w') : WasAt w' b L := h.outB (F := fun _ => False) (Out.of hb) id (fun _ hk => hk.elim)
theorem WasAt.sub {w : World} {b : Nat} {L M : List (Int × St)} (h : WasAt w b L) (hs : ∀ x ∈ M, x ∈ L) : WasAt w b M := by
  obtain ⟨f, h1, h2⟩ := h
  exact ⟨f, h1, fun x hx => h2 x (hs x hx)⟩
/-- The newest version's trie is put. -/
theorem WasAt.put {w : World} {b g : Nat} {L : List (Int × St)} {h : Int} {S : St} (hw : WasAt w b L) (hh : (Lit.int .i64 h).wf = true) (hL : ∀ x ∈ L, x.1 < h) (ht : TrAt w g S) :
    ∃ w', (Instr.mapUpdate 27 (.map (some b)) (.int .i64 h) (.pointer (some ⟨g, 0, none⟩))).run Tryz.prog w = .ok () w' ∧ WasAt w' b (L ++ [(h, S)]) ∧ Out (fun i => i = b) w w' := by
  have hnc := hw.no_cells
  obtain ⟨f, h1, h2⟩ := hw
  obtain ⟨w', r1, r2, r3, _⟩ := h1.put Tryz.underlying27 (s := h) hh g
  have hF : ∀ k, (fun i => i = b) k → ∀ cs t f, w.heap[k]? = some (.cells cs t f) → t ≠ 80 ∧ t ≠ 61 := fun k hk cs t f e => absurd (by rw [← show k = b from hk]; exact e) (hnc cs t f)
  refine ⟨w', r1, ⟨_, r2, fun x hx => ?_⟩, r3⟩
  rcases List.mem_append.1 hx with hx | hx
  · obtain ⟨g', e, ht'⟩ := h2 x hx
    have hne : x.1 ≠ h := by have := hL x hx; omega
    exact ⟨g', by rw [updF_other _ _ _ _ hne]; exact e, ht'.outB r3 hF⟩
  · rw [List.mem_singleton.1 hx]
    exact ⟨g, updF_same .., ht.outB r3 hF⟩
theorem WasAt.look {w : World} {b : Nat} {L : List (Int × St)} (h : WasAt w b L) {x : Int × St} (hx : x ∈ L) (hw : (Lit.int .i64 x.1).wf = true) :
    ∃ g, (Instr.lookup 27 (.map (some b)) (.int .i64 x.1) false).run Tryz.prog w = .ok (.pointer (some ⟨g, 0, none⟩)) w ∧ TrAt w g x.2 := by
  obtain ⟨f, h1, h2⟩ := h
  obtain ⟨g, e, ht⟩ := h2 x hx
  have := h1.look Tryz.underlying27 (s := x.1) hw false (zeroTrie w)
  rw [e] at this
  exact ⟨g, this, ht⟩
end Go.Proofs.YtkfadijcjjdlcaaGreatDoor
namespace Go.Proofs.YtkfadijcjjdlcaaGreatDoor
open Sto (T St)

theorem reach_set {S : St} {l k : List T} (h : ∀ x, x ∈ l → x ∈ k) {x : T} (hr : Sto.Reach S l x) : Sto.Reach S k x := by
  induction hr with
  | here h1 h2 => exact .here (h _ h1) h2
  | step _ h2 h3 h4 ih => exact .step ih h2 h3 h4
theorem keepL_set {S : St} (hS : Sto.Rising S) {l k : List T} (h : ∀ x, x ∈ l ↔ x ∈ k) : Sto.keepL S l = Sto.keepL S k := by
  unfold Sto.keepL
  refine List.filter_congr fun a _ => decide_eq_decide.2 ?_
  rw [Sto.reachL_mem hS, Sto.reachL_mem hS]
  exact ⟨reach_set fun x => (h x).1, reach_set fun x => (h x).2⟩
namespace Ver
def M.last (m : M) : Option Int := m.vs.getLast?.map (·.1)
theorem find_iff {m : M} (g : m.Good) {x : Int} {I : St} : m.find x = some I ↔ (x, I) ∈ m.vs := ⟨M.find_mem, fun h => M.find_of g h⟩
theorem find_comI {m : M} {h : Int} {C I : St} (h3 : ∀ x ∈ m.vs, x.1 < h) (x : Int) : (m.comI h C I).find x = if x = h then some (chsS I C) else m.find x := by
  unfold M.comI M.find
  simp only [List.find?_append]
  by_cases e : x = h
  · rw [if_pos e]
    have hn : m.vs.find? (fun y => decide (y.1 = x)) = none := List.find?_eq_none.2 fun y hy => by
      have := h3 y hy
      simp
      omega
    rw [hn]
    simp [e]
  · rw [if_neg e]
    have e2 : ¬ (h = x) := fun e3 => e e3.symm
    cases m.vs.find? (fun y => decide (y.1 = x)) with
    | none => simp [e2]
    | some y => simp
theorem last_comI {m : M} {h : Int} {C I : St} : (m.comI h C I).last = some h := by
  unfold M.comI
  simp [M.last]
/-- The newest version's height, and what stands for it where there is none. -/
def M.newest (m : M) : Int := m.last.getD (-9223372036854775808)
theorem newest_comI {m : M} {h : Int} {C I : St} : (m.comI h C I).newest = h := by
  unfold M.newest
  rw [last_comI]; rfl
theorem newest_find {m : M} (g : m.Good) : m.findR m.newest = rootS m.top := by
  unfold M.newest M.last M.top
  cases hl : m.vs.getLast? with
  | none =>
    have hv : m.vs = [] := List.getLast?_eq_none_iff.1 hl
    have hf : m.find (-9223372036854775808) = none := M.find_none fun x hx => by rw [hv] at hx; cases hx
    simp only [Option.map_none, Option.getD_none, M.findR, hf]
    exact (rootS_tree TrS.empty).symm
  | some x =>
    have hf := M.find_of g (List.mem_of_getLast? hl)
    simp only [Option.map_some, Option.getD_some, M.findR, hf]
theorem newest_wf {m : M} (g : m.Good) : (Lit.int .i64 m.newest).wf = true := by
  unfold M.newest M.last
  cases hl : m.vs.getLast? with
  | none => decide
  | some x =>
    have h := g.fit x (List.mem_of_getLast? hl)
    unfold maxH at h
    simp [Lit.wf, IntKind.min, IntKind.max, IntKind.bits, IntKind.signed]
    omega
theorem last_at {m : M} {x : Int} : m.last = some x ↔ ∃ h : 0 < m.vs.length, (m.vs[m.vs.length - 1]'(by omega)).1 = x := by
  unfold M.last
  rw [List.getLast?_eq_getElem?]
  by_cases h : 0 < m.vs.length
  · rw [List.getElem?_eq_getElem (by omega)]
    simp only [Option.map_some, Option.some.injEq]
    exact ⟨fun e => ⟨h, e⟩, fun ⟨_, e⟩ => e⟩
  · rw [List.getElem?_eq_none (by omega)]
    simp [h]
theorem find_prune {m : M} (g : m.Good) (b x : Int) : (m.prune b).find x = if x < b ∧ m.last ≠ some x then none else m.find x := by
  cases hf : m.find x with
  | none =>
    have : (m.prune b).find x = none := M.find_none fun y hy e => by
      have h1 := (upto_sub m.vs b).subset hy
      have h2 := M.find_of g h1
      rw [e, hf] at h2
      cases h2
    rw [this]
    split <;> rfl
  | some I =>
    obtain ⟨i, hi, hie⟩ := List.mem_iff_getElem.1 (M.find_mem hf)
    have hx : m.vs[i].1 = x := by rw [hie]
    have hI : m.vs[i].2 = I := by rw [hie]
    have h1 := prune_find g b hi
    rw [hx, hI] at h1
    rw [h1]
    by_cases hs : stay m.vs b i = true
    · rw [if_pos hs, if_neg]
      rintro ⟨h2, h3⟩
      rcases (stay_iff hi).1 hs with h4 | h4
      · rw [hx] at h4; omega
      · exact h3 (last_at.2 ⟨by omega, by simp only [show m.vs.length - 1 = i from by omega]; exact hx⟩)
    · rw [if_neg hs, if_pos]
      have h2 : ¬ (b ≤ m.vs[i].1 ∨ i + 1 = m.vs.length) := fun e => hs ((stay_iff hi).2 e)
      refine ⟨by rw [hx] at h2; omega, fun e => h2 (Or.inr ?_)⟩
      obtain ⟨h3, h4⟩ := last_at.1 e
      have := rise_inj g.rise hi (j := m.vs.length - 1) (by omega) (by rw [hx, h4])
      omega
theorem last_prune (m : M) (b : Int) : (m.prune b).last = m.last := by
  unfold M.last M.prune
  simp only [last_upto]
/-- Nothing of a height that is not less is there: what Commit asks, by the newest height alone. -/
theorem above_last {m : M} (g : m.Good) (h : Int) : (∃ x ∈ m.vs, h ≤ x.1) ↔ ∃ y, m.last = some y ∧ h ≤ y := by
  constructor
  · rintro ⟨x, hx, hle⟩
    obtain ⟨i, hi, rfl⟩ := List.mem_iff_getElem.1 hx
    refine ⟨_, last_at.2 ⟨by omega, rfl⟩, ?_⟩
    rcases Nat.lt_or_ge i (m.vs.length - 1) with h1 | h1
    · have := List.pairwise_iff_getElem.1 g.rise i (m.vs.length - 1) hi (by omega) h1
      omega
    · have e : i = m.vs.length - 1 := by omega
      subst e
      exact hle
  · rintro ⟨y, hy, hle⟩
    obtain ⟨h1, h2⟩ := last_at.1 hy
    exact ⟨_, List.getElem_mem (show m.vs.length - 1 < m.vs.length by omega), by rw [h2]; exact hle⟩
end Ver
end Go.Proofs.YtkfadijcjjdlcaaGreatDoor
namespace Go.Proofs.YtkfadijcjjdlcaaGreatDoor
open Go.RowKit
open Sto (T St)

/-- A version's own struct: its root alone. -/
def rval (r : T) : Value := .agg #[.string ⟨r.toArray⟩]
def rootsMap : MapLaw Tryz.prog 3 Int T := ⟨fun h => .int .i64 h, rval, fun h => (Lit.int .i64 h).wf = true, Go.Maps.int_keyed Tryz.underlying3, keyI, fun _ _ h => by injection h⟩
set_option maxRecDepth 100000 in
theorem zeroRoot (w : World) : (zeroValue 63).run Tryz.prog w = .ok (rval []) w := by kernel_rfl
/-- The map in block b has each version's root. -/
def RootsAt (w : World) (b : Nat) (m : Ver.M) : Prop := FnAt rootsMap w b fun h => (m.find h).map rootS
theorem RootsAt.made (w : World) (b : Nat) (h : b = w.heap.size) : RootsAt (w.alloc (.map #[] 0)) b .zero := FnAt.made rootsMap w b h
theorem RootsAt.out {F : Nat → Prop} {w w' : World} {b : Nat} {m : Ver.M} (h : RootsAt w b m) (ho : Out F w w') (hF : ¬ F b) : RootsAt w' b m := FnAt.out h ho hF
theorem findR_eq (m : Ver.M) (x : Int) : (((m.find x).map rootS).map rootsMap.val).getD (rval []) = rval (m.findR x) := by
  unfold Ver.M.findR
  cases m.find x <;> rfl
theorem RootsAt.look {w : World} {b : Nat} {m : Ver.M} (h : RootsAt w b m) (x : Int) (hx : (Lit.int .i64 x).wf = true) :
    (Instr.lookup 56 (.map (some b)) (.int .i64 x) true).run Tryz.prog w = .ok (.tuple #[.agg #[.string ⟨(m.findR x).toArray⟩], .bool (m.find x).isSome]) w := by
  have := FnAt.look h Tryz.underlying56 (s := x) hx true (zeroRoot w)
  have e2 : ((m.find x).map rootS).isSome = (m.find x).isSome := by cases m.find x <;> rfl
  rw [findR_eq, e2] at this
  exact this
theorem RootsAt.look1 {w : World} {b : Nat} {m : Ver.M} (h : RootsAt w b m) (x : Int) (hx : (Lit.int .i64 x).wf = true) :
    (Instr.lookup 56 (.map (some b)) (.int .i64 x) false).run Tryz.prog w = .ok (.agg #[.string ⟨(m.findR x).toArray⟩]) w := by
  have := FnAt.look h Tryz.underlying56 (s := x) hx false (zeroRoot w)
  rw [findR_eq] at this
  exact this
theorem RootsAt.put {w : World} {b : Nat} {m : Ver.M} {x : Int} {C I : St} (h : RootsAt w b m) (hc : m.comCI x C I = 0) :
    ∃ w', (Instr.mapUpdate 56 (.map (some b)) (.int .i64 x) (.agg #[.string ⟨(rootS (Ver.chsS I C)).toArray⟩])).run Tryz.prog w = .ok () w' ∧ RootsAt w' b (m.comI x C I) ∧ Out (fun i => i = b) w w' := by
  obtain ⟨h1, h2, h3, _⟩ := Ver.M.comCI_zero hc
  obtain ⟨w', r1, r2, r3, _⟩ := FnAt.put h Tryz.underlying56 (s := x) (wf_height ⟨h1, h2⟩) (rootS (Ver.chsS I C))
  refine ⟨w', r1, FnAt.congr r2 fun s => ?_, r3⟩
  rw [Ver.find_comI h3]
  unfold updF
  split <;> rfl
end Go.Proofs.YtkfadijcjjdlcaaGreatDoor
namespace Go.Proofs.YtkfadijcjjdlcaaGreatDoor
open Go.Shelf Go.RowKit Go.Maps Go.Sort
def keysI_ren : Go.Shelf.Ren := ⟨fun | 7 => 32 | 10 => 52 | n => n, fun | 23 => 56 | 26 => 3 | 3 => 63 | 28 => 74 | 0 => 0 | 27 => 73 | 33 => 94 | 4 => 4 | n => n, fun | n => n⟩
theorem keysI : Go.Proofs.SlLaysZI.n7 Tryz.prog keysI_ren := {
  mixed := by kernel_rfl
  f7 := ⟨Tryz.f32.name, by decide, Tryz.func32.trans (congrArg some (by kernel_rfl))⟩
  f10 := ⟨Tryz.f52.name, by decide, Tryz.func52.trans (congrArg some (by kernel_rfl))⟩
  t0 := Tryz.underlying0
  a0 := Tryz.isAgg0
  z0 := Tryz.sizeOf0
  v0 := Tryz.zeroValue0
  t4 := Tryz.underlying4
  a4 := Tryz.isAgg4
  z4 := Tryz.sizeOf4
  v4 := Tryz.zeroValue4
  t23 := Tryz.underlying56
  a23 := Tryz.isAgg56
  z23 := Tryz.sizeOf56
  v23 := Tryz.zeroValue56
  t26 := Tryz.underlying3
  a26 := Tryz.isAgg3
  z26 := Tryz.sizeOf3
  v26 := Tryz.zeroValue3
  t27 := Tryz.underlying73
  a27 := Tryz.isAgg73
  z27 := Tryz.sizeOf73
  v27 := Tryz.zeroValue73
  t28 := Tryz.underlying74
  a28 := Tryz.isAgg74
  z28 := Tryz.sizeOf74
  v28 := Tryz.zeroValue74
  t33 := Tryz.underlying94
  a33 := Tryz.isAgg94
  z33 := Tryz.sizeOf94
  v33 := Tryz.zeroValue94 }
def sortedI_ren : Go.Shelf.Ren := ⟨fun | 6 => 31 | 8 => 50 | 9 => 51 | 11 => 74 | 13 => 76 | 12 => 75 | 23 => 106 | 24 => 107 | 14 => 97 | 15 => 98 | 16 => 99 | 17 => 100 | 18 => 101 | 19 => 102 | 20 => 103 | 21 => 104 | 22 => 105 | 25 => 130 | 26 => 131 | 27 => 132 | 28 => 133 | 29 => 134 | 30 => 135 | 31 => 148 | n => n, fun | 26 => 3 | 28 => 74 | 24 => 43 | 0 => 0 | 3 => 3 | 37 => 127 | 48 => 131 | 50 => 155 | 4 => 4 | 40 => 146 | 39 => 145 | 45 => 151 | 5 => 5 | 9 => 9 | 51 => 179 | 55 => 183 | 57 => 196 | 58 => 197 | 33 => 94 | n => n, fun | n => n⟩
theorem sortedI : Go.Proofs.SlLaysZI.n6 Tryz.prog sortedI_ren := {
  mixed := by kernel_rfl
  f6 := ⟨Tryz.f31.name, by decide, Tryz.func31.trans (congrArg some (by kernel_rfl))⟩
  f8 := ⟨Tryz.f50.name, by decide, Tryz.func50.trans (congrArg some (by kernel_rfl))⟩
  f11 := ⟨Tryz.f74.name, by decide, Tryz.func74.trans (congrArg some (by kernel_rfl))⟩
  t0 := Tryz.underlying0
  a0 := Tryz.isAgg0
  z0 := Tryz.sizeOf0
  v0 := Tryz.zeroValue0
  t24 := Tryz.underlying43
  a24 := Tryz.isAgg43
  z24 := Tryz.sizeOf43
  v24 := Tryz.zeroValue43
  t26 := Tryz.underlying3
  a26 := Tryz.isAgg3
  z26 := Tryz.sizeOf3
  v26 := Tryz.zeroValue3
  t28 := Tryz.underlying74
  a28 := Tryz.isAgg74
  z28 := Tryz.sizeOf74
  v28 := Tryz.zeroValue74
  i26 := by kernel_rfl }
def sortI_ren : Go.Shelf.Ren := ⟨fun | 5 => 51 | 8 => 76 | 7 => 75 | 19 => 106 | 20 => 107 | 10 => 97 | 11 => 98 | 12 => 99 | 13 => 100 | 14 => 101 | 15 => 102 | 16 => 103 | 17 => 104 | 18 => 105 | 30 => 130 | 31 => 131 | 32 => 132 | 33 => 133 | 34 => 134 | 35 => 135 | 40 => 148 | n => n, fun | 23 => 43 | 25 => 3 | 3 => 3 | 32 => 127 | 22 => 43 | 0 => 0 | 44 => 131 | 46 => 155 | 4 => 4 | 36 => 146 | 35 => 145 | 41 => 151 | 5 => 5 | 9 => 9 | 53 => 179 | 57 => 183 | 63 => 196 | 64 => 197 | n => n, fun | n => n⟩
theorem sortI : Go.Proofs.SlLaysM.n5 Tryz.prog sortI_ren := {
  mixed := by kernel_rfl
  f5 := ⟨Tryz.f51.name, by decide, Tryz.func51.trans (congrArg some (by kernel_rfl))⟩
  f7 := ⟨Tryz.f75.name, by decide, Tryz.func75.trans (congrArg some (by kernel_rfl))⟩
  f8 := Tryz.func76.trans (congrArg some (by kernel_rfl))
  f10 := ⟨Tryz.f97.name, by decide, Tryz.func97.trans (congrArg some (by kernel_rfl))⟩
  f11 := ⟨Tryz.f98.name, by decide, Tryz.func98.trans (congrArg some (by kernel_rfl))⟩
  f12 := ⟨Tryz.f99.name, by decide, Tryz.func99.trans (congrArg some (by kernel_rfl))⟩
  f13 := ⟨Tryz.f100.name, by decide, Tryz.func100.trans (congrArg some (by kernel_rfl))⟩
  f14 := ⟨Tryz.f101.name, by decide, Tryz.func101.trans (congrArg some (by kernel_rfl))⟩
  f15 := ⟨Tryz.f102.name, by decide, Tryz.func102.trans (congrArg some (by kernel_rfl))⟩
  f16 := ⟨Tryz.f103.name, by decide, Tryz.func103.trans (congrArg some (by kernel_rfl))⟩
  f17 := ⟨Tryz.f104.name, by decide, Tryz.func104.trans (congrArg some (by kernel_rfl))⟩
  f18 := ⟨Tryz.f105.name, by decide, Tryz.func105.trans (congrArg some (by kernel_rfl))⟩
  f19 := Tryz.func106.trans (congrArg some (by kernel_rfl))
  f20 := Tryz.func107.trans (congrArg some (by kernel_rfl))
  f30 := ⟨Tryz.f130.name, by decide, Tryz.func130.trans (congrArg some (by kernel_rfl))⟩
  f31 := Tryz.func131.trans (congrArg some (by kernel_rfl))
  f32 := Tryz.func132.trans (congrArg some (by kernel_rfl))
  f33 := ⟨Tryz.f133.name, by decide, Tryz.func133.trans (congrArg some (by kernel_rfl))⟩
  f34 := ⟨Tryz.f134.name, by decide, Tryz.func134.trans (congrArg some (by kernel_rfl))⟩
  f35 := ⟨Tryz.f135.name, by decide, Tryz.func135.trans (congrArg some (by kernel_rfl))⟩
  f40 := ⟨Tryz.f148.name, by decide, Tryz.func148.trans (congrArg some (by kernel_rfl))⟩
  t0 := Tryz.underlying0
  a0 := Tryz.isAgg0
  z0 := Tryz.sizeOf0
  v0 := Tryz.zeroValue0
  t3 := Tryz.underlying3
  a3 := Tryz.isAgg3
  z3 := Tryz.sizeOf3
  v3 := Tryz.zeroValue3
  t4 := Tryz.underlying4
  a4 := Tryz.isAgg4
  z4 := Tryz.sizeOf4
  v4 := Tryz.zeroValue4
  t5 := Tryz.underlying5
  a5 := Tryz.isAgg5
  z5 := Tryz.sizeOf5
  v5 := Tryz.zeroValue5
  t9 := Tryz.underlying9
  a9 := Tryz.isAgg9
  z9 := Tryz.sizeOf9
  v9 := Tryz.zeroValue9
  t22 := Tryz.underlying43
  a22 := Tryz.isAgg43
  z22 := Tryz.sizeOf43
  v22 := Tryz.zeroValue43
  t23 := Tryz.underlying43
  a23 := Tryz.isAgg43
  z23 := Tryz.sizeOf43
  v23 := Tryz.zeroValue43
  t25 := Tryz.underlying3
  a25 := Tryz.isAgg3
  z25 := Tryz.sizeOf3
  v25 := Tryz.zeroValue3
  t32 := Tryz.underlying127
  a32 := Tryz.isAgg127
  z32 := Tryz.sizeOf127
  v32 := Tryz.zeroValue127
  t35 := Tryz.underlying145
  a35 := Tryz.isAgg145
  z35 := Tryz.sizeOf145
  v35 := Tryz.zeroValue145
  t36 := Tryz.underlying146
  a36 := Tryz.isAgg146
  z36 := Tryz.sizeOf146
  v36 := Tryz.zeroValue146
  t41 := Tryz.underlying151
  a41 := Tryz.isAgg151
  z41 := Tryz.sizeOf151
  v41 := Tryz.zeroValue151
  t44 := Tryz.underlying131
  a44 := Tryz.isAgg131
  z44 := Tryz.sizeOf131
  v44 := Tryz.zeroValue131
  t46 := Tryz.underlying155
  a46 := Tryz.isAgg155
  z46 := Tryz.sizeOf155
  v46 := Tryz.zeroValue155
  t53 := Tryz.underlying179
  a53 := Tryz.isAgg179
  z53 := Tryz.sizeOf179
  v53 := Tryz.zeroValue179
  t57 := Tryz.underlying183
  a57 := Tryz.isAgg183
  z57 := Tryz.sizeOf183
  v57 := Tryz.zeroValue183
  t63 := Tryz.underlying196
  a63 := Tryz.isAgg196
  z63 := Tryz.sizeOf196
  v63 := Tryz.zeroValue196
  t64 := Tryz.underlying197
  a64 := Tryz.isAgg197
  z64 := Tryz.sizeOf197
  v64 := Tryz.zeroValue197 }
/-- slices.Sort's two contracts, as slices.Sorted leans on them. -/
theorem sortsInI (m : Nat) : AnyZI.SortsIn Tryz.prog sortedI_ren Fence.wide m :=
  ⟨fun blk off cap ss W hH hblk hsz => callsIn_wide.2 (AnyM.slices_Sort_int sortI blk off cap ss W hH hblk hsz),
   fun p cap W => callsIn_wide.2 (AnyM.slices_Sort_int_none sortI p cap W)⟩
theorem shelf_keysI (mb : Option Nat) (w : World) :
    Calls Tryz.prog 32 #[.map mb] w fun e w' => e = .returned (.func (.func 52) #[] #[.pointer (some ⟨w.heap.size, 0, none⟩)]) ∧ w' = w.alloc (.cells #[.map mb] 56) :=
  (callsIn_wide (n := 5)).1 (AnyZI.keys_in keysI Fence.wide 5 trivial rfl mb w)
def SortedPostI (S : List Int → Prop) (w : World) (e : Ending) (w' : World) : Prop := ∃ (v : Value) (ss : List Int), e = .returned v ∧ S ss ∧
  w'.ownsRow w.heap.size 3 1 v ss.length ((ss.mergeSort (fun x y => decide (x ≤ y))).map encZ) ∧ (v = .slice none 0 0 ↔ ss = []) ∧ Below w.heap.size w w'
set_option maxHeartbeats 1000000 in
theorem shelf_sortedI {H : Type} (b nn q : Nat) (D0 : DataW H) (R : Value → Option (DataW H × List MemPlace)) (w : World) (hown : w.ownsMap Tryz.prog 3 R b nn D0) (hq : w.cell? ⟨q, 0, none⟩ = some (.map (some b))) (hmax : Maps.size D0 ≤ maxLen) (hbytes : Maps.size D0 * 8 ≤ 140737488355328) :
    Calls Tryz.prog 31 #[.func (.func 52) #[] #[.pointer (some ⟨q, 0, none⟩)]] w (SortedPostI (fun ss => ss.Perm (intKeys D0)) w) := by
  have hseq : SeqGives Fence.wide 2 Tryz.prog 52 #[.pointer (some ⟨q, 0, none⟩)] encZ (fun ss => ss.Perm (intKeys D0)) (Maps.size D0) w :=
    AnyZI.keys_gives (ρ := keysI_ren) { keysI with } Fence.wide _ trivial rfl (by omega) q b nn D0 w (World.block_lt_of_cell? _ _ hq) hq hown
  exact (callsIn_wide (n := 5)).1 (AnyZI.sorted_in sortedI Fence.wide 5 trivial trivial trivial trivial rfl (by omega) (sortsInI _) (enters_of Tryz.func51 (by kernel_rfl) rfl) 52 #[.pointer (some ⟨q, 0, none⟩)] trivial (enters_of Tryz.func52 (by kernel_rfl) rfl) _ _ hmax hbytes _ hseq)
end Go.Proofs.YtkfadijcjjdlcaaGreatDoor
namespace Go.Proofs.YtkfadijcjjdlcaaGreatDoor
open Go.RowKit Go.Maps Go.WideShapes
open Go.WideElems (Fit rd rg rd_mk rg_of)
open Sto (T St)

/-- A map of whole numbers, in the kit's word: what its keys are, in whatever order. -/
theorem FnAt.ownsI {α : Type} (M : MapLaw Tryz.prog 3 Int α) (hM : ∀ s, M.enc s = .int .i64 s) {w : World} {b : Nat} {f : Int → Option α} (h : FnAt M w b f) (L : List Int) (hL : ∀ x, f x ≠ none → x ∈ L) (hl : L.length ≤ 1000000) :
    ∃ D : DataW Unit, w.ownsMap Tryz.prog 3 (fun _ => some (.lit (.bool true), [])) b 1000000 D ∧ Maps.size D ≤ 1000000 ∧ ∀ ss : List Int, ss.Perm (intKeys D) → ss.Nodup ∧ ∀ x, x ∈ ss ↔ f x ≠ none := by
  obtain ⟨es, clock, hb, h2, h3, h4⟩ := h
  have hex : ∀ l : List MapEntry, (∀ x ∈ l, ∃ s a, x.key = M.enc s ∧ x.val = M.val a ∧ M.ok s ∧ f s = some a) → ∃ ks : List Int, l.map (·.key) = ks.map M.enc ∧ (∀ s ∈ ks, f s ≠ none) ∧ (l.map (rg (H := Unit) Tryz.prog 3 (fun _ => some (.lit (.bool true), [])))).map (fun p => Go.intOf p.1) = ks ∧ ∀ x ∈ l, ∃ y, rd (H := Unit) Tryz.prog 3 (fun _ => some (.lit (.bool true), [])) x = some y := by
    intro l
    induction l with
    | nil => exact fun _ => ⟨[], rfl, fun s hs => (by cases hs), rfl, fun x hx => (by cases hx)⟩
    | cons x r ih =>
      intro hl
      obtain ⟨ks, e1, e2, e3, e4⟩ := ih fun y hy => hl y (List.mem_cons_of_mem _ hy)
      obtain ⟨s, a, q1, _, q3, q2⟩ := hl x (List.mem_cons_self ..)
      obtain ⟨kl, hk⟩ := M.key s q3
      have hk' := hk
      rw [hM s] at hk'
      obtain ⟨y, ey, rfl, _⟩ := Maps.keyOf_i64 Tryz.underlying3 hk'
      obtain rfl : s = y := encZ_inj ey
      have hr : rd (H := Unit) Tryz.prog 3 (fun _ => some (.lit (.bool true), [])) x = some (.int .i64 s, .lit (.bool true)) := by
        obtain ⟨xk, xv, xb⟩ := x
        dsimp only at q1
        subst q1
        exact rd_mk (R := fun _ => some (DataW.lit (.bool true), [])) (yv := (DataW.lit (.bool true), [])) hk rfl
      refine ⟨s :: ks, by simp [e1, q1], fun s' hs' => ?_, ?_, fun z hz => ?_⟩
      · rcases List.mem_cons.1 hs' with rfl | hs'
        · rw [q2]; simp
        · exact e2 s' hs'
      · rw [List.map_cons, List.map_cons, e3, rg_of hr]
        rfl
      · rcases List.mem_cons.1 hz with rfl | hz
        · exact ⟨_, hr⟩
        · exact e4 z hz
  obtain ⟨ks, e1, e2, e3, e4⟩ := hex es.toList h2
  have hlen : ks.length = es.size := by
    have := congrArg List.length e1
    simpa using this.symm
  have hnd : ks.Nodup := by
    have h5 := h4.2.2
    rw [e1] at h5
    exact List.Pairwise.imp (fun {a b} hab => fun (e : a = b) => hab (by rw [e])) (List.pairwise_map.1 h5)
  have hall : ∀ s, s ∈ ks ↔ f s ≠ none := fun s => ⟨e2 s, fun hs => by
    cases hf : f s with
    | none => exact absurd hf hs
    | some a =>
      obtain ⟨x, hx, hxe⟩ := h3 s a hf
      have : x.key ∈ ks.map M.enc := e1 ▸ List.mem_map.2 ⟨x, hx, rfl⟩
      obtain ⟨s', hs', e⟩ := List.mem_map.1 this
      rw [M.inj _ _ (hxe.symm.trans e.symm)]; exact hs'⟩
  have hsz : es.size ≤ 1000000 := by
    have := Sto.le_of_sub (M := L) hnd fun x hx => hL x ((hall x).1 hx)
    omega
  refine ⟨_, ⟨es, clock, hb, ⟨by unfold maxLen; omega, h4, e4⟩, hsz, rfl⟩, ?_, fun ss hp => ?_⟩
  · simp only [Maps.size, length_sorted]
    simpa using hsz
  · have hp2 : ss.Perm ks := by
      refine hp.trans ?_
      rw [← e3]
      exact (sorted_perm _).map _
    exact ⟨hp2.nodup_iff.2 hnd, fun x => by rw [hp2.mem_iff, hall]⟩
theorem sort_heights {ss L : List Int} (hn : ss.Nodup) (hL : L.Pairwise (· < ·)) (h : ∀ x, x ∈ ss ↔ x ∈ L) : ss.mergeSort (fun x y => decide (x ≤ y)) = L := by
  have hLn : L.Nodup := hL.imp fun {a b} hab e => by omega
  have hp : ss.Perm L := (List.perm_ext_iff_of_nodup hn hLn).2 h
  refine (mergeSort_of_perm_i hp).trans (List.mergeSort_of_pairwise ?_)
  exact hL.imp fun {a b} hab => by simp only [leI, decide_eq_true_eq]; omega
/-- The heights in rising order, in a row of the call's own. -/
theorem sortedI_any {b q : Nat} {w : World} {m : Ver.M} (h : RootsAt w b m) (g : m.Good) (hq : w.cell? ⟨q, 0, none⟩ = some (.map (some b))) (hl : m.vs.length ≤ 1000000) :
    Calls Tryz.prog 31 #[.func (.func 52) #[] #[.pointer (some ⟨q, 0, none⟩)]] w fun e w' => ∃ z, e = .returned z ∧ IntsO w' w.heap.size z (m.vs.map (·.1)) ∧ Below w.heap.size w w' := by
  have hmem : ∀ x, (m.find x).map rootS ≠ none ↔ x ∈ m.vs.map (·.1) := fun x => by
    rw [List.mem_map]
    constructor
    · intro hx
      cases hf : m.find x with
      | none => rw [hf] at hx; exact absurd rfl hx
      | some I => exact ⟨(x, I), (Ver.find_iff g).1 hf, rfl⟩
    · rintro ⟨⟨y, I⟩, hy, rfl⟩
      rw [(Ver.find_iff g).2 hy]
      simp
  obtain ⟨D, h1, h2, h3⟩ := FnAt.ownsI rootsMap (fun _ => rfl) h (m.vs.map (·.1)) (fun x hx => (hmem x).1 hx) (by simpa using hl)
  refine (shelf_sortedI b _ q D _ w h1 hq (by unfold maxLen; omega) (by omega)).mono ?_
  rintro e w' ⟨v, ss, rfl, hp, hown, _, hb⟩
  obtain ⟨hn, hm⟩ := h3 ss hp
  have e1 := sort_heights hn (List.pairwise_map.2 g.rise) (fun x => (hm x).trans (hmem x))
  refine ⟨v, rfl, ?_, hb⟩
  unfold IntsO
  rw [← e1, List.length_mergeSort]
  exact hown
end Go.Proofs.YtkfadijcjjdlcaaGreatDoor
namespace Go.Proofs.YtkfadijcjjdlcaaGreatDoor
open Go.RowKit
open Go.Proofs.YtkfadijcjjdlcaaGreatDoor.Nd (N)

set_option maxRecDepth 100000 in
set_option maxHeartbeats 1000000 in
theorem nkids_any (n : N) (w : World) (hn : n.kids.length = 16) (hk : ∀ x ∈ n.kids, x.length ≤ 140737488351232) :
    Calls Tryz.prog 62 #[ndval n] w (KidsPost n w) := by
  unfold KidsPost
  obtain ⟨i0, hi, hz0, hz1, hz2⟩ := info_parts Tryz.infoStrN
  obtain ⟨C, hC, HB0, HCE, HI, HI2⟩ := nbox n w hn
  have HKE : Hid (∀ (k : Nat) (hk : k < 16), ∀ w, (Instr.index 110 (.agg (scells n.kids).toArray) (.int .i64 k)).run Tryz.prog w = .ok (.string ⟨(n.kids[k]'(by omega)).toArray⟩) w) := Lib.hid (fun k hk w => idx_strs n.kids hn k hk w)
  have HCL : Hid (∀ (k : Nat) (h : k < 16) w, Calls Tryz.prog 26 #[.string ⟨(n.kids[k]'(by omega)).toArray⟩] w fun e w' => e = .returned (.string ⟨(n.kids[k]'(by omega)).toArray⟩) ∧ Below w.heap.size w w') := Lib.hid (fun k h w => dclone_any _ w (hk _ (List.getElem_mem _)))
  obtain ⟨-, -, -, -, cR, -⟩ := HCE.out _ (Below.refl _ _)
  have HCR := Lib.hid cR
  have HN := Lib.hid hn
  unfold ndval
  rw [hC]
  clear hC cR HI HCE hk
  go_enter Tryz.func62, Tryz.ntmps62
  go_wp2_with (refine wpList_load_mid (by rfl) _ _ (by rfl) w.heap.size 3 (by rfl) (scells n.kids) _ HCR.out Tryz.underlying110 (by rfl) HI2.out ?_)
  have HSZ : Hid (w.heap.size < (w.alloc (.cells C 112)).heap.size) := Lib.hid (by simp)
  generalize (w.alloc (.cells C 112)) = w0 at *
  obtain ⟨K, hK⟩ : ∃ K, scells n.kids = K := ⟨_, rfl⟩
  rw [hK] at HKE ⊢
  clear hK HCR HI2
  go_loopw [3, 8] (fun sl i wr => ∃ (k : Nat) (z : Value), z = sl ∧ k ≤ 16 ∧ i = .int .i64 k ∧ Own wr w0.heap.size z (Nd.kidsL (n.kids.take k)) ∧ Below w0.heap.size w0 wr) (fun _ i _ => 16 - (intOf i).toNat)
  case atStart => exact ⟨0, _, rfl, Nat.zero_le _, rfl, Own.nil _ _, Below.refl _ _⟩
  case round =>
    obtain ⟨k, z, rfl, hk, rfl, hown, hb⟩ := hrel
    have HBk := Lib.hid hb
    have HOW := Lib.hid hown
    by_cases hlt : k < 16
    · have h1 : (k : Int) < 16 := by omega
      have h0 : (0 : Int) ≤ (k : Int) := by omega
      have n0 := HKE.out k hlt
      have HCK := Lib.hid (HCL.out k hlt)
      have HST := Lib.hid (Nd.kids_take n.kids k (by omega))
      have hln : (Nd.kidsL (n.kids.take k)).length ≤ 16 := by
        unfold Nd.kidsL
        refine Nat.le_trans (List.length_filter_le _ _) ?_
        rw [List.length_take]
        omega
      obtain ⟨x, hx⟩ : ∃ x, n.kids[k]'(by omega) = x := ⟨_, rfl⟩
      rw [hx] at n0 HST HCK
      obtain ⟨O, hO⟩ : ∃ O, Nd.kidsL (n.kids.take k) = O := ⟨_, rfl⟩
      rw [hO] at HOW HST hln
      have HSZr : Hid (w0.heap.size ≤ wr.heap.size) := Lib.hid hb.size
      have HLN := Lib.hid hln
      clear hx hO hown hln hb
      by_cases he : x = []
      · subst he
        rw [if_pos rfl] at HST
        go_wp2
        exact ⟨⟨k + 1, z, rfl, by omega, by go_num, by rw [HST.out]; exact HOW.out, HBk.out⟩, by simp [intOf]; omega⟩
      · rw [if_neg he] at HST
        have hx1 : (x == []) = false := by rw [beq_eq_false_iff_ne]; exact he
        have hx2 : ¬ (x = []) := he
        go_wp2_with fail
        refine (HCK.out _).mono ?_
        rintro e w4 ⟨rfl, hb4⟩
        have HOW4 := Lib.hid (HOW.out.below hb4)
        have HB4 := Lib.hid (HBk.out.trans (hb4.mono HSZr.out))
        have HS4 : Hid (w0.heap.size ≤ w4.heap.size) := Lib.hid HB4.out.size
        clear hb4 HOW HBk HSZr
        go_wp2_with (at_builtin; refine wpList_append_lies _ rfl _ _ _ rfl w0.heap.size 9 i0 (.string ⟨#[]⟩) 1 16 Tryz.underlying28 hi hz0 hz1 hz2 rfl (by decide) z O.length (scells O) (by rfl) (World.ownsRow.alloc HOW4.out _) ⟨w4.heap.size, 0, none⟩ 1 1 (scells [x]) (by rfl) rfl (World.news_of_block (heap_new_at _ _ _ rfl)) (by simp [scells, Value.oneCell']) (by decide) (by have := HLN.out; unfold maxLen; omega) (by have := HLN.out; omega) (by have := HS4.out; simp; omega) (w4.heap.size + 1) (by simp) ?_; intro g' cap' w5 hown5 hgrow5 hat5 hlt5)
        have hB5 : Below w0.heap.size w0 w5 := HB4.out.trans (((Out.of ((Below.refl _ w4).alloc (Nat.le_refl _) _)).trans (Out.grown hgrow5 (F := fun j => z.ownBlock = some j) (fun j e => e))).below (fun j hj => (HOW4.out.lt j hj).1) HS4.out)
        refine ⟨⟨k + 1, _, rfl, by omega, by go_num, ?_, hB5⟩, by simp [intOf]; omega⟩
        rw [HST.out]
        unfold Own
        rw [scells_append, List.length_append]
        exact hown5
    · have h1 : ¬ ((k : Int) < 16) := by omega
      obtain rfl : k = 16 := by omega
      rw [List.take_of_length_le (by omega)] at HOW
      clear hown hb
      go_wp2
      go_ret
      exact ⟨z, rfl, (own_lowS HOW.out (Nat.le_of_lt HSZ.out)), HB0.out.trans (HBk.out.mono (Nat.le_of_lt HSZ.out))⟩
end Go.Proofs.YtkfadijcjjdlcaaGreatDoor
