/- ArgTActs, TriMade, TriMade2, BookItems, CodeFew, TriLaw, MapFn, MapRange, TriWant, ShaLaid -/
import Derived.Test.YtikabacebmbacaaDoorPk02
import Derived.Deep.Slices
import Derived.DataReads
import Derived.OpenShut
import Derived.SizedLaws
import Derived.Lib.LaidU8
import Derived.Test.YtikabacebmbacaaDoorPk10
import Derived.BigQuiet
import Derived.Deep.RegionHeld3
import Derived.Test.YtikabacebmbacaaDoorPk09
import Derived.WalkSpells
import Derived.WalkLawsBesides
import Derived.Deep.QuietTactic
import Derived.Maps.OwnSet
import Derived.Maps.RangeRun
import Derived.Maps.Range
import Derived.Lib.ConvBytes
import Derived.Test.YtikabacebmbacaaDoorRows
import Derived.Test.YtikabacebmbacaaDoorPk05
import Derived.LaidMore
import Derived.Stop.Joined
import Derived.ProofKit
namespace Go.Proofs.YtikabacebmbacaaDoor
open Go.RowKit Go.ChangeShapes Go.WideShapes

/-- An act. -/
structure ActT where
  kind : Int
  key : List UInt8
  val : List UInt8
instance : Inhabited ActT := ⟨⟨0, [], []⟩⟩
def tactcl (s : ActT) : List Value := [.int .i64 s.kind, .string ⟨s.key.toArray⟩, .string ⟨s.val.toArray⟩]
/-- An act that fits. -/
structure OkTAct (s : ActT) : Prop where
  kind : (Lit.int .i64 s.kind).wf = true
set_option maxRecDepth 100000 in
theorem cellsTAct : Tryd.prog.cellsOf 32 = 3 := by kernel_rfl
def TActs (w : World) (v : Value) (L : List ActT) : Prop :=
  ∃ (A : Option Addr) (cap : Nat), v = .slice A L.length cap ∧ (0 < L.length → ∃ b o, A = some ⟨b, o, none⟩ ∧ b < w.heap.size ∧ ∀ i (h : i < L.length),
    w.cell? ⟨b, o + i * 3, none⟩ = some (.int .i64 L[i].kind) ∧ w.cell? ⟨b, o + i * 3 + 1, none⟩ = some (.string ⟨L[i].key.toArray⟩) ∧ w.cell? ⟨b, o + i * 3 + 2, none⟩ = some (.string ⟨L[i].val.toArray⟩))
theorem TActs.below {w w' : World} {v : Value} {L : List ActT} (h : TActs w v L) (hb : Below w.heap.size w w') : TActs w' v L := by
  obtain ⟨A, cap, rfl, hc⟩ := h
  refine ⟨A, cap, rfl, fun h0 => ?_⟩
  obtain ⟨b, o, rfl, hlt, hcell⟩ := hc h0
  refine ⟨b, o, rfl, Nat.lt_of_lt_of_le hlt hb.size, fun i hi => ?_⟩
  obtain ⟨h1, h2, h3⟩ := hcell i hi
  exact ⟨(hb.cell hlt).trans h1, (hb.cell hlt).trans h2, (hb.cell hlt).trans h3⟩
theorem TActs.form {w : World} {v : Value} {L : List ActT} (h : TActs w v L) : ∃ A cap, v = .slice A L.length cap := by
  obtain ⟨A, cap, rfl, _⟩ := h
  exact ⟨A, cap, rfl⟩
theorem TActs.at {w w' : World} {A : Option Addr} {n cap : Nat} {L : List ActT} (h : TActs w (.slice A n cap) L) (hb : Below w.heap.size w w') (k : Nat) (hk : k < L.length) :
    ∃ b o, A = some ⟨b, o, none⟩ ∧ b < w.heap.size ∧ w'.cell? ⟨b, o + k * 3, none⟩ = some (.int .i64 L[k].kind) ∧ w'.cell? ⟨b, o + k * 3 + 1, none⟩ = some (.string ⟨L[k].key.toArray⟩) ∧ w'.cell? ⟨b, o + k * 3 + 2, none⟩ = some (.string ⟨L[k].val.toArray⟩) := by
  obtain ⟨A0, cap0, hv0, hc0⟩ := h
  obtain ⟨rfl, rfl, rfl⟩ : A = A0 ∧ n = L.length ∧ cap = cap0 := by simpa using hv0
  obtain ⟨b, o, rfl, hlt, hcell⟩ := hc0 (by omega)
  obtain ⟨h1, h2, h3⟩ := hcell k hk
  exact ⟨b, o, rfl, hlt, (hb.cell hlt).trans h1, (hb.cell hlt).trans h2, (hb.cell hlt).trans h3⟩

set_option maxRecDepth 100000 in
theorem tact_cells {H : Type} {enc : TypeId × Value → H} {W : World} {fuel : Nat} {cs : List Value} {x : DataW H × List MemPlace} (ht : DataW.trod enc Tryd.prog W 0 (fun _ => true) true fuel 32 cs = some x) :
    ∃ s : ActT, cs = tactcl s ∧ OkTAct s := by
  obtain ⟨ys, n', _, hy, hcl, hyl, hfs⟩ := DataW.trod_struct Tryd.underlying32 ht
  rw [cellsTAct] at hcl
  match cs, hcl, ys, hyl with
  | [v0, v1, v2], _, [y0, y1, y2], _ =>
    have g0 := hfs 0 _ rfl
    have g1 := hfs 1 _ rfl
    have g2 := hfs 2 _ rfl
    simp [cellsI, cellsS] at g0 g1 g2
    obtain ⟨k, e0, _, k0⟩ := DataW.trod_int Tryd.underlying3 g0
    obtain ⟨s1, e1, _, _⟩ := DataW.trod_string Tryd.underlying9 g1
    obtain ⟨s2, e2, _, _⟩ := DataW.trod_string Tryd.underlying9 g2
    obtain rfl : v0 = .int .i64 k := by simpa using e0
    obtain rfl : v1 = .string s1 := by simpa using e1
    obtain rfl : v2 = .string s2 := by simpa using e2
    exact ⟨⟨k, s1.data.toList, s2.data.toList⟩, by simp [tactcl], ⟨k0⟩⟩
set_option maxRecDepth 100000 in
theorem tacts_open {H : Type} {enc : TypeId × Value → H} {W : World} {r : Reach} {b0 : Nat} {v : Value} {d : DataW H} {p : List MemPlace}
    (hv : Value.okWide Tryd.prog W r b0 22 v) (h : DataW.Trod enc Tryd.prog W 0 (fun _ => true) true 22 v d p)
    (hz : ∀ n ∈ d.weights Tryd.prog 22, n ≤ reachBytes) :
    ∃ L, TActs W v L ∧ L.length * 40 ≤ reachBytes ∧ ∀ s ∈ L, OkTAct s := by
  obtain ⟨a0, len, cap, rfl⟩ := okWide_slice Tryd.underlying22 hv
  obtain ⟨fuel, hf⟩ := h
  rcases Go.Deep.open_slice Tryd.underlying22 hf with ⟨hcs, _⟩ | ⟨x, l, c, m, n, D, Pl, hcs, _, hl, hm, hmm, hx, hel⟩
  · simp [Value.cells] at hcs
    obtain ⟨rfl, rfl, rfl⟩ := hcs
    exact ⟨[], ⟨none, 0, rfl, fun h => absurd h (by simp)⟩, by simp, fun n hn => by simp at hn⟩
  · simp [Value.cells] at hcs
    obtain ⟨rfl, rfl, rfl⟩ := hcs
    simp only [if_true] at hmm
    subst hmm
    rw [cellsTAct] at hel hx
    obtain ⟨hd, -⟩ := Prod.mk.inj hx
    have hlen40 : len * 40 ≤ reachBytes := by
      have h1 := hz ((((List.range len).map D).length + ((List.range (m - len)).map fun j => D (len + j)).length) * Tryd.prog.bytesOf 32) (by
        rw [hd]; simp [DataW.weights, Tryd.underlying22])
      rw [show Tryd.prog.bytesOf 32 = 40 from by kernel_rfl] at h1
      simp only [List.length_map, List.length_range] at h1
      omega
    have key : ∀ i, i < len → ∃ q : ActT, OkTAct q ∧ W.cell? ((x.add (i * 3)).add 0) = some (.int .i64 q.kind) ∧ W.cell? ((x.add (i * 3)).add 1) = some (.string ⟨q.key.toArray⟩) ∧ W.cell? ((x.add (i * 3)).add 2) = some (.string ⟨q.val.toArray⟩) := fun i hi => by
      obtain ⟨cs', hc, ht⟩ := hel i (by omega)
      obtain ⟨_, _, hat⟩ := World.cells?_some hc
      obtain ⟨q, rfl, hok⟩ := tact_cells ht
      refine ⟨q, hok, ?_, ?_, ?_⟩
      · simpa [tactcl] using hat 0 (by omega)
      · simpa [tactcl] using hat 1 (by omega)
      · simpa [tactcl] using hat 2 (by omega)
    obtain ⟨f, hf⟩ := Go.Deep.choose_lt (fun i hi => key i hi)
    have hlen : ((List.range len).map f).length = len := by simp
    refine ⟨(List.range len).map f, ⟨some x, _, by rw [hlen], fun h0 => ?_⟩, by rw [hlen]; exact hlen40, ?_⟩
    · rw [hlen] at h0
      obtain ⟨b, o, sp⟩ := x
      obtain ⟨_, q0, _⟩ := hf 0 h0
      have hcell' : W.cell? ⟨b, o, sp⟩ = some (.int .i64 (f 0).kind) := by simpa [Addr.add] using q0
      obtain rfl := cell_spot hcell'
      refine ⟨b, o, rfl, block_lt_of_cell hcell', fun i hi => ?_⟩
      rw [hlen] at hi
      obtain ⟨_, q0, q1, q2⟩ := hf i hi
      rw [Addr.add_mid, Addr.add_mid] at q0 q1 q2
      simpa using ⟨q0, q1, q2⟩
    · intro n hn
      obtain ⟨i, hi, rfl⟩ := List.mem_map.1 hn
      exact (hf i (List.mem_range.1 hi)).1
end Go.Proofs.YtikabacebmbacaaDoor
namespace Go.Proofs.YtikabacebmbacaaDoor
open Go.RowKit
open Sto (T St)
open Tri (Tr)

/-- One act on items. -/
def actS (S : St) (a : ActT) : St := if 1 < a.kind then (if (Tri.getC S a.key).2 = 0 then Tri.del S a.key else S) else (if Tri.putC S a.key a.val = 0 then Tri.put S a.key a.val else S)
def madeS (L : List ActT) : St := L.foldl actS []
theorem made_step {L : List ActT} {k : Nat} (hk : k < L.length) : madeS (L.take (k + 1)) = actS (madeS (L.take k)) L[k] := by
  unfold madeS
  rw [List.take_succ_eq_append_getElem hk, List.foldl_append]
  rfl
def longB (L : List ActT) (m : Nat) : Bool := decide (m < L.length) || L.any fun a => decide (100 < a.key.length) || decide (100 < a.val.length)
theorem long_no {L : List ActT} {m : Nat} (h : longB L m = false) : L.length ≤ m ∧ ∀ a ∈ L, a.key.length ≤ 100 ∧ a.val.length ≤ 100 := by
  simp only [longB, Bool.or_eq_false_iff, decide_eq_false_iff_not, List.any_eq_false, Bool.or_eq_true, decide_eq_true_eq, not_or] at h
  exact ⟨by omega, fun a ha => by have := h.2 a ha; omega⟩
set_option maxRecDepth 8000 in
set_option maxHeartbeats 1000000 in
theorem long_any (L : List ActT) (m : Nat) (v : Value) (w : World) (hv : TActs w v L) (hm : m ≤ 100) :
    Calls Tryd.prog 9 #[v, .int .i64 m] w fun e w' => e = .returned (.bool (longB L m)) ∧ Below w.heap.size w w' := by
  have HV := Lib.hid hv
  obtain ⟨A, cap, rfl⟩ := hv.form
  clear hv
  by_cases hlm : m < L.length
  · have h1 : (L.length : Int) > (m : Int) := by omega
    have hd : decide ((m : Int) < (L.length : Int)) = true := decide_eq_true (by omega)
    have hd2 : decide (m < L.length) = true := decide_eq_true hlm
    have e : longB L m = true := by simp [longB, hlm]
    rw [e]
    clear e hlm
    go_enter Tryd.func9, Tryd.ntmps9
    go_wp2
    go_ret
    exact ⟨rfl, Below.refl _ _⟩
  · have h1 : ¬ ((L.length : Int) > (m : Int)) := by omega
    have hd : decide ((m : Int) < (L.length : Int)) = false := decide_eq_false (by omega)
    have hd2 : decide (m < L.length) = false := decide_eq_false hlm
    have hlen : L.length ≤ 100 := by omega
    have HLB : Hid (∀ b, (L.any fun a => decide (100 < a.key.length) || decide (100 < a.val.length)) = b → longB L m = b) := Lib.hid (fun b hb => by rw [longB, hd2, hb]; rfl)
    obtain ⟨RB, hRB⟩ : ∃ RB, longB L m = RB := ⟨_, rfl⟩
    rw [hRB] at HLB ⊢
    clear hRB hlm
    go_enter Tryd.func9, Tryd.ntmps9
    go_wp2
    go_loopw [5] (fun i wr => ∃ k : Nat, k ≤ L.length ∧ i = .int .i64 k ∧ (∀ j (hj : j < k) (hj2 : j < L.length), L[j].key.length ≤ 100 ∧ L[j].val.length ≤ 100) ∧ Below w.heap.size w wr) (fun i _ => L.length - (intOf i).toNat)
    case atStart => exact ⟨0, Nat.zero_le _, rfl, fun j hj => absurd hj (Nat.not_lt_zero _), Below.refl _ _⟩
    case round =>
      obtain ⟨k, hk, rfl, hall, hb⟩ := hrel
      have HALL := Lib.hid hall
      have HB := Lib.hid hb
      by_cases hlt : k < L.length
      · have g1 : (k : Int) < (L.length : Int) := by omega
        have g0 : (0 : Int) ≤ (k : Int) := by omega
        obtain ⟨b, o, rfl, -, -, n1, n2⟩ := HV.out.at hb k hlt
        have HANY : Hid (100 < L[k].key.length ∨ 100 < L[k].val.length → (L.any fun a => decide (100 < a.key.length) || decide (100 < a.val.length)) = true) := Lib.hid (fun h => List.any_eq_true.2 ⟨L[k], List.getElem_mem hlt, by simpa using h⟩)
        have HKK : Hid (L[k].key.length ≤ 100 → L[k].val.length ≤ 100 → ∀ j (hj : j < k + 1) (hj2 : j < L.length), L[j].key.length ≤ 100 ∧ L[j].val.length ≤ 100) := Lib.hid (fun a1 a2 j hj hj2 => by
          by_cases e : j < k
          · exact HALL.out j e hj2
          · obtain rfl : j = k := by omega
            exact ⟨a1, a2⟩)
        obtain ⟨x, hx⟩ : ∃ x, L[k].key = x := ⟨_, rfl⟩
        obtain ⟨y, hy⟩ : ∃ y, L[k].val = y := ⟨_, rfl⟩
        rw [hx] at n1
        rw [hy] at n2
        rw [hx, hy] at HANY HKK
        clear hall hb hx hy
        by_cases hx1 : 100 < x.length
        · have q1 : (x.length : Int) > 100 := by omega
          have q2 : decide ((100 : Int) < (x.length : Int)) = true := decide_eq_true (by omega)
          have q3 : decide (100 < x.length) = true := decide_eq_true hx1
          have HE := Lib.hid (HLB.out _ (HANY.out (Or.inl hx1)))
          clear hx1
          go_wp2
          go_ret
          exact ⟨by rw [HE.out]; rfl, HB.out⟩
        · have q1 : ¬ ((x.length : Int) > 100) := by omega
          have q2 : decide ((100 : Int) < (x.length : Int)) = false := decide_eq_false (by omega)
          have q3 : decide (100 < x.length) = false := decide_eq_false hx1
          have HX1 := Lib.hid hx1
          clear hx1
          by_cases hy1 : 100 < y.length
          · have p1 : (y.length : Int) > 100 := by omega
            have p2 : decide ((100 : Int) < (y.length : Int)) = true := decide_eq_true (by omega)
            have p3 : decide (100 < y.length) = true := decide_eq_true hy1
            have HE := Lib.hid (HLB.out _ (HANY.out (Or.inr hy1)))
            clear hy1
            go_wp2
            go_ret
            exact ⟨by rw [HE.out]; rfl, HB.out⟩
          · have p1 : ¬ ((y.length : Int) > 100) := by omega
            have p2 : decide ((100 : Int) < (y.length : Int)) = false := decide_eq_false (by omega)
            have p3 : decide (100 < y.length) = false := decide_eq_false hy1
            have HKN := Lib.hid (HKK.out (by have := HX1.out; omega) (by omega))
            clear hy1
            go_wp2
            exact ⟨⟨k + 1, by omega, by go_num, HKN.out, HB.out⟩, by simp [intOf]; omega⟩
      · have g1 : ¬ ((k : Int) < (L.length : Int)) := by omega
        obtain rfl : k = L.length := by omega
        have HE : Hid (RB = false) := Lib.hid (HLB.out _ (by
          rw [List.any_eq_false]
          intro a ha
          obtain ⟨j, hj, rfl⟩ := List.mem_iff_getElem.1 ha
          have := HALL.out j hj hj
          simp; omega))
        clear hall hb
        go_wp2
        go_ret
        exact ⟨by rw [HE.out]; rfl, HB.out⟩
end Go.Proofs.YtikabacebmbacaaDoor
namespace Go.Proofs.YtikabacebmbacaaDoor
open Go.RowKit
open Sto (T St)
open Tri (Tr)

set_option maxRecDepth 100000 in
set_option maxHeartbeats 4000000 in
theorem made_any (L : List ActT) (v : Value) (w : World) (hv : TActs w v L) (hl : L.length ≤ 30) (hT : Tab w) :
    Calls Tryd.prog 18 #[v] w fun e w' => ∃ g, e = .returned (ptr g) ∧ TrAt w' g (madeS L) ∧ Below w.heap.size w w' := by
  have HV := Lib.hid hv
  have HT := Lib.hid hT
  have HNW := Lib.hid (tnew_any w)
  unfold ptr at HNW ⊢
  obtain ⟨A, cap, rfl⟩ := hv.form
  clear hv hT
  go_enter Tryd.func18, Tryd.ntmps18
  go_wp2_with fail
  refine HNW.out.mono ?_
  rintro e w1 ⟨g0, rfl, ht0, -, hb1⟩
  have HB1 := Lib.hid hb1
  have H0 := Lib.hid ht0
  clear ht0 hb1
  go_wp2
  go_loopw [3, 4] (fun av iv wr => ∃ (k : Nat) (gk : Nat), av = .pointer (some ⟨gk, 0, none⟩) ∧ k ≤ L.length ∧ iv = .int .i64 k ∧ TrAt wr gk (madeS (L.take k)) ∧ Below w.heap.size w wr) (fun _ i _ => L.length - (intOf i).toNat)
  case atStart => exact ⟨0, g0, rfl, Nat.zero_le _, rfl, H0.out, HB1.out⟩
  case round =>
    obtain ⟨k, gk, rfl, hk, rfl, htr, hb⟩ := hrel
    have HB := Lib.hid hb
    have HTR := Lib.hid htr
    by_cases hlt : k < L.length
    · have h1 : (k : Int) < (L.length : Int) := by omega
      have h0 : (0 : Int) ≤ (k : Int) := by omega
      have h30 : (k : Int) < 30 := by omega
      have HMS := Lib.hid (made_step hlt)
      have HC : Hid (∃ b o, A = some ⟨b, o, none⟩ ∧ ∀ w', Below w.heap.size w w' → w'.cell? ⟨b, o + k * 3, none⟩ = some (.int .i64 L[k].kind) ∧ w'.cell? ⟨b, o + k * 3 + 1, none⟩ = some (.string ⟨L[k].key.toArray⟩) ∧ w'.cell? ⟨b, o + k * 3 + 2, none⟩ = some (.string ⟨L[k].val.toArray⟩)) := Lib.hid (by
        obtain ⟨b, o, e, -, -, -, -⟩ := HV.out.at (Below.refl _ _) k hlt
        refine ⟨b, o, e, fun w' hb' => ?_⟩
        obtain ⟨b2, o2, e2, -, q⟩ := HV.out.at hb' k hlt
        cases e.symm.trans e2
        exact q)
      obtain ⟨b, o, rfl, hcell⟩ := HC.out
      obtain ⟨S, hS⟩ : ∃ S, madeS (L.take k) = S := ⟨_, rfl⟩
      rw [hS] at HTR HMS
      obtain ⟨⟨kd, x, y⟩, ha⟩ : ∃ a, L[k] = a := ⟨_, rfl⟩
      rw [ha] at hcell HMS
      dsimp only at hcell
      have HCE := Lib.hid hcell
      have HPU : Hid (∀ w', Below wr.heap.size wr w' → Calls Tryd.prog 11 #[ptr gk, .string ⟨x.toArray⟩, .string ⟨y.toArray⟩] w' fun e w'' => ∃ z, e = .returned (.tuple #[z, .int .i64 (Tri.putC S x y)]) ∧ (Tri.putC S x y = 0 → ∃ g', z = ptr g' ∧ TrAt w'' g' (Tri.put S x y)) ∧ (Tri.putC S x y ≠ 0 → z = nilp) ∧ Below wr.heap.size wr w'') := Lib.hid (fun w' hb' =>
        (tput_any x y w' (HTR.out.below hb') (HT.out.below (bchain HB.out hb'))).mono fun e w'' ⟨z, q1, q2, q3, q4⟩ => ⟨z, q1, q2, q3, bchain hb' q4⟩)
      have HDE : Hid (∀ w', Below wr.heap.size wr w' → Calls Tryd.prog 13 #[ptr gk, .string ⟨x.toArray⟩] w' fun e w'' => ∃ z, e = .returned (.tuple #[z, .int .i64 (Tri.getC S x).2]) ∧ ((Tri.getC S x).2 = 0 → ∃ g', z = ptr g' ∧ TrAt w'' g' (Tri.del S x)) ∧ ((Tri.getC S x).2 ≠ 0 → z = nilp) ∧ Below wr.heap.size wr w'') := Lib.hid (fun w' hb' =>
        (tdel_any x w' (HTR.out.below hb') (HT.out.below (bchain HB.out hb'))).mono fun e w'' ⟨z, q1, q2, q3, q4⟩ => ⟨z, q1, q2, q3, bchain hb' q4⟩)
      have HCW : Hid (∀ w', Below wr.heap.size wr w' → w'.cell? ⟨b, o + k * 3, none⟩ = some (.int .i64 kd) ∧ w'.cell? ⟨b, o + k * 3 + 1, none⟩ = some (.string ⟨x.toArray⟩) ∧ w'.cell? ⟨b, o + k * 3 + 2, none⟩ = some (.string ⟨y.toArray⟩)) := Lib.hid (fun w' hb' => HCE.out w' (bchain HB.out hb'))
      unfold ptr at HPU HDE
      have BD : Below wr.heap.size wr wr.drew := (Below.refl _ _).drew
      obtain ⟨c0, c1, c2⟩ := HCW.out _ BD
      have HBW : Hid (∀ w', Below wr.heap.size wr w' → Below w.heap.size w w') := Lib.hid (fun w' hb' => bchain HB.out hb')
      obtain ⟨cp, hcp⟩ : ∃ cp, Tri.putC S x y = cp := ⟨_, rfl⟩
      obtain ⟨cd, hcd⟩ : ∃ cd, (Tri.getC S x).2 = cd := ⟨_, rfl⟩
      rw [hcp] at HPU
      rw [hcd] at HDE
      have HCP := Lib.hid hcp
      have HCD := Lib.hid hcd
      have HHB : Hid (o + k * 3 + 0 = o + k * 3) := Lib.hid rfl
      clear htr hb hcell hS ha hcp hcd HC
      by_cases hkd : 1 < kd
      · have k1 : kd > 1 := hkd
        have k2 : decide ((1 : Int) < kd) = true := decide_eq_true hkd
        have HKD := Lib.hid hkd
        have HAS : Hid (actS S ⟨kd, x, y⟩ = if cd = 0 then Tri.del S x else S) := Lib.hid (by rw [← HCD.out]; exact if_pos HKD.out)
        clear hkd
        go_upto_region 5 with fail
        go_region_held3 (fun w' => w'.cell? ⟨b, o + k * 3 + 1, none⟩ = some (.string ⟨x.toArray⟩) ∧ w'.cell? ⟨b, o + k * 3 + 2, none⟩ = some (.string ⟨y.toArray⟩))
          ((first | (with_reducible exact ⟨c1, c2⟩) | (refine (HCW.out _ ?_).2; with_reducible assumption)))
          ((go_at_call 11; refine (HPU.out _ ?_).mono ?_; (with_reducible exact BD); rintro e w6 ⟨z1, rfl, -, -, hb6⟩))
        all_goals
          obtain ⟨d0, d1, d2⟩ := HCW.out _ hb6
          have HB6 := Lib.hid hb6
          clear c0 c1 c2 hb6
          go_wp2_with fail
          refine (HDE.out _ HB6.out).mono ?_
          rintro e w7 ⟨z2, rfl, hz1, hz0, hb7⟩
          have HB7 := Lib.hid hb7
          by_cases hc : cd = 0
          · obtain ⟨g', rfl, ht⟩ := hz1 hc
            subst hc
            have HTN := Lib.hid ht
            clear hz1 hz0 hb7 ht
            go_wp2
            exact ⟨⟨k + 1, g', rfl, by omega, by go_num, by rw [HMS.out, HAS.out]; simpa using HTN.out, HBW.out _ HB7.out⟩, by simp [intOf]; omega⟩
          · have e0 : ((cd : Int) == 0) = false := by rw [beq_eq_false_iff_ne]; omega
            have e1 : z2 = .pointer none := hz0 hc
            subst e1
            have HC0 := Lib.hid hc
            clear hz1 hz0 hb7 hc
            go_wp2
            exact ⟨⟨k + 1, gk, rfl, by omega, by go_num, by rw [HMS.out, HAS.out, if_neg HC0.out]; exact HTR.out.below HB7.out, HBW.out _ HB7.out⟩, by simp [intOf]; omega⟩
      · have k1 : ¬ (kd > 1) := hkd
        have k2 : decide ((1 : Int) < kd) = false := decide_eq_false hkd
        have HKD := Lib.hid hkd
        have HAS : Hid (actS S ⟨kd, x, y⟩ = if cp = 0 then Tri.put S x y else S) := Lib.hid (by rw [← HCP.out]; exact if_neg HKD.out)
        clear hkd
        go_upto_region 5 with fail
        go_region_held3 (fun w' => w'.cell? ⟨b, o + k * 3 + 1, none⟩ = some (.string ⟨x.toArray⟩) ∧ w'.cell? ⟨b, o + k * 3 + 2, none⟩ = some (.string ⟨y.toArray⟩))
          ((first | (with_reducible exact ⟨c1, c2⟩) | (refine (HCW.out _ ?_).2; with_reducible assumption)))
          ((go_at_call 11; refine (HPU.out _ ?_).mono ?_; (with_reducible exact BD); rintro e w6 ⟨z1, rfl, hz1, hz0, hb6⟩))
        all_goals
          obtain ⟨d0, d1, d2⟩ := HCW.out _ hb6
          have HB6 := Lib.hid hb6
          clear c0 c1 c2
          by_cases hc : cp = 0
          · obtain ⟨g', rfl, ht⟩ := hz1 hc
            subst hc
            have HTN := Lib.hid ht
            clear hz1 hz0 hb6 ht
            go_wp2
            exact ⟨⟨k + 1, g', rfl, by omega, by go_num, by rw [HMS.out, HAS.out]; simpa using HTN.out, HBW.out _ HB6.out⟩, by simp [intOf]; omega⟩
          · have e0 : ((cp : Int) == 0) = false := by rw [beq_eq_false_iff_ne]; omega
            have e1 : z1 = .pointer none := hz0 hc
            subst e1
            have HC0 := Lib.hid hc
            clear hz1 hz0 hb6 hc
            go_wp2
            exact ⟨⟨k + 1, gk, rfl, by omega, by go_num, by rw [HMS.out, HAS.out, if_neg HC0.out]; exact HTR.out.below HB6.out, HBW.out _ HB6.out⟩, by simp [intOf]; omega⟩
    · obtain rfl : k = L.length := by omega
      have h1 : ¬ ((L.length : Int) < (L.length : Int)) := by omega
      rw [List.take_length] at HTR
      clear htr hb
      go_wp2
      go_ret
      exact ⟨gk, rfl, HTR.out, HB.out⟩
end Go.Proofs.YtikabacebmbacaaDoor
namespace Go.Proofs.YtikabacebmbacaaDoor
open Go.RowKit
open Sto (T St)

end Go.Proofs.YtikabacebmbacaaDoor
namespace Go.Proofs.YtikabacebmbacaaDoor
open Go.RowKit

def Code.few (L : List (List UInt8)) (n e : Nat) : Bool := decide (L.length ≤ n) && L.all fun s => decide (s.length ≤ e)
end Go.Proofs.YtikabacebmbacaaDoor
namespace Go.Proofs.YtikabacebmbacaaDoor
open Go.RowKit
open Sto (T St)
open Tri (Tr)

theorem sitems_any {g : Nat} {S : St} (w : World) (h : TrAt w g S) :
    Calls Tryd.prog 16 #[ptr g] w (ItemsPost w S) := by
  obtain ⟨top, t, h1, h2, h3⟩ := h
  exact items_any w h1 (h3.sealed h2) h3.tree
theorem del_le (S : St) (k : T) : (Tri.del S k).length ≤ S.length := by
  induction S with
  | nil => simp [Tri.del]
  | cons b r ih =>
    rw [Tri.del]
    split
    · simp
    · simp only [List.length_cons]; omega
theorem actS_len (S : St) (a : ActT) : (actS S a).length ≤ S.length + 1 := by
  unfold actS
  have := del_le S a.key
  split
  · split <;> omega
  · split
    · rw [Tri.put_len]; split <;> omega
    · omega
theorem fold_len (L : List ActT) (S : St) : (L.foldl actS S).length ≤ S.length + L.length := by
  induction L generalizing S with
  | nil => simp
  | cons a L ih =>
    rw [List.foldl_cons, List.length_cons]
    have := ih (actS S a)
    have := actS_len S a
    omega
theorem made_len (L : List ActT) : (madeS L).length ≤ L.length := by
  have := fold_len L []
  simpa [madeS] using this
/-- What Put refuses where there is room. -/
def fitC (k v : T) : Nat := if Tri.keyed k then (if 1 ≤ v.length ∧ v.length ≤ 32 then 0 else 2) else 1
theorem putC_fit {S : St} (h : S.length < 1024) (k v : T) : Tri.putC S k v = fitC k v := by
  unfold Tri.putC fitC
  by_cases hk : Tri.keyed k = true
  · rw [if_pos hk, if_pos hk]
    by_cases hv : 1 ≤ v.length ∧ v.length ≤ 32
    · rw [if_pos hv, if_pos ⟨hv.1, hv.2, Or.inr h⟩]
    · rw [if_neg hv, if_neg (fun e => hv ⟨e.1, e.2.1⟩)]
  · rw [if_neg hk, if_neg hk]
end Go.Proofs.YtikabacebmbacaaDoor
namespace Go.Proofs.YtikabacebmbacaaDoor
open Go.RowKit Go.MapKept
open Go.ChangeMaps (setBlock heap_setBlock_same heap_setBlock_other)
open Go.Maps (Keyed)

/-- How keys and elements lie in the map: the key's value and its law, the element's value. -/
structure MapLaw (P : Program) (k : TypeId) (κ α : Type) where
  enc : κ → Value
  val : α → Value
  ok : κ → Prop
  keyed : Keyed P k
  key : ∀ s, ok s → ∃ l, keyOf P k (enc s) = some l
  inj : ∀ a b, enc a = enc b → a = b

variable {P : Program} {k t e : TypeId} {κ α : Type}

/-- f, but o at s. -/
def updF [DecidableEq κ] (f : κ → Option α) (s : κ) (o : Option α) : κ → Option α := fun x => if x = s then o else f x
theorem updF_same [DecidableEq κ] (f : κ → Option α) (s : κ) (o : Option α) : updF f s o s = o := if_pos rfl
theorem updF_other [DecidableEq κ] (f : κ → Option α) (s x : κ) (o : Option α) (h : x ≠ s) : updF f s o x = f x := if_neg h
/-- Block b is a map that has f's elements at f's keys, and no other. -/
def FnAt (M : MapLaw P k κ α) (w : World) (b : Nat) (f : κ → Option α) : Prop :=
  ∃ es clock, w.heap[b]? = some (.map es clock) ∧ (∀ x ∈ es.toList, ∃ s a, x.key = M.enc s ∧ x.val = M.val a ∧ M.ok s ∧ f s = some a) ∧ (∀ s a, f s = some a → ∃ x ∈ es.toList, x.key = M.enc s) ∧ Stamped es clock

theorem FnAt.lt {M : MapLaw P k κ α} {w : World} {b : Nat} {f : κ → Option α} (h : FnAt M w b f) : b < w.heap.size := by
  obtain ⟨_, _, h1, _⟩ := h; exact lt_of_heap h1
theorem FnAt.made (M : MapLaw P k κ α) (w : World) (b : Nat) (h : b = w.heap.size) : FnAt M (w.alloc (.map #[] 0)) b (fun _ => none) :=
  ⟨#[], 0, heap_new_at w _ _ h, fun x hx => by simp at hx, fun s a h => by simp at h, stamped_empty 0⟩
theorem FnAt.out {M : MapLaw P k κ α} {F : Nat → Prop} {w w' : World} {b : Nat} {f : κ → Option α} (h : FnAt M w b f) (ho : Out F w w') (hF : ¬ F b) : FnAt M w' b f := by
  obtain ⟨es, clock, h1, h2⟩ := h
  exact ⟨es, clock, ho.heap h1 hF, h2⟩
theorem FnAt.below {M : MapLaw P k κ α} {w w' : World} {b : Nat} {f : κ → Option α} (h : FnAt M w b f) (ho : Below w.heap.size w w') : FnAt M w' b f := h.out (F := fun _ => False) (Out.of ho) id
theorem FnAt.drew {M : MapLaw P k κ α} {w : World} {b : Nat} {f : κ → Option α} (h : FnAt M w b f) : FnAt M w.drew b f := h
theorem FnAt.congr {M : MapLaw P k κ α} {w : World} {b : Nat} {f g : κ → Option α} (h : FnAt M w b f) (e : ∀ s, f s = g s) : FnAt M w b g := by
  obtain rfl : f = g := funext e
  exact h

theorem FnAt.keys {M : MapLaw P k κ α} {es : Array MapEntry} {f : κ → Option α} (h2 : ∀ x ∈ es.toList, ∃ s a, x.key = M.enc s ∧ x.val = M.val a ∧ M.ok s ∧ f s = some a) : ∀ x ∈ es.toList, ∃ l, keyOf P k x.key = some l := by
  intro x hx
  obtain ⟨s, a, e1, _, ho, _⟩ := h2 x hx
  rw [e1]; exact M.key s ho

theorem FnAt.look {M : MapLaw P k κ α} {w : World} {b : Nat} {f : κ → Option α} (h : FnAt M w b f) (ht : P.underlying t = some (.map k e)) {s : κ} (hs : M.ok s) (c : Bool) {z : Value} (hz : (zeroValue e).run P w = .ok z w) :
    (Instr.lookup t (.map (some b)) (M.enc s) c).run P w = .ok (if c then .tuple #[((f s).map M.val).getD z, .bool (f s).isSome] else ((f s).map M.val).getD z) w := by
  obtain ⟨es, clock, hb, h2, h3, h4⟩ := h
  obtain ⟨kl, hkey⟩ := M.key s hs
  rcases M.keyed.find w hkey es.toList (FnAt.keys h2) with ⟨h5, h6⟩ | ⟨j, e0, h5, h6, h7⟩
  · have hn : f s = none := by
      cases hf : f s with
      | none => rfl
      | some a =>
        obtain ⟨x, hx, hxe⟩ := h3 s a hf
        exact absurd hxe (h6 x hx)
    rw [hn]
    simp [Instr.lookup, run_underlying ht, MapKept.run_getObj_map hb, M.keyed.check w _ hkey, h5, hz, Result.andThen]
  · obtain ⟨s', a, e1, e2, ho, hf⟩ := h2 e0 (List.mem_of_getElem? h6)
    obtain rfl : s' = s := M.inj _ _ (e1.symm.trans h7)
    rw [hf]
    simp [Instr.lookup, run_underlying ht, MapKept.run_getObj_map hb, M.keyed.check w _ hkey, h5, e2, Result.andThen]

theorem FnAt.put [DecidableEq κ] {M : MapLaw P k κ α} {w : World} {b : Nat} {f : κ → Option α} (h : FnAt M w b f) (ht : P.underlying t = some (.map k e)) {s : κ} (hs : M.ok s) (a : α) :
    ∃ w', (Instr.mapUpdate t (.map (some b)) (M.enc s) (M.val a)).run P w = .ok () w' ∧ FnAt M w' b (updF f s (some a)) ∧ Out (fun i => i = b) w w' ∧ w'.heap.size = w.heap.size := by
  obtain ⟨es, clock, hb, h2, h3, h4⟩ := h
  obtain ⟨kl, hkey⟩ := M.key s hs
  rcases M.keyed.find w hkey es.toList (FnAt.keys h2) with ⟨h5, h6⟩ | ⟨j, e0, h5, h6, h7⟩
  · refine ⟨setBlock w b (.map (es.push ⟨M.enc s, M.val a, clock⟩) (clock + 1)), ?_, ⟨_, _, heap_setBlock_same hb _, ?_, ?_, ?_⟩, ⟨rfl, rfl, rfl, by simp [setBlock], fun i _ hi => heap_setBlock_other hb _ hi⟩, by simp [setBlock]⟩
    · simp [Instr.mapUpdate, run_underlying ht, MapKept.run_getObj_map hb, M.keyed.check w false hkey, h5, MapKept.run_setObj_map _ hb, Result.andThen, setBlock]
    · intro x hx
      simp only [Array.toList_push, List.mem_append, List.mem_singleton] at hx
      rcases hx with hx | rfl
      · obtain ⟨s', a', e1, e2, ho, hf⟩ := h2 x hx
        have hne : s' ≠ s := fun e => h6 x hx (by rw [e1, e])
        exact ⟨s', a', e1, e2, ho, by rw [updF_other _ _ _ _ hne]; exact hf⟩
      · exact ⟨s, a, rfl, rfl, hs, updF_same _ _ _⟩
    · intro s' a' hf
      simp only [Array.toList_push, List.mem_append, List.mem_singleton]
      by_cases hne : s' = s
      · exact ⟨_, Or.inr rfl, by rw [hne]⟩
      · rw [updF_other _ _ _ _ hne] at hf
        obtain ⟨x, hx, hxe⟩ := h3 s' a' hf
        exact ⟨x, Or.inl hx, hxe⟩
    · exact stamped_push h4 h6
  · have hjl : j < es.toList.length := (List.getElem?_eq_some_iff.1 h6).1
    have hjs : j < es.size := by simpa using hjl
    have he0 : es.toList[j] = e0 := (List.getElem?_eq_some_iff.1 h6).2
    have hj' : es[j]? = some e0 := by rw [← Array.getElem?_toList]; exact h6
    have hml : (es.modify j fun x => { x with key := M.enc s, val := M.val a }).toList = es.toList.set j { e0 with key := M.enc s, val := M.val a } := by
      apply List.ext_getElem?
      intro i
      rw [Array.getElem?_toList, Array.getElem?_modify, List.getElem?_set]
      by_cases hi : j = i
      · subst hi
        have hb0 : es[j].born = e0.born := by rw [← he0]; simp
        simp [hjs, hb0]
      · simp [hi]
    obtain ⟨s0, a0, q1, q2, q3, q4⟩ := h2 e0 (List.mem_of_getElem? h6)
    obtain rfl : s0 = s := M.inj _ _ (q1.symm.trans h7)
    have hkeys : (es.toList.set j { e0 with key := M.enc s0, val := M.val a }).map (·.key) = es.toList.map (·.key) := by
      rw [List.map_set]
      apply List.ext_getElem?
      intro i
      rw [List.getElem?_set]
      by_cases hi : j = i
      · subst hi
        have hk0 : M.enc s0 = es[j].key := by rw [← h7, ← he0]; simp
        simp [hjs, hk0]
      · simp [hi]
    refine ⟨setBlock w b (.map (es.modify j fun x => { x with key := M.enc s0, val := M.val a }) clock), ?_, ⟨_, _, heap_setBlock_same hb _, ?_, ?_, ?_⟩, ⟨rfl, rfl, rfl, by simp [setBlock], fun i _ hi => heap_setBlock_other hb _ hi⟩, by simp [setBlock]⟩
    · simp [Instr.mapUpdate, run_underlying ht, MapKept.run_getObj_map hb, M.keyed.check w false hkey, h5, hj', h7, M.keyed.stays w hkey, MapKept.run_setObj_map _ hb, Result.andThen, setBlock]
    · rw [hml]
      intro x hx
      rcases List.mem_or_eq_of_mem_set hx with hx' | rfl
      · obtain ⟨s', a', e1, e2, ho, hf⟩ := h2 x hx'
        by_cases hne : s' = s0
        · subst hne
          obtain ⟨i, hi, rfl⟩ := List.mem_iff_getElem.1 hx
          have hil : i < es.toList.length := by simpa using hi
          have hkk := congrArg (fun l => l[i]?) hkeys
          simp only [List.getElem?_map] at hkk
          rw [List.getElem?_eq_getElem hi, List.getElem?_eq_getElem hil] at hkk
          have hkk' : (es.toList[i]).key = M.enc s' := by simpa [e1] using hkk.symm
          have hij : i = j := by
            have hn := List.pairwise_iff_getElem.1 h4.2.2
            have lm : (es.toList.map (·.key)).length = es.toList.length := by simp
            rcases Nat.lt_trichotomy i j with hlt | rfl | hlt
            · have := hn i j (by omega) (by omega) hlt
              rw [List.getElem_map, List.getElem_map, hkk', he0, h7] at this
              exact absurd rfl this
            · rfl
            · have := hn j i (by omega) (by omega) hlt
              rw [List.getElem_map, List.getElem_map, hkk', he0, h7] at this
              exact absurd rfl this
          subst hij
          refine ⟨s', a, e1, ?_, ho, updF_same _ _ _⟩
          simp
        · exact ⟨s', a', e1, e2, ho, by rw [updF_other _ _ _ _ hne]; exact hf⟩
      · exact ⟨s0, a, rfl, rfl, hs, updF_same _ _ _⟩
    · rw [hml]
      intro s' a' hf
      by_cases hne : s' = s0
      · subst hne
        exact ⟨_, List.mem_iff_getElem.2 ⟨j, by simpa using hjs, List.getElem_set_self _⟩, rfl⟩
      · rw [updF_other _ _ _ _ hne] at hf
        obtain ⟨x, hx, hxe⟩ := h3 s' a' hf
        obtain ⟨i, hi, rfl⟩ := List.mem_iff_getElem.1 hx
        have hij : j ≠ i := by
          rintro rfl
          rw [he0, h7] at hxe
          exact hne (M.inj _ _ hxe.symm)
        exact ⟨_, List.mem_iff_getElem.2 ⟨i, by simpa using hi, rfl⟩, by rw [List.getElem_set_ne hij]; exact hxe⟩
    · exact stamped_modify h4 j _ (fun e _ => rfl) (fun e _ he => by rw [hj'] at he; cases he; exact h7.symm)

theorem FnAt.drop [DecidableEq κ] {M : MapLaw P k κ α} {w : World} {b : Nat} {f : κ → Option α} (h : FnAt M w b f) (ht : P.underlying t = some (.map k e)) {s : κ} (hs : M.ok s) :
    ∃ w', (∀ ty, (Builtin.delete_ #[t, k] ty #[.map (some b), M.enc s]).run P w = .ok (.tuple #[]) w') ∧ FnAt M w' b (updF f s none) ∧ Out (fun i => i = b) w w' ∧ w'.heap.size = w.heap.size := by
  obtain ⟨es, clock, hb, h2, h3, h4⟩ := h
  obtain ⟨kl, hkey⟩ := M.key s hs
  rcases M.keyed.find w hkey es.toList (FnAt.keys h2) with ⟨h5, h6⟩ | ⟨j, e0, h5, h6, h7⟩
  · refine ⟨setBlock w b (.map es clock), ?_, ⟨_, _, heap_setBlock_same hb _, ?_, ?_, h4⟩, ⟨rfl, rfl, rfl, by simp [setBlock], fun i _ hi => heap_setBlock_other hb _ hi⟩, by simp [setBlock]⟩
    · intro ty
      simp [Builtin.delete_, run_underlying ht, MapKept.run_getObj_map hb, M.keyed.check w _ hkey, h5, MapKept.run_setObj_map _ hb, Result.andThen, setBlock]
    · intro x hx
      obtain ⟨s', a', e1, e2, ho, hf⟩ := h2 x hx
      have hne : s' ≠ s := fun e => h6 x hx (by rw [e1, e])
      exact ⟨s', a', e1, e2, ho, by rw [updF_other _ _ _ _ hne]; exact hf⟩
    · intro s' a' hf
      by_cases hne : s' = s
      · rw [hne, updF_same] at hf; cases hf
      · rw [updF_other _ _ _ _ hne] at hf; exact h3 s' a' hf
  · have hjl : j < es.toList.length := (List.getElem?_eq_some_iff.1 h6).1
    have hjs : j < es.size := by simpa using hjl
    have he0 : es.toList[j] = e0 := (List.getElem?_eq_some_iff.1 h6).2
    have hsub : (es.eraseIdxIfInBounds j).toList = es.toList.eraseIdx j := by
      unfold Array.eraseIdxIfInBounds
      rw [dif_pos hjs]
      simp
    have hn := List.pairwise_iff_getElem.1 h4.2.2
    have lm : (es.toList.map (·.key)).length = es.toList.length := by simp
    have hother : ∀ i (hi : i < es.toList.length), i ≠ j → (es.toList[i]).key ≠ M.enc s := by
      intro i hi hij e
      rcases Nat.lt_or_gt_of_ne hij with hlt | hlt
      · have := hn i j (by omega) (by omega) hlt
        rw [List.getElem_map, List.getElem_map, e, he0, h7] at this
        exact this rfl
      · have := hn j i (by omega) (by omega) hlt
        rw [List.getElem_map, List.getElem_map, e, he0, h7] at this
        exact this rfl
    refine ⟨setBlock w b (.map (es.eraseIdxIfInBounds j) clock), ?_, ⟨_, _, heap_setBlock_same hb _, ?_, ?_, ?_⟩, ⟨rfl, rfl, rfl, by simp [setBlock], fun i _ hi => heap_setBlock_other hb _ hi⟩, by simp [setBlock]⟩
    · intro ty
      simp [Builtin.delete_, run_underlying ht, MapKept.run_getObj_map hb, M.keyed.check w _ hkey, h5, MapKept.run_setObj_map _ hb, Result.andThen, setBlock]
    · rw [hsub]
      intro x hx
      obtain ⟨i, hij, hi⟩ := List.mem_eraseIdx_iff_getElem?.1 hx
      obtain ⟨hil, hie⟩ := List.getElem?_eq_some_iff.1 hi
      obtain ⟨s', a', e1, e2, ho, hf⟩ := h2 x (List.mem_of_getElem? hi)
      have hne : s' ≠ s := fun e => hother i hil hij (by rw [hie, e1, e])
      exact ⟨s', a', e1, e2, ho, by rw [updF_other _ _ _ _ hne]; exact hf⟩
    · rw [hsub]
      intro s' a' hf
      by_cases hne : s' = s
      · rw [hne, updF_same] at hf; cases hf
      · rw [updF_other _ _ _ _ hne] at hf
        obtain ⟨x, hx, hxe⟩ := h3 s' a' hf
        obtain ⟨i, hi, rfl⟩ := List.mem_iff_getElem.1 hx
        have hij : i ≠ j := by
          rintro rfl
          rw [he0, h7] at hxe
          exact hne (M.inj _ _ hxe.symm)
        exact ⟨_, List.mem_eraseIdx_iff_getElem?.2 ⟨i, hij, List.getElem?_eq_getElem hi⟩, hxe⟩
    · exact stamped_erase h4 j

/-- 'delete(m, k)', by an equation of the run. -/
theorem wpList_delete_run {w w' : World} {ops : Array Oper} {rest : List Oper} {o : Oper} {a : Act} {Q : Exit → Act → World → Prop} (hg : o.guard = none) (m x : Operand) (t k : TypeId) (hop : o.op = Op.call { callee := Callee.builtin Builtin.delete, args := #[m, x], argTypes := #[t, k] })
    (mv xv : Value) (hm : a.eval m = mv) (hx : a.eval x = xv) (hrun : ∀ ty, (Builtin.delete_ #[t, k] ty #[mv, xv]).run P w = .ok (.tuple #[]) w') (hK : wpList P ops Q rest (a.put o.dst (.tuple #[])) w') :
    wpList P ops Q (o :: rest) a w := by
  refine wpList_plain hg fun K' hK' => ?_
  unfold Oper.wp
  simp [execOp, hop, resolve, invoke, builtin, hm, hx, hrun, Result.andThen]
  exact hK' _ _ hK

end Go.Proofs.YtikabacebmbacaaDoor
namespace Go.Proofs.YtikabacebmbacaaDoor
open Go.RowKit Go.MapKept
open Go.ChangeMaps (setBlock heap_setBlock_same heap_setBlock_other)
open Go.Maps (Keyed)
variable {P : Program} {k t e : TypeId} {κ α : Type}

/-- The map in block b is ranged over by the iterator in block r; the keys in 'done' have come; cnt are still to come. -/
def FnRange (M : MapLaw P k κ α) (w : World) (b r : Nat) (f : κ → Option α) (done : List κ) (cnt : Nat) : Prop :=
  ∃ es clock since seen c0, w.heap[b]? = some (.map es clock) ∧ (∀ x ∈ es.toList, ∃ s a, x.key = M.enc s ∧ x.val = M.val a ∧ M.ok s ∧ f s = some a) ∧ (∀ s a, f s = some a → ∃ x ∈ es.toList, x.key = M.enc s) ∧ Stamped es clock ∧
    w.heap[r]? = some (.mapIter (some b) since seen c0) ∧ (∀ x ∈ es.toList, x.born < since) ∧ since ≤ c0 ∧ since ≤ clock ∧ (leftOf es seen).size = cnt ∧ done.Nodup ∧ (∀ x ∈ es.toList, seen.contains x.born = true ↔ ∃ s ∈ done, x.key = M.enc s) ∧ ∀ s ∈ done, f s ≠ none

theorem FnRange.map {M : MapLaw P k κ α} {w : World} {b r : Nat} {f : κ → Option α} {done : List κ} {cnt : Nat} (h : FnRange M w b r f done cnt) : FnAt M w b f := by
  obtain ⟨es, clock, _, _, _, hb, h2, h3, h4, _⟩ := h
  exact ⟨es, clock, hb, h2, h3, h4⟩
theorem FnRange.lt {M : MapLaw P k κ α} {w : World} {b r : Nat} {f : κ → Option α} {done : List κ} {cnt : Nat} (h : FnRange M w b r f done cnt) : r < w.heap.size := by
  obtain ⟨es, clock, since, seen, c0, hb, _, _, _, hr, _⟩ := h
  exact lt_of_heap hr
theorem FnRange.ne {M : MapLaw P k κ α} {w : World} {b r : Nat} {f : κ → Option α} {done : List κ} {cnt : Nat} (h : FnRange M w b r f done cnt) : r ≠ b := by
  obtain ⟨es, clock, since, seen, c0, hb, _, _, _, hr, _⟩ := h
  rintro rfl
  rw [hb] at hr; cases hr
theorem FnRange.out {M : MapLaw P k κ α} {F : Nat → Prop} {w w' : World} {b r : Nat} {f : κ → Option α} {done : List κ} {cnt : Nat} (h : FnRange M w b r f done cnt) (ho : Out F w w') (hb : ¬ F b) (hr : ¬ F r) : FnRange M w' b r f done cnt := by
  obtain ⟨es, clock, since, seen, c0, h1, h2, h3, h4, h5, h6⟩ := h
  exact ⟨es, clock, since, seen, c0, ho.heap h1 hb, h2, h3, h4, ho.heap h5 hr, h6⟩
theorem FnRange.below {M : MapLaw P k κ α} {w w' : World} {b r : Nat} {f : κ → Option α} {done : List κ} {cnt : Nat} (h : FnRange M w b r f done cnt) (ho : Below w.heap.size w w') : FnRange M w' b r f done cnt := h.out (F := fun _ => False) (Out.of ho) id id

theorem FnAt.range {M : MapLaw P k κ α} {w : World} {b : Nat} {f : κ → Option α} (h : FnAt M w b f) (ht : P.underlying t = some (.map k e)) :
    ∃ w' cnt, (Instr.range t (.map (some b))).run P w = .ok (.pointer (some ⟨w.heap.size, 0, none⟩)) w' ∧ FnRange M w' b w.heap.size f [] cnt ∧ Below w.heap.size w w' ∧ w'.heap.size = w.heap.size + 1 := by
  obtain ⟨es, clock, hb, h2, h3, h4⟩ := h
  refine ⟨_, _, run_range_map w t k e b es clock ht hb, ⟨es, clock, clock, #[], clock, heap_old_at _ hb, h2, h3, h4, heap_new_at w _ _ rfl, h4.1, Nat.le_refl _, Nat.le_refl _, rfl, List.nodup_nil, fun x _ => by simp, fun s hs => by cases hs⟩, (Below.refl _ w).alloc (Nat.le_refl _) _, by simp⟩

theorem FnRange.next {M : MapLaw P k κ α} {w : World} {b r : Nat} {f : κ → Option α} {done : List κ} {cnt : Nat} (h : FnRange M w b r f done cnt) (ty : TypeId) :
    ((∀ s, f s ≠ none → s ∈ done) ∧ (Instr.next (.pointer (some ⟨r, 0, none⟩)) false ty).run P w = .ok (.tuple #[.bool false]) w) ∨
    ∃ s a w' cnt', f s = some a ∧ M.ok s ∧ s ∉ done ∧ (Instr.next (.pointer (some ⟨r, 0, none⟩)) false ty).run P w = .ok (.tuple #[.bool true, M.enc s, M.val a]) w' ∧ FnRange M w' b r f (done ++ [s]) cnt' ∧ cnt' < cnt ∧
      Out (fun i => i = r) w w' ∧ w'.heap.size = w.heap.size ∧ (Instr.entry (.pointer (some ⟨r, 0, none⟩))).run P w' = .ok (.tuple #[M.enc s, M.val a]) w' := by
  have hne := h.ne
  obtain ⟨es, clock, since, seen, c0, hb, h2, h3, h4, hr, hold, hsc, hsk, rfl, hnd, hseen, hdone⟩ := h
  rcases run_next_at (P := P) w ty r b since c0 seen es clock hr hb hold hsc with ⟨h0, hrun⟩ | ⟨x, hx, w1, hal, hrun⟩
  · refine Or.inl ⟨fun s hs => ?_, hrun⟩
    cases hf : f s with
    | none => exact absurd hf hs
    | some a =>
      obtain ⟨x, hx, hxe⟩ := h3 s a hf
      obtain ⟨s', hs', e⟩ := (hseen x hx).1 (all_seen es seen h0 x hx)
      rw [M.inj _ _ (hxe.symm.trans e)]; exact hs'
  · obtain ⟨hxm, hxs⟩ := mem_left hx
    obtain ⟨s, a, e1, e2, hok, hf⟩ := h2 x hxm
    have hr1 : w1.heap[r]? = some (.mapIter (some b) since seen c0) := by rcases hal with rfl | rfl <;> exact hr
    have hb1 : w1.heap[b]? = some (.map es clock) := by rcases hal with rfl | rfl <;> exact hb
    have hset := heap_set (o' := .mapIter (some b) since (seen.push x.born) clock) hr1
    have hb' : (setBlock w1 r (.mapIter (some b) since (seen.push x.born) clock)).heap[b]? = some (.map es clock) := (hset.2 b (fun e1 => hne e1.symm)).trans hb1
    have hnot : s ∉ done := fun hs => by
      have := (hseen x hxm).2 ⟨s, hs, e1⟩
      rw [hxs] at this; cases this
    rw [e1, e2] at hrun
    have hent := run_entry_at (P := P) (setBlock w1 r (.mapIter (some b) since (seen.push x.born) clock)) r b since seen es clock x hset.1 hb' hxm h4.2.1
    rw [e1, e2] at hent
    refine Or.inr ⟨s, a, _, _, hf, hok, hnot, hrun, ⟨es, clock, since, seen.push x.born, clock, hb', h2, h3, h4, hset.1, hold, hsk, hsk, rfl, ?_, ?_, ?_⟩, left_shrinks es seen x hx, ?_, ?_, hent⟩
    · rw [List.nodup_append]
      exact ⟨hnd, by simp, fun y hy z hz e => hnot (by simp at hz; rw [← hz, ← e]; exact hy)⟩
    · intro y hy
      rw [contains_push]
      constructor
      · intro hc
        simp only [Bool.or_eq_true, beq_iff_eq] at hc
        rcases hc with hc | hc
        · obtain ⟨s', hs', e⟩ := (hseen y hy).1 hc
          exact ⟨s', List.mem_append_left _ hs', e⟩
        · obtain rfl := born_inj h4.2.1 hy hxm hc
          exact ⟨s, by simp, e1⟩
      · rintro ⟨s', hs', e⟩
        simp only [Bool.or_eq_true, beq_iff_eq]
        rcases List.mem_append.1 hs' with hs' | hs'
        · exact Or.inl ((hseen y hy).2 ⟨s', hs', e⟩)
        · obtain rfl : s' = s := by simpa using hs'
          refine Or.inr ?_
          obtain rfl := entry_eq_of_key ((stamped_iff es clock).1 h4).2.2 hy hxm (e.trans e1.symm)
          rfl
    · intro s' hs'
      rcases List.mem_append.1 hs' with hs' | hs'
      · exact hdone s' hs'
      · obtain rfl : s' = s := by simpa using hs'
        rw [hf]; simp
    · rcases hal with rfl | rfl <;> exact ⟨rfl, rfl, rfl, by simp [setBlock], fun i _ hi => hset.2 i hi⟩
    · rcases hal with rfl | rfl <;> simp [setBlock]

/-- The keys, in some order: as many as the map is long. -/
theorem FnAt.len {M : MapLaw P k κ α} {w : World} {b : Nat} {f : κ → Option α} (h : FnAt M w b f) (ht : P.underlying t = some (.map k e)) :
    ∃ ks : List κ, ks.Nodup ∧ (∀ s, s ∈ ks ↔ f s ≠ none) ∧ ∀ ty, (Builtin.len_ #[t] ty #[.map (some b)]).run P w = .ok (.int .i64 (ks.length : Nat)) w := by
  obtain ⟨es, clock, hb, h2, h3, h4⟩ := h
  have hex : ∀ l : List MapEntry, (∀ x ∈ l, ∃ s a, x.key = M.enc s ∧ x.val = M.val a ∧ M.ok s ∧ f s = some a) → ∃ ks : List κ, l.map (·.key) = ks.map M.enc ∧ ∀ s ∈ ks, f s ≠ none := by
    intro l
    induction l with
    | nil => exact fun _ => ⟨[], rfl, fun s hs => by cases hs⟩
    | cons x r ih =>
      intro hl
      obtain ⟨ks, e1, e2⟩ := ih fun y hy => hl y (List.mem_cons_of_mem _ hy)
      obtain ⟨s, a, q1, _, _, q2⟩ := hl x (List.mem_cons_self ..)
      refine ⟨s :: ks, by simp [e1, q1], fun s' hs' => ?_⟩
      rcases List.mem_cons.1 hs' with rfl | hs'
      · rw [q2]; simp
      · exact e2 s' hs'
  obtain ⟨ks, e1, e2⟩ := hex es.toList h2
  have hlen : ks.length = es.size := by
    have := congrArg List.length e1
    simpa using this.symm
  refine ⟨ks, ?_, fun s => ⟨e2 s, fun hs => ?_⟩, fun ty => ?_⟩
  · have h5 := h4.2.2
    rw [e1] at h5
    exact List.Pairwise.imp (fun {a b} hab => fun (e : a = b) => hab (by rw [e])) (List.pairwise_map.1 h5)
  · cases hf : f s with
    | none => exact absurd hf hs
    | some a =>
      obtain ⟨x, hx, hxe⟩ := h3 s a hf
      have : x.key ∈ ks.map M.enc := e1 ▸ List.mem_map.2 ⟨x, hx, rfl⟩
      obtain ⟨s', hs', e⟩ := List.mem_map.1 this
      rw [M.inj _ _ (hxe.symm.trans e.symm)]; exact hs'
  · rw [hlen]
    simp [Builtin.len_, run_underlying ht, MapKept.run_getObj_map hb, goInt, Result.andThen]

/-- What a copy has. -/
theorem FnAt.copy {M : MapLaw P k κ α} {w : World} {b : Nat} {f : κ → Option α} (h : FnAt M w b f) : ∃ es clock, w.heap[b]? = some (.map es clock) ∧ FnAt M (w.alloc (.map es clock)) w.heap.size f := by
  obtain ⟨es, clock, hb, h2, h3, h4⟩ := h
  exact ⟨es, clock, hb, es, clock, heap_new_at w _ _ rfl, h2, h3, h4⟩

/-- 'len(m)', by an equation of the run. -/
theorem wpList_len_run {w : World} {ops : Array Oper} {rest : List Oper} {o : Oper} {a : Act} {Q : Exit → Act → World → Prop} (hg : o.guard = none) (m : Operand) (t : TypeId) (hop : o.op = Op.call { callee := Callee.builtin Builtin.len, args := #[m], argTypes := #[t] })
    (mv r : Value) (hm : a.eval m = mv) (hrun : ∀ ty, (Builtin.len_ #[t] ty #[mv]).run P w = .ok r w) (hK : wpList P ops Q rest (a.put o.dst r) w) :
    wpList P ops Q (o :: rest) a w := by
  refine wpList_plain hg fun K' hK' => ?_
  unfold Oper.wp
  simp [execOp, hop, resolve, invoke, builtin, hm, hrun, Result.andThen]
  exact hK' _ _ hK
end Go.Proofs.YtikabacebmbacaaDoor
namespace Go.Proofs.YtikabacebmbacaaDoor
open Go.RowKit
open Sto (T St)

def wantMap : MapLaw Tryd.prog 9 T Value := ⟨fun s => .string ⟨s.toArray⟩, fun v => v, fun s => s.length ≤ 140737488351232, lawS, keyS, fun _ _ h => str_inj h⟩
/-- Value v is a slice of the bytes y, in a block behind m. -/
def WantV (w : World) (m : Nat) (v : Value) (y : T) : Prop := ∃ g cap, m < g ∧ g < w.heap.size ∧ v = .slice (some ⟨g, 0, none⟩) y.length cap ∧ ∀ j (hj : j < y.length), w.cell? ((⟨g, 0, none⟩ : Addr).add j) = some (.int .u8 (y[j].toNat : Int))
/-- Block m is a map that has, for each key of the list, the bytes of its value. -/
def WantAt (w : World) (m : Nat) (S : St) : Prop := ∃ F, FnAt wantMap w m F ∧ (∀ k, Sto.look S k = none → F k = none) ∧ ∀ k y, Sto.look S k = some y → ∃ v, F k = some v ∧ WantV w m v y

theorem add_at (g j : Nat) : (⟨g, 0, none⟩ : Addr).add j = ⟨g, j, none⟩ := by
  unfold Addr.add
  split
  · rename_i h; subst h; rfl
  · simp
theorem WantV.out {w w' : World} {m : Nat} {v : Value} {y : T} (h : WantV w m v y) (ho : Out (fun i => i = m) w w') : WantV w' m v y := by
  obtain ⟨g, cap, h1, h2, h3, h4⟩ := h
  exact ⟨g, cap, h1, Nat.lt_of_lt_of_le h2 ho.size, h3, fun j hj => ho.cell (h4 j hj) (fun e => by rw [add_at] at e; have e2 : g = m := e; omega)⟩
theorem WantAt.made (w : World) (m : Nat) (h : m = w.heap.size) : WantAt (w.alloc (.map #[] 0)) m [] :=
  ⟨_, FnAt.made wantMap w m h, fun _ _ => rfl, fun k y h => by simp [Sto.look] at h⟩
theorem WantAt.below {w w' : World} {m : Nat} {S : St} (h : WantAt w m S) (hb : Below w.heap.size w w') : WantAt w' m S := by
  obtain ⟨F, h1, h2, h3⟩ := h
  refine ⟨F, h1.below hb, h2, fun k y e => ?_⟩
  obtain ⟨v, e1, e2⟩ := h3 k y e
  exact ⟨v, e1, e2.out (Out.of hb)⟩
theorem WantAt.congr {w : World} {m : Nat} {S R : St} (h : WantAt w m S) (e : ∀ x, Sto.look R x = Sto.look S x) : WantAt w m R := by
  obtain ⟨F, h1, h2, h3⟩ := h
  exact ⟨F, h1, fun k hk => h2 k ((e k).symm.trans hk), fun k y hk => h3 k y ((e k).symm.trans hk)⟩
theorem WantAt.lt {w : World} {m : Nat} {S : St} (h : WantAt w m S) : m < w.heap.size := by
  obtain ⟨F, h1, _⟩ := h
  exact h1.lt
theorem WantAt.drop {w : World} {m : Nat} {S R : St} {k : T} (h : WantAt w m S) (hk : k.length ≤ 1000) (e : ∀ x, Sto.look R x = if x = k then none else Sto.look S x) :
    ∃ w', (∀ ty, (Builtin.delete_ #[41, 9] ty #[.map (some m), .string ⟨k.toArray⟩]).run Tryd.prog w = .ok (.tuple #[]) w') ∧ WantAt w' m R ∧ Out (fun i => i = m) w w' := by
  obtain ⟨F, h1, h2, h3⟩ := h
  obtain ⟨w', r1, r2, r3, _⟩ := h1.drop Tryd.underlying41 (s := k) (show k.length ≤ 140737488351232 by omega)
  refine ⟨w', r1, ⟨_, r2, fun x hx => ?_, fun x y hx => ?_⟩, r3⟩
  · rw [e] at hx
    by_cases hxk : x = k
    · subst hxk; exact updF_same ..
    · rw [if_neg hxk] at hx
      rw [updF_other _ _ _ _ hxk]; exact h2 x hx
  · rw [e] at hx
    by_cases hxk : x = k
    · rw [if_pos hxk] at hx; cases hx
    · rw [if_neg hxk] at hx
      rw [updF_other _ _ _ _ hxk]
      obtain ⟨v, e1, e2⟩ := h3 x y hx
      exact ⟨v, e1, e2.out r3⟩
theorem bytes_below (w : World) (e : TypeId) (s : ByteArray) : Below w.heap.size w (Go.Lib.bytesWorld w e s) :=
  ⟨rfl, rfl, rfl, by rw [Go.Lib.bytesWorld_size]; omega, fun k hk => Go.Lib.bytesWorld_at_old w e s k hk⟩
theorem WantAt.put {w : World} {m : Nat} {S R : St} {k y : T} (h : WantAt w m S) (hk : k.length ≤ 1000) (e : ∀ x, Sto.look R x = if x = k then some y else Sto.look S x) :
    ∃ v w1 w', (convert 9 42 (.string ⟨y.toArray⟩)).run Tryd.prog w = .ok v w1 ∧ (Instr.mapUpdate 41 (.map (some m)) (.string ⟨k.toArray⟩) v).run Tryd.prog w1 = .ok () w' ∧ WantAt w' m R ∧ Out (fun i => i = m) w w' := by
  have hm := h.lt
  have hb := bytes_below w 5 ⟨y.toArray⟩
  obtain ⟨F, h1, h2, h3⟩ := h.below hb
  have hv : WantV (Go.Lib.bytesWorld w 5 ⟨y.toArray⟩) m (.slice (some ⟨w.heap.size, 0, none⟩) y.length (grownCap w y.length 0 5)) y := by
    refine ⟨w.heap.size, _, hm, by rw [Go.Lib.bytesWorld_size]; omega, rfl, fun j hj => ?_⟩
    have := Go.Lib.bytesWorld_cell w 5 ⟨y.toArray⟩ j (show j < y.toArray.size by simpa using hj)
    rw [add_at]
    simpa [List.getD, hj] using this
  obtain ⟨w', r1, r2, r3, _⟩ := h1.put Tryd.underlying41 (s := k) (show k.length ≤ 140737488351232 by omega) (.slice (some ⟨w.heap.size, 0, none⟩) y.length (grownCap w y.length 0 5))
  refine ⟨_, _, w', Go.Lib.run_convert_string_bytes w _ _ 5 ⟨y.toArray⟩ Tryd.underlying9 Tryd.underlying42 Tryd.underlying5, r1, ⟨_, r2, fun x hx => ?_, fun x z hx => ?_⟩, (Out.of hb).trans r3⟩
  · rw [e] at hx
    by_cases hxk : x = k
    · rw [if_pos hxk] at hx; cases hx
    · rw [if_neg hxk] at hx
      rw [updF_other _ _ _ _ hxk]; exact h2 x hx
  · rw [e] at hx
    by_cases hxk : x = k
    · rw [if_pos hxk] at hx
      cases hx
      subst hxk
      exact ⟨_, updF_same .., hv.out r3⟩
    · rw [if_neg hxk] at hx
      rw [updF_other _ _ _ _ hxk]
      obtain ⟨v, e1, e2⟩ := h3 x z hx
      exact ⟨v, e1, e2.out r3⟩
set_option maxRecDepth 100000 in
/-- What is found at a key, as a string. -/
theorem WantAt.look {w : World} {m : Nat} {S : St} (h : WantAt w m S) {k : T} (hk : k.length ≤ 1000) :
    ∃ v, (Instr.lookup 41 (.map (some m)) (.string ⟨k.toArray⟩) false).run Tryd.prog w = .ok v w ∧ (convert 42 9 v).run Tryd.prog w = .ok (.string ⟨((Sto.look S k).getD []).toArray⟩) w := by
  obtain ⟨F, h1, h2, h3⟩ := h
  have hz : (zeroValue 42).run Tryd.prog w = .ok (.slice none 0 0) w := by rfl
  have hl := h1.look Tryd.underlying41 (s := k) (show k.length ≤ 140737488351232 by omega) false hz
  refine ⟨_, hl, ?_⟩
  cases hs : Sto.look S k with
  | none => rw [h2 k hs]; rfl
  | some y =>
    obtain ⟨v, e1, g, cap, _, _, rfl, hc⟩ := h3 k y hs
    rw [e1]
    exact run_convert_bytes_back w 42 9 5 ⟨g, 0, none⟩ cap y Tryd.underlying42 Tryd.underlying5 Tryd.underlying9 hc
theorem WantAt.len {w : World} {m : Nat} {S : St} (h : WantAt w m S) (hS : Sto.Rising S) : ∀ ty, (Builtin.len_ #[41] ty #[.map (some m)]).run Tryd.prog w = .ok (.int .i64 (S.length : Nat)) w := by
  obtain ⟨F, h1, h2, h3⟩ := h
  obtain ⟨ks, hn, hm, hr⟩ := h1.len Tryd.underlying41
  have hp : ks.Perm (Sto.keys S) := by
    refine (List.perm_ext_iff_of_nodup hn ?_).2 fun x => ?_
    · exact List.pairwise_map.2 (hS.imp fun h => Sto.lt_ne h)
    · rw [hm, ← Sto.look_isSome]
      cases hs : Sto.look S x with
      | none => simp [h2 x hs]
      | some y =>
        obtain ⟨v, e1, _⟩ := h3 x y hs
        simp [e1]
  have hlen : ks.length = S.length := by rw [hp.length_eq]; simp [Sto.keys]
  rw [hlen] at hr
  exact hr
end Go.Proofs.YtikabacebmbacaaDoor
namespace Go.Proofs.YtikabacebmbacaaDoor
open Go.ChangeShapes Go.WideShapes Go.ChangeAt Go.RowKit

theorem gK : Tryd.prog.globalNamed "pharos/sha.constants" = some 1 := by kernel_rfl
theorem tK : (Tryd.prog.globals[1]?).map (·.type) = some 128 := by kernel_rfl
theorem cK : Tryd.prog.cellsOf 128 = 64 := by kernel_rfl
theorem cW : Tryd.prog.cellsOf 109 = 1 := by kernel_rfl
def laidK : List (String × DataW Unit) := [("pharos/sha.constants", Rows.laid_pharos_sha_constants)]
theorem tab_of_laid {W : World} (h : laidMetH Tryd.prog laidK W) : Tab W := by
  rw [MakeChecks.laidMetH_plain _ _ _ (by kernel_rfl)] at h
  obtain ⟨g, t, cs, fuel, p, hg, hty, hvar, hd⟩ := Lib.laidMet.reads h (.head _)
  obtain rfl := Option.some.inj (gK.symm.trans hg)
  obtain rfl := Option.some.inj (tK.symm.trans hty)
  have hd' : DataW.trod (fun _ => ()) Tryd.prog W 0 (fun _ => true) false fuel 128 cs.toList = some (Lib.tabData .u32 Sha.kTab, p) := hd
  have hcs := Lib.cells_of_tab Tryd.underlying128 Tryd.underlying109 cW cK hd'
  intro i hi
  have hk : i < Sha.kTab.length := hi
  rw [World.var?_cell hg hvar i, ← Array.getElem?_toList, hcs]
  simp [hk]
/-- The door's own heap meets the condition. -/
theorem door_met (os : Os) (args : Array Value) : laidMetH Tryd.prog laidK ((World.doorLaid Tryd.prog 400 os).forCall (fun _ _ => 0) ⟨#[], args, []⟩).memory :=
  laidMetH_of_parts3 (fuel := 8) (laidMet_of_run' 8 (by kernel_rfl) (by kernel_rfl)) (by kernel_rfl) (by kernel_rfl)
end Go.Proofs.YtikabacebmbacaaDoor
