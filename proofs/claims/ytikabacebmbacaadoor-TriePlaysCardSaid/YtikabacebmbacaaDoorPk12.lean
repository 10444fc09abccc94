/- ArgTActs, TriMade, TriMade2, BookItems, CodeFew, TriLaw, BookSpoilI, ShaLaid, TriOneMath -/
import Derived.Test.YtikabacebmbacaaDoorPk02
import Derived.Deep.Slices
import Derived.DataReads
import Derived.OpenShut
import Derived.SizedLaws
import Derived.Lib.LaidU8
import Derived.Test.YtikabacebmbacaaDoorPk11
import Derived.BigQuiet
import Derived.Deep.RegionHeld3
import Derived.Test.YtikabacebmbacaaDoorPk10
import Derived.WalkSpells
import Derived.WalkLawsBesides
import Derived.Deep.QuietTactic
import Derived.Test.YtikabacebmbacaaDoorRows
import Derived.Test.YtikabacebmbacaaDoorPk05
import Derived.LaidMore
import Derived.Stop.Joined
import Derived.ProofKit
namespace Go.Proofs.YtikabacebmbacaaDoor
open Go.RowKit Go.ChangeShapes Go.WideShapes

/-- An act. -/
structure ActT where
  kind : Int
  key : List UInt8
  val : List UInt8
instance : Inhabited ActT := ⟨⟨0, [], []⟩⟩
def tactcl (s : ActT) : List Value := [.int .i64 s.kind, .string ⟨s.key.toArray⟩, .string ⟨s.val.toArray⟩]
/-- An act that fits. -/
structure OkTAct (s : ActT) : Prop where
  kind : (Lit.int .i64 s.kind).wf = true
set_option maxRecDepth 100000 in
theorem cellsTAct : Tryd.prog.cellsOf 32 = 3 := by kernel_rfl
def TActs (w : World) (v : Value) (L : List ActT) : Prop :=
  ∃ (A : Option Addr) (cap : Nat), v = .slice A L.length cap ∧ (0 < L.length → ∃ b o, A = some ⟨b, o, none⟩ ∧ b < w.heap.size ∧ ∀ i (h : i < L.length),
    w.cell? ⟨b, o + i * 3, none⟩ = some (.int .i64 L[i].kind) ∧ w.cell? ⟨b, o + i * 3 + 1, none⟩ = some (.string ⟨L[i].key.toArray⟩) ∧ w.cell? ⟨b, o + i * 3 + 2, none⟩ = some (.string ⟨L[i].val.toArray⟩))
theorem TActs.below {w w' : World} {v : Value} {L : List ActT} (h : TActs w v L) (hb : Below w.heap.size w w') : TActs w' v L := by
  obtain ⟨A, cap, rfl, hc⟩ := h
  refine ⟨A, cap, rfl, fun h0 => ?_⟩
  obtain ⟨b, o, rfl, hlt, hcell⟩ := hc h0
  refine ⟨b, o, rfl, Nat.lt_of_lt_of_le hlt hb.size, fun i hi => ?_⟩
  obtain ⟨h1, h2, h3⟩ := hcell i hi
  exact ⟨(hb.cell hlt).trans h1, (hb.cell hlt).trans h2, (hb.cell hlt).trans h3⟩
theorem TActs.form {w : World} {v : Value} {L : List ActT} (h : TActs w v L) : ∃ A cap, v = .slice A L.length cap := by
  obtain ⟨A, cap, rfl, _⟩ := h
  exact ⟨A, cap, rfl⟩
theorem TActs.at {w w' : World} {A : Option Addr} {n cap : Nat} {L : List ActT} (h : TActs w (.slice A n cap) L) (hb : Below w.heap.size w w') (k : Nat) (hk : k < L.length) :
    ∃ b o, A = some ⟨b, o, none⟩ ∧ b < w.heap.size ∧ w'.cell? ⟨b, o + k * 3, none⟩ = some (.int .i64 L[k].kind) ∧ w'.cell? ⟨b, o + k * 3 + 1, none⟩ = some (.string ⟨L[k].key.toArray⟩) ∧ w'.cell? ⟨b, o + k * 3 + 2, none⟩ = some (.string ⟨L[k].val.toArray⟩) := by
  obtain ⟨A0, cap0, hv0, hc0⟩ := h
  obtain ⟨rfl, rfl, rfl⟩ : A = A0 ∧ n = L.length ∧ cap = cap0 := by simpa using hv0
  obtain ⟨b, o, rfl, hlt, hcell⟩ := hc0 (by omega)
  obtain ⟨h1, h2, h3⟩ := hcell k hk
  exact ⟨b, o, rfl, hlt, (hb.cell hlt).trans h1, (hb.cell hlt).trans h2, (hb.cell hlt).trans h3⟩

set_option maxRecDepth 100000 in
theorem tact_cells {H : Type} {enc : TypeId × Value → H} {W : World} {fuel : Nat} {cs : List Value} {x : DataW H × List MemPlace} (ht : DataW.trod enc Tryd.prog W 0 (fun _ => true) true fuel 32 cs = some x) :
    ∃ s : ActT, cs = tactcl s ∧ OkTAct s := by
  obtain ⟨ys, n', _, hy, hcl, hyl, hfs⟩ := DataW.trod_struct Tryd.underlying32 ht
  rw [cellsTAct] at hcl
  match cs, hcl, ys, hyl with
  | [v0, v1, v2], _, [y0, y1, y2], _ =>
    have g0 := hfs 0 _ rfl
    have g1 := hfs 1 _ rfl
    have g2 := hfs 2 _ rfl
    simp [cellsI, cellsS] at g0 g1 g2
    obtain ⟨k, e0, _, k0⟩ := DataW.trod_int Tryd.underlying3 g0
    obtain ⟨s1, e1, _, _⟩ := DataW.trod_string Tryd.underlying9 g1
    obtain ⟨s2, e2, _, _⟩ := DataW.trod_string Tryd.underlying9 g2
    obtain rfl : v0 = .int .i64 k := by simpa using e0
    obtain rfl : v1 = .string s1 := by simpa using e1
    obtain rfl : v2 = .string s2 := by simpa using e2
    exact ⟨⟨k, s1.data.toList, s2.data.toList⟩, by simp [tactcl], ⟨k0⟩⟩
set_option maxRecDepth 100000 in
theorem tacts_open {H : Type} {enc : TypeId × Value → H} {W : World} {r : Reach} {b0 : Nat} {v : Value} {d : DataW H} {p : List MemPlace}
    (hv : Value.okWide Tryd.prog W r b0 22 v) (h : DataW.Trod enc Tryd.prog W 0 (fun _ => true) true 22 v d p)
    (hz : ∀ n ∈ d.weights Tryd.prog 22, n ≤ reachBytes) :
    ∃ L, TActs W v L ∧ L.length * 40 ≤ reachBytes ∧ ∀ s ∈ L, OkTAct s := by
  obtain ⟨a0, len, cap, rfl⟩ := okWide_slice Tryd.underlying22 hv
  obtain ⟨fuel, hf⟩ := h
  rcases Go.Deep.open_slice Tryd.underlying22 hf with ⟨hcs, _⟩ | ⟨x, l, c, m, n, D, Pl, hcs, _, hl, hm, hmm, hx, hel⟩
  · simp [Value.cells] at hcs
    obtain ⟨rfl, rfl, rfl⟩ := hcs
    exact ⟨[], ⟨none, 0, rfl, fun h => absurd h (by simp)⟩, by simp, fun n hn => by simp at hn⟩
  · simp [Value.cells] at hcs
    obtain ⟨rfl, rfl, rfl⟩ := hcs
    simp only [if_true] at hmm
    subst hmm
    rw [cellsTAct] at hel hx
    obtain ⟨hd, -⟩ := Prod.mk.inj hx
    have hlen40 : len * 40 ≤ reachBytes := by
      have h1 := hz ((((List.range len).map D).length + ((List.range (m - len)).map fun j => D (len + j)).length) * Tryd.prog.bytesOf 32) (by
        rw [hd]; simp [DataW.weights, Tryd.underlying22])
      rw [show Tryd.prog.bytesOf 32 = 40 from by kernel_rfl] at h1
      simp only [List.length_map, List.length_range] at h1
      omega
    have key : ∀ i, i < len → ∃ q : ActT, OkTAct q ∧ W.cell? ((x.add (i * 3)).add 0) = some (.int .i64 q.kind) ∧ W.cell? ((x.add (i * 3)).add 1) = some (.string ⟨q.key.toArray⟩) ∧ W.cell? ((x.add (i * 3)).add 2) = some (.string ⟨q.val.toArray⟩) := fun i hi => by
      obtain ⟨cs', hc, ht⟩ := hel i (by omega)
      obtain ⟨_, _, hat⟩ := World.cells?_some hc
      obtain ⟨q, rfl, hok⟩ := tact_cells ht
      refine ⟨q, hok, ?_, ?_, ?_⟩
      · simpa [tactcl] using hat 0 (by omega)
      · simpa [tactcl] using hat 1 (by omega)
      · simpa [tactcl] using hat 2 (by omega)
    obtain ⟨f, hf⟩ := Go.Deep.choose_lt (fun i hi => key i hi)
    have hlen : ((List.range len).map f).length = len := by simp
    refine ⟨(List.range len).map f, ⟨some x, _, by rw [hlen], fun h0 => ?_⟩, by rw [hlen]; exact hlen40, ?_⟩
    · rw [hlen] at h0
      obtain ⟨b, o, sp⟩ := x
      obtain ⟨_, q0, _⟩ := hf 0 h0
      have hcell' : W.cell? ⟨b, o, sp⟩ = some (.int .i64 (f 0).kind) := by simpa [Addr.add] using q0
      obtain rfl := cell_spot hcell'
      refine ⟨b, o, rfl, block_lt_of_cell hcell', fun i hi => ?_⟩
      rw [hlen] at hi
      obtain ⟨_, q0, q1, q2⟩ := hf i hi
      rw [Addr.add_mid, Addr.add_mid] at q0 q1 q2
      simpa using ⟨q0, q1, q2⟩
    · intro n hn
      obtain ⟨i, hi, rfl⟩ := List.mem_map.1 hn
      exact (hf i (List.mem_range.1 hi)).1
set_option maxRecDepth 100000 in
/-- An act alone. -/
theorem tact_open {H : Type} {enc : TypeId × Value → H} {W : World} {r : Reach} {b0 : Nat} {v : Value} {d : DataW H} {p : List MemPlace}
    (hv : Value.okWide Tryd.prog W r b0 32 v) (h : DataW.Trod enc Tryd.prog W 0 (fun _ => true) true 32 v d p) : ∃ s : ActT, v = .agg (tactcl s).toArray ∧ OkTAct s := by
  simp only [Value.okWide, Tryd.underlying32] at hv
  obtain ⟨cs, rfl, _, _⟩ := hv
  obtain ⟨fuel, hf⟩ := h
  obtain ⟨s, hc, ho⟩ := tact_cells hf
  have hc' : cs.toList = tactcl s := hc
  exact ⟨s, by rw [← hc', Array.toArray_toList], ho⟩
end Go.Proofs.YtikabacebmbacaaDoor
namespace Go.Proofs.YtikabacebmbacaaDoor
open Go.RowKit
open Sto (T St)
open Tri (Tr)

/-- One act on items. -/
def actS (S : St) (a : ActT) : St := if 1 < a.kind then (if (Tri.getC S a.key).2 = 0 then Tri.del S a.key else S) else (if Tri.putC S a.key a.val = 0 then Tri.put S a.key a.val else S)
def madeS (L : List ActT) : St := L.foldl actS []
theorem made_step {L : List ActT} {k : Nat} (hk : k < L.length) : madeS (L.take (k + 1)) = actS (madeS (L.take k)) L[k] := by
  unfold madeS
  rw [List.take_succ_eq_append_getElem hk, List.foldl_append]
  rfl
def longB (L : List ActT) (m : Nat) : Bool := decide (m < L.length) || L.any fun a => decide (100 < a.key.length) || decide (100 < a.val.length)
theorem long_no {L : List ActT} {m : Nat} (h : longB L m = false) : L.length ≤ m ∧ ∀ a ∈ L, a.key.length ≤ 100 ∧ a.val.length ≤ 100 := by
  simp only [longB, Bool.or_eq_false_iff, decide_eq_false_iff_not, List.any_eq_false, Bool.or_eq_true, decide_eq_true_eq, not_or] at h
  exact ⟨by omega, fun a ha => by have := h.2 a ha; omega⟩
set_option maxRecDepth 8000 in
set_option maxHeartbeats 1000000 in
theorem long_any (L : List ActT) (m : Nat) (v : Value) (w : World) (hv : TActs w v L) (hm : m ≤ 100) :
    Calls Tryd.prog 9 #[v, .int .i64 m] w fun e w' => e = .returned (.bool (longB L m)) ∧ Below w.heap.size w w' := by
  have HV := Lib.hid hv
  obtain ⟨A, cap, rfl⟩ := hv.form
  clear hv
  by_cases hlm : m < L.length
  · have h1 : (L.length : Int) > (m : Int) := by omega
    have hd : decide ((m : Int) < (L.length : Int)) = true := decide_eq_true (by omega)
    have hd2 : decide (m < L.length) = true := decide_eq_true hlm
    have e : longB L m = true := by simp [longB, hlm]
    rw [e]
    clear e hlm
    go_enter Tryd.func9, Tryd.ntmps9
    go_wp2
    go_ret
    exact ⟨rfl, Below.refl _ _⟩
  · have h1 : ¬ ((L.length : Int) > (m : Int)) := by omega
    have hd : decide ((m : Int) < (L.length : Int)) = false := decide_eq_false (by omega)
    have hd2 : decide (m < L.length) = false := decide_eq_false hlm
    have hlen : L.length ≤ 100 := by omega
    have HLB : Hid (∀ b, (L.any fun a => decide (100 < a.key.length) || decide (100 < a.val.length)) = b → longB L m = b) := Lib.hid (fun b hb => by rw [longB, hd2, hb]; rfl)
    obtain ⟨RB, hRB⟩ : ∃ RB, longB L m = RB := ⟨_, rfl⟩
    rw [hRB] at HLB ⊢
    clear hRB hlm
    go_enter Tryd.func9, Tryd.ntmps9
    go_wp2
    go_loopw [5] (fun i wr => ∃ k : Nat, k ≤ L.length ∧ i = .int .i64 k ∧ (∀ j (hj : j < k) (hj2 : j < L.length), L[j].key.length ≤ 100 ∧ L[j].val.length ≤ 100) ∧ Below w.heap.size w wr) (fun i _ => L.length - (intOf i).toNat)
    case atStart => exact ⟨0, Nat.zero_le _, rfl, fun j hj => absurd hj (Nat.not_lt_zero _), Below.refl _ _⟩
    case round =>
      obtain ⟨k, hk, rfl, hall, hb⟩ := hrel
      have HALL := Lib.hid hall
      have HB := Lib.hid hb
      by_cases hlt : k < L.length
      · have g1 : (k : Int) < (L.length : Int) := by omega
        have g0 : (0 : Int) ≤ (k : Int) := by omega
        obtain ⟨b, o, rfl, -, -, n1, n2⟩ := HV.out.at hb k hlt
        have HANY : Hid (100 < L[k].key.length ∨ 100 < L[k].val.length → (L.any fun a => decide (100 < a.key.length) || decide (100 < a.val.length)) = true) := Lib.hid (fun h => List.any_eq_true.2 ⟨L[k], List.getElem_mem hlt, by simpa using h⟩)
        have HKK : Hid (L[k].key.length ≤ 100 → L[k].val.length ≤ 100 → ∀ j (hj : j < k + 1) (hj2 : j < L.length), L[j].key.length ≤ 100 ∧ L[j].val.length ≤ 100) := Lib.hid (fun a1 a2 j hj hj2 => by
          by_cases e : j < k
          · exact HALL.out j e hj2
          · obtain rfl : j = k := by omega
            exact ⟨a1, a2⟩)
        obtain ⟨x, hx⟩ : ∃ x, L[k].key = x := ⟨_, rfl⟩
        obtain ⟨y, hy⟩ : ∃ y, L[k].val = y := ⟨_, rfl⟩
        rw [hx] at n1
        rw [hy] at n2
        rw [hx, hy] at HANY HKK
        clear hall hb hx hy
        by_cases hx1 : 100 < x.length
        · have q1 : (x.length : Int) > 100 := by omega
          have q2 : decide ((100 : Int) < (x.length : Int)) = true := decide_eq_true (by omega)
          have q3 : decide (100 < x.length) = true := decide_eq_true hx1
          have HE := Lib.hid (HLB.out _ (HANY.out (Or.inl hx1)))
          clear hx1
          go_wp2
          go_ret
          exact ⟨by rw [HE.out]; rfl, HB.out⟩
        · have q1 : ¬ ((x.length : Int) > 100) := by omega
          have q2 : decide ((100 : Int) < (x.length : Int)) = false := decide_eq_false (by omega)
          have q3 : decide (100 < x.length) = false := decide_eq_false hx1
          have HX1 := Lib.hid hx1
          clear hx1
          by_cases hy1 : 100 < y.length
          · have p1 : (y.length : Int) > 100 := by omega
            have p2 : decide ((100 : Int) < (y.length : Int)) = true := decide_eq_true (by omega)
            have p3 : decide (100 < y.length) = true := decide_eq_true hy1
            have HE := Lib.hid (HLB.out _ (HANY.out (Or.inr hy1)))
            clear hy1
            go_wp2
            go_ret
            exact ⟨by rw [HE.out]; rfl, HB.out⟩
          · have p1 : ¬ ((y.length : Int) > 100) := by omega
            have p2 : decide ((100 : Int) < (y.length : Int)) = false := decide_eq_false (by omega)
            have p3 : decide (100 < y.length) = false := decide_eq_false hy1
            have HKN := Lib.hid (HKK.out (by have := HX1.out; omega) (by omega))
            clear hy1
            go_wp2
            exact ⟨⟨k + 1, by omega, by go_num, HKN.out, HB.out⟩, by simp [intOf]; omega⟩
      · have g1 : ¬ ((k : Int) < (L.length : Int)) := by omega
        obtain rfl : k = L.length := by omega
        have HE : Hid (RB = false) := Lib.hid (HLB.out _ (by
          rw [List.any_eq_false]
          intro a ha
          obtain ⟨j, hj, rfl⟩ := List.mem_iff_getElem.1 ha
          have := HALL.out j hj hj
          simp; omega))
        clear hall hb
        go_wp2
        go_ret
        exact ⟨by rw [HE.out]; rfl, HB.out⟩
end Go.Proofs.YtikabacebmbacaaDoor
namespace Go.Proofs.YtikabacebmbacaaDoor
open Go.RowKit
open Sto (T St)
open Tri (Tr)

set_option maxRecDepth 100000 in
set_option maxHeartbeats 4000000 in
theorem made_any (L : List ActT) (v : Value) (w : World) (hv : TActs w v L) (hl : L.length ≤ 30) (hT : Tab w) :
    Calls Tryd.prog 18 #[v] w fun e w' => ∃ g, e = .returned (ptr g) ∧ TrAt w' g (madeS L) ∧ Below w.heap.size w w' := by
  have HV := Lib.hid hv
  have HT := Lib.hid hT
  have HNW := Lib.hid (tnew_any w)
  unfold ptr at HNW ⊢
  obtain ⟨A, cap, rfl⟩ := hv.form
  clear hv hT
  go_enter Tryd.func18, Tryd.ntmps18
  go_wp2_with fail
  refine HNW.out.mono ?_
  rintro e w1 ⟨g0, rfl, ht0, -, hb1⟩
  have HB1 := Lib.hid hb1
  have H0 := Lib.hid ht0
  clear ht0 hb1
  go_wp2
  go_loopw [3, 4] (fun av iv wr => ∃ (k : Nat) (gk : Nat), av = .pointer (some ⟨gk, 0, none⟩) ∧ k ≤ L.length ∧ iv = .int .i64 k ∧ TrAt wr gk (madeS (L.take k)) ∧ Below w.heap.size w wr) (fun _ i _ => L.length - (intOf i).toNat)
  case atStart => exact ⟨0, g0, rfl, Nat.zero_le _, rfl, H0.out, HB1.out⟩
  case round =>
    obtain ⟨k, gk, rfl, hk, rfl, htr, hb⟩ := hrel
    have HB := Lib.hid hb
    have HTR := Lib.hid htr
    by_cases hlt : k < L.length
    · have h1 : (k : Int) < (L.length : Int) := by omega
      have h0 : (0 : Int) ≤ (k : Int) := by omega
      have h30 : (k : Int) < 30 := by omega
      have HMS := Lib.hid (made_step hlt)
      have HC : Hid (∃ b o, A = some ⟨b, o, none⟩ ∧ ∀ w', Below w.heap.size w w' → w'.cell? ⟨b, o + k * 3, none⟩ = some (.int .i64 L[k].kind) ∧ w'.cell? ⟨b, o + k * 3 + 1, none⟩ = some (.string ⟨L[k].key.toArray⟩) ∧ w'.cell? ⟨b, o + k * 3 + 2, none⟩ = some (.string ⟨L[k].val.toArray⟩)) := Lib.hid (by
        obtain ⟨b, o, e, -, -, -, -⟩ := HV.out.at (Below.refl _ _) k hlt
        refine ⟨b, o, e, fun w' hb' => ?_⟩
        obtain ⟨b2, o2, e2, -, q⟩ := HV.out.at hb' k hlt
        cases e.symm.trans e2
        exact q)
      obtain ⟨b, o, rfl, hcell⟩ := HC.out
      obtain ⟨S, hS⟩ : ∃ S, madeS (L.take k) = S := ⟨_, rfl⟩
      rw [hS] at HTR HMS
      obtain ⟨⟨kd, x, y⟩, ha⟩ : ∃ a, L[k] = a := ⟨_, rfl⟩
      rw [ha] at hcell HMS
      dsimp only at hcell
      have HCE := Lib.hid hcell
      have HPU : Hid (∀ w', Below wr.heap.size wr w' → Calls Tryd.prog 11 #[ptr gk, .string ⟨x.toArray⟩, .string ⟨y.toArray⟩] w' fun e w'' => ∃ z, e = .returned (.tuple #[z, .int .i64 (Tri.putC S x y)]) ∧ (Tri.putC S x y = 0 → ∃ g', z = ptr g' ∧ TrAt w'' g' (Tri.put S x y)) ∧ (Tri.putC S x y ≠ 0 → z = nilp) ∧ Below wr.heap.size wr w'') := Lib.hid (fun w' hb' =>
        (tput_any x y w' (HTR.out.below hb') (HT.out.below (bchain HB.out hb'))).mono fun e w'' ⟨z, q1, q2, q3, q4⟩ => ⟨z, q1, q2, q3, bchain hb' q4⟩)
      have HDE : Hid (∀ w', Below wr.heap.size wr w' → Calls Tryd.prog 13 #[ptr gk, .string ⟨x.toArray⟩] w' fun e w'' => ∃ z, e = .returned (.tuple #[z, .int .i64 (Tri.getC S x).2]) ∧ ((Tri.getC S x).2 = 0 → ∃ g', z = ptr g' ∧ TrAt w'' g' (Tri.del S x)) ∧ ((Tri.getC S x).2 ≠ 0 → z = nilp) ∧ Below wr.heap.size wr w'') := Lib.hid (fun w' hb' =>
        (tdel_any x w' (HTR.out.below hb') (HT.out.below (bchain HB.out hb'))).mono fun e w'' ⟨z, q1, q2, q3, q4⟩ => ⟨z, q1, q2, q3, bchain hb' q4⟩)
      have HCW : Hid (∀ w', Below wr.heap.size wr w' → w'.cell? ⟨b, o + k * 3, none⟩ = some (.int .i64 kd) ∧ w'.cell? ⟨b, o + k * 3 + 1, none⟩ = some (.string ⟨x.toArray⟩) ∧ w'.cell? ⟨b, o + k * 3 + 2, none⟩ = some (.string ⟨y.toArray⟩)) := Lib.hid (fun w' hb' => HCE.out w' (bchain HB.out hb'))
      unfold ptr at HPU HDE
      have BD : Below wr.heap.size wr wr.drew := (Below.refl _ _).drew
      obtain ⟨c0, c1, c2⟩ := HCW.out _ BD
      have HBW : Hid (∀ w', Below wr.heap.size wr w' → Below w.heap.size w w') := Lib.hid (fun w' hb' => bchain HB.out hb')
      obtain ⟨cp, hcp⟩ : ∃ cp, Tri.putC S x y = cp := ⟨_, rfl⟩
      obtain ⟨cd, hcd⟩ : ∃ cd, (Tri.getC S x).2 = cd := ⟨_, rfl⟩
      rw [hcp] at HPU
      rw [hcd] at HDE
      have HCP := Lib.hid hcp
      have HCD := Lib.hid hcd
      have HHB : Hid (o + k * 3 + 0 = o + k * 3) := Lib.hid rfl
      clear htr hb hcell hS ha hcp hcd HC
      by_cases hkd : 1 < kd
      · have k1 : kd > 1 := hkd
        have k2 : decide ((1 : Int) < kd) = true := decide_eq_true hkd
        have HKD := Lib.hid hkd
        have HAS : Hid (actS S ⟨kd, x, y⟩ = if cd = 0 then Tri.del S x else S) := Lib.hid (by rw [← HCD.out]; exact if_pos HKD.out)
        clear hkd
        go_upto_region 5 with fail
        go_region_held3 (fun w' => w'.cell? ⟨b, o + k * 3 + 1, none⟩ = some (.string ⟨x.toArray⟩) ∧ w'.cell? ⟨b, o + k * 3 + 2, none⟩ = some (.string ⟨y.toArray⟩))
          ((first | (with_reducible exact ⟨c1, c2⟩) | (refine (HCW.out _ ?_).2; with_reducible assumption)))
          ((go_at_call 11; refine (HPU.out _ ?_).mono ?_; (with_reducible exact BD); rintro e w6 ⟨z1, rfl, -, -, hb6⟩))
        all_goals
          obtain ⟨d0, d1, d2⟩ := HCW.out _ hb6
          have HB6 := Lib.hid hb6
          clear c0 c1 c2 hb6
          go_wp2_with fail
          refine (HDE.out _ HB6.out).mono ?_
          rintro e w7 ⟨z2, rfl, hz1, hz0, hb7⟩
          have HB7 := Lib.hid hb7
          by_cases hc : cd = 0
          · obtain ⟨g', rfl, ht⟩ := hz1 hc
            subst hc
            have HTN := Lib.hid ht
            clear hz1 hz0 hb7 ht
            go_wp2
            exact ⟨⟨k + 1, g', rfl, by omega, by go_num, by rw [HMS.out, HAS.out]; simpa using HTN.out, HBW.out _ HB7.out⟩, by simp [intOf]; omega⟩
          · have e0 : ((cd : Int) == 0) = false := by rw [beq_eq_false_iff_ne]; omega
            have e1 : z2 = .pointer none := hz0 hc
            subst e1
            have HC0 := Lib.hid hc
            clear hz1 hz0 hb7 hc
            go_wp2
            exact ⟨⟨k + 1, gk, rfl, by omega, by go_num, by rw [HMS.out, HAS.out, if_neg HC0.out]; exact HTR.out.below HB7.out, HBW.out _ HB7.out⟩, by simp [intOf]; omega⟩
      · have k1 : ¬ (kd > 1) := hkd
        have k2 : decide ((1 : Int) < kd) = false := decide_eq_false hkd
        have HKD := Lib.hid hkd
        have HAS : Hid (actS S ⟨kd, x, y⟩ = if cp = 0 then Tri.put S x y else S) := Lib.hid (by rw [← HCP.out]; exact if_neg HKD.out)
        clear hkd
        go_upto_region 5 with fail
        go_region_held3 (fun w' => w'.cell? ⟨b, o + k * 3 + 1, none⟩ = some (.string ⟨x.toArray⟩) ∧ w'.cell? ⟨b, o + k * 3 + 2, none⟩ = some (.string ⟨y.toArray⟩))
          ((first | (with_reducible exact ⟨c1, c2⟩) | (refine (HCW.out _ ?_).2; with_reducible assumption)))
          ((go_at_call 11; refine (HPU.out _ ?_).mono ?_; (with_reducible exact BD); rintro e w6 ⟨z1, rfl, hz1, hz0, hb6⟩))
        all_goals
          obtain ⟨d0, d1, d2⟩ := HCW.out _ hb6
          have HB6 := Lib.hid hb6
          clear c0 c1 c2
          by_cases hc : cp = 0
          · obtain ⟨g', rfl, ht⟩ := hz1 hc
            subst hc
            have HTN := Lib.hid ht
            clear hz1 hz0 hb6 ht
            go_wp2
            exact ⟨⟨k + 1, g', rfl, by omega, by go_num, by rw [HMS.out, HAS.out]; simpa using HTN.out, HBW.out _ HB6.out⟩, by simp [intOf]; omega⟩
          · have e0 : ((cp : Int) == 0) = false := by rw [beq_eq_false_iff_ne]; omega
            have e1 : z1 = .pointer none := hz0 hc
            subst e1
            have HC0 := Lib.hid hc
            clear hz1 hz0 hb6 hc
            go_wp2
            exact ⟨⟨k + 1, gk, rfl, by omega, by go_num, by rw [HMS.out, HAS.out, if_neg HC0.out]; exact HTR.out.below HB6.out, HBW.out _ HB6.out⟩, by simp [intOf]; omega⟩
    · obtain rfl : k = L.length := by omega
      have h1 : ¬ ((L.length : Int) < (L.length : Int)) := by omega
      rw [List.take_length] at HTR
      clear htr hb
      go_wp2
      go_ret
      exact ⟨gk, rfl, HTR.out, HB.out⟩
end Go.Proofs.YtikabacebmbacaaDoor
namespace Go.Proofs.YtikabacebmbacaaDoor
open Go.RowKit
open Sto (T St)

theorem take_snoc_it {L K : St} {k : Nat} (h1 : k < L.length) (h2 : k < K.length) : L.take (k + 1) = K.take (k + 1) ↔ L.take k = K.take k ∧ L[k] = K[k] := by
  rw [List.take_succ_eq_append_getElem h1, List.take_succ_eq_append_getElem h2]
  constructor
  · intro h
    have := List.append_inj' h rfl
    exact ⟨this.1, by simpa using this.2⟩
  · rintro ⟨a, b⟩
    rw [a, b]

set_option maxRecDepth 8000 in
set_option maxHeartbeats 2000000 in
theorem sameI_any (L K : St) (u v : Value) (w : World) (hu : ItAt w u L) (hv : ItAt w v K) (hl : L.length ≤ 1000000) (hk : K.length ≤ 1000000) :
    Calls Tryd.prog 15 #[u, v] w fun x w' => x = .returned (.bool (decide (L = K))) ∧ Below w.heap.size w w' := by
  have HU := Lib.hid hu
  have HV := Lib.hid hv
  obtain ⟨A, cap, rfl, -, -⟩ := hu.form
  obtain ⟨B, cap2, rfl, -, -⟩ := hv.form
  clear hu hv
  by_cases he : L.length = K.length
  · have h0 : ((L.length : Int) == (K.length : Int)) = true := by rw [beq_iff_eq]; omega
    have HE := Lib.hid he
    go_enter Tryd.func15, Tryd.ntmps15
    go_wp2
    go_loopw [5, 6] (fun s i wr => ∃ k : Nat, k ≤ L.length ∧ s = .bool (decide (L.take k = K.take k)) ∧ i = .int .i64 k ∧ Below w.heap.size w wr ∧ (L.take k ≠ K.take k → L ≠ K)) (fun _ i _ => L.length - (intOf i).toNat)
    case atStart => exact ⟨0, Nat.zero_le _, by simp, rfl, Below.refl _ _, by simp⟩
    case round =>
      obtain ⟨k, hk, rfl, rfl, hbel, hno⟩ := hrel
      have HN := Lib.hid hno
      have HB := Lib.hid hbel
      clear hno hbel
      rcases htk : decide (L.take k = K.take k) with _ | _
      · have HT := Lib.hid htk
        clear htk
        go_wp2
        go_ret
        refine ⟨?_, HB.out⟩
        have h := HN.out (of_decide_eq_false HT.out)
        rw [decide_eq_false h]
        rfl
      · have HT := Lib.hid htk
        clear htk
        by_cases hlt : k < L.length
        · have h1 : (k : Int) < (L.length : Int) := by omega
          have h2 : (k : Int) < (K.length : Int) := by omega
          have h3 : (0 : Int) ≤ (k : Int) := by omega
          obtain ⟨b, o, rfl, n0, n1⟩ := ItAt.at (RowsAt.below HU.out HB.out) k hlt
          obtain ⟨b2, o2, rfl, m0, m1⟩ := ItAt.at (RowsAt.below HV.out HB.out) k (by omega)
          have HSN := Lib.hid (take_snoc_it hlt (show k < K.length by omega))
          have HNE : Hid (∀ h : k < K.length, L[k] ≠ K[k] → L ≠ K) := Lib.hid (fun _ h e => by subst e; exact h rfl)
          obtain ⟨⟨x, p⟩, hx⟩ : ∃ m, L[k] = m := ⟨_, rfl⟩
          obtain ⟨⟨y, q⟩, hy⟩ : ∃ m, K[k]'(by omega) = m := ⟨_, rfl⟩
          rw [hx] at n0 n1
          rw [hy] at m0 m1
          rw [hx, hy] at HSN
          rw [hx] at HNE
          have HNE2 : Hid (((x, p) : T × T) ≠ (y, q) → L ≠ K) := Lib.hid (by have := HNE.out (by omega); rwa [hy] at this)
          dsimp only at n0 n1 m0 m1
          clear hx hy HNE
          by_cases exy : x = y
          · have e1 : (x == y) = true := by rw [beq_iff_eq]; exact exy
            have EXY := Lib.hid exy
            clear exy
            by_cases epq : p = q
            · have e2 : (p == q) = true := by rw [beq_iff_eq]; exact epq
              have HR : Hid (decide (L.take (k + 1) = K.take (k + 1)) = true) := Lib.hid (decide_eq_true (HSN.out.2 ⟨of_decide_eq_true HT.out, by rw [EXY.out, epq]⟩))
              clear epq
              go_wp2
              go_quiet (fail)
              go_wp2
              go_roundw
              case rel => exact ⟨k + 1, by omega, by rw [HR.out], by go_num, bel_drewN HB.out _, fun h => absurd (of_decide_eq_true HR.out) h⟩
              case measure => simp [intOf]; omega
            · have e2 : (p == q) = false := by rw [beq_eq_false_iff_ne]; exact epq
              have HD : Hid (L ≠ K) := Lib.hid (HNE2.out (fun e => epq (congrArg Prod.snd e)))
              have HR : Hid (decide (L.take (k + 1) = K.take (k + 1)) = false) := Lib.hid (decide_eq_false (fun h => epq (congrArg Prod.snd (HSN.out.1 h).2)))
              clear epq
              go_wp2
              go_quiet (fail)
              go_wp2
              go_roundw
              case rel => exact ⟨k + 1, by omega, by rw [HR.out], by go_num, bel_drewN HB.out _, fun _ => HD.out⟩
              case measure => simp [intOf]; omega
          · have e1 : (x == y) = false := by rw [beq_eq_false_iff_ne]; exact exy
            have HD : Hid (L ≠ K) := Lib.hid (HNE2.out (fun e => exy (congrArg Prod.fst e)))
            have HR : Hid (decide (L.take (k + 1) = K.take (k + 1)) = false) := Lib.hid (decide_eq_false (fun h => exy (congrArg Prod.fst (HSN.out.1 h).2)))
            clear exy
            go_wp2
            go_quiet (fail)
            go_wp2
            go_roundw
            case rel => exact ⟨k + 1, by omega, by rw [HR.out], by go_num, bel_drewN HB.out _, fun _ => HD.out⟩
            case measure => simp [intOf]; omega
        · have h1 : ¬ ((k : Int) < (L.length : Int)) := by omega
          have HR : Hid (decide (L = K) = true) := Lib.hid (decide_eq_true (by
            have := of_decide_eq_true HT.out
            rwa [List.take_of_length_le (by omega), List.take_of_length_le (by omega)] at this))
          go_wp2
          go_ret
          exact ⟨by rw [HR.out]; rfl, HB.out⟩
  · have h0 : ((L.length : Int) == (K.length : Int)) = false := by rw [beq_eq_false_iff_ne]; omega
    have HD : Hid (decide (L = K) = false) := Lib.hid (decide_eq_false (fun e => he (by rw [e])))
    clear he
    go_enter Tryd.func15, Tryd.ntmps15
    go_wp2
    go_loopw [5, 6] (fun s i wr => s = .bool false ∧ i = .int .i64 0 ∧ Below w.heap.size w wr) (fun _ _ _ => 0)
    case atStart => exact ⟨rfl, rfl, Below.refl _ _⟩
    case round =>
      obtain ⟨rfl, rfl, hb⟩ := hrel
      go_wp2
      go_ret
      exact ⟨by rw [HD.out]; rfl, hb⟩

end Go.Proofs.YtikabacebmbacaaDoor
namespace Go.Proofs.YtikabacebmbacaaDoor
open Go.RowKit

def Code.few (L : List (List UInt8)) (n e : Nat) : Bool := decide (L.length ≤ n) && L.all fun s => decide (s.length ≤ e)
theorem Code.take_snoc_eq {L M : List (List UInt8)} {k : Nat} (h1 : k < L.length) (h2 : k < M.length) : L.take (k + 1) = M.take (k + 1) ↔ L.take k = M.take k ∧ L[k] = M[k] := by
  rw [List.take_succ_eq_append_getElem h1, List.take_succ_eq_append_getElem h2]
  constructor
  · intro h
    have := List.append_inj' h rfl
    exact ⟨this.1, by simpa using this.2⟩
  · rintro ⟨a, b⟩
    rw [a, b]

set_option maxHeartbeats 400000 in
theorem same_any (L M : List (List UInt8)) (u v : Value) (w : World) (hu : Strs w u L) (hv : Strs w v M) (hl : L.length ≤ 100000000) (hm : M.length ≤ maxLen) :
    Calls Tryd.prog 23 #[u, v] w fun x w' => x = .returned (.bool (decide (L = M))) ∧ Below w.heap.size w w' := by
  obtain ⟨A, cap, rfl, hc⟩ := hu
  obtain ⟨B, cap2, rfl, hd⟩ := hv
  unfold maxLen at hm
  by_cases he : L.length = M.length
  · have h0 : ((L.length : Int) == (M.length : Int)) = true := by rw [beq_iff_eq]; omega
    have he' := Lib.hid he
    go_enter Tryd.func23, Tryd.ntmps23
    go_wp2
    go_loopw [5, 6] (fun s i wr => ∃ k : Nat, k ≤ L.length ∧ s = .bool (decide (L.take k = M.take k)) ∧ i = .int .i64 k ∧ Below w.heap.size w wr ∧ (L.take k ≠ M.take k → L ≠ M)) (fun _ i _ => L.length - (intOf i).toNat)
    case atStart => exact ⟨0, Nat.zero_le _, by simp, rfl, Below.refl _ _, by simp⟩
    case round =>
      obtain ⟨k, hk, rfl, rfl, hbel, hno⟩ := hrel
      have HN := Lib.hid hno
      clear hno
      rcases htk : decide (L.take k = M.take k) with _ | _
      · have HT := Lib.hid htk
        clear htk
        go_wp2
        go_ret
        refine ⟨?_, hbel⟩
        have h := HN.out (of_decide_eq_false HT.out)
        rw [decide_eq_false h]
        rfl
      · have HT := Lib.hid htk
        clear htk
        by_cases hlt : k < L.length
        · have h1 : (k : Int) < (L.length : Int) := by omega
          have h2 : (k : Int) < (M.length : Int) := by omega
          obtain ⟨a, rfl, hcell⟩ := hc k hlt
          obtain ⟨b, rfl, hdell⟩ := hd k (by omega)
          have hcell1 := (hbel.cell (World.block_lt_of_cell? _ _ hcell)).trans hcell
          have hdell1 := (hbel.cell (World.block_lt_of_cell? _ _ hdell)).trans hdell
          have hsn := Lib.hid (Code.take_snoc_eq hlt (show k < M.length by omega))
          clear hc hd hcell hdell
          obtain ⟨s, hs⟩ : ∃ s, L[k] = s := ⟨_, rfl⟩
          obtain ⟨t, ht⟩ : ∃ t, M[k] = t := ⟨_, rfl⟩
          rw [hs] at hcell1 hsn
          rw [ht] at hdell1 hsn
          clear hs ht
          go_wp2
          go_quiet (fail)
          go_wp2
          go_roundw
          case rel =>
            refine ⟨k + 1, by omega, ?_, by go_num, bel_drewN hbel _, ?_⟩
            · have e := hsn.out
              have e1 := of_decide_eq_true HT.out
              by_cases hst : s = t
              · rw [decide_eq_true (e.2 ⟨e1, hst⟩)]; simp [hst]
              · rw [decide_eq_false (fun h => hst (e.1 h).2)]; simp [hst]
            · intro h hLM
              subst hLM
              exact h rfl
          case measure => simp [intOf]; omega
        · go_wp2
          go_ret
          refine ⟨?_, hbel⟩
          have e := of_decide_eq_true HT.out
          have he2 := he'.out
          rw [List.take_of_length_le (by omega), List.take_of_length_le (by omega)] at e
          rw [decide_eq_true e]
          rfl
  · have h0 : ((L.length : Int) == (M.length : Int)) = false := by rw [beq_eq_false_iff_ne]; omega
    have hne : decide (L = M) = false := decide_eq_false (fun h => he (by rw [h]))
    rw [hne]
    clear he hc hd hne
    go_enter Tryd.func23, Tryd.ntmps23
    go_wp2
    go_loop [5, 6] (fun s i => s = .bool false ∧ i = .int .i64 0) (fun _ _ => 0)
    case atStart => exact ⟨rfl, rfl⟩
    case round =>
      obtain ⟨rfl, rfl⟩ := hrel
      go_wp2
      go_ret
      exact ⟨rfl, Below.refl _ _⟩

end Go.Proofs.YtikabacebmbacaaDoor
namespace Go.Proofs.YtikabacebmbacaaDoor
open Go.RowKit
open Sto (T St)
open Tri (Tr)

/-- The tree of items. -/
def treeS (S : St) : Tr := S.foldr (fun x t => t.put (Nib.ofL x.1) x.2) .nil
theorem treeS_tree (S : St) (hS : Sto.Rising S) (hv : ∀ p ∈ S, p.2 ≠ []) : Tri.TreeOf S (treeS S) := by
  induction S with
  | nil => exact ⟨trivial, trivial, rfl⟩
  | cons a r ih =>
    obtain ⟨h1, h2⟩ := List.pairwise_cons.1 hS
    have h3 := (ih h2 fun p h => hv p (List.mem_cons_of_mem _ h)).put (k := a.1) (hv a (List.mem_cons_self ..))
    have e : Tri.put r a.1 a.2 = a :: r := by
      cases r with
      | nil => rfl
      | cons b r =>
        have hab := h1 b (List.mem_cons_self ..)
        rw [Tri.put, if_neg (fun h => List.lt_irrefl _ (List.lt_trans h hab)), if_neg (fun e => Sto.lt_ne hab e.symm)]
    rw [e] at h3
    exact h3
theorem treeS_of {S : St} {t : Tr} (h : TrS S t) : treeS S = t :=
  (treeS_tree S h.rise fun p hp e => by have := (h.fair p hp).2.2.1; rw [e] at this; simp at this).one h.tree
def rootS (S : St) : T := (treeS S).sum Nd.sumS
def nodesS (S : St) : List T := wantedT (fun _ => true) (treeS S)
theorem sroot_any {g : Nat} {S : St} (w : World) (h : TrAt w g S) :
    Calls Tryd.prog 22 #[ptr g] w fun e w' => e = .returned (.string ⟨(rootS S).toArray⟩) ∧ Below w.heap.size w w' := by
  obtain ⟨top, t, h1, h2, h3⟩ := h
  unfold rootS
  rw [treeS_of h3]
  exact troot_any w h1 h2 h3.ok
theorem snodes_any {g : Nat} {S : St} (w : World) (h : TrAt w g S) :
    Calls Tryd.prog 24 #[ptr g] w (TextsPost w (nodesS S)) := by
  obtain ⟨top, t, h1, h2, h3⟩ := h
  unfold nodesS
  rw [treeS_of h3]
  exact nodes_any w h1 (h3.sealed h2)
theorem sitems_any {g : Nat} {S : St} (w : World) (h : TrAt w g S) :
    Calls Tryd.prog 16 #[ptr g] w (ItemsPost w S) := by
  obtain ⟨top, t, h1, h2, h3⟩ := h
  exact items_any w h1 (h3.sealed h2) h3.tree
theorem TrAt.nodes_len {w : World} {g : Nat} {S : St} (h : TrAt w g S) : (nodesS S).length ≤ 100000 := by
  obtain ⟨top, t, h1, h2, h3⟩ := h
  unfold nodesS
  rw [treeS_of h3, wanted_all, List.length_map]
  exact h3.spots []
theorem del_le (S : St) (k : T) : (Tri.del S k).length ≤ S.length := by
  induction S with
  | nil => simp [Tri.del]
  | cons b r ih =>
    rw [Tri.del]
    split
    · simp
    · simp only [List.length_cons]; omega
theorem actS_len (S : St) (a : ActT) : (actS S a).length ≤ S.length + 1 := by
  unfold actS
  have := del_le S a.key
  split
  · split <;> omega
  · split
    · rw [Tri.put_len]; split <;> omega
    · omega
theorem fold_len (L : List ActT) (S : St) : (L.foldl actS S).length ≤ S.length + L.length := by
  induction L generalizing S with
  | nil => simp
  | cons a L ih =>
    rw [List.foldl_cons, List.length_cons]
    have := ih (actS S a)
    have := actS_len S a
    omega
theorem made_len (L : List ActT) : (madeS L).length ≤ L.length := by
  have := fold_len L []
  simpa [madeS] using this
/-- What Put refuses where there is room. -/
def fitC (k v : T) : Nat := if Tri.keyed k then (if 1 ≤ v.length ∧ v.length ≤ 32 then 0 else 2) else 1
theorem putC_fit {S : St} (h : S.length < 1024) (k v : T) : Tri.putC S k v = fitC k v := by
  unfold Tri.putC fitC
  by_cases hk : Tri.keyed k = true
  · rw [if_pos hk, if_pos hk]
    by_cases hv : 1 ≤ v.length ∧ v.length ≤ 32
    · rw [if_pos hv, if_pos ⟨hv.1, hv.2, Or.inr h⟩]
    · rw [if_neg hv, if_neg (fun e => hv ⟨e.1, e.2.1⟩)]
  · rw [if_neg hk, if_neg hk]
theorem getC_five {S : St} {k : T} (h : (Tri.getC S k).2 = 5) : Tri.keyed k = true ∧ Sto.look S k = none := by
  unfold Tri.getC at h
  split at h
  · rename_i hk
    split at h
    · cases h
    · rename_i hl; exact ⟨hk, hl⟩
  · cases h
theorem getC_put {S : St} (hS : Sto.Rising S) {k : T} (v : T) (hk : Tri.keyed k = true) : Tri.getC (Tri.put S k v) k = (v, 0) :=
  Tri.getC_some hk (by rw [Tri.look_put _ _ _ _ hS, if_pos rfl])
theorem put_len_new {S : St} (hS : Sto.Rising S) {k : T} (v : T) (hl : Sto.look S k = none) : (Tri.put S k v).length = S.length + 1 := by
  rw [Tri.put_len, if_neg (by rw [Tri.at_look hS, hl]; simp)]
end Go.Proofs.YtikabacebmbacaaDoor
namespace Go.Proofs.YtikabacebmbacaaDoor
open Go.RowKit
open Sto (T St)
open Tri (Tr)

set_option maxRecDepth 8000 in
set_option maxHeartbeats 1000000 in
theorem spoilI_any (L : St) (s : Value) (B : Nat) (w : World) (hs : OwnI w B s L) (hl : L.length ≤ 1000000) :
    Calls Tryd.prog 39 #[s] w fun e w' => e = .returned (.tuple #[]) ∧ Below B w w' := by
  have HS := Lib.hid hs
  obtain ⟨A, cap, rfl, -, -⟩ := hs.at_.form
  clear hs
  go_enter Tryd.func39, Tryd.ntmps39
  go_wp2
  go_loopw [2] (fun i wr => ∃ (k : Nat) (xs : List Value), k ≤ L.length ∧ i = .int .i64 k ∧ wr.ownsRow B 45 2 (.slice A L.length cap) L.length xs ∧ Below B w wr) (fun i _ => L.length - (intOf i).toNat)
  case atStart => exact ⟨0, _, Nat.zero_le _, rfl, HS.out, Below.refl _ _⟩
  case round =>
    obtain ⟨k, xs, hk, rfl, hown, hb⟩ := hrel
    by_cases hlt : k < L.length
    · have h1 : (k : Int) < (L.length : Int) := by omega
      have h0 : (0 : Int) ≤ (k : Int) := by omega
      have hxl : xs.length = L.length * 2 := hown.1
      obtain ⟨g, c, hv, hBg, _⟩ := World.ownsRow.form hown (by omega)
      obtain ⟨rfl, _⟩ : A = some ⟨g, 0, none⟩ ∧ _ := by simpa using hv
      have c0 := World.ownsRow.cells hown (g := g) rfl (k * 2) (xs[k * 2]'(by omega)) (List.getElem?_eq_getElem _)
      have c1 := World.ownsRow.cells hown (g := g) rfl (k * 2 + 1) (xs[k * 2 + 1]'(by omega)) (List.getElem?_eq_getElem _)
      rw [Addr.add_mid, Nat.zero_add] at c0 c1
      have f0 := World.ownsRow.frozenAt hown (k * 2)
      have f1 := World.ownsRow.frozenAt hown (k * 2 + 1)
      have HN : Hid (((wr.setCell ⟨g, k * 2, none⟩ (.string ⟨#[97, 110, 111, 116, 104, 101, 114, 32, 111, 110, 101]⟩)).setCell ⟨g, k * 2 + 1, none⟩ (.string ⟨#[]⟩)).ownsRow B 45 2 (.slice (some ⟨g, 0, none⟩) L.length cap) L.length ((xs.set (k * 2) (.string ⟨#[97, 110, 111, 116, 104, 101, 114, 32, 111, 110, 101]⟩)).set (k * 2 + 1) (.string ⟨#[]⟩))) := Lib.hid ((World.ownsRow.stored (World.ownsRow.stored hown (k * 2) _).1 (k * 2 + 1) _).1)
      have HB := Lib.hid ((hb.setCell (p := ⟨g, k * 2, none⟩) hBg (.string ⟨#[97, 110, 111, 116, 104, 101, 114, 32, 111, 110, 101]⟩)).setCell (p := ⟨g, k * 2 + 1, none⟩) hBg (.string ⟨#[]⟩))
      obtain ⟨y, hy⟩ : ∃ y, xs[k * 2]'(by omega) = y := ⟨_, rfl⟩
      obtain ⟨z, hz⟩ : ∃ z, xs[k * 2 + 1]'(by omega) = z := ⟨_, rfl⟩
      rw [hy] at c0
      rw [hz] at c1
      clear hv hown hb hy hz
      go_wp2
      exact ⟨⟨k + 1, _, by omega, by go_num, HN.out, HB.out⟩, by simp [intOf]; omega⟩
    · have h1 : ¬ ((k : Int) < (L.length : Int)) := by omega
      have HB := Lib.hid hb
      clear hown hb
      go_wp2
      go_end0
      exact ⟨rfl, HB.out⟩
set_option maxRecDepth 100000 in
set_option maxHeartbeats 2000000 in
theorem has_any {g : Nat} {S : St} (v : Value) (x : T) (w : World) (h : TrAt w g S) (hv : ItAt w v S) (hx : x.length ≤ 1000) :
    Calls Tryd.prog 17 #[ptr g, v, .string ⟨x.toArray⟩] w fun e w' => e = .returned (.bool true) ∧ Below w.heap.size w w' := by
  have HH := Lib.hid h
  have HV := Lib.hid hv
  have HF := Lib.hid h.few
  have HR := Lib.hid h.rise
  obtain ⟨A, cap, rfl, -, -⟩ := hv.form
  obtain ⟨⟨y, c⟩, hG⟩ : ∃ G, Tri.getC S x = G := ⟨_, rfl⟩
  have HG := Lib.hid hG
  unfold ptr
  clear h hv hG
  go_enter Tryd.func17, Tryd.ntmps17
  go_wp2_with fail
  refine (sitems_any w HH.out).mono ?_
  rintro e w1 ⟨z, rfl, o1, hb1⟩
  have HB1 := Lib.hid hb1
  have HO1 := Lib.hid o1
  clear o1 hb1
  go_wp2_with fail
  refine (tget_any x w1 (HH.out.below HB1.out)).mono ?_
  rintro e w2 ⟨rfl, hb2⟩
  have HB2 := Lib.hid (bchain HB1.out hb2)
  have HO2 := Lib.hid (HO1.out.below hb2)
  clear hb2
  rw [HG.out]
  go_wp2_with fail
  refine (rtGet_any S _ x w2 (RowsAt.below HV.out HB2.out) (by have := HF.out; omega) HR.out (by omega)).mono ?_
  rintro e w3 ⟨rfl, q3, hq3⟩
  have hb3 : Below w2.heap.size w2 w3 := by rw [hq3]; exact bel_drewN (Below.refl _ _) _
  have HB3 := Lib.hid (bchain HB2.out hb3)
  have HO3 := Lib.hid (HO2.out.below hb3)
  clear hb3 hq3
  rw [HG.out]
  go_wp2_with fail
  refine (sameI_any S S _ _ _ HO3.out.at_ (RowsAt.below HV.out HB3.out) (by have := HF.out; omega) (by have := HF.out; omega)).mono ?_
  rintro e w4 ⟨rfl, hb4⟩
  have HB4 := Lib.hid (bchain HB3.out hb4)
  have HO4 := Lib.hid (HO3.out.below hb4)
  have hde : decide (S = S) = true := decide_eq_true rfl
  rw [hde]
  clear hb4
  go_wp2_with fail
  refine (tlen_any w4 (HH.out.below HB4.out)).mono ?_
  rintro e w5 ⟨rfl, rfl⟩
  have e1 : ((S.length : Int) == (S.length : Int)) = true := beq_self_eq_true _
  have e2 : (y == y) = true := beq_self_eq_true _
  have e3 : ((c : Int) == (c : Int)) = true := beq_self_eq_true _
  go_wp2_with fail
  refine (spoilI_any S z w.heap.size w4 HO4.out (by have := HF.out; omega)).mono ?_
  rintro e w6 ⟨rfl, hb6⟩
  go_wp2
  go_ret
  exact ⟨rfl, HB4.out.trans hb6⟩
end Go.Proofs.YtikabacebmbacaaDoor
namespace Go.Proofs.YtikabacebmbacaaDoor
open Go.ChangeShapes Go.WideShapes Go.ChangeAt Go.RowKit

theorem gK : Tryd.prog.globalNamed "pharos/sha.constants" = some 1 := by kernel_rfl
theorem tK : (Tryd.prog.globals[1]?).map (·.type) = some 128 := by kernel_rfl
theorem cK : Tryd.prog.cellsOf 128 = 64 := by kernel_rfl
theorem cW : Tryd.prog.cellsOf 109 = 1 := by kernel_rfl
def laidK : List (String × DataW Unit) := [("pharos/sha.constants", Rows.laid_pharos_sha_constants)]
theorem tab_of_laid {W : World} (h : laidMetH Tryd.prog laidK W) : Tab W := by
  rw [MakeChecks.laidMetH_plain _ _ _ (by kernel_rfl)] at h
  obtain ⟨g, t, cs, fuel, p, hg, hty, hvar, hd⟩ := Lib.laidMet.reads h (.head _)
  obtain rfl := Option.some.inj (gK.symm.trans hg)
  obtain rfl := Option.some.inj (tK.symm.trans hty)
  have hd' : DataW.trod (fun _ => ()) Tryd.prog W 0 (fun _ => true) false fuel 128 cs.toList = some (Lib.tabData .u32 Sha.kTab, p) := hd
  have hcs := Lib.cells_of_tab Tryd.underlying128 Tryd.underlying109 cW cK hd'
  intro i hi
  have hk : i < Sha.kTab.length := hi
  rw [World.var?_cell hg hvar i, ← Array.getElem?_toList, hcs]
  simp [hk]
/-- The door's own heap meets the condition. -/
theorem door_met (os : Os) (args : Array Value) : laidMetH Tryd.prog laidK ((World.doorLaid Tryd.prog 400 os).forCall (fun _ _ => 0) ⟨#[], args, []⟩).memory :=
  laidMetH_of_parts3 (fuel := 8) (laidMet_of_run' 8 (by kernel_rfl) (by kernel_rfl)) (by kernel_rfl) (by kernel_rfl)
end Go.Proofs.YtikabacebmbacaaDoor
namespace Go.Proofs.YtikabacebmbacaaDoor
open Sto (T St)
open Tri (Tr)

theorem nodesS_texts {S : St} {t : Tr} (h : TrS S t) : nodesS S = Tri.textsL (t.nodes Nd.sumS) := by
  unfold nodesS
  rw [treeS_of h, wanted_all, ← Tri.spots_nodes Nd.sumS t [], Tri.textsL, List.map_map]
  rfl
theorem items_of {S U : St} {t u : Tr} (h : TrS S t) (h' : TrS U u) (e : t = u) : S = U := by
  subst e
  rw [← items_all h.tree, ← items_all h'.tree]
theorem nodesS_inj {S U : St} {t u : Tr} (h : TrS S t) (h' : TrS U u) (e : nodesS S = nodesS U) : S = U := by
  refine items_of h h' ?_
  rw [nodesS_texts h, nodesS_texts h'] at e
  by_cases hn : t.isNil
  · by_cases hn' : u.isNil
    · rw [Tri.isNil_eq hn, Tri.isNil_eq hn']
    · obtain ⟨r, hr⟩ := Tri.nodes_head Nd.sumS hn'
      rw [Tri.isNil_eq hn, hr] at e
      cases e
  · by_cases hn' : u.isNil
    · obtain ⟨r, hr⟩ := Tri.nodes_head Nd.sumS hn
      rw [Tri.isNil_eq hn', hr] at e
      cases e
    · exact (Tri.texts_tell Nd.sumS Tri.sumS_len h.ok.canon h.ok.fits h.ok.small hn h'.ok.canon h'.ok.fits h'.ok.small hn' (r := []) (s := []) (by rw [List.append_nil, List.append_nil]; exact e)).1
theorem rootS_nil {S : St} {t : Tr} (h : TrS S t) : rootS S = [] ↔ S = [] := by
  unfold rootS
  rw [treeS_of h]
  constructor
  · intro e
    have hn : t.isNil := Classical.byContradiction fun hn => h.ok.sum_ne hn e
    have h1 := h.tree.2.2
    rw [Tri.isNil_eq hn] at h1
    unfold Tri.paths at h1
    exact List.map_eq_nil_iff.1 h1.symm
  · intro e
    subst e
    have : t.isNil := (Tri.items_nil h.ok.canon).1 (by rw [h.tree.2.2]; rfl)
    rw [Tri.isNil_eq this]; rfl
theorem put_end {P : St} {k v : T} (h : ∀ x ∈ P, x.1 < k) : Tri.put P k v = P ++ [(k, v)] := by
  induction P with
  | nil => rfl
  | cons a r ih => rw [Tri.put, if_pos (h a (List.mem_cons_self ..)), ih fun x hx => h x (List.mem_cons_of_mem _ hx), List.cons_append]
theorem of_rest (R P : St) (hr : Sto.Rising (P ++ R)) (hf : ∀ x ∈ R, 1 ≤ x.1.length ∧ x.1.length ≤ 8 ∧ 1 ≤ x.2.length ∧ x.2.length ≤ 32) (hl : (P ++ R).length ≤ 1024) : Tri.ofR P R = (P ++ R, 0) := by
  induction R generalizing P with
  | nil => rw [Tri.ofR, List.append_nil]
  | cons a R ih =>
    have hlt : ∀ x ∈ P, x.1 < a.1 := fun x hx => (List.pairwise_append.1 hr).2.2 x hx a (List.mem_cons_self ..)
    obtain ⟨f1, f2, f3, f4⟩ := hf a (List.mem_cons_self ..)
    have hc : Tri.putC P a.1 a.2 = 0 := Tri.putC_ok (by simp [Tri.keyed, f1, f2]) ⟨f3, f4, Or.inr (by simp at hl; omega)⟩
    rw [Tri.ofR, if_pos hc, put_end hlt]
    have e : P ++ a :: R = (P ++ [a]) ++ R := by simp
    rw [e] at hr hl ⊢
    exact ih (P ++ [a]) hr (fun x hx => hf x (List.mem_cons_of_mem _ hx)) hl
theorem of_self {S : St} {t : Tr} (h : TrS S t) : Tri.ofR [] S = (S, 0) := of_rest S [] h.rise h.fair h.few
end Go.Proofs.YtikabacebmbacaaDoor
