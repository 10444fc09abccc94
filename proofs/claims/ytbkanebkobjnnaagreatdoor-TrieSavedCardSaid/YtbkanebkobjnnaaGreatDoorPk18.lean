/- TriWorks, ArgTActs, TriMade, TriMade2, BookItems, CodeFew, TriLaw, TriSave -/
import Derived.Test.YtbkanebkobjnnaaGreatDoorPk17
import Derived.Test.YtbkanebkobjnnaaGreatDoorPk03
import Derived.Deep.Slices
import Derived.DataReads
import Derived.OpenShut
import Derived.SizedLaws
import Derived.Lib.LaidU8
import Derived.BigQuiet
import Derived.Deep.RegionHeld3
import Derived.Test.YtbkanebkobjnnaaGreatDoorPk16
import Derived.Test.YtbkanebkobjnnaaGreatDoorPk02
import Derived.WalkSpells
import Derived.WalkLawsBesides
import Derived.Deep.QuietTactic
import Derived.Test.YtbkanebkobjnnaaGreatDoorPk12
import Derived.Test.YtbkanebkobjnnaaGreatDoorPk07
namespace Go.Proofs.YtbkanebkobjnnaaGreatDoor
open Go.RowKit
open Sto (T St)
open Tri (Tr Ok upd ix hb lay splitT Trim rank)
open Go.Proofs.YtbkanebkobjnnaaGreatDoor.Nd (N)

namespace Tri
def wL : St := [([97, 98], [50]), ([97], [49])]
def wS : St := [([97], [49]), ([97, 98], [50])]
def wK : St := [([107], [118])]
theorem wL_of : ofR [] wL = (wS, 0) := by decide +kernel
theorem wK_of : ofR [] wK = (wK, 0) := by decide +kernel
def wT : Tr := (Tr.leaf [6, 1] [49]).put [6, 1, 6, 2] [50]
theorem wT_tree : TreeOf wS wT := by
  have h0 : TreeOf [] .nil := ⟨trivial, trivial, rfl⟩
  have h1 : TreeOf (put [] [97] [49]) (Tr.put .nil (Nib.ofL [97]) [49]) := h0.put (by decide)
  have h2 : TreeOf (put (put [] [97] [49]) [97, 98] [50]) ((Tr.put .nil (Nib.ofL [97]) [49]).put (Nib.ofL [97, 98]) [50]) := h1.put (by decide)
  exact h2
theorem wU_tree : TreeOf wK (.leaf [6, 11] [118]) := by
  have h0 : TreeOf [] .nil := ⟨trivial, trivial, rfl⟩
  have h1 : TreeOf (put [] [107] [118]) (Tr.put .nil (Nib.ofL [107]) [118]) := h0.put (by decide)
  exact h1
theorem wT_spots (dg : N → T) : (wT.spots dg []).length = 3 := by kernel_rfl
theorem wT_nn : ¬ wT.isNil := put_nn _ _ _
theorem wU_text : Nd.written (Tr.node Nd.sumS (.leaf [6, 11] [118])) = [1, 1, 2, 32, 107, 1, 1, 118] := by decide +kernel
end Tri
theorem wanted_all (t : Tr) : wantedT (fun _ => true) t = (t.spots Nd.sumS []).map fun x => Nd.written x.2 := by
  unfold wantedT
  rw [List.filter_eq_self.2 (fun _ _ => rfl)]
/-- What a trie's nodes are. -/
theorem TrAt.tree {w : World} {g : Nat} {S : St} (h : TrAt w g S) : ∃ top t, TRow w g top S.length ∧ PAt w (Fm.from 0) true t top ∧ TrS S t := h
set_option maxRecDepth 100000 in
set_option maxHeartbeats 2000000 in
theorem tworks_any (w : World) (hT : Tab w) : Calls Tryz.prog 5 #[] w fun e w' => e = .returned (.bool true) ∧ Below w.heap.size w w' := by
  have ht1 : ItAt (w.alloc (.cells #[.string ⟨#[97, 98]⟩, .string ⟨#[50]⟩, .string ⟨#[97]⟩, .string ⟨#[49]⟩] 26)) (.slice (some ⟨w.heap.size, 0, none⟩) 2 2) Tri.wL :=
    OwnI.at_ (B := w.heap.size) ⟨rfl, Or.inr ⟨w.heap.size, 2, _, rfl, Nat.le_refl _, heap_alloc_new w _, by simp [Tri.wL], by simp [maxLen], rfl, rfl⟩⟩
  have hbA : Below w.heap.size w (w.alloc (.cells #[.string ⟨#[97, 98]⟩, .string ⟨#[50]⟩, .string ⟨#[97]⟩, .string ⟨#[49]⟩] 26)) := (Below.refl _ w).alloc (Nat.le_refl _) _
  have HO1 := Lib.hid (tof_any Tri.wL _ _ ht1 (by decide) (hT.below hbA))
  have HO2 : Hid (∀ w1, Below w.heap.size w w1 → Calls Tryz.prog 6 #[.slice (some ⟨w1.heap.size, 0, none⟩) 1 1] (w1.alloc (.cells #[.string ⟨#[107]⟩, .string ⟨#[118]⟩] 26)) (TOfPost Tri.wK (w1.alloc (.cells #[.string ⟨#[107]⟩, .string ⟨#[118]⟩] 26)))) := Lib.hid (fun w1 hb => by
    have hb2 := hb.alloc hb.size (.cells #[.string ⟨#[107]⟩, .string ⟨#[118]⟩] 26)
    exact tof_any Tri.wK _ _ (OwnI.at_ (B := w1.heap.size) ⟨rfl, Or.inr ⟨w1.heap.size, 1, _, rfl, Nat.le_refl _, heap_alloc_new w1 _, by simp [Tri.wK], by simp [maxLen], rfl, rfl⟩⟩) (by decide) (hT.below hb2))
  unfold TOfPost at HO1 HO2
  rw [Tri.wL_of] at HO1
  rw [Tri.wK_of] at HO2
  have HBA := Lib.hid hbA
  clear ht1 hbA hT
  go_enter Tryz.func5, Tryz.ntmps5
  go_wp2_with fail
  refine HO1.out.mono ?_
  rintro e w1 ⟨z1, rfl, h1, -, hb1⟩
  obtain ⟨g1, rfl, t1⟩ := h1 trivial
  have HB1 : Hid (Below w.heap.size w w1) := Lib.hid (bchain HBA.out hb1)
  have HT1 := Lib.hid t1
  clear h1 t1 hb1
  unfold ptr
  go_wp2_with fail
  refine (HO2.out w1 HB1.out).mono ?_
  rintro e w2 ⟨z2, rfl, h2, -, hb2⟩
  obtain ⟨g2, rfl, t2⟩ := h2 trivial
  have hb2' : Below w1.heap.size w1 w2 := bchain ((Below.refl _ w1).alloc (Nat.le_refl _) _) hb2
  have HB2 : Hid (Below w.heap.size w w2) := Lib.hid (bchain HB1.out hb2')
  have T1 := HT1.out.below hb2'
  obtain ⟨top1, tr1, r1, p1, s1⟩ := T1.tree
  obtain ⟨top2, tr2, r2, p2, s2⟩ := t2.tree
  have e1 : tr1 = Tri.wT := s1.tree.one Tri.wT_tree
  have e2 : tr2 = .leaf [6, 11] [118] := s2.tree.one Tri.wU_tree
  have HN2 := Lib.hid (nodes_any w2 r2 (s2.sealed p2))
  have HN1 := Lib.hid (fun w' (hb : Below w2.heap.size w2 w') => nodes_any w' (r1.below hb) ((s1.sealed p1).below hb))
  have HG1 := Lib.hid (fun w' (hb : Below w2.heap.size w2 w') => tget_any [97, 98] w' (T1.below hb))
  have HL1 := Lib.hid (fun w' (hb : Below w2.heap.size w2 w') => tlen_any w' (T1.below hb))
  have HR1 := Lib.hid (fun w' (hb : Below w2.heap.size w2 w') => troot_any w' (r1.below hb) (p1.below hb) s1.ok)
  have hsl : (tr1.sum Nd.sumS).length = 32 := s1.ok.sum_len (by rw [e1]; exact Tri.wT_nn)
  rw [wanted_all] at HN2
  have HNL : Hid ((wantedT (fun _ => true) tr1).length = 3) := Lib.hid (by rw [wanted_all, List.length_map, e1]; exact Tri.wT_spots _)
  have ht2 : (tr2.spots Nd.sumS []).map (fun x => Nd.written x.2) = [[1, 1, 2, 32, 107, 1, 1, 118]] := by
    rw [e2]
    show [Nd.written (Tr.node Nd.sumS (.leaf [6, 11] [118]))] = _
    rw [Tri.wU_text]
  rw [ht2] at HN2
  obtain ⟨WN, hWN⟩ : ∃ WN, wantedT (fun _ => true) tr1 = WN := ⟨_, rfl⟩
  rw [hWN] at HN1 HNL
  obtain ⟨RS, hRS⟩ : ∃ RS, tr1.sum Nd.sumS = RS := ⟨_, rfl⟩
  rw [hRS] at HR1 hsl
  have HG1' : Hid (∀ w', Below w2.heap.size w2 w' → Calls Tryz.prog 27 #[ptr g1, .string ⟨#[97, 98]⟩] w' fun e w'' => e = .returned (.tuple #[.string ⟨#[50]⟩, .int .i64 0]) ∧ Below w'.heap.size w' w'') := Lib.hid (fun w' hb => HG1.out w' hb)
  have HRL : Hid ((RS.length : Int) = 32) := Lib.hid (by omega)
  unfold ptr
  unfold TextsPost ptr at HN1 HN2
  unfold ptr at HG1' HL1 HR1
  clear HG1 h2 t2 hb2 hb2' T1 r1 p1 s1 r2 p2 s2 e1 e2 ht2 hWN hRS HT1
  have hrl := HRL.out
  go_wp2_with fail
  refine HN2.out.mono ?_
  rintro e w3 ⟨zn, rfl, on, hb3⟩
  have HB3 : Hid (Below w2.heap.size w2 w3) := Lib.hid hb3
  have HON := Lib.hid on
  clear on hb3
  go_wp2_with fail
  refine (HG1'.out _ HB3.out).mono ?_
  rintro e w4 ⟨rfl, hb4⟩
  have HB4 : Hid (Below w2.heap.size w2 w4) := Lib.hid (bchain HB3.out hb4)
  have on4 := HON.out.below hb4
  obtain ⟨gz, cz, ez, -, -⟩ := World.ownsRow.form on4 (by simp)
  have hc4 : w4.cell? ⟨gz, 0, none⟩ = some (.string ⟨#[1, 1, 2, 32, 107, 1, 1, 118]⟩) := World.ownsRow.cells on4 (g := gz) (by rw [ez]; rfl) 0 (.string ⟨#[1, 1, 2, 32, 107, 1, 1, 118]⟩) (by simp [scells])
  subst ez
  clear on4 hb4
  go_wp2_with fail
  refine (HL1.out _ HB4.out).mono ?_
  rintro e w5 ⟨rfl, rfl⟩
  go_wp2_with fail
  refine (HN1.out _ HB4.out).mono ?_
  rintro e w6 ⟨zw, rfl, ow, hb6⟩
  have HB6 : Hid (Below w2.heap.size w2 w6) := Lib.hid (bchain HB4.out hb6)
  obtain ⟨A6, c6, ez6⟩ := own_form ow
  rw [HNL.out] at ez6
  subst ez6
  clear ow hb6
  go_wp2_with fail
  refine (HR1.out _ HB6.out).mono ?_
  rintro e w7 ⟨rfl, hb7⟩
  have HB7 : Hid (Below w2.heap.size w2 w7) := Lib.hid (bchain HB6.out hb7)
  go_wp2
  go_ret
  exact ⟨rfl, bchain HB2.out HB7.out⟩
end Go.Proofs.YtbkanebkobjnnaaGreatDoor
namespace Go.Proofs.YtbkanebkobjnnaaGreatDoor
open Go.RowKit Go.ChangeShapes Go.WideShapes

/-- An act. -/
structure ActT where
  kind : Int
  key : List UInt8
  val : List UInt8
instance : Inhabited ActT := ⟨⟨0, [], []⟩⟩
def tactcl (s : ActT) : List Value := [.int .i64 s.kind, .string ⟨s.key.toArray⟩, .string ⟨s.val.toArray⟩]
/-- An act that fits. -/
structure OkTAct (s : ActT) : Prop where
  kind : (Lit.int .i64 s.kind).wf = true
set_option maxRecDepth 100000 in
theorem cellsTAct : Tryz.prog.cellsOf 85 = 3 := by kernel_rfl
def TActs (w : World) (v : Value) (L : List ActT) : Prop :=
  ∃ (A : Option Addr) (cap : Nat), v = .slice A L.length cap ∧ (0 < L.length → ∃ b o, A = some ⟨b, o, none⟩ ∧ b < w.heap.size ∧ ∀ i (h : i < L.length),
    w.cell? ⟨b, o + i * 3, none⟩ = some (.int .i64 L[i].kind) ∧ w.cell? ⟨b, o + i * 3 + 1, none⟩ = some (.string ⟨L[i].key.toArray⟩) ∧ w.cell? ⟨b, o + i * 3 + 2, none⟩ = some (.string ⟨L[i].val.toArray⟩))
theorem TActs.below {w w' : World} {v : Value} {L : List ActT} (h : TActs w v L) (hb : Below w.heap.size w w') : TActs w' v L := by
  obtain ⟨A, cap, rfl, hc⟩ := h
  refine ⟨A, cap, rfl, fun h0 => ?_⟩
  obtain ⟨b, o, rfl, hlt, hcell⟩ := hc h0
  refine ⟨b, o, rfl, Nat.lt_of_lt_of_le hlt hb.size, fun i hi => ?_⟩
  obtain ⟨h1, h2, h3⟩ := hcell i hi
  exact ⟨(hb.cell hlt).trans h1, (hb.cell hlt).trans h2, (hb.cell hlt).trans h3⟩
theorem TActs.form {w : World} {v : Value} {L : List ActT} (h : TActs w v L) : ∃ A cap, v = .slice A L.length cap := by
  obtain ⟨A, cap, rfl, _⟩ := h
  exact ⟨A, cap, rfl⟩
theorem TActs.at {w w' : World} {A : Option Addr} {n cap : Nat} {L : List ActT} (h : TActs w (.slice A n cap) L) (hb : Below w.heap.size w w') (k : Nat) (hk : k < L.length) :
    ∃ b o, A = some ⟨b, o, none⟩ ∧ b < w.heap.size ∧ w'.cell? ⟨b, o + k * 3, none⟩ = some (.int .i64 L[k].kind) ∧ w'.cell? ⟨b, o + k * 3 + 1, none⟩ = some (.string ⟨L[k].key.toArray⟩) ∧ w'.cell? ⟨b, o + k * 3 + 2, none⟩ = some (.string ⟨L[k].val.toArray⟩) := by
  obtain ⟨A0, cap0, hv0, hc0⟩ := h
  obtain ⟨rfl, rfl, rfl⟩ : A = A0 ∧ n = L.length ∧ cap = cap0 := by simpa using hv0
  obtain ⟨b, o, rfl, hlt, hcell⟩ := hc0 (by omega)
  obtain ⟨h1, h2, h3⟩ := hcell k hk
  exact ⟨b, o, rfl, hlt, (hb.cell hlt).trans h1, (hb.cell hlt).trans h2, (hb.cell hlt).trans h3⟩

set_option maxRecDepth 100000 in
theorem tact_cells {H : Type} {enc : TypeId × Value → H} {W : World} {fuel : Nat} {cs : List Value} {x : DataW H × List MemPlace} (ht : DataW.trod enc Tryz.prog W 0 (fun _ => true) true fuel 85 cs = some x) :
    ∃ s : ActT, cs = tactcl s ∧ OkTAct s := by
  obtain ⟨ys, n', _, hy, hcl, hyl, hfs⟩ := DataW.trod_struct Tryz.underlying85 ht
  rw [cellsTAct] at hcl
  match cs, hcl, ys, hyl with
  | [v0, v1, v2], _, [y0, y1, y2], _ =>
    have g0 := hfs 0 _ rfl
    have g1 := hfs 1 _ rfl
    have g2 := hfs 2 _ rfl
    simp [cellsI, cellsS] at g0 g1 g2
    obtain ⟨k, e0, _, k0⟩ := DataW.trod_int Tryz.underlying3 g0
    obtain ⟨s1, e1, _, _⟩ := DataW.trod_string Tryz.underlying9 g1
    obtain ⟨s2, e2, _, _⟩ := DataW.trod_string Tryz.underlying9 g2
    obtain rfl : v0 = .int .i64 k := by simpa using e0
    obtain rfl : v1 = .string s1 := by simpa using e1
    obtain rfl : v2 = .string s2 := by simpa using e2
    exact ⟨⟨k, s1.data.toList, s2.data.toList⟩, by simp [tactcl], ⟨k0⟩⟩
set_option maxRecDepth 100000 in
theorem tacts_open {H : Type} {enc : TypeId × Value → H} {W : World} {r : Reach} {b0 : Nat} {v : Value} {d : DataW H} {p : List MemPlace}
    (hv : Value.okWide Tryz.prog W r b0 49 v) (h : DataW.Trod enc Tryz.prog W 0 (fun _ => true) true 49 v d p)
    (hz : ∀ n ∈ d.weights Tryz.prog 49, n ≤ reachBytes) :
    ∃ L, TActs W v L ∧ L.length * 40 ≤ reachBytes ∧ ∀ s ∈ L, OkTAct s := by
  obtain ⟨a0, len, cap, rfl⟩ := okWide_slice Tryz.underlying49 hv
  obtain ⟨fuel, hf⟩ := h
  rcases Go.Deep.open_slice Tryz.underlying49 hf with ⟨hcs, _⟩ | ⟨x, l, c, m, n, D, Pl, hcs, _, hl, hm, hmm, hx, hel⟩
  · simp [Value.cells] at hcs
    obtain ⟨rfl, rfl, rfl⟩ := hcs
    exact ⟨[], ⟨none, 0, rfl, fun h => absurd h (by simp)⟩, by simp, fun n hn => by simp at hn⟩
  · simp [Value.cells] at hcs
    obtain ⟨rfl, rfl, rfl⟩ := hcs
    simp only [if_true] at hmm
    subst hmm
    rw [cellsTAct] at hel hx
    obtain ⟨hd, -⟩ := Prod.mk.inj hx
    have hlen40 : len * 40 ≤ reachBytes := by
      have h1 := hz ((((List.range len).map D).length + ((List.range (m - len)).map fun j => D (len + j)).length) * Tryz.prog.bytesOf 85) (by
        rw [hd]; simp [DataW.weights, Tryz.underlying49])
      rw [show Tryz.prog.bytesOf 85 = 40 from by kernel_rfl] at h1
      simp only [List.length_map, List.length_range] at h1
      omega
    have key : ∀ i, i < len → ∃ q : ActT, OkTAct q ∧ W.cell? ((x.add (i * 3)).add 0) = some (.int .i64 q.kind) ∧ W.cell? ((x.add (i * 3)).add 1) = some (.string ⟨q.key.toArray⟩) ∧ W.cell? ((x.add (i * 3)).add 2) = some (.string ⟨q.val.toArray⟩) := fun i hi => by
      obtain ⟨cs', hc, ht⟩ := hel i (by omega)
      obtain ⟨_, _, hat⟩ := World.cells?_some hc
      obtain ⟨q, rfl, hok⟩ := tact_cells ht
      refine ⟨q, hok, ?_, ?_, ?_⟩
      · simpa [tactcl] using hat 0 (by omega)
      · simpa [tactcl] using hat 1 (by omega)
      · simpa [tactcl] using hat 2 (by omega)
    obtain ⟨f, hf⟩ := Go.Deep.choose_lt (fun i hi => key i hi)
    have hlen : ((List.range len).map f).length = len := by simp
    refine ⟨(List.range len).map f, ⟨some x, _, by rw [hlen], fun h0 => ?_⟩, by rw [hlen]; exact hlen40, ?_⟩
    · rw [hlen] at h0
      obtain ⟨b, o, sp⟩ := x
      obtain ⟨_, q0, _⟩ := hf 0 h0
      have hcell' : W.cell? ⟨b, o, sp⟩ = some (.int .i64 (f 0).kind) := by simpa [Addr.add] using q0
      obtain rfl := cell_spot hcell'
      refine ⟨b, o, rfl, block_lt_of_cell hcell', fun i hi => ?_⟩
      rw [hlen] at hi
      obtain ⟨_, q0, q1, q2⟩ := hf i hi
      rw [Addr.add_mid, Addr.add_mid] at q0 q1 q2
      simpa using ⟨q0, q1, q2⟩
    · intro n hn
      obtain ⟨i, hi, rfl⟩ := List.mem_map.1 hn
      exact (hf i (List.mem_range.1 hi)).1
end Go.Proofs.YtbkanebkobjnnaaGreatDoor
namespace Go.Proofs.YtbkanebkobjnnaaGreatDoor
open Go.RowKit
open Sto (T St)
open Tri (Tr)

/-- One act on items. -/
def actS (S : St) (a : ActT) : St := if 1 < a.kind then (if (Tri.getC S a.key).2 = 0 then Tri.del S a.key else S) else (if Tri.putC S a.key a.val = 0 then Tri.put S a.key a.val else S)
def madeS (L : List ActT) : St := L.foldl actS []
theorem made_step {L : List ActT} {k : Nat} (hk : k < L.length) : madeS (L.take (k + 1)) = actS (madeS (L.take k)) L[k] := by
  unfold madeS
  rw [List.take_succ_eq_append_getElem hk, List.foldl_append]
  rfl
def longB (L : List ActT) (m : Nat) : Bool := decide (m < L.length) || L.any fun a => decide (100 < a.key.length) || decide (100 < a.val.length)
theorem long_no {L : List ActT} {m : Nat} (h : longB L m = false) : L.length ≤ m ∧ ∀ a ∈ L, a.key.length ≤ 100 ∧ a.val.length ≤ 100 := by
  simp only [longB, Bool.or_eq_false_iff, decide_eq_false_iff_not, List.any_eq_false, Bool.or_eq_true, decide_eq_true_eq, not_or] at h
  exact ⟨by omega, fun a ha => by have := h.2 a ha; omega⟩
set_option maxRecDepth 8000 in
set_option maxHeartbeats 1000000 in
theorem long_any (L : List ActT) (m : Nat) (v : Value) (w : World) (hv : TActs w v L) (hm : m ≤ 100) :
    Calls Tryz.prog 21 #[v, .int .i64 m] w fun e w' => e = .returned (.bool (longB L m)) ∧ Below w.heap.size w w' := by
  have HV := Lib.hid hv
  obtain ⟨A, cap, rfl⟩ := hv.form
  clear hv
  by_cases hlm : m < L.length
  · have h1 : (L.length : Int) > (m : Int) := by omega
    have hd : decide ((m : Int) < (L.length : Int)) = true := decide_eq_true (by omega)
    have hd2 : decide (m < L.length) = true := decide_eq_true hlm
    have e : longB L m = true := by simp [longB, hlm]
    rw [e]
    clear e hlm
    go_enter Tryz.func21, Tryz.ntmps21
    go_wp2
    go_ret
    exact ⟨rfl, Below.refl _ _⟩
  · have h1 : ¬ ((L.length : Int) > (m : Int)) := by omega
    have hd : decide ((m : Int) < (L.length : Int)) = false := decide_eq_false (by omega)
    have hd2 : decide (m < L.length) = false := decide_eq_false hlm
    have hlen : L.length ≤ 100 := by omega
    have HLB : Hid (∀ b, (L.any fun a => decide (100 < a.key.length) || decide (100 < a.val.length)) = b → longB L m = b) := Lib.hid (fun b hb => by rw [longB, hd2, hb]; rfl)
    obtain ⟨RB, hRB⟩ : ∃ RB, longB L m = RB := ⟨_, rfl⟩
    rw [hRB] at HLB ⊢
    clear hRB hlm
    go_enter Tryz.func21, Tryz.ntmps21
    go_wp2
    go_loopw [5] (fun i wr => ∃ k : Nat, k ≤ L.length ∧ i = .int .i64 k ∧ (∀ j (hj : j < k) (hj2 : j < L.length), L[j].key.length ≤ 100 ∧ L[j].val.length ≤ 100) ∧ Below w.heap.size w wr) (fun i _ => L.length - (intOf i).toNat)
    case atStart => exact ⟨0, Nat.zero_le _, rfl, fun j hj => absurd hj (Nat.not_lt_zero _), Below.refl _ _⟩
    case round =>
      obtain ⟨k, hk, rfl, hall, hb⟩ := hrel
      have HALL := Lib.hid hall
      have HB := Lib.hid hb
      by_cases hlt : k < L.length
      · have g1 : (k : Int) < (L.length : Int) := by omega
        have g0 : (0 : Int) ≤ (k : Int) := by omega
        obtain ⟨b, o, rfl, -, -, n1, n2⟩ := HV.out.at hb k hlt
        have HANY : Hid (100 < L[k].key.length ∨ 100 < L[k].val.length → (L.any fun a => decide (100 < a.key.length) || decide (100 < a.val.length)) = true) := Lib.hid (fun h => List.any_eq_true.2 ⟨L[k], List.getElem_mem hlt, by simpa using h⟩)
        have HKK : Hid (L[k].key.length ≤ 100 → L[k].val.length ≤ 100 → ∀ j (hj : j < k + 1) (hj2 : j < L.length), L[j].key.length ≤ 100 ∧ L[j].val.length ≤ 100) := Lib.hid (fun a1 a2 j hj hj2 => by
          by_cases e : j < k
          · exact HALL.out j e hj2
          · obtain rfl : j = k := by omega
            exact ⟨a1, a2⟩)
        obtain ⟨x, hx⟩ : ∃ x, L[k].key = x := ⟨_, rfl⟩
        obtain ⟨y, hy⟩ : ∃ y, L[k].val = y := ⟨_, rfl⟩
        rw [hx] at n1
        rw [hy] at n2
        rw [hx, hy] at HANY HKK
        clear hall hb hx hy
        by_cases hx1 : 100 < x.length
        · have q1 : (x.length : Int) > 100 := by omega
          have q2 : decide ((100 : Int) < (x.length : Int)) = true := decide_eq_true (by omega)
          have q3 : decide (100 < x.length) = true := decide_eq_true hx1
          have HE := Lib.hid (HLB.out _ (HANY.out (Or.inl hx1)))
          clear hx1
          go_wp2
          go_ret
          exact ⟨by rw [HE.out]; rfl, HB.out⟩
        · have q1 : ¬ ((x.length : Int) > 100) := by omega
          have q2 : decide ((100 : Int) < (x.length : Int)) = false := decide_eq_false (by omega)
          have q3 : decide (100 < x.length) = false := decide_eq_false hx1
          have HX1 := Lib.hid hx1
          clear hx1
          by_cases hy1 : 100 < y.length
          · have p1 : (y.length : Int) > 100 := by omega
            have p2 : decide ((100 : Int) < (y.length : Int)) = true := decide_eq_true (by omega)
            have p3 : decide (100 < y.length) = true := decide_eq_true hy1
            have HE := Lib.hid (HLB.out _ (HANY.out (Or.inr hy1)))
            clear hy1
            go_wp2
            go_ret
            exact ⟨by rw [HE.out]; rfl, HB.out⟩
          · have p1 : ¬ ((y.length : Int) > 100) := by omega
            have p2 : decide ((100 : Int) < (y.length : Int)) = false := decide_eq_false (by omega)
            have p3 : decide (100 < y.length) = false := decide_eq_false hy1
            have HKN := Lib.hid (HKK.out (by have := HX1.out; omega) (by omega))
            clear hy1
            go_wp2
            exact ⟨⟨k + 1, by omega, by go_num, HKN.out, HB.out⟩, by simp [intOf]; omega⟩
      · have g1 : ¬ ((k : Int) < (L.length : Int)) := by omega
        obtain rfl : k = L.length := by omega
        have HE : Hid (RB = false) := Lib.hid (HLB.out _ (by
          rw [List.any_eq_false]
          intro a ha
          obtain ⟨j, hj, rfl⟩ := List.mem_iff_getElem.1 ha
          have := HALL.out j hj hj
          simp; omega))
        clear hall hb
        go_wp2
        go_ret
        exact ⟨by rw [HE.out]; rfl, HB.out⟩
end Go.Proofs.YtbkanebkobjnnaaGreatDoor
namespace Go.Proofs.YtbkanebkobjnnaaGreatDoor
open Go.RowKit
open Sto (T St)
open Tri (Tr)

set_option maxRecDepth 100000 in
set_option maxHeartbeats 4000000 in
theorem made_any (L : List ActT) (v : Value) (w : World) (hv : TActs w v L) (hl : L.length ≤ 30) (hT : Tab w) :
    Calls Tryz.prog 23 #[v] w fun e w' => ∃ g, e = .returned (ptr g) ∧ TrAt w' g (madeS L) ∧ Below w.heap.size w w' := by
  have HV := Lib.hid hv
  have HT := Lib.hid hT
  have HNW := Lib.hid (tnew_any w)
  unfold ptr at HNW ⊢
  obtain ⟨A, cap, rfl⟩ := hv.form
  clear hv hT
  go_enter Tryz.func23, Tryz.ntmps23
  go_wp2_with fail
  refine HNW.out.mono ?_
  rintro e w1 ⟨g0, rfl, ht0, -, hb1⟩
  have HB1 := Lib.hid hb1
  have H0 := Lib.hid ht0
  clear ht0 hb1
  go_wp2
  go_loopw [3, 4] (fun av iv wr => ∃ (k : Nat) (gk : Nat), av = .pointer (some ⟨gk, 0, none⟩) ∧ k ≤ L.length ∧ iv = .int .i64 k ∧ TrAt wr gk (madeS (L.take k)) ∧ Below w.heap.size w wr) (fun _ i _ => L.length - (intOf i).toNat)
  case atStart => exact ⟨0, g0, rfl, Nat.zero_le _, rfl, H0.out, HB1.out⟩
  case round =>
    obtain ⟨k, gk, rfl, hk, rfl, htr, hb⟩ := hrel
    have HB := Lib.hid hb
    have HTR := Lib.hid htr
    by_cases hlt : k < L.length
    · have h1 : (k : Int) < (L.length : Int) := by omega
      have h0 : (0 : Int) ≤ (k : Int) := by omega
      have h30 : (k : Int) < 30 := by omega
      have HMS := Lib.hid (made_step hlt)
      have HC : Hid (∃ b o, A = some ⟨b, o, none⟩ ∧ ∀ w', Below w.heap.size w w' → w'.cell? ⟨b, o + k * 3, none⟩ = some (.int .i64 L[k].kind) ∧ w'.cell? ⟨b, o + k * 3 + 1, none⟩ = some (.string ⟨L[k].key.toArray⟩) ∧ w'.cell? ⟨b, o + k * 3 + 2, none⟩ = some (.string ⟨L[k].val.toArray⟩)) := Lib.hid (by
        obtain ⟨b, o, e, -, -, -, -⟩ := HV.out.at (Below.refl _ _) k hlt
        refine ⟨b, o, e, fun w' hb' => ?_⟩
        obtain ⟨b2, o2, e2, -, q⟩ := HV.out.at hb' k hlt
        cases e.symm.trans e2
        exact q)
      obtain ⟨b, o, rfl, hcell⟩ := HC.out
      obtain ⟨S, hS⟩ : ∃ S, madeS (L.take k) = S := ⟨_, rfl⟩
      rw [hS] at HTR HMS
      obtain ⟨⟨kd, x, y⟩, ha⟩ : ∃ a, L[k] = a := ⟨_, rfl⟩
      rw [ha] at hcell HMS
      dsimp only at hcell
      have HCE := Lib.hid hcell
      have HPU : Hid (∀ w', Below wr.heap.size wr w' → Calls Tryz.prog 47 #[ptr gk, .string ⟨x.toArray⟩, .string ⟨y.toArray⟩] w' fun e w'' => ∃ z, e = .returned (.tuple #[z, .int .i64 (Tri.putC S x y)]) ∧ (Tri.putC S x y = 0 → ∃ g', z = ptr g' ∧ TrAt w'' g' (Tri.put S x y)) ∧ (Tri.putC S x y ≠ 0 → z = nilp) ∧ Below wr.heap.size wr w'') := Lib.hid (fun w' hb' =>
        (tput_any x y w' (HTR.out.below hb') (HT.out.below (bchain HB.out hb'))).mono fun e w'' ⟨z, q1, q2, q3, q4⟩ => ⟨z, q1, q2, q3, bchain hb' q4⟩)
      have HDE : Hid (∀ w', Below wr.heap.size wr w' → Calls Tryz.prog 48 #[ptr gk, .string ⟨x.toArray⟩] w' fun e w'' => ∃ z, e = .returned (.tuple #[z, .int .i64 (Tri.getC S x).2]) ∧ ((Tri.getC S x).2 = 0 → ∃ g', z = ptr g' ∧ TrAt w'' g' (Tri.del S x)) ∧ ((Tri.getC S x).2 ≠ 0 → z = nilp) ∧ Below wr.heap.size wr w'') := Lib.hid (fun w' hb' =>
        (tdel_any x w' (HTR.out.below hb') (HT.out.below (bchain HB.out hb'))).mono fun e w'' ⟨z, q1, q2, q3, q4⟩ => ⟨z, q1, q2, q3, bchain hb' q4⟩)
      have HCW : Hid (∀ w', Below wr.heap.size wr w' → w'.cell? ⟨b, o + k * 3, none⟩ = some (.int .i64 kd) ∧ w'.cell? ⟨b, o + k * 3 + 1, none⟩ = some (.string ⟨x.toArray⟩) ∧ w'.cell? ⟨b, o + k * 3 + 2, none⟩ = some (.string ⟨y.toArray⟩)) := Lib.hid (fun w' hb' => HCE.out w' (bchain HB.out hb'))
      unfold ptr at HPU HDE
      have BD : Below wr.heap.size wr wr.drew := (Below.refl _ _).drew
      obtain ⟨c0, c1, c2⟩ := HCW.out _ BD
      have HBW : Hid (∀ w', Below wr.heap.size wr w' → Below w.heap.size w w') := Lib.hid (fun w' hb' => bchain HB.out hb')
      obtain ⟨cp, hcp⟩ : ∃ cp, Tri.putC S x y = cp := ⟨_, rfl⟩
      obtain ⟨cd, hcd⟩ : ∃ cd, (Tri.getC S x).2 = cd := ⟨_, rfl⟩
      rw [hcp] at HPU
      rw [hcd] at HDE
      have HCP := Lib.hid hcp
      have HCD := Lib.hid hcd
      have HHB : Hid (o + k * 3 + 0 = o + k * 3) := Lib.hid rfl
      clear htr hb hcell hS ha hcp hcd HC
      by_cases hkd : 1 < kd
      · have k1 : kd > 1 := hkd
        have k2 : decide ((1 : Int) < kd) = true := decide_eq_true hkd
        have HKD := Lib.hid hkd
        have HAS : Hid (actS S ⟨kd, x, y⟩ = if cd = 0 then Tri.del S x else S) := Lib.hid (by rw [← HCD.out]; exact if_pos HKD.out)
        clear hkd
        go_upto_region 5 with fail
        go_region_held3 (fun w' => w'.cell? ⟨b, o + k * 3 + 1, none⟩ = some (.string ⟨x.toArray⟩) ∧ w'.cell? ⟨b, o + k * 3 + 2, none⟩ = some (.string ⟨y.toArray⟩))
          ((first | (with_reducible exact ⟨c1, c2⟩) | (refine (HCW.out _ ?_).2; with_reducible assumption)))
          ((go_at_call 47; refine (HPU.out _ ?_).mono ?_; (with_reducible exact BD); rintro e w6 ⟨z1, rfl, -, -, hb6⟩))
        all_goals
          obtain ⟨d0, d1, d2⟩ := HCW.out _ hb6
          have HB6 := Lib.hid hb6
          clear c0 c1 c2 hb6
          go_wp2_with fail
          refine (HDE.out _ HB6.out).mono ?_
          rintro e w7 ⟨z2, rfl, hz1, hz0, hb7⟩
          have HB7 := Lib.hid hb7
          by_cases hc : cd = 0
          · obtain ⟨g', rfl, ht⟩ := hz1 hc
            subst hc
            have HTN := Lib.hid ht
            clear hz1 hz0 hb7 ht
            go_wp2
            exact ⟨⟨k + 1, g', rfl, by omega, by go_num, by rw [HMS.out, HAS.out]; simpa using HTN.out, HBW.out _ HB7.out⟩, by simp [intOf]; omega⟩
          · have e0 : ((cd : Int) == 0) = false := by rw [beq_eq_false_iff_ne]; omega
            have e1 : z2 = .pointer none := hz0 hc
            subst e1
            have HC0 := Lib.hid hc
            clear hz1 hz0 hb7 hc
            go_wp2
            exact ⟨⟨k + 1, gk, rfl, by omega, by go_num, by rw [HMS.out, HAS.out, if_neg HC0.out]; exact HTR.out.below HB7.out, HBW.out _ HB7.out⟩, by simp [intOf]; omega⟩
      · have k1 : ¬ (kd > 1) := hkd
        have k2 : decide ((1 : Int) < kd) = false := decide_eq_false hkd
        have HKD := Lib.hid hkd
        have HAS : Hid (actS S ⟨kd, x, y⟩ = if cp = 0 then Tri.put S x y else S) := Lib.hid (by rw [← HCP.out]; exact if_neg HKD.out)
        clear hkd
        go_upto_region 5 with fail
        go_region_held3 (fun w' => w'.cell? ⟨b, o + k * 3 + 1, none⟩ = some (.string ⟨x.toArray⟩) ∧ w'.cell? ⟨b, o + k * 3 + 2, none⟩ = some (.string ⟨y.toArray⟩))
          ((first | (with_reducible exact ⟨c1, c2⟩) | (refine (HCW.out _ ?_).2; with_reducible assumption)))
          ((go_at_call 47; refine (HPU.out _ ?_).mono ?_; (with_reducible exact BD); rintro e w6 ⟨z1, rfl, hz1, hz0, hb6⟩))
        all_goals
          obtain ⟨d0, d1, d2⟩ := HCW.out _ hb6
          have HB6 := Lib.hid hb6
          clear c0 c1 c2
          by_cases hc : cp = 0
          · obtain ⟨g', rfl, ht⟩ := hz1 hc
            subst hc
            have HTN := Lib.hid ht
            clear hz1 hz0 hb6 ht
            go_wp2
            exact ⟨⟨k + 1, g', rfl, by omega, by go_num, by rw [HMS.out, HAS.out]; simpa using HTN.out, HBW.out _ HB6.out⟩, by simp [intOf]; omega⟩
          · have e0 : ((cp : Int) == 0) = false := by rw [beq_eq_false_iff_ne]; omega
            have e1 : z1 = .pointer none := hz0 hc
            subst e1
            have HC0 := Lib.hid hc
            clear hz1 hz0 hb6 hc
            go_wp2
            exact ⟨⟨k + 1, gk, rfl, by omega, by go_num, by rw [HMS.out, HAS.out, if_neg HC0.out]; exact HTR.out.below HB6.out, HBW.out _ HB6.out⟩, by simp [intOf]; omega⟩
    · obtain rfl : k = L.length := by omega
      have h1 : ¬ ((L.length : Int) < (L.length : Int)) := by omega
      rw [List.take_length] at HTR
      clear htr hb
      go_wp2
      go_ret
      exact ⟨gk, rfl, HTR.out, HB.out⟩
end Go.Proofs.YtbkanebkobjnnaaGreatDoor
namespace Go.Proofs.YtbkanebkobjnnaaGreatDoor
open Go.RowKit
open Sto (T St)

theorem take_snoc_it {L K : St} {k : Nat} (h1 : k < L.length) (h2 : k < K.length) : L.take (k + 1) = K.take (k + 1) ↔ L.take k = K.take k ∧ L[k] = K[k] := by
  rw [List.take_succ_eq_append_getElem h1, List.take_succ_eq_append_getElem h2]
  constructor
  · intro h
    have := List.append_inj' h rfl
    exact ⟨this.1, by simpa using this.2⟩
  · rintro ⟨a, b⟩
    rw [a, b]

set_option maxRecDepth 8000 in
set_option maxHeartbeats 2000000 in
theorem sameI_in (L K : St) (u v : Value) (w : World) (hu : ItIn w u L) (hv : ItIn w v K) (hl : L.length ≤ 1000000) (hk : K.length ≤ 1000000) :
    Calls Tryz.prog 8 #[u, v] w fun x w' => x = .returned (.bool (decide (L = K))) ∧ Below w.heap.size w w' := by
  have HU := Lib.hid hu
  have HV := Lib.hid hv
  obtain ⟨A, cap, rfl, -, -⟩ := hu.form
  obtain ⟨B, cap2, rfl, -, -⟩ := hv.form
  clear hu hv
  by_cases he : L.length = K.length
  · have h0 : ((L.length : Int) == (K.length : Int)) = true := by rw [beq_iff_eq]; omega
    have HE := Lib.hid he
    go_enter Tryz.func8, Tryz.ntmps8
    go_wp2
    go_loopw [5, 6] (fun s i wr => ∃ k : Nat, k ≤ L.length ∧ s = .bool (decide (L.take k = K.take k)) ∧ i = .int .i64 k ∧ Below w.heap.size w wr ∧ (L.take k ≠ K.take k → L ≠ K)) (fun _ i _ => L.length - (intOf i).toNat)
    case atStart => exact ⟨0, Nat.zero_le _, by simp, rfl, Below.refl _ _, by simp⟩
    case round =>
      obtain ⟨k, hk, rfl, rfl, hbel, hno⟩ := hrel
      have HN := Lib.hid hno
      have HB := Lib.hid hbel
      clear hno hbel
      rcases htk : decide (L.take k = K.take k) with _ | _
      · have HT := Lib.hid htk
        clear htk
        go_wp2
        go_ret
        refine ⟨?_, HB.out⟩
        have h := HN.out (of_decide_eq_false HT.out)
        rw [decide_eq_false h]
        rfl
      · have HT := Lib.hid htk
        clear htk
        by_cases hlt : k < L.length
        · have h1 : (k : Int) < (L.length : Int) := by omega
          have h2 : (k : Int) < (K.length : Int) := by omega
          have h3 : (0 : Int) ≤ (k : Int) := by omega
          obtain ⟨b, o, rfl, n0, n1⟩ := ItIn.at (RowsIn.below HU.out HB.out) k hlt
          obtain ⟨b2, o2, rfl, m0, m1⟩ := ItIn.at (RowsIn.below HV.out HB.out) k (by omega)
          have HSN := Lib.hid (take_snoc_it hlt (show k < K.length by omega))
          have HNE : Hid (∀ h : k < K.length, L[k] ≠ K[k] → L ≠ K) := Lib.hid (fun _ h e => by subst e; exact h rfl)
          obtain ⟨⟨x, p⟩, hx⟩ : ∃ m, L[k] = m := ⟨_, rfl⟩
          obtain ⟨⟨y, q⟩, hy⟩ : ∃ m, K[k]'(by omega) = m := ⟨_, rfl⟩
          rw [hx] at n0 n1
          rw [hy] at m0 m1
          rw [hx, hy] at HSN
          rw [hx] at HNE
          have HNE2 : Hid (((x, p) : T × T) ≠ (y, q) → L ≠ K) := Lib.hid (by have := HNE.out (by omega); rwa [hy] at this)
          dsimp only at n0 n1 m0 m1
          clear hx hy HNE
          by_cases exy : x = y
          · have e1 : (x == y) = true := by rw [beq_iff_eq]; exact exy
            have EXY := Lib.hid exy
            clear exy
            by_cases epq : p = q
            · have e2 : (p == q) = true := by rw [beq_iff_eq]; exact epq
              have HR : Hid (decide (L.take (k + 1) = K.take (k + 1)) = true) := Lib.hid (decide_eq_true (HSN.out.2 ⟨of_decide_eq_true HT.out, by rw [EXY.out, epq]⟩))
              clear epq
              go_wp2
              go_quiet (fail)
              go_wp2
              go_roundw
              case rel => exact ⟨k + 1, by omega, by rw [HR.out], by go_num, bel_drewN HB.out _, fun h => absurd (of_decide_eq_true HR.out) h⟩
              case measure => simp [intOf]; omega
            · have e2 : (p == q) = false := by rw [beq_eq_false_iff_ne]; exact epq
              have HD : Hid (L ≠ K) := Lib.hid (HNE2.out (fun e => epq (congrArg Prod.snd e)))
              have HR : Hid (decide (L.take (k + 1) = K.take (k + 1)) = false) := Lib.hid (decide_eq_false (fun h => epq (congrArg Prod.snd (HSN.out.1 h).2)))
              clear epq
              go_wp2
              go_quiet (fail)
              go_wp2
              go_roundw
              case rel => exact ⟨k + 1, by omega, by rw [HR.out], by go_num, bel_drewN HB.out _, fun _ => HD.out⟩
              case measure => simp [intOf]; omega
          · have e1 : (x == y) = false := by rw [beq_eq_false_iff_ne]; exact exy
            have HD : Hid (L ≠ K) := Lib.hid (HNE2.out (fun e => exy (congrArg Prod.fst e)))
            have HR : Hid (decide (L.take (k + 1) = K.take (k + 1)) = false) := Lib.hid (decide_eq_false (fun h => exy (congrArg Prod.fst (HSN.out.1 h).2)))
            clear exy
            go_wp2
            go_quiet (fail)
            go_wp2
            go_roundw
            case rel => exact ⟨k + 1, by omega, by rw [HR.out], by go_num, bel_drewN HB.out _, fun _ => HD.out⟩
            case measure => simp [intOf]; omega
        · have h1 : ¬ ((k : Int) < (L.length : Int)) := by omega
          have HR : Hid (decide (L = K) = true) := Lib.hid (decide_eq_true (by
            have := of_decide_eq_true HT.out
            rwa [List.take_of_length_le (by omega), List.take_of_length_le (by omega)] at this))
          go_wp2
          go_ret
          exact ⟨by rw [HR.out]; rfl, HB.out⟩
  · have h0 : ((L.length : Int) == (K.length : Int)) = false := by rw [beq_eq_false_iff_ne]; omega
    have HD : Hid (decide (L = K) = false) := Lib.hid (decide_eq_false (fun e => he (by rw [e])))
    clear he
    go_enter Tryz.func8, Tryz.ntmps8
    go_wp2
    go_loopw [5, 6] (fun s i wr => s = .bool false ∧ i = .int .i64 0 ∧ Below w.heap.size w wr) (fun _ _ _ => 0)
    case atStart => exact ⟨rfl, rfl, Below.refl _ _⟩
    case round =>
      obtain ⟨rfl, rfl, hb⟩ := hrel
      go_wp2
      go_ret
      exact ⟨by rw [HD.out]; rfl, hb⟩

theorem sameI_any (L K : St) (u v : Value) (w : World) (hu : ItAt w u L) (hv : ItAt w v K) (hl : L.length ≤ 1000000) (hk : K.length ≤ 1000000) :
    Calls Tryz.prog 8 #[u, v] w fun x w' => x = .returned (.bool (decide (L = K))) ∧ Below w.heap.size w w' := sameI_in L K u v w hu.inn hv.inn hl hk
end Go.Proofs.YtbkanebkobjnnaaGreatDoor
namespace Go.Proofs.YtbkanebkobjnnaaGreatDoor
open Go.RowKit

def Code.few (L : List (List UInt8)) (n e : Nat) : Bool := decide (L.length ≤ n) && L.all fun s => decide (s.length ≤ e)
theorem Code.take_snoc_eq {L M : List (List UInt8)} {k : Nat} (h1 : k < L.length) (h2 : k < M.length) : L.take (k + 1) = M.take (k + 1) ↔ L.take k = M.take k ∧ L[k] = M[k] := by
  rw [List.take_succ_eq_append_getElem h1, List.take_succ_eq_append_getElem h2]
  constructor
  · intro h
    have := List.append_inj' h rfl
    exact ⟨this.1, by simpa using this.2⟩
  · rintro ⟨a, b⟩
    rw [a, b]

set_option maxHeartbeats 400000 in
theorem same_any (L M : List (List UInt8)) (u v : Value) (w : World) (hu : Strs w u L) (hv : Strs w v M) (hl : L.length ≤ 100000000) (hm : M.length ≤ maxLen) :
    Calls Tryz.prog 11 #[u, v] w fun x w' => x = .returned (.bool (decide (L = M))) ∧ Below w.heap.size w w' := by
  obtain ⟨A, cap, rfl, hc⟩ := hu
  obtain ⟨B, cap2, rfl, hd⟩ := hv
  unfold maxLen at hm
  by_cases he : L.length = M.length
  · have h0 : ((L.length : Int) == (M.length : Int)) = true := by rw [beq_iff_eq]; omega
    have he' := Lib.hid he
    go_enter Tryz.func11, Tryz.ntmps11
    go_wp2
    go_loopw [5, 6] (fun s i wr => ∃ k : Nat, k ≤ L.length ∧ s = .bool (decide (L.take k = M.take k)) ∧ i = .int .i64 k ∧ Below w.heap.size w wr ∧ (L.take k ≠ M.take k → L ≠ M)) (fun _ i _ => L.length - (intOf i).toNat)
    case atStart => exact ⟨0, Nat.zero_le _, by simp, rfl, Below.refl _ _, by simp⟩
    case round =>
      obtain ⟨k, hk, rfl, rfl, hbel, hno⟩ := hrel
      have HN := Lib.hid hno
      clear hno
      rcases htk : decide (L.take k = M.take k) with _ | _
      · have HT := Lib.hid htk
        clear htk
        go_wp2
        go_ret
        refine ⟨?_, hbel⟩
        have h := HN.out (of_decide_eq_false HT.out)
        rw [decide_eq_false h]
        rfl
      · have HT := Lib.hid htk
        clear htk
        by_cases hlt : k < L.length
        · have h1 : (k : Int) < (L.length : Int) := by omega
          have h2 : (k : Int) < (M.length : Int) := by omega
          obtain ⟨a, rfl, hcell⟩ := hc k hlt
          obtain ⟨b, rfl, hdell⟩ := hd k (by omega)
          have hcell1 := (hbel.cell (World.block_lt_of_cell? _ _ hcell)).trans hcell
          have hdell1 := (hbel.cell (World.block_lt_of_cell? _ _ hdell)).trans hdell
          have hsn := Lib.hid (Code.take_snoc_eq hlt (show k < M.length by omega))
          clear hc hd hcell hdell
          obtain ⟨s, hs⟩ : ∃ s, L[k] = s := ⟨_, rfl⟩
          obtain ⟨t, ht⟩ : ∃ t, M[k] = t := ⟨_, rfl⟩
          rw [hs] at hcell1 hsn
          rw [ht] at hdell1 hsn
          clear hs ht
          go_wp2
          go_quiet (fail)
          go_wp2
          go_roundw
          case rel =>
            refine ⟨k + 1, by omega, ?_, by go_num, bel_drewN hbel _, ?_⟩
            · have e := hsn.out
              have e1 := of_decide_eq_true HT.out
              by_cases hst : s = t
              · rw [decide_eq_true (e.2 ⟨e1, hst⟩)]; simp [hst]
              · rw [decide_eq_false (fun h => hst (e.1 h).2)]; simp [hst]
            · intro h hLM
              subst hLM
              exact h rfl
          case measure => simp [intOf]; omega
        · go_wp2
          go_ret
          refine ⟨?_, hbel⟩
          have e := of_decide_eq_true HT.out
          have he2 := he'.out
          rw [List.take_of_length_le (by omega), List.take_of_length_le (by omega)] at e
          rw [decide_eq_true e]
          rfl
  · have h0 : ((L.length : Int) == (M.length : Int)) = false := by rw [beq_eq_false_iff_ne]; omega
    have hne : decide (L = M) = false := decide_eq_false (fun h => he (by rw [h]))
    rw [hne]
    clear he hc hd hne
    go_enter Tryz.func11, Tryz.ntmps11
    go_wp2
    go_loop [5, 6] (fun s i => s = .bool false ∧ i = .int .i64 0) (fun _ _ => 0)
    case atStart => exact ⟨rfl, rfl⟩
    case round =>
      obtain ⟨rfl, rfl⟩ := hrel
      go_wp2
      go_ret
      exact ⟨rfl, Below.refl _ _⟩

end Go.Proofs.YtbkanebkobjnnaaGreatDoor
namespace Go.Proofs.YtbkanebkobjnnaaGreatDoor
open Go.RowKit
open Sto (T St)
open Tri (Tr)

/-- The tree of items. -/
def treeS (S : St) : Tr := S.foldr (fun x t => t.put (Nib.ofL x.1) x.2) .nil
theorem treeS_tree (S : St) (hS : Sto.Rising S) (hv : ∀ p ∈ S, p.2 ≠ []) : Tri.TreeOf S (treeS S) := by
  induction S with
  | nil => exact ⟨trivial, trivial, rfl⟩
  | cons a r ih =>
    obtain ⟨h1, h2⟩ := List.pairwise_cons.1 hS
    have h3 := (ih h2 fun p h => hv p (List.mem_cons_of_mem _ h)).put (k := a.1) (hv a (List.mem_cons_self ..))
    have e : Tri.put r a.1 a.2 = a :: r := by
      cases r with
      | nil => rfl
      | cons b r =>
        have hab := h1 b (List.mem_cons_self ..)
        rw [Tri.put, if_neg (fun h => List.lt_irrefl _ (List.lt_trans h hab)), if_neg (fun e => Sto.lt_ne hab e.symm)]
    rw [e] at h3
    exact h3
theorem treeS_of {S : St} {t : Tr} (h : TrS S t) : treeS S = t :=
  (treeS_tree S h.rise fun p hp e => by have := (h.fair p hp).2.2.1; rw [e] at this; simp at this).one h.tree
def rootS (S : St) : T := (treeS S).sum Nd.sumS
def nodesS (S : St) : List T := wantedT (fun _ => true) (treeS S)
theorem sroot_any {g : Nat} {S : St} (w : World) (h : TrAt w g S) :
    Calls Tryz.prog 18 #[ptr g] w fun e w' => e = .returned (.string ⟨(rootS S).toArray⟩) ∧ Below w.heap.size w w' := by
  obtain ⟨top, t, h1, h2, h3⟩ := h
  unfold rootS
  rw [treeS_of h3]
  exact troot_any w h1 h2 h3.ok
theorem snodes_any {g : Nat} {S : St} (w : World) (h : TrAt w g S) :
    Calls Tryz.prog 10 #[ptr g] w (TextsPost w (nodesS S)) := by
  obtain ⟨top, t, h1, h2, h3⟩ := h
  unfold nodesS
  rw [treeS_of h3]
  exact nodes_any w h1 (h3.sealed h2)
theorem sitems_any {g : Nat} {S : St} (w : World) (h : TrAt w g S) :
    Calls Tryz.prog 20 #[ptr g] w (ItemsPost w S) := by
  obtain ⟨top, t, h1, h2, h3⟩ := h
  exact items_any w h1 (h3.sealed h2) h3.tree
theorem TrAt.nodes_len {w : World} {g : Nat} {S : St} (h : TrAt w g S) : (nodesS S).length ≤ 100000 := by
  obtain ⟨top, t, h1, h2, h3⟩ := h
  unfold nodesS
  rw [treeS_of h3, wanted_all, List.length_map]
  exact h3.spots []
end Go.Proofs.YtbkanebkobjnnaaGreatDoor
namespace Go.Proofs.YtbkanebkobjnnaaGreatDoor
open Go.RowKit
open Sto (T St)
open Tri (Tr Ok hb)
open Go.Proofs.YtbkanebkobjnnaaGreatDoor.Nd (N)

def putAll (st : St) (L : List T) : St := L.foldl (fun s t => Sto.put s (Sto.sumOf t) t) st
theorem putAll_take {st : St} {L : List T} {k : Nat} (h : k < L.length) : putAll st (L.take (k + 1)) = Sto.put (putAll st (L.take k)) (Sto.sumOf L[k]) L[k] := by
  unfold putAll
  rw [List.take_succ_eq_append_getElem h, List.foldl_append]; rfl
/-- Two unlike texts of one sum. -/
def Clash (L : List T) : Prop := ∃ s ∈ L, ∃ t ∈ L, s ≠ t ∧ Sto.sumOf s = Sto.sumOf t
/-- A store that has some of these texts, each at its sum. -/
structure OfTexts (st : St) (C : List T) : Prop where
  rise : Sto.Rising st
  own : OwnSums st
  of : ∀ x t, Sto.look st x = some t → t ∈ C
theorem OfTexts.nil (C : List T) : OfTexts [] C := ⟨Sto.rising_nil, OwnSums.nil, fun x t h => by cases h⟩
theorem OfTexts.put {st : St} {C : List T} (h : OfTexts st C) {t : T} (ht : t ∈ C) (hn : ¬ Clash C) : OfTexts (Sto.put st (Sto.sumOf t) t) C ∧ Sto.look (Sto.put st (Sto.sumOf t) t) (Sto.sumOf t) = some t ∧ ∀ x y, Sto.look st x = some y → Sto.look (Sto.put st (Sto.sumOf t) t) x = some y := by
  have hown := h.own.put h.rise t
  have hkeep : ∀ x y, Sto.look st x = some y → Sto.look (Sto.put st (Sto.sumOf t) t) x = some y := fun x y hl => by
    obtain ⟨s, hs⟩ : ∃ s, Sto.sumOf t = s := ⟨_, rfl⟩
    rw [hs, Sto.look_put h.rise]
    by_cases e : x = s
    · rw [if_pos e, ← e, hl]; rfl
    · rw [if_neg e]; exact hl
  have hit : Sto.look (Sto.put st (Sto.sumOf t) t) (Sto.sumOf t) = some t := by
    obtain ⟨s, hs⟩ : ∃ s, Sto.sumOf t = s := ⟨_, rfl⟩
    rw [hs, Sto.look_put h.rise, if_pos rfl]
    cases hl : Sto.look st s with
    | none => rfl
    | some y =>
      have hy := h.of s y hl
      have hys := h.own s y hl
      by_cases e : y = t
      · rw [e]; rfl
      · exact absurd ⟨y, hy, t, ht, e, hys.trans hs.symm⟩ hn
  refine ⟨⟨Sto.put_rising h.rise _ _, hown, fun x y hl => ?_⟩, hit, hkeep⟩
  obtain ⟨s, hs⟩ : ∃ s, Sto.sumOf t = s := ⟨_, rfl⟩
  rw [hs, Sto.look_put h.rise] at hl
  by_cases e : x = s
  · rw [if_pos e] at hl
    cases hk : Sto.look st s with
    | none =>
      rw [hk] at hl
      have e2 : t = y := Option.some.inj hl
      rw [← e2]; exact ht
    | some z =>
      rw [hk] at hl
      have e2 : z = y := Option.some.inj hl
      rw [← e2]; exact h.of _ _ hk
  · rw [if_neg e] at hl
    exact h.of _ _ hl
theorem putAll_keep {C : List T} (hn : ¬ Clash C) (L : List T) : ∀ {st : St}, OfTexts st C → (∀ t ∈ L, t ∈ C) → OfTexts (putAll st L) C ∧ (∀ t ∈ L, Sto.look (putAll st L) (Sto.sumOf t) = some t) ∧ ∀ x y, Sto.look st x = some y → Sto.look (putAll st L) x = some y := by
  induction L with
  | nil => intro st h _; exact ⟨h, fun t ht => (by cases ht), fun _ _ h => h⟩
  | cons a L ih =>
    intro st h hL
    obtain ⟨h1, h2, h3⟩ := h.put (hL a (List.mem_cons_self ..)) hn
    obtain ⟨g1, g2, g3⟩ := ih h1 (fun t ht => hL t (List.mem_cons_of_mem _ ht))
    refine ⟨g1, fun t ht => ?_, fun x y hl => g3 x y (h3 x y hl)⟩
    rcases List.mem_cons.1 ht with rfl | ht
    · exact g3 _ _ h2
    · exact g2 t ht
theorem putAll_own (L : List T) : ∀ {st : St}, Sto.Rising st → OwnSums st → OwnSums (putAll st L) ∧ Sto.Rising (putAll st L) := by
  induction L with
  | nil => intro st h1 h2; exact ⟨h2, h1⟩
  | cons a L ih => intro st h1 h2; exact ih (Sto.put_rising h1 _ _) (h2.put h1 a)
theorem sumS_of {n : N} (h : Nd.fine n = true) : Nd.sumS n = Sto.sumOf (Nd.written n) := by
  unfold Nd.sumS Sto.sumOf
  rw [if_pos h]
/-- A trie all of whose nodes are there. -/
theorem inS_of {st : St} {t : Tr} (h : Ok t) (hl : ∀ n ∈ t.nodes Nd.sumS, Sto.look st (Sto.sumOf (Nd.written n)) = some (Nd.written n)) : t.inS st := by
  have one : ∀ {t : Tr}, Ok t → ¬ t.isNil → (∀ n ∈ t.nodes Nd.sumS, Sto.look st (Sto.sumOf (Nd.written n)) = some (Nd.written n)) → Sto.look st (t.sum Nd.sumS) = some (Nd.written (t.node Nd.sumS)) := by
    intro t h hn hl
    obtain ⟨r, hr⟩ := Tri.nodes_head Nd.sumS hn
    have h1 := hl (t.node Nd.sumS) (by rw [hr]; exact List.mem_cons_self ..)
    have h2 : Nd.sumS (t.node Nd.sumS) = Sto.sumOf (Nd.written (t.node Nd.sumS)) := sumS_of (h.fine hn)
    rw [Tri.sum_node _ hn, h2]
    exact h1
  induction t with
  | nil => trivial
  | leaf p v => exact one h id hl
  | ext p t ih => exact ⟨one h id hl, ih ⟨h.canon.2.2, h.fits.2, h.small.2⟩ (fun n hn => hl n (List.mem_cons_of_mem _ hn))⟩
  | br v k ih =>
    refine ⟨one h id hl, fun i => ih i ⟨h.canon.1 i, h.fits i, h.small.2 i⟩ (fun n hn => hl n (List.mem_cons_of_mem _ ?_))⟩
    exact List.mem_flatMap.2 ⟨i, List.mem_finRange i, hn⟩
theorem nodesS_nodes {S : St} {t : Tr} (h : TrS S t) : nodesS S = (t.nodes Nd.sumS).map Nd.written := by
  unfold nodesS
  rw [treeS_of h, wanted_all, ← Tri.spots_nodes Nd.sumS t [], List.map_map]
  rfl
theorem nodes_fine {t : Tr} (h : Ok t) : ∀ n ∈ t.nodes Nd.sumS, Nd.fine n = true ∧ n.kids.length = 16 := by
  induction t with
  | nil => intro n hn; cases hn
  | leaf p v => intro n hn; rw [List.mem_singleton.1 hn]; exact ⟨h.fine id, Tri.node_kids ..⟩
  | ext p t ih =>
    intro n hn
    rcases List.mem_cons.1 hn with e | e
    · rw [e]; exact ⟨h.fine id, Tri.node_kids ..⟩
    · exact ih ⟨h.canon.2.2, h.fits.2, h.small.2⟩ n e
  | br v k ih =>
    intro n hn
    rcases List.mem_cons.1 hn with e | e
    · rw [e]; exact ⟨h.fine id, Tri.node_kids ..⟩
    · obtain ⟨i, _, hi⟩ := List.mem_flatMap.1 e
      exact ih i ⟨h.canon.1 i, h.fits i, h.small.2 i⟩ n hi
theorem nodesS_short {S : St} {t : Tr} (h : TrS S t) : ∀ x ∈ nodesS S, x.length ≤ 999 := by
  intro x hx
  rw [nodesS_nodes h] at hx
  obtain ⟨n, hn, rfl⟩ := List.mem_map.1 hx
  obtain ⟨h1, h2⟩ := nodes_fine h.ok n hn
  have := Nd.written_most n h2 h1
  omega
/-- A trie that a map's change leaves as it was. -/
theorem TrAt.out {w w' : World} {g m : Nat} {S : St} (h : TrAt w g S) (ho : Out (fun j => j = m) w w') (hm : ∀ cs t f, w.heap[m]? ≠ some (.cells cs t f)) : TrAt w' g S := by
  obtain ⟨top, t, h1, h2, h3⟩ := h
  refine ⟨top, t, ho.heap h1 (fun e => hm _ _ _ (by rw [← e]; exact h1)), h2.change (fun _ _ _ h => h) fun g k p x K s s2 _ hr => ho.heap hr (fun e => hm _ _ _ (by rw [← e]; exact hr)), h3⟩
theorem tab_out {P : Program} {k : TypeId} {κ α : Type} {M : MapLaw P k κ α} {w w' : World} {m : Nat} {f : κ → Option α} (hT : Tab w) (h : FnAt M w m f) (ho : Out (fun i => i = m) w w') : Tab w' := fun i hi => by
  refine ho.cell (hT i hi) fun e => ?_
  obtain ⟨es, c, he, _⟩ := h
  have hk := hT i hi
  have e' : (0 : Nat) = m := e
  subst e'
  simp [World.cell?, he] at hk
set_option maxRecDepth 100000 in
set_option maxHeartbeats 1000000 in
theorem tsave_any {g gs ms : Nat} {S st : St} (w : World) (h : TrAt w g S) (hs : StoreAt w gs ms st) (hT : Tab w) :
    Calls Tryz.prog 24 #[.pointer (some ⟨g, 0, none⟩), .pointer (some ⟨gs, 0, none⟩)] w fun e w' => e = .returned (.string ⟨(rootS S).toArray⟩) ∧ StoreAt w' gs ms (putAll st (nodesS S)) ∧ Out (fun j => j = ms) w w' := by
  have HH := Lib.hid h
  have HS := Lib.hid hs
  have HT := Lib.hid hT
  have HNO := Lib.hid (snodes_any w h)
  unfold ptr TextsPost at HNO
  have HNL := Lib.hid h.nodes_len
  have HSH : Hid (∀ x ∈ nodesS S, x.length ≤ 999) := Lib.hid (by
    obtain ⟨top, t, -, -, hts⟩ := h
    exact nodesS_short hts)
  have HRO := Lib.hid (fun w' (h' : TrAt w' g S) => sroot_any w' h')
  unfold ptr at HRO
  obtain ⟨NS, hNS⟩ : ∃ NS, nodesS S = NS := ⟨_, rfl⟩
  rw [hNS] at HNO HNL HSH ⊢
  obtain ⟨RS, hRS⟩ : ∃ RS, rootS S = RS := ⟨_, rfl⟩
  rw [hRS] at HRO ⊢
  clear h hs hT hNS hRS
  go_enter Tryz.func24, Tryz.ntmps24
  go_wp2_with fail
  refine HNO.out.mono ?_
  rintro e w1 ⟨z, rfl, o1, hb1⟩
  have HO1 := Lib.hid o1
  have HB1 := Lib.hid hb1
  have HT1 := Lib.hid (HT.out.below hb1)
  have HS1 := Lib.hid (HS.out.below hb1)
  have HH1 := Lib.hid (HH.out.below hb1)
  have HNC : Hid (∀ w', Out (fun j => j = ms) w1 w' → ∀ k cs t f, k = ms → w1.heap[k]? ≠ some (.cells cs t f)) := Lib.hid (fun _ _ k cs t f e => HS1.out.map.no_cells k cs t f e)
  obtain ⟨A, cap, rfl⟩ := own_form o1
  clear o1 hb1
  go_wp2
  go_loopw [10] (fun iv wr => ∃ k : Nat, k ≤ NS.length ∧ iv = .int .i64 k ∧ StoreAt wr gs ms (putAll st (NS.take k)) ∧ Out (fun j => j = ms) w1 wr) (fun i _ => NS.length - (intOf i).toNat)
  case atStart => exact ⟨0, Nat.zero_le _, rfl, HS1.out, Out.refl _ _⟩
  case round =>
    obtain ⟨k, hk, rfl, hst, hou⟩ := hrel
    have HST := Lib.hid hst
    have HOU := Lib.hid hou
    by_cases hlt : k < NS.length
    · have h1 : (k : Int) < (NS.length : Int) := by omega
      have h0 : (0 : Int) ≤ (k : Int) := by omega
      have hnb : (k : Int) ≤ 100000 := by have := HNL.out; omega
      have hown : Own wr w.heap.size (.slice A NS.length cap) NS := row_out HO1.out hou (fun k cs t f e => HNC.out _ hou k cs t f e)
      obtain ⟨a, rfl, hcell⟩ := hown.strs_at (Below.refl _ wr) k hlt
      have HPT := Lib.hid (putAll_take (st := st) hlt)
      have HPU := Lib.hid (stput_any gs ms (putAll st (NS.take k)) NS[k] wr hst (tab_out HT1.out HS1.out.map hou) (by have := HSH.out _ (List.getElem_mem hlt); omega))
      unfold StPutPost at HPU
      rw [← HPT.out] at HPU
      obtain ⟨y, hy⟩ : ∃ y, NS[k] = y := ⟨_, rfl⟩
      rw [hy] at hcell HPU
      clear hst hou hown hy
      go_wp2_with fail
      refine HPU.out.mono ?_
      rintro e w2 ⟨rfl, hst2, hou2⟩
      have HST2 := Lib.hid hst2
      have HOU2 := Lib.hid (HOU.out.trans hou2)
      clear hst2 hou2 hcell
      go_wp2
      exact ⟨⟨k + 1, by omega, by go_num, HST2.out, HOU2.out⟩, by simp [intOf]; omega⟩
    · obtain rfl : k = NS.length := by omega
      have h1 : ¬ ((NS.length : Int) < (NS.length : Int)) := by omega
      rw [List.take_length] at HST
      have HTR := Lib.hid (HH1.out.out hou (fun cs t f => HS1.out.map.no_cells _ cs t f rfl))
      clear hst hou
      go_wp2_with fail
      refine (HRO.out _ HTR.out).mono ?_
      rintro e w2 ⟨rfl, hb2⟩
      have HST2 := Lib.hid (HST.out.below hb2)
      have HOU2 : Hid (Out (fun j => j = ms) w w2) := Lib.hid ((Out.of HB1.out).trans (HOU.out.trans (Out.of hb2)))
      clear hb2
      go_wp2
      go_ret
      exact ⟨rfl, HST2.out, HOU2.out⟩
end Go.Proofs.YtbkanebkobjnnaaGreatDoor
