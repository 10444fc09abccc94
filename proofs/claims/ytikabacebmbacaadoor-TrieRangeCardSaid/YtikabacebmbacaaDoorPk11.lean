/- TriOfT, TriWorks, ArgTActs, TriMade, TriMade2, BookItems, TriLaw, ShaLaid, ArgNode, ArgTwoS -/
import Derived.Test.YtikabacebmbacaaDoorPk10
import Derived.Test.YtikabacebmbacaaDoorPk09
import Derived.Test.YtikabacebmbacaaDoorPk02
import Derived.Deep.Slices
import Derived.DataReads
import Derived.OpenShut
import Derived.SizedLaws
import Derived.Lib.LaidU8
import Derived.BigQuiet
import Derived.Deep.RegionHeld3
import Derived.Test.YtikabacebmbacaaDoorRows
import Derived.Test.YtikabacebmbacaaDoorPk05
import Derived.LaidMore
import Derived.Stop.Joined
import Derived.ProofKit
import Derived.Test.YtikabacebmbacaaDoorPk03
namespace Go.Proofs.YtikabacebmbacaaDoor
open Go.RowKit
open Sto (T St)
open Tri (Tr Ok upd ix hb lay splitT Trim rank)
open Go.Proofs.YtikabacebmbacaaDoor.Nd (N)

def TOfPost (L : St) (w : World) (e : Ending) (w' : World) : Prop :=
  ∃ z, e = .returned (.tuple #[z, .int .i64 (Tri.ofR [] L).2]) ∧ ((Tri.ofR [] L).2 = 0 → ∃ g', z = ptr g' ∧ TrAt w' g' (Tri.ofR [] L).1) ∧ ((Tri.ofR [] L).2 ≠ 0 → z = nilp) ∧ Below w.heap.size w w'
theorem TOfPost.bad {L S : St} {c : Nat} {w w' : World} (h : Tri.ofR [] L = (S, c)) (hc : c ≠ 0) (hb : Below w.heap.size w w') : TOfPost L w (.returned (.tuple #[.pointer none, .int .i64 c])) w' := ⟨nilp, by rw [h]; rfl, by rw [h]; exact fun e => absurd e hc, fun _ => rfl, hb⟩
theorem TOfPost.good {L S : St} {g' : Nat} {w w' : World} (h : Tri.ofR [] L = (S, 0)) (hT : TrAt w' g' S) (hb : Below w.heap.size w w') : TOfPost L w (.returned (.tuple #[.pointer (some ⟨g', 0, none⟩), .int .i64 0])) w' := ⟨_, by rw [h]; rfl, by rw [h]; exact fun _ => ⟨g', rfl, hT⟩, by rw [h]; exact fun e => absurd rfl e, hb⟩
set_option maxRecDepth 100000 in
set_option maxHeartbeats 2000000 in
theorem tof_any (L : St) (v : Value) (w : World) (hv : ItAt w v L) (hl : L.length ≤ 10000) (hT : Tab w) :
    Calls Tryd.prog 21 #[v] w (TOfPost L w) := by
  have HV := Lib.hid hv
  have HT := Lib.hid hT
  have HL := Lib.hid hl
  have HNW := Lib.hid (tnew_any w)
  unfold ptr at HNW
  obtain ⟨A, cap, rfl, -, -⟩ := hv.form
  clear hv hT
  go_enter Tryd.func21, Tryd.ntmps21
  go_wp2_with fail
  refine HNW.out.mono ?_
  rintro e w1 ⟨g0, rfl, ht0, -, hb1⟩
  have HB1 := Lib.hid hb1
  have H0 := Lib.hid (ht0.open w.heap.size)
  clear ht0 hb1
  go_wp2
  go_loopw [4, 12] (fun av iv wr => ∃ (k : Nat) (gk : Nat) (S : St), av = .pointer (some ⟨gk, 0, none⟩) ∧ k ≤ L.length ∧ iv = .int .i64 k ∧ OpenAt wr (Fm.from w.heap.size) gk S ∧ Tri.ofR [] L = Tri.ofR S (L.drop k) ∧ Below w.heap.size w wr) (fun _ i _ => L.length - (intOf i).toNat)
  case atStart => exact ⟨0, g0, [], rfl, Nat.zero_le _, rfl, H0.out, rfl, HB1.out⟩
  case round =>
    obtain ⟨k, gk, S, rfl, hk, rfl, hop, hof, hb⟩ := hrel
    have HB := Lib.hid hb
    have HOF := Lib.hid hof
    by_cases hlt : k < L.length
    · have h1 : (k : Int) < (L.length : Int) := by omega
      have h0 : (0 : Int) ≤ (k : Int) := by omega
      have hnb : (k : Int) ≤ 100000 := by omega
      have HVW := Lib.hid (HV.out.below hb)
      obtain ⟨b, o, rfl, n0, n1⟩ := ItAt.at HVW.out k hlt
      have HST := Lib.hid (Tri.ofR_step (S := S) hlt)
      have HSB := Lib.hid (Tri.ofR_bad (S := S) hlt)
      obtain ⟨x, hx⟩ : ∃ x, L[k].1 = x := ⟨_, rfl⟩
      obtain ⟨y, hy⟩ : ∃ y, L[k].2 = y := ⟨_, rfl⟩
      rw [hx, hy] at HST HSB
      rw [hx] at n0
      rw [hy] at n1
      have hba : Below wr.heap.size wr (wr.alloc (.cells #[.string ⟨x.toArray⟩, .string ⟨y.toArray⟩] 45)) := (Below.refl _ wr).alloc (Nat.le_refl _) _
      have HWI := Lib.hid (twith_any x y (wr.alloc (.cells #[.string ⟨x.toArray⟩, .string ⟨y.toArray⟩] 45)) (Fm.from w.heap.size) (fun g hg _ => Nat.le_trans hb.size (Nat.le_trans hba.size hg)) (hop.below hba))
      have HBA : Hid (∀ w', Below (wr.alloc (.cells #[.string ⟨x.toArray⟩, .string ⟨y.toArray⟩] 45)).heap.size (wr.alloc (.cells #[.string ⟨x.toArray⟩, .string ⟨y.toArray⟩] 45)) w' → Below w.heap.size w w') := Lib.hid (fun w' h => HB.out.trans ((bchain hba h).mono HB.out.size))
      unfold TWithPost ptr at HWI
      obtain ⟨c, hc⟩ : ∃ c, Tri.putC S x y = c := ⟨_, rfl⟩
      rw [hc] at HWI HST HSB
      clear hop hof hb hx hy hba hc
      go_wp2_with fail
      refine HWI.out.mono ?_
      rintro e w2 ⟨z, rfl, hz1, hz0, hb2⟩
      have HB2 := Lib.hid (HBA.out _ hb2)
      by_cases hc0 : c = 0
      · obtain ⟨g', rfl, -, hop2⟩ := hz1 hc0
        subst hc0
        replace HST := Lib.hid (HST.out rfl)
        have HOP := Lib.hid hop2
        clear hz1 hz0 hb2 hop2
        go_wp2
        exact ⟨⟨k + 1, g', Tri.put S x y, rfl, by omega, by go_num, HOP.out, by rw [HOF.out]; exact HST.out, HB2.out⟩, by simp [intOf]; omega⟩
      · have hc1 : ((c : Int) == 0) = false := by rw [beq_eq_false_iff_ne]; omega
        have e1 : z = .pointer none := hz0 hc0
        subst e1
        have HC := Lib.hid hc0
        clear hz1 hz0 hb2 hc0
        go_wp2
        go_ret2
        exact TOfPost.bad (HOF.out.trans (HSB.out HC.out)) HC.out HB2.out
    · obtain rfl : k = L.length := by omega
      have h1 : ¬ ((L.length : Int) < (L.length : Int)) := by omega
      have HEND : Hid (Tri.ofR [] L = (S, 0)) := Lib.hid (by rw [HOF.out, List.drop_length]; rfl)
      obtain ⟨top, t, hr, hp, hs⟩ := hop
      have HSE := Lib.hid (seal_to t top wr w.heap.size HT.out.pos hb.size (HT.out.mid hb HT.out.pos) hs.ok hp)
      have HR := Lib.hid hr
      have HS := Lib.hid hs
      have m0 := hr.top
      clear hof hb hr hp hs
      go_wp2_with fail
      refine HSE.out.mono ?_
      rintro e w2 ⟨rfl, hp2, hk2, hb2⟩
      have HTR : Hid (TrAt w2 gk S) := Lib.hid ⟨top, t, hk2.2.2 _ _ _ _ (by decide) HR.out, hp2.sealed (fun _ _ e => by cases e) true, HS.out⟩
      have HB2 := Lib.hid (HB.out.trans hb2)
      clear hp2 hk2 hb2
      go_wp2
      go_ret2
      exact TOfPost.good HEND.out HTR.out HB2.out
end Go.Proofs.YtikabacebmbacaaDoor
namespace Go.Proofs.YtikabacebmbacaaDoor
open Go.RowKit
open Sto (T St)
open Tri (Tr Ok upd ix hb lay splitT Trim rank)
open Go.Proofs.YtikabacebmbacaaDoor.Nd (N)

namespace Tri
def wL : St := [([97, 98], [50]), ([97], [49])]
def wS : St := [([97], [49]), ([97, 98], [50])]
def wK : St := [([107], [118])]
theorem wL_of : ofR [] wL = (wS, 0) := by decide +kernel
theorem wK_of : ofR [] wK = (wK, 0) := by decide +kernel
def wT : Tr := (Tr.leaf [6, 1] [49]).put [6, 1, 6, 2] [50]
theorem wT_tree : TreeOf wS wT := by
  have h0 : TreeOf [] .nil := ⟨trivial, trivial, rfl⟩
  have h1 : TreeOf (put [] [97] [49]) (Tr.put .nil (Nib.ofL [97]) [49]) := h0.put (by decide)
  have h2 : TreeOf (put (put [] [97] [49]) [97, 98] [50]) ((Tr.put .nil (Nib.ofL [97]) [49]).put (Nib.ofL [97, 98]) [50]) := h1.put (by decide)
  exact h2
theorem wU_tree : TreeOf wK (.leaf [6, 11] [118]) := by
  have h0 : TreeOf [] .nil := ⟨trivial, trivial, rfl⟩
  have h1 : TreeOf (put [] [107] [118]) (Tr.put .nil (Nib.ofL [107]) [118]) := h0.put (by decide)
  exact h1
theorem wT_spots (dg : N → T) : (wT.spots dg []).length = 3 := by kernel_rfl
theorem wT_nn : ¬ wT.isNil := put_nn _ _ _
theorem wU_text : Nd.written (Tr.node Nd.sumS (.leaf [6, 11] [118])) = [1, 1, 2, 32, 107, 1, 1, 118] := by decide +kernel
end Tri
theorem wanted_all (t : Tr) : wantedT (fun _ => true) t = (t.spots Nd.sumS []).map fun x => Nd.written x.2 := by
  unfold wantedT
  rw [List.filter_eq_self.2 (fun _ _ => rfl)]
/-- What a trie's nodes are. -/
theorem TrAt.tree {w : World} {g : Nat} {S : St} (h : TrAt w g S) : ∃ top t, TRow w g top S.length ∧ PAt w (Fm.from 0) true t top ∧ TrS S t := h
set_option maxRecDepth 100000 in
set_option maxHeartbeats 2000000 in
theorem tworks_any (w : World) (hT : Tab w) : Calls Tryd.prog 10 #[] w fun e w' => e = .returned (.bool true) ∧ Below w.heap.size w w' := by
  have ht1 : ItAt (w.alloc (.cells #[.string ⟨#[97, 98]⟩, .string ⟨#[50]⟩, .string ⟨#[97]⟩, .string ⟨#[49]⟩] 45)) (.slice (some ⟨w.heap.size, 0, none⟩) 2 2) Tri.wL :=
    OwnI.at_ (B := w.heap.size) ⟨rfl, Or.inr ⟨w.heap.size, 2, _, rfl, Nat.le_refl _, heap_alloc_new w _, by simp [Tri.wL], by simp [maxLen], rfl, rfl⟩⟩
  have hbA : Below w.heap.size w (w.alloc (.cells #[.string ⟨#[97, 98]⟩, .string ⟨#[50]⟩, .string ⟨#[97]⟩, .string ⟨#[49]⟩] 45)) := (Below.refl _ w).alloc (Nat.le_refl _) _
  have HO1 := Lib.hid (tof_any Tri.wL _ _ ht1 (by decide) (hT.below hbA))
  have HO2 : Hid (∀ w1, Below w.heap.size w w1 → Calls Tryd.prog 21 #[.slice (some ⟨w1.heap.size, 0, none⟩) 1 1] (w1.alloc (.cells #[.string ⟨#[107]⟩, .string ⟨#[118]⟩] 45)) (TOfPost Tri.wK (w1.alloc (.cells #[.string ⟨#[107]⟩, .string ⟨#[118]⟩] 45)))) := Lib.hid (fun w1 hb => by
    have hb2 := hb.alloc hb.size (.cells #[.string ⟨#[107]⟩, .string ⟨#[118]⟩] 45)
    exact tof_any Tri.wK _ _ (OwnI.at_ (B := w1.heap.size) ⟨rfl, Or.inr ⟨w1.heap.size, 1, _, rfl, Nat.le_refl _, heap_alloc_new w1 _, by simp [Tri.wK], by simp [maxLen], rfl, rfl⟩⟩) (by decide) (hT.below hb2))
  unfold TOfPost at HO1 HO2
  rw [Tri.wL_of] at HO1
  rw [Tri.wK_of] at HO2
  have HBA := Lib.hid hbA
  clear ht1 hbA hT
  go_enter Tryd.func10, Tryd.ntmps10
  go_wp2_with fail
  refine HO1.out.mono ?_
  rintro e w1 ⟨z1, rfl, h1, -, hb1⟩
  obtain ⟨g1, rfl, t1⟩ := h1 trivial
  have HB1 : Hid (Below w.heap.size w w1) := Lib.hid (bchain HBA.out hb1)
  have HT1 := Lib.hid t1
  clear h1 t1 hb1
  unfold ptr
  go_wp2_with fail
  refine (HO2.out w1 HB1.out).mono ?_
  rintro e w2 ⟨z2, rfl, h2, -, hb2⟩
  obtain ⟨g2, rfl, t2⟩ := h2 trivial
  have hb2' : Below w1.heap.size w1 w2 := bchain ((Below.refl _ w1).alloc (Nat.le_refl _) _) hb2
  have HB2 : Hid (Below w.heap.size w w2) := Lib.hid (bchain HB1.out hb2')
  have T1 := HT1.out.below hb2'
  obtain ⟨top1, tr1, r1, p1, s1⟩ := T1.tree
  obtain ⟨top2, tr2, r2, p2, s2⟩ := t2.tree
  have e1 : tr1 = Tri.wT := s1.tree.one Tri.wT_tree
  have e2 : tr2 = .leaf [6, 11] [118] := s2.tree.one Tri.wU_tree
  have HN2 := Lib.hid (nodes_any w2 r2 (s2.sealed p2))
  have HN1 := Lib.hid (fun w' (hb : Below w2.heap.size w2 w') => nodes_any w' (r1.below hb) ((s1.sealed p1).below hb))
  have HG1 := Lib.hid (fun w' (hb : Below w2.heap.size w2 w') => tget_any [97, 98] w' (T1.below hb))
  have HL1 := Lib.hid (fun w' (hb : Below w2.heap.size w2 w') => tlen_any w' (T1.below hb))
  have HR1 := Lib.hid (fun w' (hb : Below w2.heap.size w2 w') => troot_any w' (r1.below hb) (p1.below hb) s1.ok)
  have hsl : (tr1.sum Nd.sumS).length = 32 := s1.ok.sum_len (by rw [e1]; exact Tri.wT_nn)
  rw [wanted_all] at HN2
  have HNL : Hid ((wantedT (fun _ => true) tr1).length = 3) := Lib.hid (by rw [wanted_all, List.length_map, e1]; exact Tri.wT_spots _)
  have ht2 : (tr2.spots Nd.sumS []).map (fun x => Nd.written x.2) = [[1, 1, 2, 32, 107, 1, 1, 118]] := by
    rw [e2]
    show [Nd.written (Tr.node Nd.sumS (.leaf [6, 11] [118]))] = _
    rw [Tri.wU_text]
  rw [ht2] at HN2
  obtain ⟨WN, hWN⟩ : ∃ WN, wantedT (fun _ => true) tr1 = WN := ⟨_, rfl⟩
  rw [hWN] at HN1 HNL
  obtain ⟨RS, hRS⟩ : ∃ RS, tr1.sum Nd.sumS = RS := ⟨_, rfl⟩
  rw [hRS] at HR1 hsl
  have HG1' : Hid (∀ w', Below w2.heap.size w2 w' → Calls Tryd.prog 19 #[ptr g1, .string ⟨#[97, 98]⟩] w' fun e w'' => e = .returned (.tuple #[.string ⟨#[50]⟩, .int .i64 0]) ∧ Below w'.heap.size w' w'') := Lib.hid (fun w' hb => HG1.out w' hb)
  have HRL : Hid ((RS.length : Int) = 32) := Lib.hid (by omega)
  unfold ptr
  unfold TextsPost ptr at HN1 HN2
  unfold ptr at HG1' HL1 HR1
  clear HG1 h2 t2 hb2 hb2' T1 r1 p1 s1 r2 p2 s2 e1 e2 ht2 hWN hRS HT1
  have hrl := HRL.out
  go_wp2_with fail
  refine HN2.out.mono ?_
  rintro e w3 ⟨zn, rfl, on, hb3⟩
  have HB3 : Hid (Below w2.heap.size w2 w3) := Lib.hid hb3
  have HON := Lib.hid on
  clear on hb3
  go_wp2_with fail
  refine (HG1'.out _ HB3.out).mono ?_
  rintro e w4 ⟨rfl, hb4⟩
  have HB4 : Hid (Below w2.heap.size w2 w4) := Lib.hid (bchain HB3.out hb4)
  have on4 := HON.out.below hb4
  obtain ⟨gz, cz, ez, -, -⟩ := World.ownsRow.form on4 (by simp)
  have hc4 : w4.cell? ⟨gz, 0, none⟩ = some (.string ⟨#[1, 1, 2, 32, 107, 1, 1, 118]⟩) := World.ownsRow.cells on4 (g := gz) (by rw [ez]; rfl) 0 (.string ⟨#[1, 1, 2, 32, 107, 1, 1, 118]⟩) (by simp [scells])
  subst ez
  clear on4 hb4
  go_wp2_with fail
  refine (HL1.out _ HB4.out).mono ?_
  rintro e w5 ⟨rfl, rfl⟩
  go_wp2_with fail
  refine (HN1.out _ HB4.out).mono ?_
  rintro e w6 ⟨zw, rfl, ow, hb6⟩
  have HB6 : Hid (Below w2.heap.size w2 w6) := Lib.hid (bchain HB4.out hb6)
  obtain ⟨A6, c6, ez6⟩ := own_form ow
  rw [HNL.out] at ez6
  subst ez6
  clear ow hb6
  go_wp2_with fail
  refine (HR1.out _ HB6.out).mono ?_
  rintro e w7 ⟨rfl, hb7⟩
  have HB7 : Hid (Below w2.heap.size w2 w7) := Lib.hid (bchain HB6.out hb7)
  go_wp2
  go_ret
  exact ⟨rfl, bchain HB2.out HB7.out⟩
end Go.Proofs.YtikabacebmbacaaDoor
namespace Go.Proofs.YtikabacebmbacaaDoor
open Go.RowKit Go.ChangeShapes Go.WideShapes

/-- An act. -/
structure ActT where
  kind : Int
  key : List UInt8
  val : List UInt8
instance : Inhabited ActT := ⟨⟨0, [], []⟩⟩
def tactcl (s : ActT) : List Value := [.int .i64 s.kind, .string ⟨s.key.toArray⟩, .string ⟨s.val.toArray⟩]
/-- An act that fits. -/
structure OkTAct (s : ActT) : Prop where
  kind : (Lit.int .i64 s.kind).wf = true
set_option maxRecDepth 100000 in
theorem cellsTAct : Tryd.prog.cellsOf 32 = 3 := by kernel_rfl
def TActs (w : World) (v : Value) (L : List ActT) : Prop :=
  ∃ (A : Option Addr) (cap : Nat), v = .slice A L.length cap ∧ (0 < L.length → ∃ b o, A = some ⟨b, o, none⟩ ∧ b < w.heap.size ∧ ∀ i (h : i < L.length),
    w.cell? ⟨b, o + i * 3, none⟩ = some (.int .i64 L[i].kind) ∧ w.cell? ⟨b, o + i * 3 + 1, none⟩ = some (.string ⟨L[i].key.toArray⟩) ∧ w.cell? ⟨b, o + i * 3 + 2, none⟩ = some (.string ⟨L[i].val.toArray⟩))
theorem TActs.below {w w' : World} {v : Value} {L : List ActT} (h : TActs w v L) (hb : Below w.heap.size w w') : TActs w' v L := by
  obtain ⟨A, cap, rfl, hc⟩ := h
  refine ⟨A, cap, rfl, fun h0 => ?_⟩
  obtain ⟨b, o, rfl, hlt, hcell⟩ := hc h0
  refine ⟨b, o, rfl, Nat.lt_of_lt_of_le hlt hb.size, fun i hi => ?_⟩
  obtain ⟨h1, h2, h3⟩ := hcell i hi
  exact ⟨(hb.cell hlt).trans h1, (hb.cell hlt).trans h2, (hb.cell hlt).trans h3⟩
theorem TActs.form {w : World} {v : Value} {L : List ActT} (h : TActs w v L) : ∃ A cap, v = .slice A L.length cap := by
  obtain ⟨A, cap, rfl, _⟩ := h
  exact ⟨A, cap, rfl⟩
theorem TActs.at {w w' : World} {A : Option Addr} {n cap : Nat} {L : List ActT} (h : TActs w (.slice A n cap) L) (hb : Below w.heap.size w w') (k : Nat) (hk : k < L.length) :
    ∃ b o, A = some ⟨b, o, none⟩ ∧ b < w.heap.size ∧ w'.cell? ⟨b, o + k * 3, none⟩ = some (.int .i64 L[k].kind) ∧ w'.cell? ⟨b, o + k * 3 + 1, none⟩ = some (.string ⟨L[k].key.toArray⟩) ∧ w'.cell? ⟨b, o + k * 3 + 2, none⟩ = some (.string ⟨L[k].val.toArray⟩) := by
  obtain ⟨A0, cap0, hv0, hc0⟩ := h
  obtain ⟨rfl, rfl, rfl⟩ : A = A0 ∧ n = L.length ∧ cap = cap0 := by simpa using hv0
  obtain ⟨b, o, rfl, hlt, hcell⟩ := hc0 (by omega)
  obtain ⟨h1, h2, h3⟩ := hcell k hk
  exact ⟨b, o, rfl, hlt, (hb.cell hlt).trans h1, (hb.cell hlt).trans h2, (hb.cell hlt).trans h3⟩

set_option maxRecDepth 100000 in
theorem tact_cells {H : Type} {enc : TypeId × Value → H} {W : World} {fuel : Nat} {cs : List Value} {x : DataW H × List MemPlace} (ht : DataW.trod enc Tryd.prog W 0 (fun _ => true) true fuel 32 cs = some x) :
    ∃ s : ActT, cs = tactcl s ∧ OkTAct s := by
  obtain ⟨ys, n', _, hy, hcl, hyl, hfs⟩ := DataW.trod_struct Tryd.underlying32 ht
  rw [cellsTAct] at hcl
  match cs, hcl, ys, hyl with
  | [v0, v1, v2], _, [y0, y1, y2], _ =>
    have g0 := hfs 0 _ rfl
    have g1 := hfs 1 _ rfl
    have g2 := hfs 2 _ rfl
    simp [cellsI, cellsS] at g0 g1 g2
    obtain ⟨k, e0, _, k0⟩ := DataW.trod_int Tryd.underlying3 g0
    obtain ⟨s1, e1, _, _⟩ := DataW.trod_string Tryd.underlying9 g1
    obtain ⟨s2, e2, _, _⟩ := DataW.trod_string Tryd.underlying9 g2
    obtain rfl : v0 = .int .i64 k := by simpa using e0
    obtain rfl : v1 = .string s1 := by simpa using e1
    obtain rfl : v2 = .string s2 := by simpa using e2
    exact ⟨⟨k, s1.data.toList, s2.data.toList⟩, by simp [tactcl], ⟨k0⟩⟩
set_option maxRecDepth 100000 in
theorem tacts_open {H : Type} {enc : TypeId × Value → H} {W : World} {r : Reach} {b0 : Nat} {v : Value} {d : DataW H} {p : List MemPlace}
    (hv : Value.okWide Tryd.prog W r b0 22 v) (h : DataW.Trod enc Tryd.prog W 0 (fun _ => true) true 22 v d p)
    (hz : ∀ n ∈ d.weights Tryd.prog 22, n ≤ reachBytes) :
    ∃ L, TActs W v L ∧ L.length * 40 ≤ reachBytes ∧ ∀ s ∈ L, OkTAct s := by
  obtain ⟨a0, len, cap, rfl⟩ := okWide_slice Tryd.underlying22 hv
  obtain ⟨fuel, hf⟩ := h
  rcases Go.Deep.open_slice Tryd.underlying22 hf with ⟨hcs, _⟩ | ⟨x, l, c, m, n, D, Pl, hcs, _, hl, hm, hmm, hx, hel⟩
  · simp [Value.cells] at hcs
    obtain ⟨rfl, rfl, rfl⟩ := hcs
    exact ⟨[], ⟨none, 0, rfl, fun h => absurd h (by simp)⟩, by simp, fun n hn => by simp at hn⟩
  · simp [Value.cells] at hcs
    obtain ⟨rfl, rfl, rfl⟩ := hcs
    simp only [if_true] at hmm
    subst hmm
    rw [cellsTAct] at hel hx
    obtain ⟨hd, -⟩ := Prod.mk.inj hx
    have hlen40 : len * 40 ≤ reachBytes := by
      have h1 := hz ((((List.range len).map D).length + ((List.range (m - len)).map fun j => D (len + j)).length) * Tryd.prog.bytesOf 32) (by
        rw [hd]; simp [DataW.weights, Tryd.underlying22])
      rw [show Tryd.prog.bytesOf 32 = 40 from by kernel_rfl] at h1
      simp only [List.length_map, List.length_range] at h1
      omega
    have key : ∀ i, i < len → ∃ q : ActT, OkTAct q ∧ W.cell? ((x.add (i * 3)).add 0) = some (.int .i64 q.kind) ∧ W.cell? ((x.add (i * 3)).add 1) = some (.string ⟨q.key.toArray⟩) ∧ W.cell? ((x.add (i * 3)).add 2) = some (.string ⟨q.val.toArray⟩) := fun i hi => by
      obtain ⟨cs', hc, ht⟩ := hel i (by omega)
      obtain ⟨_, _, hat⟩ := World.cells?_some hc
      obtain ⟨q, rfl, hok⟩ := tact_cells ht
      refine ⟨q, hok, ?_, ?_, ?_⟩
      · simpa [tactcl] using hat 0 (by omega)
      · simpa [tactcl] using hat 1 (by omega)
      · simpa [tactcl] using hat 2 (by omega)
    obtain ⟨f, hf⟩ := Go.Deep.choose_lt (fun i hi => key i hi)
    have hlen : ((List.range len).map f).length = len := by simp
    refine ⟨(List.range len).map f, ⟨some x, _, by rw [hlen], fun h0 => ?_⟩, by rw [hlen]; exact hlen40, ?_⟩
    · rw [hlen] at h0
      obtain ⟨b, o, sp⟩ := x
      obtain ⟨_, q0, _⟩ := hf 0 h0
      have hcell' : W.cell? ⟨b, o, sp⟩ = some (.int .i64 (f 0).kind) := by simpa [Addr.add] using q0
      obtain rfl := cell_spot hcell'
      refine ⟨b, o, rfl, block_lt_of_cell hcell', fun i hi => ?_⟩
      rw [hlen] at hi
      obtain ⟨_, q0, q1, q2⟩ := hf i hi
      rw [Addr.add_mid, Addr.add_mid] at q0 q1 q2
      simpa using ⟨q0, q1, q2⟩
    · intro n hn
      obtain ⟨i, hi, rfl⟩ := List.mem_map.1 hn
      exact (hf i (List.mem_range.1 hi)).1
end Go.Proofs.YtikabacebmbacaaDoor
namespace Go.Proofs.YtikabacebmbacaaDoor
open Go.RowKit
open Sto (T St)
open Tri (Tr)

/-- One act on items. -/
def actS (S : St) (a : ActT) : St := if 1 < a.kind then (if (Tri.getC S a.key).2 = 0 then Tri.del S a.key else S) else (if Tri.putC S a.key a.val = 0 then Tri.put S a.key a.val else S)
def madeS (L : List ActT) : St := L.foldl actS []
theorem made_step {L : List ActT} {k : Nat} (hk : k < L.length) : madeS (L.take (k + 1)) = actS (madeS (L.take k)) L[k] := by
  unfold madeS
  rw [List.take_succ_eq_append_getElem hk, List.foldl_append]
  rfl
def longB (L : List ActT) (m : Nat) : Bool := decide (m < L.length) || L.any fun a => decide (100 < a.key.length) || decide (100 < a.val.length)
theorem long_no {L : List ActT} {m : Nat} (h : longB L m = false) : L.length ≤ m ∧ ∀ a ∈ L, a.key.length ≤ 100 ∧ a.val.length ≤ 100 := by
  simp only [longB, Bool.or_eq_false_iff, decide_eq_false_iff_not, List.any_eq_false, Bool.or_eq_true, decide_eq_true_eq, not_or] at h
  exact ⟨by omega, fun a ha => by have := h.2 a ha; omega⟩
set_option maxRecDepth 8000 in
set_option maxHeartbeats 1000000 in
theorem long_any (L : List ActT) (m : Nat) (v : Value) (w : World) (hv : TActs w v L) (hm : m ≤ 100) :
    Calls Tryd.prog 9 #[v, .int .i64 m] w fun e w' => e = .returned (.bool (longB L m)) ∧ Below w.heap.size w w' := by
  have HV := Lib.hid hv
  obtain ⟨A, cap, rfl⟩ := hv.form
  clear hv
  by_cases hlm : m < L.length
  · have h1 : (L.length : Int) > (m : Int) := by omega
    have hd : decide ((m : Int) < (L.length : Int)) = true := decide_eq_true (by omega)
    have hd2 : decide (m < L.length) = true := decide_eq_true hlm
    have e : longB L m = true := by simp [longB, hlm]
    rw [e]
    clear e hlm
    go_enter Tryd.func9, Tryd.ntmps9
    go_wp2
    go_ret
    exact ⟨rfl, Below.refl _ _⟩
  · have h1 : ¬ ((L.length : Int) > (m : Int)) := by omega
    have hd : decide ((m : Int) < (L.length : Int)) = false := decide_eq_false (by omega)
    have hd2 : decide (m < L.length) = false := decide_eq_false hlm
    have hlen : L.length ≤ 100 := by omega
    have HLB : Hid (∀ b, (L.any fun a => decide (100 < a.key.length) || decide (100 < a.val.length)) = b → longB L m = b) := Lib.hid (fun b hb => by rw [longB, hd2, hb]; rfl)
    obtain ⟨RB, hRB⟩ : ∃ RB, longB L m = RB := ⟨_, rfl⟩
    rw [hRB] at HLB ⊢
    clear hRB hlm
    go_enter Tryd.func9, Tryd.ntmps9
    go_wp2
    go_loopw [5] (fun i wr => ∃ k : Nat, k ≤ L.length ∧ i = .int .i64 k ∧ (∀ j (hj : j < k) (hj2 : j < L.length), L[j].key.length ≤ 100 ∧ L[j].val.length ≤ 100) ∧ Below w.heap.size w wr) (fun i _ => L.length - (intOf i).toNat)
    case atStart => exact ⟨0, Nat.zero_le _, rfl, fun j hj => absurd hj (Nat.not_lt_zero _), Below.refl _ _⟩
    case round =>
      obtain ⟨k, hk, rfl, hall, hb⟩ := hrel
      have HALL := Lib.hid hall
      have HB := Lib.hid hb
      by_cases hlt : k < L.length
      · have g1 : (k : Int) < (L.length : Int) := by omega
        have g0 : (0 : Int) ≤ (k : Int) := by omega
        obtain ⟨b, o, rfl, -, -, n1, n2⟩ := HV.out.at hb k hlt
        have HANY : Hid (100 < L[k].key.length ∨ 100 < L[k].val.length → (L.any fun a => decide (100 < a.key.length) || decide (100 < a.val.length)) = true) := Lib.hid (fun h => List.any_eq_true.2 ⟨L[k], List.getElem_mem hlt, by simpa using h⟩)
        have HKK : Hid (L[k].key.length ≤ 100 → L[k].val.length ≤ 100 → ∀ j (hj : j < k + 1) (hj2 : j < L.length), L[j].key.length ≤ 100 ∧ L[j].val.length ≤ 100) := Lib.hid (fun a1 a2 j hj hj2 => by
          by_cases e : j < k
          · exact HALL.out j e hj2
          · obtain rfl : j = k := by omega
            exact ⟨a1, a2⟩)
        obtain ⟨x, hx⟩ : ∃ x, L[k].key = x := ⟨_, rfl⟩
        obtain ⟨y, hy⟩ : ∃ y, L[k].val = y := ⟨_, rfl⟩
        rw [hx] at n1
        rw [hy] at n2
        rw [hx, hy] at HANY HKK
        clear hall hb hx hy
        by_cases hx1 : 100 < x.length
        · have q1 : (x.length : Int) > 100 := by omega
          have q2 : decide ((100 : Int) < (x.length : Int)) = true := decide_eq_true (by omega)
          have q3 : decide (100 < x.length) = true := decide_eq_true hx1
          have HE := Lib.hid (HLB.out _ (HANY.out (Or.inl hx1)))
          clear hx1
          go_wp2
          go_ret
          exact ⟨by rw [HE.out]; rfl, HB.out⟩
        · have q1 : ¬ ((x.length : Int) > 100) := by omega
          have q2 : decide ((100 : Int) < (x.length : Int)) = false := decide_eq_false (by omega)
          have q3 : decide (100 < x.length) = false := decide_eq_false hx1
          have HX1 := Lib.hid hx1
          clear hx1
          by_cases hy1 : 100 < y.length
          · have p1 : (y.length : Int) > 100 := by omega
            have p2 : decide ((100 : Int) < (y.length : Int)) = true := decide_eq_true (by omega)
            have p3 : decide (100 < y.length) = true := decide_eq_true hy1
            have HE := Lib.hid (HLB.out _ (HANY.out (Or.inr hy1)))
            clear hy1
            go_wp2
            go_ret
            exact ⟨by rw [HE.out]; rfl, HB.out⟩
          · have p1 : ¬ ((y.length : Int) > 100) := by omega
            have p2 : decide ((100 : Int) < (y.length : Int)) = false := decide_eq_false (by omega)
            have p3 : decide (100 < y.length) = false := decide_eq_false hy1
            have HKN := Lib.hid (HKK.out (by have := HX1.out; omega) (by omega))
            clear hy1
            go_wp2
            exact ⟨⟨k + 1, by omega, by go_num, HKN.out, HB.out⟩, by simp [intOf]; omega⟩
      · have g1 : ¬ ((k : Int) < (L.length : Int)) := by omega
        obtain rfl : k = L.length := by omega
        have HE : Hid (RB = false) := Lib.hid (HLB.out _ (by
          rw [List.any_eq_false]
          intro a ha
          obtain ⟨j, hj, rfl⟩ := List.mem_iff_getElem.1 ha
          have := HALL.out j hj hj
          simp; omega))
        clear hall hb
        go_wp2
        go_ret
        exact ⟨by rw [HE.out]; rfl, HB.out⟩
end Go.Proofs.YtikabacebmbacaaDoor
namespace Go.Proofs.YtikabacebmbacaaDoor
open Go.RowKit
open Sto (T St)
open Tri (Tr)

set_option maxRecDepth 100000 in
set_option maxHeartbeats 4000000 in
theorem made_any (L : List ActT) (v : Value) (w : World) (hv : TActs w v L) (hl : L.length ≤ 30) (hT : Tab w) :
    Calls Tryd.prog 18 #[v] w fun e w' => ∃ g, e = .returned (ptr g) ∧ TrAt w' g (madeS L) ∧ Below w.heap.size w w' := by
  have HV := Lib.hid hv
  have HT := Lib.hid hT
  have HNW := Lib.hid (tnew_any w)
  unfold ptr at HNW ⊢
  obtain ⟨A, cap, rfl⟩ := hv.form
  clear hv hT
  go_enter Tryd.func18, Tryd.ntmps18
  go_wp2_with fail
  refine HNW.out.mono ?_
  rintro e w1 ⟨g0, rfl, ht0, -, hb1⟩
  have HB1 := Lib.hid hb1
  have H0 := Lib.hid ht0
  clear ht0 hb1
  go_wp2
  go_loopw [3, 4] (fun av iv wr => ∃ (k : Nat) (gk : Nat), av = .pointer (some ⟨gk, 0, none⟩) ∧ k ≤ L.length ∧ iv = .int .i64 k ∧ TrAt wr gk (madeS (L.take k)) ∧ Below w.heap.size w wr) (fun _ i _ => L.length - (intOf i).toNat)
  case atStart => exact ⟨0, g0, rfl, Nat.zero_le _, rfl, H0.out, HB1.out⟩
  case round =>
    obtain ⟨k, gk, rfl, hk, rfl, htr, hb⟩ := hrel
    have HB := Lib.hid hb
    have HTR := Lib.hid htr
    by_cases hlt : k < L.length
    · have h1 : (k : Int) < (L.length : Int) := by omega
      have h0 : (0 : Int) ≤ (k : Int) := by omega
      have h30 : (k : Int) < 30 := by omega
      have HMS := Lib.hid (made_step hlt)
      have HC : Hid (∃ b o, A = some ⟨b, o, none⟩ ∧ ∀ w', Below w.heap.size w w' → w'.cell? ⟨b, o + k * 3, none⟩ = some (.int .i64 L[k].kind) ∧ w'.cell? ⟨b, o + k * 3 + 1, none⟩ = some (.string ⟨L[k].key.toArray⟩) ∧ w'.cell? ⟨b, o + k * 3 + 2, none⟩ = some (.string ⟨L[k].val.toArray⟩)) := Lib.hid (by
        obtain ⟨b, o, e, -, -, -, -⟩ := HV.out.at (Below.refl _ _) k hlt
        refine ⟨b, o, e, fun w' hb' => ?_⟩
        obtain ⟨b2, o2, e2, -, q⟩ := HV.out.at hb' k hlt
        cases e.symm.trans e2
        exact q)
      obtain ⟨b, o, rfl, hcell⟩ := HC.out
      obtain ⟨S, hS⟩ : ∃ S, madeS (L.take k) = S := ⟨_, rfl⟩
      rw [hS] at HTR HMS
      obtain ⟨⟨kd, x, y⟩, ha⟩ : ∃ a, L[k] = a := ⟨_, rfl⟩
      rw [ha] at hcell HMS
      dsimp only at hcell
      have HCE := Lib.hid hcell
      have HPU : Hid (∀ w', Below wr.heap.size wr w' → Calls Tryd.prog 11 #[ptr gk, .string ⟨x.toArray⟩, .string ⟨y.toArray⟩] w' fun e w'' => ∃ z, e = .returned (.tuple #[z, .int .i64 (Tri.putC S x y)]) ∧ (Tri.putC S x y = 0 → ∃ g', z = ptr g' ∧ TrAt w'' g' (Tri.put S x y)) ∧ (Tri.putC S x y ≠ 0 → z = nilp) ∧ Below wr.heap.size wr w'') := Lib.hid (fun w' hb' =>
        (tput_any x y w' (HTR.out.below hb') (HT.out.below (bchain HB.out hb'))).mono fun e w'' ⟨z, q1, q2, q3, q4⟩ => ⟨z, q1, q2, q3, bchain hb' q4⟩)
      have HDE : Hid (∀ w', Below wr.heap.size wr w' → Calls Tryd.prog 13 #[ptr gk, .string ⟨x.toArray⟩] w' fun e w'' => ∃ z, e = .returned (.tuple #[z, .int .i64 (Tri.getC S x).2]) ∧ ((Tri.getC S x).2 = 0 → ∃ g', z = ptr g' ∧ TrAt w'' g' (Tri.del S x)) ∧ ((Tri.getC S x).2 ≠ 0 → z = nilp) ∧ Below wr.heap.size wr w'') := Lib.hid (fun w' hb' =>
        (tdel_any x w' (HTR.out.below hb') (HT.out.below (bchain HB.out hb'))).mono fun e w'' ⟨z, q1, q2, q3, q4⟩ => ⟨z, q1, q2, q3, bchain hb' q4⟩)
      have HCW : Hid (∀ w', Below wr.heap.size wr w' → w'.cell? ⟨b, o + k * 3, none⟩ = some (.int .i64 kd) ∧ w'.cell? ⟨b, o + k * 3 + 1, none⟩ = some (.string ⟨x.toArray⟩) ∧ w'.cell? ⟨b, o + k * 3 + 2, none⟩ = some (.string ⟨y.toArray⟩)) := Lib.hid (fun w' hb' => HCE.out w' (bchain HB.out hb'))
      unfold ptr at HPU HDE
      have BD : Below wr.heap.size wr wr.drew := (Below.refl _ _).drew
      obtain ⟨c0, c1, c2⟩ := HCW.out _ BD
      have HBW : Hid (∀ w', Below wr.heap.size wr w' → Below w.heap.size w w') := Lib.hid (fun w' hb' => bchain HB.out hb')
      obtain ⟨cp, hcp⟩ : ∃ cp, Tri.putC S x y = cp := ⟨_, rfl⟩
      obtain ⟨cd, hcd⟩ : ∃ cd, (Tri.getC S x).2 = cd := ⟨_, rfl⟩
      rw [hcp] at HPU
      rw [hcd] at HDE
      have HCP := Lib.hid hcp
      have HCD := Lib.hid hcd
      have HHB : Hid (o + k * 3 + 0 = o + k * 3) := Lib.hid rfl
      clear htr hb hcell hS ha hcp hcd HC
      by_cases hkd : 1 < kd
      · have k1 : kd > 1 := hkd
        have k2 : decide ((1 : Int) < kd) = true := decide_eq_true hkd
        have HKD := Lib.hid hkd
        have HAS : Hid (actS S ⟨kd, x, y⟩ = if cd = 0 then Tri.del S x else S) := Lib.hid (by rw [← HCD.out]; exact if_pos HKD.out)
        clear hkd
        go_upto_region 5 with fail
        go_region_held3 (fun w' => w'.cell? ⟨b, o + k * 3 + 1, none⟩ = some (.string ⟨x.toArray⟩) ∧ w'.cell? ⟨b, o + k * 3 + 2, none⟩ = some (.string ⟨y.toArray⟩))
          ((first | (with_reducible exact ⟨c1, c2⟩) | (refine (HCW.out _ ?_).2; with_reducible assumption)))
          ((go_at_call 11; refine (HPU.out _ ?_).mono ?_; (with_reducible exact BD); rintro e w6 ⟨z1, rfl, -, -, hb6⟩))
        all_goals
          obtain ⟨d0, d1, d2⟩ := HCW.out _ hb6
          have HB6 := Lib.hid hb6
          clear c0 c1 c2 hb6
          go_wp2_with fail
          refine (HDE.out _ HB6.out).mono ?_
          rintro e w7 ⟨z2, rfl, hz1, hz0, hb7⟩
          have HB7 := Lib.hid hb7
          by_cases hc : cd = 0
          · obtain ⟨g', rfl, ht⟩ := hz1 hc
            subst hc
            have HTN := Lib.hid ht
            clear hz1 hz0 hb7 ht
            go_wp2
            exact ⟨⟨k + 1, g', rfl, by omega, by go_num, by rw [HMS.out, HAS.out]; simpa using HTN.out, HBW.out _ HB7.out⟩, by simp [intOf]; omega⟩
          · have e0 : ((cd : Int) == 0) = false := by rw [beq_eq_false_iff_ne]; omega
            have e1 : z2 = .pointer none := hz0 hc
            subst e1
            have HC0 := Lib.hid hc
            clear hz1 hz0 hb7 hc
            go_wp2
            exact ⟨⟨k + 1, gk, rfl, by omega, by go_num, by rw [HMS.out, HAS.out, if_neg HC0.out]; exact HTR.out.below HB7.out, HBW.out _ HB7.out⟩, by simp [intOf]; omega⟩
      · have k1 : ¬ (kd > 1) := hkd
        have k2 : decide ((1 : Int) < kd) = false := decide_eq_false hkd
        have HKD := Lib.hid hkd
        have HAS : Hid (actS S ⟨kd, x, y⟩ = if cp = 0 then Tri.put S x y else S) := Lib.hid (by rw [← HCP.out]; exact if_neg HKD.out)
        clear hkd
        go_upto_region 5 with fail
        go_region_held3 (fun w' => w'.cell? ⟨b, o + k * 3 + 1, none⟩ = some (.string ⟨x.toArray⟩) ∧ w'.cell? ⟨b, o + k * 3 + 2, none⟩ = some (.string ⟨y.toArray⟩))
          ((first | (with_reducible exact ⟨c1, c2⟩) | (refine (HCW.out _ ?_).2; with_reducible assumption)))
          ((go_at_call 11; refine (HPU.out _ ?_).mono ?_; (with_reducible exact BD); rintro e w6 ⟨z1, rfl, hz1, hz0, hb6⟩))
        all_goals
          obtain ⟨d0, d1, d2⟩ := HCW.out _ hb6
          have HB6 := Lib.hid hb6
          clear c0 c1 c2
          by_cases hc : cp = 0
          · obtain ⟨g', rfl, ht⟩ := hz1 hc
            subst hc
            have HTN := Lib.hid ht
            clear hz1 hz0 hb6 ht
            go_wp2
            exact ⟨⟨k + 1, g', rfl, by omega, by go_num, by rw [HMS.out, HAS.out]; simpa using HTN.out, HBW.out _ HB6.out⟩, by simp [intOf]; omega⟩
          · have e0 : ((cp : Int) == 0) = false := by rw [beq_eq_false_iff_ne]; omega
            have e1 : z1 = .pointer none := hz0 hc
            subst e1
            have HC0 := Lib.hid hc
            clear hz1 hz0 hb6 hc
            go_wp2
            exact ⟨⟨k + 1, gk, rfl, by omega, by go_num, by rw [HMS.out, HAS.out, if_neg HC0.out]; exact HTR.out.below HB6.out, HBW.out _ HB6.out⟩, by simp [intOf]; omega⟩
    · obtain rfl : k = L.length := by omega
      have h1 : ¬ ((L.length : Int) < (L.length : Int)) := by omega
      rw [List.take_length] at HTR
      clear htr hb
      go_wp2
      go_ret
      exact ⟨gk, rfl, HTR.out, HB.out⟩
end Go.Proofs.YtikabacebmbacaaDoor
namespace Go.Proofs.YtikabacebmbacaaDoor
open Go.RowKit
open Sto (T St)

end Go.Proofs.YtikabacebmbacaaDoor
namespace Go.Proofs.YtikabacebmbacaaDoor
open Go.RowKit
open Sto (T St)
open Tri (Tr)

/-- The tree of items. -/
def treeS (S : St) : Tr := S.foldr (fun x t => t.put (Nib.ofL x.1) x.2) .nil
theorem treeS_tree (S : St) (hS : Sto.Rising S) (hv : ∀ p ∈ S, p.2 ≠ []) : Tri.TreeOf S (treeS S) := by
  induction S with
  | nil => exact ⟨trivial, trivial, rfl⟩
  | cons a r ih =>
    obtain ⟨h1, h2⟩ := List.pairwise_cons.1 hS
    have h3 := (ih h2 fun p h => hv p (List.mem_cons_of_mem _ h)).put (k := a.1) (hv a (List.mem_cons_self ..))
    have e : Tri.put r a.1 a.2 = a :: r := by
      cases r with
      | nil => rfl
      | cons b r =>
        have hab := h1 b (List.mem_cons_self ..)
        rw [Tri.put, if_neg (fun h => List.lt_irrefl _ (List.lt_trans h hab)), if_neg (fun e => Sto.lt_ne hab e.symm)]
    rw [e] at h3
    exact h3
theorem treeS_of {S : St} {t : Tr} (h : TrS S t) : treeS S = t :=
  (treeS_tree S h.rise fun p hp e => by have := (h.fair p hp).2.2.1; rw [e] at this; simp at this).one h.tree
def nodesS (S : St) : List T := wantedT (fun _ => true) (treeS S)
theorem snodes_any {g : Nat} {S : St} (w : World) (h : TrAt w g S) :
    Calls Tryd.prog 24 #[ptr g] w (TextsPost w (nodesS S)) := by
  obtain ⟨top, t, h1, h2, h3⟩ := h
  unfold nodesS
  rw [treeS_of h3]
  exact nodes_any w h1 (h3.sealed h2)
theorem TrAt.nodes_len {w : World} {g : Nat} {S : St} (h : TrAt w g S) : (nodesS S).length ≤ 100000 := by
  obtain ⟨top, t, h1, h2, h3⟩ := h
  unfold nodesS
  rw [treeS_of h3, wanted_all, List.length_map]
  exact h3.spots []
end Go.Proofs.YtikabacebmbacaaDoor
namespace Go.Proofs.YtikabacebmbacaaDoor
open Go.ChangeShapes Go.WideShapes Go.ChangeAt Go.RowKit

theorem gK : Tryd.prog.globalNamed "pharos/sha.constants" = some 1 := by kernel_rfl
theorem tK : (Tryd.prog.globals[1]?).map (·.type) = some 128 := by kernel_rfl
theorem cK : Tryd.prog.cellsOf 128 = 64 := by kernel_rfl
theorem cW : Tryd.prog.cellsOf 109 = 1 := by kernel_rfl
def laidK : List (String × DataW Unit) := [("pharos/sha.constants", Rows.laid_pharos_sha_constants)]
theorem tab_of_laid {W : World} (h : laidMetH Tryd.prog laidK W) : Tab W := by
  rw [MakeChecks.laidMetH_plain _ _ _ (by kernel_rfl)] at h
  obtain ⟨g, t, cs, fuel, p, hg, hty, hvar, hd⟩ := Lib.laidMet.reads h (.head _)
  obtain rfl := Option.some.inj (gK.symm.trans hg)
  obtain rfl := Option.some.inj (tK.symm.trans hty)
  have hd' : DataW.trod (fun _ => ()) Tryd.prog W 0 (fun _ => true) false fuel 128 cs.toList = some (Lib.tabData .u32 Sha.kTab, p) := hd
  have hcs := Lib.cells_of_tab Tryd.underlying128 Tryd.underlying109 cW cK hd'
  intro i hi
  have hk : i < Sha.kTab.length := hi
  rw [World.var?_cell hg hvar i, ← Array.getElem?_toList, hcs]
  simp [hk]
/-- The door's own heap meets the condition. -/
theorem door_met (os : Os) (args : Array Value) : laidMetH Tryd.prog laidK ((World.doorLaid Tryd.prog 400 os).forCall (fun _ _ => 0) ⟨#[], args, []⟩).memory :=
  laidMetH_of_parts3 (fuel := 8) (laidMet_of_run' 8 (by kernel_rfl) (by kernel_rfl)) (by kernel_rfl) (by kernel_rfl)
end Go.Proofs.YtikabacebmbacaaDoor
namespace Go.Proofs.YtikabacebmbacaaDoor
open Go.RowKit Go.ChangeShapes Go.WideShapes
open Go.Proofs.YtikabacebmbacaaDoor.Nd (N)

theorem strs_of_array {H : Type} {enc : TypeId × Value → H} {P : Program} {w : World} {base : Nat} {spare : Nat → Bool} {held : Bool} {fuel : Nat} {t e : TypeId} {n : Nat} {cs : List Value} {x : DataW H × List MemPlace}
    (ht : P.underlying t = some (.array n e)) (he : P.underlying e = some .string) (hce : P.cellsOf e = 1) (hct : P.cellsOf t = n)
    (h : DataW.trod enc P w base spare held fuel t cs = some x) : ∃ L : List (List UInt8), L.length = n ∧ cs = scells L := by
  obtain ⟨xs, m, _, _, hl, hxl, hel⟩ := DataW.trod_array ht h
  rw [hct] at hl
  have key : ∀ i, i < n → ∃ l : List UInt8, cs[i]? = some (.string ⟨l.toArray⟩) := fun i hi => by
    have h1 := hel i hi
    rw [hce, Nat.mul_one, List.getElem?_eq_getElem (by omega)] at h1
    obtain ⟨s, e1, _, _⟩ := DataW.trod_string he h1
    refine ⟨s.data.toList, ?_⟩
    have h2 := congrArg (·[0]?) e1
    simpa [List.getElem?_take, List.getElem?_drop] using h2
  refine ⟨cs.map (fun v => match v with | .string s => s.data.toList | _ => []), by rw [List.length_map, hl], ?_⟩
  apply List.ext_getElem?
  intro i
  by_cases hi : i < n
  · obtain ⟨l, hz⟩ := key i hi
    simp [scells, hz]
  · rw [List.getElem?_eq_none (by omega), List.getElem?_eq_none (by simp [scells]; omega)]
end Go.Proofs.YtikabacebmbacaaDoor
namespace Go.Proofs.YtikabacebmbacaaDoor
open Go.RowKit

theorem cellsTwoS1 : Tryd.prog.cellsOf 9 = 1 := by kernel_rfl
theorem cellsTwoS : Tryd.prog.cellsOf 57 = 2 := by kernel_rfl
set_option maxRecDepth 100000 in
/-- A pair of strings. -/
theorem twoS_open {H : Type} {enc : TypeId × Value → H} {W : World} {r : Reach} {b0 : Nat} {v : Value} {d : DataW H} {p : List MemPlace}
    (hv : Value.okWide Tryd.prog W r b0 57 v) (h : DataW.Trod enc Tryd.prog W 0 (fun _ => true) true 57 v d p) : ∃ s : List UInt8 × List UInt8, v = .agg #[.string ⟨s.1.toArray⟩, .string ⟨s.2.toArray⟩] := by
  simp only [Value.okWide, Tryd.underlying57] at hv
  obtain ⟨cs, rfl, _, _⟩ := hv
  obtain ⟨fuel, hf⟩ := h
  obtain ⟨zs, hl, hc⟩ := strs_of_array Tryd.underlying57 Tryd.underlying9 cellsTwoS1 cellsTwoS hf
  match zs, hl with
  | [a, b], _ =>
    refine ⟨(a, b), ?_⟩
    have hc' : cs.toList = [a, b].map (fun s => Value.string ⟨s.toArray⟩) := hc
    rw [← Array.toArray_toList (xs := cs), hc']
    rfl
end Go.Proofs.YtikabacebmbacaaDoor
