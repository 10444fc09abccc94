/- BookLend, ShaLaid, ArgNode, NodePrefix -/
import Derived.Test.YtjbagjhadmbjnaaDoorPk01
import Derived.Test.YtjbagjhadmbjnaaDoorPk09
import Derived.Test.YtjbagjhadmbjnaaDoorRows
import Derived.Test.YtjbagjhadmbjnaaDoorPk07
import Derived.Lib.LaidU8
import Derived.LaidMore
import Derived.Stop.Joined
import Derived.ProofKit
import Derived.OpenShut
import Derived.Test.YtjbagjhadmbjnaaDoorPk04
namespace Go.Proofs.YtjbagjhadmbjnaaDoor
open Go.RowKit

def behind : List UInt8 := [98, 101, 104, 105, 110, 100]
/-- A list that is lent: its texts, and a mark behind their end. -/
def Lent (w : World) (B : Nat) (s : Value) (L : List (List UInt8)) : Prop :=
  ∃ g cap, s = .slice (some ⟨g, 0, none⟩) L.length cap ∧ Own w B (.slice (some ⟨g, 0, none⟩) (L.length + 1) cap) (L ++ [behind])
theorem Lent.below {w w' : World} {B : Nat} {s : Value} {L : List (List UInt8)} (h : Lent w B s L) (hb : Below w.heap.size w w') : Lent w' B s L := by
  obtain ⟨g, cap, rfl, h1⟩ := h
  exact ⟨g, cap, rfl, h1.below hb⟩
theorem Lent.strs {w : World} {B : Nat} {s : Value} {L : List (List UInt8)} (h : Lent w B s L) : Strs w s L := by
  obtain ⟨g, cap, rfl, h1⟩ := h
  obtain ⟨A, c, hv, hc⟩ := h1.strs
  obtain ⟨rfl, _⟩ : some (⟨g, 0, none⟩ : Addr) = A ∧ _ := by simpa using hv
  refine ⟨_, cap, rfl, fun i hi => ?_⟩
  obtain ⟨a, ha, hcell⟩ := hc i (by simp; omega)
  exact ⟨a, ha, by rw [hcell, List.getElem_append_left hi]⟩
theorem Lent.cap {w : World} {B : Nat} {A : Option Addr} {n c : Nat} {L : List (List UInt8)} (h : Lent w B (.slice A n c) L) : ∃ g, A = some ⟨g, 0, none⟩ ∧ n = L.length ∧ L.length + 1 ≤ c ∧ c ≤ maxLen ∧ B ≤ g ∧ w.cell? ⟨g, L.length, none⟩ = some (.string ⟨behind.toArray⟩) := by
  obtain ⟨g, cap, hv, h1⟩ := h
  obtain ⟨rfl, rfl, rfl⟩ : A = some ⟨g, 0, none⟩ ∧ n = L.length ∧ c = cap := by simpa using hv
  have h2 := World.ownsRow.cells h1 (g := g) rfl L.length (.string ⟨behind.toArray⟩) (by simp [scells])
  rw [Addr.add_mid, Nat.zero_add] at h2
  rcases h1.2 with ⟨h', _⟩ | ⟨g', cap', cur, hv', hB, hh, hn, hcap, hsz, _⟩
  · simp at h'
  · obtain ⟨rfl, rfl⟩ : g = g' ∧ c = cap' := by simpa using hv'
    exact ⟨g, rfl, rfl, by simpa using hn, hcap, hB, h2⟩

/-- One text of a row of the call's own, set. -/
theorem Own.set {w : World} {B g n cap i : Nat} {L : List (List UInt8)} (h : Own w B (.slice (some ⟨g, 0, none⟩) n cap) L) (_hi : i < L.length) (x : List UInt8) :
    Own (w.setCell ⟨g, i, none⟩ (.string ⟨x.toArray⟩)) B (.slice (some ⟨g, 0, none⟩) n cap) (L.set i x) := by
  have hn : n = L.length := by
    obtain ⟨_, _, hv⟩ := own_form h
    simp at hv
    exact hv.2.1
  subst hn
  have := (World.ownsRow.stored h i (.string ⟨x.toArray⟩)).1
  unfold Own
  rw [List.length_set]
  simpa [scells, List.map_set] using this
set_option maxRecDepth 8000 in
set_option maxHeartbeats 1000000 in
theorem spoilTexts_any (L : List (List UInt8)) (s : Value) (B : Nat) (w : World) (hs : Own w B s L) (hl : L.length ≤ 1000000) :
    Calls Tryd.prog 15 #[s] w fun e w' => e = .returned (.tuple #[]) ∧ Below B w w' := by
  have HS := Lib.hid hs
  obtain ⟨A, cap, rfl⟩ := own_form hs
  clear hs
  go_enter Tryd.func15, Tryd.ntmps15
  go_wp2
  go_loopw [2] (fun i wr => ∃ (k : Nat) (K : List (List UInt8)), k ≤ L.length ∧ i = .int .i64 k ∧ K.length = L.length ∧ Own wr B (.slice A L.length cap) K ∧ Below B w wr) (fun i _ => L.length - (intOf i).toNat)
  case atStart => exact ⟨0, L, Nat.zero_le _, rfl, rfl, HS.out, Below.refl _ _⟩
  case round =>
    obtain ⟨k, K, hk, rfl, hK, hown, hb⟩ := hrel
    by_cases hlt : k < L.length
    · have h1 : (k : Int) < (L.length : Int) := by omega
      have h0 : (0 : Int) ≤ (k : Int) := by omega
      have hf := World.ownsRow.form hown (by omega)
      obtain ⟨g, c, hv, hBg, _⟩ := hf
      obtain ⟨rfl, _⟩ : A = some ⟨g, 0, none⟩ ∧ _ := by simpa using hv
      obtain ⟨a, ha, hcell⟩ := hown.strs_at (Below.refl _ wr) k (by omega)
      obtain rfl : a = ⟨g, 0, none⟩ := by simpa using ha.symm
      rw [Addr.add_mid, Nat.zero_add] at hcell
      have hfz := World.ownsRow.frozenAt (n := K.length) (xs := scells K) (cap := cap) (by rw [hK]; have := hown; unfold Own at this; rw [hK] at this; exact this) k
      have HN := Lib.hid (hown.set (show k < K.length by omega) [97, 110, 111, 116, 104, 101, 114, 32, 111, 110, 101])
      have HB := Lib.hid (hb.setCell (p := ⟨g, k, none⟩) hBg (.string ⟨#[97, 110, 111, 116, 104, 101, 114, 32, 111, 110, 101]⟩))
      have HKL := Lib.hid hK
      obtain ⟨y, hy⟩ : ∃ y, K[k]'(by omega) = y := ⟨_, rfl⟩
      rw [hy] at hcell
      clear hv ha hown hb hy hK
      go_wp2
      exact ⟨⟨k + 1, _, by omega, by go_num, by rw [List.length_set]; exact HKL.out, HN.out, HB.out⟩, by simp [intOf]; omega⟩
    · have h1 : ¬ ((k : Int) < (L.length : Int)) := by omega
      have HB := Lib.hid hb
      clear hown hb
      go_wp2
      go_end0
      exact ⟨rfl, HB.out⟩
end Go.Proofs.YtjbagjhadmbjnaaDoor
namespace Go.Proofs.YtjbagjhadmbjnaaDoor
open Go.ChangeShapes Go.WideShapes Go.ChangeAt Go.RowKit

theorem gK : Tryd.prog.globalNamed "pharos/sha.constants" = some 1 := by kernel_rfl
theorem tK : (Tryd.prog.globals[1]?).map (·.type) = some 99 := by kernel_rfl
theorem cK : Tryd.prog.cellsOf 99 = 64 := by kernel_rfl
theorem cW : Tryd.prog.cellsOf 73 = 1 := by kernel_rfl
def laidK : List (String × DataW Unit) := [("pharos/sha.constants", Rows.laid_pharos_sha_constants)]
theorem tab_of_laid {W : World} (h : laidMetH Tryd.prog laidK W) : Tab W := by
  rw [MakeChecks.laidMetH_plain _ _ _ (by kernel_rfl)] at h
  obtain ⟨g, t, cs, fuel, p, hg, hty, hvar, hd⟩ := Lib.laidMet.reads h (.head _)
  obtain rfl := Option.some.inj (gK.symm.trans hg)
  obtain rfl := Option.some.inj (tK.symm.trans hty)
  have hd' : DataW.trod (fun _ => ()) Tryd.prog W 0 (fun _ => true) false fuel 99 cs.toList = some (Lib.tabData .u32 Sha.kTab, p) := hd
  have hcs := Lib.cells_of_tab Tryd.underlying99 Tryd.underlying73 cW cK hd'
  intro i hi
  have hk : i < Sha.kTab.length := hi
  rw [World.var?_cell hg hvar i, ← Array.getElem?_toList, hcs]
  simp [hk]
/-- The door's own heap meets the condition. -/
theorem door_met (os : Os) (args : Array Value) : laidMetH Tryd.prog laidK ((World.doorLaid Tryd.prog 400 os).forCall (fun _ _ => 0) ⟨#[], args, []⟩).memory :=
  laidMetH_of_parts3 (fuel := 8) (laidMet_of_run' 8 (by kernel_rfl) (by kernel_rfl)) (by kernel_rfl) (by kernel_rfl)
end Go.Proofs.YtjbagjhadmbjnaaDoor
namespace Go.Proofs.YtjbagjhadmbjnaaDoor
open Go.RowKit Go.ChangeShapes Go.WideShapes
open Go.Proofs.YtjbagjhadmbjnaaDoor.Nd (N)

theorem strs_of_array {H : Type} {enc : TypeId × Value → H} {P : Program} {w : World} {base : Nat} {spare : Nat → Bool} {held : Bool} {fuel : Nat} {t e : TypeId} {n : Nat} {cs : List Value} {x : DataW H × List MemPlace}
    (ht : P.underlying t = some (.array n e)) (he : P.underlying e = some .string) (hce : P.cellsOf e = 1) (hct : P.cellsOf t = n)
    (h : DataW.trod enc P w base spare held fuel t cs = some x) : ∃ L : List (List UInt8), L.length = n ∧ cs = scells L := by
  obtain ⟨xs, m, _, _, hl, hxl, hel⟩ := DataW.trod_array ht h
  rw [hct] at hl
  have key : ∀ i, i < n → ∃ l : List UInt8, cs[i]? = some (.string ⟨l.toArray⟩) := fun i hi => by
    have h1 := hel i hi
    rw [hce, Nat.mul_one, List.getElem?_eq_getElem (by omega)] at h1
    obtain ⟨s, e1, _, _⟩ := DataW.trod_string he h1
    refine ⟨s.data.toList, ?_⟩
    have h2 := congrArg (·[0]?) e1
    simpa [List.getElem?_take, List.getElem?_drop] using h2
  refine ⟨cs.map (fun v => match v with | .string s => s.data.toList | _ => []), by rw [List.length_map, hl], ?_⟩
  apply List.ext_getElem?
  intro i
  by_cases hi : i < n
  · obtain ⟨l, hz⟩ := key i hi
    simp [scells, hz]
  · rw [List.getElem?_eq_none (by omega), List.getElem?_eq_none (by simp [scells]; omega)]
theorem cellsNo : Tryd.prog.cellsOf 24 = 19 := by kernel_rfl
theorem cellsN16 : Tryd.prog.cellsOf 22 = 16 := by kernel_rfl
theorem cellsNi : Tryd.prog.cellsOf 3 = 1 := by kernel_rfl
theorem cellsNs : Tryd.prog.cellsOf 9 = 1 := by kernel_rfl
set_option maxRecDepth 100000 in
/-- A node that came in. -/
theorem node_open {H : Type} {enc : TypeId × Value → H} {W : World} {r : Reach} {b0 : Nat} {v : Value} {d : DataW H} {p : List MemPlace}
    (hv : Value.okWide Tryd.prog W r b0 24 v) (h : DataW.Trod enc Tryd.prog W 0 (fun _ => true) true 24 v d p) :
    ∃ n : N, v = nval n ∧ n.kids.length = 16 := by
  obtain ⟨cs, rfl, _⟩ := okWide_struct Tryd.underlying24 hv
  obtain ⟨fuel, hf⟩ := h
  obtain ⟨ys, n', _, hy, hcl, hyl, hfs⟩ := DataW.trod_struct Tryd.underlying24 hf
  rw [cellsNo] at hcl
  obtain ⟨l⟩ := cs
  change l.length = 19 at hcl
  match l, hcl, ys, hyl with
  | v0 :: v1 :: v2 :: ks, hcl, [y0, y1, y2, y3], _ =>
    have hkl : ks.length = 16 := by simpa using hcl
    have g0 := hfs 0 _ rfl
    have g1 := hfs 1 _ rfl
    have g2 := hfs 2 _ rfl
    have g3 := hfs 3 _ rfl
    simp [cellsNi, cellsNs, cellsN16, Value.cells] at g0 g1 g2 g3
    obtain ⟨k, e0, _, wf⟩ := DataW.trod_int Tryd.underlying3 g0
    obtain rfl : v0 = .int .i64 k := by simpa using e0
    obtain ⟨s1, e1, _, z1⟩ := DataW.trod_string Tryd.underlying9 g1
    obtain rfl : v1 = .string s1 := by simpa using e1
    obtain ⟨s2, e2, _, z2⟩ := DataW.trod_string Tryd.underlying9 g2
    obtain rfl : v2 = .string s2 := by simpa using e2
    rw [List.take_of_length_le (by omega)] at g3
    obtain ⟨L, hL, hc⟩ := strs_of_array Tryd.underlying22 Tryd.underlying9 cellsNs cellsN16 g3
    refine ⟨⟨k, s1.data.toList, s2.data.toList, L⟩, ?_, hL⟩
    rw [hc]
    simp [nval, ncl]
end Go.Proofs.YtjbagjhadmbjnaaDoor
namespace Go.Proofs.YtjbagjhadmbjnaaDoor
open Go.Proofs.YtjbagjhadmbjnaaDoor.Nd (N)

theorem Nd.rdN_app (m : N) (t : List UInt8) (hm : m.kids.length = 16) (hf : Nd.fine m = true) : ∃ k r, Nd.written m = k :: r ∧ Nd.rdN k (r ++ t) = ((m, true), t, 0) := by
  rw [Nd.fine_kinds m hm] at hf
  obtain ⟨kd, p, v, ks⟩ := m
  simp only at hm hf
  by_cases k1 : kd = 1
  · subst k1
    rw [if_pos rfl] at hf
    simp only [Nd.leafB, Nd.pathB, Bool.and_eq_true, decide_eq_true_eq, beq_iff_eq] at hf
    obtain ⟨⟨a, b⟩, c, d, e⟩ := hf
    subst e
    refine ⟨1, Code.textL (Nib.packL p true) ++ Code.textL v, rfl, ?_⟩
    unfold Nd.rdN
    rw [if_pos (by decide), List.append_assoc, Nd.rdP_pack true p _ b a]
    have ht := Nd.rdT_text 32 v t d (by decide)
    simp only
    rw [show (32 : Int) = ((32 : Nat) : Int) from rfl, ht]
  rw [if_neg k1] at hf
  by_cases k2 : kd = 2
  · subst k2
    rw [if_pos rfl] at hf
    simp only [Nd.extB, Nd.pathB, Bool.and_eq_true, decide_eq_true_eq, beq_iff_eq] at hf
    obtain ⟨a, ⟨b, c⟩, d, e, f⟩ := hf
    subst d
    have hk : Nd.none16.set 0 (ks.getD 0 []) = ks := by
      match ks, hm with
      | z :: l, hm => rw [← f]; simp
    refine ⟨2, Code.textL (Nib.packL p false) ++ ks.getD 0 [], rfl, ?_⟩
    unfold Nd.rdN
    rw [if_neg (by decide), if_pos (by decide), List.append_assoc, Nd.rdP_pack false p _ c b]
    have ht := Nd.rdB_app (ks.getD 0 []) t 32 e
    simp only
    rw [ht]
    simp only
    rw [hk]
  rw [if_neg k2] at hf
  by_cases k3 : kd = 3
  · subst k3
    rw [if_pos rfl] at hf
    simp only [Nd.branchB, Bool.and_eq_true, decide_eq_true_eq] at hf
    obtain ⟨a, b, c, d⟩ := hf
    subst a
    refine ⟨3, Nd.takenL ks ++ (ks.flatten ++ Code.textL v), rfl, ?_⟩
    unfold Nd.rdN
    rw [if_neg (by decide), if_neg (by decide), if_pos (by decide), List.append_assoc, List.append_assoc, Nd.rdK_taken ks _ hm c]
    have ht := Nd.rdT_text 32 v t b (by decide)
    simp only
    rw [show (32 : Int) = ((32 : Nat) : Int) from rfl, ht]
  rw [if_neg k3] at hf
  cases hf
theorem Nd.written_begins {n m : N} {t : List UInt8} (hn : n.kids.length = 16) (hm : m.kids.length = 16) (hf : Nd.fine n = true) (hg : Nd.fine m = true) (h : Nd.written n ++ t = Nd.written m) : t = [] ∧ n = m := by
  obtain ⟨k, r, h1, h2⟩ := Nd.rdN_app n t hn hf
  obtain ⟨k', r', h3, h4⟩ := Nd.rdN_app m [] hm hg
  rw [h1, h3] at h
  obtain ⟨rfl, rfl⟩ : k = k' ∧ r ++ t = r' := by simpa using h
  rw [List.append_nil, h2] at h4
  simp only [Prod.mk.injEq, and_true] at h4
  exact ⟨h4.2, h4.1⟩
theorem Nd.written_len (m : N) : 1 ≤ (Nd.written m).length := by
  unfold Nd.written
  simp
end Go.Proofs.YtjbagjhadmbjnaaDoor
namespace Go.Proofs.YtjbagjhadmbjnaaDoor
open Go.Proofs.YtjbagjhadmbjnaaDoor.Nd (N)
theorem Nd.dec_no {s : List UInt8} (h : ∀ m : N, m.kids.length = 16 → Nd.fine m = true → Nd.written m ≠ s) : Nd.dec s = (Nd.zero, 80) :=
  Nd.dec_one (Nd.dec_is s) (Or.inr ⟨rfl, rfl, h⟩)
theorem Nd.dec_cut (n : N) (hn : n.kids.length = 16) (hf : Nd.fine n = true) : Nd.dec ((Nd.written n).take ((Nd.written n).length - 1)) = (Nd.zero, 80) := by
  refine Nd.dec_no fun m hm hg he => ?_
  have h1 := Nd.written_len n
  have h2 := List.take_append_drop ((Nd.written n).length - 1) (Nd.written n)
  rw [← he] at h2
  have h3 := (Nd.written_begins hm hn hg hf h2).1
  have h4 : ((Nd.written n).drop ((Nd.written n).length - 1)).length = 1 := by rw [List.length_drop]; omega
  rw [h3] at h4
  cases h4
theorem Nd.dec_more (n : N) (t : List UInt8) (hn : n.kids.length = 16) (hf : Nd.fine n = true) (ht : t ≠ []) : Nd.dec (Nd.written n ++ t) = (Nd.zero, 80) :=
  Nd.dec_no fun _ hm hg he => ht (Nd.written_begins hn hm hf hg he.symm).1
end Go.Proofs.YtjbagjhadmbjnaaDoor
