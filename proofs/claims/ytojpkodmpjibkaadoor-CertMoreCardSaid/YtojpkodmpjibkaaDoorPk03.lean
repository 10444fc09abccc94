/- PowBase, OraBase, ArgTexts, ArgCert, DigMath, ShaRot, ShaBase, ShaHash, ShaTurn -/
import Derived.Test.YtojpkodmpjibkaaDoorPk01
import Derived.Test.YtojpkodmpjibkaaDoorPk02
import Derived.Deep.Slices
import Derived.DataReads
import Derived.OpenShut
import Derived.SizedLaws
import Derived.Lib.LaidU8
import Derived.Test.YtojpkodmpjibkaaDoorProg
import Derived.WalkKit
import Derived.Lib.Hide
import Derived.Deep.QuietTactic
import Derived.BigQuiet
import Derived.Deep.WholeRow
import Derived.Deep.MidRow
import Derived.Laws.CopyOwn
import Derived.Deep.RegionHeld3
import Derived.Deep.DrawnRows
import Derived.Deep.Cut
import Derived.Deep.CutRange
namespace Go.Proofs.YtojpkodmpjibkaaDoor
open Go.RowKit Go.ChangeShapes Go.WideShapes
open Go.Proofs.YtojpkodmpjibkaaDoor.Pw (M)

theorem less_lt : ∀ (x y : List UInt8), Op.bytesLess x y = decide (x < y)
  | [], [] => by simp [Op.bytesLess]
  | _ :: _, [] => by simp [Op.bytesLess]
  | [], _ :: _ => by simp [Op.bytesLess]
  | a :: x, b :: y => by
    rw [Op.bytesLess, less_lt x y, Bool.eq_iff_iff]
    simp only [Bool.or_eq_true, Bool.and_eq_true, decide_eq_true_eq, beq_iff_eq, List.cons_lt_cons_iff]
def mcells (m : M) : List Value := [.string ⟨m.name.toArray⟩, .int .i64 m.power]
def mrows (L : List M) : List Value := L.flatMap mcells
theorem mrows_length (L : List M) : (mrows L).length = L.length * 2 := by
  induction L with
  | nil => rfl
  | cons a L ih => simp [mrows, mcells] at ih ⊢; omega
theorem mrows_append (L K : List M) : mrows (L ++ K) = mrows L ++ mrows K := by simp [mrows]
theorem mrows_cons (a : M) (L : List M) : mrows (a :: L) = .string ⟨a.name.toArray⟩ :: .int .i64 a.power :: mrows L := by simp [mrows, mcells]
theorem mrows_at (L : List M) (i j : Nat) (hi : i < L.length) (hj : j < 2) : (mrows L)[i * 2 + j]? = (mcells L[i])[j]? := by
  induction L generalizing i with
  | nil => simp at hi
  | cons a L ih =>
    have e : mrows (a :: L) = mcells a ++ mrows L := by simp [mrows]
    rw [e]
    cases i with
    | zero =>
      rw [List.getElem?_append_left (by simp [mcells]; omega)]
      simp
    | succ i =>
      rw [List.getElem?_append_right (by simp [mcells]; omega)]
      have : (i + 1) * 2 + j - (mcells a).length = i * 2 + j := by simp [mcells]; omega
      rw [this, ih i (by simpa using hi)]
      simp
theorem mrows_set (L : List M) (k : Nat) (m : M) (hk : k < L.length) :
    ((mrows L).set (k * 2) (.string ⟨m.name.toArray⟩)).set (k * 2 + 1) (.int .i64 m.power) = mrows (L.set k m) := by
  induction L generalizing k with
  | nil => simp at hk
  | cons a L ih =>
    rw [mrows_cons]
    cases k with
    | zero => simp [mrows_cons]
    | succ k =>
      have := ih k (by simpa using hk)
      rw [show (k + 1) * 2 = k * 2 + 2 by omega]
      simp only [List.set_cons_succ, mrows_cons]
      rw [this]
theorem cellsM : Tryd.prog.cellsOf 64 = 2 := by kernel_rfl
theorem Tryd.infoMember : (Tryd.prog.info? 64).map (fun i => (i.zero, i.size, i.bytes)) = some (some (.agg #[.string ⟨#[]⟩, .int .i64 0]), 2, 24) := by kernel_rfl
theorem Tryd.infoStr : (Tryd.prog.info? 9).map (fun i => (i.zero, i.size, i.bytes)) = some (some (.string ⟨#[]⟩), 1, 16) := by kernel_rfl

/-- A slice that has these members. -/
def Mems (w : World) (v : Value) (L : List M) : Prop :=
  ∃ (A : Option Addr) (cap : Nat), v = .slice A L.length cap ∧ (0 < L.length → ∃ b o, A = some ⟨b, o, none⟩ ∧ b < w.heap.size ∧ ∀ i (h : i < L.length),
    w.cell? ⟨b, o + i * 2, none⟩ = some (.string ⟨L[i].name.toArray⟩) ∧ w.cell? ⟨b, o + i * 2 + 1, none⟩ = some (.int .i64 L[i].power))
theorem Mems.nil (w : World) : Mems w (.slice none 0 0) [] := ⟨none, 0, rfl, fun h => absurd h (by simp)⟩
theorem Mems.below {w w' : World} {v : Value} {L : List M} (h : Mems w v L) (hb : Below w.heap.size w w') : Mems w' v L := by
  obtain ⟨A, cap, rfl, hc⟩ := h
  refine ⟨A, cap, rfl, fun h0 => ?_⟩
  obtain ⟨b, o, rfl, hlt, hcell⟩ := hc h0
  refine ⟨b, o, rfl, Nat.lt_of_lt_of_le hlt hb.size, fun i hi => ?_⟩
  obtain ⟨h1, h2⟩ := hcell i hi
  exact ⟨(hb.cell hlt).trans h1, (hb.cell hlt).trans h2⟩
theorem Mems.drew {w : World} {v : Value} {L : List M} (h : Mems w v L) : Mems w.drew v L := h.below (Below.refl _ w).drew
/-- One member's cells. -/
theorem Mems.at {w w' : World} {A : Option Addr} {n cap : Nat} {L : List M} (h : Mems w (.slice A n cap) L) (hb : Below w.heap.size w w') (k : Nat) (hk : k < L.length) :
    ∃ b o, A = some ⟨b, o, none⟩ ∧ w'.cell? ⟨b, o + k * 2, none⟩ = some (.string ⟨L[k].name.toArray⟩) ∧ w'.cell? ⟨b, o + k * 2 + 1, none⟩ = some (.int .i64 L[k].power) := by
  obtain ⟨A', cap', hv, hc⟩ := h.below hb
  obtain ⟨rfl, rfl, rfl⟩ : A = A' ∧ n = L.length ∧ cap = cap' := by simpa using hv
  obtain ⟨b, o, rfl, _, hcell⟩ := hc (by omega)
  exact ⟨b, o, rfl, hcell k hk⟩
theorem Mems.len {w : World} {A : Option Addr} {n cap : Nat} {L : List M} (h : Mems w (.slice A n cap) L) : n = L.length := by
  obtain ⟨A', cap', hv, _⟩ := h
  simp at hv
  exact hv.2.1
theorem Mems.form {w : World} {v : Value} {L : List M} (h : Mems w v L) : ∃ A cap, v = .slice A L.length cap := by
  obtain ⟨A, cap, rfl, _⟩ := h
  exact ⟨A, cap, rfl⟩
theorem mrow_cells {w : World} {B : Nat} {s : Value} {L : List M} (h : w.ownsRow B 64 2 s L.length (mrows L)) (k : Nat) (hk : k < L.length) :
    ∃ b cap, s = .slice (some ⟨b, 0, none⟩) L.length cap ∧ B ≤ b ∧ b < w.heap.size ∧ w.cell? ⟨b, k * 2, none⟩ = some (.string ⟨L[k].name.toArray⟩) ∧ w.cell? ⟨b, k * 2 + 1, none⟩ = some (.int .i64 L[k].power) := by
  obtain ⟨b, cap, hv, hB, hlt⟩ := h.form (by omega)
  have hc := h.cells (g := b) (by rw [hv]; rfl)
  refine ⟨b, cap, hv, hB, hlt, ?_, ?_⟩
  · have := hc (k * 2 + 0) _ (by rw [mrows_at L k 0 hk (by omega)]; rfl)
    rw [Addr.add_mid] at this; simpa using this
  · have := hc (k * 2 + 1) _ (by rw [mrows_at L k 1 hk (by omega)]; rfl)
    rw [Addr.add_mid] at this; simpa using this
theorem Mems.own {w : World} {B : Nat} {s : Value} {L : List M} (h : w.ownsRow B 64 2 s L.length (mrows L)) : Mems w s L := by
  obtain ⟨A, cap, rfl⟩ := own_form h
  refine ⟨A, cap, rfl, fun h0 => ?_⟩
  obtain ⟨b, cap', hv, _, hlt, _⟩ := mrow_cells h 0 h0
  obtain ⟨rfl, rfl⟩ : A = some ⟨b, 0, none⟩ ∧ cap = cap' := by simpa using hv
  refine ⟨b, 0, rfl, hlt, fun i hi => ?_⟩
  obtain ⟨b', cap', hv', _, _, h1, h2⟩ := mrow_cells h i hi
  obtain ⟨rfl, rfl⟩ : b = b' ∧ cap = cap' := by simpa using hv'
  rw [Nat.zero_add]
  exact ⟨h1, h2⟩

/-- A member that fits. -/
structure OkMem (m : M) : Prop where
  power : (Lit.int .i64 m.power).wf = true
  name : m.name.length ≤ 140737488351232
end Go.Proofs.YtojpkodmpjibkaaDoor
namespace Go.Proofs.YtojpkodmpjibkaaDoor
open Go.RowKit Go.MapKept Go.ChangeShapes Go.WideShapes
open Go.Maps (Keyed)
open Go.Proofs.YtojpkodmpjibkaaDoor.Ora (K Sig)

def sval (s : Sig) : Value := .agg #[.string ⟨s.1.1.toArray⟩, .string ⟨s.1.2.toArray⟩, .bool s.2]
def scl (s : Sig) : List Value := [.string ⟨s.1.1.toArray⟩, .string ⟨s.1.2.toArray⟩, .bool s.2]
def sgrows (L : List Sig) : List Value := L.flatMap scl
theorem sgrows_length (L : List Sig) : (sgrows L).length = L.length * 3 := by
  induction L with
  | nil => rfl
  | cons a L ih => simp [sgrows, scl] at ih ⊢; omega
theorem sgrows_append (L M : List Sig) : sgrows (L ++ M) = sgrows L ++ sgrows M := by simp [sgrows]
theorem sgrows_at (L : List Sig) (i j : Nat) (hi : i < L.length) (hj : j < 3) : (sgrows L)[i * 3 + j]? = (scl L[i])[j]? := by
  induction L generalizing i with
  | nil => simp at hi
  | cons a L ih =>
    have e : sgrows (a :: L) = scl a ++ sgrows L := by simp [sgrows]
    rw [e]
    cases i with
    | zero =>
      rw [List.getElem?_append_left (by simp [scl]; omega)]
      simp
    | succ i =>
      rw [List.getElem?_append_right (by simp [scl]; omega)]
      have : (i + 1) * 3 + j - (scl a).length = i * 3 + j := by simp [scl]; omega
      rw [this, ih i (by simpa using hi)]
      simp
theorem Tryd.infoSigned : (Tryd.prog.info? 101).map (fun i => (i.zero, i.size, i.bytes)) = some (some (.agg #[.string ⟨#[]⟩, .string ⟨#[]⟩, .bool false]), 3, 40) := by kernel_rfl

/-! ### a slice of signatures -/
def Sgs (w : World) (v : Value) (L : List Sig) : Prop :=
  ∃ (A : Option Addr) (cap : Nat), v = .slice A L.length cap ∧ L.length ≤ cap ∧ (0 < L.length → ∃ b o, A = some ⟨b, o, none⟩ ∧ b < w.heap.size ∧ ∀ i (h : i < L.length),
    w.cell? ⟨b, o + i * 3, none⟩ = some (.string ⟨L[i].1.1.toArray⟩) ∧ w.cell? ⟨b, o + i * 3 + 1, none⟩ = some (.string ⟨L[i].1.2.toArray⟩) ∧ w.cell? ⟨b, o + i * 3 + 2, none⟩ = some (.bool L[i].2))
theorem Sgs.nil (w : World) : Sgs w (.slice none 0 0) [] := ⟨none, 0, rfl, Nat.le_refl _, fun h => absurd h (by simp)⟩
theorem Sgs.out {F : Nat → Prop} {w w' : World} {v : Value} {L : List Sig} (h : Sgs w v L) (hb : Out F w w') (hd : ∀ k cs t f, F k → w.heap[k]? ≠ some (.cells cs t f)) : Sgs w' v L := by
  obtain ⟨A, cap, rfl, hcap, hc⟩ := h
  refine ⟨A, cap, rfl, hcap, fun h0 => ?_⟩
  obtain ⟨b, o, rfl, hlt, hcell⟩ := hc h0
  refine ⟨b, o, rfl, Nat.lt_of_lt_of_le hlt hb.size, fun i hi => ?_⟩
  obtain ⟨h1, h2, h3⟩ := hcell i hi
  have hF : ¬ F b := fun hf => by
    unfold World.cell? at h1
    cases hh : w.heap[b]? with
    | none => simp [hh] at h1
    | some ob =>
      cases ob with
      | cells cs t f => exact hd b _ _ _ hf hh
      | _ => simp [hh] at h1
  exact ⟨hb.cell h1 hF, hb.cell h2 hF, hb.cell h3 hF⟩
theorem Sgs.below {w w' : World} {v : Value} {L : List Sig} (h : Sgs w v L) (hb : Below w.heap.size w w') : Sgs w' v L := h.out (F := fun _ => False) (Out.of hb) (fun _ _ _ _ hf => hf.elim)
theorem Sgs.drew {w : World} {v : Value} {L : List Sig} (h : Sgs w v L) : Sgs w.drew v L := h.below (Below.refl _ w).drew
theorem Sgs.at {w w' : World} {A : Option Addr} {n cap : Nat} {L : List Sig} (h : Sgs w (.slice A n cap) L) (hb : Below w.heap.size w w') (k : Nat) (hk : k < L.length) :
    ∃ b o, A = some ⟨b, o, none⟩ ∧ w'.cell? ⟨b, o + k * 3, none⟩ = some (.string ⟨L[k].1.1.toArray⟩) ∧ w'.cell? ⟨b, o + k * 3 + 1, none⟩ = some (.string ⟨L[k].1.2.toArray⟩) ∧ w'.cell? ⟨b, o + k * 3 + 2, none⟩ = some (.bool L[k].2) := by
  obtain ⟨A', cap', hv, _, hc⟩ := h.below hb
  obtain ⟨rfl, rfl, rfl⟩ : A = A' ∧ n = L.length ∧ cap = cap' := by simpa using hv
  obtain ⟨b, o, rfl, _, hcell⟩ := hc (by omega)
  exact ⟨b, o, rfl, hcell k hk⟩
theorem Sgs.form {w : World} {v : Value} {L : List Sig} (h : Sgs w v L) : ∃ A cap, v = .slice A L.length cap ∧ L.length ≤ cap := by
  obtain ⟨A, cap, rfl, hc, _⟩ := h
  exact ⟨A, cap, rfl, hc⟩
/-- A row of signatures of the call's own, in a block from B on. -/
def OwnS (w : World) (B : Nat) (s : Value) (L : List Sig) : Prop := w.ownsRow B 101 3 s L.length (sgrows L)
theorem OwnS.nil (w : World) (B : Nat) : OwnS w B (.slice none 0 0) [] := ⟨rfl, Or.inl ⟨rfl, rfl⟩⟩
theorem OwnS.cells {w : World} {B : Nat} {s : Value} {L : List Sig} (h : OwnS w B s L) (k : Nat) (hk : k < L.length) :
    ∃ b cap, s = .slice (some ⟨b, 0, none⟩) L.length cap ∧ B ≤ b ∧ b < w.heap.size ∧ w.cell? ⟨b, k * 3, none⟩ = some (.string ⟨L[k].1.1.toArray⟩) ∧ w.cell? ⟨b, k * 3 + 1, none⟩ = some (.string ⟨L[k].1.2.toArray⟩) ∧ w.cell? ⟨b, k * 3 + 2, none⟩ = some (.bool L[k].2) := by
  obtain ⟨b, cap, hv, hB, hlt⟩ := World.ownsRow.form h (by omega)
  have hc := World.ownsRow.cells h (g := b) (by rw [hv]; rfl)
  refine ⟨b, cap, hv, hB, hlt, ?_, ?_, ?_⟩
  · have := hc (k * 3 + 0) _ (by rw [sgrows_at L k 0 hk (by omega)]; rfl)
    rw [Addr.add_mid] at this; simpa using this
  · have := hc (k * 3 + 1) _ (by rw [sgrows_at L k 1 hk (by omega)]; rfl)
    rw [Addr.add_mid] at this; simpa using this
  · have := hc (k * 3 + 2) _ (by rw [sgrows_at L k 2 hk (by omega)]; rfl)
    rw [Addr.add_mid] at this; simpa using this
theorem OwnS.sgs {w : World} {B : Nat} {s : Value} {L : List Sig} (h : OwnS w B s L) : Sgs w s L := by
  rcases h.2 with ⟨rfl, h0⟩ | ⟨b, cap, cur, rfl, hB, hh, hn, _⟩
  · obtain rfl : L = [] := List.eq_nil_of_length_eq_zero h0
    exact Sgs.nil w
  · refine ⟨_, cap, rfl, hn, fun h0 => ⟨b, 0, rfl, lt_of_heap hh, fun i hi => ?_⟩⟩
    obtain ⟨b', cap', hv', _, _, h1, h2, h3⟩ := h.cells i hi
    obtain ⟨rfl, rfl⟩ : b = b' ∧ cap = cap' := by simpa using hv'
    rw [Nat.zero_add]
    exact ⟨h1, h2, h3⟩
theorem OwnS.out {G : Nat → Prop} {w w' : World} {B : Nat} {s : Value} {L : List Sig} (h : OwnS w B s L) (ho : Out G w w') (hd : ∀ k cs t f, G k → w.heap[k]? ≠ some (.cells cs t f)) : OwnS w' B s L := row_out h ho hd
theorem OwnS.below {w w' : World} {B : Nat} {s : Value} {L : List Sig} (h : OwnS w B s L) (hb : Below w.heap.size w w') : OwnS w' B s L := h.out (G := fun _ => False) (Out.of hb) (fun _ _ _ _ hf => hf.elim)

/-! ### a signature as a key -/
def kval (k : K) : Value := .agg #[.string ⟨k.1.toArray⟩, .string ⟨k.2.toArray⟩]
theorem kval_inj {a b : K} (h : kval a = kval b) : a = b := by
  unfold kval at h
  injection h with h
  have h' := congrArg Array.toList h
  simp at h'
  exact Prod.ext h'.1 h'.2
def OkK (k : K) : Prop := k.1.length ≤ 140737488351232 ∧ k.2.length ≤ 140737488351232
set_option maxRecDepth 100000 in
theorem laidOutK : laidOutB Tryd.prog = true := by kernel_rfl
set_option maxRecDepth 100000 in
theorem rowK : (96 : TypeId) < Tryd.prog.types.size := of_decide_eq_true (by kernel_rfl)
set_option maxRecDepth 100000 in
theorem wideK : (match Tryd.prog.underlying 96 with | some (.array _ _) | some (.struct _) => true | _ => false) = true := by kernel_rfl
set_option maxRecDepth 100000 in
theorem lawK : Keyed Tryd.prog 96 := Keyed.of_law (deep_law_laid laidOutK (m := 2) (by omega) rowK (by kernel_rfl) wideK)
set_option maxRecDepth 100000 in
theorem keyTypeK : Tryd.prog.keyType 96 = true := by kernel_rfl
set_option maxRecDepth 100000 in
theorem cellsK : Tryd.prog.cellsOf 96 = 2 := by kernel_rfl
set_option maxRecDepth 100000 in
theorem keyK (k : K) (h : OkK k) : ∃ l, keyOf Tryd.prog 96 (kval k) = some l := by
  have ht : (⟨k.1.toArray⟩ : ByteArray).size ≤ maxLen := by have := h.1; simp [ByteArray.size, maxLen]; omega
  have hd : (⟨k.2.toArray⟩ : ByteArray).size ≤ maxLen := by have := h.2; simp [ByteArray.size, maxLen]; omega
  have hf : (kval k).formed Tryd.prog 96 = true := by simp [kval, Value.formed, Tryd.underlying96, cellsK]
  obtain ⟨m, hm⟩ : ∃ m, Tryd.prog.types.size = m + 1 := ⟨Tryd.prog.types.size - 1, (Nat.succ_pred_eq_of_pos (Nat.lt_of_le_of_lt (Nat.zero_le _) rowK)).symm⟩
  unfold keyOf
  simp only [Tryd.underlying96, keyTypeK, hf, hm, Bool.and_self, if_true]
  simp [Program.keyLits, Tryd.underlying96, Tryd.underlying9, kval, Value.cells, cellsK, cellsS, ht, hd]
def sigMap : MapLaw Tryd.prog 96 K Bool := ⟨kval, fun b => .agg #[.bool b], OkK, lawK, keyK, fun _ _ h => kval_inj h⟩
set_option maxRecDepth 100000 in
theorem zeroSteps (w : World) : (zeroValue 90).run Tryd.prog w = .ok (.agg #[.bool false]) w := by kernel_rfl

/-- The table in block g, its map in block m, has the signatures S. -/
structure TabAt (w : World) (g m : Nat) (S : List Sig) : Prop where
  head : w.heap[g]? = some (.cells #[.map (some m)] 94 (0, 0))
  map : FnAt sigMap w m (Ora.look S)
  rise : Ora.Rising S
theorem TabAt.cell {w : World} {g m : Nat} {S : List Sig} (h : TabAt w g m S) : w.cell? ⟨g, 0, none⟩ = some (.map (some m)) := cell_of_row _ _ _ _ _ _ h.head
theorem TabAt.out {F : Nat → Prop} {w w' : World} {g m : Nat} {S : List Sig} (h : TabAt w g m S) (ho : Out F w w') (hg : ¬ F g) (hm : ¬ F m) : TabAt w' g m S := ⟨ho.heap h.head hg, h.map.out ho hm, h.rise⟩
theorem TabAt.below {w w' : World} {g m : Nat} {S : List Sig} (h : TabAt w g m S) (hb : Below w.heap.size w w') : TabAt w' g m S := h.out (F := fun _ => False) (Out.of hb) id id
theorem TabAt.ne {w : World} {g m g' m' : Nat} {S T : List Sig} (h : TabAt w g m S) (k : TabAt w g' m' T) : g ≠ m' := by
  rintro rfl
  exact k.map.no_cells _ _ _ _ rfl h.head
/-- As many entries as signatures. -/
theorem TabAt.len {w : World} {g m : Nat} {S : List Sig} (h : TabAt w g m S) : ∀ ty, (Builtin.len_ #[92] ty #[.map (some m)]).run Tryd.prog w = .ok (.int .i64 (S.length : Nat)) w := by
  obtain ⟨ks, h1, h2, h3⟩ := h.map.len Tryd.underlying92
  have hp : ks.Perm (S.map (·.1)) := (List.perm_ext_iff_of_nodup h1 (List.Pairwise.map _ (fun a b hab => Ora.kLt_ne hab) h.rise)).2 fun k => by
    rw [h2, List.mem_map]
    constructor
    · intro hk
      cases hf : Ora.look S k with
      | none => exact absurd hf hk
      | some b => exact ⟨(k, b), (Ora.look_mem h.rise k b).1 hf, rfl⟩
    · rintro ⟨⟨k', b⟩, hm, rfl⟩
      rw [(Ora.look_mem h.rise _ b).2 hm]; simp
  have hl := hp.length_eq
  rw [List.length_map] at hl
  rw [← hl]
  exact h3
end Go.Proofs.YtojpkodmpjibkaaDoor
namespace Go.Proofs.YtojpkodmpjibkaaDoor
open Go.RowKit Go.ChangeShapes Go.WideShapes

end Go.Proofs.YtojpkodmpjibkaaDoor
namespace Go.Proofs.YtojpkodmpjibkaaDoor
open Go.RowKit Go.ChangeShapes Go.WideShapes
open Go.Proofs.YtojpkodmpjibkaaDoor.Pw (M)

/-- A step that signs a digest's mark. -/
structure Ct.St where
  tag : Int
  who : List UInt8
  sum : List UInt8
  dis : Bool
instance : Inhabited Ct.St := ⟨⟨0, [], [], false⟩⟩
def ctcl (s : Ct.St) : List Value := [.int .i64 s.tag, .string ⟨s.who.toArray⟩, .string ⟨s.sum.toArray⟩, .bool s.dis]
/-- A step that fits. -/
structure OkCs (s : Ct.St) : Prop where
  tag : (Lit.int .i64 s.tag).wf = true
  who : s.who.length ≤ 140737488351232
  sum : s.sum.length ≤ 140737488351232
set_option maxRecDepth 100000 in
theorem cellsCs : Tryd.prog.cellsOf 59 = 4 := by kernel_rfl
set_option maxRecDepth 100000 in
theorem cellsBo : Tryd.prog.cellsOf 4 = 1 := by kernel_rfl
set_option maxRecDepth 100000 in
theorem cellsIn : Tryd.prog.cellsOf 3 = 1 := by kernel_rfl
set_option maxRecDepth 100000 in
theorem cellsSl : Tryd.prog.cellsOf 26 = 1 := by kernel_rfl
set_option maxRecDepth 100000 in
theorem cellsMl : Tryd.prog.cellsOf 22 = 1 := by kernel_rfl
set_option maxRecDepth 100000 in
theorem cellsCl : Tryd.prog.cellsOf 23 = 1 := by kernel_rfl
set_option maxRecDepth 100000 in
theorem cellsCe : Tryd.prog.cellsOf 28 = 2 := by kernel_rfl
set_option maxRecDepth 100000 in
theorem cellsCa : Tryd.prog.cellsOf 25 = 3 := by kernel_rfl
def Css (w : World) (v : Value) (L : List Ct.St) : Prop :=
  ∃ (A : Option Addr) (cap : Nat), v = .slice A L.length cap ∧ (0 < L.length → ∃ b o, A = some ⟨b, o, none⟩ ∧ b < w.heap.size ∧ ∀ i (h : i < L.length),
    w.cell? ⟨b, o + i * 4, none⟩ = some (.int .i64 L[i].tag) ∧ w.cell? ⟨b, o + i * 4 + 1, none⟩ = some (.string ⟨L[i].who.toArray⟩) ∧ w.cell? ⟨b, o + i * 4 + 2, none⟩ = some (.string ⟨L[i].sum.toArray⟩) ∧ w.cell? ⟨b, o + i * 4 + 3, none⟩ = some (.bool L[i].dis))
theorem Css.below {w w' : World} {v : Value} {L : List Ct.St} (h : Css w v L) (hb : Below w.heap.size w w') : Css w' v L := by
  obtain ⟨A, cap, rfl, hc⟩ := h
  refine ⟨A, cap, rfl, fun h0 => ?_⟩
  obtain ⟨b, o, rfl, hlt, hcell⟩ := hc h0
  refine ⟨b, o, rfl, Nat.lt_of_lt_of_le hlt hb.size, fun i hi => ?_⟩
  obtain ⟨h1, h2, h3, h4⟩ := hcell i hi
  exact ⟨(hb.cell hlt).trans h1, (hb.cell hlt).trans h2, (hb.cell hlt).trans h3, (hb.cell hlt).trans h4⟩
theorem Css.at {w w' : World} {A : Option Addr} {n cap : Nat} {L : List Ct.St} (h : Css w (.slice A n cap) L) (hb : Below w.heap.size w w') (k : Nat) (hk : k < L.length) :
    ∃ b o, A = some ⟨b, o, none⟩ ∧ b < w.heap.size ∧ w'.cell? ⟨b, o + k * 4, none⟩ = some (.int .i64 L[k].tag) ∧ w'.cell? ⟨b, o + k * 4 + 1, none⟩ = some (.string ⟨L[k].who.toArray⟩) ∧ w'.cell? ⟨b, o + k * 4 + 2, none⟩ = some (.string ⟨L[k].sum.toArray⟩) ∧ w'.cell? ⟨b, o + k * 4 + 3, none⟩ = some (.bool L[k].dis) := by
  obtain ⟨A0, cap0, hv0, hc0⟩ := h
  obtain ⟨rfl, rfl, rfl⟩ : A = A0 ∧ n = L.length ∧ cap = cap0 := by simpa using hv0
  obtain ⟨b, o, rfl, hlt, hcell⟩ := hc0 (by omega)
  obtain ⟨h1, h2, h3, h4⟩ := hcell k hk
  exact ⟨b, o, rfl, hlt, (hb.cell hlt).trans h1, (hb.cell hlt).trans h2, (hb.cell hlt).trans h3, (hb.cell hlt).trans h4⟩
theorem Css.form {w : World} {v : Value} {L : List Ct.St} (h : Css w v L) : ∃ A cap, v = .slice A L.length cap := by
  obtain ⟨A, cap, rfl, _⟩ := h
  exact ⟨A, cap, rfl⟩

set_option maxRecDepth 100000 in
theorem cs_cells {H : Type} {enc : TypeId × Value → H} {W : World} {fuel : Nat} {cs : List Value} {x : DataW H × List MemPlace} (ht : DataW.trod enc Tryd.prog W 0 (fun _ => true) true fuel 59 cs = some x) :
    ∃ s : Ct.St, cs = ctcl s ∧ (Lit.int .i64 s.tag).wf = true ∧ x.1 = .agg [.lit (.int .i64 s.tag), .lit (.string s.who), .lit (.string s.sum), .lit (.bool s.dis)] := by
  obtain ⟨ys, n', _, hy, hcl, hyl, hfs⟩ := DataW.trod_struct Tryd.underlying59 ht
  rw [cellsCs] at hcl
  match cs, hcl, ys, hyl with
  | [v0, v1, v2, v3], _, [y0, y1, y2, y3], _ =>
    have g0 := hfs 0 _ rfl
    have g1 := hfs 1 _ rfl
    have g2 := hfs 2 _ rfl
    have g3 := hfs 3 _ rfl
    simp [cellsBo, cellsS, cellsIn] at g0 g1 g2 g3
    obtain ⟨t0, e0, x0, wf⟩ := DataW.trod_int Tryd.underlying3 g0
    obtain ⟨s1, e1, x1, _⟩ := DataW.trod_string Tryd.underlying9 g1
    obtain ⟨s2, e2, x2, _⟩ := DataW.trod_string Tryd.underlying9 g2
    obtain ⟨b3, e3, x3⟩ := DataW.trod_bool Tryd.underlying4 g3
    obtain rfl : v0 = .int .i64 t0 := by simpa using e0
    obtain rfl : v1 = .string s1 := by simpa using e1
    obtain rfl : v2 = .string s2 := by simpa using e2
    obtain rfl : v3 = .bool b3 := by simpa using e3
    refine ⟨⟨t0, s1.data.toList, s2.data.toList, b3⟩, by simp [ctcl], wf, ?_⟩
    have := congrArg Prod.fst hy
    simpa [x0, x1, x2, x3] using this
set_option maxRecDepth 100000 in
theorem cs_fits {H : Type} {s : Ct.St} (hwf : (Lit.int .i64 s.tag).wf = true) (hw : ∀ k ∈ (DataW.agg [.lit (.int .i64 s.tag), .lit (.string s.who), .lit (.string s.sum), .lit (.bool s.dis)] : DataW H).weights Tryd.prog 59, k ≤ reachBytes) : OkCs s := by
  simp [DataW.weights, DataW.weightsEach, Tryd.underlying59] at hw
  obtain ⟨b1, b2⟩ := hw
  have : reachBytes = 140737488351232 := rfl
  exact ⟨hwf, by omega, by omega⟩

set_option maxRecDepth 100000 in
theorem css_trod {H : Type} {enc : TypeId × Value → H} {W : World} {fuel : Nat} {v : Value} {z : DataW H × List MemPlace}
    (hf : DataW.trod enc Tryd.prog W 0 (fun _ => true) true fuel 23 [v] = some z)
    (hz : ∀ n ∈ z.1.weights Tryd.prog 23, n ≤ reachBytes) :
    ∃ L, Css W v L ∧ L.length * 48 ≤ reachBytes ∧ ∀ s ∈ L, OkCs s := by
  rcases Go.Deep.open_slice Tryd.underlying23 hf with ⟨hcs, _⟩ | ⟨x, l, c, m, n, D, Pl, hcs, _, hl, hm, hmm, hx, hel⟩
  · obtain rfl : v = .slice none 0 0 := by simpa using hcs
    exact ⟨[], ⟨none, 0, rfl, fun h => absurd h (by simp)⟩, by simp, fun n hn => by simp at hn⟩
  · obtain rfl : v = .slice (some x) l c := by simpa using hcs
    simp only [if_true] at hmm
    subst hmm
    rw [cellsCs] at hel hx
    have hd : z.1 = _ := congrArg Prod.fst hx
    have hw : ∀ i, i < l → ∀ k ∈ (D i).weights Tryd.prog 59, k ≤ reachBytes := fun i hi k hk => by
      refine hz k ?_
      rw [hd]
      simp only [DataW.weights, Tryd.underlying23, List.mem_cons, List.mem_append]
      exact Or.inr (Or.inl (weights_of_mem (List.mem_map.2 ⟨i, List.mem_range.2 hi, rfl⟩) k hk))
    have hlen40 : l * 48 ≤ reachBytes := by
      have h1 := hz ((((List.range l).map D).length + ((List.range (m - l)).map fun j => D (l + j)).length) * Tryd.prog.bytesOf 59) (by
        rw [hd]; simp [DataW.weights, Tryd.underlying23])
      rw [show Tryd.prog.bytesOf 59 = 48 from by kernel_rfl] at h1
      simp only [List.length_map, List.length_range] at h1
      omega
    have key : ∀ i, i < l → ∃ q : Ct.St, OkCs q ∧ W.cell? ((x.add (i * 4)).add 0) = some (.int .i64 q.tag) ∧ W.cell? ((x.add (i * 4)).add 1) = some (.string ⟨q.who.toArray⟩) ∧ W.cell? ((x.add (i * 4)).add 2) = some (.string ⟨q.sum.toArray⟩) ∧ W.cell? ((x.add (i * 4)).add 3) = some (.bool q.dis) := fun i hi => by
      obtain ⟨cs', hc, ht⟩ := hel i (by omega)
      obtain ⟨_, _, hat⟩ := World.cells?_some hc
      obtain ⟨q, rfl, hwf, hD⟩ := cs_cells ht
      have hwi := hw i hi
      dsimp only at hD
      rw [hD] at hwi
      refine ⟨q, cs_fits hwf hwi, ?_, ?_, ?_, ?_⟩
      · simpa [ctcl] using hat 0 (by omega)
      · simpa [ctcl] using hat 1 (by omega)
      · simpa [ctcl] using hat 2 (by omega)
      · simpa [ctcl] using hat 3 (by omega)
    obtain ⟨f, hf⟩ := Go.Deep.choose_lt (fun i hi => key i hi)
    have hlen : ((List.range l).map f).length = l := by simp
    refine ⟨(List.range l).map f, ⟨some x, _, by rw [hlen], fun h0 => ?_⟩, by rw [hlen]; exact hlen40, ?_⟩
    · rw [hlen] at h0
      obtain ⟨b, o, sp⟩ := x
      obtain ⟨_, q0, _⟩ := hf 0 h0
      have hcell' : W.cell? ⟨b, o, sp⟩ = some (.int .i64 (f 0).tag) := by simpa [Addr.add] using q0
      obtain rfl := cell_spot hcell'
      refine ⟨b, o, rfl, block_lt_of_cell hcell', fun i hi => ?_⟩
      rw [hlen] at hi
      obtain ⟨_, q0, q1, q2, q3⟩ := hf i hi
      rw [Addr.add_mid, Addr.add_mid] at q0 q1 q2 q3
      simpa using ⟨q0, q1, q2, q3⟩
    · intro n hn
      obtain ⟨i, hi, rfl⟩ := List.mem_map.1 hn
      exact (hf i (List.mem_range.1 hi)).1

set_option maxRecDepth 100000 in
theorem css_open {H : Type} {enc : TypeId × Value → H} {W : World} {r : Reach} {b0 : Nat} {v : Value} {d : DataW H} {p : List MemPlace}
    (hv : Value.okWide Tryd.prog W r b0 23 v) (h : DataW.Trod enc Tryd.prog W 0 (fun _ => true) true 23 v d p)
    (hz : ∀ n ∈ d.weights Tryd.prog 23, n ≤ reachBytes) :
    ∃ L, Css W v L ∧ L.length * 48 ≤ reachBytes ∧ ∀ s ∈ L, OkCs s := by
  obtain ⟨a0, len, cap, rfl⟩ := okWide_slice Tryd.underlying23 hv
  obtain ⟨fuel, hf⟩ := h
  exact css_trod (v := .slice a0 len cap) hf hz

set_option maxRecDepth 100000 in
theorem mems_trod {H : Type} {enc : TypeId × Value → H} {W : World} {fuel : Nat} {v : Value} {z : DataW H × List MemPlace}
    (hf : DataW.trod enc Tryd.prog W 0 (fun _ => true) true fuel 22 [v] = some z)
    (hz : ∀ n ∈ z.1.weights Tryd.prog 22, n ≤ reachBytes) :
    ∃ L, Mems W v L ∧ L.length * 24 ≤ reachBytes ∧ ∀ m ∈ L, OkMem m := by
  rcases Go.Deep.open_slice Tryd.underlying22 hf with ⟨hcs, _⟩ | ⟨x, l, c, m, n, D, Pl, hcs, _, hl, hm, hmm, hx, hel⟩
  · obtain rfl : v = .slice none 0 0 := by simpa using hcs
    exact ⟨[], Mems.nil W, by simp, fun n hn => by simp at hn⟩
  · obtain rfl : v = .slice (some x) l c := by simpa using hcs
    simp only [if_true] at hmm
    subst hmm
    rw [cellsM] at hel hx
    have hd : z.1 = _ := congrArg Prod.fst hx
    have hw : ∀ i, i < l → ∀ k ∈ (D i).weights Tryd.prog 64, k ≤ reachBytes := fun i hi k hk => by
      refine hz k ?_
      rw [hd]
      simp only [DataW.weights, Tryd.underlying22, List.mem_cons, List.mem_append]
      exact Or.inr (Or.inl (weights_of_mem (List.mem_map.2 ⟨i, List.mem_range.2 hi, rfl⟩) k hk))
    have hlen24 : l * 24 ≤ reachBytes := by
      have h1 := hz ((((List.range l).map D).length + ((List.range (m - l)).map fun j => D (l + j)).length) * Tryd.prog.bytesOf 64) (by
        rw [hd]; simp [DataW.weights, Tryd.underlying22])
      rw [show Tryd.prog.bytesOf 64 = 24 from by kernel_rfl] at h1
      simp only [List.length_map, List.length_range] at h1
      omega
    have key : ∀ i, i < l → ∃ q : M, OkMem q ∧ W.cell? ((x.add (i * 2)).add 0) = some (.string ⟨q.name.toArray⟩) ∧ W.cell? ((x.add (i * 2)).add 1) = some (.int .i64 q.power) := fun i hi => by
      obtain ⟨cs', hc, ht⟩ := hel i (by omega)
      obtain ⟨ys, n', _, hy, hcl, hyl, hfs⟩ := DataW.trod_struct Tryd.underlying64 ht
      rw [cellsM] at hcl
      obtain ⟨_, _, hat⟩ := World.cells?_some hc
      match cs', hcl, ys, hyl with
      | [v0, v1], _, [y0, y1], _ =>
        have g0 := hfs 0 _ rfl
        have g1 := hfs 1 _ rfl
        simp [cellsIn, cellsS] at g0 g1
        obtain ⟨s0, e0, x0, z0⟩ := DataW.trod_string Tryd.underlying9 g0
        obtain ⟨t, e1, x1, wf⟩ := DataW.trod_int Tryd.underlying3 g1
        obtain rfl : v0 = .string s0 := by simpa using e0
        obtain rfl : v1 = .int .i64 t := by simpa using e1
        have hD : D i = .agg [.lit (.string s0.data.toList), .lit (.int .i64 t)] := by
          have := (Prod.mk.inj hy).1
          simpa [x0, x1] using this
        have hwi := hw i hi
        rw [hD] at hwi
        simp [DataW.weights, DataW.weightsEach, Tryd.underlying64] at hwi
        refine ⟨⟨s0.data.toList, t⟩, ⟨wf, ?_⟩, ?_, ?_⟩
        · have : reachBytes = 140737488351232 := rfl
          simp at hwi ⊢; omega
        · simpa using hat 0 (by omega)
        · simpa using hat 1 (by omega)
    obtain ⟨f, hf⟩ := Go.Deep.choose_lt (fun i hi => key i hi)
    have hlen : ((List.range l).map f).length = l := by simp
    refine ⟨(List.range l).map f, ⟨some x, _, by rw [hlen], fun h0 => ?_⟩, by rw [hlen]; exact hlen24, ?_⟩
    · rw [hlen] at h0
      obtain ⟨b, o, sp⟩ := x
      obtain ⟨_, q0, _⟩ := hf 0 h0
      have hcell' : W.cell? ⟨b, o, sp⟩ = some (.string ⟨(f 0).name.toArray⟩) := by simpa [Addr.add] using q0
      obtain rfl := cell_spot hcell'
      refine ⟨b, o, rfl, block_lt_of_cell hcell', fun i hi => ?_⟩
      rw [hlen] at hi
      obtain ⟨_, q0, q1⟩ := hf i hi
      rw [Addr.add_mid, Addr.add_mid] at q0 q1
      simpa using ⟨q0, q1⟩
    · intro n hn
      obtain ⟨i, hi, rfl⟩ := List.mem_map.1 hn
      exact (hf i (List.mem_range.1 hi)).1

set_option maxRecDepth 100000 in
theorem strs_trod {H : Type} {enc : TypeId × Value → H} {W : World} {fuel : Nat} {v : Value} {z : DataW H × List MemPlace}
    (hf : DataW.trod enc Tryd.prog W 0 (fun _ => true) true fuel 26 [v] = some z) :
    ∃ L, Strs W v L ∧ L.length ≤ maxLen := by
  rcases open_strings Tryd.underlying26 Tryd.underlying9 (by kernel_rfl) hf with ⟨hcs, _⟩ | ⟨x, len, cap, ss, hcs, _, hl, hm, hz, _, hcell, hws⟩
  · obtain rfl : v = .slice none 0 0 := by simpa using hcs
    exact ⟨[], Strs.nil W, Nat.zero_le _⟩
  · obtain rfl : v = .slice (some x) len cap := by simpa using hcs
    simp only [if_true] at hz
    have hlen : ((ss.take len).map (·.data.toList)).length = len := by simp; omega
    refine ⟨(ss.take len).map (·.data.toList), ⟨some x, cap, by rw [hlen], fun i hi => ⟨x, rfl, ?_⟩⟩, by omega⟩
    rw [hlen] at hi
    rw [hcell i (by omega)]
    simp [List.getD, List.getElem?_eq_getElem (show i < ss.length by omega)]

set_option maxRecDepth 100000 in
/-- A certificate that came in. -/
theorem cert_open {H : Type} {enc : TypeId × Value → H} {W : World} {r : Reach} {b0 : Nat} {v : Value} {d : DataW H} {p : List MemPlace}
    (hv : Value.okWide Tryd.prog W r b0 28 v) (h : DataW.Trod enc Tryd.prog W 0 (fun _ => true) true 28 v d p) :
    ∃ (D : List UInt8) (s : Value) (N : List (List UInt8)), v = .agg #[.string ⟨D.toArray⟩, s] ∧ D.length ≤ maxLen ∧ Strs W s N ∧ N.length ≤ maxLen := by
  obtain ⟨cs, rfl, _⟩ := okWide_struct Tryd.underlying28 hv
  obtain ⟨fuel, hf⟩ := h
  obtain ⟨ys, n', _, hy, hcl, hyl, hfs⟩ := DataW.trod_struct Tryd.underlying28 hf
  rw [cellsCe] at hcl
  obtain ⟨l⟩ := cs
  change l.length = 2 at hcl
  match l, hcl, ys, hyl with
  | [v0, v1], _, [y0, y1], _ =>
    have g0 := hfs 0 _ rfl
    have g1 := hfs 1 _ rfl
    simp [cellsS, cellsSl, Value.cells] at g0 g1
    obtain ⟨s0, e0, x0, z0⟩ := DataW.trod_string Tryd.underlying9 g0
    obtain rfl : v0 = .string s0 := by simpa using e0
    obtain ⟨L, hL, hLl⟩ := strs_trod g1
    exact ⟨s0.data.toList, v1, L, by simp, by rw [Array.length_toList]; exact z0, hL, hLl⟩

set_option maxRecDepth 100000 in
/-- A case that came in. -/
theorem case_open {H : Type} {enc : TypeId × Value → H} {W : World} {r : Reach} {b0 : Nat} {v : Value} {d : DataW H} {p : List MemPlace}
    (hv : Value.okWide Tryd.prog W r b0 25 v) (h : DataW.Trod enc Tryd.prog W 0 (fun _ => true) true 25 v d p)
    (hz : ∀ n ∈ d.weights Tryd.prog 25, n ≤ reachBytes) :
    ∃ (t : Int) (u x : Value) (L : List M) (S : List Ct.St), v = .agg #[.int .i64 t, u, x] ∧ (Lit.int .i64 t).wf = true ∧ Mems W u L ∧ L.length * 24 ≤ reachBytes ∧ Css W x S ∧ S.length * 48 ≤ reachBytes ∧ ∀ s ∈ S, OkCs s := by
  obtain ⟨cs, rfl, _⟩ := okWide_struct Tryd.underlying25 hv
  obtain ⟨fuel, hf⟩ := h
  obtain ⟨ys, n', _, hy, hcl, hyl, hfs⟩ := DataW.trod_struct Tryd.underlying25 hf
  rw [cellsCa] at hcl
  obtain ⟨l⟩ := cs
  change l.length = 3 at hcl
  match l, hcl, ys, hyl with
  | [v0, v1, v2], _, [y0, y1, y2], _ =>
    have g0 := hfs 0 _ rfl
    have g1 := hfs 1 _ rfl
    have g2 := hfs 2 _ rfl
    simp [cellsIn, cellsMl, cellsCl, Value.cells] at g0 g1 g2
    obtain ⟨t, e0, x0, wf⟩ := DataW.trod_int Tryd.underlying3 g0
    obtain rfl : v0 = .int .i64 t := by simpa using e0
    have hd : d = .agg [y0.1, y1.1, y2.1] := by simpa using congrArg Prod.fst hy
    have hz1 : ∀ n ∈ y1.1.weights Tryd.prog 22, n ≤ reachBytes := fun n hn => hz n (by
      rw [hd]; simp [DataW.weights, DataW.weightsEach, Tryd.underlying25, hn])
    have hz2 : ∀ n ∈ y2.1.weights Tryd.prog 23, n ≤ reachBytes := fun n hn => hz n (by
      rw [hd]; simp [DataW.weights, DataW.weightsEach, Tryd.underlying25, hn])
    obtain ⟨L, hL, hL2, _⟩ := mems_trod g1 hz1
    obtain ⟨S, hS, hS2, hS3⟩ := css_trod g2 hz2
    exact ⟨t, v1, v2, L, S, rfl, wf, hL, hL2, hS, hS2, hS3⟩
end Go.Proofs.YtojpkodmpjibkaaDoor
namespace Go.Proofs.YtojpkodmpjibkaaDoor.Dig

/-- A thing that is noted. -/
structure N where
  tag : Int
  text : List UInt8
  dig : List UInt8
theorem N.ext' {a b : N} (h1 : a.tag = b.tag) (h2 : a.text = b.text) (h3 : a.dig = b.dig) : a = b := by
  cases a; cases b; simp_all
instance : DecidableEq N := fun a b =>
  if h : a.tag = b.tag ∧ a.text = b.text ∧ a.dig = b.dig then isTrue (N.ext' h.1 h.2.1 h.2.2) else isFalse (fun e => h (by subst e; exact ⟨rfl, rfl, rfl⟩))
def zero : N := ⟨0, [], []⟩
def isTag (t : Int) : Bool := decide (1 ≤ t) && decide (t ≤ 255)
def taken (L : List N) (n : N) : Prop := isTag n.tag = true ∧ n.dig.length = 32 ∧ n ∉ L ∧ L.length < 1024
instance (L : List N) (n : N) : Decidable (taken L n) := by unfold taken; exact inferInstance
def find (L : List N) (d : List UInt8) : Option N := L.find? (fun n => decide (n.dig = d))
/-- By a sum the first of the things that has it. -/
structure Firsts (M L : List N) : Prop where
  here : ∀ n ∈ M, find L n.dig = some n
  all : ∀ n ∈ L, ∃ m ∈ M, m.dig = n.dig
theorem find_none {L : List N} {d : List UInt8} : find L d = none ↔ ∀ n ∈ L, n.dig ≠ d := by
  simp [find]
theorem find_snoc (L : List N) (n : N) (d : List UInt8) : find (L ++ [n]) d = (find L d).or (if n.dig = d then some n else none) := by
  simp only [find, List.find?_append, List.find?_cons, List.find?_nil]
  by_cases h : n.dig = d <;> simp [h]
theorem Firsts.nil : Firsts [] [] := ⟨fun _ h => by simp at h, fun _ h => by simp at h⟩
theorem Firsts.lost {M L : List N} (h : Firsts M L) {d : List UInt8} (hn : ∀ m ∈ M, m.dig ≠ d) : find L d = none := by
  rw [find_none]
  intro n hnL e
  obtain ⟨m, hm, hmd⟩ := h.all n hnL
  exact hn m hm (hmd.trans e)
theorem Firsts.new {M L : List N} (h : Firsts M L) {n : N} (hn : ∀ m ∈ M, m.dig ≠ n.dig) : Firsts (M ++ [n]) (L ++ [n]) := by
  have hl := h.lost hn
  constructor
  · intro m hm
    rw [find_snoc]
    rcases List.mem_append.1 hm with hm | hm
    · rw [h.here m hm]; rfl
    · obtain rfl : m = n := by simpa using hm
      rw [hl]; simp
  · intro k hk
    rcases List.mem_append.1 hk with hk | hk
    · obtain ⟨m, hm, e⟩ := h.all k hk
      exact ⟨m, List.mem_append_left _ hm, e⟩
    · exact ⟨n, List.mem_append_right _ (by simp), by obtain rfl : k = n := (by simpa using hk); rfl⟩
theorem Firsts.old {M L : List N} (h : Firsts M L) {n m : N} (hm : m ∈ M) (e : m.dig = n.dig) : Firsts M (L ++ [n]) := by
  constructor
  · intro k hk
    rw [find_snoc, h.here k hk]; rfl
  · intro k hk
    rcases List.mem_append.1 hk with hk | hk
    · exact h.all k hk
    · exact ⟨m, hm, by obtain rfl : k = n := (by simpa using hk); exact e⟩
end Go.Proofs.YtojpkodmpjibkaaDoor.Dig
namespace Go.Proofs.YtojpkodmpjibkaaDoor
open Go.RowKit

theorem and31_fin : ∀ n : Fin 32, 0 < n.val → bits .and .u64 (IntKind.u64.wrap (-(n.val : Int))) 31 = 32 - (n.val : Int) := by decide +kernel
theorem and31 (n : Int) (h0 : 1 ≤ n) (h1 : n ≤ 31) : bits .and .u64 (IntKind.u64.wrap (-n)) 31 = 32 - n := by
  have := and31_fin ⟨n.toNat, by omega⟩ (by simp; omega)
  simpa [Int.toNat_of_nonneg (show 0 ≤ n by omega)] using this
set_option maxHeartbeats 400000 in
theorem rotl_any (x n : Int) (w : World) (h0 : 1 ≤ n) (h1 : n ≤ 31) :
    Calls Tryd.prog 133 #[.int .u32 x, .int .i64 (-n)] w fun e w' => e = .returned (.int .u32 (Sha.rotI x n)) ∧ w' = w := by
  have hk := and31 n h0 h1
  have e : (32 - (32 - n)).toNat = n.toNat := by omega
  go_enter Tryd.func133, Tryd.ntmps133
  go_wp2
  go_ret
  refine ⟨?_, rfl⟩
  simp [Sha.rotI]
set_option maxHeartbeats 400000 in
theorem rot_any (x n : Int) (w : World) (h0 : 1 ≤ n) (h1 : n ≤ 31) :
    Calls Tryd.prog 131 #[.int .u32 x, .int .i64 n] w fun e w' => e = .returned (.int .u32 (Sha.rotI x n)) ∧ w' = w := by
  go_enter Tryd.func131, Tryd.ntmps131
  go_wp2_with fail
  refine (rotl_any x n _ h0 h1).mono ?_
  rintro e w1 ⟨rfl, rfl⟩
  go_wp2
  go_ret
  exact ⟨rfl, rfl⟩
end Go.Proofs.YtojpkodmpjibkaaDoor
namespace Go.Proofs.YtojpkodmpjibkaaDoor
open Go.RowKit

/-- The words as cells. -/
def u32s (l : List Int) : Array Value := (l.map fun x => Value.int .u32 x).toArray
theorem u32s_at (l : List Int) (j : Nat) (hj : j < l.length) : (u32s l)[j]? = some (.int .u32 (l.getD j 0)) := by
  simp [u32s, hj]
theorem u32s_size (l : List Int) : (u32s l).size = l.length := by simp [u32s]
theorem u32s_one (l : List Int) : (u32s l).all (·.oneCell') = true := by
  simp only [u32s, List.all_toArray, List.all_map, List.all_eq_true]
  intro x _
  rfl
theorem u32s_set (l : List Int) (j : Nat) (x : Int) : (u32s l).setIfInBounds j (.int .u32 x) = u32s (l.set j x) := by
  simp [u32s, List.map_set]
/-- The bytes as cells. -/
def u8s (l : List UInt8) : Array Value := (cellsL l).toArray
theorem u8s_at (l : List UInt8) (j : Nat) (hj : j < l.length) : (u8s l)[j]? = some (.int .u8 ((l.getD j 0).toNat : Int)) := by
  simp [u8s, cellsL, hj]
theorem u8s_size (l : List UInt8) : (u8s l).size = l.length := by simp [u8s, cellsL]
theorem u8s_set (l : List UInt8) (j : Nat) (x : UInt8) : (u8s l).setIfInBounds j (.int .u8 (x.toNat : Int)) = u8s (l.set j x) := by
  simp [u8s, cellsL, List.map_set]
/-- The table of constants lies where the program has it. -/
def Tab (w : World) : Prop := ∀ i : Nat, i < 64 → w.cell? ⟨1, i, none⟩ = some (.int .u32 (Sha.kTab.getD i 0))
theorem Tab.below {w w' : World} (h : Tab w) (hb : Below w.heap.size w w') : Tab w' := fun i hi => (hb.cell (block_lt_of_cell (h i hi))).trans (h i hi)
theorem Tab.pos {w : World} (h : Tab w) : 1 < w.heap.size := block_lt_of_cell (h 0 (by omega))
theorem wrap_small (n : Int) (h0 : 0 ≤ n) (h1 : n ≤ 1000000) : IntKind.i64.wrap n = n := by
  unfold IntKind.wrap
  simp [IntKind.signed, IntKind.bits]
  omega

end Go.Proofs.YtojpkodmpjibkaaDoor
namespace Go.Proofs.YtojpkodmpjibkaaDoor
open Go.RowKit

def words8 (s : Sha.St) : List Value := [.int .u32 s.a, .int .u32 s.b, .int .u32 s.c, .int .u32 s.d, .int .u32 s.e, .int .u32 s.f, .int .u32 s.g, .int .u32 s.h]
/-- A hash's cells: the words, the open block, the count. -/
def hashL (s : Sha.St) (o : List UInt8) (n : Nat) : List Value := words8 s ++ (cellsL o ++ [.int .u64 (n : Int)])
theorem hashL_length (s : Sha.St) (o : List UInt8) (n : Nat) (h : o.length = 64) : (hashL s o n).length = 73 := by
  simp [hashL, words8, cellsL_length, h]
theorem hashL_count (s : Sha.St) (o : List UInt8) (n : Nat) (h : o.length = 64) : (hashL s o n).toArray[72]? = some (.int .u64 (n : Int)) := by
  rw [List.getElem?_toArray]
  unfold hashL
  rw [List.getElem?_append_right (by simp [words8]), List.getElem?_append_right (by simp [words8, cellsL_length, h])]
  simp [words8, cellsL_length, h]
theorem hashL_setCount (s : Sha.St) (o : List UInt8) (n m : Nat) (h : o.length = 64) : (hashL s o n).toArray.setIfInBounds 72 (.int .u64 (m : Int)) = (hashL s o m).toArray := by
  rw [List.setIfInBounds_toArray]
  unfold hashL
  rw [List.set_append_right _ _ (by simp [words8]), List.set_append_right _ _ (by simp [words8, cellsL_length, h])]
  simp [words8, cellsL_length, h]
theorem hashL_open (s : Sha.St) (o : List UInt8) (n j : Nat) (hj : j < o.length) : (hashL s o n).toArray[8 + j]? = some (.int .u8 ((o.getD j 0).toNat : Int)) := by
  rw [List.getElem?_toArray]
  unfold hashL
  rw [List.getElem?_append_right (by simp [words8]), List.getElem?_append_left (by simp [words8, cellsL_length, hj])]
  simp [words8, cellsL, hj]
theorem hashL_set8 (s t : Sha.St) (o : List UInt8) (n : Nat) :
    ((((((((hashL s o n).toArray.setIfInBounds 0 (.int .u32 t.a)).setIfInBounds 1 (.int .u32 t.b)).setIfInBounds 2 (.int .u32 t.c)).setIfInBounds 3 (.int .u32 t.d)).setIfInBounds 4 (.int .u32 t.e)).setIfInBounds 5 (.int .u32 t.f)).setIfInBounds 6 (.int .u32 t.g)).setIfInBounds 7 (.int .u32 t.h) = (hashL t o n).toArray := by
  simp [hashL, words8]
/-- Bytes laid over the open block. -/
theorem hashL_copy (s : Sha.St) (o x : List UInt8) (n m : Nat) (ho : o.length = 64) (hm : m + x.length ≤ 64) :
    (hashL s o n).take (8 + m) ++ cellsL x ++ (hashL s o n).drop (8 + m + x.length) = hashL s (o.take m ++ x ++ o.drop (m + x.length)) n := by
  have h8 : (words8 s).length = 8 := rfl
  have hc : (cellsL o).length = 64 := by rw [cellsL_length, ho]
  unfold hashL
  rw [List.take_append, List.drop_append, h8, List.take_of_length_le (by omega), List.drop_eq_nil_of_le (by omega), show 8 + m - 8 = m by omega, show 8 + m + x.length - 8 = m + x.length by omega,
    List.take_append_of_le_length (by omega), List.drop_append_of_le_length (by omega)]
  simp [cellsL]

theorem Only.setRow {g : Nat} {a w : World} (h : Only g a w) (cs : Array Value) : Only g a (w.setRow g cs) :=
  ⟨h.os, h.tape, h.output, by have := h.size; simpa using this, fun i hi hg => (setRow_other w g i cs hg).trans (h.block i hi hg)⟩
theorem Tab.only {w w' : World} {g : Nat} (h : Tab w) (ho : Only g w w') (hg : 1 < g) : Tab w' := fun i hi => ho.cell (h i hi) (by dsimp only; omega)

/-- The hash in block g has the text t. -/
def HashIs (w : World) (g : Nat) (t : List UInt8) : Prop :=
  ∃ o : List UInt8, o.length = 64 ∧ o.take (t.length % 64) = Sha.restP t ∧ w.heap[g]? = some (.cells (hashL (Sha.wordsP t) o t.length).toArray 126 (0, 0))
theorem HashIs.lt {w : World} {g : Nat} {t : List UInt8} (h : HashIs w g t) : g < w.heap.size := by
  obtain ⟨_, _, _, hg⟩ := h
  exact lt_of_heap hg
theorem HashIs.below {w w' : World} {g : Nat} {t : List UInt8} (h : HashIs w g t) (hb : Below w.heap.size w w') : HashIs w' g t := by
  have hlt := h.lt
  obtain ⟨o, h1, h2, hg⟩ := h
  exact ⟨o, h1, h2, (hb.block g hlt).trans hg⟩
theorem HashIs.only {w w' : World} {g g' : Nat} {t : List UInt8} (h : HashIs w g t) (hb : Only g' w w') (hn : g ≠ g') : HashIs w' g t := by
  have hlt := h.lt
  obtain ⟨o, h1, h2, hg⟩ := h
  exact ⟨o, h1, h2, (hb.block g hlt hn).trans hg⟩

/-- copy(dst, s), s a string, dst in row g from place o on: as many bytes as there are, or as fit. -/
theorem run_copy_part {P : Program} (w : World) (dT sT ty elem : TypeId) (g o dLen dCap n : Nat) (l : List UInt8) (cur : Array Value) (t : TypeId)
    (hu : P.underlying dT = some (.slice elem)) (hs : (P.info? elem).map (·.size) = some 1) (hg : w.heap[g]? = some (.cells cur t (0, 0))) (hn : n = Nat.min l.length dLen) (hfit : o + n ≤ cur.size) :
    (Builtin.copy_ #[dT, sT] ty #[.slice (some ⟨g, o, none⟩) dLen dCap, .string ⟨l.toArray⟩]).run P w =
      .ok (goInt n) (w.setRow g (cur.toList.take o ++ cellsL (l.take n) ++ cur.toList.drop (o + n)).toArray) := by
  have hnl : n ≤ l.length := by rw [hn]; exact Nat.min_le_left _ _
  have hlen : (cellsL (l.take n)).length = n := by rw [cellsL_length, List.length_take]; omega
  have hst := run_storeCells_at P g o t (cellsL (l.take n)) 0 cur w hg (by rw [hlen]; simpa using hfit) (by
    intro v hv
    simp only [cellsL, List.mem_map] at hv
    obtain ⟨x, _, rfl⟩ := hv
    rfl)
  rw [hlen] at hst
  simp only [Nat.add_zero] at hst
  have htk : List.take n (List.map (fun b : UInt8 => Value.int IntKind.u8 (b.toNat : Int)) l) = cellsL (l.take n) := by simp [cellsL, List.map_take]
  have hsz : (⟨l.toArray⟩ : ByteArray).size = l.length := by simp [ByteArray.size]
  cases hq : P.info? elem with
  | none => simp [hq] at hs
  | some i =>
    simp [Builtin.copy_, run_underlying hu, Builtin.lenOf, Builtin.firstCells, sizeOf, typeInfo, hq, hsz, ← hn]
    rw [htk, hst]
    simp [Result.andThen]
theorem step_copy_part {P : Program} {ops : Array Oper} {o : Oper} {a : Act} {w : World} {K : Act → World → Prop} {Q : Exit → Act → World → Prop} {E : Prop} (hgd : o.guard = none) (d s : Operand) (dT sT : TypeId)
    (ho : o.op = .call { callee := .builtin .copy, args := #[d, s], argTypes := #[dT, sT] }) (elem : TypeId) (hu : P.underlying dT = some (.slice elem)) (hsz : (P.info? elem).map (·.size) = some 1)
    (g off dLen dCap n : Nat) (l : List UInt8) (hd : a.eval d = .slice (some ⟨g, off, none⟩) dLen dCap) (hs : a.eval s = .string ⟨l.toArray⟩)
    (cur : Array Value) (t : TypeId) (hg : w.heap[g]? = some (.cells cur t (0, 0))) (hn : n = Nat.min l.length dLen) (hfit : off + n ≤ cur.size)
    (h : ∀ w', Hid (w'.heap[g]? = some (.cells (cur.toList.take off ++ cellsL (l.take n) ++ cur.toList.drop (off + n)).toArray t (0, 0))) → Hid (Only g w w') → K (a.put o.dst (goInt n)) w') :
    if Region.wanted o (yielded ops a.tmps) = true then Oper.wp P o a w K Q else E := by
  have hw : Region.wanted o (yielded ops a.tmps) = true := by simp [Region.wanted, hgd]
  rw [if_pos hw]
  have hrun := run_copy_part (P := P) w dT sT o.type elem g off dLen dCap n l cur t hu hsz hg hn hfit
  unfold Oper.wp
  simp [execOp, ho, resolve, invoke, builtin, hd, hs, hrun, Result.andThen]
  exact h _ (Lib.hid (by rw [List.append_assoc]; exact setRow_heap w g _ _ t _ hg)) (Lib.hid ((Only.refl g w).setRow _))
end Go.Proofs.YtojpkodmpjibkaaDoor
namespace Go.Proofs.YtojpkodmpjibkaaDoor
open Go.RowKit

theorem Tryd.info8 : (Tryd.prog.info? 121).map (·.size) = some 8 := by kernel_rfl

set_option maxRecDepth 100000 in
set_option maxHeartbeats 1000000 in
theorem turn_any (s : Sha.St) (W : List Int) (w : World) (hW : W.length = 64) (hK : Tab w) :
    Calls Tryd.prog 124 #[.agg (u32s s.list), .agg (u32s W)] w fun e w' => e = .returned (.agg (u32s (Sha.turnP s W).list)) ∧ Below w.heap.size w w' := by
  obtain ⟨s0, hs0⟩ : ∃ s0, s = s0 := ⟨_, rfl⟩
  obtain ⟨a, b, c, d, e, f, g, h⟩ := s
  obtain ⟨ws, hws⟩ : ∃ ws, u32s W = ws := ⟨_, rfl⟩
  rw [hws, hs0]
  have HS := Lib.hid hs0
  have HWS := Lib.hid hws
  have HK := Lib.hid hK
  have HLW := Lib.hid hW
  rw [← hs0]
  simp only [Sha.St.list, u32s, List.map_cons, List.map_nil]
  clear hws hK hs0 hW
  go_enter Tryd.func124, Tryd.ntmps124
  go_wp2
  go_quiet (fail)
  go_wp2
  go_quiet (fail)
  go_wp2
  go_loopw [5, 6, 7, 8, 9, 10, 11, 12, 32] (fun xa xb xc xd xe xf xg xh i wr => ∃ k : Nat, k ≤ 64 ∧ i = .int .i64 k ∧ xa = .int .u32 (Sha.rounds s0 W k).a ∧ xb = .int .u32 (Sha.rounds s0 W k).b ∧ xc = .int .u32 (Sha.rounds s0 W k).c ∧ xd = .int .u32 (Sha.rounds s0 W k).d ∧ xe = .int .u32 (Sha.rounds s0 W k).e ∧ xf = .int .u32 (Sha.rounds s0 W k).f ∧ xg = .int .u32 (Sha.rounds s0 W k).g ∧ xh = .int .u32 (Sha.rounds s0 W k).h ∧
      Below w.heap.size w wr ∧ wr.heap[w.heap.size + 1]? = some (.cells ws 164 (0, 0)) ∧ wr.heap[w.heap.size + 1 + 1]? = some (.cells (u32s (List.replicate 8 0)) 121 (0, 0))) (fun _ _ _ _ _ _ _ _ i _ => 64 - (intOf i).toNat)
  case atStart =>
    refine ⟨0, by omega, rfl, by rw [← HS.out]; rfl, by rw [← HS.out]; rfl, by rw [← HS.out]; rfl, by rw [← HS.out]; rfl, by rw [← HS.out]; rfl, by rw [← HS.out]; rfl, by rw [← HS.out]; rfl, by rw [← HS.out]; rfl, ?_, ?_, ?_⟩
    · exact bel_drewN (bel_drewN ((((Below.refl _ w).alloc (Nat.le_refl _) _).alloc (by simp) _).alloc (by simp; omega) _) _) _
    · exact heap_old_at _ (heap_new_at _ _ _ (by simp))
    · exact heap_new_at _ _ _ (by simp)
  case round =>
    obtain ⟨k, hk, rfl, rfl, rfl, rfl, rfl, rfl, rfl, rfl, rfl, hb, hg1, hg2⟩ := hrel
    have HG1 := Lib.hid hg1
    have HG2 := Lib.hid hg2
    have HBe := Lib.hid hb
    have hsz : w.heap.size + 1 < wr.heap.size := lt_of_heap hg1
    by_cases hlt : k < 64
    · obtain ⟨S, hS⟩ : ∃ S, Sha.rounds s0 W k = S := ⟨_, rfl⟩
      have hnext : Sha.rounds s0 W (k + 1) = Sha.step S (Sha.kTab.getD k 0) (W.getD k 0) := by rw [← hS]; rfl
      have hcK : wr.cell? ⟨1, k, none⟩ = some (.int .u32 (Sha.kTab.getD k 0)) := (HK.out.below hb) k hlt
      have hcW : wr.cell? ⟨w.heap.size + 1, k, none⟩ = some (.int .u32 (W.getD k 0)) := by
        rw [cell_of_row wr _ k ws _ _ hg1, ← HWS.out]; exact u32s_at W k (by rw [HLW.out]; exact hlt)
      obtain ⟨kk, hkk⟩ : ∃ kk, Sha.kTab.getD k 0 = kk := ⟨_, rfl⟩
      obtain ⟨ww, hww⟩ : ∃ ww, W.getD k 0 = ww := ⟨_, rfl⟩
      rw [hkk, hww] at hnext
      rw [hkk] at hcK
      rw [hww] at hcW
      rw [hS]
      have HN := Lib.hid hnext
      clear hnext hkk hww hS hb hg1 hg2
      obtain ⟨a, b, c, d, e, f, g, h⟩ := S
      have h1 : (k : Int) < 64 := by omega
      dsimp only
      go_wp2
      go_quiet ((go_at_call 131; exact Calls.quiet_of_same (rot_any _ _ _ (by omega) (by omega))))
      go_wp2_with fail
      refine (rot_any a 2 _ (by omega) (by omega)).mono ?_
      rintro _ _ ⟨rfl, rfl⟩
      go_wp2_with fail
      refine (rot_any a 13 _ (by omega) (by omega)).mono ?_
      rintro _ _ ⟨rfl, rfl⟩
      go_wp2_with fail
      refine (rot_any a 22 _ (by omega) (by omega)).mono ?_
      rintro _ _ ⟨rfl, rfl⟩
      go_wp2
      go_roundw
      case rel =>
        refine ⟨k + 1, by omega, by go_num, ?_, ?_, ?_, ?_, ?_, ?_, ?_, ?_, bel_drewN HBe.out _, HG1.out, HG2.out⟩ <;> rw [HN.out] <;> simp only [Sha.step, Sha.uP, Sha.vP]
        all_goals rfl
      case measure => simp [intOf]; omega
    · obtain rfl : k = 64 := by omega
      have hno : ¬ ((64 : Nat) : Int) < 64 := by omega
      obtain ⟨S, hS⟩ : ∃ S, Sha.rounds s0 W 64 = S := ⟨_, rfl⟩
      have HS64 := Lib.hid hS
      rw [hS]
      clear hS hg1 hg2 hb
      obtain ⟨a, b, c, d, e, f, g, h⟩ := S
      dsimp only
      go_wp2_with (refine wpList_store_row (by rfl) _ _ _ (by rfl) (w.heap.size + 1 + 1) (u32s [a, b, c, d, e, f, g, h]) (by rfl) (by rfl) _ _ HG2.out Tryd.info8 (by rfl) (u32s_one _) ?_)
      refine bodyPost_ret (v := .agg (u32s [a, b, c, d, e, f, g, h])) (results_cell_row rfl _ _ (w.heap.size + 1 + 1) _ _ _ _ rfl (setRow_heap _ _ _ _ _ _ HG2.out) Tryd.underlying121 rfl Tryd.info8) rfl ⟨?_, below_setRow HBe.out (by omega) _⟩
      unfold Sha.turnP
      rw [HS.out, HS64.out]
      rfl
end Go.Proofs.YtojpkodmpjibkaaDoor
