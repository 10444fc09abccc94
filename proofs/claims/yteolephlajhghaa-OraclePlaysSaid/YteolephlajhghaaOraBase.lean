/- Signatures in memory: as values, as cells, in a slice, as a table's map. -/
import Derived.Test.YteolephlajhghaaOraMath
import Derived.Test.YteolephlajhghaaMapRange
import Derived.Test.YteolephlajhghaaPowBase
namespace Go.Proofs.Yteolephlajhghaa
open Go.RowKit Go.MapKept Go.ChangeShapes Go.WideShapes
open Go.Maps (Keyed)
open Go.Proofs.Yteolephlajhghaa.Ora (K Sig)

def sval (s : Sig) : Value := .agg #[.string ⟨s.1.1.toArray⟩, .string ⟨s.1.2.toArray⟩, .bool s.2]
def scl (s : Sig) : List Value := [.string ⟨s.1.1.toArray⟩, .string ⟨s.1.2.toArray⟩, .bool s.2]
def sgrows (L : List Sig) : List Value := L.flatMap scl
theorem sgrows_length (L : List Sig) : (sgrows L).length = L.length * 3 := by
  induction L with
  | nil => rfl
  | cons a L ih => simp [sgrows, scl] at ih ⊢; omega
theorem sgrows_append (L M : List Sig) : sgrows (L ++ M) = sgrows L ++ sgrows M := by simp [sgrows]
theorem sgrows_at (L : List Sig) (i j : Nat) (hi : i < L.length) (hj : j < 3) : (sgrows L)[i * 3 + j]? = (scl L[i])[j]? := by
  induction L generalizing i with
  | nil => simp at hi
  | cons a L ih =>
    have e : sgrows (a :: L) = scl a ++ sgrows L := by simp [sgrows]
    rw [e]
    cases i with
    | zero =>
      rw [List.getElem?_append_left (by simp [scl]; omega)]
      simp
    | succ i =>
      rw [List.getElem?_append_right (by simp [scl]; omega)]
      have : (i + 1) * 3 + j - (scl a).length = i * 3 + j := by simp [scl]; omega
      rw [this, ih i (by simpa using hi)]
      simp
theorem cellsSg : Try.prog.cellsOf 40 = 3 := by kernel_rfl
theorem Try.infoSigned : (Try.prog.info? 40).map (fun i => (i.zero, i.size, i.bytes)) = some (some (.agg #[.string ⟨#[]⟩, .string ⟨#[]⟩, .bool false]), 3, 40) := by kernel_rfl

/-! ### a slice of signatures -/
def Sgs (w : World) (v : Value) (L : List Sig) : Prop :=
  ∃ (A : Option Addr) (cap : Nat), v = .slice A L.length cap ∧ L.length ≤ cap ∧ (0 < L.length → ∃ b o, A = some ⟨b, o, none⟩ ∧ b < w.heap.size ∧ ∀ i (h : i < L.length),
    w.cell? ⟨b, o + i * 3, none⟩ = some (.string ⟨L[i].1.1.toArray⟩) ∧ w.cell? ⟨b, o + i * 3 + 1, none⟩ = some (.string ⟨L[i].1.2.toArray⟩) ∧ w.cell? ⟨b, o + i * 3 + 2, none⟩ = some (.bool L[i].2))
theorem Sgs.nil (w : World) : Sgs w (.slice none 0 0) [] := ⟨none, 0, rfl, Nat.le_refl _, fun h => absurd h (by simp)⟩
theorem Sgs.out {F : Nat → Prop} {w w' : World} {v : Value} {L : List Sig} (h : Sgs w v L) (hb : Out F w w') (hd : ∀ k cs t f, F k → w.heap[k]? ≠ some (.cells cs t f)) : Sgs w' v L := by
  obtain ⟨A, cap, rfl, hcap, hc⟩ := h
  refine ⟨A, cap, rfl, hcap, fun h0 => ?_⟩
  obtain ⟨b, o, rfl, hlt, hcell⟩ := hc h0
  refine ⟨b, o, rfl, Nat.lt_of_lt_of_le hlt hb.size, fun i hi => ?_⟩
  obtain ⟨h1, h2, h3⟩ := hcell i hi
  have hF : ¬ F b := fun hf => by
    unfold World.cell? at h1
    cases hh : w.heap[b]? with
    | none => simp [hh] at h1
    | some ob =>
      cases ob with
      | cells cs t f => exact hd b _ _ _ hf hh
      | _ => simp [hh] at h1
  exact ⟨hb.cell h1 hF, hb.cell h2 hF, hb.cell h3 hF⟩
theorem Sgs.below {w w' : World} {v : Value} {L : List Sig} (h : Sgs w v L) (hb : Below w.heap.size w w') : Sgs w' v L := h.out (F := fun _ => False) (Out.of hb) (fun _ _ _ _ hf => hf.elim)
theorem Sgs.drew {w : World} {v : Value} {L : List Sig} (h : Sgs w v L) : Sgs w.drew v L := h.below (Below.refl _ w).drew
theorem Sgs.at {w w' : World} {A : Option Addr} {n cap : Nat} {L : List Sig} (h : Sgs w (.slice A n cap) L) (hb : Below w.heap.size w w') (k : Nat) (hk : k < L.length) :
    ∃ b o, A = some ⟨b, o, none⟩ ∧ w'.cell? ⟨b, o + k * 3, none⟩ = some (.string ⟨L[k].1.1.toArray⟩) ∧ w'.cell? ⟨b, o + k * 3 + 1, none⟩ = some (.string ⟨L[k].1.2.toArray⟩) ∧ w'.cell? ⟨b, o + k * 3 + 2, none⟩ = some (.bool L[k].2) := by
  obtain ⟨A', cap', hv, _, hc⟩ := h.below hb
  obtain ⟨rfl, rfl, rfl⟩ : A = A' ∧ n = L.length ∧ cap = cap' := by simpa using hv
  obtain ⟨b, o, rfl, _, hcell⟩ := hc (by omega)
  exact ⟨b, o, rfl, hcell k hk⟩
theorem Sgs.form {w : World} {v : Value} {L : List Sig} (h : Sgs w v L) : ∃ A cap, v = .slice A L.length cap ∧ L.length ≤ cap := by
  obtain ⟨A, cap, rfl, hc, _⟩ := h
  exact ⟨A, cap, rfl, hc⟩
/-- A row of signatures of the call's own, in a block from B on. -/
def OwnS (w : World) (B : Nat) (s : Value) (L : List Sig) : Prop := w.ownsRow B 40 3 s L.length (sgrows L)
theorem OwnS.nil (w : World) (B : Nat) : OwnS w B (.slice none 0 0) [] := ⟨rfl, Or.inl ⟨rfl, rfl⟩⟩
theorem OwnS.cells {w : World} {B : Nat} {s : Value} {L : List Sig} (h : OwnS w B s L) (k : Nat) (hk : k < L.length) :
    ∃ b cap, s = .slice (some ⟨b, 0, none⟩) L.length cap ∧ B ≤ b ∧ b < w.heap.size ∧ w.cell? ⟨b, k * 3, none⟩ = some (.string ⟨L[k].1.1.toArray⟩) ∧ w.cell? ⟨b, k * 3 + 1, none⟩ = some (.string ⟨L[k].1.2.toArray⟩) ∧ w.cell? ⟨b, k * 3 + 2, none⟩ = some (.bool L[k].2) := by
  obtain ⟨b, cap, hv, hB, hlt⟩ := World.ownsRow.form h (by omega)
  have hc := World.ownsRow.cells h (g := b) (by rw [hv]; rfl)
  refine ⟨b, cap, hv, hB, hlt, ?_, ?_, ?_⟩
  · have := hc (k * 3 + 0) _ (by rw [sgrows_at L k 0 hk (by omega)]; rfl)
    rw [Addr.add_mid] at this; simpa using this
  · have := hc (k * 3 + 1) _ (by rw [sgrows_at L k 1 hk (by omega)]; rfl)
    rw [Addr.add_mid] at this; simpa using this
  · have := hc (k * 3 + 2) _ (by rw [sgrows_at L k 2 hk (by omega)]; rfl)
    rw [Addr.add_mid] at this; simpa using this
theorem OwnS.sgs {w : World} {B : Nat} {s : Value} {L : List Sig} (h : OwnS w B s L) : Sgs w s L := by
  rcases h.2 with ⟨rfl, h0⟩ | ⟨b, cap, cur, rfl, hB, hh, hn, _⟩
  · obtain rfl : L = [] := List.eq_nil_of_length_eq_zero h0
    exact Sgs.nil w
  · refine ⟨_, cap, rfl, hn, fun h0 => ⟨b, 0, rfl, lt_of_heap hh, fun i hi => ?_⟩⟩
    obtain ⟨b', cap', hv', _, _, h1, h2, h3⟩ := h.cells i hi
    obtain ⟨rfl, rfl⟩ : b = b' ∧ cap = cap' := by simpa using hv'
    rw [Nat.zero_add]
    exact ⟨h1, h2, h3⟩
theorem OwnS.out {G : Nat → Prop} {w w' : World} {B : Nat} {s : Value} {L : List Sig} (h : OwnS w B s L) (ho : Out G w w') (hd : ∀ k cs t f, G k → w.heap[k]? ≠ some (.cells cs t f)) : OwnS w' B s L := row_out h ho hd
theorem OwnS.below {w w' : World} {B : Nat} {s : Value} {L : List Sig} (h : OwnS w B s L) (hb : Below w.heap.size w w') : OwnS w' B s L := h.out (G := fun _ => False) (Out.of hb) (fun _ _ _ _ hf => hf.elim)

/-! ### a signature as a key -/
def kval (k : K) : Value := .agg #[.string ⟨k.1.toArray⟩, .string ⟨k.2.toArray⟩]
theorem kval_inj {a b : K} (h : kval a = kval b) : a = b := by
  unfold kval at h
  injection h with h
  have h' := congrArg Array.toList h
  simp at h'
  exact Prod.ext h'.1 h'.2
def OkK (k : K) : Prop := k.1.length ≤ 140737488351232 ∧ k.2.length ≤ 140737488351232
theorem laidOutK : laidOutB Try.prog = true := by kernel_rfl
theorem rowK : (48 : TypeId) < Try.prog.types.size := of_decide_eq_true (by kernel_rfl)
theorem wideK : (match Try.prog.underlying 48 with | some (.array _ _) | some (.struct _) => true | _ => false) = true := by kernel_rfl
theorem lawK : Keyed Try.prog 48 := Keyed.of_law (deep_law_laid laidOutK (m := 2) (by omega) rowK (by kernel_rfl) wideK)
theorem keyTypeK : Try.prog.keyType 48 = true := by kernel_rfl
theorem cellsK : Try.prog.cellsOf 48 = 2 := by kernel_rfl
theorem keyK (k : K) (h : OkK k) : ∃ l, keyOf Try.prog 48 (kval k) = some l := by
  have ht : (⟨k.1.toArray⟩ : ByteArray).size ≤ maxLen := by have := h.1; simp [ByteArray.size, maxLen]; omega
  have hd : (⟨k.2.toArray⟩ : ByteArray).size ≤ maxLen := by have := h.2; simp [ByteArray.size, maxLen]; omega
  have hf : (kval k).formed Try.prog 48 = true := by simp [kval, Value.formed, Try.underlying48, cellsK]
  obtain ⟨m, hm⟩ : ∃ m, Try.prog.types.size = m + 1 := ⟨Try.prog.types.size - 1, (Nat.succ_pred_eq_of_pos (Nat.lt_of_le_of_lt (Nat.zero_le _) rowK)).symm⟩
  unfold keyOf
  simp only [Try.underlying48, keyTypeK, hf, hm, Bool.and_self, if_true]
  simp [Program.keyLits, Try.underlying48, Try.underlying9, kval, Value.cells, cellsK, cellsS, ht, hd]
def sigMap : MapLaw Try.prog 48 K Bool := ⟨kval, fun b => .agg #[.bool b], OkK, lawK, keyK, fun _ _ h => kval_inj h⟩
theorem zeroSteps (w : World) : (zeroValue 50).run Try.prog w = .ok (.agg #[.bool false]) w := by kernel_rfl

/-- The table in block g, its map in block m, has the signatures S. -/
structure TabAt (w : World) (g m : Nat) (S : List Sig) : Prop where
  head : w.heap[g]? = some (.cells #[.map (some m)] 45 (0, 0))
  map : FnAt sigMap w m (Ora.look S)
  rise : Ora.Rising S
theorem TabAt.cell {w : World} {g m : Nat} {S : List Sig} (h : TabAt w g m S) : w.cell? ⟨g, 0, none⟩ = some (.map (some m)) := cell_of_row _ _ _ _ _ _ h.head
theorem TabAt.out {F : Nat → Prop} {w w' : World} {g m : Nat} {S : List Sig} (h : TabAt w g m S) (ho : Out F w w') (hg : ¬ F g) (hm : ¬ F m) : TabAt w' g m S := ⟨ho.heap h.head hg, h.map.out ho hm, h.rise⟩
theorem TabAt.below {w w' : World} {g m : Nat} {S : List Sig} (h : TabAt w g m S) (hb : Below w.heap.size w w') : TabAt w' g m S := h.out (F := fun _ => False) (Out.of hb) id id
theorem TabAt.ne {w : World} {g m g' m' : Nat} {S T : List Sig} (h : TabAt w g m S) (k : TabAt w g' m' T) : g ≠ m' := by
  rintro rfl
  exact k.map.no_cells _ _ _ _ rfl h.head
/-- As many entries as signatures. -/
theorem TabAt.len {w : World} {g m : Nat} {S : List Sig} (h : TabAt w g m S) : ∀ ty, (Builtin.len_ #[43] ty #[.map (some m)]).run Try.prog w = .ok (.int .i64 (S.length : Nat)) w := by
  obtain ⟨ks, h1, h2, h3⟩ := h.map.len Try.underlying43
  have hp : ks.Perm (S.map (·.1)) := (List.perm_ext_iff_of_nodup h1 (List.Pairwise.map _ (fun a b hab => Ora.kLt_ne hab) h.rise)).2 fun k => by
    rw [h2, List.mem_map]
    constructor
    · intro hk
      cases hf : Ora.look S k with
      | none => exact absurd hf hk
      | some b => exact ⟨(k, b), (Ora.look_mem h.rise k b).1 hf, rfl⟩
    · rintro ⟨⟨k', b⟩, hm, rfl⟩
      rw [(Ora.look_mem h.rise _ b).2 hm]; simp
  have hl := hp.length_eq
  rw [List.length_map] at hl
  rw [← hl]
  exact h3
end Go.Proofs.Yteolephlajhghaa
