/- ArgActs, BookBelow, StoreText, MapDrop, StoreKeep, StoreFill, StoreWorks, StoreFrame, ShaLaid, DigBase, ArgNoteds -/
import Derived.Test.YtgbcilokeiengaaGreatDoorPk02
import Derived.Deep.Slices
import Derived.DataReads
import Derived.OpenShut
import Derived.SizedLaws
import Derived.Lib.LaidU8
import Derived.Test.YtgbcilokeiengaaGreatDoorPk01
import Derived.Lib.Strings
import Derived.Deep.QuietTactic
import Derived.BigQuiet
import Derived.Test.YtgbcilokeiengaaGreatDoorPk04
import Derived.Test.YtgbcilokeiengaaGreatDoorPk13
import Derived.KernelRfl
import Derived.Test.YtgbcilokeiengaaGreatDoorRows
import Derived.Test.YtgbcilokeiengaaGreatDoorPk11
import Derived.LaidMore
import Derived.Stop.Joined
import Derived.ProofKit
namespace Go.Proofs.YtgbcilokeiengaaGreatDoor
open Go.RowKit Go.ChangeShapes Go.WideShapes

theorem pints_of_array {H : Type} {enc : TypeId × Value → H} {P : Program} {w : World} {base : Nat} {spare : Nat → Bool} {held : Bool} {fuel : Nat} {t e : TypeId} {n : Nat} {k : IntKind} {cs : List Value} {x : DataW H × List MemPlace}
    (ht : P.underlying t = some (.array n e)) (he : P.underlying e = some (.int k)) (hce : P.cellsOf e = 1) (hct : P.cellsOf t = n)
    (h : DataW.trod enc P w base spare held fuel t cs = some x) : ∃ zs : List Int, zs.length = n ∧ cs = zs.map (Value.int k) ∧ ∀ z ∈ zs, (Lit.int k z).wf = true := by
  obtain ⟨xs, m, _, _, hl, hxl, hel⟩ := DataW.trod_array ht h
  rw [hct] at hl
  have key : ∀ i, i < n → ∃ z, cs[i]? = some (.int k z) ∧ (Lit.int k z).wf = true := fun i hi => by
    have h1 := hel i hi
    rw [hce, Nat.mul_one, List.getElem?_eq_getElem (by omega)] at h1
    obtain ⟨z, e1, _, hw⟩ := DataW.trod_int he h1
    refine ⟨z, ?_, hw⟩
    have h2 := congrArg (·[0]?) e1
    simpa [List.getElem?_take, List.getElem?_drop] using h2
  refine ⟨cs.map (fun v => match v with | .int _ z => z | _ => 0), by rw [List.length_map, hl], ?_, ?_⟩
  · apply List.ext_getElem?
    intro i
    by_cases hi : i < n
    · obtain ⟨z, hz, _⟩ := key i hi
      simp [hz]
    · rw [List.getElem?_eq_none (by omega), List.getElem?_eq_none (by simp; omega)]
  · intro z hz
    obtain ⟨v, hv, rfl⟩ := List.mem_map.1 hz
    obtain ⟨i, hi, rfl⟩ := List.mem_iff_getElem.1 hv
    obtain ⟨z', hz', hw⟩ := key i (by omega)
    rw [List.getElem?_eq_getElem hi] at hz'
    rw [Option.some.inj hz']
    exact hw
/-- An act. -/
structure ActN where
  kind : Int
  text : List UInt8
  a : Int
  b : Int
instance : Inhabited ActN := ⟨⟨0, [], 0, 0⟩⟩
def actcl (s : ActN) : List Value := [.int .i64 s.kind, .string ⟨s.text.toArray⟩, .int .i64 s.a, .int .i64 s.b]
/-- An act that fits. -/
structure OkAct (s : ActN) : Prop where
  kind : (Lit.int .i64 s.kind).wf = true
  a : (Lit.int .i64 s.a).wf = true
  b : (Lit.int .i64 s.b).wf = true
set_option maxRecDepth 100000 in
theorem cellsAct : Tryz.prog.cellsOf 30 = 4 := by kernel_rfl
set_option maxRecDepth 100000 in
theorem cellsPair : Tryz.prog.cellsOf 28 = 2 := by kernel_rfl
def Acts (w : World) (v : Value) (L : List ActN) : Prop :=
  ∃ (A : Option Addr) (cap : Nat), v = .slice A L.length cap ∧ (0 < L.length → ∃ b o, A = some ⟨b, o, none⟩ ∧ b < w.heap.size ∧ ∀ i (h : i < L.length),
    w.cell? ⟨b, o + i * 4, none⟩ = some (.int .i64 L[i].kind) ∧ w.cell? ⟨b, o + i * 4 + 1, none⟩ = some (.string ⟨L[i].text.toArray⟩) ∧ w.cell? ⟨b, o + i * 4 + 2, none⟩ = some (.int .i64 L[i].a) ∧ w.cell? ⟨b, o + i * 4 + 3, none⟩ = some (.int .i64 L[i].b))
theorem Acts.below {w w' : World} {v : Value} {L : List ActN} (h : Acts w v L) (hb : Below w.heap.size w w') : Acts w' v L := by
  obtain ⟨A, cap, rfl, hc⟩ := h
  refine ⟨A, cap, rfl, fun h0 => ?_⟩
  obtain ⟨b, o, rfl, hlt, hcell⟩ := hc h0
  refine ⟨b, o, rfl, Nat.lt_of_lt_of_le hlt hb.size, fun i hi => ?_⟩
  obtain ⟨h1, h2, h3, h4⟩ := hcell i hi
  exact ⟨(hb.cell hlt).trans h1, (hb.cell hlt).trans h2, (hb.cell hlt).trans h3, (hb.cell hlt).trans h4⟩
theorem Acts.form {w : World} {v : Value} {L : List ActN} (h : Acts w v L) : ∃ A cap, v = .slice A L.length cap := by
  obtain ⟨A, cap, rfl, _⟩ := h
  exact ⟨A, cap, rfl⟩
theorem Acts.at {w w' : World} {A : Option Addr} {n cap : Nat} {L : List ActN} (h : Acts w (.slice A n cap) L) (hb : Below w.heap.size w w') (k : Nat) (hk : k < L.length) :
    ∃ b o, A = some ⟨b, o, none⟩ ∧ b < w.heap.size ∧ w'.cell? ⟨b, o + k * 4, none⟩ = some (.int .i64 L[k].kind) ∧ w'.cell? ⟨b, o + k * 4 + 1, none⟩ = some (.string ⟨L[k].text.toArray⟩) ∧ w'.cell? ⟨b, o + k * 4 + 2, none⟩ = some (.int .i64 L[k].a) ∧ w'.cell? ⟨b, o + k * 4 + 3, none⟩ = some (.int .i64 L[k].b) := by
  obtain ⟨A0, cap0, hv0, hc0⟩ := h
  obtain ⟨rfl, rfl, rfl⟩ : A = A0 ∧ n = L.length ∧ cap = cap0 := by simpa using hv0
  obtain ⟨b, o, rfl, hlt, hcell⟩ := hc0 (by omega)
  obtain ⟨h1, h2, h3, h4⟩ := hcell k hk
  exact ⟨b, o, rfl, hlt, (hb.cell hlt).trans h1, (hb.cell hlt).trans h2, (hb.cell hlt).trans h3, (hb.cell hlt).trans h4⟩

set_option maxRecDepth 100000 in
theorem act_cells {H : Type} {enc : TypeId × Value → H} {W : World} {fuel : Nat} {cs : List Value} {x : DataW H × List MemPlace} (ht : DataW.trod enc Tryz.prog W 0 (fun _ => true) true fuel 30 cs = some x) :
    ∃ s : ActN, cs = actcl s ∧ OkAct s := by
  obtain ⟨ys, n', _, hy, hcl, hyl, hfs⟩ := DataW.trod_struct Tryz.underlying30 ht
  rw [cellsAct] at hcl
  match cs, hcl, ys, hyl with
  | [v0, v1, v2, v3], _, [y0, y1, y2], _ =>
    have g0 := hfs 0 _ rfl
    have g1 := hfs 1 _ rfl
    have g2 := hfs 2 _ rfl
    simp [cellsI, cellsS, cellsPair] at g0 g1 g2
    obtain ⟨k, e0, _, k0⟩ := DataW.trod_int Tryz.underlying3 g0
    obtain ⟨s1, e1, _, _⟩ := DataW.trod_string Tryz.underlying9 g1
    obtain ⟨zs, hl, hc, hw⟩ := pints_of_array Tryz.underlying28 Tryz.underlying3 cellsI cellsPair g2
    obtain rfl : v0 = .int .i64 k := by simpa using e0
    obtain rfl : v1 = .string s1 := by simpa using e1
    match zs, hl with
    | [a, b], _ =>
      obtain ⟨rfl, rfl⟩ : v2 = .int .i64 a ∧ v3 = .int .i64 b := by simpa using hc
      exact ⟨⟨k, s1.data.toList, a, b⟩, by simp [actcl], ⟨k0, hw a (by simp), hw b (by simp)⟩⟩
set_option maxRecDepth 100000 in
theorem acts_open {H : Type} {enc : TypeId × Value → H} {W : World} {r : Reach} {b0 : Nat} {v : Value} {d : DataW H} {p : List MemPlace}
    (hv : Value.okWide Tryz.prog W r b0 22 v) (h : DataW.Trod enc Tryz.prog W 0 (fun _ => true) true 22 v d p)
    (hz : ∀ n ∈ d.weights Tryz.prog 22, n ≤ reachBytes) :
    ∃ L, Acts W v L ∧ L.length * 40 ≤ reachBytes ∧ ∀ s ∈ L, OkAct s := by
  obtain ⟨a0, len, cap, rfl⟩ := okWide_slice Tryz.underlying22 hv
  obtain ⟨fuel, hf⟩ := h
  rcases Go.Deep.open_slice Tryz.underlying22 hf with ⟨hcs, _⟩ | ⟨x, l, c, m, n, D, Pl, hcs, _, hl, hm, hmm, hx, hel⟩
  · simp [Value.cells] at hcs
    obtain ⟨rfl, rfl, rfl⟩ := hcs
    exact ⟨[], ⟨none, 0, rfl, fun h => absurd h (by simp)⟩, by simp, fun n hn => by simp at hn⟩
  · simp [Value.cells] at hcs
    obtain ⟨rfl, rfl, rfl⟩ := hcs
    simp only [if_true] at hmm
    subst hmm
    rw [cellsAct] at hel hx
    obtain ⟨hd, -⟩ := Prod.mk.inj hx
    have hlen40 : len * 40 ≤ reachBytes := by
      have h1 := hz ((((List.range len).map D).length + ((List.range (m - len)).map fun j => D (len + j)).length) * Tryz.prog.bytesOf 30) (by
        rw [hd]; simp [DataW.weights, Tryz.underlying22])
      rw [show Tryz.prog.bytesOf 30 = 40 from by kernel_rfl] at h1
      simp only [List.length_map, List.length_range] at h1
      omega
    have key : ∀ i, i < len → ∃ q : ActN, OkAct q ∧ W.cell? ((x.add (i * 4)).add 0) = some (.int .i64 q.kind) ∧ W.cell? ((x.add (i * 4)).add 1) = some (.string ⟨q.text.toArray⟩) ∧ W.cell? ((x.add (i * 4)).add 2) = some (.int .i64 q.a) ∧ W.cell? ((x.add (i * 4)).add 3) = some (.int .i64 q.b) := fun i hi => by
      obtain ⟨cs', hc, ht⟩ := hel i (by omega)
      obtain ⟨_, _, hat⟩ := World.cells?_some hc
      obtain ⟨q, rfl, hok⟩ := act_cells ht
      refine ⟨q, hok, ?_, ?_, ?_, ?_⟩
      · simpa [actcl] using hat 0 (by omega)
      · simpa [actcl] using hat 1 (by omega)
      · simpa [actcl] using hat 2 (by omega)
      · simpa [actcl] using hat 3 (by omega)
    obtain ⟨f, hf⟩ := Go.Deep.choose_lt (fun i hi => key i hi)
    have hlen : ((List.range len).map f).length = len := by simp
    refine ⟨(List.range len).map f, ⟨some x, _, by rw [hlen], fun h0 => ?_⟩, by rw [hlen]; exact hlen40, ?_⟩
    · rw [hlen] at h0
      obtain ⟨b, o, sp⟩ := x
      obtain ⟨_, q0, _⟩ := hf 0 h0
      have hcell' : W.cell? ⟨b, o, sp⟩ = some (.int .i64 (f 0).kind) := by simpa [Addr.add] using q0
      obtain rfl := cell_spot hcell'
      refine ⟨b, o, rfl, block_lt_of_cell hcell', fun i hi => ?_⟩
      rw [hlen] at hi
      obtain ⟨_, q0, q1, q2, q3⟩ := hf i hi
      rw [Addr.add_mid, Addr.add_mid] at q0 q1 q2 q3
      simpa using ⟨q0, q1, q2, q3⟩
    · intro n hn
      obtain ⟨i, hi, rfl⟩ := List.mem_map.1 hn
      exact (hf i (List.mem_range.1 hi)).1
end Go.Proofs.YtgbcilokeiengaaGreatDoor
namespace Go.Proofs.YtgbcilokeiengaaGreatDoor
open Go.RowKit

/-- A number below n. -/
def Bk.below (a n : Int) : Int := (a.tmod n + n) % n
theorem Bk.below_in (a : Int) (n : Nat) (hn : 0 < n) : 0 ≤ Bk.below a n ∧ Bk.below a n < n := by
  have h1 : -(n : Int) < a.tmod n := Int.lt_tmod_of_pos a (by omega)
  unfold Bk.below
  have h2 : 0 ≤ a.tmod n + n := by omega
  exact ⟨Int.emod_nonneg _ (by omega), Int.emod_lt_of_pos _ (by omega)⟩
theorem Bk.below_nat (a : Int) (n : Nat) (hn : 0 < n) : ∃ k : Nat, Bk.below a n = k ∧ k < n := by
  obtain ⟨h1, h2⟩ := Bk.below_in a n hn
  exact ⟨(Bk.below a n).toNat, by omega, by omega⟩
set_option maxHeartbeats 400000 in
theorem below_any (a : Int) (n : Nat) (w : World) (hn : 0 < n) (hb : n ≤ 1000000) :
    Calls Tryz.prog 5 #[.int .i64 a, .int .i64 n] w fun e w' => e = .returned (.int .i64 (Bk.below a n)) ∧ w' = w := by
  have h1 : -(n : Int) < a.tmod n := Int.lt_tmod_of_pos a (by omega)
  have h2 : a.tmod n < (n : Int) := Int.tmod_lt_of_pos a (by omega)
  have h3 : IntKind.i64.wrap (a.tmod n + n) = a.tmod n + n := by
    unfold IntKind.wrap
    simp [IntKind.signed, IntKind.bits]
    omega
  have h0 : ((n : Int) == 0) = false := by rw [beq_eq_false_iff_ne]; omega
  have h00 : ¬ ((n : Int) = 0) := by omega
  have hm : (n : Int) ≠ -1 := by omega
  unfold Bk.below
  go_enter Tryz.func5, Tryz.ntmps5
  go_wp2
  go_ret
  exact ⟨rfl, rfl⟩

/-- At most so many bytes of a text. -/
def Bk.cut (s : List UInt8) (n : Nat) : List UInt8 := s.take n
theorem bk_take (s : List UInt8) (k : Nat) : (⟨s.toArray⟩ : ByteArray).extract 0 k = ⟨(s.take k).toArray⟩ := by
  rw [Lib.extract_eq]
  simp only [List.drop_zero, Nat.sub_zero]
set_option maxRecDepth 8000 in
set_option maxHeartbeats 400000 in
theorem bcut_any (s : List UInt8) (n : Nat) (w : World) (hn : n ≤ 1000000) :
    Calls Tryz.prog 22 #[.string ⟨s.toArray⟩, .int .i64 n] w fun x w' => x = .returned (.string ⟨(Bk.cut s n).toArray⟩) ∧ w' = w := by
  unfold Bk.cut
  by_cases h : n < s.length
  · have h1 : (n : Int) < (s.length : Int) := by omega
    have h2 : (0 : Int) ≤ (n : Int) := by omega
    have h3 : (n : Int) ≤ (s.length : Int) := by omega
    have he := bk_take s n
    clear hn
    go_enter Tryz.func22, Tryz.ntmps22
    go_wp2
    go_ret
    exact ⟨rfl, rfl⟩
  · have h1 : ¬ ((n : Int) < (s.length : Int)) := by omega
    rw [List.take_of_length_le (by omega)]
    clear hn
    go_enter Tryz.func22, Tryz.ntmps22
    go_wp2
    go_ret
    exact ⟨rfl, rfl⟩
end Go.Proofs.YtgbcilokeiengaaGreatDoor
namespace Go.Proofs.YtgbcilokeiengaaGreatDoor
open Go.RowKit

def Sto.placeOf (a : Int) (C : List (List UInt8)) : List UInt8 := C.getD (Bk.below a C.length).toNat []
def Sto.textP (s : ActN) (C : List (List UInt8)) : List UInt8 :=
  if s.kind = 1 ∧ C ≠ [] then [3, 128, 1] ++ Sto.placeOf s.a C ++ Sto.placeOf s.b C ++ [0] else Bk.cut s.text 200
theorem Sto.placeOf_mem (a : Int) (C : List (List UInt8)) (h : 0 < C.length) : Sto.placeOf a C ∈ C := by
  obtain ⟨k, hk, hl⟩ := Bk.below_nat a C.length h
  unfold Sto.placeOf
  rw [hk, Int.toNat_natCast, List.getD_eq_getElem?_getD, List.getElem?_eq_getElem hl]
  exact List.getElem_mem hl
theorem Sto.textP_len (s : ActN) (C : List (List UInt8)) (h : ∀ x ∈ C, x.length ≤ 32) : (Sto.textP s C).length ≤ 200 := by
  unfold Sto.textP
  split
  · rename_i hc
    have h0 : 0 < C.length := List.length_pos_iff.2 hc.2
    have h1 := h _ (Sto.placeOf_mem s.a C h0)
    have h2 := h _ (Sto.placeOf_mem s.b C h0)
    simp only [List.length_append, List.length_cons, List.length_nil]
    omega
  · unfold Bk.cut
    rw [List.length_take]; omega
/-- A place of a slice of texts, by a number below its length. -/
theorem Strs.place {w : World} {A : Option Addr} {n cap : Nat} {C : List (List UInt8)} (h : Strs w (.slice A n cap) C) (h0 : 0 < C.length) (a : Int) :
    ∃ (k : Nat) (p : Addr), Bk.below a C.length = k ∧ k < C.length ∧ A = some p ∧ w.cell? (p.add k) = some (.string ⟨(Sto.placeOf a C).toArray⟩) := by
  obtain ⟨A', cap', hv, hc⟩ := h
  obtain ⟨rfl, rfl, rfl⟩ : A = A' ∧ n = C.length ∧ cap = cap' := by simpa using hv
  obtain ⟨k, hk, hl⟩ := Bk.below_nat a C.length h0
  obtain ⟨p, hp, hcell⟩ := hc k hl
  refine ⟨k, p, hk, hl, hp, ?_⟩
  unfold Sto.placeOf
  rw [hcell, hk, Int.toNat_natCast, List.getD_eq_getElem?_getD, List.getElem?_eq_getElem hl]
  rfl

set_option maxRecDepth 8000 in
set_option maxHeartbeats 2000000 in
theorem text_any' (s : ActN) (C : List (List UInt8)) (z : Value) (w : World) (hz : Strs w z C) (hC : C.length ≤ 1000) (h32 : ∀ x ∈ C, x.length ≤ 32) :
    Calls Tryz.prog 12 #[.agg (actcl s).toArray, z] w fun e w' => e = .returned (.string ⟨(Sto.textP s C).toArray⟩) ∧ Below w.heap.size w w' := by
  obtain ⟨kd, tx, a, b⟩ := s
  have hb0 : Below w.heap.size w (w.alloc (.cells #[.int .i64 kd, .string ⟨tx.toArray⟩, .int .i64 a, .int .i64 b] 30)) := (Below.refl _ w).alloc (Nat.le_refl _) _
  have hr0 := heap_alloc_new w (.cells #[.int .i64 kd, .string ⟨tx.toArray⟩, .int .i64 a, .int .i64 b] 30)
  have c0 := cell_of_row _ _ 0 _ _ _ hr0
  have c1 := cell_of_row _ _ 1 _ _ _ hr0
  have c2 := cell_of_row _ _ 2 _ _ _ hr0
  have c3 := cell_of_row _ _ 3 _ _ _ hr0
  have HCU := Lib.hid (fun w => bcut_any tx 200 w (by omega))
  have HB0 := Lib.hid hb0
  have hz0 := hz.below hb0
  unfold actcl
  dsimp only
  by_cases hk : kd = 1
  · by_cases hC0 : C = []
    · have ht : Sto.textP ⟨kd, tx, a, b⟩ C = Bk.cut tx 200 := by unfold Sto.textP; rw [if_neg (fun q => q.2 hC0)]
      rw [ht]
      subst hk
      obtain ⟨A, cap, rfl, _⟩ := hz
      have hl : C.length = 0 := by rw [hC0]; rfl
      rw [hl]
      clear hz0 hC h32 ht hC0 hl hb0 hr0
      go_enter Tryz.func12, Tryz.ntmps12
      go_wp2_with fail
      refine (HCU.out _).mono ?_
      rintro e w1 ⟨rfl, rfl⟩
      go_wp2
      go_ret
      exact ⟨rfl, HB0.out⟩
    · have h0 : 0 < C.length := List.length_pos_iff.2 hC0
      have ht : Sto.textP ⟨kd, tx, a, b⟩ C = [3, 128, 1] ++ Sto.placeOf a C ++ Sto.placeOf b C ++ [0] := by unfold Sto.textP; rw [if_pos ⟨hk, hC0⟩]
      subst hk
      have l1 := h32 _ (Sto.placeOf_mem a C h0)
      have l2 := h32 _ (Sto.placeOf_mem b C h0)
      rw [ht]
      obtain ⟨A, cap, rfl, -⟩ := hz
      obtain ⟨k1, p, e1, q1, hp, g1⟩ := hz0.place h0 a
      obtain ⟨k2, p', e2, q2, hp', g2⟩ := hz0.place h0 b
      obtain rfl : p = p' := by rw [hp] at hp'; simpa using hp'
      subst hp
      have HBa := Lib.hid (fun w => below_any a C.length w h0 (by omega))
      have HBb := Lib.hid (fun w => below_any b C.length w h0 (by omega))
      rw [e1] at HBa
      rw [e2] at HBb
      obtain ⟨x, hx⟩ : ∃ x, Sto.placeOf a C = x := ⟨_, rfl⟩
      obtain ⟨y, hy⟩ : ∃ y, Sto.placeOf b C = y := ⟨_, rfl⟩
      rw [hx] at g1 l1 ⊢
      rw [hy] at g2 l2 ⊢
      have d1 := cat_mk [3, 128, 1] x
      have d2 := cat_mk ([3, 128, 1] ++ x) y
      have d3 := cat_mk (([3, 128, 1] ++ x) ++ y) [0]
      have hn0 : ((C.length : Int) == 0) = false := by rw [beq_eq_false_iff_ne]; omega
      have u1 : (0 : Int) ≤ (k1 : Int) := by omega
      have u2 : (k1 : Int) < (C.length : Int) := by omega
      have u3 : (0 : Int) ≤ (k2 : Int) := by omega
      have u4 : (k2 : Int) < (C.length : Int) := by omega
      clear hz0 hC h32 ht hC0 hb0 hr0 e1 e2 hx hy q1 q2 h0
      go_enter Tryz.func12, Tryz.ntmps12
      go_wp2
      go_quiet ((first | (go_at_call_of 5 (Value.int .i64 a); exact Calls.quiet_of_same (HBa.out _)) | (go_at_call 5; exact Calls.quiet_of_same (HBb.out _))))
      go_wp2
      go_ret
      exact ⟨rfl, bel_drewN HB0.out _⟩
  · have hkd : (kd != 1) = true := by simpa using hk
    have ht : Sto.textP ⟨kd, tx, a, b⟩ C = Bk.cut tx 200 := by unfold Sto.textP; rw [if_neg (fun q => hk q.1)]
    rw [ht]
    clear hz0 hC h32 ht hz hb0 hr0
    go_enter Tryz.func12, Tryz.ntmps12
    go_wp2_with fail
    refine (HCU.out _).mono ?_
    rintro e w1 ⟨rfl, rfl⟩
    go_wp2
    go_ret
    exact ⟨rfl, HB0.out⟩
end Go.Proofs.YtgbcilokeiengaaGreatDoor
namespace Go.Proofs.YtgbcilokeiengaaGreatDoor
open Go.RowKit Go.MapKept
open Go.ChangeMaps (setBlock heap_setBlock_same heap_setBlock_other)
open Go.Maps (Keyed)
variable {P : Program} {k t e : TypeId} {κ α : Type}

/-- The map in block b is ranged over by the iterator in block r; the keys in 'done' have come, and may have gone since; cnt are still to come. -/
def FnRangeD (M : MapLaw P k κ α) (w : World) (b r : Nat) (f : κ → Option α) (done : List κ) (cnt : Nat) : Prop :=
  ∃ es clock since seen c0, w.heap[b]? = some (.map es clock) ∧ (∀ x ∈ es.toList, ∃ s a, x.key = M.enc s ∧ x.val = M.val a ∧ M.ok s ∧ f s = some a) ∧ (∀ s a, f s = some a → ∃ x ∈ es.toList, x.key = M.enc s) ∧ Stamped es clock ∧
    w.heap[r]? = some (.mapIter (some b) since seen c0) ∧ (∀ x ∈ es.toList, x.born < since) ∧ since ≤ c0 ∧ since ≤ clock ∧ (leftOf es seen).size = cnt ∧ done.Nodup ∧ (∀ x ∈ es.toList, seen.contains x.born = true ↔ ∃ s ∈ done, x.key = M.enc s)

theorem FnRange.weak {M : MapLaw P k κ α} {w : World} {b r : Nat} {f : κ → Option α} {done : List κ} {cnt : Nat} (h : FnRange M w b r f done cnt) : FnRangeD M w b r f done cnt := by
  obtain ⟨es, clock, since, seen, c0, h1, h2, h3, h4, h5, h6, h7, h8, h9, h10, h11, _⟩ := h
  exact ⟨es, clock, since, seen, c0, h1, h2, h3, h4, h5, h6, h7, h8, h9, h10, h11⟩
theorem FnRangeD.map {M : MapLaw P k κ α} {w : World} {b r : Nat} {f : κ → Option α} {done : List κ} {cnt : Nat} (h : FnRangeD M w b r f done cnt) : FnAt M w b f := by
  obtain ⟨es, clock, _, _, _, hb, h2, h3, h4, _⟩ := h
  exact ⟨es, clock, hb, h2, h3, h4⟩
theorem FnRangeD.left_eq {M : MapLaw P k κ α} {w : World} {b r : Nat} {f : κ → Option α} {done : List κ} {cnt : Nat} (h : FnRangeD M w b r f done cnt) : w.rangeLeft b r = cnt := by
  obtain ⟨es, clock, since, seen, c0, hb, _, _, _, hr, _, _, _, hc, _⟩ := h
  simp only [World.rangeLeft, hb, hr]
  exact hc
theorem FnRangeD.lt {M : MapLaw P k κ α} {w : World} {b r : Nat} {f : κ → Option α} {done : List κ} {cnt : Nat} (h : FnRangeD M w b r f done cnt) : r < w.heap.size := by
  obtain ⟨es, clock, since, seen, c0, hb, _, _, _, hr, _⟩ := h
  exact lt_of_heap hr
theorem FnRangeD.ne {M : MapLaw P k κ α} {w : World} {b r : Nat} {f : κ → Option α} {done : List κ} {cnt : Nat} (h : FnRangeD M w b r f done cnt) : r ≠ b := by
  obtain ⟨es, clock, since, seen, c0, hb, _, _, _, hr, _⟩ := h
  rintro rfl
  rw [hb] at hr; cases hr
theorem FnRangeD.no_cells {M : MapLaw P k κ α} {w : World} {b r : Nat} {f : κ → Option α} {done : List κ} {cnt : Nat} (h : FnRangeD M w b r f done cnt) (j : Nat) (cs : Array Value) (t : TypeId) (fr : Nat × Nat) (hk : j = r) : w.heap[j]? ≠ some (.cells cs t fr) := by
  subst hk
  obtain ⟨es, clock, since, seen, c0, hb, _, _, _, hr, _⟩ := h
  rw [hr]; simp
/-- An iterator is no map. -/
theorem FnRangeD.no_map {κ' α' : Type} {k' : TypeId} {M : MapLaw P k κ α} {M' : MapLaw P k' κ' α'} {w : World} {b r b' : Nat} {f : κ → Option α} {f' : κ' → Option α'} {done : List κ} {cnt : Nat} (h : FnRangeD M w b r f done cnt) (h' : FnAt M' w b' f') : b' ≠ r := by
  rintro rfl
  obtain ⟨es, clock, since, seen, c0, hb, _, _, _, hr, _⟩ := h
  obtain ⟨es', c', hb', _⟩ := h'
  rw [hr] at hb'; cases hb'
theorem FnRangeD.out {M : MapLaw P k κ α} {F : Nat → Prop} {w w' : World} {b r : Nat} {f : κ → Option α} {done : List κ} {cnt : Nat} (h : FnRangeD M w b r f done cnt) (ho : Out F w w') (hb : ¬ F b) (hr : ¬ F r) : FnRangeD M w' b r f done cnt := by
  obtain ⟨es, clock, since, seen, c0, h1, h2, h3, h4, h5, h6⟩ := h
  exact ⟨es, clock, since, seen, c0, ho.heap h1 hb, h2, h3, h4, ho.heap h5 hr, h6⟩
theorem FnRangeD.below {M : MapLaw P k κ α} {w w' : World} {b r : Nat} {f : κ → Option α} {done : List κ} {cnt : Nat} (h : FnRangeD M w b r f done cnt) (ho : Below w.heap.size w w') : FnRangeD M w' b r f done cnt := h.out (F := fun _ => False) (Out.of ho) id id
theorem FnRangeD.congr {M : MapLaw P k κ α} {w : World} {b r : Nat} {f g : κ → Option α} {done : List κ} {cnt : Nat} (h : FnRangeD M w b r f done cnt) (e : ∀ s, f s = g s) : FnRangeD M w b r g done cnt := by
  obtain rfl : f = g := funext e
  exact h

theorem FnRangeD.next {M : MapLaw P k κ α} {w : World} {b r : Nat} {f : κ → Option α} {done : List κ} {cnt : Nat} (h : FnRangeD M w b r f done cnt) (ty : TypeId) :
    ((∀ s, f s ≠ none → s ∈ done) ∧ (Instr.next (.pointer (some ⟨r, 0, none⟩)) false ty).run P w = .ok (.tuple #[.bool false]) w) ∨
    ∃ s a w' cnt', f s = some a ∧ M.ok s ∧ s ∉ done ∧ (Instr.next (.pointer (some ⟨r, 0, none⟩)) false ty).run P w = .ok (.tuple #[.bool true, M.enc s, M.val a]) w' ∧ FnRangeD M w' b r f (done ++ [s]) cnt' ∧ cnt' < cnt ∧
      Out (fun i => i = r) w w' ∧ w'.heap.size = w.heap.size ∧ (Instr.entry (.pointer (some ⟨r, 0, none⟩))).run P w' = .ok (.tuple #[M.enc s, M.val a]) w' := by
  have hne := h.ne
  obtain ⟨es, clock, since, seen, c0, hb, h2, h3, h4, hr, hold, hsc, hsk, rfl, hnd, hseen⟩ := h
  rcases run_next_at (P := P) w ty r b since c0 seen es clock hr hb hold hsc with ⟨h0, hrun⟩ | ⟨x, hx, w1, hal, hrun⟩
  · refine Or.inl ⟨fun s hs => ?_, hrun⟩
    cases hf : f s with
    | none => exact absurd hf hs
    | some a =>
      obtain ⟨x, hx, hxe⟩ := h3 s a hf
      obtain ⟨s', hs', e⟩ := (hseen x hx).1 (all_seen es seen h0 x hx)
      rw [M.inj _ _ (hxe.symm.trans e)]; exact hs'
  · obtain ⟨hxm, hxs⟩ := mem_left hx
    obtain ⟨s, a, e1, e2, hok, hf⟩ := h2 x hxm
    have hr1 : w1.heap[r]? = some (.mapIter (some b) since seen c0) := by rcases hal with rfl | rfl <;> exact hr
    have hb1 : w1.heap[b]? = some (.map es clock) := by rcases hal with rfl | rfl <;> exact hb
    have hset := heap_set (o' := .mapIter (some b) since (seen.push x.born) clock) hr1
    have hb' : (setBlock w1 r (.mapIter (some b) since (seen.push x.born) clock)).heap[b]? = some (.map es clock) := (hset.2 b (fun e1 => hne e1.symm)).trans hb1
    have hnot : s ∉ done := fun hs => by
      have := (hseen x hxm).2 ⟨s, hs, e1⟩
      rw [hxs] at this; cases this
    rw [e1, e2] at hrun
    have hent := run_entry_at (P := P) (setBlock w1 r (.mapIter (some b) since (seen.push x.born) clock)) r b since seen es clock x hset.1 hb' hxm h4.2.1
    rw [e1, e2] at hent
    refine Or.inr ⟨s, a, _, _, hf, hok, hnot, hrun, ⟨es, clock, since, seen.push x.born, clock, hb', h2, h3, h4, hset.1, hold, hsk, hsk, rfl, ?_, ?_⟩, left_shrinks es seen x hx, ?_, ?_, hent⟩
    · rw [List.nodup_append]
      exact ⟨hnd, by simp, fun y hy z hz e => hnot (by simp at hz; rw [← hz, ← e]; exact hy)⟩
    · intro y hy
      rw [contains_push]
      constructor
      · intro hc
        simp only [Bool.or_eq_true, beq_iff_eq] at hc
        rcases hc with hc | hc
        · obtain ⟨s', hs', e⟩ := (hseen y hy).1 hc
          exact ⟨s', List.mem_append_left _ hs', e⟩
        · obtain rfl := born_inj h4.2.1 hy hxm hc
          exact ⟨s, by simp, e1⟩
      · rintro ⟨s', hs', e⟩
        simp only [Bool.or_eq_true, beq_iff_eq]
        rcases List.mem_append.1 hs' with hs' | hs'
        · exact Or.inl ((hseen y hy).2 ⟨s', hs', e⟩)
        · obtain rfl : s' = s := by simpa using hs'
          refine Or.inr ?_
          obtain rfl := entry_eq_of_key ((stamped_iff es clock).1 h4).2.2 hy hxm (e.trans e1.symm)
          rfl
    · rcases hal with rfl | rfl <;> exact ⟨rfl, rfl, rfl, by simp [setBlock], fun i _ hi => hset.2 i hi⟩
    · rcases hal with rfl | rfl <;> simp [setBlock]

/-- A key that has come goes. -/
theorem FnRangeD.drop [DecidableEq κ] {M : MapLaw P k κ α} {w : World} {b r : Nat} {f : κ → Option α} {done : List κ} {cnt : Nat} (h : FnRangeD M w b r f done cnt) (ht : P.underlying t = some (.map k e)) {s : κ} (hs : M.ok s) :
    ∃ w' cnt', (∀ ty, (Builtin.delete_ #[t, k] ty #[.map (some b), M.enc s]).run P w = .ok (.tuple #[]) w') ∧ FnRangeD M w' b r (updF f s none) done cnt' ∧ cnt' ≤ cnt ∧ Out (fun i => i = b) w w' ∧ w'.heap.size = w.heap.size := by
  have hne := h.ne
  obtain ⟨w', hrun, hf', ho, hsz⟩ := h.map.drop ht hs
  obtain ⟨es, clock, since, seen, c0, hb, h2, h3, h4, hr, hold, hsc, hsk, rfl, hnd, hseen⟩ := h
  have hr' := ho.heap hr hne
  obtain ⟨kl, hkey⟩ := M.key s hs
  rcases M.keyed.find w hkey es.toList (FnAt.keys h2) with ⟨h5, h6⟩ | ⟨j, e0, h5, h6, h7⟩
  · have hrun2 : ∀ ty, (Builtin.delete_ #[t, k] ty #[.map (some b), M.enc s]).run P w = .ok (.tuple #[]) (setBlock w b (.map es clock)) := fun ty => by
      simp [Builtin.delete_, run_underlying ht, MapKept.run_getObj_map hb, M.keyed.check w _ hkey, h5, MapKept.run_setObj_map _ hb, Result.andThen, setBlock]
    have he : w' = setBlock w b (.map es clock) := by
      have := (hrun 0).symm.trans (hrun2 0)
      simpa using this
    have hb' : w'.heap[b]? = some (.map es clock) := by rw [he]; exact heap_setBlock_same hb _
    have hfs : ∀ y, updF f s none y = f y := fun y => by
      by_cases e : y = s
      · rw [e, updF_same]
        cases hf : f s with
        | none => rfl
        | some a =>
          obtain ⟨x, hx, hxe⟩ := h3 s a hf
          exact absurd hxe (h6 x hx)
      · exact updF_other _ _ _ _ e
    refine ⟨w', _, hrun, FnRangeD.congr ⟨es, clock, since, seen, c0, hb', h2, h3, h4, hr', hold, hsc, hsk, rfl, hnd, hseen⟩ (fun y => (hfs y).symm), Nat.le_refl _, ho, hsz⟩
  · have hjl : j < es.toList.length := (List.getElem?_eq_some_iff.1 h6).1
    have hjs : j < es.size := by simpa using hjl
    have hrun2 : ∀ ty, (Builtin.delete_ #[t, k] ty #[.map (some b), M.enc s]).run P w = .ok (.tuple #[]) (setBlock w b (.map (es.eraseIdxIfInBounds j) clock)) := fun ty => by
      simp [Builtin.delete_, run_underlying ht, MapKept.run_getObj_map hb, M.keyed.check w _ hkey, h5, MapKept.run_setObj_map _ hb, Result.andThen, setBlock]
    have he : w' = setBlock w b (.map (es.eraseIdxIfInBounds j) clock) := by
      have := (hrun 0).symm.trans (hrun2 0)
      simpa using this
    have hb' : w'.heap[b]? = some (.map (es.eraseIdxIfInBounds j) clock) := by rw [he]; exact heap_setBlock_same hb _
    have hsub : (es.eraseIdxIfInBounds j).toList = es.toList.eraseIdx j := by
      unfold Array.eraseIdxIfInBounds
      rw [dif_pos hjs]
      simp
    have hsl : (es.eraseIdxIfInBounds j).toList.Sublist es.toList := by rw [hsub]; exact List.eraseIdx_sublist _ _
    obtain ⟨es1, clock1, g1, g2, g3, g4⟩ := hf'
    rw [hb'] at g1
    obtain ⟨rfl, rfl⟩ : es.eraseIdxIfInBounds j = es1 ∧ clock = clock1 := by simpa using g1
    refine ⟨w', _, hrun, ⟨_, clock, since, seen, c0, hb', g2, g3, g4, hr', fun x hx => hold x (hsl.subset hx), hsc, hsk, rfl, hnd, fun x hx => hseen x (hsl.subset hx)⟩, ?_, ho, hsz⟩
    have e1 : ∀ a : Array MapEntry, (leftOf a seen).size = (a.toList.filter fun e => !seen.contains e.born).length := fun a => by
      unfold leftOf
      rw [← Array.toList_filter, Array.length_toList]
    rw [e1, e1]
    exact (hsl.filter _).length_le
end Go.Proofs.YtgbcilokeiengaaGreatDoor
namespace Go.Proofs.YtgbcilokeiengaaGreatDoor
open Go.RowKit
open Go.Proofs.YtgbcilokeiengaaGreatDoor.Sto (St)

/-- What is there when the sums in 'done' have been looked at: all but those of them that V lacks. -/
def Sto.keepF (S : St) (V done : List (List UInt8)) (x : List UInt8) : Option (List UInt8) := if x ∈ done ∧ x ∉ V then none else Sto.look S x
theorem Sto.keepF_nil (S : St) (V : List (List UInt8)) (x : List UInt8) : Sto.keepF S V [] x = Sto.look S x := by simp [Sto.keepF]
theorem Sto.keepF_in (S : St) (V done : List (List UInt8)) (s : List UInt8) (hs : s ∈ V) (x : List UInt8) : Sto.keepF S V done x = Sto.keepF S V (done ++ [s]) x := by
  unfold Sto.keepF
  by_cases h : x = s
  · subst h; simp [hs]
  · simp [h]
theorem Sto.keepF_out (S : St) (V done : List (List UInt8)) (s : List UInt8) (hs : s ∉ V) (x : List UInt8) : updF (Sto.keepF S V done) s none x = Sto.keepF S V (done ++ [s]) x := by
  unfold updF Sto.keepF
  by_cases h : x = s
  · subst h; simp [hs]
  · simp [h]
theorem Sto.keepF_le {S : St} {V done : List (List UInt8)} {x : List UInt8} (h : Sto.keepF S V done x ≠ none) : Sto.look S x ≠ none := by
  unfold Sto.keepF at h
  split at h
  · exact absurd rfl h
  · exact h
theorem filter_both {α : Type} (l : List α) (p : α → Bool) : l.length = (l.filter p).length + (l.filter fun a => !p a).length := by
  induction l with
  | nil => rfl
  | cons a r ih =>
    rw [List.filter_cons, List.filter_cons]
    cases p a <;> simp <;> omega
/-- At the end of the range. -/
theorem Sto.keepF_end {S : St} {l V done : List (List UInt8)} (hS : Sto.Rising S) (hV : ∀ x, x ∈ V ↔ Sto.Reach S l x) (hn : done.Nodup) (hd : ∀ s ∈ done, Sto.look S s ≠ none) (hall : ∀ s, Sto.keepF S V done s ≠ none → s ∈ done) :
    (∀ x, Sto.keepF S V done x = Sto.look (Sto.keepL S l) x) ∧ (done.filter fun s => decide (s ∉ V)).length = S.length - (Sto.keepL S l).length := by
  have hdk : ∀ x, x ∈ done ↔ x ∈ Sto.keys S := fun x => by
    rw [← Sto.look_isSome]
    constructor
    · intro h
      have := hd x h
      cases hl : Sto.look S x with
      | none => exact absurd hl this
      | some t => rfl
    · intro h
      by_cases hx : x ∈ done
      · exact hx
      · refine hall x fun e => hx ?_
        unfold Sto.keepF at e
        rw [if_neg (fun q => hx q.1)] at e
        rw [e] at h; cases h
  constructor
  · intro x
    rw [Sto.look_keepL hS]
    unfold Sto.keepF
    by_cases hr : x ∈ Sto.reachL S l
    · have hv : x ∈ V := (hV x).2 ((Sto.reachL_mem hS l x).1 hr)
      rw [if_pos hr, if_neg (fun q => q.2 hv)]
    · have hv : x ∉ V := fun q => hr ((Sto.reachL_mem hS l x).2 ((hV x).1 q))
      rw [if_neg hr]
      by_cases hx : x ∈ done
      · rw [if_pos ⟨hx, hv⟩]
      · rw [if_neg (fun q => hx q.1), Sto.look_none]
        exact fun q => hx ((hdk x).2 q)
  · have hp : done.Perm (Sto.keys S) := (List.perm_ext_iff_of_nodup hn ((Sto.keys_rise hS).imp fun h => Sto.lt_ne h)).2 hdk
    rw [(hp.filter _).length_eq]
    unfold Sto.keys Sto.keepL
    rw [List.filter_map, List.length_map]
    have h1 : S.filter ((fun s => decide (s ∉ V)) ∘ fun x => x.1) = S.filter fun a => !decide (a.1 ∈ Sto.reachL S l) := by
      refine List.filter_congr fun a _ => ?_
      have : a.1 ∈ V ↔ a.1 ∈ Sto.reachL S l := by rw [hV, Sto.reachL_mem hS]
      simp [this]
    rw [h1]
    have h2 := filter_both S (fun a => decide (a.1 ∈ Sto.reachL S l))
    omega
def StKeepPost (g m : Nat) (S : St) (l : List (List UInt8)) (w : World) (e : Ending) (w' : World) : Prop :=
  e = .returned (.int .i64 ((S.length - (Sto.keepL S l).length : Nat))) ∧ StoreAt w' g m (Sto.keepL S l) ∧ Out (fun i => i = m) w w'
/-- Between two rounds. -/
structure KeepAt (S : St) (V done : List (List UInt8)) (w wr : World) (g m r mr : Nat) (cnt : Nat) : Prop where
  range : FnRangeD storeMap wr m r (Sto.keepF S V done) done cnt
  had : ∀ s ∈ done, Sto.look S s ≠ none
  set : FnAt setMap wr mr (inV V)
  head : wr.heap[g]? = some (.cells #[.map (some m)] 45 (0, 0))
  frame : Out (fun i => i = m) w wr
theorem KeepAt.gone_in {V done : List (List UInt8)} {s : List UInt8} (h : s ∈ V) : ((done ++ [s]).filter fun s => decide (s ∉ V)) = done.filter fun s => decide (s ∉ V) := by
  rw [List.filter_append]; simp [h]
theorem KeepAt.gone_out {V done : List (List UInt8)} {s : List UInt8} (h : s ∉ V) : ((done ++ [s]).filter fun s => decide (s ∉ V)).length = (done.filter fun s => decide (s ∉ V)).length + 1 := by
  rw [List.filter_append]; simp [h]

set_option maxRecDepth 8000 in
set_option maxHeartbeats 2000000 in
theorem stkeep_any (g m : Nat) (S : St) (l : List (List UInt8)) (v : Value) (w : World) (h : StoreAt w g m S) (hv : Strs w v l) (hS : S.length ≤ 10000) (hl : l.length ≤ 10000) (hsh : ∀ x ∈ l, x.length ≤ 140737488351232) :
    Calls Tryz.prog 8 #[.pointer (some ⟨g, 0, none⟩), v] w (StKeepPost g m S l w) := by
  unfold StKeepPost
  have HR := Lib.hid (reached_any g m S l v w h hv hS hl hsh)
  have HH := Lib.hid h
  have HSL := Lib.hid hS
  clear h hv hS hl hsh
  go_enter Tryz.func8, Tryz.ntmps8
  go_wp2_with fail
  refine HR.out.mono ?_
  rintro e w1 ⟨mr, V, rfl, hmr, hm, hnd, hV, hb1⟩
  have h1 := HH.out.below hb1
  have hc := h1.cell
  obtain ⟨w2, cnt2, hrg, hfr2, hb2, hs2⟩ := h1.map.range Tryz.underlying43
  obtain ⟨r, hr⟩ : ∃ r, w1.heap.size = r := ⟨_, rfl⟩
  rw [hr] at hrg hfr2 hb2
  have HV := Lib.hid hV
  have HMR := Lib.hid hmr
  have HWR : Hid (w.heap.size ≤ r) := Lib.hid (by rw [← hr]; exact hb1.size)
  have hb2' : Below w1.heap.size w1 w2 := by rw [hr]; exact hb2
  have HK0 : Hid (KeepAt S V [] w w2 g m r mr cnt2) := Lib.hid ⟨hfr2.weak.congr (fun s => (Sto.keepF_nil S V s).symm), fun s hs => (by cases hs), hm.below hb2', (h1.below hb2').head, (Out.of hb1).trans (Out.of hb2')⟩
  clear hmr hm hnd hV h1 hb1 hfr2 hb2 hs2 hr hb2'
  go_wp2
  clear hrg hc
  go_loopw [6] (fun s wr => ∃ done cnt, KeepAt S V done w wr g m r mr cnt ∧ s = .int .i64 ((done.filter fun s => decide (s ∉ V)).length : Nat)) (fun _ wr => wr.rangeLeft m r)
  case atStart => exact ⟨[], cnt2, HK0.out, rfl⟩
  case round =>
    obtain ⟨done, cnt, hk, rfl⟩ := hrel
    have HK := Lib.hid hk
    obtain ⟨G, hG⟩ : ∃ G, (done.filter fun s => decide (s ∉ V)).length = G := ⟨_, rfl⟩
    have HG := Lib.hid hG
    rw [hG]
    have hdone : done.length ≤ 10000 := by
      have := Sto.le_of_sub (M := Sto.keys S) (l := done) (by obtain ⟨_, _, _, _, _, _, _, _, _, _, _, _, _, _, h, _⟩ := hk.range; exact h) fun x hx => (Sto.look_isSome S x).1 (by
        have := hk.had x hx
        cases hl : Sto.look S x with
        | none => exact absurd hl this
        | some t => rfl)
      have h2 := HSL.out
      simp only [Sto.keys, List.length_map] at this
      omega
    have hGb : (G : Int) ≤ 900000 := by
      have := List.length_filter_le (fun s => decide (s ∉ V)) done
      omega
    have hG0 : (0 : Int) ≤ (G : Int) := by omega
    clear HK0 hG hdone
    rcases hk.range.next 0 with ⟨hall, hrun⟩ | ⟨s, a, w3, cnt3, hf, hok, hnot, hrun, hfr3, hlt, ho, hsz, hen⟩
    · have hnx : ∀ ty, (Instr.next (.pointer (some ⟨r, 0, none⟩)) false ty).run Tryz.prog wr = _ := fun _ => hrun
      have HE := Lib.hid (Sto.keepF_end HH.out.rise HV.out (by obtain ⟨_, _, _, _, _, _, _, _, _, _, _, _, _, _, h, _⟩ := hk.range; exact h) hk.had hall)
      clear hk hall hrun
      go_wp2
      go_ret
      refine ⟨by rw [← HE.out.2, HG.out]; rfl, ⟨HK.out.head, HK.out.range.map.congr HE.out.1, Sto.keepL_rising HH.out.rise l, fun p hp => HH.out.short p (Sto.keepL_sub S l hp)⟩, HK.out.frame⟩
    · dsimp only [storeMap] at hrun hen
      have hnx : ∀ ty, (Instr.next (.pointer (some ⟨r, 0, none⟩)) false ty).run Tryz.prog wr = _ := fun _ => hrun
      have hset3 := hk.set.out ho (fun e => hk.range.no_map hk.set e)
      have hhead3 := ho.heap hk.head (fun e => hk.range.no_cells _ _ _ _ e hk.head)
      have hb4 : Below w3.heap.size w3 (w3.alloc (.cells #[] 51)) := (Below.refl _ w3).alloc (Nat.le_refl _) _
      have hlu := lookU hset3 hok
      have hlk : Sto.look S s ≠ none := Sto.keepF_le (by rw [hf]; simp)
      have hfrm3 : Out (fun i => i = m) w w3 := ⟨ho.os.trans hk.frame.os, ho.tape.trans hk.frame.tape, ho.output.trans hk.frame.output, Nat.le_trans hk.frame.size ho.size, fun i hi hF => (ho.block i (Nat.lt_of_lt_of_le hi hk.frame.size) (fun e => by have := HWR.out; omega)).trans (hk.frame.block i hi hF)⟩
      have HSET := Lib.hid (hset3.below hb4)
      have HHD := Lib.hid ((hb4.block _ (lt_of_heap hhead3)).trans hhead3)
      have HFM := Lib.hid (hfrm3.trans (Out.of hb4))
      have HRG := Lib.hid (hfr3.below hb4)
      have HHAD : Hid (∀ x ∈ done ++ [s], Sto.look S x ≠ none) := Lib.hid (fun x hx => by
        rcases List.mem_append.1 hx with hx | hx
        · exact hk.had x hx
        · obtain rfl : x = s := by simpa using hx
          exact hlk)
      have HLT : Hid (cnt3 < wr.rangeLeft m r) := Lib.hid (by rw [hk.range.left_eq]; exact hlt)
      have HOK := Lib.hid hok
      have hcell4 := cell_of_row _ _ 0 _ _ _ HHD.out
      simp only [List.getElem?_toArray, List.getElem?_cons_zero] at hcell4
      clear hk hf hnot hrun hfr3 hlt ho hsz hset3 hhead3 hb4 hlk hfrm3 hok
      by_cases hin : s ∈ V
      · rw [decide_eq_true hin] at hlu
        have HIN := Lib.hid hin
        clear hin
        go_wp2
        refine ⟨⟨done ++ [s], cnt3, ⟨HRG.out.congr (Sto.keepF_in S V done s HIN.out), HHAD.out, HSET.out, HHD.out, HFM.out⟩, ?_⟩, ?_⟩
        · rw [KeepAt.gone_in HIN.out, HG.out]
        · rw [HRG.out.left_eq]; exact HLT.out
      · rw [decide_eq_false hin] at hlu
        have HIN := Lib.hid hin
        obtain ⟨w5, cnt5, hrd, hfr5, hle5, ho5, hsz5⟩ := HRG.out.drop Tryz.underlying43 HOK.out
        dsimp only [storeMap] at hrd
        have HRD := Lib.hid hrd
        have HK5 : Hid (KeepAt S V (done ++ [s]) w w5 g m r mr cnt5) := Lib.hid ⟨hfr5.congr (Sto.keepF_out S V done s hin), HHAD.out, HSET.out.out ho5 (fun e => by have := HMR.out; have := HH.out.mlt; omega), ho5.heap HHD.out (fun e => HRG.out.map.no_cells _ _ _ _ e HHD.out), HFM.out.trans ho5⟩
        have HLE := Lib.hid hle5
        clear hin hrd hfr5 hle5 ho5 hsz5
        go_wp2_with (at_delete; refine wpList_delete_run rfl _ _ _ _ rfl (.map (some m)) (.string ⟨s.toArray⟩) (by rfl) (by rfl) HRD.out ?_)
        refine ⟨⟨done ++ [s], cnt5, HK5.out, ?_⟩, ?_⟩
        · rw [KeepAt.gone_out HIN.out, HG.out]
          go_num
        · rw [HK5.out.range.left_eq]; exact Nat.lt_of_le_of_lt HLE.out HLT.out
end Go.Proofs.YtgbcilokeiengaaGreatDoor
namespace Go.Proofs.YtgbcilokeiengaaGreatDoor
open Go.RowKit
open Go.Proofs.YtgbcilokeiengaaGreatDoor.Sto (St)

/-- What came, what is there. -/
structure Sto.Came (S : St) (C : List (List UInt8)) : Prop where
  sums : ∀ p ∈ S, p.1 = Sto.sumOf p.2
  keys : ∀ x, x ∈ Sto.keys S ↔ x ∈ C
theorem Sto.Came.nil : Sto.Came [] [] := ⟨fun p hp => (by cases hp), fun x => by simp [Sto.keys]⟩
theorem Sto.Came.put {S : St} {C : List (List UInt8)} (h : Sto.Came S C) (hS : Sto.Rising S) (t : List UInt8) : Sto.Came (Sto.put S (Sto.sumOf t) t) (C ++ [Sto.sumOf t]) := by
  refine ⟨fun p hp => ?_, fun x => ?_⟩
  · rcases Sto.put_mem hp with hp | rfl
    · exact h.sums p hp
    · dsimp only
  · rw [Sto.put_keys hS, h.keys]
    simp only [List.mem_append, List.mem_singleton]
    exact Or.comm
theorem Sto.Came.short {S : St} {C : List (List UInt8)} (h : Sto.Came S C) : ∀ x ∈ C, x.length = 32 := fun x hx => by
  obtain ⟨p, hp, rfl⟩ := List.mem_map.1 ((h.keys x).2 hx)
  rw [h.sums p hp, Sto.sumOf_len]
theorem Sto.Came.len {S : St} {C : List (List UInt8)} (h : Sto.Came S C) (hS : Sto.Rising S) : S.length ≤ C.length := by
  have := Sto.le_of_sub (M := C) (l := Sto.keys S) ((Sto.keys_rise hS).imp fun h => Sto.lt_ne h) fun x hx => (h.keys x).1 hx
  simpa [Sto.keys] using this
theorem Tab.outMap {P : Program} {k : TypeId} {κ α : Type} {M : MapLaw P k κ α} {w w' : World} {m : Nat} {f : κ → Option α} (hT : Tab w) (h : FnAt M w m f) (ho : Out (fun i => i = m) w w') : Tab w' := fun i hi => by
  refine ho.cell (hT i hi) fun e => ?_
  obtain ⟨es, c, he, _⟩ := h
  have hk := hT i hi
  have e' : (0 : Nat) = m := e
  subst e'
  simp [World.cell?, he] at hk
end Go.Proofs.YtgbcilokeiengaaGreatDoor
namespace Go.Proofs.YtgbcilokeiengaaGreatDoor
open Go.RowKit
open Go.Proofs.YtgbcilokeiengaaGreatDoor.Sto (St)

set_option maxRecDepth 100000 in
theorem Sto.sum_x : (Sto.sumOf [120]).take 1 = [35] := by kernel_rfl
set_option maxRecDepth 100000 in
theorem Sto.sum_y : (Sto.sumOf [121]).take 1 = [249] := by kernel_rfl
theorem Sto.x_ne_y : Sto.sumOf [120] ≠ Sto.sumOf [121] := fun h => by
  have h1 := Sto.sum_x
  rw [h, Sto.sum_y] at h1
  simp at h1
set_option maxRecDepth 100000 in
theorem Sto.kids_x : Sto.kidsT [120] = [] := by decide +kernel
def Sto.wS (x y : List UInt8) : St := Sto.put (Sto.put [] x [120]) y [121]
theorem Sto.wS_rise (x y : List UInt8) : Sto.Rising (Sto.wS x y) := Sto.put_rising (Sto.put_rising Sto.rising_nil _ _) _ _
theorem Sto.wS_look (x y z : List UInt8) (h : x ≠ y) : Sto.look (Sto.wS x y) z = if z = y then some [121] else if z = x then some [120] else none := by
  have e0 : ∀ z, Sto.look (Sto.put [] x [120]) z = if z = x then some [120] else none := fun z => by
    rw [Sto.look_put Sto.rising_nil]
    simp only [Sto.look, Option.getD]
  unfold Sto.wS
  rw [Sto.look_put (Sto.put_rising Sto.rising_nil _ _), e0 y, e0 z, if_neg (fun q => h q.symm : ¬ y = x)]
  rfl
theorem Sto.wS_len (x y : List UInt8) (h : x ≠ y) : (Sto.wS x y).length = 2 := by
  unfold Sto.wS
  simp only [Sto.put]
  rw [if_neg (fun q => h q.symm)]
  split <;> rfl
theorem Sto.wS_reach (x y : List UInt8) (h : x ≠ y) : Sto.reachL (Sto.wS x y) [x] = [x] := by
  have hx : Sto.look (Sto.wS x y) x = some [120] := by rw [Sto.wS_look x y x h, if_neg h, if_pos rfl]
  refine (Sto.reachL_only (Sto.wS_rise x y) [x] (by simp) fun z => ?_).symm
  constructor
  · intro hz
    obtain rfl : z = x := by simpa using hz
    exact .here (by simp) ((Sto.look_isSome _ _).1 (by rw [hx]; rfl))
  · intro hz
    induction hz with
    | here h1 _ => exact h1
    | step h1 h2 h3 h4 ih =>
      obtain rfl := List.mem_singleton.1 ih
      rw [hx] at h2
      obtain rfl := Option.some.inj h2
      rw [Sto.kids_x] at h3
      cases h3
theorem Sto.wS_keep (x y : List UInt8) (h : x ≠ y) : (Sto.keepL (Sto.wS x y) [x]).length = 1 ∧ Sto.look (Sto.keepL (Sto.wS x y) [x]) x = some [120] ∧ Sto.look (Sto.keepL (Sto.wS x y) [x]) y = none := by
  refine ⟨by rw [Sto.keepL_len (Sto.wS_rise x y), Sto.wS_reach x y h]; rfl, ?_, ?_⟩
  · rw [Sto.look_keepL (Sto.wS_rise x y), Sto.wS_reach x y h, if_pos (by simp), Sto.wS_look x y x h, if_neg h, if_pos rfl]
  · rw [Sto.look_keepL (Sto.wS_rise x y), Sto.wS_reach x y h, if_neg (by simpa using fun q => h q.symm)]
theorem Out.belowM {B m : Nat} {w w1 w2 : World} (hb : Below B w w1) (ho : Out (fun i => i = m) w1 w2) (hm : B ≤ m) (hB : B ≤ w1.heap.size) : Below B w w2 := hb.trans (ho.below (fun j e => by omega) hB)

set_option maxRecDepth 100000 in
set_option maxHeartbeats 4000000 in
theorem stworks_any (w : World) (hT : Tab w) : Calls Tryz.prog 15 #[] w fun e w' => e = .returned (.bool true) ∧ Below w.heap.size w w' := by
  have HT := Lib.hid hT
  have hne := Sto.x_ne_y
  have hxl := Sto.sumOf_len [120]
  have HP1 := Lib.hid (fun g m S w h hT => stput_any g m S [120] w h hT (by simp))
  have HP2 := Lib.hid (fun g m S w h hT => stput_any g m S [121] w h hT (by simp))
  unfold StPutPost at HP1 HP2
  have hyl := Sto.sumOf_len [121]
  obtain ⟨x, hx⟩ : ∃ x, Sto.sumOf [120] = x := ⟨_, rfl⟩
  obtain ⟨y, hy⟩ : ∃ y, Sto.sumOf [121] = y := ⟨_, rfl⟩
  rw [hx] at hne hxl HP1
  rw [hy] at hne hyl HP2
  have hxl' : (x.length : Int) = 32 := by omega
  have hxy : (x == y) = false := by simpa using hne
  have HK := Lib.hid (Sto.wS_keep x y hne)
  have HL2 := Lib.hid (Sto.wS_len x y hne)
  have HXL := Lib.hid hxl
  have HYL := Lib.hid hyl
  clear hT hne hxl hyl hx hy
  go_enter Tryz.func15, Tryz.ntmps15
  go_wp2_with fail
  refine (stnew_any _).mono ?_
  rintro e w1 ⟨g, m, rfl, hg, hm, hs1, hb1⟩
  have HS1 := Lib.hid hs1
  have HB1 := Lib.hid hb1
  have HM := Lib.hid hm
  have HT1 := Lib.hid (HT.out.below hb1)
  have HZ1 := Lib.hid hb1.size
  clear hg hm hs1 hb1
  go_wp2_with fail
  refine (HP1.out g m _ _ HS1.out HT1.out).mono ?_
  rintro e w2 ⟨rfl, hs2, ho2⟩
  have HS2 := Lib.hid hs2
  have HB2 := Lib.hid (Out.belowM HB1.out ho2 HM.out HZ1.out)
  have HT2 := Lib.hid (HT.out.below HB2.out)
  have HZ2 := Lib.hid HB2.out.size
  clear hs2 ho2
  go_wp2_with fail
  refine (HP2.out g m _ _ HS2.out HT2.out).mono ?_
  rintro e w3 ⟨rfl, hs3, ho3⟩
  have HS3 : Hid (StoreAt w3 g m (Sto.wS x y)) := Lib.hid hs3
  have HB3 := Lib.hid (Out.belowM HB2.out ho3 HM.out HZ2.out)
  have HZ3 := Lib.hid HB3.out.size
  clear hs3 ho3
  have hba : Below w3.heap.size w3 (w3.alloc (.cells #[.string ⟨x.toArray⟩] 9)) := (Below.refl _ w3).alloc (Nat.le_refl _) _
  have hst : Strs (w3.alloc (.cells #[.string ⟨x.toArray⟩] 9)) (.slice (some ⟨w3.heap.size, 0, none⟩) 1 1) [x] := ⟨some ⟨w3.heap.size, 0, none⟩, 1, rfl, fun i hi => by
    obtain rfl : i = 0 := by simpa using hi
    exact ⟨_, rfl, by rw [Addr.add_mid]; exact cell_of_row _ _ 0 _ _ _ (heap_alloc_new w3 _)⟩⟩
  have HKP := Lib.hid (stkeep_any g m (Sto.wS x y) [x] _ _ (HS3.out.below hba) hst (by rw [HL2.out]; omega) (by simp) (by intro z hz; obtain rfl : z = x := (by simpa using hz); have := HXL.out; omega))
  have HBA := Lib.hid (HB3.out.trans (hba.mono HZ3.out))
  unfold StKeepPost at HKP
  rw [HL2.out, HK.out.1, show (2 - 1 : Nat) = 1 from rfl] at HKP
  clear hba hst
  go_wp2_with fail
  refine HKP.out.mono ?_
  rintro e w4 ⟨rfl, hs4, ho4⟩
  have HS4 := Lib.hid hs4
  have HB4 := Lib.hid (Out.belowM HBA.out ho4 HM.out HBA.out.size)
  have HZ4 := Lib.hid HB4.out.size
  have HG1' := Lib.hid (fun w h => stget_any g m (Sto.keepL (Sto.wS x y) [x]) x w h (by have := HXL.out; omega))
  have HG2' := Lib.hid (fun w h => stget_any g m (Sto.keepL (Sto.wS x y) [x]) y w h (by have := HYL.out; omega))
  have HND' := Lib.hid (fun w h => stnode_any g m (Sto.keepL (Sto.wS x y) [x]) y w h (by have := HYL.out; omega))
  unfold Sto.nodeOf at HND'
  rw [HK.out.2.1] at HG1'
  rw [HK.out.2.2] at HG2' HND'
  simp only [Option.getD_some, Option.isSome_some] at HG1'
  simp only [Option.getD_none, Option.isSome_none] at HG2'
  dsimp only at HND'
  have HON := Lib.hid (ncl_one Nd.zero)
  have HSN : Hid ((ncl Nd.zero).toArray.size = 19) := Lib.hid rfl
  unfold ndval at HND'
  obtain ⟨A, hA⟩ : ∃ A, (ncl Nd.zero).toArray = A := ⟨_, rfl⟩
  rw [hA] at HND' HON HSN
  have HI : Hid ((Tryz.prog.info? 72).map (·.size) = some A.size) := Lib.hid (by rw [HSN.out]; kernel_rfl)
  clear hs4 ho4 hA
  go_wp2_with fail
  refine (HG1'.out _ HS4.out).mono ?_
  rintro e w5 ⟨rfl, hb5⟩
  have HS5 := Lib.hid (HS4.out.below hb5)
  have HB5 := Lib.hid (HB4.out.trans (hb5.mono HZ4.out))
  clear hb5
  go_wp2_with fail
  refine (HG2'.out _ HS5.out).mono ?_
  rintro e w6 ⟨rfl, hb6⟩
  have HS6 := Lib.hid (HS5.out.below hb6)
  have HB6 := Lib.hid (bchain HB5.out hb6)
  clear hb6
  go_wp2_with fail
  refine (HND'.out _ HS6.out).mono ?_
  rintro e w7 ⟨rfl, hb7⟩
  have HB7 := Lib.hid (bchain HB6.out hb7)
  have HB8 := Lib.hid (HB7.out.alloc HB7.out.size (.cells A 72))
  clear hb7
  go_wp2_with (refine wpList_store_fresh (by rfl) _ _ _ (by rfl) w7.heap.size rfl A (by rfl) (by rfl) _ _ HI.out HSN.out.symm HON.out ?_)
  go_ret
  exact ⟨rfl, HB8.out⟩
end Go.Proofs.YtgbcilokeiengaaGreatDoor
namespace Go.Proofs.YtgbcilokeiengaaGreatDoor
open Go.RowKit
open Go.Proofs.YtgbcilokeiengaaGreatDoor.Sto (St)

theorem Strs.outMap {P : Program} {k : TypeId} {κ α : Type} {M : MapLaw P k κ α} {w w' : World} {m : Nat} {f : κ → Option α} {v : Value} {L : List (List UInt8)} (h : Strs w v L) (hf : FnAt M w m f) (ho : Out (fun i => i = m) w w') : Strs w' v L := by
  obtain ⟨A, cap, rfl, hc⟩ := h
  refine ⟨A, cap, rfl, fun i hi => ?_⟩
  obtain ⟨a, ha, hcell⟩ := hc i hi
  refine ⟨a, ha, ho.cell hcell fun e => ?_⟩
  obtain ⟨es, c, he, _⟩ := hf
  have e' : (a.add i).block = m := e
  rw [World.cell?, e', he] at hcell
  simp at hcell
theorem Own.outMap {P : Program} {k : TypeId} {κ α : Type} {M : MapLaw P k κ α} {w w' : World} {m B : Nat} {f : κ → Option α} {v : Value} {L : List (List UInt8)} (h : Own w B v L) (hf : FnAt M w m f) (ho : Out (fun i => i = m) w w') : Own w' B v L :=
  row_out h ho fun _ _ _ _ e => hf.no_cells _ _ _ _ e
theorem StoreAt.outMap {w w' : World} {g m g2 m2 : Nat} {S S2 : St} (h2 : StoreAt w g2 m2 S2) (h : StoreAt w g m S) (hne : m2 ≠ m) (ho : Out (fun i => i = m) w w') : StoreAt w' g2 m2 S2 := h2.out ho (h2.ne h) hne
end Go.Proofs.YtgbcilokeiengaaGreatDoor
namespace Go.Proofs.YtgbcilokeiengaaGreatDoor
open Go.ChangeShapes Go.WideShapes Go.ChangeAt Go.RowKit

theorem gK : Tryz.prog.globalNamed "pharos/sha.constants" = some 0 := by kernel_rfl
theorem tK : (Tryz.prog.globals[0]?).map (·.type) = some 129 := by kernel_rfl
theorem cK : Tryz.prog.cellsOf 129 = 64 := by kernel_rfl
theorem cW : Tryz.prog.cellsOf 95 = 1 := by kernel_rfl
def laidK : List (String × DataW Unit) := [("pharos/sha.constants", Rows.laid_pharos_sha_constants)]
theorem tab_of_laid {W : World} (h : laidMetH Tryz.prog laidK W) : Tab W := by
  rw [MakeChecks.laidMetH_plain _ _ _ (by kernel_rfl)] at h
  obtain ⟨g, t, cs, fuel, p, hg, hty, hvar, hd⟩ := Lib.laidMet.reads h (.head _)
  obtain rfl := Option.some.inj (gK.symm.trans hg)
  obtain rfl := Option.some.inj (tK.symm.trans hty)
  have hd' : DataW.trod (fun _ => ()) Tryz.prog W 0 (fun _ => true) false fuel 129 cs.toList = some (Lib.tabData .u32 Sha.kTab, p) := hd
  have hcs := Lib.cells_of_tab Tryz.underlying129 Tryz.underlying95 cW cK hd'
  intro i hi
  have hk : i < Sha.kTab.length := hi
  rw [World.var?_cell hg hvar i, ← Array.getElem?_toList, hcs]
  simp [hk]
/-- The door's own heap meets the condition. -/
theorem door_met (os : Os) (args : Array Value) : laidMetH Tryz.prog laidK ((World.doorLaid Tryz.prog 400 os).forCall (fun _ _ => 0) ⟨#[], args, []⟩).memory :=
  laidMetH_of_parts3 (fuel := 8) (laidMet_of_run' 8 (by kernel_rfl) (by kernel_rfl)) (by kernel_rfl) (by kernel_rfl)
end Go.Proofs.YtgbcilokeiengaaGreatDoor
namespace Go.Proofs.YtgbcilokeiengaaGreatDoor
open Go.RowKit Go.MapKept
open Go.ChangeMaps (setBlock heap_setBlock_same heap_setBlock_other)
open Go.Maps (Keyed)

/-! ### a thing as a value, as cells, as a key -/
end Go.Proofs.YtgbcilokeiengaaGreatDoor
namespace Go.Proofs.YtgbcilokeiengaaGreatDoor
open Go.RowKit Go.ChangeShapes Go.WideShapes

instance : Inhabited Dig.N := ⟨Dig.zero⟩
def Noteds (w : World) (v : Value) (L : List Dig.N) : Prop :=
  ∃ (A : Option Addr) (cap : Nat), v = .slice A L.length cap ∧ (0 < L.length → ∃ b o, A = some ⟨b, o, none⟩ ∧ b < w.heap.size ∧ ∀ i (h : i < L.length),
    w.cell? ⟨b, o + i * 3, none⟩ = some (.int .i64 L[i].tag) ∧ w.cell? ⟨b, o + i * 3 + 1, none⟩ = some (.string ⟨L[i].text.toArray⟩) ∧ w.cell? ⟨b, o + i * 3 + 2, none⟩ = some (.string ⟨L[i].dig.toArray⟩))
set_option maxRecDepth 100000 in
theorem Noteds.nil (w : World) : Noteds w (.slice none 0 0) [] := ⟨none, 0, rfl, fun h => absurd h (by simp)⟩
set_option maxRecDepth 100000 in
theorem Noteds.below {w w' : World} {v : Value} {L : List Dig.N} (h : Noteds w v L) (hb : Below w.heap.size w w') : Noteds w' v L := by
  obtain ⟨A, cap, rfl, hc⟩ := h
  refine ⟨A, cap, rfl, fun h0 => ?_⟩
  obtain ⟨b, o, rfl, hlt, hcell⟩ := hc h0
  refine ⟨b, o, rfl, Nat.lt_of_lt_of_le hlt hb.size, fun i hi => ?_⟩
  obtain ⟨h1, h2, h3⟩ := hcell i hi
  exact ⟨(hb.cell hlt).trans h1, (hb.cell hlt).trans h2, (hb.cell hlt).trans h3⟩
end Go.Proofs.YtgbcilokeiengaaGreatDoor
