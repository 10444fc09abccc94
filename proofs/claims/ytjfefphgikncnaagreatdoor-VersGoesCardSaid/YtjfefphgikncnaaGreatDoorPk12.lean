/- TriParts, RowList, PowMath, PowBase, AppendArg, StoreCalls, StorePut, StoreNode -/
import Derived.Test.YtjfefphgikncnaaGreatDoorPk11
import Derived.Test.YtjfefphgikncnaaGreatDoorPk02
import Derived.Deep.RegionHeld3
import Derived.Test.YtjfefphgikncnaaGreatDoorPk04
import Derived.Test.YtjfefphgikncnaaGreatDoorPk01
import Derived.Maps.AppendAt
import Derived.WalkSpells
import Derived.WalkLawsBesides
import Derived.Lib.Strings
import Derived.Test.YtjfefphgikncnaaGreatDoorChecked
import Derived.Test.YtjfefphgikncnaaGreatDoorPk08
import Derived.Deep.Slices
import Derived.DataReads
import Derived.OpenShut
import Derived.SizedLaws
import Derived.Lib.LaidU8
import Derived.Test.YtjfefphgikncnaaGreatDoorPk05
import Derived.Lib.SliceRun
import Derived.Test.YtjfefphgikncnaaGreatDoorPk10
namespace Go.Proofs.YtjfefphgikncnaaGreatDoor
open Go.RowKit
open Sto (T)
open Tri (Tr Ok upd ix hb lay splitT)

def noK : Ks := fun _ => nilp
theorem RowP.new {w : World} {k : Nat} {p x s : T} {K : Ks} {C : Array Value} (h : C = (pcl k p x K s).toArray) : RowP (w.alloc (.cells C 99)) w.heap.size k p x K s := by
  subst h; exact heap_new_at w _ _ rfl
/-- A new part, as it may stand in a tree. -/
theorem PAt.new {w' : World} {F : Fm} {g : Nat} {t : Tr} {K : Ks} (hn : ¬ t.isNil) (hB : F false g) (hr : RowP w' g t.kind t.pth t.vl K []) (hk : ∀ i, PAt w' F false (t.kid i) (K i)) : PAt w' F false t (ptr g) :=
  (PAt.iff hn).2 ⟨g, false, K, rfl, (fun h => by cases h), hB, hr, hk⟩
/-- Any new block may be of a tree. -/
def Fm.fresh (F : Fm) (w : World) : Prop := ∀ g, w.heap.size ≤ g → F false g
theorem Fm.fresh.size {F : Fm} {w w' : World} (h : F.fresh w) (hs : w.heap.size ≤ w'.heap.size) : F.fresh w' := fun g hg => h g (Nat.le_trans hs hg)
theorem Fm.fresh.off {F : Fm} {w : World} (h : F.fresh w) {q : Nat} (hq : q < w.heap.size) : (F.off q).fresh w := fun g hg => ⟨h g hg, by omega⟩
/-- What a call answers: a tree, its new parts without sums. -/
def MadeT (w : World) (F : Fm) (t : Tr) (e : Ending) (w' : World) : Prop := ∃ v, e = .returned v ∧ PAt w' F false t v ∧ Below w.heap.size w w'

set_option maxRecDepth 100000 in
theorem leaf_any (p x : T) (w : World) (F : Fm) (hB : F.fresh w) :
    Calls Tryz.prog 126 #[.string ⟨p.toArray⟩, .string ⟨x.toArray⟩] w (MadeT w F (.leaf p x)) := by
  unfold MadeT
  go_enter Tryz.func126, Tryz.ntmps126
  go_wp2
  go_ret
  refine ⟨_, rfl, PAt.new (K := noK) id (hB _ (Nat.le_refl _)) (RowP.new rfl) (fun i => rfl), (Below.refl _ w).alloc (Nat.le_refl _) _⟩

set_option maxRecDepth 100000 in
theorem half_any (i : Fin 16) (w : World) :
    Calls Tryz.prog 111 #[.int .i64 i.val] w fun e w' => e = .returned (.string ⟨[hb i].toArray⟩) ∧ Below w.heap.size w w' := by
  have hi := i.isLt
  have e1 : (i.val : Int) % 256 = (i.val : Int) := by omega
  have hc := conv_one' w (hb i) (i.val : Int) (by rw [Tri.hb_toNat]) w.heap.size rfl
  have h0 : (0 : Int) ≤ (i.val : Int) := by omega
  have h1 : (i.val : Int) ≤ 255 := by omega
  go_enter Tryz.func111, Tryz.ntmps111
  go_wp2
  go_ret
  exact ⟨rfl, (Below.refl _ w).alloc (Nat.le_refl _) _⟩
/-- The place of a kid. -/
def placeT (k : Nat) (e : T) (i : Fin 16) : T := if k = 3 then e ++ [hb i] else e
set_option maxRecDepth 100000 in
theorem place_any (k : Nat) (e : T) (i : Fin 16) (w : World) (he : e.length ≤ 1000) (hk : k ≤ 3) :
    Calls Tryz.prog 81 #[.int .i64 k, .string ⟨e.toArray⟩, .int .i64 i.val] w fun r w' => r = .returned (.string ⟨(placeT k e i).toArray⟩) ∧ Below w.heap.size w w' := by
  unfold placeT
  by_cases h : k = 3
  · subst h
    rw [if_pos rfl]
    have HH := Lib.hid (fun w => half_any i w)
    have hcm := cat_mk e [hb i]
    go_enter Tryz.func81, Tryz.ntmps81
    go_wp2_with fail
    refine (HH.out _).mono ?_
    rintro r w1 ⟨rfl, hb1⟩
    go_wp2
    go_ret
    exact ⟨rfl, hb1⟩
  · rw [if_neg h]
    have h1 : ¬ ((k : Int) = 3) := by omega
    have h2 : ((k : Int) == 3) = false := by rw [beq_eq_false_iff_ne]; exact h1
    go_enter Tryz.func81, Tryz.ntmps81
    go_wp2
    go_ret
    exact ⟨rfl, Below.refl _ _⟩
theorem pcl_load (k : Nat) (p x s : T) (K : Ks) : (Tryz.prog.info? 99).map (·.size) = some (pcl k p x K s).toArray.size := by
  rw [List.size_toArray, pcl_length]; kernel_rfl
theorem pcl_one (k : Nat) (p x s : T) (K : Ks) (hK : ∀ i, (K i).oneCell' = true) : (pcl k p x K s).toArray.all (·.oneCell') = true := by
  rw [← Array.all_toList, List.all_eq_true]
  intro v hv
  simp only [pcl, List.mem_cons, List.mem_append, List.mem_ofFn, List.not_mem_nil, or_false] at hv
  rcases hv with rfl | rfl | rfl | ⟨i, rfl⟩ | rfl
  · rfl
  · rfl
  · rfl
  · exact hK i
  · rfl
set_option maxRecDepth 100000 in
set_option maxHeartbeats 1000000 in
theorem open_any {g k : Nat} {p x s : T} {K : Ks} (w : World) (h : RowP w g k p x K s) (hK : ∀ i, (K i).oneCell' = true) :
    Calls Tryz.prog 97 #[ptr g] w fun r w' => r = .returned (ptr w.heap.size) ∧ RowP w' w.heap.size k p x K [] ∧ Below w.heap.size w w' := by
  have hi := pcl_load k p x s K
  have ho := pcl_one k p x s K hK
  have hset := pcl_set k p x K s []
  have hl : (pcl k p x K s).toArray.size = 20 := by rw [List.size_toArray, pcl_length]
  have hc : (pcl k p x K s).toArray[19]? = some (.string ⟨s.toArray⟩) := by
    have h1 : RowP w g k p x K s := h
    have h2 := h1.sum
    rw [cell_of_row w g 19 _ _ _ h] at h2
    exact h2
  unfold RowP at h ⊢
  unfold ptr
  generalize (pcl k p x K []).toArray = D at hset ⊢
  generalize (pcl k p x K s).toArray = C at h hi ho hset hl hc
  have hat : (w.alloc (.cells C 99)).heap[w.heap.size]? = some (.cells C 99 (0, 0)) := heap_alloc_new w _
  have hcell : (w.alloc (.cells C 99)).cell? ⟨w.heap.size, 19, none⟩ = some (.string ⟨s.toArray⟩) := by rw [cell_of_row _ _ 19 _ _ _ hat]; exact hc
  have hfr : (w.alloc (.cells C 99)).frozen? ⟨w.heap.size, 19, none⟩ = false := frozen_of_row _ _ _ _ _ hat
  have HR := Lib.hid h
  have HI := Lib.hid hi
  have HO := Lib.hid ho
  have HL := Lib.hid hl
  have HS := Lib.hid hset
  clear h hi ho hset hl hc hat
  go_enter Tryz.func97, Tryz.ntmps97
  go_wp2_with (first | (refine wpList_load_row (by rfl) _ _ (by rfl) g (by rfl) _ C _ _ HR.out Tryz.underlying99 (by rfl) HI.out ?_) | (refine wpList_store_fresh (by rfl) _ _ _ (by rfl) w.heap.size rfl C (by rfl) (by rfl) _ _ HI.out HL.out.symm HO.out ?_))
  go_ret
  exact ⟨rfl, by rw [HS.out]; exact heap_alloc_new w _, (Below.refl _ w).alloc (Nat.le_refl _) _⟩
theorem PAt.cellK {w : World} {F : Fm} {s : Bool} {t : Tr} {v : Value} (h : PAt w F s t v) : v = nilp ∨ ∃ g, v = ptr g := by
  by_cases hn : t.isNil
  · rw [Tri.isNil_eq hn] at h; exact Or.inl h
  · obtain ⟨g, _, _, e, _⟩ := h.row hn; exact Or.inr ⟨g, e⟩
theorem PAt.oneCell {w : World} {F : Fm} {s : Bool} {t : Tr} {v : Value} (h : PAt w F s t v) : v.oneCell' = true := by
  rcases h.cellK with rfl | ⟨g, rfl⟩ <;> rfl
def oneK (a : Value) : Ks := fun i => if i = 0 then a else nilp
theorem pcl_path (k : Nat) (p p' x : T) (K : Ks) (s : T) : (pcl k p x K s).toArray.setIfInBounds 1 (.string ⟨p'.toArray⟩) = (pcl k p' x K s).toArray := by
  rw [List.setIfInBounds_toArray]; rfl
theorem RowP.setPath {w : World} {g k : Nat} {p x s : T} {K : Ks} (h : RowP w g k p x K s) (p' : T) : RowP (w.setCell ⟨g, 1, none⟩ (.string ⟨p'.toArray⟩)) g k p' x K s := by
  have := heap_setCell_same _ _ 1 _ _ (.string ⟨p'.toArray⟩) h
  rw [pcl_path] at this
  exact this
theorem RowP.free {w : World} {g k : Nat} {p x s : T} {K : Ks} (h : RowP w g k p x K s) (i : Nat) : w.frozen? ⟨g, i, none⟩ = false := frozen_of_row _ _ _ _ _ h
theorem lay_parts (p : T) {t : Tr} (hn : ¬ t.isNil) (h3 : t.kind ≠ 3) : (lay p t).kind = t.kind ∧ (lay p t).pth = p ++ t.pth ∧ (lay p t).vl = t.vl ∧ ∀ i, (lay p t).kid i = t.kid i := by
  cases t with
  | nil => exact absurd trivial hn
  | leaf q x => exact ⟨rfl, rfl, rfl, fun _ => rfl⟩
  | ext q u => exact ⟨rfl, rfl, rfl, fun _ => rfl⟩
  | br x k => exact absurd rfl h3
set_option maxRecDepth 100000 in
set_option maxHeartbeats 1000000 in
/-- A path laid above a tree. -/
theorem behind_any {t : Tr} {v : Value} (p : T) (w : World) (F : Fm) (hB : F.fresh w) (h : PAt w F false t v) (hp : p = [] ∨ ¬ t.isNil) (hpl : p.length ≤ 1000) (hql : t.pth.length ≤ 1000) :
    Calls Tryz.prog 96 #[v, .string ⟨p.toArray⟩] w (MadeT w F (lay p t)) := by
  unfold MadeT
  by_cases hp0 : p = []
  · subst hp0
    rw [Tri.lay_nil]
    have HP := Lib.hid h
    clear h hp
    go_enter Tryz.func96, Tryz.ntmps96
    go_wp2
    go_ret
    exact ⟨v, rfl, HP.out, Below.refl _ _⟩
  · have hn := hp.resolve_left hp0
    obtain ⟨g, s', K, rfl, -, h2, hr, hk⟩ := h.row hn
    have hpe : (p == []) = false := by rw [beq_eq_false_iff_ne]; exact hp0
    have HP := Lib.hid h
    have n0 := hr.kind
    by_cases h3 : t.kind = 3
    · have e3 : ((t.kind : Int) == 3) = true := by rw [h3]; rfl
      rw [h3] at n0
      have HL : Hid (lay p t = .ext p t) := Lib.hid (by
        cases t with
        | br x k => simp [lay, Tri.above, hp0]
        | _ => cases h3)
      unfold ptr
      clear h hp hr hk
      go_enter Tryz.func96, Tryz.ntmps96
      go_wp2
      go_ret
      rw [HL.out]
      refine ⟨_, rfl, ?_, (Below.refl _ w).alloc (Nat.le_refl _) _⟩
      refine PAt.new (K := oneK (ptr g)) id (hB _ (Nat.le_refl _)) (RowP.new rfl) fun i => ?_
      simp only [Tri.Tr.kid, oneK]
      split
      · exact HP.out.below ((Below.refl _ w).alloc (Nat.le_refl _) _)
      · rfl
    · have e3 : ((t.kind : Int) == 3) = false := by rw [beq_eq_false_iff_ne]; omega
      have HO := Lib.hid (open_any w hr (fun i => (hk i).oneCell))
      have n1 := hr.path
      have HL := Lib.hid (lay_parts p hn h3)
      have HKK := Lib.hid hk
      have HN := Lib.hid (Tri.lay_nn (p := p) hn)
      have HR := Lib.hid hr
      unfold ptr at HO ⊢
      obtain ⟨q, hq⟩ : ∃ q, t.pth = q := ⟨_, rfl⟩
      rw [hq] at n1 hql
      have HQ := Lib.hid hq
      have hcm := cat_mk p q
      obtain ⟨kd, hkd⟩ : ∃ kd, t.kind = kd := ⟨_, rfl⟩
      rw [hkd] at n0 e3
      have HKD := Lib.hid hkd
      clear h hp hr hk hq h2 hkd h3
      go_enter Tryz.func96, Tryz.ntmps96
      go_wp2_with fail
      refine HO.out.mono ?_
      rintro r w1 ⟨rfl, hr1, hb1⟩
      have m1 := hr1.path
      have m2 := hr1.free 1
      have m3 := HR.out.below hb1
      have m4 := m3.path
      rw [HQ.out] at m1 m4
      go_wp2
      go_ret
      obtain ⟨l1, l2, l3, l4⟩ := HL.out
      have hb2 := hb1.setCell (p := ⟨w.heap.size, 1, none⟩) (Nat.le_refl _) (.string ⟨(p ++ q).toArray⟩)
      refine ⟨_, rfl, PAt.new (K := K) HN.out (hB _ (Nat.le_refl _)) ?_ (fun i => ?_), hb2⟩
      · rw [l1, l2, l3, HQ.out]
        exact hr1.setPath _
      · rw [l4]
        exact ((HKK.out i).weak).below hb2
end Go.Proofs.YtjfefphgikncnaaGreatDoor
namespace Go.Proofs.YtjfefphgikncnaaGreatDoor
open Go.RowKit

theorem wpList_append_run {P : Program} {w w' : World} {ops : Array Oper} {rest : List Oper} {o : Oper} {a : Act} {Q : Exit → Act → World → Prop} (hg : o.guard = none) (s x : Operand) (t : TypeId) (hop : o.op = Op.call { callee := Callee.builtin Builtin.append, args := #[s, x], argTypes := #[t, t] })
    (sv xv r : Value) (hs : a.eval s = sv) (hx : a.eval x = xv) (hrun : (Builtin.append_ #[t, t] o.type #[sv, xv]).run P w = .ok r w') (hK : wpList P ops Q rest (a.put o.dst r) w') :
    wpList P ops Q (o :: rest) a w := by
  refine wpList_plain hg fun K' hK' => ?_
  unfold Oper.wp
  simp [execOp, hop, resolve, invoke, builtin, hs, hx, hrun, Result.andThen]
  exact hK' _ _ hK

def rowsL {α : Type} (f : α → List Value) (L : List α) : List Value := L.flatMap f
theorem rowsL_length {α : Type} {f : α → List Value} {c : Nat} (hf : ∀ a, (f a).length = c) (L : List α) : (rowsL f L).length = L.length * c := by
  induction L with
  | nil => simp [rowsL]
  | cons a L ih =>
    have e : rowsL f (a :: L) = f a ++ rowsL f L := by simp [rowsL]
    rw [e, List.length_append, ih, hf, List.length_cons, Nat.succ_mul, Nat.add_comm]
theorem rowsL_append {α : Type} (f : α → List Value) (S T : List α) : rowsL f (S ++ T) = rowsL f S ++ rowsL f T := by simp [rowsL]
theorem rowsL_at {α : Type} {f : α → List Value} {c : Nat} (hf : ∀ a, (f a).length = c) (S : List α) (i j : Nat) (hi : i < S.length) (hj : j < c) : (rowsL f S)[i * c + j]? = (f S[i])[j]? := by
  induction S generalizing i with
  | nil => simp at hi
  | cons a L ih =>
    have e : rowsL f (a :: L) = f a ++ rowsL f L := by simp [rowsL]
    rw [e]
    cases i with
    | zero =>
      rw [List.getElem?_append_left (by rw [hf]; omega)]
      simp
    | succ i =>
      rw [List.getElem?_append_right (by rw [hf, Nat.succ_mul]; omega)]
      have : (i + 1) * c + j - (f a).length = i * c + j := by rw [hf, Nat.succ_mul]; omega
      rw [this, ih i (by simpa using hi)]
      simp
theorem rowsL_one {α : Type} {f : α → List Value} (h : ∀ a, ∀ u ∈ f a, u.oneCell' = true) (S : List α) : ∀ u ∈ rowsL f S, u.oneCell' = true := by
  intro u hu
  obtain ⟨n, _, hn⟩ := List.mem_flatMap.1 hu
  exact h n u hn
/-- A slice that has the things S. -/
def RowsAt {α : Type} (ty : TypeId) (c : Nat) (f : α → List Value) (w : World) (v : Value) (S : List α) : Prop :=
  ∃ (A : Option Addr) (cap : Nat), v = .slice A S.length cap ∧ S.length ≤ cap ∧ (S = [] → A = none ∧ cap = 0 ∨ ∃ b o, A = some ⟨b, o, none⟩) ∧ (0 < S.length → ∃ b o, A = some ⟨b, o, none⟩ ∧ (∃ cs fl, w.heap[b]? = some (.cells cs ty fl)) ∧ ∀ i (h : i < S.length) j u, (f S[i])[j]? = some u → w.cell? ⟨b, o + i * c + j, none⟩ = some u)
theorem RowsAt.nil {α : Type} (ty : TypeId) (c : Nat) (f : α → List Value) (w : World) : RowsAt ty c f w (.slice none 0 0) [] := ⟨none, 0, rfl, Nat.le_refl _, fun _ => Or.inl ⟨rfl, rfl⟩, fun h => absurd h (by simp)⟩
theorem RowsAt.form {α : Type} {ty : TypeId} {c : Nat} {f : α → List Value} {w : World} {v : Value} {S : List α} (h : RowsAt ty c f w v S) : ∃ A cap, v = .slice A S.length cap ∧ S.length ≤ cap ∧ ((S = [] ∧ A = none ∧ cap = 0) ∨ ∃ b o, A = some ⟨b, o, none⟩) := by
  obtain ⟨A, cap, rfl, hc, h0, h1⟩ := h
  refine ⟨A, cap, rfl, hc, ?_⟩
  by_cases hs : S = []
  · exact (h0 hs).imp (fun h => ⟨hs, h⟩) id
  · obtain ⟨b, o, rfl, _⟩ := h1 (List.length_pos_iff.2 hs)
    exact Or.inr ⟨b, o, rfl⟩
theorem RowsAt.outF {α : Type} {ty : TypeId} {c : Nat} {f : α → List Value} {F : Nat → Prop} {w w' : World} {v : Value} {S : List α} (h : RowsAt ty c f w v S) (ho : Out F w w') (hF : ∀ k cs fl, F k → w.heap[k]? ≠ some (.cells cs ty fl)) : RowsAt ty c f w' v S := by
  obtain ⟨A, cap, rfl, hc, h0, h1⟩ := h
  refine ⟨A, cap, rfl, hc, h0, fun hp => ?_⟩
  obtain ⟨b, o, rfl, ⟨cs, fl, hh⟩, hcell⟩ := h1 hp
  have hb : ¬ F b := fun hf => hF b cs fl hf hh
  exact ⟨b, o, rfl, ⟨cs, fl, ho.heap hh hb⟩, fun i hi j u hu => ho.cell (hcell i hi j u hu) hb⟩
theorem RowsAt.below {α : Type} {ty : TypeId} {c : Nat} {f : α → List Value} {w w' : World} {v : Value} {S : List α} (h : RowsAt ty c f w v S) (hb : Below w.heap.size w w') : RowsAt ty c f w' v S := h.outF (F := fun _ => False) (Out.of hb) fun _ _ _ hf => hf.elim
theorem RowsAt.at {α : Type} {ty : TypeId} {c : Nat} {f : α → List Value} {w : World} {A : Option Addr} {n cap : Nat} {S : List α} (h : RowsAt ty c f w (.slice A n cap) S) (k : Nat) (hk : k < S.length) :
    ∃ b o, A = some ⟨b, o, none⟩ ∧ ∀ j u, (f S[k])[j]? = some u → w.cell? ⟨b, o + k * c + j, none⟩ = some u := by
  obtain ⟨A', cap', hv, _, _, h1⟩ := h
  obtain ⟨rfl, _⟩ : A = A' ∧ _ := by simpa using hv
  obtain ⟨b, o, rfl, _, hcell⟩ := h1 (by omega)
  exact ⟨b, o, rfl, hcell k hk⟩
theorem RowsAt.own {α : Type} {ty : TypeId} {c : Nat} {f : α → List Value} (hf : ∀ a, (f a).length = c) {w : World} {B : Nat} {v : Value} {S : List α} (h : w.ownsRow B ty c v S.length (rowsL f S)) : RowsAt ty c f w v S := by
  rcases h.2 with ⟨rfl, h0⟩ | ⟨g, cap, cur, rfl, hB, hh, hn, _⟩
  · obtain rfl : S = [] := List.eq_nil_of_length_eq_zero h0
    exact RowsAt.nil ty c f w
  · refine ⟨_, cap, rfl, hn, fun _ => Or.inr ⟨_, _, rfl⟩, fun h0 => ⟨g, 0, rfl, ⟨_, _, hh⟩, fun i hi j u hu => ?_⟩⟩
    have hj : j < c := by rw [← hf S[i]]; exact (List.getElem?_eq_some_iff.1 hu).1
    have := h.cells (g := g) rfl (i * c + j) u (by rw [rowsL_at hf S i j hi hj]; exact hu)
    rw [Addr.add_mid] at this; rw [Nat.zero_add]; simpa using this
theorem RowsAt.take {α : Type} {ty : TypeId} {c : Nat} {f : α → List Value} {w : World} {A : Option Addr} {n cap : Nat} {S : List α} (h : RowsAt ty c f w (.slice A n cap) S) (k : Nat) (hk : k ≤ S.length) : RowsAt ty c f w (.slice A k cap) (S.take k) := by
  obtain ⟨A', cap', hv, hcap, h0, h1⟩ := h
  obtain ⟨rfl, rfl, rfl⟩ : A = A' ∧ n = S.length ∧ cap = cap' := by simpa using hv
  have hl : (S.take k).length = k := by simp; omega
  refine ⟨A, cap, by rw [hl], by omega, fun _ => ?_, fun hp => ?_⟩
  · by_cases hs : S = []
    · exact h0 hs
    · obtain ⟨b, o, rfl, _⟩ := h1 (List.length_pos_iff.2 hs)
      exact Or.inr ⟨b, o, rfl⟩
  · obtain ⟨b, o, rfl, hlt, hcell⟩ := h1 (by omega)
    refine ⟨b, o, rfl, hlt, fun i hi j u hu => ?_⟩
    rw [hl] at hi
    exact hcell i (by omega) j u (by simpa using hu)
theorem RowsAt.drop {α : Type} {ty : TypeId} {c : Nat} {f : α → List Value} {w : World} {b o n cap : Nat} {S : List α} (h : RowsAt ty c f w (.slice (some ⟨b, o, none⟩) n cap) S) (k : Nat) (hk : k ≤ S.length) (b' o' : Nat) (hbo : k < S.length → b' = b ∧ o' = o + k * c) : RowsAt ty c f w (.slice (some ⟨b', o', none⟩) (n - k) (cap - k)) (S.drop k) := by
  obtain ⟨A', cap', hv, hcap, h0, h1⟩ := h
  obtain ⟨rfl, rfl, rfl⟩ : some ⟨b, o, none⟩ = A' ∧ n = S.length ∧ cap = cap' := by simpa using hv
  have hl : (S.drop k).length = S.length - k := by simp
  refine ⟨_, _, by rw [hl], by omega, fun _ => Or.inr ⟨_, _, rfl⟩, fun hp => ?_⟩
  rw [hl] at hp
  have hp1 : k < S.length := by omega
  have hp2 : 0 < S.length := by omega
  obtain ⟨rfl, rfl⟩ := hbo hp1
  obtain ⟨b2, o2, he, hlt, hcell⟩ := h1 hp2
  cases he
  refine ⟨_, _, rfl, hlt, fun i hi j u hu => ?_⟩
  have hki : k + i < S.length := by rw [hl] at hi; clear hcell hlt h1 h0; omega
  have := hcell (k + i) hki j u (by simpa using hu)
  rw [Nat.add_mul, ← Nat.add_assoc] at this
  exact this
/-- A slice that has the things S, in a block of any type. -/
def RowsIn {α : Type} (c : Nat) (f : α → List Value) (w : World) (v : Value) (S : List α) : Prop :=
  ∃ (A : Option Addr) (cap : Nat), v = .slice A S.length cap ∧ S.length ≤ cap ∧ (S = [] → A = none ∧ cap = 0 ∨ ∃ b o, A = some ⟨b, o, none⟩) ∧ (0 < S.length → ∃ b o, A = some ⟨b, o, none⟩ ∧ b < w.heap.size ∧ ∀ i (h : i < S.length) j u, (f S[i])[j]? = some u → w.cell? ⟨b, o + i * c + j, none⟩ = some u)
theorem RowsAt.inn {α : Type} {ty : TypeId} {c : Nat} {f : α → List Value} {w : World} {v : Value} {S : List α} (h : RowsAt ty c f w v S) : RowsIn c f w v S := by
  obtain ⟨A, cap, rfl, hc, h0, h1⟩ := h
  refine ⟨A, cap, rfl, hc, h0, fun hp => ?_⟩
  obtain ⟨b, o, rfl, ⟨cs, fl, hh⟩, hcell⟩ := h1 hp
  exact ⟨b, o, rfl, lt_of_heap hh, hcell⟩
theorem RowsIn.form {α : Type} {c : Nat} {f : α → List Value} {w : World} {v : Value} {S : List α} (h : RowsIn c f w v S) : ∃ A cap, v = .slice A S.length cap ∧ S.length ≤ cap ∧ ((S = [] ∧ A = none ∧ cap = 0) ∨ ∃ b o, A = some ⟨b, o, none⟩) := by
  obtain ⟨A, cap, rfl, hc, h0, h1⟩ := h
  refine ⟨A, cap, rfl, hc, ?_⟩
  by_cases hs : S = []
  · exact (h0 hs).imp (fun h => ⟨hs, h⟩) id
  · obtain ⟨b, o, rfl, _⟩ := h1 (List.length_pos_iff.2 hs)
    exact Or.inr ⟨b, o, rfl⟩
theorem RowsIn.below {α : Type} {c : Nat} {f : α → List Value} {w w' : World} {v : Value} {S : List α} (h : RowsIn c f w v S) (hb : Below w.heap.size w w') : RowsIn c f w' v S := by
  obtain ⟨A, cap, rfl, hc, h0, h1⟩ := h
  refine ⟨A, cap, rfl, hc, h0, fun hp => ?_⟩
  obtain ⟨b, o, rfl, hlt, hcell⟩ := h1 hp
  exact ⟨b, o, rfl, Nat.lt_of_lt_of_le hlt hb.size, fun i hi j u hu => (hb.cell hlt).trans (hcell i hi j u hu)⟩
theorem RowsIn.at {α : Type} {c : Nat} {f : α → List Value} {w : World} {A : Option Addr} {n cap : Nat} {S : List α} (h : RowsIn c f w (.slice A n cap) S) (k : Nat) (hk : k < S.length) :
    ∃ b o, A = some ⟨b, o, none⟩ ∧ ∀ j u, (f S[k])[j]? = some u → w.cell? ⟨b, o + k * c + j, none⟩ = some u := by
  obtain ⟨A', cap', hv, _, _, h1⟩ := h
  obtain ⟨rfl, _⟩ : A = A' ∧ _ := by simpa using hv
  obtain ⟨b, o, rfl, _, hcell⟩ := h1 (by omega)
  exact ⟨b, o, rfl, hcell k hk⟩
theorem run_append_nothing_rows {c : Nat} (sty ty : TypeId) (hu : Tryz.prog.underlying sty = some (.slice ty)) (hsz : ∀ w, (sizeOf ty).run Tryz.prog w = .ok c w) (w : World) (v : Value) (n k B : Nat) (xs : List Value) (h : w.ownsRow B ty c v n xs) (tt : TypeId) : (Builtin.append_ #[sty, sty] tt #[v, .slice none 0 k]).run Tryz.prog w = .ok v w := by
  rcases h.2 with ⟨rfl, rfl⟩ | ⟨g, cap, cur, rfl, hB, hh, hn, _⟩
  · simp [Builtin.append_, run_underlying hu, hsz, Builtin.lenOf, Builtin.firstCells, Result.andThen]
  · simp [Builtin.append_, run_underlying hu, hsz, Builtin.lenOf, Builtin.firstCells, Result.andThen, hn, storeCells]
/-- All of a slice behind a row of the call's own. -/
theorem append_rowsIn {α : Type} {f : α → List Value} {c : Nat} {w : World} {v s : Value} {S : List α} {B n : Nat} {xs : List Value} (sty ty : TypeId) (i0 : TypeInfo) (z : Value) (by_ : Nat)
    (hu : Tryz.prog.underlying sty = some (.slice ty)) (hsz : ∀ w, (sizeOf ty).run Tryz.prog w = .ok c w)
    (hi : Tryz.prog.info? ty = some i0) (hz0 : i0.zero = some z) (hz1 : i0.size = c) (hz2 : i0.bytes = by_) (hz : z.cells.size = c) (hc0 : 0 < c) (hby : by_ ≤ 1000)
    (hf : ∀ a, (f a).length = c) (h1 : ∀ a, ∀ u ∈ f a, u.oneCell' = true)
    (hv : RowsIn c f w v S) (hs : w.ownsRow B ty c s n xs) (hl : n + S.length ≤ 1000000) (hB : B ≤ w.heap.size) :
    ∃ v' w', (Builtin.append_ #[sty, sty] sty #[s, v]).run Tryz.prog w = .ok v' w' ∧ w'.ownsRow B ty c v' (n + S.length) (xs ++ rowsL f S) ∧ w.grownBy w' s.ownBlock ∧ (v'.ownBlock = s.ownBlock ∨ v'.ownBlock = some w.heap.size) := by
  obtain ⟨A, cap, rfl, -, -, hc⟩ := hv
  cases A with
  | none =>
    have h0 : S.length = 0 := by
      by_cases h : S.length = 0
      · exact h
      · obtain ⟨b, o, ha, _⟩ := hc (by omega)
        cases ha
    obtain rfl : S = [] := List.eq_nil_of_length_eq_zero h0
    exact ⟨s, w, run_append_nothing_rows sty ty hu hsz w s n cap B xs hs _, by simpa [rowsL] using hs, ⟨rfl, rfl, rfl, Nat.le_refl _, fun _ _ _ => rfl⟩, Or.inl rfl⟩
  | some a =>
    have hbytes : (n + S.length) * by_ ≤ 140737488355328 := Nat.le_trans (Nat.mul_le_mul hl hby) (by omega)
    obtain ⟨v', w', h1, h2, h3, _, h5⟩ := run_append_own_at (P := Tryz.prog) w B sty sty ty i0 z c by_ hu hi hz0 hz1 hz2 hz hc0 s n xs hs a S.length cap (rowsL f S) (rowsL_length hf S)
      (fun j u hu => by
        have hj : j < S.length * c := by
          have := (List.getElem?_eq_some_iff.1 hu).1
          rwa [rowsL_length hf] at this
        have hS : 0 < S.length := Nat.pos_of_ne_zero fun e => by rw [e, Nat.zero_mul] at hj; omega
        obtain ⟨b, o, hb, _, hcell⟩ := hc hS
        cases hb
        have hi' : j / c < S.length := (Nat.div_lt_iff_lt_mul hc0).2 hj
        have hr : j % c < c := Nat.mod_lt _ hc0
        have hjj : j / c * c + j % c = j := by rw [Nat.mul_comm]; exact Nat.div_add_mod j c
        have e := rowsL_at hf S (j / c) (j % c) hi' hr
        rw [hjj, hu] at e
        have := hcell (j / c) hi' (j % c) u e.symm
        rw [Addr.add_mid]
        rw [Nat.add_assoc, hjj] at this
        exact this) (rowsL_one h1 S) (by unfold maxLen; omega) hbytes hB
    exact ⟨v', w', h1, h2, h3, h5⟩
theorem append_rows {α : Type} {f : α → List Value} {c : Nat} {w : World} {v s : Value} {S : List α} {B n : Nat} {xs : List Value} (sty ty : TypeId) (i0 : TypeInfo) (z : Value) (by_ : Nat)
    (hu : Tryz.prog.underlying sty = some (.slice ty)) (hsz : ∀ w, (sizeOf ty).run Tryz.prog w = .ok c w)
    (hi : Tryz.prog.info? ty = some i0) (hz0 : i0.zero = some z) (hz1 : i0.size = c) (hz2 : i0.bytes = by_) (hz : z.cells.size = c) (hc0 : 0 < c) (hby : by_ ≤ 1000)
    (hf : ∀ a, (f a).length = c) (h1 : ∀ a, ∀ u ∈ f a, u.oneCell' = true)
    (hv : RowsAt ty c f w v S) (hs : w.ownsRow B ty c s n xs) (hl : n + S.length ≤ 1000000) (hB : B ≤ w.heap.size) :
    ∃ v' w', (Builtin.append_ #[sty, sty] sty #[s, v]).run Tryz.prog w = .ok v' w' ∧ w'.ownsRow B ty c v' (n + S.length) (xs ++ rowsL f S) ∧ w.grownBy w' s.ownBlock ∧ (v'.ownBlock = s.ownBlock ∨ v'.ownBlock = some w.heap.size) :=
  append_rowsIn sty ty i0 z by_ hu hsz hi hz0 hz1 hz2 hz hc0 hby hf h1 hv.inn hs hl hB
end Go.Proofs.YtjfefphgikncnaaGreatDoor
namespace Go.Proofs.YtjfefphgikncnaaGreatDoor.Pw

abbrev S := List UInt8
structure M where
  name : S
  power : Int
instance : Inhabited M := ⟨⟨[], 0⟩⟩
theorem M.ext' {a b : M} (h : a.name = b.name) (k : a.power = b.power) : a = b := by cases a; cases b; simp_all
instance : DecidableEq M := fun a b =>
  if h : a.name = b.name ∧ a.power = b.power then isTrue (M.ext' h.1 h.2) else isFalse (fun e => h (by subst e; exact ⟨rfl, rfl⟩))

def okM (p : S) (m : M) : Bool := decide (p < m.name) && decide (m.name.length ≤ 6) && decide (1 ≤ m.power) && decide (m.power ≤ 1000)
def okFrom : S → List M → Bool
  | _, [] => true
  | p, m :: t => okM p m && okFrom m.name t
def okL (L : List M) : Bool := decide (1 ≤ L.length) && decide (L.length ≤ 7) && okFrom [] L
theorem lt_nil (s : S) : ([] < s) ↔ s ≠ [] := by cases s <;> simp
/-- What a set that may be is. -/
theorem okFrom_mem {p : S} {L : List M} (h : okFrom p L = true) : ∀ m ∈ L, p < m.name ∧ m.name.length ≤ 6 ∧ 1 ≤ m.power ∧ m.power ≤ 1000 := by
  induction L generalizing p with
  | nil => simp
  | cons a L ih =>
    simp only [okFrom, okM, Bool.and_eq_true, decide_eq_true_eq] at h
    intro m hm
    rcases List.mem_cons.1 hm with rfl | hm
    · exact ⟨h.1.1.1.1, h.1.1.1.2, h.1.1.2, h.1.2⟩
    · have := ih h.2 m hm
      exact ⟨List.lt_trans h.1.1.1.1 this.1, this.2⟩
theorem okFrom_pair {p : S} {L : List M} (h : okFrom p L = true) : L.Pairwise (fun a b => a.name < b.name) := by
  induction L generalizing p with
  | nil => exact .nil
  | cons a L ih =>
    simp only [okFrom, Bool.and_eq_true] at h
    exact .cons (fun b hb => (okFrom_mem h.2 b hb).1) (ih h.2)
theorem okL_mem {L : List M} (h : okL L = true) : ∀ m ∈ L, m.name ≠ [] ∧ m.name.length ≤ 6 ∧ 1 ≤ m.power ∧ m.power ≤ 1000 := by
  simp only [okL, Bool.and_eq_true] at h
  intro m hm
  have := okFrom_mem h.2 m hm
  exact ⟨(lt_nil _).1 this.1, this.2⟩
theorem okL_pair {L : List M} (h : okL L = true) : L.Pairwise (fun a b => a.name < b.name) := by
  simp only [okL, Bool.and_eq_true] at h
  exact okFrom_pair h.2
theorem okL_len {L : List M} (h : okL L = true) : 1 ≤ L.length ∧ L.length ≤ 7 := by
  simp only [okL, Bool.and_eq_true, decide_eq_true_eq] at h
  exact h.1
def sumP (L : List M) : Int := L.foldr (fun m n => m.power + n) 0
theorem sumP_range {L : List M} (h : ∀ m ∈ L, 1 ≤ m.power ∧ m.power ≤ 1000) : (L.length : Int) ≤ sumP L ∧ sumP L ≤ 1000 * L.length := by
  induction L with
  | nil => simp [sumP]
  | cons m L ih =>
    have h1 := ih (fun x hx => h x (List.mem_cons_of_mem _ hx))
    have h2 := h m (List.mem_cons_self ..)
    simp only [sumP, List.foldr_cons, List.length_cons] at h1 ⊢
    omega
def tot (L : List M) : Nat := if okL L then (sumP L).toNat else 0
def quo (L : List M) : Nat := if tot L = 0 then 0 else 2 * tot L / 3 + 1
def mos (L : List M) : Nat := (tot L - 1) / 3
theorem tot_range (L : List M) : tot L ≤ 7000 ∧ (okL L = true → 1 ≤ tot L ∧ (tot L : Int) = sumP L) ∧ (okL L = false → tot L = 0) := by
  unfold tot
  cases h : okL L with
  | false => simp
  | true =>
    have h1 := sumP_range (L := L) (fun m hm => (okL_mem h m hm).2.2)
    have h2 := okL_len h
    simp
    omega

/-! ### those who are named -/
def pick (L : List M) (names : List S) : List M := L.filter fun m => decide (m.name ∈ names)
def ofL (L : List M) (names : List S) : Nat := if okL L then (sumP (pick L names)).toNat else 0
theorem sumP_filter_split (L : List M) (p : M → Bool) : sumP L = sumP (L.filter p) + sumP (L.filter fun m => !p m) := by
  induction L with
  | nil => rfl
  | cons m L ih =>
    simp only [List.filter_cons]
    cases p m <;> simp [sumP] at ih ⊢ <;> omega
theorem sumP_nonneg {L : List M} (h : ∀ m ∈ L, 0 ≤ m.power) : 0 ≤ sumP L := by
  induction L with
  | nil => simp [sumP]
  | cons m L ih =>
    have h1 := ih (fun x hx => h x (List.mem_cons_of_mem _ hx))
    have h2 := h m (List.mem_cons_self ..)
    simp only [sumP, List.foldr_cons] at h1 ⊢
    omega
theorem sumP_filter_le {L : List M} (p q : M → Bool) (h : ∀ m ∈ L, 0 ≤ m.power) (hpq : ∀ m ∈ L, p m = true → q m = true) : sumP (L.filter p) ≤ sumP (L.filter q) := by
  induction L with
  | nil => exact Int.le_refl _
  | cons m L ih =>
    have h1 := ih (fun x hx => h x (List.mem_cons_of_mem _ hx)) (fun x hx => hpq x (List.mem_cons_of_mem _ hx))
    have h2 := h m (List.mem_cons_self ..)
    have h3 := hpq m (List.mem_cons_self ..)
    simp only [List.filter_cons]
    cases hp : p m <;> cases hq : q m <;> simp [sumP, hp, hq] at h1 h3 ⊢ <;> omega
theorem pick_range {L : List M} (h : okL L = true) (names : List S) : 0 ≤ sumP (pick L names) ∧ sumP (pick L names) ≤ sumP L ∧ sumP L ≤ 7000 := by
  have hnn : ∀ m ∈ L, 0 ≤ m.power := fun m hm => by have := (okL_mem h m hm).2.2; omega
  have h1 := sumP_nonneg (L := pick L names) (fun m hm => hnn m (List.mem_filter.1 hm).1)
  have h2 := sumP_filter_split L (fun m => decide (m.name ∈ names))
  have h3 := sumP_nonneg (L := L.filter fun m => !decide (m.name ∈ names)) (fun m hm => hnn m (List.mem_filter.1 hm).1)
  have h4 := sumP_range (L := L) (fun m hm => (okL_mem h m hm).2.2)
  have h5 := (okL_len h).2
  refine ⟨h1, ?_, by omega⟩
  unfold pick
  omega
def keepI (b : List S) (out : List S) (s : S) : List S := if s ∈ b ∧ s ∉ out then out ++ [s] else out
def uniq (a b : List S) : List S := a.foldl (keepI b) []
theorem snocInd {α : Type} {p : List α → Prop} (h0 : p []) (h1 : ∀ l d, p l → p (l ++ [d])) (l : List α) : p l := by
  have h : ∀ r : List α, p r.reverse := by
    intro r
    induction r with
    | nil => exact h0
    | cons d r ih => rw [List.reverse_cons]; exact h1 _ _ ih
  have := h l.reverse
  rwa [List.reverse_reverse] at this
theorem uniq_snoc (a b : List S) (s : S) : uniq (a ++ [s]) b = keepI b (uniq a b) s := by simp [uniq]
theorem uniq_mem (a b : List S) (s : S) : s ∈ uniq a b ↔ s ∈ a ∧ s ∈ b := by
  induction a using snocInd with
  | h0 => simp [uniq]
  | h1 a d ih =>
    rw [uniq_snoc, keepI]
    split
    · simp only [List.mem_append, List.mem_singleton, ih]
      constructor
      · rintro (h | rfl)
        · exact ⟨Or.inl h.1, h.2⟩
        · rename_i h; exact ⟨Or.inr rfl, h.1⟩
      · rintro ⟨h | rfl, hb⟩
        · exact Or.inl ⟨h, hb⟩
        · exact Or.inr rfl
    · rename_i h
      simp only [List.mem_append, List.mem_singleton, ih]
      constructor
      · rintro h; exact ⟨Or.inl h.1, h.2⟩
      · rintro ⟨h' | rfl, hb⟩
        · exact ⟨h', hb⟩
        · by_cases hu : s ∈ uniq a b
          · exact ih.1 hu
          · exact absurd ⟨hb, hu⟩ h
def both (a b : List S) : List S := (uniq a b).mergeSort fun x y => decide (x ≤ y)
theorem both_perm (a b : List S) : (both a b).Perm (uniq a b) := List.mergeSort_perm _ _
theorem both_mem (a b : List S) (s : S) : s ∈ both a b ↔ s ∈ a ∧ s ∈ b := by rw [(both_perm a b).mem_iff, uniq_mem]
end Go.Proofs.YtjfefphgikncnaaGreatDoor.Pw
namespace Go.Proofs.YtjfefphgikncnaaGreatDoor
open Go.RowKit Go.ChangeShapes Go.WideShapes
open Go.Proofs.YtjfefphgikncnaaGreatDoor.Pw (M)

theorem Tryz.infoStr : (Tryz.prog.info? 9).map (fun i => (i.zero, i.size, i.bytes)) = some (some (.string ⟨#[]⟩), 1, 16) := by kernel_rfl

/-- A slice that has these members. -/
def Mems (w : World) (v : Value) (L : List M) : Prop :=
  ∃ (A : Option Addr) (cap : Nat), v = .slice A L.length cap ∧ (0 < L.length → ∃ b o, A = some ⟨b, o, none⟩ ∧ b < w.heap.size ∧ ∀ i (h : i < L.length),
    w.cell? ⟨b, o + i * 2, none⟩ = some (.string ⟨L[i].name.toArray⟩) ∧ w.cell? ⟨b, o + i * 2 + 1, none⟩ = some (.int .i64 L[i].power))
theorem Mems.nil (w : World) : Mems w (.slice none 0 0) [] := ⟨none, 0, rfl, fun h => absurd h (by simp)⟩
theorem Mems.below {w w' : World} {v : Value} {L : List M} (h : Mems w v L) (hb : Below w.heap.size w w') : Mems w' v L := by
  obtain ⟨A, cap, rfl, hc⟩ := h
  refine ⟨A, cap, rfl, fun h0 => ?_⟩
  obtain ⟨b, o, rfl, hlt, hcell⟩ := hc h0
  refine ⟨b, o, rfl, Nat.lt_of_lt_of_le hlt hb.size, fun i hi => ?_⟩
  obtain ⟨h1, h2⟩ := hcell i hi
  exact ⟨(hb.cell hlt).trans h1, (hb.cell hlt).trans h2⟩
theorem Mems.drew {w : World} {v : Value} {L : List M} (h : Mems w v L) : Mems w.drew v L := h.below (Below.refl _ w).drew
/-- One member's cells. -/
theorem Mems.at {w w' : World} {A : Option Addr} {n cap : Nat} {L : List M} (h : Mems w (.slice A n cap) L) (hb : Below w.heap.size w w') (k : Nat) (hk : k < L.length) :
    ∃ b o, A = some ⟨b, o, none⟩ ∧ w'.cell? ⟨b, o + k * 2, none⟩ = some (.string ⟨L[k].name.toArray⟩) ∧ w'.cell? ⟨b, o + k * 2 + 1, none⟩ = some (.int .i64 L[k].power) := by
  obtain ⟨A', cap', hv, hc⟩ := h.below hb
  obtain ⟨rfl, rfl, rfl⟩ : A = A' ∧ n = L.length ∧ cap = cap' := by simpa using hv
  obtain ⟨b, o, rfl, _, hcell⟩ := hc (by omega)
  exact ⟨b, o, rfl, hcell k hk⟩
theorem Mems.len {w : World} {A : Option Addr} {n cap : Nat} {L : List M} (h : Mems w (.slice A n cap) L) : n = L.length := by
  obtain ⟨A', cap', hv, _⟩ := h
  simp at hv
  exact hv.2.1
theorem Mems.form {w : World} {v : Value} {L : List M} (h : Mems w v L) : ∃ A cap, v = .slice A L.length cap := by
  obtain ⟨A, cap, rfl, _⟩ := h
  exact ⟨A, cap, rfl⟩
end Go.Proofs.YtjfefphgikncnaaGreatDoor
namespace Go.Proofs.YtjfefphgikncnaaGreatDoor
open Go.RowKit
open Go.Proofs.YtjfefphgikncnaaGreatDoor.Pw (M)

/-- 'append(s, x...)', by an equation of the run. -/
theorem run_append_nothing_s (w : World) (v : Value) (n c B : Nat) (xs : List Value) (h : w.ownsRow B 9 1 v n xs) (ty : TypeId) : (Builtin.append_ #[28, 28] ty #[v, .slice none 0 c]).run Tryz.prog w = .ok v w := by
  rcases h.2 with ⟨rfl, rfl⟩ | ⟨g, cap, cur, rfl, hB, hh, hn, _⟩
  · simp [Builtin.append_, run_underlying Tryz.underlying28, Tryz.sizeOf9, Builtin.lenOf, Builtin.firstCells, Result.andThen]
  · simp [Builtin.append_, run_underlying Tryz.underlying28, Tryz.sizeOf9, Builtin.lenOf, Builtin.firstCells, Result.andThen, hn, storeCells]
theorem grown_none (w : World) (r : Option Nat) : w.grownBy w r := ⟨rfl, rfl, rfl, Nat.le_refl _, fun _ _ _ => rfl⟩
/-- The same as a step of a region that draws its order. -/
theorem step_append_run {P : Program} {ops : Array Oper} {o : Oper} {a : Act} {w w' : World} {K : Act → World → Prop} {Q : Exit → Act → World → Prop} {E : Prop} (hg : o.guard = none) (s x : Operand) (t : TypeId) (hop : o.op = Op.call { callee := Callee.builtin Builtin.append, args := #[s, x], argTypes := #[t, t] })
    (sv xv r : Value) (hs : a.eval s = sv) (hx : a.eval x = xv) (hrun : (Builtin.append_ #[t, t] o.type #[sv, xv]).run P w = .ok r w') (hK : K (a.put o.dst r) w') : if Region.wanted o (yielded ops a.tmps) = true then Oper.wp P o a w K Q else E := by
  have hw : Region.wanted o (yielded ops a.tmps) = true := by simp [Region.wanted, hg]
  rw [if_pos hw]
  unfold Oper.wp
  simp [execOp, hop, resolve, invoke, builtin, hs, hx, hrun, Result.andThen]
  exact hK
theorem append_strs {w : World} {v s : Value} {L : List (List UInt8)} {B n : Nat} {xs : List Value} (hv : Strs w v L) (hs : w.ownsRow B 9 1 s n xs) (hl : n + L.length ≤ 1000000) (hB : B ≤ w.heap.size) :
    ∃ v' w', (Builtin.append_ #[28, 28] 28 #[s, v]).run Tryz.prog w = .ok v' w' ∧ w'.ownsRow B 9 1 v' (n + L.length) (xs ++ scells L) ∧ w.grownBy w' s.ownBlock ∧ (v'.ownBlock = s.ownBlock ∨ v'.ownBlock = some w.heap.size) := by
  obtain ⟨i0, hi, hz0, hz1, hz2⟩ := info_parts Tryz.infoStr
  obtain ⟨A, cap, rfl, hc⟩ := hv
  cases A with
  | none =>
    have h0 : L.length = 0 := by
      by_cases h : L.length = 0
      · exact h
      · obtain ⟨a, ha, _⟩ := hc 0 (by omega)
        cases ha
    obtain rfl : L = [] := List.eq_nil_of_length_eq_zero h0
    exact ⟨s, w, run_append_nothing_s w s n cap B xs hs _, by simpa [scells] using hs, grown_none _ _, Or.inl rfl⟩
  | some a =>
    obtain ⟨v', w', h1, h2, h3, _, h5⟩ := run_append_own_at (P := Tryz.prog) w B 28 28 9 i0 (.string ⟨#[]⟩) 1 16 Tryz.underlying28 hi hz0 hz1 hz2 rfl (by decide) s n xs hs a L.length cap (scells L) (by simp [scells])
      (fun j u hu => by
        have hj : j < L.length := by
          have := (List.getElem?_eq_some_iff.1 hu).1
          simpa [scells] using this
        obtain ⟨b, hb, hcell⟩ := hc j hj
        cases hb
        simp only [scells, List.getElem?_map, List.getElem?_eq_getElem hj] at hu
        simp at hu
        rw [← hu]
        exact hcell) (by simp [scells, Value.oneCell']) (by unfold maxLen; omega) (by omega) hB
    exact ⟨v', w', h1, h2, h3, h5⟩
end Go.Proofs.YtjfefphgikncnaaGreatDoor
namespace Go.Proofs.YtjfefphgikncnaaGreatDoor
open Go.RowKit
open Go.Proofs.YtjfefphgikncnaaGreatDoor.Sto (St)

/-- A new store. -/
def StNewPost (w : World) (S : St) (e : Ending) (w' : World) : Prop := ∃ g m, e = .returned (.pointer (some ⟨g, 0, none⟩)) ∧ w.heap.size ≤ g ∧ w.heap.size ≤ m ∧ StoreAt w' g m S ∧ Below w.heap.size w w'

set_option maxRecDepth 8000 in
set_option maxHeartbeats 400000 in
theorem stnew_any (w : World) : Calls Tryz.prog 40 #[] w (StNewPost w []) := by
  have hmm := @run_makeMap Tryz.prog
  go_enter Tryz.func40, Tryz.ntmps40
  go_wp2
  go_ret
  refine ⟨w.heap.size + 1, w.heap.size, rfl, by omega, by omega, ⟨heap_new_at _ _ _ (by simp), ?_, Sto.rising_nil, fun p hp => (by cases hp)⟩, ((Below.refl _ w).alloc (Nat.le_refl _) _).alloc (by simp) _⟩
  exact ((FnAt.made storeMap w w.heap.size rfl).congr (fun _ => rfl)).below ((Below.refl _ _).alloc (Nat.le_refl _) _)

theorem StoreAt.lookE {w : World} {g m : Nat} {S : St} (h : StoreAt w g m S) {x : List UInt8} (hx : x.length ≤ 140737488351232) :
    (Instr.lookup 114 (.map (some m)) (.string ⟨x.toArray⟩) true).run Tryz.prog w = .ok (.tuple #[.agg #[.string ⟨((Sto.look S x).getD []).toArray⟩], .bool (Sto.look S x).isSome]) w := by
  have h1 := h.map.look Tryz.underlying114 (s := x) hx true (zeroEntry w)
  rw [show (.string ⟨x.toArray⟩ : Value) = storeMap.enc x from rfl, h1]
  cases Sto.look S x <;> rfl

/-- A text of a row of the call's own, set as it was. -/
theorem Own.setSame {w : World} {B g n cap i : Nat} {L : List (List UInt8)} (h : Own w B (.slice (some ⟨g, 0, none⟩) n cap) L) (hi : i < L.length) :
    Own (w.setCell ⟨g, i, none⟩ (.string ⟨(L[i]).toArray⟩)) B (.slice (some ⟨g, 0, none⟩) n cap) L := by
  have hn : n = L.length := by
    obtain ⟨_, _, hv⟩ := own_form h
    simp at hv
    exact hv.2.1
  subst hn
  have := (World.ownsRow.stored h i (.string ⟨(L[i]).toArray⟩)).1
  unfold Own
  have e : (scells L).set i (.string ⟨(L[i]).toArray⟩) = scells L := by
    have : (.string ⟨(L[i]).toArray⟩ : Value) = (scells L)[i]'(by rw [scells_length]; exact hi) := by simp [scells]
    rw [this, List.set_getElem_self]
  rw [← e]
  exact this
set_option maxRecDepth 8000 in
set_option maxHeartbeats 1000000 in
theorem rising_of {α : Type} (f : List UInt8 → Option α) (z : Value) (w : World) (hs : Calls Tryz.prog 129 #[z] w (RisePost f w)) (L : List (List UInt8)) (hL : ∀ x, f x ≠ none → x ∈ L) (hl : L.length ≤ 1000000) (hsh : ∀ x ∈ L, x.length ≤ 140737488351232) :
    Calls Tryz.prog 99 #[z] w (RisePost f w) := by
  have HS := Lib.hid hs
  have HL := Lib.hid hL
  have HLl := Lib.hid hl
  have HSH := Lib.hid hsh
  clear hs hL hl hsh
  go_enter Tryz.func99, Tryz.ntmps99
  go_wp2_with fail
  refine HS.out.mono ?_
  rintro e w1 ⟨v, K, rfl, hown, hr, hm, hb⟩
  have HKM : Hid (∀ x ∈ K, x ∈ L) := Lib.hid (fun x hx => HL.out x ((hm x).1 hx))
  have hK : K.length ≤ 1000000 := by
    have := Sto.le_of_sub (hr.imp fun h => Sto.lt_ne h) HKM.out
    have := HLl.out
    omega
  have HR := Lib.hid hr
  have HM := Lib.hid hm
  have HOW := Lib.hid hown
  have HB1 := Lib.hid hb
  have HS1 := Lib.hid hb.size
  obtain ⟨A, cap, rfl⟩ := own_form hown
  clear hr hm hown hb
  go_wp2
  go_loopw [10] (fun i wr => ∃ k : Nat, k ≤ K.length ∧ i = .int .i64 k ∧ Own wr w.heap.size (.slice A K.length cap) K ∧ Below w.heap.size w wr) (fun i _ => K.length - (intOf i).toNat)
  case atStart => exact ⟨0, Nat.zero_le _, rfl, HOW.out, HB1.out⟩
  case round =>
    obtain ⟨k, hk, rfl, hown, hb⟩ := hrel
    have HO := Lib.hid hown
    have HB := Lib.hid hb
    by_cases hlt : k < K.length
    · have h1 : (k : Int) < (K.length : Int) := by omega
      have h0 : (0 : Int) ≤ (k : Int) := by omega
      have hf := World.ownsRow.form hown (by omega)
      obtain ⟨g, c, hv, hBg, hgl⟩ := hf
      obtain ⟨rfl, rfl⟩ : A = some ⟨g, 0, none⟩ ∧ cap = c := by simpa using hv
      obtain ⟨a, ha, hcell⟩ := hown.strs_at (Below.refl _ wr) k (by omega)
      obtain rfl : a = ⟨g, 0, none⟩ := by simpa using ha.symm
      rw [Addr.add_mid, Nat.zero_add] at hcell
      have HCK := Lib.hid (fun w => dclone_any K[k] w (HSH.out _ (HKM.out _ (List.getElem_mem hlt))))
      have HSS : Hid (∀ w', Own w' w.heap.size (.slice (some ⟨g, 0, none⟩) K.length cap) K → Own (w'.setCell ⟨g, k, none⟩ (.string ⟨(K[k]).toArray⟩)) w.heap.size (.slice (some ⟨g, 0, none⟩) K.length cap) K) := Lib.hid (fun w' h => h.setSame hlt)
      have HCE : Hid (∀ w', Own w' w.heap.size (.slice (some ⟨g, 0, none⟩) K.length cap) K → w'.cell? ⟨g, k, none⟩ = some (.string ⟨(K[k]).toArray⟩) ∧ w'.frozen? ⟨g, k, none⟩ = false) := Lib.hid (fun w' h => by
        obtain ⟨a, ha, hcell⟩ := h.strs_at (Below.refl _ w') k (by omega)
        obtain rfl : a = ⟨g, 0, none⟩ := by simpa using ha.symm
        rw [Addr.add_mid, Nat.zero_add] at hcell
        exact ⟨hcell, World.ownsRow.frozenAt h k⟩)
      obtain ⟨t, ht⟩ : ∃ t, K[k] = t := ⟨_, rfl⟩
      rw [ht] at hcell HCK HSS HCE
      have HBG := Lib.hid hBg
      clear hv ha hown hb ht hBg hgl
      go_wp2_with fail
      refine (HCK.out _).mono ?_
      rintro e w2 ⟨rfl, hb2⟩
      have ho2 := HO.out.below hb2
      obtain ⟨hc2, hf2⟩ := HCE.out _ ho2
      have HN := Lib.hid (HSS.out _ ho2)
      have HBN := Lib.hid ((HB.out.trans (hb2.mono HB.out.size)).setCell (p := ⟨g, k, none⟩) HBG.out (.string ⟨t.toArray⟩))
      clear ho2 hb2 hcell
      go_wp2
      exact ⟨⟨k + 1, by omega, by go_num, HN.out, HBN.out⟩, by simp [intOf]; omega⟩
    · have h1 : ¬ ((k : Int) < (K.length : Int)) := by omega
      clear hown hb
      go_wp2
      go_ret
      exact ⟨_, K, rfl, HO.out, HR.out, HM.out, HB.out⟩

theorem StoreAt.keys {w : World} {g m : Nat} {S : St} (_ : StoreAt w g m S) : ∀ x, Sto.look S x ≠ none → x ∈ Sto.keys S := fun x hx => (Sto.look_isSome S x).1 (by
  cases h : Sto.look S x with
  | none => exact absurd h hx
  | some t => rfl)
theorem StoreAt.keysShort {w : World} {g m : Nat} {S : St} (h : StoreAt w g m S) : ∀ x ∈ Sto.keys S, x.length ≤ 32 := fun x hx => by
  obtain ⟨p, hp, rfl⟩ := List.mem_map.1 hx
  exact (h.short p hp).1
/-- A row of texts of the call's own. -/
def RowPost (K : List (List UInt8)) (w : World) (e : Ending) (w' : World) : Prop := ∃ v, e = .returned v ∧ Own w' w.heap.size v K ∧ Below w.heap.size w w'

set_option maxRecDepth 8000 in
set_option maxHeartbeats 1000000 in
theorem stsums_any (g m : Nat) (S : St) (w : World) (h : StoreAt w g m S) (hl : S.length ≤ 1000000) :
    Calls Tryz.prog 70 #[.pointer (some ⟨g, 0, none⟩)] w (RowPost (Sto.keys S) w) := by
  have hc := h.cell
  have hB := (Below.refl w.heap.size w).alloc (Nat.le_refl _) (.cells #[.map (some m)] 114)
  have hkl : (Sto.keys S).length ≤ 1000000 := by unfold Sto.keys; simp; omega
  have HR := Lib.hid (rising_of _ _ _ (sortedE_any (h.map.below hB) (q := w.heap.size) (cell_of_row _ _ _ _ _ _ (heap_new_at w _ _ rfl)) _ h.keys hkl) _ h.keys hkl (fun x hx => by have := h.keysShort x hx; omega))
  have HB := Lib.hid hB
  have HKE : Hid (∀ K : List (List UInt8), K.Pairwise (· < ·) → (∀ x, x ∈ K ↔ Sto.look S x ≠ none) → K = Sto.keys S) := Lib.hid (fun K h1 h2 => Sto.rise_unique h1 (Sto.keys_rise h.rise) fun x => by
    rw [h2, ← Sto.look_isSome]; cases Sto.look S x <;> simp)
  have HK := Lib.hid (fun w => shelf_keysE (some m) w)
  clear h hl hB hkl
  go_enter Tryz.func70, Tryz.ntmps70
  go_wp2_with fail
  refine (HK.out _).mono ?_
  rintro e w1 ⟨rfl, rfl⟩
  go_wp2_with fail
  refine HR.out.mono ?_
  rintro e w2 ⟨v, K, rfl, hown, hr, hm, hb2⟩
  go_wp2
  go_ret
  obtain rfl := HKE.out K hr hm
  exact ⟨v, rfl, own_lowS hown (by simp), bchain HB.out hb2⟩

/-- slices.Clone of texts. -/
theorem row_zeroS (w : World) (n : Nat) (hn : n = w.heap.size) : (w.alloc (.cells #[] 9)).ownsRow n 9 1 (.slice (some ⟨n, 0, none⟩) 0 0) 0 [] := by
  subst hn
  exact ⟨rfl, Or.inr ⟨w.heap.size, 0, #[], rfl, Nat.le_refl _, heap_new_at _ _ _ rfl, Nat.le_refl _, Nat.zero_le _, rfl, rfl⟩⟩
set_option maxRecDepth 8000 in
set_option maxHeartbeats 1000000 in
theorem sclone_any (L : List (List UInt8)) (v : Value) (w : World) (hv : Strs w v L) (hl : L.length ≤ 1000000) :
    Calls Tryz.prog 101 #[v] w (RowPost L w) := by
  have hB := (Below.refl w.heap.size w).alloc (Nat.le_refl _) (.cells #[] 9)
  obtain ⟨v1, w1, hrun1, hown1, hgrow1, hat1⟩ := append_strs (hv.below hB) (row_zeroS w _ rfl) (by omega) (by simp)
  simp only [Nat.zero_add, List.nil_append] at hown1
  have HO : Hid (Own w1 w.heap.size v1 L) := Lib.hid hown1
  have HB1 : Hid (Below w.heap.size w w1) := Lib.hid (hB.trans ((Out.grown hgrow1 (F := fun j => j = w.heap.size) (fun k e => by simp [Value.ownBlock] at e; exact e.symm)).below (fun _ e => Nat.le_of_eq e.symm) (by simp)))
  have HR := Lib.hid hrun1
  have HLN := Lib.hid hl
  obtain ⟨A, cap, rfl, hc⟩ := hv
  cases A with
  | none =>
    have h0 : L = [] := by
      by_cases h : L.length = 0
      · exact List.eq_nil_of_length_eq_zero h
      · obtain ⟨a, ha, _⟩ := hc 0 (by omega)
        cases ha
    subst h0
    have hnil := fun w => Lib.run_eql_slice_nil (P := Tryz.prog) w 28 9 none ([] : List (List UInt8)).length cap 0 0 Tryz.underlying28
    simp only [Option.isNone_none, List.length_nil] at hnil
    simp only [List.length_nil]
    clear hrun1 hown1 hgrow1 hat1 hc hB
    go_enter Tryz.func101, Tryz.ntmps101
    go_wp2
    go_ret
    exact ⟨_, rfl, Own.nil _ _, Below.refl _ _⟩
  | some a =>
    have hnil := fun w => Lib.run_eql_slice_nil (P := Tryz.prog) w 28 9 (some a) L.length cap 0 0 Tryz.underlying28
    simp only [Option.isNone_some] at hnil
    clear hrun1 hown1 hgrow1 hat1 hc hB
    go_enter Tryz.func101, Tryz.ntmps101
    go_wp2_with (at_builtin; refine wpList_append_run rfl _ _ _ rfl (.slice (some ⟨w.heap.size, 0, none⟩) 0 0) (.slice (some a) L.length cap) _ (by rfl) (by rfl) HR.out ?_)
    go_ret
    exact ⟨_, rfl, HO.out, HB1.out⟩
end Go.Proofs.YtjfefphgikncnaaGreatDoor
namespace Go.Proofs.YtjfefphgikncnaaGreatDoor
open Go.RowKit
open Go.Proofs.YtjfefphgikncnaaGreatDoor.Sto (St)

/-- The sum of a text. -/
def Sto.sumOf (t : List UInt8) : List UInt8 := Dig.sum 1 t
theorem Sto.sumOf_len (t : List UInt8) : (Sto.sumOf t).length = 32 := by
  unfold Sto.sumOf Dig.sum
  rw [if_pos (by decide), Sha.sumP_length]
/-- The same in its place. -/
theorem wpList_mapUpdate_fn {P : Program} {k e : TypeId} {κ α : Type} [DecidableEq κ] {M : MapLaw P k κ α} {ops : Array Oper} {rest : List Oper} {o : Oper} {a : Act} {w : World} {Q : Exit → Act → World → Prop} (hg : o.guard = none) (t : TypeId) (m x v : Operand) (hop : o.op = Op.mapUpdate t m x v)
    (ht : P.underlying t = some (.map k e)) {b : Nat} {f : κ → Option α} (s : κ) (y : α) (hs : M.ok s) (hm : a.eval m = .map (some b)) (hx : a.eval x = M.enc s) (hv : a.eval v = M.val y) (h : FnAt M w b f)
    (hK : ∀ w', FnAt M w' b (updF f s (some y)) → Out (fun i => i = b) w w' → w'.heap.size = w.heap.size → wpList P ops Q rest (a.put o.dst undef) w') : wpList P ops Q (o :: rest) a w := by
  refine wpList_plain hg fun K' hK' => ?_
  obtain ⟨w', hrun, h1, h2, h3⟩ := h.put ht hs y
  unfold Oper.wp
  simp [execOp, hop, hm, hx, hv, hrun, Result.andThen]
  exact hK' _ _ (hK w' h1 h2 h3)

def StPutPost (g m : Nat) (S : St) (t : List UInt8) (w : World) (e : Ending) (w' : World) : Prop :=
  e = .returned (.string ⟨(Sto.sumOf t).toArray⟩) ∧ StoreAt w' g m (Sto.put S (Sto.sumOf t) t) ∧ Out (fun i => i = m) w w'
theorem StoreAt.putAt {w w2 w3 w4 : World} {g m : Nat} {S : St} {x t : List UInt8} (h : StoreAt w g m S) (hb : Below w.heap.size w w2) (hb3 : Below w2.heap.size w2 w3) (hn : Sto.look S x = none) (hf : FnAt storeMap w4 m (updF (Sto.look S) x (some t))) (ho : Out (fun i => i = m) w3 w4) (hx : x.length ≤ 32) (ht : t.length ≤ 1000) :
    StoreAt w4 g m (Sto.put S x t) ∧ Out (fun i => i = m) w w4 := by
  have hb4 : Below w.heap.size w w3 := bchain hb hb3
  have ho4 : Out (fun i => i = m) w w4 := (Out.of hb4).trans ho
  refine ⟨⟨ho4.heap h.head (h.ne h), hf.congr fun y => ?_, Sto.put_rising h.rise _ _, fun p hp => ?_⟩, ho4⟩
  · rw [Sto.look_put h.rise, hn]
    rfl
  · rcases Sto.put_mem hp with hp | rfl
    · exact h.short p hp
    · exact ⟨hx, ht⟩

set_option maxRecDepth 8000 in
set_option maxHeartbeats 2000000 in
theorem stput_any (g m : Nat) (S : St) (t : List UInt8) (w : World) (h : StoreAt w g m S) (hT : Tab w) (ht : t.length ≤ 1000) :
    Calls Tryz.prog 73 #[.pointer (some ⟨g, 0, none⟩), .string ⟨t.toArray⟩] w (StPutPost g m S t w) := by
  unfold StPutPost
  have HSU : Hid (∀ w, Tab w → Calls Tryz.prog 104 #[.int .i64 1, .string ⟨t.toArray⟩] w fun e w' => e = .returned (.tuple #[.string ⟨(Sto.sumOf t).toArray⟩, .int .i64 0]) ∧ Below w.heap.size w w') := Lib.hid (fun w hw => (dsum_any 1 t w hw (by omega)))
  have hxl := Sto.sumOf_len t
  obtain ⟨x, hx⟩ : ∃ x, Sto.sumOf t = x := ⟨_, rfl⟩
  rw [hx] at HSU hxl ⊢
  have HX := Lib.hid hxl
  have HTL := Lib.hid ht
  have HH := Lib.hid h
  have HT := Lib.hid hT
  clear hx h hT hxl ht
  go_enter Tryz.func73, Tryz.ntmps73
  go_wp2_with fail
  refine (HSU.out _ HT.out).mono ?_
  rintro e w1 ⟨rfl, hb1⟩
  have h1 := HH.out.below hb1
  have hc := h1.cell
  have hlook := h1.lookE (x := x) (by have := HX.out; omega)
  obtain ⟨o, ho⟩ : ∃ o, Sto.look S x = o := ⟨_, rfl⟩
  rw [ho] at hlook
  have HO := Lib.hid ho
  have HB1 := Lib.hid hb1
  cases o with
  | some u =>
    simp only [Option.getD_some, Option.isSome_some] at hlook
    clear h1 ho hb1
    go_wp2
    go_ret
    have hb2 := HB1.out.alloc HB1.out.size (.cells #[.string ⟨u.toArray⟩] 154)
    refine ⟨rfl, ?_, Out.of hb2⟩
    rw [Sto.put_same (by rw [HO.out]; rfl) t HH.out.rise]
    exact HH.out.below hb2
  | none =>
    simp only [Option.getD_none, Option.isSome_none] at hlook
    have hb2 := HB1.out.alloc HB1.out.size (.cells #[.string ⟨#[]⟩] 154)
    have h2 := HH.out.below hb2
    have hc2 := h2.cell
    have HB2 := Lib.hid hb2
    have HC1 := Lib.hid (fun w => dclone_any x w (by have := HX.out; omega))
    have HC2 := Lib.hid (fun w => dclone_any t w (by have := HTL.out; omega))
    go_upto_region 4 with fail
    obtain ⟨w2, hw2⟩ : ∃ w2, w1.alloc (.cells #[.string ⟨#[]⟩] 154) = w2 := ⟨_, rfl⟩
    rw [hw2] at h2 hc2 HB2 ⊢
    have HFN : Hid (∀ w', Below w2.heap.size w2 w' → FnAt storeMap w' m (Sto.look S)) := Lib.hid (fun w' hb => h2.map.below hb)
    have HCE : Hid (∀ w', Below w2.heap.size w2 w' → w'.cell? ⟨g, 0, none⟩ = some (.map (some m))) := Lib.hid (fun w' hb => (h2.below hb).cell)
    have HCO : Hid (∀ w' w'', Below w2.heap.size w2 w' → Out (fun i => i = m) w' w'' → w''.cell? ⟨g, 0, none⟩ = some (.map (some m))) := Lib.hid (fun w' w'' hb ho => ho.cell (h2.below hb).cell (h2.ne h2))
    have HK1 : Hid (∀ w', Below w2.heap.size w2 w' → Calls Tryz.prog 44 #[.string ⟨x.toArray⟩] w' fun e w'' => e = .returned (.string ⟨x.toArray⟩) ∧ Below w2.heap.size w2 w'') := Lib.hid (fun w' hb => (HC1.out w').mono fun e w'' q => ⟨q.1, hb.trans (q.2.mono hb.size)⟩)
    have HK2 : Hid (∀ w', Below w2.heap.size w2 w' → Calls Tryz.prog 44 #[.string ⟨t.toArray⟩] w' fun e w'' => e = .returned (.string ⟨t.toArray⟩) ∧ Below w2.heap.size w2 w'') := Lib.hid (fun w' hb => (HC2.out w').mono fun e w'' q => ⟨q.1, hb.trans (q.2.mono hb.size)⟩)
    have HPU : Hid (∀ w', Below w2.heap.size w2 w' → ∃ w4, (Instr.mapUpdate 114 (.map (some m)) (.string ⟨x.toArray⟩) (.agg #[.string ⟨t.toArray⟩])).run Tryz.prog w' = .ok () w4 ∧ (StoreAt w4 g m (Sto.put S x t) ∧ Out (fun i => i = m) w w4) ∧ w4.cell? ⟨g, 0, none⟩ = some (.map (some m))) := Lib.hid (fun w' hb => by
      obtain ⟨w4, hrun, hf, ho, _⟩ := (HFN.out w' hb).put Tryz.underlying114 (s := x) (by have := HX.out; show x.length ≤ _; omega) t
      exact ⟨w4, hrun, HH.out.putAt HB2.out hb HO.out hf ho (by have := HX.out; omega) HTL.out, HCO.out _ _ hb ho⟩)
    have BD : Below w2.heap.size w2 w2.drew := (Below.refl _ _).drew
    have cD := HCE.out _ BD
    clear h1 ho hb1 hb2 h2 hw2 hlook hc hc2
    go_region_held3 (fun w' => w'.cell? ⟨g, 0, none⟩ = some (.map (some m)))
      ((first | (refine HCE.out _ ?_; with_reducible assumption) | (with_reducible assumption)))
      (first | (go_at_call 44; refine (HK1.out _ ?_).mono ?_; (with_reducible assumption); rintro e wa ⟨rfl, ha⟩; obtain ⟨wa4, hra, hpa, hca⟩ := HPU.out _ ha) | (go_at_call 44; refine (HK2.out _ ?_).mono ?_; (with_reducible assumption); rintro e wb ⟨rfl, hb⟩; obtain ⟨wb4, hrb, hpb, hcb⟩ := HPU.out _ hb))
    all_goals
      go_wp2
      go_ret
      first | exact ⟨rfl, hpa⟩ | exact ⟨rfl, hpb⟩
end Go.Proofs.YtjfefphgikncnaaGreatDoor
namespace Go.Proofs.YtjfefphgikncnaaGreatDoor
open Go.RowKit
open Go.Proofs.YtjfefphgikncnaaGreatDoor.Sto (St)

def Sto.nodeOf (S : St) (x : List UInt8) : Nd.N × Int := match Sto.look S x with | some t => Nd.dec t | none => (Nd.zero, 90)
set_option maxRecDepth 100000 in
set_option maxHeartbeats 2000000 in
theorem stnode_any (g m : Nat) (S : St) (x : List UInt8) (w : World) (h : StoreAt w g m S) (hx : x.length ≤ 140737488351232) :
    Calls Tryz.prog 102 #[.pointer (some ⟨g, 0, none⟩), .string ⟨x.toArray⟩] w fun e w' => e = .returned (.tuple #[ndval (Sto.nodeOf S x).1, .int .i64 (Sto.nodeOf S x).2]) ∧ Below w.heap.size w w' := by
  have hb0 : Below w.heap.size w (w.alloc (.cells #[.int .i64 0, .string ⟨#[]⟩, .string ⟨#[]⟩, .string ⟨#[]⟩, .string ⟨#[]⟩, .string ⟨#[]⟩, .string ⟨#[]⟩, .string ⟨#[]⟩, .string ⟨#[]⟩, .string ⟨#[]⟩, .string ⟨#[]⟩, .string ⟨#[]⟩, .string ⟨#[]⟩, .string ⟨#[]⟩, .string ⟨#[]⟩, .string ⟨#[]⟩, .string ⟨#[]⟩, .string ⟨#[]⟩, .string ⟨#[]⟩] 136)) := (Below.refl _ w).alloc (Nat.le_refl _) _
  have h0 := h.below hb0
  have hc := h0.cell
  have hlook := h0.lookE hx
  have hz0 : (w.alloc (.cells #[.int .i64 0, .string ⟨#[]⟩, .string ⟨#[]⟩, .string ⟨#[]⟩, .string ⟨#[]⟩, .string ⟨#[]⟩, .string ⟨#[]⟩, .string ⟨#[]⟩, .string ⟨#[]⟩, .string ⟨#[]⟩, .string ⟨#[]⟩, .string ⟨#[]⟩, .string ⟨#[]⟩, .string ⟨#[]⟩, .string ⟨#[]⟩, .string ⟨#[]⟩, .string ⟨#[]⟩, .string ⟨#[]⟩, .string ⟨#[]⟩] 136)).heap[w.heap.size]? = some (.cells (ncl Nd.zero).toArray 136 (0, 0)) := heap_new_at w _ _ rfl
  have HSH : Hid (∀ t, Sto.look S x = some t → t.length ≤ 1000000) := Lib.hid (fun t ht => by have := (Sto.short_look h.rise h.short ht).2; omega)
  have HI19 : Hid ((Tryz.prog.info? 136).map (·.size) = some 19) := Lib.hid (by kernel_rfl)
  have HBZ : Hid (Tryz.prog.built 136 [] = some (ncl Nd.zero).toArray) := Lib.hid (by rfl)
  have HOZ := Lib.hid (ncl_one Nd.zero)
  have HSZ : Hid ((ncl Nd.zero).toArray.size = 19) := Lib.hid rfl
  unfold Sto.nodeOf
  obtain ⟨o, ho⟩ : ∃ o, Sto.look S x = o := ⟨_, rfl⟩
  rw [ho] at hlook HSH ⊢
  cases o with
  | none =>
    simp only [Option.getD_none, Option.isSome_none] at hlook
    unfold ndval
    have hB1 := Lib.hid (hb0.alloc (hb0.size) (.cells #[.string ⟨#[]⟩] 154))
    have hZ1 := Lib.hid (heap_old_at (.cells #[.string ⟨#[]⟩] 154) hz0)
    obtain ⟨Z, hZ⟩ : ∃ Z, (ncl Nd.zero).toArray = Z := ⟨_, rfl⟩
    rw [hZ] at HBZ HOZ HSZ hZ1 ⊢
    have HIZ : Hid ((Tryz.prog.info? 136).map (·.size) = some Z.size) := Lib.hid (by rw [HSZ.out]; exact HI19.out)
    clear hZ h h0 hx hb0 hz0 ho
    go_enter Tryz.func102, Tryz.ntmps102
    go_wp2_with (first | (refine wpList_build_some (by rfl) _ _ (by rfl) [] (by first | rfl | (simp [Act.eval]; done) | kernel_rfl) Z HBZ.out ?_) | (refine wpList_store_row (by rfl) _ _ _ (by rfl) w.heap.size Z (by rfl) (by rfl) _ _ hZ1.out HIZ.out rfl HOZ.out ?_))
    refine bodyPost_ret (nresults_c1t rfl _ _ w.heap.size _ _ _ _ rfl (setRow_heap _ _ _ _ _ _ hZ1.out) Tryz.underlying136 rfl HIZ.out) rfl ⟨rfl, below_setRow hB1.out (Nat.le_refl _) _⟩
  | some t =>
    simp only [Option.getD_some, Option.isSome_some] at hlook
    have HD := Lib.hid (fun w => ndecode_any t w (HSH.out t rfl))
    unfold NDecPost at HD
    have hk16 : (Nd.dec t).1.kids.length = 16 := by
      rcases Nd.dec_is t with ⟨_, _, h, _⟩ | ⟨_, h, _⟩
      · exact h
      · rw [h]; rfl
    dsimp only
    obtain ⟨⟨n, c⟩, hD⟩ : ∃ D, Nd.dec t = D := ⟨_, rfl⟩
    rw [hD] at HD hk16 ⊢
    dsimp only at HD hk16 ⊢
    have HON := Lib.hid (ncl_one n)
    have HSN : Hid ((ncl n).toArray.size = 19) := Lib.hid (by rw [List.size_toArray, ncl_length n hk16])
    unfold ndval at HD ⊢
    obtain ⟨A, hA⟩ : ∃ A, (ncl n).toArray = A := ⟨_, rfl⟩
    rw [hA] at HD HON HSN ⊢
    have HI : Hid ((Tryz.prog.info? 136).map (·.size) = some A.size) := Lib.hid (by rw [HSN.out]; exact HI19.out)
    have HB1 := Lib.hid (hb0.alloc (hb0.size) (.cells #[.string ⟨t.toArray⟩] 154))
    have HZ1 := Lib.hid (heap_old_at (.cells #[.string ⟨t.toArray⟩] 154) hz0)
    clear hA hD hk16 h h0 hx hb0 hz0 ho HSH
    go_enter Tryz.func102, Tryz.ntmps102
    go_wp2_with fail
    refine (HD.out _).mono ?_
    rintro e w1 ⟨rfl, hb1⟩
    have HZ2 := Lib.hid ((hb1.block _ (lt_of_heap HZ1.out)).trans HZ1.out)
    have HB2 := Lib.hid (HB1.out.trans (hb1.mono HB1.out.size))
    have HSE : Hid ((ncl Nd.zero).toArray.size = A.size) := Lib.hid (by rw [HSZ.out, HSN.out])
    clear hb1 HZ1
    obtain ⟨Z, hZ⟩ : ∃ Z, (ncl Nd.zero).toArray = Z := ⟨_, rfl⟩
    rw [hZ] at HZ2 HSE
    clear hZ HBZ HOZ HSZ
    go_wp2_with (refine wpList_store_row (by rfl) _ _ _ (by rfl) w.heap.size A (by rfl) (by rfl) _ _ HZ2.out HI.out HSE.out HON.out ?_)
    refine bodyPost_ret (nresults_c1t rfl _ _ w.heap.size _ _ _ _ rfl (setRow_heap _ _ _ _ _ _ HZ2.out) Tryz.underlying136 rfl HI.out) rfl ⟨rfl, below_setRow HB2.out (Nat.le_refl _) _⟩
end Go.Proofs.YtjfefphgikncnaaGreatDoor
