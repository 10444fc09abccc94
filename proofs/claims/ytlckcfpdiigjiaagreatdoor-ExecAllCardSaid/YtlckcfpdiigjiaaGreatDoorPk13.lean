/- TriParts, TriSplit, TriNarrow, TriNode, TriSeal -/
import Derived.Test.YtlckcfpdiigjiaaGreatDoorPk12
import Derived.Test.YtlckcfpdiigjiaaGreatDoorPk01
import Derived.Deep.RegionHeld3
namespace Go.Proofs.YtlckcfpdiigjiaaGreatDoor
open Go.RowKit
open Sto (T)
open Tri (Tr Ok upd ix hb lay splitT)

def noK : Ks := fun _ => nilp
theorem RowP.new {w : World} {k : Nat} {p x s : T} {K : Ks} {C : Array Value} (h : C = (pcl k p x K s).toArray) : RowP (w.alloc (.cells C 87)) w.heap.size k p x K s := by
  subst h; exact heap_new_at w _ _ rfl
/-- A new part, as it may stand in a tree. -/
theorem PAt.new {w' : World} {F : Fm} {g : Nat} {t : Tr} {K : Ks} (hn : ¬ t.isNil) (hB : F false g) (hr : RowP w' g t.kind t.pth t.vl K []) (hk : ∀ i, PAt w' F false (t.kid i) (K i)) : PAt w' F false t (ptr g) :=
  (PAt.iff hn).2 ⟨g, false, K, rfl, (fun h => by cases h), hB, hr, hk⟩
/-- Any new block may be of a tree. -/
def Fm.fresh (F : Fm) (w : World) : Prop := ∀ g, w.heap.size ≤ g → F false g
theorem Fm.fresh.size {F : Fm} {w w' : World} (h : F.fresh w) (hs : w.heap.size ≤ w'.heap.size) : F.fresh w' := fun g hg => h g (Nat.le_trans hs hg)
theorem Fm.fresh.off {F : Fm} {w : World} (h : F.fresh w) {q : Nat} (hq : q < w.heap.size) : (F.off q).fresh w := fun g hg => ⟨h g hg, by omega⟩
/-- What a call answers: a tree, its new parts without sums. -/
def MadeT (w : World) (F : Fm) (t : Tr) (e : Ending) (w' : World) : Prop := ∃ v, e = .returned v ∧ PAt w' F false t v ∧ Below w.heap.size w w'

set_option maxRecDepth 100000 in
theorem leaf_any (p x : T) (w : World) (F : Fm) (hB : F.fresh w) :
    Calls Tryz.prog 95 #[.string ⟨p.toArray⟩, .string ⟨x.toArray⟩] w (MadeT w F (.leaf p x)) := by
  unfold MadeT
  go_enter Tryz.func95, Tryz.ntmps95
  go_wp2
  go_ret
  refine ⟨_, rfl, PAt.new (K := noK) id (hB _ (Nat.le_refl _)) (RowP.new rfl) (fun i => rfl), (Below.refl _ w).alloc (Nat.le_refl _) _⟩

set_option maxRecDepth 100000 in
theorem half_any (i : Fin 16) (w : World) :
    Calls Tryz.prog 83 #[.int .i64 i.val] w fun e w' => e = .returned (.string ⟨[hb i].toArray⟩) ∧ Below w.heap.size w w' := by
  have hi := i.isLt
  have e1 : (i.val : Int) % 256 = (i.val : Int) := by omega
  have hc := conv_one' w (hb i) (i.val : Int) (by rw [Tri.hb_toNat]) w.heap.size rfl
  have h0 : (0 : Int) ≤ (i.val : Int) := by omega
  have h1 : (i.val : Int) ≤ 255 := by omega
  go_enter Tryz.func83, Tryz.ntmps83
  go_wp2
  go_ret
  exact ⟨rfl, (Below.refl _ w).alloc (Nat.le_refl _) _⟩
/-- The place of a kid. -/
def placeT (k : Nat) (e : T) (i : Fin 16) : T := if k = 3 then e ++ [hb i] else e
set_option maxRecDepth 100000 in
theorem place_any (k : Nat) (e : T) (i : Fin 16) (w : World) (he : e.length ≤ 1000) (hk : k ≤ 3) :
    Calls Tryz.prog 64 #[.int .i64 k, .string ⟨e.toArray⟩, .int .i64 i.val] w fun r w' => r = .returned (.string ⟨(placeT k e i).toArray⟩) ∧ Below w.heap.size w w' := by
  unfold placeT
  by_cases h : k = 3
  · subst h
    rw [if_pos rfl]
    have HH := Lib.hid (fun w => half_any i w)
    have hcm := cat_mk e [hb i]
    go_enter Tryz.func64, Tryz.ntmps64
    go_wp2_with fail
    refine (HH.out _).mono ?_
    rintro r w1 ⟨rfl, hb1⟩
    go_wp2
    go_ret
    exact ⟨rfl, hb1⟩
  · rw [if_neg h]
    have h1 : ¬ ((k : Int) = 3) := by omega
    have h2 : ((k : Int) == 3) = false := by rw [beq_eq_false_iff_ne]; exact h1
    go_enter Tryz.func64, Tryz.ntmps64
    go_wp2
    go_ret
    exact ⟨rfl, Below.refl _ _⟩
theorem pcl_load (k : Nat) (p x s : T) (K : Ks) : (Tryz.prog.info? 87).map (·.size) = some (pcl k p x K s).toArray.size := by
  rw [List.size_toArray, pcl_length]; kernel_rfl
theorem pcl_one (k : Nat) (p x s : T) (K : Ks) (hK : ∀ i, (K i).oneCell' = true) : (pcl k p x K s).toArray.all (·.oneCell') = true := by
  rw [← Array.all_toList, List.all_eq_true]
  intro v hv
  simp only [pcl, List.mem_cons, List.mem_append, List.mem_ofFn, List.not_mem_nil, or_false] at hv
  rcases hv with rfl | rfl | rfl | ⟨i, rfl⟩ | rfl
  · rfl
  · rfl
  · rfl
  · exact hK i
  · rfl
set_option maxRecDepth 100000 in
set_option maxHeartbeats 1000000 in
theorem open_any {g k : Nat} {p x s : T} {K : Ks} (w : World) (h : RowP w g k p x K s) (hK : ∀ i, (K i).oneCell' = true) :
    Calls Tryz.prog 96 #[ptr g] w fun r w' => r = .returned (ptr w.heap.size) ∧ RowP w' w.heap.size k p x K [] ∧ Below w.heap.size w w' := by
  have hi := pcl_load k p x s K
  have ho := pcl_one k p x s K hK
  have hset := pcl_set k p x K s []
  have hl : (pcl k p x K s).toArray.size = 20 := by rw [List.size_toArray, pcl_length]
  have hc : (pcl k p x K s).toArray[19]? = some (.string ⟨s.toArray⟩) := by
    have h1 : RowP w g k p x K s := h
    have h2 := h1.sum
    rw [cell_of_row w g 19 _ _ _ h] at h2
    exact h2
  unfold RowP at h ⊢
  unfold ptr
  generalize (pcl k p x K []).toArray = D at hset ⊢
  generalize (pcl k p x K s).toArray = C at h hi ho hset hl hc
  have hat : (w.alloc (.cells C 87)).heap[w.heap.size]? = some (.cells C 87 (0, 0)) := heap_alloc_new w _
  have hcell : (w.alloc (.cells C 87)).cell? ⟨w.heap.size, 19, none⟩ = some (.string ⟨s.toArray⟩) := by rw [cell_of_row _ _ 19 _ _ _ hat]; exact hc
  have hfr : (w.alloc (.cells C 87)).frozen? ⟨w.heap.size, 19, none⟩ = false := frozen_of_row _ _ _ _ _ hat
  have HR := Lib.hid h
  have HI := Lib.hid hi
  have HO := Lib.hid ho
  have HL := Lib.hid hl
  have HS := Lib.hid hset
  clear h hi ho hset hl hc hat
  go_enter Tryz.func96, Tryz.ntmps96
  go_wp2_with (first | (refine wpList_load_row (by rfl) _ _ (by rfl) g (by rfl) _ C _ _ HR.out Tryz.underlying87 (by rfl) HI.out ?_) | (refine wpList_store_fresh (by rfl) _ _ _ (by rfl) w.heap.size rfl C (by rfl) (by rfl) _ _ HI.out HL.out.symm HO.out ?_))
  go_ret
  exact ⟨rfl, by rw [HS.out]; exact heap_alloc_new w _, (Below.refl _ w).alloc (Nat.le_refl _) _⟩
theorem PAt.cellK {w : World} {F : Fm} {s : Bool} {t : Tr} {v : Value} (h : PAt w F s t v) : v = nilp ∨ ∃ g, v = ptr g := by
  by_cases hn : t.isNil
  · rw [Tri.isNil_eq hn] at h; exact Or.inl h
  · obtain ⟨g, _, _, e, _⟩ := h.row hn; exact Or.inr ⟨g, e⟩
theorem PAt.oneCell {w : World} {F : Fm} {s : Bool} {t : Tr} {v : Value} (h : PAt w F s t v) : v.oneCell' = true := by
  rcases h.cellK with rfl | ⟨g, rfl⟩ <;> rfl
def oneK (a : Value) : Ks := fun i => if i = 0 then a else nilp
theorem pcl_path (k : Nat) (p p' x : T) (K : Ks) (s : T) : (pcl k p x K s).toArray.setIfInBounds 1 (.string ⟨p'.toArray⟩) = (pcl k p' x K s).toArray := by
  rw [List.setIfInBounds_toArray]; rfl
theorem RowP.setPath {w : World} {g k : Nat} {p x s : T} {K : Ks} (h : RowP w g k p x K s) (p' : T) : RowP (w.setCell ⟨g, 1, none⟩ (.string ⟨p'.toArray⟩)) g k p' x K s := by
  have := heap_setCell_same _ _ 1 _ _ (.string ⟨p'.toArray⟩) h
  rw [pcl_path] at this
  exact this
theorem RowP.free {w : World} {g k : Nat} {p x s : T} {K : Ks} (h : RowP w g k p x K s) (i : Nat) : w.frozen? ⟨g, i, none⟩ = false := frozen_of_row _ _ _ _ _ h
theorem lay_parts (p : T) {t : Tr} (hn : ¬ t.isNil) (h3 : t.kind ≠ 3) : (lay p t).kind = t.kind ∧ (lay p t).pth = p ++ t.pth ∧ (lay p t).vl = t.vl ∧ ∀ i, (lay p t).kid i = t.kid i := by
  cases t with
  | nil => exact absurd trivial hn
  | leaf q x => exact ⟨rfl, rfl, rfl, fun _ => rfl⟩
  | ext q u => exact ⟨rfl, rfl, rfl, fun _ => rfl⟩
  | br x k => exact absurd rfl h3
set_option maxRecDepth 100000 in
set_option maxHeartbeats 1000000 in
/-- A path laid above a tree. -/
theorem behind_any {t : Tr} {v : Value} (p : T) (w : World) (F : Fm) (hB : F.fresh w) (h : PAt w F false t v) (hp : p = [] ∨ ¬ t.isNil) (hpl : p.length ≤ 1000) (hql : t.pth.length ≤ 1000) :
    Calls Tryz.prog 99 #[v, .string ⟨p.toArray⟩] w (MadeT w F (lay p t)) := by
  unfold MadeT
  by_cases hp0 : p = []
  · subst hp0
    rw [Tri.lay_nil]
    have HP := Lib.hid h
    clear h hp
    go_enter Tryz.func99, Tryz.ntmps99
    go_wp2
    go_ret
    exact ⟨v, rfl, HP.out, Below.refl _ _⟩
  · have hn := hp.resolve_left hp0
    obtain ⟨g, s', K, rfl, -, h2, hr, hk⟩ := h.row hn
    have hpe : (p == []) = false := by rw [beq_eq_false_iff_ne]; exact hp0
    have HP := Lib.hid h
    have n0 := hr.kind
    by_cases h3 : t.kind = 3
    · have e3 : ((t.kind : Int) == 3) = true := by rw [h3]; rfl
      rw [h3] at n0
      have HL : Hid (lay p t = .ext p t) := Lib.hid (by
        cases t with
        | br x k => simp [lay, Tri.above, hp0]
        | _ => cases h3)
      unfold ptr
      clear h hp hr hk
      go_enter Tryz.func99, Tryz.ntmps99
      go_wp2
      go_ret
      rw [HL.out]
      refine ⟨_, rfl, ?_, (Below.refl _ w).alloc (Nat.le_refl _) _⟩
      refine PAt.new (K := oneK (ptr g)) id (hB _ (Nat.le_refl _)) (RowP.new rfl) fun i => ?_
      simp only [Tri.Tr.kid, oneK]
      split
      · exact HP.out.below ((Below.refl _ w).alloc (Nat.le_refl _) _)
      · rfl
    · have e3 : ((t.kind : Int) == 3) = false := by rw [beq_eq_false_iff_ne]; omega
      have HO := Lib.hid (open_any w hr (fun i => (hk i).oneCell))
      have n1 := hr.path
      have HL := Lib.hid (lay_parts p hn h3)
      have HKK := Lib.hid hk
      have HN := Lib.hid (Tri.lay_nn (p := p) hn)
      have HR := Lib.hid hr
      unfold ptr at HO ⊢
      obtain ⟨q, hq⟩ : ∃ q, t.pth = q := ⟨_, rfl⟩
      rw [hq] at n1 hql
      have HQ := Lib.hid hq
      have hcm := cat_mk p q
      obtain ⟨kd, hkd⟩ : ∃ kd, t.kind = kd := ⟨_, rfl⟩
      rw [hkd] at n0 e3
      have HKD := Lib.hid hkd
      clear h hp hr hk hq h2 hkd h3
      go_enter Tryz.func99, Tryz.ntmps99
      go_wp2_with fail
      refine HO.out.mono ?_
      rintro r w1 ⟨rfl, hr1, hb1⟩
      have m1 := hr1.path
      have m2 := hr1.free 1
      have m3 := HR.out.below hb1
      have m4 := m3.path
      rw [HQ.out] at m1 m4
      go_wp2
      go_ret
      obtain ⟨l1, l2, l3, l4⟩ := HL.out
      have hb2 := hb1.setCell (p := ⟨w.heap.size, 1, none⟩) (Nat.le_refl _) (.string ⟨(p ++ q).toArray⟩)
      refine ⟨_, rfl, PAt.new (K := K) HN.out (hB _ (Nat.le_refl _)) ?_ (fun i => ?_), hb2⟩
      · rw [l1, l2, l3, HQ.out]
        exact hr1.setPath _
      · rw [l4]
        exact ((HKK.out i).weak).below hb2
end Go.Proofs.YtlckcfpdiigjiaaGreatDoor
namespace Go.Proofs.YtlckcfpdiigjiaaGreatDoor
open Go.RowKit
open Sto (T)
open Tri (Tr Ok upd ix hb lay splitT)

theorem pcl_val (k : Nat) (p x x' : T) (K : Ks) (s : T) : (pcl k p x K s).toArray.setIfInBounds 2 (.string ⟨x'.toArray⟩) = (pcl k p x' K s).toArray := by
  rw [List.setIfInBounds_toArray]; rfl
theorem RowP.setVal {w : World} {g k : Nat} {p x s : T} {K : Ks} (h : RowP w g k p x K s) (x' : T) : RowP (w.setCell ⟨g, 2, none⟩ (.string ⟨x'.toArray⟩)) g k p x' K s := by
  have := heap_setCell_same _ _ 2 _ _ (.string ⟨x'.toArray⟩) h
  rw [pcl_val] at this
  exact this
/-- One of sixteen set. -/
def updK (K : Ks) (i : Fin 16) (v : Value) : Ks := fun j => if j = i then v else K j
theorem ofFn_set (K : Ks) (i : Fin 16) (v : Value) : (List.ofFn K).set i.val v = List.ofFn (updK K i v) := by
  refine List.ext_getElem (by simp) fun n h1 h2 => ?_
  rw [List.getElem_set, List.getElem_ofFn, List.getElem_ofFn]
  unfold updK
  by_cases e : i.val = n
  · rw [if_pos e, if_pos (Fin.ext e.symm)]
  · rw [if_neg e, if_neg (fun h => e (by rw [← h]))]
theorem pcl_kid (k : Nat) (p x : T) (K : Ks) (s : T) (i : Fin 16) (v : Value) : (pcl k p x K s).toArray.setIfInBounds (3 + i.val) v = (pcl k p x (updK K i v) s).toArray := by
  have hi := i.isLt
  rw [List.setIfInBounds_toArray]
  congr 1
  unfold pcl
  rw [Nat.add_comm 3 i.val]
  simp only [List.set_cons_succ]
  rw [List.set_append_left _ _ (by simp), ofFn_set]
theorem RowP.setKid {w : World} {g k : Nat} {p x s : T} {K : Ks} (h : RowP w g k p x K s) (i : Fin 16) (v : Value) : RowP (w.setCell ⟨g, 3 + i.val, none⟩ v) g k p x (updK K i v) s := by
  have := heap_setCell_same _ _ (3 + i.val) _ _ v h
  rw [pcl_kid] at this
  exact this
theorem ix_val {a : UInt8} (h : a.toNat ≤ 15) : (ix a).val = a.toNat := by simp only [ix]; omega
theorem byte_drop {p r : T} {n : Nat} {a : UInt8} (h : p.drop n = a :: r) : ∀ hh, (⟨p.toArray⟩ : ByteArray)[n]'hh = a := by
  intro hh
  have hl : n < p.length := by
    have := congrArg List.length h
    simp at this; omega
  show p.toArray[n]'_ = a
  rw [List.getElem_toArray]
  have := List.drop_eq_getElem_cons hl
  rw [h] at this
  exact (List.cons.inj this).1.symm
theorem tail_drop {p r : T} {n : Nat} {a : UInt8} (h : p.drop n = a :: r) : (⟨p.toArray⟩ : ByteArray).extract (n + 1) p.length = ⟨r.toArray⟩ := by
  rw [ext_drop]
  have : p.drop (n + 1) = r := by
    rw [← List.drop_drop, h]; rfl
  rw [this]

set_option maxRecDepth 100000 in
set_option maxHeartbeats 2000000 in
theorem split_any {t : Tr} {g : Nat} (n : Nat) (w : World) (F : Fm) (hB : F.fresh w) (h : PAt w F false t (ptr g)) (hk : t.kind = 1 ∨ t.kind = 2) (hf : t.firm) (hfit : t.fits) (hpl : t.pth.length ≤ 1000) (hn : n ≤ t.pth.length) (hne : t.kind = 2 → n < t.pth.length) :
    Calls Tryz.prog 98 #[ptr g, .int .i64 n] w (MadeT w F (splitT n t)) := by
  unfold MadeT
  have hnn : ¬ t.isNil := fun e => by rw [← Tri.kind_nil] at e; omega
  obtain ⟨g', s', K, e, -, -, hr, hkk⟩ := h.row hnn
  obtain rfl := ptr_inj e
  have hb0 : Below w.heap.size w (w.alloc (.cells (pcl 3 [] [] noK []).toArray 87)) := (Below.refl _ w).alloc (Nat.le_refl _) _
  have r1 : RowP (w.alloc (.cells (pcl 3 [] [] noK []).toArray 87)) w.heap.size 3 [] [] noK [] := RowP.new rfl
  have hr1 := hr.below hb0
  have n0 := hr1.kind
  have n1 := hr1.path
  have n2 := hr1.val
  have m2 := r1.val
  have f2 := r1.free 2
  have HP := Lib.hid h
  have HKK := Lib.hid hkk
  have HR := Lib.hid hr
  have HR1 := Lib.hid r1
  have HB0 := Lib.hid hb0
  obtain ⟨C, hC⟩ : ∃ C, (pcl 3 [] [] noK []).toArray = C := ⟨_, rfl⟩
  have HBL : Hid (Tryz.prog.built 87 [(0, .int .i64 3)] = some C) := Lib.hid (by rw [← hC]; kernel_rfl)
  rw [hC] at n0 n1 n2 m2 f2 HB0 HR1
  obtain ⟨p, hp⟩ : ∃ p, t.pth = p := ⟨_, rfl⟩
  obtain ⟨x, hx⟩ : ∃ x, t.vl = x := ⟨_, rfl⟩
  rw [hp] at n1 hpl hn hne
  rw [hx] at n2
  have HPP := Lib.hid hp
  have HX := Lib.hid hx
  by_cases hlt : n < p.length
  · obtain ⟨a, r, hd⟩ : ∃ a r, p.drop n = a :: r := ⟨_, _, List.drop_eq_getElem_cons hlt⟩
    have hfp : Nib.fitL p = true := by
      rcases hk with h1 | h1
      · cases t with
        | leaf q y => obtain rfl : q = p := hp; exact hfit
        | _ => cases h1
      · cases t with
        | ext q y => obtain rfl : q = p := hp; exact hfit.1
        | _ => cases h1
    have ha := (Tri.fit_cons.1 (hd ▸ Tri.fit_drop n hfp)).1
    have hbyte := byte_drop hd
    have htail := tail_drop hd
    have e2 : ((n : Int) == (p.length : Int)) = false := by rw [beq_eq_false_iff_ne]; omega
    have z1 : (0 : Int) ≤ (n : Int) := by omega
    have z2 : (n : Int) < (p.length : Int) := by omega
    have z3 : (0 : Int) ≤ (n : Int) + 1 := by omega
    have z4 : (n : Int) + 1 ≤ (p.length : Int) := by omega
    have z5 : ((n : Int) + 1).toNat = n + 1 := by omega
    have z8 : IntKind.i64.wrap ((n : Int) + 1) = (n : Int) + 1 := IntWalk.i64_in _ (by omega)
    have z6 : (0 : Int) ≤ (a.toNat : Int) := by omega
    have z7 : (a.toNat : Int) < 16 := by omega
    have HIX := Lib.hid (ix_val ha)
    have hrl : r.length ≤ 1000 := by have := congrArg List.length hd; simp at this; omega
    rcases hk with h1 | h1
    · rw [h1] at n0
      have HS : Hid (splitT n t = .br [] (upd Tri.bare (ix a) (.leaf r x))) := Lib.hid (by
        cases t with
        | leaf q y =>
          obtain rfl : q = p := hp
          obtain rfl : y = x := hx
          exact Tri.split_leaf1 hd
        | _ => cases h1)
      have HLF : Hid (∀ w', Below w.heap.size w w' → w.heap.size < w'.heap.size → Calls Tryz.prog 95 #[.string ⟨r.toArray⟩, .string ⟨x.toArray⟩] w' fun e w'' => ∃ v, e = .returned v ∧ PAt w'' (F.off w.heap.size) false (.leaf r x) v ∧ Below w'.heap.size w' w'') := Lib.hid (fun w' hb hs => (leaf_any r x w' _ ((hB.size hb.size).off hs)))
      unfold ptr
      clear h hr hkk hf hfit hp hx hne hn hlt hr1 r1 hb0 h1 hC hpl hfp ha hd m2 f2
      go_enter Tryz.func98, Tryz.ntmps98
      go_wp2_with (refine wpList_build_some (by rfl) _ _ (by rfl) [(0, .int .i64 3)] (by first | rfl | (simp [Act.eval]; done) | kernel_rfl) C HBL.out ?_)
      obtain ⟨q, hq⟩ : ∃ q, w.heap.size = q := ⟨_, rfl⟩
      have HQ := Lib.hid hq
      obtain ⟨w0, hw0⟩ : ∃ w0, w.alloc (.cells C 87) = w0 := ⟨_, rfl⟩
      rw [hw0] at HR1 HB0 n0 n1 n2 ⊢
      rw [hq] at HR1 ⊢
      have HSZ : Hid (w.heap.size < w0.heap.size) := Lib.hid (by rw [← hw0]; simp)
      have HN1 : Hid (∀ w', Below w0.heap.size w0 w' → w'.cell? ⟨g, 1, none⟩ = some (.string ⟨p.toArray⟩) ∧ w'.cell? ⟨g, 2, none⟩ = some (.string ⟨x.toArray⟩) ∧ w'.cell? ⟨q, 3 + a.toNat, none⟩ = some (.pointer none) ∧ w'.frozen? ⟨q, 3 + a.toNat, none⟩ = false) := Lib.hid (fun w' hb => by
        have k1 := (HR.out.below HB0.out).below hb
        have k2 := HR1.out.below hb
        refine ⟨by rw [k1.path, HPP.out], by rw [k1.val, HX.out], ?_, k2.free _⟩
        have := k2.kid (ix a)
        rw [HIX.out] at this
        exact this)
      have HGQ : Hid (g < q) := Lib.hid (by rw [← hq]; exact lt_of_heap HR.out)
      have HK1 : Hid (∀ w' v, Below w0.heap.size w0 w' → (w'.setCell ⟨q, 3 + a.toNat, none⟩ v).cell? ⟨g, 1, none⟩ = some (.string ⟨p.toArray⟩) ∧ (w'.setCell ⟨q, 3 + a.toNat, none⟩ v).cell? ⟨g, 2, none⟩ = some (.string ⟨x.toArray⟩)) := Lib.hid (fun w' v hb => ⟨keep_cell (HN1.out w' hb).1 (Nat.ne_of_lt HGQ.out), keep_cell (HN1.out w' hb).2.1 (Nat.ne_of_lt HGQ.out)⟩)
      have BD : Below w0.heap.size w0 w0.drew := (Below.refl _ _).drew
      have HLF2 : Hid (∀ w', Below w0.heap.size w0 w' → Calls Tryz.prog 95 #[.string ⟨r.toArray⟩, .string ⟨x.toArray⟩] w' fun e w'' => ∃ g6, e = .returned (.pointer (some ⟨g6, 0, none⟩)) ∧ PAt w'' (F.off q) false (.leaf r x) (ptr g6) ∧ Below w0.heap.size w0 w'') := Lib.hid (fun w' hb => (HLF.out w' (HB0.out.trans (hb.mono (Nat.le_of_lt HSZ.out))) (Nat.lt_of_lt_of_le HSZ.out hb.size)).mono fun e w'' ⟨v, e1, hp, hb2⟩ => by
        obtain ⟨g6, _, _, rfl, _⟩ := hp.row id
        exact ⟨g6, e1, by rw [← hq]; exact hp, hb.trans (hb2.mono hb.size)⟩)
      obtain ⟨c1, c2, c3, c4⟩ := HN1.out _ BD
      clear hq hw0 n0 n1 n2 HLF
      go_region_held3 (fun w' => w'.cell? ⟨g, 1, none⟩ = some (.string ⟨p.toArray⟩) ∧ w'.cell? ⟨g, 2, none⟩ = some (.string ⟨x.toArray⟩))
        ((first | (with_reducible exact ⟨c1, c2⟩) | (with_reducible exact ⟨d1, d2⟩) | (refine HK1.out _ _ ?_; with_reducible assumption)))
        ((go_at_call 95; refine (HLF2.out _ ?_).mono ?_; (with_reducible assumption); rintro e w6 ⟨g6, rfl, hp6, hb6⟩; obtain ⟨d1, d2, d3, d4⟩ := HN1.out _ hb6))
      all_goals
        go_wp2
        go_ret
        rw [HS.out]
        have hbq : Below w.heap.size w w6 := HB0.out.trans (hb6.mono (Nat.le_of_lt HSZ.out))
        refine ⟨_, rfl, PAt.new (K := updK noK (ix a) (ptr g6)) id (hB _ (Nat.le_of_eq HQ.out)) ?_ (fun i => ?_), hbq.setCell (p := ⟨q, _, none⟩) (Nat.le_of_eq HQ.out) _⟩
        · have := (HR1.out.below hb6).setKid (ix a) (ptr g6)
          rw [HIX.out] at this
          exact this
        · simp only [Tri.Tr.kid, updK, Tri.upd]
          split
          · exact hp6.off _ _
          · rfl
    · rw [h1] at n0
      obtain ⟨u, hu⟩ : ∃ u, t.kid 0 = u := ⟨_, rfl⟩
      have hub : u.isBr := by
        rw [← hu]
        cases t with
        | ext q y => exact hf.2.1
        | _ => cases h1
      have hun : ¬ u.isNil := by cases u <;> simp_all [Tri.Tr.isBr, Tri.Tr.isNil]
      have hup : u.pth.length ≤ 1000 := by cases u <;> simp_all [Tri.Tr.isBr, Tri.Tr.pth]
      have HUN := Lib.hid (Tri.lay_nn (p := r) hun)
      have HS : Hid (splitT n t = .br [] (upd Tri.bare (ix a) (lay r u))) := Lib.hid (by
        cases t with
        | ext q y =>
          obtain rfl : q = p := hp
          obtain rfl : y = u := hu
          exact Tri.split_ext1 hd
        | _ => cases h1)
      obtain ⟨vk, hvk⟩ : ∃ v, K 0 = v := ⟨_, rfl⟩
      have hku : PAt w (F.off w.heap.size) false u vk := by
        rw [← hu, ← hvk]
        exact (hkk 0).weak.new_off (Nat.le_refl _)
      have HVK := Lib.hid hvk
      have HLF : Hid (∀ w', Below w.heap.size w w' → w.heap.size < w'.heap.size → Calls Tryz.prog 99 #[vk, .string ⟨r.toArray⟩] w' fun e w'' => ∃ v, e = .returned v ∧ PAt w'' (F.off w.heap.size) false (lay r u) v ∧ Below w'.heap.size w' w'') := Lib.hid (fun w' hb hs => (behind_any r w' _ ((hB.size hb.size).off hs) (hku.below hb) (Or.inr hun) hrl hup))
      unfold ptr
      clear hu hub hun hup hvk hku h hr hkk hf hfit hp hx hne hn hlt hr1 r1 hb0 h1 hC hpl hfp ha hd m2 f2
      go_enter Tryz.func98, Tryz.ntmps98
      go_wp2_with (refine wpList_build_some (by rfl) _ _ (by rfl) [(0, .int .i64 3)] (by first | rfl | (simp [Act.eval]; done) | kernel_rfl) C HBL.out ?_)
      obtain ⟨q, hq⟩ : ∃ q, w.heap.size = q := ⟨_, rfl⟩
      have HQ := Lib.hid hq
      obtain ⟨w0, hw0⟩ : ∃ w0, w.alloc (.cells C 87) = w0 := ⟨_, rfl⟩
      rw [hw0] at HR1 HB0 n0 n1 n2 ⊢
      rw [hq] at HR1 ⊢
      have HSZ : Hid (w.heap.size < w0.heap.size) := Lib.hid (by rw [← hw0]; simp)
      have HN1 : Hid (∀ w', Below w0.heap.size w0 w' → w'.cell? ⟨g, 1, none⟩ = some (.string ⟨p.toArray⟩) ∧ w'.cell? ⟨g, 3, none⟩ = some vk ∧ w'.cell? ⟨q, 3 + a.toNat, none⟩ = some (.pointer none) ∧ w'.frozen? ⟨q, 3 + a.toNat, none⟩ = false) := Lib.hid (fun w' hb => by
        have k1 := (HR.out.below HB0.out).below hb
        have k2 := HR1.out.below hb
        refine ⟨by rw [k1.path, HPP.out], by rw [← HVK.out]; exact k1.kid 0, ?_, k2.free _⟩
        have := k2.kid (ix a)
        rw [HIX.out] at this
        exact this)
      have HGQ : Hid (g < q) := Lib.hid (by rw [← hq]; exact lt_of_heap HR.out)
      have HK1 : Hid (∀ w' v, Below w0.heap.size w0 w' → (w'.setCell ⟨q, 3 + a.toNat, none⟩ v).cell? ⟨g, 1, none⟩ = some (.string ⟨p.toArray⟩) ∧ (w'.setCell ⟨q, 3 + a.toNat, none⟩ v).cell? ⟨g, 3, none⟩ = some vk) := Lib.hid (fun w' v hb => ⟨keep_cell (HN1.out w' hb).1 (Nat.ne_of_lt HGQ.out), keep_cell (HN1.out w' hb).2.1 (Nat.ne_of_lt HGQ.out)⟩)
      have BD : Below w0.heap.size w0 w0.drew := (Below.refl _ _).drew
      have HLF2 : Hid (∀ w', Below w0.heap.size w0 w' → Calls Tryz.prog 99 #[vk, .string ⟨r.toArray⟩] w' fun e w'' => ∃ g6, e = .returned (.pointer (some ⟨g6, 0, none⟩)) ∧ PAt w'' (F.off q) false (lay r u) (ptr g6) ∧ Below w0.heap.size w0 w'') := Lib.hid (fun w' hb => (HLF.out w' (HB0.out.trans (hb.mono (Nat.le_of_lt HSZ.out))) (Nat.lt_of_lt_of_le HSZ.out hb.size)).mono fun e w'' ⟨v, e1, hp, hb2⟩ => by
        obtain ⟨g6, _, _, rfl, _⟩ := hp.row HUN.out
        exact ⟨g6, e1, by rw [← hq]; exact hp, hb.trans (hb2.mono hb.size)⟩)
      obtain ⟨c1, c2, c3, c4⟩ := HN1.out _ BD
      clear hq hw0 n0 n1 n2 HLF
      go_region_held3 (fun w' => w'.cell? ⟨g, 1, none⟩ = some (.string ⟨p.toArray⟩) ∧ w'.cell? ⟨g, 3, none⟩ = some vk)
        ((first | (with_reducible exact ⟨c1, c2⟩) | (with_reducible exact ⟨d1, d2⟩) | (refine HK1.out _ _ ?_; with_reducible assumption)))
        ((go_at_call 99; refine (HLF2.out _ ?_).mono ?_; (with_reducible assumption); rintro e w6 ⟨g6, rfl, hp6, hb6⟩; obtain ⟨d1, d2, d3, d4⟩ := HN1.out _ hb6))
      all_goals
        go_wp2
        go_ret
        rw [HS.out]
        have hbq : Below w.heap.size w w6 := HB0.out.trans (hb6.mono (Nat.le_of_lt HSZ.out))
        refine ⟨_, rfl, PAt.new (K := updK noK (ix a) (ptr g6)) id (hB _ (Nat.le_of_eq HQ.out)) ?_ (fun i => ?_), hbq.setCell (p := ⟨q, _, none⟩) (Nat.le_of_eq HQ.out) _⟩
        · have := (HR1.out.below hb6).setKid (ix a) (ptr g6)
          rw [HIX.out] at this
          exact this
        · simp only [Tri.Tr.kid, updK, Tri.upd]
          split
          · exact hp6.off _ _
          · rfl
  · obtain rfl : n = p.length := by omega
    have h1 : t.kind = 1 := by rcases hk with h | h; exact h; exact absurd (hne h) hlt
    have e2 : ((p.length : Int) == (p.length : Int)) = true := beq_self_eq_true _
    have HS : Hid (splitT p.length t = .br x Tri.bare) := Lib.hid (by
      cases t with
      | leaf q y =>
        obtain rfl : q = p := hp
        obtain rfl : y = x := hx
        exact Tri.split_leaf0 (by simp)
      | _ => cases h1)
    have HSV : Hid (C.setIfInBounds 2 (.string ⟨x.toArray⟩) = (pcl 3 [] x noK []).toArray) := Lib.hid (by rw [← hC]; exact pcl_val ..)
    unfold ptr
    clear h hr hkk hk hf hfit hp hx hne hn hlt hr1 r1 hb0 h1 n0 hC
    go_enter Tryz.func98, Tryz.ntmps98
    go_wp2_with (refine wpList_build_some (by rfl) _ _ (by rfl) [(0, .int .i64 3)] (by first | rfl | (simp [Act.eval]; done) | kernel_rfl) C HBL.out ?_)
    go_ret
    rw [HS.out, HSV.out]
    exact ⟨_, rfl, PAt.new (K := noK) id (hB _ (Nat.le_refl _)) (RowP.new rfl) (fun i => rfl), (Below.refl _ w).alloc (Nat.le_refl _) _⟩
end Go.Proofs.YtlckcfpdiigjiaaGreatDoor
namespace Go.Proofs.YtlckcfpdiigjiaaGreatDoor
open Go.RowKit
open Sto (T)
open Tri (Tr Ok upd ix hb lay splitT Trim rank)

/-- The kids that are there, of the first n. -/
def seenT (k : Fin 16 → Tr) (n : Nat) : List (Fin 16) := ((List.finRange 16).take n).filter fun i => !(k i).nilB
def lastT (L : List (Fin 16)) : Nat := match L.getLast? with | none => 0 | some i => i.val
theorem seen_all (k : Fin 16 → Tr) : seenT k 16 = Tri.there k := by
  unfold seenT Tri.there
  rw [List.take_of_length_le (by simp)]
theorem seen_succ (k : Fin 16 → Tr) (i : Fin 16) : seenT k (i.val + 1) = if (k i).nilB then seenT k i.val else seenT k i.val ++ [i] := by
  unfold seenT
  have hl : i.val < (List.finRange 16).length := by simp
  rw [List.take_succ_eq_append_getElem hl, List.filter_append]
  have e : (List.finRange 16)[i.val] = i := by simp
  rw [e]
  cases h : (k i).nilB <;> simp [h]
theorem last_append (L : List (Fin 16)) (i : Fin 16) : lastT (L ++ [i]) = i.val := by simp [lastT]
theorem seen_len (k : Fin 16 → Tr) (n : Nat) : (seenT k n).length ≤ 16 := by
  unfold seenT
  refine Nat.le_trans (List.length_filter_le _ _) ?_
  simp; omega
def kcl (K : Ks) : List Value := List.ofFn K
theorem kcl_length (K : Ks) : (kcl K).length = 16 := by simp [kcl]
theorem RowP.range {w : World} {g k : Nat} {p x s : T} {K : Ks} (h : RowP w g k p x K s) : w.rangeAt g 3 (kcl K) := by
  intro j v hv
  have hj : j < 16 := by
    rcases Nat.lt_or_ge j 16 with h2 | h2
    · exact h2
    · rw [List.getElem?_eq_none (by rw [kcl_length]; exact h2)] at hv; cases hv
  have := h.kid ⟨j, hj⟩
  rw [this]
  unfold kcl at hv
  rw [List.getElem?_ofFn, dif_pos hj] at hv
  exact hv
set_option maxRecDepth 100000 in
theorem kcl_info (K : Ks) : (Tryz.prog.info? 85).map (·.size) = some (kcl K).length := by rw [kcl_length]; kernel_rfl
set_option maxRecDepth 100000 in
theorem index_kids (K : Ks) (i : Fin 16) (w : World) : (Instr.index 85 (.agg (kcl K).toArray) (.int .i64 i.val)).run Tryz.prog w = .ok (K i) w := by
  have hi := i.isLt
  have hu := Tryz.underlying85
  have hk0 : (0 : Int) ≤ (i.val : Int) := by omega
  have hk8 : (i.val : Int) < 16 := by omega
  have hat : (kcl K)[i.val]? = some (K i) := by
    unfold kcl
    rw [List.getElem?_ofFn, dif_pos hi]
  have hs := Tryz.sizeOf81
  have ha := Tryz.isAgg81
  unfold Instr.index
  go_simp
theorem PAt.ptr {w : World} {F : Fm} {s : Bool} {t : Tr} {v : Value} (h : PAt w F s t v) (hn : ¬ t.isNil) : ∃ g, v = .pointer (some ⟨g, 0, none⟩) := by
  obtain ⟨g, _, _, e, _⟩ := h.row hn; exact ⟨g, e⟩
theorem narrow0 {v : T} {k : Fin 16 → Tr} (h : Tri.there k = []) : Tri.narrowT v k = .leaf [] v := by unfold Tri.narrowT; rw [h]
theorem narrow1 {v : T} {k : Fin 16 → Tr} {i : Fin 16} (h : Tri.there k = [i]) : Tri.narrowT v k = if v = [] then lay [hb i] (k i) else .br v k := by unfold Tri.narrowT; rw [h]
theorem narrow2 {v : T} {k : Fin 16 → Tr} {i j : Fin 16} {r : List (Fin 16)} (h : Tri.there k = i :: j :: r) : Tri.narrowT v k = .br v k := by unfold Tri.narrowT; rw [h]
set_option maxRecDepth 100000 in
set_option maxHeartbeats 2000000 in
theorem narrow_any {y : T} {k : Fin 16 → Tr} {g : Nat} (w : World) (F : Fm) (hF : F.fresh w) (h : PAt w F false (.br y k) (ptr g)) (hlow : ∀ i, (k i).low) :
    Calls Tryz.prog 101 #[ptr g] w (MadeT w F (Tri.narrowT y k)) := by
  obtain ⟨g', s', K, e, -, -, hr, hk⟩ := h.row id
  obtain rfl := ptr_inj e
  have HR := Lib.hid hr
  have HK : Hid (∀ i, PAt w F false (k i) (K i)) := Lib.hid (fun i => (hk i).weak)
  have HH := Lib.hid h
  have HRG := Lib.hid hr.range
  have HI := Lib.hid (kcl_info K)
  have HKE := Lib.hid (fun (i : Fin 16) w => index_kids K i w)
  have HLF := Lib.hid (leaf_any [] y w F hF)
  have HBH : Hid (∀ (i : Fin 16) w', Below w.heap.size w w' → ¬ (k i).isNil → Calls Tryz.prog 99 #[K i, .string ⟨[hb i].toArray⟩] w' (MadeT w' F (lay [hb i] (k i)))) := Lib.hid (fun i w' hbw hn =>
    behind_any [hb i] w' F (hF.size hbw.size) ((hk i).weak.below hbw) (Or.inr hn) (by simp) (by
      have := hlow i
      cases hki : k i <;> simp_all [Tri.Tr.low, Tri.Tr.pth] <;> omega))
  obtain ⟨NT, hNT⟩ : ∃ NT, Tri.narrowT y k = NT := ⟨_, rfl⟩
  rw [hNT]
  have HNT := Lib.hid hNT
  clear hNT
  unfold MadeT at HLF HBH ⊢
  unfold ptr
  have hcl := hk
  clear h hr hk hcl
  go_enter Tryz.func101, Tryz.ntmps101
  go_wp2_with (refine wpList_load_mid (by rfl) _ _ (by rfl) g 3 (by rfl) (kcl K) _ HRG.out Tryz.underlying85 (by rfl) HI.out ?_)
  obtain ⟨KC, hKC⟩ : ∃ KC, kcl K = KC := ⟨_, rfl⟩
  rw [hKC] at HKE HI HRG ⊢
  clear hKC
  go_loop [3, 4, 11] (fun a hs i => ∃ n : Nat, n ≤ 16 ∧ i = .int .i64 n ∧ a = .int .i64 (lastT (seenT k n)) ∧ hs = .int .i64 ((seenT k n).length : Nat)) (fun _ _ i => 16 - (intOf i).toNat)
  case atStart => exact ⟨0, Nat.zero_le _, rfl, rfl, rfl⟩
  case round =>
    obtain ⟨n, hn, rfl, rfl, rfl⟩ := hrel
    by_cases hlt : n < 16
    · obtain ⟨i, hi⟩ : ∃ i : Fin 16, i.val = n := ⟨⟨n, hlt⟩, rfl⟩
      have h1 : (n : Int) < 16 := by omega
      have h0 : (0 : Int) ≤ (n : Int) := by omega
      have n0 := HKE.out i
      rw [hi] at n0
      have HST := Lib.hid (seen_succ k i)
      rw [hi] at HST
      have HLA := Lib.hid (last_append (seenT k n) i)
      rw [hi] at HLA
      have hsl := seen_len k n
      obtain ⟨L, hL⟩ : ∃ L, seenT k n = L := ⟨_, rfl⟩
      rw [hL] at HST hsl HLA ⊢
      have z0 : IntKind.i64.wrap ((L.length : Int) + 1) = (L.length : Int) + 1 := IntWalk.i64_in _ (by omega)
      have hki := HK.out i
      by_cases hnl : (k i).isNil
      · have e : K i = .pointer none := by rw [Tri.isNil_eq hnl] at hki; exact hki
        rw [e] at n0
        rw [if_pos ((Tri.nilB_iff _).2 hnl)] at HST
        clear hki hnl hL e hsl
        go_wp2
        exact ⟨⟨n + 1, by omega, by go_num, by rw [HST.out], by rw [HST.out]⟩, by simp [intOf]; omega⟩
      · obtain ⟨g6, e⟩ := hki.ptr hnl
        rw [e] at n0
        have hnb : (k i).nilB = false := by
          cases hh : (k i).nilB with
          | false => rfl
          | true => exact absurd ((Tri.nilB_iff _).1 hh) hnl
        rw [if_neg (by rw [hnb]; decide)] at HST
        clear hki hnl hL e hsl hnb
        go_wp2
        exact ⟨⟨n + 1, by omega, by go_num, by rw [HST.out, HLA.out], by rw [HST.out, List.length_append]; go_num⟩, by simp [intOf]; omega⟩
    · obtain rfl : n = 16 := by omega
      rw [seen_all]
      have HTH : Hid (∀ i, i ∈ Tri.there k → ¬ (k i).isNil) := Lib.hid (fun i hi => Tri.mem_there.1 hi)
      have n2 := HR.out.val
      have n2' : w.cell? ⟨g, 2, none⟩ = some (.string ⟨y.toArray⟩) := n2
      clear n2
      cases hL : Tri.there k with
      | nil =>
        replace HNT : Hid (NT = .leaf [] y) := Lib.hid (HNT.out.symm.trans (narrow0 hL))
        have e1 : ((lastT ([] : List (Fin 16)) : Nat) : Int) = 0 := rfl
        clear hL
        go_wp2_with fail
        refine HLF.out.mono ?_
        rintro r w1 ⟨v, rfl, hp, hb⟩
        go_wp2
        go_ret
        rw [HNT.out]
        exact ⟨v, rfl, hp, hb⟩
      | cons i r =>
        cases r with
        | cons j r =>
          replace HNT : Hid (NT = .br y k) := Lib.hid (HNT.out.symm.trans (narrow2 hL))
          have e2 : (((i :: j :: r).length : Nat) : Int) = (r.length : Int) + 2 := by simp; omega
          have e3 : ((r.length : Int) + 2 == 0) = false := by rw [beq_eq_false_iff_ne]; omega
          have e4 : ((r.length : Int) + 2 == 1) = false := by rw [beq_eq_false_iff_ne]; omega
          obtain ⟨la, hla⟩ : ∃ la, lastT (i :: j :: r) = la := ⟨_, rfl⟩
          rw [e2, hla]
          clear hL hla e2
          go_wp2
          go_ret
          rw [HNT.out]
          exact ⟨_, rfl, HH.out, Below.refl _ _⟩
        | nil =>
          have HNI := Lib.hid (HTH.out i (by rw [hL]; exact List.mem_singleton.2 rfl))
          replace HNT : Hid (NT = if y = [] then lay [hb i] (k i) else .br y k) := Lib.hid (HNT.out.symm.trans (narrow1 hL))
          have e1 : lastT [i] = i.val := rfl
          rw [e1]
          have e2 : (([i].length : Nat) : Int) = 1 := rfl
          rw [e2]
          clear hL HTH e2
          by_cases hy : y = []
          · subst hy
            rw [if_pos rfl] at HNT
            have hi := i.isLt
            have n3 := HR.out.kid i
            obtain ⟨vk, hvk⟩ : ∃ vk, K i = vk := ⟨_, rfl⟩
            rw [hvk] at n3
            have HBI : Hid (∀ w', Below w.heap.size w w' → Calls Tryz.prog 99 #[vk, .string ⟨[hb i].toArray⟩] w' fun e w'' => ∃ v, e = .returned v ∧ PAt w'' F false (lay [hb i] (k i)) v ∧ Below w'.heap.size w' w'') := Lib.hid (fun w' hbw => by rw [← hvk]; exact HBH.out i w' hbw HNI.out)
            have HHF := Lib.hid (fun w => half_any i w)
            have HCB : Hid (∀ w', Below w.heap.size w w' → w'.cell? ⟨g, 3 + i.val, none⟩ = some vk) := Lib.hid (fun w' hbw => by rw [← hvk]; exact (HR.out.below hbw).kid i)
            have z0 : (0 : Int) ≤ (i.val : Int) := by omega
            have z1 : (i.val : Int) < 16 := by omega
            obtain ⟨n, hn⟩ : ∃ n, i.val = n := ⟨_, rfl⟩
            rw [hn] at n3 HHF HCB z0 z1 ⊢
            clear hvk hi HBH hn
            go_upto_region 12 with fail
            have BD : Below w.heap.size w w.drew := (Below.refl _ _).drew
            have n4 : w.drew.cell? ⟨g, 3 + n, none⟩ = some vk := n3
            go_region_held3 (fun w' => w'.cell? ⟨g, 3 + n, none⟩ = some vk)
              ((first | (with_reducible exact n4) | (with_reducible exact n5) | (with_reducible exact n7)))
              (first | (go_at_call 83; refine (HHF.out _).mono ?_; rintro e w6 ⟨rfl, hb6⟩; have hb6' := bchain BD hb6; have n5 := HCB.out _ hb6') | (go_at_call 99; refine (HBI.out _ ?_).mono ?_; (with_reducible exact hb6'); rintro e w7 ⟨v7, rfl, hp7, hb7⟩; have hb7' := bchain hb6' hb7; have n7 := HCB.out _ hb7'))
            all_goals
              go_wp2
              go_ret
              rw [HNT.out]
              exact ⟨v7, rfl, hp7, hb7'⟩
          · rw [if_neg hy] at HNT
            have hye : (y == []) = false := by rw [beq_eq_false_iff_ne]; exact hy
            clear HBH
            go_wp2
            go_ret
            rw [HNT.out]
            exact ⟨_, rfl, HH.out, Below.refl _ _⟩
end Go.Proofs.YtlckcfpdiigjiaaGreatDoor
namespace Go.Proofs.YtlckcfpdiigjiaaGreatDoor
open Go.RowKit
open Sto (T)
open Tri (Tr Ok upd ix hb lay splitT Trim rank)
open Go.Proofs.YtlckcfpdiigjiaaGreatDoor.Nd (N)

def st19 (a v : Value) : Sem Unit := Instr.storeAt 126 a v
theorem storeAt19 (a v : Value) : Instr.storeAt 126 a v = st19 a v := rfl
attribute [local go_sem ↓] storeAt19
def zero19 : Array Value := #[.int .i64 0, .string ⟨#[]⟩, .string ⟨#[]⟩, .string ⟨#[]⟩, .string ⟨#[]⟩, .string ⟨#[]⟩, .string ⟨#[]⟩, .string ⟨#[]⟩, .string ⟨#[]⟩, .string ⟨#[]⟩, .string ⟨#[]⟩, .string ⟨#[]⟩, .string ⟨#[]⟩, .string ⟨#[]⟩, .string ⟨#[]⟩, .string ⟨#[]⟩, .string ⟨#[]⟩, .string ⟨#[]⟩, .string ⟨#[]⟩]
def lit19 (kd : Nat) (p x : T) : Array Value := #[.int .i64 kd, .string ⟨p.toArray⟩, .string ⟨x.toArray⟩, .string ⟨#[]⟩, .string ⟨#[]⟩, .string ⟨#[]⟩, .string ⟨#[]⟩, .string ⟨#[]⟩, .string ⟨#[]⟩, .string ⟨#[]⟩, .string ⟨#[]⟩, .string ⟨#[]⟩, .string ⟨#[]⟩, .string ⟨#[]⟩, .string ⟨#[]⟩, .string ⟨#[]⟩, .string ⟨#[]⟩, .string ⟨#[]⟩, .string ⟨#[]⟩]
theorem run_st19 {w : World} {C old : Array Value} (hi : (Tryz.prog.info? 126).map (·.size) = some C.size) (ho : old.size = C.size) (h1 : C.all (·.oneCell') = true) :
    (st19 (.pointer (some ⟨w.heap.size, 0, none⟩)) (.agg C)).run Tryz.prog (w.alloc (.cells old 126)) = .ok () (w.alloc (.cells C 126)) := by
  unfold st19
  simp only [Instr.storeAt, Instr.sureAddr, Sem.run_bind, Sem.run_pure, Result.andThen_ok, run_storeVar_row (w.alloc (.cells old 126)) w.heap.size 126 126 old C (heap_alloc_new w _) hi ho h1]
  rw [World.setRow_alloc_new]
theorem ncl_set (kd : Int) (p x : T) (L : List T) (k : Nat) (y : T) : (ncl ⟨kd, p, x, L⟩).toArray.setIfInBounds (3 + k) (.string ⟨y.toArray⟩) = (ncl ⟨kd, p, x, L.set k y⟩).toArray := by
  rw [List.setIfInBounds_toArray]
  congr 1
  unfold ncl
  rw [Nat.add_comm 3 k]
  simp only [List.set_cons_succ]
  rw [scells_set]
theorem ncl_ones (n : N) : (ncl n).toArray.all (·.oneCell') = true := by
  rw [← Array.all_toList, List.all_eq_true]
  intro v hv
  simp only [ncl, scells, List.mem_cons, List.mem_map] at hv
  rcases hv with rfl | rfl | rfl | ⟨y, _, rfl⟩ <;> rfl
set_option maxRecDepth 100000 in
set_option maxHeartbeats 2000000 in
theorem pnode_any {t : Tr} {g : Nat} {s : T} {K : Ks} {F : Fm} (w : World) (hr : RowP w g t.kind t.pth t.vl K s) (hk : ∀ i, PAt w F true (t.kid i) (K i)) (hn : ¬ t.isNil) :
    Calls Tryz.prog 81 #[ptr g] w fun e w' => e = .returned (ndval (t.node Nd.sumS)) ∧ Below w.heap.size w w' := by
  rw [Tri.node_kid _ hn]
  have HK := Lib.hid hk
  have HR := Lib.hid hr
  unfold ptr
  obtain ⟨kd, hkd⟩ : ∃ kd, t.kind = kd := ⟨_, rfl⟩
  obtain ⟨p, hp⟩ : ∃ p, t.pth = p := ⟨_, rfl⟩
  obtain ⟨x, hx⟩ : ∃ x, t.vl = x := ⟨_, rfl⟩
  rw [hkd, hp, hx] at HR ⊢
  obtain ⟨SL, hSL⟩ : ∃ SL, (List.ofFn fun i => (t.kid i).sum Nd.sumS) = SL := ⟨_, rfl⟩
  have HSL : Hid (SL.length = 16 ∧ ∀ i : Fin 16, SL[i.val]? = some ((t.kid i).sum Nd.sumS)) := Lib.hid (by
    rw [← hSL]
    exact ⟨by simp, fun i => by rw [List.getElem?_ofFn, dif_pos i.isLt]⟩)
  rw [hSL]
  unfold ndval
  obtain ⟨A, hA⟩ : ∃ A, (ncl ⟨(kd : Int), p, x, SL⟩).toArray = A := ⟨_, rfl⟩
  rw [hA]
  have HA := Lib.hid hA
  clear hr hk hkd hp hx hSL hA
  go_enter Tryz.func81, Tryz.ntmps81
  go_upto_region 1 with fail
  obtain ⟨q, hq⟩ : ∃ q, w.heap.size = q := ⟨_, rfl⟩
  obtain ⟨w0, hw0⟩ : ∃ w0, w.alloc (.cells zero19 126) = w0 := ⟨_, rfl⟩
  have HQB : Hid (w0.heap[q]? = some (.cells zero19 126 (0, 0))) := Lib.hid (by rw [← hw0, ← hq]; exact heap_alloc_new w _)
  have HB0 : Hid (Below w.heap.size w w0) := Lib.hid (by rw [← hw0]; exact (Below.refl _ w).alloc (Nat.le_refl _) _)
  have HQ0 : Hid (q < w0.heap.size) := Lib.hid (lt_of_heap HQB.out)
  unfold zero19 at hw0
  rw [hw0, hq]
  have HQ := Lib.hid hq
  have HG : Hid (∀ w', Below w0.heap.size w0 w' → w'.cell? ⟨g, 0, none⟩ = some (.int .i64 kd) ∧ w'.cell? ⟨g, 1, none⟩ = some (.string ⟨p.toArray⟩) ∧ w'.cell? ⟨g, 2, none⟩ = some (.string ⟨x.toArray⟩)) := Lib.hid (fun w' hb => by
    have k1 := (HR.out.below HB0.out).below hb
    exact ⟨k1.kind, k1.path, k1.val⟩)
  have hst : (st19 (.pointer (some ⟨w0.heap.size, 0, none⟩)) (.agg (lit19 kd p x))).run Tryz.prog ((w0.alloc (.cells zero19 126)).drew) = .ok () ((w0.alloc (.cells (lit19 kd p x) 126)).drew) := run_st19 (w := w0.drew) (by kernel_rfl) rfl (by simp [lit19, Value.oneCell'])
  unfold lit19 zero19 at hst
  have B1 : Below w0.heap.size w0 w0.drew := (Below.refl _ _).drew
  have B2 := ((Below.refl w0.heap.size w0).alloc (Nat.le_refl _) (.cells zero19 126)).drew
  have B3 := ((Below.refl w0.heap.size w0).alloc (Nat.le_refl _) (.cells (lit19 kd p x) 126)).drew
  unfold zero19 at B2
  unfold lit19 at B3
  obtain ⟨c0, c1, c2⟩ := HG.out _ B1
  clear hw0 hq
  go_region_held3 (fun w' => w'.cell? ⟨g, 0, none⟩ = some (.int .i64 kd) ∧ w'.cell? ⟨g, 1, none⟩ = some (.string ⟨p.toArray⟩) ∧ w'.cell? ⟨g, 2, none⟩ = some (.string ⟨x.toArray⟩))
    ((first | (with_reducible exact ⟨c0, c1, c2⟩) | (refine HG.out _ ?_; with_reducible assumption)))
    (fail)
  obtain ⟨q2, hq2⟩ : ∃ q2, w0.heap.size = q2 := ⟨_, rfl⟩
  obtain ⟨w1, hw1⟩ : ∃ w1, (w0.alloc (.cells (lit19 kd p x) 126)).drew = w1 := ⟨_, rfl⟩
  have HN0 : Hid (NodeAt w1 q2 ⟨kd, p, x, Nd.part []⟩) := Lib.hid (by
    rw [← hw1, ← hq2]
    exact heap_alloc_new w0 _)
  have HB1 : Hid (Below w.heap.size w w1 ∧ w1.heap[q]? = some (.cells zero19 126 (0, 0)) ∧ w.heap.size ≤ q2 ∧ q ≠ q2) := Lib.hid (by
    have h1 : Below w0.heap.size w0 w1 := by rw [← hw1]; exact ((Below.refl w0.heap.size w0).alloc (Nat.le_refl _) _).drew
    have := HQ0.out
    have := HB0.out.size
    exact ⟨bchain HB0.out h1, (h1.block q HQ0.out).trans HQB.out, by omega, by omega⟩)
  unfold lit19 at hw1
  rw [hw1, hq2]
  have HRR := Lib.hid ((HR.out.below HB1.out.1).range)
  have HI := Lib.hid (kcl_info K)
  have HKE := Lib.hid (fun (i : Fin 16) w => index_kids K i w)
  clear c0 c1 c2 hst B1 B2 B3 hw1 hq2 HG
  go_wp2_with (refine wpList_load_mid (by rfl) _ _ (by rfl) g 3 (by rfl) (kcl K) _ HRR.out Tryz.underlying85 (by rfl) HI.out ?_)
  obtain ⟨KC, hKC⟩ : ∃ KC, kcl K = KC := ⟨_, rfl⟩
  rw [hKC] at HKE HI HRR ⊢
  clear hKC
  go_loopw [23] (fun i wr => ∃ k : Nat, k ≤ 16 ∧ i = .int .i64 k ∧ NodeAt wr q2 ⟨kd, p, x, Nd.part (SL.take k)⟩ ∧ Out (fun j => j = q2) w1 wr) (fun i _ => 16 - (intOf i).toNat)
  case atStart => exact ⟨0, Nat.zero_le _, rfl, HN0.out, Out.refl _ _⟩
  case round =>
    obtain ⟨k, hk, rfl, hna, hou⟩ := hrel
    have HNA := Lib.hid hna
    have HOU := Lib.hid hou
    have HGQ : Hid (g ≠ q2) := Lib.hid (fun e => by have := lt_of_heap HR.out; have := HB1.out.2.2.1; omega)
    by_cases hlt : k < 16
    · obtain ⟨i, hi⟩ : ∃ i : Fin 16, i.val = k := ⟨⟨k, hlt⟩, rfl⟩
      have h1 : (k : Int) < 16 := by omega
      have h0 : (0 : Int) ≤ (k : Int) := by omega
      have n0 := HKE.out i
      rw [hi] at n0
      have hti : SL.take (k + 1) = SL.take k ++ [(t.kid i).sum Nd.sumS] := by
        have h2 := HSL.out.2 i
        rw [hi] at h2
        rw [List.take_add_one, h2]; rfl
      have htl : (SL.take k).length = k := by rw [List.length_take, HSL.out.1]; omega
      have hki := HK.out i
      by_cases hnl : (t.kid i).isNil
      · have e : K i = .pointer none := by rw [Tri.isNil_eq hnl] at hki; exact hki
        rw [e] at n0
        have HST : Hid (Nd.part (SL.take (k + 1)) = Nd.part (SL.take k)) := Lib.hid (by
          rw [hti, Tri.isNil_eq hnl]
          exact (Nd.part_nil _ (by rw [htl]; exact hlt)).symm)
        clear hki hnl e hna hou hti htl
        go_wp2
        exact ⟨⟨k + 1, by omega, by go_num, by rw [HST.out]; exact HNA.out, HOU.out⟩, by simp [intOf]; omega⟩
      · obtain ⟨g6, s6, K6, e, hs6, -, hr6, -⟩ := hki.row hnl
        have e' : K i = .pointer (some ⟨g6, 0, none⟩) := e
        rw [hs6 rfl, if_pos rfl] at hr6
        rw [e'] at n0
        have hg6 : g6 ≠ q2 := fun e => by have := lt_of_heap hr6; have := HB1.out.2.2.1; omega
        have n19 : wr.cell? ⟨g6, 19, none⟩ = some (.string ⟨((t.kid i).sum Nd.sumS).toArray⟩) := hou.cell (hr6.below HB1.out.1).sum hg6
        have hpl : (Nd.part (SL.take k)).length = 16 := Nd.part_len _ (by rw [htl]; omega)
        have m3 := hna.kid k (by rw [hpl]; exact hlt)
        have f3 : wr.frozen? ⟨q2, 3 + k, none⟩ = false := frozen_of_row _ _ _ _ _ hna
        obtain ⟨y, hy⟩ : ∃ y, (t.kid i).sum Nd.sumS = y := ⟨_, rfl⟩
        rw [hy] at n19 hti
        obtain ⟨y2, hy2⟩ : ∃ y2, (Nd.part (SL.take k))[k]'(by rw [hpl]; exact hlt) = y2 := ⟨_, rfl⟩
        have m3' : wr.cell? ⟨q2, 3 + k, none⟩ = some (.string ⟨y2.toArray⟩) := by rw [m3, hy2]
        have HST : Hid (NodeAt (wr.setCell ⟨q2, 3 + k, none⟩ (.string ⟨y.toArray⟩)) q2 ⟨kd, p, x, Nd.part (SL.take (k + 1))⟩) := Lib.hid (by
          have h2 := heap_setCell_same _ _ (3 + k) _ _ (.string ⟨y.toArray⟩) hna
          rw [ncl_set] at h2
          have h3 := Nd.part_set (SL.take k) y (by rw [htl]; exact hlt)
          rw [htl] at h3
          rw [h3] at h2
          rw [hti]
          exact h2)
        have HOS := Lib.hid (hou.setCell (p := ⟨q2, 3 + k, none⟩) rfl (.string ⟨y.toArray⟩))
        clear hki hnl e e' hna hou hti htl m3 hy2 hr6 hy hpl hg6
        go_wp2
        exact ⟨⟨k + 1, by omega, by go_num, HST.out, HOS.out⟩, by simp [intOf]; omega⟩
    · have h1 : ¬ ((k : Int) < 16) := by omega
      obtain rfl : k = 16 := by omega
      rw [List.take_of_length_le (by rw [HSL.out.1]; omega), Nd.part_all _ HSL.out.1] at HNA
      have hcs : (ncl ⟨kd, p, x, SL⟩).toArray.size = 19 := by rw [List.size_toArray, ncl_length _ HSL.out.1]
      have HIN : Hid ((Tryz.prog.info? 126).map (·.size) = some (ncl ⟨kd, p, x, SL⟩).toArray.size) := Lib.hid (by rw [hcs]; kernel_rfl)
      have HON := Lib.hid (ncl_ones ⟨kd, p, x, SL⟩)
      have HQR : Hid (wr.heap[q]? = some (.cells zero19 126 (0, 0))) := Lib.hid ((HOU.out.block q (lt_of_heap HB1.out.2.1) HB1.out.2.2.2).trans HB1.out.2.1)
      have HOL : Hid (zero19.size = (ncl ⟨kd, p, x, SL⟩).toArray.size) := Lib.hid (by rw [hcs]; rfl)
      have HRW : Hid (wr.heap[q2]? = some (.cells (ncl ⟨kd, p, x, SL⟩).toArray 126 (0, 0))) := Lib.hid HNA.out
      have HBW : Hid (∀ A, Below w.heap.size w (wr.setRow q A)) := Lib.hid (fun A => by
        have h2 := (HOU.out.mono (G := fun j => j = q2 ∨ j = q) (fun j _ e => Or.inl e)).setRow (q := q) (Or.inr rfl) A
        refine HB1.out.1.trans (h2.below (fun j hj => ?_) HB1.out.1.size)
        rcases hj with rfl | rfl
        · exact HB1.out.2.2.1
        · exact Nat.le_of_eq HQ.out)
      rw [HA.out] at HIN HON HOL HRW
      clear hcs hna hou HNA
      go_wp2_with (first | (refine wpList_load_row (by rfl) _ _ (by rfl) q2 (by rfl) _ A _ _ HRW.out Tryz.underlying126 (by rfl) HIN.out ?_) | (refine wpList_store_row (by rfl) _ _ _ (by rfl) q A (by rfl) (by rfl) _ _ HQR.out HIN.out HOL.out HON.out ?_))
      exact bodyPost_ret (v := .agg A) (results_cell_row rfl _ _ q _ _ _ _ rfl (setRow_at HQR.out) Tryz.underlying126 rfl HIN.out) rfl ⟨rfl, HBW.out A⟩
end Go.Proofs.YtlckcfpdiigjiaaGreatDoor
namespace Go.Proofs.YtlckcfpdiigjiaaGreatDoor
open Go.RowKit
open Sto (T)
open Tri (Tr Ok upd ix hb lay splitT Trim rank)
open Go.Proofs.YtlckcfpdiigjiaaGreatDoor.Nd (N)

theorem Tab.mid {w w' : World} {B : Nat} (h : Tab w) (hb : Below B w w') (hB : 0 < B) : Tab w' := fun i hi => (hb.cell (p := ⟨0, i, none⟩) hB).trans (h i hi)
theorem from_mono (B : Nat) : ∀ s g, Fm.from B s g → Fm.from B true g := fun _ _ _ e => by cases e
/-- What sealing keeps: every tree is what it was; only sums are written. -/
def Keeps (B : Nat) (w w' : World) : Prop := (∀ s u z, PAt w (Fm.from B) s u z → PAt w' (Fm.from B) s u z) ∧ (∀ g k p x K s, RowP w g k p x K s → ∃ s', RowP w' g k p x K s') ∧ (∀ (g : Nat) (cs : Array Value) (ty : TypeId) (fl : Nat × Nat), ty ≠ 87 → w.heap[g]? = some (Obj.cells cs ty fl) → w'.heap[g]? = some (Obj.cells cs ty fl))
theorem Keeps.refl (B : Nat) (w : World) : Keeps B w w := ⟨fun _ _ _ h => h, fun _ _ _ _ _ s h => ⟨s, h⟩, fun _ _ _ _ _ h => h⟩
theorem Keeps.trans {B : Nat} {a b c : World} (h : Keeps B a b) (k : Keeps B b c) : Keeps B a c := ⟨fun s u z q => k.1 s u z (h.1 s u z q), fun g kk p x K s q => by
  obtain ⟨s', q'⟩ := h.2.1 g kk p x K s q
  exact k.2.1 g kk p x K s' q', fun g cs ty fl ht q => k.2.2 g cs ty fl ht (h.2.2 g cs ty fl ht q)⟩
theorem Keeps.below {B : Nat} {w w' : World} (h : Below w.heap.size w w') : Keeps B w w' := ⟨fun _ _ _ q => q.below h, fun _ _ _ _ _ s q => ⟨s, q.below h⟩, fun g _ _ _ _ q => (h.block g (lt_of_heap q)).trans q⟩
def SealTo (t : Tr) : Prop := ∀ (v : Value) (w : World) (B : Nat), 0 < B → B ≤ w.heap.size → Tab w → Ok t → PAt w (Fm.from B) false t v →
  Calls Tryz.prog 59 #[v] w fun e w' => e = .returned (.tuple #[]) ∧ PAt w' (Fm.from B) true t v ∧ Keeps B w w' ∧ Below B w w'
set_option maxRecDepth 100000 in
theorem seal_nil (w : World) (B : Nat) :
    Calls Tryz.prog 59 #[.pointer none] w fun e w' => e = .returned (.tuple #[]) ∧ PAt w' (Fm.from B) true .nil (.pointer none) ∧ Keeps B w w' ∧ Below B w w' := by
  go_enter Tryz.func59, Tryz.ntmps59
  go_wp2
  exact bodyPost_ret (results_none rfl _ _ _) rfl ⟨rfl, rfl, Keeps.refl _ _, Below.refl _ _⟩
set_option maxRecDepth 100000 in
theorem seal_done {t : Tr} {g : Nat} {K : Ks} (w : World) (B : Nat) (hn : ¬ t.isNil) (ho : Ok t) (hr : RowP w g t.kind t.pth t.vl K (t.sum Nd.sumS)) (hk : ∀ i, PAt w (Fm.from B) true (t.kid i) (K i)) :
    Calls Tryz.prog 59 #[ptr g] w fun e w' => e = .returned (.tuple #[]) ∧ PAt w' (Fm.from B) true t (ptr g) ∧ Keeps B w w' ∧ Below B w w' := by
  have n19 := hr.sum
  have hne : (t.sum Nd.sumS == []) = false := by rw [beq_eq_false_iff_ne]; exact ho.sum_ne hn
  have HP : Hid (PAt w (Fm.from B) true t (ptr g)) := Lib.hid ((PAt.iff hn).2 ⟨g, true, K, rfl, fun _ => rfl, (fun h => by cases h), hr, hk⟩)
  obtain ⟨S, hS⟩ : ∃ S, t.sum Nd.sumS = S := ⟨_, rfl⟩
  rw [hS] at n19 hne
  unfold ptr at HP ⊢
  clear hr hk hS
  go_enter Tryz.func59, Tryz.ntmps59
  go_wp2
  exact bodyPost_ret (results_none rfl _ _ _) rfl ⟨rfl, HP.out, Keeps.refl _ _, Below.refl _ _⟩
set_option maxRecDepth 100000 in
set_option maxHeartbeats 2000000 in
theorem seal_open {t : Tr} (IH : ∀ i, SealTo (t.kid i)) {g : Nat} {K : Ks} (w : World) (B : Nat) (hB : 0 < B) (hBw : B ≤ w.heap.size) (hT : Tab w) (hn : ¬ t.isNil) (ho : Ok t) (hr : RowP w g t.kind t.pth t.vl K []) (hg : B ≤ g) (hk : ∀ i, PAt w (Fm.from B) false (t.kid i) (K i)) :
    Calls Tryz.prog 59 #[ptr g] w fun e w' => e = .returned (.tuple #[]) ∧ PAt w' (Fm.from B) true t (ptr g) ∧ Keeps B w w' ∧ Below B w w' := by
  have n19 := hr.sum
  have HR := Lib.hid hr
  have HRG := Lib.hid hr.range
  have HI := Lib.hid (kcl_info K)
  have HKE := Lib.hid (fun (i : Fin 16) w => index_kids K i w)
  have HK := Lib.hid hk
  have HIH := Lib.hid (fun (i : Fin 16) (w' : World) (hb : Below B w w') (hp : PAt w' (Fm.from B) false (t.kid i) (K i)) => IH i (K i) w' B hB (Nat.le_trans hBw hb.size) (hT.mid hb hB) (ho.kid i) hp)
  have HTB := Lib.hid (fun (w' : World) (hb : Below B w w') => hT.mid hb hB)
  have HN := Lib.hid (fun (w' : World) (sx : T) (hr : RowP w' g t.kind t.pth t.vl K sx) (hk : ∀ i, PAt w' (Fm.from B) true (t.kid i) (K i)) => pnode_any w' hr hk hn)
  have HSL : Hid (∀ (w' : World) (sx : T), RowP w' g t.kind t.pth t.vl K sx → (∀ i, PAt w' (Fm.from B) true (t.kid i) (K i)) → PAt (w'.setCell ⟨g, 19, none⟩ (.string ⟨(t.sum Nd.sumS).toArray⟩)) (Fm.from B) true t (ptr g) ∧ Keeps B w' (w'.setCell ⟨g, 19, none⟩ (.string ⟨(t.sum Nd.sumS).toArray⟩))) := Lib.hid (fun w' sx hr hk => by
    refine ⟨PAt.seal (from_mono B) (fun e => by cases e) hn hr hk, fun s u z h => PAt.seals (from_mono B) hr hk h, fun g' kk p x K' s h => ?_, fun g' cs ty fl ht h => ?_⟩
    by_cases e : g' = g
    · subst e; exact ⟨_, h.seal _⟩
    · exact ⟨s, (Below.heap_setCell _ ⟨g, 19, none⟩ _ g' e).trans h⟩
    · have e : g' ≠ g := fun e => by
        subst e
        unfold RowP at hr
        rw [hr] at h
        injection h with h; injection h with _ h _
        exact ht h.symm
      exact (Below.heap_setCell _ ⟨g, 19, none⟩ _ g' e).trans h)
  have HDG : Hid (∀ w', Tab w' → Calls Tryz.prog 80 #[ndval (t.node Nd.sumS)] w' fun e w'' => e = .returned (.string ⟨(t.sum Nd.sumS).toArray⟩) ∧ Below w'.heap.size w' w'') := Lib.hid (fun w' h => by
    rw [Tri.sum_node _ hn]
    exact ndigest_any _ w' (Tri.node_kids _ _) h)
  obtain ⟨S, hS⟩ : ∃ S, t.sum Nd.sumS = S := ⟨_, rfl⟩
  obtain ⟨ND, hND⟩ : ∃ ND, ndval (t.node Nd.sumS) = ND := ⟨_, rfl⟩
  rw [hS] at HSL HDG
  rw [hND] at HDG HN
  unfold ptr at HSL HN ⊢
  clear hr hk hT IH hS hND hn ho
  go_enter Tryz.func59, Tryz.ntmps59
  go_wp2_with (refine wpList_load_mid (by rfl) _ _ (by rfl) g 3 (by rfl) (kcl K) _ HRG.out Tryz.underlying85 (by rfl) HI.out ?_)
  obtain ⟨KC, hKC⟩ : ∃ KC, kcl K = KC := ⟨_, rfl⟩
  rw [hKC] at HKE HI HRG ⊢
  clear hKC
  go_loopw [17] (fun i wr => ∃ k : Nat, k ≤ 16 ∧ i = .int .i64 k ∧ (∀ j : Fin 16, j.val < k → PAt wr (Fm.from B) true (t.kid j) (K j)) ∧ Keeps B w wr ∧ Below B w wr) (fun i _ => 16 - (intOf i).toNat)
  case atStart => exact ⟨0, Nat.zero_le _, rfl, fun j hj => absurd hj (Nat.not_lt_zero _), Keeps.refl _ _, Below.refl _ _⟩
  case round =>
    obtain ⟨k, hk, rfl, hks, hkp, hbw⟩ := hrel
    have HKS := Lib.hid hks
    have HKP := Lib.hid hkp
    have HBW := Lib.hid hbw
    by_cases hlt : k < 16
    · obtain ⟨i, hi⟩ : ∃ i : Fin 16, i.val = k := ⟨⟨k, hlt⟩, rfl⟩
      have h1 : (k : Int) < 16 := by omega
      have h0 : (0 : Int) ≤ (k : Int) := by omega
      have n0 := HKE.out i
      rw [hi] at n0
      have HC := Lib.hid (HIH.out i wr hbw (hkp.1 _ _ _ (HK.out i)))
      have HII := Lib.hid hi
      obtain ⟨vk, hvk⟩ : ∃ vk, K i = vk := ⟨_, rfl⟩
      rw [hvk] at n0 HC
      have HVK := Lib.hid hvk
      clear hks hkp hbw hi hvk
      go_wp2_with fail
      refine HC.out.mono ?_
      rintro e w2 ⟨rfl, hp2, hk2, hb2⟩
      have HP2 := Lib.hid hp2
      have HK2 := Lib.hid hk2
      have HB2 := Lib.hid hb2
      clear hp2 hk2 hb2
      go_wp2
      refine ⟨⟨k + 1, by omega, by go_num, fun j hj => ?_, HKP.out.trans HK2.out, HBW.out.trans HB2.out⟩, by simp [intOf]; omega⟩
      by_cases e : j.val < k
      · exact HK2.out.1 _ _ _ (HKS.out j e)
      · obtain rfl : j = i := Fin.ext (by have := HII.out; omega)
        rw [HVK.out]
        exact HP2.out
    · have h1 : ¬ ((k : Int) < 16) := by omega
      obtain rfl : k = 16 := by omega
      obtain ⟨sx, hrx⟩ := hkp.2.1 _ _ _ _ _ _ HR.out
      have hall : ∀ i, PAt wr (Fm.from B) true (t.kid i) (K i) := fun i => hks i i.isLt
      have HC := Lib.hid (HN.out wr sx hrx hall)
      have HRX := Lib.hid hrx
      have HAL := Lib.hid hall
      clear hks hkp hbw hrx hall
      go_wp2_with fail
      refine HC.out.mono ?_
      rintro e w2 ⟨rfl, hb2⟩
      have HB2 := Lib.hid hb2
      have HBB : Hid (Below B w w2) := Lib.hid (HBW.out.trans (hb2.mono (Nat.le_trans hBw HBW.out.size)))
      clear hb2
      go_wp2_with fail
      refine (HDG.out _ (HTB.out _ HBB.out)).mono ?_
      rintro e w3 ⟨rfl, hb3⟩
      have hr3 := (HRX.out.below HB2.out).below hb3
      have hk3 : ∀ i, PAt w3 (Fm.from B) true (t.kid i) (K i) := fun i => ((HAL.out i).below HB2.out).below hb3
      obtain ⟨p3, q3⟩ := HSL.out w3 sx hr3 hk3
      have HP3 := Lib.hid p3
      have HQ3 : Hid (Keeps B w (w3.setCell ⟨g, 19, none⟩ (.string ⟨S.toArray⟩))) := Lib.hid (HKP.out.trans ((Keeps.below HB2.out).trans ((Keeps.below hb3).trans q3)))
      have HB3 : Hid (Below B w (w3.setCell ⟨g, 19, none⟩ (.string ⟨S.toArray⟩))) := Lib.hid ((HBB.out.trans (hb3.mono (Nat.le_trans hBw HBB.out.size))).setCell (p := ⟨g, 19, none⟩) hg _)
      have m19 := hr3.sum
      have f19 := hr3.free 19
      clear hr3 hk3 p3 q3 hb3
      go_wp2
      go_end0
      exact ⟨rfl, HP3.out, HQ3.out, HB3.out⟩
/-- seal, of any tree. -/
theorem seal_to (t : Tr) : SealTo t := by
  induction t using Tri.kid_ind with
  | h0 =>
    intro v w B _ _ _ _ h
    have e : v = .pointer none := h
    subst e
    exact seal_nil w B
  | h t hn IH =>
    intro v w B hB hBw hT ho h
    obtain ⟨g, s', K, rfl, -, h2, hr, hk⟩ := h.row hn
    cases s' with
    | true => exact seal_done w B hn ho hr hk
    | false => exact seal_open IH w B hB hBw hT hn ho hr (h2 rfl) hk
end Go.Proofs.YtlckcfpdiigjiaaGreatDoor
