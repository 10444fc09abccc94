/- NodeChk, NibSpread, NibJoin, NibOf, NibPack, NibUnpack, NibPackU, CodeText, JoinShelf -/
import Derived.Test.YtaficmboooaknaaGreatDoorPk04
import Derived.Test.YtaficmboooaknaaGreatDoorPk02
import Derived.Test.YtaficmboooaknaaGreatDoorChecked
import Derived.WalkKit
import Derived.WalkSpells
import Derived.WalkLawsBesides
import Derived.ShutString
import Derived.Lib.Hide
import Derived.Deep.RegionLaw
import Derived.Deep.AppendLies
import Derived.WalkSmall
import Derived.Lib.AppendStr
import Derived.Shelf.Strings.Builder1
import Derived.Shelf.Strings.Builder2
import Derived.Shelf.Strings.OnBuilder
namespace Go.Proofs.YtaficmboooaknaaGreatDoor
open Go.RowKit
open Go.Proofs.YtaficmboooaknaaGreatDoor.Nd (N)

set_option maxRecDepth 100000 in
theorem npath_any (p : List UInt8) (w : World) :
    Calls Tryz.prog 168 #[.string ⟨p.toArray⟩] w fun e w' => e = .returned (.bool (Nd.pathB p)) ∧ w = w' := by
  by_cases h : p.length ≤ 16
  · have h1 : (p.length : Int) ≤ 16 := by omega
    have hr : Nd.pathB p = Nib.fitL p := by simp [Nd.pathB, h]
    rw [hr]
    have HF := Lib.hid (fun w => fit_any p w (by omega))
    clear hr h
    go_enter Tryz.func168, Tryz.ntmps168
    go_wp2_with fail
    refine (HF.out _).mono ?_
    rintro e w1 ⟨rfl, rfl⟩
    go_wp2
    go_ret
    exact ⟨rfl, rfl⟩
  · have h1 : ¬ ((p.length : Int) ≤ 16) := by omega
    have hr : Nd.pathB p = false := by simp [Nd.pathB, h]
    rw [hr]
    clear hr h
    go_enter Tryz.func168, Tryz.ntmps168
    go_wp2
    go_ret
    exact ⟨rfl, rfl⟩

def aval (L : List (List UInt8)) : Value := .agg (scells L).toArray
set_option maxRecDepth 100000 in
theorem nempty_any (L : List (List UInt8)) (w : World) (hL : L.length = 16) :
    Calls Tryz.prog 169 #[aval L] w fun e w' => e = .returned (.bool (L == Nd.none16)) ∧ Below w.heap.size w w' := by
  unfold aval
  have h1 := fun w => eq_strs 9998 L Nd.none16 w hL rfl
  have hz : (scells Nd.none16).toArray = #[.string ⟨#[]⟩, .string ⟨#[]⟩, .string ⟨#[]⟩, .string ⟨#[]⟩, .string ⟨#[]⟩, .string ⟨#[]⟩, .string ⟨#[]⟩, .string ⟨#[]⟩, .string ⟨#[]⟩, .string ⟨#[]⟩, .string ⟨#[]⟩, .string ⟨#[]⟩, .string ⟨#[]⟩, .string ⟨#[]⟩, .string ⟨#[]⟩, .string ⟨#[]⟩] := rfl
  rw [hz] at h1
  have hcs : (scells L).toArray.size = 16 := by rw [List.size_toArray, scells_length, hL]
  have HI : Hid ((Tryz.prog.info? 108).map (·.size) = some (scells L).toArray.size) := Lib.hid (by rw [hcs]; kernel_rfl)
  have HRO : Hid ((w.alloc (.cells (scells L).toArray 108)).heap[w.heap.size]? = some (.cells (scells L).toArray 108 (0, 0))) := Lib.hid (heap_new_at w _ _ rfl)
  have HB : Hid (Below w.heap.size w (w.alloc (.cells (scells L).toArray 108))) := Lib.hid ((Below.refl _ w).alloc (Nat.le_refl _) _)
  obtain ⟨C, hC⟩ : ∃ C, (scells L).toArray = C := ⟨_, rfl⟩
  obtain ⟨b, hb⟩ : ∃ b, (L == Nd.none16) = b := ⟨_, rfl⟩
  rw [hC] at HI HRO HB h1 ⊢
  rw [hb] at h1 ⊢
  clear hC hb hcs hz hL
  go_enter Tryz.func169, Tryz.ntmps169
  go_wp2_with (refine wpList_load_row (by rfl) _ _ (by rfl) w.heap.size (by rfl) _ C _ _ HRO.out Tryz.underlying108 (by rfl) HI.out ?_)
  go_ret
  exact ⟨rfl, HB.out⟩

theorem wpList_load_mid_w {P : Program} {ops : Array Oper} {rest : List Oper} {op : Oper} {a : Act} {w : World} {Q : Exit → Act → World → Prop} (hw : Region.wanted op (yielded ops a.tmps) = true) (ty : TypeId) (x : Operand) (ho : op.op = .load ty x)
    (b o : Nat) (hx : a.eval x = .pointer (some ⟨b, o, none⟩)) (cs : List Value) (d : TypeDesc) (hc : w.rangeAt b o cs)
    (hu : P.underlying ty = some d) (hd : d.isRow = true) (hi : (P.info? ty).map (·.size) = some cs.length)
    (h : wpList P ops Q rest (a.put op.dst (.agg cs.toArray)) w) : wpList P ops Q (op :: rest) a w :=
  wpList_step fun _ hK => by rw [if_pos hw]; exact wp_load_mid ty x ho b o hx cs d hc hu hd hi (hK _ _ h)
theorem nbox (n : N) (w : World) (hn : n.kids.length = 16) : ∃ C, (ncl n).toArray = C ∧ Hid (Below w.heap.size w (w.alloc (.cells C 110))) ∧
    Hid (∀ w', Below (w.alloc (.cells C 110)).heap.size (w.alloc (.cells C 110)) w' → w'.cell? ⟨w.heap.size, 0, none⟩ = some (.int .i64 n.kind) ∧ w'.cell? ⟨w.heap.size, 1, none⟩ = some (.string ⟨n.path.toArray⟩) ∧ w'.cell? ⟨w.heap.size, 2, none⟩ = some (.string ⟨n.val.toArray⟩) ∧ w'.cell? ⟨w.heap.size, 3, none⟩ = some (.string ⟨(n.kids.getD 0 []).toArray⟩) ∧
      w'.rangeAt w.heap.size 3 (scells n.kids) ∧ w'.heap[w.heap.size]? = some (.cells C 110 (0, 0))) ∧
    Hid ((Tryz.prog.info? 110).map (·.size) = some C.size) ∧ Hid ((Tryz.prog.info? 108).map (·.size) = some (scells n.kids).length) := by
  have hat : NodeAt (w.alloc (.cells (ncl n).toArray 110)) w.heap.size n := heap_new_at w _ _ rfl
  have hkid : ∀ w' g, NodeAt w' g n → w'.cell? ⟨g, 3, none⟩ = some (.string ⟨(n.kids.getD 0 []).toArray⟩) := fun w' g h => by
    have h1 := h.kid 0 (by omega)
    have h2 : n.kids.getD 0 [] = n.kids[0]'(by omega) := by
      rw [List.getD_eq_getElem?_getD, List.getElem?_eq_getElem (by omega)]
      rfl
    rw [h2]
    exact h1
  refine ⟨_, rfl, Lib.hid ((Below.refl _ w).alloc (Nat.le_refl _) _), Lib.hid (fun w' h => ?_), Lib.hid ?_, Lib.hid ?_⟩
  · have h1 := hat.below h
    refine ⟨h1.kind, h1.path, h1.val, hkid w' _ h1, fun j v hv => ?_, h1⟩
    rw [cell_of_row w' _ (3 + j) _ _ _ h1, List.getElem?_toArray, Nat.add_comm 3 j]
    exact hv
  · rw [List.size_toArray, ncl_length n hn]; kernel_rfl
  · rw [scells_length, hn]; kernel_rfl
set_option maxRecDepth 100000 in
set_option maxHeartbeats 1000000 in
theorem nleaf_any (n : N) (w : World) (hn : n.kids.length = 16) :
    Calls Tryz.prog 145 #[ndval n] w fun e w' => e = .returned (.bool (Nd.leafB n)) ∧ Below w.heap.size w w' := by
  obtain ⟨C, hC, HB0, HCE, HI, HI2⟩ := nbox n w hn
  have HEM := Lib.hid (fun w => nempty_any n.kids w hn)
  have HPA := Lib.hid (fun w => npath_any n.path w)
  obtain ⟨c0, c1, c2, c3, cR, -⟩ := HCE.out _ (Below.refl _ _)
  have HCR := Lib.hid cR
  obtain ⟨P, hP⟩ : ∃ P, Nd.pathB n.path = P := ⟨_, rfl⟩
  obtain ⟨E, hE⟩ : ∃ E, (n.kids == Nd.none16) = E := ⟨_, rfl⟩
  unfold Nd.leafB ndval
  unfold aval at HEM
  rw [hC, hP, hE]
  rw [hP] at HPA
  rw [hE] at HEM
  clear hC hP hE cR c0 c3
  cases P with
  | false =>
    go_enter Tryz.func145, Tryz.ntmps145
    go_wp2_with fail
    refine (HPA.out _).mono ?_
    rintro e w1 ⟨rfl, rfl⟩
    go_wp2
    go_ret
    exact ⟨rfl, HB0.out⟩
  | true =>
    by_cases hv : n.val = []
    · rw [hv] at c2
      rw [hv]
      go_enter Tryz.func145, Tryz.ntmps145
      go_wp2_with fail
      refine (HPA.out _).mono ?_
      rintro e w1 ⟨rfl, rfl⟩
      go_wp2
      go_ret
      exact ⟨rfl, HB0.out⟩
    · have hv1 : (n.val == []) = false := by rw [beq_eq_false_iff_ne]; exact hv
      rw [decide_eq_true (p := n.val ≠ []) hv, Bool.true_and, Bool.true_and]
      by_cases hl : n.val.length ≤ 32
      · have hl1 : (n.val.length : Int) ≤ 32 := by omega
        rw [decide_eq_true hl, Bool.true_and]
        clear hl
        go_enter Tryz.func145, Tryz.ntmps145
        go_wp2_with fail
        refine (HPA.out _).mono ?_
        rintro e w1 ⟨rfl, rfl⟩
        go_wp2_with (refine wpList_load_mid_w (by rfl) _ _ (by rfl) w.heap.size 3 (by rfl) (scells n.kids) _ HCR.out Tryz.underlying108 (by rfl) HI2.out ?_)
        refine (HEM.out _).mono ?_
        rintro e w2 ⟨rfl, hb2⟩
        go_wp2
        go_ret
        exact ⟨rfl, bchain HB0.out hb2⟩
      · have hl1 : ¬ ((n.val.length : Int) ≤ 32) := by omega
        rw [decide_eq_false hl]
        clear hl
        go_enter Tryz.func145, Tryz.ntmps145
        go_wp2_with fail
        refine (HPA.out _).mono ?_
        rintro e w1 ⟨rfl, rfl⟩
        go_wp2
        go_ret
        exact ⟨rfl, HB0.out⟩
theorem wpList_load_row_w {P : Program} {ops : Array Oper} {rest : List Oper} {o : Oper} {a : Act} {w : World} {Q : Exit → Act → World → Prop} (hw : Region.wanted o (yielded ops a.tmps) = true) (ty : TypeId) (x : Operand) (ho : o.op = .load ty x)
    (g : Nat) (hx : a.eval x = .pointer (some ⟨g, 0, none⟩)) (t : TypeId) (cells : Array Value) (fr : Nat × Nat) (d : TypeDesc) (hg : w.heap[g]? = some (.cells cells t fr))
    (hu : P.underlying ty = some d) (hd : (match d with | .struct _ | .array _ _ => true | _ => false) = true) (hi : (P.info? ty).map (·.size) = some cells.size)
    (h : wpList P ops Q rest (a.put o.dst (.agg cells)) w) : wpList P ops Q (o :: rest) a w :=
  wpList_step fun _ hK => by rw [if_pos hw]; exact wp_load_row ty x ho g hx t cells fr d hg hu hd hi (hK _ _ h)
theorem wpList_store_fresh {P : Program} {ops : Array Oper} {rest : List Oper} {o : Oper} {a : Act} {w : World} {Q : Exit → Act → World → Prop} (hgd : o.guard = none) (ty : TypeId) (x y : Operand) (ho : o.op = .store ty x y)
    (g : Nat) (hg : g = w.heap.size) (cells : Array Value) (hx : a.eval x = .pointer (some ⟨g, 0, none⟩)) (hy : a.eval y = .agg cells)
    (t : TypeId) (old : Array Value) (hi : (P.info? ty).map (·.size) = some cells.size)
    (hold : old.size = cells.size) (h1 : cells.all (·.oneCell') = true)
    (h : wpList P ops Q rest (a.put o.dst undef) (w.alloc (.cells cells t))) : wpList P ops Q (o :: rest) a (w.alloc (.cells old t)) := by
  subst hg
  exact wpList_store_row hgd ty x y ho w.heap.size cells hx hy t old (heap_alloc_new w _) hi hold h1 (by rw [World.setRow_alloc_new]; exact h)
theorem scells_one (L : List (List UInt8)) : (scells L).toArray.all (·.oneCell') = true := by
  simp [scells, Value.oneCell']
theorem scells_set (L : List (List UInt8)) (i : Nat) (x : List UInt8) : scells (L.set i x) = (scells L).set i (.string ⟨x.toArray⟩) := by
  simp [scells, List.map_set]
set_option maxRecDepth 100000 in
set_option maxHeartbeats 1000000 in
theorem next_any (n : N) (w : World) (hn : n.kids.length = 16) :
    Calls Tryz.prog 146 #[ndval n] w fun e w' => e = .returned (.bool (Nd.extB n)) ∧ Below w.heap.size w w' := by
  obtain ⟨C, hC, HB0, HCE, HI, HI2⟩ := nbox n w hn
  have HEM := Lib.hid (fun w => nempty_any (n.kids.set 0 []) w (by simpa using hn))
  have HPA := Lib.hid (fun w => npath_any n.path w)
  have HL := Lib.hid (scells_length n.kids)
  have HON := Lib.hid (scells_one n.kids)
  have HST := Lib.hid (scells_set n.kids 0 [])
  obtain ⟨P, hP⟩ : ∃ P, Nd.pathB n.path = P := ⟨_, rfl⟩
  obtain ⟨E, hE⟩ : ∃ E, (n.kids.set 0 [] == Nd.none16) = E := ⟨_, rfl⟩
  obtain ⟨Z, hZ⟩ : ∃ Z, n.kids.getD 0 [] = Z := ⟨_, rfl⟩
  obtain ⟨R, hR⟩ : ∃ R, Nd.extB n = R := ⟨_, rfl⟩
  have HR := Lib.hid hR
  rw [hR]
  unfold Nd.extB at HR
  unfold ndval
  unfold aval at HEM
  have HSZ : Hid ((scells n.kids).toArray.size = 16) := Lib.hid (by rw [List.size_toArray, scells_length, hn])
  rw [hZ] at HCE HR
  rw [hC]
  rw [hP, hE] at HR
  rw [hP] at HPA
  rw [hE] at HEM
  clear hC hP hE hZ hR
  obtain ⟨O, hO⟩ : ∃ O, scells (n.kids.set 0 []) = O := ⟨_, rfl⟩
  obtain ⟨K, hK⟩ : ∃ K, scells n.kids = K := ⟨_, rfl⟩
  rw [hO] at HST HEM
  rw [hK] at HI2 HL HON HCE HST HSZ
  clear hO hK
  obtain ⟨c0, c1, c2, c3, cR, -⟩ := HCE.out _ (Below.refl _ _)
  have HCR := Lib.hid cR
  have hb2 : Below (w.alloc (.cells C 110)).heap.size (w.alloc (.cells C 110)) ((w.alloc (.cells C 110)).alloc (.cells (K.set 0 (.string ⟨#[]⟩)).toArray 108)) := (Below.refl _ _).alloc (Nat.le_refl _) _
  obtain ⟨e0, e1, e2, e3, -, -⟩ := HCE.out _ hb2
  have HB2 := Lib.hid (bchain HB0.out hb2)
  have HN2 := Lib.hid (heap_new_at (w.alloc (.cells C 110)) (.cells (K.set 0 (.string ⟨#[]⟩)).toArray 108) (w.heap.size + 1) (by simp))
  have HI3 : Hid ((Tryz.prog.info? 108).map (·.size) = some (K.set 0 (.string ⟨#[]⟩)).toArray.size) := Lib.hid (HI2.out.trans (by simp))
  have hKl : K.length = 16 := by have := HSZ.out; simpa using this
  have HEQ : Hid (O = K.set 0 (.string ⟨#[]⟩)) := Lib.hid HST.out
  clear c0 c1 c2 c3 e0 cR hb2
  by_cases hp : n.path = []
  · obtain rfl : R = false := by rw [← HR.out, hp]; rfl
    rw [hp] at e1
    go_enter Tryz.func146, Tryz.ntmps146
    go_wp2_with (first | (refine wpList_load_mid_w (by rfl) _ _ (by rfl) w.heap.size 3 (by rfl) K _ HCR.out Tryz.underlying108 (by rfl) HI2.out ?_) | (refine wpList_store_fresh (by rfl) _ _ _ (by rfl) (w.heap.size + 1) (by simp) K.toArray (by rfl) (by rfl) _ _ (HI2.out.trans (by simp)) HSZ.out.symm HON.out ?_))
    go_ret
    exact ⟨rfl, HB2.out⟩
  · have hp1 : (n.path == []) = false := by rw [beq_eq_false_iff_ne]; exact hp
    rw [decide_eq_true (p := n.path ≠ []) hp, Bool.true_and] at HR
    clear hp
    go_enter Tryz.func146, Tryz.ntmps146
    go_wp2_with (first | (refine wpList_load_mid_w (by rfl) _ _ (by rfl) w.heap.size 3 (by rfl) K _ HCR.out Tryz.underlying108 (by rfl) HI2.out ?_) | (refine wpList_store_fresh (by rfl) _ _ _ (by rfl) (w.heap.size + 1) (by simp) K.toArray (by rfl) (by rfl) _ _ (HI2.out.trans (by simp)) HSZ.out.symm HON.out ?_))
    refine (HPA.out _).mono ?_
    rintro e w1 ⟨rfl, rfl⟩
    cases P with
    | false =>
      obtain rfl : R = false := HR.out.symm
      go_wp2
      go_ret
      exact ⟨rfl, HB2.out⟩
    | true =>
      by_cases hv : n.val = []
      · rw [hv] at e2
        rw [decide_eq_true (p := n.val = []) hv, Bool.true_and, Bool.true_and] at HR
        by_cases hl : Z.length = 32
        · have hl1 : (Z.length : Int) = 32 := by omega
          rw [decide_eq_true hl, Bool.true_and] at HR
          obtain rfl : E = R := HR.out
          clear hl hv
          go_wp2_with (refine wpList_load_row_w (by rfl) _ _ (by rfl) (w.heap.size + 1) (by rfl) _ (K.set 0 (.string ⟨#[]⟩)).toArray _ _ HN2.out Tryz.underlying108 (by rfl) HI3.out ?_)
          have HB3 := HB2.out
          rw [← HEQ.out] at HB3 ⊢
          refine (HEM.out _).mono ?_
          rintro e w2 ⟨rfl, hb2⟩
          go_wp2
          go_ret
          exact ⟨rfl, bchain HB3 hb2⟩
        · have hl1 : ((Z.length : Int) == 32) = false := by rw [beq_eq_false_iff_ne]; omega
          have hl2 : ¬ ((Z.length : Int) = 32) := by omega
          obtain rfl : R = false := by rw [← HR.out, decide_eq_false hl]; rfl
          clear hl hv
          go_wp2
          go_ret
          exact ⟨rfl, HB2.out⟩
      · have hv1 : (n.val == []) = false := by rw [beq_eq_false_iff_ne]; exact hv
        obtain rfl : R = false := by rw [← HR.out, decide_eq_false (p := n.val = []) hv]; rfl
        clear hv
        go_wp2
        go_ret
        exact ⟨rfl, HB2.out⟩
theorem idx_strs (L : List (List UInt8)) (hL : L.length = 16) (k : Nat) (hk : k < 16) (w : World) : (Instr.index 108 (.agg (scells L).toArray) (.int .i64 k)).run Tryz.prog w = .ok (.string ⟨(L[k]'(by omega)).toArray⟩) w := by
  have hu := Tryz.underlying108
  have hk0 : (0 : Int) ≤ (k : Int) := by omega
  have hk8 : (k : Int) < 16 := by omega
  have hat : (scells L)[k]? = some (.string ⟨(L[k]'(by omega)).toArray⟩) := by simp [scells, hL, hk]
  have hs := Tryz.sizeOf9
  have ha := Tryz.isAgg9
  unfold Instr.index
  go_simp
set_option maxRecDepth 100000 in
set_option maxHeartbeats 1000000 in
theorem nbranch_any (n : N) (w : World) (hn : n.kids.length = 16) :
    Calls Tryz.prog 147 #[ndval n] w fun e w' => e = .returned (.bool (Nd.branchB n)) ∧ Below w.heap.size w w' := by
  obtain ⟨C, hC, HB0, HCE, HI, HI2⟩ := nbox n w hn
  obtain ⟨R, hR⟩ : ∃ R, Nd.branchB n = R := ⟨_, rfl⟩
  have HR := Lib.hid hR
  rw [hR]
  unfold Nd.branchB at HR
  unfold ndval
  rw [hC]
  clear hC hR
  obtain ⟨c0, c1, c2, c3, cR, -⟩ := HCE.out _ (Below.refl _ _)
  have HCR := Lib.hid cR
  clear c0 c3 cR
  by_cases hp : n.path = []
  case neg =>
    have hp1 : (n.path == []) = false := by rw [beq_eq_false_iff_ne]; exact hp
    obtain rfl : R = false := by rw [← HR.out, decide_eq_false hp]; rfl
    clear hp
    go_enter Tryz.func147, Tryz.ntmps147
    go_wp2
    go_ret
    exact ⟨rfl, HB0.out⟩
  rw [hp] at c1
  rw [decide_eq_true hp, Bool.true_and] at HR
  clear hp
  by_cases hl : n.val.length ≤ 32
  case neg =>
    have hl1 : (32 : Int) < (n.val.length : Int) := by omega
    obtain rfl : R = false := by rw [← HR.out, decide_eq_false hl]; rfl
    clear hl
    go_enter Tryz.func147, Tryz.ntmps147
    go_wp2
    go_ret
    exact ⟨rfl, HB0.out⟩
  have hl1 : ¬ ((32 : Int) < (n.val.length : Int)) := by omega
  rw [decide_eq_true hl, Bool.true_and] at HR
  clear hl
  obtain ⟨q, hq⟩ : ∃ q : Nat, (if n.val = [] then 0 else 1) = q := ⟨_, rfl⟩
  have hq1 : q ≤ 1 := by rw [← hq]; split <;> omega
  rw [hq] at HR
  have hvd : n.val = [] ∧ q = 0 ∨ (n.val == []) = false ∧ q = 1 := by
    by_cases h : n.val = []
    · exact Or.inl ⟨h, by rw [← hq, if_pos h]⟩
    · exact Or.inr ⟨by rw [beq_eq_false_iff_ne]; exact h, by rw [← hq, if_neg h]⟩
  clear hq
  have HKE : Hid (∀ (k : Nat) (hk : k < 16), ∀ w, (Instr.index 108 (.agg (scells n.kids).toArray) (.int .i64 k)).run Tryz.prog w = .ok (.string ⟨(n.kids[k]'(by omega)).toArray⟩) w) := Lib.hid (fun k hk w => idx_strs n.kids hn k hk w)
  have HN := Lib.hid hn
  go_enter Tryz.func147, Tryz.ntmps147
  rcases hvd with ⟨hv, rfl⟩ | ⟨hv, rfl⟩
  · rw [hv] at c2
    go_wp2_with (refine wpList_load_mid (by rfl) _ _ (by rfl) w.heap.size 3 (by rfl) (scells n.kids) _ HCR.out Tryz.underlying108 (by rfl) HI2.out ?_)
    obtain ⟨K, hK⟩ : ∃ K, scells n.kids = K := ⟨_, rfl⟩
    rw [hK] at HKE ⊢
    clear hK HCR HI2 HCE
    go_loopw [3, 22] (fun h i wr => ∃ k c : Nat, k ≤ 16 ∧ i = .int .i64 k ∧ h = .int .i64 c ∧ c = 0 + (Nd.kidsL (n.kids.take k)).length ∧ Nd.all32 (n.kids.take k) = true ∧ wr = w.alloc (.cells C 110)) (fun _ i _ => 16 - (intOf i).toNat)
    case atStart => exact ⟨0, 0, Nat.zero_le _, rfl, rfl, rfl, rfl, rfl⟩
    case round =>
      obtain ⟨k, c, hk, rfl, rfl, hc, hall, rfl⟩ := hrel
      have HALL := Lib.hid hall
      clear hall
      have hln : (Nd.kidsL (n.kids.take k)).length ≤ 16 := by
        unfold Nd.kidsL
        refine Nat.le_trans (List.length_filter_le _ _) ?_
        rw [List.length_take]
        omega
      have hc17 : (c : Int) ≤ 17 := by omega
      have HC := Lib.hid hc
      clear hc hln
      by_cases hlt : k < 16
      · have h1 : (k : Int) < 16 := by omega
        have h0 : (0 : Int) ≤ (k : Int) := by omega
        have n0 := HKE.out k hlt
        have HST := Lib.hid (Nd.kids_take n.kids k (by omega))
        have HAS := Lib.hid (Nd.all32_take n.kids k (by omega))
        have HAB : Hid (∀ (h : Nd.all32 (n.kids.take (k + 1)) = false), Nd.all32 n.kids = false) := Lib.hid (fun h => by
          unfold Nd.all32 at h ⊢
          have : n.kids = n.kids.take (k + 1) ++ n.kids.drop (k + 1) := (List.take_append_drop _ _).symm
          rw [this, List.all_append, h]
          rfl)
        obtain ⟨x, hx⟩ : ∃ x, n.kids[k]'(by omega) = x := ⟨_, rfl⟩
        rw [hx] at n0 HST HAS
        clear hx
        by_cases he : x = []
        · subst he
          rw [if_pos rfl] at HST
          go_wp2
          refine ⟨⟨k + 1, c, by omega, by go_num, rfl, by rw [HST.out, HC.out], by rw [HAS.out, HALL.out]; rfl, trivial⟩, by simp [intOf]; omega⟩
        · rw [if_neg he] at HST
          have he1 : (x == []) = false := by rw [beq_eq_false_iff_ne]; exact he
          by_cases h32 : x.length = 32
          · have h33 : (x.length : Int) = 32 := by omega
            have HHH : Hid (Nd.all32 (n.kids.take (k + 1)) = true) := Lib.hid (by rw [HAS.out, HALL.out]; simp [h32])
            clear he h32
            go_wp2
            refine ⟨⟨k + 1, c + 1, by omega, by go_num, by go_num, by rw [HST.out, List.length_append, HC.out]; rfl, HHH.out, trivial⟩, by simp [intOf]; omega⟩
          · have h33 : ¬ ((x.length : Int) = 32) := by omega
            have h34 : ((x.length : Int) == 32) = false := by rw [beq_eq_false_iff_ne]; exact h33
            obtain rfl : R = false := by
              rw [← HR.out, HAB.out (by rw [HAS.out, HALL.out]; simp [h32, he])]; rfl
            clear he h32
            go_wp2
            go_ret
            exact ⟨rfl, HB0.out⟩
      · have h1 : ¬ ((k : Int) < 16) := by omega
        obtain rfl : k = 16 := by omega
        rw [List.take_of_length_le (by have := HN.out; omega)] at HALL HC
        rw [HALL.out, Bool.true_and, ← HC.out] at HR
        by_cases h2 : 2 ≤ c
        · have h3 : (2 : Int) ≤ (c : Int) := by omega
          obtain rfl : R = true := by rw [← HR.out, decide_eq_true h2]
          clear h2
          go_wp2
          go_ret
          exact ⟨by simp, HB0.out⟩
        · have h3 : ¬ ((2 : Int) ≤ (c : Int)) := by omega
          obtain rfl : R = false := by rw [← HR.out, decide_eq_false h2]
          clear h2
          go_wp2
          go_ret
          exact ⟨by simp, HB0.out⟩
  · go_wp2_with (refine wpList_load_mid (by rfl) _ _ (by rfl) w.heap.size 3 (by rfl) (scells n.kids) _ HCR.out Tryz.underlying108 (by rfl) HI2.out ?_)
    obtain ⟨K, hK⟩ : ∃ K, scells n.kids = K := ⟨_, rfl⟩
    rw [hK] at HKE ⊢
    clear hK HCR HI2 HCE
    go_loopw [3, 22] (fun h i wr => ∃ k c : Nat, k ≤ 16 ∧ i = .int .i64 k ∧ h = .int .i64 c ∧ c = 1 + (Nd.kidsL (n.kids.take k)).length ∧ Nd.all32 (n.kids.take k) = true ∧ wr = w.alloc (.cells C 110)) (fun _ i _ => 16 - (intOf i).toNat)
    case atStart => exact ⟨0, 1, Nat.zero_le _, rfl, rfl, rfl, rfl, rfl⟩
    case round =>
      obtain ⟨k, c, hk, rfl, rfl, hc, hall, rfl⟩ := hrel
      have HALL := Lib.hid hall
      clear hall
      have hln : (Nd.kidsL (n.kids.take k)).length ≤ 16 := by
        unfold Nd.kidsL
        refine Nat.le_trans (List.length_filter_le _ _) ?_
        rw [List.length_take]
        omega
      have hc17 : (c : Int) ≤ 17 := by omega
      have HC := Lib.hid hc
      clear hc hln
      by_cases hlt : k < 16
      · have h1 : (k : Int) < 16 := by omega
        have h0 : (0 : Int) ≤ (k : Int) := by omega
        have n0 := HKE.out k hlt
        have HST := Lib.hid (Nd.kids_take n.kids k (by omega))
        have HAS := Lib.hid (Nd.all32_take n.kids k (by omega))
        have HAB : Hid (∀ (h : Nd.all32 (n.kids.take (k + 1)) = false), Nd.all32 n.kids = false) := Lib.hid (fun h => by
          unfold Nd.all32 at h ⊢
          have : n.kids = n.kids.take (k + 1) ++ n.kids.drop (k + 1) := (List.take_append_drop _ _).symm
          rw [this, List.all_append, h]
          rfl)
        obtain ⟨x, hx⟩ : ∃ x, n.kids[k]'(by omega) = x := ⟨_, rfl⟩
        rw [hx] at n0 HST HAS
        clear hx
        by_cases he : x = []
        · subst he
          rw [if_pos rfl] at HST
          go_wp2
          refine ⟨⟨k + 1, c, by omega, by go_num, rfl, by rw [HST.out, HC.out], by rw [HAS.out, HALL.out]; rfl, trivial⟩, by simp [intOf]; omega⟩
        · rw [if_neg he] at HST
          have he1 : (x == []) = false := by rw [beq_eq_false_iff_ne]; exact he
          by_cases h32 : x.length = 32
          · have h33 : (x.length : Int) = 32 := by omega
            have HHH : Hid (Nd.all32 (n.kids.take (k + 1)) = true) := Lib.hid (by rw [HAS.out, HALL.out]; simp [h32])
            clear he h32
            go_wp2
            refine ⟨⟨k + 1, c + 1, by omega, by go_num, by go_num, by rw [HST.out, List.length_append, HC.out]; rfl, HHH.out, trivial⟩, by simp [intOf]; omega⟩
          · have h33 : ¬ ((x.length : Int) = 32) := by omega
            have h34 : ((x.length : Int) == 32) = false := by rw [beq_eq_false_iff_ne]; exact h33
            obtain rfl : R = false := by
              rw [← HR.out, HAB.out (by rw [HAS.out, HALL.out]; simp [h32, he])]; rfl
            clear he h32
            go_wp2
            go_ret
            exact ⟨rfl, HB0.out⟩
      · have h1 : ¬ ((k : Int) < 16) := by omega
        obtain rfl : k = 16 := by omega
        rw [List.take_of_length_le (by have := HN.out; omega)] at HALL HC
        rw [HALL.out, Bool.true_and, ← HC.out] at HR
        by_cases h2 : 2 ≤ c
        · have h3 : (2 : Int) ≤ (c : Int) := by omega
          obtain rfl : R = true := by rw [← HR.out, decide_eq_true h2]
          clear h2
          go_wp2
          go_ret
          exact ⟨by simp, HB0.out⟩
        · have h3 : ¬ ((2 : Int) ≤ (c : Int)) := by omega
          obtain rfl : R = false := by rw [← HR.out, decide_eq_false h2]
          clear h2
          go_wp2
          go_ret
          exact ⟨by simp, HB0.out⟩
set_option maxRecDepth 100000 in
set_option maxHeartbeats 1000000 in
theorem ncheck_any (n : N) (w : World) (hn : n.kids.length = 16) :
    Calls Tryz.prog 114 #[ndval n] w fun e w' => e = .returned (.int .i64 (if Nd.fine n then 0 else 80)) ∧ Below w.heap.size w w' := by
  obtain ⟨C, hC, HB0, HCE, HI, HI2⟩ := nbox n w hn
  have HLE := Lib.hid (fun w => nleaf_any n w hn)
  have HEX := Lib.hid (fun w => next_any n w hn)
  have HBR := Lib.hid (fun w => nbranch_any n w hn)
  rw [Nd.fine_kinds n hn]
  unfold ndval at HLE HEX HBR ⊢
  rw [hC] at HLE HEX HBR ⊢
  obtain ⟨c0, -, -, -, -, cR⟩ := HCE.out _ (Below.refl _ _)
  have HRO := Lib.hid cR
  clear hC cR
  by_cases k1 : n.kind = 1
  · rw [if_pos k1]
    rw [k1] at c0
    obtain ⟨b, hb⟩ : ∃ b, Nd.leafB n = b := ⟨_, rfl⟩
    rw [hb] at HLE ⊢
    clear hb
    go_enter Tryz.func114, Tryz.ntmps114
    go_wp2_with (refine wpList_load_row (by rfl) _ _ (by rfl) w.heap.size (by rfl) _ C _ _ HRO.out Tryz.underlying110 (by rfl) HI.out ?_)
    refine (HLE.out _).mono ?_
    rintro e w1 ⟨rfl, hb1⟩
    have HB1 := Lib.hid (bchain HB0.out hb1)
    cases b
    all_goals go_wp2
    all_goals go_ret
    all_goals exact ⟨rfl, HB1.out⟩
  rw [if_neg k1]
  have e1 : (n.kind == 1) = false := by rw [beq_eq_false_iff_ne]; exact k1
  by_cases k2 : n.kind = 2
  · rw [if_pos k2]
    rw [k2] at c0
    obtain ⟨b, hb⟩ : ∃ b, Nd.extB n = b := ⟨_, rfl⟩
    rw [hb] at HEX ⊢
    clear hb
    go_enter Tryz.func114, Tryz.ntmps114
    go_wp2_with (refine wpList_load_row (by rfl) _ _ (by rfl) w.heap.size (by rfl) _ C _ _ HRO.out Tryz.underlying110 (by rfl) HI.out ?_)
    refine (HEX.out _).mono ?_
    rintro e w1 ⟨rfl, hb1⟩
    have HB1 := Lib.hid (bchain HB0.out hb1)
    cases b
    all_goals go_wp2
    all_goals go_ret
    all_goals exact ⟨rfl, HB1.out⟩
  rw [if_neg k2]
  have e2 : (n.kind == 2) = false := by rw [beq_eq_false_iff_ne]; exact k2
  by_cases k3 : n.kind = 3
  · rw [if_pos k3]
    rw [k3] at c0
    obtain ⟨b, hb⟩ : ∃ b, Nd.branchB n = b := ⟨_, rfl⟩
    rw [hb] at HBR ⊢
    clear hb
    go_enter Tryz.func114, Tryz.ntmps114
    go_wp2_with (refine wpList_load_row (by rfl) _ _ (by rfl) w.heap.size (by rfl) _ C _ _ HRO.out Tryz.underlying110 (by rfl) HI.out ?_)
    refine (HBR.out _).mono ?_
    rintro e w1 ⟨rfl, hb1⟩
    have HB1 := Lib.hid (bchain HB0.out hb1)
    cases b
    all_goals go_wp2
    all_goals go_ret
    all_goals exact ⟨rfl, HB1.out⟩
  rw [if_neg k3]
  have e3 : (n.kind == 3) = false := by rw [beq_eq_false_iff_ne]; exact k3
  go_enter Tryz.func114, Tryz.ntmps114
  go_wp2
  go_ret
  exact ⟨rfl, HB0.out⟩
end Go.Proofs.YtaficmboooaknaaGreatDoor
namespace Go.Proofs.YtaficmboooaknaaGreatDoor
open Go.RowKit

set_option maxHeartbeats 400000 in
theorem spread_any (l : List UInt8) (B : Nat) (v : Value) (xs : List UInt8) (w : World) (hB : B ≤ w.heap.size) (hl : l.length ≤ 2000000) (hx : xs.length ≤ 1000000)
    (hown : w.ownsRow B 5 1 v xs.length (cellsL xs)) :
    Calls Tryz.prog 96 #[v, .string ⟨l.toArray⟩] w fun e w' => ∃ v', e = .returned v' ∧ w'.ownsRow B 5 1 v' (xs ++ Nib.ofL l).length (cellsL (xs ++ Nib.ofL l)) ∧ Below B w w' := by
  obtain ⟨i0, hi, hz0, hz1, hz2⟩ := info_parts Tryz.infoByte
  go_enter Tryz.func96, Tryz.ntmps96
  go_wp2
  go_loopw [0, 8] (fun u i wr => ∃ k : Nat, k ≤ l.length ∧ i = .int .i64 k ∧ wr.ownsRow B 5 1 u (xs ++ Nib.ofL (l.take k)).length (cellsL (xs ++ Nib.ofL (l.take k))) ∧ Below B w wr) (fun _ i _ => l.length - (intOf i).toNat)
  case atStart => exact ⟨0, Nat.zero_le _, rfl, by simpa [Nib.ofL] using hown, Below.refl _ _⟩
  case round =>
    obtain ⟨k, hk, rfl, hrow, hbel⟩ := hrel
    by_cases hlt : k < l.length
    · have h1 : (k : Int) < (l.length : Int) := by omega
      have hsn := Lib.hid (Nib.ofL_snoc l k hlt)
      have hlen := Nib.ofL_length (l.take k)
      have hb := hbel.size
      obtain ⟨ys, hys⟩ : ∃ ys, xs ++ Nib.ofL (l.take k) = ys := ⟨_, rfl⟩
      have hyl : ys.length ≤ 6000000 := by rw [← hys]; simp [hlen]; omega
      rw [hys] at hrow
      have HY := Lib.hid hys
      clear hys hlen
      go_wp2
      go_region_law ((refine step_append_lies _ rfl (.tmp 11) (.tmp 20) 126 rfl B 5 i0 (.int .u8 0) 1 1 Tryz.underlying126 hi hz0 hz1 hz2 rfl (by decide) u0 ys.length (cellsL ys) (by simp [Act.eval]) ((hrow.alloc _).drew) ⟨wr.heap.size, 0, none⟩ 2 2 [.int .u8 (l[k].toNat / 16 : Int), .int .u8 (bits BinOp.and IntKind.u8 (l[k].toNat : Int) 15)] (by simp [Act.eval]) rfl (cell_two_new _ _ _ _) (by simp [Value.oneCell']) (by decide) (by unfold maxLen; omega) (by omega) (by simp; omega) _ rfl ?_; intro g cap w1 hown1 hgrow1 _ _))
      all_goals
        rw [byte_and15, ← Nib.toNat_div16] at hown1
        have hrow1 : w1.ownsRow B 5 1 (.slice (some ⟨g, 0, none⟩) (ys.length + 2) cap) (xs ++ Nib.ofL (l.take (k + 1))).length (cellsL (xs ++ Nib.ofL (l.take (k + 1)))) := by
          rw [hsn.out, ← List.append_assoc, HY.out]
          simpa [cellsL] using hown1
        have hbel1 : Below B w w1 := ((hbel.alloc (by omega) _).drew).grown hgrow1 (by simp; omega) (fun g hg => (hrow.lt g hg).1)
        clear hown1 hgrow1
        go_wp2
        go_roundw
        case rel => exact ⟨k + 1, by omega, by go_num, hrow1, hbel1⟩
        case measure => simp [intOf]; omega
    · go_wp2
      go_ret
      rw [List.take_of_length_le (by omega)] at hrow
      exact ⟨_, rfl, hrow, hbel⟩

end Go.Proofs.YtaficmboooaknaaGreatDoor
namespace Go.Proofs.YtaficmboooaknaaGreatDoor
open Go.RowKit

set_option maxRecDepth 100000 in
set_option maxHeartbeats 400000 in
theorem join_any (l : List UInt8) (B : Nat) (v : Value) (xs : List UInt8) (w : World) (hB : B ≤ w.heap.size) (hl : l.length ≤ 1000000) (hx : xs.length ≤ 1000000) (hfit : Nib.fitL l = true)
    (hown : w.ownsRow B 5 1 v xs.length (cellsL xs)) :
    Calls Tryz.prog 126 #[v, .string ⟨l.toArray⟩] w fun e w' => ∃ v', e = .returned v' ∧ w'.ownsRow B 5 1 v' (xs ++ Nib.joinL l).length (cellsL (xs ++ Nib.joinL l)) ∧ Below B w w' := by
  obtain ⟨i0, hi, hz0, hz1, hz2⟩ := info_parts Tryz.infoByte
  have HF := Lib.hid hfit; clear hfit
  go_enter Tryz.func126, Tryz.ntmps126
  go_wp2
  go_loopw [0, 9] (fun u i wr => ∃ k : Nat, 2 * k ≤ l.length ∧ i = .int .i64 k ∧ wr.ownsRow B 5 1 u (xs ++ Nib.joinL (l.take (2 * k))).length (cellsL (xs ++ Nib.joinL (l.take (2 * k)))) ∧ Below B w wr) (fun _ i _ => l.length / 2 - (intOf i).toNat)
  case atStart => exact ⟨0, by omega, rfl, by simpa [Nib.joinL] using hown, Below.refl _ _⟩
  case round =>
    obtain ⟨k, hk, rfl, hrow, hbel⟩ := hrel
    by_cases hlt : k < l.length / 2
    · have h1 : (2 : Int) * (k : Int) < (l.length : Int) := by omega
      have h2 : (2 : Int) * (k : Int) + 1 < (l.length : Int) := by omega
      have hsn := Lib.hid (Nib.joinL_snoc l k (by omega))
      have hlen := Nib.joinL_length (l.take (2 * k))
      have HA := Lib.hid (Nib.fitL_get l HF.out (2 * k) (by omega))
      have HC := Lib.hid (Nib.fitL_get l HF.out (2 * k + 1) (by omega))
      have hb := hbel.size
      obtain ⟨ys, hys⟩ : ∃ ys, xs ++ Nib.joinL (l.take (2 * k)) = ys := ⟨_, rfl⟩
      have hyl : ys.length ≤ 4000000 := by rw [← hys]; simp [hlen]; omega
      rw [hys] at hrow
      have HY := Lib.hid hys
      clear hys hlen
      go_wp2
      have e1 : IntKind.i64.wrap (2 * (k : Int)) = 2 * (k : Int) := IntWalk.i64_in _ (by omega)
      have e2 : IntKind.i64.wrap (2 * (k : Int) + 1) = 2 * (k : Int) + 1 := IntWalk.i64_in _ (by omega)
      have e3 : (0 : Int) ≤ 2 * (k : Int) := by omega
      have e4 : (0 : Int) ≤ 2 * (k : Int) + 1 := by omega
      have e5 : (2 * (k : Int)).toNat = 2 * k := by omega
      have e6 : (2 * (k : Int) + 1).toNat = 2 * k + 1 := by omega
      have s1 : ys.length + 1 ≤ maxLen := by unfold maxLen; omega
      have s2 : (ys.length + 1) * 1 ≤ 140737488355328 := by omega
      have s3 : B ≤ wr.heap.size + 1 := by omega
      go_region_law ((refine step_append_lies _ rfl (.tmp 12) (.tmp 24) 126 rfl B 5 i0 (.int .u8 0) 1 1 Tryz.underlying126 hi hz0 hz1 hz2 rfl (by decide) u0 ys.length (cellsL ys) (by simp [Act.eval]) ((hrow.alloc _).drew) ⟨wr.heap.size, 0, none⟩ 1 1 [.int .u8 (bits BinOp.or IntKind.u8 ((l[2 * k].toNat : Int) * 16 % 256) (l[2 * k + 1].toNat : Int))] (by simp [Act.eval]) rfl (cell_one_new _ _ _) (by simp [Value.oneCell']) (by decide) s1 s2 (by simpa using s3) _ rfl ?_; intro g cap w1 hown1 hgrow1 _ _))
      all_goals
        rw [byte_join _ _ HA.out HC.out] at hown1
        have hrow1 : w1.ownsRow B 5 1 (.slice (some ⟨g, 0, none⟩) (ys.length + 1) cap) (xs ++ Nib.joinL (l.take (2 * (k + 1)))).length (cellsL (xs ++ Nib.joinL (l.take (2 * (k + 1))))) := by
          rw [hsn.out, ← List.append_assoc, HY.out]
          simpa [cellsL] using hown1
        have hbel1 : Below B w w1 := ((hbel.alloc (by omega) _).drew).grown hgrow1 (by simp; omega) (fun g hg => (hrow.lt g hg).1)
        clear hown1 hgrow1
        go_wp2
        go_roundw
        case rel => exact ⟨k + 1, by omega, by go_num, hrow1, hbel1⟩
        case measure => simp [intOf]; omega
    · go_wp2
      go_ret
      have e : Nib.joinL (l.take (2 * k)) = Nib.joinL l := Nib.joinL_take_end l k (by omega)
      rw [e] at hrow
      exact ⟨_, rfl, hrow, hbel⟩

end Go.Proofs.YtaficmboooaknaaGreatDoor
namespace Go.Proofs.YtaficmboooaknaaGreatDoor
open Go.RowKit

set_option maxHeartbeats 400000 in
theorem of_any (l : List UInt8) (w : World) (hl : l.length ≤ 2000000) :
    Calls Tryz.prog 59 #[.string ⟨l.toArray⟩] w fun e w' => e = .returned (.string ⟨(Nib.ofL l).toArray⟩) ∧ Below w.heap.size w w' := by
  go_enter Tryz.func59, Tryz.ntmps59
  go_wp2_with fail
  refine (spread_any l w.heap.size _ [] w (Nat.le_refl _) hl (by simp) (ownsNil w _)).mono ?_
  rintro e w1 ⟨v', rfl, hown, hbel⟩
  have hc := conv_own hown
  go_wp2
  go_ret
  exact ⟨rfl, hbel⟩

set_option maxHeartbeats 400000 in
theorem key_bad (l : List UInt8) (w : World) (hl : l.length ≤ 1000000) (hf : Nib.fitL l = false) :
    Calls Tryz.prog 84 #[.string ⟨l.toArray⟩] w fun e w' => e = .returned (.tuple #[.string ⟨#[]⟩, .int .i64 3]) ∧ Below w.heap.size w w' := by
  have HF := Lib.hid hf; clear hf
  go_enter Tryz.func84, Tryz.ntmps84
  go_wp2_with fail
  refine (fit_any l w hl).mono ?_
  rintro e w1 ⟨rfl, rfl⟩
  rw [HF.out]
  go_wp2
  go_ret2
  exact ⟨rfl, Below.refl _ _⟩

set_option maxHeartbeats 400000 in
theorem key_odd (l : List UInt8) (w : World) (hl : l.length ≤ 1000000) (hf : Nib.fitL l = true) (ho : l.length % 2 = 1) :
    Calls Tryz.prog 84 #[.string ⟨l.toArray⟩] w fun e w' => e = .returned (.tuple #[.string ⟨#[]⟩, .int .i64 4]) ∧ Below w.heap.size w w' := by
  have HF := Lib.hid hf; clear hf
  have ho1 : ((l.length : Int) % 2 != 0) = true := by rw [bne_iff_ne]; omega
  clear ho
  go_enter Tryz.func84, Tryz.ntmps84
  go_wp2_with fail
  refine (fit_any l w hl).mono ?_
  rintro e w1 ⟨rfl, rfl⟩
  rw [HF.out]
  go_wp2
  go_ret2
  exact ⟨rfl, Below.refl _ _⟩

set_option maxHeartbeats 400000 in
theorem key_good (l : List UInt8) (w : World) (hl : l.length ≤ 1000000) (hf : Nib.fitL l = true) (ho : l.length % 2 = 0) :
    Calls Tryz.prog 84 #[.string ⟨l.toArray⟩] w fun e w' => e = .returned (.tuple #[.string ⟨(Nib.joinL l).toArray⟩, .int .i64 0]) ∧ Below w.heap.size w w' := by
  have HF := Lib.hid hf; clear hf
  have ho1 : ((l.length : Int) % 2 != 0) = false := by simp; omega
  clear ho
  go_enter Tryz.func84, Tryz.ntmps84
  go_wp2_with fail
  refine (fit_any l w hl).mono ?_
  rintro e w1 ⟨rfl, rfl⟩
  rw [HF.out]
  go_wp2_with fail
  refine (join_any l w.heap.size _ [] w (Nat.le_refl _) hl (by simp) HF.out (ownsNil w _)).mono ?_
  rintro e w1 ⟨v', rfl, hown, hbel⟩
  have hc := conv_own hown
  go_wp2
  go_ret2
  exact ⟨rfl, hbel⟩

end Go.Proofs.YtaficmboooaknaaGreatDoor
namespace Go.Proofs.YtaficmboooaknaaGreatDoor
open Go.RowKit

set_option maxHeartbeats 400000 in
theorem pack_even (l : List UInt8) (leaf : Bool) (w : World) (hl : l.length ≤ 1000000) (hf : Nib.fitL l = true) (ho : l.length % 2 = 0) :
    Calls Tryz.prog 176 #[.string ⟨l.toArray⟩, .bool leaf] w fun e w' => e = .returned (.tuple #[.string ⟨(Nib.packL l leaf).toArray⟩, .int .i64 0]) ∧ Below w.heap.size w w' := by
  have HF := Lib.hid hf; clear hf
  have HP := Lib.hid (Nib.packL_even l leaf ho)
  have ho1 : ((l.length : Int) % 2 != 0) = false := by simp; omega
  clear ho
  cases leaf
  · go_enter Tryz.func176, Tryz.ntmps176
    go_wp2_with fail
    refine (fit_any l w hl).mono ?_
    rintro e w1 ⟨rfl, rfl⟩
    rw [HF.out]
    go_wp2_with fail
    refine (join_any l w.heap.size _ [0] _ (by simp) hl (by simp) HF.out (ownsOne w _ (Nat.le_refl _) 0 _ rfl)).mono ?_
    rintro e w1 ⟨v', rfl, hown, hbel⟩
    have hc := conv_own hown
    go_wp2
    go_ret2
    rw [HP.out]
    exact ⟨rfl, ((Below.refl _ _).alloc (Nat.le_refl _) _).trans hbel⟩
  · go_enter Tryz.func176, Tryz.ntmps176
    go_wp2_with fail
    refine (fit_any l w hl).mono ?_
    rintro e w1 ⟨rfl, rfl⟩
    rw [HF.out]
    go_wp2_with fail
    refine (join_any l w.heap.size _ [32] _ (by simp) hl (by simp) HF.out (ownsOne w _ (Nat.le_refl _) 32 _ or_0_32)).mono ?_
    rintro e w1 ⟨v', rfl, hown, hbel⟩
    have hc := conv_own hown
    go_wp2
    go_ret2
    rw [HP.out]
    exact ⟨rfl, ((Below.refl _ _).alloc (Nat.le_refl _) _).trans hbel⟩

set_option maxHeartbeats 400000 in
theorem pack_odd (a : UInt8) (t : List UInt8) (leaf : Bool) (w : World) (hl : (a :: t).length ≤ 1000000) (hf : Nib.fitL (a :: t) = true) (ho : t.length % 2 = 0) :
    Calls Tryz.prog 176 #[.string ⟨(a :: t).toArray⟩, .bool leaf] w fun e w' => e = .returned (.tuple #[.string ⟨(Nib.packL (a :: t) leaf).toArray⟩, .int .i64 0]) ∧ Below w.heap.size w w' := by
  have HF := Lib.hid hf; clear hf
  have HP := Lib.hid (Nib.packL_odd a t leaf ho)
  have ho1 : (((t.length : Int) + 1) % 2 != 0) = true := by rw [bne_iff_ne]; omega
  clear ho
  have HA := Lib.hid (Nib.fitL_get (a :: t) HF.out 0 (by simp))
  have HT := Lib.hid (Nib.fitL_tail a t HF.out)
  have hlt : t.length ≤ 1000000 := by simp at hl; omega
  cases leaf
  · go_enter Tryz.func176, Tryz.ntmps176
    go_wp2_with fail
    refine (fit_any (a :: t) w hl).mono ?_
    rintro e w1 ⟨rfl, rfl⟩
    rw [HF.out]
    go_wp2_with fail
    rw [extract_mk_tail]
    refine (join_any t w.heap.size _ [16 + a] _ (by simp) hlt (by simp) HT.out (ownsOne w _ (Nat.le_refl _) (16 + a) _ (or_head0 a HA.out))).mono ?_
    rintro e w1 ⟨v', rfl, hown, hbel⟩
    have hc := conv_own hown
    go_wp2
    go_ret2
    rw [HP.out]
    exact ⟨rfl, ((Below.refl _ _).alloc (Nat.le_refl _) _).trans hbel⟩
  · go_enter Tryz.func176, Tryz.ntmps176
    go_wp2_with fail
    refine (fit_any (a :: t) w hl).mono ?_
    rintro e w1 ⟨rfl, rfl⟩
    rw [HF.out]
    go_wp2_with fail
    rw [extract_mk_tail]
    refine (join_any t w.heap.size _ [48 + a] _ (by simp) hlt (by simp) HT.out (ownsOne w _ (Nat.le_refl _) (48 + a) _ (or_head2 a HA.out))).mono ?_
    rintro e w1 ⟨v', rfl, hown, hbel⟩
    have hc := conv_own hown
    go_wp2
    go_ret2
    rw [HP.out]
    exact ⟨rfl, ((Below.refl _ _).alloc (Nat.le_refl _) _).trans hbel⟩

end Go.Proofs.YtaficmboooaknaaGreatDoor
namespace Go.Proofs.YtaficmboooaknaaGreatDoor
open Go.RowKit

theorem mod16_dec (b : UInt8) : (((b.toNat : Int) % 16 == 0)) = decide (b.toNat % 16 = 0) := by
  rw [Bool.eq_iff_iff]; simp; omega

set_option maxHeartbeats 400000 in
theorem may_any (b : UInt8) (w : World) : Calls Tryz.prog 166 #[.int .u8 (b.toNat : Int)] w fun e w' => e = .returned (.bool (Nib.mayL b)) ∧ w = w' := by
  have a1 := and16 b
  have a2 := and15 b
  by_cases h1 : b.toNat / 16 ≤ 3
  · by_cases h2 : b.toNat / 16 % 2 = 1
    · have e1 : (bits .and .u8 (b.toNat : Int) 16 != 0) = true := by rw [a1]; simpa using h2
      have HR : Hid (Nib.mayL b = true) := by simp [Hid, Nib.mayL, h1, h2]
      have h1' : (b.toNat : Int) ≤ 63 := by omega
      clear a1 a2 h1 h2
      go_enter Tryz.func166, Tryz.ntmps166
      go_wp2
      go_ret
      exact ⟨by rw [HR.out]; rfl, rfl⟩
    · have e1 : (bits .and .u8 (b.toNat : Int) 16 != 0) = false := by rw [a1]; simpa using h2
      have HR : Hid (Nib.mayL b = decide (b.toNat % 16 = 0)) := by simp [Hid, Nib.mayL, h1, h2]
      have h1' : (b.toNat : Int) ≤ 63 := by omega
      clear a1 a2 h1 h2
      go_enter Tryz.func166, Tryz.ntmps166
      go_wp2
      go_ret
      exact ⟨by rw [HR.out, ← mod16_dec]; rfl, rfl⟩
  · have HR : Hid (Nib.mayL b = false) := by simp [Hid, Nib.mayL, h1]
    have h1' : (63 : Int) < (b.toNat : Int) := by omega
    clear a1 a2 h1
    go_enter Tryz.func166, Tryz.ntmps166
    go_wp2
    go_ret
    exact ⟨by rw [HR.out]; rfl, rfl⟩

set_option maxHeartbeats 400000 in
theorem unpack_nil (w : World) : Calls Tryz.prog 143 #[.string ⟨#[]⟩] w fun e w' => e = .returned (.tuple #[.string ⟨#[]⟩, .bool false, .int .i64 3]) ∧ w = w' := by
  go_enter Tryz.func143, Tryz.ntmps143
  go_wp2
  go_ret3
  exact ⟨rfl, rfl⟩

set_option maxHeartbeats 400000 in
theorem unpack_bad (b : UInt8) (t : List UInt8) (w : World) (_hl : t.length ≤ 1000000) (h : Nib.mayL b = false) :
    Calls Tryz.prog 143 #[.string ⟨(b :: t).toArray⟩] w fun e w' => e = .returned (.tuple #[.string ⟨#[]⟩, .bool false, .int .i64 3]) ∧ w = w' := by
  have H := Lib.hid h; clear h
  go_enter Tryz.func143, Tryz.ntmps143
  go_wp2_with fail
  refine (may_any b w).mono ?_
  rintro e w1 ⟨rfl, rfl⟩
  rw [H.out]
  go_wp2
  go_ret3
  exact ⟨rfl, rfl⟩

set_option maxHeartbeats 400000 in
theorem unpack_odd (b : UInt8) (t : List UInt8) (w : World) (hl : t.length ≤ 1000000) (h : Nib.mayL b = true) (ho : b.toNat / 16 % 2 = 1) :
    Calls Tryz.prog 143 #[.string ⟨(b :: t).toArray⟩] w fun e w' => e = .returned (.tuple #[.string ⟨((b % 16) :: Nib.ofL t).toArray⟩, .bool (decide (2 ≤ b.toNat / 16)), .int .i64 0]) ∧ Below w.heap.size w w' := by
  have H := Lib.hid h
  have e1 : (bits .and .u8 (b.toNat : Int) 16 != 0) = true := by rw [and16]; simpa using ho
  have H2 := Lib.hid (and32 b (Nib.mayL_le b h).1)
  clear h ho
  have hidx : ∀ h, (⟨(b :: t).toArray⟩ : ByteArray)[0]'h = b := fun _ => rfl
  go_enter Tryz.func143, Tryz.ntmps143
  go_wp2_with fail
  refine (may_any b w).mono ?_
  rintro e w1 ⟨rfl, rfl⟩
  rw [H.out]
  go_wp2_with fail
  go_region_with ((go_at_call 96; rw [extract_mk_tail]; refine (spread_any t w.heap.size _ [b % 16] _ ?_ (Nat.le_trans hl (by decide)) ?_ ?_).mono ?_; (simp); (simp); (exact ownsOne w _ (Nat.le_refl _) (b % 16) _ (byte_and15 b)); rintro e w1 ⟨v', rfl, hown, hbel⟩; have hc := conv_own hown))
  all_goals
    go_wp2
    go_ret3
    exact ⟨by rw [← H2.out]; rfl, (((Below.refl _ _).alloc (Nat.le_refl _) _).drew).trans hbel⟩

set_option maxHeartbeats 400000 in
theorem unpack_even (b : UInt8) (t : List UInt8) (w : World) (hl : t.length ≤ 1000000) (h : Nib.mayL b = true) (ho : b.toNat / 16 % 2 = 0) :
    Calls Tryz.prog 143 #[.string ⟨(b :: t).toArray⟩] w fun e w' => e = .returned (.tuple #[.string ⟨(Nib.ofL t).toArray⟩, .bool (decide (2 ≤ b.toNat / 16)), .int .i64 0]) ∧ Below w.heap.size w w' := by
  have H := Lib.hid h
  have e1 : (bits .and .u8 (b.toNat : Int) 16 != 0) = false := by rw [and16]; simp [ho]
  have H2 := Lib.hid (and32 b (Nib.mayL_le b h).1)
  clear h ho
  have hidx : ∀ h, (⟨(b :: t).toArray⟩ : ByteArray)[0]'h = b := fun _ => rfl
  go_enter Tryz.func143, Tryz.ntmps143
  go_wp2_with fail
  refine (may_any b w).mono ?_
  rintro e w1 ⟨rfl, rfl⟩
  rw [H.out]
  go_wp2_with fail
  go_region_with ((go_at_call 96; rw [extract_mk_tail]; refine (spread_any t w.heap.size _ [] _ ?_ (Nat.le_trans hl (by decide)) ?_ ?_).mono ?_; (simp); (simp); (exact ownsNil _ _); rintro e w1 ⟨v', rfl, hown, hbel⟩; have hc := conv_own hown))
  all_goals
    go_wp2
    go_ret3
    exact ⟨by rw [← H2.out]; rfl, ((Below.refl _ _).drew).trans hbel⟩

end Go.Proofs.YtaficmboooaknaaGreatDoor
namespace Go.Proofs.YtaficmboooaknaaGreatDoor
open Go.RowKit

theorem pack_good (l : List UInt8) (leaf : Bool) (w : World) (hl : l.length ≤ 1000000) (hf : Nib.fitL l = true) :
    Calls Tryz.prog 176 #[.string ⟨l.toArray⟩, .bool leaf] w fun e w' => e = .returned (.tuple #[.string ⟨(Nib.packL l leaf).toArray⟩, .int .i64 0]) ∧ Below w.heap.size w w' := by
  rcases Nat.mod_two_eq_zero_or_one l.length with h | h
  · exact pack_even l leaf w hl hf h
  · match l, hl, hf, h with
    | a :: t, hl, hf, h => exact pack_odd a t leaf w hl hf (by simp at h; omega)
theorem unpack_none (s : List UInt8) (w : World) (hl : s.length ≤ 1000000) (h : Nib.unpackL s = none) :
    Calls Tryz.prog 143 #[.string ⟨s.toArray⟩] w fun e w' => e = .returned (.tuple #[.string ⟨#[]⟩, .bool false, .int .i64 3]) ∧ Below w.heap.size w w' := by
  match s, hl, h with
  | [], _, _ => exact (unpack_nil w).mono fun e w' ⟨h1, h2⟩ => ⟨h1, h2 ▸ Below.refl _ _⟩
  | b :: t, hl, h =>
    have hm : Nib.mayL b = false := by
      rcases hm : Nib.mayL b with _ | _
      · rfl
      · rcases Nat.mod_two_eq_zero_or_one (b.toNat / 16) with h1 | h1
        · rw [Nib.unpackL_even b t hm h1] at h; cases h
        · rw [Nib.unpackL_odd b t hm h1] at h; cases h
    exact (unpack_bad b t w (by simp at hl; omega) hm).mono fun e w' ⟨h1, h2⟩ => ⟨h1, h2 ▸ Below.refl _ _⟩
theorem unpack_some (s p : List UInt8) (is : Bool) (w : World) (hl : s.length ≤ 1000000) (h : Nib.unpackL s = some (p, is)) :
    Calls Tryz.prog 143 #[.string ⟨s.toArray⟩] w fun e w' => e = .returned (.tuple #[.string ⟨p.toArray⟩, .bool is, .int .i64 0]) ∧ Below w.heap.size w w' := by
  match s, hl, h with
  | b :: t, hl, h =>
    have hm := Nib.unpackL_may b t p is h
    rcases Nat.mod_two_eq_zero_or_one (b.toNat / 16) with h1 | h1
    · rw [Nib.unpackL_even b t hm h1] at h
      simp only [Option.some.injEq, Prod.mk.injEq] at h
      obtain ⟨rfl, rfl⟩ := h
      exact unpack_even b t w (by simp at hl; omega) hm h1
    · rw [Nib.unpackL_odd b t hm h1] at h
      simp only [Option.some.injEq, Prod.mk.injEq] at h
      obtain ⟨rfl, rfl⟩ := h
      exact unpack_odd b t w (by simp at hl; omega) hm h1

end Go.Proofs.YtaficmboooaknaaGreatDoor
namespace Go.Proofs.YtaficmboooaknaaGreatDoor
open Go.RowKit

theorem bitLenAux_eq (f n : Nat) (h : n < 2 ^ f) : Lib.bitLenAux f n = Code.lenN n := by
  induction f generalizing n with
  | zero => simp at h; subst h; rfl
  | succ f ih =>
    simp only [Lib.bitLenAux]
    by_cases h0 : n = 0
    · simp [h0, Code.lenN]
    · rw [if_neg h0, ih (n / 2) (by rw [Nat.pow_succ] at h; omega)]
      by_cases h1 : 2 ≤ n
      · rw [Code.len_shift n 1 (by simpa using h1)]
      · have e : n = 1 := by omega
        subst e
        decide
theorem len64_any (n : Nat) (w : World) (hn : n < 2 ^ 63) :
    Calls Tryz.prog 192 #[.int .u64 (n : Int)] w fun e w' => e = .returned (.int .i64 (Code.lenN n : Nat)) ∧ w' = w := by
  have h := shelf_len64 (n : Int) w (by omega) (by omega)
  rw [Int.toNat_natCast, Lib.bitLen, bitLenAux_eq 64 n (by omega)] at h
  exact h

end Go.Proofs.YtaficmboooaknaaGreatDoor
namespace Go.Proofs.YtaficmboooaknaaGreatDoor
open Go.RowKit

theorem shr_byte (n k j : Nat) : (n : Int) / 2 ^ (8 * (k - 1 - j)) % 256 = ((UInt8.ofNat (n / 256 ^ (k - 1 - j) % 256)).toNat : Nat) := by
  have e : (2 : Nat) ^ (8 * (k - 1 - j)) = 256 ^ (k - 1 - j) := by rw [Nat.pow_mul]
  have e2 : (2 : Int) ^ (8 * (k - 1 - j)) = ((256 ^ (k - 1 - j) : Nat) : Int) := by rw [← e]; simp
  rw [Code.ofNat_toNat _ (by omega), e2]
  simp

set_option maxHeartbeats 400000 in
theorem addNum_any (n : Nat) (hn : n < 2 ^ 63) (B : Nat) (v : Value) (xs : List UInt8) (w : World) (hB : B ≤ w.heap.size) (hx : xs.length ≤ 100000000)
    (hown : w.ownsRow B 5 1 v xs.length (cellsL xs)) :
    Calls Tryz.prog 186 #[v, .int .i64 n] w fun e w' => ∃ v', e = .returned v' ∧ w'.ownsRow B 5 1 v' (xs ++ Code.numL n).length (cellsL (xs ++ Code.numL n)) ∧ Below B w w' := by
  obtain ⟨i0, hi, hz0, hz1, hz2⟩ := info_parts Tryz.infoByte
  obtain ⟨L, hL⟩ : ∃ L, Code.lenN n = L := ⟨_, rfl⟩
  have hs := Code.len_sz n
  have h8 := Code.sz_le8 n (by omega)
  obtain ⟨k, hk⟩ : ∃ k, Code.sz n = k := ⟨_, rfl⟩
  rw [hL, hk] at hs
  have hL8 : L ≤ 64 := by omega
  have hsi : ((L : Int) + 7) / 8 = (k : Int) := by omega
  clear hs
  rw [hk] at h8
  have HL := Lib.hid hL
  have HK := Lib.hid hk
  clear hL hk
  go_enter Tryz.func186, Tryz.ntmps186
  go_wp2_with fail
  refine (len64_any n w hn).mono ?_
  rintro e w1 ⟨rfl, rfl⟩
  rw [HL.out]
  go_wp2_with ((at_builtin; refine wpList_append_own _ rfl _ _ 126 rfl B 5 i0 (.int .u8 0) 1 1 Tryz.underlying126 hi hz0 hz1 hz2 rfl (by decide) v xs.length (cellsL xs) rfl (hown.alloc _) ⟨w1.heap.size, 0, none⟩ 1 1 [.int .u8 (k : Int)] rfl rfl ?c1 ?c2 ?c3 ?c4 ?c5 ?_))
  case c1 => exact cell_one_new _ _ _
  case c2 => simp [Value.oneCell']
  case c3 => unfold maxLen; omega
  case c4 => omega
  case c5 => simp; omega
  intro v1 w2 hown1 hgrow1 _
  have hrow1 : w2.ownsRow B 5 1 v1 (xs ++ [UInt8.ofNat k] ++ Code.be 0 (n / 256 ^ (k - 0))).length (cellsL (xs ++ [UInt8.ofNat k] ++ Code.be 0 (n / 256 ^ (k - 0)))) := by
    have e := Code.ofNat_toNat k (by omega)
    simpa [cellsL, Code.be, Nat.mod_eq_of_lt (show k < 256 by omega)] using hown1
  have hbel1 : Below B w1 w2 := ((Below.refl B w1).alloc (by omega) _).grown hgrow1 (by simp; omega) (fun g hg => (hown.lt g hg).1)
  clear hown1 hgrow1 hown
  go_wp2
  go_loopw [0, 18] (fun u i wr => ∃ j : Nat, j ≤ k ∧ i = .int .i64 j ∧ wr.ownsRow B 5 1 u (xs ++ [UInt8.ofNat k] ++ Code.be j (n / 256 ^ (k - j))).length (cellsL (xs ++ [UInt8.ofNat k] ++ Code.be j (n / 256 ^ (k - j)))) ∧ Below B w1 wr) (fun _ i _ => k - (intOf i).toNat)
  case atStart => exact ⟨0, Nat.zero_le _, rfl, hrow1, hbel1⟩
  case round =>
    obtain ⟨j, hj, rfl, hrow, hbel⟩ := hrel
    by_cases hlt : j < k
    · have h1 : (j : Int) < (k : Int) := by omega
      have hsn := Lib.hid (Code.be_step k j n hlt)
      have hlen := Code.be_length j (n / 256 ^ (k - j))
      have hb := hbel.size
      obtain ⟨ys, hys⟩ : ∃ ys, xs ++ [UInt8.ofNat k] ++ Code.be j (n / 256 ^ (k - j)) = ys := ⟨_, rfl⟩
      have hyl : ys.length ≤ 200000000 := by rw [← hys]; simp [hlen]; omega
      rw [hys] at hrow
      have HY := Lib.hid hys
      clear hys hlen
      go_wp2_with ((at_builtin; refine wpList_append_own _ rfl _ _ 126 rfl B 5 i0 (.int .u8 0) 1 1 Tryz.underlying126 hi hz0 hz1 hz2 rfl (by decide) u0 ys.length (cellsL ys) rfl (hrow.alloc _) ⟨wr.heap.size, 0, none⟩ 1 1 [.int .u8 ((n : Int) / 2 ^ (8 * (k - 1 - j)) % 256)] rfl rfl ?c1 ?c2 ?c3 ?c4 ?c5 ?_))
      case c1 => exact cell_one_new _ _ _
      case c2 => simp [Value.oneCell']
      case c3 => unfold maxLen; omega
      case c4 => omega
      case c5 => simp; omega
      intro v2 w3 hown2 hgrow2 _
      rw [shr_byte] at hown2
      have hrow2 : w3.ownsRow B 5 1 v2 (xs ++ [UInt8.ofNat k] ++ Code.be (j + 1) (n / 256 ^ (k - (j + 1)))).length (cellsL (xs ++ [UInt8.ofNat k] ++ Code.be (j + 1) (n / 256 ^ (k - (j + 1))))) := by
        rw [← hsn.out, ← List.append_assoc, HY.out, cellsL_append, List.length_append]
        exact hown2
      have hbel2 : Below B w1 w3 := (hbel.alloc (by omega) _).grown hgrow2 (by simp; omega) (fun g hg => (hrow.lt g hg).1)
      clear hown2 hgrow2 hrow
      go_wp2
      go_roundw
      case rel => exact ⟨j + 1, by omega, by go_num, hrow2, hbel2⟩
      case measure => simp [intOf]; omega
    · go_wp2
      go_ret
      have e : j = k := by omega
      subst e
      rw [Nat.sub_self, Nat.pow_zero, Nat.div_one, List.append_assoc, List.singleton_append] at hrow
      refine ⟨_, rfl, ?_, hbel⟩
      rw [Code.numL, HK.out]
      exact hrow

end Go.Proofs.YtaficmboooaknaaGreatDoor
namespace Go.Proofs.YtaficmboooaknaaGreatDoor
open Go.RowKit

theorem strCells_mk (l : List UInt8) : Lib.strCells ⟨l.toArray⟩ = cellsL l := by simp [Lib.strCells, cellsL]

set_option maxHeartbeats 400000 in
theorem addText_any (s : List UInt8) (B : Nat) (v : Value) (xs : List UInt8) (w : World) (hB : B ≤ w.heap.size) (hx : xs.length ≤ 100000000) (hl : s.length ≤ 100000000)
    (hown : w.ownsRow B 5 1 v xs.length (cellsL xs)) :
    Calls Tryz.prog 177 #[v, .string ⟨s.toArray⟩] w fun e w' => ∃ v', e = .returned v' ∧ w'.ownsRow B 5 1 v' (xs ++ Code.textL s).length (cellsL (xs ++ Code.textL s)) ∧ Below B w w' := by
  obtain ⟨i0, hi, hz0, hz1, hz2⟩ := info_parts Tryz.infoByte
  go_enter Tryz.func177, Tryz.ntmps177
  go_wp2_with fail
  refine (addNum_any s.length (by omega) B v xs w hB hx hown).mono ?_
  rintro e w1 ⟨v', rfl, hown1, hbel⟩
  have hb := hbel.size
  have hlen : (xs ++ Code.numL s.length).length ≤ 100000010 := by
    have := Code.sz_le8 s.length (by omega)
    have := Code.numL_length s.length
    rw [List.length_append]; omega
  obtain ⟨ys, hys⟩ : ∃ ys, xs ++ Code.numL s.length = ys := ⟨_, rfl⟩
  rw [hys] at hown1 hlen
  have HY := Lib.hid hys
  clear hys hown
  go_wp2_with ((at_builtin; refine Lib.wpList_append_own_string _ rfl _ _ 126 9 rfl B 5 i0 Tryz.underlying126 Tryz.underlying9 hi hz0 hz1 hz2 v' ys.length (cellsL ys) rfl hown1 ⟨s.toArray⟩ rfl ?c3 ?c4 ?c5 ?_))
  case c3 => rw [size_of_list]; unfold maxLen; omega
  case c4 => rw [size_of_list]; omega
  case c5 => omega
  intro v2 w2 hown2 hgrow2 _
  rw [strCells_mk] at hown2
  have hrow : w2.ownsRow B 5 1 v2 (xs ++ Code.textL s).length (cellsL (xs ++ Code.textL s)) := by
    rw [Code.textL, ← List.append_assoc, HY.out, List.length_append, cellsL_append]
    exact hown2
  have hbel2 : Below B w w2 := hbel.grown hgrow2 (by omega) (fun g hg => (hown1.lt g hg).1)
  clear hown2 hgrow2
  go_wp2
  go_ret
  exact ⟨_, rfl, hrow, hbel2⟩

theorem text_any (s : List UInt8) (w : World) (hl : s.length ≤ 100000000) :
    Calls Tryz.prog 159 #[.string ⟨s.toArray⟩] w fun e w' => e = .returned (.string ⟨(Code.textL s).toArray⟩) ∧ Below w.heap.size w w' := by
  go_enter Tryz.func159, Tryz.ntmps159
  go_wp2_with fail
  refine (addText_any s w.heap.size _ [] w (Nat.le_refl _) (by simp) hl (ownsNil w _)).mono ?_
  rintro e w1 ⟨v', rfl, hown, hbel⟩
  have hc := conv_own hown
  go_wp2
  go_ret
  exact ⟨rfl, hbel⟩

end Go.Proofs.YtaficmboooaknaaGreatDoor
namespace Go.Proofs.YtaficmboooaknaaGreatDoor
open Go.Shelf Go.RowKit
def lays156_ren : Go.Shelf.Ren := ⟨fun | 156 => 161 | 165 => 178 | 166 => 179 | 169 => 180 | 240 => 187 | 241 => 188 | 276 => 193 | 277 => 194 | n => n, fun | 31 => 29 | 9 => 9 | 3 => 3 | 4 => 4 | 0 => 0 | 20 => 20 | 72 => 227 | 76 => 231 | 70 => 225 | 37 => 126 | 75 => 230 | 127 => 164 | 164 => 241 | 5 => 5 | 80 => 47 | n => n, fun | n => n⟩
theorem lays156 : Go.Proofs.Lays.n156 Tryz.prog lays156_ren := {
  mixed := by kernel_rfl
  f156 := Tryz.func161.trans (congrArg some (by kernel_rfl))
  f165 := Tryz.func178.trans (congrArg some (by kernel_rfl))
  f166 := Tryz.func179.trans (congrArg some (by kernel_rfl))
  f169 := Tryz.func180.trans (congrArg some (by kernel_rfl))
  f240 := Tryz.func187.trans (congrArg some (by kernel_rfl))
  f241 := Tryz.func188.trans (congrArg some (by kernel_rfl))
  f276 := Tryz.func193.trans (congrArg some (by kernel_rfl))
  f277 := Tryz.func194.trans (congrArg some (by kernel_rfl))
  t0 := Tryz.underlying0
  a0 := Tryz.isAgg0
  z0 := Tryz.sizeOf0
  v0 := Tryz.zeroValue0
  t3 := Tryz.underlying3
  a3 := Tryz.isAgg3
  z3 := Tryz.sizeOf3
  v3 := Tryz.zeroValue3
  t4 := Tryz.underlying4
  a4 := Tryz.isAgg4
  z4 := Tryz.sizeOf4
  v4 := Tryz.zeroValue4
  t9 := Tryz.underlying9
  a9 := Tryz.isAgg9
  z9 := Tryz.sizeOf9
  v9 := Tryz.zeroValue9
  t20 := Tryz.underlying20
  a20 := Tryz.isAgg20
  z20 := Tryz.sizeOf20
  v20 := Tryz.zeroValue20
  t31 := Tryz.underlying29
  a31 := Tryz.isAgg29
  z31 := Tryz.sizeOf29
  v31 := Tryz.zeroValue29
  t37 := Tryz.underlying126
  a37 := Tryz.isAgg126
  z37 := Tryz.sizeOf126
  v37 := Tryz.zeroValue126
  t70 := Tryz.underlying225
  a70 := Tryz.isAgg225
  z70 := Tryz.sizeOf225
  v70 := Tryz.zeroValue225
  t72 := Tryz.underlying227
  a72 := Tryz.isAgg227
  z72 := Tryz.sizeOf227
  v72 := Tryz.zeroValue227
  t75 := Tryz.underlying230
  a75 := Tryz.isAgg230
  z75 := Tryz.sizeOf230
  v75 := Tryz.zeroValue230
  t76 := Tryz.underlying231
  a76 := Tryz.isAgg231
  z76 := Tryz.sizeOf231
  v76 := Tryz.zeroValue231
  t127 := Tryz.underlying164
  a127 := Tryz.isAgg164
  z127 := Tryz.sizeOf164
  v127 := Tryz.zeroValue164
  t164 := Tryz.underlying241
  a164 := Tryz.isAgg241
  z164 := Tryz.sizeOf241
  v164 := Tryz.zeroValue241 }
theorem shelf_Builder_Extra_156 : Builder.Extra Tryz.prog lays156_ren := {
  sizeBuilder := by kernel_rfl
  liesBuilder := by kernel_rfl
  t5 := Tryz.underlying5
  a5 := Tryz.isAgg5
  z5 := Tryz.sizeOf5
  v5 := Tryz.zeroValue5
  infoByte := by kernel_rfl
  cellsByte := by kernel_rfl
  sizeByte := by kernel_rfl
  neB5 := by decide }
open Go.RowKit in
theorem shelf_strings_Join (bk o c : Nat) (xs : List ByteArray) (sep : ByteArray) (w : World) (hcells : ∀ (j : Nat) x, xs[j]? = some x → w.cell? ⟨bk, o + j, none⟩ = some (.string x)) (hbk : bk < w.heap.size) (hN : xs.length ≤ 140737488355328) (hcap : xs.length ≤ c) (hlen : (Lib.join (xs.map (·.data.toList)) sep.data.toList).length ≤ 140737488355328) :
    Calls Tryz.prog 161 #[.slice (some ⟨bk, o, none⟩) xs.length c, .string sep] w fun e w' => e = .returned (.string ⟨(Lib.join (xs.map (·.data.toList)) sep.data.toList).toArray⟩) ∧ Below w.heap.size w w' := Any.strings_Join lays156 shelf_Builder_Extra_156 bk o c xs sep w hcells hbk hN hcap hlen
end Go.Proofs.YtaficmboooaknaaGreatDoor
