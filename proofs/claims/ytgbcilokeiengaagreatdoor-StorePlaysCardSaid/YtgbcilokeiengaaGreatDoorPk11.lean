/- StoreRefGet, StoreMarks, DigMath, ShaSumMath, ShaRot, ShaBase, ShaHash, ShaTurn -/
import Derived.Test.YtgbcilokeiengaaGreatDoorPk03
import Derived.Test.YtgbcilokeiengaaGreatDoorPk07
import Derived.Test.YtgbcilokeiengaaGreatDoorPk10
import Derived.Laws.MakeOwn
import Derived.Test.YtgbcilokeiengaaGreatDoorPk01
import Derived.WalkKit
import Derived.Test.YtgbcilokeiengaaGreatDoorProg
import Derived.Lib.Hide
import Derived.Deep.QuietTactic
import Derived.BigQuiet
import Derived.Deep.WholeRow
import Derived.Deep.MidRow
import Derived.Laws.CopyOwn
import Derived.Deep.RegionHeld3
import Derived.Deep.DrawnRows
import Derived.Deep.Cut
import Derived.Deep.CutRange
namespace Go.Proofs.YtgbcilokeiengaaGreatDoor
open Go.RowKit
open Go.Proofs.YtgbcilokeiengaaGreatDoor.Sto (St)

theorem bel_drewQ {B : Nat} {a w w' : World} (h : Below B a w) (hq : ∃ q, w' = w.drewN q) : Below B a w' := by
  obtain ⟨q, rfl⟩ := hq
  exact bel_drewN h q
set_option maxRecDepth 8000 in
set_option maxHeartbeats 1000000 in
theorem rstGet_any (S : St) (v : Value) (x : List UInt8) (w : World) (hv : StL w v S) (hl : S.length ≤ 10000) (hS : Sto.Rising S) :
    Calls Tryz.prog 30 #[v, .string ⟨x.toArray⟩] w fun e w' => e = .returned (.tuple #[.string ⟨((Sto.look S x).getD []).toArray⟩, .bool (Sto.look S x).isSome]) ∧ Below w.heap.size w w' := by
  have HV := Lib.hid hv
  have HA := Lib.hid (rstAt_any S v x w hv hl)
  have HS := Lib.hid hS
  have HL := Lib.hid hl
  obtain ⟨A, cap, rfl, -, -⟩ := hv.form
  clear hv hS hl
  go_enter Tryz.func30, Tryz.ntmps30
  go_wp2_with fail
  refine HA.out.mono ?_
  rintro e w1 ⟨i, b, rfl, hat, hq⟩
  have hb1 : Below w.heap.size w w1 := bel_drewQ (Below.refl _ _) hq
  have HB1 := Lib.hid hb1
  cases b with
  | false =>
    obtain ⟨-, h2, -⟩ := hat.lost HS.out
    have H2 := Lib.hid h2
    clear hb1 hq hat h2
    go_wp2
    go_ret2
    exact ⟨by rw [H2.out]; rfl, HB1.out⟩
  | true =>
    obtain ⟨hi, -, h2, -⟩ := hat.there HS.out
    obtain ⟨b, o, rfl, n0, n1, n2⟩ := (HV.out.below hb1).at i hi
    have h1 : (i : Int) < (S.length : Int) := by omega
    have h0 : (0 : Int) ≤ (i : Int) := by omega
    obtain ⟨y, hy⟩ : ∃ y, S[i].2 = y := ⟨_, rfl⟩
    rw [hy] at n1 h2
    have H2 := Lib.hid h2
    clear hb1 hq hat n0 n2 hy h2
    go_wp2
    go_ret2
    exact ⟨by rw [H2.out]; rfl, HB1.out⟩

set_option maxRecDepth 100000 in
set_option maxHeartbeats 2000000 in
theorem rstNode_any (S : St) (v : Value) (x : List UInt8) (w : World) (hv : StL w v S) (hl : S.length ≤ 10000) (hS : Sto.Rising S) (hsh : ∀ p ∈ S, p.1.length ≤ 32 ∧ p.2.length ≤ 1000) :
    Calls Tryz.prog 32 #[v, .string ⟨x.toArray⟩] w fun e w' => e = .returned (.tuple #[ndval (Sto.nodeOf S x).1, .int .i64 (Sto.nodeOf S x).2]) ∧ Below w.heap.size w w' := by
  have hb0 : Below w.heap.size w (w.alloc (.cells #[.int .i64 0, .string ⟨#[]⟩, .string ⟨#[]⟩, .string ⟨#[]⟩, .string ⟨#[]⟩, .string ⟨#[]⟩, .string ⟨#[]⟩, .string ⟨#[]⟩, .string ⟨#[]⟩, .string ⟨#[]⟩, .string ⟨#[]⟩, .string ⟨#[]⟩, .string ⟨#[]⟩, .string ⟨#[]⟩, .string ⟨#[]⟩, .string ⟨#[]⟩, .string ⟨#[]⟩, .string ⟨#[]⟩, .string ⟨#[]⟩] 72)) := (Below.refl _ w).alloc (Nat.le_refl _) _
  have HG := Lib.hid (rstGet_any S v x _ (hv.below hb0) hl hS)
  have hz0 : (w.alloc (.cells #[.int .i64 0, .string ⟨#[]⟩, .string ⟨#[]⟩, .string ⟨#[]⟩, .string ⟨#[]⟩, .string ⟨#[]⟩, .string ⟨#[]⟩, .string ⟨#[]⟩, .string ⟨#[]⟩, .string ⟨#[]⟩, .string ⟨#[]⟩, .string ⟨#[]⟩, .string ⟨#[]⟩, .string ⟨#[]⟩, .string ⟨#[]⟩, .string ⟨#[]⟩, .string ⟨#[]⟩, .string ⟨#[]⟩, .string ⟨#[]⟩] 72)).heap[w.heap.size]? = some (.cells (ncl Nd.zero).toArray 72 (0, 0)) := heap_new_at w _ _ rfl
  have HSH : Hid (∀ t, Sto.look S x = some t → t.length ≤ 1000000) := Lib.hid (fun t ht => by have := (Sto.short_look hS hsh ht).2; omega)
  have HI19 : Hid ((Tryz.prog.info? 72).map (·.size) = some 19) := Lib.hid (by kernel_rfl)
  have HBZ : Hid (Tryz.prog.built 72 [] = some (ncl Nd.zero).toArray) := Lib.hid (by rfl)
  have HOZ := Lib.hid (ncl_one Nd.zero)
  have HSZ : Hid ((ncl Nd.zero).toArray.size = 19) := Lib.hid rfl
  have HB0 := Lib.hid hb0
  have HZ0 := Lib.hid hz0
  unfold Sto.nodeOf
  obtain ⟨o, ho⟩ : ∃ o, Sto.look S x = o := ⟨_, rfl⟩
  rw [ho] at HG HSH ⊢
  cases o with
  | none =>
    simp only [Option.getD_none, Option.isSome_none] at HG
    unfold ndval
    obtain ⟨Z, hZ⟩ : ∃ Z, (ncl Nd.zero).toArray = Z := ⟨_, rfl⟩
    rw [hZ] at HBZ HOZ HSZ HZ0 ⊢
    have HIZ : Hid ((Tryz.prog.info? 72).map (·.size) = some Z.size) := Lib.hid (by rw [HSZ.out]; exact HI19.out)
    clear hZ hv hb0 hz0 ho hS hsh hl
    go_enter Tryz.func32, Tryz.ntmps32
    go_wp2_with fail
    refine HG.out.mono ?_
    rintro e w1 ⟨rfl, hb1⟩
    have HZ1 := Lib.hid ((hb1.block _ (lt_of_heap HZ0.out)).trans HZ0.out)
    have HB1 := Lib.hid (HB0.out.trans (hb1.mono HB0.out.size))
    clear hb1
    go_wp2_with (first | (refine wpList_build_some (by rfl) _ _ (by rfl) [] (by first | rfl | (simp [Act.eval]; done) | kernel_rfl) Z HBZ.out ?_) | (refine wpList_store_row (by rfl) _ _ _ (by rfl) w.heap.size Z (by rfl) (by rfl) _ _ HZ1.out HIZ.out rfl HOZ.out ?_))
    refine bodyPost_ret (nresults_c1t rfl _ _ w.heap.size _ _ _ _ rfl (setRow_heap _ _ _ _ _ _ HZ1.out) Tryz.underlying72 rfl HIZ.out) rfl ⟨rfl, below_setRow HB1.out (Nat.le_refl _) _⟩
  | some t =>
    simp only [Option.getD_some, Option.isSome_some] at HG
    have HD := Lib.hid (fun w => rndecode_any t w (HSH.out t rfl))
    unfold NDecPost at HD
    have hk16 : (Nd.dec t).1.kids.length = 16 := by
      rcases Nd.dec_is t with ⟨_, _, h, _⟩ | ⟨_, h, _⟩
      · exact h
      · rw [h]; rfl
    dsimp only
    obtain ⟨⟨n, c⟩, hD⟩ : ∃ D, Nd.dec t = D := ⟨_, rfl⟩
    rw [hD] at HD hk16 ⊢
    dsimp only at HD hk16 ⊢
    have HON := Lib.hid (ncl_one n)
    have HSN : Hid ((ncl n).toArray.size = 19) := Lib.hid (by rw [List.size_toArray, ncl_length n hk16])
    unfold ndval at HD ⊢
    obtain ⟨A, hA⟩ : ∃ A, (ncl n).toArray = A := ⟨_, rfl⟩
    rw [hA] at HD HON HSN ⊢
    have HI : Hid ((Tryz.prog.info? 72).map (·.size) = some A.size) := Lib.hid (by rw [HSN.out]; exact HI19.out)
    have HSE : Hid ((ncl Nd.zero).toArray.size = A.size) := Lib.hid (by rw [HSZ.out, HSN.out])
    obtain ⟨Z, hZ⟩ : ∃ Z, (ncl Nd.zero).toArray = Z := ⟨_, rfl⟩
    rw [hZ] at HZ0 HSE
    clear hA hD hk16 hv hb0 hz0 ho HSH hS hsh hl hZ HBZ HOZ HSZ
    go_enter Tryz.func32, Tryz.ntmps32
    go_wp2_with fail
    refine HG.out.mono ?_
    rintro e w1 ⟨rfl, hb1⟩
    have HZ1 := Lib.hid ((hb1.block _ (lt_of_heap HZ0.out)).trans HZ0.out)
    have HB1 := Lib.hid (HB0.out.trans (hb1.mono HB0.out.size))
    clear hb1
    go_wp2_with fail
    refine (HD.out _).mono ?_
    rintro e w2 ⟨rfl, hb2⟩
    have HZ2 := Lib.hid ((hb2.block _ (lt_of_heap HZ1.out)).trans HZ1.out)
    have HB2 := Lib.hid (HB1.out.trans (hb2.mono HB1.out.size))
    clear hb2
    go_wp2_with (refine wpList_store_row (by rfl) _ _ _ (by rfl) w.heap.size A (by rfl) (by rfl) _ _ HZ2.out HI.out HSE.out HON.out ?_)
    refine bodyPost_ret (nresults_c1t rfl _ _ w.heap.size _ _ _ _ rfl (setRow_heap _ _ _ _ _ _ HZ2.out) Tryz.underlying72 rfl HI.out) rfl ⟨rfl, below_setRow HB2.out (Nat.le_refl _) _⟩

set_option maxRecDepth 8000 in
set_option maxHeartbeats 1000000 in
theorem rstSums_any (S : St) (v : Value) (w : World) (hv : StL w v S) (hl : S.length ≤ 10000) :
    Calls Tryz.prog 27 #[v] w (RowPost (Sto.keys S) w) := by
  have HV := Lib.hid hv
  have HL := Lib.hid hl
  obtain ⟨i0, hi, hz0, hz1, hz2⟩ := info_parts Tryz.infoStr
  obtain ⟨A, cap, rfl, -, -⟩ := hv.form
  clear hv hl
  go_enter Tryz.func27, Tryz.ntmps27
  go_wp2
  go_loopw [3, 4] (fun sv i wr => ∃ (s : Value) (k : Nat), s = sv ∧ k ≤ S.length ∧ i = .int .i64 k ∧ Own wr w.heap.size s (Sto.keys (S.take k)) ∧ Below w.heap.size w wr) (fun _ i _ => S.length - (intOf i).toNat)
  case atStart => exact ⟨_, 0, rfl, Nat.zero_le _, rfl, Own.nil _ _, Below.refl _ _⟩
  case round =>
    obtain ⟨s, k, rfl, hk, rfl, hown, hb⟩ := hrel
    have HO := Lib.hid hown
    have HB := Lib.hid hb
    have HZ := Lib.hid hb.size
    by_cases hlt : k < S.length
    · have h1 : (k : Int) < (S.length : Int) := by omega
      have h0 : (0 : Int) ≤ (k : Int) := by omega
      have hnb : (k : Int) ≤ 100000 := by have := HL.out; omega
      obtain ⟨b, o, rfl, n0, n1, n2⟩ := (HV.out.below hb).at k hlt
      have HSN : Hid (Sto.keys (S.take (k + 1)) = Sto.keys (S.take k) ++ [S[k].1]) := Lib.hid (by simp only [Sto.keys]; rw [List.take_succ_eq_append_getElem hlt, List.map_append]; rfl)
      have hKl : (Sto.keys (S.take k)).length = k := by simp [Sto.keys]; omega
      obtain ⟨x, hx⟩ : ∃ x, S[k].1 = x := ⟨_, rfl⟩
      rw [hx] at n2 HSN
      obtain ⟨K, hK⟩ : ∃ K, Sto.keys (S.take k) = K := ⟨_, rfl⟩
      rw [hK] at HO HSN hKl
      have HKL : Hid (K.length ≤ 10000) := Lib.hid (by have := HL.out; omega)
      clear hown hb hx hK n0 n1 hKl
      go_wp2_with (at_builtin; refine wpList_append_lies _ rfl _ _ _ rfl w.heap.size 9 i0 (.string ⟨#[]⟩) 1 16 Tryz.underlying26 hi hz0 hz1 hz2 rfl (by decide) s K.length (scells K) (by rfl) (World.ownsRow.alloc HO.out _) ⟨wr.heap.size, 0, none⟩ 1 1 (scells [x]) (by rfl) rfl (World.news_of_block (heap_new_at _ _ _ rfl)) (by simp [scells, Value.oneCell']) (by decide) (by have := HKL.out; unfold maxLen; omega) (by have := HKL.out; omega) (by have := HZ.out; simp; omega) (wr.heap.size + 1) (by simp) ?_; intro g' cap' w5 hown5 hgrow5 hat5 hlt5)
      have ha : Below wr.heap.size wr (wr.alloc (.cells #[.string ⟨x.toArray⟩] 9)) := (Below.refl _ wr).alloc (Nat.le_refl _) _
      have hB5 : Below w.heap.size w w5 := HB.out.trans (((Out.of ha).trans (Out.grown hgrow5 (F := fun j => s.ownBlock = some j) (fun j e => e))).below (fun j hj => (HO.out.lt j hj).1) HZ.out)
      refine ⟨⟨_, k + 1, rfl, by omega, by go_num, ?_, hB5⟩, by simp [intOf]; omega⟩
      rw [HSN.out]
      unfold Own
      rw [scells_append, List.length_append]
      exact hown5
    · have h1 : ¬ ((k : Int) < (S.length : Int)) := by omega
      have HF : Hid (Own wr w.heap.size s (Sto.keys S)) := Lib.hid (by rw [List.take_of_length_le (by omega)] at hown; exact hown)
      clear hown hb
      go_wp2
      go_ret
      exact ⟨s, rfl, HF.out, HB.out⟩
end Go.Proofs.YtgbcilokeiengaaGreatDoor
namespace Go.Proofs.YtgbcilokeiengaaGreatDoor.Sto
/-- The marks of the first k of the list. -/
def m0K (S : St) (l : List T) (k : Nat) : List Bool := S.map fun a => decide (a.1 ∈ l.take k)
theorem m0K_len (S : St) (l : List T) (k : Nat) : (m0K S l k).length = S.length := by simp [m0K]
theorem m0K_zero (S : St) (l : List T) : m0K S l 0 = List.replicate S.length false := by
  unfold m0K
  simp [List.map_const']
theorem m0K_all (S : St) (l : List T) : m0K S l l.length = marks0 S l := by simp [m0K, marks0]
theorem m0K_there {S : St} (hS : Rising S) {l : List T} {k i : Nat} (hk : k < l.length) (h : AtIs S l[k] i true) : (m0K S l k).set i true = m0K S l (k + 1) := by
  obtain ⟨hi, e, _, _⟩ := h.there hS
  apply List.ext_getElem
  · simp [m0K]
  · intro j h1 h2
    have hj : j < S.length := by simpa [m0K] using h1
    rw [List.getElem_set]
    simp only [m0K, List.getElem_map]
    have hm : S[j].1 ∈ l.take (k + 1) ↔ S[j].1 ∈ l.take k ∨ S[j].1 = l[k] := by
      rw [List.take_succ_eq_append_getElem hk, List.mem_append, List.mem_singleton]
    by_cases hij : i = j
    · subst hij
      rw [if_pos rfl]
      exact (decide_eq_true (hm.2 (Or.inr e))).symm
    · rw [if_neg hij]
      have hne : S[j].1 ≠ l[k] := fun q => by
        rw [← e] at q
        rcases Nat.lt_trichotomy i j with h3 | h3 | h3
        · exact lt_ne (List.pairwise_iff_getElem.1 hS i j hi hj h3) q.symm
        · exact hij h3
        · exact lt_ne (List.pairwise_iff_getElem.1 hS j i hj hi h3) q
      have hmm : S[j].1 ∈ l.take (k + 1) ↔ S[j].1 ∈ l.take k := hm.trans ⟨fun q => q.resolve_right hne, Or.inl⟩
      by_cases hc : S[j].1 ∈ l.take k
      · rw [decide_eq_true hc, decide_eq_true (hmm.2 hc)]
      · rw [decide_eq_false hc, decide_eq_false (fun q => hc (hmm.1 q))]
theorem m0K_lost {S : St} (hS : Rising S) {l : List T} {k i : Nat} (hk : k < l.length) (h : AtIs S l[k] i false) : m0K S l k = m0K S l (k + 1) := by
  obtain ⟨hn, _, _⟩ := h.lost hS
  unfold m0K
  refine List.map_congr_left fun a ha => ?_
  have hne : a.1 ≠ l[k] := fun q => hn (q ▸ List.mem_map.2 ⟨a, ha, rfl⟩)
  have hm : a.1 ∈ l.take (k + 1) ↔ a.1 ∈ l.take k := by
    rw [List.take_succ_eq_append_getElem hk, List.mem_append, List.mem_singleton]
    exact ⟨fun q => q.resolve_right hne, Or.inl⟩
  by_cases hc : a.1 ∈ l.take k
  · rw [decide_eq_true hc, decide_eq_true (hm.2 hc)]
  · rw [decide_eq_false hc, decide_eq_false (fun q => hc (hm.1 q))]
/-- The marks of the kids, one by one. -/
def markT (S : St) (m : List Bool) (ks : List T) : List Bool := mark m (ks.filterMap (idx S))
theorem markT_nil (S : St) (m : List Bool) : markT S m [] = m := rfl
theorem markT_snoc (S : St) (m : List Bool) (ks : List T) (x : T) : markT S m (ks ++ [x]) = match idx S x with | some i => (markT S m ks).set i true | none => markT S m ks := by
  unfold markT mark
  rw [List.filterMap_append, List.foldl_append]
  cases h : idx S x <;> simp [h]
theorem markT_there {S : St} (hS : Rising S) (m : List Bool) (ks : List T) {x : T} {i : Nat} (h : AtIs S x i true) : (markT S m ks).set i true = markT S m (ks ++ [x]) := by
  obtain ⟨_, _, _, e⟩ := h.there hS
  rw [markT_snoc, e]
theorem markT_lost {S : St} (hS : Rising S) (m : List Bool) (ks : List T) {x : T} {i : Nat} (h : AtIs S x i false) : markT S m ks = markT S m (ks ++ [x]) := by
  obtain ⟨_, _, e⟩ := h.lost hS
  rw [markT_snoc, e]
theorem markT_len (S : St) (m : List Bool) (ks : List T) : (markT S m ks).length = m.length := mark_len _ _
theorem pass1_on {S : St} {m : List Bool} {i : Nat} (hi : i < S.length) (hm : i < m.length) (h : m[i] = true) : pass1 (kidI S) m i = markT S m (kidsT S[i].2) := by
  unfold pass1
  rw [if_pos (by unfold On; rw [List.getElem?_eq_getElem hm, h]), kidI_at S i hi]
  rfl
theorem pass1_off {S : St} {m : List Bool} {i : Nat} (hm : i < m.length) (h : m[i] = false) : pass1 (kidI S) m i = m := by
  unfold pass1
  rw [if_neg (by unfold On; rw [List.getElem?_eq_getElem hm, h]; simp)]
theorem kids_bad {t : T} (h : (Nd.dec t).2 ≠ 0) : kidsT t = [] := by
  unfold kidsT
  rcases Nd.dec_is t with ⟨h0, _⟩ | ⟨_, h1, _⟩
  · exact absurd h0 h
  · rw [h1]; rfl
theorem passK_snoc (K : Nat → List Nat) (i : Nat) (m : List Bool) : pass K (List.range (i + 1)) m = pass1 K (pass K (List.range i) m) i := by
  unfold pass
  rw [List.range_succ, List.foldl_append]
  rfl
theorem rounds_snoc (K : Nat → List Nat) (l : List Nat) : ∀ (t : Nat) (m : List Bool), rounds K l (t + 1) m = pass K l (rounds K l t m) := by
  intro t
  induction t with
  | zero => intro m; rfl
  | succ t ih => intro m; exact ih (pass K l m)
theorem pass_len (K : Nat → List Nat) (l : List Nat) (m : List Bool) : (pass K l m).length = m.length := (pass_le K l m).1.symm
theorem rounds_len (K : Nat → List Nat) (l : List Nat) (t : Nat) (m : List Bool) : (rounds K l t m).length = m.length := (rounds_le K l t m).1.symm
end Go.Proofs.YtgbcilokeiengaaGreatDoor.Sto
namespace Go.Proofs.YtgbcilokeiengaaGreatDoor
open Go.RowKit
open Go.Proofs.YtgbcilokeiengaaGreatDoor.Sto (St)

def bools (m : List Bool) : List Value := m.map Value.bool
/-- Block q has these marks. -/
def BoolRow (w : World) (q : Nat) (m : List Bool) : Prop := w.heap[q]? = some (.cells (bools m).toArray 4 (0, 0))
theorem BoolRow.at {w : World} {q : Nat} {m : List Bool} (h : BoolRow w q m) (i : Nat) (hi : i < m.length) : w.cell? ⟨q, i, none⟩ = some (.bool m[i]) ∧ w.frozen? ⟨q, i, none⟩ = false := by
  refine ⟨?_, frozen_of_row _ _ _ _ _ h⟩
  rw [cell_of_row w q i _ _ _ h]
  simp [bools, hi]
theorem BoolRow.set {w : World} {q : Nat} {m : List Bool} (h : BoolRow w q m) (i : Nat) (b : Bool) : BoolRow (w.setCell ⟨q, i, none⟩ (.bool b)) q (m.set i b) := by
  unfold BoolRow
  rw [heap_setCell_same _ _ i _ _ (.bool b) h]
  simp [bools, List.map_set]
theorem BoolRow.below {w w' : World} {q : Nat} {m : List Bool} (h : BoolRow w q m) (hb : Below w.heap.size w w') : BoolRow w' q m := (hb.block q (lt_of_heap h)).trans h
set_option maxRecDepth 100000 in
theorem Tryz.infoBoolS : (Tryz.prog.info? 4).map (fun i => (i.zero, i.size, i.bytes)) = some (some (.bool false), 1, 1) := by kernel_rfl
theorem Tryz.makeBools (w : World) (n : Nat) (hn : n ≤ 1000000) : (Instr.makeSlice 76 (.int .i64 (n : Int)) (.int .i64 (n : Int))).run Tryz.prog w = .ok (.slice (some ⟨w.heap.size, 0, none⟩) n n) (w.alloc (.cells (bools (List.replicate n false)).toArray 4)) := by
  obtain ⟨i0, hi, hz0, hz1, hz2⟩ := info_parts Tryz.infoBoolS
  have h := run_make (P := Tryz.prog) w 76 4 i0 _ Tryz.underlying76 hi hz0 .i64 .i64 (n : Int) (n : Int) (by omega) (Int.le_refl _) (by rw [hz2]; omega) (by omega)
  rw [hz1] at h
  have e : madeCells (Value.bool false).cells (n * 1) = (bools (List.replicate n false)).toArray := by
    apply Array.ext
    · simp [size_madeCells, bools]
    · intro i h1 h2
      have hc : (Value.bool false).cells = #[Value.bool false] := rfl
      simp [madeCells, bools, hc, Nat.mod_one]
  simp only [Int.toNat_natCast] at h
  rw [e] at h
  exact h
end Go.Proofs.YtgbcilokeiengaaGreatDoor
namespace Go.Proofs.YtgbcilokeiengaaGreatDoor.Dig

/-- A thing that is noted. -/
structure N where
  tag : Int
  text : List UInt8
  dig : List UInt8
theorem N.ext' {a b : N} (h1 : a.tag = b.tag) (h2 : a.text = b.text) (h3 : a.dig = b.dig) : a = b := by
  cases a; cases b; simp_all
instance : DecidableEq N := fun a b =>
  if h : a.tag = b.tag ∧ a.text = b.text ∧ a.dig = b.dig then isTrue (N.ext' h.1 h.2.1 h.2.2) else isFalse (fun e => h (by subst e; exact ⟨rfl, rfl, rfl⟩))
def zero : N := ⟨0, [], []⟩
def isTag (t : Int) : Bool := decide (1 ≤ t) && decide (t ≤ 255)
def taken (L : List N) (n : N) : Prop := isTag n.tag = true ∧ n.dig.length = 32 ∧ n ∉ L ∧ L.length < 1024
instance (L : List N) (n : N) : Decidable (taken L n) := by unfold taken; exact inferInstance
def find (L : List N) (d : List UInt8) : Option N := L.find? (fun n => decide (n.dig = d))
/-- By a sum the first of the things that has it. -/
structure Firsts (M L : List N) : Prop where
  here : ∀ n ∈ M, find L n.dig = some n
  all : ∀ n ∈ L, ∃ m ∈ M, m.dig = n.dig
theorem find_none {L : List N} {d : List UInt8} : find L d = none ↔ ∀ n ∈ L, n.dig ≠ d := by
  simp [find]
theorem find_snoc (L : List N) (n : N) (d : List UInt8) : find (L ++ [n]) d = (find L d).or (if n.dig = d then some n else none) := by
  simp only [find, List.find?_append, List.find?_cons, List.find?_nil]
  by_cases h : n.dig = d <;> simp [h]
theorem Firsts.nil : Firsts [] [] := ⟨fun _ h => by simp at h, fun _ h => by simp at h⟩
theorem Firsts.lost {M L : List N} (h : Firsts M L) {d : List UInt8} (hn : ∀ m ∈ M, m.dig ≠ d) : find L d = none := by
  rw [find_none]
  intro n hnL e
  obtain ⟨m, hm, hmd⟩ := h.all n hnL
  exact hn m hm (hmd.trans e)
theorem Firsts.new {M L : List N} (h : Firsts M L) {n : N} (hn : ∀ m ∈ M, m.dig ≠ n.dig) : Firsts (M ++ [n]) (L ++ [n]) := by
  have hl := h.lost hn
  constructor
  · intro m hm
    rw [find_snoc]
    rcases List.mem_append.1 hm with hm | hm
    · rw [h.here m hm]; rfl
    · obtain rfl : m = n := by simpa using hm
      rw [hl]; simp
  · intro k hk
    rcases List.mem_append.1 hk with hk | hk
    · obtain ⟨m, hm, e⟩ := h.all k hk
      exact ⟨m, List.mem_append_left _ hm, e⟩
    · exact ⟨n, List.mem_append_right _ (by simp), by obtain rfl : k = n := (by simpa using hk); rfl⟩
theorem Firsts.old {M L : List N} (h : Firsts M L) {n m : N} (hm : m ∈ M) (e : m.dig = n.dig) : Firsts M (L ++ [n]) := by
  constructor
  · intro k hk
    rw [find_snoc, h.here k hk]; rfl
  · intro k hk
    rcases List.mem_append.1 hk with hk | hk
    · exact h.all k hk
    · exact ⟨m, hm, by obtain rfl : k = n := (by simpa using hk); exact e⟩
end Go.Proofs.YtgbcilokeiengaaGreatDoor.Dig
namespace Go.Proofs.YtgbcilokeiengaaGreatDoor.Sha
open Go

/-- x turned down by n bits. -/
def rotI (x n : Int) : Int := bits .or .u32 (x * 2 ^ (32 - n).toNat % 4294967296) (x / 2 ^ n.toNat)
/-- The 64 constants. -/
def kTab : List Int := [1116352408, 1899447441, 3049323471, 3921009573, 961987163, 1508970993, 2453635748, 2870763221, 3624381080, 310598401, 607225278, 1426881987, 1925078388, 2162078206, 2614888103, 3248222580, 3835390401, 4022224774, 264347078, 604807628, 770255983, 1249150122, 1555081692, 1996064986, 2554220882, 2821834349, 2952996808, 3210313671, 3336571891, 3584528711, 113926993, 338241895, 666307205, 773529912, 1294757372, 1396182291, 1695183700, 1986661051, 2177026350, 2456956037, 2730485921, 2820302411, 3259730800, 3345764771, 3516065817, 3600352804, 4094571909, 275423344, 430227734, 506948616, 659060556, 883997877, 958139571, 1322822218, 1537002063, 1747873779, 1955562222, 2024104815, 2227730452, 2361852424, 2428436474, 2756734187, 3204031479, 3329325298]
structure St where
  a : Int
  b : Int
  c : Int
  d : Int
  e : Int
  f : Int
  g : Int
  h : Int
def notI (x : Int) : Int := bits .xor .u32 IntKind.u32.max x
def uP (s : St) (k w : Int) : Int :=
  (s.h + bits .xor .u32 (bits .xor .u32 (rotI s.e 6) (rotI s.e 11)) (rotI s.e 25) + bits .xor .u32 (bits .and .u32 s.e s.f) (bits .and .u32 (notI s.e) s.g) + k + w) % 4294967296
def vP (s : St) : Int :=
  (bits .xor .u32 (bits .xor .u32 (rotI s.a 2) (rotI s.a 13)) (rotI s.a 22) + bits .xor .u32 (bits .xor .u32 (bits .and .u32 s.a s.b) (bits .and .u32 s.a s.c)) (bits .and .u32 s.b s.c)) % 4294967296
def step (s : St) (k w : Int) : St := ⟨(uP s k w + vP s) % 4294967296, s.a, s.b, s.c, (s.d + uP s k w) % 4294967296, s.e, s.f, s.g⟩
def rounds (s : St) (W : List Int) : Nat → St
  | 0 => s
  | i + 1 => step (rounds s W i) (kTab.getD i 0) (W.getD i 0)
def St.list (s : St) : List Int := [s.a, s.b, s.c, s.d, s.e, s.f, s.g, s.h]
/-- What the eight words are behind all 64 of W. -/
def turnP (s : St) (W : List Int) : St := rounds s W 64
/-- The word of four bytes, the highest first. -/
def word4 (a b c d : UInt8) : Int := bits .or .u32 (bits .or .u32 (bits .or .u32 ((a.toNat : Int) * 16777216) ((b.toNat : Int) * 65536)) ((c.toNat : Int) * 256)) (d.toNat : Int)
/-- The block's words, 16 of them, as they are laid one by one. -/
def fill (b : List UInt8) : Nat → List Int
  | 0 => List.replicate 64 0
  | k + 1 => (fill b k).set k (word4 (b.getD (4 * k) 0) (b.getD (4 * k + 1) 0) (b.getD (4 * k + 2) 0) (b.getD (4 * k + 3) 0))
def sP (x : Int) : Int := bits .xor .u32 (bits .xor .u32 (rotI x 7) (rotI x 18)) (x / 8)
def tP (y : Int) : Int := bits .xor .u32 (bits .xor .u32 (rotI y 17) (rotI y 19)) (y / 1024)
def more (L : List Int) (n : Nat) : Int := (L.getD (n - 16) 0 + sP (L.getD (n - 15) 0) + L.getD (n - 7) 0 + tP (L.getD (n - 2) 0)) % 4294967296
/-- The further words, up to w(63). -/
def ext (L : List Int) : Nat → List Int
  | 0 => L
  | k + 1 => (ext L k).set (16 + k) (more (ext L k) (16 + k))
def widenP (b : List UInt8) : List Int := ext (fill b 16) 48
def addTo (H T : List Int) : Nat → List Int
  | 0 => H
  | k + 1 => (addTo H T k).set k (((addTo H T k).getD k 0 + T.getD k 0) % 4294967296)
def addP (s t : St) : St := ⟨(s.a + t.a) % 4294967296, (s.b + t.b) % 4294967296, (s.c + t.c) % 4294967296, (s.d + t.d) % 4294967296, (s.e + t.e) % 4294967296, (s.f + t.f) % 4294967296, (s.g + t.g) % 4294967296, (s.h + t.h) % 4294967296⟩
/-- What the words s are behind the block b. -/
def blockP (s : St) (b : List UInt8) : St := addP s (turnP s (widenP b))
theorem addTo_length (H T : List Int) (k : Nat) : (addTo H T k).length = H.length := by
  induction k with
  | zero => rfl
  | succ k ih => simp [addTo, ih]
/-- The first words. -/
def first : St := ⟨1779033703, 3144134277, 1013904242, 2773480762, 1359893119, 2600822924, 528734635, 1541459225⟩
/-- The byte of a number. -/
def byteOf (z : Int) : UInt8 := UInt8.ofNat (z % 256).toNat
theorem byteOf_toNat (z : Int) : ((byteOf z).toNat : Int) = z % 256 := by
  have h0 := Int.emod_nonneg z (show (256 : Int) ≠ 0 by decide)
  have h1 := Int.emod_lt_of_pos z (show (0 : Int) < 256 by decide)
  simp only [byteOf, UInt8.toNat_ofNat']
  omega
/-- The words' bytes, as they are laid four at a time. -/
def joinFill (L : List Int) : Nat → List UInt8
  | 0 => List.replicate 32 0
  | k + 1 => ((((joinFill L k).set (4 * k) (byteOf (L.getD k 0 / 16777216))).set (4 * k + 1) (byteOf (L.getD k 0 / 65536))).set (4 * k + 2) (byteOf (L.getD k 0 / 256))).set (4 * k + 3) (byteOf (L.getD k 0))
theorem joinFill_length (L : List Int) (k : Nat) : (joinFill L k).length = 32 := by
  induction k with
  | zero => simp [joinFill]
  | succ k ih => simp [joinFill, ih]
def joinP (s : St) : List UInt8 := joinFill s.list 8
/-- How many bytes stand before the length in what fills a text of n bytes. -/
def padN (n : Nat) : Nat := 1 + (119 - n % 64) % 64
def tailFill (n : Nat) : Nat → List UInt8
  | 0 => (List.replicate 72 0).set 0 128
  | k + 1 => (tailFill n k).set (padN n + k) (byteOf ((n : Int) * 8 / 2 ^ (8 * (7 - k))))
theorem tailFill_length (n k : Nat) : (tailFill n k).length = 72 := by
  induction k with
  | zero => simp [tailFill]
  | succ k ih => simp [tailFill, ih]
/-- What fills a text of n bytes up to whole blocks. -/
def tailP (n : Nat) : List UInt8 := (tailFill n 8).take (padN n + 8)
theorem tailP_length (n : Nat) : (tailP n).length = padN n + 8 := by
  simp only [tailP, List.length_take, tailFill_length, padN]
  omega
/-- The words behind the first k blocks of the text t. -/
def absorb (t : List UInt8) : Nat → St
  | 0 => first
  | k + 1 => blockP (absorb t k) ((t.drop (64 * k)).take 64)
theorem absorb_append (t u : List UInt8) (k : Nat) (h : 64 * k ≤ t.length) : absorb (t ++ u) k = absorb t k := by
  induction k with
  | zero => rfl
  | succ k ih =>
    simp only [absorb]
    rw [ih (by omega), List.drop_append_of_le_length (by omega), List.take_append_of_le_length (by rw [List.length_drop]; omega)]
/-- The words behind all whole blocks of the text, and what is no whole block. -/
def wordsP (t : List UInt8) : St := absorb t (t.length / 64)
def restP (t : List UInt8) : List UInt8 := t.drop (64 * (t.length / 64))
theorem words_same (t u : List UInt8) (h : t.length % 64 + u.length < 64) : wordsP (t ++ u) = wordsP t ∧ restP (t ++ u) = restP t ++ u := by
  have e : (t ++ u).length / 64 = t.length / 64 := by rw [List.length_append]; omega
  refine ⟨?_, ?_⟩
  · unfold wordsP
    rw [e, absorb_append t u _ (by omega)]
  · unfold restP
    rw [e, List.drop_append_of_le_length (by omega)]
theorem words_next (t u : List UInt8) (h : t.length % 64 + u.length = 64) : wordsP (t ++ u) = blockP (wordsP t) (restP t ++ u) ∧ restP (t ++ u) = [] := by
  have e : (t ++ u).length / 64 = t.length / 64 + 1 := by rw [List.length_append]; omega
  refine ⟨?_, ?_⟩
  · unfold wordsP restP
    rw [e, absorb, absorb_append t u _ (by omega), List.drop_append_of_le_length (by omega), List.take_of_length_le (by rw [List.length_append, List.length_drop]; omega)]
  · unfold restP
    rw [e]
    exact List.drop_eq_nil_of_le (by rw [List.length_append]; omega)
/-- The text's sum. -/
def sumP (t : List UInt8) : List UInt8 := joinP (wordsP (t ++ tailP t.length))
theorem sumP_length (t : List UInt8) : (sumP t).length = 32 := joinFill_length _ _
end Go.Proofs.YtgbcilokeiengaaGreatDoor.Sha
namespace Go.Proofs.YtgbcilokeiengaaGreatDoor.Sha
open Go

theorem bits_or_comm (k : IntKind) (x y : Int) : bits .or k x y = bits .or k y x := by
  unfold bits
  simp only [BitVec.or_comm]
theorem wrap_u32_nat (n : Nat) (h : n < 4294967296) : IntKind.u32.wrap (n : Int) = (n : Int) := by
  simp [IntKind.wrap, IntKind.signed, IntKind.bits]
  omega
theorem u32_or_nat (a b : Nat) (ha : a < 4294967296) (hb : b < 4294967296) : bits .or .u32 (a : Int) (b : Int) = ((a ||| b : Nat) : Int) := by
  unfold bits
  have e : ((BitVec.ofInt IntKind.u32.bits (a : Int) ||| BitVec.ofInt IntKind.u32.bits (b : Int)).toNat) = a ||| b := by
    simp only [BitVec.toNat_or, BitVec.ofInt_natCast, BitVec.toNat_ofNat]
    rw [Nat.mod_eq_of_lt (by simpa [IntKind.bits] using ha), Nat.mod_eq_of_lt (by simpa [IntKind.bits] using hb)]
  simp only [e]
  exact wrap_u32_nat _ (Nat.or_lt_two_pow (n := 32) ha hb)
/-- Four bytes, the highest first: by or, or by sums. -/
theorem word4_sum (a b c d : UInt8) : word4 a b c d = ((((a.toNat * 256 + b.toNat) * 256 + c.toNat) * 256 + d.toNat : Nat) : Int) := by
  have ha := a.toNat_lt
  have hb := b.toNat_lt
  have hc := c.toNat_lt
  have hd := d.toNat_lt
  have e1 := Nat.two_pow_add_eq_or_of_lt (i := 24) (b := b.toNat * 65536) (by omega) a.toNat
  have e2 := Nat.two_pow_add_eq_or_of_lt (i := 16) (b := c.toNat * 256) (by omega) (a.toNat * 256 + b.toNat)
  have e3 := Nat.two_pow_add_eq_or_of_lt (i := 8) (b := d.toNat) (by omega) ((a.toNat * 256 + b.toNat) * 256 + c.toNat)
  unfold word4
  rw [show (a.toNat : Int) * 16777216 = ((2 ^ 24 * a.toNat : Nat) : Int) by omega, show (b.toNat : Int) * 65536 = ((b.toNat * 65536 : Nat) : Int) by omega,
    show (c.toNat : Int) * 256 = ((c.toNat * 256 : Nat) : Int) by omega, u32_or_nat _ _ (by omega) (by omega), ← e1,
    show 2 ^ 24 * a.toNat + b.toNat * 65536 = 2 ^ 16 * (a.toNat * 256 + b.toNat) by omega, u32_or_nat _ _ (by omega) (by omega), ← e2,
    show 2 ^ 16 * (a.toNat * 256 + b.toNat) + c.toNat * 256 = 2 ^ 8 * ((a.toNat * 256 + b.toNat) * 256 + c.toNat) by omega, u32_or_nat _ _ (by omega) (by omega), ← e3]
  omega

/-- The first 16 words, a byte at a time. -/
def fillR (b : List UInt8) : Nat → List Int
  | 0 => List.replicate 16 0
  | k + 1 => (fillR b k).set (k / 4) (((fillR b k).getD (k / 4) 0 * 256 + ((b.getD k 0).toNat : Int)) % 4294967296)
theorem fillR_length (b : List UInt8) (k : Nat) : (fillR b k).length = 16 := by
  induction k with
  | zero => simp [fillR]
  | succ k ih => simp [fillR, ih]
/-- The window that moves on. -/
def winNext (V : List Int) (i : Nat) : List Int :=
  if 16 ≤ i then V.set (i % 16) ((V.getD (i % 16) 0 + sP (V.getD ((i + 1) % 16) 0) + V.getD ((i + 9) % 16) 0 + tP (V.getD ((i + 14) % 16) 0)) % 4294967296) else V
def win (V : List Int) : Nat → List Int
  | 0 => V
  | i + 1 => winNext (win V i) i
theorem win_length (V : List Int) (i : Nat) : (win V i).length = V.length := by
  induction i with
  | zero => rfl
  | succ i ih =>
    simp only [win, winNext]
    split <;> simp [ih]
def roundsR (s : St) (V : List Int) : Nat → St
  | 0 => s
  | i + 1 => step (roundsR s V i) (kTab.getD i 0) ((win V (i + 1)).getD (i % 16) 0)
def blockR (s : St) (b : List UInt8) : St := addP s (roundsR s (fillR b 64) 64)

theorem getD_set (l : List Int) (i j : Nat) (v : Int) (hi : i < l.length) : (l.set i v).getD j 0 = if i = j then v else l.getD j 0 := by
  by_cases h : i = j
  · subst h
    simp [hi]
  · simp [h]
theorem fillR_early (b : List UInt8) (j : Nat) (hj : j < 16) : ∀ k, k ≤ 4 * j → (fillR b k).getD j 0 = 0
  | 0, _ => by
    unfold fillR
    simp only [List.getD_eq_getElem?_getD, List.getElem?_replicate, hj, if_true, Option.getD_some]
  | k + 1, h => by
    rw [fillR, getD_set _ _ _ _ (by rw [fillR_length]; omega), if_neg (by omega)]
    exact fillR_early b j hj k (by omega)
theorem fillR_late (b : List UInt8) (j : Nat) : ∀ n, 4 * j + 4 + n ≤ 64 → (fillR b (4 * j + 4 + n)).getD j 0 = (fillR b (4 * j + 4)).getD j 0
  | 0, _ => rfl
  | n + 1, h => by
    rw [← Nat.add_assoc, fillR, getD_set _ _ _ _ (by rw [fillR_length]; omega), if_neg (by omega)]
    exact fillR_late b j n (by omega)
theorem fillR_at (b : List UInt8) (j : Nat) (hj : j < 16) : (fillR b 64).getD j 0 = word4 (b.getD (4 * j) 0) (b.getD (4 * j + 1) 0) (b.getD (4 * j + 2) 0) (b.getD (4 * j + 3) 0) := by
  have h := fillR_late b j (60 - 4 * j) (by omega)
  rw [show 4 * j + 4 + (60 - 4 * j) = 64 by omega] at h
  have s0 := fillR_early b j hj (4 * j) (Nat.le_refl _)
  have st : ∀ k, 4 * j ≤ k → k < 4 * j + 4 → (fillR b (k + 1)).getD j 0 = ((fillR b k).getD j 0 * 256 + ((b.getD k 0).toNat : Int)) % 4294967296 := fun k h1 h2 => by
    have e : k / 4 = j := by omega
    rw [fillR, getD_set _ _ _ _ (by rw [fillR_length]; omega), e, if_pos rfl]
  have s1 := st (4 * j) (by omega) (by omega)
  have s2 := st (4 * j + 1) (by omega) (by omega)
  have s3 := st (4 * j + 2) (by omega) (by omega)
  have s4 := st (4 * j + 3) (by omega) (by omega)
  rw [h, s4, s3, s2, s1, s0, word4_sum]
  have h0 := (b.getD (4 * j) 0).toNat_lt
  have h1 := (b.getD (4 * j + 1) 0).toNat_lt
  have h2 := (b.getD (4 * j + 2) 0).toNat_lt
  have h3 := (b.getD (4 * j + 3) 0).toNat_lt
  generalize (b.getD (4 * j) 0).toNat = x0 at *
  generalize (b.getD (4 * j + 1) 0).toNat = x1 at *
  generalize (b.getD (4 * j + 2) 0).toNat = x2 at *
  generalize (b.getD (4 * j + 3) 0).toNat = x3 at *
  omega

theorem fill_len (b : List UInt8) (k : Nat) : (fill b k).length = 64 := by
  induction k with
  | zero => simp [fill]
  | succ k ih => simp [fill, ih]
theorem ext_len (L : List Int) (k : Nat) : (ext L k).length = L.length := by
  induction k with
  | zero => rfl
  | succ k ih => simp [ext, ih]
theorem fill_late (b : List UInt8) (j : Nat) : ∀ n, j + 1 + n ≤ 64 → (fill b (j + 1 + n)).getD j 0 = (fill b (j + 1)).getD j 0
  | 0, _ => rfl
  | n + 1, h => by
    rw [← Nat.add_assoc, fill, getD_set _ _ _ _ (by rw [fill_len]; omega), if_neg (by omega)]
    exact fill_late b j n (by omega)
theorem fill_at (b : List UInt8) (j : Nat) (hj : j < 16) : (fill b 16).getD j 0 = word4 (b.getD (4 * j) 0) (b.getD (4 * j + 1) 0) (b.getD (4 * j + 2) 0) (b.getD (4 * j + 3) 0) := by
  have h := fill_late b j (15 - j) (by omega)
  rw [show j + 1 + (15 - j) = 16 by omega] at h
  rw [h, fill, getD_set _ _ _ _ (by rw [fill_len]; omega), if_pos rfl]
theorem ext_keep (L : List Int) (hL : L.length = 64) (j : Nat) : ∀ k n, j < 16 + k → k + n ≤ 48 → (ext L (k + n)).getD j 0 = (ext L k).getD j 0
  | _, 0, _, _ => rfl
  | k, n + 1, h, hk => by
    rw [← Nat.add_assoc, ext, getD_set _ _ _ _ (by rw [ext_len]; omega), if_neg (by omega)]
    exact ext_keep L hL j k n h (by omega)
theorem ext_low (L : List Int) (hL : L.length = 64) (j : Nat) (hj : j < 16) : (ext L 48).getD j 0 = L.getD j 0 := by
  have := ext_keep L hL j 0 48 (by omega) (by omega)
  simpa [ext] using this
theorem ext_next (L : List Int) (hL : L.length = 64) (i : Nat) (h0 : 16 ≤ i) (h1 : i < 64) : (ext L 48).getD i 0 = more (ext L 48) i := by
  have e1 := ext_keep L hL i (i - 16 + 1) (64 - 1 - i) (by omega) (by omega)
  rw [show i - 16 + 1 + (64 - 1 - i) = 48 by omega] at e1
  rw [e1, ext, getD_set _ _ _ _ (by rw [ext_len]; omega), if_pos (by omega), show 16 + (i - 16) = i by omega]
  have keep : ∀ j, j < i → (ext L (i - 16)).getD j 0 = (ext L 48).getD j 0 := fun j hj => by
    have := ext_keep L hL j (i - 16) (64 - i) (by omega) (by omega)
    rw [show i - 16 + (64 - i) = 48 by omega] at this
    exact this.symm
  unfold more
  rw [keep (i - 16) (by omega), keep (i - 15) (by omega), keep (i - 7) (by omega), keep (i - 2) (by omega)]
/-- The window holds the last 16 words. -/
theorem win_is (b : List UInt8) (i : Nat) (hi : i ≤ 64) : ∀ m, m < 64 → (m < i ∨ m < 16) → (i ≤ m + 16) → (win (fillR b 64) i).getD (m % 16) 0 = (widenP b).getD m 0 := by
  have hfl : (fill b 16).length = 64 := fill_len b 16
  induction i with
  | zero =>
    intro m hm h1 _
    have hm16 : m < 16 := by omega
    rw [win, Nat.mod_eq_of_lt hm16, fillR_at b m hm16, widenP, ext_low _ hfl m hm16, fill_at b m hm16]
  | succ i ih =>
    intro m hm h1 h2
    have ih' := ih (by omega)
    rw [win, winNext]
    by_cases h16 : 16 ≤ i
    · rw [if_pos h16, getD_set _ _ _ _ (by rw [win_length, fillR_length]; omega)]
      by_cases hmi : m = i
      · subst hmi
        rw [if_pos rfl, widenP, ext_next _ hfl m h16 hm, ← widenP]
        unfold more
        rw [← ih' (m - 16) (by omega) (by omega) (by omega), ← ih' (m - 15) (by omega) (by omega) (by omega), ← ih' (m - 7) (by omega) (by omega) (by omega), ← ih' (m - 2) (by omega) (by omega) (by omega),
          show (m - 16) % 16 = m % 16 by omega, show (m - 15) % 16 = (m + 1) % 16 by omega, show (m - 7) % 16 = (m + 9) % 16 by omega, show (m - 2) % 16 = (m + 14) % 16 by omega]
      · rw [if_neg (by omega)]
        exact ih' m hm (by omega) (by omega)
    · rw [if_neg h16]
      exact ih' m hm (by omega) (by omega)
theorem roundsR_is (s : St) (b : List UInt8) (i : Nat) (hi : i ≤ 64) : roundsR s (fillR b 64) i = rounds s (widenP b) i := by
  induction i with
  | zero => rfl
  | succ i ih => rw [roundsR, rounds, ih (by omega), win_is b (i + 1) hi i (by omega) (by omega) (by omega)]
theorem blockR_is (s : St) (b : List UInt8) : blockR s b = blockP s b := by
  unfold blockR blockP turnP
  rw [roundsR_is s b 64 (by omega)]
end Go.Proofs.YtgbcilokeiengaaGreatDoor.Sha
namespace Go.Proofs.YtgbcilokeiengaaGreatDoor.Sha
open Go

/-- A number's last k bytes, the highest first. -/
def endR (N : Nat) : Nat → List UInt8
  | 0 => []
  | k + 1 => byteOf ((N / 256 ^ k : Nat) : Int) :: endR N k
theorem endR_length (N k : Nat) : (endR N k).length = k := by
  induction k with
  | zero => rfl
  | succ k ih => simp [endR, ih]
theorem set8 (A B : List UInt8) (b0 b1 b2 b3 b4 b5 b6 b7 : UInt8) (n : Nat) (hA : A.length = n) :
    ((((((((A ++ 0 :: 0 :: 0 :: 0 :: 0 :: 0 :: 0 :: 0 :: B).set (n + 0) b0).set (n + 1) b1).set (n + 2) b2).set (n + 3) b3).set (n + 4) b4).set (n + 5) b5).set (n + 6) b6).set (n + 7) b7 = (A ++ [b0, b1, b2, b3, b4, b5, b6, b7]) ++ B := by
  subst hA
  simp
theorem tail_base (z : Nat) (hz : z ≤ 63) : (List.replicate 72 (0 : UInt8)).set 0 128 = (128 :: List.replicate z 0) ++ 0 :: 0 :: 0 :: 0 :: 0 :: 0 :: 0 :: 0 :: List.replicate (63 - z) 0 := by
  have e : (List.replicate 72 (0 : UInt8)) = 0 :: (List.replicate z 0 ++ 0 :: 0 :: 0 :: 0 :: 0 :: 0 :: 0 :: 0 :: List.replicate (63 - z) 0) := by
    apply List.ext_getElem
    · simp; omega
    · intro i h1 h2
      rw [List.getElem_replicate]
      have : ∀ x ∈ (0 : UInt8) :: (List.replicate z 0 ++ 0 :: 0 :: 0 :: 0 :: 0 :: 0 :: 0 :: 0 :: List.replicate (63 - z) 0), x = 0 := by
        intro x hx
        simp [List.mem_replicate] at hx
        rcases hx with h | h | h | h <;> simp_all
      exact (this _ (List.getElem_mem h2)).symm
  rw [e]
  rfl
theorem tailP_is (n z : Nat) (hz : z = (119 - n % 64) % 64) : tailP n = (128 :: List.replicate z 0) ++ endR (n * 8) 8 := by
  have hp : padN n = 1 + z := by rw [hz]; rfl
  have hA : ((128 : UInt8) :: List.replicate z 0).length = 1 + z := by simp; omega
  have h8 := set8 (128 :: List.replicate z 0) (List.replicate (63 - z) 0) (byteOf ((n : Int) * 8 / 2 ^ (8 * (7 - 0)))) (byteOf ((n : Int) * 8 / 2 ^ (8 * (7 - 1)))) (byteOf ((n : Int) * 8 / 2 ^ (8 * (7 - 2)))) (byteOf ((n : Int) * 8 / 2 ^ (8 * (7 - 3)))) (byteOf ((n : Int) * 8 / 2 ^ (8 * (7 - 4)))) (byteOf ((n : Int) * 8 / 2 ^ (8 * (7 - 5)))) (byteOf ((n : Int) * 8 / 2 ^ (8 * (7 - 6)))) (byteOf ((n : Int) * 8 / 2 ^ (8 * (7 - 7)))) (1 + z) hA
  have ht : tailFill n 8 = ((128 :: List.replicate z 0) ++ [byteOf ((n : Int) * 8 / 2 ^ (8 * (7 - 0))), byteOf ((n : Int) * 8 / 2 ^ (8 * (7 - 1))), byteOf ((n : Int) * 8 / 2 ^ (8 * (7 - 2))), byteOf ((n : Int) * 8 / 2 ^ (8 * (7 - 3))), byteOf ((n : Int) * 8 / 2 ^ (8 * (7 - 4))), byteOf ((n : Int) * 8 / 2 ^ (8 * (7 - 5))), byteOf ((n : Int) * 8 / 2 ^ (8 * (7 - 6))), byteOf ((n : Int) * 8 / 2 ^ (8 * (7 - 7)))]) ++ List.replicate (63 - z) 0 := by
    rw [← h8, ← tail_base z (by omega)]
    simp only [tailFill, hp]
  rw [tailP, ht, hp, List.take_append_of_le_length (by simp; omega), List.take_of_length_le (by simp; omega)]
  congr 1
/-- A block, byte by byte. -/
def copyR (X : List UInt8) : Nat → List UInt8
  | 0 => List.replicate 64 0
  | j + 1 => (copyR X j).set j (X.getD j 0)
theorem copyR_length (X : List UInt8) (j : Nat) : (copyR X j).length = 64 := by
  induction j with
  | zero => simp [copyR]
  | succ j ih => simp [copyR, ih]
theorem copyR_is (X : List UInt8) (hX : X.length = 64) (j : Nat) (hj : j ≤ 64) : copyR X j = X.take j ++ List.replicate (64 - j) 0 := by
  induction j with
  | zero => simp [copyR]
  | succ j ih =>
    rw [copyR, ih (by omega), show 64 - j = (64 - (j + 1)) + 1 by omega, List.replicate_succ, List.set_append_right _ _ (by simp; omega),
      List.take_succ_eq_append_getElem (by omega)]
    have e : j - (X.take j).length = 0 := by simp; omega
    rw [e, List.set_cons_zero, List.getD_eq_getElem?_getD, List.getElem?_eq_getElem (by omega), Option.getD_some, List.append_assoc]
    rfl
theorem copyR_all (X : List UInt8) (hX : X.length = 64) : copyR X 64 = X := by
  rw [copyR_is X hX 64 (by omega), List.take_of_length_le (by omega)]
  simp
end Go.Proofs.YtgbcilokeiengaaGreatDoor.Sha
namespace Go.Proofs.YtgbcilokeiengaaGreatDoor
open Go.RowKit

theorem and31_fin : ∀ n : Fin 32, 0 < n.val → bits .and .u64 (IntKind.u64.wrap (-(n.val : Int))) 31 = 32 - (n.val : Int) := by decide +kernel
theorem and31 (n : Int) (h0 : 1 ≤ n) (h1 : n ≤ 31) : bits .and .u64 (IntKind.u64.wrap (-n)) 31 = 32 - n := by
  have := and31_fin ⟨n.toNat, by omega⟩ (by simp; omega)
  simpa [Int.toNat_of_nonneg (show 0 ≤ n by omega)] using this
set_option maxHeartbeats 400000 in
theorem rotl_any (x n : Int) (w : World) (h0 : 1 ≤ n) (h1 : n ≤ 31) :
    Calls Tryz.prog 110 #[.int .u32 x, .int .i64 (-n)] w fun e w' => e = .returned (.int .u32 (Sha.rotI x n)) ∧ w' = w := by
  have hk := and31 n h0 h1
  have e : (32 - (32 - n)).toNat = n.toNat := by omega
  go_enter Tryz.func110, Tryz.ntmps110
  go_wp2
  go_ret
  refine ⟨?_, rfl⟩
  simp [Sha.rotI]
set_option maxHeartbeats 400000 in
theorem rot_any (x n : Int) (w : World) (h0 : 1 ≤ n) (h1 : n ≤ 31) :
    Calls Tryz.prog 97 #[.int .u32 x, .int .i64 n] w fun e w' => e = .returned (.int .u32 (Sha.rotI x n)) ∧ w' = w := by
  go_enter Tryz.func97, Tryz.ntmps97
  go_wp2_with fail
  refine (rotl_any x n _ h0 h1).mono ?_
  rintro e w1 ⟨rfl, rfl⟩
  go_wp2
  go_ret
  exact ⟨rfl, rfl⟩
end Go.Proofs.YtgbcilokeiengaaGreatDoor
namespace Go.Proofs.YtgbcilokeiengaaGreatDoor
open Go.RowKit

/-- The words as cells. -/
def u32s (l : List Int) : Array Value := (l.map fun x => Value.int .u32 x).toArray
theorem u32s_at (l : List Int) (j : Nat) (hj : j < l.length) : (u32s l)[j]? = some (.int .u32 (l.getD j 0)) := by
  simp [u32s, hj]
theorem u32s_size (l : List Int) : (u32s l).size = l.length := by simp [u32s]
theorem u32s_one (l : List Int) : (u32s l).all (·.oneCell') = true := by
  simp only [u32s, List.all_toArray, List.all_map, List.all_eq_true]
  intro x _
  rfl
theorem u32s_set (l : List Int) (j : Nat) (x : Int) : (u32s l).setIfInBounds j (.int .u32 x) = u32s (l.set j x) := by
  simp [u32s, List.map_set]
/-- The bytes as cells. -/
def u8s (l : List UInt8) : Array Value := (cellsL l).toArray
theorem u8s_at (l : List UInt8) (j : Nat) (hj : j < l.length) : (u8s l)[j]? = some (.int .u8 ((l.getD j 0).toNat : Int)) := by
  simp [u8s, cellsL, hj]
theorem u8s_size (l : List UInt8) : (u8s l).size = l.length := by simp [u8s, cellsL]
theorem u8s_set (l : List UInt8) (j : Nat) (x : UInt8) : (u8s l).setIfInBounds j (.int .u8 (x.toNat : Int)) = u8s (l.set j x) := by
  simp [u8s, cellsL, List.map_set]
/-- The table of constants lies where the program has it. -/
def Tab (w : World) : Prop := ∀ i : Nat, i < 64 → w.cell? ⟨0, i, none⟩ = some (.int .u32 (Sha.kTab.getD i 0))
theorem Tab.below {w w' : World} (h : Tab w) (hb : Below w.heap.size w w') : Tab w' := fun i hi => (hb.cell (block_lt_of_cell (h i hi))).trans (h i hi)
theorem Tab.pos {w : World} (h : Tab w) : 0 < w.heap.size := block_lt_of_cell (h 0 (by omega))
theorem wrap_small (n : Int) (h0 : 0 ≤ n) (h1 : n ≤ 1000000) : IntKind.i64.wrap n = n := by
  unfold IntKind.wrap
  simp [IntKind.signed, IntKind.bits]
  omega

end Go.Proofs.YtgbcilokeiengaaGreatDoor
namespace Go.Proofs.YtgbcilokeiengaaGreatDoor
open Go.RowKit

def words8 (s : Sha.St) : List Value := [.int .u32 s.a, .int .u32 s.b, .int .u32 s.c, .int .u32 s.d, .int .u32 s.e, .int .u32 s.f, .int .u32 s.g, .int .u32 s.h]
/-- A hash's cells: the words, the open block, the count. -/
def hashL (s : Sha.St) (o : List UInt8) (n : Nat) : List Value := words8 s ++ (cellsL o ++ [.int .u64 (n : Int)])
theorem hashL_length (s : Sha.St) (o : List UInt8) (n : Nat) (h : o.length = 64) : (hashL s o n).length = 73 := by
  simp [hashL, words8, cellsL_length, h]
theorem hashL_count (s : Sha.St) (o : List UInt8) (n : Nat) (h : o.length = 64) : (hashL s o n).toArray[72]? = some (.int .u64 (n : Int)) := by
  rw [List.getElem?_toArray]
  unfold hashL
  rw [List.getElem?_append_right (by simp [words8]), List.getElem?_append_right (by simp [words8, cellsL_length, h])]
  simp [words8, cellsL_length, h]
theorem hashL_setCount (s : Sha.St) (o : List UInt8) (n m : Nat) (h : o.length = 64) : (hashL s o n).toArray.setIfInBounds 72 (.int .u64 (m : Int)) = (hashL s o m).toArray := by
  rw [List.setIfInBounds_toArray]
  unfold hashL
  rw [List.set_append_right _ _ (by simp [words8]), List.set_append_right _ _ (by simp [words8, cellsL_length, h])]
  simp [words8, cellsL_length, h]
theorem hashL_open (s : Sha.St) (o : List UInt8) (n j : Nat) (hj : j < o.length) : (hashL s o n).toArray[8 + j]? = some (.int .u8 ((o.getD j 0).toNat : Int)) := by
  rw [List.getElem?_toArray]
  unfold hashL
  rw [List.getElem?_append_right (by simp [words8]), List.getElem?_append_left (by simp [words8, cellsL_length, hj])]
  simp [words8, cellsL, hj]
theorem hashL_set8 (s t : Sha.St) (o : List UInt8) (n : Nat) :
    ((((((((hashL s o n).toArray.setIfInBounds 0 (.int .u32 t.a)).setIfInBounds 1 (.int .u32 t.b)).setIfInBounds 2 (.int .u32 t.c)).setIfInBounds 3 (.int .u32 t.d)).setIfInBounds 4 (.int .u32 t.e)).setIfInBounds 5 (.int .u32 t.f)).setIfInBounds 6 (.int .u32 t.g)).setIfInBounds 7 (.int .u32 t.h) = (hashL t o n).toArray := by
  simp [hashL, words8]
/-- Bytes laid over the open block. -/
theorem hashL_copy (s : Sha.St) (o x : List UInt8) (n m : Nat) (ho : o.length = 64) (hm : m + x.length ≤ 64) :
    (hashL s o n).take (8 + m) ++ cellsL x ++ (hashL s o n).drop (8 + m + x.length) = hashL s (o.take m ++ x ++ o.drop (m + x.length)) n := by
  have h8 : (words8 s).length = 8 := rfl
  have hc : (cellsL o).length = 64 := by rw [cellsL_length, ho]
  unfold hashL
  rw [List.take_append, List.drop_append, h8, List.take_of_length_le (by omega), List.drop_eq_nil_of_le (by omega), show 8 + m - 8 = m by omega, show 8 + m + x.length - 8 = m + x.length by omega,
    List.take_append_of_le_length (by omega), List.drop_append_of_le_length (by omega)]
  simp [cellsL]

theorem Only.setRow {g : Nat} {a w : World} (h : Only g a w) (cs : Array Value) : Only g a (w.setRow g cs) :=
  ⟨h.os, h.tape, h.output, by have := h.size; simpa using this, fun i hi hg => (setRow_other w g i cs hg).trans (h.block i hi hg)⟩
theorem Tab.only {w w' : World} {g : Nat} (h : Tab w) (ho : Only g w w') (hg : 0 < g) : Tab w' := fun i hi => ho.cell (h i hi) (by dsimp only; omega)

/-- The hash in block g has the text t. -/
def HashIs (w : World) (g : Nat) (t : List UInt8) : Prop :=
  ∃ o : List UInt8, o.length = 64 ∧ o.take (t.length % 64) = Sha.restP t ∧ w.heap[g]? = some (.cells (hashL (Sha.wordsP t) o t.length).toArray 101 (0, 0))
theorem HashIs.lt {w : World} {g : Nat} {t : List UInt8} (h : HashIs w g t) : g < w.heap.size := by
  obtain ⟨_, _, _, hg⟩ := h
  exact lt_of_heap hg
theorem HashIs.below {w w' : World} {g : Nat} {t : List UInt8} (h : HashIs w g t) (hb : Below w.heap.size w w') : HashIs w' g t := by
  have hlt := h.lt
  obtain ⟨o, h1, h2, hg⟩ := h
  exact ⟨o, h1, h2, (hb.block g hlt).trans hg⟩
theorem HashIs.only {w w' : World} {g g' : Nat} {t : List UInt8} (h : HashIs w g t) (hb : Only g' w w') (hn : g ≠ g') : HashIs w' g t := by
  have hlt := h.lt
  obtain ⟨o, h1, h2, hg⟩ := h
  exact ⟨o, h1, h2, (hb.block g hlt hn).trans hg⟩

/-- copy(dst, s), s a string, dst in row g from place o on: as many bytes as there are, or as fit. -/
theorem run_copy_part {P : Program} (w : World) (dT sT ty elem : TypeId) (g o dLen dCap n : Nat) (l : List UInt8) (cur : Array Value) (t : TypeId)
    (hu : P.underlying dT = some (.slice elem)) (hs : (P.info? elem).map (·.size) = some 1) (hg : w.heap[g]? = some (.cells cur t (0, 0))) (hn : n = Nat.min l.length dLen) (hfit : o + n ≤ cur.size) :
    (Builtin.copy_ #[dT, sT] ty #[.slice (some ⟨g, o, none⟩) dLen dCap, .string ⟨l.toArray⟩]).run P w =
      .ok (goInt n) (w.setRow g (cur.toList.take o ++ cellsL (l.take n) ++ cur.toList.drop (o + n)).toArray) := by
  have hnl : n ≤ l.length := by rw [hn]; exact Nat.min_le_left _ _
  have hlen : (cellsL (l.take n)).length = n := by rw [cellsL_length, List.length_take]; omega
  have hst := run_storeCells_at P g o t (cellsL (l.take n)) 0 cur w hg (by rw [hlen]; simpa using hfit) (by
    intro v hv
    simp only [cellsL, List.mem_map] at hv
    obtain ⟨x, _, rfl⟩ := hv
    rfl)
  rw [hlen] at hst
  simp only [Nat.add_zero] at hst
  have htk : List.take n (List.map (fun b : UInt8 => Value.int IntKind.u8 (b.toNat : Int)) l) = cellsL (l.take n) := by simp [cellsL, List.map_take]
  have hsz : (⟨l.toArray⟩ : ByteArray).size = l.length := by simp [ByteArray.size]
  cases hq : P.info? elem with
  | none => simp [hq] at hs
  | some i =>
    simp [Builtin.copy_, run_underlying hu, Builtin.lenOf, Builtin.firstCells, sizeOf, typeInfo, hq, hsz, ← hn]
    rw [htk, hst]
    simp [Result.andThen]
theorem step_copy_part {P : Program} {ops : Array Oper} {o : Oper} {a : Act} {w : World} {K : Act → World → Prop} {Q : Exit → Act → World → Prop} {E : Prop} (hgd : o.guard = none) (d s : Operand) (dT sT : TypeId)
    (ho : o.op = .call { callee := .builtin .copy, args := #[d, s], argTypes := #[dT, sT] }) (elem : TypeId) (hu : P.underlying dT = some (.slice elem)) (hsz : (P.info? elem).map (·.size) = some 1)
    (g off dLen dCap n : Nat) (l : List UInt8) (hd : a.eval d = .slice (some ⟨g, off, none⟩) dLen dCap) (hs : a.eval s = .string ⟨l.toArray⟩)
    (cur : Array Value) (t : TypeId) (hg : w.heap[g]? = some (.cells cur t (0, 0))) (hn : n = Nat.min l.length dLen) (hfit : off + n ≤ cur.size)
    (h : ∀ w', Hid (w'.heap[g]? = some (.cells (cur.toList.take off ++ cellsL (l.take n) ++ cur.toList.drop (off + n)).toArray t (0, 0))) → Hid (Only g w w') → K (a.put o.dst (goInt n)) w') :
    if Region.wanted o (yielded ops a.tmps) = true then Oper.wp P o a w K Q else E := by
  have hw : Region.wanted o (yielded ops a.tmps) = true := by simp [Region.wanted, hgd]
  rw [if_pos hw]
  have hrun := run_copy_part (P := P) w dT sT o.type elem g off dLen dCap n l cur t hu hsz hg hn hfit
  unfold Oper.wp
  simp [execOp, ho, resolve, invoke, builtin, hd, hs, hrun, Result.andThen]
  exact h _ (Lib.hid (by rw [List.append_assoc]; exact setRow_heap w g _ _ t _ hg)) (Lib.hid ((Only.refl g w).setRow _))
end Go.Proofs.YtgbcilokeiengaaGreatDoor
namespace Go.Proofs.YtgbcilokeiengaaGreatDoor
open Go.RowKit

theorem Tryz.info8 : (Tryz.prog.info? 96).map (·.size) = some 8 := by kernel_rfl

set_option maxRecDepth 100000 in
set_option maxHeartbeats 1000000 in
theorem turn_any (s : Sha.St) (W : List Int) (w : World) (hW : W.length = 64) (hK : Tab w) :
    Calls Tryz.prog 87 #[.agg (u32s s.list), .agg (u32s W)] w fun e w' => e = .returned (.agg (u32s (Sha.turnP s W).list)) ∧ Below w.heap.size w w' := by
  obtain ⟨s0, hs0⟩ : ∃ s0, s = s0 := ⟨_, rfl⟩
  obtain ⟨a, b, c, d, e, f, g, h⟩ := s
  obtain ⟨ws, hws⟩ : ∃ ws, u32s W = ws := ⟨_, rfl⟩
  rw [hws, hs0]
  have HS := Lib.hid hs0
  have HWS := Lib.hid hws
  have HK := Lib.hid hK
  have HLW := Lib.hid hW
  rw [← hs0]
  simp only [Sha.St.list, u32s, List.map_cons, List.map_nil]
  clear hws hK hs0 hW
  go_enter Tryz.func87, Tryz.ntmps87
  go_wp2
  go_quiet (fail)
  go_wp2
  go_quiet (fail)
  go_wp2
  go_loopw [5, 6, 7, 8, 9, 10, 11, 12, 32] (fun xa xb xc xd xe xf xg xh i wr => ∃ k : Nat, k ≤ 64 ∧ i = .int .i64 k ∧ xa = .int .u32 (Sha.rounds s0 W k).a ∧ xb = .int .u32 (Sha.rounds s0 W k).b ∧ xc = .int .u32 (Sha.rounds s0 W k).c ∧ xd = .int .u32 (Sha.rounds s0 W k).d ∧ xe = .int .u32 (Sha.rounds s0 W k).e ∧ xf = .int .u32 (Sha.rounds s0 W k).f ∧ xg = .int .u32 (Sha.rounds s0 W k).g ∧ xh = .int .u32 (Sha.rounds s0 W k).h ∧
      Below w.heap.size w wr ∧ wr.heap[w.heap.size + 1]? = some (.cells ws 129 (0, 0)) ∧ wr.heap[w.heap.size + 1 + 1]? = some (.cells (u32s (List.replicate 8 0)) 96 (0, 0))) (fun _ _ _ _ _ _ _ _ i _ => 64 - (intOf i).toNat)
  case atStart =>
    refine ⟨0, by omega, rfl, by rw [← HS.out]; rfl, by rw [← HS.out]; rfl, by rw [← HS.out]; rfl, by rw [← HS.out]; rfl, by rw [← HS.out]; rfl, by rw [← HS.out]; rfl, by rw [← HS.out]; rfl, by rw [← HS.out]; rfl, ?_, ?_, ?_⟩
    · exact bel_drewN (bel_drewN ((((Below.refl _ w).alloc (Nat.le_refl _) _).alloc (by simp) _).alloc (by simp; omega) _) _) _
    · exact heap_old_at _ (heap_new_at _ _ _ (by simp))
    · exact heap_new_at _ _ _ (by simp)
  case round =>
    obtain ⟨k, hk, rfl, rfl, rfl, rfl, rfl, rfl, rfl, rfl, rfl, hb, hg1, hg2⟩ := hrel
    have HG1 := Lib.hid hg1
    have HG2 := Lib.hid hg2
    have HBe := Lib.hid hb
    have hsz : w.heap.size + 1 < wr.heap.size := lt_of_heap hg1
    by_cases hlt : k < 64
    · obtain ⟨S, hS⟩ : ∃ S, Sha.rounds s0 W k = S := ⟨_, rfl⟩
      have hnext : Sha.rounds s0 W (k + 1) = Sha.step S (Sha.kTab.getD k 0) (W.getD k 0) := by rw [← hS]; rfl
      have hcK : wr.cell? ⟨0, k, none⟩ = some (.int .u32 (Sha.kTab.getD k 0)) := (HK.out.below hb) k hlt
      have hcW : wr.cell? ⟨w.heap.size + 1, k, none⟩ = some (.int .u32 (W.getD k 0)) := by
        rw [cell_of_row wr _ k ws _ _ hg1, ← HWS.out]; exact u32s_at W k (by rw [HLW.out]; exact hlt)
      obtain ⟨kk, hkk⟩ : ∃ kk, Sha.kTab.getD k 0 = kk := ⟨_, rfl⟩
      obtain ⟨ww, hww⟩ : ∃ ww, W.getD k 0 = ww := ⟨_, rfl⟩
      rw [hkk, hww] at hnext
      rw [hkk] at hcK
      rw [hww] at hcW
      rw [hS]
      have HN := Lib.hid hnext
      clear hnext hkk hww hS hb hg1 hg2
      obtain ⟨a, b, c, d, e, f, g, h⟩ := S
      have h1 : (k : Int) < 64 := by omega
      dsimp only
      go_wp2
      go_quiet ((go_at_call 97; exact Calls.quiet_of_same (rot_any _ _ _ (by omega) (by omega))))
      go_wp2_with fail
      refine (rot_any a 2 _ (by omega) (by omega)).mono ?_
      rintro _ _ ⟨rfl, rfl⟩
      go_wp2_with fail
      refine (rot_any a 13 _ (by omega) (by omega)).mono ?_
      rintro _ _ ⟨rfl, rfl⟩
      go_wp2_with fail
      refine (rot_any a 22 _ (by omega) (by omega)).mono ?_
      rintro _ _ ⟨rfl, rfl⟩
      go_wp2
      go_roundw
      case rel =>
        refine ⟨k + 1, by omega, by go_num, ?_, ?_, ?_, ?_, ?_, ?_, ?_, ?_, bel_drewN HBe.out _, HG1.out, HG2.out⟩ <;> rw [HN.out] <;> simp only [Sha.step, Sha.uP, Sha.vP]
        all_goals rfl
      case measure => simp [intOf]; omega
    · obtain rfl : k = 64 := by omega
      have hno : ¬ ((64 : Nat) : Int) < 64 := by omega
      obtain ⟨S, hS⟩ : ∃ S, Sha.rounds s0 W 64 = S := ⟨_, rfl⟩
      have HS64 := Lib.hid hS
      rw [hS]
      clear hS hg1 hg2 hb
      obtain ⟨a, b, c, d, e, f, g, h⟩ := S
      dsimp only
      go_wp2_with (refine wpList_store_row (by rfl) _ _ _ (by rfl) (w.heap.size + 1 + 1) (u32s [a, b, c, d, e, f, g, h]) (by rfl) (by rfl) _ _ HG2.out Tryz.info8 (by rfl) (u32s_one _) ?_)
      refine bodyPost_ret (v := .agg (u32s [a, b, c, d, e, f, g, h])) (results_cell_row rfl _ _ (w.heap.size + 1 + 1) _ _ _ _ rfl (setRow_heap _ _ _ _ _ _ HG2.out) Tryz.underlying96 rfl Tryz.info8) rfl ⟨?_, below_setRow HBe.out (by omega) _⟩
      unfold Sha.turnP
      rw [HS.out, HS64.out]
      rfl
end Go.Proofs.YtgbcilokeiengaaGreatDoor
