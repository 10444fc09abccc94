/- TriRefDel, TriCount, TriTrie, TriWithT, TriDelT, TriRefOf, TriOfT, ScanWays, ScanBehindCode, ScanKept, TriCover, TriWorks, ArgTActs, TriMade, TriMade2, BookItems, CodeFew, TriLaw -/
import Derived.Test.YtkdecmijnojhoaaDoorPk09
import Derived.Test.YtkdecmijnojhoaaDoorPk03
import Derived.Deep.RegionHeld3
import Derived.Test.YtkdecmijnojhoaaDoorPk02
import Derived.Test.YtkdecmijnojhoaaDoorPk01
import Derived.RangeFuncNested
import Derived.Deep.Slices
import Derived.DataReads
import Derived.OpenShut
import Derived.SizedLaws
import Derived.Lib.LaidU8
import Derived.BigQuiet
import Derived.WalkSpells
import Derived.WalkLawsBesides
import Derived.Deep.QuietTactic
namespace Go.Proofs.YtkdecmijnojhoaaDoor
open Go.RowKit
open Go.Proofs.YtkdecmijnojhoaaDoor.Sto (St)

def Tri.delL (S : St) (x : List UInt8) : St := if (Tri.getC S x).2 = 0 then Tri.del S x else []
def RtDelPost (S : St) (x : List UInt8) (w : World) (e : Ending) (w' : World) : Prop :=
  ∃ v', e = .returned (.tuple #[v', .int .i64 (Tri.getC S x).2]) ∧ ItAt w' v' (Tri.delL S x) ∧ Below w.heap.size w w'
theorem RtDelPost.bad {S : St} {x : List UInt8} {w w' : World} {c : Nat} (h : (Tri.getC S x).2 = c) (hc : c ≠ 0) (hb : Below w.heap.size w w') : RtDelPost S x w (.returned (.tuple #[.slice none 0 0, .int .i64 c])) w' := by
  subst h
  exact ⟨_, rfl, by rw [Tri.delL, if_neg hc]; exact RowsAt.nil .., hb⟩
theorem RtDelPost.good {S L : St} {x : List UInt8} {w w' : World} {v' : Value} (h : (Tri.getC S x).2 = 0) (hp : Tri.del S x = L) (hv : ItAt w' v' L) (hb : Below w.heap.size w w') : RtDelPost S x w (.returned (.tuple #[v', .int .i64 0])) w' := by
  refine ⟨v', by rw [h]; rfl, ?_, hb⟩
  rw [Tri.delL, if_pos h, hp]; exact hv
end Go.Proofs.YtkdecmijnojhoaaDoor
namespace Go.Proofs.YtkdecmijnojhoaaDoor.Tri
open Sto (T St Rising keys)
open Go.Proofs.YtkdecmijnojhoaaDoor.Nd (N)

theorem pair_sub : ∀ i j : Fin 16, i < j → [i, j].Sublist (List.finRange 16) := by decide +kernel
theorem one_sub : ∀ i : Fin 16, [i].Sublist (List.finRange 16) := by decide +kernel
theorem spots_len (dg : N → T) {t : Tr} (h : t.canon) (hn : ¬ t.isNil) (p : T) : (t.spots dg p).length + 2 ≤ 3 * t.items.length ∧ (t.isBr → (t.spots dg p).length + 3 ≤ 3 * t.items.length) := by
  induction t generalizing p with
  | nil => exact absurd trivial hn
  | leaf q v => exact ⟨by simp [Tr.spots, Tr.items], fun h => h.elim⟩
  | ext q t ih =>
    have n1 : ¬ t.isNil := by have := h.2.1; cases t <;> simp_all [Tr.isBr, Tr.isNil]
    have := (ih h.2.2 n1 (p ++ q)).2 h.2.1
    refine ⟨?_, fun h => h.elim⟩
    rw [Tr.spots, Tr.items, behind, List.length_map, List.length_cons]
    omega
  | br v k ih =>
    have all : ∀ l : List (Fin 16), (l.flatMap fun i => (k i).spots dg (p ++ [hb i])).length + 2 * l.countP (fun i => !(k i).nilB) ≤ 3 * (l.flatMap fun i => behind [hb i] (k i).items).length := by
      intro l
      induction l with
      | nil => simp
      | cons i l ihl =>
        rw [List.flatMap_cons, List.flatMap_cons, List.length_append, List.length_append, List.countP_cons]
        have hb1 : (behind [hb i] (k i).items).length = (k i).items.length := by rw [behind, List.length_map]
        by_cases e : (k i).isNil
        · have e2 := (nilB_iff _).2 e
          have e3 : (k i).spots dg (p ++ [hb i]) = [] := by cases hk : k i with
            | nil => rfl
            | _ => rw [hk] at e; exact e.elim
          rw [e3, e2]
          simp only [Bool.not_true, Bool.false_eq_true, if_false, List.length_nil]
          omega
        · have e2 : (k i).nilB = false := by cases hk : (k i).nilB with
            | false => rfl
            | true => exact absurd ((nilB_iff _).1 hk) e
          have := (ih i (h.1 i) e (p ++ [hb i])).1
          rw [e2, hb1]
          simp only [Bool.not_false, if_true]
          omega
    have h1 := all (List.finRange 16)
    have h2 : 4 ≤ 3 * (own v).length + 2 * (List.finRange 16).countP (fun i => !(k i).nilB) := by
      have ne : ∀ i, ¬ (k i).isNil → (!(k i).nilB) = true := fun i hi => by
        cases hk : (k i).nilB with
        | false => rfl
        | true => exact absurd ((nilB_iff _).1 hk) hi
      rcases h.2 with ⟨i, j, hij, hi, hj⟩ | ⟨hv, i, hi⟩
      · have := (pair_sub i j hij).countP_le (p := fun i => !(k i).nilB)
        simp only [List.countP_cons, ne i hi, ne j hj, if_true, List.countP_nil] at this
        omega
      · have := (one_sub i).countP_le (p := fun i => !(k i).nilB)
        simp only [List.countP_cons, ne i hi, if_true, List.countP_nil] at this
        rw [own, if_neg hv, List.length_singleton]
        omega
    have h3 : (Tr.spots dg p (.br v k)).length + 3 ≤ 3 * (Tr.br v k).items.length := by
      rw [Tr.spots, Tr.items, List.length_cons, List.length_append]
      omega
    exact ⟨by omega, fun _ => h3⟩
end Go.Proofs.YtkdecmijnojhoaaDoor.Tri
namespace Go.Proofs.YtkdecmijnojhoaaDoor
open Go.RowKit
open Sto (T St)
open Tri (Tr Ok upd ix hb lay splitT Trim rank)
open Go.Proofs.YtkdecmijnojhoaaDoor.Nd (N)

/-- Items as a trie may have them, with their tree. -/
structure TrS (S : St) (t : Tr) : Prop where
  tree : Tri.TreeOf S t
  rise : Sto.Rising S
  fair : ∀ x ∈ S, 1 ≤ x.1.length ∧ x.1.length ≤ 8 ∧ 1 ≤ x.2.length ∧ x.2.length ≤ 32
  few : S.length ≤ 1024
theorem TrS.within {S : St} {t : Tr} (h : TrS S t) : within t := fun x hx => by
  rw [h.tree.2.2] at hx
  obtain ⟨y, hy, rfl⟩ := List.mem_map.1 hx
  have := (h.fair y hy).2.1
  rw [Nib.ofL_length]; omega
theorem TrS.ok {S : St} {t : Tr} (h : TrS S t) : Ok t := ⟨h.tree.1, h.tree.2.1, Tri.small_of h.tree.1 fun x hx => ⟨h.within x hx, by
  rw [h.tree.2.2] at hx
  obtain ⟨y, hy, rfl⟩ := List.mem_map.1 hx
  exact (h.fair y hy).2.2.2⟩⟩
theorem TrS.trim {S : St} {t : Tr} (h : TrS S t) : Trim t := ⟨Tri.canon_firm h.tree.1, h.tree.2.1, Tri.small_low h.ok.small⟩
theorem TrS.spots {S : St} {t : Tr} (h : TrS S t) (p : T) : (t.spots Nd.sumS p).length ≤ 100000 := by
  by_cases hn : t.isNil
  · rw [Tri.isNil_eq hn]; simp [Tri.Tr.spots]
  · have h1 := (Tri.spots_len Nd.sumS h.tree.1 hn p).1
    have h2 : t.items.length = S.length := by rw [h.tree.2.2]; simp [Tri.paths]
    have := h.few
    omega
theorem TrS.sealed {S : St} {t : Tr} {w : World} {v : Value} (h : TrS S t) (hp : PAt w (Fm.from 0) true t v) : Sealed w t v := ⟨hp, h.ok, h.within, h.spots⟩
theorem TrS.empty : TrS [] .nil := ⟨⟨trivial, trivial, rfl⟩, List.Pairwise.nil, fun x hx => (by cases hx), by simp⟩
theorem TrS.find {S : St} {t : Tr} (h : TrS S t) (k : T) : findT t (Nib.ofL k) = (Sto.look S k).getD [] := by
  unfold findT; rw [h.tree.get h.rise]
theorem TrS.look_ne {S : St} {t : Tr} (h : TrS S t) {k v : T} (hl : Sto.look S k = some v) : v ≠ [] := fun e => by
  have := (h.fair _ ((Sto.look_mem h.rise k v).1 hl)).2.2.1
  rw [e] at this; simp at this
theorem TrS.put {S : St} {t : Tr} (h : TrS S t) {k v : T} (hk : Tri.putC S k v = 0) : TrS (Tri.put S k v) (t.put (Nib.ofL k) v) := by
  unfold Tri.putC at hk
  split at hk
  · rename_i hkk
    split at hk
    · rename_i hv
      obtain ⟨v1, v2, v3⟩ := hv
      have hkk2 : 1 ≤ k.length ∧ k.length ≤ 8 := by simpa [Tri.keyed] using hkk
      refine ⟨h.tree.put (fun e => by subst e; simp at v1), Tri.put_rising h.rise _ _, fun x hx => ?_, ?_⟩
      · rcases Tri.put_mem hx with hx | rfl
        · exact h.fair x hx
        · exact ⟨hkk2.1, hkk2.2, v1, v2⟩
      · have hf := h.few
        rw [Tri.put_eq]
        have hp := Tri.pos_le S k
        rcases v3 with v3 | v3
        · rw [if_pos v3]
          have hp2 : Tri.pos S k < S.length := (Tri.look_pos h.rise k v3).1
          simp; omega
        · simp; omega
    · cases hk
  · cases hk
theorem TrS.del {S : St} {t : Tr} (h : TrS S t) {k : T} (hk : Sto.look S k ≠ none) : TrS (Tri.del S k) (t.del (Nib.ofL k)) := by
  refine ⟨h.tree.del h.rise hk, Tri.del_rising h.rise _, fun x hx => h.fair x (Tri.del_mem hx), ?_⟩
  have hf := h.few
  have ha : Tri.at_ S k = true := by rw [Tri.at_look h.rise]; cases hl : Sto.look S k with | none => exact absurd hl hk | some v => rfl
  rw [Tri.del_eq h.rise k ha]
  simp; omega
/-- A trie in block g. -/
def TRow (w : World) (g : Nat) (top : Value) (n : Nat) : Prop := w.heap[g]? = some (.cells #[top, .int .i64 n] 52 (0, 0))
theorem TRow.below {w w' : World} {g n : Nat} {top : Value} (h : TRow w g top n) (hb : Below w.heap.size w w') : TRow w' g top n := (hb.block g (lt_of_heap h)).trans h
theorem TRow.top {w : World} {g n : Nat} {top : Value} (h : TRow w g top n) : w.cell? ⟨g, 0, none⟩ = some top := by rw [cell_of_row _ _ _ _ _ _ h]; rfl
theorem TRow.num {w : World} {g n : Nat} {top : Value} (h : TRow w g top n) : w.cell? ⟨g, 1, none⟩ = some (.int .i64 n) := by rw [cell_of_row _ _ _ _ _ _ h]; rfl
/-- A trie whose parts may be without their sums. -/
def OpenAt (w : World) (F : Fm) (g : Nat) (S : St) : Prop := ∃ top t, TRow w g top S.length ∧ PAt w F false t top ∧ TrS S t
def TrAt (w : World) (g : Nat) (S : St) : Prop := ∃ top t, TRow w g top S.length ∧ PAt w (Fm.from 0) true t top ∧ TrS S t
theorem TrAt.below {w w' : World} {g : Nat} {S : St} (h : TrAt w g S) (hb : Below w.heap.size w w') : TrAt w' g S := by
  obtain ⟨top, t, h1, h2, h3⟩ := h
  exact ⟨top, t, h1.below hb, h2.below hb, h3⟩
theorem TrAt.open {w : World} {g : Nat} {S : St} (h : TrAt w g S) (B : Nat) : OpenAt w (Fm.from B) g S := by
  obtain ⟨top, t, h1, h2, h3⟩ := h
  exact ⟨top, t, h1, h2.sealed (fun _ _ e => by cases e) false, h3⟩
theorem OpenAt.below {w w' : World} {F : Fm} {g : Nat} {S : St} (h : OpenAt w F g S) (hb : Below w.heap.size w w') : OpenAt w' F g S := by
  obtain ⟨top, t, h1, h2, h3⟩ := h
  exact ⟨top, t, h1.below hb, h2.below hb, h3⟩
theorem TrAt.rise {w : World} {g : Nat} {S : St} (h : TrAt w g S) : Sto.Rising S := by
  obtain ⟨_, _, _, _, h3⟩ := h; exact h3.rise
theorem TrAt.few {w : World} {g : Nat} {S : St} (h : TrAt w g S) : S.length ≤ 1024 := by
  obtain ⟨_, _, _, _, h3⟩ := h; exact h3.few

set_option maxRecDepth 100000 in
theorem tnew_any (w : World) : Calls Tryd.prog 21 #[] w fun e w' => ∃ g, e = .returned (ptr g) ∧ TrAt w' g [] ∧ w.heap.size ≤ g ∧ Below w.heap.size w w' := by
  go_enter Tryd.func21, Tryd.ntmps21
  go_wp2
  go_ret
  exact ⟨w.heap.size, rfl, ⟨nilp, .nil, heap_alloc_new w _, PAt.nil _ _ _, TrS.empty⟩, Nat.le_refl _, (Below.refl _ w).alloc (Nat.le_refl _) _⟩
set_option maxRecDepth 100000 in
theorem iskey_any (x : T) (w : World) :
    Calls Tryd.prog 32 #[.string ⟨x.toArray⟩] w fun e w' => e = .returned (.bool (Tri.keyed x)) ∧ w = w' := by
  by_cases h0 : x = []
  · subst h0
    go_enter Tryd.func32, Tryd.ntmps32
    go_wp2
    go_ret
    exact ⟨rfl, rfl⟩
  · have h1 : (x == []) = false := by rw [beq_eq_false_iff_ne]; exact h0
    have h2 : 1 ≤ x.length := List.length_pos_iff.2 h0
    by_cases h8 : x.length ≤ 8
    · have h3 : (x.length : Int) ≤ 8 := by omega
      have e : Tri.keyed x = true := by simp [Tri.keyed, h2, h8]
      rw [e]
      clear e h2 h8 h0
      go_enter Tryd.func32, Tryd.ntmps32
      go_wp2
      go_ret
      exact ⟨rfl, rfl⟩
    · have h3 : ¬ ((x.length : Int) ≤ 8) := by omega
      have e : Tri.keyed x = false := by simp [Tri.keyed]; omega
      rw [e]
      clear e h2 h8 h0
      go_enter Tryd.func32, Tryd.ntmps32
      go_wp2
      go_ret
      exact ⟨rfl, rfl⟩
end Go.Proofs.YtkdecmijnojhoaaDoor
namespace Go.Proofs.YtkdecmijnojhoaaDoor
open Go.RowKit
open Sto (T St)
open Tri (Tr Ok upd ix hb lay splitT Trim rank)
open Go.Proofs.YtkdecmijnojhoaaDoor.Nd (N)

/-- What with of a trie answers. -/
def TWithPost (S : St) (k v : T) (F : Fm) (w : World) (e : Ending) (w' : World) : Prop :=
  ∃ z, e = .returned (.tuple #[z, .int .i64 (Tri.putC S k v)]) ∧ (Tri.putC S k v = 0 → ∃ g', z = ptr g' ∧ w.heap.size ≤ g' ∧ OpenAt w' F g' (Tri.put S k v)) ∧ (Tri.putC S k v ≠ 0 → z = nilp) ∧ Below w.heap.size w w'
theorem TWithPost.bad {S : St} {k v : T} {F : Fm} {w w' : World} {c : Nat} (h : Tri.putC S k v = c) (hc : c ≠ 0) (hb : Below w.heap.size w w') : TWithPost S k v F w (.returned (.tuple #[.pointer none, .int .i64 c])) w' := by
  subst h
  exact ⟨_, rfl, fun e => absurd e hc, fun _ => rfl, hb⟩
theorem TWithPost.good {S : St} {k v : T} {F : Fm} {w w' : World} {g' n : Nat} {top : Value} {t : Tr} (h : Tri.putC S k v = 0) (hg : w.heap.size ≤ g') (hr : TRow w' g' top n) (hn : n = (Tri.put S k v).length) (hp : PAt w' F false t top) (hs : TrS (Tri.put S k v) t) (hb : Below w.heap.size w w') : TWithPost S k v F w (.returned (.tuple #[.pointer (some ⟨g', 0, none⟩), .int .i64 0])) w' := by
  subst hn
  exact ⟨_, by rw [h]; rfl, fun _ => ⟨g', rfl, hg, top, t, hr, hp, hs⟩, fun e => absurd h e, hb⟩
set_option maxRecDepth 100000 in
set_option maxHeartbeats 1000000 in
theorem twith_good {g : Nat} {S : St} (k v : T) (w : World) (F : Fm) (hF : F.fresh w) (h : OpenAt w F g S) (hc : Tri.putC S k v = 0) :
    Calls Tryd.prog 22 #[ptr g, .string ⟨k.toArray⟩, .string ⟨v.toArray⟩] w (TWithPost S k v F w) := by
  obtain ⟨top, t, h1, h2, h3⟩ := h
  have hc0 := hc
  unfold Tri.putC at hc
  split at hc
  · rename_i hkk
    split at hc
    · rename_i hv
      obtain ⟨v1, v2, v3⟩ := hv
      have hkk2 : 1 ≤ k.length ∧ k.length ≤ 8 := by simpa [Tri.keyed] using hkk
      have HK := Lib.hid (fun w => iskey_any k w)
      rw [hkk] at HK
      have HOF := Lib.hid (fun w => of_any k w (by omega))
      have HFI : Hid (∀ w', Below w.heap.size w w' → Calls Tryd.prog 34 #[top, .string ⟨(Nib.ofL k).toArray⟩] w' fun e w'' => e = .returned (.string ⟨((Sto.look S k).getD []).toArray⟩) ∧ Below w'.heap.size w' w'') := Lib.hid (fun w' hb => by
        have := find_any (Nib.ofL k) w' (h2.below hb) h3.trim.firm (Tri.ofL_fit k) (by rw [Nib.ofL_length]; omega)
        rw [h3.find] at this
        exact this)
      have HCL := Lib.hid (fun w => dclone_any v w (by omega))
      have HWI : Hid (∀ w', Below w.heap.size w w' → Calls Tryd.prog 35 #[top, .string ⟨(Nib.ofL k).toArray⟩, .string ⟨v.toArray⟩] w' fun e w'' => ∃ g9, e = .returned (.pointer (some ⟨g9, 0, none⟩)) ∧ PAt w'' F false (t.put (Nib.ofL k) v) (.pointer (some ⟨g9, 0, none⟩)) ∧ Below w'.heap.size w' w'') := Lib.hid (fun w' hb =>
        (with_any (Nib.ofL k) v w' F (hF.size hb.size) (h2.below hb) h3.trim (Tri.ofL_fit k) (by rw [Nib.ofL_length]; omega)).mono fun e w'' ⟨v9, e1, hp, hb9⟩ => by
          obtain ⟨g9, rfl⟩ := hp.ptr (Tri.put_nn _ _ _)
          exact ⟨g9, e1, hp, hb9⟩)
      have HTS := Lib.hid (h3.put hc0)
      have HCC := Lib.hid hc0
      have HPN := Lib.hid (Tri.put_len S k v)
      have HAL := Lib.hid (Tri.at_look h3.rise k)
      have HT : Hid (∀ w', Below w.heap.size w w' → w'.cell? ⟨g, 0, none⟩ = some top ∧ w'.cell? ⟨g, 1, none⟩ = some (.int .i64 S.length)) := Lib.hid (fun w' hb => ⟨(h1.below hb).top, (h1.below hb).num⟩)
      obtain ⟨P, hP⟩ : ∃ P, Nib.ofL k = P := ⟨_, rfl⟩
      rw [hP] at HOF HFI HWI HTS
      have hve : (v == []) = false := by rw [beq_eq_false_iff_ne]; intro e; subst e; simp at v1
      have hvl : ¬ ((v.length : Int) > 32) := by omega
      have hvl2 : decide ((32 : Int) < (v.length : Int)) = false := decide_eq_false (by omega)
      have hvl3 : decide (32 < v.length) = false := decide_eq_false (by omega)
      unfold ptr
      have BD : Below w.heap.size w w.drew := (Below.refl _ _).drew
      obtain ⟨c0, c1⟩ := HT.out _ BD
      have hfew := h3.few
      have hlen : ∀ (n : Nat), n = (Tri.put S k v).length → n ≤ 1024 := fun n hn => by rw [hn]; exact HTS.out.few
      cases hl : Sto.look S k with
      | some y =>
        have hye : (y == []) = false := by rw [beq_eq_false_iff_ne]; exact h3.look_ne hl
        have hpl : S.length = (Tri.put S k v).length := by
          rw [HPN.out, if_pos (by rw [HAL.out, hl]; rfl)]; omega
        have HPL := Lib.hid hpl
        have hgt : ¬ ((S.length : Int) > 1024) := by omega
        have hgt2 : ¬ ((1024 : Int) < (S.length : Int)) := by omega
        rw [hl, Option.getD_some] at HFI
        clear h1 h2 h3 hkk hP hkk2 v1 v2 v3 hc hc0 HPN HAL hl hfew hlen hpl
        go_enter Tryd.func22, Tryd.ntmps22
        go_wp2_with fail
        refine (HK.out _).mono ?_
        rintro e w1 ⟨rfl, rfl⟩
        go_upto_region 5 with fail
        go_region_held3 (fun w' => w'.cell? ⟨g, 1, none⟩ = some (.int .i64 S.length))
          ((first | (with_reducible assumption) | (refine (HT.out _ ?_).2; with_reducible assumption)))
          ((go_at_call 33; refine (HOF.out _).mono ?_; rintro e w6 ⟨rfl, hb6⟩; have hb6' := bchain BD hb6))
        all_goals
          obtain ⟨d0, d1⟩ := HT.out _ hb6'
          go_wp2_with fail
          refine (HFI.out _ hb6').mono ?_
          rintro e w7 ⟨rfl, hb7⟩
          have hb7' := bchain hb6' hb7
          have BD7 : Below w.heap.size w w7.drew := hb7'.drew
          go_upto_region 10 with fail
          obtain ⟨e0, e1⟩ := HT.out _ BD7
          clear c0 c1 d0 d1
          go_region_held3 (fun w' => w'.cell? ⟨g, 0, none⟩ = some top)
            ((first | (with_reducible assumption) | (refine (HT.out _ ?_).1; with_reducible assumption) | (refine (HT.out _ ?_).1; refine Below.alloc ?_ ?_ _; (with_reducible assumption); (with_reducible exact hs9))))
            (first | (go_at_call 29; refine (HCL.out _).mono ?_; rintro e w8 ⟨rfl, hb8⟩; have hb8' := bchain BD7 hb8) | (go_at_call 35; refine (HWI.out _ ?_).mono ?_; (with_reducible exact hb8'); rintro e w9 ⟨g9, rfl, hp9, hb9⟩; have hb9' := bchain hb8' hb9; have hs9 := hb9'.size))
          all_goals
            go_wp2
            go_ret2
            have hba := hb9'.alloc hs9 (.cells #[.pointer (some ⟨g9, 0, none⟩), .int .i64 S.length] 52)
            exact TWithPost.good HCC.out hs9 (heap_alloc_new w9 _) HPL.out (hp9.below ((Below.refl _ w9).alloc (Nat.le_refl _) _)) HTS.out hba
      | none =>
        have hpl : S.length + 1 = (Tri.put S k v).length := by
          rw [HPN.out, if_neg (by rw [HAL.out, hl]; simp)]
        have z8 : IntKind.i64.wrap ((S.length : Int) + 1) = (S.length : Int) + 1 := IntWalk.i64_in _ (by omega)
        have hl1 := hlen _ hpl
        have HPL := Lib.hid hpl
        have hgt : ¬ ((S.length : Int) + 1 > 1024) := by omega
        have hgt2 : ¬ ((1024 : Int) < (S.length : Int) + 1) := by omega
        rw [hl, Option.getD_none] at HFI
        clear hl1 h1 h2 h3 hkk hP hkk2 v1 v2 v3 hc hc0 HPN HAL hl hfew hlen hpl
        go_enter Tryd.func22, Tryd.ntmps22
        go_wp2_with fail
        refine (HK.out _).mono ?_
        rintro e w1 ⟨rfl, rfl⟩
        go_upto_region 5 with fail
        go_region_held3 (fun w' => w'.cell? ⟨g, 1, none⟩ = some (.int .i64 S.length))
          ((first | (with_reducible assumption) | (refine (HT.out _ ?_).2; with_reducible assumption)))
          ((go_at_call 33; refine (HOF.out _).mono ?_; rintro e w6 ⟨rfl, hb6⟩; have hb6' := bchain BD hb6))
        all_goals
          obtain ⟨d0, d1⟩ := HT.out _ hb6'
          go_wp2_with fail
          refine (HFI.out _ hb6').mono ?_
          rintro e w7 ⟨rfl, hb7⟩
          have hb7' := bchain hb6' hb7
          have BD7 : Below w.heap.size w w7.drew := hb7'.drew
          go_upto_region 10 with fail
          obtain ⟨e0, e1⟩ := HT.out _ BD7
          clear c0 c1 d0 d1
          go_region_held3 (fun w' => w'.cell? ⟨g, 0, none⟩ = some top)
            ((first | (with_reducible assumption) | (refine (HT.out _ ?_).1; with_reducible assumption) | (refine (HT.out _ ?_).1; refine Below.alloc ?_ ?_ _; (with_reducible assumption); (with_reducible exact hs9))))
            (first | (go_at_call 29; refine (HCL.out _).mono ?_; rintro e w8 ⟨rfl, hb8⟩; have hb8' := bchain BD7 hb8) | (go_at_call 35; refine (HWI.out _ ?_).mono ?_; (with_reducible exact hb8'); rintro e w9 ⟨g9, rfl, hp9, hb9⟩; have hb9' := bchain hb8' hb9; have hs9 := hb9'.size))
          all_goals
            go_wp2
            go_ret2
            have hba := hb9'.alloc hs9 (.cells #[.pointer (some ⟨g9, 0, none⟩), .int .i64 ((S.length + 1 : Nat) : Int)] 52)
            exact TWithPost.good HCC.out hs9 (heap_alloc_new w9 _) HPL.out (hp9.below ((Below.refl _ w9).alloc (Nat.le_refl _) _)) HTS.out hba
    · cases hc
  · cases hc
set_option maxRecDepth 100000 in
set_option maxHeartbeats 1000000 in
theorem twith_any {g : Nat} {S : St} (k v : T) (w : World) (F : Fm) (hF : F.fresh w) (h : OpenAt w F g S) :
    Calls Tryd.prog 22 #[ptr g, .string ⟨k.toArray⟩, .string ⟨v.toArray⟩] w (TWithPost S k v F w) := by
  have HK := Lib.hid (fun w => iskey_any k w)
  cases hk : Tri.keyed k with
  | false =>
    rw [hk] at HK
    have HC := Lib.hid (Tri.putC_no (S := S) (y := v) hk)
    unfold ptr
    clear h hk
    go_enter Tryd.func22, Tryd.ntmps22
    go_wp2_with fail
    refine (HK.out _).mono ?_
    rintro e w1 ⟨rfl, rfl⟩
    go_wp2
    go_ret2
    exact TWithPost.bad HC.out (by decide) (Below.refl _ _)
  | true =>
    rw [hk] at HK
    by_cases hok : 1 ≤ v.length ∧ v.length ≤ 32 ∧ (Tri.at_ S k = true ∨ S.length < 1024)
    · exact twith_good k v w F hF h (Tri.putC_ok hk hok)
    · have HC := Lib.hid (Tri.putC_bad (S := S) (y := v) hk hok)
      by_cases hv0 : v = []
      · subst hv0
        unfold ptr
        clear h hk hok
        go_enter Tryd.func22, Tryd.ntmps22
        go_wp2_with fail
        refine (HK.out _).mono ?_
        rintro e w1 ⟨rfl, rfl⟩
        go_wp2
        go_ret2
        exact TWithPost.bad HC.out (by decide) (Below.refl _ _)
      · have hve : (v == []) = false := by rw [beq_eq_false_iff_ne]; exact hv0
        have hv1 : 1 ≤ v.length := List.length_pos_iff.2 hv0
        by_cases hv2 : v.length ≤ 32
        · obtain ⟨top, t, h1, h2, h3⟩ := h
          have hno : ¬ (Tri.at_ S k = true ∨ S.length < 1024) := fun e => hok ⟨hv1, hv2, e⟩
          have hl : Sto.look S k = none := by
            have := Tri.at_look h3.rise k
            cases hl : Sto.look S k with
            | none => rfl
            | some y => exact absurd (Or.inl (by rw [this, hl]; rfl)) hno
          have hfew : S.length = 1024 := by
            have := h3.few
            have : ¬ S.length < 1024 := fun e => hno (Or.inr e)
            omega
          have hx8 : k.length ≤ 8 := by simp [Tri.keyed] at hk; omega
          have HOF := Lib.hid (fun w => of_any k w (by omega))
          have HFI : Hid (∀ w', Below w.heap.size w w' → Calls Tryd.prog 34 #[top, .string ⟨(Nib.ofL k).toArray⟩] w' fun e w'' => e = .returned (.string ⟨#[]⟩) ∧ Below w'.heap.size w' w'') := Lib.hid (fun w' hb => by
            have := find_any (Nib.ofL k) w' (h2.below hb) h3.trim.firm (Tri.ofL_fit k) (by rw [Nib.ofL_length]; omega)
            rw [h3.find, hl] at this
            exact this)
          have HT : Hid (∀ w', Below w.heap.size w w' → w'.cell? ⟨g, 0, none⟩ = some top ∧ w'.cell? ⟨g, 1, none⟩ = some (.int .i64 1024)) := Lib.hid (fun w' hb => ⟨(h1.below hb).top, by have := (h1.below hb).num; rw [hfew] at this; exact this⟩)
          obtain ⟨P, hP⟩ : ∃ P, Nib.ofL k = P := ⟨_, rfl⟩
          rw [hP] at HOF HFI
          have BD : Below w.heap.size w w.drew := (Below.refl _ _).drew
          obtain ⟨c0, c1⟩ := HT.out _ BD
          have hvl2 : decide ((32 : Int) < (v.length : Int)) = false := decide_eq_false (by omega)
          have hvl3 : decide (32 < v.length) = false := decide_eq_false (by omega)
          have hvl : ¬ ((v.length : Int) > 32) := by omega
          unfold ptr
          clear h1 h2 h3 hk hP hl hno hok hfew hv0 hv1 hv2 hx8
          go_enter Tryd.func22, Tryd.ntmps22
          go_wp2_with fail
          refine (HK.out _).mono ?_
          rintro e w1 ⟨rfl, rfl⟩
          go_upto_region 5 with fail
          go_region_held3 (fun w' => w'.cell? ⟨g, 1, none⟩ = some (.int .i64 1024))
            ((first | (with_reducible assumption) | (refine (HT.out _ ?_).2; with_reducible assumption)))
            ((go_at_call 33; refine (HOF.out _).mono ?_; rintro e w6 ⟨rfl, hb6⟩; have hb6' := bchain BD hb6))
          all_goals
            obtain ⟨d0, d1⟩ := HT.out _ hb6'
            go_wp2_with fail
            refine (HFI.out _ hb6').mono ?_
            rintro e w7 ⟨rfl, hb7⟩
            have hb7' := bchain hb6' hb7
            go_wp2
            go_ret2
            exact TWithPost.bad HC.out (by decide) hb7'
        · have hvl : (v.length : Int) > 32 := by omega
          have hvl2 : decide ((32 : Int) < (v.length : Int)) = true := decide_eq_true (by omega)
          have hvl3 : decide (32 < v.length) = true := decide_eq_true (by omega)
          unfold ptr
          clear h hk hok hv0 hv1 hv2
          go_enter Tryd.func22, Tryd.ntmps22
          go_wp2_with fail
          refine (HK.out _).mono ?_
          rintro e w1 ⟨rfl, rfl⟩
          go_wp2
          go_ret2
          exact TWithPost.bad HC.out (by decide) (Below.refl _ _)
def TPutPost (S : St) (k v : T) (w : World) (e : Ending) (w' : World) : Prop :=
  ∃ z, e = .returned (.tuple #[z, .int .i64 (Tri.putC S k v)]) ∧ (Tri.putC S k v = 0 → ∃ g', z = ptr g' ∧ TrAt w' g' (Tri.put S k v)) ∧ (Tri.putC S k v ≠ 0 → z = nilp) ∧ Below w.heap.size w w'
theorem TPutPost.bad {S : St} {k v : T} {w w' : World} {c : Nat} (h : Tri.putC S k v = c) (hc : c ≠ 0) (hb : Below w.heap.size w w') : TPutPost S k v w (.returned (.tuple #[.pointer none, .int .i64 c])) w' := by
  subst h
  exact ⟨_, rfl, fun e => absurd e hc, fun _ => rfl, hb⟩
theorem TPutPost.good {S : St} {k v : T} {w w' : World} {g' : Nat} (h : Tri.putC S k v = 0) (ht : TrAt w' g' (Tri.put S k v)) (hb : Below w.heap.size w w') : TPutPost S k v w (.returned (.tuple #[.pointer (some ⟨g', 0, none⟩), .int .i64 0])) w' :=
  ⟨_, by rw [h]; rfl, fun _ => ⟨g', rfl, ht⟩, fun e => absurd h e, hb⟩
end Go.Proofs.YtkdecmijnojhoaaDoor
namespace Go.Proofs.YtkdecmijnojhoaaDoor
open Go.RowKit
open Sto (T St)
open Tri (Tr Ok upd ix hb lay splitT Trim rank)
open Go.Proofs.YtkdecmijnojhoaaDoor.Nd (N)

def TDelPost (S : St) (k : T) (w : World) (e : Ending) (w' : World) : Prop :=
  ∃ z, e = .returned (.tuple #[z, .int .i64 (Tri.getC S k).2]) ∧ ((Tri.getC S k).2 = 0 → ∃ g', z = ptr g' ∧ TrAt w' g' (Tri.del S k)) ∧ ((Tri.getC S k).2 ≠ 0 → z = nilp) ∧ Below w.heap.size w w'
theorem TDelPost.bad {S : St} {k : T} {w w' : World} (hc : (Tri.getC S k).2 ≠ 0) (hb : Below w.heap.size w w') : TDelPost S k w (.returned (.tuple #[.pointer none, .int .i64 (Tri.getC S k).2])) w' := ⟨_, rfl, fun e => absurd e hc, fun _ => rfl, hb⟩
theorem TDelPost.good {S : St} {k : T} {w w' : World} {g' : Nat} (h : (Tri.getC S k).2 = 0) (ht : TrAt w' g' (Tri.del S k)) (hb : Below w.heap.size w w') : TDelPost S k w (.returned (.tuple #[.pointer (some ⟨g', 0, none⟩), .int .i64 0])) w' :=
  ⟨_, by rw [h]; rfl, fun _ => ⟨g', rfl, ht⟩, fun e => absurd h e, hb⟩
end Go.Proofs.YtkdecmijnojhoaaDoor
namespace Go.Proofs.YtkdecmijnojhoaaDoor
open Go.RowKit
open Go.Proofs.YtkdecmijnojhoaaDoor.Sto (St)

def Tri.ofR : St → St → St × Nat
  | S, [] => (S, 0)
  | S, a :: r => if Tri.putC S a.1 a.2 = 0 then Tri.ofR (Tri.put S a.1 a.2) r else ([], Tri.putC S a.1 a.2)
theorem Tri.ofR_step {S L : St} {k : Nat} (hk : k < L.length) (h : Tri.putC S L[k].1 L[k].2 = 0) : Tri.ofR S (L.drop k) = Tri.ofR (Tri.put S L[k].1 L[k].2) (L.drop (k + 1)) := by
  rw [List.drop_eq_getElem_cons hk, Tri.ofR, if_pos h]
theorem Tri.ofR_bad {S L : St} {k : Nat} (hk : k < L.length) (h : Tri.putC S L[k].1 L[k].2 ≠ 0) : Tri.ofR S (L.drop k) = ([], Tri.putC S L[k].1 L[k].2) := by
  rw [List.drop_eq_getElem_cons hk, Tri.ofR, if_neg h]
theorem Tri.putC_len {S : St} {x y : List UInt8} (h : Tri.putC S x y = 0) (hl : S.length ≤ 1024) : (Tri.put S x y).length ≤ 1024 := by
  rw [Tri.put_len]
  unfold Tri.putC at h
  by_cases ha : Tri.at_ S x = true
  · rw [if_pos ha]; omega
  · rw [if_neg ha]
    by_cases hk : Tri.keyed x = true
    · rw [if_pos hk] at h
      by_cases h2 : 1 ≤ y.length ∧ y.length ≤ 32 ∧ (Tri.at_ S x = true ∨ S.length < 1024)
      · have := h2.2.2.resolve_left ha; omega
      · rw [if_neg h2] at h; cases h
    · rw [if_neg hk] at h; cases h
def RtOfPost (L : St) (w : World) (e : Ending) (w' : World) : Prop :=
  ∃ v', e = .returned (.tuple #[v', .int .i64 (Tri.ofR [] L).2]) ∧ ItAt w' v' (Tri.ofR [] L).1 ∧ Below w.heap.size w w'
theorem RtOfPost.of {L S : St} {c : Nat} {w w' : World} {v' : Value} (h : Tri.ofR [] L = (S, c)) (hv : ItAt w' v' S) (hb : Below w.heap.size w w') : RtOfPost L w (.returned (.tuple #[v', .int .i64 c])) w' :=
  ⟨v', by rw [h], by rw [h]; exact hv, hb⟩
set_option maxRecDepth 8000 in
set_option maxHeartbeats 2000000 in
theorem rtOf_all (L : St) (v : Value) (w : World) (hv : ItIn w v L) (hl : L.length ≤ 10000) :
    Calls Tryd.prog 8 #[v] w (RtOfPost L w) := by
  have HV := Lib.hid hv
  have HL := Lib.hid hl
  have HB0 := Lib.hid (Below.refl w.heap.size w)
  obtain ⟨A, cap, rfl, -, -⟩ := hv.form
  clear hv
  go_enter Tryd.func8, Tryd.ntmps8
  go_wp2
  go_loopw [4, 5] (fun av iv wr => ∃ (k : Nat) (v' : Value) (S : St), v' = av ∧ k ≤ L.length ∧ iv = .int .i64 k ∧ ItAt wr v' S ∧ S.length ≤ 1024 ∧ Tri.ofR [] L = Tri.ofR S (L.drop k) ∧ Below w.heap.size w wr) (fun _ i _ => L.length - (intOf i).toNat)
  case atStart => exact ⟨0, _, [], rfl, Nat.zero_le _, rfl, RowsAt.nil .., by simp, rfl, HB0.out⟩
  case round =>
    obtain ⟨k, v', S, rfl, hk, rfl, hvS, hSl, hof, hb⟩ := hrel
    have HB := Lib.hid hb
    have HOF := Lib.hid hof
    have HSL := Lib.hid hSl
    have HVS := Lib.hid hvS
    by_cases hlt : k < L.length
    · have h1 : (k : Int) < (L.length : Int) := by omega
      have h0 : (0 : Int) ≤ (k : Int) := by omega
      have hnb : (k : Int) ≤ 100000 := by omega
      have HVW := Lib.hid (RowsIn.below HV.out hb)
      obtain ⟨b, o, rfl, n0, n1⟩ := ItIn.at HVW.out k hlt
      have HST := Lib.hid (Tri.ofR_step (S := S) hlt)
      have HSB := Lib.hid (Tri.ofR_bad (S := S) hlt)
      obtain ⟨x, hx⟩ : ∃ x, L[k].1 = x := ⟨_, rfl⟩
      obtain ⟨y, hy⟩ : ∃ y, L[k].2 = y := ⟨_, rfl⟩
      rw [hx, hy] at HST HSB
      rw [hx] at n0
      rw [hy] at n1
      have HCL : Hid (∀ w', Below wr.heap.size wr w' → w'.cell? ⟨b, o + k * 2, none⟩ = some (.string ⟨x.toArray⟩) ∧ w'.cell? ⟨b, o + k * 2 + 1, none⟩ = some (.string ⟨y.toArray⟩)) := Lib.hid (fun w' hb' => by
        obtain ⟨b2, o2, e, m0, m1⟩ := ItIn.at (RowsIn.below HVW.out hb') k hlt
        cases e
        rw [hx] at m0; rw [hy] at m1
        exact ⟨m0, m1⟩)
      have HPU : Hid (∀ w', Below wr.heap.size wr w' → Calls Tryd.prog 20 #[v', .string ⟨x.toArray⟩, .string ⟨y.toArray⟩] w' fun e w'' => ∃ vn, e = .returned (.tuple #[vn, .int .i64 (Tri.putC S x y)]) ∧ ItAt w'' vn (Tri.putL S x y) ∧ Below wr.heap.size wr w'') := Lib.hid (fun w' hb' => (rtPut_all S v' x y w' (HVS.out.below hb') (by have := HSL.out; omega)).mono fun e w'' ⟨vn, q1, q2, q3⟩ => ⟨vn, q1, q2, hb'.trans (q3.mono hb'.size)⟩)
      obtain ⟨c, hc⟩ : ∃ c, Tri.putC S x y = c := ⟨_, rfl⟩
      have HC := Lib.hid hc
      rw [hc] at HPU HST HSB
      have BD : Below wr.heap.size wr wr.drew := (Below.refl _ wr).drew
      have cD := HCL.out _ BD
      obtain ⟨m0, m1⟩ := cD
      have HPL : Hid (c = 0 → (Tri.put S x y).length ≤ 1024) := Lib.hid (fun h => Tri.putC_len (hc.trans h) HSL.out)
      have HLL : Hid (c = 0 → Tri.putL S x y = Tri.put S x y) := Lib.hid (fun h => by rw [Tri.putL, if_pos (hc.trans h)])
      clear hvS hof hb hSl hx hy hc n0 n1
      go_upto_region 5 with fail
      go_region_held3 (fun w' => w'.cell? ⟨b, o + k * 2, none⟩ = some (.string ⟨x.toArray⟩) ∧ w'.cell? ⟨b, o + k * 2 + 1, none⟩ = some (.string ⟨y.toArray⟩))
        ((first | (refine HCL.out _ ?_; with_reducible assumption) | (with_reducible assumption)))
        ((go_at_call 20; refine (HPU.out _ ?_).mono ?_; (with_reducible assumption); rintro e wa ⟨vn, rfl, hva, ha⟩))
      all_goals
        by_cases hc0 : c = 0
        · subst hc0
          go_wp2
          refine ⟨⟨k + 1, vn, Tri.put S x y, rfl, by omega, by go_num, ?_, HPL.out rfl, ?_, ?_⟩, by simp [intOf]; omega⟩
          · rw [← HLL.out rfl]; exact hva
          · rw [HOF.out]; exact HST.out rfl
          · exact HB.out.trans (ha.mono HB.out.size)
        · have hc1 : ((c : Int) == 0) = false := by simp; omega
          go_wp2
          go_ret2
          exact RtOfPost.of (HOF.out.trans (HSB.out hc0)) (RowsAt.nil ..) (HB.out.trans (ha.mono HB.out.size))
    · obtain rfl : k = L.length := by omega
      have h1 : ¬ ((L.length : Int) < (L.length : Int)) := by omega
      have HEND : Hid (Tri.ofR [] L = (S, 0)) := Lib.hid (by rw [HOF.out, List.drop_length]; rfl)
      clear hvS hof hb hSl
      go_wp2
      go_ret2
      exact RtOfPost.of HEND.out HVS.out HB.out
end Go.Proofs.YtkdecmijnojhoaaDoor
namespace Go.Proofs.YtkdecmijnojhoaaDoor
open Go.RowKit
open Sto (T St)
open Tri (Tr Ok upd ix hb lay splitT Trim rank)
open Go.Proofs.YtkdecmijnojhoaaDoor.Nd (N)

def TOfPost (L : St) (w : World) (e : Ending) (w' : World) : Prop :=
  ∃ z, e = .returned (.tuple #[z, .int .i64 (Tri.ofR [] L).2]) ∧ ((Tri.ofR [] L).2 = 0 → ∃ g', z = ptr g' ∧ TrAt w' g' (Tri.ofR [] L).1) ∧ ((Tri.ofR [] L).2 ≠ 0 → z = nilp) ∧ Below w.heap.size w w'
theorem TOfPost.bad {L S : St} {c : Nat} {w w' : World} (h : Tri.ofR [] L = (S, c)) (hc : c ≠ 0) (hb : Below w.heap.size w w') : TOfPost L w (.returned (.tuple #[.pointer none, .int .i64 c])) w' := ⟨nilp, by rw [h]; rfl, by rw [h]; exact fun e => absurd e hc, fun _ => rfl, hb⟩
theorem TOfPost.good {L S : St} {g' : Nat} {w w' : World} (h : Tri.ofR [] L = (S, 0)) (hT : TrAt w' g' S) (hb : Below w.heap.size w w') : TOfPost L w (.returned (.tuple #[.pointer (some ⟨g', 0, none⟩), .int .i64 0])) w' := ⟨_, by rw [h]; rfl, by rw [h]; exact fun _ => ⟨g', rfl, hT⟩, by rw [h]; exact fun e => absurd rfl e, hb⟩
set_option maxRecDepth 100000 in
set_option maxHeartbeats 2000000 in
theorem tof_wide (L : St) (v : Value) (w : World) (hv : ItIn w v L) (hl : L.length ≤ 5000000000000) (hT : Tab w) :
    Calls Tryd.prog 9 #[v] w (TOfPost L w) := by
  have HV := Lib.hid hv
  have HT := Lib.hid hT
  have HL := Lib.hid hl
  have HNW := Lib.hid (tnew_any w)
  unfold ptr at HNW
  obtain ⟨A, cap, rfl, -, -⟩ := hv.form
  clear hv hT
  go_enter Tryd.func9, Tryd.ntmps9
  go_wp2_with fail
  refine HNW.out.mono ?_
  rintro e w1 ⟨g0, rfl, ht0, -, hb1⟩
  have HB1 := Lib.hid hb1
  have H0 := Lib.hid (ht0.open w.heap.size)
  clear ht0 hb1
  go_wp2
  go_loopw [4, 12] (fun av iv wr => ∃ (k : Nat) (gk : Nat) (S : St), av = .pointer (some ⟨gk, 0, none⟩) ∧ k ≤ L.length ∧ iv = .int .i64 k ∧ OpenAt wr (Fm.from w.heap.size) gk S ∧ Tri.ofR [] L = Tri.ofR S (L.drop k) ∧ Below w.heap.size w wr) (fun _ i _ => L.length - (intOf i).toNat)
  case atStart => exact ⟨0, g0, [], rfl, Nat.zero_le _, rfl, H0.out, rfl, HB1.out⟩
  case round =>
    obtain ⟨k, gk, S, rfl, hk, rfl, hop, hof, hb⟩ := hrel
    have HB := Lib.hid hb
    have HOF := Lib.hid hof
    by_cases hlt : k < L.length
    · have h1 : (k : Int) < (L.length : Int) := by omega
      have h0 : (0 : Int) ≤ (k : Int) := by omega
      have hnb : (k : Int) ≤ 5000000000000 := by omega
      have HVW := Lib.hid (RowsIn.below HV.out hb)
      obtain ⟨b, o, rfl, n0, n1⟩ := ItIn.at HVW.out k hlt
      have HST := Lib.hid (Tri.ofR_step (S := S) hlt)
      have HSB := Lib.hid (Tri.ofR_bad (S := S) hlt)
      obtain ⟨x, hx⟩ : ∃ x, L[k].1 = x := ⟨_, rfl⟩
      obtain ⟨y, hy⟩ : ∃ y, L[k].2 = y := ⟨_, rfl⟩
      rw [hx, hy] at HST HSB
      rw [hx] at n0
      rw [hy] at n1
      have hba : Below wr.heap.size wr (wr.alloc (.cells #[.string ⟨x.toArray⟩, .string ⟨y.toArray⟩] 44)) := (Below.refl _ wr).alloc (Nat.le_refl _) _
      have HWI := Lib.hid (twith_any x y (wr.alloc (.cells #[.string ⟨x.toArray⟩, .string ⟨y.toArray⟩] 44)) (Fm.from w.heap.size) (fun g hg _ => Nat.le_trans hb.size (Nat.le_trans hba.size hg)) (hop.below hba))
      have HBA : Hid (∀ w', Below (wr.alloc (.cells #[.string ⟨x.toArray⟩, .string ⟨y.toArray⟩] 44)).heap.size (wr.alloc (.cells #[.string ⟨x.toArray⟩, .string ⟨y.toArray⟩] 44)) w' → Below w.heap.size w w') := Lib.hid (fun w' h => HB.out.trans ((bchain hba h).mono HB.out.size))
      unfold TWithPost ptr at HWI
      obtain ⟨c, hc⟩ : ∃ c, Tri.putC S x y = c := ⟨_, rfl⟩
      rw [hc] at HWI HST HSB
      clear hop hof hb hx hy hba hc
      go_wp2_with fail
      refine HWI.out.mono ?_
      rintro e w2 ⟨z, rfl, hz1, hz0, hb2⟩
      have HB2 := Lib.hid (HBA.out _ hb2)
      by_cases hc0 : c = 0
      · obtain ⟨g', rfl, -, hop2⟩ := hz1 hc0
        subst hc0
        replace HST := Lib.hid (HST.out rfl)
        have HOP := Lib.hid hop2
        clear hz1 hz0 hb2 hop2
        go_wp2
        exact ⟨⟨k + 1, g', Tri.put S x y, rfl, by omega, by go_num, HOP.out, by rw [HOF.out]; exact HST.out, HB2.out⟩, by simp [intOf]; omega⟩
      · have hc1 : ((c : Int) == 0) = false := by rw [beq_eq_false_iff_ne]; omega
        have e1 : z = .pointer none := hz0 hc0
        subst e1
        have HC := Lib.hid hc0
        clear hz1 hz0 hb2 hc0
        go_wp2
        go_ret2
        exact TOfPost.bad (HOF.out.trans (HSB.out HC.out)) HC.out HB2.out
    · obtain rfl : k = L.length := by omega
      have h1 : ¬ ((L.length : Int) < (L.length : Int)) := by omega
      have HEND : Hid (Tri.ofR [] L = (S, 0)) := Lib.hid (by rw [HOF.out, List.drop_length]; rfl)
      obtain ⟨top, t, hr, hp, hs⟩ := hop
      have HSE := Lib.hid (seal_to t top wr w.heap.size HT.out.pos hb.size (HT.out.mid hb HT.out.pos) hs.ok hp)
      have HR := Lib.hid hr
      have HS := Lib.hid hs
      have m0 := hr.top
      clear hof hb hr hp hs
      go_wp2_with fail
      refine HSE.out.mono ?_
      rintro e w2 ⟨rfl, hp2, hk2, hb2⟩
      have HTR : Hid (TrAt w2 gk S) := Lib.hid ⟨top, t, hk2.2.2 _ _ _ _ (by decide) HR.out, hp2.sealed (fun _ _ e => by cases e) true, HS.out⟩
      have HB2 := Lib.hid (HB.out.trans hb2)
      clear hp2 hk2 hb2
      go_wp2
      go_ret2
      exact TOfPost.good HEND.out HTR.out HB2.out
theorem tof_in (L : St) (v : Value) (w : World) (hv : ItIn w v L) (hl : L.length ≤ 10000) (hT : Tab w) :
    Calls Tryd.prog 9 #[v] w (TOfPost L w) := tof_wide L v w hv (by omega) hT
theorem tof_any (L : St) (v : Value) (w : World) (hv : ItAt w v L) (hl : L.length ≤ 10000) (hT : Tab w) :
    Calls Tryd.prog 9 #[v] w (TOfPost L w) := tof_in L v w hv.inn hl hT
end Go.Proofs.YtkdecmijnojhoaaDoor
namespace Go.Proofs.YtkdecmijnojhoaaDoor
open Go.RowKit
open Sto (T St)

def BehindOk : Prop := ∀ (x : T) (w : World), x.length ≤ maxLen → Calls Tryd.prog 10 #[.string ⟨x.toArray⟩] w fun e w' => e = .returned (.string ⟨(Scn.behind x).toArray⟩) ∧ Below w.heap.size w w'
def SPage (S : St) (f e : T) (m : Int) (w : World) (x : Ending) (w' : World) : Prop :=
  ∃ s, x = .returned (.tuple #[s, .string ⟨(Scn.pageR S f e m).2.1.toArray⟩, .int .i64 (Scn.pageR S f e m).2.2]) ∧ OwnI w' w.heap.size s (Scn.pageR S f e m).1 ∧ Below w.heap.size w w'
def RangeOk : Prop := ∀ (g : Nat) (S : St) (f e : T) (m : Int) (w : World), TrAt w g S → Calls Tryd.prog 12 #[ptr g, .string ⟨f.toArray⟩, .string ⟨e.toArray⟩, .int .i64 m] w (SPage S f e m w)
def CountOk : Prop := ∀ (g : Nat) (S : St) (f e : T) (w : World), TrAt w g S → Calls Tryd.prog 15 #[ptr g, .string ⟨f.toArray⟩, .string ⟨e.toArray⟩] w fun x w' => x = .returned (.int .i64 (Scn.allR S f e).length) ∧ Below w.heap.size w w'

def Scn.wL : St := [([97], [49]), ([98], [50]), ([99], [51])]
theorem Scn.wL_of : Tri.ofR [] Scn.wL = (Scn.wL, 0) := by decide +kernel
theorem Scn.wL_page : Scn.pageR Scn.wL [98] [] 1 = ([([98], [50])], [98, 0], 0) := by decide +kernel
theorem Scn.w_behind : Scn.behind [97, 98, 99, 100, 101, 102, 103, 255] = [97, 98, 99, 100, 101, 102, 104] := by decide +kernel

set_option maxRecDepth 100000 in
set_option maxHeartbeats 2000000 in
theorem scworks_any (HBE : BehindOk) (HRA : RangeOk) (w : World) (hT : Tab w) : Calls Tryd.prog 7 #[] w fun e w' => e = .returned (.bool true) ∧ Below w.heap.size w w' := by
  have ht1 : ItAt (w.alloc (.cells #[.string ⟨#[97]⟩, .string ⟨#[49]⟩, .string ⟨#[98]⟩, .string ⟨#[50]⟩, .string ⟨#[99]⟩, .string ⟨#[51]⟩] 44)) (.slice (some ⟨w.heap.size, 0, none⟩) 3 3) Scn.wL :=
    OwnI.at_ (B := w.heap.size) ⟨rfl, Or.inr ⟨w.heap.size, 3, _, rfl, Nat.le_refl _, heap_alloc_new w _, by simp [Scn.wL], by simp [maxLen], rfl, rfl⟩⟩
  have hbA : Below w.heap.size w (w.alloc (.cells #[.string ⟨#[97]⟩, .string ⟨#[49]⟩, .string ⟨#[98]⟩, .string ⟨#[50]⟩, .string ⟨#[99]⟩, .string ⟨#[51]⟩] 44)) := (Below.refl _ w).alloc (Nat.le_refl _) _
  have HO1 := Lib.hid (tof_any Scn.wL _ _ ht1 (by decide) (hT.below hbA))
  unfold TOfPost at HO1
  rw [Scn.wL_of] at HO1
  have HBA := Lib.hid hbA
  have HBK : Hid (∀ w, Calls Tryd.prog 10 #[.string ⟨#[97, 98, 99, 100, 101, 102, 103, 255]⟩] w fun e w' => e = .returned (.string ⟨#[97, 98, 99, 100, 101, 102, 104]⟩) ∧ Below w.heap.size w w') := Lib.hid (fun w => by
    have := HBE [97, 98, 99, 100, 101, 102, 103, 255] w (by unfold maxLen; decide)
    rw [Scn.w_behind] at this
    exact this)
  have HRK : Hid (∀ g w, TrAt w g Scn.wL → Calls Tryd.prog 12 #[.pointer (some ⟨g, 0, none⟩), .string ⟨#[98]⟩, .string ⟨#[]⟩, .int .i64 1] w fun x w' => ∃ s, x = .returned (.tuple #[s, .string ⟨#[98, 0]⟩, .int .i64 0]) ∧ OwnI w' w.heap.size s [([98], [50])] ∧ Below w.heap.size w w') := Lib.hid (fun g w h => by
    have := HRA g Scn.wL [98] [] 1 w h
    unfold SPage at this
    rw [Scn.wL_page] at this
    exact this)
  clear ht1 hbA hT HBE HRA
  go_enter Tryd.func7, Tryd.ntmps7
  go_wp2_with fail
  refine HO1.out.mono ?_
  rintro e w1 ⟨z1, rfl, h1, -, hb1⟩
  obtain ⟨g1, rfl, t1⟩ := h1 trivial
  have HB1 : Hid (Below w.heap.size w w1) := Lib.hid (bchain HBA.out hb1)
  have HT1 := Lib.hid t1
  clear h1 t1 hb1
  unfold ptr
  go_wp2_with fail
  refine (HRK.out g1 w1 HT1.out).mono ?_
  rintro e w2 ⟨s, rfl, own, hb2⟩
  have HB2 : Hid (Below w.heap.size w w2) := Lib.hid (bchain HB1.out hb2)
  obtain ⟨B, cap, rfl, -, -⟩ := own.at_.form
  obtain ⟨b, o, rfl, n0, -⟩ := ItAt.at own.at_ 0 (by simp)
  have m0 : w2.cell? ⟨b, o, none⟩ = some (.string ⟨#[98]⟩) := n0
  clear own hb2 n0
  go_wp2_with fail
  refine (HBK.out w2).mono ?_
  rintro e w3 ⟨rfl, hb3⟩
  go_wp2
  go_ret
  exact ⟨rfl, bchain HB2.out hb3⟩
end Go.Proofs.YtkdecmijnojhoaaDoor
namespace Go.Proofs.YtkdecmijnojhoaaDoor
open Go.RowKit
open Sto (T St)

set_option maxRecDepth 100000 in
set_option maxHeartbeats 2000000 in
theorem behind_ok : BehindOk := by
  intro x w hl
  by_cases h8 : 8 < x.length
  · have hb : Scn.behind x = [] := Scn.behind_long h8
    have h1 : (8 : Int) < (x.length : Int) := by omega
    rw [hb]
    clear hb
    go_enter Tryd.func10, Tryd.ntmps10
    go_wp2
    go_ret
    exact ⟨rfl, Below.refl _ _⟩
  have h1 : ¬ ((8 : Int) < (x.length : Int)) := by omega
  by_cases hlt : x.length < 8
  · have hb : Scn.behind x = x ++ [0] := by unfold Scn.behind; rw [if_neg h8, if_pos hlt]
    have h2 : (x.length : Int) < 8 := by omega
    have hc := cat_mk x [0]
    rw [hb]
    clear hb
    go_enter Tryd.func10, Tryd.ntmps10
    go_wp2
    go_ret
    exact ⟨rfl, Below.refl _ _⟩
  have h2 : ¬ ((x.length : Int) < 8) := by omega
  have h3 : x.length = 8 := by omega
  have hb : Scn.behind x = Scn.bump x := by unfold Scn.behind; rw [if_neg h8, if_neg hlt]
  rw [hb]
  have H3 := Lib.hid h3
  clear hb h8 hlt hl
  go_enter Tryd.func10, Tryd.ntmps10
  go_wp2
  go_loop [3] (fun iv => ∃ k : Nat, k ≤ 8 ∧ iv = .int .i64 ((k : Int) - 1) ∧ ∀ b ∈ x.drop k, b = 255) (fun i => (intOf i + 1).toNat)
  case atStart => exact ⟨8, by omega, by go_num, by rw [List.drop_of_length_le (by omega)]; simp⟩
  case round =>
    obtain ⟨k, hk, rfl, hd⟩ := hrel
    have HD := Lib.hid hd
    clear hd
    cases k with
    | zero =>
      have hf := Scn.bump_full x (by simpa using HD.out)
      go_wp2
      go_ret
      exact ⟨rfl, Below.refl _ _⟩
    | succ i =>
      have hi : i < x.length := by omega
      obtain ⟨c, hc⟩ : ∃ c, x[i] = c := ⟨_, rfl⟩
      have hidx : ∀ h, (⟨x.toArray⟩ : ByteArray)[i]'h = c := fun _ => hc
      by_cases h255 : c = 255
      · have hn : ((c.toNat : Int) == 255) = true := by rw [h255]; rfl
        have hn2 : (c.toNat : Int) = 255 := by rw [h255]; rfl
        have HD2 : Hid (∀ b ∈ x.drop i, b = 255) := Lib.hid (by
          intro b hb
          rw [List.drop_eq_getElem_cons hi] at hb
          rcases List.mem_cons.1 hb with rfl | hb
          · rw [hc]; exact h255
          · exact HD.out b hb)
        clear h255 hc
        go_wp2
        refine ⟨⟨i, by omega, by go_num, HD2.out⟩, by simp [intOf]⟩
      · have hn2 : ¬ ((c.toNat : Int) = 255) := by
          have : c.toNat ≠ 255 := fun e => h255 (by rw [← UInt8.toNat_inj]; exact e)
          omega
        have hn : ((c.toNat : Int) == 255) = false := beq_eq_false_iff_ne.2 hn2
        have HB := Lib.hid (Scn.bump_last x i hi HD.out (by rw [hc]; exact h255))
        rw [hc] at HB
        have hn3 : (c.toNat : Int) < 255 := by have := c.toNat_lt; omega
        have hcv := conv_one w (c + 1) ((c.toNat : Int) + 1) (by simp [UInt8.toNat_add]; omega)
        have hch := cut_head x i
        have hct := cat_mk (x.take i) [c + 1]
        clear h255 hc
        go_wp2
        go_region
        all_goals
          go_wp2
          go_ret
          rw [HB.out]
          exact ⟨rfl, ((Below.refl _ _).alloc (Nat.le_refl _) _).drew⟩
end Go.Proofs.YtkdecmijnojhoaaDoor
namespace Go.Proofs.YtkdecmijnojhoaaDoor
open Go.RowKit

/-- Block k is the box Bx, or what the value in it owns. -/
def Mine (Bx : Nat) (A : World) (k : Nat) : Prop := k = Bx ∨ ∃ v, A.cell? ⟨Bx, 0, none⟩ = some v ∧ v.ownBlock = some k
structure Kpt (Bx : Nat) (A B : World) : Prop where
  size : A.heap.size ≤ B.heap.size
  keep : ∀ k, k < A.heap.size → ¬ Mine Bx A k → ¬ Mine Bx B k ∧ ∀ o, A.heap[k]? = some o → o.isCells = true → B.heap[k]? = some o
theorem Kpt.refl (Bx : Nat) (A : World) : Kpt Bx A A := ⟨Nat.le_refl _, fun _ _ h => ⟨h, fun _ h _ => h⟩⟩
theorem Kpt.trans {Bx : Nat} {A B C : World} (h : Kpt Bx A B) (g : Kpt Bx B C) : Kpt Bx A C :=
  ⟨Nat.le_trans h.size g.size, fun k hk hm => by
    obtain ⟨h1, h2⟩ := h.keep k hk hm
    obtain ⟨g1, g2⟩ := g.keep k (Nat.lt_of_lt_of_le hk h.size) h1
    exact ⟨g1, fun o ho hc => g2 o (h2 o ho hc) hc⟩⟩
theorem Mine.of_below {Bx : Nat} {A B : World} (h : Below A.heap.size A B) (hB : Bx < A.heap.size) (k : Nat) : Mine Bx B k ↔ Mine Bx A k := by
  unfold Mine
  rw [World.cell?_of_block (w := A) (w' := B) (a := ⟨Bx, 0, none⟩) (h.block Bx hB)]
theorem Kpt.of_below {Bx : Nat} {A B : World} (h : Below A.heap.size A B) (hB : Bx < A.heap.size) : Kpt Bx A B :=
  ⟨h.size, fun k hk hm => ⟨fun e => hm ((Mine.of_below h hB k).1 e), fun _ ho _ => (h.block k hk).trans ho⟩⟩
theorem kpt_t {Bx : Nat} {A B C : World} (h : Kpt Bx A B) (g : Kpt Bx B C) : Kpt Bx A C := h.trans g
theorem kpt_b {Bx : Nat} {w : World} (hB : Bx < w.heap.size) (W : World) (l : Nat) (o o' : Obj) (hl : w.heap.size ≤ l) (h : W.heap[l]? = some o) (hc : o.isCells = false) (_ : o.isWalk = false) : Kpt Bx W (W.putObj l o') := by
  have hg := grownBy_putObj' W l o'
  have hlt := lt_of_heap h
  have hsame : ∀ k, k < W.heap.size → k ≠ l → (W.putObj l o').heap[k]? = W.heap[k]? := fun k hk hn => hg.block k hk (fun e => hn (Option.some.inj e))
  refine ⟨hg.size, fun k hk hm => ⟨?_, fun o1 ho hc1 => ?_⟩⟩
  · unfold Mine
    rw [World.cell?_of_block (w := W) (a := ⟨Bx, 0, none⟩) (hsame Bx (by omega) (by omega))]
    exact hm
  · by_cases e : k = l
    · subst e; rw [h] at ho; cases ho; rw [hc] at hc1; cases hc1
    · exact (hsame k hk e).trans ho
/-- A store into the box of a value that owns nothing. -/
theorem Kpt.store {Bx : Nat} {W : World} {u v : Value} (hu : W.cell? ⟨Bx, 0, none⟩ = some u) (hv : v.ownBlock = none) : Kpt Bx W (W.setCell ⟨Bx, 0, none⟩ v) := by
  have hs : (W.setCell ⟨Bx, 0, none⟩ v).heap.size = W.heap.size := by simp [World.setCell]
  refine ⟨by rw [hs]; exact Nat.le_refl _, fun k hk hm => ?_⟩
  have hne : k ≠ Bx := fun e => hm (Or.inl e)
  refine ⟨?_, fun o ho _ => (Below.heap_setCell W ⟨Bx, 0, none⟩ v k hne).trans ho⟩
  rintro (e | ⟨x, hx, ho⟩)
  · exact hne e
  · rw [World.cell?_setCell_same' _ _ _ (by rw [hu]; rfl)] at hx
    cases hx
    rw [hv] at ho; cases ho
/-- A block of cells that is not the box's lies as it lay. -/
theorem Kpt.heap {Bx : Nat} {A B : World} (h : Kpt Bx A B) {k : Nat} {c : Array Value} {t : TypeId} {p : Nat × Nat} (hk : A.heap[k]? = some (.cells c t p)) (hm : ¬ Mine Bx A k) : B.heap[k]? = some (.cells c t p) ∧ ¬ Mine Bx B k :=
  let ⟨h1, h2⟩ := h.keep k (lt_of_heap hk) hm
  ⟨h2 _ hk rfl, h1⟩
theorem grown_of_below {A B : World} (h : Below A.heap.size A B) : A.grownBy B none := ⟨h.os, h.tape, h.output, h.size, fun k hk _ => h.block k hk⟩
/-- An iterator's own new blocks and draws. -/
theorem abides_below {β : Type} {B : Nat} {J : β → World → Prop} (h : AbidesFrom B J) {s : β} {A C : World} (hs : J s A) (hb : Below A.heap.size A C) : J s C :=
  h s A C none hs (grown_of_below hb) (fun r e => by cases e)
end Go.Proofs.YtkdecmijnojhoaaDoor
namespace Go.Proofs.YtkdecmijnojhoaaDoor
open Go.RowKit
open Sto (T)
open Tri (Tr Ok upd ix hb lay splitT Trim rank)
open Go.Proofs.YtkdecmijnojhoaaDoor.Nd (N)

end Go.Proofs.YtkdecmijnojhoaaDoor
namespace Go.Proofs.YtkdecmijnojhoaaDoor
open Go.RowKit
open Sto (T St)
open Tri (Tr Ok upd ix hb lay splitT Trim rank)
open Go.Proofs.YtkdecmijnojhoaaDoor.Nd (N)

namespace Tri
def wL : St := [([97, 98], [50]), ([97], [49])]
def wS : St := [([97], [49]), ([97, 98], [50])]
theorem wL_of : ofR [] wL = (wS, 0) := by decide +kernel
end Tri
/-- What a trie's nodes are. -/
theorem TrAt.tree {w : World} {g : Nat} {S : St} (h : TrAt w g S) : ∃ top t, TRow w g top S.length ∧ PAt w (Fm.from 0) true t top ∧ TrS S t := h
end Go.Proofs.YtkdecmijnojhoaaDoor
namespace Go.Proofs.YtkdecmijnojhoaaDoor
open Go.RowKit Go.ChangeShapes Go.WideShapes

/-- An act. -/
structure ActT where
  kind : Int
  key : List UInt8
  val : List UInt8
instance : Inhabited ActT := ⟨⟨0, [], []⟩⟩
def TActs (w : World) (v : Value) (L : List ActT) : Prop :=
  ∃ (A : Option Addr) (cap : Nat), v = .slice A L.length cap ∧ (0 < L.length → ∃ b o, A = some ⟨b, o, none⟩ ∧ b < w.heap.size ∧ ∀ i (h : i < L.length),
    w.cell? ⟨b, o + i * 3, none⟩ = some (.int .i64 L[i].kind) ∧ w.cell? ⟨b, o + i * 3 + 1, none⟩ = some (.string ⟨L[i].key.toArray⟩) ∧ w.cell? ⟨b, o + i * 3 + 2, none⟩ = some (.string ⟨L[i].val.toArray⟩))
theorem TActs.below {w w' : World} {v : Value} {L : List ActT} (h : TActs w v L) (hb : Below w.heap.size w w') : TActs w' v L := by
  obtain ⟨A, cap, rfl, hc⟩ := h
  refine ⟨A, cap, rfl, fun h0 => ?_⟩
  obtain ⟨b, o, rfl, hlt, hcell⟩ := hc h0
  refine ⟨b, o, rfl, Nat.lt_of_lt_of_le hlt hb.size, fun i hi => ?_⟩
  obtain ⟨h1, h2, h3⟩ := hcell i hi
  exact ⟨(hb.cell hlt).trans h1, (hb.cell hlt).trans h2, (hb.cell hlt).trans h3⟩
theorem TActs.form {w : World} {v : Value} {L : List ActT} (h : TActs w v L) : ∃ A cap, v = .slice A L.length cap := by
  obtain ⟨A, cap, rfl, _⟩ := h
  exact ⟨A, cap, rfl⟩
theorem TActs.at {w w' : World} {A : Option Addr} {n cap : Nat} {L : List ActT} (h : TActs w (.slice A n cap) L) (hb : Below w.heap.size w w') (k : Nat) (hk : k < L.length) :
    ∃ b o, A = some ⟨b, o, none⟩ ∧ b < w.heap.size ∧ w'.cell? ⟨b, o + k * 3, none⟩ = some (.int .i64 L[k].kind) ∧ w'.cell? ⟨b, o + k * 3 + 1, none⟩ = some (.string ⟨L[k].key.toArray⟩) ∧ w'.cell? ⟨b, o + k * 3 + 2, none⟩ = some (.string ⟨L[k].val.toArray⟩) := by
  obtain ⟨A0, cap0, hv0, hc0⟩ := h
  obtain ⟨rfl, rfl, rfl⟩ : A = A0 ∧ n = L.length ∧ cap = cap0 := by simpa using hv0
  obtain ⟨b, o, rfl, hlt, hcell⟩ := hc0 (by omega)
  obtain ⟨h1, h2, h3⟩ := hcell k hk
  exact ⟨b, o, rfl, hlt, (hb.cell hlt).trans h1, (hb.cell hlt).trans h2, (hb.cell hlt).trans h3⟩

end Go.Proofs.YtkdecmijnojhoaaDoor
namespace Go.Proofs.YtkdecmijnojhoaaDoor
open Go.RowKit
open Sto (T St)
open Tri (Tr)

end Go.Proofs.YtkdecmijnojhoaaDoor
namespace Go.Proofs.YtkdecmijnojhoaaDoor
open Go.RowKit
open Sto (T St)
open Tri (Tr)

end Go.Proofs.YtkdecmijnojhoaaDoor
namespace Go.Proofs.YtkdecmijnojhoaaDoor
open Go.RowKit
open Sto (T St)

theorem take_snoc_it {L K : St} {k : Nat} (h1 : k < L.length) (h2 : k < K.length) : L.take (k + 1) = K.take (k + 1) ↔ L.take k = K.take k ∧ L[k] = K[k] := by
  rw [List.take_succ_eq_append_getElem h1, List.take_succ_eq_append_getElem h2]
  constructor
  · intro h
    have := List.append_inj' h rfl
    exact ⟨this.1, by simpa using this.2⟩
  · rintro ⟨a, b⟩
    rw [a, b]

set_option maxRecDepth 8000 in
set_option maxHeartbeats 2000000 in
theorem sameI_in (L K : St) (u v : Value) (w : World) (hu : ItIn w u L) (hv : ItIn w v K) (hl : L.length ≤ 1000000) (hk : K.length ≤ 1000000) :
    Calls Tryd.prog 14 #[u, v] w fun x w' => x = .returned (.bool (decide (L = K))) ∧ Below w.heap.size w w' := by
  have HU := Lib.hid hu
  have HV := Lib.hid hv
  obtain ⟨A, cap, rfl, -, -⟩ := hu.form
  obtain ⟨B, cap2, rfl, -, -⟩ := hv.form
  clear hu hv
  by_cases he : L.length = K.length
  · have h0 : ((L.length : Int) == (K.length : Int)) = true := by rw [beq_iff_eq]; omega
    have HE := Lib.hid he
    go_enter Tryd.func14, Tryd.ntmps14
    go_wp2
    go_loopw [5, 6] (fun s i wr => ∃ k : Nat, k ≤ L.length ∧ s = .bool (decide (L.take k = K.take k)) ∧ i = .int .i64 k ∧ Below w.heap.size w wr ∧ (L.take k ≠ K.take k → L ≠ K)) (fun _ i _ => L.length - (intOf i).toNat)
    case atStart => exact ⟨0, Nat.zero_le _, by simp, rfl, Below.refl _ _, by simp⟩
    case round =>
      obtain ⟨k, hk, rfl, rfl, hbel, hno⟩ := hrel
      have HN := Lib.hid hno
      have HB := Lib.hid hbel
      clear hno hbel
      rcases htk : decide (L.take k = K.take k) with _ | _
      · have HT := Lib.hid htk
        clear htk
        go_wp2
        go_ret
        refine ⟨?_, HB.out⟩
        have h := HN.out (of_decide_eq_false HT.out)
        rw [decide_eq_false h]
        rfl
      · have HT := Lib.hid htk
        clear htk
        by_cases hlt : k < L.length
        · have h1 : (k : Int) < (L.length : Int) := by omega
          have h2 : (k : Int) < (K.length : Int) := by omega
          have h3 : (0 : Int) ≤ (k : Int) := by omega
          obtain ⟨b, o, rfl, n0, n1⟩ := ItIn.at (RowsIn.below HU.out HB.out) k hlt
          obtain ⟨b2, o2, rfl, m0, m1⟩ := ItIn.at (RowsIn.below HV.out HB.out) k (by omega)
          have HSN := Lib.hid (take_snoc_it hlt (show k < K.length by omega))
          have HNE : Hid (∀ h : k < K.length, L[k] ≠ K[k] → L ≠ K) := Lib.hid (fun _ h e => by subst e; exact h rfl)
          obtain ⟨⟨x, p⟩, hx⟩ : ∃ m, L[k] = m := ⟨_, rfl⟩
          obtain ⟨⟨y, q⟩, hy⟩ : ∃ m, K[k]'(by omega) = m := ⟨_, rfl⟩
          rw [hx] at n0 n1
          rw [hy] at m0 m1
          rw [hx, hy] at HSN
          rw [hx] at HNE
          have HNE2 : Hid (((x, p) : T × T) ≠ (y, q) → L ≠ K) := Lib.hid (by have := HNE.out (by omega); rwa [hy] at this)
          dsimp only at n0 n1 m0 m1
          clear hx hy HNE
          by_cases exy : x = y
          · have e1 : (x == y) = true := by rw [beq_iff_eq]; exact exy
            have EXY := Lib.hid exy
            clear exy
            by_cases epq : p = q
            · have e2 : (p == q) = true := by rw [beq_iff_eq]; exact epq
              have HR : Hid (decide (L.take (k + 1) = K.take (k + 1)) = true) := Lib.hid (decide_eq_true (HSN.out.2 ⟨of_decide_eq_true HT.out, by rw [EXY.out, epq]⟩))
              clear epq
              go_wp2
              go_quiet (fail)
              go_wp2
              go_roundw
              case rel => exact ⟨k + 1, by omega, by rw [HR.out], by go_num, bel_drewN HB.out _, fun h => absurd (of_decide_eq_true HR.out) h⟩
              case measure => simp [intOf]; omega
            · have e2 : (p == q) = false := by rw [beq_eq_false_iff_ne]; exact epq
              have HD : Hid (L ≠ K) := Lib.hid (HNE2.out (fun e => epq (congrArg Prod.snd e)))
              have HR : Hid (decide (L.take (k + 1) = K.take (k + 1)) = false) := Lib.hid (decide_eq_false (fun h => epq (congrArg Prod.snd (HSN.out.1 h).2)))
              clear epq
              go_wp2
              go_quiet (fail)
              go_wp2
              go_roundw
              case rel => exact ⟨k + 1, by omega, by rw [HR.out], by go_num, bel_drewN HB.out _, fun _ => HD.out⟩
              case measure => simp [intOf]; omega
          · have e1 : (x == y) = false := by rw [beq_eq_false_iff_ne]; exact exy
            have HD : Hid (L ≠ K) := Lib.hid (HNE2.out (fun e => exy (congrArg Prod.fst e)))
            have HR : Hid (decide (L.take (k + 1) = K.take (k + 1)) = false) := Lib.hid (decide_eq_false (fun h => exy (congrArg Prod.fst (HSN.out.1 h).2)))
            clear exy
            go_wp2
            go_quiet (fail)
            go_wp2
            go_roundw
            case rel => exact ⟨k + 1, by omega, by rw [HR.out], by go_num, bel_drewN HB.out _, fun _ => HD.out⟩
            case measure => simp [intOf]; omega
        · have h1 : ¬ ((k : Int) < (L.length : Int)) := by omega
          have HR : Hid (decide (L = K) = true) := Lib.hid (decide_eq_true (by
            have := of_decide_eq_true HT.out
            rwa [List.take_of_length_le (by omega), List.take_of_length_le (by omega)] at this))
          go_wp2
          go_ret
          exact ⟨by rw [HR.out]; rfl, HB.out⟩
  · have h0 : ((L.length : Int) == (K.length : Int)) = false := by rw [beq_eq_false_iff_ne]; omega
    have HD : Hid (decide (L = K) = false) := Lib.hid (decide_eq_false (fun e => he (by rw [e])))
    clear he
    go_enter Tryd.func14, Tryd.ntmps14
    go_wp2
    go_loopw [5, 6] (fun s i wr => s = .bool false ∧ i = .int .i64 0 ∧ Below w.heap.size w wr) (fun _ _ _ => 0)
    case atStart => exact ⟨rfl, rfl, Below.refl _ _⟩
    case round =>
      obtain ⟨rfl, rfl, hb⟩ := hrel
      go_wp2
      go_ret
      exact ⟨by rw [HD.out]; rfl, hb⟩

theorem sameI_any (L K : St) (u v : Value) (w : World) (hu : ItAt w u L) (hv : ItAt w v K) (hl : L.length ≤ 1000000) (hk : K.length ≤ 1000000) :
    Calls Tryd.prog 14 #[u, v] w fun x w' => x = .returned (.bool (decide (L = K))) ∧ Below w.heap.size w w' := sameI_in L K u v w hu.inn hv.inn hl hk
end Go.Proofs.YtkdecmijnojhoaaDoor
namespace Go.Proofs.YtkdecmijnojhoaaDoor
open Go.RowKit

def Code.few (L : List (List UInt8)) (n e : Nat) : Bool := decide (L.length ≤ n) && L.all fun s => decide (s.length ≤ e)
end Go.Proofs.YtkdecmijnojhoaaDoor
namespace Go.Proofs.YtkdecmijnojhoaaDoor
open Go.RowKit
open Sto (T St)
open Tri (Tr)

theorem sitems_any {g : Nat} {S : St} (w : World) (h : TrAt w g S) :
    Calls Tryd.prog 18 #[ptr g] w (ItemsPost w S) := by
  obtain ⟨top, t, h1, h2, h3⟩ := h
  exact items_any w h1 (h3.sealed h2) h3.tree
end Go.Proofs.YtkdecmijnojhoaaDoor
