/- TriCount, TriTrie, TriWithT, TriDelT, TriRefOf, TriOfT, TriCover, TriWorks, ArgTActs, TriMade, TriMade2, BookItems, CodeFew, TriLaw -/
import Derived.Test.YtjfefphgikncnaaGreatDoorPk02
import Derived.Test.YtjfefphgikncnaaGreatDoorPk15
import Derived.Deep.RegionHeld3
import Derived.Test.YtjfefphgikncnaaGreatDoorPk03
import Derived.Deep.Slices
import Derived.DataReads
import Derived.OpenShut
import Derived.SizedLaws
import Derived.Lib.LaidU8
import Derived.BigQuiet
import Derived.WalkSpells
import Derived.WalkLawsBesides
import Derived.Deep.QuietTactic
namespace Go.Proofs.YtjfefphgikncnaaGreatDoor.Tri
open Sto (T St Rising keys)
open Go.Proofs.YtjfefphgikncnaaGreatDoor.Nd (N)

theorem pair_sub : ∀ i j : Fin 16, i < j → [i, j].Sublist (List.finRange 16) := by decide +kernel
theorem one_sub : ∀ i : Fin 16, [i].Sublist (List.finRange 16) := by decide +kernel
theorem spots_len (dg : N → T) {t : Tr} (h : t.canon) (hn : ¬ t.isNil) (p : T) : (t.spots dg p).length + 2 ≤ 3 * t.items.length ∧ (t.isBr → (t.spots dg p).length + 3 ≤ 3 * t.items.length) := by
  induction t generalizing p with
  | nil => exact absurd trivial hn
  | leaf q v => exact ⟨by simp [Tr.spots, Tr.items], fun h => h.elim⟩
  | ext q t ih =>
    have n1 : ¬ t.isNil := by have := h.2.1; cases t <;> simp_all [Tr.isBr, Tr.isNil]
    have := (ih h.2.2 n1 (p ++ q)).2 h.2.1
    refine ⟨?_, fun h => h.elim⟩
    rw [Tr.spots, Tr.items, behind, List.length_map, List.length_cons]
    omega
  | br v k ih =>
    have all : ∀ l : List (Fin 16), (l.flatMap fun i => (k i).spots dg (p ++ [hb i])).length + 2 * l.countP (fun i => !(k i).nilB) ≤ 3 * (l.flatMap fun i => behind [hb i] (k i).items).length := by
      intro l
      induction l with
      | nil => simp
      | cons i l ihl =>
        rw [List.flatMap_cons, List.flatMap_cons, List.length_append, List.length_append, List.countP_cons]
        have hb1 : (behind [hb i] (k i).items).length = (k i).items.length := by rw [behind, List.length_map]
        by_cases e : (k i).isNil
        · have e2 := (nilB_iff _).2 e
          have e3 : (k i).spots dg (p ++ [hb i]) = [] := by cases hk : k i with
            | nil => rfl
            | _ => rw [hk] at e; exact e.elim
          rw [e3, e2]
          simp only [Bool.not_true, Bool.false_eq_true, if_false, List.length_nil]
          omega
        · have e2 : (k i).nilB = false := by cases hk : (k i).nilB with
            | false => rfl
            | true => exact absurd ((nilB_iff _).1 hk) e
          have := (ih i (h.1 i) e (p ++ [hb i])).1
          rw [e2, hb1]
          simp only [Bool.not_false, if_true]
          omega
    have h1 := all (List.finRange 16)
    have h2 : 4 ≤ 3 * (own v).length + 2 * (List.finRange 16).countP (fun i => !(k i).nilB) := by
      have ne : ∀ i, ¬ (k i).isNil → (!(k i).nilB) = true := fun i hi => by
        cases hk : (k i).nilB with
        | false => rfl
        | true => exact absurd ((nilB_iff _).1 hk) hi
      rcases h.2 with ⟨i, j, hij, hi, hj⟩ | ⟨hv, i, hi⟩
      · have := (pair_sub i j hij).countP_le (p := fun i => !(k i).nilB)
        simp only [List.countP_cons, ne i hi, ne j hj, if_true, List.countP_nil] at this
        omega
      · have := (one_sub i).countP_le (p := fun i => !(k i).nilB)
        simp only [List.countP_cons, ne i hi, if_true, List.countP_nil] at this
        rw [own, if_neg hv, List.length_singleton]
        omega
    have h3 : (Tr.spots dg p (.br v k)).length + 3 ≤ 3 * (Tr.br v k).items.length := by
      rw [Tr.spots, Tr.items, List.length_cons, List.length_append]
      omega
    exact ⟨by omega, fun _ => h3⟩
end Go.Proofs.YtjfefphgikncnaaGreatDoor.Tri
namespace Go.Proofs.YtjfefphgikncnaaGreatDoor
open Go.RowKit
open Sto (T St)
open Tri (Tr Ok upd ix hb lay splitT Trim rank)
open Go.Proofs.YtjfefphgikncnaaGreatDoor.Nd (N)

/-- Items as a trie may have them, with their tree. -/
structure TrS (S : St) (t : Tr) : Prop where
  tree : Tri.TreeOf S t
  rise : Sto.Rising S
  fair : ∀ x ∈ S, 1 ≤ x.1.length ∧ x.1.length ≤ 8 ∧ 1 ≤ x.2.length ∧ x.2.length ≤ 32
  few : S.length ≤ 1024
theorem TrS.within {S : St} {t : Tr} (h : TrS S t) : within t := fun x hx => by
  rw [h.tree.2.2] at hx
  obtain ⟨y, hy, rfl⟩ := List.mem_map.1 hx
  have := (h.fair y hy).2.1
  rw [Nib.ofL_length]; omega
theorem TrS.ok {S : St} {t : Tr} (h : TrS S t) : Ok t := ⟨h.tree.1, h.tree.2.1, Tri.small_of h.tree.1 fun x hx => ⟨h.within x hx, by
  rw [h.tree.2.2] at hx
  obtain ⟨y, hy, rfl⟩ := List.mem_map.1 hx
  exact (h.fair y hy).2.2.2⟩⟩
theorem TrS.trim {S : St} {t : Tr} (h : TrS S t) : Trim t := ⟨Tri.canon_firm h.tree.1, h.tree.2.1, Tri.small_low h.ok.small⟩
theorem TrS.spots {S : St} {t : Tr} (h : TrS S t) (p : T) : (t.spots Nd.sumS p).length ≤ 100000 := by
  by_cases hn : t.isNil
  · rw [Tri.isNil_eq hn]; simp [Tri.Tr.spots]
  · have h1 := (Tri.spots_len Nd.sumS h.tree.1 hn p).1
    have h2 : t.items.length = S.length := by rw [h.tree.2.2]; simp [Tri.paths]
    have := h.few
    omega
theorem TrS.sealed {S : St} {t : Tr} {w : World} {v : Value} (h : TrS S t) (hp : PAt w (Fm.from 0) true t v) : Sealed w t v := ⟨hp, h.ok, h.within, h.spots⟩
theorem TrS.empty : TrS [] .nil := ⟨⟨trivial, trivial, rfl⟩, List.Pairwise.nil, fun x hx => (by cases hx), by simp⟩
theorem TrS.find {S : St} {t : Tr} (h : TrS S t) (k : T) : findT t (Nib.ofL k) = (Sto.look S k).getD [] := by
  unfold findT; rw [h.tree.get h.rise]
theorem TrS.look_ne {S : St} {t : Tr} (h : TrS S t) {k v : T} (hl : Sto.look S k = some v) : v ≠ [] := fun e => by
  have := (h.fair _ ((Sto.look_mem h.rise k v).1 hl)).2.2.1
  rw [e] at this; simp at this
theorem TrS.put {S : St} {t : Tr} (h : TrS S t) {k v : T} (hk : Tri.putC S k v = 0) : TrS (Tri.put S k v) (t.put (Nib.ofL k) v) := by
  unfold Tri.putC at hk
  split at hk
  · rename_i hkk
    split at hk
    · rename_i hv
      obtain ⟨v1, v2, v3⟩ := hv
      have hkk2 : 1 ≤ k.length ∧ k.length ≤ 8 := by simpa [Tri.keyed] using hkk
      refine ⟨h.tree.put (fun e => by subst e; simp at v1), Tri.put_rising h.rise _ _, fun x hx => ?_, ?_⟩
      · rcases Tri.put_mem hx with hx | rfl
        · exact h.fair x hx
        · exact ⟨hkk2.1, hkk2.2, v1, v2⟩
      · have hf := h.few
        rw [Tri.put_eq]
        have hp := Tri.pos_le S k
        rcases v3 with v3 | v3
        · rw [if_pos v3]
          have hp2 : Tri.pos S k < S.length := (Tri.look_pos h.rise k v3).1
          simp; omega
        · simp; omega
    · cases hk
  · cases hk
theorem TrS.del {S : St} {t : Tr} (h : TrS S t) {k : T} (hk : Sto.look S k ≠ none) : TrS (Tri.del S k) (t.del (Nib.ofL k)) := by
  refine ⟨h.tree.del h.rise hk, Tri.del_rising h.rise _, fun x hx => h.fair x (Tri.del_mem hx), ?_⟩
  have hf := h.few
  have ha : Tri.at_ S k = true := by rw [Tri.at_look h.rise]; cases hl : Sto.look S k with | none => exact absurd hl hk | some v => rfl
  rw [Tri.del_eq h.rise k ha]
  simp; omega
/-- A trie in block g. -/
def TRow (w : World) (g : Nat) (top : Value) (n : Nat) : Prop := w.heap[g]? = some (.cells #[top, .int .i64 n] 82 (0, 0))
theorem TRow.below {w w' : World} {g n : Nat} {top : Value} (h : TRow w g top n) (hb : Below w.heap.size w w') : TRow w' g top n := (hb.block g (lt_of_heap h)).trans h
theorem TRow.top {w : World} {g n : Nat} {top : Value} (h : TRow w g top n) : w.cell? ⟨g, 0, none⟩ = some top := by rw [cell_of_row _ _ _ _ _ _ h]; rfl
theorem TRow.num {w : World} {g n : Nat} {top : Value} (h : TRow w g top n) : w.cell? ⟨g, 1, none⟩ = some (.int .i64 n) := by rw [cell_of_row _ _ _ _ _ _ h]; rfl
/-- A trie whose parts may be without their sums. -/
def OpenAt (w : World) (F : Fm) (g : Nat) (S : St) : Prop := ∃ top t, TRow w g top S.length ∧ PAt w F false t top ∧ TrS S t
def TrAt (w : World) (g : Nat) (S : St) : Prop := ∃ top t, TRow w g top S.length ∧ PAt w (Fm.from 0) true t top ∧ TrS S t
theorem TrAt.below {w w' : World} {g : Nat} {S : St} (h : TrAt w g S) (hb : Below w.heap.size w w') : TrAt w' g S := by
  obtain ⟨top, t, h1, h2, h3⟩ := h
  exact ⟨top, t, h1.below hb, h2.below hb, h3⟩
theorem TrAt.open {w : World} {g : Nat} {S : St} (h : TrAt w g S) (B : Nat) : OpenAt w (Fm.from B) g S := by
  obtain ⟨top, t, h1, h2, h3⟩ := h
  exact ⟨top, t, h1, h2.sealed (fun _ _ e => by cases e) false, h3⟩
theorem OpenAt.below {w w' : World} {F : Fm} {g : Nat} {S : St} (h : OpenAt w F g S) (hb : Below w.heap.size w w') : OpenAt w' F g S := by
  obtain ⟨top, t, h1, h2, h3⟩ := h
  exact ⟨top, t, h1.below hb, h2.below hb, h3⟩
theorem TrAt.rise {w : World} {g : Nat} {S : St} (h : TrAt w g S) : Sto.Rising S := by
  obtain ⟨_, _, _, _, h3⟩ := h; exact h3.rise
theorem TrAt.few {w : World} {g : Nat} {S : St} (h : TrAt w g S) : S.length ≤ 1024 := by
  obtain ⟨_, _, _, _, h3⟩ := h; exact h3.few

set_option maxRecDepth 100000 in
theorem tnew_any (w : World) : Calls Tryz.prog 12 #[] w fun e w' => ∃ g, e = .returned (ptr g) ∧ TrAt w' g [] ∧ w.heap.size ≤ g ∧ Below w.heap.size w w' := by
  go_enter Tryz.func12, Tryz.ntmps12
  go_wp2
  go_ret
  exact ⟨w.heap.size, rfl, ⟨nilp, .nil, heap_alloc_new w _, PAt.nil _ _ _, TrS.empty⟩, Nat.le_refl _, (Below.refl _ w).alloc (Nat.le_refl _) _⟩
set_option maxRecDepth 100000 in
theorem iskey_any (x : T) (w : World) :
    Calls Tryz.prog 65 #[.string ⟨x.toArray⟩] w fun e w' => e = .returned (.bool (Tri.keyed x)) ∧ w = w' := by
  by_cases h0 : x = []
  · subst h0
    go_enter Tryz.func65, Tryz.ntmps65
    go_wp2
    go_ret
    exact ⟨rfl, rfl⟩
  · have h1 : (x == []) = false := by rw [beq_eq_false_iff_ne]; exact h0
    have h2 : 1 ≤ x.length := List.length_pos_iff.2 h0
    by_cases h8 : x.length ≤ 8
    · have h3 : (x.length : Int) ≤ 8 := by omega
      have e : Tri.keyed x = true := by simp [Tri.keyed, h2, h8]
      rw [e]
      clear e h2 h8 h0
      go_enter Tryz.func65, Tryz.ntmps65
      go_wp2
      go_ret
      exact ⟨rfl, rfl⟩
    · have h3 : ¬ ((x.length : Int) ≤ 8) := by omega
      have e : Tri.keyed x = false := by simp [Tri.keyed]; omega
      rw [e]
      clear e h2 h8 h0
      go_enter Tryz.func65, Tryz.ntmps65
      go_wp2
      go_ret
      exact ⟨rfl, rfl⟩
set_option maxRecDepth 100000 in
set_option maxHeartbeats 1000000 in
theorem tget_any {g : Nat} {S : St} (x : T) (w : World) (h : TrAt w g S) :
    Calls Tryz.prog 35 #[ptr g, .string ⟨x.toArray⟩] w fun e w' => e = .returned (.tuple #[.string ⟨(Tri.getC S x).1.toArray⟩, .int .i64 (Tri.getC S x).2]) ∧ Below w.heap.size w w' := by
  obtain ⟨top, t, h1, h2, h3⟩ := h
  have HK := Lib.hid (fun w => iskey_any x w)
  unfold ptr
  cases hk : Tri.keyed x with
  | false =>
    rw [Tri.getC_no hk]
    rw [hk] at HK
    clear h1 h2 h3 hk
    go_enter Tryz.func35, Tryz.ntmps35
    go_wp2_with fail
    refine (HK.out _).mono ?_
    rintro e w1 ⟨rfl, rfl⟩
    go_wp2
    go_ret2
    exact ⟨rfl, Below.refl _ _⟩
  | true =>
    rw [hk] at HK
    have hx8 : x.length ≤ 8 := by simp [Tri.keyed] at hk; omega
    have HOF := Lib.hid (fun w => of_any x w (by omega))
    have HFI : Hid (∀ w', Below w.heap.size w w' → Calls Tryz.prog 66 #[top, .string ⟨(Nib.ofL x).toArray⟩] w' fun e w'' => e = .returned (.string ⟨((Sto.look S x).getD []).toArray⟩) ∧ Below w'.heap.size w' w'') := Lib.hid (fun w' hb => by
      have := find_any (Nib.ofL x) w' (h2.below hb) h3.trim.firm (Tri.ofL_fit x) (by rw [Nib.ofL_length]; omega)
      rw [h3.find] at this
      exact this)
    have HT : Hid (∀ w', Below w.heap.size w w' → w'.cell? ⟨g, 0, none⟩ = some top) := Lib.hid (fun w' hb => (h1.below hb).top)
    obtain ⟨P, hP⟩ : ∃ P, Nib.ofL x = P := ⟨_, rfl⟩
    rw [hP] at HOF HFI
    cases hl : Sto.look S x with
    | none =>
      rw [Tri.getC_none hk hl]
      rw [hl, Option.getD_none] at HFI
      have BD : Below w.heap.size w w.drew := (Below.refl _ _).drew
      have c0 := HT.out _ BD
      clear h1 h2 h3 hk hl hP
      go_enter Tryz.func35, Tryz.ntmps35
      go_wp2_with fail
      refine (HK.out _).mono ?_
      rintro e w1 ⟨rfl, rfl⟩
      go_upto_region 3 with fail
      go_region_held3 (fun w' => w'.cell? ⟨g, 0, none⟩ = some top)
        ((first | (with_reducible assumption) | (refine HT.out _ ?_; with_reducible assumption)))
        (first | (go_at_call 62; refine (HOF.out _).mono ?_; rintro e w6 ⟨rfl, hb6⟩; have hb6' := bchain BD hb6) | (go_at_call 66; refine (HFI.out _ ?_).mono ?_; (with_reducible exact hb6'); rintro e w7 ⟨rfl, hb7⟩; have hb7' := bchain hb6' hb7))
      all_goals
        go_wp2
        go_ret2
        exact ⟨rfl, hb7'⟩
    | some y =>
      have hye : (y == []) = false := by rw [beq_eq_false_iff_ne]; exact h3.look_ne hl
      have hyl : y.length ≤ 32 := (h3.fair _ ((Sto.look_mem h3.rise x y).1 hl)).2.2.2
      have HCL := Lib.hid (fun w => dclone_any y w (by omega))
      rw [Tri.getC_some hk hl]
      rw [hl, Option.getD_some] at HFI
      have BD : Below w.heap.size w w.drew := (Below.refl _ _).drew
      have c0 := HT.out _ BD
      clear h1 h2 h3 hk hl hP hyl
      go_enter Tryz.func35, Tryz.ntmps35
      go_wp2_with fail
      refine (HK.out _).mono ?_
      rintro e w1 ⟨rfl, rfl⟩
      go_upto_region 3 with fail
      go_region_held3 (fun w' => w'.cell? ⟨g, 0, none⟩ = some top)
        ((first | (with_reducible assumption) | (refine HT.out _ ?_; with_reducible assumption)))
        (first | (go_at_call 62; refine (HOF.out _).mono ?_; rintro e w6 ⟨rfl, hb6⟩; have hb6' := bchain BD hb6) | (go_at_call 66; refine (HFI.out _ ?_).mono ?_; (with_reducible exact hb6'); rintro e w7 ⟨rfl, hb7⟩; have hb7' := bchain hb6' hb7))
      all_goals
        go_wp2_with fail
        refine (HCL.out _).mono ?_
        rintro e w8 ⟨rfl, hb8⟩
        go_wp2
        go_ret2
        exact ⟨rfl, bchain hb7' hb8⟩
end Go.Proofs.YtjfefphgikncnaaGreatDoor
namespace Go.Proofs.YtjfefphgikncnaaGreatDoor
open Go.RowKit
open Sto (T St)
open Tri (Tr Ok upd ix hb lay splitT Trim rank)
open Go.Proofs.YtjfefphgikncnaaGreatDoor.Nd (N)

/-- What with of a trie answers. -/
def TWithPost (S : St) (k v : T) (F : Fm) (w : World) (e : Ending) (w' : World) : Prop :=
  ∃ z, e = .returned (.tuple #[z, .int .i64 (Tri.putC S k v)]) ∧ (Tri.putC S k v = 0 → ∃ g', z = ptr g' ∧ w.heap.size ≤ g' ∧ OpenAt w' F g' (Tri.put S k v)) ∧ (Tri.putC S k v ≠ 0 → z = nilp) ∧ Below w.heap.size w w'
theorem TWithPost.bad {S : St} {k v : T} {F : Fm} {w w' : World} {c : Nat} (h : Tri.putC S k v = c) (hc : c ≠ 0) (hb : Below w.heap.size w w') : TWithPost S k v F w (.returned (.tuple #[.pointer none, .int .i64 c])) w' := by
  subst h
  exact ⟨_, rfl, fun e => absurd e hc, fun _ => rfl, hb⟩
theorem TWithPost.good {S : St} {k v : T} {F : Fm} {w w' : World} {g' n : Nat} {top : Value} {t : Tr} (h : Tri.putC S k v = 0) (hg : w.heap.size ≤ g') (hr : TRow w' g' top n) (hn : n = (Tri.put S k v).length) (hp : PAt w' F false t top) (hs : TrS (Tri.put S k v) t) (hb : Below w.heap.size w w') : TWithPost S k v F w (.returned (.tuple #[.pointer (some ⟨g', 0, none⟩), .int .i64 0])) w' := by
  subst hn
  exact ⟨_, by rw [h]; rfl, fun _ => ⟨g', rfl, hg, top, t, hr, hp, hs⟩, fun e => absurd h e, hb⟩
set_option maxRecDepth 100000 in
set_option maxHeartbeats 1000000 in
theorem twith_good {g : Nat} {S : St} (k v : T) (w : World) (F : Fm) (hF : F.fresh w) (h : OpenAt w F g S) (hc : Tri.putC S k v = 0) :
    Calls Tryz.prog 67 #[ptr g, .string ⟨k.toArray⟩, .string ⟨v.toArray⟩] w (TWithPost S k v F w) := by
  obtain ⟨top, t, h1, h2, h3⟩ := h
  have hc0 := hc
  unfold Tri.putC at hc
  split at hc
  · rename_i hkk
    split at hc
    · rename_i hv
      obtain ⟨v1, v2, v3⟩ := hv
      have hkk2 : 1 ≤ k.length ∧ k.length ≤ 8 := by simpa [Tri.keyed] using hkk
      have HK := Lib.hid (fun w => iskey_any k w)
      rw [hkk] at HK
      have HOF := Lib.hid (fun w => of_any k w (by omega))
      have HFI : Hid (∀ w', Below w.heap.size w w' → Calls Tryz.prog 66 #[top, .string ⟨(Nib.ofL k).toArray⟩] w' fun e w'' => e = .returned (.string ⟨((Sto.look S k).getD []).toArray⟩) ∧ Below w'.heap.size w' w'') := Lib.hid (fun w' hb => by
        have := find_any (Nib.ofL k) w' (h2.below hb) h3.trim.firm (Tri.ofL_fit k) (by rw [Nib.ofL_length]; omega)
        rw [h3.find] at this
        exact this)
      have HCL := Lib.hid (fun w => dclone_any v w (by omega))
      have HWI : Hid (∀ w', Below w.heap.size w w' → Calls Tryz.prog 93 #[top, .string ⟨(Nib.ofL k).toArray⟩, .string ⟨v.toArray⟩] w' fun e w'' => ∃ g9, e = .returned (.pointer (some ⟨g9, 0, none⟩)) ∧ PAt w'' F false (t.put (Nib.ofL k) v) (.pointer (some ⟨g9, 0, none⟩)) ∧ Below w'.heap.size w' w'') := Lib.hid (fun w' hb =>
        (with_any (Nib.ofL k) v w' F (hF.size hb.size) (h2.below hb) h3.trim (Tri.ofL_fit k) (by rw [Nib.ofL_length]; omega)).mono fun e w'' ⟨v9, e1, hp, hb9⟩ => by
          obtain ⟨g9, rfl⟩ := hp.ptr (Tri.put_nn _ _ _)
          exact ⟨g9, e1, hp, hb9⟩)
      have HTS := Lib.hid (h3.put hc0)
      have HCC := Lib.hid hc0
      have HPN := Lib.hid (Tri.put_len S k v)
      have HAL := Lib.hid (Tri.at_look h3.rise k)
      have HT : Hid (∀ w', Below w.heap.size w w' → w'.cell? ⟨g, 0, none⟩ = some top ∧ w'.cell? ⟨g, 1, none⟩ = some (.int .i64 S.length)) := Lib.hid (fun w' hb => ⟨(h1.below hb).top, (h1.below hb).num⟩)
      obtain ⟨P, hP⟩ : ∃ P, Nib.ofL k = P := ⟨_, rfl⟩
      rw [hP] at HOF HFI HWI HTS
      have hve : (v == []) = false := by rw [beq_eq_false_iff_ne]; intro e; subst e; simp at v1
      have hvl : ¬ ((v.length : Int) > 32) := by omega
      have hvl2 : decide ((32 : Int) < (v.length : Int)) = false := decide_eq_false (by omega)
      have hvl3 : decide (32 < v.length) = false := decide_eq_false (by omega)
      unfold ptr
      have BD : Below w.heap.size w w.drew := (Below.refl _ _).drew
      obtain ⟨c0, c1⟩ := HT.out _ BD
      have hfew := h3.few
      have hlen : ∀ (n : Nat), n = (Tri.put S k v).length → n ≤ 1024 := fun n hn => by rw [hn]; exact HTS.out.few
      cases hl : Sto.look S k with
      | some y =>
        have hye : (y == []) = false := by rw [beq_eq_false_iff_ne]; exact h3.look_ne hl
        have hpl : S.length = (Tri.put S k v).length := by
          rw [HPN.out, if_pos (by rw [HAL.out, hl]; rfl)]; omega
        have HPL := Lib.hid hpl
        have hgt : ¬ ((S.length : Int) > 1024) := by omega
        have hgt2 : ¬ ((1024 : Int) < (S.length : Int)) := by omega
        rw [hl, Option.getD_some] at HFI
        clear h1 h2 h3 hkk hP hkk2 v1 v2 v3 hc hc0 HPN HAL hl hfew hlen hpl
        go_enter Tryz.func67, Tryz.ntmps67
        go_wp2_with fail
        refine (HK.out _).mono ?_
        rintro e w1 ⟨rfl, rfl⟩
        go_upto_region 5 with fail
        go_region_held3 (fun w' => w'.cell? ⟨g, 1, none⟩ = some (.int .i64 S.length))
          ((first | (with_reducible assumption) | (refine (HT.out _ ?_).2; with_reducible assumption)))
          ((go_at_call 62; refine (HOF.out _).mono ?_; rintro e w6 ⟨rfl, hb6⟩; have hb6' := bchain BD hb6))
        all_goals
          obtain ⟨d0, d1⟩ := HT.out _ hb6'
          go_wp2_with fail
          refine (HFI.out _ hb6').mono ?_
          rintro e w7 ⟨rfl, hb7⟩
          have hb7' := bchain hb6' hb7
          have BD7 : Below w.heap.size w w7.drew := hb7'.drew
          go_upto_region 10 with fail
          obtain ⟨e0, e1⟩ := HT.out _ BD7
          clear c0 c1 d0 d1
          go_region_held3 (fun w' => w'.cell? ⟨g, 0, none⟩ = some top)
            ((first | (with_reducible assumption) | (refine (HT.out _ ?_).1; with_reducible assumption) | (refine (HT.out _ ?_).1; refine Below.alloc ?_ ?_ _; (with_reducible assumption); (with_reducible exact hs9))))
            (first | (go_at_call 44; refine (HCL.out _).mono ?_; rintro e w8 ⟨rfl, hb8⟩; have hb8' := bchain BD7 hb8) | (go_at_call 93; refine (HWI.out _ ?_).mono ?_; (with_reducible exact hb8'); rintro e w9 ⟨g9, rfl, hp9, hb9⟩; have hb9' := bchain hb8' hb9; have hs9 := hb9'.size))
          all_goals
            go_wp2
            go_ret2
            have hba := hb9'.alloc hs9 (.cells #[.pointer (some ⟨g9, 0, none⟩), .int .i64 S.length] 82)
            exact TWithPost.good HCC.out hs9 (heap_alloc_new w9 _) HPL.out (hp9.below ((Below.refl _ w9).alloc (Nat.le_refl _) _)) HTS.out hba
      | none =>
        have hpl : S.length + 1 = (Tri.put S k v).length := by
          rw [HPN.out, if_neg (by rw [HAL.out, hl]; simp)]
        have z8 : IntKind.i64.wrap ((S.length : Int) + 1) = (S.length : Int) + 1 := IntWalk.i64_in _ (by omega)
        have hl1 := hlen _ hpl
        have HPL := Lib.hid hpl
        have hgt : ¬ ((S.length : Int) + 1 > 1024) := by omega
        have hgt2 : ¬ ((1024 : Int) < (S.length : Int) + 1) := by omega
        rw [hl, Option.getD_none] at HFI
        clear hl1 h1 h2 h3 hkk hP hkk2 v1 v2 v3 hc hc0 HPN HAL hl hfew hlen hpl
        go_enter Tryz.func67, Tryz.ntmps67
        go_wp2_with fail
        refine (HK.out _).mono ?_
        rintro e w1 ⟨rfl, rfl⟩
        go_upto_region 5 with fail
        go_region_held3 (fun w' => w'.cell? ⟨g, 1, none⟩ = some (.int .i64 S.length))
          ((first | (with_reducible assumption) | (refine (HT.out _ ?_).2; with_reducible assumption)))
          ((go_at_call 62; refine (HOF.out _).mono ?_; rintro e w6 ⟨rfl, hb6⟩; have hb6' := bchain BD hb6))
        all_goals
          obtain ⟨d0, d1⟩ := HT.out _ hb6'
          go_wp2_with fail
          refine (HFI.out _ hb6').mono ?_
          rintro e w7 ⟨rfl, hb7⟩
          have hb7' := bchain hb6' hb7
          have BD7 : Below w.heap.size w w7.drew := hb7'.drew
          go_upto_region 10 with fail
          obtain ⟨e0, e1⟩ := HT.out _ BD7
          clear c0 c1 d0 d1
          go_region_held3 (fun w' => w'.cell? ⟨g, 0, none⟩ = some top)
            ((first | (with_reducible assumption) | (refine (HT.out _ ?_).1; with_reducible assumption) | (refine (HT.out _ ?_).1; refine Below.alloc ?_ ?_ _; (with_reducible assumption); (with_reducible exact hs9))))
            (first | (go_at_call 44; refine (HCL.out _).mono ?_; rintro e w8 ⟨rfl, hb8⟩; have hb8' := bchain BD7 hb8) | (go_at_call 93; refine (HWI.out _ ?_).mono ?_; (with_reducible exact hb8'); rintro e w9 ⟨g9, rfl, hp9, hb9⟩; have hb9' := bchain hb8' hb9; have hs9 := hb9'.size))
          all_goals
            go_wp2
            go_ret2
            have hba := hb9'.alloc hs9 (.cells #[.pointer (some ⟨g9, 0, none⟩), .int .i64 ((S.length + 1 : Nat) : Int)] 82)
            exact TWithPost.good HCC.out hs9 (heap_alloc_new w9 _) HPL.out (hp9.below ((Below.refl _ w9).alloc (Nat.le_refl _) _)) HTS.out hba
    · cases hc
  · cases hc
set_option maxRecDepth 100000 in
set_option maxHeartbeats 1000000 in
theorem twith_any {g : Nat} {S : St} (k v : T) (w : World) (F : Fm) (hF : F.fresh w) (h : OpenAt w F g S) :
    Calls Tryz.prog 67 #[ptr g, .string ⟨k.toArray⟩, .string ⟨v.toArray⟩] w (TWithPost S k v F w) := by
  have HK := Lib.hid (fun w => iskey_any k w)
  cases hk : Tri.keyed k with
  | false =>
    rw [hk] at HK
    have HC := Lib.hid (Tri.putC_no (S := S) (y := v) hk)
    unfold ptr
    clear h hk
    go_enter Tryz.func67, Tryz.ntmps67
    go_wp2_with fail
    refine (HK.out _).mono ?_
    rintro e w1 ⟨rfl, rfl⟩
    go_wp2
    go_ret2
    exact TWithPost.bad HC.out (by decide) (Below.refl _ _)
  | true =>
    rw [hk] at HK
    by_cases hok : 1 ≤ v.length ∧ v.length ≤ 32 ∧ (Tri.at_ S k = true ∨ S.length < 1024)
    · exact twith_good k v w F hF h (Tri.putC_ok hk hok)
    · have HC := Lib.hid (Tri.putC_bad (S := S) (y := v) hk hok)
      by_cases hv0 : v = []
      · subst hv0
        unfold ptr
        clear h hk hok
        go_enter Tryz.func67, Tryz.ntmps67
        go_wp2_with fail
        refine (HK.out _).mono ?_
        rintro e w1 ⟨rfl, rfl⟩
        go_wp2
        go_ret2
        exact TWithPost.bad HC.out (by decide) (Below.refl _ _)
      · have hve : (v == []) = false := by rw [beq_eq_false_iff_ne]; exact hv0
        have hv1 : 1 ≤ v.length := List.length_pos_iff.2 hv0
        by_cases hv2 : v.length ≤ 32
        · obtain ⟨top, t, h1, h2, h3⟩ := h
          have hno : ¬ (Tri.at_ S k = true ∨ S.length < 1024) := fun e => hok ⟨hv1, hv2, e⟩
          have hl : Sto.look S k = none := by
            have := Tri.at_look h3.rise k
            cases hl : Sto.look S k with
            | none => rfl
            | some y => exact absurd (Or.inl (by rw [this, hl]; rfl)) hno
          have hfew : S.length = 1024 := by
            have := h3.few
            have : ¬ S.length < 1024 := fun e => hno (Or.inr e)
            omega
          have hx8 : k.length ≤ 8 := by simp [Tri.keyed] at hk; omega
          have HOF := Lib.hid (fun w => of_any k w (by omega))
          have HFI : Hid (∀ w', Below w.heap.size w w' → Calls Tryz.prog 66 #[top, .string ⟨(Nib.ofL k).toArray⟩] w' fun e w'' => e = .returned (.string ⟨#[]⟩) ∧ Below w'.heap.size w' w'') := Lib.hid (fun w' hb => by
            have := find_any (Nib.ofL k) w' (h2.below hb) h3.trim.firm (Tri.ofL_fit k) (by rw [Nib.ofL_length]; omega)
            rw [h3.find, hl] at this
            exact this)
          have HT : Hid (∀ w', Below w.heap.size w w' → w'.cell? ⟨g, 0, none⟩ = some top ∧ w'.cell? ⟨g, 1, none⟩ = some (.int .i64 1024)) := Lib.hid (fun w' hb => ⟨(h1.below hb).top, by have := (h1.below hb).num; rw [hfew] at this; exact this⟩)
          obtain ⟨P, hP⟩ : ∃ P, Nib.ofL k = P := ⟨_, rfl⟩
          rw [hP] at HOF HFI
          have BD : Below w.heap.size w w.drew := (Below.refl _ _).drew
          obtain ⟨c0, c1⟩ := HT.out _ BD
          have hvl2 : decide ((32 : Int) < (v.length : Int)) = false := decide_eq_false (by omega)
          have hvl3 : decide (32 < v.length) = false := decide_eq_false (by omega)
          have hvl : ¬ ((v.length : Int) > 32) := by omega
          unfold ptr
          clear h1 h2 h3 hk hP hl hno hok hfew hv0 hv1 hv2 hx8
          go_enter Tryz.func67, Tryz.ntmps67
          go_wp2_with fail
          refine (HK.out _).mono ?_
          rintro e w1 ⟨rfl, rfl⟩
          go_upto_region 5 with fail
          go_region_held3 (fun w' => w'.cell? ⟨g, 1, none⟩ = some (.int .i64 1024))
            ((first | (with_reducible assumption) | (refine (HT.out _ ?_).2; with_reducible assumption)))
            ((go_at_call 62; refine (HOF.out _).mono ?_; rintro e w6 ⟨rfl, hb6⟩; have hb6' := bchain BD hb6))
          all_goals
            obtain ⟨d0, d1⟩ := HT.out _ hb6'
            go_wp2_with fail
            refine (HFI.out _ hb6').mono ?_
            rintro e w7 ⟨rfl, hb7⟩
            have hb7' := bchain hb6' hb7
            go_wp2
            go_ret2
            exact TWithPost.bad HC.out (by decide) hb7'
        · have hvl : (v.length : Int) > 32 := by omega
          have hvl2 : decide ((32 : Int) < (v.length : Int)) = true := decide_eq_true (by omega)
          have hvl3 : decide (32 < v.length) = true := decide_eq_true (by omega)
          unfold ptr
          clear h hk hok hv0 hv1 hv2
          go_enter Tryz.func67, Tryz.ntmps67
          go_wp2_with fail
          refine (HK.out _).mono ?_
          rintro e w1 ⟨rfl, rfl⟩
          go_wp2
          go_ret2
          exact TWithPost.bad HC.out (by decide) (Below.refl _ _)
def TPutPost (S : St) (k v : T) (w : World) (e : Ending) (w' : World) : Prop :=
  ∃ z, e = .returned (.tuple #[z, .int .i64 (Tri.putC S k v)]) ∧ (Tri.putC S k v = 0 → ∃ g', z = ptr g' ∧ TrAt w' g' (Tri.put S k v)) ∧ (Tri.putC S k v ≠ 0 → z = nilp) ∧ Below w.heap.size w w'
theorem TPutPost.bad {S : St} {k v : T} {w w' : World} {c : Nat} (h : Tri.putC S k v = c) (hc : c ≠ 0) (hb : Below w.heap.size w w') : TPutPost S k v w (.returned (.tuple #[.pointer none, .int .i64 c])) w' := by
  subst h
  exact ⟨_, rfl, fun e => absurd e hc, fun _ => rfl, hb⟩
theorem TPutPost.good {S : St} {k v : T} {w w' : World} {g' : Nat} (h : Tri.putC S k v = 0) (ht : TrAt w' g' (Tri.put S k v)) (hb : Below w.heap.size w w') : TPutPost S k v w (.returned (.tuple #[.pointer (some ⟨g', 0, none⟩), .int .i64 0])) w' :=
  ⟨_, by rw [h]; rfl, fun _ => ⟨g', rfl, ht⟩, fun e => absurd h e, hb⟩
set_option maxRecDepth 100000 in
set_option maxHeartbeats 1000000 in
theorem tput_any {g : Nat} {S : St} (k v : T) (w : World) (h : TrAt w g S) (hT : Tab w) :
    Calls Tryz.prog 37 #[ptr g, .string ⟨k.toArray⟩, .string ⟨v.toArray⟩] w (TPutPost S k v w) := by
  have HW := Lib.hid (twith_any k v w (Fm.from w.heap.size) (fun g hg _ => hg) (h.open w.heap.size))
  have HT := Lib.hid hT
  unfold TWithPost ptr at HW
  unfold ptr
  obtain ⟨c, hc⟩ : ∃ c, Tri.putC S k v = c := ⟨_, rfl⟩
  rw [hc] at HW
  have HCC := Lib.hid hc
  clear h hT hc
  go_enter Tryz.func37, Tryz.ntmps37
  go_wp2_with fail
  refine HW.out.mono ?_
  rintro e w1 ⟨z, rfl, hz1, hz0, hb1⟩
  have HB1 := Lib.hid hb1
  by_cases hc0 : c = 0
  · obtain ⟨g', rfl, hg', top, t, hr, hp, hs⟩ := hz1 hc0
    subst hc0
    have HSE := Lib.hid (seal_to t top w1 w.heap.size HT.out.pos hb1.size (HT.out.below hb1) hs.ok hp)
    have HR := Lib.hid hr
    have HS := Lib.hid hs
    have m0 := hr.top
    clear hz1 hz0 hb1 hr hp hs hg'
    go_wp2_with fail
    refine HSE.out.mono ?_
    rintro e w2 ⟨rfl, hp2, hk2, hb2⟩
    have HP2 := Lib.hid hp2
    have HR2 : Hid (TRow w2 g' top (Tri.put S k v).length) := Lib.hid (hk2.2.2 _ _ _ _ (by decide) HR.out)
    have HB2 := Lib.hid (HB1.out.trans hb2)
    clear hp2 hk2 hb2
    go_wp2
    go_ret2
    exact TPutPost.good HCC.out ⟨top, t, HR2.out, HP2.out.sealed (fun _ _ e => by cases e) true, HS.out⟩ HB2.out
  · have e0 : ((c : Int) == 0) = false := by rw [beq_eq_false_iff_ne]; omega
    have e1 : z = .pointer none := hz0 hc0
    subst e1
    have HC := Lib.hid hc0
    clear hz1 hz0 hb1 hc0
    go_wp2
    go_ret2
    exact TPutPost.bad HCC.out HC.out HB1.out
end Go.Proofs.YtjfefphgikncnaaGreatDoor
namespace Go.Proofs.YtjfefphgikncnaaGreatDoor
open Go.RowKit
open Sto (T St)
open Tri (Tr Ok upd ix hb lay splitT Trim rank)
open Go.Proofs.YtjfefphgikncnaaGreatDoor.Nd (N)

def TDelPost (S : St) (k : T) (w : World) (e : Ending) (w' : World) : Prop :=
  ∃ z, e = .returned (.tuple #[z, .int .i64 (Tri.getC S k).2]) ∧ ((Tri.getC S k).2 = 0 → ∃ g', z = ptr g' ∧ TrAt w' g' (Tri.del S k)) ∧ ((Tri.getC S k).2 ≠ 0 → z = nilp) ∧ Below w.heap.size w w'
theorem TDelPost.bad {S : St} {k : T} {w w' : World} (hc : (Tri.getC S k).2 ≠ 0) (hb : Below w.heap.size w w') : TDelPost S k w (.returned (.tuple #[.pointer none, .int .i64 (Tri.getC S k).2])) w' := ⟨_, rfl, fun e => absurd e hc, fun _ => rfl, hb⟩
theorem TDelPost.good {S : St} {k : T} {w w' : World} {g' : Nat} (h : (Tri.getC S k).2 = 0) (ht : TrAt w' g' (Tri.del S k)) (hb : Below w.heap.size w w') : TDelPost S k w (.returned (.tuple #[.pointer (some ⟨g', 0, none⟩), .int .i64 0])) w' :=
  ⟨_, by rw [h]; rfl, fun _ => ⟨g', rfl, ht⟩, fun e => absurd h e, hb⟩
theorem getC_zero {S : St} {k : T} (h : (Tri.getC S k).2 = 0) : Tri.keyed k = true ∧ Sto.look S k ≠ none := by
  unfold Tri.getC at h
  split at h
  · rename_i hk
    split at h
    · rename_i y hy; exact ⟨hk, by rw [hy]; simp⟩
    · cases h
  · cases h
set_option maxRecDepth 100000 in
theorem tdel_bad {g : Nat} {S : St} (k : T) (w : World) (h : TrAt w g S) (hc : (Tri.getC S k).2 ≠ 0) :
    Calls Tryz.prog 38 #[ptr g, .string ⟨k.toArray⟩] w (TDelPost S k w) := by
  have HG := Lib.hid (tget_any k w h)
  have HC := Lib.hid hc
  obtain ⟨x, c, hx⟩ : ∃ x c, Tri.getC S k = (x, c) := ⟨_, _, rfl⟩
  have HX := Lib.hid hx
  rw [hx] at hc HG
  have e0 : ((c : Int) == 0) = false := by rw [beq_eq_false_iff_ne]; simp only at hc; omega
  unfold ptr at HG ⊢
  clear h hc hx
  go_enter Tryz.func38, Tryz.ntmps38
  go_wp2_with fail
  refine HG.out.mono ?_
  rintro e w1 ⟨rfl, hb1⟩
  go_wp2
  go_ret2
  have := TDelPost.bad HC.out hb1
  rw [HX.out] at this
  exact this
set_option maxRecDepth 100000 in
set_option maxHeartbeats 2000000 in
theorem tdel_some {g : Nat} {S : St} (k : T) (w : World) (h : TrAt w g S) (hT : Tab w) (hc : (Tri.getC S k).2 = 0) (hnl : ∀ t, TrS S t → ¬ (t.del (Nib.ofL k)).isNil) :
    Calls Tryz.prog 38 #[ptr g, .string ⟨k.toArray⟩] w (TDelPost S k w) := by
  have HG := Lib.hid (tget_any k w h)
  obtain ⟨top, t, h1, h2, h3⟩ := h
  have hnt := hnl t h3
  obtain ⟨hkk, hlk⟩ := getC_zero hc
  have hx8 : k.length ≤ 8 := by simp [Tri.keyed] at hkk; omega
  have HOF := Lib.hid (fun w => of_any k w (by omega))
  have hgt : t.get (Nib.ofL k) ≠ none := by rw [h3.tree.get h3.rise]; exact hlk
  have HWI : Hid (∀ w', Below w.heap.size w w' → Calls Tryz.prog 69 #[top, .string ⟨(Nib.ofL k).toArray⟩] w' fun e w'' => ∃ g9, e = .returned (.pointer (some ⟨g9, 0, none⟩)) ∧ PAt w'' (Fm.from w.heap.size) false (t.del (Nib.ofL k)) (.pointer (some ⟨g9, 0, none⟩)) ∧ Below w'.heap.size w' w'') := Lib.hid (fun w' hb =>
    (without_to t top (Nib.ofL k) w' (Fm.from w.heap.size) (fun g hg _ => Nat.le_trans hb.size hg) ((h2.sealed (fun _ _ e => by cases e) false).below hb) h3.tree.1 h3.tree.2.1 h3.within (Tri.ofL_fit k) (by rw [Nib.ofL_length]; omega) hgt).mono fun e w'' ⟨v9, e1, hp, hb9⟩ => by
      obtain ⟨g9, rfl⟩ := hp.ptr hnt
      exact ⟨g9, e1, hp, hb9⟩)
  have HTS := Lib.hid (h3.del hlk)
  have hat : Tri.at_ S k = true := by rw [Tri.at_look h3.rise]; cases hl : Sto.look S k with | none => exact absurd hl hlk | some v => rfl
  have hdl := Tri.del_len h3.rise k hat
  obtain ⟨n, hn⟩ : ∃ n, (Tri.del S k).length = n := ⟨_, rfl⟩
  rw [hn] at hdl
  have hfew := h3.few
  have HT : Hid (∀ w', Below w.heap.size w w' → w'.cell? ⟨g, 0, none⟩ = some top ∧ w'.cell? ⟨g, 1, none⟩ = some (.int .i64 ((n : Int) + 1))) := Lib.hid (fun w' hb => ⟨(h1.below hb).top, by have := (h1.below hb).num; rw [← hdl] at this; exact this⟩)
  have z8 : IntKind.i64.wrap ((n : Int) + 1 - 1) = (n : Int) := (IntWalk.i64_in ((n : Int) + 1 - 1) (by omega)).trans (by omega)
  have z9 : IntKind.i64.wrap ((n : Int)) = (n : Int) := IntWalk.i64_in _ (by omega)
  obtain ⟨P, hP⟩ : ∃ P, Nib.ofL k = P := ⟨_, rfl⟩
  rw [hP] at HOF HWI HTS
  have HTB := Lib.hid hT
  have HN := Lib.hid hn
  have HCC := Lib.hid hc
  obtain ⟨x, hx⟩ : ∃ x, Tri.getC S k = (x, 0) := ⟨(Tri.getC S k).1, by rw [← hc]⟩
  rw [hx] at HG
  unfold ptr at HG ⊢
  have hqq : w.heap.size ≤ w.heap.size := Nat.le_refl _
  clear h1 h2 h3 hkk hlk hx8 hP hgt hat hdl hfew hT hn hx hc hnl hnt hqq
  go_enter Tryz.func38, Tryz.ntmps38
  go_wp2_with fail
  refine HG.out.mono ?_
  rintro e w1 ⟨rfl, hb1⟩
  have HB1 := Lib.hid hb1
  go_upto_region 4 with fail
  have BD : Below w.heap.size w w1.drew := HB1.out.drew
  obtain ⟨c0, c1⟩ := HT.out _ BD
  clear hb1
  go_region_held3 (fun w' => w'.cell? ⟨g, 0, none⟩ = some top ∧ w'.cell? ⟨g, 1, none⟩ = some (.int .i64 ((n : Int) + 1)))
    ((first | (with_reducible exact ⟨c0, c1⟩) | (refine HT.out _ ?_; with_reducible assumption) | (refine HT.out _ ?_; refine Below.alloc ?_ ?_ _; (with_reducible assumption); (with_reducible exact hs9))))
    (first | (go_at_call 62; refine (HOF.out _).mono ?_; rintro e w6 ⟨rfl, hb6⟩; have hb6' := bchain BD hb6) | (go_at_call 69; refine (HWI.out _ ?_).mono ?_; (with_reducible exact hb6'); rintro e w9 ⟨g9, rfl, hp9, hb9⟩; have hb9' := bchain hb6' hb9; have hs9 := hb9'.size))
  all_goals
    have hba := hb9'.alloc hs9 (.cells #[(.pointer (some ⟨g9, 0, none⟩)), .int .i64 n] 82)
    have hr : TRow (w9.alloc (.cells #[(.pointer (some ⟨g9, 0, none⟩)), .int .i64 n] 82)) w9.heap.size (.pointer (some ⟨g9, 0, none⟩)) n := heap_alloc_new w9 _
    have hp := hp9.below ((Below.refl _ w9).alloc (Nat.le_refl _) (.cells #[(.pointer (some ⟨g9, 0, none⟩)), .int .i64 n] 82))
    have HSE := Lib.hid (seal_to _ _ _ w.heap.size HTB.out.pos hba.size (HTB.out.below hba) HTS.out.ok hp)
    have HR := Lib.hid hr
    have HBA := Lib.hid hba
    have m0 := hr.top
    clear hr hp hba
    go_wp2_with fail
    refine HSE.out.mono ?_
    rintro e w2 ⟨rfl, hp2, hk2, hb2⟩
    have HP2 := Lib.hid hp2
    have HR2 : Hid (TRow w2 w9.heap.size (.pointer (some ⟨g9, 0, none⟩)) (Tri.del S k).length) := Lib.hid (by rw [HN.out]; exact hk2.2.2 _ _ _ _ (by decide) HR.out)
    have HB2 := Lib.hid (HBA.out.trans hb2)
    clear hp2 hk2 hb2
    go_wp2
    go_ret2
    exact TDelPost.good HCC.out ⟨_, _, HR2.out, HP2.out.sealed (fun _ _ e => by cases e) true, HTS.out⟩ HB2.out
set_option maxRecDepth 100000 in
set_option maxHeartbeats 2000000 in
theorem tdel_none {g : Nat} {S : St} (k : T) (w : World) (h : TrAt w g S) (hT : Tab w) (hc : (Tri.getC S k).2 = 0) (hnl : ∀ t, TrS S t → (t.del (Nib.ofL k)).isNil) :
    Calls Tryz.prog 38 #[ptr g, .string ⟨k.toArray⟩] w (TDelPost S k w) := by
  have HG := Lib.hid (tget_any k w h)
  obtain ⟨top, t, h1, h2, h3⟩ := h
  have hnt := hnl t h3
  obtain ⟨hkk, hlk⟩ := getC_zero hc
  have hx8 : k.length ≤ 8 := by simp [Tri.keyed] at hkk; omega
  have HOF := Lib.hid (fun w => of_any k w (by omega))
  have hgt : t.get (Nib.ofL k) ≠ none := by rw [h3.tree.get h3.rise]; exact hlk
  have HWI : Hid (∀ w', Below w.heap.size w w' → Calls Tryz.prog 69 #[top, .string ⟨(Nib.ofL k).toArray⟩] w' fun e w'' => e = .returned (.pointer none) ∧ PAt w'' (Fm.from w.heap.size) false (t.del (Nib.ofL k)) (.pointer none) ∧ Below w'.heap.size w' w'') := Lib.hid (fun w' hb =>
    (without_to t top (Nib.ofL k) w' (Fm.from w.heap.size) (fun g hg _ => Nat.le_trans hb.size hg) ((h2.sealed (fun _ _ e => by cases e) false).below hb) h3.tree.1 h3.tree.2.1 h3.within (Tri.ofL_fit k) (by rw [Nib.ofL_length]; omega) hgt).mono fun e w'' ⟨v9, e1, hp, hb9⟩ => by
      have hv9 : v9 = .pointer none := by rw [Tri.isNil_eq hnt] at hp; exact hp
      subst hv9
      exact ⟨e1, hp, hb9⟩)
  have HTS := Lib.hid (h3.del hlk)
  have hat : Tri.at_ S k = true := by rw [Tri.at_look h3.rise]; cases hl : Sto.look S k with | none => exact absurd hl hlk | some v => rfl
  have hdl := Tri.del_len h3.rise k hat
  obtain ⟨n, hn⟩ : ∃ n, (Tri.del S k).length = n := ⟨_, rfl⟩
  rw [hn] at hdl
  have hfew := h3.few
  have HT : Hid (∀ w', Below w.heap.size w w' → w'.cell? ⟨g, 0, none⟩ = some top ∧ w'.cell? ⟨g, 1, none⟩ = some (.int .i64 ((n : Int) + 1))) := Lib.hid (fun w' hb => ⟨(h1.below hb).top, by have := (h1.below hb).num; rw [← hdl] at this; exact this⟩)
  have z8 : IntKind.i64.wrap ((n : Int) + 1 - 1) = (n : Int) := (IntWalk.i64_in ((n : Int) + 1 - 1) (by omega)).trans (by omega)
  have z9 : IntKind.i64.wrap ((n : Int)) = (n : Int) := IntWalk.i64_in _ (by omega)
  obtain ⟨P, hP⟩ : ∃ P, Nib.ofL k = P := ⟨_, rfl⟩
  rw [hP] at HOF HWI HTS
  have HTB := Lib.hid hT
  have HN := Lib.hid hn
  have HCC := Lib.hid hc
  obtain ⟨x, hx⟩ : ∃ x, Tri.getC S k = (x, 0) := ⟨(Tri.getC S k).1, by rw [← hc]⟩
  rw [hx] at HG
  unfold ptr at HG ⊢
  have hqq : w.heap.size ≤ w.heap.size := Nat.le_refl _
  clear h1 h2 h3 hkk hlk hx8 hP hgt hat hdl hfew hT hn hx hc hnl hnt hqq
  go_enter Tryz.func38, Tryz.ntmps38
  go_wp2_with fail
  refine HG.out.mono ?_
  rintro e w1 ⟨rfl, hb1⟩
  have HB1 := Lib.hid hb1
  go_upto_region 4 with fail
  have BD : Below w.heap.size w w1.drew := HB1.out.drew
  obtain ⟨c0, c1⟩ := HT.out _ BD
  clear hb1
  go_region_held3 (fun w' => w'.cell? ⟨g, 0, none⟩ = some top ∧ w'.cell? ⟨g, 1, none⟩ = some (.int .i64 ((n : Int) + 1)))
    ((first | (with_reducible exact ⟨c0, c1⟩) | (refine HT.out _ ?_; with_reducible assumption) | (refine HT.out _ ?_; refine Below.alloc ?_ ?_ _; (with_reducible assumption); (with_reducible exact hs9))))
    (first | (go_at_call 62; refine (HOF.out _).mono ?_; rintro e w6 ⟨rfl, hb6⟩; have hb6' := bchain BD hb6) | (go_at_call 69; refine (HWI.out _ ?_).mono ?_; (with_reducible exact hb6'); rintro e w9 ⟨rfl, hp9, hb9⟩; have hb9' := bchain hb6' hb9; have hs9 := hb9'.size))
  all_goals
    have hba := hb9'.alloc hs9 (.cells #[(.pointer none), .int .i64 n] 82)
    have hr : TRow (w9.alloc (.cells #[(.pointer none), .int .i64 n] 82)) w9.heap.size (.pointer none) n := heap_alloc_new w9 _
    have hp := hp9.below ((Below.refl _ w9).alloc (Nat.le_refl _) (.cells #[(.pointer none), .int .i64 n] 82))
    have HSE := Lib.hid (seal_to _ _ _ w.heap.size HTB.out.pos hba.size (HTB.out.below hba) HTS.out.ok hp)
    have HR := Lib.hid hr
    have HBA := Lib.hid hba
    have m0 := hr.top
    clear hr hp hba
    go_wp2_with fail
    refine HSE.out.mono ?_
    rintro e w2 ⟨rfl, hp2, hk2, hb2⟩
    have HP2 := Lib.hid hp2
    have HR2 : Hid (TRow w2 w9.heap.size (.pointer none) (Tri.del S k).length) := Lib.hid (by rw [HN.out]; exact hk2.2.2 _ _ _ _ (by decide) HR.out)
    have HB2 := Lib.hid (HBA.out.trans hb2)
    clear hp2 hk2 hb2
    go_wp2
    go_ret2
    exact TDelPost.good HCC.out ⟨_, _, HR2.out, HP2.out.sealed (fun _ _ e => by cases e) true, HTS.out⟩ HB2.out
theorem tdel_any {g : Nat} {S : St} (k : T) (w : World) (h : TrAt w g S) (hT : Tab w) :
    Calls Tryz.prog 38 #[ptr g, .string ⟨k.toArray⟩] w (TDelPost S k w) := by
  by_cases hc : (Tri.getC S k).2 = 0
  · have h0 := h
    obtain ⟨top, t, h1, h2, h3⟩ := h
    by_cases hn : (t.del (Nib.ofL k)).isNil
    · exact tdel_none k w h0 hT hc (fun u hu => by rw [hu.tree.one h3.tree]; exact hn)
    · exact tdel_some k w h0 hT hc (fun u hu => by rw [hu.tree.one h3.tree]; exact hn)
  · exact tdel_bad k w h hc
set_option maxRecDepth 100000 in
theorem troot_any {g n : Nat} {top : Value} {t : Tr} (w : World) (hr : TRow w g top n) (hp : PAt w (Fm.from 0) true t top) (ho : Ok t) :
    Calls Tryz.prog 20 #[ptr g] w fun e w' => e = .returned (.string ⟨(t.sum Nd.sumS).toArray⟩) ∧ Below w.heap.size w w' := by
  have m0 := hr.top
  by_cases hn : t.isNil
  · rw [Tri.isNil_eq hn] at hp ⊢
    have e : top = .pointer none := hp
    subst e
    unfold ptr
    clear hr hp
    go_enter Tryz.func20, Tryz.ntmps20
    go_wp2
    go_ret
    exact ⟨rfl, Below.refl _ _⟩
  · obtain ⟨g2, s', K, rfl, hs, -, h2, -⟩ := hp.row hn
    obtain rfl := hs rfl
    have m1 := h2.sum
    have HCL := Lib.hid (fun w => dclone_any (t.sum Nd.sumS) w (by rw [ho.sum_len hn]; omega))
    obtain ⟨X, hX⟩ : ∃ X, t.sum Nd.sumS = X := ⟨_, rfl⟩
    rw [if_pos rfl, hX] at m1
    rw [hX] at HCL ⊢
    unfold ptr at *
    clear hr h2 hX hn ho
    go_enter Tryz.func20, Tryz.ntmps20
    go_wp2_with fail
    refine (HCL.out _).mono ?_
    rintro e w1 ⟨rfl, hb⟩
    go_wp2
    go_ret
    exact ⟨rfl, hb⟩
end Go.Proofs.YtjfefphgikncnaaGreatDoor
namespace Go.Proofs.YtjfefphgikncnaaGreatDoor
open Go.RowKit
open Go.Proofs.YtjfefphgikncnaaGreatDoor.Sto (St)

def Tri.ofR : St → St → St × Nat
  | S, [] => (S, 0)
  | S, a :: r => if Tri.putC S a.1 a.2 = 0 then Tri.ofR (Tri.put S a.1 a.2) r else ([], Tri.putC S a.1 a.2)
def RtOfPost (L : St) (w : World) (e : Ending) (w' : World) : Prop :=
  ∃ v', e = .returned (.tuple #[v', .int .i64 (Tri.ofR [] L).2]) ∧ ItAt w' v' (Tri.ofR [] L).1 ∧ Below w.heap.size w w'
theorem RtOfPost.of {L S : St} {c : Nat} {w w' : World} {v' : Value} (h : Tri.ofR [] L = (S, c)) (hv : ItAt w' v' S) (hb : Below w.heap.size w w') : RtOfPost L w (.returned (.tuple #[v', .int .i64 c])) w' :=
  ⟨v', by rw [h], by rw [h]; exact hv, hb⟩
end Go.Proofs.YtjfefphgikncnaaGreatDoor
namespace Go.Proofs.YtjfefphgikncnaaGreatDoor
open Go.RowKit
open Sto (T St)
open Tri (Tr Ok upd ix hb lay splitT Trim rank)
open Go.Proofs.YtjfefphgikncnaaGreatDoor.Nd (N)

def TOfPost (L : St) (w : World) (e : Ending) (w' : World) : Prop :=
  ∃ z, e = .returned (.tuple #[z, .int .i64 (Tri.ofR [] L).2]) ∧ ((Tri.ofR [] L).2 = 0 → ∃ g', z = ptr g' ∧ TrAt w' g' (Tri.ofR [] L).1) ∧ ((Tri.ofR [] L).2 ≠ 0 → z = nilp) ∧ Below w.heap.size w w'
theorem TOfPost.bad {L S : St} {c : Nat} {w w' : World} (h : Tri.ofR [] L = (S, c)) (hc : c ≠ 0) (hb : Below w.heap.size w w') : TOfPost L w (.returned (.tuple #[.pointer none, .int .i64 c])) w' := ⟨nilp, by rw [h]; rfl, by rw [h]; exact fun e => absurd e hc, fun _ => rfl, hb⟩
theorem TOfPost.good {L S : St} {g' : Nat} {w w' : World} (h : Tri.ofR [] L = (S, 0)) (hT : TrAt w' g' S) (hb : Below w.heap.size w w') : TOfPost L w (.returned (.tuple #[.pointer (some ⟨g', 0, none⟩), .int .i64 0])) w' := ⟨_, by rw [h]; rfl, by rw [h]; exact fun _ => ⟨g', rfl, hT⟩, by rw [h]; exact fun e => absurd rfl e, hb⟩
end Go.Proofs.YtjfefphgikncnaaGreatDoor
namespace Go.Proofs.YtjfefphgikncnaaGreatDoor
open Go.RowKit
open Sto (T)
open Tri (Tr Ok upd ix hb lay splitT Trim rank)
open Go.Proofs.YtjfefphgikncnaaGreatDoor.Nd (N)

set_option maxRecDepth 100000 in
theorem nodes_wants (w : World) : Wants w 46 #[] (fun _ => true) where
  call := fun _ _ => rfl
  step := fun w' p _ _ _ => by
    show Calls Tryz.prog 46 #[.string ⟨p.toArray⟩] w' _
    go_enter Tryz.func46, Tryz.ntmps46
    go_wp2
    go_ret
    exact ⟨rfl, Below.refl _ _⟩
set_option maxRecDepth 100000 in
theorem nodes_any {g : Nat} {t : Tr} {top n : Value} (w : World) (hg : w.heap[g]? = some (.cells #[top, n] 82 (0, 0))) (hs : Sealed w t top) :
    Calls Tryz.prog 16 #[ptr g] w (TextsPost w (wantedT (fun _ => true) t)) := by
  have HT := Lib.hid (texts_any w hg hs (nodes_wants w) down_all)
  unfold TextsPost ptr at HT
  unfold TextsPost ptr
  clear hg hs
  go_enter Tryz.func16, Tryz.ntmps16
  go_wp2_with fail
  refine HT.out.mono ?_
  rintro e w1 ⟨z, rfl, ho, hb⟩
  go_wp2
  go_ret
  exact ⟨z, rfl, ho, hb⟩
set_option maxRecDepth 100000 in
theorem trail_wants {c : Nat} {path : T} (w : World) (hc : w.heap[c]? = some (.cells #[.string ⟨path.toArray⟩] 9 (0, 0))) : Wants w 86 #[.pointer (some ⟨c, 0, none⟩)] (fun p => Tri.begins p path) where
  call := fun _ _ => rfl
  step := fun w' p hb _ _ => by
    show Calls Tryz.prog 86 #[.string ⟨p.toArray⟩, .pointer (some ⟨c, 0, none⟩)] w' _
    have c0 := cell_of_one ((hb.block c (lt_of_heap hc)).trans hc)
    have HP := Lib.hid (fun w => prefix_any path p w)
    unfold Tri.begins
    go_enter Tryz.func86, Tryz.ntmps86
    go_wp2_with fail
    refine (HP.out _).mono ?_
    rintro e w1 ⟨rfl, rfl⟩
    go_wp2
    go_ret
    exact ⟨rfl, Below.refl _ _⟩
set_option maxRecDepth 100000 in
set_option maxHeartbeats 1000000 in
theorem trail_any {g : Nat} {t : Tr} {top n : Value} (key : T) (w : World) (hl : key.length ≤ 1000) (hg : w.heap[g]? = some (.cells #[top, n] 82 (0, 0))) (hs : Sealed w t top) :
    Calls Tryz.prog 57 #[ptr g, .string ⟨key.toArray⟩] w (TextsPost w (wantedT (fun p => Tri.begins p (Nib.ofL key)) t)) := by
  have hmf : ∀ (fn : Fn) (first cap : Array Value) (w : World), (Instr.makeFunc fn first cap).run Tryz.prog w = .ok (.func fn first cap) w := fun _ _ _ _ => rfl
  have HOF := Lib.hid (fun w => of_any key w (by omega))
  have HT : Hid (∀ w1 path, Below w.heap.size w w1 → Calls Tryz.prog 45 #[ptr g, .func (.func 86) #[] #[.pointer (some ⟨w1.heap.size, 0, none⟩)]] (w1.alloc (.cells #[.string ⟨path.toArray⟩] 9)) (TextsPost (w1.alloc (.cells #[.string ⟨path.toArray⟩] 9)) (wantedT (fun p => Tri.begins p path) t))) := Lib.hid (fun w1 path hb => by
    have hb2 := hb.alloc hb.size (.cells #[.string ⟨path.toArray⟩] 9)
    exact texts_any _ ((hb2.block g (lt_of_heap hg)).trans hg) (hs.below hb2) (trail_wants _ (heap_alloc_new w1 _)) (down_begins path))
  unfold TextsPost ptr at HT
  unfold TextsPost ptr
  obtain ⟨P, hP⟩ : ∃ P, Nib.ofL key = P := ⟨_, rfl⟩
  rw [hP] at HOF ⊢
  clear hg hs hP
  go_enter Tryz.func57, Tryz.ntmps57
  go_wp2_with fail
  refine (HOF.out _).mono ?_
  rintro e w1 ⟨rfl, hb1⟩
  have HB1 := Lib.hid hb1
  clear hb1
  go_wp2_with fail
  refine (HT.out w1 P HB1.out).mono ?_
  rintro e w2 ⟨z, rfl, ho, hb⟩
  have HB2 : Hid (Below w.heap.size w w2) := Lib.hid (bchain (HB1.out.alloc HB1.out.size _) hb)
  have HO : Hid (Own w2 w.heap.size z (wantedT (fun p => Tri.begins p P) t)) := Lib.hid (own_lowS ho (by have := HB1.out.size; simp; omega))
  clear ho hb
  go_wp2
  go_ret
  exact ⟨z, rfl, HO.out, HB2.out⟩
end Go.Proofs.YtjfefphgikncnaaGreatDoor
namespace Go.Proofs.YtjfefphgikncnaaGreatDoor
open Go.RowKit
open Sto (T St)
open Tri (Tr Ok upd ix hb lay splitT Trim rank)
open Go.Proofs.YtjfefphgikncnaaGreatDoor.Nd (N)

namespace Tri
def wK : St := [([107], [118])]
theorem wU_tree : TreeOf wK (.leaf [6, 11] [118]) := by
  have h0 : TreeOf [] .nil := ⟨trivial, trivial, rfl⟩
  have h1 : TreeOf (put [] [107] [118]) (Tr.put .nil (Nib.ofL [107]) [118]) := h0.put (by decide)
  exact h1
theorem wU_text : Nd.written (Tr.node Nd.sumS (.leaf [6, 11] [118])) = [1, 1, 2, 32, 107, 1, 1, 118] := by decide +kernel
end Tri
theorem wanted_all (t : Tr) : wantedT (fun _ => true) t = (t.spots Nd.sumS []).map fun x => Nd.written x.2 := by
  unfold wantedT
  rw [List.filter_eq_self.2 (fun _ _ => rfl)]
/-- What a trie's nodes are. -/
theorem TrAt.tree {w : World} {g : Nat} {S : St} (h : TrAt w g S) : ∃ top t, TRow w g top S.length ∧ PAt w (Fm.from 0) true t top ∧ TrS S t := h
end Go.Proofs.YtjfefphgikncnaaGreatDoor
namespace Go.Proofs.YtjfefphgikncnaaGreatDoor
open Go.RowKit Go.ChangeShapes Go.WideShapes

/-- An act. -/
structure ActT where
  kind : Int
  key : List UInt8
  val : List UInt8
instance : Inhabited ActT := ⟨⟨0, [], []⟩⟩
def TActs (w : World) (v : Value) (L : List ActT) : Prop :=
  ∃ (A : Option Addr) (cap : Nat), v = .slice A L.length cap ∧ (0 < L.length → ∃ b o, A = some ⟨b, o, none⟩ ∧ b < w.heap.size ∧ ∀ i (h : i < L.length),
    w.cell? ⟨b, o + i * 3, none⟩ = some (.int .i64 L[i].kind) ∧ w.cell? ⟨b, o + i * 3 + 1, none⟩ = some (.string ⟨L[i].key.toArray⟩) ∧ w.cell? ⟨b, o + i * 3 + 2, none⟩ = some (.string ⟨L[i].val.toArray⟩))
theorem TActs.below {w w' : World} {v : Value} {L : List ActT} (h : TActs w v L) (hb : Below w.heap.size w w') : TActs w' v L := by
  obtain ⟨A, cap, rfl, hc⟩ := h
  refine ⟨A, cap, rfl, fun h0 => ?_⟩
  obtain ⟨b, o, rfl, hlt, hcell⟩ := hc h0
  refine ⟨b, o, rfl, Nat.lt_of_lt_of_le hlt hb.size, fun i hi => ?_⟩
  obtain ⟨h1, h2, h3⟩ := hcell i hi
  exact ⟨(hb.cell hlt).trans h1, (hb.cell hlt).trans h2, (hb.cell hlt).trans h3⟩
theorem TActs.form {w : World} {v : Value} {L : List ActT} (h : TActs w v L) : ∃ A cap, v = .slice A L.length cap := by
  obtain ⟨A, cap, rfl, _⟩ := h
  exact ⟨A, cap, rfl⟩
theorem TActs.at {w w' : World} {A : Option Addr} {n cap : Nat} {L : List ActT} (h : TActs w (.slice A n cap) L) (hb : Below w.heap.size w w') (k : Nat) (hk : k < L.length) :
    ∃ b o, A = some ⟨b, o, none⟩ ∧ b < w.heap.size ∧ w'.cell? ⟨b, o + k * 3, none⟩ = some (.int .i64 L[k].kind) ∧ w'.cell? ⟨b, o + k * 3 + 1, none⟩ = some (.string ⟨L[k].key.toArray⟩) ∧ w'.cell? ⟨b, o + k * 3 + 2, none⟩ = some (.string ⟨L[k].val.toArray⟩) := by
  obtain ⟨A0, cap0, hv0, hc0⟩ := h
  obtain ⟨rfl, rfl, rfl⟩ : A = A0 ∧ n = L.length ∧ cap = cap0 := by simpa using hv0
  obtain ⟨b, o, rfl, hlt, hcell⟩ := hc0 (by omega)
  obtain ⟨h1, h2, h3⟩ := hcell k hk
  exact ⟨b, o, rfl, hlt, (hb.cell hlt).trans h1, (hb.cell hlt).trans h2, (hb.cell hlt).trans h3⟩

end Go.Proofs.YtjfefphgikncnaaGreatDoor
namespace Go.Proofs.YtjfefphgikncnaaGreatDoor
open Go.RowKit
open Sto (T St)
open Tri (Tr)

end Go.Proofs.YtjfefphgikncnaaGreatDoor
namespace Go.Proofs.YtjfefphgikncnaaGreatDoor
open Go.RowKit
open Sto (T St)
open Tri (Tr)

end Go.Proofs.YtjfefphgikncnaaGreatDoor
namespace Go.Proofs.YtjfefphgikncnaaGreatDoor
open Go.RowKit
open Sto (T St)

end Go.Proofs.YtjfefphgikncnaaGreatDoor
namespace Go.Proofs.YtjfefphgikncnaaGreatDoor
open Go.RowKit

def Code.few (L : List (List UInt8)) (n e : Nat) : Bool := decide (L.length ≤ n) && L.all fun s => decide (s.length ≤ e)
end Go.Proofs.YtjfefphgikncnaaGreatDoor
namespace Go.Proofs.YtjfefphgikncnaaGreatDoor
open Go.RowKit
open Sto (T St)
open Tri (Tr)

/-- The tree of items. -/
def treeS (S : St) : Tr := S.foldr (fun x t => t.put (Nib.ofL x.1) x.2) .nil
theorem treeS_tree (S : St) (hS : Sto.Rising S) (hv : ∀ p ∈ S, p.2 ≠ []) : Tri.TreeOf S (treeS S) := by
  induction S with
  | nil => exact ⟨trivial, trivial, rfl⟩
  | cons a r ih =>
    obtain ⟨h1, h2⟩ := List.pairwise_cons.1 hS
    have h3 := (ih h2 fun p h => hv p (List.mem_cons_of_mem _ h)).put (k := a.1) (hv a (List.mem_cons_self ..))
    have e : Tri.put r a.1 a.2 = a :: r := by
      cases r with
      | nil => rfl
      | cons b r =>
        have hab := h1 b (List.mem_cons_self ..)
        rw [Tri.put, if_neg (fun h => List.lt_irrefl _ (List.lt_trans h hab)), if_neg (fun e => Sto.lt_ne hab e.symm)]
    rw [e] at h3
    exact h3
theorem treeS_of {S : St} {t : Tr} (h : TrS S t) : treeS S = t :=
  (treeS_tree S h.rise fun p hp e => by have := (h.fair p hp).2.2.1; rw [e] at this; simp at this).one h.tree
def rootS (S : St) : T := (treeS S).sum Nd.sumS
def nodesS (S : St) : List T := wantedT (fun _ => true) (treeS S)
theorem sroot_any {g : Nat} {S : St} (w : World) (h : TrAt w g S) :
    Calls Tryz.prog 20 #[ptr g] w fun e w' => e = .returned (.string ⟨(rootS S).toArray⟩) ∧ Below w.heap.size w w' := by
  obtain ⟨top, t, h1, h2, h3⟩ := h
  unfold rootS
  rw [treeS_of h3]
  exact troot_any w h1 h2 h3.ok
theorem snodes_any {g : Nat} {S : St} (w : World) (h : TrAt w g S) :
    Calls Tryz.prog 16 #[ptr g] w (TextsPost w (nodesS S)) := by
  obtain ⟨top, t, h1, h2, h3⟩ := h
  unfold nodesS
  rw [treeS_of h3]
  exact nodes_any w h1 (h3.sealed h2)
theorem TrAt.nodes_len {w : World} {g : Nat} {S : St} (h : TrAt w g S) : (nodesS S).length ≤ 100000 := by
  obtain ⟨top, t, h1, h2, h3⟩ := h
  unfold nodesS
  rw [treeS_of h3, wanted_all, List.length_map]
  exact h3.spots []
theorem del_le (S : St) (k : T) : (Tri.del S k).length ≤ S.length := by
  induction S with
  | nil => simp [Tri.del]
  | cons b r ih =>
    rw [Tri.del]
    split
    · simp
    · simp only [List.length_cons]; omega
end Go.Proofs.YtjfefphgikncnaaGreatDoor
