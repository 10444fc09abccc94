/- TriRefDel, TriCount, TriTrie, TriLoad, TriWithT, TriDelT, TriRefOf, TriOfT, TriCover -/
import Derived.Test.YtbkanebkobjnnaaGreatDoorPk16
import Derived.Test.YtbkanebkobjnnaaGreatDoorPk02
import Derived.Deep.RegionHeld3
import Derived.Test.YtbkanebkobjnnaaGreatDoorPk14
namespace Go.Proofs.YtbkanebkobjnnaaGreatDoor
open Go.RowKit
open Go.Proofs.YtbkanebkobjnnaaGreatDoor.Sto (St)

def Tri.delL (S : St) (x : List UInt8) : St := if (Tri.getC S x).2 = 0 then Tri.del S x else []
def RtDelPost (S : St) (x : List UInt8) (w : World) (e : Ending) (w' : World) : Prop :=
  ∃ v', e = .returned (.tuple #[v', .int .i64 (Tri.getC S x).2]) ∧ ItAt w' v' (Tri.delL S x) ∧ Below w.heap.size w w'
theorem RtDelPost.bad {S : St} {x : List UInt8} {w w' : World} {c : Nat} (h : (Tri.getC S x).2 = c) (hc : c ≠ 0) (hb : Below w.heap.size w w') : RtDelPost S x w (.returned (.tuple #[.slice none 0 0, .int .i64 c])) w' := by
  subst h
  exact ⟨_, rfl, by rw [Tri.delL, if_neg hc]; exact RowsAt.nil .., hb⟩
theorem RtDelPost.good {S L : St} {x : List UInt8} {w w' : World} {v' : Value} (h : (Tri.getC S x).2 = 0) (hp : Tri.del S x = L) (hv : ItAt w' v' L) (hb : Below w.heap.size w w') : RtDelPost S x w (.returned (.tuple #[v', .int .i64 0])) w' := by
  refine ⟨v', by rw [h]; rfl, ?_, hb⟩
  rw [Tri.delL, if_pos h, hp]; exact hv
end Go.Proofs.YtbkanebkobjnnaaGreatDoor
namespace Go.Proofs.YtbkanebkobjnnaaGreatDoor.Tri
open Sto (T St Rising keys)
open Go.Proofs.YtbkanebkobjnnaaGreatDoor.Nd (N)

theorem pair_sub : ∀ i j : Fin 16, i < j → [i, j].Sublist (List.finRange 16) := by decide +kernel
theorem one_sub : ∀ i : Fin 16, [i].Sublist (List.finRange 16) := by decide +kernel
theorem spots_len (dg : N → T) {t : Tr} (h : t.canon) (hn : ¬ t.isNil) (p : T) : (t.spots dg p).length + 2 ≤ 3 * t.items.length ∧ (t.isBr → (t.spots dg p).length + 3 ≤ 3 * t.items.length) := by
  induction t generalizing p with
  | nil => exact absurd trivial hn
  | leaf q v => exact ⟨by simp [Tr.spots, Tr.items], fun h => h.elim⟩
  | ext q t ih =>
    have n1 : ¬ t.isNil := by have := h.2.1; cases t <;> simp_all [Tr.isBr, Tr.isNil]
    have := (ih h.2.2 n1 (p ++ q)).2 h.2.1
    refine ⟨?_, fun h => h.elim⟩
    rw [Tr.spots, Tr.items, behind, List.length_map, List.length_cons]
    omega
  | br v k ih =>
    have all : ∀ l : List (Fin 16), (l.flatMap fun i => (k i).spots dg (p ++ [hb i])).length + 2 * l.countP (fun i => !(k i).nilB) ≤ 3 * (l.flatMap fun i => behind [hb i] (k i).items).length := by
      intro l
      induction l with
      | nil => simp
      | cons i l ihl =>
        rw [List.flatMap_cons, List.flatMap_cons, List.length_append, List.length_append, List.countP_cons]
        have hb1 : (behind [hb i] (k i).items).length = (k i).items.length := by rw [behind, List.length_map]
        by_cases e : (k i).isNil
        · have e2 := (nilB_iff _).2 e
          have e3 : (k i).spots dg (p ++ [hb i]) = [] := by cases hk : k i with
            | nil => rfl
            | _ => rw [hk] at e; exact e.elim
          rw [e3, e2]
          simp only [Bool.not_true, Bool.false_eq_true, if_false, List.length_nil]
          omega
        · have e2 : (k i).nilB = false := by cases hk : (k i).nilB with
            | false => rfl
            | true => exact absurd ((nilB_iff _).1 hk) e
          have := (ih i (h.1 i) e (p ++ [hb i])).1
          rw [e2, hb1]
          simp only [Bool.not_false, if_true]
          omega
    have h1 := all (List.finRange 16)
    have h2 : 4 ≤ 3 * (own v).length + 2 * (List.finRange 16).countP (fun i => !(k i).nilB) := by
      have ne : ∀ i, ¬ (k i).isNil → (!(k i).nilB) = true := fun i hi => by
        cases hk : (k i).nilB with
        | false => rfl
        | true => exact absurd ((nilB_iff _).1 hk) hi
      rcases h.2 with ⟨i, j, hij, hi, hj⟩ | ⟨hv, i, hi⟩
      · have := (pair_sub i j hij).countP_le (p := fun i => !(k i).nilB)
        simp only [List.countP_cons, ne i hi, ne j hj, if_true, List.countP_nil] at this
        omega
      · have := (one_sub i).countP_le (p := fun i => !(k i).nilB)
        simp only [List.countP_cons, ne i hi, if_true, List.countP_nil] at this
        rw [own, if_neg hv, List.length_singleton]
        omega
    have h3 : (Tr.spots dg p (.br v k)).length + 3 ≤ 3 * (Tr.br v k).items.length := by
      rw [Tr.spots, Tr.items, List.length_cons, List.length_append]
      omega
    exact ⟨by omega, fun _ => h3⟩
end Go.Proofs.YtbkanebkobjnnaaGreatDoor.Tri
namespace Go.Proofs.YtbkanebkobjnnaaGreatDoor
open Go.RowKit
open Sto (T St)
open Tri (Tr Ok upd ix hb lay splitT Trim rank)
open Go.Proofs.YtbkanebkobjnnaaGreatDoor.Nd (N)

/-- Items as a trie may have them, with their tree. -/
structure TrS (S : St) (t : Tr) : Prop where
  tree : Tri.TreeOf S t
  rise : Sto.Rising S
  fair : ∀ x ∈ S, 1 ≤ x.1.length ∧ x.1.length ≤ 8 ∧ 1 ≤ x.2.length ∧ x.2.length ≤ 32
  few : S.length ≤ 1024
theorem TrS.within {S : St} {t : Tr} (h : TrS S t) : within t := fun x hx => by
  rw [h.tree.2.2] at hx
  obtain ⟨y, hy, rfl⟩ := List.mem_map.1 hx
  have := (h.fair y hy).2.1
  rw [Nib.ofL_length]; omega
theorem TrS.ok {S : St} {t : Tr} (h : TrS S t) : Ok t := ⟨h.tree.1, h.tree.2.1, Tri.small_of h.tree.1 fun x hx => ⟨h.within x hx, by
  rw [h.tree.2.2] at hx
  obtain ⟨y, hy, rfl⟩ := List.mem_map.1 hx
  exact (h.fair y hy).2.2.2⟩⟩
theorem TrS.trim {S : St} {t : Tr} (h : TrS S t) : Trim t := ⟨Tri.canon_firm h.tree.1, h.tree.2.1, Tri.small_low h.ok.small⟩
theorem TrS.spots {S : St} {t : Tr} (h : TrS S t) (p : T) : (t.spots Nd.sumS p).length ≤ 100000 := by
  by_cases hn : t.isNil
  · rw [Tri.isNil_eq hn]; simp [Tri.Tr.spots]
  · have h1 := (Tri.spots_len Nd.sumS h.tree.1 hn p).1
    have h2 : t.items.length = S.length := by rw [h.tree.2.2]; simp [Tri.paths]
    have := h.few
    omega
theorem TrS.sealed {S : St} {t : Tr} {w : World} {v : Value} (h : TrS S t) (hp : PAt w (Fm.from 0) true t v) : Sealed w t v := ⟨hp, h.ok, h.within, h.spots⟩
theorem TrS.empty : TrS [] .nil := ⟨⟨trivial, trivial, rfl⟩, List.Pairwise.nil, fun x hx => (by cases hx), by simp⟩
theorem TrS.find {S : St} {t : Tr} (h : TrS S t) (k : T) : findT t (Nib.ofL k) = (Sto.look S k).getD [] := by
  unfold findT; rw [h.tree.get h.rise]
theorem TrS.look_ne {S : St} {t : Tr} (h : TrS S t) {k v : T} (hl : Sto.look S k = some v) : v ≠ [] := fun e => by
  have := (h.fair _ ((Sto.look_mem h.rise k v).1 hl)).2.2.1
  rw [e] at this; simp at this
theorem TrS.put {S : St} {t : Tr} (h : TrS S t) {k v : T} (hk : Tri.putC S k v = 0) : TrS (Tri.put S k v) (t.put (Nib.ofL k) v) := by
  unfold Tri.putC at hk
  split at hk
  · rename_i hkk
    split at hk
    · rename_i hv
      obtain ⟨v1, v2, v3⟩ := hv
      have hkk2 : 1 ≤ k.length ∧ k.length ≤ 8 := by simpa [Tri.keyed] using hkk
      refine ⟨h.tree.put (fun e => by subst e; simp at v1), Tri.put_rising h.rise _ _, fun x hx => ?_, ?_⟩
      · rcases Tri.put_mem hx with hx | rfl
        · exact h.fair x hx
        · exact ⟨hkk2.1, hkk2.2, v1, v2⟩
      · have hf := h.few
        rw [Tri.put_eq]
        have hp := Tri.pos_le S k
        rcases v3 with v3 | v3
        · rw [if_pos v3]
          have hp2 : Tri.pos S k < S.length := (Tri.look_pos h.rise k v3).1
          simp; omega
        · simp; omega
    · cases hk
  · cases hk
theorem TrS.del {S : St} {t : Tr} (h : TrS S t) {k : T} (hk : Sto.look S k ≠ none) : TrS (Tri.del S k) (t.del (Nib.ofL k)) := by
  refine ⟨h.tree.del h.rise hk, Tri.del_rising h.rise _, fun x hx => h.fair x (Tri.del_mem hx), ?_⟩
  have hf := h.few
  have ha : Tri.at_ S k = true := by rw [Tri.at_look h.rise]; cases hl : Sto.look S k with | none => exact absurd hl hk | some v => rfl
  rw [Tri.del_eq h.rise k ha]
  simp; omega
/-- A trie in block g. -/
def TRow (w : World) (g : Nat) (top : Value) (n : Nat) : Prop := w.heap[g]? = some (.cells #[top, .int .i64 n] 65 (0, 0))
theorem TRow.below {w w' : World} {g n : Nat} {top : Value} (h : TRow w g top n) (hb : Below w.heap.size w w') : TRow w' g top n := (hb.block g (lt_of_heap h)).trans h
theorem TRow.top {w : World} {g n : Nat} {top : Value} (h : TRow w g top n) : w.cell? ⟨g, 0, none⟩ = some top := by rw [cell_of_row _ _ _ _ _ _ h]; rfl
theorem TRow.num {w : World} {g n : Nat} {top : Value} (h : TRow w g top n) : w.cell? ⟨g, 1, none⟩ = some (.int .i64 n) := by rw [cell_of_row _ _ _ _ _ _ h]; rfl
/-- A trie whose parts may be without their sums. -/
def OpenAt (w : World) (F : Fm) (g : Nat) (S : St) : Prop := ∃ top t, TRow w g top S.length ∧ PAt w F false t top ∧ TrS S t
def TrAt (w : World) (g : Nat) (S : St) : Prop := ∃ top t, TRow w g top S.length ∧ PAt w (Fm.from 0) true t top ∧ TrS S t
theorem TrAt.below {w w' : World} {g : Nat} {S : St} (h : TrAt w g S) (hb : Below w.heap.size w w') : TrAt w' g S := by
  obtain ⟨top, t, h1, h2, h3⟩ := h
  exact ⟨top, t, h1.below hb, h2.below hb, h3⟩
theorem TrAt.open {w : World} {g : Nat} {S : St} (h : TrAt w g S) (B : Nat) : OpenAt w (Fm.from B) g S := by
  obtain ⟨top, t, h1, h2, h3⟩ := h
  exact ⟨top, t, h1, h2.sealed (fun _ _ e => by cases e) false, h3⟩
theorem OpenAt.below {w w' : World} {F : Fm} {g : Nat} {S : St} (h : OpenAt w F g S) (hb : Below w.heap.size w w') : OpenAt w' F g S := by
  obtain ⟨top, t, h1, h2, h3⟩ := h
  exact ⟨top, t, h1.below hb, h2.below hb, h3⟩
theorem TrAt.rise {w : World} {g : Nat} {S : St} (h : TrAt w g S) : Sto.Rising S := by
  obtain ⟨_, _, _, _, h3⟩ := h; exact h3.rise
theorem TrAt.few {w : World} {g : Nat} {S : St} (h : TrAt w g S) : S.length ≤ 1024 := by
  obtain ⟨_, _, _, _, h3⟩ := h; exact h3.few

set_option maxRecDepth 100000 in
theorem tnew_any (w : World) : Calls Tryz.prog 29 #[] w fun e w' => ∃ g, e = .returned (ptr g) ∧ TrAt w' g [] ∧ w.heap.size ≤ g ∧ Below w.heap.size w w' := by
  go_enter Tryz.func29, Tryz.ntmps29
  go_wp2
  go_ret
  exact ⟨w.heap.size, rfl, ⟨nilp, .nil, heap_alloc_new w _, PAt.nil _ _ _, TrS.empty⟩, Nat.le_refl _, (Below.refl _ w).alloc (Nat.le_refl _) _⟩
set_option maxRecDepth 100000 in
theorem tlen_any {g : Nat} {S : St} (w : World) (h : TrAt w g S) : Calls Tryz.prog 28 #[ptr g] w fun e w' => e = .returned (.int .i64 S.length) ∧ w = w' := by
  obtain ⟨top, t, h1, h2, h3⟩ := h
  have n1 := h1.num
  unfold ptr
  clear h1 h2 h3
  go_enter Tryz.func28, Tryz.ntmps28
  go_wp2
  go_ret
  exact ⟨rfl, rfl⟩
set_option maxRecDepth 100000 in
theorem iskey_any (x : T) (w : World) :
    Calls Tryz.prog 52 #[.string ⟨x.toArray⟩] w fun e w' => e = .returned (.bool (Tri.keyed x)) ∧ w = w' := by
  by_cases h0 : x = []
  · subst h0
    go_enter Tryz.func52, Tryz.ntmps52
    go_wp2
    go_ret
    exact ⟨rfl, rfl⟩
  · have h1 : (x == []) = false := by rw [beq_eq_false_iff_ne]; exact h0
    have h2 : 1 ≤ x.length := List.length_pos_iff.2 h0
    by_cases h8 : x.length ≤ 8
    · have h3 : (x.length : Int) ≤ 8 := by omega
      have e : Tri.keyed x = true := by simp [Tri.keyed, h2, h8]
      rw [e]
      clear e h2 h8 h0
      go_enter Tryz.func52, Tryz.ntmps52
      go_wp2
      go_ret
      exact ⟨rfl, rfl⟩
    · have h3 : ¬ ((x.length : Int) ≤ 8) := by omega
      have e : Tri.keyed x = false := by simp [Tri.keyed]; omega
      rw [e]
      clear e h2 h8 h0
      go_enter Tryz.func52, Tryz.ntmps52
      go_wp2
      go_ret
      exact ⟨rfl, rfl⟩
set_option maxRecDepth 100000 in
set_option maxHeartbeats 1000000 in
theorem tget_any {g : Nat} {S : St} (x : T) (w : World) (h : TrAt w g S) :
    Calls Tryz.prog 27 #[ptr g, .string ⟨x.toArray⟩] w fun e w' => e = .returned (.tuple #[.string ⟨(Tri.getC S x).1.toArray⟩, .int .i64 (Tri.getC S x).2]) ∧ Below w.heap.size w w' := by
  obtain ⟨top, t, h1, h2, h3⟩ := h
  have HK := Lib.hid (fun w => iskey_any x w)
  unfold ptr
  cases hk : Tri.keyed x with
  | false =>
    rw [Tri.getC_no hk]
    rw [hk] at HK
    clear h1 h2 h3 hk
    go_enter Tryz.func27, Tryz.ntmps27
    go_wp2_with fail
    refine (HK.out _).mono ?_
    rintro e w1 ⟨rfl, rfl⟩
    go_wp2
    go_ret2
    exact ⟨rfl, Below.refl _ _⟩
  | true =>
    rw [hk] at HK
    have hx8 : x.length ≤ 8 := by simp [Tri.keyed] at hk; omega
    have HOF := Lib.hid (fun w => of_any x w (by omega))
    have HFI : Hid (∀ w', Below w.heap.size w w' → Calls Tryz.prog 53 #[top, .string ⟨(Nib.ofL x).toArray⟩] w' fun e w'' => e = .returned (.string ⟨((Sto.look S x).getD []).toArray⟩) ∧ Below w'.heap.size w' w'') := Lib.hid (fun w' hb => by
      have := find_any (Nib.ofL x) w' (h2.below hb) h3.trim.firm (Tri.ofL_fit x) (by rw [Nib.ofL_length]; omega)
      rw [h3.find] at this
      exact this)
    have HT : Hid (∀ w', Below w.heap.size w w' → w'.cell? ⟨g, 0, none⟩ = some top) := Lib.hid (fun w' hb => (h1.below hb).top)
    obtain ⟨P, hP⟩ : ∃ P, Nib.ofL x = P := ⟨_, rfl⟩
    rw [hP] at HOF HFI
    cases hl : Sto.look S x with
    | none =>
      rw [Tri.getC_none hk hl]
      rw [hl, Option.getD_none] at HFI
      have BD : Below w.heap.size w w.drew := (Below.refl _ _).drew
      have c0 := HT.out _ BD
      clear h1 h2 h3 hk hl hP
      go_enter Tryz.func27, Tryz.ntmps27
      go_wp2_with fail
      refine (HK.out _).mono ?_
      rintro e w1 ⟨rfl, rfl⟩
      go_upto_region 3 with fail
      go_region_held3 (fun w' => w'.cell? ⟨g, 0, none⟩ = some top)
        ((first | (with_reducible assumption) | (refine HT.out _ ?_; with_reducible assumption)))
        (first | (go_at_call 37; refine (HOF.out _).mono ?_; rintro e w6 ⟨rfl, hb6⟩; have hb6' := bchain BD hb6) | (go_at_call 53; refine (HFI.out _ ?_).mono ?_; (with_reducible exact hb6'); rintro e w7 ⟨rfl, hb7⟩; have hb7' := bchain hb6' hb7))
      all_goals
        go_wp2
        go_ret2
        exact ⟨rfl, hb7'⟩
    | some y =>
      have hye : (y == []) = false := by rw [beq_eq_false_iff_ne]; exact h3.look_ne hl
      have hyl : y.length ≤ 32 := (h3.fair _ ((Sto.look_mem h3.rise x y).1 hl)).2.2.2
      have HCL := Lib.hid (fun w => dclone_any y w (by omega))
      rw [Tri.getC_some hk hl]
      rw [hl, Option.getD_some] at HFI
      have BD : Below w.heap.size w w.drew := (Below.refl _ _).drew
      have c0 := HT.out _ BD
      clear h1 h2 h3 hk hl hP hyl
      go_enter Tryz.func27, Tryz.ntmps27
      go_wp2_with fail
      refine (HK.out _).mono ?_
      rintro e w1 ⟨rfl, rfl⟩
      go_upto_region 3 with fail
      go_region_held3 (fun w' => w'.cell? ⟨g, 0, none⟩ = some top)
        ((first | (with_reducible assumption) | (refine HT.out _ ?_; with_reducible assumption)))
        (first | (go_at_call 37; refine (HOF.out _).mono ?_; rintro e w6 ⟨rfl, hb6⟩; have hb6' := bchain BD hb6) | (go_at_call 53; refine (HFI.out _ ?_).mono ?_; (with_reducible exact hb6'); rintro e w7 ⟨rfl, hb7⟩; have hb7' := bchain hb6' hb7))
      all_goals
        go_wp2_with fail
        refine (HCL.out _).mono ?_
        rintro e w8 ⟨rfl, hb8⟩
        go_wp2
        go_ret2
        exact ⟨rfl, bchain hb7' hb8⟩
end Go.Proofs.YtbkanebkobjnnaaGreatDoor
namespace Go.Proofs.YtbkanebkobjnnaaGreatDoor
open Go.RowKit
open Sto (T St)
open Tri (Tr Ok hb)
open Go.Proofs.YtbkanebkobjnnaaGreatDoor.Nd (N)

theorem items_good {t : Tr} (h : Ok t) : ∀ x ∈ t.items, Nib.fitL x.1 = true ∧ x.2 ≠ [] ∧ x.2.length ≤ 32 := by
  induction t with
  | nil => intro x hx; cases hx
  | leaf p v => intro x hx; rw [List.mem_singleton.1 hx]; exact ⟨h.fits, h.canon, h.small.2⟩
  | ext p t ih =>
    intro x hx
    obtain ⟨q, hq, e⟩ := Tri.mem_behind.1 hx
    have h1 := ih ⟨h.canon.2.2, h.fits.2, h.small.2⟩ _ hq
    exact ⟨by rw [e]; exact Tri.fit_append.2 ⟨h.fits.1, h1.1⟩, h1.2⟩
  | br v k ih =>
    intro x hx
    rcases Tri.mem_br.1 hx with ⟨e1, e2, e3⟩ | ⟨i, q, e, hq⟩
    · exact ⟨by rw [e1]; rfl, by rw [e2]; exact e3, by rw [e2]; exact h.small.1⟩
    · have h1 := ih i ⟨h.canon.1 i, h.fits i, h.small.2 i⟩ _ hq
      refine ⟨?_, h1.2⟩
      rw [e]
      exact Tri.fit_cons.2 ⟨by rw [Tri.hb_toNat]; have := i.isLt; omega, h1.1⟩
/-- The keys of a trie's items, with their values. -/
def keysT (t : Tr) : St := t.items.map fun x => (Nib.joinL x.1, x.2)
theorem Loaded.trs {S : St} {sum : T} {t : Tr} (h : Loaded S sum [] false t) (hl : t.items.length ≤ 1024) : TrS (keysT t) t := by
  have hp : t.items = Tri.paths (keysT t) := by
    unfold Tri.paths keysT
    rw [List.map_map]
    conv => lhs; rw [← List.map_id t.items]
    refine List.map_congr_left fun x hx => ?_
    have h1 := items_good h.ok x hx
    have h2 := (h.fit x hx).2.2
    simp only [List.length_nil, Nat.zero_add] at h2
    simp only [id, Function.comp, Nib.of_join x.1 h1.1 h2]
  refine ⟨⟨h.ok.canon, h.ok.fits, hp⟩, Tri.paths_rising.1 (by rw [← hp]; exact Tri.items_rising t), fun x hx => ?_, by simp [keysT]; exact hl⟩
  obtain ⟨y, hy, rfl⟩ := List.mem_map.1 hx
  have h1 := items_good h.ok y hy
  have h2 := h.fit y hy
  simp only [List.length_nil, Nat.zero_add] at h2
  have h3 := Nib.joinL_length y.1
  have h4 := List.length_pos_iff.2 h1.2.1
  refine ⟨?_, ?_, h4, h1.2.2⟩
  · show 1 ≤ (Nib.joinL y.1).length
    omega
  · show (Nib.joinL y.1).length ≤ 8
    omega
theorem TrS.loaded {S st : St} {t : Tr} (h : TrS S t) (hi : t.inS st) (hn : ¬ t.isNil) : Loaded st (t.sum Nd.sumS) [] false t := by
  refine ⟨hn, h.ok, rfl, hi, (fun e => by cases e), fun x hx => ?_⟩
  rw [h.tree.2.2] at hx
  obtain ⟨y, hy, rfl⟩ := List.mem_map.1 hx
  have := h.fair y hy
  simp only [Nib.ofL_length, List.length_nil]
  omega
def LoadPost (st : St) (root : T) (w : World) (e : Ending) (w' : World) : Prop :=
  ∃ (z : Value) (c : Int), e = .returned (.tuple #[z, .int .i64 c]) ∧ Below w.heap.size w w' ∧
    ((c = 0 ∧ ∃ g S t, z = ptr g ∧ TrAt w' g S ∧ TrS S t ∧ t.sum Nd.sumS = root ∧ t.inS st) ∨ (c ≠ 0 ∧ z = nilp ∧ ∀ S t, TrS S t → t.inS st → t.sum Nd.sumS = root → False))
set_option maxRecDepth 100000 in
set_option maxHeartbeats 1000000 in
theorem tload_any {gs ms : Nat} {st : St} (root : T) (w : World) (hs : StoreAt w gs ms st) (hO : OwnSums st) (hr : root.length ≤ 32) :
    Calls Tryz.prog 25 #[.pointer (some ⟨gs, 0, none⟩), .string ⟨root.toArray⟩] w (LoadPost st root w) := by
  by_cases h0 : root = []
  · subst h0
    have HNW := Lib.hid (tnew_any w)
    unfold ptr at HNW
    clear hs hO hr
    go_enter Tryz.func25, Tryz.ntmps25
    go_wp2_with fail
    refine HNW.out.mono ?_
    rintro e w1 ⟨g, rfl, t1, -, hb1⟩
    have HT1 := Lib.hid t1
    have HB1 := Lib.hid hb1
    clear t1 hb1
    go_wp2
    go_ret2
    exact ⟨_, 0, rfl, HB1.out, Or.inl ⟨rfl, g, [], .nil, rfl, HT1.out, TrS.empty, rfl, trivial⟩⟩
  have q1 : (root == []) = false := by rw [beq_eq_false_iff_ne]; exact h0
  have q2 : root.isEmpty = false := by cases root <;> simp_all
  have hb0 : Below w.heap.size w (w.alloc (.cells #[.pointer (some ⟨gs, 0, none⟩), .int .i64 0] 92)) := (Below.refl _ w).alloc (Nat.le_refl _) _
  have hld : LdAt (w.alloc (.cells #[.pointer (some ⟨gs, 0, none⟩), .int .i64 0] 92)) w.heap.size gs 0 := heap_alloc_new w _
  have HPA := Lib.hid (part_any hO 17 root [] false 0 _ (by simp) (by simp) hr (by omega) hld (hs.below hb0))
  have HB0 := Lib.hid hb0
  have HR0 := Lib.hid h0
  clear hs hO hr h0 hb0 hld
  go_enter Tryz.func25, Tryz.ntmps25
  go_wp2_with fail
  refine HPA.out.mono ?_
  rintro e w1 ⟨z, c, n', rfl, hl1, ho1, hn1, hcase⟩
  have HB1 : Hid (Below w.heap.size w w1) := Lib.hid (HB0.out.trans (ho1.below (Nat.le_refl _) HB0.out.size))
  have hnum := hl1.num
  obtain ⟨zz, rfl⟩ := ptr_form hcase
  rcases hcase with ⟨rfl, t, ht, hpt, hnn⟩ | ⟨hc0, hz, hbad⟩
  · have HTS : Hid (TrS (keysT t) t) := Lib.hid (ht.trs (by omega))
    have HTL := Lib.hid ht
    have HNE : Hid (n' = (keysT t).length) := Lib.hid (by simp [keysT]; omega)
    have HPT := Lib.hid hpt
    clear hl1 ho1 hn1 ht hpt hnn
    go_wp2
    go_ret2
    have hbA : Below w1.heap.size w1 (w1.alloc (.cells #[.pointer zz, .int .i64 n'] 65)) := (Below.refl _ w1).alloc (Nat.le_refl _) _
    refine ⟨_, 0, rfl, bchain HB1.out hbA, Or.inl ⟨rfl, w1.heap.size, keysT t, t, rfl, ⟨.pointer zz, t, ?_, ?_, HTS.out⟩, HTS.out, HTL.out.sum, HTL.out.inn⟩⟩
    · rw [← HNE.out]; exact heap_alloc_new w1 _
    · exact (HPT.out.imp (fun _ _ _ _ _ => Nat.zero_le _)).below hbA
  · have c1 : (c == 0) = false := by rw [beq_eq_false_iff_ne]; exact hc0
    have c2 : (c != 0) = true := by rw [bne_iff_ne]; exact hc0
    have HC0 := Lib.hid hc0
    have HBAD := Lib.hid hbad
    clear hl1 ho1 hn1 hc0 hz hbad
    go_wp2
    go_ret2
    refine ⟨nilp, c, rfl, HB1.out, Or.inr ⟨HC0.out, rfl, fun S t hts hin hsu => ?_⟩⟩
    have hn : ¬ t.isNil := fun h => HR0.out (by rw [← hsu, Tri.nil_of_isNil h]; rfl)
    have h1 := hts.loaded hin hn
    rw [hsu] at h1
    have h2 := HBAD.out t h1
    have h3 := hts.few
    rw [hts.tree.2.2] at h2
    simp [Tri.paths] at h2
    omega
end Go.Proofs.YtbkanebkobjnnaaGreatDoor
namespace Go.Proofs.YtbkanebkobjnnaaGreatDoor
open Go.RowKit
open Sto (T St)
open Tri (Tr Ok upd ix hb lay splitT Trim rank)
open Go.Proofs.YtbkanebkobjnnaaGreatDoor.Nd (N)

/-- What with of a trie answers. -/
def TWithPost (S : St) (k v : T) (F : Fm) (w : World) (e : Ending) (w' : World) : Prop :=
  ∃ z, e = .returned (.tuple #[z, .int .i64 (Tri.putC S k v)]) ∧ (Tri.putC S k v = 0 → ∃ g', z = ptr g' ∧ w.heap.size ≤ g' ∧ OpenAt w' F g' (Tri.put S k v)) ∧ (Tri.putC S k v ≠ 0 → z = nilp) ∧ Below w.heap.size w w'
theorem TWithPost.bad {S : St} {k v : T} {F : Fm} {w w' : World} {c : Nat} (h : Tri.putC S k v = c) (hc : c ≠ 0) (hb : Below w.heap.size w w') : TWithPost S k v F w (.returned (.tuple #[.pointer none, .int .i64 c])) w' := by
  subst h
  exact ⟨_, rfl, fun e => absurd e hc, fun _ => rfl, hb⟩
theorem TWithPost.good {S : St} {k v : T} {F : Fm} {w w' : World} {g' n : Nat} {top : Value} {t : Tr} (h : Tri.putC S k v = 0) (hg : w.heap.size ≤ g') (hr : TRow w' g' top n) (hn : n = (Tri.put S k v).length) (hp : PAt w' F false t top) (hs : TrS (Tri.put S k v) t) (hb : Below w.heap.size w w') : TWithPost S k v F w (.returned (.tuple #[.pointer (some ⟨g', 0, none⟩), .int .i64 0])) w' := by
  subst hn
  exact ⟨_, by rw [h]; rfl, fun _ => ⟨g', rfl, hg, top, t, hr, hp, hs⟩, fun e => absurd h e, hb⟩
set_option maxRecDepth 100000 in
set_option maxHeartbeats 1000000 in
theorem twith_good {g : Nat} {S : St} (k v : T) (w : World) (F : Fm) (hF : F.fresh w) (h : OpenAt w F g S) (hc : Tri.putC S k v = 0) :
    Calls Tryz.prog 30 #[ptr g, .string ⟨k.toArray⟩, .string ⟨v.toArray⟩] w (TWithPost S k v F w) := by
  obtain ⟨top, t, h1, h2, h3⟩ := h
  have hc0 := hc
  unfold Tri.putC at hc
  split at hc
  · rename_i hkk
    split at hc
    · rename_i hv
      obtain ⟨v1, v2, v3⟩ := hv
      have hkk2 : 1 ≤ k.length ∧ k.length ≤ 8 := by simpa [Tri.keyed] using hkk
      have HK := Lib.hid (fun w => iskey_any k w)
      rw [hkk] at HK
      have HOF := Lib.hid (fun w => of_any k w (by omega))
      have HFI : Hid (∀ w', Below w.heap.size w w' → Calls Tryz.prog 53 #[top, .string ⟨(Nib.ofL k).toArray⟩] w' fun e w'' => e = .returned (.string ⟨((Sto.look S k).getD []).toArray⟩) ∧ Below w'.heap.size w' w'') := Lib.hid (fun w' hb => by
        have := find_any (Nib.ofL k) w' (h2.below hb) h3.trim.firm (Tri.ofL_fit k) (by rw [Nib.ofL_length]; omega)
        rw [h3.find] at this
        exact this)
      have HCL := Lib.hid (fun w => dclone_any v w (by omega))
      have HWI : Hid (∀ w', Below w.heap.size w w' → Calls Tryz.prog 54 #[top, .string ⟨(Nib.ofL k).toArray⟩, .string ⟨v.toArray⟩] w' fun e w'' => ∃ g9, e = .returned (.pointer (some ⟨g9, 0, none⟩)) ∧ PAt w'' F false (t.put (Nib.ofL k) v) (.pointer (some ⟨g9, 0, none⟩)) ∧ Below w'.heap.size w' w'') := Lib.hid (fun w' hb =>
        (with_any (Nib.ofL k) v w' F (hF.size hb.size) (h2.below hb) h3.trim (Tri.ofL_fit k) (by rw [Nib.ofL_length]; omega)).mono fun e w'' ⟨v9, e1, hp, hb9⟩ => by
          obtain ⟨g9, rfl⟩ := hp.ptr (Tri.put_nn _ _ _)
          exact ⟨g9, e1, hp, hb9⟩)
      have HTS := Lib.hid (h3.put hc0)
      have HCC := Lib.hid hc0
      have HPN := Lib.hid (Tri.put_len S k v)
      have HAL := Lib.hid (Tri.at_look h3.rise k)
      have HT : Hid (∀ w', Below w.heap.size w w' → w'.cell? ⟨g, 0, none⟩ = some top ∧ w'.cell? ⟨g, 1, none⟩ = some (.int .i64 S.length)) := Lib.hid (fun w' hb => ⟨(h1.below hb).top, (h1.below hb).num⟩)
      obtain ⟨P, hP⟩ : ∃ P, Nib.ofL k = P := ⟨_, rfl⟩
      rw [hP] at HOF HFI HWI HTS
      have hve : (v == []) = false := by rw [beq_eq_false_iff_ne]; intro e; subst e; simp at v1
      have hvl : ¬ ((v.length : Int) > 32) := by omega
      have hvl2 : decide ((32 : Int) < (v.length : Int)) = false := decide_eq_false (by omega)
      have hvl3 : decide (32 < v.length) = false := decide_eq_false (by omega)
      unfold ptr
      have BD : Below w.heap.size w w.drew := (Below.refl _ _).drew
      obtain ⟨c0, c1⟩ := HT.out _ BD
      have hfew := h3.few
      have hlen : ∀ (n : Nat), n = (Tri.put S k v).length → n ≤ 1024 := fun n hn => by rw [hn]; exact HTS.out.few
      cases hl : Sto.look S k with
      | some y =>
        have hye : (y == []) = false := by rw [beq_eq_false_iff_ne]; exact h3.look_ne hl
        have hpl : S.length = (Tri.put S k v).length := by
          rw [HPN.out, if_pos (by rw [HAL.out, hl]; rfl)]; omega
        have HPL := Lib.hid hpl
        have hgt : ¬ ((S.length : Int) > 1024) := by omega
        have hgt2 : ¬ ((1024 : Int) < (S.length : Int)) := by omega
        rw [hl, Option.getD_some] at HFI
        clear h1 h2 h3 hkk hP hkk2 v1 v2 v3 hc hc0 HPN HAL hl hfew hlen hpl
        go_enter Tryz.func30, Tryz.ntmps30
        go_wp2_with fail
        refine (HK.out _).mono ?_
        rintro e w1 ⟨rfl, rfl⟩
        go_upto_region 5 with fail
        go_region_held3 (fun w' => w'.cell? ⟨g, 1, none⟩ = some (.int .i64 S.length))
          ((first | (with_reducible assumption) | (refine (HT.out _ ?_).2; with_reducible assumption)))
          ((go_at_call 37; refine (HOF.out _).mono ?_; rintro e w6 ⟨rfl, hb6⟩; have hb6' := bchain BD hb6))
        all_goals
          obtain ⟨d0, d1⟩ := HT.out _ hb6'
          go_wp2_with fail
          refine (HFI.out _ hb6').mono ?_
          rintro e w7 ⟨rfl, hb7⟩
          have hb7' := bchain hb6' hb7
          have BD7 : Below w.heap.size w w7.drew := hb7'.drew
          go_upto_region 10 with fail
          obtain ⟨e0, e1⟩ := HT.out _ BD7
          clear c0 c1 d0 d1
          go_region_held3 (fun w' => w'.cell? ⟨g, 0, none⟩ = some top)
            ((first | (with_reducible assumption) | (refine (HT.out _ ?_).1; with_reducible assumption) | (refine (HT.out _ ?_).1; refine Below.alloc ?_ ?_ _; (with_reducible assumption); (with_reducible exact hs9))))
            (first | (go_at_call 43; refine (HCL.out _).mono ?_; rintro e w8 ⟨rfl, hb8⟩; have hb8' := bchain BD7 hb8) | (go_at_call 54; refine (HWI.out _ ?_).mono ?_; (with_reducible exact hb8'); rintro e w9 ⟨g9, rfl, hp9, hb9⟩; have hb9' := bchain hb8' hb9; have hs9 := hb9'.size))
          all_goals
            go_wp2
            go_ret2
            have hba := hb9'.alloc hs9 (.cells #[.pointer (some ⟨g9, 0, none⟩), .int .i64 S.length] 65)
            exact TWithPost.good HCC.out hs9 (heap_alloc_new w9 _) HPL.out (hp9.below ((Below.refl _ w9).alloc (Nat.le_refl _) _)) HTS.out hba
      | none =>
        have hpl : S.length + 1 = (Tri.put S k v).length := by
          rw [HPN.out, if_neg (by rw [HAL.out, hl]; simp)]
        have z8 : IntKind.i64.wrap ((S.length : Int) + 1) = (S.length : Int) + 1 := IntWalk.i64_in _ (by omega)
        have hl1 := hlen _ hpl
        have HPL := Lib.hid hpl
        have hgt : ¬ ((S.length : Int) + 1 > 1024) := by omega
        have hgt2 : ¬ ((1024 : Int) < (S.length : Int) + 1) := by omega
        rw [hl, Option.getD_none] at HFI
        clear hl1 h1 h2 h3 hkk hP hkk2 v1 v2 v3 hc hc0 HPN HAL hl hfew hlen hpl
        go_enter Tryz.func30, Tryz.ntmps30
        go_wp2_with fail
        refine (HK.out _).mono ?_
        rintro e w1 ⟨rfl, rfl⟩
        go_upto_region 5 with fail
        go_region_held3 (fun w' => w'.cell? ⟨g, 1, none⟩ = some (.int .i64 S.length))
          ((first | (with_reducible assumption) | (refine (HT.out _ ?_).2; with_reducible assumption)))
          ((go_at_call 37; refine (HOF.out _).mono ?_; rintro e w6 ⟨rfl, hb6⟩; have hb6' := bchain BD hb6))
        all_goals
          obtain ⟨d0, d1⟩ := HT.out _ hb6'
          go_wp2_with fail
          refine (HFI.out _ hb6').mono ?_
          rintro e w7 ⟨rfl, hb7⟩
          have hb7' := bchain hb6' hb7
          have BD7 : Below w.heap.size w w7.drew := hb7'.drew
          go_upto_region 10 with fail
          obtain ⟨e0, e1⟩ := HT.out _ BD7
          clear c0 c1 d0 d1
          go_region_held3 (fun w' => w'.cell? ⟨g, 0, none⟩ = some top)
            ((first | (with_reducible assumption) | (refine (HT.out _ ?_).1; with_reducible assumption) | (refine (HT.out _ ?_).1; refine Below.alloc ?_ ?_ _; (with_reducible assumption); (with_reducible exact hs9))))
            (first | (go_at_call 43; refine (HCL.out _).mono ?_; rintro e w8 ⟨rfl, hb8⟩; have hb8' := bchain BD7 hb8) | (go_at_call 54; refine (HWI.out _ ?_).mono ?_; (with_reducible exact hb8'); rintro e w9 ⟨g9, rfl, hp9, hb9⟩; have hb9' := bchain hb8' hb9; have hs9 := hb9'.size))
          all_goals
            go_wp2
            go_ret2
            have hba := hb9'.alloc hs9 (.cells #[.pointer (some ⟨g9, 0, none⟩), .int .i64 ((S.length + 1 : Nat) : Int)] 65)
            exact TWithPost.good HCC.out hs9 (heap_alloc_new w9 _) HPL.out (hp9.below ((Below.refl _ w9).alloc (Nat.le_refl _) _)) HTS.out hba
    · cases hc
  · cases hc
set_option maxRecDepth 100000 in
set_option maxHeartbeats 1000000 in
theorem twith_any {g : Nat} {S : St} (k v : T) (w : World) (F : Fm) (hF : F.fresh w) (h : OpenAt w F g S) :
    Calls Tryz.prog 30 #[ptr g, .string ⟨k.toArray⟩, .string ⟨v.toArray⟩] w (TWithPost S k v F w) := by
  have HK := Lib.hid (fun w => iskey_any k w)
  cases hk : Tri.keyed k with
  | false =>
    rw [hk] at HK
    have HC := Lib.hid (Tri.putC_no (S := S) (y := v) hk)
    unfold ptr
    clear h hk
    go_enter Tryz.func30, Tryz.ntmps30
    go_wp2_with fail
    refine (HK.out _).mono ?_
    rintro e w1 ⟨rfl, rfl⟩
    go_wp2
    go_ret2
    exact TWithPost.bad HC.out (by decide) (Below.refl _ _)
  | true =>
    rw [hk] at HK
    by_cases hok : 1 ≤ v.length ∧ v.length ≤ 32 ∧ (Tri.at_ S k = true ∨ S.length < 1024)
    · exact twith_good k v w F hF h (Tri.putC_ok hk hok)
    · have HC := Lib.hid (Tri.putC_bad (S := S) (y := v) hk hok)
      by_cases hv0 : v = []
      · subst hv0
        unfold ptr
        clear h hk hok
        go_enter Tryz.func30, Tryz.ntmps30
        go_wp2_with fail
        refine (HK.out _).mono ?_
        rintro e w1 ⟨rfl, rfl⟩
        go_wp2
        go_ret2
        exact TWithPost.bad HC.out (by decide) (Below.refl _ _)
      · have hve : (v == []) = false := by rw [beq_eq_false_iff_ne]; exact hv0
        have hv1 : 1 ≤ v.length := List.length_pos_iff.2 hv0
        by_cases hv2 : v.length ≤ 32
        · obtain ⟨top, t, h1, h2, h3⟩ := h
          have hno : ¬ (Tri.at_ S k = true ∨ S.length < 1024) := fun e => hok ⟨hv1, hv2, e⟩
          have hl : Sto.look S k = none := by
            have := Tri.at_look h3.rise k
            cases hl : Sto.look S k with
            | none => rfl
            | some y => exact absurd (Or.inl (by rw [this, hl]; rfl)) hno
          have hfew : S.length = 1024 := by
            have := h3.few
            have : ¬ S.length < 1024 := fun e => hno (Or.inr e)
            omega
          have hx8 : k.length ≤ 8 := by simp [Tri.keyed] at hk; omega
          have HOF := Lib.hid (fun w => of_any k w (by omega))
          have HFI : Hid (∀ w', Below w.heap.size w w' → Calls Tryz.prog 53 #[top, .string ⟨(Nib.ofL k).toArray⟩] w' fun e w'' => e = .returned (.string ⟨#[]⟩) ∧ Below w'.heap.size w' w'') := Lib.hid (fun w' hb => by
            have := find_any (Nib.ofL k) w' (h2.below hb) h3.trim.firm (Tri.ofL_fit k) (by rw [Nib.ofL_length]; omega)
            rw [h3.find, hl] at this
            exact this)
          have HT : Hid (∀ w', Below w.heap.size w w' → w'.cell? ⟨g, 0, none⟩ = some top ∧ w'.cell? ⟨g, 1, none⟩ = some (.int .i64 1024)) := Lib.hid (fun w' hb => ⟨(h1.below hb).top, by have := (h1.below hb).num; rw [hfew] at this; exact this⟩)
          obtain ⟨P, hP⟩ : ∃ P, Nib.ofL k = P := ⟨_, rfl⟩
          rw [hP] at HOF HFI
          have BD : Below w.heap.size w w.drew := (Below.refl _ _).drew
          obtain ⟨c0, c1⟩ := HT.out _ BD
          have hvl2 : decide ((32 : Int) < (v.length : Int)) = false := decide_eq_false (by omega)
          have hvl3 : decide (32 < v.length) = false := decide_eq_false (by omega)
          have hvl : ¬ ((v.length : Int) > 32) := by omega
          unfold ptr
          clear h1 h2 h3 hk hP hl hno hok hfew hv0 hv1 hv2 hx8
          go_enter Tryz.func30, Tryz.ntmps30
          go_wp2_with fail
          refine (HK.out _).mono ?_
          rintro e w1 ⟨rfl, rfl⟩
          go_upto_region 5 with fail
          go_region_held3 (fun w' => w'.cell? ⟨g, 1, none⟩ = some (.int .i64 1024))
            ((first | (with_reducible assumption) | (refine (HT.out _ ?_).2; with_reducible assumption)))
            ((go_at_call 37; refine (HOF.out _).mono ?_; rintro e w6 ⟨rfl, hb6⟩; have hb6' := bchain BD hb6))
          all_goals
            obtain ⟨d0, d1⟩ := HT.out _ hb6'
            go_wp2_with fail
            refine (HFI.out _ hb6').mono ?_
            rintro e w7 ⟨rfl, hb7⟩
            have hb7' := bchain hb6' hb7
            go_wp2
            go_ret2
            exact TWithPost.bad HC.out (by decide) hb7'
        · have hvl : (v.length : Int) > 32 := by omega
          have hvl2 : decide ((32 : Int) < (v.length : Int)) = true := decide_eq_true (by omega)
          have hvl3 : decide (32 < v.length) = true := decide_eq_true (by omega)
          unfold ptr
          clear h hk hok hv0 hv1 hv2
          go_enter Tryz.func30, Tryz.ntmps30
          go_wp2_with fail
          refine (HK.out _).mono ?_
          rintro e w1 ⟨rfl, rfl⟩
          go_wp2
          go_ret2
          exact TWithPost.bad HC.out (by decide) (Below.refl _ _)
def TPutPost (S : St) (k v : T) (w : World) (e : Ending) (w' : World) : Prop :=
  ∃ z, e = .returned (.tuple #[z, .int .i64 (Tri.putC S k v)]) ∧ (Tri.putC S k v = 0 → ∃ g', z = ptr g' ∧ TrAt w' g' (Tri.put S k v)) ∧ (Tri.putC S k v ≠ 0 → z = nilp) ∧ Below w.heap.size w w'
theorem TPutPost.bad {S : St} {k v : T} {w w' : World} {c : Nat} (h : Tri.putC S k v = c) (hc : c ≠ 0) (hb : Below w.heap.size w w') : TPutPost S k v w (.returned (.tuple #[.pointer none, .int .i64 c])) w' := by
  subst h
  exact ⟨_, rfl, fun e => absurd e hc, fun _ => rfl, hb⟩
theorem TPutPost.good {S : St} {k v : T} {w w' : World} {g' : Nat} (h : Tri.putC S k v = 0) (ht : TrAt w' g' (Tri.put S k v)) (hb : Below w.heap.size w w') : TPutPost S k v w (.returned (.tuple #[.pointer (some ⟨g', 0, none⟩), .int .i64 0])) w' :=
  ⟨_, by rw [h]; rfl, fun _ => ⟨g', rfl, ht⟩, fun e => absurd h e, hb⟩
set_option maxRecDepth 100000 in
set_option maxHeartbeats 1000000 in
theorem tput_any {g : Nat} {S : St} (k v : T) (w : World) (h : TrAt w g S) (hT : Tab w) :
    Calls Tryz.prog 47 #[ptr g, .string ⟨k.toArray⟩, .string ⟨v.toArray⟩] w (TPutPost S k v w) := by
  have HW := Lib.hid (twith_any k v w (Fm.from w.heap.size) (fun g hg _ => hg) (h.open w.heap.size))
  have HT := Lib.hid hT
  unfold TWithPost ptr at HW
  unfold ptr
  obtain ⟨c, hc⟩ : ∃ c, Tri.putC S k v = c := ⟨_, rfl⟩
  rw [hc] at HW
  have HCC := Lib.hid hc
  clear h hT hc
  go_enter Tryz.func47, Tryz.ntmps47
  go_wp2_with fail
  refine HW.out.mono ?_
  rintro e w1 ⟨z, rfl, hz1, hz0, hb1⟩
  have HB1 := Lib.hid hb1
  by_cases hc0 : c = 0
  · obtain ⟨g', rfl, hg', top, t, hr, hp, hs⟩ := hz1 hc0
    subst hc0
    have HSE := Lib.hid (seal_to t top w1 w.heap.size HT.out.pos hb1.size (HT.out.below hb1) hs.ok hp)
    have HR := Lib.hid hr
    have HS := Lib.hid hs
    have m0 := hr.top
    clear hz1 hz0 hb1 hr hp hs hg'
    go_wp2_with fail
    refine HSE.out.mono ?_
    rintro e w2 ⟨rfl, hp2, hk2, hb2⟩
    have HP2 := Lib.hid hp2
    have HR2 : Hid (TRow w2 g' top (Tri.put S k v).length) := Lib.hid (hk2.2.2 _ _ _ _ (by decide) HR.out)
    have HB2 := Lib.hid (HB1.out.trans hb2)
    clear hp2 hk2 hb2
    go_wp2
    go_ret2
    exact TPutPost.good HCC.out ⟨top, t, HR2.out, HP2.out.sealed (fun _ _ e => by cases e) true, HS.out⟩ HB2.out
  · have e0 : ((c : Int) == 0) = false := by rw [beq_eq_false_iff_ne]; omega
    have e1 : z = .pointer none := hz0 hc0
    subst e1
    have HC := Lib.hid hc0
    clear hz1 hz0 hb1 hc0
    go_wp2
    go_ret2
    exact TPutPost.bad HCC.out HC.out HB1.out
end Go.Proofs.YtbkanebkobjnnaaGreatDoor
namespace Go.Proofs.YtbkanebkobjnnaaGreatDoor
open Go.RowKit
open Sto (T St)
open Tri (Tr Ok upd ix hb lay splitT Trim rank)
open Go.Proofs.YtbkanebkobjnnaaGreatDoor.Nd (N)

def TDelPost (S : St) (k : T) (w : World) (e : Ending) (w' : World) : Prop :=
  ∃ z, e = .returned (.tuple #[z, .int .i64 (Tri.getC S k).2]) ∧ ((Tri.getC S k).2 = 0 → ∃ g', z = ptr g' ∧ TrAt w' g' (Tri.del S k)) ∧ ((Tri.getC S k).2 ≠ 0 → z = nilp) ∧ Below w.heap.size w w'
theorem TDelPost.bad {S : St} {k : T} {w w' : World} (hc : (Tri.getC S k).2 ≠ 0) (hb : Below w.heap.size w w') : TDelPost S k w (.returned (.tuple #[.pointer none, .int .i64 (Tri.getC S k).2])) w' := ⟨_, rfl, fun e => absurd e hc, fun _ => rfl, hb⟩
theorem TDelPost.good {S : St} {k : T} {w w' : World} {g' : Nat} (h : (Tri.getC S k).2 = 0) (ht : TrAt w' g' (Tri.del S k)) (hb : Below w.heap.size w w') : TDelPost S k w (.returned (.tuple #[.pointer (some ⟨g', 0, none⟩), .int .i64 0])) w' :=
  ⟨_, by rw [h]; rfl, fun _ => ⟨g', rfl, ht⟩, fun e => absurd h e, hb⟩
theorem getC_zero {S : St} {k : T} (h : (Tri.getC S k).2 = 0) : Tri.keyed k = true ∧ Sto.look S k ≠ none := by
  unfold Tri.getC at h
  split at h
  · rename_i hk
    split at h
    · rename_i y hy; exact ⟨hk, by rw [hy]; simp⟩
    · cases h
  · cases h
set_option maxRecDepth 100000 in
theorem tdel_bad {g : Nat} {S : St} (k : T) (w : World) (h : TrAt w g S) (hc : (Tri.getC S k).2 ≠ 0) :
    Calls Tryz.prog 48 #[ptr g, .string ⟨k.toArray⟩] w (TDelPost S k w) := by
  have HG := Lib.hid (tget_any k w h)
  have HC := Lib.hid hc
  obtain ⟨x, c, hx⟩ : ∃ x c, Tri.getC S k = (x, c) := ⟨_, _, rfl⟩
  have HX := Lib.hid hx
  rw [hx] at hc HG
  have e0 : ((c : Int) == 0) = false := by rw [beq_eq_false_iff_ne]; simp only at hc; omega
  unfold ptr at HG ⊢
  clear h hc hx
  go_enter Tryz.func48, Tryz.ntmps48
  go_wp2_with fail
  refine HG.out.mono ?_
  rintro e w1 ⟨rfl, hb1⟩
  go_wp2
  go_ret2
  have := TDelPost.bad HC.out hb1
  rw [HX.out] at this
  exact this
set_option maxRecDepth 100000 in
set_option maxHeartbeats 2000000 in
theorem tdel_some {g : Nat} {S : St} (k : T) (w : World) (h : TrAt w g S) (hT : Tab w) (hc : (Tri.getC S k).2 = 0) (hnl : ∀ t, TrS S t → ¬ (t.del (Nib.ofL k)).isNil) :
    Calls Tryz.prog 48 #[ptr g, .string ⟨k.toArray⟩] w (TDelPost S k w) := by
  have HG := Lib.hid (tget_any k w h)
  obtain ⟨top, t, h1, h2, h3⟩ := h
  have hnt := hnl t h3
  obtain ⟨hkk, hlk⟩ := getC_zero hc
  have hx8 : k.length ≤ 8 := by simp [Tri.keyed] at hkk; omega
  have HOF := Lib.hid (fun w => of_any k w (by omega))
  have hgt : t.get (Nib.ofL k) ≠ none := by rw [h3.tree.get h3.rise]; exact hlk
  have HWI : Hid (∀ w', Below w.heap.size w w' → Calls Tryz.prog 71 #[top, .string ⟨(Nib.ofL k).toArray⟩] w' fun e w'' => ∃ g9, e = .returned (.pointer (some ⟨g9, 0, none⟩)) ∧ PAt w'' (Fm.from w.heap.size) false (t.del (Nib.ofL k)) (.pointer (some ⟨g9, 0, none⟩)) ∧ Below w'.heap.size w' w'') := Lib.hid (fun w' hb =>
    (without_to t top (Nib.ofL k) w' (Fm.from w.heap.size) (fun g hg _ => Nat.le_trans hb.size hg) ((h2.sealed (fun _ _ e => by cases e) false).below hb) h3.tree.1 h3.tree.2.1 h3.within (Tri.ofL_fit k) (by rw [Nib.ofL_length]; omega) hgt).mono fun e w'' ⟨v9, e1, hp, hb9⟩ => by
      obtain ⟨g9, rfl⟩ := hp.ptr hnt
      exact ⟨g9, e1, hp, hb9⟩)
  have HTS := Lib.hid (h3.del hlk)
  have hat : Tri.at_ S k = true := by rw [Tri.at_look h3.rise]; cases hl : Sto.look S k with | none => exact absurd hl hlk | some v => rfl
  have hdl := Tri.del_len h3.rise k hat
  obtain ⟨n, hn⟩ : ∃ n, (Tri.del S k).length = n := ⟨_, rfl⟩
  rw [hn] at hdl
  have hfew := h3.few
  have HT : Hid (∀ w', Below w.heap.size w w' → w'.cell? ⟨g, 0, none⟩ = some top ∧ w'.cell? ⟨g, 1, none⟩ = some (.int .i64 ((n : Int) + 1))) := Lib.hid (fun w' hb => ⟨(h1.below hb).top, by have := (h1.below hb).num; rw [← hdl] at this; exact this⟩)
  have z8 : IntKind.i64.wrap ((n : Int) + 1 - 1) = (n : Int) := (IntWalk.i64_in ((n : Int) + 1 - 1) (by omega)).trans (by omega)
  have z9 : IntKind.i64.wrap ((n : Int)) = (n : Int) := IntWalk.i64_in _ (by omega)
  obtain ⟨P, hP⟩ : ∃ P, Nib.ofL k = P := ⟨_, rfl⟩
  rw [hP] at HOF HWI HTS
  have HTB := Lib.hid hT
  have HN := Lib.hid hn
  have HCC := Lib.hid hc
  obtain ⟨x, hx⟩ : ∃ x, Tri.getC S k = (x, 0) := ⟨(Tri.getC S k).1, by rw [← hc]⟩
  rw [hx] at HG
  unfold ptr at HG ⊢
  have hqq : w.heap.size ≤ w.heap.size := Nat.le_refl _
  clear h1 h2 h3 hkk hlk hx8 hP hgt hat hdl hfew hT hn hx hc hnl hnt hqq
  go_enter Tryz.func48, Tryz.ntmps48
  go_wp2_with fail
  refine HG.out.mono ?_
  rintro e w1 ⟨rfl, hb1⟩
  have HB1 := Lib.hid hb1
  go_upto_region 4 with fail
  have BD : Below w.heap.size w w1.drew := HB1.out.drew
  obtain ⟨c0, c1⟩ := HT.out _ BD
  clear hb1
  go_region_held3 (fun w' => w'.cell? ⟨g, 0, none⟩ = some top ∧ w'.cell? ⟨g, 1, none⟩ = some (.int .i64 ((n : Int) + 1)))
    ((first | (with_reducible exact ⟨c0, c1⟩) | (refine HT.out _ ?_; with_reducible assumption) | (refine HT.out _ ?_; refine Below.alloc ?_ ?_ _; (with_reducible assumption); (with_reducible exact hs9))))
    (first | (go_at_call 37; refine (HOF.out _).mono ?_; rintro e w6 ⟨rfl, hb6⟩; have hb6' := bchain BD hb6) | (go_at_call 71; refine (HWI.out _ ?_).mono ?_; (with_reducible exact hb6'); rintro e w9 ⟨g9, rfl, hp9, hb9⟩; have hb9' := bchain hb6' hb9; have hs9 := hb9'.size))
  all_goals
    have hba := hb9'.alloc hs9 (.cells #[(.pointer (some ⟨g9, 0, none⟩)), .int .i64 n] 65)
    have hr : TRow (w9.alloc (.cells #[(.pointer (some ⟨g9, 0, none⟩)), .int .i64 n] 65)) w9.heap.size (.pointer (some ⟨g9, 0, none⟩)) n := heap_alloc_new w9 _
    have hp := hp9.below ((Below.refl _ w9).alloc (Nat.le_refl _) (.cells #[(.pointer (some ⟨g9, 0, none⟩)), .int .i64 n] 65))
    have HSE := Lib.hid (seal_to _ _ _ w.heap.size HTB.out.pos hba.size (HTB.out.below hba) HTS.out.ok hp)
    have HR := Lib.hid hr
    have HBA := Lib.hid hba
    have m0 := hr.top
    clear hr hp hba
    go_wp2_with fail
    refine HSE.out.mono ?_
    rintro e w2 ⟨rfl, hp2, hk2, hb2⟩
    have HP2 := Lib.hid hp2
    have HR2 : Hid (TRow w2 w9.heap.size (.pointer (some ⟨g9, 0, none⟩)) (Tri.del S k).length) := Lib.hid (by rw [HN.out]; exact hk2.2.2 _ _ _ _ (by decide) HR.out)
    have HB2 := Lib.hid (HBA.out.trans hb2)
    clear hp2 hk2 hb2
    go_wp2
    go_ret2
    exact TDelPost.good HCC.out ⟨_, _, HR2.out, HP2.out.sealed (fun _ _ e => by cases e) true, HTS.out⟩ HB2.out
set_option maxRecDepth 100000 in
set_option maxHeartbeats 2000000 in
theorem tdel_none {g : Nat} {S : St} (k : T) (w : World) (h : TrAt w g S) (hT : Tab w) (hc : (Tri.getC S k).2 = 0) (hnl : ∀ t, TrS S t → (t.del (Nib.ofL k)).isNil) :
    Calls Tryz.prog 48 #[ptr g, .string ⟨k.toArray⟩] w (TDelPost S k w) := by
  have HG := Lib.hid (tget_any k w h)
  obtain ⟨top, t, h1, h2, h3⟩ := h
  have hnt := hnl t h3
  obtain ⟨hkk, hlk⟩ := getC_zero hc
  have hx8 : k.length ≤ 8 := by simp [Tri.keyed] at hkk; omega
  have HOF := Lib.hid (fun w => of_any k w (by omega))
  have hgt : t.get (Nib.ofL k) ≠ none := by rw [h3.tree.get h3.rise]; exact hlk
  have HWI : Hid (∀ w', Below w.heap.size w w' → Calls Tryz.prog 71 #[top, .string ⟨(Nib.ofL k).toArray⟩] w' fun e w'' => e = .returned (.pointer none) ∧ PAt w'' (Fm.from w.heap.size) false (t.del (Nib.ofL k)) (.pointer none) ∧ Below w'.heap.size w' w'') := Lib.hid (fun w' hb =>
    (without_to t top (Nib.ofL k) w' (Fm.from w.heap.size) (fun g hg _ => Nat.le_trans hb.size hg) ((h2.sealed (fun _ _ e => by cases e) false).below hb) h3.tree.1 h3.tree.2.1 h3.within (Tri.ofL_fit k) (by rw [Nib.ofL_length]; omega) hgt).mono fun e w'' ⟨v9, e1, hp, hb9⟩ => by
      have hv9 : v9 = .pointer none := by rw [Tri.isNil_eq hnt] at hp; exact hp
      subst hv9
      exact ⟨e1, hp, hb9⟩)
  have HTS := Lib.hid (h3.del hlk)
  have hat : Tri.at_ S k = true := by rw [Tri.at_look h3.rise]; cases hl : Sto.look S k with | none => exact absurd hl hlk | some v => rfl
  have hdl := Tri.del_len h3.rise k hat
  obtain ⟨n, hn⟩ : ∃ n, (Tri.del S k).length = n := ⟨_, rfl⟩
  rw [hn] at hdl
  have hfew := h3.few
  have HT : Hid (∀ w', Below w.heap.size w w' → w'.cell? ⟨g, 0, none⟩ = some top ∧ w'.cell? ⟨g, 1, none⟩ = some (.int .i64 ((n : Int) + 1))) := Lib.hid (fun w' hb => ⟨(h1.below hb).top, by have := (h1.below hb).num; rw [← hdl] at this; exact this⟩)
  have z8 : IntKind.i64.wrap ((n : Int) + 1 - 1) = (n : Int) := (IntWalk.i64_in ((n : Int) + 1 - 1) (by omega)).trans (by omega)
  have z9 : IntKind.i64.wrap ((n : Int)) = (n : Int) := IntWalk.i64_in _ (by omega)
  obtain ⟨P, hP⟩ : ∃ P, Nib.ofL k = P := ⟨_, rfl⟩
  rw [hP] at HOF HWI HTS
  have HTB := Lib.hid hT
  have HN := Lib.hid hn
  have HCC := Lib.hid hc
  obtain ⟨x, hx⟩ : ∃ x, Tri.getC S k = (x, 0) := ⟨(Tri.getC S k).1, by rw [← hc]⟩
  rw [hx] at HG
  unfold ptr at HG ⊢
  have hqq : w.heap.size ≤ w.heap.size := Nat.le_refl _
  clear h1 h2 h3 hkk hlk hx8 hP hgt hat hdl hfew hT hn hx hc hnl hnt hqq
  go_enter Tryz.func48, Tryz.ntmps48
  go_wp2_with fail
  refine HG.out.mono ?_
  rintro e w1 ⟨rfl, hb1⟩
  have HB1 := Lib.hid hb1
  go_upto_region 4 with fail
  have BD : Below w.heap.size w w1.drew := HB1.out.drew
  obtain ⟨c0, c1⟩ := HT.out _ BD
  clear hb1
  go_region_held3 (fun w' => w'.cell? ⟨g, 0, none⟩ = some top ∧ w'.cell? ⟨g, 1, none⟩ = some (.int .i64 ((n : Int) + 1)))
    ((first | (with_reducible exact ⟨c0, c1⟩) | (refine HT.out _ ?_; with_reducible assumption) | (refine HT.out _ ?_; refine Below.alloc ?_ ?_ _; (with_reducible assumption); (with_reducible exact hs9))))
    (first | (go_at_call 37; refine (HOF.out _).mono ?_; rintro e w6 ⟨rfl, hb6⟩; have hb6' := bchain BD hb6) | (go_at_call 71; refine (HWI.out _ ?_).mono ?_; (with_reducible exact hb6'); rintro e w9 ⟨rfl, hp9, hb9⟩; have hb9' := bchain hb6' hb9; have hs9 := hb9'.size))
  all_goals
    have hba := hb9'.alloc hs9 (.cells #[(.pointer none), .int .i64 n] 65)
    have hr : TRow (w9.alloc (.cells #[(.pointer none), .int .i64 n] 65)) w9.heap.size (.pointer none) n := heap_alloc_new w9 _
    have hp := hp9.below ((Below.refl _ w9).alloc (Nat.le_refl _) (.cells #[(.pointer none), .int .i64 n] 65))
    have HSE := Lib.hid (seal_to _ _ _ w.heap.size HTB.out.pos hba.size (HTB.out.below hba) HTS.out.ok hp)
    have HR := Lib.hid hr
    have HBA := Lib.hid hba
    have m0 := hr.top
    clear hr hp hba
    go_wp2_with fail
    refine HSE.out.mono ?_
    rintro e w2 ⟨rfl, hp2, hk2, hb2⟩
    have HP2 := Lib.hid hp2
    have HR2 : Hid (TRow w2 w9.heap.size (.pointer none) (Tri.del S k).length) := Lib.hid (by rw [HN.out]; exact hk2.2.2 _ _ _ _ (by decide) HR.out)
    have HB2 := Lib.hid (HBA.out.trans hb2)
    clear hp2 hk2 hb2
    go_wp2
    go_ret2
    exact TDelPost.good HCC.out ⟨_, _, HR2.out, HP2.out.sealed (fun _ _ e => by cases e) true, HTS.out⟩ HB2.out
theorem tdel_any {g : Nat} {S : St} (k : T) (w : World) (h : TrAt w g S) (hT : Tab w) :
    Calls Tryz.prog 48 #[ptr g, .string ⟨k.toArray⟩] w (TDelPost S k w) := by
  by_cases hc : (Tri.getC S k).2 = 0
  · have h0 := h
    obtain ⟨top, t, h1, h2, h3⟩ := h
    by_cases hn : (t.del (Nib.ofL k)).isNil
    · exact tdel_none k w h0 hT hc (fun u hu => by rw [hu.tree.one h3.tree]; exact hn)
    · exact tdel_some k w h0 hT hc (fun u hu => by rw [hu.tree.one h3.tree]; exact hn)
  · exact tdel_bad k w h hc
set_option maxRecDepth 100000 in
theorem troot_any {g n : Nat} {top : Value} {t : Tr} (w : World) (hr : TRow w g top n) (hp : PAt w (Fm.from 0) true t top) (ho : Ok t) :
    Calls Tryz.prog 18 #[ptr g] w fun e w' => e = .returned (.string ⟨(t.sum Nd.sumS).toArray⟩) ∧ Below w.heap.size w w' := by
  have m0 := hr.top
  by_cases hn : t.isNil
  · rw [Tri.isNil_eq hn] at hp ⊢
    have e : top = .pointer none := hp
    subst e
    unfold ptr
    clear hr hp
    go_enter Tryz.func18, Tryz.ntmps18
    go_wp2
    go_ret
    exact ⟨rfl, Below.refl _ _⟩
  · obtain ⟨g2, s', K, rfl, hs, -, h2, -⟩ := hp.row hn
    obtain rfl := hs rfl
    have m1 := h2.sum
    have HCL := Lib.hid (fun w => dclone_any (t.sum Nd.sumS) w (by rw [ho.sum_len hn]; omega))
    obtain ⟨X, hX⟩ : ∃ X, t.sum Nd.sumS = X := ⟨_, rfl⟩
    rw [if_pos rfl, hX] at m1
    rw [hX] at HCL ⊢
    unfold ptr at *
    clear hr h2 hX hn ho
    go_enter Tryz.func18, Tryz.ntmps18
    go_wp2_with fail
    refine (HCL.out _).mono ?_
    rintro e w1 ⟨rfl, hb⟩
    go_wp2
    go_ret
    exact ⟨rfl, hb⟩
end Go.Proofs.YtbkanebkobjnnaaGreatDoor
namespace Go.Proofs.YtbkanebkobjnnaaGreatDoor
open Go.RowKit
open Go.Proofs.YtbkanebkobjnnaaGreatDoor.Sto (St)

def Tri.ofR : St → St → St × Nat
  | S, [] => (S, 0)
  | S, a :: r => if Tri.putC S a.1 a.2 = 0 then Tri.ofR (Tri.put S a.1 a.2) r else ([], Tri.putC S a.1 a.2)
theorem Tri.ofR_step {S L : St} {k : Nat} (hk : k < L.length) (h : Tri.putC S L[k].1 L[k].2 = 0) : Tri.ofR S (L.drop k) = Tri.ofR (Tri.put S L[k].1 L[k].2) (L.drop (k + 1)) := by
  rw [List.drop_eq_getElem_cons hk, Tri.ofR, if_pos h]
theorem Tri.ofR_bad {S L : St} {k : Nat} (hk : k < L.length) (h : Tri.putC S L[k].1 L[k].2 ≠ 0) : Tri.ofR S (L.drop k) = ([], Tri.putC S L[k].1 L[k].2) := by
  rw [List.drop_eq_getElem_cons hk, Tri.ofR, if_neg h]
def RtOfPost (L : St) (w : World) (e : Ending) (w' : World) : Prop :=
  ∃ v', e = .returned (.tuple #[v', .int .i64 (Tri.ofR [] L).2]) ∧ ItAt w' v' (Tri.ofR [] L).1 ∧ Below w.heap.size w w'
theorem RtOfPost.of {L S : St} {c : Nat} {w w' : World} {v' : Value} (h : Tri.ofR [] L = (S, c)) (hv : ItAt w' v' S) (hb : Below w.heap.size w w') : RtOfPost L w (.returned (.tuple #[v', .int .i64 c])) w' :=
  ⟨v', by rw [h], by rw [h]; exact hv, hb⟩
end Go.Proofs.YtbkanebkobjnnaaGreatDoor
namespace Go.Proofs.YtbkanebkobjnnaaGreatDoor
open Go.RowKit
open Sto (T St)
open Tri (Tr Ok upd ix hb lay splitT Trim rank)
open Go.Proofs.YtbkanebkobjnnaaGreatDoor.Nd (N)

def TOfPost (L : St) (w : World) (e : Ending) (w' : World) : Prop :=
  ∃ z, e = .returned (.tuple #[z, .int .i64 (Tri.ofR [] L).2]) ∧ ((Tri.ofR [] L).2 = 0 → ∃ g', z = ptr g' ∧ TrAt w' g' (Tri.ofR [] L).1) ∧ ((Tri.ofR [] L).2 ≠ 0 → z = nilp) ∧ Below w.heap.size w w'
theorem TOfPost.bad {L S : St} {c : Nat} {w w' : World} (h : Tri.ofR [] L = (S, c)) (hc : c ≠ 0) (hb : Below w.heap.size w w') : TOfPost L w (.returned (.tuple #[.pointer none, .int .i64 c])) w' := ⟨nilp, by rw [h]; rfl, by rw [h]; exact fun e => absurd e hc, fun _ => rfl, hb⟩
theorem TOfPost.good {L S : St} {g' : Nat} {w w' : World} (h : Tri.ofR [] L = (S, 0)) (hT : TrAt w' g' S) (hb : Below w.heap.size w w') : TOfPost L w (.returned (.tuple #[.pointer (some ⟨g', 0, none⟩), .int .i64 0])) w' := ⟨_, by rw [h]; rfl, by rw [h]; exact fun _ => ⟨g', rfl, hT⟩, by rw [h]; exact fun e => absurd rfl e, hb⟩
set_option maxRecDepth 100000 in
set_option maxHeartbeats 2000000 in
theorem tof_any (L : St) (v : Value) (w : World) (hv : ItAt w v L) (hl : L.length ≤ 10000) (hT : Tab w) :
    Calls Tryz.prog 6 #[v] w (TOfPost L w) := by
  have HV := Lib.hid hv
  have HT := Lib.hid hT
  have HL := Lib.hid hl
  have HNW := Lib.hid (tnew_any w)
  unfold ptr at HNW
  obtain ⟨A, cap, rfl, -, -⟩ := hv.form
  clear hv hT
  go_enter Tryz.func6, Tryz.ntmps6
  go_wp2_with fail
  refine HNW.out.mono ?_
  rintro e w1 ⟨g0, rfl, ht0, -, hb1⟩
  have HB1 := Lib.hid hb1
  have H0 := Lib.hid (ht0.open w.heap.size)
  clear ht0 hb1
  go_wp2
  go_loopw [4, 12] (fun av iv wr => ∃ (k : Nat) (gk : Nat) (S : St), av = .pointer (some ⟨gk, 0, none⟩) ∧ k ≤ L.length ∧ iv = .int .i64 k ∧ OpenAt wr (Fm.from w.heap.size) gk S ∧ Tri.ofR [] L = Tri.ofR S (L.drop k) ∧ Below w.heap.size w wr) (fun _ i _ => L.length - (intOf i).toNat)
  case atStart => exact ⟨0, g0, [], rfl, Nat.zero_le _, rfl, H0.out, rfl, HB1.out⟩
  case round =>
    obtain ⟨k, gk, S, rfl, hk, rfl, hop, hof, hb⟩ := hrel
    have HB := Lib.hid hb
    have HOF := Lib.hid hof
    by_cases hlt : k < L.length
    · have h1 : (k : Int) < (L.length : Int) := by omega
      have h0 : (0 : Int) ≤ (k : Int) := by omega
      have hnb : (k : Int) ≤ 100000 := by omega
      have HVW := Lib.hid (HV.out.below hb)
      obtain ⟨b, o, rfl, n0, n1⟩ := ItAt.at HVW.out k hlt
      have HST := Lib.hid (Tri.ofR_step (S := S) hlt)
      have HSB := Lib.hid (Tri.ofR_bad (S := S) hlt)
      obtain ⟨x, hx⟩ : ∃ x, L[k].1 = x := ⟨_, rfl⟩
      obtain ⟨y, hy⟩ : ∃ y, L[k].2 = y := ⟨_, rfl⟩
      rw [hx, hy] at HST HSB
      rw [hx] at n0
      rw [hy] at n1
      have hba : Below wr.heap.size wr (wr.alloc (.cells #[.string ⟨x.toArray⟩, .string ⟨y.toArray⟩] 26)) := (Below.refl _ wr).alloc (Nat.le_refl _) _
      have HWI := Lib.hid (twith_any x y (wr.alloc (.cells #[.string ⟨x.toArray⟩, .string ⟨y.toArray⟩] 26)) (Fm.from w.heap.size) (fun g hg _ => Nat.le_trans hb.size (Nat.le_trans hba.size hg)) (hop.below hba))
      have HBA : Hid (∀ w', Below (wr.alloc (.cells #[.string ⟨x.toArray⟩, .string ⟨y.toArray⟩] 26)).heap.size (wr.alloc (.cells #[.string ⟨x.toArray⟩, .string ⟨y.toArray⟩] 26)) w' → Below w.heap.size w w') := Lib.hid (fun w' h => HB.out.trans ((bchain hba h).mono HB.out.size))
      unfold TWithPost ptr at HWI
      obtain ⟨c, hc⟩ : ∃ c, Tri.putC S x y = c := ⟨_, rfl⟩
      rw [hc] at HWI HST HSB
      clear hop hof hb hx hy hba hc
      go_wp2_with fail
      refine HWI.out.mono ?_
      rintro e w2 ⟨z, rfl, hz1, hz0, hb2⟩
      have HB2 := Lib.hid (HBA.out _ hb2)
      by_cases hc0 : c = 0
      · obtain ⟨g', rfl, -, hop2⟩ := hz1 hc0
        subst hc0
        replace HST := Lib.hid (HST.out rfl)
        have HOP := Lib.hid hop2
        clear hz1 hz0 hb2 hop2
        go_wp2
        exact ⟨⟨k + 1, g', Tri.put S x y, rfl, by omega, by go_num, HOP.out, by rw [HOF.out]; exact HST.out, HB2.out⟩, by simp [intOf]; omega⟩
      · have hc1 : ((c : Int) == 0) = false := by rw [beq_eq_false_iff_ne]; omega
        have e1 : z = .pointer none := hz0 hc0
        subst e1
        have HC := Lib.hid hc0
        clear hz1 hz0 hb2 hc0
        go_wp2
        go_ret2
        exact TOfPost.bad (HOF.out.trans (HSB.out HC.out)) HC.out HB2.out
    · obtain rfl : k = L.length := by omega
      have h1 : ¬ ((L.length : Int) < (L.length : Int)) := by omega
      have HEND : Hid (Tri.ofR [] L = (S, 0)) := Lib.hid (by rw [HOF.out, List.drop_length]; rfl)
      obtain ⟨top, t, hr, hp, hs⟩ := hop
      have HSE := Lib.hid (seal_to t top wr w.heap.size HT.out.pos hb.size (HT.out.mid hb HT.out.pos) hs.ok hp)
      have HR := Lib.hid hr
      have HS := Lib.hid hs
      have m0 := hr.top
      clear hof hb hr hp hs
      go_wp2_with fail
      refine HSE.out.mono ?_
      rintro e w2 ⟨rfl, hp2, hk2, hb2⟩
      have HTR : Hid (TrAt w2 gk S) := Lib.hid ⟨top, t, hk2.2.2 _ _ _ _ (by decide) HR.out, hp2.sealed (fun _ _ e => by cases e) true, HS.out⟩
      have HB2 := Lib.hid (HB.out.trans hb2)
      clear hp2 hk2 hb2
      go_wp2
      go_ret2
      exact TOfPost.good HEND.out HTR.out HB2.out
end Go.Proofs.YtbkanebkobjnnaaGreatDoor
namespace Go.Proofs.YtbkanebkobjnnaaGreatDoor
open Go.RowKit
open Sto (T)
open Tri (Tr Ok upd ix hb lay splitT Trim rank)
open Go.Proofs.YtbkanebkobjnnaaGreatDoor.Nd (N)

set_option maxRecDepth 100000 in
theorem nodes_wants (w : World) : Wants w 36 #[] (fun _ => true) where
  call := fun _ _ => rfl
  step := fun w' p _ _ _ => by
    show Calls Tryz.prog 36 #[.string ⟨p.toArray⟩] w' _
    go_enter Tryz.func36, Tryz.ntmps36
    go_wp2
    go_ret
    exact ⟨rfl, Below.refl _ _⟩
set_option maxRecDepth 100000 in
theorem nodes_any {g : Nat} {t : Tr} {top n : Value} (w : World) (hg : w.heap[g]? = some (.cells #[top, n] 65 (0, 0))) (hs : Sealed w t top) :
    Calls Tryz.prog 10 #[ptr g] w (TextsPost w (wantedT (fun _ => true) t)) := by
  have HT := Lib.hid (texts_any w hg hs (nodes_wants w) down_all)
  unfold TextsPost ptr at HT
  unfold TextsPost ptr
  clear hg hs
  go_enter Tryz.func10, Tryz.ntmps10
  go_wp2_with fail
  refine HT.out.mono ?_
  rintro e w1 ⟨z, rfl, ho, hb⟩
  go_wp2
  go_ret
  exact ⟨z, rfl, ho, hb⟩
end Go.Proofs.YtbkanebkobjnnaaGreatDoor
