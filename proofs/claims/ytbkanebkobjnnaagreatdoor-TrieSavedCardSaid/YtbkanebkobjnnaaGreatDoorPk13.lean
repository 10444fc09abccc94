/- TriLoadItem, TriNarrow, TriNode -/
import Derived.Test.YtbkanebkobjnnaaGreatDoorPk12
import Derived.Test.YtbkanebkobjnnaaGreatDoorPk02
import Derived.Deep.RegionHeld3
import Derived.Test.YtbkanebkobjnnaaGreatDoorPk06
namespace Go.Proofs.YtbkanebkobjnnaaGreatDoor
open Go.RowKit
open Sto (T St)
open Tri (Tr Ok hb)
open Go.Proofs.YtbkanebkobjnnaaGreatDoor.Nd (N)

/-- A loader in block d, over the store in block g, that has counted n items. -/
def LdAt (w : World) (d g n : Nat) : Prop := w.heap[d]? = some (.cells #[.pointer (some ⟨g, 0, none⟩), .int .i64 n] 92 (0, 0))
theorem LdAt.store {w : World} {d g n : Nat} (h : LdAt w d g n) : w.cell? ⟨d, 0, none⟩ = some (.pointer (some ⟨g, 0, none⟩)) := by rw [cell_of_row _ _ _ _ _ _ h]; rfl
theorem LdAt.num {w : World} {d g n : Nat} (h : LdAt w d g n) : w.cell? ⟨d, 1, none⟩ = some (.int .i64 n) := by rw [cell_of_row _ _ _ _ _ _ h]; rfl
theorem LdAt.free {w : World} {d g n : Nat} (h : LdAt w d g n) (i : Nat) : w.frozen? ⟨d, i, none⟩ = false := frozen_of_row _ _ _ _ _ h
theorem LdAt.below {w w' : World} {d g n : Nat} (h : LdAt w d g n) (hb : Below w.heap.size w w') : LdAt w' d g n := (hb.block d (lt_of_heap h)).trans h
theorem LdAt.set {w : World} {d g n : Nat} (h : LdAt w d g n) (m : Nat) : LdAt (w.setCell ⟨d, 1, none⟩ (.int .i64 m)) d g m := by
  have := heap_setCell_same w d 1 _ _ (.int .i64 m) h
  exact this
theorem LdAt.setNew {w : World} {d g n q : Nat} (h : LdAt w d g n) (hq : q ≠ d) (i : Nat) (v : Value) : LdAt (w.setCell ⟨q, i, none⟩ v) d g n := (heap_setCell_other w ⟨q, i, none⟩ d v (fun e => hq e.symm)).trans h
def LItemPost (p : T) (d g n : Nat) (w : World) (e : Ending) (w' : World) : Prop :=
  ∃ c : Int, e = .returned (.int .i64 c) ∧ Only d w w' ∧ ((c = 0 ∧ 1 ≤ p.length ∧ p.length % 2 = 0 ∧ n < 1024 ∧ LdAt w' d g (n + 1)) ∨ (c ≠ 0 ∧ LdAt w' d g n ∧ (p.length = 0 ∨ p.length % 2 = 1 ∨ n = 1024)))
set_option maxRecDepth 100000 in
set_option maxHeartbeats 1000000 in
theorem lditem_any {d g n : Nat} (p : T) (w : World) (h : LdAt w d g n) (hn : n ≤ 1024) (hp : p.length ≤ 1000) :
    Calls Tryz.prog 74 #[.pointer (some ⟨d, 0, none⟩), .string ⟨p.toArray⟩] w (LItemPost p d g n w) := by
  have HH := Lib.hid h
  have HP : Hid (∀ (c : Int) (w' : World), Only d w w' → ((c = 0 ∧ 1 ≤ p.length ∧ p.length % 2 = 0 ∧ n < 1024 ∧ LdAt w' d g (n + 1)) ∨ (c ≠ 0 ∧ LdAt w' d g n ∧ (p.length = 0 ∨ p.length % 2 = 1 ∨ n = 1024))) → LItemPost p d g n w (.returned (.int .i64 c)) w') := Lib.hid (fun c w' a b => ⟨c, rfl, a, b⟩)
  by_cases h0 : p = []
  · have HX : Hid (p.length = 0) := Lib.hid (by rw [h0]; rfl)
    have h1 : (p == []) = true := beq_iff_eq.2 h0
    have h2 : p.isEmpty = true := by rw [h0]; rfl
    clear h h0
    go_enter Tryz.func74, Tryz.ntmps74
    go_wp2
    go_ret
    exact HP.out 4 w (Only.refl _ _) (Or.inr ⟨by decide, HH.out, Or.inl HX.out⟩)
  have h1 : (p == []) = false := by rw [beq_eq_false_iff_ne]; exact h0
  have h2 : p.isEmpty = false := by cases p <;> simp_all
  have hp1 : 1 ≤ p.length := List.length_pos_iff.2 h0
  rcases Nat.mod_two_eq_zero_or_one p.length with hm | hm
  case inr =>
    have r1 : (p.length : Int) % 2 = 1 := by omega
    have r2 : (p.length : Int).tmod 2 = 1 := by rw [Int.tmod_eq_emod_of_nonneg (by omega)]; exact r1
    have HX : Hid (p.length % 2 = 1) := Lib.hid hm
    clear h h0 hm
    go_enter Tryz.func74, Tryz.ntmps74
    go_wp2
    go_ret
    exact HP.out 4 w (Only.refl _ _) (Or.inr ⟨by decide, HH.out, Or.inr (Or.inl HX.out)⟩)
  have r1 : (p.length : Int) % 2 = 0 := by omega
  have r2 : (p.length : Int).tmod 2 = 0 := by rw [Int.tmod_eq_emod_of_nonneg (by omega)]; exact r1
  have HX : Hid (1 ≤ p.length ∧ p.length % 2 = 0) := Lib.hid ⟨hp1, hm⟩
  have c1 := h.num
  have f1 := h.free 1
  by_cases hn2 : n = 1024
  · have n1 : ((n : Int) == 1024) = true := by rw [beq_iff_eq]; omega
    have n2 : (n : Int) = 1024 := by omega
    have HN2 := Lib.hid hn2
    clear h h0 hm hp1 hn hn2
    go_enter Tryz.func74, Tryz.ntmps74
    go_wp2
    go_ret
    exact HP.out 2 w (Only.refl _ _) (Or.inr ⟨by decide, HH.out, Or.inr (Or.inr HN2.out)⟩)
  have n1 : ((n : Int) == 1024) = false := by rw [beq_eq_false_iff_ne]; omega
  have n2 : ¬ ((n : Int) = 1024) := by omega
  have n3 : IntKind.i64.wrap ((n : Int) + 1) = (n : Int) + 1 := IntWalk.i64_in _ (by omega)
  have HN : Hid (n < 1024) := Lib.hid (by omega)
  have HE : Hid (((n + 1 : Nat) : Int) = (n : Int) + 1) := Lib.hid (by omega)
  clear h h0 hm hp1 hn hn2
  go_enter Tryz.func74, Tryz.ntmps74
  go_wp2
  go_ret
  refine HP.out 0 _ ((Only.refl d w).setCell (p := ⟨d, 1, none⟩) rfl _) (Or.inl ⟨rfl, HX.out.1, HX.out.2, HN.out, ?_⟩)
  have := HH.out.set (n + 1)
  rw [HE.out] at this
  exact this
def Fm.up (B : Nat) : Fm := fun _ g => B ≤ g
theorem PAt.up {w w' : World} {B : Nat} {s : Bool} {t : Tr} {v : Value} (h : PAt w (Fm.up B) s t v) (ho : ∀ g, B ≤ g → g < w.heap.size → w'.heap[g]? = w.heap[g]?) : PAt w' (Fm.up B) s t v :=
  h.change (fun _ _ _ h => h) fun g _ _ _ _ _ _ hg hr => (ho g hg (lt_of_heap hr)).trans hr
theorem PAt.upOnly {w w' : World} {B d : Nat} {s : Bool} {t : Tr} {v : Value} (h : PAt w (Fm.up B) s t v) (ho : Only d w w') (hd : d < B) : PAt w' (Fm.up B) s t v :=
  h.up fun g hg hlt => ho.block g hlt (by omega)
theorem PAt.upMono {w : World} {B C : Nat} {s : Bool} {t : Tr} {v : Value} (h : PAt w (Fm.up B) s t v) (hc : C ≤ B) : PAt w (Fm.up C) s t v := h.imp fun _ _ _ hg => Nat.le_trans hc hg
/-- What part answers: the trie that stands there, or a code. -/
def PartPost (S : St) (sum place : T) (inE : Bool) (d g n : Nat) (w : World) (e : Ending) (w' : World) : Prop :=
  ∃ (z : Value) (c : Int) (n' : Nat), e = .returned (.tuple #[z, .int .i64 c]) ∧ LdAt w' d g n' ∧ Only d w w' ∧ n' ≤ 1024 ∧
    ((c = 0 ∧ ∃ t, Loaded S sum place inE t ∧ PAt w' (Fm.up w.heap.size) true t z ∧ n' = n + t.items.length) ∨ (c ≠ 0 ∧ z = nilp ∧ ∀ t, Loaded S sum place inE t → 1024 < n + t.items.length))
def PartIs (S : St) (d g m : Nat) (f : Nat) : Prop := ∀ (sum place : T) (inE : Bool) (n : Nat) (w : World), 16 - place.length < f → place.length ≤ 16 → sum.length ≤ 32 → n ≤ 1024 → LdAt w d g n → StoreAt w g m S →
  Calls Tryz.prog 50 #[.pointer (some ⟨d, 0, none⟩), .string ⟨sum.toArray⟩, .string ⟨place.toArray⟩, .bool inE] w (PartPost S sum place inE d g n w)
set_option maxRecDepth 100000 in
set_option maxHeartbeats 1000000 in
theorem ldkid_any {S : St} {d g m f : Nat} (IH : PartIs S d g m f) (kind : Nat) (sum place : T) (n : Nat) (w : World) (hf : place.length ≤ 16 → 16 - place.length < f) (hpl : place.length ≤ 1000) (hs : sum.length ≤ 32) (hn : n ≤ 1024) (hL : LdAt w d g n) (hS : StoreAt w g m S) :
    Calls Tryz.prog 75 #[.pointer (some ⟨d, 0, none⟩), .int .i64 kind, .string ⟨sum.toArray⟩, .string ⟨place.toArray⟩] w (PartPost S sum place (decide (kind = 2)) d g n w) := by
  by_cases hp : place.length ≤ 16
  · have q1 : ¬ ((place.length : Int) > 16) := by omega
    have q2 : decide ((16 : Int) < (place.length : Int)) = false := decide_eq_false (by omega)
    have q3 : decide (16 < place.length) = false := decide_eq_false (by omega)
    have q4 : ¬ (16 < place.length) := by omega
    have HI := Lib.hid (IH sum place (decide (kind = 2)) n w (hf hp) hp hs hn hL hS)
    clear IH hf hs hn hL hS hp
    by_cases h2 : kind = 2
    · have k1 : ((kind : Int) == 2) = true := by rw [beq_iff_eq]; omega
      have k2 : (kind : Int) = 2 := by omega
      rw [decide_eq_true h2] at HI ⊢
      clear h2
      go_enter Tryz.func75, Tryz.ntmps75
      go_wp2_with fail
      refine HI.out.mono ?_
      rintro e w1 ⟨z, c, n', rfl, r⟩
      have HR := Lib.hid r
      clear r
      go_wp2
      go_ret2
      exact ⟨z, c, n', rfl, HR.out⟩
    · have k1 : ((kind : Int) == 2) = false := by rw [beq_eq_false_iff_ne]; omega
      have k2 : ¬ ((kind : Int) = 2) := by omega
      rw [decide_eq_false h2] at HI ⊢
      clear h2
      go_enter Tryz.func75, Tryz.ntmps75
      go_wp2_with fail
      refine HI.out.mono ?_
      rintro e w1 ⟨z, c, n', rfl, r⟩
      have HR := Lib.hid r
      clear r
      go_wp2
      go_ret2
      exact ⟨z, c, n', rfl, HR.out⟩
  · have q1 : (place.length : Int) > 16 := by omega
    have q2 : decide ((16 : Int) < (place.length : Int)) = true := decide_eq_true (by omega)
    have q3 : decide (16 < place.length) = true := decide_eq_true (by omega)
    have HP : Hid (PartPost S sum place (decide (kind = 2)) d g n w (.returned (.tuple #[.pointer none, .int .i64 4])) w) := Lib.hid ⟨nilp, 4, n, rfl, hL, Only.refl _ _, hn, Or.inr ⟨by decide, rfl, fun t ht => by have := ht.short; omega⟩⟩
    clear IH hf hs hn hL hS hp
    go_enter Tryz.func75, Tryz.ntmps75
    go_wp2
    go_ret2
    exact HP.out
end Go.Proofs.YtbkanebkobjnnaaGreatDoor
namespace Go.Proofs.YtbkanebkobjnnaaGreatDoor
open Go.RowKit
open Sto (T)
open Tri (Tr Ok upd ix hb lay splitT Trim rank)

/-- The kids that are there, of the first n. -/
def seenT (k : Fin 16 → Tr) (n : Nat) : List (Fin 16) := ((List.finRange 16).take n).filter fun i => !(k i).nilB
def lastT (L : List (Fin 16)) : Nat := match L.getLast? with | none => 0 | some i => i.val
theorem seen_all (k : Fin 16 → Tr) : seenT k 16 = Tri.there k := by
  unfold seenT Tri.there
  rw [List.take_of_length_le (by simp)]
theorem seen_succ (k : Fin 16 → Tr) (i : Fin 16) : seenT k (i.val + 1) = if (k i).nilB then seenT k i.val else seenT k i.val ++ [i] := by
  unfold seenT
  have hl : i.val < (List.finRange 16).length := by simp
  rw [List.take_succ_eq_append_getElem hl, List.filter_append]
  have e : (List.finRange 16)[i.val] = i := by simp
  rw [e]
  cases h : (k i).nilB <;> simp [h]
theorem last_append (L : List (Fin 16)) (i : Fin 16) : lastT (L ++ [i]) = i.val := by simp [lastT]
theorem seen_len (k : Fin 16 → Tr) (n : Nat) : (seenT k n).length ≤ 16 := by
  unfold seenT
  refine Nat.le_trans (List.length_filter_le _ _) ?_
  simp; omega
def kcl (K : Ks) : List Value := List.ofFn K
theorem kcl_length (K : Ks) : (kcl K).length = 16 := by simp [kcl]
theorem RowP.range {w : World} {g k : Nat} {p x s : T} {K : Ks} (h : RowP w g k p x K s) : w.rangeAt g 3 (kcl K) := by
  intro j v hv
  have hj : j < 16 := by
    rcases Nat.lt_or_ge j 16 with h2 | h2
    · exact h2
    · rw [List.getElem?_eq_none (by rw [kcl_length]; exact h2)] at hv; cases hv
  have := h.kid ⟨j, hj⟩
  rw [this]
  unfold kcl at hv
  rw [List.getElem?_ofFn, dif_pos hj] at hv
  exact hv
set_option maxRecDepth 100000 in
theorem kcl_info (K : Ks) : (Tryz.prog.info? 79).map (·.size) = some (kcl K).length := by rw [kcl_length]; kernel_rfl
set_option maxRecDepth 100000 in
theorem index_kids (K : Ks) (i : Fin 16) (w : World) : (Instr.index 79 (.agg (kcl K).toArray) (.int .i64 i.val)).run Tryz.prog w = .ok (K i) w := by
  have hi := i.isLt
  have hu := Tryz.underlying79
  have hk0 : (0 : Int) ≤ (i.val : Int) := by omega
  have hk8 : (i.val : Int) < 16 := by omega
  have hat : (kcl K)[i.val]? = some (K i) := by
    unfold kcl
    rw [List.getElem?_ofFn, dif_pos hi]
  have hs := Tryz.sizeOf63
  have ha := Tryz.isAgg63
  unfold Instr.index
  go_simp
theorem PAt.ptr {w : World} {F : Fm} {s : Bool} {t : Tr} {v : Value} (h : PAt w F s t v) (hn : ¬ t.isNil) : ∃ g, v = .pointer (some ⟨g, 0, none⟩) := by
  obtain ⟨g, _, _, e, _⟩ := h.row hn; exact ⟨g, e⟩
theorem narrow0 {v : T} {k : Fin 16 → Tr} (h : Tri.there k = []) : Tri.narrowT v k = .leaf [] v := by unfold Tri.narrowT; rw [h]
theorem narrow1 {v : T} {k : Fin 16 → Tr} {i : Fin 16} (h : Tri.there k = [i]) : Tri.narrowT v k = if v = [] then lay [hb i] (k i) else .br v k := by unfold Tri.narrowT; rw [h]
theorem narrow2 {v : T} {k : Fin 16 → Tr} {i j : Fin 16} {r : List (Fin 16)} (h : Tri.there k = i :: j :: r) : Tri.narrowT v k = .br v k := by unfold Tri.narrowT; rw [h]
set_option maxRecDepth 100000 in
set_option maxHeartbeats 2000000 in
theorem narrow_any {y : T} {k : Fin 16 → Tr} {g : Nat} (w : World) (F : Fm) (hF : F.fresh w) (h : PAt w F false (.br y k) (ptr g)) (hlow : ∀ i, (k i).low) :
    Calls Tryz.prog 86 #[ptr g] w (MadeT w F (Tri.narrowT y k)) := by
  obtain ⟨g', s', K, e, -, -, hr, hk⟩ := h.row id
  obtain rfl := ptr_inj e
  have HR := Lib.hid hr
  have HK : Hid (∀ i, PAt w F false (k i) (K i)) := Lib.hid (fun i => (hk i).weak)
  have HH := Lib.hid h
  have HRG := Lib.hid hr.range
  have HI := Lib.hid (kcl_info K)
  have HKE := Lib.hid (fun (i : Fin 16) w => index_kids K i w)
  have HLF := Lib.hid (leaf_any [] y w F hF)
  have HBH : Hid (∀ (i : Fin 16) w', Below w.heap.size w w' → ¬ (k i).isNil → Calls Tryz.prog 81 #[K i, .string ⟨[hb i].toArray⟩] w' (MadeT w' F (lay [hb i] (k i)))) := Lib.hid (fun i w' hbw hn =>
    behind_any [hb i] w' F (hF.size hbw.size) ((hk i).weak.below hbw) (Or.inr hn) (by simp) (by
      have := hlow i
      cases hki : k i <;> simp_all [Tri.Tr.low, Tri.Tr.pth] <;> omega))
  obtain ⟨NT, hNT⟩ : ∃ NT, Tri.narrowT y k = NT := ⟨_, rfl⟩
  rw [hNT]
  have HNT := Lib.hid hNT
  clear hNT
  unfold MadeT at HLF HBH ⊢
  unfold ptr
  have hcl := hk
  clear h hr hk hcl
  go_enter Tryz.func86, Tryz.ntmps86
  go_wp2_with (refine wpList_load_mid (by rfl) _ _ (by rfl) g 3 (by rfl) (kcl K) _ HRG.out Tryz.underlying79 (by rfl) HI.out ?_)
  obtain ⟨KC, hKC⟩ : ∃ KC, kcl K = KC := ⟨_, rfl⟩
  rw [hKC] at HKE HI HRG ⊢
  clear hKC
  go_loop [3, 4, 11] (fun a hs i => ∃ n : Nat, n ≤ 16 ∧ i = .int .i64 n ∧ a = .int .i64 (lastT (seenT k n)) ∧ hs = .int .i64 ((seenT k n).length : Nat)) (fun _ _ i => 16 - (intOf i).toNat)
  case atStart => exact ⟨0, Nat.zero_le _, rfl, rfl, rfl⟩
  case round =>
    obtain ⟨n, hn, rfl, rfl, rfl⟩ := hrel
    by_cases hlt : n < 16
    · obtain ⟨i, hi⟩ : ∃ i : Fin 16, i.val = n := ⟨⟨n, hlt⟩, rfl⟩
      have h1 : (n : Int) < 16 := by omega
      have h0 : (0 : Int) ≤ (n : Int) := by omega
      have n0 := HKE.out i
      rw [hi] at n0
      have HST := Lib.hid (seen_succ k i)
      rw [hi] at HST
      have HLA := Lib.hid (last_append (seenT k n) i)
      rw [hi] at HLA
      have hsl := seen_len k n
      obtain ⟨L, hL⟩ : ∃ L, seenT k n = L := ⟨_, rfl⟩
      rw [hL] at HST hsl HLA ⊢
      have z0 : IntKind.i64.wrap ((L.length : Int) + 1) = (L.length : Int) + 1 := IntWalk.i64_in _ (by omega)
      have hki := HK.out i
      by_cases hnl : (k i).isNil
      · have e : K i = .pointer none := by rw [Tri.isNil_eq hnl] at hki; exact hki
        rw [e] at n0
        rw [if_pos ((Tri.nilB_iff _).2 hnl)] at HST
        clear hki hnl hL e hsl
        go_wp2
        exact ⟨⟨n + 1, by omega, by go_num, by rw [HST.out], by rw [HST.out]⟩, by simp [intOf]; omega⟩
      · obtain ⟨g6, e⟩ := hki.ptr hnl
        rw [e] at n0
        have hnb : (k i).nilB = false := by
          cases hh : (k i).nilB with
          | false => rfl
          | true => exact absurd ((Tri.nilB_iff _).1 hh) hnl
        rw [if_neg (by rw [hnb]; decide)] at HST
        clear hki hnl hL e hsl hnb
        go_wp2
        exact ⟨⟨n + 1, by omega, by go_num, by rw [HST.out, HLA.out], by rw [HST.out, List.length_append]; go_num⟩, by simp [intOf]; omega⟩
    · obtain rfl : n = 16 := by omega
      rw [seen_all]
      have HTH : Hid (∀ i, i ∈ Tri.there k → ¬ (k i).isNil) := Lib.hid (fun i hi => Tri.mem_there.1 hi)
      have n2 := HR.out.val
      have n2' : w.cell? ⟨g, 2, none⟩ = some (.string ⟨y.toArray⟩) := n2
      clear n2
      cases hL : Tri.there k with
      | nil =>
        replace HNT : Hid (NT = .leaf [] y) := Lib.hid (HNT.out.symm.trans (narrow0 hL))
        have e1 : ((lastT ([] : List (Fin 16)) : Nat) : Int) = 0 := rfl
        clear hL
        go_wp2_with fail
        refine HLF.out.mono ?_
        rintro r w1 ⟨v, rfl, hp, hb⟩
        go_wp2
        go_ret
        rw [HNT.out]
        exact ⟨v, rfl, hp, hb⟩
      | cons i r =>
        cases r with
        | cons j r =>
          replace HNT : Hid (NT = .br y k) := Lib.hid (HNT.out.symm.trans (narrow2 hL))
          have e2 : (((i :: j :: r).length : Nat) : Int) = (r.length : Int) + 2 := by simp; omega
          have e3 : ((r.length : Int) + 2 == 0) = false := by rw [beq_eq_false_iff_ne]; omega
          have e4 : ((r.length : Int) + 2 == 1) = false := by rw [beq_eq_false_iff_ne]; omega
          obtain ⟨la, hla⟩ : ∃ la, lastT (i :: j :: r) = la := ⟨_, rfl⟩
          rw [e2, hla]
          clear hL hla e2
          go_wp2
          go_ret
          rw [HNT.out]
          exact ⟨_, rfl, HH.out, Below.refl _ _⟩
        | nil =>
          have HNI := Lib.hid (HTH.out i (by rw [hL]; exact List.mem_singleton.2 rfl))
          replace HNT : Hid (NT = if y = [] then lay [hb i] (k i) else .br y k) := Lib.hid (HNT.out.symm.trans (narrow1 hL))
          have e1 : lastT [i] = i.val := rfl
          rw [e1]
          have e2 : (([i].length : Nat) : Int) = 1 := rfl
          rw [e2]
          clear hL HTH e2
          by_cases hy : y = []
          · subst hy
            rw [if_pos rfl] at HNT
            have hi := i.isLt
            have n3 := HR.out.kid i
            obtain ⟨vk, hvk⟩ : ∃ vk, K i = vk := ⟨_, rfl⟩
            rw [hvk] at n3
            have HBI : Hid (∀ w', Below w.heap.size w w' → Calls Tryz.prog 81 #[vk, .string ⟨[hb i].toArray⟩] w' fun e w'' => ∃ v, e = .returned v ∧ PAt w'' F false (lay [hb i] (k i)) v ∧ Below w'.heap.size w' w'') := Lib.hid (fun w' hbw => by rw [← hvk]; exact HBH.out i w' hbw HNI.out)
            have HHF := Lib.hid (fun w => half_any i w)
            have HCB : Hid (∀ w', Below w.heap.size w w' → w'.cell? ⟨g, 3 + i.val, none⟩ = some vk) := Lib.hid (fun w' hbw => by rw [← hvk]; exact (HR.out.below hbw).kid i)
            have z0 : (0 : Int) ≤ (i.val : Int) := by omega
            have z1 : (i.val : Int) < 16 := by omega
            obtain ⟨n, hn⟩ : ∃ n, i.val = n := ⟨_, rfl⟩
            rw [hn] at n3 HHF HCB z0 z1 ⊢
            clear hvk hi HBH hn
            go_upto_region 12 with fail
            have BD : Below w.heap.size w w.drew := (Below.refl _ _).drew
            have n4 : w.drew.cell? ⟨g, 3 + n, none⟩ = some vk := n3
            go_region_held3 (fun w' => w'.cell? ⟨g, 3 + n, none⟩ = some vk)
              ((first | (with_reducible exact n4) | (with_reducible exact n5) | (with_reducible exact n7)))
              (first | (go_at_call 85; refine (HHF.out _).mono ?_; rintro e w6 ⟨rfl, hb6⟩; have hb6' := bchain BD hb6; have n5 := HCB.out _ hb6') | (go_at_call 81; refine (HBI.out _ ?_).mono ?_; (with_reducible exact hb6'); rintro e w7 ⟨v7, rfl, hp7, hb7⟩; have hb7' := bchain hb6' hb7; have n7 := HCB.out _ hb7'))
            all_goals
              go_wp2
              go_ret
              rw [HNT.out]
              exact ⟨v7, rfl, hp7, hb7'⟩
          · rw [if_neg hy] at HNT
            have hye : (y == []) = false := by rw [beq_eq_false_iff_ne]; exact hy
            clear HBH
            go_wp2
            go_ret
            rw [HNT.out]
            exact ⟨_, rfl, HH.out, Below.refl _ _⟩
end Go.Proofs.YtbkanebkobjnnaaGreatDoor
namespace Go.Proofs.YtbkanebkobjnnaaGreatDoor
open Go.RowKit
open Sto (T)
open Tri (Tr Ok upd ix hb lay splitT Trim rank)
open Go.Proofs.YtbkanebkobjnnaaGreatDoor.Nd (N)

def st19 (a v : Value) : Sem Unit := Instr.storeAt 73 a v
theorem storeAt19 (a v : Value) : Instr.storeAt 73 a v = st19 a v := rfl
attribute [local go_sem ↓] storeAt19
def zero19 : Array Value := #[.int .i64 0, .string ⟨#[]⟩, .string ⟨#[]⟩, .string ⟨#[]⟩, .string ⟨#[]⟩, .string ⟨#[]⟩, .string ⟨#[]⟩, .string ⟨#[]⟩, .string ⟨#[]⟩, .string ⟨#[]⟩, .string ⟨#[]⟩, .string ⟨#[]⟩, .string ⟨#[]⟩, .string ⟨#[]⟩, .string ⟨#[]⟩, .string ⟨#[]⟩, .string ⟨#[]⟩, .string ⟨#[]⟩, .string ⟨#[]⟩]
def lit19 (kd : Nat) (p x : T) : Array Value := #[.int .i64 kd, .string ⟨p.toArray⟩, .string ⟨x.toArray⟩, .string ⟨#[]⟩, .string ⟨#[]⟩, .string ⟨#[]⟩, .string ⟨#[]⟩, .string ⟨#[]⟩, .string ⟨#[]⟩, .string ⟨#[]⟩, .string ⟨#[]⟩, .string ⟨#[]⟩, .string ⟨#[]⟩, .string ⟨#[]⟩, .string ⟨#[]⟩, .string ⟨#[]⟩, .string ⟨#[]⟩, .string ⟨#[]⟩, .string ⟨#[]⟩]
theorem run_st19 {w : World} {C old : Array Value} (hi : (Tryz.prog.info? 73).map (·.size) = some C.size) (ho : old.size = C.size) (h1 : C.all (·.oneCell') = true) :
    (st19 (.pointer (some ⟨w.heap.size, 0, none⟩)) (.agg C)).run Tryz.prog (w.alloc (.cells old 73)) = .ok () (w.alloc (.cells C 73)) := by
  unfold st19
  simp only [Instr.storeAt, Instr.sureAddr, Sem.run_bind, Sem.run_pure, Result.andThen_ok, run_storeVar_row (w.alloc (.cells old 73)) w.heap.size 73 73 old C (heap_alloc_new w _) hi ho h1]
  rw [World.setRow_alloc_new]
theorem ncl_set (kd : Int) (p x : T) (L : List T) (k : Nat) (y : T) : (ncl ⟨kd, p, x, L⟩).toArray.setIfInBounds (3 + k) (.string ⟨y.toArray⟩) = (ncl ⟨kd, p, x, L.set k y⟩).toArray := by
  rw [List.setIfInBounds_toArray]
  congr 1
  unfold ncl
  rw [Nat.add_comm 3 k]
  simp only [List.set_cons_succ]
  rw [scells_set]
theorem ncl_ones (n : N) : (ncl n).toArray.all (·.oneCell') = true := by
  rw [← Array.all_toList, List.all_eq_true]
  intro v hv
  simp only [ncl, scells, List.mem_cons, List.mem_map] at hv
  rcases hv with rfl | rfl | rfl | ⟨y, _, rfl⟩ <;> rfl
set_option maxRecDepth 100000 in
set_option maxHeartbeats 2000000 in
theorem pnode_any {t : Tr} {g : Nat} {s : T} {K : Ks} {F : Fm} (w : World) (hr : RowP w g t.kind t.pth t.vl K s) (hk : ∀ i, PAt w F true (t.kid i) (K i)) (hn : ¬ t.isNil) :
    Calls Tryz.prog 56 #[ptr g] w fun e w' => e = .returned (ndval (t.node Nd.sumS)) ∧ Below w.heap.size w w' := by
  rw [Tri.node_kid _ hn]
  have HK := Lib.hid hk
  have HR := Lib.hid hr
  unfold ptr
  obtain ⟨kd, hkd⟩ : ∃ kd, t.kind = kd := ⟨_, rfl⟩
  obtain ⟨p, hp⟩ : ∃ p, t.pth = p := ⟨_, rfl⟩
  obtain ⟨x, hx⟩ : ∃ x, t.vl = x := ⟨_, rfl⟩
  rw [hkd, hp, hx] at HR ⊢
  obtain ⟨SL, hSL⟩ : ∃ SL, (List.ofFn fun i => (t.kid i).sum Nd.sumS) = SL := ⟨_, rfl⟩
  have HSL : Hid (SL.length = 16 ∧ ∀ i : Fin 16, SL[i.val]? = some ((t.kid i).sum Nd.sumS)) := Lib.hid (by
    rw [← hSL]
    exact ⟨by simp, fun i => by rw [List.getElem?_ofFn, dif_pos i.isLt]⟩)
  rw [hSL]
  unfold ndval
  obtain ⟨A, hA⟩ : ∃ A, (ncl ⟨(kd : Int), p, x, SL⟩).toArray = A := ⟨_, rfl⟩
  rw [hA]
  have HA := Lib.hid hA
  clear hr hk hkd hp hx hSL hA
  go_enter Tryz.func56, Tryz.ntmps56
  go_upto_region 1 with fail
  obtain ⟨q, hq⟩ : ∃ q, w.heap.size = q := ⟨_, rfl⟩
  obtain ⟨w0, hw0⟩ : ∃ w0, w.alloc (.cells zero19 73) = w0 := ⟨_, rfl⟩
  have HQB : Hid (w0.heap[q]? = some (.cells zero19 73 (0, 0))) := Lib.hid (by rw [← hw0, ← hq]; exact heap_alloc_new w _)
  have HB0 : Hid (Below w.heap.size w w0) := Lib.hid (by rw [← hw0]; exact (Below.refl _ w).alloc (Nat.le_refl _) _)
  have HQ0 : Hid (q < w0.heap.size) := Lib.hid (lt_of_heap HQB.out)
  unfold zero19 at hw0
  rw [hw0, hq]
  have HQ := Lib.hid hq
  have HG : Hid (∀ w', Below w0.heap.size w0 w' → w'.cell? ⟨g, 0, none⟩ = some (.int .i64 kd) ∧ w'.cell? ⟨g, 1, none⟩ = some (.string ⟨p.toArray⟩) ∧ w'.cell? ⟨g, 2, none⟩ = some (.string ⟨x.toArray⟩)) := Lib.hid (fun w' hb => by
    have k1 := (HR.out.below HB0.out).below hb
    exact ⟨k1.kind, k1.path, k1.val⟩)
  have hst : (st19 (.pointer (some ⟨w0.heap.size, 0, none⟩)) (.agg (lit19 kd p x))).run Tryz.prog ((w0.alloc (.cells zero19 73)).drew) = .ok () ((w0.alloc (.cells (lit19 kd p x) 73)).drew) := run_st19 (w := w0.drew) (by kernel_rfl) rfl (by simp [lit19, Value.oneCell'])
  unfold lit19 zero19 at hst
  have B1 : Below w0.heap.size w0 w0.drew := (Below.refl _ _).drew
  have B2 := ((Below.refl w0.heap.size w0).alloc (Nat.le_refl _) (.cells zero19 73)).drew
  have B3 := ((Below.refl w0.heap.size w0).alloc (Nat.le_refl _) (.cells (lit19 kd p x) 73)).drew
  unfold zero19 at B2
  unfold lit19 at B3
  obtain ⟨c0, c1, c2⟩ := HG.out _ B1
  clear hw0 hq
  go_region_held3 (fun w' => w'.cell? ⟨g, 0, none⟩ = some (.int .i64 kd) ∧ w'.cell? ⟨g, 1, none⟩ = some (.string ⟨p.toArray⟩) ∧ w'.cell? ⟨g, 2, none⟩ = some (.string ⟨x.toArray⟩))
    ((first | (with_reducible exact ⟨c0, c1, c2⟩) | (refine HG.out _ ?_; with_reducible assumption)))
    (fail)
  obtain ⟨q2, hq2⟩ : ∃ q2, w0.heap.size = q2 := ⟨_, rfl⟩
  obtain ⟨w1, hw1⟩ : ∃ w1, (w0.alloc (.cells (lit19 kd p x) 73)).drew = w1 := ⟨_, rfl⟩
  have HN0 : Hid (NodeAt w1 q2 ⟨kd, p, x, Nd.part []⟩) := Lib.hid (by
    rw [← hw1, ← hq2]
    exact heap_alloc_new w0 _)
  have HB1 : Hid (Below w.heap.size w w1 ∧ w1.heap[q]? = some (.cells zero19 73 (0, 0)) ∧ w.heap.size ≤ q2 ∧ q ≠ q2) := Lib.hid (by
    have h1 : Below w0.heap.size w0 w1 := by rw [← hw1]; exact ((Below.refl w0.heap.size w0).alloc (Nat.le_refl _) _).drew
    have := HQ0.out
    have := HB0.out.size
    exact ⟨bchain HB0.out h1, (h1.block q HQ0.out).trans HQB.out, by omega, by omega⟩)
  unfold lit19 at hw1
  rw [hw1, hq2]
  have HRR := Lib.hid ((HR.out.below HB1.out.1).range)
  have HI := Lib.hid (kcl_info K)
  have HKE := Lib.hid (fun (i : Fin 16) w => index_kids K i w)
  clear c0 c1 c2 hst B1 B2 B3 hw1 hq2 HG
  go_wp2_with (refine wpList_load_mid (by rfl) _ _ (by rfl) g 3 (by rfl) (kcl K) _ HRR.out Tryz.underlying79 (by rfl) HI.out ?_)
  obtain ⟨KC, hKC⟩ : ∃ KC, kcl K = KC := ⟨_, rfl⟩
  rw [hKC] at HKE HI HRR ⊢
  clear hKC
  go_loopw [23] (fun i wr => ∃ k : Nat, k ≤ 16 ∧ i = .int .i64 k ∧ NodeAt wr q2 ⟨kd, p, x, Nd.part (SL.take k)⟩ ∧ Out (fun j => j = q2) w1 wr) (fun i _ => 16 - (intOf i).toNat)
  case atStart => exact ⟨0, Nat.zero_le _, rfl, HN0.out, Out.refl _ _⟩
  case round =>
    obtain ⟨k, hk, rfl, hna, hou⟩ := hrel
    have HNA := Lib.hid hna
    have HOU := Lib.hid hou
    have HGQ : Hid (g ≠ q2) := Lib.hid (fun e => by have := lt_of_heap HR.out; have := HB1.out.2.2.1; omega)
    by_cases hlt : k < 16
    · obtain ⟨i, hi⟩ : ∃ i : Fin 16, i.val = k := ⟨⟨k, hlt⟩, rfl⟩
      have h1 : (k : Int) < 16 := by omega
      have h0 : (0 : Int) ≤ (k : Int) := by omega
      have n0 := HKE.out i
      rw [hi] at n0
      have hti : SL.take (k + 1) = SL.take k ++ [(t.kid i).sum Nd.sumS] := by
        have h2 := HSL.out.2 i
        rw [hi] at h2
        rw [List.take_add_one, h2]; rfl
      have htl : (SL.take k).length = k := by rw [List.length_take, HSL.out.1]; omega
      have hki := HK.out i
      by_cases hnl : (t.kid i).isNil
      · have e : K i = .pointer none := by rw [Tri.isNil_eq hnl] at hki; exact hki
        rw [e] at n0
        have HST : Hid (Nd.part (SL.take (k + 1)) = Nd.part (SL.take k)) := Lib.hid (by
          rw [hti, Tri.isNil_eq hnl]
          exact (Nd.part_nil _ (by rw [htl]; exact hlt)).symm)
        clear hki hnl e hna hou hti htl
        go_wp2
        exact ⟨⟨k + 1, by omega, by go_num, by rw [HST.out]; exact HNA.out, HOU.out⟩, by simp [intOf]; omega⟩
      · obtain ⟨g6, s6, K6, e, hs6, -, hr6, -⟩ := hki.row hnl
        have e' : K i = .pointer (some ⟨g6, 0, none⟩) := e
        rw [hs6 rfl, if_pos rfl] at hr6
        rw [e'] at n0
        have hg6 : g6 ≠ q2 := fun e => by have := lt_of_heap hr6; have := HB1.out.2.2.1; omega
        have n19 : wr.cell? ⟨g6, 19, none⟩ = some (.string ⟨((t.kid i).sum Nd.sumS).toArray⟩) := hou.cell (hr6.below HB1.out.1).sum hg6
        have hpl : (Nd.part (SL.take k)).length = 16 := Nd.part_len _ (by rw [htl]; omega)
        have m3 := hna.kid k (by rw [hpl]; exact hlt)
        have f3 : wr.frozen? ⟨q2, 3 + k, none⟩ = false := frozen_of_row _ _ _ _ _ hna
        obtain ⟨y, hy⟩ : ∃ y, (t.kid i).sum Nd.sumS = y := ⟨_, rfl⟩
        rw [hy] at n19 hti
        obtain ⟨y2, hy2⟩ : ∃ y2, (Nd.part (SL.take k))[k]'(by rw [hpl]; exact hlt) = y2 := ⟨_, rfl⟩
        have m3' : wr.cell? ⟨q2, 3 + k, none⟩ = some (.string ⟨y2.toArray⟩) := by rw [m3, hy2]
        have HST : Hid (NodeAt (wr.setCell ⟨q2, 3 + k, none⟩ (.string ⟨y.toArray⟩)) q2 ⟨kd, p, x, Nd.part (SL.take (k + 1))⟩) := Lib.hid (by
          have h2 := heap_setCell_same _ _ (3 + k) _ _ (.string ⟨y.toArray⟩) hna
          rw [ncl_set] at h2
          have h3 := Nd.part_set (SL.take k) y (by rw [htl]; exact hlt)
          rw [htl] at h3
          rw [h3] at h2
          rw [hti]
          exact h2)
        have HOS := Lib.hid (hou.setCell (p := ⟨q2, 3 + k, none⟩) rfl (.string ⟨y.toArray⟩))
        clear hki hnl e e' hna hou hti htl m3 hy2 hr6 hy hpl hg6
        go_wp2
        exact ⟨⟨k + 1, by omega, by go_num, HST.out, HOS.out⟩, by simp [intOf]; omega⟩
    · have h1 : ¬ ((k : Int) < 16) := by omega
      obtain rfl : k = 16 := by omega
      rw [List.take_of_length_le (by rw [HSL.out.1]; omega), Nd.part_all _ HSL.out.1] at HNA
      have hcs : (ncl ⟨kd, p, x, SL⟩).toArray.size = 19 := by rw [List.size_toArray, ncl_length _ HSL.out.1]
      have HIN : Hid ((Tryz.prog.info? 73).map (·.size) = some (ncl ⟨kd, p, x, SL⟩).toArray.size) := Lib.hid (by rw [hcs]; kernel_rfl)
      have HON := Lib.hid (ncl_ones ⟨kd, p, x, SL⟩)
      have HQR : Hid (wr.heap[q]? = some (.cells zero19 73 (0, 0))) := Lib.hid ((HOU.out.block q (lt_of_heap HB1.out.2.1) HB1.out.2.2.2).trans HB1.out.2.1)
      have HOL : Hid (zero19.size = (ncl ⟨kd, p, x, SL⟩).toArray.size) := Lib.hid (by rw [hcs]; rfl)
      have HRW : Hid (wr.heap[q2]? = some (.cells (ncl ⟨kd, p, x, SL⟩).toArray 73 (0, 0))) := Lib.hid HNA.out
      have HBW : Hid (∀ A, Below w.heap.size w (wr.setRow q A)) := Lib.hid (fun A => by
        have h2 := (HOU.out.mono (G := fun j => j = q2 ∨ j = q) (fun j _ e => Or.inl e)).setRow (q := q) (Or.inr rfl) A
        refine HB1.out.1.trans (h2.below (fun j hj => ?_) HB1.out.1.size)
        rcases hj with rfl | rfl
        · exact HB1.out.2.2.1
        · exact Nat.le_of_eq HQ.out)
      rw [HA.out] at HIN HON HOL HRW
      clear hcs hna hou HNA
      go_wp2_with (first | (refine wpList_load_row (by rfl) _ _ (by rfl) q2 (by rfl) _ A _ _ HRW.out Tryz.underlying73 (by rfl) HIN.out ?_) | (refine wpList_store_row (by rfl) _ _ _ (by rfl) q A (by rfl) (by rfl) _ _ HQR.out HIN.out HOL.out HON.out ?_))
      exact bodyPost_ret (v := .agg A) (results_cell_row rfl _ _ q _ _ _ _ rfl (setRow_at HQR.out) Tryz.underlying73 rfl HIN.out) rfl ⟨rfl, HBW.out A⟩
end Go.Proofs.YtbkanebkobjnnaaGreatDoor
