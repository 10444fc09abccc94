/- TriSave, TriLoadItem -/
import Derived.Test.YtjfefphgikncnaaGreatDoorPk13
import Derived.Test.YtjfefphgikncnaaGreatDoorPk16
import Derived.Test.YtjfefphgikncnaaGreatDoorPk12
import Derived.Test.YtjfefphgikncnaaGreatDoorPk07
import Derived.Test.YtjfefphgikncnaaGreatDoorPk02
import Derived.Deep.RegionHeld3
namespace Go.Proofs.YtjfefphgikncnaaGreatDoor
open Go.RowKit
open Sto (T St)
open Tri (Tr Ok hb)
open Go.Proofs.YtjfefphgikncnaaGreatDoor.Nd (N)

def putAll (st : St) (L : List T) : St := L.foldl (fun s t => Sto.put s (Sto.sumOf t) t) st
theorem putAll_take {st : St} {L : List T} {k : Nat} (h : k < L.length) : putAll st (L.take (k + 1)) = Sto.put (putAll st (L.take k)) (Sto.sumOf L[k]) L[k] := by
  unfold putAll
  rw [List.take_succ_eq_append_getElem h, List.foldl_append]; rfl
/-- Two unlike texts of one sum. -/
def Clash (L : List T) : Prop := ∃ s ∈ L, ∃ t ∈ L, s ≠ t ∧ Sto.sumOf s = Sto.sumOf t
/-- A store that has some of these texts, each at its sum. -/
structure OfTexts (st : St) (C : List T) : Prop where
  rise : Sto.Rising st
  own : OwnSums st
  of : ∀ x t, Sto.look st x = some t → t ∈ C
theorem OfTexts.nil (C : List T) : OfTexts [] C := ⟨Sto.rising_nil, OwnSums.nil, fun x t h => by cases h⟩
theorem OfTexts.put {st : St} {C : List T} (h : OfTexts st C) {t : T} (ht : t ∈ C) (hn : ¬ Clash C) : OfTexts (Sto.put st (Sto.sumOf t) t) C ∧ Sto.look (Sto.put st (Sto.sumOf t) t) (Sto.sumOf t) = some t ∧ ∀ x y, Sto.look st x = some y → Sto.look (Sto.put st (Sto.sumOf t) t) x = some y := by
  have hown := h.own.put h.rise t
  have hkeep : ∀ x y, Sto.look st x = some y → Sto.look (Sto.put st (Sto.sumOf t) t) x = some y := fun x y hl => by
    obtain ⟨s, hs⟩ : ∃ s, Sto.sumOf t = s := ⟨_, rfl⟩
    rw [hs, Sto.look_put h.rise]
    by_cases e : x = s
    · rw [if_pos e, ← e, hl]; rfl
    · rw [if_neg e]; exact hl
  have hit : Sto.look (Sto.put st (Sto.sumOf t) t) (Sto.sumOf t) = some t := by
    obtain ⟨s, hs⟩ : ∃ s, Sto.sumOf t = s := ⟨_, rfl⟩
    rw [hs, Sto.look_put h.rise, if_pos rfl]
    cases hl : Sto.look st s with
    | none => rfl
    | some y =>
      have hy := h.of s y hl
      have hys := h.own s y hl
      by_cases e : y = t
      · rw [e]; rfl
      · exact absurd ⟨y, hy, t, ht, e, hys.trans hs.symm⟩ hn
  refine ⟨⟨Sto.put_rising h.rise _ _, hown, fun x y hl => ?_⟩, hit, hkeep⟩
  obtain ⟨s, hs⟩ : ∃ s, Sto.sumOf t = s := ⟨_, rfl⟩
  rw [hs, Sto.look_put h.rise] at hl
  by_cases e : x = s
  · rw [if_pos e] at hl
    cases hk : Sto.look st s with
    | none =>
      rw [hk] at hl
      have e2 : t = y := Option.some.inj hl
      rw [← e2]; exact ht
    | some z =>
      rw [hk] at hl
      have e2 : z = y := Option.some.inj hl
      rw [← e2]; exact h.of _ _ hk
  · rw [if_neg e] at hl
    exact h.of _ _ hl
theorem putAll_keep {C : List T} (hn : ¬ Clash C) (L : List T) : ∀ {st : St}, OfTexts st C → (∀ t ∈ L, t ∈ C) → OfTexts (putAll st L) C ∧ (∀ t ∈ L, Sto.look (putAll st L) (Sto.sumOf t) = some t) ∧ ∀ x y, Sto.look st x = some y → Sto.look (putAll st L) x = some y := by
  induction L with
  | nil => intro st h _; exact ⟨h, fun t ht => (by cases ht), fun _ _ h => h⟩
  | cons a L ih =>
    intro st h hL
    obtain ⟨h1, h2, h3⟩ := h.put (hL a (List.mem_cons_self ..)) hn
    obtain ⟨g1, g2, g3⟩ := ih h1 (fun t ht => hL t (List.mem_cons_of_mem _ ht))
    refine ⟨g1, fun t ht => ?_, fun x y hl => g3 x y (h3 x y hl)⟩
    rcases List.mem_cons.1 ht with rfl | ht
    · exact g3 _ _ h2
    · exact g2 t ht
theorem putAll_own (L : List T) : ∀ {st : St}, Sto.Rising st → OwnSums st → OwnSums (putAll st L) ∧ Sto.Rising (putAll st L) := by
  induction L with
  | nil => intro st h1 h2; exact ⟨h2, h1⟩
  | cons a L ih => intro st h1 h2; exact ih (Sto.put_rising h1 _ _) (h2.put h1 a)
theorem sumS_of {n : N} (h : Nd.fine n = true) : Nd.sumS n = Sto.sumOf (Nd.written n) := by
  unfold Nd.sumS Sto.sumOf
  rw [if_pos h]
/-- A trie all of whose nodes are there. -/
theorem inS_of {st : St} {t : Tr} (h : Ok t) (hl : ∀ n ∈ t.nodes Nd.sumS, Sto.look st (Sto.sumOf (Nd.written n)) = some (Nd.written n)) : t.inS st := by
  have one : ∀ {t : Tr}, Ok t → ¬ t.isNil → (∀ n ∈ t.nodes Nd.sumS, Sto.look st (Sto.sumOf (Nd.written n)) = some (Nd.written n)) → Sto.look st (t.sum Nd.sumS) = some (Nd.written (t.node Nd.sumS)) := by
    intro t h hn hl
    obtain ⟨r, hr⟩ := Tri.nodes_head Nd.sumS hn
    have h1 := hl (t.node Nd.sumS) (by rw [hr]; exact List.mem_cons_self ..)
    have h2 : Nd.sumS (t.node Nd.sumS) = Sto.sumOf (Nd.written (t.node Nd.sumS)) := sumS_of (h.fine hn)
    rw [Tri.sum_node _ hn, h2]
    exact h1
  induction t with
  | nil => trivial
  | leaf p v => exact one h id hl
  | ext p t ih => exact ⟨one h id hl, ih ⟨h.canon.2.2, h.fits.2, h.small.2⟩ (fun n hn => hl n (List.mem_cons_of_mem _ hn))⟩
  | br v k ih =>
    refine ⟨one h id hl, fun i => ih i ⟨h.canon.1 i, h.fits i, h.small.2 i⟩ (fun n hn => hl n (List.mem_cons_of_mem _ ?_))⟩
    exact List.mem_flatMap.2 ⟨i, List.mem_finRange i, hn⟩
theorem nodesS_nodes {S : St} {t : Tr} (h : TrS S t) : nodesS S = (t.nodes Nd.sumS).map Nd.written := by
  unfold nodesS
  rw [treeS_of h, wanted_all, ← Tri.spots_nodes Nd.sumS t [], List.map_map]
  rfl
theorem nodes_fine {t : Tr} (h : Ok t) : ∀ n ∈ t.nodes Nd.sumS, Nd.fine n = true ∧ n.kids.length = 16 := by
  induction t with
  | nil => intro n hn; cases hn
  | leaf p v => intro n hn; rw [List.mem_singleton.1 hn]; exact ⟨h.fine id, Tri.node_kids ..⟩
  | ext p t ih =>
    intro n hn
    rcases List.mem_cons.1 hn with e | e
    · rw [e]; exact ⟨h.fine id, Tri.node_kids ..⟩
    · exact ih ⟨h.canon.2.2, h.fits.2, h.small.2⟩ n e
  | br v k ih =>
    intro n hn
    rcases List.mem_cons.1 hn with e | e
    · rw [e]; exact ⟨h.fine id, Tri.node_kids ..⟩
    · obtain ⟨i, _, hi⟩ := List.mem_flatMap.1 e
      exact ih i ⟨h.canon.1 i, h.fits i, h.small.2 i⟩ n hi
theorem nodesS_short {S : St} {t : Tr} (h : TrS S t) : ∀ x ∈ nodesS S, x.length ≤ 999 := by
  intro x hx
  rw [nodesS_nodes h] at hx
  obtain ⟨n, hn, rfl⟩ := List.mem_map.1 hx
  obtain ⟨h1, h2⟩ := nodes_fine h.ok n hn
  have := Nd.written_most n h2 h1
  omega
/-- A trie that a map's change leaves as it was. -/
theorem TrAt.out {w w' : World} {g m : Nat} {S : St} (h : TrAt w g S) (ho : Out (fun j => j = m) w w') (hm : ∀ cs t f, w.heap[m]? ≠ some (.cells cs t f)) : TrAt w' g S := by
  obtain ⟨top, t, h1, h2, h3⟩ := h
  refine ⟨top, t, ho.heap h1 (fun e => hm _ _ _ (by rw [← e]; exact h1)), h2.change (fun _ _ _ h => h) fun g k p x K s s2 _ hr => ho.heap hr (fun e => hm _ _ _ (by rw [← e]; exact hr)), h3⟩
theorem tab_out {P : Program} {k : TypeId} {κ α : Type} {M : MapLaw P k κ α} {w w' : World} {m : Nat} {f : κ → Option α} (hT : Tab w) (h : FnAt M w m f) (ho : Out (fun i => i = m) w w') : Tab w' := fun i hi => by
  refine ho.cell (hT i hi) fun e => ?_
  obtain ⟨es, c, he, _⟩ := h
  have hk := hT i hi
  have e' : (0 : Nat) = m := e
  subst e'
  simp [World.cell?, he] at hk
set_option maxRecDepth 100000 in
set_option maxHeartbeats 1000000 in
theorem tsave_any {g gs ms : Nat} {S st : St} (w : World) (h : TrAt w g S) (hs : StoreAt w gs ms st) (hT : Tab w) :
    Calls Tryz.prog 43 #[.pointer (some ⟨g, 0, none⟩), .pointer (some ⟨gs, 0, none⟩)] w fun e w' => e = .returned (.string ⟨(rootS S).toArray⟩) ∧ StoreAt w' gs ms (putAll st (nodesS S)) ∧ Out (fun j => j = ms) w w' := by
  have HH := Lib.hid h
  have HS := Lib.hid hs
  have HT := Lib.hid hT
  have HNO := Lib.hid (snodes_any w h)
  unfold ptr TextsPost at HNO
  have HNL := Lib.hid h.nodes_len
  have HSH : Hid (∀ x ∈ nodesS S, x.length ≤ 999) := Lib.hid (by
    obtain ⟨top, t, -, -, hts⟩ := h
    exact nodesS_short hts)
  have HRO := Lib.hid (fun w' (h' : TrAt w' g S) => sroot_any w' h')
  unfold ptr at HRO
  obtain ⟨NS, hNS⟩ : ∃ NS, nodesS S = NS := ⟨_, rfl⟩
  rw [hNS] at HNO HNL HSH ⊢
  obtain ⟨RS, hRS⟩ : ∃ RS, rootS S = RS := ⟨_, rfl⟩
  rw [hRS] at HRO ⊢
  clear h hs hT hNS hRS
  go_enter Tryz.func43, Tryz.ntmps43
  go_wp2_with fail
  refine HNO.out.mono ?_
  rintro e w1 ⟨z, rfl, o1, hb1⟩
  have HO1 := Lib.hid o1
  have HB1 := Lib.hid hb1
  have HT1 := Lib.hid (HT.out.below hb1)
  have HS1 := Lib.hid (HS.out.below hb1)
  have HH1 := Lib.hid (HH.out.below hb1)
  have HNC : Hid (∀ w', Out (fun j => j = ms) w1 w' → ∀ k cs t f, k = ms → w1.heap[k]? ≠ some (.cells cs t f)) := Lib.hid (fun _ _ k cs t f e => HS1.out.map.no_cells k cs t f e)
  obtain ⟨A, cap, rfl⟩ := own_form o1
  clear o1 hb1
  go_wp2
  go_loopw [10] (fun iv wr => ∃ k : Nat, k ≤ NS.length ∧ iv = .int .i64 k ∧ StoreAt wr gs ms (putAll st (NS.take k)) ∧ Out (fun j => j = ms) w1 wr) (fun i _ => NS.length - (intOf i).toNat)
  case atStart => exact ⟨0, Nat.zero_le _, rfl, HS1.out, Out.refl _ _⟩
  case round =>
    obtain ⟨k, hk, rfl, hst, hou⟩ := hrel
    have HST := Lib.hid hst
    have HOU := Lib.hid hou
    by_cases hlt : k < NS.length
    · have h1 : (k : Int) < (NS.length : Int) := by omega
      have h0 : (0 : Int) ≤ (k : Int) := by omega
      have hnb : (k : Int) ≤ 100000 := by have := HNL.out; omega
      have hown : Own wr w.heap.size (.slice A NS.length cap) NS := row_out HO1.out hou (fun k cs t f e => HNC.out _ hou k cs t f e)
      obtain ⟨a, rfl, hcell⟩ := hown.strs_at (Below.refl _ wr) k hlt
      have HPT := Lib.hid (putAll_take (st := st) hlt)
      have HPU := Lib.hid (stput_any gs ms (putAll st (NS.take k)) NS[k] wr hst (tab_out HT1.out HS1.out.map hou) (by have := HSH.out _ (List.getElem_mem hlt); omega))
      unfold StPutPost at HPU
      rw [← HPT.out] at HPU
      obtain ⟨y, hy⟩ : ∃ y, NS[k] = y := ⟨_, rfl⟩
      rw [hy] at hcell HPU
      clear hst hou hown hy
      go_wp2_with fail
      refine HPU.out.mono ?_
      rintro e w2 ⟨rfl, hst2, hou2⟩
      have HST2 := Lib.hid hst2
      have HOU2 := Lib.hid (HOU.out.trans hou2)
      clear hst2 hou2 hcell
      go_wp2
      exact ⟨⟨k + 1, by omega, by go_num, HST2.out, HOU2.out⟩, by simp [intOf]; omega⟩
    · obtain rfl : k = NS.length := by omega
      have h1 : ¬ ((NS.length : Int) < (NS.length : Int)) := by omega
      rw [List.take_length] at HST
      have HTR := Lib.hid (HH1.out.out hou (fun cs t f => HS1.out.map.no_cells _ cs t f rfl))
      clear hst hou
      go_wp2_with fail
      refine (HRO.out _ HTR.out).mono ?_
      rintro e w2 ⟨rfl, hb2⟩
      have HST2 := Lib.hid (HST.out.below hb2)
      have HOU2 : Hid (Out (fun j => j = ms) w w2) := Lib.hid ((Out.of HB1.out).trans (HOU.out.trans (Out.of hb2)))
      clear hb2
      go_wp2
      go_ret
      exact ⟨rfl, HST2.out, HOU2.out⟩
end Go.Proofs.YtjfefphgikncnaaGreatDoor
namespace Go.Proofs.YtjfefphgikncnaaGreatDoor
open Go.RowKit
open Sto (T St)
open Tri (Tr Ok hb)
open Go.Proofs.YtjfefphgikncnaaGreatDoor.Nd (N)

/-- A loader in block d, over the store in block g, that has counted n items. -/
def LdAt (w : World) (d g n : Nat) : Prop := w.heap[d]? = some (.cells #[.pointer (some ⟨g, 0, none⟩), .int .i64 n] 125 (0, 0))
theorem LdAt.store {w : World} {d g n : Nat} (h : LdAt w d g n) : w.cell? ⟨d, 0, none⟩ = some (.pointer (some ⟨g, 0, none⟩)) := by rw [cell_of_row _ _ _ _ _ _ h]; rfl
theorem LdAt.num {w : World} {d g n : Nat} (h : LdAt w d g n) : w.cell? ⟨d, 1, none⟩ = some (.int .i64 n) := by rw [cell_of_row _ _ _ _ _ _ h]; rfl
theorem LdAt.free {w : World} {d g n : Nat} (h : LdAt w d g n) (i : Nat) : w.frozen? ⟨d, i, none⟩ = false := frozen_of_row _ _ _ _ _ h
theorem LdAt.below {w w' : World} {d g n : Nat} (h : LdAt w d g n) (hb : Below w.heap.size w w') : LdAt w' d g n := (hb.block d (lt_of_heap h)).trans h
theorem LdAt.set {w : World} {d g n : Nat} (h : LdAt w d g n) (m : Nat) : LdAt (w.setCell ⟨d, 1, none⟩ (.int .i64 m)) d g m := by
  have := heap_setCell_same w d 1 _ _ (.int .i64 m) h
  exact this
theorem LdAt.setNew {w : World} {d g n q : Nat} (h : LdAt w d g n) (hq : q ≠ d) (i : Nat) (v : Value) : LdAt (w.setCell ⟨q, i, none⟩ v) d g n := (heap_setCell_other w ⟨q, i, none⟩ d v (fun e => hq e.symm)).trans h
def LItemPost (p : T) (d g n : Nat) (w : World) (e : Ending) (w' : World) : Prop :=
  ∃ c : Int, e = .returned (.int .i64 c) ∧ Only d w w' ∧ ((c = 0 ∧ 1 ≤ p.length ∧ p.length % 2 = 0 ∧ n < 1024 ∧ LdAt w' d g (n + 1)) ∨ (c ≠ 0 ∧ LdAt w' d g n ∧ (p.length = 0 ∨ p.length % 2 = 1 ∨ n = 1024)))
set_option maxRecDepth 100000 in
set_option maxHeartbeats 1000000 in
theorem lditem_any {d g n : Nat} (p : T) (w : World) (h : LdAt w d g n) (hn : n ≤ 1024) (hp : p.length ≤ 1000) :
    Calls Tryz.prog 109 #[.pointer (some ⟨d, 0, none⟩), .string ⟨p.toArray⟩] w (LItemPost p d g n w) := by
  have HH := Lib.hid h
  have HP : Hid (∀ (c : Int) (w' : World), Only d w w' → ((c = 0 ∧ 1 ≤ p.length ∧ p.length % 2 = 0 ∧ n < 1024 ∧ LdAt w' d g (n + 1)) ∨ (c ≠ 0 ∧ LdAt w' d g n ∧ (p.length = 0 ∨ p.length % 2 = 1 ∨ n = 1024))) → LItemPost p d g n w (.returned (.int .i64 c)) w') := Lib.hid (fun c w' a b => ⟨c, rfl, a, b⟩)
  by_cases h0 : p = []
  · have HX : Hid (p.length = 0) := Lib.hid (by rw [h0]; rfl)
    have h1 : (p == []) = true := beq_iff_eq.2 h0
    have h2 : p.isEmpty = true := by rw [h0]; rfl
    clear h h0
    go_enter Tryz.func109, Tryz.ntmps109
    go_wp2
    go_ret
    exact HP.out 4 w (Only.refl _ _) (Or.inr ⟨by decide, HH.out, Or.inl HX.out⟩)
  have h1 : (p == []) = false := by rw [beq_eq_false_iff_ne]; exact h0
  have h2 : p.isEmpty = false := by cases p <;> simp_all
  have hp1 : 1 ≤ p.length := List.length_pos_iff.2 h0
  rcases Nat.mod_two_eq_zero_or_one p.length with hm | hm
  case inr =>
    have r1 : (p.length : Int) % 2 = 1 := by omega
    have r2 : (p.length : Int).tmod 2 = 1 := by rw [Int.tmod_eq_emod_of_nonneg (by omega)]; exact r1
    have HX : Hid (p.length % 2 = 1) := Lib.hid hm
    clear h h0 hm
    go_enter Tryz.func109, Tryz.ntmps109
    go_wp2
    go_ret
    exact HP.out 4 w (Only.refl _ _) (Or.inr ⟨by decide, HH.out, Or.inr (Or.inl HX.out)⟩)
  have r1 : (p.length : Int) % 2 = 0 := by omega
  have r2 : (p.length : Int).tmod 2 = 0 := by rw [Int.tmod_eq_emod_of_nonneg (by omega)]; exact r1
  have HX : Hid (1 ≤ p.length ∧ p.length % 2 = 0) := Lib.hid ⟨hp1, hm⟩
  have c1 := h.num
  have f1 := h.free 1
  by_cases hn2 : n = 1024
  · have n1 : ((n : Int) == 1024) = true := by rw [beq_iff_eq]; omega
    have n2 : (n : Int) = 1024 := by omega
    have HN2 := Lib.hid hn2
    clear h h0 hm hp1 hn hn2
    go_enter Tryz.func109, Tryz.ntmps109
    go_wp2
    go_ret
    exact HP.out 2 w (Only.refl _ _) (Or.inr ⟨by decide, HH.out, Or.inr (Or.inr HN2.out)⟩)
  have n1 : ((n : Int) == 1024) = false := by rw [beq_eq_false_iff_ne]; omega
  have n2 : ¬ ((n : Int) = 1024) := by omega
  have n3 : IntKind.i64.wrap ((n : Int) + 1) = (n : Int) + 1 := IntWalk.i64_in _ (by omega)
  have HN : Hid (n < 1024) := Lib.hid (by omega)
  have HE : Hid (((n + 1 : Nat) : Int) = (n : Int) + 1) := Lib.hid (by omega)
  clear h h0 hm hp1 hn hn2
  go_enter Tryz.func109, Tryz.ntmps109
  go_wp2
  go_ret
  refine HP.out 0 _ ((Only.refl d w).setCell (p := ⟨d, 1, none⟩) rfl _) (Or.inl ⟨rfl, HX.out.1, HX.out.2, HN.out, ?_⟩)
  have := HH.out.set (n + 1)
  rw [HE.out] at this
  exact this
def Fm.up (B : Nat) : Fm := fun _ g => B ≤ g
theorem PAt.up {w w' : World} {B : Nat} {s : Bool} {t : Tr} {v : Value} (h : PAt w (Fm.up B) s t v) (ho : ∀ g, B ≤ g → g < w.heap.size → w'.heap[g]? = w.heap[g]?) : PAt w' (Fm.up B) s t v :=
  h.change (fun _ _ _ h => h) fun g _ _ _ _ _ _ hg hr => (ho g hg (lt_of_heap hr)).trans hr
theorem PAt.upOnly {w w' : World} {B d : Nat} {s : Bool} {t : Tr} {v : Value} (h : PAt w (Fm.up B) s t v) (ho : Only d w w') (hd : d < B) : PAt w' (Fm.up B) s t v :=
  h.up fun g hg hlt => ho.block g hlt (by omega)
theorem PAt.upMono {w : World} {B C : Nat} {s : Bool} {t : Tr} {v : Value} (h : PAt w (Fm.up B) s t v) (hc : C ≤ B) : PAt w (Fm.up C) s t v := h.imp fun _ _ _ hg => Nat.le_trans hc hg
/-- What part answers: the trie that stands there, or a code. -/
def PartPost (S : St) (sum place : T) (inE : Bool) (d g n : Nat) (w : World) (e : Ending) (w' : World) : Prop :=
  ∃ (z : Value) (c : Int) (n' : Nat), e = .returned (.tuple #[z, .int .i64 c]) ∧ LdAt w' d g n' ∧ Only d w w' ∧ n' ≤ 1024 ∧
    ((c = 0 ∧ ∃ t, Loaded S sum place inE t ∧ PAt w' (Fm.up w.heap.size) true t z ∧ n' = n + t.items.length) ∨ (c ≠ 0 ∧ z = nilp ∧ ∀ t, Loaded S sum place inE t → 1024 < n + t.items.length))
def PartIs (S : St) (d g m : Nat) (f : Nat) : Prop := ∀ (sum place : T) (inE : Bool) (n : Nat) (w : World), 16 - place.length < f → place.length ≤ 16 → sum.length ≤ 32 → n ≤ 1024 → LdAt w d g n → StoreAt w g m S →
  Calls Tryz.prog 80 #[.pointer (some ⟨d, 0, none⟩), .string ⟨sum.toArray⟩, .string ⟨place.toArray⟩, .bool inE] w (PartPost S sum place inE d g n w)
set_option maxRecDepth 100000 in
set_option maxHeartbeats 1000000 in
theorem ldkid_any {S : St} {d g m f : Nat} (IH : PartIs S d g m f) (kind : Nat) (sum place : T) (n : Nat) (w : World) (hf : place.length ≤ 16 → 16 - place.length < f) (hpl : place.length ≤ 1000) (hs : sum.length ≤ 32) (hn : n ≤ 1024) (hL : LdAt w d g n) (hS : StoreAt w g m S) :
    Calls Tryz.prog 110 #[.pointer (some ⟨d, 0, none⟩), .int .i64 kind, .string ⟨sum.toArray⟩, .string ⟨place.toArray⟩] w (PartPost S sum place (decide (kind = 2)) d g n w) := by
  by_cases hp : place.length ≤ 16
  · have q1 : ¬ ((place.length : Int) > 16) := by omega
    have q2 : decide ((16 : Int) < (place.length : Int)) = false := decide_eq_false (by omega)
    have q3 : decide (16 < place.length) = false := decide_eq_false (by omega)
    have q4 : ¬ (16 < place.length) := by omega
    have HI := Lib.hid (IH sum place (decide (kind = 2)) n w (hf hp) hp hs hn hL hS)
    clear IH hf hs hn hL hS hp
    by_cases h2 : kind = 2
    · have k1 : ((kind : Int) == 2) = true := by rw [beq_iff_eq]; omega
      have k2 : (kind : Int) = 2 := by omega
      rw [decide_eq_true h2] at HI ⊢
      clear h2
      go_enter Tryz.func110, Tryz.ntmps110
      go_wp2_with fail
      refine HI.out.mono ?_
      rintro e w1 ⟨z, c, n', rfl, r⟩
      have HR := Lib.hid r
      clear r
      go_wp2
      go_ret2
      exact ⟨z, c, n', rfl, HR.out⟩
    · have k1 : ((kind : Int) == 2) = false := by rw [beq_eq_false_iff_ne]; omega
      have k2 : ¬ ((kind : Int) = 2) := by omega
      rw [decide_eq_false h2] at HI ⊢
      clear h2
      go_enter Tryz.func110, Tryz.ntmps110
      go_wp2_with fail
      refine HI.out.mono ?_
      rintro e w1 ⟨z, c, n', rfl, r⟩
      have HR := Lib.hid r
      clear r
      go_wp2
      go_ret2
      exact ⟨z, c, n', rfl, HR.out⟩
  · have q1 : (place.length : Int) > 16 := by omega
    have q2 : decide ((16 : Int) < (place.length : Int)) = true := decide_eq_true (by omega)
    have q3 : decide (16 < place.length) = true := decide_eq_true (by omega)
    have HP : Hid (PartPost S sum place (decide (kind = 2)) d g n w (.returned (.tuple #[.pointer none, .int .i64 4])) w) := Lib.hid ⟨nilp, 4, n, rfl, hL, Only.refl _ _, hn, Or.inr ⟨by decide, rfl, fun t ht => by have := ht.short; omega⟩⟩
    clear IH hf hs hn hL hS hp
    go_enter Tryz.func110, Tryz.ntmps110
    go_wp2
    go_ret2
    exact HP.out
end Go.Proofs.YtjfefphgikncnaaGreatDoor
