/- VerPrune, VersOk, TopVersionsWalk, TopVersionsDone, ShaLaid -/
import Derived.Test.YtjfefphgikncnaaGreatDoorPk23
import Derived.Test.YtjfefphgikncnaaGreatDoorPk14
import Derived.Test.YtjfefphgikncnaaGreatDoorPk21
import Derived.Test.YtjfefphgikncnaaGreatDoorRows
import Derived.Test.YtjfefphgikncnaaGreatDoorPk08
import Derived.Lib.LaidU8
import Derived.LaidMore
import Derived.Stop.Joined
import Derived.ProofKit
namespace Go.Proofs.YtjfefphgikncnaaGreatDoor
open Go.RowKit
open Sto (T St)

theorem goes_of {m : Ver.M} {b s la : Int} (h0 : 0 ≤ s) (hla : m.newest = la) : Ver.goesB m b s = true ↔ s < b ∧ s ≠ la := by
  unfold Ver.goesB
  rw [decide_eq_true_eq, ← hla]
  unfold Ver.M.newest
  cases m.last with
  | none => simp; omega
  | some y =>
    simp only [Option.getD_some, ne_eq, Option.some.injEq]
    exact ⟨fun h => ⟨h.1, fun e => h.2 e.symm⟩, fun h => ⟨h.1, fun e => h.2 e.symm⟩⟩
def heightsL (m : Ver.M) : List Int := m.vs.map (·.1)
def keptL (m : Ver.M) (b : Int) (done : List Int) : List T := (done.filter fun x => !Ver.goesB m b x).map m.findR
def goneN (m : Ver.M) (b : Int) (done : List Int) : Nat := (done.filter (Ver.goesB m b)).length
/-- Between two rounds. -/
structure PrAt (m : Ver.M) (b lo : Int) (done : List Int) (w wr : World) (g gs ms mr gt : Nat) (hz z : Value) : Prop where
  map : FnAt rootsMap wr mr (Ver.pruneF m b done)
  head : wr.heap[g]? = some (.cells #[.pointer (some ⟨gs, 0, none⟩), .map (some mr), .int .i64 m.newest, .pointer (some ⟨gt, 0, none⟩), .int .i64 (max lo b)] 79 (0, 0))
  store : StoreAt wr gs ms m.st
  ints : IntsO wr w.heap.size hz (heightsL m)
  own : Own wr w.heap.size z (keptL m b done)
  frame : Out (held g gs ms mr) w wr
/-- A text is appended: only the row's own block changes. -/
theorem app_oneF {w : World} {B : Nat} {z : Value} {L : List T} (x : T) (h : Own w B z L) (hl : L.length ≤ 100000) (hB : B ≤ w.heap.size) :
    ∃ g c w', (Builtin.append_ #[28, 28] 28 #[z, .slice (some ⟨w.heap.size, 0, none⟩) 1 1]).run Tryz.prog (w.alloc (.cells #[.string ⟨x.toArray⟩] 9)) = .ok (.slice (some ⟨g, 0, none⟩) (L.length + 1) c) w' ∧
      Own w' B (.slice (some ⟨g, 0, none⟩) (L.length + 1) c) (L ++ [x]) ∧ Out (fun k => z.ownBlock = some k) w w' := by
  have hv : Strs (w.alloc (.cells #[.string ⟨x.toArray⟩] 9)) (.slice (some ⟨w.heap.size, 0, none⟩) 1 1) [x] := by
    refine ⟨some ⟨w.heap.size, 0, none⟩, 1, rfl, fun i hi => ?_⟩
    obtain rfl : i = 0 := by simpa using hi
    refine ⟨_, rfl, ?_⟩
    exact cell_of_row _ _ 0 _ _ _ (heap_alloc_new w _)
  have hs : (w.alloc (.cells #[.string ⟨x.toArray⟩] 9)).ownsRow B 9 1 z L.length (scells L) := World.ownsRow.alloc h _
  obtain ⟨v', w', h1, h2, h3, _⟩ := append_strs hv hs (by simp; omega) (by simp; omega)
  have ho : Own w' B v' (L ++ [x]) := by
    unfold Own
    rw [List.length_append, scells_append]
    exact h2
  obtain ⟨g, c, e, _, _⟩ := World.ownsRow.form h2 (by simp)
  subst e
  exact ⟨g, c, w', h1, ho, (Out.alloc (Out.refl _ w) _).trans (Out.grown h3 (fun k e => e.symm ▸ rfl))⟩
theorem ints_keep {F : Nat → Prop} {w w' : World} {B : Nat} {z : Value} {L : List Int} (h : IntsO w B z L) (ho : Out F w w') (hF : ∀ k, F k → B ≤ k → ∀ cur, w.heap[k]? ≠ some (.cells cur 3 (0, 0))) : IntsO w' B z L := by
  refine ⟨h.1, ?_⟩
  rcases h.2 with h0 | ⟨g, cap, cur, hv, hB, hh, hr⟩
  · exact Or.inl h0
  · exact Or.inr ⟨g, cap, cur, hv, hB, ho.heap hh (fun e => hF g e hB cur hh), hr⟩
theorem kept_in {m : Ver.M} {b s : Int} {done : List Int} (h : Ver.goesB m b s = false) : keptL m b (done ++ [s]) = keptL m b done ++ [m.findR s] := by
  unfold keptL
  simp [h]
theorem kept_out {m : Ver.M} {b s : Int} {done : List Int} (h : Ver.goesB m b s = true) : keptL m b (done ++ [s]) = keptL m b done := by
  unfold keptL
  simp [h]
theorem gone_in {m : Ver.M} {b s : Int} {done : List Int} (h : Ver.goesB m b s = false) : goneN m b (done ++ [s]) = goneN m b done := by
  unfold goneN
  simp [h]
theorem gone_out {m : Ver.M} {b s : Int} {done : List Int} (h : Ver.goesB m b s = true) : goneN m b (done ++ [s]) = goneN m b done + 1 := by
  unfold goneN
  simp [h]
theorem goneN_le (m : Ver.M) (b : Int) (done : List Int) : goneN m b done ≤ done.length := List.length_filter_le _ _
theorem keptL_len (m : Ver.M) (b : Int) (done : List Int) : (keptL m b done).length ≤ done.length := by
  unfold keptL
  rw [List.length_map]
  exact List.length_filter_le _ _
/-- A height is kept: its root is appended. -/
theorem PrAt.kept {m : Ver.M} {b lo s : Int} {done : List Int} {w wr w5 : World} {g gs ms mr gt : Nat} {hz z z' : Value} (h : PrAt m b lo done w wr g gs ms mr gt hz z)
    (hold : ∀ k, held g gs ms mr k → k < w.heap.size) (hg : Ver.goesB m b s = false)
    (own5 : Own w5 w.heap.size z' (keptL m b done ++ [m.findR s])) (ho : Out (fun k => z.ownBlock = some k) wr w5) : PrAt m b lo (done ++ [s]) w w5 g gs ms mr gt hz z' := by
  have hb := own_blk h.own
  have hc := own_cells h.own
  have hn : ∀ k, held g gs ms mr k → ¬ (z.ownBlock = some k) := fun k hk e => by have := hold k hk; have := (hb k e).1; omega
  refine ⟨(FnAt.out h.map ho (hn mr (Or.inr (Or.inr (Or.inr rfl))))).congr (Ver.pruneF_in m b done s hg), ho.heap h.head (hn g (Or.inl rfl)), h.store.out ho (hn gs (Or.inr (Or.inl rfl))) (hn ms (Or.inr (Or.inr (Or.inl rfl)))), ints_keep h.ints ho (fun k e _ cur he => ?_), by rw [kept_in hg]; exact own5, ?_⟩
  · obtain ⟨cur2, q⟩ := hc k e
    rw [q] at he
    have := congrArg (fun o => o.map fun x => match x with | .cells _ t _ => t | _ => 0) he
    simp at this
  · exact ⟨ho.os.trans h.frame.os, ho.tape.trans h.frame.tape, ho.output.trans h.frame.output, Nat.le_trans h.frame.size ho.size, fun i hi hF => (ho.block i (Nat.lt_of_lt_of_le hi h.frame.size) (fun e => by have := (hb i e).1; omega)).trans (h.frame.block i hi hF)⟩
/-- A height goes. -/
theorem PrAt.drop {m : Ver.M} {b lo s : Int} {done : List Int} {w wr : World} {g gs ms mr gt : Nat} {hz z : Value} (h : PrAt m b lo done w wr g gs ms mr gt hz z)
    {lo0 : Int} (hh : VHeld w g gs ms mr gt lo0 m) (hs : (Lit.int .i64 s).wf = true) (hg : Ver.goesB m b s = true) :
    ∃ w', (∀ ty, (Builtin.delete_ #[77, 3] ty #[.map (some mr), .int .i64 s]).run Tryz.prog wr = .ok (.tuple #[]) w') ∧ PrAt m b lo (done ++ [s]) w w' g gs ms mr gt hz z := by
  obtain ⟨w', r1, r2, r3, _⟩ := FnAt.drop h.map Tryz.underlying77 (s := s) hs
  have hnc := FnAt.no_cells h.map
  refine ⟨w', r1, ⟨r2.congr (Ver.pruneF_out m b done s hg), r3.heap h.head (fun e => hnc g _ _ _ e h.head), h.store.out r3 (fun e => hnc gs _ _ _ e h.store.head) (fun e => hh.apart e.symm), ints_keep h.ints r3 (fun k e _ cur => hnc k cur _ _ e), by rw [kept_out hg]; exact row_out h.own r3 (fun k cs t f e => hnc k cs t f e), h.frame.trans (r3.mono fun k _ e => Or.inr (Or.inr (Or.inr e)))⟩⟩
theorem heights_take {m : Ver.M} {k : Nat} (h : k < (heightsL m).length) : (heightsL m).take (k + 1) = (heightsL m).take k ++ [(heightsL m)[k]] := List.take_succ_eq_append_getElem h
theorem height_new {m : Ver.M} (g : m.Good) {k : Nat} (h : k < (heightsL m).length) : (heightsL m)[k] ∉ (heightsL m).take k := fun e => by
  obtain ⟨i, hi, he⟩ := List.mem_iff_getElem.1 e
  rw [List.getElem_take] at he
  have hi' : i < k := by simp at hi; omega
  have hp := List.pairwise_iff_getElem.1 (Ver.heights_nodup g) i k (by exact Nat.lt_trans hi' h) h hi'
  exact hp he
set_option maxRecDepth 100000 in
set_option maxHeartbeats 2000000 in
theorem vprune_any {w : World} {g gs ms mr gt : Nat} {lo : Int} {m : Ver.M} (h : VHeld w g gs ms mr gt lo m) (b : Int) (hT : Tab w) (hl : m.vs.length ≤ 100) (hs : m.st.length ≤ 40000) :
    Calls Tryz.prog 13 #[ptr g, .int .i64 b] w fun e w' => e = .returned (.int .i64 ((m.vs.length - (m.prune b).vs.length : Nat) : Int)) ∧ VHeld w' g gs ms mr gt (max lo b) (m.prune b) ∧ Out (held g gs ms mr) w w' := by
  have c4 := h.c4
  have HH := Lib.hid h
  have hfz := frozen_of_row w g 4 _ _ h.head
  have hA := heap_setCell_same _ _ 4 _ _ (.int .i64 (max lo b)) h.head
  obtain ⟨wA, hwA⟩ : ∃ wA, w.setCell ⟨g, 4, none⟩ (.int .i64 (max lo b)) = wA := ⟨_, rfl⟩
  have hoA : Out (fun k => k = g) w wA := by rw [← hwA]; exact Out.setCell (F := fun k => k = g) (Out.refl _ w) (p := ⟨g, 4, none⟩) rfl _
  rw [hwA] at hA
  have hgs : gs ≠ g := fun e => by have h1 := h.store.head; rw [e, h.head] at h1; cases h1
  have hms : ms ≠ g := fun e => h.store.map.no_cells g _ _ _ e.symm h.head
  have hmr : mr ≠ g := fun e => FnAt.no_cells h.roots g _ _ _ e.symm h.head
  have hvA : VHeld wA g gs ms mr gt (max lo b) { m with low := max m.low b } := ⟨hA, h.store.out hoA hgs hms, h.roots.out hoA hmr, by show max (max lo b) 0 = max m.low b; have := h.low; omega, h.top.outB hoA (fun k hk => h.bare k (Or.inl hk)), ⟨h.good.rise, h.good.tree, h.good.fit, h.good.own, h.good.sto⟩, h.apart⟩
  have HHT := Lib.hid (vheights_any hvA hl)
  have HOA := Lib.hid hoA
  have HVA := Lib.hid hvA
  have HSL := Lib.hid hs
  have HVL := Lib.hid hl
  have HTT := Lib.hid hT
  unfold ptr at HHT
  unfold ptr
  clear h hT hA hoA hgs hms hmr hvA hs hl
  subst hwA
  go_enter Tryz.func13, Tryz.ntmps13
  go_wp2_with fail
  refine HHT.out.mono ?_
  rintro e w2 ⟨hz, rfl, hi2, hb2⟩
  have HK0 : Hid (PrAt m b lo [] w w2 g gs ms mr gt hz (.slice none 0 0)) := Lib.hid ⟨FnAt.congr (HVA.out.below hb2).roots (fun s => (Ver.pruneF_nil m b s).symm), (HVA.out.below hb2).head, (HVA.out.below hb2).store, ⟨by have := hi2.1; exact this, by
      rcases hi2.2 with q | ⟨g0, cap, cur, q1, q2, q3⟩
      · exact Or.inl q
      · exact Or.inr ⟨g0, cap, cur, q1, Nat.le_trans HOA.out.size q2, q3⟩⟩, Own.nil _ _, (HOA.out.mono fun k _ hk => Or.inl hk).trans (Out.of hb2)⟩
  obtain ⟨AH, capH, rfl⟩ := hi2.form
  have hln : (m.vs.map (·.1)).length = (heightsL m).length := rfl
  have hHL : (heightsL m).length = m.vs.length := List.length_map ..
  clear hi2 hb2 HHT hfz c4 HVA
  go_wp2
  go_loopw [5, 6, 21] (fun z s iv wr => ∃ k : Nat, k ≤ (heightsL m).length ∧ iv = .int .i64 k ∧ PrAt m b lo ((heightsL m).take k) w wr g gs ms mr gt (.slice AH (heightsL m).length capH) z ∧ s = .int .i64 (goneN m b ((heightsL m).take k) : Nat)) (fun _ _ i _ => (heightsL m).length - (intOf i).toNat)
  case atStart => exact ⟨0, Nat.zero_le _, rfl, HK0.out, rfl⟩
  case round =>
    obtain ⟨k, hk, rfl, hp, rfl⟩ := hrel
    have HP := Lib.hid hp
    have hHL : (heightsL m).length = m.vs.length := List.length_map ..
    have hnb : (heightsL m).length ≤ 100 := by have := HVL.out; omega
    have g0 : (0 : Int) ≤ (k : Int) := by omega
    have g2 : (k : Int) ≤ 100000 := by omega
    have hG : goneN m b ((heightsL m).take k) ≤ 100 := by have := goneN_le m b ((heightsL m).take k); have := List.length_take_le k (heightsL m); omega
    obtain ⟨G, hGe⟩ : ∃ G, goneN m b ((heightsL m).take k) = G := ⟨_, rfl⟩
    have HG := Lib.hid hGe
    rw [hGe] at hG
    rw [hGe]
    have hGb : (G : Int) ≤ 900000 := by omega
    have hG0 : (0 : Int) ≤ (G : Int) := by omega
    have HNB := Lib.hid hnb
    have hkd := hp.head
    clear HK0 hGe hHL
    by_cases hlt : k < (heightsL m).length
    · have g1 : (k : Int) < ((heightsL m).length : Int) := by omega
      obtain ⟨bb, oo, rfl, -, -, n0⟩ := hp.ints.at k hlt
      have HNW := Lib.hid (height_new HH.out.good hlt)
      have HTK := Lib.hid (heights_take hlt)
      have hmem : (heightsL m)[k] ∈ heightsL m := List.getElem_mem hlt
      obtain ⟨s, hse⟩ : ∃ s, (heightsL m)[k] = s := ⟨_, rfl⟩
      rw [hse] at HNW HTK n0 hmem
      obtain ⟨⟨y, I⟩, hy, hys⟩ := List.mem_map.1 hmem
      dsimp only at hys
      subst hys
      have hfit := HH.out.good.fit _ hy
      have hfind := (Ver.find_iff HH.out.good).2 hy
      have HWF := Lib.hid (wf_height hfit)
      obtain ⟨nw, hnw⟩ : ∃ nw, m.newest = nw := ⟨_, rfl⟩
      have HGO := Lib.hid (goes_of (b := b) hfit.1 hnw)
      rw [hnw] at hkd
      have d1 : wr.cell? ⟨g, 1, none⟩ = some (.map (some mr)) := by rw [cell_of_row _ _ _ _ _ _ hkd]; rfl
      have d2 : wr.cell? ⟨g, 2, none⟩ = some (.int .i64 nw) := by rw [cell_of_row _ _ _ _ _ _ hkd]; rfl
      have hlk : (Instr.lookup 77 (.map (some mr)) (.int .i64 y) false).run Tryz.prog wr = .ok (.agg #[.string ⟨(m.findR y).toArray⟩]) wr := by
        have h1 := FnAt.look hp.map Tryz.underlying77 (s := y) HWF.out false (zeroRoot wr)
        have h2 : Ver.pruneF m b ((heightsL m).take k) y = (m.find y).map rootS := by
          unfold Ver.pruneF
          rw [if_neg (fun e => HNW.out e.1)]
        rw [h2, findR_eq] at h1
        exact h1
      have HLT := Lib.hid hlt
      have HAP := Lib.hid (app_oneF (m.findR y) hp.own (by have := keptL_len m b ((heightsL m).take k); have := List.length_take_le k (heightsL m); omega) hp.frame.size)
      obtain ⟨R, hR⟩ : ∃ R, m.findR y = R := ⟨_, rfl⟩
      have HRR := Lib.hid hR
      have hfd : ∀ w, (Instr.field 84 (.agg #[.string ⟨R.toArray⟩]) 0).run Tryz.prog w = .ok (.string ⟨R.toArray⟩) w := fun w => by kernel_rfl
      rw [hR] at hlk HAP
      clear hp hkd hse hmem hy hfit hfind hnw hR hlt hnb hG
      by_cases hlb : y < b
      · by_cases hsl : y = nw
        · have HGF : Hid (Ver.goesB m b y = false) := Lib.hid (by
            rw [Bool.eq_false_iff]
            intro e
            exact (HGO.out.1 e).2 hsl)
          subst hsl
          have hsb : (y != y) = false := by simp
          obtain ⟨g5, c5, w5, r5, o5, b5⟩ := HAP.out
          have HR5 := Lib.hid r5
          have HP5 := Lib.hid (HP.out.kept HH.out.old HGF.out (by rw [HRR.out]; exact o5) b5)
          clear r5 o5 b5 HAP
          go_wp2_with (at_builtin; refine wpList_append_run rfl _ _ _ rfl u5 (.slice (some ⟨wr.heap.size, 0, none⟩) 1 1) _ (by rfl) (by rfl) HR5.out ?_)
          refine ⟨⟨k + 1, HLT.out, by go_num, by rw [HTK.out]; exact HP5.out, ?_⟩, by have := HLT.out; simp [intOf]; omega⟩
          rw [HTK.out, gone_in HGF.out, HG.out]
        · have hsb : (y != nw) = true := by rw [bne_iff_ne]; exact hsl
          have HGT : Hid (Ver.goesB m b y = true) := Lib.hid (HGO.out.2 ⟨hlb, hsl⟩)
          have hdr : ∃ w', (∀ ty, (Builtin.delete_ #[77, 3] ty #[.map (some mr), .int .i64 y]).run Tryz.prog wr = .ok (.tuple #[]) w') ∧ PrAt m b lo ((heightsL m).take k ++ [y]) w w' g gs ms mr gt (.slice (some ⟨bb, oo, none⟩) (heightsL m).length capH) u5 := HP.out.drop HH.out HWF.out HGT.out
          obtain ⟨w5, hrd, hp5⟩ := hdr
          have HRD := Lib.hid hrd
          have HP5 := Lib.hid hp5
          clear hrd hp5 HAP
          go_wp2_with (at_delete; refine wpList_delete_run rfl _ _ _ _ rfl (.map (some mr)) (.int .i64 y) (by rfl) (by rfl) HRD.out ?_)
          refine ⟨⟨k + 1, HLT.out, by go_num, by rw [HTK.out]; exact HP5.out, ?_⟩, by have := HLT.out; simp [intOf]; omega⟩
          rw [HTK.out, gone_out HGT.out, HG.out]
          go_num
      · have HGF : Hid (Ver.goesB m b y = false) := Lib.hid (by
          rw [Bool.eq_false_iff]
          intro e
          exact hlb (HGO.out.1 e).1)
        obtain ⟨g5, c5, w5, r5, o5, b5⟩ := HAP.out
        have HR5 := Lib.hid r5
        have HP5 := Lib.hid (HP.out.kept HH.out.old HGF.out (by rw [HRR.out]; exact o5) b5)
        clear r5 o5 b5 HAP
        go_wp2_with (at_builtin; refine wpList_append_run rfl _ _ _ rfl u5 (.slice (some ⟨wr.heap.size, 0, none⟩) 1 1) _ (by rfl) (by rfl) HR5.out ?_)
        refine ⟨⟨k + 1, HLT.out, by go_num, by rw [HTK.out]; exact HP5.out, ?_⟩, by have := HLT.out; simp [intOf]; omega⟩
        rw [HTK.out, gone_in HGF.out, HG.out]
    · obtain rfl : k = (heightsL m).length := by omega
      have g1 : ¬ (((heightsL m).length : Int) < ((heightsL m).length : Int)) := by omega
      rw [List.take_length] at hp HG HP
      have d0 : wr.cell? ⟨g, 0, none⟩ = some (.pointer (some ⟨gs, 0, none⟩)) := by rw [cell_of_row _ _ _ _ _ _ hkd]; rfl
      have HE := Lib.hid (Ver.sift_end HH.out.good (b := b) (Ver.heights_nodup HH.out.good) (fun x hx => (Ver.mem_heights HH.out.good x).1 hx) (fun x hx => (Ver.mem_heights HH.out.good x).2 (Ver.pruneF_le hx)))
      have HKP := Lib.hid (stkeep_any gs ms m.st _ u5 wr hp.store hp.own.strs (Nat.le_trans HSL.out (by decide)) (by have := keptL_len m b (heightsL m); omega) (fun x hx => by
        obtain ⟨y, _, rfl⟩ := List.mem_map.1 hx
        have := findR_short HH.out.good y
        omega))
      have hkl : Sto.keepL m.st (keptL m b (heightsL m)) = (m.prune b).st := HE.out.2.2
      unfold StKeepPost at HKP
      rw [hkl] at HKP
      clear hp hkd hkl hnb hG hlt hk
      go_wp2_with fail
      refine HKP.out.mono ?_
      rintro e w4 ⟨rfl, hs4, ho4⟩
      go_wp2
      go_ret
      have hgm : g ≠ ms := fun e => HH.out.store.map.no_cells g _ _ _ e HH.out.head
      refine ⟨by rw [← HE.out.2.1]; unfold goneN at HG; rw [← HG.out]; rfl, ⟨?_, hs4, FnAt.out (HP.out.map.congr HE.out.1) ho4 HH.out.apart, ?_, by rw [Ver.top_prune]; exact HH.out.top.outB (HP.out.frame.trans (ho4.mono fun k _ e => Or.inr (Or.inr (Or.inl e)))) HH.out.bare, HH.out.good.prune b, HH.out.apart⟩, HP.out.frame.trans (ho4.mono fun k _ e => Or.inr (Or.inr (Or.inl e)))⟩
      · have := ho4.heap HP.out.head hgm
        have e : (m.prune b).newest = m.newest := by unfold Ver.M.newest; rw [Ver.last_prune]
        rw [e]
        exact this
      · show max (max lo b) 0 = max m.low b
        have := HH.out.low
        omega
end Go.Proofs.YtjfefphgikncnaaGreatDoor
namespace Go.Proofs.YtjfefphgikncnaaGreatDoor
open Go.RowKit
open Sto (T St)

theorem vers_ok : VerOk VAt where
  part := fun ⟨gs, ms, mr, gt, lo, h, hF⟩ ho hG => by
    subst hF
    exact ⟨gs, ms, mr, gt, lo, h.part ho hG, rfl⟩
  old := fun ⟨gs, ms, mr, gt, lo, h, hF⟩ => by subst hF; exact h.old
  bare := fun ⟨gs, ms, mr, gt, lo, h, hF⟩ => by subst hF; exact h.bare
  good := fun ⟨gs, ms, mr, gt, lo, h, hF⟩ => h.good
  new := fun w _ => vnew_any w
  commit := fun {w F v m} x z C ⟨gs, ms, mr, gt, lo, h, hF⟩ hT hz hl _ _ _ => by
    subst hF
    refine (vcommit_any h x z C hT hz hl).mono ?_
    rintro e w' ⟨rfl, ⟨gt', h2⟩, h3, h4⟩
    exact ⟨rfl, _, ⟨gs, ms, mr, gt', lo, h2, rfl⟩, h3, fun k hk => Or.inl hk, h4⟩
  commitL := fun {w F v m} x z C ⟨gs, ms, mr, gt, lo, h, hF⟩ hT hz hl _ _ _ => by
    subst hF
    refine (vcommit_any h x z C hT hz hl).mono ?_
    rintro e w' ⟨rfl, ⟨gt', h2⟩, h3, h4⟩
    exact ⟨_, _, _, Ver.M.Com.of h.good x C, rfl, _, ⟨gs, ms, mr, gt', lo, h2, rfl⟩, h3, fun k hk => Or.inl hk, h4⟩
  root := fun x h0 hx ⟨gs, ms, mr, gt, lo, h, hF⟩ => vroot_any h x h0 hx
  at_ := fun x h0 hx ⟨gs, ms, mr, gt, lo, h, hF⟩ => vat_any h x h0 hx
  heights := fun ⟨gs, ms, mr, gt, lo, h, hF⟩ hl => vheights_any h hl
  prune := fun {w F v m} b ⟨gs, ms, mr, gt, lo, h, hF⟩ hT hl hs => by
    subst hF
    refine (vprune_any h b hT hl hs).mono ?_
    rintro e w' ⟨rfl, h2, h3⟩
    exact ⟨rfl, _, ⟨gs, ms, mr, gt, _, h2, rfl⟩, h3, fun k hk => Or.inl hk, hT.outside h3 (h.tab hT)⟩
  texts := fun ⟨gs, ms, mr, gt, lo, h, hF⟩ hs => vtexts_any h hs
end Go.Proofs.YtjfefphgikncnaaGreatDoor
namespace Go.Proofs.YtjfefphgikncnaaGreatDoor
open Go.RowKit
open Sto (T St)

/-- The versions are those of the heights from 0 on. -/
def Ranked (m : Ver.M) : Prop := ∀ j (h : j < m.vs.length), m.vs[j].1 = (j : Int)
theorem Ranked.com {m : Ver.M} (h : Ranked m) {D : St} (hc : m.comC m.vs.length D = 0) : Ranked (m.com m.vs.length D) := by
  intro j hj
  have e := com_vs hc
  have hl : (m.com m.vs.length D).vs.length = m.vs.length + 1 := by rw [e]; simp
  by_cases hlt : j < m.vs.length
  · have : (m.com m.vs.length D).vs[j] = m.vs[j] := by
      simp only [e]
      rw [List.getElem_append_left hlt]
    rw [this]
    exact h j hlt
  · have hje : j = m.vs.length := by omega
    subst hje
    have : (m.com m.vs.length D).vs[m.vs.length] = (((m.vs.length : Nat) : Int), Ver.chsS m.top D) := by
      simp only [e]
      rw [List.getElem_append_right (Nat.le_refl _)]
      simp
    rw [this]
theorem ranked_zero : Ranked .zero := fun j h => absurd h (by simp [Ver.M.zero])
/-- One that is left has its rank and its trie. -/
theorem Ranked.left {m : Ver.M} (h : Ranked m) {b : Int} {x : Int × St} (hx : x ∈ (m.prune b).vs) : ∃ j, ∃ (hj : j < (m.vs.map (·.2)).length), x.1 = (j : Int) ∧ (m.vs.map (·.2))[j] = x.2 := by
  obtain ⟨j, hj, e⟩ := List.mem_iff_getElem.1 ((Ver.upto_sub m.vs b).subset hx)
  refine ⟨j, by rw [List.length_map]; exact hj, ?_, ?_⟩
  · rw [← e]; exact h j hj
  · rw [List.getElem_map, e]
theorem clash_left {C D : List T} (h : Clash C) : Clash (C ++ D) := Prf.clash_mono (fun _ hx => List.mem_append_left _ hx) h
/-- Commit, whatever the changes' lengths. -/
def ComOk (VAt : World → (Nat → Prop) → Nat → Ver.M → Prop) : Prop := ∀ {w F v m} h z C, VAt w F v m → Tab w → ItLo w z C → C.length ≤ 100 → Calls Tryz.prog 14 #[ptr v, .int .i64 h, z] w fun e w' => e = .returned (.tuple #[.string ⟨(m.comR h C).toArray⟩, .int .i64 (m.comC h C)]) ∧ VNext VAt w F v (m.com h C) w'
set_option maxRecDepth 100000 in
set_option maxHeartbeats 8000000 in
theorem topVersions_walk {VAt : World → (Nat → Prop) → Nat → Ver.M → Prop} (HV : VerOk VAt)
    (HCO : ComOk VAt)
    (v : Value) (L : List St) (key : T) (below : Int) (w : World) (hv : VChs w v L) (hT : Tab w) :
    Calls Tryz.prog 8 #[v, .string ⟨key.toArray⟩, .int .i64 below] w fun e w' => e = .returned (.bool true) ∧ Below w.heap.size w w' := by
  have HWK := Lib.hid (keeps_any HV w hT)
  have HTT := Lib.hid hT
  have HVV := Lib.hid hv
  have HVO := Lib.hid HV
  have HCM : Hid (ComOk VAt) := Lib.hid HCO
  obtain ⟨A, cap, rfl⟩ := hv.form
  clear hv hT HV HCO
  go_enter Tryz.func8, Tryz.ntmps8
  go_wp2_with fail
  refine HWK.out.mono ?_
  rintro e w1 ⟨rfl, hb1⟩
  have HB1 := Lib.hid hb1
  clear hb1 HWK
  by_cases hl8 : 8 < L.length
  · have q1 : (L.length : Int) > 8 := by omega
    have q2 : decide ((8 : Int) < (L.length : Int)) = true := decide_eq_true (by omega)
    have q3 : decide (8 < L.length) = true := decide_eq_true hl8
    clear hl8
    go_wp2
    go_ret
    exact ⟨rfl, HB1.out⟩
  have q1 : ¬ ((L.length : Int) > 8) := by omega
  have q2 : decide ((8 : Int) < (L.length : Int)) = false := decide_eq_false (by omega)
  have q3 : decide (8 < L.length) = false := decide_eq_false hl8
  have HL8 : Hid (L.length ≤ 8) := Lib.hid (by omega)
  clear hl8
  by_cases hk0 : key = []
  · subst hk0
    go_wp2
    go_ret
    exact ⟨rfl, HB1.out⟩
  have k1 : (key == []) = false := beq_eq_false_iff_ne.2 hk0
  have k2 : key.isEmpty = false := by cases key <;> simp_all
  have k3 := List.length_pos_iff.2 hk0
  by_cases hk8 : 8 < key.length
  · have r1 : (key.length : Int) > 8 := by omega
    have r2 : decide ((8 : Int) < (key.length : Int)) = true := decide_eq_true (by omega)
    have r3 : decide (8 < key.length) = true := decide_eq_true hk8
    clear hk8 hk0
    go_wp2
    go_ret
    exact ⟨rfl, HB1.out⟩
  have r1 : ¬ ((key.length : Int) > 8) := by omega
  have r2 : decide ((8 : Int) < (key.length : Int)) = false := decide_eq_false (by omega)
  have r3 : decide (8 < key.length) = false := decide_eq_false hk8
  have HKY : Hid (Tri.keyed key = true) := Lib.hid (by simp [Tri.keyed]; omega)
  clear hk8 hk0 k3
  go_wp2_with fail
  refine (HVO.out.new w1 (HTT.out.below HB1.out)).mono ?_
  rintro e w2 ⟨g, F2, rfl, hv2, hF2, hb2⟩
  have HB2 := Lib.hid hb2
  have HV2 := Lib.hid hv2
  have HF2 := Lib.hid hF2
  clear hv2 hF2 hb2
  unfold ptr
  go_wp2_with fail
  refine (tnew_any w2).mono ?_
  rintro e w3 ⟨gn, rfl, tn, -, hb3⟩
  have HC1 : Hid (0 < w1.heap.size) := Lib.hid (HTT.out.below HB1.out).pos
  have HINIT : Hid (∃ F, ST VAt w1.heap.size g w3 .zero F gn (.slice none 0 0) (.slice none 0 0) [] [] [] ∧ SP 0 .zero [] true ∧ Below w1.heap.size w1 w3) := Lib.hid (by
    have hv3 := HVO.out.keep HV2.out hb3
    exact ⟨F2, ⟨hv3, HF2.out, ((HTT.out.below HB1.out).below HB2.out).below hb3, TrisAt.nil _ _, fun k hk => (by cases hk), tn, Own.nil _ _, fun k hk => (by cases hk)⟩, ⟨Ver.M.Sz.zero, by simp, fun x hx => (by cases hx), Ver.M.Has.zero, Or.inl rfl⟩, bchain HB2.out hb3⟩)
  clear hb3 tn q1 q2 q3 k1 k2 r1 r2 r3
  unfold ptr
  go_wp2
  go_loopw [8, 9, 10, 50] (fun tv wv nv iv wr => ∃ (i : Nat) (m : Ver.M) (F : Nat → Prop) (gn' : Nat) (C : List T), nv = .pointer (some ⟨gn', 0, none⟩) ∧ iv = .int .i64 i ∧ i ≤ L.length ∧ ST VAt w1.heap.size g wr m F gn' wv tv C (m.vs.map (·.2)) m.top ∧ SP i m C true ∧ Ranked m ∧ m.vs.length = i ∧ Below w1.heap.size w1 wr) (fun _ _ _ i _ => L.length - (intOf i).toNat)
  case atStart =>
    obtain ⟨F, h1, h2, h3⟩ := HINIT.out
    exact ⟨0, .zero, F, gn, [], rfl, rfl, Nat.zero_le _, h1, h2, ranked_zero, rfl, h3⟩
  case round =>
    obtain ⟨i, m, F, gn', C, rfl, rfl, hi, hsm, hsp, hrk, hvl, hbr⟩ := hrel
    have HSM := Lib.hid hsm
    have HSP := Lib.hid hsp
    have HBR := Lib.hid hbr
    have HRK := Lib.hid hrk
    have HVL := Lib.hid hvl
    have h10 := HL8.out
    clear hsm hsp hbr hrk hvl
    by_cases hlt : i < L.length
    · have g1 : (i : Int) < (L.length : Int) := by omega
      have g0 : (0 : Int) ≤ (i : Int) := by omega
      have g2 : (i : Int) ≤ 100000 := by omega
      have hvr := HVV.out.below HB1.out
      obtain ⟨bb, o, z, rfl, p0, pz⟩ := hvr.at i hlt
      have HZW := Lib.hid (fun w' (h : Below w1.heap.size w1 w') => pz.below h)
      have n0 := (HBR.out.cell (block_lt_of_cell p0)).trans p0
      have hz := pz.below HBR.out
      clear p0 pz hvr
      obtain ⟨D, hD⟩ : ∃ D, L[i] = D := ⟨_, rfl⟩
      rw [hD] at hz HZW
      have HA : Hid (Below wr.heap.size wr (wr.alloc (.cells #[z] 70))) := Lib.hid ((Below.refl _ wr).alloc (Nat.le_refl _) _)
      have HSA := Lib.hid (HSM.out.below HVO.out.toVerOkL HA.out)
      have HBA : Hid (Below w1.heap.size w1 (wr.alloc (.cells #[z] 70))) := Lib.hid (HBR.out.trans (HA.out.mono HBR.out.size))
      have HZA := Lib.hid (hz.below HA.out)
      obtain ⟨A2, cap2, rfl⟩ := hz.form
      have HLT := Lib.hid hlt
      have HI8 : Hid (i < 8) := Lib.hid (by omega)
      have HGD := Lib.hid (HVO.out.good HSA.out.at_)
      clear hz hD hlt h10 hi
      by_cases hd8 : 8 < D.length
      · have x1 : (D.length : Int) > 8 := by omega
        have x2 : decide ((8 : Int) < (D.length : Int)) = true := decide_eq_true (by omega)
        have x3 : decide (8 < D.length) = true := decide_eq_true hd8
        clear hd8
        go_wp2
        go_ret
        exact ⟨rfl, bchain HB1.out HBA.out⟩
      have x1 : ¬ ((D.length : Int) > 8) := by omega
      have x2 : decide ((8 : Int) < (D.length : Int)) = false := decide_eq_false (by omega)
      have x3 : decide (8 < D.length) = false := decide_eq_false hd8
      have HD8 : Hid (D.length ≤ 8) := Lib.hid (by omega)
      clear hd8
      have HCA := Lib.hid (HCM.out (i : Int) (.slice A2 D.length cap2) D HSA.out.at_ HSA.out.tab HZA.out (by have := HD8.out; omega))
      unfold ptr at HCA
      have HSZ := Lib.hid (HSP.out.com HGD.out (by have := HI8.out; omega) (x := (i : Int)) (D := D) (by have := HD8.out; omega))
      have HVS := Lib.hid (@com_vs m (i : Int) D)
      have HTC := Lib.hid (@Ver.top_com m (i : Int) D)
      have HRC : Hid (m.comC (i : Int) D = 0 → Ranked (m.com (i : Int) D)) := Lib.hid (fun h => by
        have := HVL.out
        rw [← this] at h ⊢
        exact HRK.out.com h)
      have HCT := Lib.hid (fun k (hk : k < D.length) (h0 : m.comC (i : Int) D = 0) => Ver.chsC_take m.top D k hk (Ver.M.comC_zero h0).2.2.2.2)
      have HOLD : Hid (∀ k, F k → k < wr.heap.size) := Lib.hid (HVO.out.old HSM.out.at_)
      have HACT : Hid (∀ w', Out F (wr.alloc (.cells #[.slice A2 D.length cap2] 70)) w' → w'.cell? ⟨wr.heap.size, 0, none⟩ = some (.slice A2 D.length cap2)) := Lib.hid (fun w' ho => by
        have ra := ho.heap (heap_alloc_new wr (.cells #[.slice A2 D.length cap2] 70)) (fun e => Nat.lt_irrefl _ (HOLD.out _ e))
        rw [cell_of_row _ _ 0 _ _ _ ra]; rfl)
      obtain ⟨c, hc⟩ : ∃ c, m.comC (i : Int) D = c := ⟨_, rfl⟩
      rw [hc] at HCA HSZ HVS HTC HRC HCT
      clear hc
      go_wp2_with fail
      refine HCA.out.mono ?_
      rintro e w5 ⟨rfl, hn⟩
      obtain ⟨F', hs, hb, hout⟩ := HSA.out.step HVO.out.toVerOkL hn HBA.out.size
      have HS5 := Lib.hid hs
      have HB5 := Lib.hid (HBA.out.trans hb)
      have HAC : Hid (∀ w', Below w5.heap.size w5 w' → w'.cell? ⟨wr.heap.size, 0, none⟩ = some (.slice A2 D.length cap2)) := Lib.hid (fun w' h' => HACT.out w' (hout.trans (Out.of h')))
      clear hn hs hb hout HACT HOLD x1 x2 x3
      by_cases hc0 : c = 0
      case neg =>
        have q4 : ((c : Int) != 0) = true := by rw [bne_iff_ne]; omega
        have q5 : ((c : Int) == 0) = false := by rw [beq_eq_false_iff_ne]; omega
        clear hc0
        go_wp2
        go_ret
        exact ⟨rfl, bchain HB1.out HB5.out⟩
      subst hc0
      have c5 := HAC.out w5 (Below.refl _ _)
      have HSE : Hid (ST VAt w1.heap.size g w5 (m.com (i : Int) D) F' gn' u9 u8 C (m.vs.map (·.2)) (Ver.chsS m.top (D.take 0))) := Lib.hid (by
        rw [List.take_zero]
        exact HS5.out)
      go_wp2
      obtain ⟨wo, rfl⟩ : ∃ y, y = wr := ⟨_, rfl⟩
      go_loopw [10, 72] (fun nv kv wr => ∃ (k gx : Nat), nv = .pointer (some ⟨gx, 0, none⟩) ∧ kv = .int .i64 k ∧ k ≤ D.length ∧ ST VAt w1.heap.size g wr (m.com (i : Int) D) F' gx u9 u8 C (m.vs.map (·.2)) (Ver.chsS m.top (D.take k)) ∧ Below w5.heap.size w5 wr) (fun _ k _ => D.length - (intOf k).toNat)
      case atStart => exact ⟨0, gn', rfl, rfl, Nat.zero_le _, HSE.out, Below.refl _ _⟩
      case round =>
        obtain ⟨k, gx, rfl, rfl, hk, hsk, hbk⟩ := hrel
        have HSK := Lib.hid hsk
        have HBK := Lib.hid hbk
        have hd10 := HD8.out
        by_cases hlk : k < D.length
        · have e1 : (k : Int) < (D.length : Int) := by omega
          have e0 : (0 : Int) ≤ (k : Int) := by omega
          have e2 : (k : Int) ≤ 100000 := by omega
          have hzk := HZW.out wr (HB5.out.trans (hbk.mono HB5.out.size))
          obtain ⟨b2, o2, rfl, m1, m2⟩ := hzk.at k hlk
          have HCK := Lib.hid (HCT.out k hlk trivial)
          have HTK := Lib.hid (Ver.chsS_take m.top D k hlk)
          obtain ⟨⟨x, y⟩, hx⟩ : ∃ p, D[k] = p := ⟨_, rfl⟩
          rw [hx] at m1 m2 HCK HTK
          dsimp only at m1 m2
          have HAI : Hid (Below wr.heap.size wr (wr.alloc (.cells #[.string ⟨x.toArray⟩, .string ⟨y.toArray⟩] 39))) := Lib.hid ((Below.refl _ wr).alloc (Nat.le_refl _) _)
          have HSI := Lib.hid (HSK.out.below HVO.out.toVerOkL HAI.out)
          have ra := heap_alloc_new wr (.cells #[.string ⟨x.toArray⟩, .string ⟨y.toArray⟩] 39)
          have HLK := Lib.hid hlk
          have HBI : Hid (∀ w', Below (wr.alloc (.cells #[.string ⟨x.toArray⟩, .string ⟨y.toArray⟩] 39)).heap.size (wr.alloc (.cells #[.string ⟨x.toArray⟩, .string ⟨y.toArray⟩] 39)) w' → Below w5.heap.size w5 w') := Lib.hid (fun w' h => HBK.out.trans ((HAI.out.trans (h.mono HAI.out.size)).mono HBK.out.size))
          obtain ⟨S, hS⟩ : ∃ S, Ver.chsS m.top (D.take k) = S := ⟨_, rfl⟩
          rw [hS] at HCK HTK HSI HSK
          clear hsk hbk hzk hx hlk hd10 hS
          by_cases hy : y = []
          · subst hy
            have HDE := Lib.hid (tdel_any x _ HSI.out.now HSI.out.tab)
            unfold TDelPost ptr nilp at HDE
            have HCS : Hid (Ver.chS S (x, []) = if (Tri.getC S x).2 = 0 then Tri.del S x else S) := Lib.hid (by simp [Ver.chS])
            obtain ⟨cd, hcd⟩ : ∃ cd, (Tri.getC S x).2 = cd := ⟨_, rfl⟩
            rw [hcd] at HDE HCS
            clear hcd
            go_wp2_with fail
            refine HDE.out.mono ?_
            rintro e w6 ⟨zz, rfl, h1, -, hb6⟩
            have HB6 := Lib.hid (HBI.out _ hb6)
            have HS6 := Lib.hid (HSI.out.below HVO.out.toVerOkL hb6)
            by_cases hw0 : cd = 0
            · obtain ⟨g', rfl, t6⟩ := h1 hw0
              subst hw0
              have HSN : Hid (ST VAt w1.heap.size g w6 (m.com (i : Int) D) F' g' u9 u8 C (m.vs.map (·.2)) (Ver.chsS m.top (D.take (k + 1)))) := Lib.hid (by
                rw [HTK.out, HCS.out, if_pos rfl]
                exact HS6.out.trie t6)
              clear h1 hb6 t6
              go_wp2
              go_roundw
              case rel => exact ⟨k + 1, g', rfl, by go_num, by have := HLK.out; omega, HSN.out, HB6.out⟩
              case measure => have := HLK.out; simp [intOf]; omega
            · have q5 : ((cd : Int) == 0) = false := by rw [beq_eq_false_iff_ne]; omega
              have HSN : Hid (ST VAt w1.heap.size g w6 (m.com (i : Int) D) F' gx u9 u8 C (m.vs.map (·.2)) (Ver.chsS m.top (D.take (k + 1)))) := Lib.hid (by
                rw [HTK.out, HCS.out, if_neg hw0]
                exact HS6.out)
              clear h1 hb6 hw0
              go_wp2
              go_roundw
              case rel => exact ⟨k + 1, gx, rfl, by go_num, by have := HLK.out; omega, HSN.out, HB6.out⟩
              case measure => have := HLK.out; simp [intOf]; omega
          · have y1 : (y == []) = false := beq_eq_false_iff_ne.2 hy
            have y2 : (y != []) = true := by rw [bne_iff_ne]; exact hy
            have y3 : y.isEmpty = false := by cases y <;> simp_all
            have HPU := Lib.hid (tput_any x y _ HSI.out.now HSI.out.tab)
            unfold TPutPost ptr nilp at HPU
            have hpc : Tri.putC S x y = 0 := by
              have := HCK.out
              simp [Ver.chC, hy] at this
              exact this
            have HCS : Hid (Ver.chS S (x, y) = Tri.put S x y) := Lib.hid (by simp [Ver.chS, hy])
            rw [hpc] at HPU
            clear hpc hy
            go_wp2_with fail
            refine HPU.out.mono ?_
            rintro e w6 ⟨zz, rfl, h1, -, hb6⟩
            obtain ⟨g', rfl, t6⟩ := h1 trivial
            have HB6 := Lib.hid (HBI.out _ hb6)
            have HS6 := Lib.hid (HSI.out.below HVO.out.toVerOkL hb6)
            have HSN : Hid (ST VAt w1.heap.size g w6 (m.com (i : Int) D) F' g' u9 u8 C (m.vs.map (·.2)) (Ver.chsS m.top (D.take (k + 1)))) := Lib.hid (by
              rw [HTK.out, HCS.out]
              exact HS6.out.trie t6)
            clear h1 hb6 t6
            go_wp2
            go_roundw
            case rel => exact ⟨k + 1, g', rfl, by go_num, by have := HLK.out; omega, HSN.out, HB6.out⟩
            case measure => have := HLK.out; simp [intOf]; omega
        · obtain rfl : k = D.length := by omega
          have e1 : ¬ ((D.length : Int) < (D.length : Int)) := by omega
          have HB6 := Lib.hid (HB5.out.trans (hbk.mono HB5.out.size))
          have HSF : Hid (ST VAt w1.heap.size g wr (m.com (i : Int) D) F' gx u9 u8 C (m.vs.map (·.2)) (m.com (i : Int) D).top) := Lib.hid (by
            have := HSK.out
            rw [List.take_length] at this
            rw [HTC.out trivial]
            exact this)
          have HVE : Hid ((m.com (i : Int) D).vs.map (·.2) = m.vs.map (·.2) ++ [(m.com (i : Int) D).top]) := Lib.hid (by rw [HTC.out trivial, HVS.out trivial]; simp)
          have HVN : Hid ((m.com (i : Int) D).vs.length = i + 1) := Lib.hid (by rw [HVS.out trivial]; simp [HVL.out])
          have HRN := Lib.hid (HRC.out trivial)
          have HPN := HSZ.out trivial
          rw [← HTC.out trivial] at HPN
          have HPF := Lib.hid HPN
          obtain ⟨wz', w7, hput, s7, b7⟩ := HSF.out.put HVO.out.toVerOkL (by rw [List.length_map, HVL.out]; have := HI8.out; omega) HB6.out.size HC1.out
          have HPUT := Lib.hid hput
          have HS7 : Hid (ST VAt w1.heap.size g w7 (m.com (i : Int) D) F' gx wz' u8 C ((m.com (i : Int) D).vs.map (·.2)) (m.com (i : Int) D).top) := Lib.hid (by rw [HVE.out]; exact s7)
          have HB7 := Lib.hid (HB6.out.trans b7)
          have HND := Lib.hid (snodes_any w7 s7.now)
          unfold TextsPost ptr at HND
          obtain ⟨n, hn⟩ : ∃ n, m.com (i : Int) D = n := ⟨_, rfl⟩
          rw [hn] at HS7 HND HPF HVN HRN
          clear s7 b7 hput hsk hbk HPN hn HSZ HVS HTC HSF HSE HS5 HVE HRC c5
          go_wp2_with (at_builtin; refine wpList_append_run rfl _ _ _ rfl u9 (.slice (some ⟨wr.heap.size, 0, none⟩) 1 1) _ (by rfl) (by rfl) HPUT.out ?_)
          refine HND.out.mono ?_
          rintro e w8 ⟨dz, rfl, hd8, hb8⟩
          have HS8 := Lib.hid (HS7.out.below HVO.out.toVerOkL hb8)
          have HB8 := Lib.hid (HB7.out.trans (hb8.mono HB7.out.size))
          obtain ⟨tz, w9, happ, s9, b9⟩ := HS8.out.app HVO.out.toVerOkL hd8.strs (by have := HPF.out.few; rw [List.length_append] at this; have := HI8.out; omega) HB8.out.size HC1.out
          have HS9 := Lib.hid s9
          have HB9 := Lib.hid (HB8.out.trans b9)
          have HAPP := Lib.hid happ
          clear hd8 hb8 s9 b9 happ
          go_wp2_with (at_builtin; refine wpList_append_run rfl _ _ _ rfl u8 dz _ (by rfl) (by rfl) HAPP.out ?_)
          go_roundw
          case rel => exact ⟨i + 1, n, F', gx, _, rfl, by go_num, by have := HLT.out; omega, HS9.out, HPF.out, HRN.out, HVN.out, HB9.out⟩
          case measure => have := HLT.out; simp [intOf]; omega
    · obtain rfl : i = L.length := by omega
      have g1 : ¬ ((L.length : Int) < (L.length : Int)) := by omega
      have HGD := Lib.hid (HVO.out.good HSM.out.at_)
      have HPR := Lib.hid (HVO.out.prune below HSM.out.at_ HSM.out.tab (by have := HVL.out; have := HL8.out; omega) (by have := HSP.out.size.st; have := HL8.out; omega))
      unfold ptr at HPR
      clear hlt hi h10
      go_wp2_with fail
      refine HPR.out.mono ?_
      rintro e w5 ⟨rfl, hn⟩
      obtain ⟨F', hs, hb, -⟩ := HSM.out.step HVO.out.toVerOkL hn HBR.out.size
      have HB5 := Lib.hid (HBR.out.trans hb)
      have HGN := Lib.hid (HGD.out.prune below)
      have HHN := Lib.hid (HSP.out.has.prune HGD.out below)
      have HLF := Lib.hid (fun (x : Int × St) (hx : x ∈ (m.prune below).vs) => HRK.out.left hx)
      have HNL : Hid ((m.prune below).vs.length ≤ 8) := Lib.hid (by
        have h1 : (m.prune below).vs.length ≤ m.vs.length := (Ver.upto_sub m.vs below).length_le
        have := HVL.out; have := HL8.out; omega)
      have HVN : Hid ((m.vs.map (·.2)).length = L.length) := Lib.hid (by rw [List.length_map]; exact HVL.out)
      have HS5 := Lib.hid hs
      obtain ⟨V, hV⟩ : ∃ V, m.vs.map (·.2) = V := ⟨_, rfl⟩
      obtain ⟨n, hnn⟩ : ∃ n, m.prune below = n := ⟨_, rfl⟩
      rw [hV] at HLF HVN HS5
      rw [hnn] at HGN HHN HLF HNL HS5
      clear hn hs hb hV hnn HPR
      have HHT := Lib.hid (HVO.out.heights HS5.out.at_ (by have := HNL.out; omega))
      unfold ptr at HHT
      obtain ⟨AW, capW, rfl⟩ := HS5.out.was.form
      go_wp2_with fail
      refine HHT.out.mono ?_
      rintro e wy ⟨hz, rfl, hh, hby⟩
      have HHZ := Lib.hid hh
      have HSY := Lib.hid (HS5.out.below HVO.out.toVerOkL hby)
      have HBY := Lib.hid (HB5.out.trans (hby.mono HB5.out.size))
      obtain ⟨AH, capH, rfl⟩ := hh.form
      have hl1 : (n.vs.map (·.1)).length = n.vs.length := List.length_map ..
      have HL1 := Lib.hid hl1
      rw [hl1] at HHZ
      clear hh hby hl1 HHT
      simp only [List.length_map]
      go_wp2
      go_loopw [114] (fun jv wr => ∃ j : Nat, jv = .int .i64 j ∧ j ≤ n.vs.length ∧ Below wy.heap.size wy wr) (fun j _ => n.vs.length - (intOf j).toNat)
      case atStart => exact ⟨0, rfl, Nat.zero_le _, Below.refl _ _⟩
      case round =>
        obtain ⟨j, rfl, hj, hbj⟩ := hrel
        have HBJ := Lib.hid hbj
        have hv11 := HNL.out
        have g3 : (0 : Int) ≤ (j : Int) := by omega
        have g4 : (j : Int) ≤ 100000 := by omega
        by_cases hlj : j < n.vs.length
        · have g5 : (j : Int) < (n.vs.length : Int) := by omega
          obtain ⟨b3, o3, rfl, n3⟩ : ∃ b3 o3, AH = some ⟨b3, o3, none⟩ ∧ wr.cell? ⟨b3, o3 + j, none⟩ = some (.int .i64 n.vs[j].1) := by
            obtain ⟨b3, o3, e, -, -, q⟩ := (HHZ.out.below hbj).at j (by rw [HL1.out]; exact hlj)
            rw [height_at n j hlj] at q
            exact ⟨b3, o3, e, q⟩
          have hXm : n.vs[j] ∈ n.vs := List.getElem_mem hlj
          obtain ⟨X, hX⟩ : ∃ X, n.vs[j] = X := ⟨_, rfl⟩
          rw [hX] at n3 hXm
          obtain ⟨jj, hjj, ex1, ex2⟩ := HLF.out X hXm
          have HSW := Lib.hid (HSY.out.below HVO.out.toVerOkL hbj)
          have HAT := Lib.hid (fun w' (h : Below wr.heap.size wr w') => HVO.out.at_ X.1 (HGN.out.fit X hXm).1 (wf_height (HGN.out.fit X hXm)) (HVO.out.keep HSW.out.at_ h))
          unfold AtPost at HAT
          rw [Ver.M.find_of HGN.out hXm] at HAT
          dsimp only at HAT
          unfold LoadPost ptr nilp at HAT
          have hfc : n.findC X.1 = 0 := by unfold Ver.M.findC; rw [Ver.M.find_of HGN.out hXm]; rfl
          have hfr : n.findR X.1 = rootS X.2 := by unfold Ver.M.findR; rw [Ver.M.find_of HGN.out hXm]
          have HRT : Hid (Calls Tryz.prog 19 #[.pointer (some ⟨g, 0, none⟩), .int .i64 X.1] wr fun e w'' => e = .returned (.tuple #[.string ⟨(rootS X.2).toArray⟩, .int .i64 0]) ∧ Below wr.heap.size wr w'') := Lib.hid ((HVO.out.root X.1 (HGN.out.fit X hXm).1 (wf_height (HGN.out.fit X hXm)) HSW.out.at_).mono fun e w'' ⟨e1, e2⟩ => ⟨by rw [e1, hfc, hfr]; rfl, e2⟩)
          have HFI := Lib.hid (fun S t h1 h2 h3 => fine_next HHN.out HGN.out hXm (S := S) (t := t) h1 h2 h3)
          have HFL := Lib.hid (fun hb => fine_lost HHN.out HGN.out hXm hb)
          obtain ⟨bw, gq, rfl, hcw, htq⟩ := HSW.out.was.at jj hjj
          rw [ex2] at htq
          have HQW : Hid (∀ w', Below wr.heap.size wr w' → w'.cell? ⟨bw, jj, none⟩ = some (.pointer (some ⟨gq, 0, none⟩)) ∧ TrAt w' gq X.2) := Lib.hid (fun w' h => ⟨(h.cell (block_lt_of_cell hcw)).trans hcw, htq.below h⟩)
          rw [ex1] at n3 HAT HRT
          obtain ⟨R, hR⟩ : ∃ R, rootS X.2 = R := ⟨_, rfl⟩
          have HRO : Hid (∀ gq w', TrAt w' gq X.2 → Calls Tryz.prog 20 #[.pointer (some ⟨gq, 0, none⟩)] w' fun e w'' => e = .returned (.string ⟨R.toArray⟩) ∧ Below w'.heap.size w' w'') := Lib.hid (fun gq w' h => by
            have := sroot_any w' h
            rw [hR] at this
            exact this)
          rw [hR] at HAT HRT HFI HFL
          have rr1 : (R == R) = true := beq_self_eq_true _
          have rr2 : (R != R) = false := by simp
          have HLJ := Lib.hid hlj
          have j0 : (0 : Int) ≤ (jj : Int) := by omega
          have j1 : ¬ ((jj : Int) ≥ (V.length : Int)) := by omega
          have j2 : (jj : Int) < (V.length : Int) := by omega
          have j3 : decide ((V.length : Int) ≤ (jj : Int)) = false := decide_eq_false (by omega)
          have j4 : decide (V.length ≤ jj) = false := decide_eq_false (by omega)
          clear hX hXm hfc hfr hR hlj hbj hv11 hcw htq ex1 ex2 hjj
          go_wp2_with fail
          refine HRT.out.mono ?_
          rintro e w6 ⟨rfl, hb6⟩
          have HB6 := Lib.hid hb6
          clear hb6 n3
          go_wp2_with fail
          refine (HAT.out w6 HB6.out).mono ?_
          rintro e w7 ⟨z, c, rfl, hb7, hcase⟩
          have HB7 := Lib.hid (bchain HB6.out hb7)
          have HCS : Hid ((c = 0 ∧ ∃ gt S t, z = .pointer (some ⟨gt, 0, none⟩) ∧ TrAt w7 gt S ∧ TrS S t ∧ rootS S = R ∧ (decide (S = X.2) = true ∨ Clash C)) ∨ (c ≠ 0 ∧ z = .pointer none ∧ Clash C)) := Lib.hid (by
            rcases hcase with ⟨h0, gt, S, t, h1, h2, h3, h4, h5⟩ | ⟨h0, h1, h2⟩
            · exact Or.inl ⟨h0, gt, S, t, h1, h2, h3, by rw [Prf.root_sum h3]; exact h4, HFI.out S t h3 h4 h5⟩
            · exact Or.inr ⟨h0, h1, HFL.out h2⟩)
          clear hb7 hcase
          obtain ⟨d7, t7⟩ := HQW.out w7 HB7.out
          have HT7 := Lib.hid t7
          clear t7
          go_wp2_with fail
          refine (HRO.out gq w7 HT7.out).mono ?_
          rintro e w8 ⟨rfl, hb8⟩
          have HB8 := Lib.hid (bchain HB7.out hb8)
          obtain ⟨d8, t8⟩ := HQW.out w8 HB8.out
          have HT8 := Lib.hid t8
          have H78 := Lib.hid hb8
          have HGE := Lib.hid (tget_any key w8 t8)
          obtain ⟨⟨G, gc⟩, hG⟩ : ∃ G, Tri.getC X.2 key = G := ⟨_, rfl⟩
          have HGG := Lib.hid hG
          rw [hG] at HGE
          dsimp only at HGE
          unfold ptr at HGE
          clear t8 hb8 d7 hG
          go_wp2_with fail
          refine HGE.out.mono ?_
          rintro e w9 ⟨rfl, hb9⟩
          have HB9 := Lib.hid (bchain HB8.out hb9)
          have H79 := Lib.hid (bchain H78.out hb9)
          have HBW : Hid (Below w1.heap.size w1 w9) := Lib.hid (HBY.out.trans ((bchain HBJ.out HB9.out).mono HBY.out.size))
          have HOW := Lib.hid ((HSW.out.below HVO.out.toVerOkL HB9.out).own)
          have HTAB := Lib.hid ((HSW.out.below HVO.out.toVerOkL HB9.out).tab)
          clear hb9 d8
          rcases HCS.out with ⟨rfl, gt, S, t, rfl, tt, hts, hrs, hS⟩ | ⟨hc0, rfl, hcl⟩
          case inr =>
            have q6 : (c != 0) = true := by rw [bne_iff_ne]; exact hc0
            have q7 : (c == 0) = false := beq_eq_false_iff_ne.2 hc0
            have HCL := Lib.hid hcl
            have HUN := Lib.hid (runlike_any C u8 w9 HOW.out.strs (by have := HSP.out.few; have := HL8.out; omega) HSP.out.short)
            unfold UnlikePost at HUN
            clear hcl hc0
            go_wp2_with fail
            refine HUN.out.mono ?_
            rintro e wl ⟨ub, rfl, hub, hbl⟩
            obtain rfl := hub HCL.out
            have HBL := Lib.hid (bchain HB1.out (bchain HBW.out hbl))
            clear hub hbl
            go_wp2
            go_ret
            exact ⟨rfl, HBL.out⟩
          have HTS := Lib.hid hts
          have HSX := Lib.hid hS
          have HTT9 := Lib.hid (tt.below H79.out)
          have HPR := Lib.hid (prove_any key w9 HTT9.out)
          unfold ProvePost ptr ProveC proveS at HPR
          rw [if_pos HKY.out, if_pos HKY.out] at HPR
          have HP17 := Lib.hid (Prf.trailS_few hts HKY.out)
          have HPS := Lib.hid (Prf.trailS_short hts key)
          have HVW := Lib.hid (Prf.verify_whole hts HKY.out)
          obtain ⟨P, hP⟩ : ∃ P, trailS S key = P := ⟨_, rfl⟩
          rw [hP] at HPR HP17 HPS HVW
          rw [hrs] at HVW
          clear tt hts hS hP hrs HCS
          go_wp2_with fail
          refine HPR.out.mono ?_
          rintro e wa ⟨zn, rfl, ho, hba⟩
          have HBA2 := Lib.hid (bchain HBW.out hba)
          have HPO := Lib.hid ho
          have HOA := Lib.hid (HOW.out.below hba)
          have HVE := Lib.hid (verify_any R key zn P wa (StrsC.of_own ho) (HTAB.out.below hba) (fun x hx => by have := HPS.out x hx; omega))
          rw [HVW.out] at HVE
          have HBYA : Hid (Below wy.heap.size wy wa) := Lib.hid (bchain (bchain HBJ.out HB9.out) hba)
          obtain ⟨⟨G2, gc2⟩, hG2⟩ : ∃ G, Tri.getC S key = G := ⟨_, rfl⟩
          have HG2 := Lib.hid hG2
          rw [hG2] at HVE
          dsimp only at HVE
          obtain ⟨b2, hb2⟩ : ∃ b, decide (gc2 = 0) = b := ⟨_, rfl⟩
          obtain ⟨b1, hb1'⟩ : ∃ b, decide (gc = 0) = b := ⟨_, rfl⟩
          have hgc : ((gc : Int) == 0) = b1 := by
            rw [← hb1']
            by_cases h : gc = 0
            · subst h; rfl
            · rw [decide_eq_false h, beq_eq_false_iff_ne]; omega
          have HEQ : Hid ((G2 = G ∧ b2 = b1) ∨ Clash C) := Lib.hid (by
            rcases HSX.out with h | h
            · have e := of_decide_eq_true h
              rw [e, HGG.out] at hG2
              injection hG2 with e1 e2
              exact Or.inl ⟨e1.symm, by rw [← hb2, ← hb1', e2]⟩
            · exact Or.inr h)
          rw [hb2] at HVE
          clear ho hba hG2 hb2 hb1'
          go_wp2_with fail
          refine HVE.out.mono ?_
          rintro e wb ⟨rfl, hbb⟩
          have HBB := Lib.hid (bchain HBA2.out hbb)
          have HBYB := Lib.hid (bchain HBYA.out hbb)
          have HPB := Lib.hid (HPO.out.below hbb)
          have HOB := Lib.hid (HOA.out.below hbb)
          clear hbb
          by_cases hok : G2 = G ∧ b2 = b1
          · obtain ⟨rfl, rfl⟩ := hok
            have y1 : (G2 == G2) = true := beq_self_eq_true _
            have y2 : (G2 != G2) = false := by simp
            have y3 : (b2 == b2) = true := beq_self_eq_true _
            have y4 : (b2 != b2) = false := by simp
            go_wp2
            go_roundw
            case rel => exact ⟨j + 1, by go_num, by have := HLJ.out; omega, HBYB.out⟩
            case measure => have := HLJ.out; simp [intOf]; omega
          have HCL : Hid (Clash C) := Lib.hid (HEQ.out.resolve_left hok)
          have HAP : Hid (∃ v9 wk, (Builtin.append_ #[28, 28] 28 #[u8, zn]).run Tryz.prog wb = .ok v9 wk ∧ Strs wk v9 (C ++ P) ∧ Below w1.heap.size w1 wk) := Lib.hid (by
            obtain ⟨v9, wk, h1, h2, h3, _⟩ := append_strs HPB.out.strs HOB.out (by have := HSP.out.few; have := HL8.out; have := HP17.out; omega) HBB.out.size
            have ho2 : Own wk w1.heap.size v9 (C ++ P) := by
              unfold Own
              rw [List.length_append, scells_append]
              exact h2
            exact ⟨v9, wk, h1, ho2.strs, HBB.out.trans ((Out.grown h3 (F := fun k => u8.ownBlock = some k) (fun k e => e.symm ▸ rfl)).below (fun k hk => (own_blk HOB.out k hk).1) HBB.out.size)⟩)
          by_cases hgg : G2 = G
          · have y3 : (b2 == b1) = false := by rw [beq_eq_false_iff_ne]; exact fun e => hok ⟨hgg, e⟩
            have y4 : (b2 != b1) = true := by rw [bne_iff_ne]; exact fun e => hok ⟨hgg, e⟩
            subst hgg
            have y1 : (G2 == G2) = true := beq_self_eq_true _
            have y2 : (G2 != G2) = false := by simp
            clear hok
            obtain ⟨v9, wk, hr9, hs9, hb9⟩ := HAP.out
            have HR9 := Lib.hid hr9
            have HUN := Lib.hid (runlike_any (C ++ P) v9 wk hs9 (by rw [List.length_append]; have := HSP.out.few; have := HL8.out; have := HP17.out; omega) (fun x hx => by
              rcases List.mem_append.1 hx with hx | hx
              · exact HSP.out.short x hx
              · exact HPS.out x hx))
            unfold UnlikePost at HUN
            have HBK := Lib.hid hb9
            clear hr9 hs9 hb9
            go_wp2_with (at_builtin; refine wpList_append_run rfl _ _ _ rfl u8 zn _ (by rfl) (by rfl) HR9.out ?_)
            refine HUN.out.mono ?_
            rintro e wl ⟨ub, rfl, hub, hbl⟩
            obtain rfl := hub (clash_left HCL.out)
            have HBL := Lib.hid (bchain HB1.out (bchain HBK.out hbl))
            clear hub hbl
            go_wp2
            go_ret
            exact ⟨rfl, HBL.out⟩
          · have y1 : (G2 == G) = false := beq_eq_false_iff_ne.2 hgg
            have y2 : (G2 != G) = true := by rw [bne_iff_ne]; exact hgg
            clear hok hgg
            obtain ⟨v9, wk, hr9, hs9, hb9⟩ := HAP.out
            have HR9 := Lib.hid hr9
            have HUN := Lib.hid (runlike_any (C ++ P) v9 wk hs9 (by rw [List.length_append]; have := HSP.out.few; have := HL8.out; have := HP17.out; omega) (fun x hx => by
              rcases List.mem_append.1 hx with hx | hx
              · exact HSP.out.short x hx
              · exact HPS.out x hx))
            unfold UnlikePost at HUN
            have HBK := Lib.hid hb9
            clear hr9 hs9 hb9
            go_wp2_with (at_builtin; refine wpList_append_run rfl _ _ _ rfl u8 zn _ (by rfl) (by rfl) HR9.out ?_)
            refine HUN.out.mono ?_
            rintro e wl ⟨ub, rfl, hub, hbl⟩
            obtain rfl := hub (clash_left HCL.out)
            have HBL := Lib.hid (bchain HB1.out (bchain HBK.out hbl))
            clear hub hbl
            go_wp2
            go_ret
            exact ⟨rfl, HBL.out⟩
        · obtain rfl : j = n.vs.length := by omega
          have g5 : ¬ ((n.vs.length : Int) < (n.vs.length : Int)) := by omega
          have HBZ := Lib.hid (HBY.out.trans (hbj.mono HBY.out.size))
          clear hbj hlj hv11
          go_wp2
          go_ret
          exact ⟨rfl, bchain HB1.out HBZ.out⟩
end Go.Proofs.YtjfefphgikncnaaGreatDoor
namespace Go.Proofs.YtjfefphgikncnaaGreatDoor
open Go.RowKit
open Sto (T St)

theorem com_ok : ComOk VAt := fun {w F v m} x z C hV hT hz hl => by
  obtain ⟨gs, ms, mr, gt, lo, h, hF⟩ := hV
  subst hF
  refine (vcommit_any h x z C hT hz hl).mono ?_
  rintro e w' ⟨rfl, ⟨gt', h2⟩, h3, h4⟩
  exact ⟨rfl, _, ⟨gs, ms, mr, gt', lo, h2, rfl⟩, h3, fun k hk => Or.inl hk, h4⟩
theorem topVersions_law (v : Value) (L : List St) (key : ByteArray) (b : Int) (w : World) (hv : VChs w v L) (_ : 0 ≤ L.length) (_ : key.size ≤ maxLen) (_ : (Lit.int .i64 b).wf = true) (hT : Tab w) :
    Calls Tryz.prog 8 #[v, .string key, .int .i64 b] w fun e w' => e = .returned (.bool true) ∧ Below w.heap.size w w' := by
  obtain ⟨k, rfl⟩ := bytes_list key
  exact topVersions_walk vers_ok com_ok v L k b w hv hT
end Go.Proofs.YtjfefphgikncnaaGreatDoor
namespace Go.Proofs.YtjfefphgikncnaaGreatDoor
open Go.ChangeShapes Go.WideShapes Go.ChangeAt Go.RowKit

theorem gK : Tryz.prog.globalNamed "pharos/sha.constants" = some 0 := by kernel_rfl
theorem tK : (Tryz.prog.globals[0]?).map (·.type) = some 225 := by kernel_rfl
theorem cK : Tryz.prog.cellsOf 225 = 64 := by kernel_rfl
theorem cW : Tryz.prog.cellsOf 167 = 1 := by kernel_rfl
def laidK : List (String × DataW Unit) := [("pharos/sha.constants", Rows.laid_pharos_sha_constants)]
theorem tab_of_laid {W : World} (h : laidMetH Tryz.prog laidK W) : Tab W := by
  rw [MakeChecks.laidMetH_plain _ _ _ (by kernel_rfl)] at h
  obtain ⟨g, t, cs, fuel, p, hg, hty, hvar, hd⟩ := Lib.laidMet.reads h (.head _)
  obtain rfl := Option.some.inj (gK.symm.trans hg)
  obtain rfl := Option.some.inj (tK.symm.trans hty)
  have hd' : DataW.trod (fun _ => ()) Tryz.prog W 0 (fun _ => true) false fuel 225 cs.toList = some (Lib.tabData .u32 Sha.kTab, p) := hd
  have hcs := Lib.cells_of_tab Tryz.underlying225 Tryz.underlying167 cW cK hd'
  intro i hi
  have hk : i < Sha.kTab.length := hi
  rw [World.var?_cell hg hvar i, ← Array.getElem?_toList, hcs]
  simp [hk]
/-- The door's own heap meets the condition. -/
theorem door_met (os : Os) (args : Array Value) : laidMetH Tryz.prog laidK ((World.doorLaid Tryz.prog 400 os).forCall (fun _ _ => 0) ⟨#[], args, []⟩).memory :=
  laidMetH_of_parts3 (fuel := 8) (laidMet_of_run' 8 (by kernel_rfl) (by kernel_rfl)) (by kernel_rfl) (by kernel_rfl)
end Go.Proofs.YtjfefphgikncnaaGreatDoor
