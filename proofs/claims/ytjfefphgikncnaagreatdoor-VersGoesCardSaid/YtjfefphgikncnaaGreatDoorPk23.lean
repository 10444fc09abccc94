/- VerPrune, VersOk, VersGoesWalk, VersDone, ShaLaid -/
import Derived.Test.YtjfefphgikncnaaGreatDoorPk22
import Derived.Test.YtjfefphgikncnaaGreatDoorPk14
import Derived.Test.YtjfefphgikncnaaGreatDoorPk20
import Derived.Test.YtjfefphgikncnaaGreatDoorRows
import Derived.Test.YtjfefphgikncnaaGreatDoorPk09
import Derived.Lib.LaidU8
import Derived.LaidMore
import Derived.Stop.Joined
import Derived.ProofKit
namespace Go.Proofs.YtjfefphgikncnaaGreatDoor
open Go.RowKit
open Sto (T St)

theorem goes_of {m : Ver.M} {b s la : Int} (h0 : 0 ≤ s) (hla : m.newest = la) : Ver.goesB m b s = true ↔ s < b ∧ s ≠ la := by
  unfold Ver.goesB
  rw [decide_eq_true_eq, ← hla]
  unfold Ver.M.newest
  cases m.last with
  | none => simp; omega
  | some y =>
    simp only [Option.getD_some, ne_eq, Option.some.injEq]
    exact ⟨fun h => ⟨h.1, fun e => h.2 e.symm⟩, fun h => ⟨h.1, fun e => h.2 e.symm⟩⟩
def heightsL (m : Ver.M) : List Int := m.vs.map (·.1)
def keptL (m : Ver.M) (b : Int) (done : List Int) : List T := (done.filter fun x => !Ver.goesB m b x).map m.findR
def goneN (m : Ver.M) (b : Int) (done : List Int) : Nat := (done.filter (Ver.goesB m b)).length
/-- Between two rounds. -/
structure PrAt (m : Ver.M) (b lo : Int) (done : List Int) (w wr : World) (g gs ms mr gt : Nat) (hz z : Value) : Prop where
  map : FnAt rootsMap wr mr (Ver.pruneF m b done)
  head : wr.heap[g]? = some (.cells #[.pointer (some ⟨gs, 0, none⟩), .map (some mr), .int .i64 m.newest, .pointer (some ⟨gt, 0, none⟩), .int .i64 (max lo b)] 79 (0, 0))
  store : StoreAt wr gs ms m.st
  ints : IntsO wr w.heap.size hz (heightsL m)
  own : Own wr w.heap.size z (keptL m b done)
  frame : Out (held g gs ms mr) w wr
/-- A text is appended: only the row's own block changes. -/
theorem app_oneF {w : World} {B : Nat} {z : Value} {L : List T} (x : T) (h : Own w B z L) (hl : L.length ≤ 100000) (hB : B ≤ w.heap.size) :
    ∃ g c w', (Builtin.append_ #[28, 28] 28 #[z, .slice (some ⟨w.heap.size, 0, none⟩) 1 1]).run Tryz.prog (w.alloc (.cells #[.string ⟨x.toArray⟩] 9)) = .ok (.slice (some ⟨g, 0, none⟩) (L.length + 1) c) w' ∧
      Own w' B (.slice (some ⟨g, 0, none⟩) (L.length + 1) c) (L ++ [x]) ∧ Out (fun k => z.ownBlock = some k) w w' := by
  have hv : Strs (w.alloc (.cells #[.string ⟨x.toArray⟩] 9)) (.slice (some ⟨w.heap.size, 0, none⟩) 1 1) [x] := by
    refine ⟨some ⟨w.heap.size, 0, none⟩, 1, rfl, fun i hi => ?_⟩
    obtain rfl : i = 0 := by simpa using hi
    refine ⟨_, rfl, ?_⟩
    exact cell_of_row _ _ 0 _ _ _ (heap_alloc_new w _)
  have hs : (w.alloc (.cells #[.string ⟨x.toArray⟩] 9)).ownsRow B 9 1 z L.length (scells L) := World.ownsRow.alloc h _
  obtain ⟨v', w', h1, h2, h3, _⟩ := append_strs hv hs (by simp; omega) (by simp; omega)
  have ho : Own w' B v' (L ++ [x]) := by
    unfold Own
    rw [List.length_append, scells_append]
    exact h2
  obtain ⟨g, c, e, _, _⟩ := World.ownsRow.form h2 (by simp)
  subst e
  exact ⟨g, c, w', h1, ho, (Out.alloc (Out.refl _ w) _).trans (Out.grown h3 (fun k e => e.symm ▸ rfl))⟩
theorem ints_keep {F : Nat → Prop} {w w' : World} {B : Nat} {z : Value} {L : List Int} (h : IntsO w B z L) (ho : Out F w w') (hF : ∀ k, F k → B ≤ k → ∀ cur, w.heap[k]? ≠ some (.cells cur 3 (0, 0))) : IntsO w' B z L := by
  refine ⟨h.1, ?_⟩
  rcases h.2 with h0 | ⟨g, cap, cur, hv, hB, hh, hr⟩
  · exact Or.inl h0
  · exact Or.inr ⟨g, cap, cur, hv, hB, ho.heap hh (fun e => hF g e hB cur hh), hr⟩
theorem kept_in {m : Ver.M} {b s : Int} {done : List Int} (h : Ver.goesB m b s = false) : keptL m b (done ++ [s]) = keptL m b done ++ [m.findR s] := by
  unfold keptL
  simp [h]
theorem kept_out {m : Ver.M} {b s : Int} {done : List Int} (h : Ver.goesB m b s = true) : keptL m b (done ++ [s]) = keptL m b done := by
  unfold keptL
  simp [h]
theorem gone_in {m : Ver.M} {b s : Int} {done : List Int} (h : Ver.goesB m b s = false) : goneN m b (done ++ [s]) = goneN m b done := by
  unfold goneN
  simp [h]
theorem gone_out {m : Ver.M} {b s : Int} {done : List Int} (h : Ver.goesB m b s = true) : goneN m b (done ++ [s]) = goneN m b done + 1 := by
  unfold goneN
  simp [h]
theorem goneN_le (m : Ver.M) (b : Int) (done : List Int) : goneN m b done ≤ done.length := List.length_filter_le _ _
theorem keptL_len (m : Ver.M) (b : Int) (done : List Int) : (keptL m b done).length ≤ done.length := by
  unfold keptL
  rw [List.length_map]
  exact List.length_filter_le _ _
/-- A height is kept: its root is appended. -/
theorem PrAt.kept {m : Ver.M} {b lo s : Int} {done : List Int} {w wr w5 : World} {g gs ms mr gt : Nat} {hz z z' : Value} (h : PrAt m b lo done w wr g gs ms mr gt hz z)
    (hold : ∀ k, held g gs ms mr k → k < w.heap.size) (hg : Ver.goesB m b s = false)
    (own5 : Own w5 w.heap.size z' (keptL m b done ++ [m.findR s])) (ho : Out (fun k => z.ownBlock = some k) wr w5) : PrAt m b lo (done ++ [s]) w w5 g gs ms mr gt hz z' := by
  have hb := own_blk h.own
  have hc := own_cells h.own
  have hn : ∀ k, held g gs ms mr k → ¬ (z.ownBlock = some k) := fun k hk e => by have := hold k hk; have := (hb k e).1; omega
  refine ⟨(FnAt.out h.map ho (hn mr (Or.inr (Or.inr (Or.inr rfl))))).congr (Ver.pruneF_in m b done s hg), ho.heap h.head (hn g (Or.inl rfl)), h.store.out ho (hn gs (Or.inr (Or.inl rfl))) (hn ms (Or.inr (Or.inr (Or.inl rfl)))), ints_keep h.ints ho (fun k e _ cur he => ?_), by rw [kept_in hg]; exact own5, ?_⟩
  · obtain ⟨cur2, q⟩ := hc k e
    rw [q] at he
    have := congrArg (fun o => o.map fun x => match x with | .cells _ t _ => t | _ => 0) he
    simp at this
  · exact ⟨ho.os.trans h.frame.os, ho.tape.trans h.frame.tape, ho.output.trans h.frame.output, Nat.le_trans h.frame.size ho.size, fun i hi hF => (ho.block i (Nat.lt_of_lt_of_le hi h.frame.size) (fun e => by have := (hb i e).1; omega)).trans (h.frame.block i hi hF)⟩
/-- A height goes. -/
theorem PrAt.drop {m : Ver.M} {b lo s : Int} {done : List Int} {w wr : World} {g gs ms mr gt : Nat} {hz z : Value} (h : PrAt m b lo done w wr g gs ms mr gt hz z)
    {lo0 : Int} (hh : VHeld w g gs ms mr gt lo0 m) (hs : (Lit.int .i64 s).wf = true) (hg : Ver.goesB m b s = true) :
    ∃ w', (∀ ty, (Builtin.delete_ #[77, 3] ty #[.map (some mr), .int .i64 s]).run Tryz.prog wr = .ok (.tuple #[]) w') ∧ PrAt m b lo (done ++ [s]) w w' g gs ms mr gt hz z := by
  obtain ⟨w', r1, r2, r3, _⟩ := FnAt.drop h.map Tryz.underlying77 (s := s) hs
  have hnc := FnAt.no_cells h.map
  refine ⟨w', r1, ⟨r2.congr (Ver.pruneF_out m b done s hg), r3.heap h.head (fun e => hnc g _ _ _ e h.head), h.store.out r3 (fun e => hnc gs _ _ _ e h.store.head) (fun e => hh.apart e.symm), ints_keep h.ints r3 (fun k e _ cur => hnc k cur _ _ e), by rw [kept_out hg]; exact row_out h.own r3 (fun k cs t f e => hnc k cs t f e), h.frame.trans (r3.mono fun k _ e => Or.inr (Or.inr (Or.inr e)))⟩⟩
theorem heights_take {m : Ver.M} {k : Nat} (h : k < (heightsL m).length) : (heightsL m).take (k + 1) = (heightsL m).take k ++ [(heightsL m)[k]] := List.take_succ_eq_append_getElem h
theorem height_new {m : Ver.M} (g : m.Good) {k : Nat} (h : k < (heightsL m).length) : (heightsL m)[k] ∉ (heightsL m).take k := fun e => by
  obtain ⟨i, hi, he⟩ := List.mem_iff_getElem.1 e
  rw [List.getElem_take] at he
  have hi' : i < k := by simp at hi; omega
  have hp := List.pairwise_iff_getElem.1 (Ver.heights_nodup g) i k (by exact Nat.lt_trans hi' h) h hi'
  exact hp he
set_option maxRecDepth 100000 in
set_option maxHeartbeats 2000000 in
theorem vprune_any {w : World} {g gs ms mr gt : Nat} {lo : Int} {m : Ver.M} (h : VHeld w g gs ms mr gt lo m) (b : Int) (hT : Tab w) (hl : m.vs.length ≤ 100) (hs : m.st.length ≤ 40000) :
    Calls Tryz.prog 13 #[ptr g, .int .i64 b] w fun e w' => e = .returned (.int .i64 ((m.vs.length - (m.prune b).vs.length : Nat) : Int)) ∧ VHeld w' g gs ms mr gt (max lo b) (m.prune b) ∧ Out (held g gs ms mr) w w' := by
  have c4 := h.c4
  have HH := Lib.hid h
  have hfz := frozen_of_row w g 4 _ _ h.head
  have hA := heap_setCell_same _ _ 4 _ _ (.int .i64 (max lo b)) h.head
  obtain ⟨wA, hwA⟩ : ∃ wA, w.setCell ⟨g, 4, none⟩ (.int .i64 (max lo b)) = wA := ⟨_, rfl⟩
  have hoA : Out (fun k => k = g) w wA := by rw [← hwA]; exact Out.setCell (F := fun k => k = g) (Out.refl _ w) (p := ⟨g, 4, none⟩) rfl _
  rw [hwA] at hA
  have hgs : gs ≠ g := fun e => by have h1 := h.store.head; rw [e, h.head] at h1; cases h1
  have hms : ms ≠ g := fun e => h.store.map.no_cells g _ _ _ e.symm h.head
  have hmr : mr ≠ g := fun e => FnAt.no_cells h.roots g _ _ _ e.symm h.head
  have hvA : VHeld wA g gs ms mr gt (max lo b) { m with low := max m.low b } := ⟨hA, h.store.out hoA hgs hms, h.roots.out hoA hmr, by show max (max lo b) 0 = max m.low b; have := h.low; omega, h.top.outB hoA (fun k hk => h.bare k (Or.inl hk)), ⟨h.good.rise, h.good.tree, h.good.fit, h.good.own, h.good.sto⟩, h.apart⟩
  have HHT := Lib.hid (vheights_any hvA hl)
  have HOA := Lib.hid hoA
  have HVA := Lib.hid hvA
  have HSL := Lib.hid hs
  have HVL := Lib.hid hl
  have HTT := Lib.hid hT
  unfold ptr at HHT
  unfold ptr
  clear h hT hA hoA hgs hms hmr hvA hs hl
  subst hwA
  go_enter Tryz.func13, Tryz.ntmps13
  go_wp2_with fail
  refine HHT.out.mono ?_
  rintro e w2 ⟨hz, rfl, hi2, hb2⟩
  have HK0 : Hid (PrAt m b lo [] w w2 g gs ms mr gt hz (.slice none 0 0)) := Lib.hid ⟨FnAt.congr (HVA.out.below hb2).roots (fun s => (Ver.pruneF_nil m b s).symm), (HVA.out.below hb2).head, (HVA.out.below hb2).store, ⟨by have := hi2.1; exact this, by
      rcases hi2.2 with q | ⟨g0, cap, cur, q1, q2, q3⟩
      · exact Or.inl q
      · exact Or.inr ⟨g0, cap, cur, q1, Nat.le_trans HOA.out.size q2, q3⟩⟩, Own.nil _ _, (HOA.out.mono fun k _ hk => Or.inl hk).trans (Out.of hb2)⟩
  obtain ⟨AH, capH, rfl⟩ := hi2.form
  have hln : (m.vs.map (·.1)).length = (heightsL m).length := rfl
  have hHL : (heightsL m).length = m.vs.length := List.length_map ..
  clear hi2 hb2 HHT hfz c4 HVA
  go_wp2
  go_loopw [5, 6, 21] (fun z s iv wr => ∃ k : Nat, k ≤ (heightsL m).length ∧ iv = .int .i64 k ∧ PrAt m b lo ((heightsL m).take k) w wr g gs ms mr gt (.slice AH (heightsL m).length capH) z ∧ s = .int .i64 (goneN m b ((heightsL m).take k) : Nat)) (fun _ _ i _ => (heightsL m).length - (intOf i).toNat)
  case atStart => exact ⟨0, Nat.zero_le _, rfl, HK0.out, rfl⟩
  case round =>
    obtain ⟨k, hk, rfl, hp, rfl⟩ := hrel
    have HP := Lib.hid hp
    have hHL : (heightsL m).length = m.vs.length := List.length_map ..
    have hnb : (heightsL m).length ≤ 100 := by have := HVL.out; omega
    have g0 : (0 : Int) ≤ (k : Int) := by omega
    have g2 : (k : Int) ≤ 100000 := by omega
    have hG : goneN m b ((heightsL m).take k) ≤ 100 := by have := goneN_le m b ((heightsL m).take k); have := List.length_take_le k (heightsL m); omega
    obtain ⟨G, hGe⟩ : ∃ G, goneN m b ((heightsL m).take k) = G := ⟨_, rfl⟩
    have HG := Lib.hid hGe
    rw [hGe] at hG
    rw [hGe]
    have hGb : (G : Int) ≤ 900000 := by omega
    have hG0 : (0 : Int) ≤ (G : Int) := by omega
    have HNB := Lib.hid hnb
    have hkd := hp.head
    clear HK0 hGe hHL
    by_cases hlt : k < (heightsL m).length
    · have g1 : (k : Int) < ((heightsL m).length : Int) := by omega
      obtain ⟨bb, oo, rfl, -, -, n0⟩ := hp.ints.at k hlt
      have HNW := Lib.hid (height_new HH.out.good hlt)
      have HTK := Lib.hid (heights_take hlt)
      have hmem : (heightsL m)[k] ∈ heightsL m := List.getElem_mem hlt
      obtain ⟨s, hse⟩ : ∃ s, (heightsL m)[k] = s := ⟨_, rfl⟩
      rw [hse] at HNW HTK n0 hmem
      obtain ⟨⟨y, I⟩, hy, hys⟩ := List.mem_map.1 hmem
      dsimp only at hys
      subst hys
      have hfit := HH.out.good.fit _ hy
      have hfind := (Ver.find_iff HH.out.good).2 hy
      have HWF := Lib.hid (wf_height hfit)
      obtain ⟨nw, hnw⟩ : ∃ nw, m.newest = nw := ⟨_, rfl⟩
      have HGO := Lib.hid (goes_of (b := b) hfit.1 hnw)
      rw [hnw] at hkd
      have d1 : wr.cell? ⟨g, 1, none⟩ = some (.map (some mr)) := by rw [cell_of_row _ _ _ _ _ _ hkd]; rfl
      have d2 : wr.cell? ⟨g, 2, none⟩ = some (.int .i64 nw) := by rw [cell_of_row _ _ _ _ _ _ hkd]; rfl
      have hlk : (Instr.lookup 77 (.map (some mr)) (.int .i64 y) false).run Tryz.prog wr = .ok (.agg #[.string ⟨(m.findR y).toArray⟩]) wr := by
        have h1 := FnAt.look hp.map Tryz.underlying77 (s := y) HWF.out false (zeroRoot wr)
        have h2 : Ver.pruneF m b ((heightsL m).take k) y = (m.find y).map rootS := by
          unfold Ver.pruneF
          rw [if_neg (fun e => HNW.out e.1)]
        rw [h2, findR_eq] at h1
        exact h1
      have HLT := Lib.hid hlt
      have HAP := Lib.hid (app_oneF (m.findR y) hp.own (by have := keptL_len m b ((heightsL m).take k); have := List.length_take_le k (heightsL m); omega) hp.frame.size)
      obtain ⟨R, hR⟩ : ∃ R, m.findR y = R := ⟨_, rfl⟩
      have HRR := Lib.hid hR
      have hfd : ∀ w, (Instr.field 84 (.agg #[.string ⟨R.toArray⟩]) 0).run Tryz.prog w = .ok (.string ⟨R.toArray⟩) w := fun w => by kernel_rfl
      rw [hR] at hlk HAP
      clear hp hkd hse hmem hy hfit hfind hnw hR hlt hnb hG
      by_cases hlb : y < b
      · by_cases hsl : y = nw
        · have HGF : Hid (Ver.goesB m b y = false) := Lib.hid (by
            rw [Bool.eq_false_iff]
            intro e
            exact (HGO.out.1 e).2 hsl)
          subst hsl
          have hsb : (y != y) = false := by simp
          obtain ⟨g5, c5, w5, r5, o5, b5⟩ := HAP.out
          have HR5 := Lib.hid r5
          have HP5 := Lib.hid (HP.out.kept HH.out.old HGF.out (by rw [HRR.out]; exact o5) b5)
          clear r5 o5 b5 HAP
          go_wp2_with (at_builtin; refine wpList_append_run rfl _ _ _ rfl u5 (.slice (some ⟨wr.heap.size, 0, none⟩) 1 1) _ (by rfl) (by rfl) HR5.out ?_)
          refine ⟨⟨k + 1, HLT.out, by go_num, by rw [HTK.out]; exact HP5.out, ?_⟩, by have := HLT.out; simp [intOf]; omega⟩
          rw [HTK.out, gone_in HGF.out, HG.out]
        · have hsb : (y != nw) = true := by rw [bne_iff_ne]; exact hsl
          have HGT : Hid (Ver.goesB m b y = true) := Lib.hid (HGO.out.2 ⟨hlb, hsl⟩)
          have hdr : ∃ w', (∀ ty, (Builtin.delete_ #[77, 3] ty #[.map (some mr), .int .i64 y]).run Tryz.prog wr = .ok (.tuple #[]) w') ∧ PrAt m b lo ((heightsL m).take k ++ [y]) w w' g gs ms mr gt (.slice (some ⟨bb, oo, none⟩) (heightsL m).length capH) u5 := HP.out.drop HH.out HWF.out HGT.out
          obtain ⟨w5, hrd, hp5⟩ := hdr
          have HRD := Lib.hid hrd
          have HP5 := Lib.hid hp5
          clear hrd hp5 HAP
          go_wp2_with (at_delete; refine wpList_delete_run rfl _ _ _ _ rfl (.map (some mr)) (.int .i64 y) (by rfl) (by rfl) HRD.out ?_)
          refine ⟨⟨k + 1, HLT.out, by go_num, by rw [HTK.out]; exact HP5.out, ?_⟩, by have := HLT.out; simp [intOf]; omega⟩
          rw [HTK.out, gone_out HGT.out, HG.out]
          go_num
      · have HGF : Hid (Ver.goesB m b y = false) := Lib.hid (by
          rw [Bool.eq_false_iff]
          intro e
          exact hlb (HGO.out.1 e).1)
        obtain ⟨g5, c5, w5, r5, o5, b5⟩ := HAP.out
        have HR5 := Lib.hid r5
        have HP5 := Lib.hid (HP.out.kept HH.out.old HGF.out (by rw [HRR.out]; exact o5) b5)
        clear r5 o5 b5 HAP
        go_wp2_with (at_builtin; refine wpList_append_run rfl _ _ _ rfl u5 (.slice (some ⟨wr.heap.size, 0, none⟩) 1 1) _ (by rfl) (by rfl) HR5.out ?_)
        refine ⟨⟨k + 1, HLT.out, by go_num, by rw [HTK.out]; exact HP5.out, ?_⟩, by have := HLT.out; simp [intOf]; omega⟩
        rw [HTK.out, gone_in HGF.out, HG.out]
    · obtain rfl : k = (heightsL m).length := by omega
      have g1 : ¬ (((heightsL m).length : Int) < ((heightsL m).length : Int)) := by omega
      rw [List.take_length] at hp HG HP
      have d0 : wr.cell? ⟨g, 0, none⟩ = some (.pointer (some ⟨gs, 0, none⟩)) := by rw [cell_of_row _ _ _ _ _ _ hkd]; rfl
      have HE := Lib.hid (Ver.sift_end HH.out.good (b := b) (Ver.heights_nodup HH.out.good) (fun x hx => (Ver.mem_heights HH.out.good x).1 hx) (fun x hx => (Ver.mem_heights HH.out.good x).2 (Ver.pruneF_le hx)))
      have HKP := Lib.hid (stkeep_any gs ms m.st _ u5 wr hp.store hp.own.strs (Nat.le_trans HSL.out (by decide)) (by have := keptL_len m b (heightsL m); omega) (fun x hx => by
        obtain ⟨y, _, rfl⟩ := List.mem_map.1 hx
        have := findR_short HH.out.good y
        omega))
      have hkl : Sto.keepL m.st (keptL m b (heightsL m)) = (m.prune b).st := HE.out.2.2
      unfold StKeepPost at HKP
      rw [hkl] at HKP
      clear hp hkd hkl hnb hG hlt hk
      go_wp2_with fail
      refine HKP.out.mono ?_
      rintro e w4 ⟨rfl, hs4, ho4⟩
      go_wp2
      go_ret
      have hgm : g ≠ ms := fun e => HH.out.store.map.no_cells g _ _ _ e HH.out.head
      refine ⟨by rw [← HE.out.2.1]; unfold goneN at HG; rw [← HG.out]; rfl, ⟨?_, hs4, FnAt.out (HP.out.map.congr HE.out.1) ho4 HH.out.apart, ?_, by rw [Ver.top_prune]; exact HH.out.top.outB (HP.out.frame.trans (ho4.mono fun k _ e => Or.inr (Or.inr (Or.inl e)))) HH.out.bare, HH.out.good.prune b, HH.out.apart⟩, HP.out.frame.trans (ho4.mono fun k _ e => Or.inr (Or.inr (Or.inl e)))⟩
      · have := ho4.heap HP.out.head hgm
        have e : (m.prune b).newest = m.newest := by unfold Ver.M.newest; rw [Ver.last_prune]
        rw [e]
        exact this
      · show max (max lo b) 0 = max m.low b
        have := HH.out.low
        omega
end Go.Proofs.YtjfefphgikncnaaGreatDoor
namespace Go.Proofs.YtjfefphgikncnaaGreatDoor
open Go.RowKit
open Sto (T St)

theorem vers_ok : VerOk VAt where
  part := fun ⟨gs, ms, mr, gt, lo, h, hF⟩ ho hG => by
    subst hF
    exact ⟨gs, ms, mr, gt, lo, h.part ho hG, rfl⟩
  old := fun ⟨gs, ms, mr, gt, lo, h, hF⟩ => by subst hF; exact h.old
  bare := fun ⟨gs, ms, mr, gt, lo, h, hF⟩ => by subst hF; exact h.bare
  good := fun ⟨gs, ms, mr, gt, lo, h, hF⟩ => h.good
  new := fun w _ => vnew_any w
  commit := fun {w F v m} x z C ⟨gs, ms, mr, gt, lo, h, hF⟩ hT hz hl _ _ _ => by
    subst hF
    refine (vcommit_any h x z C hT hz hl).mono ?_
    rintro e w' ⟨rfl, ⟨gt', h2⟩, h3, h4⟩
    exact ⟨rfl, _, ⟨gs, ms, mr, gt', lo, h2, rfl⟩, h3, fun k hk => Or.inl hk, h4⟩
  commitL := fun {w F v m} x z C ⟨gs, ms, mr, gt, lo, h, hF⟩ hT hz hl _ _ _ => by
    subst hF
    refine (vcommit_any h x z C hT hz hl).mono ?_
    rintro e w' ⟨rfl, ⟨gt', h2⟩, h3, h4⟩
    exact ⟨_, _, _, Ver.M.Com.of h.good x C, rfl, _, ⟨gs, ms, mr, gt', lo, h2, rfl⟩, h3, fun k hk => Or.inl hk, h4⟩
  root := fun x h0 hx ⟨gs, ms, mr, gt, lo, h, hF⟩ => vroot_any h x h0 hx
  at_ := fun x h0 hx ⟨gs, ms, mr, gt, lo, h, hF⟩ => vat_any h x h0 hx
  heights := fun ⟨gs, ms, mr, gt, lo, h, hF⟩ hl => vheights_any h hl
  prune := fun {w F v m} b ⟨gs, ms, mr, gt, lo, h, hF⟩ hT hl hs => by
    subst hF
    refine (vprune_any h b hT hl hs).mono ?_
    rintro e w' ⟨rfl, h2, h3⟩
    exact ⟨rfl, _, ⟨gs, ms, mr, gt, _, h2, rfl⟩, h3, fun k hk => Or.inl hk, hT.outside h3 (h.tab hT)⟩
  texts := fun ⟨gs, ms, mr, gt, lo, h, hF⟩ hs => vtexts_any h hs
end Go.Proofs.YtjfefphgikncnaaGreatDoor
namespace Go.Proofs.YtjfefphgikncnaaGreatDoor
open Go.RowKit
open Sto (T St)

theorem IntsO.outNew {F : Nat → Prop} {w w' : World} {B : Nat} {z : Value} {L : List Int} (h : IntsO w B z L) (ho : Out F w w') (hF : ∀ k, F k → k < B) : IntsO w' B z L := by
  refine ⟨h.1, ?_⟩
  rcases h.2 with h0 | ⟨g, cap, cur, hv, hB, hh, hr⟩
  · exact Or.inl h0
  · exact Or.inr ⟨g, cap, cur, hv, hB, ho.heap hh (fun e => by have := hF g e; omega), hr⟩

set_option maxRecDepth 100000 in
set_option maxHeartbeats 8000000 in
theorem versGoes_walk {VAt : World → (Nat → Prop) → Nat → Ver.M → Prop} (HV : VerOkL VAt) (v : Value) (L : List Ver.Act) (b : Int) (w : World) (hv : VActs w v L) (hT : Tab w) :
    Calls Tryz.prog 4 #[v, .int .i64 b] w fun e w' => e = .returned (.bool true) ∧ Below w.heap.size w w' := by
  have HWK := Lib.hid (vworks_any HV w hT)
  have HTT := Lib.hid hT
  have HVV := Lib.hid hv
  have HVO := Lib.hid HV
  obtain ⟨A, cap, rfl⟩ := hv.form
  clear hv hT HV
  go_enter Tryz.func4, Tryz.ntmps4
  go_wp2_with fail
  refine HWK.out.mono ?_
  rintro e w1 ⟨rfl, hb1⟩
  have HB1 := Lib.hid hb1
  clear hb1
  go_wp2_with fail
  have HLO := Lib.hid (vlong_any L _ w1 (HVV.out.below HB1.out))
  unfold LongPost at HLO
  refine HLO.out.mono ?_
  rintro e w1' ⟨lb, rfl, rfl, hfit⟩
  cases lb with
  | true =>
    go_wp2
    go_ret
    exact ⟨rfl, HB1.out⟩
  | false =>
  have HFT := Lib.hid (hfit rfl)
  clear hfit
  go_wp2_with fail
  refine (HVO.out.new w1 (HTT.out.below HB1.out)).mono ?_
  rintro e w2 ⟨g, F2, rfl, hv2, hF2, hb2⟩
  have HINIT : Hid (∃ F, VAt w2 F g .zero ∧ (∀ k, F k → w1.heap.size ≤ k) ∧ Ver.M.zero.Sw 0 ∧ Below w1.heap.size w1 w2 ∧ Tab w2) := Lib.hid ⟨F2, hv2, hF2, Ver.M.Sw.zero, hb2, (HTT.out.below HB1.out).below hb2⟩
  clear hv2 hF2 hb2
  unfold ptr
  go_wp2
  go_loopw [26] (fun iv wr => ∃ (i : Nat) (m : Ver.M) (F : Nat → Prop), iv = .int .i64 i ∧ i ≤ L.length ∧ VAt wr F g m ∧ (∀ k, F k → w1.heap.size ≤ k) ∧ m.Sw i ∧ Below w1.heap.size w1 wr ∧ Tab wr) (fun i _ => L.length - (intOf i).toNat)
  case atStart =>
    obtain ⟨F, h1, h2, h3, h4, h5⟩ := HINIT.out
    exact ⟨0, _, F, rfl, Nat.zero_le _, h1, h2, h3, h4, h5⟩
  case round =>
    obtain ⟨i, m, F, rfl, hi, hva, hF, hsz, hbr, htr⟩ := hrel
    have HVA := Lib.hid hva
    have HFF := Lib.hid hF
    have HSZ := Lib.hid hsz
    have HBR := Lib.hid hbr
    have HTR := Lib.hid htr
    clear hva hF hsz hbr htr
    have h10 := HFT.out.1
    by_cases hlt : i < L.length
    · have g1 : (i : Int) < (L.length : Int) := by omega
      have g0 : (0 : Int) ≤ (i : Int) := by omega
      have g2 : (i : Int) ≤ 100000 := by omega
      have hvr := HVV.out.below (bchain HB1.out HBR.out)
      obtain ⟨bb, o, z, rfl, n0, n1, n2, hz⟩ := hvr.at i hlt
      have HC := Lib.hid (HFT.out.2 L[i] (List.getElem_mem hlt))
      obtain ⟨C, hC⟩ : ∃ C, L[i].chg = C := ⟨_, rfl⟩
      obtain ⟨kd, hkd⟩ : ∃ x, L[i].kind = x := ⟨_, rfl⟩
      obtain ⟨ht, hht⟩ : ∃ x, L[i].height = x := ⟨_, rfl⟩
      rw [hC] at hz HC
      rw [hkd] at n0
      rw [hht] at n1
      have HA : Hid (Below wr.heap.size wr (wr.alloc (.cells #[.int .i64 kd, .int .i64 ht, z] 33))) := Lib.hid ((Below.refl _ wr).alloc (Nat.le_refl _) _)
      have HCM := Lib.hid (HVO.out.commitL ht z C (HVO.out.keep HVA.out HA.out) (HTR.out.below HA.out) (hz.below HA.out) (by have := HC.out.1; omega) (fun x hx => by have := HC.out.2 x hx; omega) (by have := HSZ.out.vs; omega) (by have := HSZ.out.st; omega))
      obtain ⟨A2, cap2, rfl⟩ := hz.form
      have HLT := Lib.hid hlt
      unfold ptr at HCM
      clear hvr hz hC hkd hht hlt
      go_wp2_with fail
      refine HCM.out.mono ?_
      rintro e w5 ⟨m2, c2, r2, hk2, rfl, hn⟩
      have HS2 := Lib.hid (hk2.sw HSZ.out)
      have HBN := Lib.hid (next_below hn (B := w1.heap.size) HFF.out (Nat.le_trans HBR.out.size HA.out.size))
      obtain ⟨F', h1, h2, h3, h4⟩ := hn
      have HFN : Hid (∀ k, F' k → w1.heap.size ≤ k) := Lib.hid (fun k hk => by
        rcases h3 k hk with h | h
        · exact HFF.out k h
        · exact Nat.le_trans HBR.out.size (Nat.le_trans HA.out.size h))
      have HV5 := Lib.hid h1
      have HT5 := Lib.hid h4
      clear h1 h2 h3 h4
      go_wp2
      refine ⟨⟨i + 1, _, F', by go_num, by have := HLT.out; omega, HV5.out, HFN.out, HS2.out, ?_, HT5.out⟩, by have := HLT.out; simp [intOf]; omega⟩
      exact (HBR.out.trans (HA.out.mono HBR.out.size)).trans HBN.out
    · obtain rfl : i = L.length := by omega
      have g1 : ¬ ((L.length : Int) < (L.length : Int)) := by omega
      have HGD := Lib.hid (HVO.out.good HVA.out)
      have hszv := HSZ.out.vs
      have hszs := HSZ.out.st
      have HMV : Hid (m.vs.length ≤ 10 ∧ m.st.length ≤ 30720) := Lib.hid ⟨by omega, by omega⟩
      obtain ⟨wl, rfl⟩ : ∃ y, y = wr := ⟨_, rfl⟩
      clear hlt hszv hszs hi
      go_wp2_with fail
      refine (HVO.out.heights HVA.out (by have := HMV.out.1; omega)).mono ?_
      rintro e w3 ⟨z1, rfl, hz1, hb3⟩
      have HB3 := Lib.hid hb3
      have HZ1 := Lib.hid hz1
      have HV3 := Lib.hid (HVO.out.keep HVA.out hb3)
      have HT3 := Lib.hid (HTR.out.below hb3)
      have HO3 := Lib.hid (HVO.out.old HVA.out)
      obtain ⟨A1, cap1, rfl⟩ := hz1.form
      clear hz1 hb3
      go_wp2_with fail
      refine (HVO.out.prune b HV3.out HT3.out (by have := HMV.out.1; omega) (by have := HMV.out.2; omega)).mono ?_
      rintro e w4 ⟨rfl, hn⟩
      have HB4 := Lib.hid (next_below hn (B := w1.heap.size) HFF.out (Nat.le_trans HBR.out.size HB3.out.size))
      obtain ⟨F', h1, h2, h3, h4⟩ := hn
      have HZ4 := Lib.hid (HZ1.out.outNew h2 HO3.out)
      have HFN : Hid (∀ k, F' k → w1.heap.size ≤ k) := Lib.hid (fun k hk => by
        rcases h3 k hk with h | h
        · exact HFF.out k h
        · exact Nat.le_trans HBR.out.size (Nat.le_trans HB3.out.size h))
      have HV4 := Lib.hid h1
      have HT4 := Lib.hid h4
      have HMP : Hid ((m.prune b).vs.length ≤ m.vs.length ∧ (m.prune b).st.length ≤ 30720) := Lib.hid ⟨Ver.upto_len _ _, by have := (HSZ.out.prune b).st; have := h10; omega⟩
      clear h1 h2 h3 h4
      go_wp2_with fail
      refine (HVO.out.heights HV4.out (by have := HMV.out.1; have := HMP.out.1; omega)).mono ?_
      rintro e w5 ⟨z2, rfl, hz2, hb5⟩
      have HB5 := Lib.hid hb5
      have HZ2 := Lib.hid hz2
      have HZ5 := Lib.hid (HZ4.out.below hb5)
      have HV5 := Lib.hid (HVO.out.keep HV4.out hb5)
      have HT5 := Lib.hid (HT4.out.below hb5)
      obtain ⟨A2, cap2, rfl⟩ := hz2.form
      have hl1 : (m.vs.map (·.1)).length = m.vs.length := List.length_map ..
      have hl2 : ((m.prune b).vs.map (·.1)).length = (m.prune b).vs.length := List.length_map ..
      have HL1 := Lib.hid hl1
      have HL2 := Lib.hid hl2
      rw [hl1] at HZ5
      rw [hl2] at HZ2 ⊢
      clear hz2 hb5 hl1 hl2
      go_wp2
      go_loopw [11, 46] (fun kv iv wr => ∃ i : Nat, i ≤ m.vs.length ∧ iv = .int .i64 i ∧ kv = .int .i64 ((Ver.upto m.vs b i).length : Nat) ∧ Below w5.heap.size w5 wr) (fun _ i _ => m.vs.length - (intOf i).toNat)
      case atStart => exact ⟨0, Nat.zero_le _, rfl, rfl, Below.refl _ _⟩
      case round =>
        obtain ⟨i, hi, rfl, rfl, hbx⟩ := hrel
        have HBX := Lib.hid hbx
        have hm10 := HMV.out.1
        have hk10 : (Ver.upto m.vs b i).length ≤ i := by
          unfold Ver.upto
          refine Nat.le_trans (List.length_filterMap_le _ _) (Nat.le_trans (List.length_filter_le _ _) ?_)
          simp
        have g0 : (0 : Int) ≤ (i : Int) := by omega
        have g2 : (i : Int) ≤ 100000 := by omega
        have g3 : ((Ver.upto m.vs b i).length : Int) ≤ 100000 := by omega
        have g4 : (0 : Int) ≤ ((Ver.upto m.vs b i).length : Int) := by omega
        by_cases hlt : i < m.vs.length
        · have g1 : (i : Int) < (m.vs.length : Int) := by omega
          obtain ⟨bb, oo, rfl, n0⟩ : ∃ bb oo, A1 = some ⟨bb, oo, none⟩ ∧ wr.cell? ⟨bb, oo + i, none⟩ = some (.int .i64 m.vs[i].1) := by
            obtain ⟨bb, oo, e, -, -, q⟩ := (HZ5.out.below hbx).at i (by rw [HL1.out]; exact hlt)
            rw [height_at m i hlt] at q
            exact ⟨bb, oo, e, q⟩
          have HRT := Lib.hid (HVO.out.root m.vs[i].1 (HGD.out.fit _ (List.getElem_mem hlt)).1 (wf_height (HGD.out.fit _ (List.getElem_mem hlt))) (HVO.out.keep HV5.out hbx))
          have HFC : Hid ((m.prune b).findC m.vs[i].1 = if Ver.stay m.vs b i = true then 0 else 120) := Lib.hid (Ver.prune_findC HGD.out b hlt)
          have HUS : Hid (Ver.upto m.vs b (i + 1) = Ver.upto m.vs b i ++ (if Ver.stay m.vs b i = true then [m.vs[i]] else [])) := Lib.hid (Ver.upto_succ m.vs b i hlt)
          have HSI : Hid (Ver.stay m.vs b i = true ↔ b ≤ m.vs[i].1 ∨ i + 1 = m.vs.length) := Lib.hid (Ver.stay_iff hlt)
          have HUA : Hid (Ver.stay m.vs b i = true → ∃ b2 o2, A2 = some ⟨b2, o2, none⟩ ∧ ((Ver.upto m.vs b i).length : Int) < ((m.prune b).vs.length : Int) ∧ ∀ w', Below w5.heap.size w5 w' → w'.cell? ⟨b2, o2 + (Ver.upto m.vs b i).length, none⟩ = some (.int .i64 m.vs[i].1)) := Lib.hid (fun hs => by
            obtain ⟨u1, u2⟩ := Ver.upto_at hlt hs
            have u3 : (Ver.upto m.vs b i).length < ((m.prune b).vs.map (·.1)).length := by rw [HL2.out]; exact u1
            obtain ⟨b2, o2, e, hB2, hlt2, hc⟩ := HZ2.out.at _ u3
            refine ⟨b2, o2, e, by have u1' : (Ver.upto m.vs b i).length < (m.prune b).vs.length := u1; omega, fun w' hb => ?_⟩
            have e2 : ((m.prune b).vs.map (·.1))[(Ver.upto m.vs b i).length]'u3 = m.vs[i].1 := by
              have u2' : (m.prune b).vs[(Ver.upto m.vs b i).length]? = some m.vs[i] := u2
              rw [List.getElem_map]
              obtain ⟨q1, q2⟩ := List.getElem?_eq_some_iff.1 u2'
              rw [q2]
            rw [e2] at hc
            exact (hb.cell hlt2).trans hc)
          obtain ⟨x, hx⟩ : ∃ x, m.vs[i].1 = x := ⟨_, rfl⟩
          obtain ⟨st, hst⟩ : ∃ st, Ver.stay m.vs b i = st := ⟨_, rfl⟩
          rw [hx] at n0 HRT HFC HSI HUA
          rw [hst] at HFC HUS HSI HUA
          have HLT := Lib.hid hlt
          have HUL : Hid ((Ver.upto m.vs b (i + 1)).length = (Ver.upto m.vs b i).length + if st = true then 1 else 0) := Lib.hid (by
            rw [HUS.out]
            split <;> simp)
          have HI10 := Lib.hid hm10
          have g6 : (m.vs.length : Int) ≤ 100000 := by omega
          clear hx hst HUS hlt hbx hm10
          cases st with
          | true =>
            rw [if_pos rfl] at HFC
            rw [HFC.out] at HRT
            obtain ⟨b2, o2, rfl, hlen, hcl⟩ := HUA.out rfl
            have HCL := Lib.hid hcl
            have e1 : (x != x) = false := by simp
            have HREL : Hid (∀ w', Below w5.heap.size w5 w' → ∃ j : Nat, j ≤ m.vs.length ∧ Value.int .i64 ((i : Int) + 1) = .int .i64 (j : Int) ∧ Value.int .i64 (((Ver.upto m.vs b i).length : Int) + 1) = .int .i64 ((Ver.upto m.vs b j).length : Nat) ∧ Below w5.heap.size w5 w') := Lib.hid (fun w' hb => ⟨i + 1, by have := HLT.out; omega, by push_cast; rfl, by rw [HUL.out]; push_cast; rfl, hb⟩)
            obtain ⟨uk, huk⟩ : ∃ uk, (Ver.upto m.vs b i).length = uk := ⟨_, rfl⟩
            rw [huk] at hlen HCL g3 g4 HREL ⊢
            have hnk : ¬ (((m.prune b).vs.length : Int) ≤ (uk : Int)) := by omega
            have hor := HSI.out.1 rfl
            clear hcl huk hk10 HUA HSI HUL HFC
            by_cases hbx : b ≤ x
            · clear hor
              go_wp2_with fail
              refine HRT.out.mono ?_
              rintro e w6 ⟨rfl, hb6⟩
              have HB6 := Lib.hid (bchain HBX.out hb6)
              have m0 := HCL.out _ HB6.out
              clear n0 hb6
              go_wp2
              exact ⟨HREL.out _ HB6.out, by have := HLT.out; simp [intOf]; omega⟩
            · have HIL : Hid ((i : Int) = (m.vs.length : Int) - 1) := Lib.hid (by have := hor.resolve_left hbx; omega)
              have hbx2 : x < b := by omega
              clear hor
              go_upto_region 18 with fail
              have hil := HIL.out
              have hil2 : ((i : Int) == (m.vs.length : Int) - 1) = true := beq_iff_eq.2 hil
              go_upto_region 19 with fail
              clear hil hil2
              go_wp2_with fail
              refine HRT.out.mono ?_
              rintro e w6 ⟨rfl, hb6⟩
              have HB6 := Lib.hid (bchain HBX.out hb6)
              have m0 := HCL.out _ HB6.out
              clear n0 hb6
              go_wp2
              exact ⟨HREL.out _ HB6.out, by have := HLT.out; simp [intOf]; omega⟩
          | false =>
            rw [if_neg (by simp)] at HFC
            rw [HFC.out] at HRT
            have hno : ¬ (b ≤ x ∨ i + 1 = m.vs.length) := fun e => by have := HSI.out.2 e; cases this
            have hbx : ¬ (b ≤ x) := fun e => hno (Or.inl e)
            have hbx2 : x < b := by omega
            have hil : ¬ ((i : Int) = (m.vs.length : Int) - 1) := fun e => hno (Or.inr (by have := HLT.out; omega))
            have hil2 : ((i : Int) == (m.vs.length : Int) - 1) = false := beq_eq_false_iff_ne.2 hil
            have HREL : Hid (∀ w', Below w5.heap.size w5 w' → ∃ j : Nat, j ≤ m.vs.length ∧ Value.int .i64 ((i : Int) + 1) = .int .i64 (j : Int) ∧ Value.int .i64 ((Ver.upto m.vs b i).length : Int) = .int .i64 ((Ver.upto m.vs b j).length : Nat) ∧ Below w5.heap.size w5 w') := Lib.hid (fun w' hb => ⟨i + 1, by have := HLT.out; omega, by push_cast; rfl, by rw [HUL.out]; simp, hb⟩)
            obtain ⟨uk, huk⟩ : ∃ uk, (Ver.upto m.vs b i).length = uk := ⟨_, rfl⟩
            rw [huk] at g3 g4 HREL ⊢
            clear hno huk hk10 HUA HSI HUL HFC
            go_wp2_with fail
            refine HRT.out.mono ?_
            rintro e w6 ⟨rfl, hb6⟩
            have HB6 := Lib.hid (bchain HBX.out hb6)
            clear n0 hb6
            go_wp2
            exact ⟨HREL.out _ HB6.out, by have := HLT.out; simp [intOf]; omega⟩
        · obtain rfl : i = m.vs.length := by omega
          have g1 : ¬ ((m.vs.length : Int) < (m.vs.length : Int)) := by omega
          have HUE : Hid ((Ver.upto m.vs b m.vs.length).length = (m.prune b).vs.length) := Lib.hid rfl
          rw [HUE.out]
          go_wp2_with fail
          have HGP := Lib.hid (HGD.out.prune b)
          have HSP := Lib.hid (HSZ.out.prune b)
          have HLW : Hid (b ≤ (m.prune b).low) := Lib.hid (show b ≤ max m.low b by omega)
          have HLOW := Lib.hid (fun (n : Ver.M) (gn : n.Good) (h1 : b < 1) => Ver.prune_low gn h1)
          have HTW := Lib.hid (Ver.prune_twice m b)
          obtain ⟨hh, hhe⟩ : ∃ hh, min (max b 1) 1048577 - 1 = hh := ⟨_, rfl⟩
          rw [hhe]
          obtain ⟨q, hq⟩ : ∃ q, m.prune b = q := ⟨_, rfl⟩
          have hv5 := HVO.out.keep HV5.out hbx
          have hle : q.vs.length ≤ m.vs.length := by rw [← hq]; exact HMP.out.1
          have HHE := Lib.hid hhe
          rw [hq] at HGP HSP HLW HTW hv5 HMP ⊢
          have HCM := Lib.hid (HVO.out.commitL hh (.slice none 0 0) [] hv5 (HT5.out.below hbx) ⟨none, 0, rfl, fun h => absurd h (by simp)⟩ (by simp) (fun x hx => by cases hx) (by have := HMV.out.1; omega) (by have := HMP.out.2; omega))
          unfold ptr at HCM
          have HSUB : Hid (((m.vs.length - q.vs.length : Nat) : Int) = (m.vs.length : Int) - (q.vs.length : Int)) := Lib.hid (by omega)
          have HFX : Hid (∀ k, F' k → w1.heap.size ≤ k) := HFN
          have HBX := Lib.hid hbx
          clear hv5 hq hlt hbx
          refine HCM.out.mono ?_
          rintro e w7 ⟨r, c, rt, hk7, rfl, hn7⟩
          have HS3 := Lib.hid (hk7.sw HSP.out)
          have HG3 := Lib.hid (hk7.good' HGP.out)
          have HSAME : Hid (c ≠ 0 → r = q) := Lib.hid hk7.same
          have HEND : Hid (1 ≤ b → c ≠ 0) := Lib.hid (fun h1 => by
            rw [← hhe] at hk7
            exact hk7.end_ h1 HLW.out)
          clear hhe hk7
          have HB7 := Lib.hid (next_below hn7 (B := w1.heap.size) HFX.out (Nat.le_trans HBR.out.size (Nat.le_trans HB3.out.size (Nat.le_trans HB4.out.size (Nat.le_trans HB5.out.size HBX.out.size)))))
          obtain ⟨F7, h1, -, h3, h4⟩ := hn7
          have HF7 : Hid (∀ k, F7 k → w1.heap.size ≤ k) := Lib.hid (fun k hk => by
            rcases h3 k hk with h | h
            · exact HFX.out k h
            · exact Nat.le_trans (Nat.le_trans HBR.out.size (Nat.le_trans HB3.out.size (Nat.le_trans HB4.out.size (Nat.le_trans HB5.out.size HBX.out.size)))) h)
          have HZ0 : Hid (((r.vs.length - (r.prune b).vs.length : Nat) : Int) = 0) := Lib.hid (by
            by_cases hb1 : b < 1
            · rw [HLOW.out r HG3.out hb1]; omega
            · rw [HSAME.out (HEND.out (by omega)), HTW.out]; omega)
          have HPR := Lib.hid (HVO.out.prune b h1 h4 (by have := HS3.out.vs; omega) (by have := HS3.out.st; omega))
          rw [HZ0.out] at HPR
          unfold ptr at HPR
          have e1 : ((q.vs.length : Int) == (q.vs.length : Int)) = true := by simp
          have e2 := HSUB.out
          have e3 : (((m.vs.length - q.vs.length : Nat) : Int) == (m.vs.length : Int) - (q.vs.length : Int)) = true := by rw [e2]; simp
          have g6 : (m.vs.length : Int) ≤ 100000 := by have := HMV.out.1; omega
          have g7 : (q.vs.length : Int) ≤ (m.vs.length : Int) := by omega
          have HB8 : Hid (Below w.heap.size w w7) := Lib.hid (bchain HB1.out ((((HBR.out.trans (HB3.out.mono HBR.out.size)).trans HB4.out).trans ((HB5.out.mono (Nat.le_trans HBR.out.size (Nat.le_trans HB3.out.size HB4.out.size))).trans (HBX.out.mono (Nat.le_trans HBR.out.size (Nat.le_trans HB3.out.size (Nat.le_trans HB4.out.size HB5.out.size)))))).trans HB7.out))
          clear h1 h3 h4
          by_cases hb1 : b < 1
          · have e4 : decide (b < 1) = true := decide_eq_true hb1
            go_wp2_with fail
            refine HPR.out.mono ?_
            rintro e w8 ⟨rfl, hn8⟩
            have hb8 := next_below hn8 (B := w.heap.size) (fun k hk => Nat.le_trans HB1.out.size (HF7.out k hk)) HB8.out.size
            go_wp2
            go_ret
            exact ⟨rfl, HB8.out.trans hb8⟩
          · have hc0 := HEND.out (by omega)
            have e4 : decide (b < 1) = false := decide_eq_false hb1
            have e5 : (c != 0) = true := by rw [bne_iff_ne]; exact hc0
            have e6 : ¬ (c = 0) := hc0
            go_wp2_with fail
            refine HPR.out.mono ?_
            rintro e w8 ⟨rfl, hn8⟩
            have hb8 := next_below hn8 (B := w.heap.size) (fun k hk => Nat.le_trans HB1.out.size (HF7.out k hk)) HB8.out.size
            go_wp2
            go_ret
            exact ⟨rfl, HB8.out.trans hb8⟩
end Go.Proofs.YtjfefphgikncnaaGreatDoor
namespace Go.Proofs.YtjfefphgikncnaaGreatDoor
open Go.RowKit
open Sto (T St)

theorem versGoes_done (v : Value) (L : List Ver.Act) (b : Int) (w : World) (hv : VActs w v L) (_ : L.length * 40 ≤ reachBytes) (_ : ∀ s ∈ L, (Lit.int .i64 s.kind).wf = true ∧ (Lit.int .i64 s.height).wf = true) (_ : (Lit.int .i64 b).wf = true) (hT : Tab w) :
    Calls Tryz.prog 4 #[v, .int .i64 b] w fun e w' => e = .returned (.bool true) ∧ Below w.heap.size w w' :=
  versGoes_walk vers_ok.toVerOkL v L b w hv hT
end Go.Proofs.YtjfefphgikncnaaGreatDoor
namespace Go.Proofs.YtjfefphgikncnaaGreatDoor
open Go.ChangeShapes Go.WideShapes Go.ChangeAt Go.RowKit

theorem gK : Tryz.prog.globalNamed "pharos/sha.constants" = some 0 := by kernel_rfl
theorem tK : (Tryz.prog.globals[0]?).map (·.type) = some 225 := by kernel_rfl
theorem cK : Tryz.prog.cellsOf 225 = 64 := by kernel_rfl
theorem cW : Tryz.prog.cellsOf 167 = 1 := by kernel_rfl
def laidK : List (String × DataW Unit) := [("pharos/sha.constants", Rows.laid_pharos_sha_constants)]
theorem tab_of_laid {W : World} (h : laidMetH Tryz.prog laidK W) : Tab W := by
  rw [MakeChecks.laidMetH_plain _ _ _ (by kernel_rfl)] at h
  obtain ⟨g, t, cs, fuel, p, hg, hty, hvar, hd⟩ := Lib.laidMet.reads h (.head _)
  obtain rfl := Option.some.inj (gK.symm.trans hg)
  obtain rfl := Option.some.inj (tK.symm.trans hty)
  have hd' : DataW.trod (fun _ => ()) Tryz.prog W 0 (fun _ => true) false fuel 225 cs.toList = some (Lib.tabData .u32 Sha.kTab, p) := hd
  have hcs := Lib.cells_of_tab Tryz.underlying225 Tryz.underlying167 cW cK hd'
  intro i hi
  have hk : i < Sha.kTab.length := hi
  rw [World.var?_cell hg hvar i, ← Array.getElem?_toList, hcs]
  simp [hk]
/-- The door's own heap meets the condition. -/
theorem door_met (os : Os) (args : Array Value) : laidMetH Tryz.prog laidK ((World.doorLaid Tryz.prog 400 os).forCall (fun _ _ => 0) ⟨#[], args, []⟩).memory :=
  laidMetH_of_parts3 (fuel := 8) (laidMet_of_run' 8 (by kernel_rfl) (by kernel_rfl)) (by kernel_rfl) (by kernel_rfl)
end Go.Proofs.YtjfefphgikncnaaGreatDoor
