/- StoreKeep, VerCode, VerCommit, VerCommitT, VerSift -/
import Derived.Test.YtjfefphgikncnaaGreatDoorPk22
import Derived.Test.YtjfefphgikncnaaGreatDoorPk07
import Derived.Test.YtjfefphgikncnaaGreatDoorPk21
import Derived.Deep.RegionHeld3
import Derived.Test.YtjfefphgikncnaaGreatDoorPk11
namespace Go.Proofs.YtjfefphgikncnaaGreatDoor
open Go.RowKit
open Go.Proofs.YtjfefphgikncnaaGreatDoor.Sto (St)

/-- What is there when the sums in 'done' have been looked at: all but those of them that V lacks. -/
def Sto.keepF (S : St) (V done : List (List UInt8)) (x : List UInt8) : Option (List UInt8) := if x ∈ done ∧ x ∉ V then none else Sto.look S x
theorem Sto.keepF_nil (S : St) (V : List (List UInt8)) (x : List UInt8) : Sto.keepF S V [] x = Sto.look S x := by simp [Sto.keepF]
theorem Sto.keepF_in (S : St) (V done : List (List UInt8)) (s : List UInt8) (hs : s ∈ V) (x : List UInt8) : Sto.keepF S V done x = Sto.keepF S V (done ++ [s]) x := by
  unfold Sto.keepF
  by_cases h : x = s
  · subst h; simp [hs]
  · simp [h]
theorem Sto.keepF_out (S : St) (V done : List (List UInt8)) (s : List UInt8) (hs : s ∉ V) (x : List UInt8) : updF (Sto.keepF S V done) s none x = Sto.keepF S V (done ++ [s]) x := by
  unfold updF Sto.keepF
  by_cases h : x = s
  · subst h; simp [hs]
  · simp [h]
theorem Sto.keepF_le {S : St} {V done : List (List UInt8)} {x : List UInt8} (h : Sto.keepF S V done x ≠ none) : Sto.look S x ≠ none := by
  unfold Sto.keepF at h
  split at h
  · exact absurd rfl h
  · exact h
theorem filter_both {α : Type} (l : List α) (p : α → Bool) : l.length = (l.filter p).length + (l.filter fun a => !p a).length := by
  induction l with
  | nil => rfl
  | cons a r ih =>
    rw [List.filter_cons, List.filter_cons]
    cases p a <;> simp <;> omega
/-- At the end of the range. -/
theorem Sto.keepF_end {S : St} {l V done : List (List UInt8)} (hS : Sto.Rising S) (hV : ∀ x, x ∈ V ↔ Sto.Reach S l x) (hn : done.Nodup) (hd : ∀ s ∈ done, Sto.look S s ≠ none) (hall : ∀ s, Sto.keepF S V done s ≠ none → s ∈ done) :
    (∀ x, Sto.keepF S V done x = Sto.look (Sto.keepL S l) x) ∧ (done.filter fun s => decide (s ∉ V)).length = S.length - (Sto.keepL S l).length := by
  have hdk : ∀ x, x ∈ done ↔ x ∈ Sto.keys S := fun x => by
    rw [← Sto.look_isSome]
    constructor
    · intro h
      have := hd x h
      cases hl : Sto.look S x with
      | none => exact absurd hl this
      | some t => rfl
    · intro h
      by_cases hx : x ∈ done
      · exact hx
      · refine hall x fun e => hx ?_
        unfold Sto.keepF at e
        rw [if_neg (fun q => hx q.1)] at e
        rw [e] at h; cases h
  constructor
  · intro x
    rw [Sto.look_keepL hS]
    unfold Sto.keepF
    by_cases hr : x ∈ Sto.reachL S l
    · have hv : x ∈ V := (hV x).2 ((Sto.reachL_mem hS l x).1 hr)
      rw [if_pos hr, if_neg (fun q => q.2 hv)]
    · have hv : x ∉ V := fun q => hr ((Sto.reachL_mem hS l x).2 ((hV x).1 q))
      rw [if_neg hr]
      by_cases hx : x ∈ done
      · rw [if_pos ⟨hx, hv⟩]
      · rw [if_neg (fun q => hx q.1), Sto.look_none]
        exact fun q => hx ((hdk x).2 q)
  · have hp : done.Perm (Sto.keys S) := (List.perm_ext_iff_of_nodup hn ((Sto.keys_rise hS).imp fun h => Sto.lt_ne h)).2 hdk
    rw [(hp.filter _).length_eq]
    unfold Sto.keys Sto.keepL
    rw [List.filter_map, List.length_map]
    have h1 : S.filter ((fun s => decide (s ∉ V)) ∘ fun x => x.1) = S.filter fun a => !decide (a.1 ∈ Sto.reachL S l) := by
      refine List.filter_congr fun a _ => ?_
      have : a.1 ∈ V ↔ a.1 ∈ Sto.reachL S l := by rw [hV, Sto.reachL_mem hS]
      simp [this]
    rw [h1]
    have h2 := filter_both S (fun a => decide (a.1 ∈ Sto.reachL S l))
    omega
def StKeepPost (g m : Nat) (S : St) (l : List (List UInt8)) (w : World) (e : Ending) (w' : World) : Prop :=
  e = .returned (.int .i64 ((S.length - (Sto.keepL S l).length : Nat))) ∧ StoreAt w' g m (Sto.keepL S l) ∧ Out (fun i => i = m) w w'
/-- Between two rounds. -/
structure KeepAt (S : St) (V done : List (List UInt8)) (w wr : World) (g m r mr : Nat) (cnt : Nat) : Prop where
  range : FnRangeD storeMap wr m r (Sto.keepF S V done) done cnt
  had : ∀ s ∈ done, Sto.look S s ≠ none
  set : FnAt setMap wr mr (inV V)
  head : wr.heap[g]? = some (.cells #[.map (some m)] 116 (0, 0))
  frame : Out (fun i => i = m) w wr
theorem KeepAt.gone_in {V done : List (List UInt8)} {s : List UInt8} (h : s ∈ V) : ((done ++ [s]).filter fun s => decide (s ∉ V)) = done.filter fun s => decide (s ∉ V) := by
  rw [List.filter_append]; simp [h]
theorem KeepAt.gone_out {V done : List (List UInt8)} {s : List UInt8} (h : s ∉ V) : ((done ++ [s]).filter fun s => decide (s ∉ V)).length = (done.filter fun s => decide (s ∉ V)).length + 1 := by
  rw [List.filter_append]; simp [h]

set_option maxRecDepth 8000 in
set_option maxHeartbeats 2000000 in
theorem stkeep_any (g m : Nat) (S : St) (l : List (List UInt8)) (v : Value) (w : World) (h : StoreAt w g m S) (hv : Strs w v l) (hS : S.length ≤ 50000) (hl : l.length ≤ 10000) (hsh : ∀ x ∈ l, x.length ≤ 140737488351232) :
    Calls Tryz.prog 41 #[.pointer (some ⟨g, 0, none⟩), v] w (StKeepPost g m S l w) := by
  unfold StKeepPost
  have HR := Lib.hid (reached_any g m S l v w h hv hS hl hsh)
  have HH := Lib.hid h
  have HSL := Lib.hid hS
  clear h hv hS hl hsh
  go_enter Tryz.func41, Tryz.ntmps41
  go_wp2_with fail
  refine HR.out.mono ?_
  rintro e w1 ⟨mr, V, rfl, hmr, hm, hnd, hV, hb1⟩
  have h1 := HH.out.below hb1
  have hc := h1.cell
  obtain ⟨w2, cnt2, hrg, hfr2, hb2, hs2⟩ := h1.map.range Tryz.underlying114
  obtain ⟨r, hr⟩ : ∃ r, w1.heap.size = r := ⟨_, rfl⟩
  rw [hr] at hrg hfr2 hb2
  have HV := Lib.hid hV
  have HMR := Lib.hid hmr
  have HWR : Hid (w.heap.size ≤ r) := Lib.hid (by rw [← hr]; exact hb1.size)
  have hb2' : Below w1.heap.size w1 w2 := by rw [hr]; exact hb2
  have HK0 : Hid (KeepAt S V [] w w2 g m r mr cnt2) := Lib.hid ⟨hfr2.weak.congr (fun s => (Sto.keepF_nil S V s).symm), fun s hs => (by cases hs), hm.below hb2', (h1.below hb2').head, (Out.of hb1).trans (Out.of hb2')⟩
  clear hmr hm hnd hV h1 hb1 hfr2 hb2 hs2 hr hb2'
  go_wp2
  clear hrg hc
  go_loopw [6] (fun s wr => ∃ done cnt, KeepAt S V done w wr g m r mr cnt ∧ s = .int .i64 ((done.filter fun s => decide (s ∉ V)).length : Nat)) (fun _ wr => wr.rangeLeft m r)
  case atStart => exact ⟨[], cnt2, HK0.out, rfl⟩
  case round =>
    obtain ⟨done, cnt, hk, rfl⟩ := hrel
    have HK := Lib.hid hk
    obtain ⟨G, hG⟩ : ∃ G, (done.filter fun s => decide (s ∉ V)).length = G := ⟨_, rfl⟩
    have HG := Lib.hid hG
    rw [hG]
    have hdone : done.length ≤ 50000 := by
      have := Sto.le_of_sub (M := Sto.keys S) (l := done) (by obtain ⟨_, _, _, _, _, _, _, _, _, _, _, _, _, _, h, _⟩ := hk.range; exact h) fun x hx => (Sto.look_isSome S x).1 (by
        have := hk.had x hx
        cases hl : Sto.look S x with
        | none => exact absurd hl this
        | some t => rfl)
      have h2 := HSL.out
      simp only [Sto.keys, List.length_map] at this
      omega
    have hGb : (G : Int) ≤ 900000 := by
      have := List.length_filter_le (fun s => decide (s ∉ V)) done
      omega
    have hG0 : (0 : Int) ≤ (G : Int) := by omega
    clear HK0 hG hdone
    rcases hk.range.next 0 with ⟨hall, hrun⟩ | ⟨s, a, w3, cnt3, hf, hok, hnot, hrun, hfr3, hlt, ho, hsz, hen⟩
    · have hnx : ∀ ty, (Instr.next (.pointer (some ⟨r, 0, none⟩)) false ty).run Tryz.prog wr = _ := fun _ => hrun
      have HE := Lib.hid (Sto.keepF_end HH.out.rise HV.out (by obtain ⟨_, _, _, _, _, _, _, _, _, _, _, _, _, _, h, _⟩ := hk.range; exact h) hk.had hall)
      clear hk hall hrun
      go_wp2
      go_ret
      refine ⟨by rw [← HE.out.2, HG.out]; rfl, ⟨HK.out.head, HK.out.range.map.congr HE.out.1, Sto.keepL_rising HH.out.rise l, fun p hp => HH.out.short p (Sto.keepL_sub S l hp)⟩, HK.out.frame⟩
    · dsimp only [storeMap] at hrun hen
      have hnx : ∀ ty, (Instr.next (.pointer (some ⟨r, 0, none⟩)) false ty).run Tryz.prog wr = _ := fun _ => hrun
      have hset3 := hk.set.out ho (fun e => hk.range.no_map hk.set e)
      have hhead3 := ho.heap hk.head (fun e => hk.range.no_cells _ _ _ _ e hk.head)
      have hb4 : Below w3.heap.size w3 (w3.alloc (.cells #[] 119)) := (Below.refl _ w3).alloc (Nat.le_refl _) _
      have hlu := lookU hset3 hok
      have hlk : Sto.look S s ≠ none := Sto.keepF_le (by rw [hf]; simp)
      have hfrm3 : Out (fun i => i = m) w w3 := ⟨ho.os.trans hk.frame.os, ho.tape.trans hk.frame.tape, ho.output.trans hk.frame.output, Nat.le_trans hk.frame.size ho.size, fun i hi hF => (ho.block i (Nat.lt_of_lt_of_le hi hk.frame.size) (fun e => by have := HWR.out; omega)).trans (hk.frame.block i hi hF)⟩
      have HSET := Lib.hid (hset3.below hb4)
      have HHD := Lib.hid ((hb4.block _ (lt_of_heap hhead3)).trans hhead3)
      have HFM := Lib.hid (hfrm3.trans (Out.of hb4))
      have HRG := Lib.hid (hfr3.below hb4)
      have HHAD : Hid (∀ x ∈ done ++ [s], Sto.look S x ≠ none) := Lib.hid (fun x hx => by
        rcases List.mem_append.1 hx with hx | hx
        · exact hk.had x hx
        · obtain rfl : x = s := by simpa using hx
          exact hlk)
      have HLT : Hid (cnt3 < wr.rangeLeft m r) := Lib.hid (by rw [hk.range.left_eq]; exact hlt)
      have HOK := Lib.hid hok
      have hcell4 := cell_of_row _ _ 0 _ _ _ HHD.out
      simp only [List.getElem?_toArray, List.getElem?_cons_zero] at hcell4
      clear hk hf hnot hrun hfr3 hlt ho hsz hset3 hhead3 hb4 hlk hfrm3 hok
      by_cases hin : s ∈ V
      · rw [decide_eq_true hin] at hlu
        have HIN := Lib.hid hin
        clear hin
        go_wp2
        refine ⟨⟨done ++ [s], cnt3, ⟨HRG.out.congr (Sto.keepF_in S V done s HIN.out), HHAD.out, HSET.out, HHD.out, HFM.out⟩, ?_⟩, ?_⟩
        · rw [KeepAt.gone_in HIN.out, HG.out]
        · rw [HRG.out.left_eq]; exact HLT.out
      · rw [decide_eq_false hin] at hlu
        have HIN := Lib.hid hin
        obtain ⟨w5, cnt5, hrd, hfr5, hle5, ho5, hsz5⟩ := HRG.out.drop Tryz.underlying114 HOK.out
        dsimp only [storeMap] at hrd
        have HRD := Lib.hid hrd
        have HK5 : Hid (KeepAt S V (done ++ [s]) w w5 g m r mr cnt5) := Lib.hid ⟨hfr5.congr (Sto.keepF_out S V done s hin), HHAD.out, HSET.out.out ho5 (fun e => by have := HMR.out; have := HH.out.mlt; omega), ho5.heap HHD.out (fun e => HRG.out.map.no_cells _ _ _ _ e HHD.out), HFM.out.trans ho5⟩
        have HLE := Lib.hid hle5
        clear hin hrd hfr5 hle5 ho5 hsz5
        go_wp2_with (at_delete; refine wpList_delete_run rfl _ _ _ _ rfl (.map (some m)) (.string ⟨s.toArray⟩) (by rfl) (by rfl) HRD.out ?_)
        refine ⟨⟨done ++ [s], cnt5, HK5.out, ?_⟩, ?_⟩
        · rw [KeepAt.gone_out HIN.out, HG.out]
          go_num
        · rw [HK5.out.range.left_eq]; exact Nat.lt_of_le_of_lt HLE.out HLT.out
end Go.Proofs.YtjfefphgikncnaaGreatDoor
namespace Go.Proofs.YtjfefphgikncnaaGreatDoor
open Go.RowKit
open Sto (T St)

/-- The versions in block g: the store in gs (its map ms), the roots in mr, the newest trie in gt, the greatest number that was pruned. -/
structure VHeld (w : World) (g gs ms mr gt : Nat) (lo : Int) (m : Ver.M) : Prop where
  head : w.heap[g]? = some (.cells #[.pointer (some ⟨gs, 0, none⟩), .map (some mr), .int .i64 m.newest, .pointer (some ⟨gt, 0, none⟩), .int .i64 lo] 79 (0, 0))
  store : StoreAt w gs ms m.st
  roots : RootsAt w mr m
  low : max lo 0 = m.low
  top : TrAt w gt m.top
  good : m.Good
  apart : mr ≠ ms
/-- The blocks that may change. -/
def held (g gs ms mr : Nat) (k : Nat) : Prop := k = g ∨ k = gs ∨ k = ms ∨ k = mr
def VAt (w : World) (F : Nat → Prop) (g : Nat) (m : Ver.M) : Prop := ∃ gs ms mr gt lo, VHeld w g gs ms mr gt lo m ∧ F = held g gs ms mr
theorem VHeld.bare {w : World} {g gs ms mr gt : Nat} {lo : Int} {m : Ver.M} (h : VHeld w g gs ms mr gt lo m) : ∀ k, held g gs ms mr k → ∀ cs t f, w.heap[k]? = some (.cells cs t f) → t ≠ 99 ∧ t ≠ 82 := by
  intro k hk cs t f he
  rcases hk with rfl | rfl | rfl | rfl
  · rw [h.head] at he; cases he; decide
  · rw [h.store.head] at he; cases he; decide
  · exact absurd he (h.store.map.no_cells _ _ _ _ rfl)
  · exact absurd he (FnAt.no_cells h.roots _ _ _ _ rfl)
theorem VHeld.old {w : World} {g gs ms mr gt : Nat} {lo : Int} {m : Ver.M} (h : VHeld w g gs ms mr gt lo m) : ∀ k, held g gs ms mr k → k < w.heap.size := by
  intro k hk
  rcases hk with rfl | rfl | rfl | rfl
  · exact lt_of_heap h.head
  · exact h.store.glt
  · exact h.store.mlt
  · exact FnAt.lt h.roots
theorem VHeld.part {w w' : World} {g gs ms mr gt : Nat} {lo : Int} {m : Ver.M} {G : Nat → Prop} (h : VHeld w g gs ms mr gt lo m) (ho : Out G w w') (hG : ∀ k, G k → ¬ held g gs ms mr k ∧ ∀ cs t f, w.heap[k]? = some (.cells cs t f) → t ≠ 99 ∧ t ≠ 82) : VHeld w' g gs ms mr gt lo m :=
  ⟨ho.heap h.head fun e => (hG _ e).1 (Or.inl rfl), h.store.out ho (fun e => (hG _ e).1 (Or.inr (Or.inl rfl))) (fun e => (hG _ e).1 (Or.inr (Or.inr (Or.inl rfl)))), h.roots.out ho (fun e => (hG _ e).1 (Or.inr (Or.inr (Or.inr rfl)))), h.low, h.top.outB ho (fun k hk => (hG k hk).2), h.good, h.apart⟩
theorem VHeld.below {w w' : World} {g gs ms mr gt : Nat} {lo : Int} {m : Ver.M} (h : VHeld w g gs ms mr gt lo m) (hb : Below w.heap.size w w') : VHeld w' g gs ms mr gt lo m := h.part (G := fun _ => False) (Out.of hb) fun _ hk => hk.elim
section
variable {w : World} {g gs ms mr gt : Nat} {lo : Int} {m : Ver.M}
theorem VHeld.c0 (h : VHeld w g gs ms mr gt lo m) : w.cell? ⟨g, 0, none⟩ = some (.pointer (some ⟨gs, 0, none⟩)) := by rw [cell_of_row _ _ _ _ _ _ h.head]; rfl
theorem VHeld.c1 (h : VHeld w g gs ms mr gt lo m) : w.cell? ⟨g, 1, none⟩ = some (.map (some mr)) := by rw [cell_of_row _ _ _ _ _ _ h.head]; rfl
theorem VHeld.c2 (h : VHeld w g gs ms mr gt lo m) : w.cell? ⟨g, 2, none⟩ = some (.int .i64 m.newest) := by rw [cell_of_row _ _ _ _ _ _ h.head]; rfl
theorem VHeld.c3 (h : VHeld w g gs ms mr gt lo m) : w.cell? ⟨g, 3, none⟩ = some (.pointer (some ⟨gt, 0, none⟩)) := by rw [cell_of_row _ _ _ _ _ _ h.head]; rfl
theorem VHeld.c4 (h : VHeld w g gs ms mr gt lo m) : w.cell? ⟨g, 4, none⟩ = some (.int .i64 lo) := by rw [cell_of_row _ _ _ _ _ _ h.head]; rfl
theorem VHeld.under (h : VHeld w g gs ms mr gt lo m) {x : Int} (hx : 0 ≤ x) : x < m.low ↔ x < lo := by
  rw [← h.low]
  omega
end
theorem findR_short {m : Ver.M} (g : m.Good) (y : Int) : (m.findR y).length ≤ 32 := by
  unfold Ver.M.findR
  cases hf : m.find y with
  | none => simp
  | some I =>
    obtain ⟨t, ht⟩ := g.tree _ (Ver.M.find_mem hf)
    exact root_short ht
set_option maxRecDepth 100000 in
theorem vnew_any (w : World) : Calls Tryz.prog 11 #[] w fun e w' => ∃ v F, e = .returned (ptr v) ∧ VAt w' F v .zero ∧ (∀ k, F k → w.heap.size ≤ k) ∧ Below w.heap.size w w' := by
  have hmm := @run_makeMap Tryz.prog
  have HS := Lib.hid (fun w => stnew_any w)
  have HT := Lib.hid (fun w => tnew_any w)
  unfold StNewPost at HS
  unfold ptr at HT ⊢
  go_enter Tryz.func11, Tryz.ntmps11
  go_wp2_with fail
  refine (HS.out _).mono ?_
  rintro e w1 ⟨gs, ms, rfl, hgs, hms, hst, hb1⟩
  have HST := Lib.hid hst
  have HB1 := Lib.hid hb1
  clear hst hb1
  go_wp2_with fail
  refine (HT.out _).mono ?_
  rintro e w2 ⟨gt, rfl, ht, hgt, hb2⟩
  have HTT := Lib.hid ht
  have HB2 := Lib.hid hb2
  clear ht hb2
  go_wp2
  go_ret
  have hb0 : Below w1.heap.size w1 (w1.alloc (.map #[] 0)) := (Below.refl _ w1).alloc (Nat.le_refl _) _
  have hb2 : Below (w1.alloc (.map #[] 0)).heap.size (w1.alloc (.map #[] 0)) w2 := HB2.out
  have hb3 : Below w2.heap.size w2 (w2.alloc (.cells #[.pointer (some ⟨gs, 0, none⟩), .map (some w1.heap.size), .int .i64 (-9223372036854775808), .pointer (some ⟨gt, 0, none⟩), .int .i64 (-9223372036854775808)] 79)) := (Below.refl _ w2).alloc (Nat.le_refl _) _
  have s1 : w1.heap.size + 1 ≤ w2.heap.size := by have := hb2.size; simpa using this
  have s0 := HB1.out.size
  refine ⟨w2.heap.size, _, rfl, ⟨gs, ms, w1.heap.size, gt, -9223372036854775808, ⟨heap_alloc_new w2 _, HST.out.below (bchain (bchain hb0 hb2) hb3), ?_, rfl, HTT.out.below hb3, Ver.M.Good.zero, fun e => by have := HST.out.mlt; omega⟩, rfl⟩, fun k hk => ?_, bchain HB1.out (bchain (bchain hb0 hb2) hb3)⟩
  · exact (RootsAt.made w1 w1.heap.size rfl).out (F := fun _ => False) (Out.of (bchain hb2 hb3)) id
  · rcases hk with rfl | rfl | rfl | rfl <;> omega
set_option maxRecDepth 100000 in
set_option maxHeartbeats 1000000 in
theorem vroot_any {w : World} {g gs ms mr gt : Nat} {lo : Int} {m : Ver.M} (h : VHeld w g gs ms mr gt lo m) (x : Int) (h0 : 0 ≤ x) (hx : (Lit.int .i64 x).wf = true) :
    Calls Tryz.prog 19 #[ptr g, .int .i64 x] w fun e w' => e = .returned (.tuple #[.string ⟨(m.findR x).toArray⟩, .int .i64 (m.findC x)]) ∧ Below w.heap.size w w' := by
  have c1 := h.c1
  have hlook := h.roots.look x hx
  have hund := h.under h0
  have hsh := findR_short h.good x
  unfold Ver.M.findC
  unfold ptr
  obtain ⟨R, hR⟩ : ∃ R, m.findR x = R := ⟨_, rfl⟩
  have hR0 : m.find x = none → R = [] := fun e => by rw [← hR]; unfold Ver.M.findR; rw [e]
  rw [hR] at hlook hsh ⊢
  have HC := Lib.hid (fun w => dclone_any R w (by omega))
  have hBA : Below w.heap.size w (w.alloc (.cells #[.string ⟨R.toArray⟩] 84)) := (Below.refl _ w).alloc (Nat.le_refl _) _
  have c4 := (h.below hBA).c4
  have HB := Lib.hid hBA
  clear h hx hsh hR hBA h0
  cases hf : m.find x with
  | some I =>
    rw [hf] at hlook
    dsimp only [Option.isSome] at hlook ⊢
    clear hR0 hund c4
    go_enter Tryz.func19, Tryz.ntmps19
    go_wp2_with fail
    refine (HC.out _).mono ?_
    rintro e w1 ⟨rfl, hb1⟩
    go_wp2
    go_ret2
    exact ⟨rfl, bchain HB.out hb1⟩
  | none =>
    rw [hf] at hlook
    obtain rfl := hR0 hf
    dsimp only [Option.isSome] at hlook ⊢
    clear hR0
    by_cases hl : x < m.low
    · have hl2 := hund.1 hl
      simp only [if_neg (show ¬ (false = true) by simp), if_pos hl]
      clear hund hl
      go_enter Tryz.func19, Tryz.ntmps19
      go_wp2
      go_ret2
      exact ⟨rfl, HB.out⟩
    · have hl2 := fun e => hl (hund.2 e)
      simp only [if_neg (show ¬ (false = true) by simp), if_neg hl]
      clear hund hl
      go_enter Tryz.func19, Tryz.ntmps19
      go_wp2
      go_ret2
      exact ⟨rfl, HB.out⟩
set_option maxRecDepth 100000 in
set_option maxHeartbeats 1000000 in
theorem vheights_any {w : World} {g gs ms mr gt : Nat} {lo : Int} {m : Ver.M} (h : VHeld w g gs ms mr gt lo m) (hl : m.vs.length ≤ 100) :
    Calls Tryz.prog 17 #[ptr g] w fun e w' => ∃ z, e = .returned z ∧ IntsO w' w.heap.size z (m.vs.map (·.1)) ∧ Below w.heap.size w w' := by
  have c1 := h.c1
  have hB := (Below.refl w.heap.size w).alloc (Nat.le_refl _) (.cells #[.map (some mr)] 77)
  have HS := Lib.hid (sortedI_any ((h.below hB).roots) h.good (q := w.heap.size) (cell_of_row _ _ _ _ _ _ (heap_new_at w _ _ rfl)) (by omega))
  have HK := Lib.hid (fun w => shelf_keysI (some mr) w)
  have HB := Lib.hid hB
  unfold ptr
  clear h hl hB
  go_enter Tryz.func17, Tryz.ntmps17
  go_wp2_with fail
  refine (HK.out _).mono ?_
  rintro e w1 ⟨rfl, rfl⟩
  go_wp2_with fail
  refine HS.out.mono ?_
  rintro e w2 ⟨z, rfl, hz, hb2⟩
  go_wp2
  go_ret
  exact ⟨z, rfl, ownsRow_base_a hz (by simp), bchain HB.out hb2⟩
set_option maxRecDepth 100000 in
set_option maxHeartbeats 1000000 in
theorem vtexts_any {w : World} {g gs ms mr gt : Nat} {lo : Int} {m : Ver.M} (h : VHeld w g gs ms mr gt lo m) (hl : m.st.length ≤ 40000) :
    Calls Tryz.prog 39 #[ptr g] w fun e w' => e = .returned (.int .i64 m.st.length) ∧ Below w.heap.size w w' := by
  have c0 := h.c0
  have HS := Lib.hid (stsums_any gs ms m.st w h.store (by omega))
  unfold RowPost at HS
  have hkl : (Sto.keys m.st).length = m.st.length := by unfold Sto.keys; simp
  rw [← hkl]
  unfold ptr
  clear h hl hkl
  go_enter Tryz.func39, Tryz.ntmps39
  go_wp2_with fail
  refine HS.out.mono ?_
  rintro e w1 ⟨v, rfl, hown, hb⟩
  obtain ⟨A, cap, rfl⟩ := own_form hown
  clear hown
  go_wp2
  go_ret
  exact ⟨rfl, hb⟩
set_option maxRecDepth 100000 in
set_option maxHeartbeats 1000000 in
theorem vat_any {w : World} {g gs ms mr gt : Nat} {lo : Int} {m : Ver.M} (h : VHeld w g gs ms mr gt lo m) (x : Int) (h0 : 0 ≤ x) (hx : (Lit.int .i64 x).wf = true) :
    Calls Tryz.prog 18 #[ptr g, .int .i64 x] w (AtPost m x w) := by
  have HR := Lib.hid (vroot_any h x h0 hx)
  unfold AtPost
  unfold Ver.M.findC Ver.M.findR at HR
  unfold ptr at HR ⊢
  cases hf : m.find x with
  | some I =>
    rw [hf] at HR
    dsimp only [Option.isSome] at HR ⊢
    obtain ⟨t, ht⟩ := h.good.tree _ (Ver.M.find_mem hf)
    have hsh := root_short ht
    have HO := Lib.hid h.good.own
    have HL := Lib.hid (fun w' (hb : Below w.heap.size w w') => tload_any (rootS I) w' (h.below hb).store HO.out hsh)
    unfold LoadPost at HL ⊢
    have HG : Hid (∀ w', Below w.heap.size w w' → w'.cell? ⟨g, 0, none⟩ = some (.pointer (some ⟨gs, 0, none⟩))) := Lib.hid (fun w' hb => (h.below hb).c0)
    clear h hsh ht
    go_enter Tryz.func18, Tryz.ntmps18
    go_wp2_with fail
    refine HR.out.mono ?_
    rintro e w1 ⟨rfl, hb1⟩
    have c0 := HG.out w1 hb1
    have HB1 := Lib.hid hb1
    clear hb1
    go_wp2_with fail
    refine (HL.out w1 HB1.out).mono ?_
    rintro e w2 ⟨z, c, rfl, hb2, hq⟩
    have HB2 := Lib.hid hb2
    have HQ := Lib.hid hq
    clear hb2 hq
    go_wp2
    go_ret2
    exact ⟨z, c, rfl, bchain HB1.out HB2.out, HQ.out⟩
  | none =>
    rw [hf] at HR
    dsimp only [Option.isSome] at HR ⊢
    unfold Ver.M.findC nilp
    rw [hf]
    dsimp only [Option.isSome]
    by_cases hl : x < m.low
    · simp only [if_neg (show ¬ (false = true) by simp), if_pos hl] at HR ⊢
      clear h
      go_enter Tryz.func18, Tryz.ntmps18
      go_wp2_with fail
      refine HR.out.mono ?_
      rintro e w1 ⟨rfl, hb1⟩
      go_wp2
      go_ret2
      exact ⟨rfl, hb1⟩
    · simp only [if_neg (show ¬ (false = true) by simp), if_neg hl] at HR ⊢
      clear h
      go_enter Tryz.func18, Tryz.ntmps18
      go_wp2_with fail
      refine HR.out.mono ?_
      rintro e w1 ⟨rfl, hb1⟩
      go_wp2
      go_ret2
      exact ⟨rfl, hb1⟩
end Go.Proofs.YtjfefphgikncnaaGreatDoor
namespace Go.Proofs.YtjfefphgikncnaaGreatDoor
open Go.RowKit
open Sto (T St)

def ChPost (S : St) (x : T × T) (w : World) (e : Ending) (w' : World) : Prop :=
  ∃ z, e = .returned (.tuple #[z, .int .i64 (Ver.chC S x)]) ∧ (Ver.chC S x = 0 → ∃ g', z = .pointer (some ⟨g', 0, none⟩) ∧ TrAt w' g' (Ver.chS S x)) ∧ Below w.heap.size w w'
theorem ChPost.mk {S : St} {x : T × T} {w w' : World} {z : Value} {c : Nat} (hc : Ver.chC S x = c) (h : c = 0 → ∃ g', z = .pointer (some ⟨g', 0, none⟩) ∧ TrAt w' g' (Ver.chS S x)) (hb : Below w.heap.size w w') : ChPost S x w (.returned (.tuple #[z, .int .i64 c])) w' := by
  subst hc
  exact ⟨z, rfl, h, hb⟩
set_option maxRecDepth 100000 in
set_option maxHeartbeats 2000000 in
theorem vchanged_any {g : Nat} {S : St} (x : T × T) (w : World) (h : TrAt w g S) (hT : Tab w) :
    Calls Tryz.prog 72 #[.pointer (some ⟨g, 0, none⟩), .agg #[.string ⟨x.1.toArray⟩, .string ⟨x.2.toArray⟩]] w (ChPost S x w) := by
  obtain ⟨k, y⟩ := x
  dsimp only
  have hA : Below w.heap.size w (w.alloc (.cells #[.string ⟨k.toArray⟩, .string ⟨y.toArray⟩] 39)) := (Below.refl _ w).alloc (Nat.le_refl _) _
  have HA := Lib.hid hA
  have ra := heap_alloc_new w (.cells #[.string ⟨k.toArray⟩, .string ⟨y.toArray⟩] 39)
  have a0 : (w.alloc (.cells #[.string ⟨k.toArray⟩, .string ⟨y.toArray⟩] 39)).cell? ⟨w.heap.size, 0, none⟩ = some (.string ⟨k.toArray⟩) := by rw [cell_of_row _ _ 0 _ _ _ ra]; rfl
  have a1 : (w.alloc (.cells #[.string ⟨k.toArray⟩, .string ⟨y.toArray⟩] 39)).cell? ⟨w.heap.size, 1, none⟩ = some (.string ⟨y.toArray⟩) := by rw [cell_of_row _ _ 1 _ _ _ ra]; rfl
  have HOLD := Lib.hid (h.below hA)
  by_cases hy : y = []
  · subst hy
    have HD := Lib.hid (tdel_any k _ (h.below hA) (hT.below hA))
    unfold TDelPost at HD
    have E1 : Hid (Ver.chC S (k, []) = if (Tri.getC S k).2 = 5 then 0 else (Tri.getC S k).2) := Lib.hid (by simp [Ver.chC])
    have E2 : Hid (Ver.chS S (k, []) = if (Tri.getC S k).2 = 0 then Tri.del S k else S) := Lib.hid (by simp [Ver.chS])
    obtain ⟨c, hc⟩ : ∃ c, (Tri.getC S k).2 = c := ⟨_, rfl⟩
    rw [hc] at HD E1 E2
    unfold ptr nilp at HD
    clear hc hT h ra
    go_enter Tryz.func72, Tryz.ntmps72
    go_wp2_with fail
    refine HD.out.mono ?_
    rintro e w1 ⟨z, rfl, h1, h2, hb1⟩
    have H1 := Lib.hid h1
    have HB1 := Lib.hid (bchain HA.out hb1)
    have HO1 := Lib.hid (HOLD.out.below hb1)
    clear h1 h2 hb1
    by_cases h5 : c = 5
    · subst h5
      go_wp2
      go_ret2
      exact ChPost.mk (c := 0) (by rw [E1.out]; rfl) (fun _ => ⟨g, rfl, by rw [E2.out]; exact HO1.out⟩) HB1.out
    · have q5 : ((c : Int) == 5) = false := by rw [beq_eq_false_iff_ne]; omega
      have E3 := Lib.hid h5
      clear h5
      go_wp2
      go_ret2
      exact ChPost.mk (c := c) (by rw [E1.out, if_neg E3.out]) (fun e => by rw [E2.out, if_pos e]; exact H1.out e) HB1.out
  · have HD := Lib.hid (tput_any k y _ (h.below hA) (hT.below hA))
    unfold TPutPost at HD
    have e1 : Ver.chC S (k, y) = Tri.putC S k y := by simp [Ver.chC, hy]
    have e2 : Ver.chS S (k, y) = Tri.put S k y := by simp [Ver.chS, hy]
    unfold ChPost
    rw [e1, e2]
    obtain ⟨c, hc⟩ : ∃ c, Tri.putC S k y = c := ⟨_, rfl⟩
    rw [hc] at HD ⊢
    have q1 : (y == []) = false := beq_eq_false_iff_ne.2 hy
    have q2 : y.isEmpty = false := by cases y <;> simp_all
    unfold ptr nilp at HD
    clear e1 e2 hc hT h ra hy
    go_enter Tryz.func72, Tryz.ntmps72
    go_wp2_with fail
    refine HD.out.mono ?_
    rintro e w1 ⟨z, rfl, h1, h2, hb1⟩
    have H1 := Lib.hid h1
    have HB1 := Lib.hid (bchain HA.out hb1)
    clear h1 h2 hb1
    go_wp2
    go_ret2
    exact ⟨z, rfl, H1.out, HB1.out⟩
theorem VHeld.over {w : World} {g gs ms mr gt : Nat} {lo : Int} {m : Ver.M} (h : VHeld w g gs ms mr gt lo m) {x : Int} (hx : 0 ≤ x) : (∃ y ∈ m.vs, x ≤ y.1) ↔ x ≤ m.newest := by
  rw [Ver.above_last h.good]
  unfold Ver.M.newest
  cases hl : m.last with
  | none => simp; omega
  | some y => simp
theorem Tab.outside {F : Nat → Prop} {w w' : World} (h : Tab w) (ho : Out F w w') (hF : ¬ F 0) : Tab w' := fun i hi => ho.cell (h i hi) hF
theorem VHeld.tab {w : World} {g gs ms mr gt : Nat} {lo : Int} {m : Ver.M} (h : VHeld w g gs ms mr gt lo m) (hT : Tab w) : ¬ held g gs ms mr 0 := by
  intro hk
  have h63 := hT 63 (by omega)
  rcases hk with e | e | e | e
  · have h1 := h.head
    rw [← e] at h1
    rw [cell_of_row _ _ _ _ _ _ h1] at h63
    simp at h63
  · have h1 := h.store.head
    rw [← e] at h1
    rw [cell_of_row _ _ _ _ _ _ h1] at h63
    simp at h63
  · obtain ⟨es, c, he, _⟩ := h.store.map
    rw [← e] at he
    simp [World.cell?, he] at h63
  · obtain ⟨es, c, he, _⟩ := h.roots
    rw [← e] at he
    simp [World.cell?, he] at h63
theorem chs_step {S C : St} {k : Nat} (h : k < C.length) : (Ver.chC S C[k] = 0 → Ver.chsC S (C.drop k) = Ver.chsC (Ver.chS S C[k]) (C.drop (k + 1)) ∧ Ver.chsS S (C.drop k) = Ver.chsS (Ver.chS S C[k]) (C.drop (k + 1))) ∧ (Ver.chC S C[k] ≠ 0 → Ver.chsC S (C.drop k) = Ver.chC S C[k]) := by
  rw [List.drop_eq_getElem_cons h]
  refine ⟨fun h0 => ⟨?_, rfl⟩, fun h0 => ?_⟩
  · rw [Ver.chsC, if_pos h0]
  · rw [Ver.chsC, if_neg h0]
/-- What the changes come to. -/
def WithPost (S C : St) (w : World) (e : Ending) (w' : World) : Prop :=
  ∃ z, e = .returned (.tuple #[z, .int .i64 (Ver.chsC S C)]) ∧ (Ver.chsC S C = 0 → ∃ g', z = .pointer (some ⟨g', 0, none⟩) ∧ TrAt w' g' (Ver.chsS S C)) ∧ Below w.heap.size w w'
theorem WithPost.bad {S C : St} {w w' : World} {z : Value} {c : Nat} (hc : Ver.chsC S C = c) (h0 : c ≠ 0) (hb : Below w.heap.size w w') : WithPost S C w (.returned (.tuple #[z, .int .i64 c])) w' := by
  subst hc
  exact ⟨z, rfl, fun e => absurd e h0, hb⟩
theorem WithPost.good {S C : St} {w w' : World} {g : Nat} (hc : Ver.chsC S C = 0) (ht : TrAt w' g (Ver.chsS S C)) (hb : Below w.heap.size w w') : WithPost S C w (.returned (.tuple #[.pointer (some ⟨g, 0, none⟩), .int .i64 0])) w' :=
  ⟨_, by rw [hc]; rfl, fun _ => ⟨g, rfl, ht⟩, hb⟩
set_option maxRecDepth 100000 in
set_option maxHeartbeats 4000000 in
theorem vmade_any {w : World} {g : Nat} {S0 : St} (h : TrAt w g S0) (z : Value) (C : St) (hT : Tab w) (hz : ItLo w z C) (hl : C.length ≤ 100) :
    Calls Tryz.prog 42 #[.pointer (some ⟨g, 0, none⟩), z] w (WithPost S0 C w) := by
  have HT := Lib.hid hT
  have HZ := Lib.hid hz
  have HL := Lib.hid hl
  have HTP := Lib.hid h
  obtain ⟨A, cap, rfl⟩ := hz.form
  clear h hT hz hl
  go_enter Tryz.func42, Tryz.ntmps42
  go_wp2
  go_loopw [0, 12] (fun av iv wr => ∃ (k : Nat) (gk : Nat) (S : St), av = .pointer (some ⟨gk, 0, none⟩) ∧ k ≤ C.length ∧ iv = .int .i64 k ∧ TrAt wr gk S ∧ Ver.chsC S0 C = Ver.chsC S (C.drop k) ∧ Ver.chsS S0 C = Ver.chsS S (C.drop k) ∧ Below w.heap.size w wr) (fun _ i _ => C.length - (intOf i).toNat)
  case atStart => exact ⟨0, g, S0, rfl, Nat.zero_le _, rfl, HTP.out, rfl, rfl, Below.refl _ _⟩
  case round =>
    obtain ⟨k, gk, S, rfl, hk, rfl, htr, hcc, hcs, hb⟩ := hrel
    have HB := Lib.hid hb
    have HCC := Lib.hid hcc
    have HCS := Lib.hid hcs
    by_cases hlt : k < C.length
    · have h1 : (k : Int) < (C.length : Int) := by omega
      have h0 : (0 : Int) ≤ (k : Int) := by omega
      have hnb : (k : Int) ≤ 100 := by have := HL.out; omega
      have HZW := Lib.hid (HZ.out.below hb)
      obtain ⟨b, o, rfl, n0, n1⟩ := ItLo.at HZW.out k hlt
      obtain ⟨X, hX⟩ : ∃ X, C[k] = X := ⟨_, rfl⟩
      have HST := Lib.hid (chs_step (S := S) hlt)
      rw [hX] at HST n0 n1
      have hba : Below wr.heap.size wr (wr.alloc (.cells #[.string ⟨X.1.toArray⟩, .string ⟨X.2.toArray⟩] 39)) := (Below.refl _ wr).alloc (Nat.le_refl _) _
      have HCH := Lib.hid (vchanged_any X (wr.alloc (.cells #[.string ⟨X.1.toArray⟩, .string ⟨X.2.toArray⟩] 39)) (htr.below hba) ((HT.out.below hb).below hba))
      have HBA : Hid (∀ w', Below (wr.alloc (.cells #[.string ⟨X.1.toArray⟩, .string ⟨X.2.toArray⟩] 39)).heap.size (wr.alloc (.cells #[.string ⟨X.1.toArray⟩, .string ⟨X.2.toArray⟩] 39)) w' → Below w.heap.size w w') := Lib.hid (fun w' h => bchain HB.out (bchain hba h))
      unfold ChPost at HCH
      clear htr hcc hcs hb hX hba
      go_wp2_with fail
      refine HCH.out.mono ?_
      rintro e w2 ⟨z, rfl, hz1, hb2⟩
      have HB2 := Lib.hid (HBA.out _ hb2)
      obtain ⟨c, hc⟩ : ∃ c, Ver.chC S X = c := ⟨_, rfl⟩
      rw [hc] at HST hz1 ⊢
      by_cases hc0 : c = 0
      · obtain ⟨g', rfl, ht2⟩ := hz1 hc0
        subst hc0
        have HST2 := Lib.hid (HST.out.1 rfl)
        have HT2 := Lib.hid ht2
        clear hz1 hb2 ht2 hc
        go_wp2
        exact ⟨⟨k + 1, g', Ver.chS S X, rfl, by omega, by go_num, HT2.out, by rw [HCC.out]; exact HST2.out.1, by rw [HCS.out]; exact HST2.out.2, HB2.out⟩, by simp [intOf]; omega⟩
      · have hc1 : ((c : Int) != 0) = true := by rw [bne_iff_ne]; omega
        have HE : Hid (Ver.chsC S0 C = c) := Lib.hid (by rw [HCC.out]; exact HST.out.2 hc0)
        have HC0 := Lib.hid hc0
        clear hz1 hb2 hc0 hc
        go_wp2
        go_ret2
        exact WithPost.bad HE.out HC0.out HB2.out
    · obtain rfl : k = C.length := by omega
      have h1 : ¬ ((C.length : Int) < (C.length : Int)) := by omega
      have H0 : Hid (Ver.chsC S0 C = 0) := Lib.hid (by rw [HCC.out, List.drop_length]; rfl)
      have HS0 : Hid (Ver.chsS S0 C = S) := Lib.hid (by rw [HCS.out, List.drop_length]; rfl)
      have HTRR := Lib.hid htr
      clear htr hcc hcs hb
      go_wp2
      go_ret2
      exact WithPost.good H0.out (by rw [HS0.out]; exact HTRR.out) HB.out
end Go.Proofs.YtjfefphgikncnaaGreatDoor
namespace Go.Proofs.YtjfefphgikncnaaGreatDoor
open Go.RowKit
open Sto (T St)

def CmPost (w : World) (g gs ms mr : Nat) (lo : Int) (m : Ver.M) (x : Int) (C : St) (e : Ending) (w' : World) : Prop :=
  e = .returned (.tuple #[.string ⟨(m.comR x C).toArray⟩, .int .i64 (m.comC x C)]) ∧ (∃ gt', VHeld w' g gs ms mr gt' lo (m.com x C)) ∧ Out (held g gs ms mr) w w' ∧ Tab w'
theorem CmPost.bad {w : World} {g gs ms mr gt : Nat} {lo : Int} {m : Ver.M} {x : Int} {C : St} {c : Nat} (h : VHeld w g gs ms mr gt lo m) (hT : Tab w) (hc : m.comC x C = c) (h0 : c ≠ 0) {w' : World} (hb : Below w.heap.size w w') : CmPost w g gs ms mr lo m x C (.returned (.tuple #[.string ⟨#[]⟩, .int .i64 c])) w' := by
  subst hc
  refine ⟨by unfold Ver.M.comR; rw [if_neg h0], ⟨gt, ?_⟩, Out.of hb, hT.below hb⟩
  unfold Ver.M.com
  rw [if_neg h0]
  exact h.below hb
theorem com_eq {m : Ver.M} {x : Int} {C : St} (h : m.comC x C = 0) : m.com x C = m.comI x C m.top ∧ m.comR x C = rootS (Ver.chsS m.top C) := by
  refine ⟨?_, ?_⟩
  · unfold Ver.M.com; rw [if_pos h]; rfl
  · unfold Ver.M.comR; rw [if_pos h]
theorem top_comI {m : Ver.M} {x : Int} {C I : St} : (m.comI x C I).top = Ver.chsS I C := by
  unfold Ver.M.comI Ver.M.top
  simp
set_option maxRecDepth 100000 in
set_option maxHeartbeats 4000000 in
theorem vcommit_any {w : World} {g gs ms mr gt : Nat} {lo : Int} {m : Ver.M} (h : VHeld w g gs ms mr gt lo m) (x : Int) (z : Value) (C : St) (hT : Tab w) (hz : ItLo w z C) (hl : C.length ≤ 100) :
    Calls Tryz.prog 14 #[ptr g, .int .i64 x, z] w (CmPost w g gs ms mr lo m x C) := by
  have c2 := h.c2
  have c3 := h.c3
  have c4 := h.c4
  have HV := Lib.hid h
  have HT := Lib.hid hT
  have HOV := Lib.hid (fun hx : 0 ≤ x => h.over hx)
  have HUN := Lib.hid (fun hx : 0 ≤ x => h.under hx)
  have HWI := Lib.hid (vmade_any h.top z C hT hz hl)
  have HG0 := Lib.hid h.good.top
  unfold WithPost at HWI
  obtain ⟨A, cap, rfl⟩ := hz.form
  unfold ptr
  clear h hT hz hl
  by_cases hr1 : x < 0
  · have HC : Hid (m.comC x C = 1) := Lib.hid (by unfold Ver.M.comC; rw [if_pos (Or.inl hr1)])
    clear c2 c3 c4 HWI HG0
    go_enter Tryz.func14, Tryz.ntmps14
    go_wp2
    go_ret2
    exact CmPost.bad HV.out HT.out HC.out (by decide) (Below.refl _ _)
  by_cases hr2 : (1048576 : Int) < x
  · have HC : Hid (m.comC x C = 1) := Lib.hid (by unfold Ver.M.comC Ver.maxH; rw [if_pos (Or.inr hr2)])
    clear c2 c3 c4 HWI HG0
    go_enter Tryz.func14, Tryz.ntmps14
    go_wp2
    go_ret2
    exact CmPost.bad HV.out HT.out HC.out (by decide) (Below.refl _ _)
  have hov := HOV.out (by omega)
  have hun := HUN.out (by omega)
  obtain ⟨nw, hnw⟩ : ∃ nw, m.newest = nw := ⟨_, rfl⟩
  rw [hnw] at c2 hov
  by_cases hr3 : x ≤ nw
  · have HC : Hid (m.comC x C = 120) := Lib.hid (by unfold Ver.M.comC Ver.maxH; rw [if_neg (by omega), if_pos (Or.inl (hov.2 hr3))])
    clear hov hun hnw HWI HG0
    go_enter Tryz.func14, Tryz.ntmps14
    go_wp2
    go_ret2
    exact CmPost.bad HV.out HT.out HC.out (by decide) (Below.refl _ _)
  by_cases hr4 : x < lo
  · have HC : Hid (m.comC x C = 120) := Lib.hid (by unfold Ver.M.comC Ver.maxH; rw [if_neg (by omega), if_pos (Or.inr (hun.2 hr4))])
    clear hov hun hnw HWI HG0
    go_enter Tryz.func14, Tryz.ntmps14
    go_wp2
    go_ret2
    exact CmPost.bad HV.out HT.out HC.out (by decide) (Below.refl _ _)
  have HC : Hid (m.comC x C = Ver.chsC m.top C) := Lib.hid (by unfold Ver.M.comC Ver.maxH; rw [if_neg (by omega), if_neg (fun hh => hh.elim (fun q => hr3 (hov.1 q)) (fun q => hr4 (hun.1 q)))])
  have HX : Hid ((Lit.int .i64 x).wf = true) := Lib.hid (wf_height ⟨by omega, by unfold Ver.maxH; omega⟩)
  clear hov hun hnw
  go_enter Tryz.func14, Tryz.ntmps14
  go_wp2_with fail
  refine HWI.out.mono ?_
  rintro e w1 ⟨z1, rfl, hz1, hb1⟩
  have HB1 := Lib.hid hb1
  obtain ⟨c, hc⟩ : ∃ c, Ver.chsC m.top C = c := ⟨_, rfl⟩
  have HCQ : Hid (m.comC x C = c) := Lib.hid (by rw [HC.out]; exact hc)
  have HC2 := Lib.hid hc
  rw [hc] at hz1 ⊢
  by_cases hc0 : c = 0
  · subst hc0
    obtain ⟨gt', rfl, htr⟩ := hz1 rfl
    have HCC : Hid (m.comCI x C m.top = 0) := Lib.hid HCQ.out
    have HV1 := Lib.hid (HV.out.below hb1)
    have HTR := Lib.hid htr
    have HSV := Lib.hid (tsave_any w1 htr (HV.out.below hb1).store (HT.out.below hb1))
    have d0 := (HV.out.below hb1).c0
    obtain ⟨t0, ht0⟩ := Ver.chsS_good C HG0.out hc
    have hrl := root_short ht0
    obtain ⟨R, hR⟩ : ∃ R, rootS (Ver.chsS m.top C) = R := ⟨_, rfl⟩
    have HRR := Lib.hid hR
    rw [hR] at HSV hrl
    have HRL := Lib.hid hrl
    clear c2 c3 c4 HWI hb1 hc htr ht0 hR hrl hz1
    go_wp2_with fail
    refine HSV.out.mono ?_
    rintro e w2 ⟨rfl, hs2, ho2⟩
    have hgm : g ≠ ms := fun e => HV1.out.store.map.no_cells g _ _ _ e HV1.out.head
    have hgr : g ≠ mr := fun e => FnAt.no_cells HV1.out.roots g _ _ _ e HV1.out.head
    have HD2 := Lib.hid (ho2.heap HV1.out.head hgm)
    have HS2 := Lib.hid hs2
    have HT2 : Hid (TrAt w2 gt' (Ver.chsS m.top C)) := Lib.hid (HTR.out.outB ho2 (fun k hk => HV1.out.bare k (Or.inr (Or.inr (Or.inl hk)))))
    have HO2 : Hid (Out (held g gs ms mr) w w2) := Lib.hid ((Out.of HB1.out).trans (ho2.mono fun k _ e => Or.inr (Or.inr (Or.inl e))))
    have HR2 : Hid (RootsAt w2 mr m) := Lib.hid (HV1.out.roots.out ho2 HV1.out.apart)
    have HCE : Hid (∀ w', Below w2.heap.size w2 w' → w'.cell? ⟨g, 1, none⟩ = some (.map (some mr))) := Lib.hid (fun w' hb => by rw [hb.cell (lt_of_heap HD2.out), cell_of_row _ _ _ _ _ _ HD2.out]; rfl)
    have HPU : Hid (∀ w', Below w2.heap.size w2 w' → ∃ w4, (Instr.mapUpdate 77 (.map (some mr)) (.int .i64 x) (.agg #[.string ⟨R.toArray⟩])).run Tryz.prog w' = .ok () w4 ∧ RootsAt w4 mr (m.comI x C m.top) ∧ Out (fun i => i = mr) w2 w4 ∧ w4.cell? ⟨g, 1, none⟩ = some (.map (some mr))) := Lib.hid (fun w' hb => by
      obtain ⟨w4, r1, r2, r3⟩ := (HR2.out.out (F := fun _ => False) (Out.of hb) id).put HCC.out
      rw [HRR.out] at r1
      exact ⟨w4, r1, r2, (Out.of hb).trans r3, r3.cell (HCE.out w' hb) hgr⟩)
    have BD : Below w2.heap.size w2 w2.drew := (Below.refl _ _).drew
    have cD := HCE.out _ BD
    clear d0 hs2 ho2 HSV
    have HCL : Hid (∀ w', Below w2.heap.size w2 w' → Calls Tryz.prog 44 #[.string ⟨R.toArray⟩] w' fun e w'' => e = .returned (.string ⟨R.toArray⟩) ∧ Below w2.heap.size w2 w'') := Lib.hid (fun w' hb => (dclone_any R w' (by have := HRL.out; omega)).mono fun e w'' q => ⟨q.1, hb.trans (q.2.mono hb.size)⟩)
    go_upto_region 9 with fail
    go_region_held3 (fun w' => w'.cell? ⟨g, 1, none⟩ = some (.map (some mr)))
      ((first | (refine HCE.out _ ?_; with_reducible assumption) | (with_reducible assumption)))
      (first | (go_at_call 44; refine (HCL.out _ ?_).mono ?_; (with_reducible assumption); rintro e wa ⟨rfl, ha⟩; obtain ⟨wa4, hra, hpa, hca, hcd⟩ := HPU.out _ ha))
    all_goals
      have hd4 := hca.heap HD2.out hgr
      have f2 := frozen_of_row wa4 g 2 _ _ hd4
      have f3 := frozen_of_row wa4 g 3 _ _ hd4
      have e2 : wa4.cell? ⟨g, 2, none⟩ = some (.int .i64 m.newest) := by rw [cell_of_row _ _ _ _ _ _ hd4]; rfl
      have e3 : wa4.cell? ⟨g, 3, none⟩ = some (.pointer (some ⟨gt, 0, none⟩)) := by rw [cell_of_row _ _ _ _ _ _ hd4]; rfl
      have HD4 := Lib.hid hd4
      have HPA := Lib.hid hpa
      have HCA := Lib.hid hca
      clear hd4 hpa hca hra ha hcd
      go_wp2
      go_ret2
      have ho5 : Out (fun k => k = g) wa4 ((wa4.setCell ⟨g, 2, none⟩ (.int .i64 x)).setCell ⟨g, 3, none⟩ (.pointer (some ⟨gt', 0, none⟩))) := Out.setCell (F := fun k => k = g) (Out.setCell (F := fun k => k = g) (Out.refl _ wa4) (p := ⟨g, 2, none⟩) rfl _) (p := ⟨g, 3, none⟩) rfl _
      have hoA : Out (held g gs ms mr) w ((wa4.setCell ⟨g, 2, none⟩ (.int .i64 x)).setCell ⟨g, 3, none⟩ (.pointer (some ⟨gt', 0, none⟩))) := (HO2.out.trans (HCA.out.mono fun k _ e => Or.inr (Or.inr (Or.inr e)))).trans (ho5.mono fun k _ e => Or.inl e)
      obtain ⟨q1, q2⟩ := com_eq HCQ.out
      have ho25 : Out (held g gs ms mr) w2 ((wa4.setCell ⟨g, 2, none⟩ (.int .i64 x)).setCell ⟨g, 3, none⟩ (.pointer (some ⟨gt', 0, none⟩))) := (HCA.out.mono fun k _ e => Or.inr (Or.inr (Or.inr e))).trans (ho5.mono fun k _ e => Or.inl e)
      have hbare : ∀ k, held g gs ms mr k → ∀ cs t f, w2.heap[k]? = some (.cells cs t f) → t ≠ 99 ∧ t ≠ 82 := by
        intro k hk cs t f he
        rcases hk with rfl | rfl | rfl | rfl
        · rw [HD2.out] at he; cases he; decide
        · rw [HS2.out.head] at he; cases he; decide
        · exact absurd he (HS2.out.map.no_cells _ _ _ _ rfl)
        · exact absurd he (FnAt.no_cells HR2.out _ _ _ _ rfl)
      refine ⟨by rw [q2, HCQ.out, HRR.out]; rfl, ⟨gt', ?_⟩, hoA, HT.out.outside hoA (HV.out.tab HT.out)⟩
      rw [q1]
      refine ⟨?_, ?_, ?_, HV.out.low, ?_, ?_, HV.out.apart⟩
      · have h1 := heap_setCell_same _ _ 3 _ _ (.pointer (some ⟨gt', 0, none⟩)) (heap_setCell_same _ _ 2 _ _ (.int .i64 x) HD4.out)
        rw [Ver.newest_comI]
        exact h1
      · have h1 : StoreAt wa4 gs ms (m.comI x C m.top).st := HS2.out.out HCA.out (fun e => FnAt.no_cells HR2.out gs _ _ _ e HS2.out.head) (fun e => HV.out.apart e.symm)
        exact h1.out ho5 (fun e => by have h2 := h1.head; rw [e, HD4.out] at h2; cases h2) (fun e => h1.map.no_cells g _ _ _ e.symm HD4.out)
      · exact HPA.out.out ho5 (fun e => hgr e.symm)
      · rw [top_comI]; exact HT2.out.outB ho25 hbare
      · exact (Ver.M.Com.good m.top ⟨HG0.out, fun _ _ _ => rfl⟩ HCC.out : m.Com x C _ _ _).good' HV.out.good
  · have hcn : ((c : Int) != 0) = true := by rw [bne_iff_ne]; omega
    have H0 := Lib.hid hc0
    clear c2 c3 c4 HWI hb1 hc hz1 hc0
    go_wp2
    go_ret2
    exact CmPost.bad HV.out HT.out HCQ.out H0.out HB1.out
end Go.Proofs.YtjfefphgikncnaaGreatDoor
namespace Go.Proofs.YtjfefphgikncnaaGreatDoor
open Sto (T St)
namespace Ver

/-- The height goes. -/
def goesB (m : M) (b x : Int) : Bool := decide (x < b ∧ m.last ≠ some x)
/-- The map of roots behind the heights of done. -/
def pruneF (m : M) (b : Int) (done : List Int) (x : Int) : Option T := if x ∈ done ∧ goesB m b x = true then none else (m.find x).map rootS
theorem pruneF_nil (m : M) (b x : Int) : pruneF m b [] x = (m.find x).map rootS := by simp [pruneF]
theorem pruneF_in (m : M) (b : Int) (done : List Int) (s : Int) (h : goesB m b s = false) (x : Int) : pruneF m b done x = pruneF m b (done ++ [s]) x := by
  unfold pruneF
  by_cases hx : x = s
  · subst hx; simp [h]
  · simp [hx]
theorem pruneF_out (m : M) (b : Int) (done : List Int) (s : Int) (h : goesB m b s = true) (x : Int) : updF (pruneF m b done) s none x = pruneF m b (done ++ [s]) x := by
  unfold updF pruneF
  by_cases hx : x = s
  · subst hx; simp [h]
  · simp [hx]
theorem pruneF_le {m : M} {b : Int} {done : List Int} {x : Int} (h : pruneF m b done x ≠ none) : m.find x ≠ none := fun e => by
  apply h
  unfold pruneF
  rw [e]
  split <;> rfl
theorem filter_sum (p : Int → Bool) : ∀ l : List Int, l.length = (l.filter p).length + (l.filter fun x => !p x).length
  | [] => rfl
  | x :: r => by
    have := filter_sum p r
    by_cases h : p x = true
    · simp [h]; omega
    · simp [h]; omega
theorem heights_nodup {m : M} (g : m.Good) : (m.vs.map (·.1)).Nodup := (List.pairwise_map.2 g.rise).imp fun {a b} hab e => by omega
theorem mem_heights {m : M} (g : m.Good) (x : Int) : x ∈ m.vs.map (·.1) ↔ m.find x ≠ none := by
  rw [List.mem_map]
  constructor
  · rintro ⟨⟨y, I⟩, hy, rfl⟩
    rw [(find_iff g).2 hy]
    simp
  · intro hx
    cases hf : m.find x with
    | none => exact absurd hf hx
    | some I => exact ⟨(x, I), (find_iff g).1 hf, rfl⟩
/-- All have come: the map, how many went, what is kept. -/
theorem sift_end {m : M} (g : m.Good) {b : Int} {done : List Int} (hn : done.Nodup) (hd : ∀ x ∈ done, m.find x ≠ none) (ha : ∀ x, pruneF m b done x ≠ none → x ∈ done) :
    (∀ x, pruneF m b done x = ((m.prune b).find x).map rootS) ∧ (done.filter (goesB m b)).length = m.vs.length - (m.prune b).vs.length ∧ Sto.keepL m.st ((done.filter fun x => !goesB m b x).map m.findR) = (m.prune b).st := by
  have hall : ∀ x, x ∈ done ↔ m.find x ≠ none := fun x => ⟨hd x, fun hx => by
    by_cases h : x ∈ done
    · exact h
    · refine ha x ?_
      unfold pruneF
      rw [if_neg (fun e => h e.1)]
      cases hf : m.find x with
      | none => exact absurd hf hx
      | some I => simp⟩
  have hp : ∀ x, (m.prune b).find x = if goesB m b x = true then none else m.find x := fun x => by
    rw [find_prune g]
    unfold goesB
    simp only [decide_eq_true_eq]
  have gp := g.prune b
  refine ⟨fun x => ?_, ?_, ?_⟩
  · rw [hp]
    unfold pruneF
    by_cases hg : goesB m b x = true
    · rw [if_pos hg]
      by_cases hx : x ∈ done
      · rw [if_pos ⟨hx, hg⟩]; rfl
      · rw [if_neg (fun e => hx e.1)]
        have : m.find x = none := by
          cases hf : m.find x with
          | none => rfl
          | some I => exact absurd ((hall x).2 (by rw [hf]; simp)) hx
        rw [this]
        try rfl
    · rw [if_neg hg, if_neg (fun e => hg e.2)]
  · have p1 : done.Perm (m.vs.map (·.1)) := (List.perm_ext_iff_of_nodup hn (heights_nodup g)).2 fun x => (hall x).trans (mem_heights g x).symm
    have p2 : (done.filter fun x => !goesB m b x).Perm ((m.prune b).vs.map (·.1)) := (List.perm_ext_iff_of_nodup (hn.filter _) (heights_nodup gp)).2 fun x => by
      rw [mem_heights gp, hp, List.mem_filter, hall]
      by_cases hg : goesB m b x = true <;> simp [hg]
    have e1 := p1.length_eq
    have e2 := p2.length_eq
    have e3 := filter_sum (goesB m b) done
    simp only [List.length_map] at e1 e2
    omega
  · show _ = Sto.keepL m.st ((m.prune b).vs.map fun x => rootS x.2)
    refine keepL_set g.sto fun r => ?_
    rw [List.mem_map, List.mem_map]
    constructor
    · rintro ⟨x, hx, rfl⟩
      obtain ⟨h1, h2⟩ := List.mem_filter.1 hx
      cases hf : m.find x with
      | none => exact absurd hf (hd x h1)
      | some I =>
        refine ⟨(x, I), (find_iff gp).1 ?_, ?_⟩
        · rw [hp, if_neg (by simpa using h2), hf]
        · unfold M.findR; rw [hf]
    · rintro ⟨⟨x, I⟩, hx, rfl⟩
      have h1 := (find_iff gp).2 hx
      rw [hp] at h1
      by_cases hg : goesB m b x = true
      · rw [if_pos hg] at h1; cases h1
      · rw [if_neg hg] at h1
        refine ⟨x, List.mem_filter.2 ⟨(hall x).2 (by rw [h1]; simp), by simp [hg]⟩, ?_⟩
        unfold M.findR; rw [h1]
end Ver
end Go.Proofs.YtjfefphgikncnaaGreatDoor
