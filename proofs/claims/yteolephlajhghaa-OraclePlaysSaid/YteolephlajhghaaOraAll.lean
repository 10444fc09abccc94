/- oracle.All. -/
import Derived.Test.YteolephlajhghaaOraSorted
import Derived.Test.YteolephlajhghaaOraHonest
import Derived.Laws.MakeOwn
namespace Go.Proofs.Yteolephlajhghaa
open Go.RowKit
open Go.Proofs.Yteolephlajhghaa.Ora (K Sig)

theorem le_of_sub {α : Type} [BEq α] [LawfulBEq α] : ∀ {l M : List α}, l.Nodup → (∀ x ∈ l, x ∈ M) → l.length ≤ M.length
  | [], _, _, _ => Nat.zero_le _
  | a :: r, M, hn, hs => by
    obtain ⟨h1, h2⟩ := List.nodup_cons.1 hn
    have ha := hs a (List.mem_cons_self ..)
    have := le_of_sub (M := M.erase a) h2 fun x hx => (List.mem_erase_of_ne (fun e => h1 (by rw [← e]; exact hx))).2 (hs x (List.mem_cons_of_mem _ hx))
    rw [List.length_erase_of_mem ha] at this
    have hpos : 0 < M.length := List.length_pos_of_mem ha
    simp only [List.length_cons]
    omega
theorem FnRange.nodup {P : Program} {k : TypeId} {κ α : Type} {M : MapLaw P k κ α} {w : World} {b r : Nat} {f : κ → Option α} {done : List κ} {cnt : Nat} (h : FnRange M w b r f done cnt) : done.Nodup ∧ ∀ s ∈ done, f s ≠ none := by
  obtain ⟨_, _, _, _, _, _, _, _, _, _, _, _, _, _, h1, _, h2⟩ := h
  exact ⟨h1, h2⟩
theorem Ora.done_le {S : List Sig} (hS : Ora.Rising S) {done : List K} (hn : done.Nodup) (hs : ∀ s ∈ done, Ora.look S s ≠ none) : done.length ≤ S.length := by
  have := le_of_sub (M := S.map (·.1)) hn fun k hk => by
    cases hf : Ora.look S k with
    | none => exact absurd hf (hs k hk)
    | some b => exact List.mem_map.2 ⟨(k, b), (Ora.look_mem hS k b).1 hf, rfl⟩
  simpa using this
theorem Ora.all_perm {S L : List Sig} (hS : Ora.Rising S) (hn : (L.map (·.1)).Nodup) (hh : ∀ x ∈ L, Ora.look S x.1 = some x.2) (hall : ∀ k, Ora.look S k ≠ none → k ∈ L.map (·.1)) : L.Perm S := by
  refine (List.perm_ext_iff_of_nodup (List.Pairwise.imp (fun {a b} hab => fun (e : a = b) => hab (by rw [e])) (List.pairwise_map.1 hn)) (List.Pairwise.imp (fun {a b} hab => fun (e : a = b) => Ora.kLt_ne hab (congrArg Prod.fst e)) hS)).2 ?_
  rintro ⟨k, b⟩
  rw [← Ora.look_mem hS]
  constructor
  · exact fun h => hh _ h
  · intro h
    obtain ⟨⟨k', b'⟩, hm, rfl⟩ := List.mem_map.1 (hall k (by rw [h]; simp))
    have := hh _ hm
    dsimp only at this h
    rw [this] at h
    cases h
    exact hm

theorem all_step {w3 w5 w6 : World} {B m r cnt g' cap : Nat} {S L : List Sig} {t : Value} {k : K} {b : Bool} {o : Obj} (hf : FnRange sigMap w3 m r (Ora.look S) (L.map (·.1) ++ [k]) cnt) (hrow : OwnS w3 B t L) (hb : Below w3.heap.size w3 w5) (hB : B ≤ w3.heap.size)
    (hown : w6.ownsRow B 40 3 (.slice (some ⟨g', 0, none⟩) (L.length + 1) cap) (L.length + 1) (sgrows L ++ sgrows [(k, b)])) (hgrow : (w5.alloc o).grownBy w6 t.ownBlock) :
    FnRange sigMap w6 m r (Ora.look S) ((L ++ [(k, b)]).map (·.1)) cnt ∧ OwnS w6 B (.slice (some ⟨g', 0, none⟩) (L.length + 1) cap) (L ++ [(k, b)]) ∧ Below B w3 w6 := by
  have hb5 : Below w3.heap.size w3 (w5.alloc o) := hb.alloc hb.size o
  have hf5 := hf.below hb5
  have hrow5 := hrow.below hb5
  have hcell : ∀ j, t.ownBlock = some j → ∃ cs ty f, (w5.alloc o).heap[j]? = some (.cells cs ty f) := fun j hj => by
    rcases hrow5.2 with ⟨rfl, _⟩ | ⟨g, c, cur, rfl, _, hh, _⟩
    · simp [Value.ownBlock] at hj
    · simp [Value.ownBlock] at hj
      subst hj
      exact ⟨_, _, _, hh⟩
  have ho : Out (fun j => t.ownBlock = some j) (w5.alloc o) w6 := Out.grown hgrow (fun j e => e)
  refine ⟨?_, ?_, ?_⟩
  · rw [List.map_append]
    exact hf5.out ho (fun e => by obtain ⟨cs, ty, f, h⟩ := hcell _ e; exact hf5.map.no_cells _ _ _ _ rfl h) (fun e => by obtain ⟨cs, ty, f, h⟩ := hcell _ e; exact hf5.no_cells _ _ _ _ rfl h)
  · unfold OwnS
    rw [sgrows_append, List.length_append]
    exact hown
  · exact (hb5.mono hB).trans (ho.below (fun j hj => (World.ownsRow.lt hrow5 j hj).1) (Nat.le_trans hB hb5.size))

def AllPost (S : List Sig) (w : World) (e : Ending) (w' : World) : Prop := ∃ s, e = .returned s ∧ OwnS w' w.heap.size s S ∧ Below w.heap.size w w'

set_option maxRecDepth 8000 in
set_option maxHeartbeats 2000000 in
theorem all_any (g m : Nat) (S : List Sig) (w : World) (h : TabAt w g m S) (hl : S.length ≤ 1000000) :
    Calls Try.prog 16 #[.pointer (some ⟨g, 0, none⟩)] w (AllPost S w) := by
  have hc := h.cell
  have HS := Lib.hid h.rise
  have hlen := h.len 3
  obtain ⟨i0, hi, hz0, hz1, hz2⟩ := info_parts Try.infoSigned
  obtain ⟨w1, hmk, hown1, hg1⟩ := run_make_own (P := Try.prog) w w.heap.size 25 40 i0 (.agg #[.string ⟨#[]⟩, .string ⟨#[]⟩, .bool false]) 3 Try.underlying25 hi hz0 hz1 .i64 .i64 S.length (by rw [hz2]; omega) (by unfold maxLen; omega) (Nat.le_refl _)
  have hb1 : Below w.heap.size w w1 := (Out.grown hg1 (F := fun _ => False) (fun k e => by cases e)).below (fun _ hf => hf.elim) (Nat.le_refl _)
  have h1 := h.below hb1
  have hc1 := h1.cell
  obtain ⟨w2, cnt2, hrg, hfr2, hb2, hs2⟩ := h1.map.range Try.underlying43
  obtain ⟨r, hr⟩ : ∃ r, w1.heap.size = r := ⟨_, rfl⟩
  rw [hr] at hrg hfr2 hb2
  obtain ⟨B, hB⟩ : ∃ B, w.heap.size = B := ⟨_, rfl⟩
  rw [hB] at hown1 hb1 hmk
  have HBr : Hid (B ≤ r) := Lib.hid (by rw [← hr, ← hB]; exact hg1.size)
  have HB0 := Lib.hid hB
  have HF0 := Lib.hid hfr2
  have HB2 : Hid (Below B w w2) := Lib.hid (hb1.trans (hb2.mono HBr.out))
  have HROW : Hid (OwnS w2 B (.slice (some ⟨B, 0, none⟩) 0 S.length) []) := Lib.hid (OwnS.below (L := []) hown1 (hr.symm ▸ hb2))
  clear h h1 hfr2 hb2 hs2 hr hown1 hg1 hb1 hB
  go_enter Try.func16, Try.ntmps16
  go_wp2
  clear hmk hrg hlen hc hc1
  go_loopw [3] (fun s wr => ∃ (L : List Sig) (cnt : Nat) (t : Value), t = s ∧ FnRange sigMap wr m r (Ora.look S) (L.map (·.1)) cnt ∧ OwnS wr B t L ∧ (∀ x ∈ L, Ora.look S x.1 = some x.2) ∧ Below B w wr) (fun _ wr => wr.rangeLeft m r)
  case atStart => exact ⟨[], cnt2, _, rfl, HF0.out, HROW.out, (fun x hx => by simp at hx), HB2.out⟩
  case round =>
    obtain ⟨L, cnt, t, rfl, hfr, hrow, hhas, hb⟩ := hrel
    have HB := Lib.hid hb
    have HH := Lib.hid hhas
    have HFR := Lib.hid hfr
    have HRW := Lib.hid hrow
    have hLl := Ora.done_le HS.out hfr.nodup.1 hfr.nodup.2
    rw [List.length_map] at hLl
    have HLL : Hid (L.length ≤ 1000000) := Lib.hid (by omega)
    clear HF0 HROW HB2
    rcases hfr.next 0 with ⟨hall, hrun⟩ | ⟨⟨x, d⟩, a, w3, cnt3, hf, hok, hnot, hrun, hfr3, hlt, ho, hsz, hen⟩
    · have hnx : ∀ ty, (Instr.next (.pointer (some ⟨r, 0, none⟩)) false ty).run Try.prog wr = _ := fun _ => hrun
      have HSO := Lib.hid (sorts_any L S t B wr hrow HS.out (Ora.all_perm HS.out hfr.nodup.1 hhas hall) HLL.out (by have := hb.size; have := HB0.out; omega))
      clear hfr hrow hhas hb hLl hall hrun
      go_wp2_with fail
      refine HSO.out.mono ?_
      rintro e w4 ⟨rfl, hown, hb4⟩
      go_wp2
      go_ret
      exact ⟨t, rfl, by rw [HB0.out]; exact hown, by rw [HB0.out]; exact HB.out.trans hb4⟩
    · dsimp only [sigMap, kval] at hrun hen
      have hnx : ∀ ty, (Instr.next (.pointer (some ⟨r, 0, none⟩)) false ty).run Try.prog wr = _ := fun _ => hrun
      have HB3 : Hid (Below B w w3) := Lib.hid (hb.trans (ho.below (fun i hi => by rw [hi]; exact HBr.out) (by have := hb.size; have := HB0.out; omega)))
      have HRW3 : Hid (OwnS w3 B t L) := Lib.hid (hrow.out ho (fun j cs ty f e => hfr.no_cells _ _ _ _ e))
      have HFR3 := Lib.hid hfr3
      have HLT := Lib.hid hlt
      have HF := Lib.hid hf
      have HCP := Lib.hid (fun w => scopied_any (x, d) w hok)
      unfold kval at HCP
      dsimp only at HCP
      have HB3s : Hid (B ≤ w3.heap.size) := Lib.hid (by have := HB3.out.size; have := HB0.out; omega)
      clear hfr hrow hhas hb hLl hrun hfr3 hlt hf hok hnot ho hsz
      go_wp2_with fail
      refine (HCP.out _).mono ?_
      rintro e w4 ⟨rfl, hb4⟩
      obtain ⟨q, hq⟩ : ∃ q, w3.heap.size = q := ⟨_, rfl⟩
      have g0 := (hb4.block q (by simp [hq]; omega)).trans (heap_old_at (.cells #[.bool a] 50) (heap_new_at w3 (.cells #[.string ⟨x.toArray⟩, .string ⟨d.toArray⟩] 48) q hq.symm))
      have g1 := (hb4.block (q + 1) (by simp [hq])).trans (heap_new_at (w3.alloc (.cells #[.string ⟨x.toArray⟩, .string ⟨d.toArray⟩] 48)) (.cells #[.bool a] 50) (q + 1) (by simp [hq]))
      have hb4' : Below q w3 w4 := by
        have h0 : Below q w3 ((w3.alloc (.cells #[.string ⟨x.toArray⟩, .string ⟨d.toArray⟩] 48)).alloc (.cells #[.bool a] 50)) := ((Below.refl q w3).alloc (Nat.le_of_eq hq.symm) _).alloc (by simp [hq]) _
        exact h0.trans (hb4.mono (by simp [hq]; omega))
      rw [hq]
      obtain ⟨c0, c1, f0, f1⟩ := cells2 g0
      have g2 := set2 (.string ⟨x.toArray⟩) (.string ⟨d.toArray⟩) g0
      obtain ⟨e0, e1, -, -⟩ := cells2 g2
      have e2 : ((w4.setCell ⟨q, 0, none⟩ (.string ⟨x.toArray⟩)).setCell ⟨q, 1, none⟩ (.string ⟨d.toArray⟩)).cell? ⟨q + 1, 0, none⟩ = some (.bool a) := keep_cell (keep_cell (cell_of_row _ _ 0 _ _ _ g1) (by simp)) (by simp)
      have HB5 : Hid (Below w3.heap.size w3 ((w4.setCell ⟨q, 0, none⟩ (.string ⟨x.toArray⟩)).setCell ⟨q, 1, none⟩ (.string ⟨d.toArray⟩))) := Lib.hid (by rw [hq]; exact (hb4'.setCell (Nat.le_refl _) _).setCell (Nat.le_refl _) _)
      have HR5 := Lib.hid (HRW3.out.below HB5.out)
      have HG5 : Hid (B ≤ ((w4.setCell ⟨q, 0, none⟩ (.string ⟨x.toArray⟩)).setCell ⟨q, 1, none⟩ (.string ⟨d.toArray⟩)).heap.size) := Lib.hid (Nat.le_trans HB3s.out HB5.out.size)
      clear g0 g1 g2 hb4 hb4' hq
      go_wp2_with ((at_builtin; refine wpList_append_lies _ rfl _ _ _ rfl B 40 i0 (.agg #[.string ⟨#[]⟩, .string ⟨#[]⟩, .bool false]) 3 40 Try.underlying25 hi hz0 hz1 hz2 rfl (by decide) t L.length (sgrows L) (by rfl) (World.ownsRow.alloc HR5.out _) ⟨w4.heap.size, 0, none⟩ 1 1 (sgrows [((x, d), a)]) (by rfl) rfl (World.news_of_block (heap_new_at _ _ _ (by simp))) (by simp [sgrows, scl, Value.oneCell']) (by decide) (by have := HLL.out; unfold maxLen; omega) (by have := HLL.out; omega) (by have := HG5.out; simp at this ⊢; omega) (w4.heap.size + 1) (by simp) ?_; intro g' cap' w6 hown6 hgrow6 hat6 hlt6))
      obtain ⟨r1, r2, r3⟩ := all_step HFR3.out HRW3.out HB5.out HB3s.out hown6 hgrow6
      refine ⟨⟨L ++ [((x, d), a)], cnt3, _, rfl, r1, r2, ?_, HB3.out.trans r3⟩, ?_⟩
      · intro z hz
        rcases List.mem_append.1 hz with hz | hz
        · exact HH.out z hz
        · obtain rfl : z = ((x, d), a) := by simpa using hz
          exact HF.out
      · rw [r1.left_eq, HFR.out.left_eq]; exact HLT.out
end Go.Proofs.Yteolephlajhghaa
