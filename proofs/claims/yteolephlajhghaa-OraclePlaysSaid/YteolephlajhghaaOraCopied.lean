/- (oracle.signature).copied. -/
import Derived.Test.YteolephlajhghaaOraBase
import Derived.Test.YteolephlajhghaaStrClone
import Derived.Deep.RegionWith
namespace Go.Proofs.Yteolephlajhghaa
open Go.RowKit
open Go.Proofs.Yteolephlajhghaa.Ora (K Sig)

theorem cells2 {w : World} {g : Nat} {a b : Value} {T : TypeId} (h : w.heap[g]? = some (.cells #[a, b] T (0, 0))) :
    w.cell? ⟨g, 0, none⟩ = some a ∧ w.cell? ⟨g, 1, none⟩ = some b ∧ w.frozen? ⟨g, 0, none⟩ = false ∧ w.frozen? ⟨g, 1, none⟩ = false := by
  refine ⟨cell_of_row w g 0 _ _ _ h, cell_of_row w g 1 _ _ _ h, ?_, ?_⟩ <;> simp [World.frozen?, h]
theorem set2 {w : World} {g : Nat} {a b : Value} {T : TypeId} (x y : Value) (h : w.heap[g]? = some (.cells #[a, b] T (0, 0))) :
    ((w.setCell ⟨g, 0, none⟩ x).setCell ⟨g, 1, none⟩ y).heap[g]? = some (.cells #[x, y] T (0, 0)) := by
  have h3 := heap_setCell_same _ _ 1 _ _ y (heap_setCell_same _ _ 0 _ _ x h)
  simpa using h3

set_option maxRecDepth 8000 in
set_option maxHeartbeats 1000000 in
theorem scopied_any (k : K) (w : World) (hk : OkK k) :
    Calls Try.prog 18 #[kval k] w fun e w' => e = .returned (kval k) ∧ Below w.heap.size w w' := by
  obtain ⟨x, d⟩ := k
  have H1 := Lib.hid (fun w => dclone_any x w hk.1)
  have H2 := Lib.hid (fun w => dclone_any d w hk.2)
  clear hk
  unfold kval
  dsimp only at H1 H2 ⊢
  go_enter Try.func18, Try.ntmps18
  go_wp2
  have hB0 : Below w.heap.size w ((w.alloc (.cells #[.string ⟨x.toArray⟩, .string ⟨d.toArray⟩] 48)).alloc (.cells #[.string ⟨#[]⟩, .string ⟨#[]⟩] 48)) := ((Below.refl _ w).alloc (Nat.le_refl _) _).alloc (by simp) _
  have hg1 := heap_old_at (.cells #[.string ⟨#[]⟩, .string ⟨#[]⟩] 48) (heap_new_at w (.cells #[.string ⟨x.toArray⟩, .string ⟨d.toArray⟩] 48) _ rfl)
  have hg2 := heap_new_at (w.alloc (.cells #[.string ⟨x.toArray⟩, .string ⟨d.toArray⟩] 48)) (.cells #[.string ⟨#[]⟩, .string ⟨#[]⟩] 48) (w.heap.size + 1) (by simp)
  have HS : Hid (∀ w', Below (w.heap.size + 2) ((w.alloc (.cells #[.string ⟨x.toArray⟩, .string ⟨d.toArray⟩] 48)).alloc (.cells #[.string ⟨#[]⟩, .string ⟨#[]⟩] 48)) w' → w'.heap[w.heap.size]? = some (.cells #[.string ⟨x.toArray⟩, .string ⟨d.toArray⟩] 48 (0, 0)) ∧ w'.heap[w.heap.size + 1]? = some (.cells #[.string ⟨#[]⟩, .string ⟨#[]⟩] 48 (0, 0))) :=
    Lib.hid (fun w' hb => ⟨(hb.block _ (by omega)).trans hg1, (hb.block _ (by omega)).trans hg2⟩)
  generalize hw0 : ((w.alloc (.cells #[.string ⟨x.toArray⟩, .string ⟨d.toArray⟩] 48)).alloc (.cells #[.string ⟨#[]⟩, .string ⟨#[]⟩] 48)) = w0 at *
  have hsz : w0.heap.size = w.heap.size + 2 := by rw [← hw0]; simp
  have HSZ := Lib.hid hsz
  have HB0 := Lib.hid hB0
  obtain ⟨c1, c2, -, -⟩ := cells2 hg1
  obtain ⟨d1, d2, f1, f2⟩ := cells2 hg2
  clear hw0 hsz hB0 hg1 hg2
  have HC : Hid (∀ w', Below (w.heap.size + 1) w0 w' → w'.cell? ⟨w.heap.size, 0, none⟩ = some (.string ⟨x.toArray⟩) ∧ w'.cell? ⟨w.heap.size, 1, none⟩ = some (.string ⟨d.toArray⟩)) := Lib.hid (fun w' hb => ⟨(hb.cell (by dsimp only; omega)).trans c1, (hb.cell (by dsimp only; omega)).trans c2⟩)
  have HBD : Hid (Below (w.heap.size + 2) w0 w0.drew) := Lib.hid (Below.refl _ w0).drew
  have HLE : Hid (∀ w', Below (w.heap.size + 2) w0 w' → w.heap.size + 2 ≤ w'.heap.size) := Lib.hid (fun w' hb => Nat.le_trans (Nat.le_of_eq HSZ.out.symm) hb.size)
  go_region_held3 (fun w' => w'.cell? ⟨w.heap.size, 0, none⟩ = some (.string ⟨x.toArray⟩) ∧ w'.cell? ⟨w.heap.size, 1, none⟩ = some (.string ⟨d.toArray⟩))
    ((refine HC.out _ ?_; with_reducible (first | exact HBD.out.mono (Nat.le_succ _) | exact hB2.mono (Nat.le_succ _) | exact hB1.mono (Nat.le_succ _) | exact (((hB2.mono (Nat.le_succ _)).setCell (Nat.le_refl _) _).setCell (Nat.le_refl _) _) | fail)))
    (first | (go_at_call 25; refine (H1.out _).mono ?_; rintro e wa ⟨rfl, hwa⟩; (first | ((have hB2 : Below (w.heap.size + 2) w0 wa := hB1.trans (hwa.mono (HLE.out _ hB1))); obtain ⟨g1, g2⟩ := HS.out _ hB2; obtain ⟨d1, d2, f1, f2⟩ := cells2 g2; have HG2 := Lib.hid g2; clear g1 g2 hwa) | ((have hB1 : Below (w.heap.size + 2) w0 wa := HBD.out.trans (hwa.mono (HLE.out _ HBD.out))); clear hwa))) | (go_at_call 25; refine (H2.out _).mono ?_; rintro e wb ⟨rfl, hwb⟩; (first | ((have hB2 : Below (w.heap.size + 2) w0 wb := hB1.trans (hwb.mono (HLE.out _ hB1))); obtain ⟨g1, g2⟩ := HS.out _ hB2; obtain ⟨d1, d2, f1, f2⟩ := cells2 g2; have HG2 := Lib.hid g2; clear g1 g2 hwb) | ((have hB1 : Below (w.heap.size + 2) w0 wb := HBD.out.trans (hwb.mono (HLE.out _ HBD.out))); clear hwb))))
  all_goals
    go_wp2
    refine bodyPost_ret (v := .agg #[.string ⟨x.toArray⟩, .string ⟨d.toArray⟩]) (results_cell_row rfl _ _ (w.heap.size + 1) _ _ (0, 0) _ rfl (set2 _ _ HG2.out) Try.underlying48 rfl (by kernel_rfl)) rfl ⟨rfl, ?_⟩
    have hb : Below w.heap.size w0 _ := hB2.mono (by omega)
    exact HB0.out.trans ((hb.setCell (by dsimp only; omega) _).setCell (by dsimp only; omega) _)
end Go.Proofs.Yteolephlajhghaa
