/- oracle.inOrder; the library's sort by it. -/
import Derived.Test.YteolephlajhghaaOraSort
import Derived.Test.YteolephlajhghaaOraTab
namespace Go.Proofs.Yteolephlajhghaa
open Go.RowKit Go.Sort
open Go.Proofs.Yteolephlajhghaa.Ora (K Sig)

set_option maxRecDepth 8000 in
set_option maxHeartbeats 1000000 in
theorem order_any (x y : Sig) (W : World) : Calls Try.prog 23 #[sval x, sval y] W fun e w' => e = .returned (.int .i64 (cmpK x.1 y.1)) ∧ Grew W w' := by
  obtain ⟨⟨a, b⟩, h⟩ := x
  obtain ⟨⟨c, d⟩, i⟩ := y
  unfold sval cmpK
  dsimp only
  go_enter Try.func23, Try.ntmps23
  go_wp2
  have hg : Grew W ((W.alloc (.cells #[.string ⟨a.toArray⟩, .string ⟨b.toArray⟩, .bool h] 40)).alloc (.cells #[.string ⟨c.toArray⟩, .string ⟨d.toArray⟩, .bool i] 40)) := ((Grew.refl W).alloc _).alloc _
  obtain ⟨c0, c1, -, -, -, -⟩ := cells3 (heap_old_at (.cells #[.string ⟨c.toArray⟩, .string ⟨d.toArray⟩, .bool i] 40) (heap_new_at W (.cells #[.string ⟨a.toArray⟩, .string ⟨b.toArray⟩, .bool h] 40) W.heap.size rfl))
  obtain ⟨d0, d1, -, -, -, -⟩ := cells3 (heap_new_at (W.alloc (.cells #[.string ⟨a.toArray⟩, .string ⟨b.toArray⟩, .bool h] 40)) (.cells #[.string ⟨c.toArray⟩, .string ⟨d.toArray⟩, .bool i] 40) (W.heap.size + 1) (by simp))
  generalize ((W.alloc (.cells #[.string ⟨a.toArray⟩, .string ⟨b.toArray⟩, .bool h] 40)).alloc (.cells #[.string ⟨c.toArray⟩, .string ⟨d.toArray⟩, .bool i] 40)) = w0 at *
  have HG := Lib.hid hg
  clear hg
  have HC : Hid (∀ w', Below w0.heap.size w0 w' → w'.cell? ⟨W.heap.size, 0, none⟩ = some (.string ⟨a.toArray⟩) ∧ w'.cell? ⟨W.heap.size, 1, none⟩ = some (.string ⟨b.toArray⟩) ∧ w'.cell? ⟨W.heap.size + 1, 0, none⟩ = some (.string ⟨c.toArray⟩) ∧ w'.cell? ⟨W.heap.size + 1, 1, none⟩ = some (.string ⟨d.toArray⟩)) :=
    Lib.hid (fun w' hb => ⟨(hb.cell (World.block_lt_of_cell? _ _ c0)).trans c0, (hb.cell (World.block_lt_of_cell? _ _ c1)).trans c1, (hb.cell (World.block_lt_of_cell? _ _ d0)).trans d0, (hb.cell (World.block_lt_of_cell? _ _ d1)).trans d1⟩)
  have HBD : Hid (Below w0.heap.size w0 w0.drew) := Lib.hid (Below.refl _ w0).drew
  have HBA : Hid (∀ o, Below w0.heap.size w0 (w0.alloc o).drew) := Lib.hid (fun o => ((Below.refl _ w0).alloc (Nat.le_refl _) o).drew)
  go_region_held3 (fun w' => w'.cell? ⟨W.heap.size, 0, none⟩ = some (.string ⟨a.toArray⟩) ∧ w'.cell? ⟨W.heap.size, 1, none⟩ = some (.string ⟨b.toArray⟩) ∧ w'.cell? ⟨W.heap.size + 1, 0, none⟩ = some (.string ⟨c.toArray⟩) ∧ w'.cell? ⟨W.heap.size + 1, 1, none⟩ = some (.string ⟨d.toArray⟩))
    ((refine HC.out _ ?_; with_reducible (first | exact HBD.out | exact HBA.out _ | fail)))
    (first | (go_at_call 29; refine (cmp_any _ _ _).mono ?_; rintro e w1 ⟨rfl, rfl⟩) | (go_at_call 28; refine (or_any (cmpS a c) (cmpS b d) _ _ ?_ ?_).mono ?_; (exact (cell_of_row _ _ 0 _ _ _ (heap_new_at _ _ _ (by simp)))); (exact (cell_of_row _ _ 1 _ _ _ (heap_new_at _ _ _ (by simp)))); rintro e w1 ⟨rfl, rfl⟩))
  all_goals
    go_wp2
    go_ret
    exact ⟨rfl, (HG.out.alloc _).drew⟩
end Go.Proofs.Yteolephlajhghaa
