/- strings.Clone, digest.copied, digest.isTag. -/
import Derived.Test.YtebjckodfbailaaDoorDigBase
import Derived.Test.YtebjckodfbailaaDoorCodeShelf
import Derived.Deep.RegionWith
namespace Go.Proofs.YtebjckodfbailaaDoor
open Go.RowKit

theorem size_list (s : List UInt8) : (⟨s.toArray⟩ : ByteArray).size = s.length := by simp [ByteArray.size]
theorem dclone_any (s : List UInt8) (w : World) (hl : s.length ≤ 140737488351232) :
    Calls Tryd.prog 40 #[.string ⟨s.toArray⟩] w fun e w' => e = .returned (.string ⟨s.toArray⟩) ∧ Below w.heap.size w w' := by
  go_enter Tryd.func40, Tryd.ntmps40
  go_wp2_with fail
  refine (shelf_clone ⟨s.toArray⟩ w (by rw [size_list]; omega)).mono ?_
  rintro e w1 ⟨rfl, hb⟩
  go_wp2
  go_ret
  exact ⟨rfl, hb⟩
theorem isTag_any (t : Int) (w : World) :
    Calls Tryd.prog 24 #[.int .i64 t] w fun e w' => e = .returned (.bool (Dig.isTag t)) ∧ w' = w := by
  unfold Dig.isTag
  by_cases h1 : 1 ≤ t
  · by_cases h2 : t ≤ 255
    · go_enter Tryd.func24, Tryd.ntmps24
      go_wp2
      go_ret
      simp [h1, h2]
    · go_enter Tryd.func24, Tryd.ntmps24
      go_wp2
      go_ret
      simp [h2]
  · go_enter Tryd.func24, Tryd.ntmps24
    go_wp2
    go_ret
    simp
    omega

/-- What stands in a block of three cells. -/
theorem cells3 {w : World} {g : Nat} {a b c : Value} {T : TypeId} (h : w.heap[g]? = some (.cells #[a, b, c] T (0, 0))) :
    w.cell? ⟨g, 0, none⟩ = some a ∧ w.cell? ⟨g, 1, none⟩ = some b ∧ w.cell? ⟨g, 2, none⟩ = some c ∧ w.frozen? ⟨g, 0, none⟩ = false ∧ w.frozen? ⟨g, 1, none⟩ = false ∧ w.frozen? ⟨g, 2, none⟩ = false := by
  refine ⟨cell_of_row w g 0 _ _ _ h, cell_of_row w g 1 _ _ _ h, cell_of_row w g 2 _ _ _ h, ?_, ?_, ?_⟩ <;> simp [World.frozen?, h]

/-- A value of three cells, laid into a block of three. -/
theorem set3 {w : World} {g : Nat} {a b c : Value} {T : TypeId} (x y z : Value) (h : w.heap[g]? = some (.cells #[a, b, c] T (0, 0))) :
    (((w.setCell ⟨g, 0, none⟩ x).setCell ⟨g, 1, none⟩ y).setCell ⟨g, 2, none⟩ z).heap[g]? = some (.cells #[x, y, z] T (0, 0)) := by
  have h3 := heap_setCell_same _ _ 2 _ _ z (heap_setCell_same _ _ 1 _ _ y (heap_setCell_same _ _ 0 _ _ x h))
  simpa using h3

set_option maxRecDepth 8000 in
set_option maxHeartbeats 1000000 in
theorem copied_any (n : Dig.N) (w : World) (hn : OkN n) :
    Calls Tryd.prog 29 #[nval n] w fun e w' => e = .returned (nval n) ∧ Below w.heap.size w w' := by
  obtain ⟨t, x, d⟩ := n
  have H1 := Lib.hid (fun w => dclone_any x w hn.text)
  have H2 := Lib.hid (fun w => dclone_any d w hn.dig)
  clear hn
  unfold nval
  dsimp only at H1 H2 ⊢
  go_enter Tryd.func29, Tryd.ntmps29
  go_wp2
  have hB0 : Below w.heap.size w ((w.alloc (.cells #[.int .i64 t, .string ⟨x.toArray⟩, .string ⟨d.toArray⟩] 35)).alloc (.cells #[.int .i64 0, .string ⟨#[]⟩, .string ⟨#[]⟩] 35)) := ((Below.refl _ w).alloc (Nat.le_refl _) _).alloc (by simp) _
  have hg1 := heap_old_at (.cells #[.int .i64 0, .string ⟨#[]⟩, .string ⟨#[]⟩] 35) (heap_new_at w (.cells #[.int .i64 t, .string ⟨x.toArray⟩, .string ⟨d.toArray⟩] 35) _ rfl)
  have hg2 := heap_new_at (w.alloc (.cells #[.int .i64 t, .string ⟨x.toArray⟩, .string ⟨d.toArray⟩] 35)) (.cells #[.int .i64 0, .string ⟨#[]⟩, .string ⟨#[]⟩] 35) (w.heap.size + 1) (by simp)
  have HS : Hid (∀ w', Below (w.heap.size + 2) ((w.alloc (.cells #[.int .i64 t, .string ⟨x.toArray⟩, .string ⟨d.toArray⟩] 35)).alloc (.cells #[.int .i64 0, .string ⟨#[]⟩, .string ⟨#[]⟩] 35)) w' → w'.heap[w.heap.size]? = some (.cells #[.int .i64 t, .string ⟨x.toArray⟩, .string ⟨d.toArray⟩] 35 (0, 0)) ∧ w'.heap[w.heap.size + 1]? = some (.cells #[.int .i64 0, .string ⟨#[]⟩, .string ⟨#[]⟩] 35 (0, 0))) :=
    Lib.hid (fun w' hb => ⟨(hb.block _ (by omega)).trans hg1, (hb.block _ (by omega)).trans hg2⟩)
  generalize hw0 : ((w.alloc (.cells #[.int .i64 t, .string ⟨x.toArray⟩, .string ⟨d.toArray⟩] 35)).alloc (.cells #[.int .i64 0, .string ⟨#[]⟩, .string ⟨#[]⟩] 35)) = w0 at *
  have hsz : w0.heap.size = w.heap.size + 2 := by rw [← hw0]; simp
  have HSZ := Lib.hid hsz
  have HB0 := Lib.hid hB0
  obtain ⟨c0, c1, c2, -, -, -⟩ := cells3 hg1
  obtain ⟨d0, d1, d2, f0, f1, f2⟩ := cells3 hg2
  clear hw0 hsz hB0 hg1 hg2
  have HC : Hid (∀ w', Below (w.heap.size + 1) w0 w' → w'.cell? ⟨w.heap.size, 0, none⟩ = some (.int .i64 t) ∧ w'.cell? ⟨w.heap.size, 1, none⟩ = some (.string ⟨x.toArray⟩) ∧ w'.cell? ⟨w.heap.size, 2, none⟩ = some (.string ⟨d.toArray⟩)) := Lib.hid (fun w' hb => ⟨(hb.cell (by dsimp only; omega)).trans c0, (hb.cell (by dsimp only; omega)).trans c1, (hb.cell (by dsimp only; omega)).trans c2⟩)
  have HBD : Hid (Below (w.heap.size + 2) w0 w0.drew) := Lib.hid (Below.refl _ w0).drew
  have HLE : Hid (∀ w', Below (w.heap.size + 2) w0 w' → w.heap.size + 2 ≤ w'.heap.size) := Lib.hid (fun w' hb => Nat.le_trans (Nat.le_of_eq HSZ.out.symm) hb.size)
  go_region_held3 (fun w' => w'.cell? ⟨w.heap.size, 0, none⟩ = some (.int .i64 t) ∧ w'.cell? ⟨w.heap.size, 1, none⟩ = some (.string ⟨x.toArray⟩) ∧ w'.cell? ⟨w.heap.size, 2, none⟩ = some (.string ⟨d.toArray⟩))
    ((refine HC.out _ ?_; with_reducible (first | exact HBD.out.mono (Nat.le_succ _) | exact hB2.mono (Nat.le_succ _) | exact hB1.mono (Nat.le_succ _) | exact ((((hB2.mono (Nat.le_succ _)).setCell (Nat.le_refl _) _).setCell (Nat.le_refl _) _).setCell (Nat.le_refl _) _) | fail)))
    (first | (go_at_call 40; refine (H1.out _).mono ?_; rintro e wa ⟨rfl, hwa⟩; (first | ((have hB2 : Below (w.heap.size + 2) w0 wa := hB1.trans (hwa.mono (HLE.out _ hB1))); obtain ⟨g1, g2⟩ := HS.out _ hB2; obtain ⟨d0, d1, d2, f0, f1, f2⟩ := cells3 g2; have HG2 := Lib.hid g2; clear g1 g2 hwa) | ((have hB1 : Below (w.heap.size + 2) w0 wa := HBD.out.trans (hwa.mono (HLE.out _ HBD.out))); clear hwa))) | (go_at_call 40; refine (H2.out _).mono ?_; rintro e wb ⟨rfl, hwb⟩; (first | ((have hB2 : Below (w.heap.size + 2) w0 wb := hB1.trans (hwb.mono (HLE.out _ hB1))); obtain ⟨g1, g2⟩ := HS.out _ hB2; obtain ⟨d0, d1, d2, f0, f1, f2⟩ := cells3 g2; have HG2 := Lib.hid g2; clear g1 g2 hwb) | ((have hB1 : Below (w.heap.size + 2) w0 wb := HBD.out.trans (hwb.mono (HLE.out _ HBD.out))); clear hwb))))
  all_goals
    go_wp2
    refine bodyPost_ret (v := .agg #[.int .i64 t, .string ⟨x.toArray⟩, .string ⟨d.toArray⟩]) (results_cell_row rfl _ _ (w.heap.size + 1) _ _ (0, 0) _ rfl (set3 _ _ _ HG2.out) Tryd.underlying35 rfl (by kernel_rfl)) rfl ⟨rfl, ?_⟩
    have hb : Below w.heap.size w0 _ := hB2.mono (by omega)
    exact HB0.out.trans (((hb.setCell (by dsimp only; omega) _).setCell (by dsimp only; omega) _).setCell (by dsimp only; omega) _)
end Go.Proofs.YtebjckodfbailaaDoor
