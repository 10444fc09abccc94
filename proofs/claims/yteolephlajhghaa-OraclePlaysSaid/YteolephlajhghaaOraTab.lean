/- oracle.New, Signed, Fork. -/
import Derived.Test.YteolephlajhghaaOraCopied
import Derived.Test.YteolephlajhghaaOraShelf
import Derived.Test.YteolephlajhghaaOraSort
namespace Go.Proofs.Yteolephlajhghaa
open Go.RowKit
open Go.Proofs.Yteolephlajhghaa.Ora (K Sig)

/-- A new table. -/
def NewPost (w : World) (S : List Sig) (e : Ending) (w' : World) : Prop := ∃ g m, e = .returned (.pointer (some ⟨g, 0, none⟩)) ∧ w.heap.size ≤ g ∧ w.heap.size ≤ m ∧ TabAt w' g m S ∧ Below w.heap.size w w'

set_option maxRecDepth 8000 in
set_option maxHeartbeats 400000 in
theorem new_any (w : World) : Calls Try.prog 7 #[] w (NewPost w []) := by
  have hmm := @run_makeMap Try.prog
  go_enter Try.func7, Try.ntmps7
  go_wp2
  go_ret
  refine ⟨w.heap.size + 1, w.heap.size, rfl, by omega, by omega, ⟨heap_new_at _ _ _ (by simp), ?_, Ora.rising_nil⟩, ((Below.refl _ w).alloc (Nat.le_refl _) _).alloc (by simp) _⟩
  exact ((FnAt.made sigMap w w.heap.size rfl).congr (fun _ => rfl)).below ((Below.refl _ _).alloc (Nat.le_refl _) _)

set_option maxRecDepth 8000 in
set_option maxHeartbeats 400000 in
theorem signed_grew (g m : Nat) (S : List Sig) (k : K) (w : World) (h : TabAt w g m S) (hk : OkK k) :
    Calls Try.prog 14 #[.pointer (some ⟨g, 0, none⟩), .string ⟨k.1.toArray⟩, .string ⟨k.2.toArray⟩] w fun e w' => e = .returned (.bool (Ora.look S k).isSome) ∧ Grew w w' := by
  have hc := h.cell
  have hlook := h.map.look Try.underlying43 hk true (zeroSteps w)
  obtain ⟨x, d⟩ := k
  obtain ⟨o, ho⟩ : ∃ o, Ora.look S (x, d) = o := ⟨_, rfl⟩
  rw [ho] at hlook ⊢
  dsimp only
  cases o with
  | none =>
    have hlook2 : (Instr.lookup 43 (.map (some m)) (.agg #[.string ⟨x.toArray⟩, .string ⟨d.toArray⟩]) true).run Try.prog w = .ok (.tuple #[.agg #[.bool false], .bool false]) w := hlook
    clear hlook h ho
    go_enter Try.func14, Try.ntmps14
    go_wp2
    go_ret
    exact ⟨rfl, (Grew.refl w).alloc _⟩
  | some b =>
    have hlook2 : (Instr.lookup 43 (.map (some m)) (.agg #[.string ⟨x.toArray⟩, .string ⟨d.toArray⟩]) true).run Try.prog w = .ok (.tuple #[.agg #[.bool b], .bool true]) w := hlook
    clear hlook h ho
    go_enter Try.func14, Try.ntmps14
    go_wp2
    go_ret
    exact ⟨rfl, (Grew.refl w).alloc _⟩

theorem signed_any (g m : Nat) (S : List Sig) (k : K) (w : World) (h : TabAt w g m S) (hk : OkK k) :
    Calls Try.prog 14 #[.pointer (some ⟨g, 0, none⟩), .string ⟨k.1.toArray⟩, .string ⟨k.2.toArray⟩] w fun e w' => e = .returned (.bool (Ora.look S k).isSome) ∧ Below w.heap.size w w' :=
  (signed_grew g m S k w h hk).mono fun _ _ ⟨he, hg⟩ => ⟨he, hg.below⟩

set_option maxRecDepth 8000 in
set_option maxHeartbeats 400000 in
theorem fork_any (g m : Nat) (S : List Sig) (w : World) (h : TabAt w g m S) :
    Calls Try.prog 8 #[.pointer (some ⟨g, 0, none⟩)] w (NewPost w S) := by
  have hc := h.cell
  obtain ⟨es, clock, hb, hf⟩ := h.map.copy
  have HR := Lib.hid h.rise
  have HF := Lib.hid hf
  have HCL := Lib.hid (shelf_maps_Clone m es clock w hb)
  clear h hf hb
  go_enter Try.func8, Try.ntmps8
  go_wp2_with fail
  refine HCL.out.mono ?_
  rintro e w1 ⟨rfl, rfl⟩
  go_wp2
  go_ret
  refine ⟨w.heap.size + 1, w.heap.size, rfl, by omega, by omega, ⟨heap_new_at _ _ _ (by simp), ?_, HR.out⟩, ((Below.refl _ w).alloc (Nat.le_refl _) _).alloc (by simp) _⟩
  exact HF.out.below ((Below.refl _ _).alloc (Nat.le_refl _) _)
end Go.Proofs.Yteolephlajhghaa
