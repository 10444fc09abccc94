/- Two tables, and rows, beside each other. -/
import Derived.Test.YteolephlajhghaaOraWorks
namespace Go.Proofs.Yteolephlajhghaa
open Go.RowKit
open Go.Proofs.Yteolephlajhghaa.Ora (K Sig)

/-- A step that signs in one table leaves another one, and rows, as they are. -/
theorem other_table {w w' : World} {g m g2 m2 : Nat} {S S2 : List Sig} (h : TabAt w g m S) (h2 : TabAt w g2 m2 S2) (hm : m ≠ m2) (ho : Out (fun i => i = m2) w w') : TabAt w' g m S := h.out ho (fun e => h.ne h2 e) hm
theorem other_row {w w' : World} {B g m : Nat} {S L : List Sig} {s : Value} (h : OwnS w B s L) (ht : TabAt w g m S) (ho : Out (fun i => i = m) w w') : OwnS w' B s L := h.out ho (fun _ _ _ _ e => ht.map.no_cells _ _ _ _ e)
end Go.Proofs.Yteolephlajhghaa
