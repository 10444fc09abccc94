/- What the listed variable gives the walks: the table of constants. -/
import Derived.Test.YtbjfihbjfoaghaaDoorRows
import Derived.Test.YtbjfihbjfoaghaaDoorShaBase
import Derived.Lib.LaidU8
import Derived.LaidMore
import Derived.Stop.Joined
import Derived.ProofKit
namespace Go.Proofs.YtbjfihbjfoaghaaDoor
open Go.ChangeShapes Go.WideShapes Go.ChangeAt Go.RowKit

theorem gK : Tryd.prog.globalNamed "pharos/sha.constants" = some 0 := by kernel_rfl
theorem tK : (Tryd.prog.globals[0]?).map (·.type) = some 116 := by kernel_rfl
theorem cK : Tryd.prog.cellsOf 116 = 64 := by kernel_rfl
theorem cW : Tryd.prog.cellsOf 85 = 1 := by kernel_rfl
def laidK : List (String × DataW Unit) := [("pharos/sha.constants", Rows.laid_pharos_sha_constants)]
theorem tab_of_laid {W : World} (h : laidMetH Tryd.prog laidK W) : Tab W := by
  rw [MakeChecks.laidMetH_plain _ _ _ (by kernel_rfl)] at h
  obtain ⟨g, t, cs, fuel, p, hg, hty, hvar, hd⟩ := Lib.laidMet.reads h (.head _)
  obtain rfl := Option.some.inj (gK.symm.trans hg)
  obtain rfl := Option.some.inj (tK.symm.trans hty)
  have hd' : DataW.trod (fun _ => ()) Tryd.prog W 0 (fun _ => true) false fuel 116 cs.toList = some (Lib.tabData .u32 Sha.kTab, p) := hd
  have hcs := Lib.cells_of_tab Tryd.underlying116 Tryd.underlying85 cW cK hd'
  intro i hi
  have hk : i < Sha.kTab.length := hi
  rw [World.var?_cell hg hvar i, ← Array.getElem?_toList, hcs]
  simp [hk]
/-- The door's own heap meets the condition. -/
theorem door_met (os : Os) (args : Array Value) : laidMetH Tryd.prog laidK ((World.doorLaid Tryd.prog 400 os).forCall (fun _ _ => 0) ⟨#[], args, []⟩).memory :=
  laidMetH_of_parts3 (fuel := 8) (laidMet_of_run' 8 (by kernel_rfl) (by kernel_rfl)) (by kernel_rfl) (by kernel_rfl)
end Go.Proofs.YtbjfihbjfoaghaaDoor
