/-
  DERIVED. GIVEN WITH THE SEED: THE CARDS: each row of YtbjfihbjfoaghaaDoorRows.lean that lists a variable, with what it lists TIED to the program's text (the seventh form; the later family's looks); each row that meets fmt, with fmt's text TOLD by the authors' own Lean function (tested against real Go, not proved from fmt's source: count such statements apart). THE CARD IS WHAT COUNTS. Prove the row's statement (the work); the ties are given (YtbjfihbjfoaghaaDoorTie.lean); close each card by the builder's one call (the guide's Derived/Test/ToyasCard.lean, 'card_holds'). Laid BY PROGRAM, IN A SANDBOX (cutbox-door.mjs). By AI agents, Wed Nov 11 2026. No macro, syntax, notation, axiom, sorry.
-/
import Derived.Test.YtbjfihbjfoaghaaDoorRows
import GoSem.ClaimSeven
namespace Go.Proofs.YtbjfihbjfoaghaaDoor
namespace Rows

/-- THE TIED CARD OF 'pharoslaw05.PowerTells'. -/
def powerTellsCard : Claim7 := { stood := { row := powerTellsRow, standIns := [], harness := (true, "371edb4af91c188a15dc406d514d38f51b040738ed18cfd1913619fd5cd7109b"), looks := false }, kinds := [], alts := [], laidByText := true, laidKinds := [.data], laidTests := true, laidLooks := .later }
def PowerTellsCardSaid : Prop := Claim7.holds Tryd.pinned (.plain (OpenSpec.ofChange powerTellsSpec)) powerTellsCard

/-- THE TIED CARD OF 'pharoslaw05.PowerCodes'. -/
def powerCodesCard : Claim7 := { stood := { row := powerCodesRow, standIns := [], harness := (true, "371edb4af91c188a15dc406d514d38f51b040738ed18cfd1913619fd5cd7109b"), looks := false }, kinds := [], alts := [], laidByText := true, laidKinds := [.data], laidTests := true, laidLooks := .later }
def PowerCodesCardSaid : Prop := Claim7.holds Tryd.pinned (.plain (OpenSpec.ofChange powerCodesSpec)) powerCodesCard

/-- THE TIED CARD OF 'pharoslaw05.PowerOverlap'. -/
def powerOverlapCard : Claim7 := { stood := { row := powerOverlapRow, standIns := [], harness := (true, "371edb4af91c188a15dc406d514d38f51b040738ed18cfd1913619fd5cd7109b"), looks := false }, kinds := [], alts := [], laidByText := true, laidKinds := [.data], laidTests := true, laidLooks := .later }
def PowerOverlapCardSaid : Prop := Claim7.holds Tryd.pinned (.plain (OpenSpec.ofChange powerOverlapSpec)) powerOverlapCard

/-- THE TIED CARD OF 'pharoslaw05.PowerHonest'. -/
def powerHonestCard : Claim7 := { stood := { row := powerHonestRow, standIns := [], harness := (true, "371edb4af91c188a15dc406d514d38f51b040738ed18cfd1913619fd5cd7109b"), looks := false }, kinds := [], alts := [], laidByText := true, laidKinds := [.data], laidTests := true, laidLooks := .later }
def PowerHonestCardSaid : Prop := Claim7.holds Tryd.pinned (.plain (OpenSpec.ofChange powerHonestSpec)) powerHonestCard

/-- THE TIED CARD OF 'pharoslaw05.PowerBack'. -/
def powerBackCard : Claim7 := { stood := { row := powerBackRow, standIns := [], harness := (true, "371edb4af91c188a15dc406d514d38f51b040738ed18cfd1913619fd5cd7109b"), looks := false }, kinds := [], alts := [], laidByText := true, laidKinds := [.data], laidTests := true, laidLooks := .later }
def PowerBackCardSaid : Prop := Claim7.holds Tryd.pinned (.plain (OpenSpec.ofChange powerBackSpec)) powerBackCard

/-- THE SECOND FORM's CARD OF 'pharoslaw05.PowerTells'. -/
def powerTellsUptoCard : Claim7 := { stood := { row := powerTellsUptoRow, standIns := [], harness := (true, "371edb4af91c188a15dc406d514d38f51b040738ed18cfd1913619fd5cd7109b"), looks := false }, kinds := [], alts := [], laidByText := true, laidKinds := [.data], laidTests := true, laidLooks := .later }
def PowerTellsUptoCardSaid : Prop := Claim7.holds Tryd.pinned (.plain (OpenSpec.upto powerTellsSpec)) powerTellsUptoCard

/-- THE SECOND FORM's CARD OF 'pharoslaw05.PowerCodes'. -/
def powerCodesUptoCard : Claim7 := { stood := { row := powerCodesUptoRow, standIns := [], harness := (true, "371edb4af91c188a15dc406d514d38f51b040738ed18cfd1913619fd5cd7109b"), looks := false }, kinds := [], alts := [], laidByText := true, laidKinds := [.data], laidTests := true, laidLooks := .later }
def PowerCodesUptoCardSaid : Prop := Claim7.holds Tryd.pinned (.plain (OpenSpec.upto powerCodesSpec)) powerCodesUptoCard

/-- THE SECOND FORM's CARD OF 'pharoslaw05.PowerOverlap'. -/
def powerOverlapUptoCard : Claim7 := { stood := { row := powerOverlapUptoRow, standIns := [], harness := (true, "371edb4af91c188a15dc406d514d38f51b040738ed18cfd1913619fd5cd7109b"), looks := false }, kinds := [], alts := [], laidByText := true, laidKinds := [.data], laidTests := true, laidLooks := .later }
def PowerOverlapUptoCardSaid : Prop := Claim7.holds Tryd.pinned (.plain (OpenSpec.upto powerOverlapSpec)) powerOverlapUptoCard

/-- THE SECOND FORM's CARD OF 'pharoslaw05.PowerHonest'. -/
def powerHonestUptoCard : Claim7 := { stood := { row := powerHonestUptoRow, standIns := [], harness := (true, "371edb4af91c188a15dc406d514d38f51b040738ed18cfd1913619fd5cd7109b"), looks := false }, kinds := [], alts := [], laidByText := true, laidKinds := [.data], laidTests := true, laidLooks := .later }
def PowerHonestUptoCardSaid : Prop := Claim7.holds Tryd.pinned (.plain (OpenSpec.upto powerHonestSpec)) powerHonestUptoCard

/-- THE SECOND FORM's CARD OF 'pharoslaw05.PowerBack'. -/
def powerBackUptoCard : Claim7 := { stood := { row := powerBackUptoRow, standIns := [], harness := (true, "371edb4af91c188a15dc406d514d38f51b040738ed18cfd1913619fd5cd7109b"), looks := false }, kinds := [], alts := [], laidByText := true, laidKinds := [.data], laidTests := true, laidLooks := .later }
def PowerBackUptoCardSaid : Prop := Claim7.holds Tryd.pinned (.plain (OpenSpec.upto powerBackSpec)) powerBackUptoCard
end Rows
end Go.Proofs.YtbjfihbjfoaghaaDoor
