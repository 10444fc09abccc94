/-
  DERIVED. GIVEN WITH THE SEED: THE CARDS: each row of YtkfadijcjjdlcaaGreatDoorRows.lean that lists a variable, with what it lists TIED to the program's text (the seventh form; the later family's looks); each row that meets fmt, with fmt's text TOLD by the authors' own Lean function (tested against real Go, not proved from fmt's source: count such statements apart). THE CARD IS WHAT COUNTS. Prove the row's statement (the work); the ties are given (YtkfadijcjjdlcaaGreatDoorTie.lean); close each card by the builder's one call (the guide's Derived/Test/ToyasCard.lean, 'card_holds'). Laid BY PROGRAM, IN A SANDBOX (cutbox-door.mjs). By AI agents, Wed Nov 11 2026. No macro, syntax, notation, axiom, sorry.
-/
import Derived.Test.YtkfadijcjjdlcaaGreatDoorRows
import GoSem.ClaimSeven
namespace Go.Proofs.YtkfadijcjjdlcaaGreatDoor
namespace Rows

/-- THE TIED CARD OF 'pharoslaw12.VersStays'. -/
def versStaysCard : Claim7 := { stood := { row := versStaysRow, standIns := [], harness := (true, "c318d5232a71956b813169325b4f7a52345b79b5527f2040e03420bafed448cb"), looks := false }, kinds := [], alts := [], laidByText := true, laidKinds := [.data], laidTests := true, laidLooks := .later }
def VersStaysCardSaid : Prop := Claim7.holds Tryz.pinned (.plain (OpenSpec.ofChange versStaysSpec)) versStaysCard

/-- THE TIED CARD OF 'pharoslaw12.VersLean'. -/
def versLeanCard : Claim7 := { stood := { row := versLeanRow, standIns := [], harness := (true, "c318d5232a71956b813169325b4f7a52345b79b5527f2040e03420bafed448cb"), looks := false }, kinds := [], alts := [], laidByText := true, laidKinds := [.data], laidTests := true, laidLooks := .later }
def VersLeanCardSaid : Prop := Claim7.holds Tryz.pinned (.plain (OpenSpec.ofChange versLeanSpec)) versLeanCard

/-- THE TIED CARD OF 'pharoslaw12.VersGoes'. -/
def versGoesCard : Claim7 := { stood := { row := versGoesRow, standIns := [], harness := (true, "c318d5232a71956b813169325b4f7a52345b79b5527f2040e03420bafed448cb"), looks := false }, kinds := [], alts := [], laidByText := true, laidKinds := [.data], laidTests := true, laidLooks := .later }
def VersGoesCardSaid : Prop := Claim7.holds Tryz.pinned (.plain (OpenSpec.ofChange versGoesSpec)) versGoesCard

/-- THE SECOND FORM's CARD OF 'pharoslaw12.VersStays'. -/
def versStaysUptoCard : Claim7 := { stood := { row := versStaysUptoRow, standIns := [], harness := (true, "c318d5232a71956b813169325b4f7a52345b79b5527f2040e03420bafed448cb"), looks := false }, kinds := [], alts := [], laidByText := true, laidKinds := [.data], laidTests := true, laidLooks := .later }
def VersStaysUptoCardSaid : Prop := Claim7.holds Tryz.pinned (.plain (OpenSpec.upto versStaysSpec)) versStaysUptoCard

/-- THE SECOND FORM's CARD OF 'pharoslaw12.VersLean'. -/
def versLeanUptoCard : Claim7 := { stood := { row := versLeanUptoRow, standIns := [], harness := (true, "c318d5232a71956b813169325b4f7a52345b79b5527f2040e03420bafed448cb"), looks := false }, kinds := [], alts := [], laidByText := true, laidKinds := [.data], laidTests := true, laidLooks := .later }
def VersLeanUptoCardSaid : Prop := Claim7.holds Tryz.pinned (.plain (OpenSpec.upto versLeanSpec)) versLeanUptoCard

/-- THE SECOND FORM's CARD OF 'pharoslaw12.VersGoes'. -/
def versGoesUptoCard : Claim7 := { stood := { row := versGoesUptoRow, standIns := [], harness := (true, "c318d5232a71956b813169325b4f7a52345b79b5527f2040e03420bafed448cb"), looks := false }, kinds := [], alts := [], laidByText := true, laidKinds := [.data], laidTests := true, laidLooks := .later }
def VersGoesUptoCardSaid : Prop := Claim7.holds Tryz.pinned (.plain (OpenSpec.upto versGoesSpec)) versGoesUptoCard
end Rows
end Go.Proofs.YtkfadijcjjdlcaaGreatDoor
