/-
  DERIVED. GIVEN WITH THE SEED: THE CARDS: each row of YtkdecmijnojhoaaDoorRows.lean that lists a variable, with what it lists TIED to the program's text (the seventh form; the later family's looks); each row that meets fmt, with fmt's text TOLD by the authors' own Lean function (tested against real Go, not proved from fmt's source: count such statements apart). THE CARD IS WHAT COUNTS. Prove the row's statement (the work); the ties are given (YtkdecmijnojhoaaDoorTie.lean); close each card by the builder's one call (the guide's Derived/Test/ToyasCard.lean, 'card_holds'). Laid BY PROGRAM, IN A SANDBOX (cutbox-door.mjs). By AI agents, Wed Nov 11 2026. No macro, syntax, notation, axiom, sorry.
-/
import Derived.Test.YtkdecmijnojhoaaDoorRows
import GoSem.ClaimSeven
namespace Go.Proofs.YtkdecmijnojhoaaDoor
namespace Rows

/-- THE TIED CARD OF 'pharoslaw11.ScanTells'. -/
def scanTellsCard : Claim7 := { stood := { row := scanTellsRow, standIns := [], harness := (true, "66edee0490b3960d2843dd434b3fa04129707b7b5073b186b2cfd9dabb0ede0e"), looks := false }, kinds := [], alts := [], laidByText := true, laidKinds := [.data], laidTests := true, laidLooks := .later }
def ScanTellsCardSaid : Prop := Claim7.holds Tryd.pinned (.plain (OpenSpec.ofChange scanTellsSpec)) scanTellsCard

/-- THE TIED CARD OF 'pharoslaw11.ScanBehind'. -/
def scanBehindCard : Claim7 := { stood := { row := scanBehindRow, standIns := [], harness := (true, "66edee0490b3960d2843dd434b3fa04129707b7b5073b186b2cfd9dabb0ede0e"), looks := false }, kinds := [], alts := [], laidByText := true, laidKinds := [.data], laidTests := true, laidLooks := .later }
def ScanBehindCardSaid : Prop := Claim7.holds Tryd.pinned (.plain (OpenSpec.ofChange scanBehindSpec)) scanBehindCard

/-- THE TIED CARD OF 'pharoslaw11.ScanPages'. -/
def scanPagesCard : Claim7 := { stood := { row := scanPagesRow, standIns := [], harness := (true, "66edee0490b3960d2843dd434b3fa04129707b7b5073b186b2cfd9dabb0ede0e"), looks := false }, kinds := [], alts := [], laidByText := true, laidKinds := [.data], laidTests := true, laidLooks := .later }
def ScanPagesCardSaid : Prop := Claim7.holds Tryd.pinned (.plain (OpenSpec.ofChange scanPagesSpec)) scanPagesCard

/-- THE TIED CARD OF 'pharoslaw11.ScanParts'. -/
def scanPartsCard : Claim7 := { stood := { row := scanPartsRow, standIns := [], harness := (true, "66edee0490b3960d2843dd434b3fa04129707b7b5073b186b2cfd9dabb0ede0e"), looks := false }, kinds := [], alts := [], laidByText := true, laidKinds := [.data], laidTests := true, laidLooks := .later }
def ScanPartsCardSaid : Prop := Claim7.holds Tryd.pinned (.plain (OpenSpec.ofChange scanPartsSpec)) scanPartsCard

/-- THE SECOND FORM's CARD OF 'pharoslaw11.ScanTells'. -/
def scanTellsUptoCard : Claim7 := { stood := { row := scanTellsUptoRow, standIns := [], harness := (true, "66edee0490b3960d2843dd434b3fa04129707b7b5073b186b2cfd9dabb0ede0e"), looks := false }, kinds := [], alts := [], laidByText := true, laidKinds := [.data], laidTests := true, laidLooks := .later }
def ScanTellsUptoCardSaid : Prop := Claim7.holds Tryd.pinned (.plain (OpenSpec.upto scanTellsSpec)) scanTellsUptoCard

/-- THE SECOND FORM's CARD OF 'pharoslaw11.ScanBehind'. -/
def scanBehindUptoCard : Claim7 := { stood := { row := scanBehindUptoRow, standIns := [], harness := (true, "66edee0490b3960d2843dd434b3fa04129707b7b5073b186b2cfd9dabb0ede0e"), looks := false }, kinds := [], alts := [], laidByText := true, laidKinds := [.data], laidTests := true, laidLooks := .later }
def ScanBehindUptoCardSaid : Prop := Claim7.holds Tryd.pinned (.plain (OpenSpec.upto scanBehindSpec)) scanBehindUptoCard

/-- THE SECOND FORM's CARD OF 'pharoslaw11.ScanPages'. -/
def scanPagesUptoCard : Claim7 := { stood := { row := scanPagesUptoRow, standIns := [], harness := (true, "66edee0490b3960d2843dd434b3fa04129707b7b5073b186b2cfd9dabb0ede0e"), looks := false }, kinds := [], alts := [], laidByText := true, laidKinds := [.data], laidTests := true, laidLooks := .later }
def ScanPagesUptoCardSaid : Prop := Claim7.holds Tryd.pinned (.plain (OpenSpec.upto scanPagesSpec)) scanPagesUptoCard

/-- THE SECOND FORM's CARD OF 'pharoslaw11.ScanParts'. -/
def scanPartsUptoCard : Claim7 := { stood := { row := scanPartsUptoRow, standIns := [], harness := (true, "66edee0490b3960d2843dd434b3fa04129707b7b5073b186b2cfd9dabb0ede0e"), looks := false }, kinds := [], alts := [], laidByText := true, laidKinds := [.data], laidTests := true, laidLooks := .later }
def ScanPartsUptoCardSaid : Prop := Claim7.holds Tryd.pinned (.plain (OpenSpec.upto scanPartsSpec)) scanPartsUptoCard
end Rows
end Go.Proofs.YtkdecmijnojhoaaDoor
