/-
  DERIVED. GIVEN WITH THE SEED: THE CARDS: each row of YtlckcfpdiigjiaaGreatDoorRows.lean that lists a variable, with what it lists TIED to the program's text (the seventh form; the later family's looks); each row that meets fmt, with fmt's text TOLD by the authors' own Lean function (tested against real Go, not proved from fmt's source: count such statements apart). THE CARD IS WHAT COUNTS. Prove the row's statement (the work); the ties are given (YtlckcfpdiigjiaaGreatDoorTie.lean); close each card by the builder's one call (the guide's Derived/Test/ToyasCard.lean, 'card_holds'). Laid BY PROGRAM, IN A SANDBOX (cutbox-door.mjs). By AI agents, Wed Nov 11 2026. No macro, syntax, notation, axiom, sorry.
-/
import Derived.Test.YtlckcfpdiigjiaaGreatDoorRows
import GoSem.ClaimSeven
namespace Go.Proofs.YtlckcfpdiigjiaaGreatDoor
namespace Rows

/-- THE TIED CARD OF 'pharoslaw16.ExecAll'. -/
def execAllCard : Claim7 := { stood := { row := execAllRow, standIns := [], harness := (true, "a450202c2f405c2fb4ca9632f35a7e4203269c849af280a6f0312bca2fe765ba"), looks := false }, kinds := [], alts := [], laidByText := true, laidKinds := [.data], laidTests := true, laidLooks := .later }
def ExecAllCardSaid : Prop := Claim7.holds Tryz.pinned (.plain (OpenSpec.ofChange execAllSpec)) execAllCard

/-- THE TIED CARD OF 'pharoslaw16.ExecOne'. -/
def execOneCard : Claim7 := { stood := { row := execOneRow, standIns := [], harness := (true, "a450202c2f405c2fb4ca9632f35a7e4203269c849af280a6f0312bca2fe765ba"), looks := false }, kinds := [], alts := [], laidByText := true, laidKinds := [.data], laidTests := true, laidLooks := .later }
def ExecOneCardSaid : Prop := Claim7.holds Tryz.pinned (.plain (OpenSpec.ofChange execOneSpec)) execOneCard

/-- THE TIED CARD OF 'pharoslaw16.ExecParts'. -/
def execPartsCard : Claim7 := { stood := { row := execPartsRow, standIns := [], harness := (true, "a450202c2f405c2fb4ca9632f35a7e4203269c849af280a6f0312bca2fe765ba"), looks := false }, kinds := [], alts := [], laidByText := true, laidKinds := [.data], laidTests := true, laidLooks := .later }
def ExecPartsCardSaid : Prop := Claim7.holds Tryz.pinned (.plain (OpenSpec.ofChange execPartsSpec)) execPartsCard

/-- THE SECOND FORM's CARD OF 'pharoslaw16.ExecAll'. -/
def execAllUptoCard : Claim7 := { stood := { row := execAllUptoRow, standIns := [], harness := (true, "a450202c2f405c2fb4ca9632f35a7e4203269c849af280a6f0312bca2fe765ba"), looks := false }, kinds := [], alts := [], laidByText := true, laidKinds := [.data], laidTests := true, laidLooks := .later }
def ExecAllUptoCardSaid : Prop := Claim7.holds Tryz.pinned (.plain (OpenSpec.upto execAllSpec)) execAllUptoCard

/-- THE SECOND FORM's CARD OF 'pharoslaw16.ExecOne'. -/
def execOneUptoCard : Claim7 := { stood := { row := execOneUptoRow, standIns := [], harness := (true, "a450202c2f405c2fb4ca9632f35a7e4203269c849af280a6f0312bca2fe765ba"), looks := false }, kinds := [], alts := [], laidByText := true, laidKinds := [.data], laidTests := true, laidLooks := .later }
def ExecOneUptoCardSaid : Prop := Claim7.holds Tryz.pinned (.plain (OpenSpec.upto execOneSpec)) execOneUptoCard

/-- THE SECOND FORM's CARD OF 'pharoslaw16.ExecParts'. -/
def execPartsUptoCard : Claim7 := { stood := { row := execPartsUptoRow, standIns := [], harness := (true, "a450202c2f405c2fb4ca9632f35a7e4203269c849af280a6f0312bca2fe765ba"), looks := false }, kinds := [], alts := [], laidByText := true, laidKinds := [.data], laidTests := true, laidLooks := .later }
def ExecPartsUptoCardSaid : Prop := Claim7.holds Tryz.pinned (.plain (OpenSpec.upto execPartsSpec)) execPartsUptoCard
end Rows
end Go.Proofs.YtlckcfpdiigjiaaGreatDoor
