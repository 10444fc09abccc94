/-
  DERIVED. GIVEN WITH THE SEED: THE CARDS: each row of YtjfefphgikncnaaGreatDoorRows.lean that lists a variable, with what it lists TIED to the program's text (the seventh form; the later family's looks); each row that meets fmt, with fmt's text TOLD by the authors' own Lean function (tested against real Go, not proved from fmt's source: count such statements apart). THE CARD IS WHAT COUNTS. Prove the row's statement (the work); the ties are given (YtjfefphgikncnaaGreatDoorTie.lean); close each card by the builder's one call (the guide's Derived/Test/ToyasCard.lean, 'card_holds'). Laid BY PROGRAM, IN A SANDBOX (cutbox-door.mjs). By AI agents, Wed Nov 11 2026. No macro, syntax, notation, axiom, sorry.
-/
import Derived.Test.YtjfefphgikncnaaGreatDoorRows
import GoSem.ClaimSeven
namespace Go.Proofs.YtjfefphgikncnaaGreatDoor
namespace Rows

/-- THE TIED CARD OF 'pharoslaw12.VersStays'. -/
def versStaysCard : Claim7 := { stood := { row := versStaysRow, standIns := [], harness := (true, "1dc3a7053fa99a0a5ea8b56f40f61bdf548f1a1d0aea305678fc08469f699fc7"), looks := false }, kinds := [], alts := [], laidByText := true, laidKinds := [.data], laidTests := true, laidLooks := .later }
def VersStaysCardSaid : Prop := Claim7.holds Tryz.pinned (.plain (OpenSpec.ofChange versStaysSpec)) versStaysCard

/-- THE TIED CARD OF 'pharoslaw12.VersGoes'. -/
def versGoesCard : Claim7 := { stood := { row := versGoesRow, standIns := [], harness := (true, "1dc3a7053fa99a0a5ea8b56f40f61bdf548f1a1d0aea305678fc08469f699fc7"), looks := false }, kinds := [], alts := [], laidByText := true, laidKinds := [.data], laidTests := true, laidLooks := .later }
def VersGoesCardSaid : Prop := Claim7.holds Tryz.pinned (.plain (OpenSpec.ofChange versGoesSpec)) versGoesCard

/-- THE TIED CARD OF 'pharoslaw13.ProofProves'. -/
def proofProvesCard : Claim7 := { stood := { row := proofProvesRow, standIns := [], harness := (true, "1dc3a7053fa99a0a5ea8b56f40f61bdf548f1a1d0aea305678fc08469f699fc7"), looks := false }, kinds := [], alts := [], laidByText := true, laidKinds := [.data], laidTests := true, laidLooks := .later }
def ProofProvesCardSaid : Prop := Claim7.holds Tryz.pinned (.plain (OpenSpec.ofChange proofProvesSpec)) proofProvesCard

/-- THE TIED CARD OF 'pharoslaw13.ProofVerifies'. -/
def proofVerifiesCard : Claim7 := { stood := { row := proofVerifiesRow, standIns := [], harness := (true, "1dc3a7053fa99a0a5ea8b56f40f61bdf548f1a1d0aea305678fc08469f699fc7"), looks := false }, kinds := [], alts := [], laidByText := true, laidKinds := [.data], laidTests := true, laidLooks := .later }
def ProofVerifiesCardSaid : Prop := Claim7.holds Tryz.pinned (.plain (OpenSpec.ofChange proofVerifiesSpec)) proofVerifiesCard

/-- THE TIED CARD OF 'pharoslaw13.ProofSound'. -/
def proofSoundCard : Claim7 := { stood := { row := proofSoundRow, standIns := [], harness := (true, "1dc3a7053fa99a0a5ea8b56f40f61bdf548f1a1d0aea305678fc08469f699fc7"), looks := false }, kinds := [], alts := [], laidByText := true, laidKinds := [.data], laidTests := true, laidLooks := .later }
def ProofSoundCardSaid : Prop := Claim7.holds Tryz.pinned (.plain (OpenSpec.ofChange proofSoundSpec)) proofSoundCard

/-- THE TIED CARD OF 'pharostop.TopVersions'. -/
def topVersionsCard : Claim7 := { stood := { row := topVersionsRow, standIns := [], harness := (true, "1dc3a7053fa99a0a5ea8b56f40f61bdf548f1a1d0aea305678fc08469f699fc7"), looks := false }, kinds := [], alts := [], laidByText := true, laidKinds := [.data], laidTests := true, laidLooks := .later }
def TopVersionsCardSaid : Prop := Claim7.holds Tryz.pinned (.plain (OpenSpec.ofChange topVersionsSpec)) topVersionsCard

/-- THE SECOND FORM's CARD OF 'pharoslaw12.VersStays'. -/
def versStaysUptoCard : Claim7 := { stood := { row := versStaysUptoRow, standIns := [], harness := (true, "1dc3a7053fa99a0a5ea8b56f40f61bdf548f1a1d0aea305678fc08469f699fc7"), looks := false }, kinds := [], alts := [], laidByText := true, laidKinds := [.data], laidTests := true, laidLooks := .later }
def VersStaysUptoCardSaid : Prop := Claim7.holds Tryz.pinned (.plain (OpenSpec.upto versStaysSpec)) versStaysUptoCard

/-- THE SECOND FORM's CARD OF 'pharoslaw12.VersGoes'. -/
def versGoesUptoCard : Claim7 := { stood := { row := versGoesUptoRow, standIns := [], harness := (true, "1dc3a7053fa99a0a5ea8b56f40f61bdf548f1a1d0aea305678fc08469f699fc7"), looks := false }, kinds := [], alts := [], laidByText := true, laidKinds := [.data], laidTests := true, laidLooks := .later }
def VersGoesUptoCardSaid : Prop := Claim7.holds Tryz.pinned (.plain (OpenSpec.upto versGoesSpec)) versGoesUptoCard

/-- THE SECOND FORM's CARD OF 'pharoslaw13.ProofProves'. -/
def proofProvesUptoCard : Claim7 := { stood := { row := proofProvesUptoRow, standIns := [], harness := (true, "1dc3a7053fa99a0a5ea8b56f40f61bdf548f1a1d0aea305678fc08469f699fc7"), looks := false }, kinds := [], alts := [], laidByText := true, laidKinds := [.data], laidTests := true, laidLooks := .later }
def ProofProvesUptoCardSaid : Prop := Claim7.holds Tryz.pinned (.plain (OpenSpec.upto proofProvesSpec)) proofProvesUptoCard

/-- THE SECOND FORM's CARD OF 'pharoslaw13.ProofVerifies'. -/
def proofVerifiesUptoCard : Claim7 := { stood := { row := proofVerifiesUptoRow, standIns := [], harness := (true, "1dc3a7053fa99a0a5ea8b56f40f61bdf548f1a1d0aea305678fc08469f699fc7"), looks := false }, kinds := [], alts := [], laidByText := true, laidKinds := [.data], laidTests := true, laidLooks := .later }
def ProofVerifiesUptoCardSaid : Prop := Claim7.holds Tryz.pinned (.plain (OpenSpec.upto proofVerifiesSpec)) proofVerifiesUptoCard

/-- THE SECOND FORM's CARD OF 'pharoslaw13.ProofSound'. -/
def proofSoundUptoCard : Claim7 := { stood := { row := proofSoundUptoRow, standIns := [], harness := (true, "1dc3a7053fa99a0a5ea8b56f40f61bdf548f1a1d0aea305678fc08469f699fc7"), looks := false }, kinds := [], alts := [], laidByText := true, laidKinds := [.data], laidTests := true, laidLooks := .later }
def ProofSoundUptoCardSaid : Prop := Claim7.holds Tryz.pinned (.plain (OpenSpec.upto proofSoundSpec)) proofSoundUptoCard

/-- THE SECOND FORM's CARD OF 'pharostop.TopVersions'. -/
def topVersionsUptoCard : Claim7 := { stood := { row := topVersionsUptoRow, standIns := [], harness := (true, "1dc3a7053fa99a0a5ea8b56f40f61bdf548f1a1d0aea305678fc08469f699fc7"), looks := false }, kinds := [], alts := [], laidByText := true, laidKinds := [.data], laidTests := true, laidLooks := .later }
def TopVersionsUptoCardSaid : Prop := Claim7.holds Tryz.pinned (.plain (OpenSpec.upto topVersionsSpec)) topVersionsUptoCard
end Rows
end Go.Proofs.YtjfefphgikncnaaGreatDoor
