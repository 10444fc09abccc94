/-
  DERIVED. GIVEN WITH THE SEED: THE CARDS: each row of YtbkanebkobjnnaaGreatDoorRows.lean that lists a variable, with what it lists TIED to the program's text (the seventh form; the later family's looks); each row that meets fmt, with fmt's text TOLD by the authors' own Lean function (tested against real Go, not proved from fmt's source: count such statements apart). THE CARD IS WHAT COUNTS. Prove the row's statement (the work); the ties are given (YtbkanebkobjnnaaGreatDoorTie.lean); close each card by the builder's one call (the guide's Derived/Test/ToyasCard.lean, 'card_holds'). Laid BY PROGRAM, IN A SANDBOX (cutbox-door.mjs). By AI agents, Wed Nov 11 2026. No macro, syntax, notation, axiom, sorry.
-/
import Derived.Test.YtbkanebkobjnnaaGreatDoorRows
import GoSem.ClaimSeven
namespace Go.Proofs.YtbkanebkobjnnaaGreatDoor
namespace Rows

/-- THE TIED CARD OF 'pharoslaw10.TrieNodes'. -/
def trieNodesCard : Claim7 := { stood := { row := trieNodesRow, standIns := [], harness := (true, "0d4395f3f486790fd4a0b77dd66e024bad6c4c9a768b6f572986490118f653bf"), looks := false }, kinds := [], alts := [], laidByText := true, laidKinds := [.data], laidTests := true, laidLooks := .later }
def TrieNodesCardSaid : Prop := Claim7.holds Tryz.pinned (.plain (OpenSpec.ofChange trieNodesSpec)) trieNodesCard

/-- THE TIED CARD OF 'pharoslaw10.TrieSaved'. -/
def trieSavedCard : Claim7 := { stood := { row := trieSavedRow, standIns := [], harness := (true, "0d4395f3f486790fd4a0b77dd66e024bad6c4c9a768b6f572986490118f653bf"), looks := false }, kinds := [], alts := [], laidByText := true, laidKinds := [.data], laidTests := true, laidLooks := .later }
def TrieSavedCardSaid : Prop := Claim7.holds Tryz.pinned (.plain (OpenSpec.ofChange trieSavedSpec)) trieSavedCard

/-- THE SECOND FORM's CARD OF 'pharoslaw10.TrieNodes'. -/
def trieNodesUptoCard : Claim7 := { stood := { row := trieNodesUptoRow, standIns := [], harness := (true, "0d4395f3f486790fd4a0b77dd66e024bad6c4c9a768b6f572986490118f653bf"), looks := false }, kinds := [], alts := [], laidByText := true, laidKinds := [.data], laidTests := true, laidLooks := .later }
def TrieNodesUptoCardSaid : Prop := Claim7.holds Tryz.pinned (.plain (OpenSpec.upto trieNodesSpec)) trieNodesUptoCard

/-- THE SECOND FORM's CARD OF 'pharoslaw10.TrieSaved'. -/
def trieSavedUptoCard : Claim7 := { stood := { row := trieSavedUptoRow, standIns := [], harness := (true, "0d4395f3f486790fd4a0b77dd66e024bad6c4c9a768b6f572986490118f653bf"), looks := false }, kinds := [], alts := [], laidByText := true, laidKinds := [.data], laidTests := true, laidLooks := .later }
def TrieSavedUptoCardSaid : Prop := Claim7.holds Tryz.pinned (.plain (OpenSpec.upto trieSavedSpec)) trieSavedUptoCard
end Rows
end Go.Proofs.YtbkanebkobjnnaaGreatDoor
