/-
  DERIVED. GIVEN WITH THE SEED: THE CARDS: each row of YtjfefphgikncnaaDoorRows.lean that lists a variable, with what it lists TIED to the program's text (the seventh form; the later family's looks); each row that meets fmt, with fmt's text TOLD by the authors' own Lean function (tested against real Go, not proved from fmt's source: count such statements apart). THE CARD IS WHAT COUNTS. Prove the row's statement (the work); the ties are given (YtjfefphgikncnaaDoorTie.lean); close each card by the builder's one call (the guide's Derived/Test/ToyasCard.lean, 'card_holds'). Laid BY PROGRAM, IN A SANDBOX (cutbox-door.mjs). By AI agents, Wed Nov 11 2026. No macro, syntax, notation, axiom, sorry.
-/
import Derived.Test.YtjfefphgikncnaaDoorRows
import GoSem.ClaimSeven
namespace Go.Proofs.YtjfefphgikncnaaDoor
namespace Rows

/-- THE TIED CARD OF 'pharoslaw13.ProofWhole'. -/
def proofWholeCard : Claim7 := { stood := { row := proofWholeRow, standIns := [], harness := (true, "dc3c7a9a32b64d11eaf5573d86143ac6d3af914ca80b84b5c9c31e6f26f699af"), looks := false }, kinds := [], alts := [], laidByText := true, laidKinds := [.data], laidTests := true, laidLooks := .later }
def ProofWholeCardSaid : Prop := Claim7.holds Tryd.pinned (.plain (OpenSpec.ofChange proofWholeSpec)) proofWholeCard

/-- THE TIED CARD OF 'pharoslaw13.ProofTight'. -/
def proofTightCard : Claim7 := { stood := { row := proofTightRow, standIns := [], harness := (true, "dc3c7a9a32b64d11eaf5573d86143ac6d3af914ca80b84b5c9c31e6f26f699af"), looks := false }, kinds := [], alts := [], laidByText := true, laidKinds := [.data], laidTests := true, laidLooks := .later }
def ProofTightCardSaid : Prop := Claim7.holds Tryd.pinned (.plain (OpenSpec.ofChange proofTightSpec)) proofTightCard

/-- THE SECOND FORM's CARD OF 'pharoslaw13.ProofWhole'. -/
def proofWholeUptoCard : Claim7 := { stood := { row := proofWholeUptoRow, standIns := [], harness := (true, "dc3c7a9a32b64d11eaf5573d86143ac6d3af914ca80b84b5c9c31e6f26f699af"), looks := false }, kinds := [], alts := [], laidByText := true, laidKinds := [.data], laidTests := true, laidLooks := .later }
def ProofWholeUptoCardSaid : Prop := Claim7.holds Tryd.pinned (.plain (OpenSpec.upto proofWholeSpec)) proofWholeUptoCard

/-- THE SECOND FORM's CARD OF 'pharoslaw13.ProofTight'. -/
def proofTightUptoCard : Claim7 := { stood := { row := proofTightUptoRow, standIns := [], harness := (true, "dc3c7a9a32b64d11eaf5573d86143ac6d3af914ca80b84b5c9c31e6f26f699af"), looks := false }, kinds := [], alts := [], laidByText := true, laidKinds := [.data], laidTests := true, laidLooks := .later }
def ProofTightUptoCardSaid : Prop := Claim7.holds Tryd.pinned (.plain (OpenSpec.upto proofTightSpec)) proofTightUptoCard
end Rows
end Go.Proofs.YtjfefphgikncnaaDoor
