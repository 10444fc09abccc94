/-
  DERIVED. GIVEN WITH THE SEED: THE CARDS: each row of YtjbagjhadmbjnaaDoorRows.lean that lists a variable, with what it lists TIED to the program's text (the seventh form; the later family's looks); each row that meets fmt, with fmt's text TOLD by the authors' own Lean function (tested against real Go, not proved from fmt's source: count such statements apart). THE CARD IS WHAT COUNTS. Prove the row's statement (the work); the ties are given (YtjbagjhadmbjnaaDoorTie.lean); close each card by the builder's one call (the guide's Derived/Test/ToyasCard.lean, 'card_holds'). Laid BY PROGRAM, IN A SANDBOX (cutbox-door.mjs). By AI agents, Wed Nov 11 2026. No macro, syntax, notation, axiom, sorry.
-/
import Derived.Test.YtjbagjhadmbjnaaDoorRows
import GoSem.ClaimSeven
namespace Go.Proofs.YtjbagjhadmbjnaaDoor
namespace Rows

/-- THE TIED CARD OF 'pharoslaw08.NodeWrites'. -/
def nodeWritesCard : Claim7 := { stood := { row := nodeWritesRow, standIns := [], harness := (true, "569705925ffb270cc357157c8e3240fef452223172d9cf8848350c0fb99c2049"), looks := false }, kinds := [], alts := [], laidByText := true, laidKinds := [.data], laidTests := true, laidLooks := .later }
def NodeWritesCardSaid : Prop := Claim7.holds Tryd.pinned (.plain (OpenSpec.ofChange nodeWritesSpec)) nodeWritesCard

/-- THE TIED CARD OF 'pharoslaw08.NodeBack'. -/
def nodeBackCard : Claim7 := { stood := { row := nodeBackRow, standIns := [], harness := (true, "569705925ffb270cc357157c8e3240fef452223172d9cf8848350c0fb99c2049"), looks := false }, kinds := [], alts := [], laidByText := true, laidKinds := [.data], laidTests := true, laidLooks := .later }
def NodeBackCardSaid : Prop := Claim7.holds Tryd.pinned (.plain (OpenSpec.ofChange nodeBackSpec)) nodeBackCard

/-- THE TIED CARD OF 'pharoslaw08.NodeSum'. -/
def nodeSumCard : Claim7 := { stood := { row := nodeSumRow, standIns := [], harness := (true, "569705925ffb270cc357157c8e3240fef452223172d9cf8848350c0fb99c2049"), looks := false }, kinds := [], alts := [], laidByText := true, laidKinds := [.data], laidTests := true, laidLooks := .later }
def NodeSumCardSaid : Prop := Claim7.holds Tryd.pinned (.plain (OpenSpec.ofChange nodeSumSpec)) nodeSumCard

/-- THE SECOND FORM's CARD OF 'pharoslaw08.NodeWrites'. -/
def nodeWritesUptoCard : Claim7 := { stood := { row := nodeWritesUptoRow, standIns := [], harness := (true, "569705925ffb270cc357157c8e3240fef452223172d9cf8848350c0fb99c2049"), looks := false }, kinds := [], alts := [], laidByText := true, laidKinds := [.data], laidTests := true, laidLooks := .later }
def NodeWritesUptoCardSaid : Prop := Claim7.holds Tryd.pinned (.plain (OpenSpec.upto nodeWritesSpec)) nodeWritesUptoCard

/-- THE SECOND FORM's CARD OF 'pharoslaw08.NodeBack'. -/
def nodeBackUptoCard : Claim7 := { stood := { row := nodeBackUptoRow, standIns := [], harness := (true, "569705925ffb270cc357157c8e3240fef452223172d9cf8848350c0fb99c2049"), looks := false }, kinds := [], alts := [], laidByText := true, laidKinds := [.data], laidTests := true, laidLooks := .later }
def NodeBackUptoCardSaid : Prop := Claim7.holds Tryd.pinned (.plain (OpenSpec.upto nodeBackSpec)) nodeBackUptoCard

/-- THE SECOND FORM's CARD OF 'pharoslaw08.NodeSum'. -/
def nodeSumUptoCard : Claim7 := { stood := { row := nodeSumUptoRow, standIns := [], harness := (true, "569705925ffb270cc357157c8e3240fef452223172d9cf8848350c0fb99c2049"), looks := false }, kinds := [], alts := [], laidByText := true, laidKinds := [.data], laidTests := true, laidLooks := .later }
def NodeSumUptoCardSaid : Prop := Claim7.holds Tryd.pinned (.plain (OpenSpec.upto nodeSumSpec)) nodeSumUptoCard
end Rows
end Go.Proofs.YtjbagjhadmbjnaaDoor
