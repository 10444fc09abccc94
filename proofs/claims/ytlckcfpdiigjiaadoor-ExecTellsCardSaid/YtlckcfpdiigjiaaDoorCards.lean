/-
  DERIVED. GIVEN WITH THE SEED: THE CARDS: each row of YtlckcfpdiigjiaaDoorRows.lean that lists a variable, with what it lists TIED to the program's text (the seventh form; the later family's looks); each row that meets fmt, with fmt's text TOLD by the authors' own Lean function (tested against real Go, not proved from fmt's source: count such statements apart). THE CARD IS WHAT COUNTS. Prove the row's statement (the work); the ties are given (YtlckcfpdiigjiaaDoorTie.lean); close each card by the builder's one call (the guide's Derived/Test/ToyasCard.lean, 'card_holds'). Laid BY PROGRAM, IN A SANDBOX (cutbox-door.mjs). By AI agents, Wed Nov 11 2026. No macro, syntax, notation, axiom, sorry.
-/
import Derived.Test.YtlckcfpdiigjiaaDoorRows
import GoSem.ClaimSeven
namespace Go.Proofs.YtlckcfpdiigjiaaDoor
namespace Rows

/-- THE TIED CARD OF 'pharoslaw16.ExecSum'. -/
def execSumCard : Claim7 := { stood := { row := execSumRow, standIns := [], harness := (true, "fe5e2215e8d808af965859e88977f8d1aeb5544abac5bd66cddc9567574dac08"), looks := false }, kinds := [], alts := [], laidByText := true, laidKinds := [.data], laidTests := true, laidLooks := .later }
def ExecSumCardSaid : Prop := Claim7.holds Tryd.pinned (.plain (OpenSpec.ofChange execSumSpec)) execSumCard

/-- THE TIED CARD OF 'pharoslaw16.ExecOnce'. -/
def execOnceCard : Claim7 := { stood := { row := execOnceRow, standIns := [], harness := (true, "fe5e2215e8d808af965859e88977f8d1aeb5544abac5bd66cddc9567574dac08"), looks := false }, kinds := [], alts := [], laidByText := true, laidKinds := [.data], laidTests := true, laidLooks := .later }
def ExecOnceCardSaid : Prop := Claim7.holds Tryd.pinned (.plain (OpenSpec.ofChange execOnceSpec)) execOnceCard

/-- THE TIED CARD OF 'pharoslaw16.ExecTells'. -/
def execTellsCard : Claim7 := { stood := { row := execTellsRow, standIns := [], harness := (true, "fe5e2215e8d808af965859e88977f8d1aeb5544abac5bd66cddc9567574dac08"), looks := false }, kinds := [], alts := [], laidByText := true, laidKinds := [.data], laidTests := true, laidLooks := .later }
def ExecTellsCardSaid : Prop := Claim7.holds Tryd.pinned (.plain (OpenSpec.ofChange execTellsSpec)) execTellsCard

/-- THE SECOND FORM's CARD OF 'pharoslaw16.ExecSum'. -/
def execSumUptoCard : Claim7 := { stood := { row := execSumUptoRow, standIns := [], harness := (true, "fe5e2215e8d808af965859e88977f8d1aeb5544abac5bd66cddc9567574dac08"), looks := false }, kinds := [], alts := [], laidByText := true, laidKinds := [.data], laidTests := true, laidLooks := .later }
def ExecSumUptoCardSaid : Prop := Claim7.holds Tryd.pinned (.plain (OpenSpec.upto execSumSpec)) execSumUptoCard

/-- THE SECOND FORM's CARD OF 'pharoslaw16.ExecOnce'. -/
def execOnceUptoCard : Claim7 := { stood := { row := execOnceUptoRow, standIns := [], harness := (true, "fe5e2215e8d808af965859e88977f8d1aeb5544abac5bd66cddc9567574dac08"), looks := false }, kinds := [], alts := [], laidByText := true, laidKinds := [.data], laidTests := true, laidLooks := .later }
def ExecOnceUptoCardSaid : Prop := Claim7.holds Tryd.pinned (.plain (OpenSpec.upto execOnceSpec)) execOnceUptoCard

/-- THE SECOND FORM's CARD OF 'pharoslaw16.ExecTells'. -/
def execTellsUptoCard : Claim7 := { stood := { row := execTellsUptoRow, standIns := [], harness := (true, "fe5e2215e8d808af965859e88977f8d1aeb5544abac5bd66cddc9567574dac08"), looks := false }, kinds := [], alts := [], laidByText := true, laidKinds := [.data], laidTests := true, laidLooks := .later }
def ExecTellsUptoCardSaid : Prop := Claim7.holds Tryd.pinned (.plain (OpenSpec.upto execTellsSpec)) execTellsUptoCard
end Rows
end Go.Proofs.YtlckcfpdiigjiaaDoor
