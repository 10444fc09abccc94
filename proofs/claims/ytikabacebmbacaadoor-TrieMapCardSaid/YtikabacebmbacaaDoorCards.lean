/-
  DERIVED. GIVEN WITH THE SEED: THE CARDS: each row of YtikabacebmbacaaDoorRows.lean that lists a variable, with what it lists TIED to the program's text (the seventh form; the later family's looks); each row that meets fmt, with fmt's text TOLD by the authors' own Lean function (tested against real Go, not proved from fmt's source: count such statements apart). THE CARD IS WHAT COUNTS. Prove the row's statement (the work); the ties are given (YtikabacebmbacaaDoorTie.lean); close each card by the builder's one call (the guide's Derived/Test/ToyasCard.lean, 'card_holds'). Laid BY PROGRAM, IN A SANDBOX (cutbox-door.mjs). By AI agents, Wed Nov 11 2026. No macro, syntax, notation, axiom, sorry.
-/
import Derived.Test.YtikabacebmbacaaDoorRows
import GoSem.ClaimSeven
namespace Go.Proofs.YtikabacebmbacaaDoor
namespace Rows

/-- THE TIED CARD OF 'pharoslaw10.TriePlays'. -/
def triePlaysCard : Claim7 := { stood := { row := triePlaysRow, standIns := [], harness := (true, "8eb7f41c839631e50f0234557ac8057964d17202c63cdb0a6ba5244e8f27bf30"), looks := false }, kinds := [], alts := [], laidByText := true, laidKinds := [.data], laidTests := true, laidLooks := .later }
def TriePlaysCardSaid : Prop := Claim7.holds Tryd.pinned (.plain (OpenSpec.ofChange triePlaysSpec)) triePlaysCard

/-- THE TIED CARD OF 'pharoslaw10.TrieMap'. -/
def trieMapCard : Claim7 := { stood := { row := trieMapRow, standIns := [], harness := (true, "8eb7f41c839631e50f0234557ac8057964d17202c63cdb0a6ba5244e8f27bf30"), looks := false }, kinds := [], alts := [], laidByText := true, laidKinds := [.data], laidTests := true, laidLooks := .later }
def TrieMapCardSaid : Prop := Claim7.holds Tryd.pinned (.plain (OpenSpec.ofChange trieMapSpec)) trieMapCard

/-- THE TIED CARD OF 'pharoslaw10.TrieOne'. -/
def trieOneCard : Claim7 := { stood := { row := trieOneRow, standIns := [], harness := (true, "8eb7f41c839631e50f0234557ac8057964d17202c63cdb0a6ba5244e8f27bf30"), looks := false }, kinds := [], alts := [], laidByText := true, laidKinds := [.data], laidTests := true, laidLooks := .later }
def TrieOneCardSaid : Prop := Claim7.holds Tryd.pinned (.plain (OpenSpec.ofChange trieOneSpec)) trieOneCard

/-- THE TIED CARD OF 'pharoslaw10.TrieTurns'. -/
def trieTurnsCard : Claim7 := { stood := { row := trieTurnsRow, standIns := [], harness := (true, "8eb7f41c839631e50f0234557ac8057964d17202c63cdb0a6ba5244e8f27bf30"), looks := false }, kinds := [], alts := [], laidByText := true, laidKinds := [.data], laidTests := true, laidLooks := .later }
def TrieTurnsCardSaid : Prop := Claim7.holds Tryd.pinned (.plain (OpenSpec.ofChange trieTurnsSpec)) trieTurnsCard

/-- THE TIED CARD OF 'pharoslaw10.TrieRange'. -/
def trieRangeCard : Claim7 := { stood := { row := trieRangeRow, standIns := [], harness := (true, "8eb7f41c839631e50f0234557ac8057964d17202c63cdb0a6ba5244e8f27bf30"), looks := false }, kinds := [], alts := [], laidByText := true, laidKinds := [.data], laidTests := true, laidLooks := .later }
def TrieRangeCardSaid : Prop := Claim7.holds Tryd.pinned (.plain (OpenSpec.ofChange trieRangeSpec)) trieRangeCard

/-- THE SECOND FORM's CARD OF 'pharoslaw10.TriePlays'. -/
def triePlaysUptoCard : Claim7 := { stood := { row := triePlaysUptoRow, standIns := [], harness := (true, "8eb7f41c839631e50f0234557ac8057964d17202c63cdb0a6ba5244e8f27bf30"), looks := false }, kinds := [], alts := [], laidByText := true, laidKinds := [.data], laidTests := true, laidLooks := .later }
def TriePlaysUptoCardSaid : Prop := Claim7.holds Tryd.pinned (.plain (OpenSpec.upto triePlaysSpec)) triePlaysUptoCard

/-- THE SECOND FORM's CARD OF 'pharoslaw10.TrieMap'. -/
def trieMapUptoCard : Claim7 := { stood := { row := trieMapUptoRow, standIns := [], harness := (true, "8eb7f41c839631e50f0234557ac8057964d17202c63cdb0a6ba5244e8f27bf30"), looks := false }, kinds := [], alts := [], laidByText := true, laidKinds := [.data], laidTests := true, laidLooks := .later }
def TrieMapUptoCardSaid : Prop := Claim7.holds Tryd.pinned (.plain (OpenSpec.upto trieMapSpec)) trieMapUptoCard

/-- THE SECOND FORM's CARD OF 'pharoslaw10.TrieOne'. -/
def trieOneUptoCard : Claim7 := { stood := { row := trieOneUptoRow, standIns := [], harness := (true, "8eb7f41c839631e50f0234557ac8057964d17202c63cdb0a6ba5244e8f27bf30"), looks := false }, kinds := [], alts := [], laidByText := true, laidKinds := [.data], laidTests := true, laidLooks := .later }
def TrieOneUptoCardSaid : Prop := Claim7.holds Tryd.pinned (.plain (OpenSpec.upto trieOneSpec)) trieOneUptoCard

/-- THE SECOND FORM's CARD OF 'pharoslaw10.TrieTurns'. -/
def trieTurnsUptoCard : Claim7 := { stood := { row := trieTurnsUptoRow, standIns := [], harness := (true, "8eb7f41c839631e50f0234557ac8057964d17202c63cdb0a6ba5244e8f27bf30"), looks := false }, kinds := [], alts := [], laidByText := true, laidKinds := [.data], laidTests := true, laidLooks := .later }
def TrieTurnsUptoCardSaid : Prop := Claim7.holds Tryd.pinned (.plain (OpenSpec.upto trieTurnsSpec)) trieTurnsUptoCard

/-- THE SECOND FORM's CARD OF 'pharoslaw10.TrieRange'. -/
def trieRangeUptoCard : Claim7 := { stood := { row := trieRangeUptoRow, standIns := [], harness := (true, "8eb7f41c839631e50f0234557ac8057964d17202c63cdb0a6ba5244e8f27bf30"), looks := false }, kinds := [], alts := [], laidByText := true, laidKinds := [.data], laidTests := true, laidLooks := .later }
def TrieRangeUptoCardSaid : Prop := Claim7.holds Tryd.pinned (.plain (OpenSpec.upto trieRangeSpec)) trieRangeUptoCard
end Rows
end Go.Proofs.YtikabacebmbacaaDoor
