/-
  DERIVED. GIVEN WITH THE SEED: THE CARDS: each row of YtaficmboooaknaaGreatDoorRows.lean that lists a variable, with what it lists TIED to the program's text (the seventh form; the later family's looks); each row that meets fmt, with fmt's text TOLD by the authors' own Lean function (tested against real Go, not proved from fmt's source: count such statements apart). THE CARD IS WHAT COUNTS. Prove the row's statement (the work); the ties are given (YtaficmboooaknaaGreatDoorTie.lean); close each card by the builder's one call (the guide's Derived/Test/ToyasCard.lean, 'card_holds'). Laid BY PROGRAM, IN A SANDBOX (cutbox-door.mjs). By AI agents, Wed Nov 11 2026. No macro, syntax, notation, axiom, sorry.
-/
import Derived.Test.YtaficmboooaknaaGreatDoorRows
import GoSem.ClaimSeven
namespace Go.Proofs.YtaficmboooaknaaGreatDoor
namespace Rows

/-- THE TIED CARD OF 'pharoslaw14.SpanProves'. -/
def spanProvesCard : Claim7 := { stood := { row := spanProvesRow, standIns := [], harness := (true, "2af014f55bb7cc9c18995c5d040bff0ae3341bfc39cec49dfdf800b3df2c01b3"), looks := false }, kinds := [], alts := [], laidByText := true, laidKinds := [.data], laidTests := true, laidLooks := .later }
def SpanProvesCardSaid : Prop := Claim7.holds Tryz.pinned (.plain (OpenSpec.ofChange spanProvesSpec)) spanProvesCard

/-- THE TIED CARD OF 'pharoslaw14.SpanVerifies'. -/
def spanVerifiesCard : Claim7 := { stood := { row := spanVerifiesRow, standIns := [], harness := (true, "2af014f55bb7cc9c18995c5d040bff0ae3341bfc39cec49dfdf800b3df2c01b3"), looks := false }, kinds := [], alts := [], laidByText := true, laidKinds := [.data], laidTests := true, laidLooks := .later }
def SpanVerifiesCardSaid : Prop := Claim7.holds Tryz.pinned (.plain (OpenSpec.ofChange spanVerifiesSpec)) spanVerifiesCard

/-- THE TIED CARD OF 'pharoslaw14.SpanWhole'. -/
def spanWholeCard : Claim7 := { stood := { row := spanWholeRow, standIns := [], harness := (true, "2af014f55bb7cc9c18995c5d040bff0ae3341bfc39cec49dfdf800b3df2c01b3"), looks := false }, kinds := [], alts := [], laidByText := true, laidKinds := [.data], laidTests := true, laidLooks := .later }
def SpanWholeCardSaid : Prop := Claim7.holds Tryz.pinned (.plain (OpenSpec.ofChange spanWholeSpec)) spanWholeCard

/-- THE TIED CARD OF 'pharoslaw14.SpanSound'. -/
def spanSoundCard : Claim7 := { stood := { row := spanSoundRow, standIns := [], harness := (true, "2af014f55bb7cc9c18995c5d040bff0ae3341bfc39cec49dfdf800b3df2c01b3"), looks := false }, kinds := [], alts := [], laidByText := true, laidKinds := [.data], laidTests := true, laidLooks := .later }
def SpanSoundCardSaid : Prop := Claim7.holds Tryz.pinned (.plain (OpenSpec.ofChange spanSoundSpec)) spanSoundCard

/-- THE TIED CARD OF 'pharoslaw14.SpanPages'. -/
def spanPagesCard : Claim7 := { stood := { row := spanPagesRow, standIns := [], harness := (true, "2af014f55bb7cc9c18995c5d040bff0ae3341bfc39cec49dfdf800b3df2c01b3"), looks := false }, kinds := [], alts := [], laidByText := true, laidKinds := [.data], laidTests := true, laidLooks := .later }
def SpanPagesCardSaid : Prop := Claim7.holds Tryz.pinned (.plain (OpenSpec.ofChange spanPagesSpec)) spanPagesCard

/-- THE TIED CARD OF 'pharoslaw14.SpanTight'. -/
def spanTightCard : Claim7 := { stood := { row := spanTightRow, standIns := [], harness := (true, "2af014f55bb7cc9c18995c5d040bff0ae3341bfc39cec49dfdf800b3df2c01b3"), looks := false }, kinds := [], alts := [], laidByText := true, laidKinds := [.data], laidTests := true, laidLooks := .later }
def SpanTightCardSaid : Prop := Claim7.holds Tryz.pinned (.plain (OpenSpec.ofChange spanTightSpec)) spanTightCard

/-- THE TIED CARD OF 'pharostop.TopPoints'. -/
def topPointsCard : Claim7 := { stood := { row := topPointsRow, standIns := [], harness := (true, "2af014f55bb7cc9c18995c5d040bff0ae3341bfc39cec49dfdf800b3df2c01b3"), looks := false }, kinds := [], alts := [], laidByText := true, laidKinds := [.data], laidTests := true, laidLooks := .later }
def TopPointsCardSaid : Prop := Claim7.holds Tryz.pinned (.plain (OpenSpec.ofChange topPointsSpec)) topPointsCard

/-- THE SECOND FORM's CARD OF 'pharoslaw14.SpanProves'. -/
def spanProvesUptoCard : Claim7 := { stood := { row := spanProvesUptoRow, standIns := [], harness := (true, "2af014f55bb7cc9c18995c5d040bff0ae3341bfc39cec49dfdf800b3df2c01b3"), looks := false }, kinds := [], alts := [], laidByText := true, laidKinds := [.data], laidTests := true, laidLooks := .later }
def SpanProvesUptoCardSaid : Prop := Claim7.holds Tryz.pinned (.plain (OpenSpec.upto spanProvesSpec)) spanProvesUptoCard

/-- THE SECOND FORM's CARD OF 'pharoslaw14.SpanVerifies'. -/
def spanVerifiesUptoCard : Claim7 := { stood := { row := spanVerifiesUptoRow, standIns := [], harness := (true, "2af014f55bb7cc9c18995c5d040bff0ae3341bfc39cec49dfdf800b3df2c01b3"), looks := false }, kinds := [], alts := [], laidByText := true, laidKinds := [.data], laidTests := true, laidLooks := .later }
def SpanVerifiesUptoCardSaid : Prop := Claim7.holds Tryz.pinned (.plain (OpenSpec.upto spanVerifiesSpec)) spanVerifiesUptoCard

/-- THE SECOND FORM's CARD OF 'pharoslaw14.SpanWhole'. -/
def spanWholeUptoCard : Claim7 := { stood := { row := spanWholeUptoRow, standIns := [], harness := (true, "2af014f55bb7cc9c18995c5d040bff0ae3341bfc39cec49dfdf800b3df2c01b3"), looks := false }, kinds := [], alts := [], laidByText := true, laidKinds := [.data], laidTests := true, laidLooks := .later }
def SpanWholeUptoCardSaid : Prop := Claim7.holds Tryz.pinned (.plain (OpenSpec.upto spanWholeSpec)) spanWholeUptoCard

/-- THE SECOND FORM's CARD OF 'pharoslaw14.SpanSound'. -/
def spanSoundUptoCard : Claim7 := { stood := { row := spanSoundUptoRow, standIns := [], harness := (true, "2af014f55bb7cc9c18995c5d040bff0ae3341bfc39cec49dfdf800b3df2c01b3"), looks := false }, kinds := [], alts := [], laidByText := true, laidKinds := [.data], laidTests := true, laidLooks := .later }
def SpanSoundUptoCardSaid : Prop := Claim7.holds Tryz.pinned (.plain (OpenSpec.upto spanSoundSpec)) spanSoundUptoCard

/-- THE SECOND FORM's CARD OF 'pharoslaw14.SpanPages'. -/
def spanPagesUptoCard : Claim7 := { stood := { row := spanPagesUptoRow, standIns := [], harness := (true, "2af014f55bb7cc9c18995c5d040bff0ae3341bfc39cec49dfdf800b3df2c01b3"), looks := false }, kinds := [], alts := [], laidByText := true, laidKinds := [.data], laidTests := true, laidLooks := .later }
def SpanPagesUptoCardSaid : Prop := Claim7.holds Tryz.pinned (.plain (OpenSpec.upto spanPagesSpec)) spanPagesUptoCard

/-- THE SECOND FORM's CARD OF 'pharoslaw14.SpanTight'. -/
def spanTightUptoCard : Claim7 := { stood := { row := spanTightUptoRow, standIns := [], harness := (true, "2af014f55bb7cc9c18995c5d040bff0ae3341bfc39cec49dfdf800b3df2c01b3"), looks := false }, kinds := [], alts := [], laidByText := true, laidKinds := [.data], laidTests := true, laidLooks := .later }
def SpanTightUptoCardSaid : Prop := Claim7.holds Tryz.pinned (.plain (OpenSpec.upto spanTightSpec)) spanTightUptoCard

/-- THE SECOND FORM's CARD OF 'pharostop.TopPoints'. -/
def topPointsUptoCard : Claim7 := { stood := { row := topPointsUptoRow, standIns := [], harness := (true, "2af014f55bb7cc9c18995c5d040bff0ae3341bfc39cec49dfdf800b3df2c01b3"), looks := false }, kinds := [], alts := [], laidByText := true, laidKinds := [.data], laidTests := true, laidLooks := .later }
def TopPointsUptoCardSaid : Prop := Claim7.holds Tryz.pinned (.plain (OpenSpec.upto topPointsSpec)) topPointsUptoCard
end Rows
end Go.Proofs.YtaficmboooaknaaGreatDoor
