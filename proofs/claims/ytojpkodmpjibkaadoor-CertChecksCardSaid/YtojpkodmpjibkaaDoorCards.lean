/-
  DERIVED. GIVEN WITH THE SEED: THE CARDS: each row of YtojpkodmpjibkaaDoorRows.lean that lists a variable, with what it lists TIED to the program's text (the seventh form; the later family's looks); each row that meets fmt, with fmt's text TOLD by the authors' own Lean function (tested against real Go, not proved from fmt's source: count such statements apart). THE CARD IS WHAT COUNTS. Prove the row's statement (the work); the ties are given (YtojpkodmpjibkaaDoorTie.lean); close each card by the builder's one call (the guide's Derived/Test/ToyasCard.lean, 'card_holds'). Laid BY PROGRAM, IN A SANDBOX (cutbox-door.mjs). By AI agents, Wed Nov 11 2026. No macro, syntax, notation, axiom, sorry.
-/
import Derived.Test.YtojpkodmpjibkaaDoorRows
import GoSem.ClaimSeven
namespace Go.Proofs.YtojpkodmpjibkaaDoor
namespace Rows

/-- THE TIED CARD OF 'pharoslaw07.CertChecks'. -/
def certChecksCard : Claim7 := { stood := { row := certChecksRow, standIns := [], harness := (true, "73943eeb40f0c20660b1d3134f2a5f0750254d4cdea7131b71a264e5e8325b37"), looks := false }, kinds := [], alts := [], laidByText := true, laidKinds := [.data], laidTests := true, laidLooks := .later }
def CertChecksCardSaid : Prop := Claim7.holds Tryd.pinned (.plain (OpenSpec.ofChange certChecksSpec)) certChecksCard

/-- THE TIED CARD OF 'pharoslaw07.CertCodes'. -/
def certCodesCard : Claim7 := { stood := { row := certCodesRow, standIns := [], harness := (true, "73943eeb40f0c20660b1d3134f2a5f0750254d4cdea7131b71a264e5e8325b37"), looks := false }, kinds := [], alts := [], laidByText := true, laidKinds := [.data], laidTests := true, laidLooks := .later }
def CertCodesCardSaid : Prop := Claim7.holds Tryd.pinned (.plain (OpenSpec.ofChange certCodesSpec)) certCodesCard

/-- THE TIED CARD OF 'pharoslaw07.CertBoth'. -/
def certBothCard : Claim7 := { stood := { row := certBothRow, standIns := [], harness := (true, "73943eeb40f0c20660b1d3134f2a5f0750254d4cdea7131b71a264e5e8325b37"), looks := false }, kinds := [], alts := [], laidByText := true, laidKinds := [.data], laidTests := true, laidLooks := .later }
def CertBothCardSaid : Prop := Claim7.holds Tryd.pinned (.plain (OpenSpec.ofChange certBothSpec)) certBothCard

/-- THE TIED CARD OF 'pharoslaw07.CertGathers'. -/
def certGathersCard : Claim7 := { stood := { row := certGathersRow, standIns := [], harness := (true, "73943eeb40f0c20660b1d3134f2a5f0750254d4cdea7131b71a264e5e8325b37"), looks := false }, kinds := [], alts := [], laidByText := true, laidKinds := [.data], laidTests := true, laidLooks := .later }
def CertGathersCardSaid : Prop := Claim7.holds Tryd.pinned (.plain (OpenSpec.ofChange certGathersSpec)) certGathersCard

/-- THE TIED CARD OF 'pharoslaw07.CertMore'. -/
def certMoreCard : Claim7 := { stood := { row := certMoreRow, standIns := [], harness := (true, "73943eeb40f0c20660b1d3134f2a5f0750254d4cdea7131b71a264e5e8325b37"), looks := false }, kinds := [], alts := [], laidByText := true, laidKinds := [.data], laidTests := true, laidLooks := .later }
def CertMoreCardSaid : Prop := Claim7.holds Tryd.pinned (.plain (OpenSpec.ofChange certMoreSpec)) certMoreCard

/-- THE TIED CARD OF 'pharoslaw07.CertBack'. -/
def certBackCard : Claim7 := { stood := { row := certBackRow, standIns := [], harness := (true, "73943eeb40f0c20660b1d3134f2a5f0750254d4cdea7131b71a264e5e8325b37"), looks := false }, kinds := [], alts := [], laidByText := true, laidKinds := [.data], laidTests := true, laidLooks := .later }
def CertBackCardSaid : Prop := Claim7.holds Tryd.pinned (.plain (OpenSpec.ofChange certBackSpec)) certBackCard

/-- THE SECOND FORM's CARD OF 'pharoslaw07.CertChecks'. -/
def certChecksUptoCard : Claim7 := { stood := { row := certChecksUptoRow, standIns := [], harness := (true, "73943eeb40f0c20660b1d3134f2a5f0750254d4cdea7131b71a264e5e8325b37"), looks := false }, kinds := [], alts := [], laidByText := true, laidKinds := [.data], laidTests := true, laidLooks := .later }
def CertChecksUptoCardSaid : Prop := Claim7.holds Tryd.pinned (.plain (OpenSpec.upto certChecksSpec)) certChecksUptoCard

/-- THE SECOND FORM's CARD OF 'pharoslaw07.CertCodes'. -/
def certCodesUptoCard : Claim7 := { stood := { row := certCodesUptoRow, standIns := [], harness := (true, "73943eeb40f0c20660b1d3134f2a5f0750254d4cdea7131b71a264e5e8325b37"), looks := false }, kinds := [], alts := [], laidByText := true, laidKinds := [.data], laidTests := true, laidLooks := .later }
def CertCodesUptoCardSaid : Prop := Claim7.holds Tryd.pinned (.plain (OpenSpec.upto certCodesSpec)) certCodesUptoCard

/-- THE SECOND FORM's CARD OF 'pharoslaw07.CertBoth'. -/
def certBothUptoCard : Claim7 := { stood := { row := certBothUptoRow, standIns := [], harness := (true, "73943eeb40f0c20660b1d3134f2a5f0750254d4cdea7131b71a264e5e8325b37"), looks := false }, kinds := [], alts := [], laidByText := true, laidKinds := [.data], laidTests := true, laidLooks := .later }
def CertBothUptoCardSaid : Prop := Claim7.holds Tryd.pinned (.plain (OpenSpec.upto certBothSpec)) certBothUptoCard

/-- THE SECOND FORM's CARD OF 'pharoslaw07.CertGathers'. -/
def certGathersUptoCard : Claim7 := { stood := { row := certGathersUptoRow, standIns := [], harness := (true, "73943eeb40f0c20660b1d3134f2a5f0750254d4cdea7131b71a264e5e8325b37"), looks := false }, kinds := [], alts := [], laidByText := true, laidKinds := [.data], laidTests := true, laidLooks := .later }
def CertGathersUptoCardSaid : Prop := Claim7.holds Tryd.pinned (.plain (OpenSpec.upto certGathersSpec)) certGathersUptoCard

/-- THE SECOND FORM's CARD OF 'pharoslaw07.CertMore'. -/
def certMoreUptoCard : Claim7 := { stood := { row := certMoreUptoRow, standIns := [], harness := (true, "73943eeb40f0c20660b1d3134f2a5f0750254d4cdea7131b71a264e5e8325b37"), looks := false }, kinds := [], alts := [], laidByText := true, laidKinds := [.data], laidTests := true, laidLooks := .later }
def CertMoreUptoCardSaid : Prop := Claim7.holds Tryd.pinned (.plain (OpenSpec.upto certMoreSpec)) certMoreUptoCard

/-- THE SECOND FORM's CARD OF 'pharoslaw07.CertBack'. -/
def certBackUptoCard : Claim7 := { stood := { row := certBackUptoRow, standIns := [], harness := (true, "73943eeb40f0c20660b1d3134f2a5f0750254d4cdea7131b71a264e5e8325b37"), looks := false }, kinds := [], alts := [], laidByText := true, laidKinds := [.data], laidTests := true, laidLooks := .later }
def CertBackUptoCardSaid : Prop := Claim7.holds Tryd.pinned (.plain (OpenSpec.upto certBackSpec)) certBackUptoCard
end Rows
end Go.Proofs.YtojpkodmpjibkaaDoor
