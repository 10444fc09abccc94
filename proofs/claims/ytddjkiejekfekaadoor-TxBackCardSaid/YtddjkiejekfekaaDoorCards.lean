/-
  DERIVED. GIVEN WITH THE SEED: THE CARDS: each row of YtddjkiejekfekaaDoorRows.lean that lists a variable, with what it lists TIED to the program's text (the seventh form; the later family's looks); each row that meets fmt, with fmt's text TOLD by the authors' own Lean function (tested against real Go, not proved from fmt's source: count such statements apart). THE CARD IS WHAT COUNTS. Prove the row's statement (the work); the ties are given (YtddjkiejekfekaaDoorTie.lean); close each card by the builder's one call (the guide's Derived/Test/ToyasCard.lean, 'card_holds'). Laid BY PROGRAM, IN A SANDBOX (cutbox-door.mjs). By AI agents, Wed Nov 11 2026. No macro, syntax, notation, axiom, sorry.
-/
import Derived.Test.YtddjkiejekfekaaDoorRows
import GoSem.ClaimSeven
namespace Go.Proofs.YtddjkiejekfekaaDoor
namespace Rows

/-- THE TIED CARD OF 'pharoslaw15.TxCodes'. -/
def txCodesCard : Claim7 := { stood := { row := txCodesRow, standIns := [], harness := (true, "381993be0818931c5c3163b801aee58784977451754482d2c2800e96f271f481"), looks := false }, kinds := [], alts := [], laidByText := true, laidKinds := [.data], laidTests := true, laidLooks := .later }
def TxCodesCardSaid : Prop := Claim7.holds Tryd.pinned (.plain (OpenSpec.ofChange txCodesSpec)) txCodesCard

/-- THE TIED CARD OF 'pharoslaw15.TxLists'. -/
def txListsCard : Claim7 := { stood := { row := txListsRow, standIns := [], harness := (true, "381993be0818931c5c3163b801aee58784977451754482d2c2800e96f271f481"), looks := false }, kinds := [], alts := [], laidByText := true, laidKinds := [.data], laidTests := true, laidLooks := .later }
def TxListsCardSaid : Prop := Claim7.holds Tryd.pinned (.plain (OpenSpec.ofChange txListsSpec)) txListsCard

/-- THE TIED CARD OF 'pharoslaw15.TxBack'. -/
def txBackCard : Claim7 := { stood := { row := txBackRow, standIns := [], harness := (true, "381993be0818931c5c3163b801aee58784977451754482d2c2800e96f271f481"), looks := false }, kinds := [], alts := [], laidByText := true, laidKinds := [.data], laidTests := true, laidLooks := .later }
def TxBackCardSaid : Prop := Claim7.holds Tryd.pinned (.plain (OpenSpec.ofChange txBackSpec)) txBackCard

/-- THE TIED CARD OF 'pharoslaw15.TxAll'. -/
def txAllCard : Claim7 := { stood := { row := txAllRow, standIns := [], harness := (true, "381993be0818931c5c3163b801aee58784977451754482d2c2800e96f271f481"), looks := false }, kinds := [], alts := [], laidByText := true, laidKinds := [.data], laidTests := true, laidLooks := .later }
def TxAllCardSaid : Prop := Claim7.holds Tryd.pinned (.plain (OpenSpec.ofChange txAllSpec)) txAllCard

/-- THE TIED CARD OF 'pharoslaw15.TxOne'. -/
def txOneCard : Claim7 := { stood := { row := txOneRow, standIns := [], harness := (true, "381993be0818931c5c3163b801aee58784977451754482d2c2800e96f271f481"), looks := false }, kinds := [], alts := [], laidByText := true, laidKinds := [.data], laidTests := true, laidLooks := .later }
def TxOneCardSaid : Prop := Claim7.holds Tryd.pinned (.plain (OpenSpec.ofChange txOneSpec)) txOneCard

/-- THE SECOND FORM's CARD OF 'pharoslaw15.TxCodes'. -/
def txCodesUptoCard : Claim7 := { stood := { row := txCodesUptoRow, standIns := [], harness := (true, "381993be0818931c5c3163b801aee58784977451754482d2c2800e96f271f481"), looks := false }, kinds := [], alts := [], laidByText := true, laidKinds := [.data], laidTests := true, laidLooks := .later }
def TxCodesUptoCardSaid : Prop := Claim7.holds Tryd.pinned (.plain (OpenSpec.upto txCodesSpec)) txCodesUptoCard

/-- THE SECOND FORM's CARD OF 'pharoslaw15.TxLists'. -/
def txListsUptoCard : Claim7 := { stood := { row := txListsUptoRow, standIns := [], harness := (true, "381993be0818931c5c3163b801aee58784977451754482d2c2800e96f271f481"), looks := false }, kinds := [], alts := [], laidByText := true, laidKinds := [.data], laidTests := true, laidLooks := .later }
def TxListsUptoCardSaid : Prop := Claim7.holds Tryd.pinned (.plain (OpenSpec.upto txListsSpec)) txListsUptoCard

/-- THE SECOND FORM's CARD OF 'pharoslaw15.TxBack'. -/
def txBackUptoCard : Claim7 := { stood := { row := txBackUptoRow, standIns := [], harness := (true, "381993be0818931c5c3163b801aee58784977451754482d2c2800e96f271f481"), looks := false }, kinds := [], alts := [], laidByText := true, laidKinds := [.data], laidTests := true, laidLooks := .later }
def TxBackUptoCardSaid : Prop := Claim7.holds Tryd.pinned (.plain (OpenSpec.upto txBackSpec)) txBackUptoCard

/-- THE SECOND FORM's CARD OF 'pharoslaw15.TxAll'. -/
def txAllUptoCard : Claim7 := { stood := { row := txAllUptoRow, standIns := [], harness := (true, "381993be0818931c5c3163b801aee58784977451754482d2c2800e96f271f481"), looks := false }, kinds := [], alts := [], laidByText := true, laidKinds := [.data], laidTests := true, laidLooks := .later }
def TxAllUptoCardSaid : Prop := Claim7.holds Tryd.pinned (.plain (OpenSpec.upto txAllSpec)) txAllUptoCard

/-- THE SECOND FORM's CARD OF 'pharoslaw15.TxOne'. -/
def txOneUptoCard : Claim7 := { stood := { row := txOneUptoRow, standIns := [], harness := (true, "381993be0818931c5c3163b801aee58784977451754482d2c2800e96f271f481"), looks := false }, kinds := [], alts := [], laidByText := true, laidKinds := [.data], laidTests := true, laidLooks := .later }
def TxOneUptoCardSaid : Prop := Claim7.holds Tryd.pinned (.plain (OpenSpec.upto txOneSpec)) txOneUptoCard
end Rows
end Go.Proofs.YtddjkiejekfekaaDoor
