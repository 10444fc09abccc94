/-
  NARROWER THAN 'FOR EVERY INPUT', by the rows' own cells (each row's printed sentence says how): TxCodes: laid · TxLists: laid · TxBack: laid · TxAll: laid · TxOne: laid.
  DERIVED. THE GIVEN ROWS OF THIS SEAT. 5 by the template 'for every input the law returns true; each argument reads behind the call as it read before'; 0 by the template 'total and deterministic' (their statements: YtddjkiejekfekaaDoorTotals.lean).
  GIVEN WITH THE SEED: the statements are not yours to turn. If you find one false, say at which input.
  Laid BY PROGRAM, IN A SANDBOX (cutbox-rows.mjs): the forced cells as the released guide's own fill.sh prints them over the translation 9508994369dc059c… (all of the seat's roots in one cut). By AI agents, Wed Nov 11 2026. No macro, syntax, notation, axiom, sorry.
-/
import Derived.Test.YtddjkiejekfekaaDoorChecked
import GoSem.Claim
import GoSem.ClaimJoined
import GoSem.ClaimMapViews
import Derived.JoinedTies
import Derived.KernelRfl
namespace Go.Proofs.YtddjkiejekfekaaDoor
/- THE CELL 'sum', in the pinned program and in every row, IS THE sha256 OF THE DUMP (.gsa) THAT YtddjkiejekfekaaDoorProg.lean LOADS. Nothing in Lean hashes anything: it is a label: what it is worth is what the hold of that sum in a sandbox is worth. -/
noncomputable def Tryd.pinned : Pinned := { name := "ytddjkiejekfekaadoor", sum := "9508994369dc059c85e1de85ba44e528ea11e9e73a5fa9aad04bda06e8da7046", checked := Tryd.checked }
namespace Rows
def none {H : Type} : Left H := { results := [], args := [] }

/- WHAT THE LISTED PACKAGE-LEVEL VARIABLES READ AS WHEN THE CALL BEGINS. Each datum BY PROGRAM (the guide's laid-datum.mjs) off the statement by which the dump's own 'gosem.cut.vars' lays the variable. In a bare row this is a premise. The card (YtddjkiejekfekaaDoorCards.lean) ties it to the program's text. -/
def laid_pharos_sha_constants {H : Type} : DataW H := .agg [.lit (.int .u32 1116352408), .lit (.int .u32 1899447441), .lit (.int .u32 3049323471), .lit (.int .u32 3921009573), .lit (.int .u32 961987163), .lit (.int .u32 1508970993), .lit (.int .u32 2453635748), .lit (.int .u32 2870763221), .lit (.int .u32 3624381080), .lit (.int .u32 310598401), .lit (.int .u32 607225278), .lit (.int .u32 1426881987), .lit (.int .u32 1925078388), .lit (.int .u32 2162078206), .lit (.int .u32 2614888103), .lit (.int .u32 3248222580), .lit (.int .u32 3835390401), .lit (.int .u32 4022224774), .lit (.int .u32 264347078), .lit (.int .u32 604807628), .lit (.int .u32 770255983), .lit (.int .u32 1249150122), .lit (.int .u32 1555081692), .lit (.int .u32 1996064986), .lit (.int .u32 2554220882), .lit (.int .u32 2821834349), .lit (.int .u32 2952996808), .lit (.int .u32 3210313671), .lit (.int .u32 3336571891), .lit (.int .u32 3584528711), .lit (.int .u32 113926993), .lit (.int .u32 338241895), .lit (.int .u32 666307205), .lit (.int .u32 773529912), .lit (.int .u32 1294757372), .lit (.int .u32 1396182291), .lit (.int .u32 1695183700), .lit (.int .u32 1986661051), .lit (.int .u32 2177026350), .lit (.int .u32 2456956037), .lit (.int .u32 2730485921), .lit (.int .u32 2820302411), .lit (.int .u32 3259730800), .lit (.int .u32 3345764771), .lit (.int .u32 3516065817), .lit (.int .u32 3600352804), .lit (.int .u32 4094571909), .lit (.int .u32 275423344), .lit (.int .u32 430227734), .lit (.int .u32 506948616), .lit (.int .u32 659060556), .lit (.int .u32 883997877), .lit (.int .u32 958139571), .lit (.int .u32 1322822218), .lit (.int .u32 1537002063), .lit (.int .u32 1747873779), .lit (.int .u32 1955562222), .lit (.int .u32 2024104815), .lit (.int .u32 2227730452), .lit (.int .u32 2361852424), .lit (.int .u32 2428436474), .lit (.int .u32 2756734187), .lit (.int .u32 3204031479), .lit (.int .u32 3329325298)]

/-- 'pharoslaw15.TxCodes': WHATEVER THE INPUT: true; the input reads as it did. -/
def txCodesSpec : ChangeSpec := { name := "txCodes", fn := fun _ => fun
  | [d1, d2] => { results := [.lit (.bool true)], args := [d1, d2] }
  | _ => none }
def txCodesRow : OpenClaim := { program := "ytddjkiejekfekaadoor", sum := "9508994369dc059c85e1de85ba44e528ea11e9e73a5fa9aad04bda06e8da7046", func := "pharos/pharoslaw15.TxCodes", spec := "txCodes", named := ["pharos/sha.constants"], apart := false, laid := [("pharos/sha.constants", laid_pharos_sha_constants)] }
def TxCodesSaid : Prop := txCodesRow.holds Tryd.pinned (OpenSpec.ofChange txCodesSpec)

/-- ITS FALSE NEIGHBOUR: 'it returns false'. Refute it at one input. -/
def txCodesWrong : ChangeSpec := { name := "txCodes", fn := fun _ => fun
  | [d1, d2] => { results := [.lit (.bool false)], args := [d1, d2] }
  | _ => none }
def TxCodesWrongFalsely : Prop := txCodesRow.holds Tryd.pinned (OpenSpec.ofChange txCodesWrong)

/-- 'pharoslaw15.TxLists': WHATEVER THE INPUT: true; the input reads as it did. -/
def txListsSpec : ChangeSpec := { name := "txLists", fn := fun _ => fun
  | [d1, d2] => { results := [.lit (.bool true)], args := [d1, d2] }
  | _ => none }
def txListsRow : OpenClaim := { program := "ytddjkiejekfekaadoor", sum := "9508994369dc059c85e1de85ba44e528ea11e9e73a5fa9aad04bda06e8da7046", func := "pharos/pharoslaw15.TxLists", spec := "txLists", unfollowed := true, recurses := true, named := ["pharos/sha.constants"], apart := false, laid := [("pharos/sha.constants", laid_pharos_sha_constants)] }
def TxListsSaid : Prop := txListsRow.holds Tryd.pinned (OpenSpec.ofChange txListsSpec)

/-- ITS FALSE NEIGHBOUR: 'it returns false'. Refute it at one input. -/
def txListsWrong : ChangeSpec := { name := "txLists", fn := fun _ => fun
  | [d1, d2] => { results := [.lit (.bool false)], args := [d1, d2] }
  | _ => none }
def TxListsWrongFalsely : Prop := txListsRow.holds Tryd.pinned (OpenSpec.ofChange txListsWrong)

/-- 'pharoslaw15.TxBack': WHATEVER THE INPUT: true; the input reads as it did. -/
def txBackSpec : ChangeSpec := { name := "txBack", fn := fun _ => fun
  | [d1, d2] => { results := [.lit (.bool true)], args := [d1, d2] }
  | _ => none }
def txBackRow : OpenClaim := { program := "ytddjkiejekfekaadoor", sum := "9508994369dc059c85e1de85ba44e528ea11e9e73a5fa9aad04bda06e8da7046", func := "pharos/pharoslaw15.TxBack", spec := "txBack", named := ["pharos/sha.constants"], apart := false, laid := [("pharos/sha.constants", laid_pharos_sha_constants)] }
def TxBackSaid : Prop := txBackRow.holds Tryd.pinned (OpenSpec.ofChange txBackSpec)

/-- ITS FALSE NEIGHBOUR: 'it returns false'. Refute it at one input. -/
def txBackWrong : ChangeSpec := { name := "txBack", fn := fun _ => fun
  | [d1, d2] => { results := [.lit (.bool false)], args := [d1, d2] }
  | _ => none }
def TxBackWrongFalsely : Prop := txBackRow.holds Tryd.pinned (OpenSpec.ofChange txBackWrong)

/-- 'pharoslaw15.TxAll': WHATEVER THE INPUT: true; the input reads as it did. -/
def txAllSpec : ChangeSpec := { name := "txAll", fn := fun _ => fun
  | [d1, d2] => { results := [.lit (.bool true)], args := [d1, d2] }
  | _ => none }
def txAllRow : OpenClaim := { program := "ytddjkiejekfekaadoor", sum := "9508994369dc059c85e1de85ba44e528ea11e9e73a5fa9aad04bda06e8da7046", func := "pharos/pharoslaw15.TxAll", spec := "txAll", unfollowed := true, recurses := true, named := ["pharos/sha.constants"], apart := false, laid := [("pharos/sha.constants", laid_pharos_sha_constants)] }
def TxAllSaid : Prop := txAllRow.holds Tryd.pinned (OpenSpec.ofChange txAllSpec)

/-- ITS FALSE NEIGHBOUR: 'it returns false'. Refute it at one input. -/
def txAllWrong : ChangeSpec := { name := "txAll", fn := fun _ => fun
  | [d1, d2] => { results := [.lit (.bool false)], args := [d1, d2] }
  | _ => none }
def TxAllWrongFalsely : Prop := txAllRow.holds Tryd.pinned (OpenSpec.ofChange txAllWrong)

/-- 'pharoslaw15.TxOne': WHATEVER THE INPUT: true; the input reads as it did. -/
def txOneSpec : ChangeSpec := { name := "txOne", fn := fun _ => fun
  | [d1, d2] => { results := [.lit (.bool true)], args := [d1, d2] }
  | _ => none }
def txOneRow : OpenClaim := { program := "ytddjkiejekfekaadoor", sum := "9508994369dc059c85e1de85ba44e528ea11e9e73a5fa9aad04bda06e8da7046", func := "pharos/pharoslaw15.TxOne", spec := "txOne", named := ["pharos/sha.constants"], apart := false, laid := [("pharos/sha.constants", laid_pharos_sha_constants)] }
def TxOneSaid : Prop := txOneRow.holds Tryd.pinned (OpenSpec.ofChange txOneSpec)

/-- ITS FALSE NEIGHBOUR: 'it returns false'. Refute it at one input. -/
def txOneWrong : ChangeSpec := { name := "txOne", fn := fun _ => fun
  | [d1, d2] => { results := [.lit (.bool false)], args := [d1, d2] }
  | _ => none }
def TxOneWrongFalsely : Prop := txOneRow.holds Tryd.pinned (OpenSpec.ofChange txOneWrong)

/- THE SECOND FORM. 'bulk': how many values and letters a reading holds, each counted each time it is reached (what is shared counts as often as it is met; a slice's spare places count too). A statement '..UptoSaid' is the law's where the arguments, and the package variables that the reading takes, are together of bulk at most 1048576: NARROWER than '..Said'. Prove '..Said' where nothing that the law and all that it calls make is longer than what came in: it says more and counts as full. Else prove '..UptoSaid'. A law counts once. -/
mutual
def uptoBulk {H : Type} : DataW H → Nat
  | .lit (.string bytes) => bytes.length + 1
  | .lit _ => 1
  | .nil => 1
  | .ptr d => uptoBulk d + 1
  | .slice elems spare => uptoBulkAll elems + uptoBulkAll spare + 1
  | .agg parts => uptoBulkAll parts + 1
  | .iface _ d => uptoBulk d + 1
  | .map entries => uptoBulkEntries entries + 1
  | .held _ => 1
def uptoBulkAll {H : Type} : List (DataW H) → Nat
  | [] => 0
  | d :: r => uptoBulk d + uptoBulkAll r
def uptoBulkEntries {H : Type} : List (Lit × DataW H) → Nat
  | [] => 0
  | x :: r => uptoBulkEntry x + uptoBulkEntries r
def uptoBulkEntry {H : Type} : Lit × DataW H → Nat
  | (.string bytes, d) => bytes.length + uptoBulk d + 1
  | (_, d) => uptoBulk d + 1
 end
def uptoSmall : (H : Type) → List (DataW H) → Bool := fun _ ds => decide (uptoBulkAll ds ≤ 1048576)
def OpenSpec.upto (s : _root_.Go.ChangeSpec) : _root_.Go.OpenSpec := { _root_.Go.OpenSpec.ofChange s with cond := some uptoSmall }

/-- 'pharoslaw15.TxCodes', WHERE WHAT IT READS IS OF BULK AT MOST 1048576: true; the input reads as it did. -/
def txCodesUptoRow : OpenClaim := { program := "ytddjkiejekfekaadoor", sum := "9508994369dc059c85e1de85ba44e528ea11e9e73a5fa9aad04bda06e8da7046", func := "pharos/pharoslaw15.TxCodes", spec := "txCodes", named := ["pharos/sha.constants"], apart := false, laid := [("pharos/sha.constants", laid_pharos_sha_constants)], narrowed := true }
def TxCodesUptoSaid : Prop := txCodesUptoRow.holds Tryd.pinned (OpenSpec.upto txCodesSpec)

/-- 'pharoslaw15.TxLists', WHERE WHAT IT READS IS OF BULK AT MOST 1048576: true; the input reads as it did. -/
def txListsUptoRow : OpenClaim := { program := "ytddjkiejekfekaadoor", sum := "9508994369dc059c85e1de85ba44e528ea11e9e73a5fa9aad04bda06e8da7046", func := "pharos/pharoslaw15.TxLists", spec := "txLists", unfollowed := true, recurses := true, named := ["pharos/sha.constants"], apart := false, laid := [("pharos/sha.constants", laid_pharos_sha_constants)], narrowed := true }
def TxListsUptoSaid : Prop := txListsUptoRow.holds Tryd.pinned (OpenSpec.upto txListsSpec)

/-- 'pharoslaw15.TxBack', WHERE WHAT IT READS IS OF BULK AT MOST 1048576: true; the input reads as it did. -/
def txBackUptoRow : OpenClaim := { program := "ytddjkiejekfekaadoor", sum := "9508994369dc059c85e1de85ba44e528ea11e9e73a5fa9aad04bda06e8da7046", func := "pharos/pharoslaw15.TxBack", spec := "txBack", named := ["pharos/sha.constants"], apart := false, laid := [("pharos/sha.constants", laid_pharos_sha_constants)], narrowed := true }
def TxBackUptoSaid : Prop := txBackUptoRow.holds Tryd.pinned (OpenSpec.upto txBackSpec)

/-- 'pharoslaw15.TxAll', WHERE WHAT IT READS IS OF BULK AT MOST 1048576: true; the input reads as it did. -/
def txAllUptoRow : OpenClaim := { program := "ytddjkiejekfekaadoor", sum := "9508994369dc059c85e1de85ba44e528ea11e9e73a5fa9aad04bda06e8da7046", func := "pharos/pharoslaw15.TxAll", spec := "txAll", unfollowed := true, recurses := true, named := ["pharos/sha.constants"], apart := false, laid := [("pharos/sha.constants", laid_pharos_sha_constants)], narrowed := true }
def TxAllUptoSaid : Prop := txAllUptoRow.holds Tryd.pinned (OpenSpec.upto txAllSpec)

/-- 'pharoslaw15.TxOne', WHERE WHAT IT READS IS OF BULK AT MOST 1048576: true; the input reads as it did. -/
def txOneUptoRow : OpenClaim := { program := "ytddjkiejekfekaadoor", sum := "9508994369dc059c85e1de85ba44e528ea11e9e73a5fa9aad04bda06e8da7046", func := "pharos/pharoslaw15.TxOne", spec := "txOne", named := ["pharos/sha.constants"], apart := false, laid := [("pharos/sha.constants", laid_pharos_sha_constants)], narrowed := true }
def TxOneUptoSaid : Prop := txOneUptoRow.holds Tryd.pinned (OpenSpec.upto txOneSpec)

end Rows
end Go.Proofs.YtddjkiejekfekaaDoor
