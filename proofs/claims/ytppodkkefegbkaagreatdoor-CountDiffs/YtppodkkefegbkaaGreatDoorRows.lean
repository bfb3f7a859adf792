/-
  NARROWER THAN 'FOR EVERY INPUT', by the rows' own cells (each row's printed sentence says how): CountTwice: laid · CountDiffs: laid · CountClasses: laid.
  DERIVED. THE GIVEN ROWS OF THIS SEAT. 3 by the template 'for every input the law returns true; each argument reads behind the call as it read before'; 0 by the template 'total and deterministic' (their statements: YtppodkkefegbkaaGreatDoorTotals.lean).
  GIVEN WITH THE SEED: the statements are not yours to turn. If you find one false, say at which input.
  Laid BY PROGRAM, IN A SANDBOX (cutbox-rows.mjs): the forced cells as the released guide's own fill.sh prints them over the translation aec19e6709064774… (all of the seat's roots in one cut). By AI agents, Wed Nov 11 2026. No macro, syntax, notation, axiom, sorry.
-/
import Derived.Test.YtppodkkefegbkaaGreatDoorChecked
import GoSem.Claim
import GoSem.ClaimJoined
import GoSem.ClaimMapViews
import Derived.JoinedTies
import Derived.KernelRfl
namespace Go.Proofs.YtppodkkefegbkaaGreatDoor
/- THE CELL 'sum', in the pinned program and in every row, IS THE sha256 OF THE DUMP (.gsa) THAT YtppodkkefegbkaaGreatDoorProg.lean LOADS. Nothing in Lean hashes anything: it is a label: what it is worth is what the hold of that sum in a sandbox is worth. -/
noncomputable def Tryz.pinned : Pinned := { name := "ytppodkkefegbkaagreatdoor", sum := "aec19e67090647743f67050908f4b61ed475ed95fe332fcb11d163146e4b6af5", checked := Tryz.checked }
namespace Rows
def none {H : Type} : Left H := { results := [], args := [] }

/- WHAT THE LISTED PACKAGE-LEVEL VARIABLES READ AS WHEN THE CALL BEGINS. Each datum BY PROGRAM (the guide's laid-datum.mjs) off the statement by which the dump's own 'gosem.cut.vars' lays the variable. In a bare row this is a premise. The card (YtppodkkefegbkaaGreatDoorCards.lean) ties it to the program's text. -/
def laid_errors_errorType {H : Type} : DataW H := .iface "internal/reflectlite.rtype" (.agg [.ptr (.lit (.string [101, 114, 114, 111, 114]))])
def laid_tithebarn_api_ErrText {H : Type} : DataW H := .iface "*errors.errorString" (.ptr (.agg [.lit (.string [116, 105, 116, 104, 101, 98, 97, 114, 110, 58, 32, 116, 101, 120, 116])]))
def laid_tithebarn_api_ErrBound {H : Type} : DataW H := .iface "*errors.errorString" (.ptr (.agg [.lit (.string [116, 105, 116, 104, 101, 98, 97, 114, 110, 58, 32, 98, 111, 117, 110, 100])]))
def laid_tithebarn_api_ErrShape {H : Type} : DataW H := .iface "*errors.errorString" (.ptr (.agg [.lit (.string [116, 105, 116, 104, 101, 98, 97, 114, 110, 58, 32, 115, 104, 97, 112, 101])]))
def laid_tithebarn_api_ErrKind {H : Type} : DataW H := .iface "*errors.errorString" (.ptr (.agg [.lit (.string [116, 105, 116, 104, 101, 98, 97, 114, 110, 58, 32, 107, 105, 110, 100])]))
def laid_tithebarn_api_ErrName {H : Type} : DataW H := .iface "*errors.errorString" (.ptr (.agg [.lit (.string [116, 105, 116, 104, 101, 98, 97, 114, 110, 58, 32, 110, 97, 109, 101])]))
def laid_tithebarn_api_ErrNone {H : Type} : DataW H := .iface "*errors.errorString" (.ptr (.agg [.lit (.string [116, 105, 116, 104, 101, 98, 97, 114, 110, 58, 32, 110, 111, 110, 101])]))
def laid_tithebarn_api_ErrExist {H : Type} : DataW H := .iface "*errors.errorString" (.ptr (.agg [.lit (.string [116, 105, 116, 104, 101, 98, 97, 114, 110, 58, 32, 101, 120, 105, 115, 116])]))
def laid_tithebarn_api_ErrFull {H : Type} : DataW H := .iface "*errors.errorString" (.ptr (.agg [.lit (.string [116, 105, 116, 104, 101, 98, 97, 114, 110, 58, 32, 102, 117, 108, 108])]))
def laid_tithebarn_api_ErrShort {H : Type} : DataW H := .iface "*errors.errorString" (.ptr (.agg [.lit (.string [116, 105, 116, 104, 101, 98, 97, 114, 110, 58, 32, 115, 104, 111, 114, 116])]))
def laid_tithebarn_api_ErrOrder {H : Type} : DataW H := .iface "*errors.errorString" (.ptr (.agg [.lit (.string [116, 105, 116, 104, 101, 98, 97, 114, 110, 58, 32, 111, 114, 100, 101, 114])]))
def laid_tithebarn_api_ErrState {H : Type} : DataW H := .iface "*errors.errorString" (.ptr (.agg [.lit (.string [116, 105, 116, 104, 101, 98, 97, 114, 110, 58, 32, 115, 116, 97, 116, 101])]))
def laid_tithebarn_api_ErrOff {H : Type} : DataW H := .iface "*errors.errorString" (.ptr (.agg [.lit (.string [116, 105, 116, 104, 101, 98, 97, 114, 110, 58, 32, 111, 102, 102])]))

/-- 'tithebarnlaw2.CountTwice': WHATEVER THE INPUT: true; the input reads as it did. -/
def countTwiceSpec : ChangeSpec := { name := "countTwice", fn := fun _ => fun
  | [d1, d2] => { results := [.lit (.bool true)], args := [d1, d2] }
  | _ => none }
def countTwiceRow : OpenClaim := { program := "ytppodkkefegbkaagreatdoor", sum := "aec19e67090647743f67050908f4b61ed475ed95fe332fcb11d163146e4b6af5", func := "tithebarn/tithebarnlaw2.CountTwice", spec := "countTwice", inPlace := ["maps.clone", "internal/reflectlite.ValueOf", "(internal/reflectlite.Value).Type", "(internal/reflectlite.Value).IsNil", "internal/reflectlite.TypeOf", "(internal/reflectlite.Value).Elem", "(internal/reflectlite.Value).Set"], unfollowed := true, recurses := true, named := ["tithebarn/api.ErrName", "tithebarn/api.ErrBound", "tithebarn/api.ErrExist", "tithebarn/api.ErrShape", "tithebarn/api.ErrKind", "tithebarn/api.ErrFull", "tithebarn/api.ErrNone", "tithebarn/api.ErrShort", "tithebarn/api.ErrText", "tithebarn/api.ErrOrder", "tithebarn/api.ErrState", "tithebarn/api.ErrOff", "errors.errorType"], plainKeys := false, apart := false, laid := [("errors.errorType", laid_errors_errorType), ("tithebarn/api.ErrText", laid_tithebarn_api_ErrText), ("tithebarn/api.ErrBound", laid_tithebarn_api_ErrBound), ("tithebarn/api.ErrShape", laid_tithebarn_api_ErrShape), ("tithebarn/api.ErrKind", laid_tithebarn_api_ErrKind), ("tithebarn/api.ErrName", laid_tithebarn_api_ErrName), ("tithebarn/api.ErrNone", laid_tithebarn_api_ErrNone), ("tithebarn/api.ErrExist", laid_tithebarn_api_ErrExist), ("tithebarn/api.ErrFull", laid_tithebarn_api_ErrFull), ("tithebarn/api.ErrShort", laid_tithebarn_api_ErrShort), ("tithebarn/api.ErrOrder", laid_tithebarn_api_ErrOrder), ("tithebarn/api.ErrState", laid_tithebarn_api_ErrState), ("tithebarn/api.ErrOff", laid_tithebarn_api_ErrOff)] }
def CountTwiceSaid : Prop := countTwiceRow.holds Tryz.pinned (OpenSpec.ofChange countTwiceSpec)

/-- ITS FALSE NEIGHBOUR: 'it returns false'. Refute it at one input. -/
def countTwiceWrong : ChangeSpec := { name := "countTwice", fn := fun _ => fun
  | [d1, d2] => { results := [.lit (.bool false)], args := [d1, d2] }
  | _ => none }
def CountTwiceWrongFalsely : Prop := countTwiceRow.holds Tryz.pinned (OpenSpec.ofChange countTwiceWrong)

/-- 'tithebarnlaw2.CountDiffs': WHATEVER THE INPUT: true; the input reads as it did. -/
def countDiffsSpec : ChangeSpec := { name := "countDiffs", fn := fun _ => fun
  | [d1, d2, d3, d4, d5, d6] => { results := [.lit (.bool true)], args := [d1, d2, d3, d4, d5, d6] }
  | _ => none }
def countDiffsRow : OpenClaim := { program := "ytppodkkefegbkaagreatdoor", sum := "aec19e67090647743f67050908f4b61ed475ed95fe332fcb11d163146e4b6af5", func := "tithebarn/tithebarnlaw2.CountDiffs", spec := "countDiffs", inPlace := ["maps.clone", "internal/reflectlite.ValueOf", "(internal/reflectlite.Value).Type", "(internal/reflectlite.Value).IsNil", "internal/reflectlite.TypeOf", "(internal/reflectlite.Value).Elem", "(internal/reflectlite.Value).Set"], unfollowed := true, recurses := true, named := ["tithebarn/api.ErrName", "tithebarn/api.ErrBound", "tithebarn/api.ErrExist", "tithebarn/api.ErrShape", "tithebarn/api.ErrKind", "tithebarn/api.ErrFull", "tithebarn/api.ErrNone", "tithebarn/api.ErrShort", "tithebarn/api.ErrText", "tithebarn/api.ErrOrder", "tithebarn/api.ErrState", "tithebarn/api.ErrOff", "errors.errorType"], plainKeys := false, apart := false, laid := [("errors.errorType", laid_errors_errorType), ("tithebarn/api.ErrText", laid_tithebarn_api_ErrText), ("tithebarn/api.ErrBound", laid_tithebarn_api_ErrBound), ("tithebarn/api.ErrShape", laid_tithebarn_api_ErrShape), ("tithebarn/api.ErrKind", laid_tithebarn_api_ErrKind), ("tithebarn/api.ErrName", laid_tithebarn_api_ErrName), ("tithebarn/api.ErrNone", laid_tithebarn_api_ErrNone), ("tithebarn/api.ErrExist", laid_tithebarn_api_ErrExist), ("tithebarn/api.ErrFull", laid_tithebarn_api_ErrFull), ("tithebarn/api.ErrShort", laid_tithebarn_api_ErrShort), ("tithebarn/api.ErrOrder", laid_tithebarn_api_ErrOrder), ("tithebarn/api.ErrState", laid_tithebarn_api_ErrState), ("tithebarn/api.ErrOff", laid_tithebarn_api_ErrOff)] }
def CountDiffsSaid : Prop := countDiffsRow.holds Tryz.pinned (OpenSpec.ofChange countDiffsSpec)

/-- ITS FALSE NEIGHBOUR: 'it returns false'. Refute it at one input. -/
def countDiffsWrong : ChangeSpec := { name := "countDiffs", fn := fun _ => fun
  | [d1, d2, d3, d4, d5, d6] => { results := [.lit (.bool false)], args := [d1, d2, d3, d4, d5, d6] }
  | _ => none }
def CountDiffsWrongFalsely : Prop := countDiffsRow.holds Tryz.pinned (OpenSpec.ofChange countDiffsWrong)

/-- 'tithebarnlaw2.CountClasses': WHATEVER THE INPUT: true; the input reads as it did. -/
def countClassesSpec : ChangeSpec := { name := "countClasses", fn := fun _ => fun
  | [d] => { results := [.lit (.bool true)], args := [d] }
  | _ => none }
def countClassesRow : OpenClaim := { program := "ytppodkkefegbkaagreatdoor", sum := "aec19e67090647743f67050908f4b61ed475ed95fe332fcb11d163146e4b6af5", func := "tithebarn/tithebarnlaw2.CountClasses", spec := "countClasses", inPlace := ["maps.clone", "internal/reflectlite.ValueOf", "(internal/reflectlite.Value).Type", "(internal/reflectlite.Value).IsNil", "internal/reflectlite.TypeOf", "(internal/reflectlite.Value).Elem", "(internal/reflectlite.Value).Set"], unfollowed := true, recurses := true, named := ["tithebarn/api.ErrName", "tithebarn/api.ErrBound", "tithebarn/api.ErrExist", "tithebarn/api.ErrShape", "tithebarn/api.ErrKind", "tithebarn/api.ErrFull", "tithebarn/api.ErrNone", "tithebarn/api.ErrShort", "tithebarn/api.ErrText", "tithebarn/api.ErrOrder", "tithebarn/api.ErrState", "tithebarn/api.ErrOff", "errors.errorType"], plainKeys := false, apart := false, laid := [("errors.errorType", laid_errors_errorType), ("tithebarn/api.ErrText", laid_tithebarn_api_ErrText), ("tithebarn/api.ErrBound", laid_tithebarn_api_ErrBound), ("tithebarn/api.ErrShape", laid_tithebarn_api_ErrShape), ("tithebarn/api.ErrKind", laid_tithebarn_api_ErrKind), ("tithebarn/api.ErrName", laid_tithebarn_api_ErrName), ("tithebarn/api.ErrNone", laid_tithebarn_api_ErrNone), ("tithebarn/api.ErrExist", laid_tithebarn_api_ErrExist), ("tithebarn/api.ErrFull", laid_tithebarn_api_ErrFull), ("tithebarn/api.ErrShort", laid_tithebarn_api_ErrShort), ("tithebarn/api.ErrOrder", laid_tithebarn_api_ErrOrder), ("tithebarn/api.ErrState", laid_tithebarn_api_ErrState), ("tithebarn/api.ErrOff", laid_tithebarn_api_ErrOff)] }
def CountClassesSaid : Prop := countClassesRow.holds Tryz.pinned (OpenSpec.ofChange countClassesSpec)

/-- ITS FALSE NEIGHBOUR: 'it returns false'. Refute it at one input. -/
def countClassesWrong : ChangeSpec := { name := "countClasses", fn := fun _ => fun
  | [d] => { results := [.lit (.bool false)], args := [d] }
  | _ => none }
def CountClassesWrongFalsely : Prop := countClassesRow.holds Tryz.pinned (OpenSpec.ofChange countClassesWrong)

/- THE SECOND FORM. 'bulk': how many values and letters a reading holds, each counted each time it is reached (what is shared counts as often as it is met; a slice's spare places count too). A statement '..UptoSaid' is the law's where the arguments, and the package variables that the reading takes, are together of bulk at most 1048576: NARROWER than '..Said'. Prove '..Said' where nothing that the law and all that it calls make is longer than what came in: it says more and counts as full. Else prove '..UptoSaid'. A law counts once. -/
mutual
def uptoBulk {H : Type} : DataW H → Nat
  | .lit (.string bytes) => bytes.length + 1
  | .lit _ => 1
  | .nil => 1
  | .ptr d => uptoBulk d + 1
  | .slice elems spare => uptoBulkAll elems + uptoBulkAll spare + 1
  | .agg parts => uptoBulkAll parts + 1
  | .iface _ d => uptoBulk d + 1
  | .map entries => uptoBulkEntries entries + 1
  | .held _ => 1
def uptoBulkAll {H : Type} : List (DataW H) → Nat
  | [] => 0
  | d :: r => uptoBulk d + uptoBulkAll r
def uptoBulkEntries {H : Type} : List (Lit × DataW H) → Nat
  | [] => 0
  | x :: r => uptoBulkEntry x + uptoBulkEntries r
def uptoBulkEntry {H : Type} : Lit × DataW H → Nat
  | (.string bytes, d) => bytes.length + uptoBulk d + 1
  | (_, d) => uptoBulk d + 1
 end
def uptoSmall : (H : Type) → List (DataW H) → Bool := fun _ ds => decide (uptoBulkAll ds ≤ 1048576)
def OpenSpec.upto (s : _root_.Go.ChangeSpec) : _root_.Go.OpenSpec := { _root_.Go.OpenSpec.ofChange s with cond := some uptoSmall }

/-- 'tithebarnlaw2.CountTwice', WHERE WHAT IT READS IS OF BULK AT MOST 1048576: true; the input reads as it did. -/
def countTwiceUptoRow : OpenClaim := { program := "ytppodkkefegbkaagreatdoor", sum := "aec19e67090647743f67050908f4b61ed475ed95fe332fcb11d163146e4b6af5", func := "tithebarn/tithebarnlaw2.CountTwice", spec := "countTwice", inPlace := ["maps.clone", "internal/reflectlite.ValueOf", "(internal/reflectlite.Value).Type", "(internal/reflectlite.Value).IsNil", "internal/reflectlite.TypeOf", "(internal/reflectlite.Value).Elem", "(internal/reflectlite.Value).Set"], unfollowed := true, recurses := true, named := ["tithebarn/api.ErrName", "tithebarn/api.ErrBound", "tithebarn/api.ErrExist", "tithebarn/api.ErrShape", "tithebarn/api.ErrKind", "tithebarn/api.ErrFull", "tithebarn/api.ErrNone", "tithebarn/api.ErrShort", "tithebarn/api.ErrText", "tithebarn/api.ErrOrder", "tithebarn/api.ErrState", "tithebarn/api.ErrOff", "errors.errorType"], plainKeys := false, apart := false, laid := [("errors.errorType", laid_errors_errorType), ("tithebarn/api.ErrText", laid_tithebarn_api_ErrText), ("tithebarn/api.ErrBound", laid_tithebarn_api_ErrBound), ("tithebarn/api.ErrShape", laid_tithebarn_api_ErrShape), ("tithebarn/api.ErrKind", laid_tithebarn_api_ErrKind), ("tithebarn/api.ErrName", laid_tithebarn_api_ErrName), ("tithebarn/api.ErrNone", laid_tithebarn_api_ErrNone), ("tithebarn/api.ErrExist", laid_tithebarn_api_ErrExist), ("tithebarn/api.ErrFull", laid_tithebarn_api_ErrFull), ("tithebarn/api.ErrShort", laid_tithebarn_api_ErrShort), ("tithebarn/api.ErrOrder", laid_tithebarn_api_ErrOrder), ("tithebarn/api.ErrState", laid_tithebarn_api_ErrState), ("tithebarn/api.ErrOff", laid_tithebarn_api_ErrOff)], narrowed := true }
def CountTwiceUptoSaid : Prop := countTwiceUptoRow.holds Tryz.pinned (OpenSpec.upto countTwiceSpec)

/-- 'tithebarnlaw2.CountDiffs', WHERE WHAT IT READS IS OF BULK AT MOST 1048576: true; the input reads as it did. -/
def countDiffsUptoRow : OpenClaim := { program := "ytppodkkefegbkaagreatdoor", sum := "aec19e67090647743f67050908f4b61ed475ed95fe332fcb11d163146e4b6af5", func := "tithebarn/tithebarnlaw2.CountDiffs", spec := "countDiffs", inPlace := ["maps.clone", "internal/reflectlite.ValueOf", "(internal/reflectlite.Value).Type", "(internal/reflectlite.Value).IsNil", "internal/reflectlite.TypeOf", "(internal/reflectlite.Value).Elem", "(internal/reflectlite.Value).Set"], unfollowed := true, recurses := true, named := ["tithebarn/api.ErrName", "tithebarn/api.ErrBound", "tithebarn/api.ErrExist", "tithebarn/api.ErrShape", "tithebarn/api.ErrKind", "tithebarn/api.ErrFull", "tithebarn/api.ErrNone", "tithebarn/api.ErrShort", "tithebarn/api.ErrText", "tithebarn/api.ErrOrder", "tithebarn/api.ErrState", "tithebarn/api.ErrOff", "errors.errorType"], plainKeys := false, apart := false, laid := [("errors.errorType", laid_errors_errorType), ("tithebarn/api.ErrText", laid_tithebarn_api_ErrText), ("tithebarn/api.ErrBound", laid_tithebarn_api_ErrBound), ("tithebarn/api.ErrShape", laid_tithebarn_api_ErrShape), ("tithebarn/api.ErrKind", laid_tithebarn_api_ErrKind), ("tithebarn/api.ErrName", laid_tithebarn_api_ErrName), ("tithebarn/api.ErrNone", laid_tithebarn_api_ErrNone), ("tithebarn/api.ErrExist", laid_tithebarn_api_ErrExist), ("tithebarn/api.ErrFull", laid_tithebarn_api_ErrFull), ("tithebarn/api.ErrShort", laid_tithebarn_api_ErrShort), ("tithebarn/api.ErrOrder", laid_tithebarn_api_ErrOrder), ("tithebarn/api.ErrState", laid_tithebarn_api_ErrState), ("tithebarn/api.ErrOff", laid_tithebarn_api_ErrOff)], narrowed := true }
def CountDiffsUptoSaid : Prop := countDiffsUptoRow.holds Tryz.pinned (OpenSpec.upto countDiffsSpec)

/-- 'tithebarnlaw2.CountClasses', WHERE WHAT IT READS IS OF BULK AT MOST 1048576: true; the input reads as it did. -/
def countClassesUptoRow : OpenClaim := { program := "ytppodkkefegbkaagreatdoor", sum := "aec19e67090647743f67050908f4b61ed475ed95fe332fcb11d163146e4b6af5", func := "tithebarn/tithebarnlaw2.CountClasses", spec := "countClasses", inPlace := ["maps.clone", "internal/reflectlite.ValueOf", "(internal/reflectlite.Value).Type", "(internal/reflectlite.Value).IsNil", "internal/reflectlite.TypeOf", "(internal/reflectlite.Value).Elem", "(internal/reflectlite.Value).Set"], unfollowed := true, recurses := true, named := ["tithebarn/api.ErrName", "tithebarn/api.ErrBound", "tithebarn/api.ErrExist", "tithebarn/api.ErrShape", "tithebarn/api.ErrKind", "tithebarn/api.ErrFull", "tithebarn/api.ErrNone", "tithebarn/api.ErrShort", "tithebarn/api.ErrText", "tithebarn/api.ErrOrder", "tithebarn/api.ErrState", "tithebarn/api.ErrOff", "errors.errorType"], plainKeys := false, apart := false, laid := [("errors.errorType", laid_errors_errorType), ("tithebarn/api.ErrText", laid_tithebarn_api_ErrText), ("tithebarn/api.ErrBound", laid_tithebarn_api_ErrBound), ("tithebarn/api.ErrShape", laid_tithebarn_api_ErrShape), ("tithebarn/api.ErrKind", laid_tithebarn_api_ErrKind), ("tithebarn/api.ErrName", laid_tithebarn_api_ErrName), ("tithebarn/api.ErrNone", laid_tithebarn_api_ErrNone), ("tithebarn/api.ErrExist", laid_tithebarn_api_ErrExist), ("tithebarn/api.ErrFull", laid_tithebarn_api_ErrFull), ("tithebarn/api.ErrShort", laid_tithebarn_api_ErrShort), ("tithebarn/api.ErrOrder", laid_tithebarn_api_ErrOrder), ("tithebarn/api.ErrState", laid_tithebarn_api_ErrState), ("tithebarn/api.ErrOff", laid_tithebarn_api_ErrOff)], narrowed := true }
def CountClassesUptoSaid : Prop := countClassesUptoRow.holds Tryz.pinned (OpenSpec.upto countClassesSpec)

end Rows
end Go.Proofs.YtppodkkefegbkaaGreatDoor
