/-
  DERIVED. GIVEN WITH THE SEED: THE CARDS: each row of YtppodkkefegbkaaGreatDoorRows.lean that lists a variable, with what it lists TIED to the program's text (the seventh form; the later family's looks); each row that meets fmt, with fmt's text TOLD by the authors' own Lean function (tested against real Go, not proved from fmt's source: count such statements apart). THE CARD IS WHAT COUNTS. Prove the row's statement (the work); the ties are given (YtppodkkefegbkaaGreatDoorTie.lean); close each card by the builder's one call (the guide's Derived/Test/ToyasCard.lean, 'card_holds'). Laid BY PROGRAM, IN A SANDBOX (cutbox-door.mjs). By AI agents, Wed Nov 11 2026. No macro, syntax, notation, axiom, sorry.
-/
import Derived.Test.YtppodkkefegbkaaGreatDoorRows
import GoSem.ClaimSeven
namespace Go.Proofs.YtppodkkefegbkaaGreatDoor
namespace Rows

/-- THE TIED CARD OF 'tithebarnlaw2.CountTwice'. -/
def countTwiceCard : Claim7 := { stood := { row := countTwiceRow, standIns := [], harness := (true, "bd101c5d066aa3896d21ad24c5ba5b19a0d9657338c92e214bbe6fd4279828a7"), looks := true }, kinds := [], alts := [], laidByText := true, laidKinds := [.handle, .sentinel, .sentinel, .sentinel, .sentinel, .sentinel, .sentinel, .sentinel, .sentinel, .sentinel, .sentinel, .sentinel, .sentinel], laidTests := true, laidLooks := .later }
def CountTwiceCardSaid : Prop := Claim7.holds Tryz.pinned (.plain (OpenSpec.ofChange countTwiceSpec)) countTwiceCard

/-- THE TIED CARD OF 'tithebarnlaw2.CountDiffs'. -/
def countDiffsCard : Claim7 := { stood := { row := countDiffsRow, standIns := [], harness := (true, "bd101c5d066aa3896d21ad24c5ba5b19a0d9657338c92e214bbe6fd4279828a7"), looks := true }, kinds := [], alts := [], laidByText := true, laidKinds := [.handle, .sentinel, .sentinel, .sentinel, .sentinel, .sentinel, .sentinel, .sentinel, .sentinel, .sentinel, .sentinel, .sentinel, .sentinel], laidTests := true, laidLooks := .later }
def CountDiffsCardSaid : Prop := Claim7.holds Tryz.pinned (.plain (OpenSpec.ofChange countDiffsSpec)) countDiffsCard

/-- THE TIED CARD OF 'tithebarnlaw2.CountClasses'. -/
def countClassesCard : Claim7 := { stood := { row := countClassesRow, standIns := [], harness := (true, "bd101c5d066aa3896d21ad24c5ba5b19a0d9657338c92e214bbe6fd4279828a7"), looks := true }, kinds := [], alts := [], laidByText := true, laidKinds := [.handle, .sentinel, .sentinel, .sentinel, .sentinel, .sentinel, .sentinel, .sentinel, .sentinel, .sentinel, .sentinel, .sentinel, .sentinel], laidTests := true, laidLooks := .later }
def CountClassesCardSaid : Prop := Claim7.holds Tryz.pinned (.plain (OpenSpec.ofChange countClassesSpec)) countClassesCard

/-- THE SECOND FORM's CARD OF 'tithebarnlaw2.CountTwice'. -/
def countTwiceUptoCard : Claim7 := { stood := { row := countTwiceUptoRow, standIns := [], harness := (true, "bd101c5d066aa3896d21ad24c5ba5b19a0d9657338c92e214bbe6fd4279828a7"), looks := true }, kinds := [], alts := [], laidByText := true, laidKinds := [.handle, .sentinel, .sentinel, .sentinel, .sentinel, .sentinel, .sentinel, .sentinel, .sentinel, .sentinel, .sentinel, .sentinel, .sentinel], laidTests := true, laidLooks := .later }
def CountTwiceUptoCardSaid : Prop := Claim7.holds Tryz.pinned (.plain (OpenSpec.upto countTwiceSpec)) countTwiceUptoCard

/-- THE SECOND FORM's CARD OF 'tithebarnlaw2.CountDiffs'. -/
def countDiffsUptoCard : Claim7 := { stood := { row := countDiffsUptoRow, standIns := [], harness := (true, "bd101c5d066aa3896d21ad24c5ba5b19a0d9657338c92e214bbe6fd4279828a7"), looks := true }, kinds := [], alts := [], laidByText := true, laidKinds := [.handle, .sentinel, .sentinel, .sentinel, .sentinel, .sentinel, .sentinel, .sentinel, .sentinel, .sentinel, .sentinel, .sentinel, .sentinel], laidTests := true, laidLooks := .later }
def CountDiffsUptoCardSaid : Prop := Claim7.holds Tryz.pinned (.plain (OpenSpec.upto countDiffsSpec)) countDiffsUptoCard

/-- THE SECOND FORM's CARD OF 'tithebarnlaw2.CountClasses'. -/
def countClassesUptoCard : Claim7 := { stood := { row := countClassesUptoRow, standIns := [], harness := (true, "bd101c5d066aa3896d21ad24c5ba5b19a0d9657338c92e214bbe6fd4279828a7"), looks := true }, kinds := [], alts := [], laidByText := true, laidKinds := [.handle, .sentinel, .sentinel, .sentinel, .sentinel, .sentinel, .sentinel, .sentinel, .sentinel, .sentinel, .sentinel, .sentinel, .sentinel], laidTests := true, laidLooks := .later }
def CountClassesUptoCardSaid : Prop := Claim7.holds Tryz.pinned (.plain (OpenSpec.upto countClassesSpec)) countClassesUptoCard
end Rows
end Go.Proofs.YtppodkkefegbkaaGreatDoor
