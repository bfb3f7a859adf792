/-
  DERIVED. GIVEN WITH THE SEED: THE CARDS: each row of YtiegilnjfadhiabDoorRows.lean that lists a variable, with what it lists TIED to the program's text (the seventh form; the later family's looks); each row that meets fmt, with fmt's text TOLD by the authors' own Lean function (tested against real Go, not proved from fmt's source: count such statements apart). THE CARD IS WHAT COUNTS. Prove the row's statement (the work); the ties are given (YtiegilnjfadhiabDoorTie.lean); close each card by the builder's one call (the guide's Derived/Test/ToyasCard.lean, 'card_holds'). Laid BY PROGRAM, IN A SANDBOX (cutbox-door.mjs). By AI agents, Wed Nov 11 2026. No macro, syntax, notation, axiom, sorry.
-/
import Derived.Test.YtiegilnjfadhiabDoorRows
import GoSem.ClaimSeven
namespace Go.Proofs.YtiegilnjfadhiabDoor
namespace Rows

/-- THE TIED CARD OF 'tithebarnlaw1.LotTells'. -/
def lotTellsCard : Claim7 := { stood := { row := lotTellsRow, standIns := [], harness := (true, "9ee8acbc5bef997e247081ddd95fdacb8d478c4091fc4da024a26bfeb7134f54"), looks := true }, kinds := [], alts := [], laidByText := true, laidKinds := [.data, .data, .data, .data, .handle, .sentinel, .sentinel, .sentinel, .sentinel, .sentinel, .sentinel, .sentinel, .sentinel, .sentinel, .sentinel, .sentinel, .sentinel, .pinned], laidTests := true, laidLooks := .later }
def LotTellsCardSaid : Prop := Claim7.holds Tryd.pinned (.plain (OpenSpec.ofChange lotTellsSpec)) lotTellsCard

/-- THE TIED CARD OF 'tithebarnlaw1.LotSorts'. -/
def lotSortsCard : Claim7 := { stood := { row := lotSortsRow, standIns := [], harness := (true, "9ee8acbc5bef997e247081ddd95fdacb8d478c4091fc4da024a26bfeb7134f54"), looks := true }, kinds := [], alts := [], laidByText := true, laidKinds := [.data, .data, .data, .sentinel, .sentinel], laidTests := true, laidLooks := .later }
def LotSortsCardSaid : Prop := Claim7.holds Tryd.pinned (.plain (OpenSpec.ofChange lotSortsSpec)) lotSortsCard

/-- THE TIED CARD OF 'tithebarnlaw1.StockMoves'. -/
def stockMovesCard : Claim7 := { stood := { row := stockMovesRow, standIns := [], harness := (true, "9ee8acbc5bef997e247081ddd95fdacb8d478c4091fc4da024a26bfeb7134f54"), looks := true }, kinds := [], alts := [], laidByText := true, laidKinds := [.data, .data, .data, .data, .sentinel, .sentinel, .sentinel, .sentinel, .sentinel, .sentinel, .sentinel, .pinned], laidTests := true, laidLooks := .later }
def StockMovesCardSaid : Prop := Claim7.holds Tryd.pinned (.plain (OpenSpec.ofChange stockMovesSpec)) stockMovesCard

/-- THE SECOND FORM's CARD OF 'tithebarnlaw1.LotTells'. -/
def lotTellsUptoCard : Claim7 := { stood := { row := lotTellsUptoRow, standIns := [], harness := (true, "9ee8acbc5bef997e247081ddd95fdacb8d478c4091fc4da024a26bfeb7134f54"), looks := true }, kinds := [], alts := [], laidByText := true, laidKinds := [.data, .data, .data, .data, .handle, .sentinel, .sentinel, .sentinel, .sentinel, .sentinel, .sentinel, .sentinel, .sentinel, .sentinel, .sentinel, .sentinel, .sentinel, .pinned], laidTests := true, laidLooks := .later }
def LotTellsUptoCardSaid : Prop := Claim7.holds Tryd.pinned (.plain (OpenSpec.upto lotTellsSpec)) lotTellsUptoCard

/-- THE SECOND FORM's CARD OF 'tithebarnlaw1.LotSorts'. -/
def lotSortsUptoCard : Claim7 := { stood := { row := lotSortsUptoRow, standIns := [], harness := (true, "9ee8acbc5bef997e247081ddd95fdacb8d478c4091fc4da024a26bfeb7134f54"), looks := true }, kinds := [], alts := [], laidByText := true, laidKinds := [.data, .data, .data, .sentinel, .sentinel], laidTests := true, laidLooks := .later }
def LotSortsUptoCardSaid : Prop := Claim7.holds Tryd.pinned (.plain (OpenSpec.upto lotSortsSpec)) lotSortsUptoCard

/-- THE SECOND FORM's CARD OF 'tithebarnlaw1.StockMoves'. -/
def stockMovesUptoCard : Claim7 := { stood := { row := stockMovesUptoRow, standIns := [], harness := (true, "9ee8acbc5bef997e247081ddd95fdacb8d478c4091fc4da024a26bfeb7134f54"), looks := true }, kinds := [], alts := [], laidByText := true, laidKinds := [.data, .data, .data, .data, .sentinel, .sentinel, .sentinel, .sentinel, .sentinel, .sentinel, .sentinel, .pinned], laidTests := true, laidLooks := .later }
def StockMovesUptoCardSaid : Prop := Claim7.holds Tryd.pinned (.plain (OpenSpec.upto stockMovesSpec)) stockMovesUptoCard
end Rows
end Go.Proofs.YtiegilnjfadhiabDoor
