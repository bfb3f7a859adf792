/-
  DERIVED. GIVEN WITH THE SEED: THE CARDS: each row of YtdlacmfejlmpdabDoorRows.lean that lists a variable, with what it lists TIED to the program's text (the seventh form; the later family's looks); each row that meets fmt, with fmt's text TOLD by the authors' own Lean function (tested against real Go, not proved from fmt's source: count such statements apart). THE CARD IS WHAT COUNTS. Prove the row's statement (the work); the ties are given (YtdlacmfejlmpdabDoorTie.lean); close each card by the builder's one call (the guide's Derived/Test/ToyasCard.lean, 'card_holds'). Laid BY PROGRAM, IN A SANDBOX (cutbox-door.mjs). By AI agents, Wed Nov 11 2026. No macro, syntax, notation, axiom, sorry.
-/
import Derived.Test.YtdlacmfejlmpdabDoorRows
import GoSem.ClaimSeven
namespace Go.Proofs.YtdlacmfejlmpdabDoor
namespace Rows

/-- THE TIED CARD OF 'tithebarnlaw1.LotTells'. -/
def lotTellsCard : Claim7 := { stood := { row := lotTellsRow, standIns := [], harness := (true, "2daa9fe4260bc66ed8b623a859db6ac95da28e585119f11fa42ae56a3c8e4e35"), looks := true }, kinds := [], alts := [], laidByText := true, laidKinds := [.data, .data, .data, .data, .handle, .sentinel, .sentinel, .sentinel, .sentinel, .sentinel, .sentinel, .sentinel, .sentinel, .sentinel, .sentinel, .sentinel, .sentinel, .pinned], laidTests := true, laidLooks := .later }
def LotTellsCardSaid : Prop := Claim7.holds Tryd.pinned (.plain (OpenSpec.ofChange lotTellsSpec)) lotTellsCard

/-- THE TIED CARD OF 'tithebarnlaw1.LotSorts'. -/
def lotSortsCard : Claim7 := { stood := { row := lotSortsRow, standIns := [], harness := (true, "2daa9fe4260bc66ed8b623a859db6ac95da28e585119f11fa42ae56a3c8e4e35"), looks := true }, kinds := [], alts := [], laidByText := true, laidKinds := [.data, .data, .data, .sentinel, .sentinel], laidTests := true, laidLooks := .later }
def LotSortsCardSaid : Prop := Claim7.holds Tryd.pinned (.plain (OpenSpec.ofChange lotSortsSpec)) lotSortsCard

/-- THE SECOND FORM's CARD OF 'tithebarnlaw1.LotTells'. -/
def lotTellsUptoCard : Claim7 := { stood := { row := lotTellsUptoRow, standIns := [], harness := (true, "2daa9fe4260bc66ed8b623a859db6ac95da28e585119f11fa42ae56a3c8e4e35"), looks := true }, kinds := [], alts := [], laidByText := true, laidKinds := [.data, .data, .data, .data, .handle, .sentinel, .sentinel, .sentinel, .sentinel, .sentinel, .sentinel, .sentinel, .sentinel, .sentinel, .sentinel, .sentinel, .sentinel, .pinned], laidTests := true, laidLooks := .later }
def LotTellsUptoCardSaid : Prop := Claim7.holds Tryd.pinned (.plain (OpenSpec.upto lotTellsSpec)) lotTellsUptoCard

/-- THE SECOND FORM's CARD OF 'tithebarnlaw1.LotSorts'. -/
def lotSortsUptoCard : Claim7 := { stood := { row := lotSortsUptoRow, standIns := [], harness := (true, "2daa9fe4260bc66ed8b623a859db6ac95da28e585119f11fa42ae56a3c8e4e35"), looks := true }, kinds := [], alts := [], laidByText := true, laidKinds := [.data, .data, .data, .sentinel, .sentinel], laidTests := true, laidLooks := .later }
def LotSortsUptoCardSaid : Prop := Claim7.holds Tryd.pinned (.plain (OpenSpec.upto lotSortsSpec)) lotSortsUptoCard
end Rows
end Go.Proofs.YtdlacmfejlmpdabDoor
