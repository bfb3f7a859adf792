/-
  DERIVED. GIVEN WITH THE SEED: THE CARDS: each row of YtefkchmahcjleaaDoorRows.lean that lists a variable, with what it lists TIED to the program's text (the seventh form; the later family's looks); each row that meets fmt, with fmt's text TOLD by the authors' own Lean function (tested against real Go, not proved from fmt's source: count such statements apart). THE CARD IS WHAT COUNTS. Prove the row's statement (the work); the ties are given (YtefkchmahcjleaaDoorTie.lean); close each card by the builder's one call (the guide's Derived/Test/ToyasCard.lean, 'card_holds'). Laid BY PROGRAM, IN A SANDBOX (cutbox-door.mjs). By AI agents, Wed Nov 11 2026. No macro, syntax, notation, axiom, sorry.
-/
import Derived.Test.YtefkchmahcjleaaDoorRows
import GoSem.ClaimSeven
namespace Go.Proofs.YtefkchmahcjleaaDoor
namespace Rows

/-- THE TIED CARD OF 'tithebarnlaw2.CostKeeps'. -/
def costKeepsCard : Claim7 := { stood := { row := costKeepsRow, standIns := [], harness := (true, "21aaf4caa1e066c56d91a4375625bfdc92b7dca28019da77a19571254929300f"), looks := true }, kinds := [], alts := [], laidByText := true, laidKinds := [.data, .data, .data, .sentinel, .sentinel, .sentinel], laidTests := true, laidLooks := .later }
def CostKeepsCardSaid : Prop := Claim7.holds Tryd.pinned (.plain (OpenSpec.ofChange costKeepsSpec)) costKeepsCard

/-- THE TIED CARD OF 'tithebarnlaw2.CostLayers'. -/
def costLayersCard : Claim7 := { stood := { row := costLayersRow, standIns := [], harness := (true, "21aaf4caa1e066c56d91a4375625bfdc92b7dca28019da77a19571254929300f"), looks := true }, kinds := [], alts := [], laidByText := true, laidKinds := [.data, .data, .data, .handle, .sentinel, .sentinel, .sentinel, .sentinel, .sentinel, .sentinel, .sentinel, .sentinel, .sentinel, .sentinel, .sentinel, .sentinel], laidTests := true, laidLooks := .later }
def CostLayersCardSaid : Prop := Claim7.holds Tryd.pinned (.plain (OpenSpec.ofChange costLayersSpec)) costLayersCard

/-- THE SECOND FORM's CARD OF 'tithebarnlaw2.CostKeeps'. -/
def costKeepsUptoCard : Claim7 := { stood := { row := costKeepsUptoRow, standIns := [], harness := (true, "21aaf4caa1e066c56d91a4375625bfdc92b7dca28019da77a19571254929300f"), looks := true }, kinds := [], alts := [], laidByText := true, laidKinds := [.data, .data, .data, .sentinel, .sentinel, .sentinel], laidTests := true, laidLooks := .later }
def CostKeepsUptoCardSaid : Prop := Claim7.holds Tryd.pinned (.plain (OpenSpec.upto costKeepsSpec)) costKeepsUptoCard

/-- THE SECOND FORM's CARD OF 'tithebarnlaw2.CostLayers'. -/
def costLayersUptoCard : Claim7 := { stood := { row := costLayersUptoRow, standIns := [], harness := (true, "21aaf4caa1e066c56d91a4375625bfdc92b7dca28019da77a19571254929300f"), looks := true }, kinds := [], alts := [], laidByText := true, laidKinds := [.data, .data, .data, .handle, .sentinel, .sentinel, .sentinel, .sentinel, .sentinel, .sentinel, .sentinel, .sentinel, .sentinel, .sentinel, .sentinel, .sentinel], laidTests := true, laidLooks := .later }
def CostLayersUptoCardSaid : Prop := Claim7.holds Tryd.pinned (.plain (OpenSpec.upto costLayersSpec)) costLayersUptoCard
end Rows
end Go.Proofs.YtefkchmahcjleaaDoor
