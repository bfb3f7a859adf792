/-
  DERIVED. GIVEN WITH THE SEED: THE CARDS: each row of YtpigcjbjjnaogaaDoorRows.lean that lists a variable, with what it lists TIED to the program's text (the seventh form; the later family's looks); each row that meets fmt, with fmt's text TOLD by the authors' own Lean function (tested against real Go, not proved from fmt's source: count such statements apart). THE CARD IS WHAT COUNTS. Prove the row's statement (the work); the ties are given (YtpigcjbjjnaogaaDoorTie.lean); close each card by the builder's one call (the guide's Derived/Test/ToyasCard.lean, 'card_holds'). Laid BY PROGRAM, IN A SANDBOX (cutbox-door.mjs). By AI agents, Wed Nov 11 2026. No macro, syntax, notation, axiom, sorry.
-/
import Derived.Test.YtpigcjbjjnaogaaDoorRows
import GoSem.ClaimSeven
namespace Go.Proofs.YtpigcjbjjnaogaaDoor
namespace Rows

/-- THE TIED CARD OF 'tithebarnlaw1.Names'. -/
def namesCard : Claim7 := { stood := { row := namesRow, standIns := [], harness := (true, "e247783c8f48b2c75be16026af12f6c10a5dd0ec5eaabbfee7f789ceccc3a00f"), looks := true }, kinds := [], alts := [], laidByText := true, laidKinds := [.handle, .sentinel, .sentinel, .sentinel, .sentinel, .sentinel, .sentinel, .sentinel, .sentinel, .sentinel, .sentinel, .sentinel, .sentinel], laidTests := true, laidLooks := .later }
def NamesCardSaid : Prop := Claim7.holds Tryd.pinned (.plain (OpenSpec.ofChange namesSpec)) namesCard

/-- THE TIED CARD OF 'tithebarnlaw1.GoodsTell'. -/
def goodsTellCard : Claim7 := { stood := { row := goodsTellRow, standIns := [], harness := (true, "e247783c8f48b2c75be16026af12f6c10a5dd0ec5eaabbfee7f789ceccc3a00f"), looks := true }, kinds := [], alts := [], laidByText := true, laidKinds := [.data, .data, .data, .handle, .sentinel, .sentinel, .sentinel, .sentinel, .sentinel, .sentinel, .sentinel, .sentinel, .sentinel, .sentinel, .sentinel, .sentinel], laidTests := true, laidLooks := .later }
def GoodsTellCardSaid : Prop := Claim7.holds Tryd.pinned (.plain (OpenSpec.ofChange goodsTellSpec)) goodsTellCard

/-- THE TIED CARD OF 'tithebarnlaw1.GoodsBack'. -/
def goodsBackCard : Claim7 := { stood := { row := goodsBackRow, standIns := [], harness := (true, "e247783c8f48b2c75be16026af12f6c10a5dd0ec5eaabbfee7f789ceccc3a00f"), looks := true }, kinds := [], alts := [], laidByText := true, laidKinds := [.data, .data, .data, .sentinel, .sentinel], laidTests := true, laidLooks := .later }
def GoodsBackCardSaid : Prop := Claim7.holds Tryd.pinned (.plain (OpenSpec.ofChange goodsBackSpec)) goodsBackCard

/-- THE TIED CARD OF 'tithebarnlaw1.PlaceTells'. -/
def placeTellsCard : Claim7 := { stood := { row := placeTellsRow, standIns := [], harness := (true, "e247783c8f48b2c75be16026af12f6c10a5dd0ec5eaabbfee7f789ceccc3a00f"), looks := true }, kinds := [], alts := [], laidByText := true, laidKinds := [.data, .data, .data, .handle, .sentinel, .sentinel, .sentinel, .sentinel, .sentinel, .sentinel, .sentinel, .sentinel, .sentinel, .sentinel, .sentinel, .sentinel], laidTests := true, laidLooks := .later }
def PlaceTellsCardSaid : Prop := Claim7.holds Tryd.pinned (.plain (OpenSpec.ofChange placeTellsSpec)) placeTellsCard

/-- THE TIED CARD OF 'tithebarnlaw1.PlaceWay'. -/
def placeWayCard : Claim7 := { stood := { row := placeWayRow, standIns := [], harness := (true, "e247783c8f48b2c75be16026af12f6c10a5dd0ec5eaabbfee7f789ceccc3a00f"), looks := true }, kinds := [], alts := [], laidByText := true, laidKinds := [.data, .data, .data, .sentinel, .sentinel], laidTests := true, laidLooks := .later }
def PlaceWayCardSaid : Prop := Claim7.holds Tryd.pinned (.plain (OpenSpec.ofChange placeWaySpec)) placeWayCard

/-- THE TIED CARD OF 'tithebarnlaw1.PlaceWalks'. -/
def placeWalksCard : Claim7 := { stood := { row := placeWalksRow, standIns := [], harness := (true, "e247783c8f48b2c75be16026af12f6c10a5dd0ec5eaabbfee7f789ceccc3a00f"), looks := true }, kinds := [], alts := [], laidByText := true, laidKinds := [.data, .data, .data, .sentinel, .sentinel], laidTests := true, laidLooks := .later }
def PlaceWalksCardSaid : Prop := Claim7.holds Tryd.pinned (.plain (OpenSpec.ofChange placeWalksSpec)) placeWalksCard

/-- THE SECOND FORM's CARD OF 'tithebarnlaw1.Names'. -/
def namesUptoCard : Claim7 := { stood := { row := namesUptoRow, standIns := [], harness := (true, "e247783c8f48b2c75be16026af12f6c10a5dd0ec5eaabbfee7f789ceccc3a00f"), looks := true }, kinds := [], alts := [], laidByText := true, laidKinds := [.handle, .sentinel, .sentinel, .sentinel, .sentinel, .sentinel, .sentinel, .sentinel, .sentinel, .sentinel, .sentinel, .sentinel, .sentinel], laidTests := true, laidLooks := .later }
def NamesUptoCardSaid : Prop := Claim7.holds Tryd.pinned (.plain (OpenSpec.upto namesSpec)) namesUptoCard

/-- THE SECOND FORM's CARD OF 'tithebarnlaw1.GoodsTell'. -/
def goodsTellUptoCard : Claim7 := { stood := { row := goodsTellUptoRow, standIns := [], harness := (true, "e247783c8f48b2c75be16026af12f6c10a5dd0ec5eaabbfee7f789ceccc3a00f"), looks := true }, kinds := [], alts := [], laidByText := true, laidKinds := [.data, .data, .data, .handle, .sentinel, .sentinel, .sentinel, .sentinel, .sentinel, .sentinel, .sentinel, .sentinel, .sentinel, .sentinel, .sentinel, .sentinel], laidTests := true, laidLooks := .later }
def GoodsTellUptoCardSaid : Prop := Claim7.holds Tryd.pinned (.plain (OpenSpec.upto goodsTellSpec)) goodsTellUptoCard

/-- THE SECOND FORM's CARD OF 'tithebarnlaw1.GoodsBack'. -/
def goodsBackUptoCard : Claim7 := { stood := { row := goodsBackUptoRow, standIns := [], harness := (true, "e247783c8f48b2c75be16026af12f6c10a5dd0ec5eaabbfee7f789ceccc3a00f"), looks := true }, kinds := [], alts := [], laidByText := true, laidKinds := [.data, .data, .data, .sentinel, .sentinel], laidTests := true, laidLooks := .later }
def GoodsBackUptoCardSaid : Prop := Claim7.holds Tryd.pinned (.plain (OpenSpec.upto goodsBackSpec)) goodsBackUptoCard

/-- THE SECOND FORM's CARD OF 'tithebarnlaw1.PlaceTells'. -/
def placeTellsUptoCard : Claim7 := { stood := { row := placeTellsUptoRow, standIns := [], harness := (true, "e247783c8f48b2c75be16026af12f6c10a5dd0ec5eaabbfee7f789ceccc3a00f"), looks := true }, kinds := [], alts := [], laidByText := true, laidKinds := [.data, .data, .data, .handle, .sentinel, .sentinel, .sentinel, .sentinel, .sentinel, .sentinel, .sentinel, .sentinel, .sentinel, .sentinel, .sentinel, .sentinel], laidTests := true, laidLooks := .later }
def PlaceTellsUptoCardSaid : Prop := Claim7.holds Tryd.pinned (.plain (OpenSpec.upto placeTellsSpec)) placeTellsUptoCard

/-- THE SECOND FORM's CARD OF 'tithebarnlaw1.PlaceWay'. -/
def placeWayUptoCard : Claim7 := { stood := { row := placeWayUptoRow, standIns := [], harness := (true, "e247783c8f48b2c75be16026af12f6c10a5dd0ec5eaabbfee7f789ceccc3a00f"), looks := true }, kinds := [], alts := [], laidByText := true, laidKinds := [.data, .data, .data, .sentinel, .sentinel], laidTests := true, laidLooks := .later }
def PlaceWayUptoCardSaid : Prop := Claim7.holds Tryd.pinned (.plain (OpenSpec.upto placeWaySpec)) placeWayUptoCard

/-- THE SECOND FORM's CARD OF 'tithebarnlaw1.PlaceWalks'. -/
def placeWalksUptoCard : Claim7 := { stood := { row := placeWalksUptoRow, standIns := [], harness := (true, "e247783c8f48b2c75be16026af12f6c10a5dd0ec5eaabbfee7f789ceccc3a00f"), looks := true }, kinds := [], alts := [], laidByText := true, laidKinds := [.data, .data, .data, .sentinel, .sentinel], laidTests := true, laidLooks := .later }
def PlaceWalksUptoCardSaid : Prop := Claim7.holds Tryd.pinned (.plain (OpenSpec.upto placeWalksSpec)) placeWalksUptoCard
end Rows
end Go.Proofs.YtpigcjbjjnaogaaDoor
