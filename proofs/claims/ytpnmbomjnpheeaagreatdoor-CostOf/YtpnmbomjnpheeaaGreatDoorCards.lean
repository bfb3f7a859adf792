/-
  DERIVED. GIVEN WITH THE SEED: THE CARDS: each row of YtpnmbomjnpheeaaGreatDoorRows.lean that lists a variable, with what it lists TIED to the program's text (the seventh form; the later family's looks); each row that meets fmt, with fmt's text TOLD by the authors' own Lean function (tested against real Go, not proved from fmt's source: count such statements apart). THE CARD IS WHAT COUNTS. Prove the row's statement (the work); the ties are given (YtpnmbomjnpheeaaGreatDoorTie.lean); close each card by the builder's one call (the guide's Derived/Test/ToyasCard.lean, 'card_holds'). Laid BY PROGRAM, IN A SANDBOX (cutbox-door.mjs). By AI agents, Wed Nov 11 2026. No macro, syntax, notation, axiom, sorry.
-/
import Derived.Test.YtpnmbomjnpheeaaGreatDoorRows
import GoSem.ClaimSeven
namespace Go.Proofs.YtpnmbomjnpheeaaGreatDoor
namespace Rows

/-- THE TIED CARD OF 'tithebarnlaw2.CostOf'. -/
def costOfCard : Claim7 := { stood := { row := costOfRow, standIns := [], harness := (true, "accf16e49286a463a5081e632ab12227b541422d0aabb212a0585e83b2c3d5f8"), looks := true }, kinds := [], alts := [], laidByText := true, laidKinds := [.data, .data, .data, .handle, .sentinel, .sentinel, .sentinel, .sentinel, .sentinel, .sentinel, .sentinel, .sentinel, .sentinel, .sentinel, .sentinel, .sentinel], laidTests := true, laidLooks := .later }
def CostOfCardSaid : Prop := Claim7.holds Tryz.pinned (.plain (OpenSpec.ofChange costOfSpec)) costOfCard

/-- THE SECOND FORM's CARD OF 'tithebarnlaw2.CostOf'. -/
def costOfUptoCard : Claim7 := { stood := { row := costOfUptoRow, standIns := [], harness := (true, "accf16e49286a463a5081e632ab12227b541422d0aabb212a0585e83b2c3d5f8"), looks := true }, kinds := [], alts := [], laidByText := true, laidKinds := [.data, .data, .data, .handle, .sentinel, .sentinel, .sentinel, .sentinel, .sentinel, .sentinel, .sentinel, .sentinel, .sentinel, .sentinel, .sentinel, .sentinel], laidTests := true, laidLooks := .later }
def CostOfUptoCardSaid : Prop := Claim7.holds Tryz.pinned (.plain (OpenSpec.upto costOfSpec)) costOfUptoCard
end Rows
end Go.Proofs.YtpnmbomjnpheeaaGreatDoor
