/-
  What the reference's EntryError answers, whatever the entry: the number of its error; over whatever world; nothing old is turned.
-/
import Derived.Test.YtgdhfipbbijngaaGreatDoorTErrD
import Derived.Test.YtgdhfipbbijngaaGreatDoorTErrE
import Derived.Test.YtgdhfipbbijngaaGreatDoorTErrF
namespace Go.Proofs.YtgdhfipbbijngaaGreatDoor
open Go.RowKit Go.Lib Go.Sort

/-- EntryError. -/
theorem terr_any (e : En) (w : World) (hz : SzE e) :
    Calls Tryz.prog 10 #[agE e] w fun r w' => r = .returned (.int .i64 (entErr e)) ∧ Below w.heap.size w w' := by
  rcases kind_cases e.1 with h | h | h | h | h | h | h
  · exact terr_goods e w hz h
  · exact terr_lot e w hz h
  · exact terr_to e w hz h
  · exact terr_from e w hz h
  · exact terr_move e w hz h
  · exact terr_hold e w hz h
  · exact terr_other e w h
end Go.Proofs.YtgdhfipbbijngaaGreatDoor
