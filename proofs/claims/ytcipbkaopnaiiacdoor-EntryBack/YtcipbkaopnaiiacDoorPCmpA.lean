/-
  What place.Compare answers, over whatever world: the order of places by the way; nothing old is turned.
-/
import Derived.Test.YtcipbkaopnaiiacDoorCmp
namespace Go.Proofs.YtcipbkaopnaiiacDoor
open Go.RowKit Go.Lib Go.Sort

/-- A place's cells, a place as a value. -/
def encP (x : Pl) : List Value := [.string x.1, .int .i64 x.2.1, .int .i64 x.2.2]
abbrev agP (x : Pl) : Value := .agg #[.string x.1, .int .i64 x.2.1, .int .i64 x.2.2]

end Go.Proofs.YtcipbkaopnaiiacDoor
