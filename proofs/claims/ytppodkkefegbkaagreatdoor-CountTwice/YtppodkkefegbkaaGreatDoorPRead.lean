/-
 What place.Read answers, over every world that holds the sentinels ErrText, ErrName and ErrBound as the program lays them; condition: the text is no longer than a string may be.
-/
import Derived.Test.YtppodkkefegbkaaGreatDoorJz5
set_option maxRecDepth 100000
set_option maxHeartbeats 16000000
namespace Go.Proofs.YtppodkkefegbkaaGreatDoor
open Go.RowKit Go.Lib Go.Sort
abbrev made (w : World) : World := w.alloc (.cells #[.string ⟨#[]⟩, .int .i64 0, .int .i64 0] 41)
end Go.Proofs.YtppodkkefegbkaaGreatDoor
