/-
 What place.parts answers, over whatever world; condition: the text is no longer than a string may be.
-/
import Derived.Test.YtefkchmahcjleaaGreatDoorJz3
import Derived.Test.YtefkchmahcjleaaGreatDoorJz2
import Derived.BigQuiet
set_option maxRecDepth 100000
set_option maxHeartbeats 16000000
namespace Go.Proofs.YtefkchmahcjleaaGreatDoor
open Go.RowKit Go.Lib Go.Sort
def zeroP : Pl := (⟨#[]⟩, 0, 0)
abbrev made (w : World) : World := w.alloc (.cells #[.string ⟨#[]⟩, .int .i64 0, .int .i64 0] 42)
end Go.Proofs.YtefkchmahcjleaaGreatDoor
