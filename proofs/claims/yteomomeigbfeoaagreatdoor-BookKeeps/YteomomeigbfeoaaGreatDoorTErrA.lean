/-
 What the reference's EntryError answers of an entry of goods, of a lot and of no kind: the number of its error; over whatever world; nothing old is turned.
-/
import Derived.Test.YteomomeigbfeoaaGreatDoorJz12
import Derived.Test.YteomomeigbfeoaaGreatDoorJz10
import Derived.Test.YteomomeigbfeoaaGreatDoorJz8
import Derived.Test.YteomomeigbfeoaaGreatDoorJz4
set_option maxRecDepth 100000
set_option maxHeartbeats 16000000
namespace Go.Proofs.YteomomeigbfeoaaGreatDoor
open Go.RowKit Go.Lib Go.Sort
theorem same_wordR {k z : ByteArray} (h : k = z) : (k.toList == z.data.toList) = true := by
 have := same_eq k z
 rw [decide_eq_true h, Lib.toList_data z] at this
 exact this
end Go.Proofs.YteomomeigbfeoaaGreatDoor
