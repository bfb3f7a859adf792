/-
 Plain mathematics of lots: which one is sooner, the number of their error; no program is named here.
-/
import Derived.Test.YtppodkkefegbkaaGreatDoorJz3
set_option maxRecDepth 100000
set_option maxHeartbeats 16000000
namespace Go.Proofs.YtppodkkefegbkaaGreatDoor
open Go.Lib Go.Sort
abbrev Lo := ByteArray × ByteArray × Int × Int
def wellL (u k : Int) : Bool := decide (0 ≤ u) && decide (u ≤ 100000) && (decide (0 ≤ k) && decide (k ≤ 1048576))
def namesL (x : Lo) : Bool := isName x.1.data.toList && isName x.2.1.data.toList
def lotErr (x : Lo) : Nat := if namesL x then (if wellL x.2.2.1 x.2.2.2 then 0 else 2) else 5
end Go.Proofs.YtppodkkefegbkaaGreatDoor
