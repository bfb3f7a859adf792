/-
 What the library's generic contracts ask of this program, laid at its numbers: facts of the program alone.
-/
import Derived.Shelf.SlSortCmp.WholeK
import Derived.Test.YtppodkkefegbkaaGreatDoorProg
namespace Go.Proofs
open Go.Shelf
end Go.Proofs
