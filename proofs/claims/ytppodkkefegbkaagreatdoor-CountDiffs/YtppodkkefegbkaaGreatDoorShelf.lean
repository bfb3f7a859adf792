/-
 The library's contracts at this program: each proved once over any program, laid here at this one's numbers; no condition but those that each theorem states.
-/
import Derived.Shelf.Strconv.Itoa3
import Derived.Shelf.Strings.Builder1
import Derived.Shelf.Small.Bits
import Derived.Shelf.Strconv.Itoa0
import Derived.Test.YtppodkkefegbkaaGreatDoorProg
namespace Go.Proofs
open Go.Shelf
end Go.Proofs
