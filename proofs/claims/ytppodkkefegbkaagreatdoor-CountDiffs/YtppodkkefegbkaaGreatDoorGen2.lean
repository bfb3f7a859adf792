/-
 Nothing of this kind stands in this program.
-/
import Derived.Test.YtppodkkefegbkaaGreatDoorProg

