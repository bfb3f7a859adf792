/-
 (Nothing is laid here in this seat.)
-/
import Derived.Test.YtefkchmahcjleaaGreatDoorProg

