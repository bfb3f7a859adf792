/-
 What errors.As answers at an api.Fault and at an error of errors.New, over whatever world; conditions: the pointers' own cells, and the variable errors.errorType as the program lays it.
-/
import Derived.Test.YteomomeigbfeoaaGreatDoorProg
import Derived.WalkKit
import Derived.LaidEql
import Derived.Stop.Asserts
import Derived.RowKitTokens
import Derived.Below
import Derived.Handy
set_option maxRecDepth 100000
set_option maxHeartbeats 16000000
namespace Go.Proofs.YteomomeigbfeoaaGreatDoor
open Go.RowKit Go.Extern.Stop Go.Stop Go.Extern
theorem cell_lt {w : World} {t : Addr} {v : Value} (h : w.cell? t = some v) : t.block < w.heap.size := by
 rcases Nat.lt_or_ge t.block w.heap.size with h' | h'
 ·exact h'
 ·simp [World.cell?, Array.getElem?_eq_none h'] at h
/- the model's own entries, as the calls meet them -/
/- the assertions of errors.as and errors.is -/
end Go.Proofs.YteomomeigbfeoaaGreatDoor
