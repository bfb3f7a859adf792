/-
 What errors.Is answers at the sentinels of package api and at an api.Fault that wraps one of them, over whatever world; conditions: the pointers' own cells.
-/
import Derived.Test.YteomomeigbfeoaaGreatDoorErrs
set_option maxRecDepth 100000
set_option maxHeartbeats 16000000
namespace Go.Proofs.YteomomeigbfeoaaGreatDoor
open Go.RowKit Go.Extern.Stop Go.Stop Go.Extern
end Go.Proofs.YteomomeigbfeoaaGreatDoor
