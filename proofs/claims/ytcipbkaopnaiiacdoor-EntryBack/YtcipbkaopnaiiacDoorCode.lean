/-
  What plain.Code tells of nil, of a sentinel of package api, of another error of errors.New, of an api.Fault; conditions: the sentinels' variables and errors.errorType as the program lays them.
-/
import Derived.Test.YtcipbkaopnaiiacDoorErrs
import Derived.Test.YtcipbkaopnaiiacDoorErrsIs
namespace Go.Proofs.YtcipbkaopnaiiacDoor
open Go.RowKit Go.Extern.Stop Go.Stop Go.Extern

abbrev err (a : Addr) : Value := .iface 102 (.pointer (some a))
theorem block_lt {w : World} {b : Nat} {o : Obj} (h : w.heap[b]? = some o) : b < w.heap.size := by
  rcases Nat.lt_or_ge b w.heap.size with h' | h'
  · exact h'
  · simp [Array.getElem?_eq_none h'] at h
end Go.Proofs.YtcipbkaopnaiiacDoor
