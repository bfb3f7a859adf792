/-
  The sentinels of a stock and of its text.
-/
import Derived.Test.YtiegilnjfadhiabGreatDoorKTake
namespace Go.Proofs.YtiegilnjfadhiabGreatDoor
open Go.RowKit Go.Lib Go.Sort

/-- The sentinels of stock.Read. -/
structure Six (w : World) (s : Nat → Addr) : Prop where
  five : Five w s
  text : w.cell? ⟨4, 0, none⟩ = some (err (s 0))
  order : w.cell? ⟨5, 0, none⟩ = some (err (s 9))
theorem Six.below {w w' : World} {s : Nat → Addr} (h : Six w s) (hb : Below w.heap.size w w') : Six w' s where
  five := h.five.below hb
  text := by rw [hb.cell (p := ⟨4, 0, none⟩) (cell_lt h.text)]; exact h.text
  order := by rw [hb.cell (p := ⟨5, 0, none⟩) (cell_lt h.order)]; exact h.order
theorem Six.three {w : World} {s : Nat → Addr} (h : Six w s) : Three w s := ⟨h.five.two, h.text⟩
theorem Sent.six {w : World} {s : Nat → Addr} (h : Sent w s) : Six w s := ⟨h.five, h.cell 0 (by decide), h.cell 9 (by decide)⟩
end Go.Proofs.YtiegilnjfadhiabGreatDoor
