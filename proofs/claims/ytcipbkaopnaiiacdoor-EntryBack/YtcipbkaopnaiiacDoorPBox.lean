/-
  A place that lies in a block of its own.
-/
import Derived.Test.YtcipbkaopnaiiacDoorPCheckA
namespace Go.Proofs.YtcipbkaopnaiiacDoor
open Go.RowKit Go.Lib Go.Sort

/-- A place lies in a block of its own. -/
structure BoxAt (n : Nat) (x : Pl) (W : World) : Prop where
  c0 : W.cell? ⟨n, 0, none⟩ = some (.string x.1)
  c1 : W.cell? ⟨n, 1, none⟩ = some (.int .i64 x.2.1)
  c2 : W.cell? ⟨n, 2, none⟩ = some (.int .i64 x.2.2)
theorem BoxAt.below {n : Nat} {x : Pl} {W W' : World} (h : BoxAt n x W) (hb : Below W.heap.size W W') : BoxAt n x W' where
  c0 := by rw [hb.cell (p := ⟨n, 0, none⟩) (cell_lt h.c0)]; exact h.c0
  c1 := by rw [hb.cell (p := ⟨n, 1, none⟩) (cell_lt h.c1)]; exact h.c1
  c2 := by rw [hb.cell (p := ⟨n, 2, none⟩) (cell_lt h.c2)]; exact h.c2
theorem BoxAt.new (w : World) (x : Pl) (t n : Nat) (hn : n = w.heap.size) : BoxAt n x (w.alloc (.cells #[.string x.1, .int .i64 x.2.1, .int .i64 x.2.2] t)) where
  c0 := by rw [World.cell?_alloc_at _ _ _ _ hn]; rfl
  c1 := by rw [World.cell?_alloc_at _ _ _ _ hn]; rfl
  c2 := by rw [World.cell?_alloc_at _ _ _ _ hn]; rfl
/-- The world of two boxed parameters. -/
abbrev boxTwo (w : World) (x y : Pl) : World := (w.alloc (.cells #[.string x.1, .int .i64 x.2.1, .int .i64 x.2.2] 27)).alloc (.cells #[.string y.1, .int .i64 y.2.1, .int .i64 y.2.2] 27)
theorem boxTwo_below (w : World) (x y : Pl) : Below w.heap.size w (boxTwo w x y) := ((Below.refl _ w).alloc (Nat.le_refl _) _).alloc (by simp) _
theorem boxTwo_first (w : World) (x y : Pl) : BoxAt w.heap.size x (boxTwo w x y) := (BoxAt.new w x _ _ rfl).below ((Below.refl _ _).alloc (Nat.le_refl _) _)
theorem boxTwo_second (w : World) (x y : Pl) : BoxAt (w.heap.size + 1) y (boxTwo w x y) := BoxAt.new _ y _ _ (by simp)

end Go.Proofs.YtcipbkaopnaiiacDoor
