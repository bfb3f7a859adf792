/-
  A lot in memory: a block of its own.
-/
import Derived.Test.YtcipbkaopnaiiacDoorLMath
import Derived.Test.YtcipbkaopnaiiacDoorBzA
namespace Go.Proofs.YtcipbkaopnaiiacDoor
open Go.RowKit Go.Lib Go.Sort

/-- A lot's cells, a lot as a value. -/
def encL (x : Lo) : List Value := [.string x.1, .string x.2.1, .int .i64 x.2.2.1, .int .i64 x.2.2.2]
abbrev agL (x : Lo) : Value := .agg #[.string x.1, .string x.2.1, .int .i64 x.2.2.1, .int .i64 x.2.2.2]
/-- A lot lies in a block of its own. -/
structure BoxL (n : Nat) (x : Lo) (W : World) : Prop where
  c0 : W.cell? ⟨n, 0, none⟩ = some (.string x.1)
  c1 : W.cell? ⟨n, 1, none⟩ = some (.string x.2.1)
  c2 : W.cell? ⟨n, 2, none⟩ = some (.int .i64 x.2.2.1)
  c3 : W.cell? ⟨n, 3, none⟩ = some (.int .i64 x.2.2.2)
theorem BoxL.below {n : Nat} {x : Lo} {W W' : World} (h : BoxL n x W) (hb : Below W.heap.size W W') : BoxL n x W' where
  c0 := by rw [hb.cell (p := ⟨n, 0, none⟩) (cell_lt h.c0)]; exact h.c0
  c1 := by rw [hb.cell (p := ⟨n, 1, none⟩) (cell_lt h.c1)]; exact h.c1
  c2 := by rw [hb.cell (p := ⟨n, 2, none⟩) (cell_lt h.c2)]; exact h.c2
  c3 := by rw [hb.cell (p := ⟨n, 3, none⟩) (cell_lt h.c3)]; exact h.c3
abbrev boxL (w : World) (x : Lo) : World := w.alloc (.cells #[.string x.1, .string x.2.1, .int .i64 x.2.2.1, .int .i64 x.2.2.2] 25)
theorem BoxL.new (w : World) (x : Lo) (n : Nat) (hn : n = w.heap.size) : BoxL n x (boxL w x) where
  c0 := by rw [World.cell?_alloc_at _ _ _ _ hn]; rfl
  c1 := by rw [World.cell?_alloc_at _ _ _ _ hn]; rfl
  c2 := by rw [World.cell?_alloc_at _ _ _ _ hn]; rfl
  c3 := by rw [World.cell?_alloc_at _ _ _ _ hn]; rfl
theorem boxL_below (w : World) (x : Lo) : Below w.heap.size w (boxL w x) := (Below.refl _ w).alloc (Nat.le_refl _) _
/-- The world of two boxed parameters. -/
abbrev boxL2 (w : World) (x y : Lo) : World := boxL (boxL w x) y
theorem boxL2_below (w : World) (x y : Lo) : Below w.heap.size w (boxL2 w x y) := ((Below.refl _ w).alloc (Nat.le_refl _) _).alloc (by simp) _
theorem boxL2_first (w : World) (x y : Lo) : BoxL w.heap.size x (boxL2 w x y) := (BoxL.new w x _ rfl).below ((Below.refl _ _).alloc (Nat.le_refl _) _)
theorem boxL2_second (w : World) (x y : Lo) : BoxL (w.heap.size + 1) y (boxL2 w x y) := BoxL.new _ y _ (by simp)

end Go.Proofs.YtcipbkaopnaiiacDoor
