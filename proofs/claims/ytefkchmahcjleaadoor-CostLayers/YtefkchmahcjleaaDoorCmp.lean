/-
  What cmp.Compare (of ints, of strings) and cmp.Or (of two, of three) answer, over whatever world; the world is left.
-/
import Derived.Test.YtefkchmahcjleaaDoorPMath
import Derived.Deep.RegionHeld3
import Derived.Sort.Walk0
import Derived.Laws.Cover1
namespace Go.Proofs.YtefkchmahcjleaaDoor
open Go.RowKit Go.Lib Go.Sort

theorem less_eq (x y : ByteArray) : Op.bytesLess x.toList y.toList = zLt x y := by
  rw [bytesLess_eq, Lib.toList_data, Lib.toList_data]; rfl
theorem same_eq (x y : ByteArray) : (x.toList == y.toList) = decide (x = y) := by
  rw [Lib.toList_data, Lib.toList_data, Bool.eq_iff_iff]
  simp only [beq_iff_eq, decide_eq_true_eq]
  constructor
  · intro h; cases x; cases y; simp at h; simp [h]
  · rintro rfl; rfl
/-- cmp.Or of two. -/
def or2 (a b : Int) : Int := if a = 0 then b else a
theorem new_cell {W : World} (c : Array Value) (t n i : Nat) (v : Value) (hn : n = W.heap.size) (h : c[i]? = some v) : (W.alloc (.cells c t)).drew.cell? ⟨n, i, none⟩ = some v := by
  show (W.alloc (.cells c t)).cell? ⟨n, i, none⟩ = some v
  rw [World.cell?_alloc_at c t n i hn]; exact h
theorem grow_three (w : World) (o1 o2 o3 : Obj) : (((w.alloc o1).alloc o2).alloc o3).drew = grow (w.drewN 1) #[o1, o2, o3] := by
  rw [alloc_eq_grow, alloc_eq_grow, alloc_eq_grow, grow_grow, grow_grow]; rfl
end Go.Proofs.YtefkchmahcjleaaDoor
