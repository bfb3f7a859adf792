/-
  An entry in memory: its fourteen cells, a block of its own, what stays of it; the language's comparison of two entries.
-/
import Derived.Test.YtcipbkaopnaiiacDoorEMath
import Derived.Test.YtcipbkaopnaiiacDoorPRead
import Derived.Laws.IdiomRangeMap
import Derived.Lib.Builder
import Derived.Lib.SmallJoins
import Derived.Laws.StructEq
namespace Go.Proofs.YtcipbkaopnaiiacDoor
open Go.RowKit Go.Lib Go.Sort

/-- An entry as a value. -/
abbrev agE (e : En) : Value := .agg #[.string e.1, .string e.2.1.1, .int .i64 e.2.1.2, .string e.2.2.1.1, .string e.2.2.1.2.1, .int .i64 e.2.2.1.2.2.1, .int .i64 e.2.2.1.2.2.2, .string e.2.2.2.1.1, .int .i64 e.2.2.2.1.2.1, .int .i64 e.2.2.2.1.2.2, .string e.2.2.2.2.1.1, .int .i64 e.2.2.2.2.1.2.1, .int .i64 e.2.2.2.2.1.2.2, .int .i64 e.2.2.2.2.2]
/-- An entry's cells. -/
abbrev celE (e : En) : Obj := .cells #[.string e.1, .string e.2.1.1, .int .i64 e.2.1.2, .string e.2.2.1.1, .string e.2.2.1.2.1, .int .i64 e.2.2.1.2.2.1, .int .i64 e.2.2.1.2.2.2, .string e.2.2.2.1.1, .int .i64 e.2.2.2.1.2.1, .int .i64 e.2.2.2.1.2.2, .string e.2.2.2.2.1.1, .int .i64 e.2.2.2.2.1.2.1, .int .i64 e.2.2.2.2.1.2.2, .int .i64 e.2.2.2.2.2] 29
/-- An entry lies in a block. -/
structure EntAt (w : World) (q : Nat) (e : En) : Prop where
  c0 : w.cell? ⟨q, 0, none⟩ = some (.string e.1)
  c1 : w.cell? ⟨q, 1, none⟩ = some (.string e.2.1.1)
  c2 : w.cell? ⟨q, 2, none⟩ = some (.int .i64 e.2.1.2)
  c3 : w.cell? ⟨q, 3, none⟩ = some (.string e.2.2.1.1)
  c4 : w.cell? ⟨q, 4, none⟩ = some (.string e.2.2.1.2.1)
  c5 : w.cell? ⟨q, 5, none⟩ = some (.int .i64 e.2.2.1.2.2.1)
  c6 : w.cell? ⟨q, 6, none⟩ = some (.int .i64 e.2.2.1.2.2.2)
  c7 : w.cell? ⟨q, 7, none⟩ = some (.string e.2.2.2.1.1)
  c8 : w.cell? ⟨q, 8, none⟩ = some (.int .i64 e.2.2.2.1.2.1)
  c9 : w.cell? ⟨q, 9, none⟩ = some (.int .i64 e.2.2.2.1.2.2)
  c10 : w.cell? ⟨q, 10, none⟩ = some (.string e.2.2.2.2.1.1)
  c11 : w.cell? ⟨q, 11, none⟩ = some (.int .i64 e.2.2.2.2.1.2.1)
  c12 : w.cell? ⟨q, 12, none⟩ = some (.int .i64 e.2.2.2.2.1.2.2)
  c13 : w.cell? ⟨q, 13, none⟩ = some (.int .i64 e.2.2.2.2.2)
theorem EntAt.of_block {w w' : World} {q : Nat} {e : En} (h : EntAt w q e) (hb : w'.heap[q]? = w.heap[q]?) : EntAt w' q e where
  c0 := (World.cell?_of_block (a := ⟨q, 0, none⟩) hb).trans h.c0
  c1 := (World.cell?_of_block (a := ⟨q, 1, none⟩) hb).trans h.c1
  c2 := (World.cell?_of_block (a := ⟨q, 2, none⟩) hb).trans h.c2
  c3 := (World.cell?_of_block (a := ⟨q, 3, none⟩) hb).trans h.c3
  c4 := (World.cell?_of_block (a := ⟨q, 4, none⟩) hb).trans h.c4
  c5 := (World.cell?_of_block (a := ⟨q, 5, none⟩) hb).trans h.c5
  c6 := (World.cell?_of_block (a := ⟨q, 6, none⟩) hb).trans h.c6
  c7 := (World.cell?_of_block (a := ⟨q, 7, none⟩) hb).trans h.c7
  c8 := (World.cell?_of_block (a := ⟨q, 8, none⟩) hb).trans h.c8
  c9 := (World.cell?_of_block (a := ⟨q, 9, none⟩) hb).trans h.c9
  c10 := (World.cell?_of_block (a := ⟨q, 10, none⟩) hb).trans h.c10
  c11 := (World.cell?_of_block (a := ⟨q, 11, none⟩) hb).trans h.c11
  c12 := (World.cell?_of_block (a := ⟨q, 12, none⟩) hb).trans h.c12
  c13 := (World.cell?_of_block (a := ⟨q, 13, none⟩) hb).trans h.c13
theorem EntAt.lt {w : World} {q : Nat} {e : En} (h : EntAt w q e) : q < w.heap.size := cell_lt h.c0
theorem EntAt.below {w w' : World} {q : Nat} {e : En} (h : EntAt w q e) (hb : Below w.heap.size w w') : EntAt w' q e := h.of_block (hb.block q h.lt)
/-- An entry is all of a block. -/
def BlkE (w : World) (q : Nat) (e : En) : Prop := w.heap[q]? = some (.cells #[.string e.1, .string e.2.1.1, .int .i64 e.2.1.2, .string e.2.2.1.1, .string e.2.2.1.2.1, .int .i64 e.2.2.1.2.2.1, .int .i64 e.2.2.1.2.2.2, .string e.2.2.2.1.1, .int .i64 e.2.2.2.1.2.1, .int .i64 e.2.2.2.1.2.2, .string e.2.2.2.2.1.1, .int .i64 e.2.2.2.2.1.2.1, .int .i64 e.2.2.2.2.1.2.2, .int .i64 e.2.2.2.2.2] 29 (0, 0))
theorem BlkE.at {w : World} {q : Nat} {e : En} (h : BlkE w q e) : EntAt w q e where
  c0 := by rw [cell_of_heap h]; rfl
  c1 := by rw [cell_of_heap h]; rfl
  c2 := by rw [cell_of_heap h]; rfl
  c3 := by rw [cell_of_heap h]; rfl
  c4 := by rw [cell_of_heap h]; rfl
  c5 := by rw [cell_of_heap h]; rfl
  c6 := by rw [cell_of_heap h]; rfl
  c7 := by rw [cell_of_heap h]; rfl
  c8 := by rw [cell_of_heap h]; rfl
  c9 := by rw [cell_of_heap h]; rfl
  c10 := by rw [cell_of_heap h]; rfl
  c11 := by rw [cell_of_heap h]; rfl
  c12 := by rw [cell_of_heap h]; rfl
  c13 := by rw [cell_of_heap h]; rfl
theorem BlkE.frozen {w : World} {q : Nat} {e : En} (h : BlkE w q e) (o : Nat) : w.frozen? ⟨q, o, none⟩ = false := frozen_of_heap h o
theorem BlkE.lt {w : World} {q : Nat} {e : En} (h : BlkE w q e) : q < w.heap.size := h.at.lt
theorem BlkE.below {w w' : World} {q : Nat} {e : En} (h : BlkE w q e) (hb : Below w.heap.size w w') : BlkE w' q e := (hb.block q h.lt).trans h
theorem BlkE.new (w : World) (e : En) : BlkE (w.alloc (celE e)) w.heap.size e := heap_alloc_new w _
/-- Fourteen cells are stored. -/
abbrev setE (w : World) (q : Nat) (e : En) : World := (((((((((((((w.setCell ⟨q, 0, none⟩ (.string e.1)).setCell ⟨q, 1, none⟩ (.string e.2.1.1)).setCell ⟨q, 2, none⟩ (.int .i64 e.2.1.2)).setCell ⟨q, 3, none⟩ (.string e.2.2.1.1)).setCell ⟨q, 4, none⟩ (.string e.2.2.1.2.1)).setCell ⟨q, 5, none⟩ (.int .i64 e.2.2.1.2.2.1)).setCell ⟨q, 6, none⟩ (.int .i64 e.2.2.1.2.2.2)).setCell ⟨q, 7, none⟩ (.string e.2.2.2.1.1)).setCell ⟨q, 8, none⟩ (.int .i64 e.2.2.2.1.2.1)).setCell ⟨q, 9, none⟩ (.int .i64 e.2.2.2.1.2.2)).setCell ⟨q, 10, none⟩ (.string e.2.2.2.2.1.1)).setCell ⟨q, 11, none⟩ (.int .i64 e.2.2.2.2.1.2.1)).setCell ⟨q, 12, none⟩ (.int .i64 e.2.2.2.2.1.2.2)).setCell ⟨q, 13, none⟩ (.int .i64 e.2.2.2.2.2)
theorem set_cell {w : World} {q : Nat} {cs cs' : Array Value} {T : TypeId} (h : w.heap[q]? = some (.cells cs T (0, 0))) (i : Nat) (v : Value) (e : cs.setIfInBounds i v = cs') : (w.setCell ⟨q, i, none⟩ v).heap[q]? = some (.cells cs' T (0, 0)) := by
  rw [← e]; exact Joins.block_setCell h v
theorem BlkE.setE {w : World} {q : Nat} {a : En} (h : BlkE w q a) (e : En) : BlkE (setE w q e) q e := by
  have h1 := set_cell (cs' := #[.string e.1, .string a.2.1.1, .int .i64 a.2.1.2, .string a.2.2.1.1, .string a.2.2.1.2.1, .int .i64 a.2.2.1.2.2.1, .int .i64 a.2.2.1.2.2.2, .string a.2.2.2.1.1, .int .i64 a.2.2.2.1.2.1, .int .i64 a.2.2.2.1.2.2, .string a.2.2.2.2.1.1, .int .i64 a.2.2.2.2.1.2.1, .int .i64 a.2.2.2.2.1.2.2, .int .i64 a.2.2.2.2.2]) h 0 (.string e.1) rfl
  have h2 := set_cell (cs' := #[.string e.1, .string e.2.1.1, .int .i64 a.2.1.2, .string a.2.2.1.1, .string a.2.2.1.2.1, .int .i64 a.2.2.1.2.2.1, .int .i64 a.2.2.1.2.2.2, .string a.2.2.2.1.1, .int .i64 a.2.2.2.1.2.1, .int .i64 a.2.2.2.1.2.2, .string a.2.2.2.2.1.1, .int .i64 a.2.2.2.2.1.2.1, .int .i64 a.2.2.2.2.1.2.2, .int .i64 a.2.2.2.2.2]) h1 1 (.string e.2.1.1) rfl
  have h3 := set_cell (cs' := #[.string e.1, .string e.2.1.1, .int .i64 e.2.1.2, .string a.2.2.1.1, .string a.2.2.1.2.1, .int .i64 a.2.2.1.2.2.1, .int .i64 a.2.2.1.2.2.2, .string a.2.2.2.1.1, .int .i64 a.2.2.2.1.2.1, .int .i64 a.2.2.2.1.2.2, .string a.2.2.2.2.1.1, .int .i64 a.2.2.2.2.1.2.1, .int .i64 a.2.2.2.2.1.2.2, .int .i64 a.2.2.2.2.2]) h2 2 (.int .i64 e.2.1.2) rfl
  have h4 := set_cell (cs' := #[.string e.1, .string e.2.1.1, .int .i64 e.2.1.2, .string e.2.2.1.1, .string a.2.2.1.2.1, .int .i64 a.2.2.1.2.2.1, .int .i64 a.2.2.1.2.2.2, .string a.2.2.2.1.1, .int .i64 a.2.2.2.1.2.1, .int .i64 a.2.2.2.1.2.2, .string a.2.2.2.2.1.1, .int .i64 a.2.2.2.2.1.2.1, .int .i64 a.2.2.2.2.1.2.2, .int .i64 a.2.2.2.2.2]) h3 3 (.string e.2.2.1.1) rfl
  have h5 := set_cell (cs' := #[.string e.1, .string e.2.1.1, .int .i64 e.2.1.2, .string e.2.2.1.1, .string e.2.2.1.2.1, .int .i64 a.2.2.1.2.2.1, .int .i64 a.2.2.1.2.2.2, .string a.2.2.2.1.1, .int .i64 a.2.2.2.1.2.1, .int .i64 a.2.2.2.1.2.2, .string a.2.2.2.2.1.1, .int .i64 a.2.2.2.2.1.2.1, .int .i64 a.2.2.2.2.1.2.2, .int .i64 a.2.2.2.2.2]) h4 4 (.string e.2.2.1.2.1) rfl
  have h6 := set_cell (cs' := #[.string e.1, .string e.2.1.1, .int .i64 e.2.1.2, .string e.2.2.1.1, .string e.2.2.1.2.1, .int .i64 e.2.2.1.2.2.1, .int .i64 a.2.2.1.2.2.2, .string a.2.2.2.1.1, .int .i64 a.2.2.2.1.2.1, .int .i64 a.2.2.2.1.2.2, .string a.2.2.2.2.1.1, .int .i64 a.2.2.2.2.1.2.1, .int .i64 a.2.2.2.2.1.2.2, .int .i64 a.2.2.2.2.2]) h5 5 (.int .i64 e.2.2.1.2.2.1) rfl
  have h7 := set_cell (cs' := #[.string e.1, .string e.2.1.1, .int .i64 e.2.1.2, .string e.2.2.1.1, .string e.2.2.1.2.1, .int .i64 e.2.2.1.2.2.1, .int .i64 e.2.2.1.2.2.2, .string a.2.2.2.1.1, .int .i64 a.2.2.2.1.2.1, .int .i64 a.2.2.2.1.2.2, .string a.2.2.2.2.1.1, .int .i64 a.2.2.2.2.1.2.1, .int .i64 a.2.2.2.2.1.2.2, .int .i64 a.2.2.2.2.2]) h6 6 (.int .i64 e.2.2.1.2.2.2) rfl
  have h8 := set_cell (cs' := #[.string e.1, .string e.2.1.1, .int .i64 e.2.1.2, .string e.2.2.1.1, .string e.2.2.1.2.1, .int .i64 e.2.2.1.2.2.1, .int .i64 e.2.2.1.2.2.2, .string e.2.2.2.1.1, .int .i64 a.2.2.2.1.2.1, .int .i64 a.2.2.2.1.2.2, .string a.2.2.2.2.1.1, .int .i64 a.2.2.2.2.1.2.1, .int .i64 a.2.2.2.2.1.2.2, .int .i64 a.2.2.2.2.2]) h7 7 (.string e.2.2.2.1.1) rfl
  have h9 := set_cell (cs' := #[.string e.1, .string e.2.1.1, .int .i64 e.2.1.2, .string e.2.2.1.1, .string e.2.2.1.2.1, .int .i64 e.2.2.1.2.2.1, .int .i64 e.2.2.1.2.2.2, .string e.2.2.2.1.1, .int .i64 e.2.2.2.1.2.1, .int .i64 a.2.2.2.1.2.2, .string a.2.2.2.2.1.1, .int .i64 a.2.2.2.2.1.2.1, .int .i64 a.2.2.2.2.1.2.2, .int .i64 a.2.2.2.2.2]) h8 8 (.int .i64 e.2.2.2.1.2.1) rfl
  have h10 := set_cell (cs' := #[.string e.1, .string e.2.1.1, .int .i64 e.2.1.2, .string e.2.2.1.1, .string e.2.2.1.2.1, .int .i64 e.2.2.1.2.2.1, .int .i64 e.2.2.1.2.2.2, .string e.2.2.2.1.1, .int .i64 e.2.2.2.1.2.1, .int .i64 e.2.2.2.1.2.2, .string a.2.2.2.2.1.1, .int .i64 a.2.2.2.2.1.2.1, .int .i64 a.2.2.2.2.1.2.2, .int .i64 a.2.2.2.2.2]) h9 9 (.int .i64 e.2.2.2.1.2.2) rfl
  have h11 := set_cell (cs' := #[.string e.1, .string e.2.1.1, .int .i64 e.2.1.2, .string e.2.2.1.1, .string e.2.2.1.2.1, .int .i64 e.2.2.1.2.2.1, .int .i64 e.2.2.1.2.2.2, .string e.2.2.2.1.1, .int .i64 e.2.2.2.1.2.1, .int .i64 e.2.2.2.1.2.2, .string e.2.2.2.2.1.1, .int .i64 a.2.2.2.2.1.2.1, .int .i64 a.2.2.2.2.1.2.2, .int .i64 a.2.2.2.2.2]) h10 10 (.string e.2.2.2.2.1.1) rfl
  have h12 := set_cell (cs' := #[.string e.1, .string e.2.1.1, .int .i64 e.2.1.2, .string e.2.2.1.1, .string e.2.2.1.2.1, .int .i64 e.2.2.1.2.2.1, .int .i64 e.2.2.1.2.2.2, .string e.2.2.2.1.1, .int .i64 e.2.2.2.1.2.1, .int .i64 e.2.2.2.1.2.2, .string e.2.2.2.2.1.1, .int .i64 e.2.2.2.2.1.2.1, .int .i64 a.2.2.2.2.1.2.2, .int .i64 a.2.2.2.2.2]) h11 11 (.int .i64 e.2.2.2.2.1.2.1) rfl
  have h13 := set_cell (cs' := #[.string e.1, .string e.2.1.1, .int .i64 e.2.1.2, .string e.2.2.1.1, .string e.2.2.1.2.1, .int .i64 e.2.2.1.2.2.1, .int .i64 e.2.2.1.2.2.2, .string e.2.2.2.1.1, .int .i64 e.2.2.2.1.2.1, .int .i64 e.2.2.2.1.2.2, .string e.2.2.2.2.1.1, .int .i64 e.2.2.2.2.1.2.1, .int .i64 e.2.2.2.2.1.2.2, .int .i64 a.2.2.2.2.2]) h12 12 (.int .i64 e.2.2.2.2.1.2.2) rfl
  have h14 := set_cell (cs' := #[.string e.1, .string e.2.1.1, .int .i64 e.2.1.2, .string e.2.2.1.1, .string e.2.2.1.2.1, .int .i64 e.2.2.1.2.2.1, .int .i64 e.2.2.1.2.2.2, .string e.2.2.2.1.1, .int .i64 e.2.2.2.1.2.1, .int .i64 e.2.2.2.1.2.2, .string e.2.2.2.2.1.1, .int .i64 e.2.2.2.2.1.2.1, .int .i64 e.2.2.2.2.1.2.2, .int .i64 e.2.2.2.2.2]) h13 13 (.int .i64 e.2.2.2.2.2) rfl
  exact h14
theorem below_setE {B q : Nat} {w W : World} (hb : Below B w W) (hq : B ≤ q) (e : En) : Below B w (setE W q e) :=
  ((((((((((((((hb.setCell (p := ⟨q, 0, none⟩) hq _).setCell (p := ⟨q, 1, none⟩) hq _).setCell (p := ⟨q, 2, none⟩) hq _).setCell (p := ⟨q, 3, none⟩) hq _).setCell (p := ⟨q, 4, none⟩) hq _).setCell (p := ⟨q, 5, none⟩) hq _).setCell (p := ⟨q, 6, none⟩) hq _).setCell (p := ⟨q, 7, none⟩) hq _).setCell (p := ⟨q, 8, none⟩) hq _).setCell (p := ⟨q, 9, none⟩) hq _).setCell (p := ⟨q, 10, none⟩) hq _).setCell (p := ⟨q, 11, none⟩) hq _).setCell (p := ⟨q, 12, none⟩) hq _).setCell (p := ⟨q, 13, none⟩) hq _)
theorem Tryd.guardE : Tryd.prog.eqGuardType Tryd.prog.depth 29 = false := by kernel_rfl
theorem eqPl9 (x y : Pl) (w : World) : (Op.equalIn 9999 27 (.agg #[.string x.1, .int .i64 x.2.1, .int .i64 x.2.2]) (.agg #[.string y.1, .int .i64 y.2.1, .int .i64 y.2.2])).run Tryd.prog w = .ok (decide (x = y)) w := by
  obtain ⟨a, r, b⟩ := x
  obtain ⟨a', r', b'⟩ := y
  have u3 := Tryd.underlying3
  have a3 := Tryd.isAgg3
  have z3 := Tryd.sizeOf3
  have u9 := Tryd.underlying9
  have a9 := Tryd.isAgg9
  have z9 := Tryd.sizeOf9
  have hS : Tryd.prog.underlying 27 = some (.struct (Tryd.prog.fieldsOf 27)) := by kernel_rfl
  have hp : Tryd.prog.stoodInHeld 27 = false := by kernel_rfl
  rw [show (9999 : Nat) = 9998 + 1 from rfl, run_equalIn_agg w 9998 27 _ _ hS hp]
  simp only [Program.fieldsOf, Tryd.underlying27]
  have e3 := same_eq a a'
  go_simp
  by_cases h1 : a = a' <;> by_cases h2 : r = r' <;> by_cases h3 : b = b' <;> simp [h1, h2, h3]
theorem eqG9 (x y : Gd) (w : World) : (Op.equalIn 9999 23 (.agg #[.string x.1, .int .i64 x.2]) (.agg #[.string y.1, .int .i64 y.2])).run Tryd.prog w = .ok (decide (x = y)) w := by
  obtain ⟨a, r⟩ := x
  obtain ⟨a', r'⟩ := y
  have u3 := Tryd.underlying3
  have a3 := Tryd.isAgg3
  have z3 := Tryd.sizeOf3
  have u9 := Tryd.underlying9
  have a9 := Tryd.isAgg9
  have z9 := Tryd.sizeOf9
  have hS : Tryd.prog.underlying 23 = some (.struct (Tryd.prog.fieldsOf 23)) := by kernel_rfl
  have hp : Tryd.prog.stoodInHeld 23 = false := by kernel_rfl
  rw [show (9999 : Nat) = 9998 + 1 from rfl, run_equalIn_agg w 9998 23 _ _ hS hp]
  simp only [Program.fieldsOf, Tryd.underlying23]
  have e3 := same_eq a a'
  go_simp
  by_cases h1 : a = a' <;> by_cases h2 : r = r' <;> simp [h1, h2]
theorem eqL9 (x y : Lo) (w : World) : (Op.equalIn 9999 25 (.agg #[.string x.1, .string x.2.1, .int .i64 x.2.2.1, .int .i64 x.2.2.2]) (.agg #[.string y.1, .string y.2.1, .int .i64 y.2.2.1, .int .i64 y.2.2.2])).run Tryd.prog w = .ok (decide (x = y)) w := by
  obtain ⟨a, r, b, c⟩ := x
  obtain ⟨a', r', b', c'⟩ := y
  have u3 := Tryd.underlying3
  have a3 := Tryd.isAgg3
  have z3 := Tryd.sizeOf3
  have u9 := Tryd.underlying9
  have a9 := Tryd.isAgg9
  have z9 := Tryd.sizeOf9
  have hS : Tryd.prog.underlying 25 = some (.struct (Tryd.prog.fieldsOf 25)) := by kernel_rfl
  have hp : Tryd.prog.stoodInHeld 25 = false := by kernel_rfl
  rw [show (9999 : Nat) = 9998 + 1 from rfl, run_equalIn_agg w 9998 25 _ _ hS hp]
  simp only [Program.fieldsOf, Tryd.underlying25]
  have e3 := same_eq a a'
  have e4 := same_eq r r'
  go_simp
  by_cases h1 : a = a' <;> by_cases h2 : r = r' <;> by_cases h3 : b = b' <;> by_cases h4 : c = c' <;> simp [h1, h2, h3, h4]
set_option maxRecDepth 100000 in
set_option maxHeartbeats 4000000 in
/-- Two entries are compared. -/
theorem eqE_run (x y : En) (w : World) : (Op.equalIn 10000 29 (agE x) (agE y)).run Tryd.prog w = .ok (sameE x y) w := by
  have hG := eqG9 x.2.1 y.2.1
  have hL := eqL9 x.2.2.1 y.2.2.1
  have hP := eqPl9 x.2.2.2.1 y.2.2.2.1
  have hQ := eqPl9 x.2.2.2.2.1 y.2.2.2.2.1
  have HE : Hid (sameE x y = (decide (x.1 = y.1) && (decide (x.2.1 = y.2.1) && (decide (x.2.2.1 = y.2.2.1) && (decide (x.2.2.2.1 = y.2.2.2.1) && (decide (x.2.2.2.2.1 = y.2.2.2.2.1) && decide (x.2.2.2.2.2 = y.2.2.2.2.2))))))) := rfl
  have e3 := same_eq x.1 y.1
  generalize sameE x y = D at *
  generalize decide (x.1 = y.1) = D1 at *
  generalize decide (x.2.1 = y.2.1) = D2 at *
  generalize decide (x.2.2.1 = y.2.2.1) = D3 at *
  generalize decide (x.2.2.2.1 = y.2.2.2.1) = D4 at *
  generalize decide (x.2.2.2.2.1 = y.2.2.2.2.1) = D5 at *
  have h6 : (x.2.2.2.2.2 == y.2.2.2.2.2) = decide (x.2.2.2.2.2 = y.2.2.2.2.2) := rfl
  generalize hD6 : decide (x.2.2.2.2.2 = y.2.2.2.2.2) = D6 at *
  clear hD6
  obtain ⟨k, ⟨gc, gp⟩, ⟨li, lc, lu, lk⟩, ⟨fz, fr, fb⟩, ⟨tz, tr, tb⟩, n⟩ := x
  obtain ⟨k', ⟨gc', gp'⟩, ⟨li', lc', lu', lk'⟩, ⟨fz', fr', fb'⟩, ⟨tz', tr', tb'⟩, n'⟩ := y
  unfold agE
  simp only at hG hL hP hQ e3 h6 ⊢
  have u3 := Tryd.underlying3
  have a3 := Tryd.isAgg3
  have z3 := Tryd.sizeOf3
  have u9 := Tryd.underlying9
  have a9 := Tryd.isAgg9
  have z9 := Tryd.sizeOf9
  have a41 := Tryd.isAgg27
  have z41 := Tryd.sizeOf27
  have a55 := Tryd.isAgg23
  have z55 := Tryd.sizeOf23
  have a57 := Tryd.isAgg25
  have z57 := Tryd.sizeOf25
  have hS : Tryd.prog.underlying 29 = some (.struct (Tryd.prog.fieldsOf 29)) := by kernel_rfl
  have hp : Tryd.prog.stoodInHeld 29 = false := by kernel_rfl
  rw [show (10000 : Nat) = 9999 + 1 from rfl, run_equalIn_agg w 9999 29 _ _ hS hp]
  simp only [Program.fieldsOf, Tryd.underlying29]
  rw [HE.out]
  clear HE
  cases D1 <;> cases D2 <;> cases D3 <;> cases D4 <;> cases D5 <;> cases D6 <;> go_simp
end Go.Proofs.YtcipbkaopnaiiacDoor
