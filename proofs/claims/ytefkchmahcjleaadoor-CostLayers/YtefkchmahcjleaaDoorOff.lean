/-
  Worlds in which but some blocks are turned.
-/
import Derived.Lib.SmallJoins
import Derived.OwnWalk
import Derived.WalkKit
namespace Go.Proofs.YtefkchmahcjleaaDoor
open Go.RowKit Go.Lib

/-- All old blocks but those of x are as they were. -/
structure Off (x : List Nat) (w w' : World) : Prop where
  os : w'.os = w.os
  tape : w'.tape = w.tape
  output : w'.output = w.output
  size : w.heap.size ≤ w'.heap.size
  block : ∀ k, k < w.heap.size → k ∉ x → w'.heap[k]? = w.heap[k]?
theorem Off.refl (x : List Nat) (w : World) : Off x w w := ⟨rfl, rfl, rfl, Nat.le_refl _, fun _ _ _ => rfl⟩
theorem Off.of_below {x : List Nat} {w w' : World} (h : Below w.heap.size w w') : Off x w w' := ⟨h.os, h.tape, h.output, h.size, fun k hk _ => h.block k hk⟩
theorem Off.trans {x : List Nat} {w w' w'' : World} (h : Off x w w') (h' : Off x w' w'') : Off x w w'' :=
  ⟨h'.os.trans h.os, h'.tape.trans h.tape, h'.output.trans h.output, Nat.le_trans h.size h'.size, fun k hk hx => (h'.block k (Nat.lt_of_lt_of_le hk h.size) hx).trans (h.block k hk hx)⟩
theorem Off.mono {x y : List Nat} {w w' : World} (h : Off x w w') (hxy : ∀ k ∈ x, k ∈ y) : Off y w w' := ⟨h.os, h.tape, h.output, h.size, fun k hk hy => h.block k hk fun e => hy (hxy k e)⟩
theorem Off.below {x : List Nat} {w w' : World} {B : Nat} (h : Off x w w') (hB : B ≤ w.heap.size) (hx : ∀ k ∈ x, B ≤ k) : Below B w w' := ⟨h.os, h.tape, h.output, h.size, fun k hk => h.block k (Nat.lt_of_lt_of_le hk hB) fun e => by have := hx k e; omega⟩
theorem Off.of_grown {x : List Nat} {w w' : World} {b : Nat} (h : w.grownBy w' (some b)) (hb : b ∈ x ∨ w.heap.size ≤ b) : Off x w w' :=
  ⟨h.os, h.tape, h.output, h.size, fun k hk hx => h.block k hk fun e => by
    cases e
    rcases hb with hb | hb
    · exact hx hb
    · omega⟩
theorem Off.set {x : List Nat} {w w' : World} (h : Off x w w') {p o : Nat} (hp : p ∈ x) (v : Value) : Off x w (w'.setCell ⟨p, o, none⟩ v) := by
  refine h.trans ⟨rfl, rfl, rfl, by rw [World.size_setCell]; exact Nat.le_refl _, fun k hk hx => Below.heap_setCell w' ⟨p, o, none⟩ v k (fun e => hx (e ▸ hp))⟩
end Go.Proofs.YtefkchmahcjleaaDoor
