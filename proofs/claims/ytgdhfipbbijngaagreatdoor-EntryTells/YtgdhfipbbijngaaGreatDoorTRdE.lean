/-
  What a walk of the reference's ReadEntry holds where an entry is made at once.
-/
import Derived.Test.YtgdhfipbbijngaaGreatDoorEzB
import Derived.Test.YtgdhfipbbijngaaGreatDoorTErrA
import Derived.Deep.RegionHeld3
namespace Go.Proofs.YtgdhfipbbijngaaGreatDoor
open Go.RowKit Go.Lib Go.Sort

theorem Cu.rdE {w w1 : World} {g : Nat} {L : List ByteArray} (h : Cu w w1 g L) (e : En) : Rd w (w1.alloc (celE e)) w1.heap.size g e L := by
  have hb : Below w1.heap.size w1 (w1.alloc (celE e)) := (Below.refl _ _).alloc (Nat.le_refl _) _
  exact ⟨h.below.trans (hb.mono h.below.size), h.res.below hb, BlkE.new w1 _, fun i y hy => by rw [hb.cell (p := ⟨g, i, none⟩) h.lt]; exact h.word i y hy, h.res.lt, h.lt⟩
theorem set_same {w : World} {q : Nat} {cs : Array Value} {T : TypeId} (h : w.heap[q]? = some (.cells cs T (0, 0))) (i : Nat) (v : Value) (e : cs.setIfInBounds i v = cs) : w.setCell ⟨q, i, none⟩ v = w := by
  have hh : (w.setCell ⟨q, i, none⟩ v).heap = w.heap := by
    unfold World.setCell
    simp only
    apply Array.ext
    · simp
    · intro j h1 h2
      rw [Array.getElem_modify]
      split
      · rename_i hj
        subst hj
        have e2 : w.heap[q] = .cells cs T (0, 0) := by
          rw [Array.getElem?_eq_getElem h2] at h
          exact Option.some.inj h
        rw [e2]
        simp [e]
      · rfl
  have e3 : w.setCell ⟨q, i, none⟩ v = { w with heap := (w.setCell ⟨q, i, none⟩ v).heap } := rfl
  rw [e3, hh]
/-- An entry of a kind alone is made: what is stored of it again turns nothing. -/
theorem Cu.made {w w1 : World} {g : Nat} {L : List ByteArray} (h : Cu w w1 g L) (k : ByteArray) : ∃ W3 : World,
    w1.alloc (.cells #[.string k, .string ⟨#[]⟩, .int .i64 0, .string ⟨#[]⟩, .string ⟨#[]⟩, .int .i64 0, .int .i64 0, .string ⟨#[]⟩, .int .i64 0, .int .i64 0, .string ⟨#[]⟩, .int .i64 0, .int .i64 0, .int .i64 0] 29) = W3 ∧
    Rd w W3 w1.heap.size g (k, (⟨#[]⟩, 0), (⟨#[]⟩, ⟨#[]⟩, 0, 0), (⟨#[]⟩, 0, 0), (⟨#[]⟩, 0, 0), 0) L ∧
    W3.setCell ⟨w1.heap.size, 1, none⟩ (.string ⟨#[]⟩) = W3 ∧ W3.setCell ⟨w1.heap.size, 2, none⟩ (.int .i64 0) = W3 ∧ W3.setCell ⟨w1.heap.size, 3, none⟩ (.string ⟨#[]⟩) = W3 ∧ W3.setCell ⟨w1.heap.size, 4, none⟩ (.string ⟨#[]⟩) = W3 ∧ W3.setCell ⟨w1.heap.size, 5, none⟩ (.int .i64 0) = W3 ∧ W3.setCell ⟨w1.heap.size, 6, none⟩ (.int .i64 0) = W3 ∧ W3.setCell ⟨w1.heap.size, 7, none⟩ (.string ⟨#[]⟩) = W3 ∧ W3.setCell ⟨w1.heap.size, 8, none⟩ (.int .i64 0) = W3 ∧ W3.setCell ⟨w1.heap.size, 9, none⟩ (.int .i64 0) = W3 ∧ W3.setCell ⟨w1.heap.size, 10, none⟩ (.string ⟨#[]⟩) = W3 ∧ W3.setCell ⟨w1.heap.size, 11, none⟩ (.int .i64 0) = W3 ∧ W3.setCell ⟨w1.heap.size, 12, none⟩ (.int .i64 0) = W3 ∧ W3.setCell ⟨w1.heap.size, 13, none⟩ (.int .i64 0) = W3 := by
  have h3 := h.rdE (k, (⟨#[]⟩, 0), (⟨#[]⟩, ⟨#[]⟩, 0, 0), (⟨#[]⟩, 0, 0), (⟨#[]⟩, 0, 0), 0)
  exact ⟨_, rfl, h3, set_same h3.ent 1 _ rfl, set_same h3.ent 2 _ rfl, set_same h3.ent 3 _ rfl, set_same h3.ent 4 _ rfl, set_same h3.ent 5 _ rfl, set_same h3.ent 6 _ rfl, set_same h3.ent 7 _ rfl, set_same h3.ent 8 _ rfl, set_same h3.ent 9 _ rfl, set_same h3.ent 10 _ rfl, set_same h3.ent 11 _ rfl, set_same h3.ent 12 _ rfl, set_same h3.ent 13 _ rfl⟩
end Go.Proofs.YtgdhfipbbijngaaGreatDoor
