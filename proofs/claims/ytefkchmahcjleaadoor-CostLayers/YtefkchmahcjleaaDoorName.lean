/-
  What goods.Name and the reference's IsName answer, over whatever world.
-/
import Derived.Test.YtefkchmahcjleaaDoorRef
namespace Go.Proofs.YtefkchmahcjleaaDoor
open Go.RowKit Go.Lib Go.Sort

def nameB (c : UInt8) : Bool := (decide (97 ≤ c.toNat) && decide (c.toNat ≤ 122)) || (decide (48 ≤ c.toNat) && decide (c.toNat ≤ 57))
def isName (l : List UInt8) : Bool := l.all nameB && (decide (1 ≤ l.length) && decide (l.length ≤ 8))

theorem name_false_of (s : ByteArray) (k : Nat) (h : k < s.size) (hd : nameB s[k] = false) : s.data.toList.all nameB = false := by
  rw [List.all_eq_false]
  refine ⟨s[k], ?_, by rw [hd]; decide⟩
  have := List.getElem_mem (l := s.data.toList) (n := k) (by rw [size_len]; exact h)
  exact this
theorem name_bad (s : ByteArray) (k : Nat) (w : World) (h : k < s.size) (hd : nameB s[k] = false) : Ending.returned (.bool false) = Ending.returned (.bool (isName s.data.toList)) ∧ w = w := by
  unfold isName
  rw [name_false_of s k h hd]; exact ⟨rfl, rfl⟩
theorem name_good (s : ByteArray) (k : Nat) (w : World) (h : s.size ≤ k) (ha : (s.data.toList.take k).all nameB = true) : Ending.returned (.bool (decide (1 ≤ s.size) && decide (s.size ≤ 8))) = Ending.returned (.bool (isName s.data.toList)) ∧ w = w := by
  rw [List.take_of_length_le (by rw [size_len]; exact h)] at ha
  unfold isName
  rw [ha, size_len]; exact ⟨rfl, rfl⟩

end Go.Proofs.YtefkchmahcjleaaDoor
