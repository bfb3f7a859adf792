/-
  Plain mathematics of lots: which one is sooner, the number of their error; no program is named here.
-/
import Derived.Test.YtcipbkaopnaiiacDoorCmp
namespace Go.Proofs.YtcipbkaopnaiiacDoor
open Go.Lib Go.Sort

/-- A lot: its ID, its code, its last day, its cost. -/
abbrev Lo := ByteArray × ByteArray × Int × Int
def cmpL (x y : Lo) : Int := or2 (compareInt x.2.2.1 y.2.2.1) (cmpZ x.1 y.1)
/-- A lot is sooner than another one. -/
def soonL (x y : Lo) : Bool := decide (cmpL x y < 0)
/-- .. in plain words. -/
def soonW (x y : Lo) : Prop := x.2.2.1 < y.2.2.1 ∨ (x.2.2.1 = y.2.2.1 ∧ zLt x.1 y.1 = true)
theorem soonL_iff (x y : Lo) : soonL x y = true ↔ soonW x y := by
  obtain ⟨a, c, u, k⟩ := x
  obtain ⟨a', c', u', k'⟩ := y
  unfold soonL soonW cmpL or2
  simp only [decide_eq_true_eq]
  rcases cmpI_cases u u' with ⟨k1, k2⟩ | ⟨k1, k2⟩ | ⟨k1, k2⟩
  · rw [k2]; simp [k1]
  · rw [k2]; simp; omega
  · rw [k2]; subst k1
    rcases cmpZ_cases a a' with ⟨h1, h2, h3, h4⟩ | ⟨h1, h2, h3, h4⟩ | ⟨h1, h2, h3, h4⟩ <;> simp [h4, h1]
theorem soonL_no (x y : Lo) : soonL x y = false ↔ ¬ soonW x y := by rw [← soonL_iff]; simp
theorem swoL : SWO soonL where
  irrefl x := (soonL_no x x).2 (by unfold soonW; rw [zLt_irrefl]; simp)
  trans x y z h1 h2 := by
    rw [soonL_iff] at *
    unfold soonW at *
    rcases h1 with h1 | ⟨e1, h1⟩
    · rcases h2 with h2 | ⟨e2, h2⟩
      · exact Or.inl (by omega)
      · exact Or.inl (by omega)
    · rcases h2 with h2 | ⟨e2, h2⟩
      · exact Or.inl (by omega)
      · exact Or.inr ⟨by omega, zLt_trans h1 h2⟩
  ntrans x y z h1 h2 := by
    rw [soonL_no] at *
    unfold soonW at *
    intro h
    rcases h with h | ⟨e, h⟩
    · by_cases hxy : x.2.2.1 < y.2.2.1
      · exact h1 (Or.inl hxy)
      · exact h2 (Or.inl (by omega))
    · rcases Int.lt_trichotomy x.2.2.1 y.2.2.1 with k | k | k
      · exact h1 (Or.inl k)
      · rcases cmpZ_cases x.1 y.1 with ⟨q1, q2, q3, q4⟩ | ⟨q1, q2, q3, q4⟩ | ⟨q1, q2, q3, q4⟩
        · exact h1 (Or.inr ⟨k, q1⟩)
        · exact h2 (Or.inr ⟨by omega, zLt_trans q2 h⟩)
        · rw [q3] at h; exact h2 (Or.inr ⟨by omega, h⟩)
      · exact h2 (Or.inl (by omega))
/-- The number of an error of a lot. -/
def wellL (u k : Int) : Bool := decide (0 ≤ u) && decide (u ≤ 100000) && (decide (0 ≤ k) && decide (k ≤ 1048576))
def namesL (x : Lo) : Bool := isName x.1.data.toList && isName x.2.1.data.toList
def lotErr (x : Lo) : Nat := if namesL x then (if wellL x.2.2.1 x.2.2.2 then 0 else 2) else 5
theorem lotErr_le (x : Lo) : lotErr x ≤ 12 := by
  unfold lotErr; split
  · split <;> decide
  · decide
def okL (x : Lo) : Bool := namesL x && wellL x.2.2.1 x.2.2.2
theorem okL_err (x : Lo) : okL x = true ↔ lotErr x = 0 := by
  unfold okL lotErr
  cases namesL x <;> cases wellL x.2.2.1 x.2.2.2 <;> simp
theorem okL_bounds {x : Lo} (h : okL x = true) : isName x.1.data.toList = true ∧ isName x.2.1.data.toList = true ∧ 0 ≤ x.2.2.1 ∧ x.2.2.1 ≤ 100000 ∧ 0 ≤ x.2.2.2 ∧ x.2.2.2 ≤ 1048576 := by
  unfold okL namesL wellL at h
  simp at h
  exact ⟨h.1.1, h.1.2, h.2.1.1, h.2.1.2, h.2.2.1, h.2.2.2⟩
end Go.Proofs.YtcipbkaopnaiiacDoor
