/-
  What the reference's IsAhead answers, over whatever world; nothing old is turned.
-/
import Derived.Test.YtcipbkaopnaiiabGreatDoorPCmpA
namespace Go.Proofs.YtcipbkaopnaiiabGreatDoor
open Go.RowKit Go.Lib Go.Sort

theorem tmod_two (r : Int) : r.tmod 2 = 0 ∨ r.tmod 2 ≠ 0 := Decidable.em _
set_option maxHeartbeats 1000000 in
/-- IsAhead. -/
theorem isAhead_any (x y : Pl) (w : World) : Calls Tryz.prog 80 #[agP x, agP y] w fun e w' => e = .returned (.bool (aheadP x y)) ∧ Below w.heap.size w w' := by
  obtain ⟨a, r, b⟩ := x
  obtain ⟨a', r', b'⟩ := y
  unfold agP
  simp only
  have hB : ∀ o o', Below w.heap.size w ((w.alloc o).alloc o') := fun o o' => ((Below.refl _ w).alloc (Nat.le_refl _) _).alloc (by simp) _
  have e1 := less_eq a a'
  by_cases hz : a = a'
  · subst hz
    by_cases hr : r = r'
    · subst hr
      by_cases hp : r.tmod 2 = 0
      · have hp' : (r.tmod 2 == 0) = true := by simpa using hp
        have HE : Hid (aheadP (a, r, b) (a, r, b') = decide (b' < b)) := by
          show _ = _
          rw [Bool.eq_iff_iff, aheadP_iff]; unfold aheadW; simp [zLt_irrefl, hp]
        clear hp e1
        go_enter Tryz.func80, Tryz.ntmps80
        go_wp2
        go_ret
        exact ⟨by rw [HE.out]; rfl, hB _ _⟩
      · have hp' : (r.tmod 2 == 0) = false := by simpa using hp
        have HE : Hid (aheadP (a, r, b) (a, r, b') = decide (b < b')) := by
          show _ = _
          rw [Bool.eq_iff_iff, aheadP_iff]; unfold aheadW; simp [zLt_irrefl, hp]
        clear hp e1
        go_enter Tryz.func80, Tryz.ntmps80
        go_wp2
        go_ret
        exact ⟨by rw [HE.out]; rfl, hB _ _⟩
    · have hr' : (r == r') = false := by simpa using hr
      have HE : Hid (aheadP (a, r, b) (a, r', b') = decide (r < r')) := by
        show _ = _
        rw [Bool.eq_iff_iff, aheadP_iff]; unfold aheadW; simp [zLt_irrefl, hr]
      clear hr e1
      go_enter Tryz.func80, Tryz.ntmps80
      go_wp2
      go_ret
      exact ⟨by rw [HE.out]; rfl, hB _ _⟩
  · have e3 := same_eq a a'
    rw [decide_eq_false hz] at e3
    have HE : Hid (aheadP (a, r, b) (a', r', b') = zLt a a') := by
      show _ = _
      rw [Bool.eq_iff_iff, aheadP_iff]; unfold aheadW; simp [hz]
    have H1 : Hid (Op.bytesLess a.toList a'.toList = zLt a a') := e1
    clear e1 hz
    go_enter Tryz.func80, Tryz.ntmps80
    go_wp2
    go_ret
    exact ⟨by rw [HE.out, ← H1.out]; rfl, hB _ _⟩
end Go.Proofs.YtcipbkaopnaiiabGreatDoor
