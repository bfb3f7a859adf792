/-
  What the reference's PlaceError answers.
-/
import Derived.Test.YtcipbkaopnaiiabGreatDoorPCheckA
namespace Go.Proofs.YtcipbkaopnaiiabGreatDoor
open Go.RowKit Go.Lib Go.Sort

set_option maxHeartbeats 1000000 in
/-- PlaceError. -/
theorem placeError_any (x : Pl) (w : World) (hz : x.1.size ≤ maxLen) :
    Calls Tryz.prog 48 #[agP x] w fun e w' => e = .returned (.int .i64 (placeErr x)) ∧ Below w.heap.size w w' := by
  obtain ⟨a, r, b⟩ := x
  unfold agP
  simp only at hz ⊢
  have hB : ∀ o, Below w.heap.size w (w.alloc o) := fun o => (Below.refl _ w).alloc (Nat.le_refl _) _
  have hn : ∀ w, Calls Tryz.prog 49 #[.string a] w _ := fun w => isName_any a w hz
  cases h1 : isName a.data.toList with
  | false =>
    rw [h1] at hn
    have HE : Hid (placeErr (a, r, b) = 5) := by
      show _ = _
      unfold placeErr; simp only [h1]; rfl
    go_enter Tryz.func48, Tryz.ntmps48
    go_wp2_with (go_at_call 49; refine (hn _).mono ?_; rintro e w1 ⟨rfl, rfl⟩)
    go_ret
    exact ⟨by rw [HE.out]; rfl, hB _⟩
  | true =>
    rw [h1] at hn
    have h2 : (1 ≤ r ∧ r ≤ 20 ∧ 1 ≤ b ∧ b ≤ 40) ∨ (r < 1) ∨ (1 ≤ r ∧ 20 < r) ∨ (1 ≤ r ∧ r ≤ 20 ∧ b < 1) ∨ (1 ≤ r ∧ r ≤ 20 ∧ 1 ≤ b ∧ 40 < b) := by omega
    rcases h2 with ⟨q1, q2, q3, q4⟩ | h2
    · have HE : Hid (placeErr (a, r, b) = 0) := by
        show _ = _
        have : well r b = true := by unfold well; simp [q1, q2, q3, q4]
        unfold placeErr; simp only [h1, this]; rfl
      go_enter Tryz.func48, Tryz.ntmps48
      go_wp2_with (go_at_call 49; refine (hn _).mono ?_; rintro e w1 ⟨rfl, rfl⟩)
      go_ret
      exact ⟨by rw [HE.out]; rfl, hB _⟩
    · have HE : Hid (placeErr (a, r, b) = 2) := by
        show _ = _
        have : well r b = false := by unfold well; simp; omega
        unfold placeErr; simp only [h1, this]; rfl
      rcases h2 with h2 | ⟨q1, q2⟩ | ⟨q1, q2, q3⟩ | ⟨q1, q2, q3, q4⟩
      all_goals
        go_enter Tryz.func48, Tryz.ntmps48
        go_wp2_with (go_at_call 49; refine (hn _).mono ?_; rintro e w1 ⟨rfl, rfl⟩)
        go_ret
        exact ⟨by rw [HE.out]; rfl, hB _⟩

end Go.Proofs.YtcipbkaopnaiiabGreatDoor
