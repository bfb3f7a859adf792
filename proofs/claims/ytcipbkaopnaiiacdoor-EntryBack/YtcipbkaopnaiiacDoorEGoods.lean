/-
  What goods.Check and the reference's GoodsError answer, over every world that holds the sentinels ErrName and ErrBound as the program lays them.
-/
import Derived.Test.YtcipbkaopnaiiacDoorEBox
namespace Go.Proofs.YtcipbkaopnaiiacDoor
open Go.RowKit Go.Lib Go.Sort

theorem packE_yes (p : Int) (w : World) (h1 : 1 ≤ p) (h2 : p ≤ 1000) : Calls Tryd.prog 26 #[.int .i64 p] w fun e w' => e = .returned (.bool true) ∧ w' = w := by
  go_enter Tryd.func26, Tryd.ntmps26
  go_wp2
  go_ret
  exact ⟨rfl, rfl⟩
theorem packE_no (p : Int) (w : World) (h : pw p = false) : Calls Tryd.prog 26 #[.int .i64 p] w fun e w' => e = .returned (.bool false) ∧ w' = w := by
  have h' : p < 1 ∨ (1 ≤ p ∧ 1000 < p) := by unfold pw at h; simp at h; omega
  clear h
  rcases h' with h | ⟨h, h'⟩
  · go_enter Tryd.func26, Tryd.ntmps26
    go_wp2
    go_ret
    exact ⟨rfl, rfl⟩
  · go_enter Tryd.func26, Tryd.ntmps26
    go_wp2
    go_ret
    exact ⟨by simp [show ¬ p ≤ 1000 by omega], rfl⟩
set_option maxHeartbeats 1000000 in
/-- goods.Check. -/
theorem gcheck_any (g : Gd) (w : World) (s : Nat → Addr) (hz : g.1.size ≤ maxLen) (hs : Two w s) :
    Calls Tryd.prog 15 #[.agg #[.string g.1, .int .i64 g.2]] w fun e w' => e = .returned (errP s (gdErr g)) ∧ Below w.heap.size w w' := by
  obtain ⟨x, pack⟩ := g
  simp only at hz ⊢
  have hs2 : Two (w.alloc (.cells #[.string x, .int .i64 pack] 23)) s := hs.below ((Below.refl _ _).alloc (Nat.le_refl _) _)
  obtain ⟨hB, hN⟩ := hs2
  have hn : ∀ w, Calls Tryd.prog 25 #[.string x] w _ := fun w => name_any x w hz
  cases h1 : isName x.data.toList with
  | false =>
    rw [h1] at hn
    have HE : Hid (errP s (gdErr (x, pack)) = err (s 4)) := by
      show _ = _
      unfold gdErr; simp only [h1]; rfl
    clear hs
    go_enter Tryd.func15, Tryd.ntmps15
    go_wp2_with (go_at_call 25; refine (hn _).mono ?_; rintro e w1 ⟨rfl, rfl⟩)
    go_ret
    exact ⟨by rw [HE.out]; rfl, (Below.refl _ _).alloc (Nat.le_refl _) _⟩
  | true =>
    rw [h1] at hn
    cases h2 : pw pack with
    | false =>
      have HE : Hid (errP s (gdErr (x, pack)) = err (s 1)) := by
        show _ = _
        unfold gdErr; simp only [h1, h2]; rfl
      have hc := fun w => packE_no pack w h2
      clear hs
      go_enter Tryd.func15, Tryd.ntmps15
      go_wp2_with (first | (go_at_call 25; refine (hn _).mono ?_; rintro e w1 ⟨rfl, rfl⟩) | (go_at_call 26; refine (hc _).mono ?_; rintro e w1 ⟨rfl, rfl⟩))
      go_ret
      exact ⟨by rw [HE.out]; rfl, (Below.refl _ _).alloc (Nat.le_refl _) _⟩
    | true =>
      have HE : Hid (errP s (gdErr (x, pack)) = .nilIface) := by
        show _ = _
        unfold gdErr; simp only [h1, h2]; rfl
      have h : 1 ≤ pack ∧ pack ≤ 1000 := by unfold pw at h2; simpa using h2
      have hc := fun w => packE_yes pack w h.1 h.2
      clear hs
      go_enter Tryd.func15, Tryd.ntmps15
      go_wp2_with (first | (go_at_call 25; refine (hn _).mono ?_; rintro e w1 ⟨rfl, rfl⟩) | (go_at_call 26; refine (hc _).mono ?_; rintro e w1 ⟨rfl, rfl⟩))
      go_ret
      exact ⟨by rw [HE.out]; rfl, (Below.refl _ _).alloc (Nat.le_refl _) _⟩
end Go.Proofs.YtcipbkaopnaiiacDoor
