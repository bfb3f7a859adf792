/-
 What piecesText answers of an entry of pieces that is well: its text; over every world that holds the sentinels and strconv's table of powers as the program lay
-/
import Derived.Test.YtppodkkefegbkaaGreatDoorJz11
import Derived.RegionTactic
import Derived.Test.YtppodkkefegbkaaGreatDoorTErrD
import Derived.Test.YtppodkkefegbkaaGreatDoorTErrE
import Derived.Test.YtppodkkefegbkaaGreatDoorTErrF
set_option maxRecDepth 100000
set_option maxHeartbeats 16000000
namespace Go.Proofs.YtppodkkefegbkaaGreatDoor
open Go.RowKit Go.Lib Go.Sort
def e0 : En := (kIn, zeroG, (⟨#[108, 49]⟩, ⟨#[]⟩, 0, 0), zeroP, (⟨#[97]⟩, 1, 2), 5)
def longE (e : En) : Bool := decide (20 < e.1.size) || (decide (30 < e.2.1.1.size) || (decide (30 < e.2.2.1.1.size) || (decide (30 < e.2.2.1.2.1.size) || (decide (30 < e.2.2.2.1.1.size) || decide (30 < e.2.2.2.2.1.1.size)))))
theorem longE_cases (e : En) : (longE e = true ∧ ((20 < e.1.size) ∨ (e.1.size ≤ 20 ∧ 30 < e.2.1.1.size) ∨ (e.1.size ≤ 20 ∧ e.2.1.1.size ≤ 30 ∧ 30 < e.2.2.1.1.size) ∨ (e.1.size ≤ 20 ∧ e.2.1.1.size ≤ 30 ∧ e.2.2.1.1.size ≤ 30 ∧ 30 < e.2.2.1.2.1.size) ∨ (e.1.size ≤ 20 ∧ e.2.1.1.size ≤ 30 ∧ e.2.2.1.1.size ≤ 30 ∧ e.2.2.1.2.1.size ≤ 30 ∧ 30 < e.2.2.2.1.1.size) ∨ (e.1.size ≤ 20 ∧ e.2.1.1.size ≤ 30 ∧ e.2.2.1.1.size ≤ 30 ∧ e.2.2.1.2.1.size ≤ 30 ∧ e.2.2.2.1.1.size ≤ 30 ∧ 30 < e.2.2.2.2.1.1.size))) ∨ (longE e = false ∧ e.1.size ≤ 20 ∧ e.2.1.1.size ≤ 30 ∧ e.2.2.1.1.size ≤ 30 ∧ e.2.2.1.2.1.size ≤ 30 ∧ e.2.2.2.1.1.size ≤ 30 ∧ e.2.2.2.2.1.1.size ≤ 30) := by
 unfold longE
 cases h : (decide (20 < e.1.size) || (decide (30 < e.2.1.1.size) || (decide (30 < e.2.2.1.1.size) || (decide (30 < e.2.2.1.2.1.size) || (decide (30 < e.2.2.2.1.1.size) || decide (30 < e.2.2.2.2.1.1.size)))))) with
 | true =>
  simp only [Bool.or_eq_true, decide_eq_true_eq] at h
  exact Or.inl ⟨rfl, by omega⟩
 | false =>
  simp only [Bool.or_eq_false_iff, decide_eq_false_iff_not] at h
  exact Or.inr ⟨rfl, by omega⟩
theorem long_any (e : En) (w : World) (hz : SzE e) :
  Calls Tryz.prog 27 #[agE e] w fun r w' => r = .returned (.int .i64 (if longE e then 1 else 0)) ∧ Below w.heap.size w w' := by
 have hB : Below w.heap.size w (w.alloc (celE e)) := (Below.refl _ w).alloc (Nat.le_refl _) _
 have hc := longE_cases e
 obtain ⟨m0, m1, m2, m3, m4, m5⟩ := hz
 unfold maxLen at m0 m1 m2 m3 m4 m5
 obtain ⟨k, ⟨gc, gp⟩, ⟨li, lc, lu, lk⟩, ⟨fz, fr, fb⟩, ⟨tz, tr, tb⟩, n⟩ := e
 unfold agE celE at *
 simp only at *
 rcases hc with ⟨h, hc⟩ | ⟨h, q1, q2, q3, q4, q5, q6⟩
 ·rw [h, if_pos rfl]
  clear h
  rcases hc with q1 | ⟨q1, q2⟩ | ⟨q1, q2, q3⟩ | ⟨q1, q2, q3, q4⟩ | ⟨q1, q2, q3, q4, q5⟩ | ⟨q1, q2, q3, q4, q5, q6⟩
  all_goals
   go_enter Tryz.func27, Tryz.ntmps27
   go_wp2
   go_ret
   exact ⟨rfl, hB⟩
 ·rw [h, if_neg (by decide)]
  clear h
  go_enter Tryz.func27, Tryz.ntmps27
  go_wp2
  go_ret
  exact ⟨rfl, hB⟩
theorem terr_any (e : En) (w : World) (hz : SzE e) :
  Calls Tryz.prog 60 #[agE e] w fun r w' => r = .returned (.int .i64 (entErr e)) ∧ Below w.heap.size w w' := by
 rcases kind_cases e.1 with h | h | h | h | h | h | h
 ·exact terr_goods e w hz h
 ·exact terr_lot e w hz h
 ·exact terr_to e w hz h
 ·exact terr_from e w hz h
 ·exact terr_move e w hz h
 ·exact terr_hold e w hz h
 ·exact terr_other e w h
end Go.Proofs.YtppodkkefegbkaaGreatDoor
