/-
  What place.Compare answers, over whatever world: the order of places by the way; nothing old is turned.
-/
import Derived.Test.YtcipbkaopnaiiabGreatDoorCmp
namespace Go.Proofs.YtcipbkaopnaiiabGreatDoor
open Go.RowKit Go.Lib Go.Sort

/-- A place's cells, a place as a value. -/
def encP (x : Pl) : List Value := [.string x.1, .int .i64 x.2.1, .int .i64 x.2.2]
abbrev agP (x : Pl) : Value := .agg #[.string x.1, .int .i64 x.2.1, .int .i64 x.2.2]

theorem baysI_any (r a b : Int) (w : World) : Calls Tryz.prog 125 #[.int .i64 r, .int .i64 a, .int .i64 b] w fun e w' => e = .returned (.int .i64 (bays r a b)) ∧ w' = w := by
  unfold bays
  by_cases h : r.tmod 2 = 0
  · rw [if_pos h]
    have hb : (r.tmod 2 == 0) = true := by simpa using h
    go_enter Tryz.func125, Tryz.ntmps125
    go_wp2_with (go_at_call 124; refine (cmpI_any _ _ _).mono ?_; rintro e w1 ⟨rfl, rfl⟩)
    go_ret
    exact ⟨rfl, rfl⟩
  · rw [if_neg h]
    have hb : (r.tmod 2 == 0) = false := by simpa using h
    go_enter Tryz.func125, Tryz.ntmps125
    go_wp2_with (go_at_call 124; refine (cmpI_any _ _ _).mono ?_; rintro e w1 ⟨rfl, rfl⟩)
    go_ret
    exact ⟨rfl, rfl⟩
set_option maxHeartbeats 4000000 in
/-- place.Compare. -/
theorem compare_any (x y : Pl) (w : World) : Calls Tryz.prog 101 #[agP x, agP y] w fun e w' => e = .returned (.int .i64 (cmpP x y)) ∧ ∃ q os, w' = grow (w.drewN q) os := by
  obtain ⟨a, r, b⟩ := x
  obtain ⟨a', r', b'⟩ := y
  unfold cmpP agP
  simp only
  have h1 := fun w => cmpS_any a a' w
  have h2 := fun w => cmpI_any r r' w
  have h3 := fun w => baysI_any r b b' w
  generalize cmpZ a a' = c1 at *
  generalize compareInt r r' = c2 at *
  generalize bays r b b' = c3 at *
  have h4 := fun bk c w => or3_any bk c c1 c2 c3 w
  generalize or3 c1 c2 c3 = c4 at *
  go_enter Tryz.func101, Tryz.ntmps101
  go_wp2
  go_region_held3 (fun w' => w'.cell? ⟨w.heap.size, 0, none⟩ = some (.string a) ∧ w'.cell? ⟨w.heap.size, 1, none⟩ = some (.int .i64 r) ∧ w'.cell? ⟨w.heap.size, 2, none⟩ = some (.int .i64 b) ∧ w'.cell? ⟨w.heap.size + 1, 0, none⟩ = some (.string a') ∧ w'.cell? ⟨w.heap.size + 1, 1, none⟩ = some (.int .i64 r') ∧ w'.cell? ⟨w.heap.size + 1, 2, none⟩ = some (.int .i64 b')) (go_keep)
    (first | (go_at_call 102; refine (h1 _).mono ?_; rintro e w1 ⟨rfl, rfl⟩) | (go_at_call 124; refine (h2 _).mono ?_; rintro e w1 ⟨rfl, rfl⟩) | (go_at_call 125; refine (h3 _).mono ?_; rintro e w1 ⟨rfl, rfl⟩) | (go_at_call 100; refine (h4 _ _ _ (new_cell _ _ _ _ _ (by simp) rfl) (new_cell _ _ _ _ _ (by simp) rfl) (new_cell _ _ _ _ _ (by simp) rfl)).mono ?_; rintro e w1 ⟨rfl, rfl⟩))
  go_wp2
  go_ret
  exact ⟨rfl, 1, _, grow_three _ _ _ _⟩
theorem compare_below (x y : Pl) (w : World) : Calls Tryz.prog 101 #[agP x, agP y] w fun e w' => e = .returned (.int .i64 (cmpP x y)) ∧ Below w.heap.size w w' := by
  refine (compare_any x y w).mono ?_
  rintro e w' ⟨rfl, q, os, rfl⟩
  exact ⟨rfl, below_grow w q os⟩
end Go.Proofs.YtcipbkaopnaiiabGreatDoor
