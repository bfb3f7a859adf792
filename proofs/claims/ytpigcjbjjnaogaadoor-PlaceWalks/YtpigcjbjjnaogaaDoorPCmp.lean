/-
  What cmp.Compare, cmp.Or, place.Compare, place.Ahead and the reference's IsAhead answer, over whatever world: the order of places by the way; nothing old is turned.
-/
import Derived.Test.YtpigcjbjjnaogaaDoorPMath
import Derived.Deep.RegionHeld3
import Derived.Sort.Walk0
import Derived.Laws.Cover1
import Derived.Shelf.SlSortCmp.WholeK
namespace Go.Proofs.YtpigcjbjjnaogaaDoor
open Go.RowKit Go.Lib Go.Sort

/-- A place's cells, a place as a value. -/
def encP (x : Pl) : List Value := [.string x.1, .int .i64 x.2.1, .int .i64 x.2.2]
abbrev agP (x : Pl) : Value := .agg #[.string x.1, .int .i64 x.2.1, .int .i64 x.2.2]

theorem nanS (x : ByteArray) (w : World) : Calls Tryd.prog 71 #[.string x] w fun e w' => e = .returned (.bool false) ∧ w' = w := by
  go_enter Tryd.func71, Tryd.ntmps71
  go_wp2
  go_ret
  exact ⟨by simp, rfl⟩
theorem nanI (x : Int) (w : World) : Calls Tryd.prog 72 #[.int .i64 x] w fun e w' => e = .returned (.bool false) ∧ w' = w := by
  go_enter Tryd.func72, Tryd.ntmps72
  go_wp2
  go_ret
  exact ⟨by simp, rfl⟩
theorem less_eq (x y : ByteArray) : Op.bytesLess x.toList y.toList = zLt x y := by
  rw [bytesLess_eq, Lib.toList_data, Lib.toList_data]; rfl
theorem cmpI_any (x y : Int) (w : World) : Calls Tryd.prog 62 #[.int .i64 x, .int .i64 y] w fun e w' => e = .returned (.int .i64 (compareInt x y)) ∧ w' = w := by
  go_enter Tryd.func62, Tryd.ntmps62
  go_wp2_with (go_at_call 72; refine (nanI _ _).mono ?_; rintro e w1 ⟨rfl, rfl⟩)
  all_goals (go_ret; refine ⟨?_, rfl⟩; unfold Lib.compareInt; (repeat' split) <;> first | rfl | (exfalso; omega))
theorem same_eq (x y : ByteArray) : (x.toList == y.toList) = decide (x = y) := by
  rw [Lib.toList_data, Lib.toList_data, Bool.eq_iff_iff]
  simp only [beq_iff_eq, decide_eq_true_eq]
  constructor
  · intro h; cases x; cases y; simp at h; simp [h]
  · rintro rfl; rfl
theorem cmpS_any (x y : ByteArray) (w : World) : Calls Tryd.prog 61 #[.string x, .string y] w fun e w' => e = .returned (.int .i64 (cmpZ x y)) ∧ w' = w := by
  have e1 := less_eq x y
  have e3 := same_eq x y
  rcases cmpZ_cases x y with ⟨h1, h2, h3, h4⟩ | ⟨h1, h2, h3, h4⟩ | ⟨h1, h2, h3, h4⟩
  · rw [h1] at e1
    rw [h4]
    clear h1 h2 h3 h4 e3
    go_enter Tryd.func61, Tryd.ntmps61
    go_wp2_with (go_at_call 71; refine (nanS _ _).mono ?_; rintro e w1 ⟨rfl, rfl⟩)
    go_ret
    exact ⟨rfl, rfl⟩
  · rw [h1] at e1
    rw [decide_eq_false h3] at e3
    rw [h4]
    clear h1 h2 h3 h4
    go_enter Tryd.func61, Tryd.ntmps61
    go_wp2_with (go_at_call 71; refine (nanS _ _).mono ?_; rintro e w1 ⟨rfl, rfl⟩)
    go_ret
    exact ⟨rfl, rfl⟩
  · rw [h1] at e1
    rw [h4]
    subst h3
    clear h1 h2 h4 e3
    go_enter Tryd.func61, Tryd.ntmps61
    go_wp2_with (go_at_call 71; refine (nanS _ _).mono ?_; rintro e w1 ⟨rfl, rfl⟩)
    go_ret
    exact ⟨rfl, rfl⟩
theorem baysI_any (r a b : Int) (w : World) : Calls Tryd.prog 63 #[.int .i64 r, .int .i64 a, .int .i64 b] w fun e w' => e = .returned (.int .i64 (bays r a b)) ∧ w' = w := by
  unfold bays
  by_cases h : r.tmod 2 = 0
  · rw [if_pos h]
    have hb : (r.tmod 2 == 0) = true := by simpa using h
    go_enter Tryd.func63, Tryd.ntmps63
    go_wp2_with (go_at_call 62; refine (cmpI_any _ _ _).mono ?_; rintro e w1 ⟨rfl, rfl⟩)
    go_ret
    exact ⟨rfl, rfl⟩
  · rw [if_neg h]
    have hb : (r.tmod 2 == 0) = false := by simpa using h
    go_enter Tryd.func63, Tryd.ntmps63
    go_wp2_with (go_at_call 62; refine (cmpI_any _ _ _).mono ?_; rintro e w1 ⟨rfl, rfl⟩)
    go_ret
    exact ⟨rfl, rfl⟩
theorem or3_any (b c0 : Nat) (x y z : Int) (w : World) (h0 : w.cell? ⟨b, 0, none⟩ = some (.int .i64 x)) (h1 : w.cell? ⟨b, 1, none⟩ = some (.int .i64 y)) (h2 : w.cell? ⟨b, 2, none⟩ = some (.int .i64 z)) :
    Calls Tryd.prog 60 #[.slice (some ⟨b, 0, none⟩) 3 c0] w fun e w' => e = .returned (.int .i64 (or3 x y z)) ∧ w' = w := by
  unfold or3
  by_cases hx : x = 0
  · have hx' : (x == 0) = true := by simpa using hx
    rw [if_pos hx]
    by_cases hy : y = 0
    · have hy' : (y == 0) = true := by simpa using hy
      rw [if_pos hy]
      by_cases hz : z = 0
      · have hz' : (z == 0) = true := by simpa using hz
        rw [hz] at h2 ⊢
        clear hx hy hz
        go_enter Tryd.func60, Tryd.ntmps60
        go_wp2
        refine wp_loop_rounds 4 ?_
        rw [rounds_succ]; go_wp2
        rw [rounds_succ]; go_wp2
        rw [rounds_succ]; go_wp2
        rw [rounds_succ]; go_wp2
        go_ret
        exact ⟨rfl, rfl⟩
      · have hz' : (z == 0) = false := by simpa using hz
        clear hx hy hz
        go_enter Tryd.func60, Tryd.ntmps60
        go_wp2
        refine wp_loop_rounds 4 ?_
        rw [rounds_succ]; go_wp2
        rw [rounds_succ]; go_wp2
        rw [rounds_succ]; go_wp2
        go_ret
        exact ⟨rfl, rfl⟩
    · have hy' : (y == 0) = false := by simpa using hy
      rw [if_neg hy]
      clear hx hy
      go_enter Tryd.func60, Tryd.ntmps60
      go_wp2
      refine wp_loop_rounds 4 ?_
      rw [rounds_succ]; go_wp2
      rw [rounds_succ]; go_wp2
      go_ret
      exact ⟨rfl, rfl⟩
  · have hx' : (x == 0) = false := by simpa using hx
    rw [if_neg hx]
    clear hx
    go_enter Tryd.func60, Tryd.ntmps60
    go_wp2
    refine wp_loop_rounds 4 ?_
    rw [rounds_succ]; go_wp2
    go_ret
    exact ⟨rfl, rfl⟩

theorem new_cell {W : World} (c : Array Value) (t n i : Nat) (v : Value) (hn : n = W.heap.size) (h : c[i]? = some v) : (W.alloc (.cells c t)).drew.cell? ⟨n, i, none⟩ = some v := by
  show (W.alloc (.cells c t)).cell? ⟨n, i, none⟩ = some v
  rw [World.cell?_alloc_at c t n i hn]; exact h
theorem grow_three (w : World) (o1 o2 o3 : Obj) : (((w.alloc o1).alloc o2).alloc o3).drew = grow (w.drewN 1) #[o1, o2, o3] := by
  rw [alloc_eq_grow, alloc_eq_grow, alloc_eq_grow, grow_grow, grow_grow]; rfl
set_option maxHeartbeats 4000000 in
/-- place.Compare. -/
theorem compare_any (x y : Pl) (w : World) : Calls Tryd.prog 44 #[agP x, agP y] w fun e w' => e = .returned (.int .i64 (cmpP x y)) ∧ ∃ q os, w' = grow (w.drewN q) os := by
  obtain ⟨a, r, b⟩ := x
  obtain ⟨a', r', b'⟩ := y
  unfold cmpP agP
  simp only
  have h1 := fun w => cmpS_any a a' w
  have h2 := fun w => cmpI_any r r' w
  have h3 := fun w => baysI_any r b b' w
  generalize cmpZ a a' = c1 at *
  generalize compareInt r r' = c2 at *
  generalize bays r b b' = c3 at *
  have h4 := fun bk c w => or3_any bk c c1 c2 c3 w
  generalize or3 c1 c2 c3 = c4 at *
  go_enter Tryd.func44, Tryd.ntmps44
  go_wp2
  go_region_held3 (fun w' => w'.cell? ⟨w.heap.size, 0, none⟩ = some (.string a) ∧ w'.cell? ⟨w.heap.size, 1, none⟩ = some (.int .i64 r) ∧ w'.cell? ⟨w.heap.size, 2, none⟩ = some (.int .i64 b) ∧ w'.cell? ⟨w.heap.size + 1, 0, none⟩ = some (.string a') ∧ w'.cell? ⟨w.heap.size + 1, 1, none⟩ = some (.int .i64 r') ∧ w'.cell? ⟨w.heap.size + 1, 2, none⟩ = some (.int .i64 b')) (go_keep)
    (first | (go_at_call 61; refine (h1 _).mono ?_; rintro e w1 ⟨rfl, rfl⟩) | (go_at_call 62; refine (h2 _).mono ?_; rintro e w1 ⟨rfl, rfl⟩) | (go_at_call 63; refine (h3 _).mono ?_; rintro e w1 ⟨rfl, rfl⟩) | (go_at_call 60; refine (h4 _ _ _ (new_cell _ _ _ _ _ (by simp) rfl) (new_cell _ _ _ _ _ (by simp) rfl) (new_cell _ _ _ _ _ (by simp) rfl)).mono ?_; rintro e w1 ⟨rfl, rfl⟩))
  go_wp2
  go_ret
  exact ⟨rfl, 1, _, grow_three _ _ _ _⟩
theorem compare_below (x y : Pl) (w : World) : Calls Tryd.prog 44 #[agP x, agP y] w fun e w' => e = .returned (.int .i64 (cmpP x y)) ∧ Below w.heap.size w w' := by
  refine (compare_any x y w).mono ?_
  rintro e w' ⟨rfl, q, os, rfl⟩
  exact ⟨rfl, below_grow w q os⟩
/-- place.Ahead. -/
theorem ahead_any (x y : Pl) (w : World) : Calls Tryd.prog 30 #[agP x, agP y] w fun e w' => e = .returned (.bool (aheadP x y)) ∧ Below w.heap.size w w' := by
  have h := fun w => compare_below x y w
  unfold aheadP
  obtain ⟨a, r, b⟩ := x
  obtain ⟨a', r', b'⟩ := y
  generalize cmpP (a, r, b) (a', r', b') = c at *
  unfold agP at *
  simp only at *
  go_enter Tryd.func30, Tryd.ntmps30
  go_wp2_with (go_at_call 44; refine (h _).mono ?_; rintro e w1 ⟨rfl, hb⟩)
  go_ret
  exact ⟨rfl, (((Below.refl _ w).alloc (Nat.le_refl _) _).alloc (by simp) _).trans (hb.mono (by simp; omega))⟩
theorem tmod_two (r : Int) : r.tmod 2 = 0 ∨ r.tmod 2 ≠ 0 := Decidable.em _
set_option maxHeartbeats 1000000 in
/-- IsAhead. -/
theorem isAhead_any (x y : Pl) (w : World) : Calls Tryd.prog 29 #[agP x, agP y] w fun e w' => e = .returned (.bool (aheadP x y)) ∧ Below w.heap.size w w' := by
  obtain ⟨a, r, b⟩ := x
  obtain ⟨a', r', b'⟩ := y
  unfold agP
  simp only
  have hB : ∀ o o', Below w.heap.size w ((w.alloc o).alloc o') := fun o o' => ((Below.refl _ w).alloc (Nat.le_refl _) _).alloc (by simp) _
  have e1 := less_eq a a'
  by_cases hz : a = a'
  · subst hz
    by_cases hr : r = r'
    · subst hr
      by_cases hp : r.tmod 2 = 0
      · have hp' : (r.tmod 2 == 0) = true := by simpa using hp
        have HE : Hid (aheadP (a, r, b) (a, r, b') = decide (b' < b)) := by
          show _ = _
          rw [Bool.eq_iff_iff, aheadP_iff]; unfold aheadW; simp [zLt_irrefl, hp]
        clear hp e1
        go_enter Tryd.func29, Tryd.ntmps29
        go_wp2
        go_ret
        exact ⟨by rw [HE.out]; rfl, hB _ _⟩
      · have hp' : (r.tmod 2 == 0) = false := by simpa using hp
        have HE : Hid (aheadP (a, r, b) (a, r, b') = decide (b < b')) := by
          show _ = _
          rw [Bool.eq_iff_iff, aheadP_iff]; unfold aheadW; simp [zLt_irrefl, hp]
        clear hp e1
        go_enter Tryd.func29, Tryd.ntmps29
        go_wp2
        go_ret
        exact ⟨by rw [HE.out]; rfl, hB _ _⟩
    · have hr' : (r == r') = false := by simpa using hr
      have HE : Hid (aheadP (a, r, b) (a, r', b') = decide (r < r')) := by
        show _ = _
        rw [Bool.eq_iff_iff, aheadP_iff]; unfold aheadW; simp [zLt_irrefl, hr]
      clear hr e1
      go_enter Tryd.func29, Tryd.ntmps29
      go_wp2
      go_ret
      exact ⟨by rw [HE.out]; rfl, hB _ _⟩
  · have e3 := same_eq a a'
    rw [decide_eq_false hz] at e3
    have HE : Hid (aheadP (a, r, b) (a', r', b') = zLt a a') := by
      show _ = _
      rw [Bool.eq_iff_iff, aheadP_iff]; unfold aheadW; simp [hz]
    have H1 : Hid (Op.bytesLess a.toList a'.toList = zLt a a') := e1
    clear e1 hz
    go_enter Tryd.func29, Tryd.ntmps29
    go_wp2
    go_ret
    exact ⟨by rw [HE.out, ← H1.out]; rfl, hB _ _⟩
end Go.Proofs.YtpigcjbjjnaogaaDoor
