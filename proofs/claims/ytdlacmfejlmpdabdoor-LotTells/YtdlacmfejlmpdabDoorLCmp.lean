/-
  What lot.Compare, lot.Sooner, lot.Good and the reference's IsSooner answer, over whatever world; nothing old is turned.
-/
import Derived.Test.YtdlacmfejlmpdabDoorLMath
import Derived.Test.YtdlacmfejlmpdabDoorCom
namespace Go.Proofs.YtdlacmfejlmpdabDoor
open Go.RowKit Go.Lib Go.Sort

/-- A lot's cells, a lot as a value. -/
def encL (x : Lo) : List Value := [.string x.1, .string x.2.1, .int .i64 x.2.2.1, .int .i64 x.2.2.2]
abbrev agL (x : Lo) : Value := .agg #[.string x.1, .string x.2.1, .int .i64 x.2.2.1, .int .i64 x.2.2.2]
/-- A lot lies in a block of its own. -/
structure BoxL (n : Nat) (x : Lo) (W : World) : Prop where
  c0 : W.cell? ⟨n, 0, none⟩ = some (.string x.1)
  c1 : W.cell? ⟨n, 1, none⟩ = some (.string x.2.1)
  c2 : W.cell? ⟨n, 2, none⟩ = some (.int .i64 x.2.2.1)
  c3 : W.cell? ⟨n, 3, none⟩ = some (.int .i64 x.2.2.2)
theorem BoxL.below {n : Nat} {x : Lo} {W W' : World} (h : BoxL n x W) (hb : Below W.heap.size W W') : BoxL n x W' where
  c0 := by rw [hb.cell (p := ⟨n, 0, none⟩) (cell_lt h.c0)]; exact h.c0
  c1 := by rw [hb.cell (p := ⟨n, 1, none⟩) (cell_lt h.c1)]; exact h.c1
  c2 := by rw [hb.cell (p := ⟨n, 2, none⟩) (cell_lt h.c2)]; exact h.c2
  c3 := by rw [hb.cell (p := ⟨n, 3, none⟩) (cell_lt h.c3)]; exact h.c3
abbrev boxL (w : World) (x : Lo) : World := w.alloc (.cells #[.string x.1, .string x.2.1, .int .i64 x.2.2.1, .int .i64 x.2.2.2] 23)
theorem BoxL.new (w : World) (x : Lo) (n : Nat) (hn : n = w.heap.size) : BoxL n x (boxL w x) where
  c0 := by rw [World.cell?_alloc_at _ _ _ _ hn]; rfl
  c1 := by rw [World.cell?_alloc_at _ _ _ _ hn]; rfl
  c2 := by rw [World.cell?_alloc_at _ _ _ _ hn]; rfl
  c3 := by rw [World.cell?_alloc_at _ _ _ _ hn]; rfl
theorem boxL_below (w : World) (x : Lo) : Below w.heap.size w (boxL w x) := (Below.refl _ w).alloc (Nat.le_refl _) _
/-- The world of two boxed parameters. -/
abbrev boxL2 (w : World) (x y : Lo) : World := boxL (boxL w x) y
theorem boxL2_below (w : World) (x y : Lo) : Below w.heap.size w (boxL2 w x y) := ((Below.refl _ w).alloc (Nat.le_refl _) _).alloc (by simp) _
theorem boxL2_first (w : World) (x y : Lo) : BoxL w.heap.size x (boxL2 w x y) := (BoxL.new w x _ rfl).below ((Below.refl _ _).alloc (Nat.le_refl _) _)
theorem boxL2_second (w : World) (x y : Lo) : BoxL (w.heap.size + 1) y (boxL2 w x y) := BoxL.new _ y _ (by simp)

set_option maxHeartbeats 4000000 in
/-- lot.Compare. -/
theorem lcompare_any (x y : Lo) (w : World) : Calls Tryd.prog 25 #[agL x, agL y] w fun e w' => e = .returned (.int .i64 (cmpL x y)) ∧ ∃ q os, w' = grow (w.drewN q) os := by
  obtain ⟨a, c, u, k⟩ := x
  obtain ⟨a', c', u', k'⟩ := y
  unfold cmpL agL
  simp only
  have h1 := fun w => cmpS_any a a' w
  have h2 := fun w => cmpI_any u u' w
  generalize cmpZ a a' = c1 at *
  generalize compareInt u u' = c2 at *
  have h4 := fun bk c w => or2_any bk c c2 c1 w
  generalize or2 c2 c1 = c4 at *
  go_enter Tryd.func25, Tryd.ntmps25
  go_wp2
  go_region_held3 (fun w' => w'.cell? ⟨w.heap.size, 0, none⟩ = some (.string a) ∧ w'.cell? ⟨w.heap.size, 2, none⟩ = some (.int .i64 u) ∧ w'.cell? ⟨w.heap.size + 1, 0, none⟩ = some (.string a') ∧ w'.cell? ⟨w.heap.size + 1, 2, none⟩ = some (.int .i64 u')) (go_keep)
    (first | (go_at_call 37; refine (h1 _).mono ?_; rintro e w1 ⟨rfl, rfl⟩) | (go_at_call 36; refine (h2 _).mono ?_; rintro e w1 ⟨rfl, rfl⟩) | (go_at_call 35; refine (h4 _ _ _ (new_cell _ _ _ _ _ (by simp) rfl) (new_cell _ _ _ _ _ (by simp) rfl)).mono ?_; rintro e w1 ⟨rfl, rfl⟩))
  go_wp2
  go_ret
  exact ⟨rfl, 1, _, grow_three _ _ _ _⟩
theorem lcompare_below (x y : Lo) (w : World) : Calls Tryd.prog 25 #[agL x, agL y] w fun e w' => e = .returned (.int .i64 (cmpL x y)) ∧ Below w.heap.size w w' := by
  refine (lcompare_any x y w).mono ?_
  rintro e w' ⟨rfl, q, os, rfl⟩
  exact ⟨rfl, below_grow w q os⟩
/-- lot.Sooner. -/
theorem sooner_any (x y : Lo) (w : World) : Calls Tryd.prog 15 #[agL x, agL y] w fun e w' => e = .returned (.bool (soonL x y)) ∧ Below w.heap.size w w' := by
  have h := fun w => lcompare_below x y w
  unfold soonL
  obtain ⟨a, c, u, k⟩ := x
  obtain ⟨a', c', u', k'⟩ := y
  generalize cmpL (a, c, u, k) (a', c', u', k') = cc at *
  unfold agL at *
  simp only at *
  go_enter Tryd.func15, Tryd.ntmps15
  go_wp2_with (go_at_call 25; refine (h _).mono ?_; rintro e w1 ⟨rfl, hb⟩)
  go_ret
  exact ⟨rfl, (((Below.refl _ w).alloc (Nat.le_refl _) _).alloc (by simp) _).trans (hb.mono (by simp; omega))⟩
/-- lot.Good. -/
theorem good_any (x : Lo) (day : Int) (w : World) : Calls Tryd.prog 16 #[agL x, .int .i64 day] w fun e w' => e = .returned (.bool (decide (day ≤ x.2.2.1))) ∧ Below w.heap.size w w' := by
  obtain ⟨a, c, u, k⟩ := x
  unfold agL
  simp only
  go_enter Tryd.func16, Tryd.ntmps16
  go_wp2
  go_ret
  exact ⟨rfl, (Below.refl _ w).alloc (Nat.le_refl _) _⟩
set_option maxHeartbeats 1000000 in
/-- IsSooner. -/
theorem isSooner_any (x y : Lo) (w : World) : Calls Tryd.prog 14 #[agL x, agL y] w fun e w' => e = .returned (.bool (soonL x y)) ∧ Below w.heap.size w w' := by
  obtain ⟨a, c, u, k⟩ := x
  obtain ⟨a', c', u', k'⟩ := y
  unfold agL
  simp only
  have hB : ∀ o o', Below w.heap.size w ((w.alloc o).alloc o') := fun o o' => ((Below.refl _ w).alloc (Nat.le_refl _) _).alloc (by simp) _
  have e1 := less_eq a a'
  rcases Int.lt_trichotomy u u' with hu | hu | hu
  · have HE : Hid (soonL (a, c, u, k) (a', c', u', k') = true) := by
      show _ = _
      rw [soonL_iff]; exact Or.inl hu
    clear e1
    go_enter Tryd.func14, Tryd.ntmps14
    go_wp2
    go_ret
    exact ⟨by rw [HE.out]; rfl, hB _ _⟩
  · subst hu
    have HE : Hid (soonL (a, c, u, k) (a', c', u, k') = zLt a a') := by
      show _ = _
      rw [Bool.eq_iff_iff, soonL_iff]; unfold soonW; simp
    have hn : ¬ u < u := by omega
    have H1 : Hid (Op.bytesLess a.toList a'.toList = zLt a a') := e1
    clear e1
    go_enter Tryd.func14, Tryd.ntmps14
    go_wp2
    go_ret
    exact ⟨by rw [HE.out, ← H1.out]; simp, hB _ _⟩
  · have HE : Hid (soonL (a, c, u, k) (a', c', u', k') = false) := by
      show _ = _
      rw [soonL_no]; unfold soonW; simp; omega
    have hn : ¬ u < u' := by omega
    have hn' : (u == u') = false := by simp; omega
    clear e1
    go_enter Tryd.func14, Tryd.ntmps14
    go_wp2
    go_ret
    exact ⟨by rw [HE.out]; first | rfl | simp, hB _ _⟩
end Go.Proofs.YtdlacmfejlmpdabDoor
