/-
  What place.Steps and the reference's StepsOf answer, over every world that holds the sentinels ErrName and ErrBound as the program lays them.
-/
import Derived.Test.YtpigcjbjjnaogaaDoorPRefText
namespace Go.Proofs.YtpigcjbjjnaogaaDoor
open Go.RowKit Go.Lib Go.Sort

/-- A place lies in a block of its own. -/
structure BoxAt (n : Nat) (x : Pl) (W : World) : Prop where
  c0 : W.cell? ⟨n, 0, none⟩ = some (.string x.1)
  c1 : W.cell? ⟨n, 1, none⟩ = some (.int .i64 x.2.1)
  c2 : W.cell? ⟨n, 2, none⟩ = some (.int .i64 x.2.2)
theorem BoxAt.below {n : Nat} {x : Pl} {W W' : World} (h : BoxAt n x W) (hb : Below W.heap.size W W') : BoxAt n x W' where
  c0 := by rw [hb.cell (p := ⟨n, 0, none⟩) (cell_lt h.c0)]; exact h.c0
  c1 := by rw [hb.cell (p := ⟨n, 1, none⟩) (cell_lt h.c1)]; exact h.c1
  c2 := by rw [hb.cell (p := ⟨n, 2, none⟩) (cell_lt h.c2)]; exact h.c2
theorem BoxAt.new (w : World) (x : Pl) (t n : Nat) (hn : n = w.heap.size) : BoxAt n x (w.alloc (.cells #[.string x.1, .int .i64 x.2.1, .int .i64 x.2.2] t)) where
  c0 := by rw [World.cell?_alloc_at _ _ _ _ hn]; rfl
  c1 := by rw [World.cell?_alloc_at _ _ _ _ hn]; rfl
  c2 := by rw [World.cell?_alloc_at _ _ _ _ hn]; rfl
/-- The world of two boxed parameters. -/
abbrev boxTwo (w : World) (x y : Pl) : World := (w.alloc (.cells #[.string x.1, .int .i64 x.2.1, .int .i64 x.2.2] 47)).alloc (.cells #[.string y.1, .int .i64 y.2.1, .int .i64 y.2.2] 47)
theorem boxTwo_below (w : World) (x y : Pl) : Below w.heap.size w (boxTwo w x y) := ((Below.refl _ w).alloc (Nat.le_refl _) _).alloc (by simp) _
theorem boxTwo_first (w : World) (x y : Pl) : BoxAt w.heap.size x (boxTwo w x y) := (BoxAt.new w x _ _ rfl).below ((Below.refl _ _).alloc (Nat.le_refl _) _)
theorem boxTwo_second (w : World) (x y : Pl) : BoxAt (w.heap.size + 1) y (boxTwo w x y) := BoxAt.new _ y _ _ (by simp)

set_option maxHeartbeats 1000000 in
theorem steps_first (x y : Pl) (w : World) (s : Nat → Addr) (hx : x.1.size ≤ maxLen) (hs : Two w s) (h : okP x = false) :
    Calls Tryd.prog 31 #[agP x, agP y] w fun e w' => e = .returned (.int .i64 0) ∧ Below w.heap.size w w' := by
  have hB := boxTwo_below w x y
  have hc := pcheck_any x _ s hx (hs.below hB)
  have hk : placeErr x ≠ 0 := fun e => by rw [(okP_err x).2 e] at h; cases h
  rw [errP_pos s hk] at hc
  clear h
  generalize s (placeErr x - 1) = ad at *
  obtain ⟨a, r, b⟩ := x
  obtain ⟨a', r', b'⟩ := y
  unfold agP boxTwo at *
  simp only at *
  have HC : Hid (Calls Tryd.prog 25 _ _ _) := hc
  have HB : Hid (Below _ _ _) := hB
  clear hc hs hx hk hB
  go_enter Tryd.func31, Tryd.ntmps31
  go_wp2_with (go_at_call 25; refine HC.out.mono ?_; rintro e w1 ⟨rfl, hb⟩)
  go_ret
  exact ⟨rfl, HB.out.trans (hb.mono HB.out.size)⟩
set_option maxHeartbeats 1000000 in
theorem steps_second (x y : Pl) (w : World) (s : Nat → Addr) (hx : x.1.size ≤ maxLen) (hy : y.1.size ≤ maxLen) (hs : Two w s) (hok : okP x = true) (h : okP y = false) :
    Calls Tryd.prog 31 #[agP x, agP y] w fun e w' => e = .returned (.int .i64 0) ∧ Below w.heap.size w w' := by
  have hB := boxTwo_below w x y
  have hb1 := boxTwo_first w x y
  have hb2 := boxTwo_second w x y
  have hc := pcheck_any x _ s hx (hs.below hB)
  rw [(okP_err x).1 hok, errP_zero] at hc
  have hc2 := fun w1 (hb : Below w.heap.size w w1) => pcheck_any y w1 s hy (hs.below hb)
  have hk : placeErr y ≠ 0 := fun e => by rw [(okP_err y).2 e] at h; cases h
  rw [errP_pos s hk] at hc2
  clear h hok
  generalize s (placeErr y - 1) = ad at *
  obtain ⟨a, r, b⟩ := x
  obtain ⟨a', r', b'⟩ := y
  unfold agP boxTwo at *
  simp only at *
  have HC : Hid (Calls Tryd.prog 25 _ _ _) := hc
  have HC2 : Hid (∀ w1 (hb : Below w.heap.size w w1), Calls Tryd.prog 25 _ w1 _) := hc2
  have HB : Hid (Below _ _ _) := hB
  clear hc hc2 hs hx hy hk hB
  go_enter Tryd.func31, Tryd.ntmps31
  go_wp2_with (first
    | (go_at_call 25; refine HC.out.mono ?_; rintro e w1 ⟨rfl, hb⟩; obtain ⟨c0, c1, c2⟩ := hb2.below hb; have hbw : Below w.heap.size w w1 := HB.out.trans (hb.mono HB.out.size); clear HC)
    | (go_at_call 25; refine (HC2.out _ hbw).mono ?_; rintro e w2 ⟨rfl, hb'⟩))
  go_ret
  exact ⟨rfl, hbw.trans (hb'.mono hbw.size)⟩
set_option maxRecDepth 100000 in
set_option maxHeartbeats 2000000 in
theorem steps_in (x y : Pl) (w : World) (s : Nat → Addr) (hx : x.1.size ≤ maxLen) (hy : y.1.size ≤ maxLen) (hs : Two w s) (hok : okP x = true) (hok' : okP y = true) :
    Calls Tryd.prog 31 #[agP x, agP y] w fun e w' => e = .returned (.int .i64 (stepsP x y)) ∧ Below w.heap.size w w' := by
  have hB := boxTwo_below w x y
  have hb1 := boxTwo_first w x y
  have hb2 := boxTwo_second w x y
  have hc := pcheck_any x _ s hx (hs.below hB)
  rw [(okP_err x).1 hok, errP_zero] at hc
  have hc2 := fun w1 (hb : Below w.heap.size w w1) => pcheck_any y w1 s hy (hs.below hb)
  rw [(okP_err y).1 hok', errP_zero] at hc2
  obtain ⟨_, a1, a2, a3, a4⟩ := okP_bounds hok
  obtain ⟨_, b1, b2, b3, b4⟩ := okP_bounds hok'
  unfold stepsP
  rw [hok, hok', Bool.and_self, if_pos rfl]
  clear hok hok'
  obtain ⟨a, r, b⟩ := x
  obtain ⟨a', r', b'⟩ := y
  unfold agP boxTwo at *
  simp only at *
  have hfr := fun w => apart_any r r' w a1 (by omega) b1 (by omega)
  have hfb := fun w => apart_any b b' w a3 a4 b3 b4
  have f1 := farI_nonneg r r'
  have f2 := farI_le a1 b1 a2 b2
  have HC : Hid (Calls Tryd.prog 25 _ _ _) := hc
  have HC2 : Hid (∀ w1 (hb : Below w.heap.size w w1), Calls Tryd.prog 25 _ w1 _) := hc2
  have HB : Hid (Below _ _ _) := hB
  clear hc hc2 hs hx hy hB
  generalize farI r r' = fr at *
  generalize farI b b' = fb at *
  by_cases ez : a = a'
  · rw [if_pos ez]
    subst ez
    by_cases er : r = r'
    · rw [if_pos er]
      subst er
      go_enter Tryd.func31, Tryd.ntmps31
      go_wp2_with (first
        | (go_at_call 25; refine HC.out.mono ?_; rintro e w1 ⟨rfl, hb⟩; have hb1' := hb1.below hb; have hb2' := hb2.below hb; obtain ⟨c0, c1, c2⟩ := hb1'; obtain ⟨d0, d1, d2⟩ := hb2'; have hbw : Below w.heap.size w w1 := HB.out.trans (hb.mono HB.out.size); clear HC)
        | (go_at_call 25; refine (HC2.out _ hbw).mono ?_; rintro e w2 ⟨rfl, hb'⟩; obtain ⟨c0', c1', c2'⟩ := (hb1.below hb).below hb'; obtain ⟨d0', d1', d2'⟩ := (hb2.below hb).below hb')
        | (go_at_call 45; refine (hfb _).mono ?_; rintro e w3 ⟨rfl, rfl⟩))
      go_ret
      exact ⟨rfl, hbw.trans (hb'.mono hbw.size)⟩
    · rw [if_neg er]
      have er' : (r == r') = false := by simpa using er
      clear er
      go_enter Tryd.func31, Tryd.ntmps31
      go_wp2_with (first
        | (go_at_call 25; refine HC.out.mono ?_; rintro e w1 ⟨rfl, hb⟩; have hb1' := hb1.below hb; have hb2' := hb2.below hb; obtain ⟨c0, c1, c2⟩ := hb1'; obtain ⟨d0, d1, d2⟩ := hb2'; have hbw : Below w.heap.size w w1 := HB.out.trans (hb.mono HB.out.size); clear HC)
        | (go_at_call 25; refine (HC2.out _ hbw).mono ?_; rintro e w2 ⟨rfl, hb'⟩; obtain ⟨c0', c1', c2'⟩ := (hb1.below hb).below hb'; obtain ⟨d0', d1', d2'⟩ := (hb2.below hb).below hb'))
      go_quiet ((go_at_call 45; exact Calls.quiet_of_same (hfr _)))
      go_wp2
      go_ret
      exact ⟨rfl, (hbw.trans (hb'.mono hbw.size)).trans (below_drewN (Below.refl _ _) _)⟩
  · rw [if_neg ez]
    have e3 := same_eq a a'
    rw [decide_eq_false ez] at e3
    clear ez
    go_enter Tryd.func31, Tryd.ntmps31
    go_wp2_with (first
        | (go_at_call 25; refine HC.out.mono ?_; rintro e w1 ⟨rfl, hb⟩; have hb1' := hb1.below hb; have hb2' := hb2.below hb; obtain ⟨c0, c1, c2⟩ := hb1'; obtain ⟨d0, d1, d2⟩ := hb2'; have hbw : Below w.heap.size w w1 := HB.out.trans (hb.mono HB.out.size); clear HC)
        | (go_at_call 25; refine (HC2.out _ hbw).mono ?_; rintro e w2 ⟨rfl, hb'⟩; obtain ⟨c0', c1', c2'⟩ := (hb1.below hb).below hb'; obtain ⟨d0', d1', d2'⟩ := (hb2.below hb).below hb'))
    go_ret
    exact ⟨rfl, hbw.trans (hb'.mono hbw.size)⟩
/-- place.Steps. -/
theorem steps_any (x y : Pl) (w : World) (s : Nat → Addr) (hx : x.1.size ≤ maxLen) (hy : y.1.size ≤ maxLen) (hs : Two w s) :
    Calls Tryd.prog 31 #[agP x, agP y] w fun e w' => e = .returned (.int .i64 (stepsP x y)) ∧ Below w.heap.size w w' := by
  cases h : okP x with
  | false =>
    have e : stepsP x y = 0 := by unfold stepsP; rw [h]; rfl
    rw [e]
    exact steps_first x y w s hx hs h
  | true =>
    cases h' : okP y with
    | false =>
      have e : stepsP x y = 0 := by unfold stepsP; rw [h, h']; rfl
      rw [e]
      exact steps_second x y w s hx hy hs h h'
    | true => exact steps_in x y w s hx hy hs h h'
end Go.Proofs.YtpigcjbjjnaogaaDoor
