/-
  What the reference's StepsOf answers, over whatever world.
-/
import Derived.Test.YtpigcjbjjnaogaaDoorPSteps
namespace Go.Proofs.YtpigcjbjjnaogaaDoor
open Go.RowKit Go.Lib Go.Sort

theorem ret_int {k : IntKind} {a b : Int} (h : a = b) : Ending.returned (.int k a) = .returned (.int k b) := by rw [h]
set_option maxHeartbeats 1000000 in
theorem stepsOf_first (x y : Pl) (w : World) (hx : x.1.size ≤ maxLen) (h : okP x = false) :
    Calls Tryd.prog 32 #[agP x, agP y] w fun e w' => e = .returned (.int .i64 0) ∧ Below w.heap.size w w' := by
  have hB := boxTwo_below w x y
  have hc := placeError_any x (boxTwo w x y) hx
  have hk : (0 : Int) < (placeErr x : Int) := by
    have : placeErr x ≠ 0 := fun e => by rw [(okP_err x).2 e] at h; cases h
    omega
  clear h
  generalize (placeErr x : Int) = k at *
  obtain ⟨a, r, b⟩ := x
  obtain ⟨a', r', b'⟩ := y
  unfold agP boxTwo at *
  simp only at *
  have HC : Hid (Calls Tryd.prog 26 _ _ _) := hc
  have HB : Hid (Below _ _ _) := hB
  clear hc hx hB
  go_enter Tryd.func32, Tryd.ntmps32
  go_wp2_with (go_at_call 26; refine HC.out.mono ?_; rintro e w1 ⟨rfl, hb⟩)
  go_ret
  exact ⟨rfl, HB.out.trans (hb.mono HB.out.size)⟩
set_option maxHeartbeats 1000000 in
theorem stepsOf_second (x y : Pl) (w : World) (hx : x.1.size ≤ maxLen) (hy : y.1.size ≤ maxLen) (hok : okP x = true) (h : okP y = false) :
    Calls Tryd.prog 32 #[agP x, agP y] w fun e w' => e = .returned (.int .i64 0) ∧ Below w.heap.size w w' := by
  have hB := boxTwo_below w x y
  have hb1 := boxTwo_first w x y
  have hb2 := boxTwo_second w x y
  have hc := placeError_any x (boxTwo w x y) hx
  rw [(okP_err x).1 hok] at hc
  simp only [Int.cast_ofNat_Int] at hc
  have hc2 := fun w1 => placeError_any y w1 hy
  have hk : (0 : Int) < (placeErr y : Int) := by
    have : placeErr y ≠ 0 := fun e => by rw [(okP_err y).2 e] at h; cases h
    omega
  clear h hok
  generalize (placeErr y : Int) = k at *
  obtain ⟨a, r, b⟩ := x
  obtain ⟨a', r', b'⟩ := y
  unfold agP boxTwo at *
  simp only at *
  have HC : Hid (Calls Tryd.prog 26 _ _ _) := hc
  have HC2 : Hid (∀ w1, Calls Tryd.prog 26 _ w1 _) := hc2
  have HB : Hid (Below _ _ _) := hB
  clear hc hc2 hx hy hB
  go_enter Tryd.func32, Tryd.ntmps32
  go_wp2_with (first
    | (go_at_call 26; refine HC.out.mono ?_; rintro e w1 ⟨rfl, hb⟩; obtain ⟨c0, c1, c2⟩ := hb2.below hb; have hbw : Below w.heap.size w w1 := HB.out.trans (hb.mono HB.out.size); clear HC)
    | (go_at_call 26; refine (HC2.out _).mono ?_; rintro e w2 ⟨rfl, hb'⟩))
  go_ret
  exact ⟨rfl, hbw.trans (hb'.mono hbw.size)⟩
set_option maxRecDepth 100000 in
set_option maxHeartbeats 2000000 in
theorem stepsOf_in (x y : Pl) (w : World) (hx : x.1.size ≤ maxLen) (hy : y.1.size ≤ maxLen) (hok : okP x = true) (hok' : okP y = true) :
    Calls Tryd.prog 32 #[agP x, agP y] w fun e w' => e = .returned (.int .i64 (stepsP x y)) ∧ Below w.heap.size w w' := by
  have hB := boxTwo_below w x y
  have hb1 := boxTwo_first w x y
  have hb2 := boxTwo_second w x y
  have hc := placeError_any x (boxTwo w x y) hx
  rw [(okP_err x).1 hok] at hc
  simp only [Int.cast_ofNat_Int] at hc
  have hc2 := fun w1 => placeError_any y w1 hy
  rw [(okP_err y).1 hok'] at hc2
  simp only [Int.cast_ofNat_Int] at hc2
  obtain ⟨_, a1, a2, a3, a4⟩ := okP_bounds hok
  obtain ⟨_, b1, b2, b3, b4⟩ := okP_bounds hok'
  unfold stepsP
  rw [hok, hok', Bool.and_self, if_pos rfl]
  clear hok hok'
  obtain ⟨a, r, b⟩ := x
  obtain ⟨a', r', b'⟩ := y
  unfold agP boxTwo at *
  simp only at *
  have hfr := fun w => far_any r r' w a1 (by omega) b1 (by omega)
  have hfb := fun w => far_any b b' w a3 a4 b3 b4
  have f1 := farI_nonneg r r'
  have f2 := farI_le a1 b1 a2 b2
  have HC : Hid (Calls Tryd.prog 26 _ _ _) := hc
  have HC2 : Hid (∀ w1, Calls Tryd.prog 26 _ w1 _) := hc2
  have HB : Hid (Below _ _ _) := hB
  clear hc hc2 hx hy hB
  generalize farI r r' = fr at *
  generalize farI b b' = fb at *
  by_cases ez : a = a'
  · rw [if_pos ez]
    subst ez
    by_cases er : r = r'
    · rw [if_pos er]
      subst er
      go_enter Tryd.func32, Tryd.ntmps32
      go_wp2_with (first
        | (go_at_call 26; refine HC.out.mono ?_; rintro e w1 ⟨rfl, hb⟩; have hb1' := hb1.below hb; have hb2' := hb2.below hb; obtain ⟨c0, c1, c2⟩ := hb1'; obtain ⟨d0, d1, d2⟩ := hb2'; have hbw : Below w.heap.size w w1 := HB.out.trans (hb.mono HB.out.size); clear HC)
        | (go_at_call 26; refine (HC2.out _).mono ?_; rintro e w2 ⟨rfl, hb'⟩; obtain ⟨c0', c1', c2'⟩ := (hb1.below hb).below hb'; obtain ⟨d0', d1', d2'⟩ := (hb2.below hb).below hb')
        | (go_at_call 46; refine (hfb _).mono ?_; rintro e w3 ⟨rfl, rfl⟩))
      go_ret
      exact ⟨rfl, hbw.trans (hb'.mono hbw.size)⟩
    · rw [if_neg er]
      have er' : (r == r') = false := by simpa using er
      clear er
      go_enter Tryd.func32, Tryd.ntmps32
      go_wp2_with (first
        | (go_at_call 26; refine HC.out.mono ?_; rintro e w1 ⟨rfl, hb⟩; have hb1' := hb1.below hb; have hb2' := hb2.below hb; obtain ⟨c0, c1, c2⟩ := hb1'; obtain ⟨d0, d1, d2⟩ := hb2'; have hbw : Below w.heap.size w w1 := HB.out.trans (hb.mono HB.out.size); clear HC)
        | (go_at_call 26; refine (HC2.out _).mono ?_; rintro e w2 ⟨rfl, hb'⟩; obtain ⟨c0', c1', c2'⟩ := (hb1.below hb).below hb'; obtain ⟨d0', d1', d2'⟩ := (hb2.below hb).below hb'))
      go_quiet ((go_at_call 46; exact Calls.quiet_of_same (hfr _)))
      go_wp2
      go_ret
      exact ⟨rfl, (hbw.trans (hb'.mono hbw.size)).trans (below_drewN (Below.refl _ _) _)⟩
  · rw [if_neg ez]
    have e3 := same_eq a a'
    rw [decide_eq_false ez] at e3
    clear ez
    go_enter Tryd.func32, Tryd.ntmps32
    go_wp2_with (first
        | (go_at_call 26; refine HC.out.mono ?_; rintro e w1 ⟨rfl, hb⟩; have hb1' := hb1.below hb; have hb2' := hb2.below hb; obtain ⟨c0, c1, c2⟩ := hb1'; obtain ⟨d0, d1, d2⟩ := hb2'; have hbw : Below w.heap.size w w1 := HB.out.trans (hb.mono HB.out.size); clear HC)
        | (go_at_call 26; refine (HC2.out _).mono ?_; rintro e w2 ⟨rfl, hb'⟩; obtain ⟨c0', c1', c2'⟩ := (hb1.below hb).below hb'; obtain ⟨d0', d1', d2'⟩ := (hb2.below hb).below hb'))
    go_ret
    exact ⟨ret_int (by omega), hbw.trans (hb'.mono hbw.size)⟩
/-- place.Steps. -/
theorem stepsOf_any (x y : Pl) (w : World) (hx : x.1.size ≤ maxLen) (hy : y.1.size ≤ maxLen) :
    Calls Tryd.prog 32 #[agP x, agP y] w fun e w' => e = .returned (.int .i64 (stepsP x y)) ∧ Below w.heap.size w w' := by
  cases h : okP x with
  | false =>
    have e : stepsP x y = 0 := by unfold stepsP; rw [h]; rfl
    rw [e]
    exact stepsOf_first x y w hx h
  | true =>
    cases h' : okP y with
    | false =>
      have e : stepsP x y = 0 := by unfold stepsP; rw [h, h']; rfl
      rw [e]
      exact stepsOf_second x y w hx hy h h'
    | true => exact stepsOf_in x y w hx hy h h'
end Go.Proofs.YtpigcjbjjnaogaaDoor
