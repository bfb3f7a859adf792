/-
  What the reference's PlaceText answers, over whatever world.
-/
import Derived.Test.YtgdhfipbbijngaaGreatDoorEzB
namespace Go.Proofs.YtgdhfipbbijngaaGreatDoor
open Go.RowKit Go.Lib Go.Sort

set_option maxRecDepth 100000 in
set_option maxHeartbeats 1000000 in
/-- PlaceText at a place that is well. -/
theorem placeText_in (x : Pl) (w : World) (hz : x.1.size ≤ maxLen) (h : okP x = true) :
    Calls Tryz.prog 33 #[agP x] w fun e w' => e = .returned (.string (ptext x)) ∧ Below w.heap.size w w' := by
  have hc : ∀ w, Calls Tryz.prog 27 #[agP x] w fun e w' => e = .returned (.int .i64 0) ∧ Below w.heap.size w w' := fun w => by
    have := placeError_any x w hz
    rw [(okP_err x).1 h] at this
    exact this
  obtain ⟨hn, a1, a2, a3, a4⟩ := okP_bounds h
  have ha := name_short hn
  unfold ptext
  rw [if_pos h]
  clear h hn
  obtain ⟨a, r, b⟩ := x
  unfold agP at *
  simp only at *
  have hB : ∀ o, Below w.heap.size w (w.alloc o) := fun o => (Below.refl _ w).alloc (Nat.le_refl _) _
  have hl1 := dec_size r.toNat (by omega)
  have hl2 := dec_size b.toNat (by omega)
  have hI1 := fun w1 => refDecimal r (by omega) (by omega) w1
  have hI2 := fun w1 => refDecimal b (by omega) (by omega) w1
  have HC : Hid (Calls Tryz.prog 27 #[.agg #[.string a, .int .i64 r, .int .i64 b]] (w.alloc (.cells #[.string a, .int .i64 r, .int .i64 b] 27)) _) := hc _
  clear hc hz
  generalize (⟨(decDigits r.toNat).toArray⟩ : ByteArray) = d1 at *
  generalize (⟨(decDigits b.toNat).toArray⟩ : ByteArray) = d2 at *
  obtain ⟨t1, t2, t3, s1, s2, s3, s4⟩ := joins a d1 d2 ha hl1 hl2
  generalize ((((a ++ ⟨#[45]⟩) ++ d1) ++ ⟨#[45]⟩) ++ d2 : ByteArray) = t4 at *
  clear hl1 hl2 ha
  go_enter Tryz.func33, Tryz.ntmps33
  go_wp2_with (go_at_call 27; refine HC.out.mono ?_; rintro e w1 ⟨rfl, hb⟩; have g0 : w1.cell? ⟨w.heap.size, 0, none⟩ = some (.string a) := (hb.cell (p := ⟨w.heap.size, 0, none⟩) (by simp)).trans (by simp); have g1 : w1.cell? ⟨w.heap.size, 1, none⟩ = some (.int .i64 r) := (hb.cell (p := ⟨w.heap.size, 1, none⟩) (by simp)).trans (by simp); have g2 : w1.cell? ⟨w.heap.size, 2, none⟩ = some (.int .i64 b) := (hb.cell (p := ⟨w.heap.size, 2, none⟩) (by simp)).trans (by simp); have hb1 : Below w.heap.size w w1 := (hB _).trans (hb.mono (by simp)))
  have hbR : ∀ d os, Below w.heap.size w (grow (redrawn w1 d) os) := fun d os => hb1.trans ((below_regrown w1 d os).mono hb1.size)
  have k0 := cell_regrown g0
  have k1 := cell_regrown g1
  have k2 := cell_regrown g2
  have cI1 := fun d os => Calls.regrown_of (w := w1) (d := d) (os := os) (hI1 _)
  have cI2 := fun d os => Calls.regrown_of (w := w1) (d := d) (os := os) (hI2 _)
  clear g0 g1 g2 hb hb1 HC hI1 hI2
  refine wp_region_quiet_below (by kernel_rfl) (by kernel_rfl) ?_
  repeat (quiet_step (first | (go_at_call_of 31 (Value.int .i64 r); exact cI1 _ _) | (go_at_call_of 31 (Value.int .i64 b); exact cI2 _ _)))
  refine wpQuiet_nil ?_
  intro _ hw'
  obtain ⟨⟨dq, osq⟩, hw''⟩ := hw'
  subst hw''
  have hbE := hbR dq osq
  go_wp2
  go_ret
  exact ⟨rfl, hbE⟩
set_option maxHeartbeats 1000000 in
theorem placeText_out (x : Pl) (w : World) (hz : x.1.size ≤ maxLen) (h : okP x = false) :
    Calls Tryz.prog 33 #[agP x] w fun e w' => e = .returned (.string (ptext x)) ∧ Below w.heap.size w w' := by
  have hc := fun w => placeError_any x w hz
  have hk : (0 : Int) < (placeErr x : Int) := by
    have : placeErr x ≠ 0 := fun e => by rw [(okP_err x).2 e] at h; cases h
    omega
  unfold ptext
  rw [h, if_neg (by decide)]
  clear h
  generalize (placeErr x : Int) = k at *
  obtain ⟨a, r, b⟩ := x
  unfold agP at *
  simp only at *
  have hB : ∀ o, Below w.heap.size w (w.alloc o) := fun o => (Below.refl _ w).alloc (Nat.le_refl _) _
  have HC : Hid (Calls Tryz.prog 27 #[.agg #[.string a, .int .i64 r, .int .i64 b]] (w.alloc (.cells #[.string a, .int .i64 r, .int .i64 b] 27)) _) := hc _
  clear hc hz
  go_enter Tryz.func33, Tryz.ntmps33
  go_wp2_with (go_at_call 27; refine HC.out.mono ?_; rintro e w1 ⟨rfl, hb⟩)
  go_ret
  exact ⟨rfl, (hB _).trans (hb.mono (by simp))⟩
/-- PlaceText. -/
theorem placeText_any (x : Pl) (w : World) (hz : x.1.size ≤ maxLen) :
    Calls Tryz.prog 33 #[agP x] w fun e w' => e = .returned (.string (ptext x)) ∧ Below w.heap.size w w' := by
  cases h : okP x with
  | true => exact placeText_in x w hz h
  | false => exact placeText_out x w hz h
end Go.Proofs.YtgdhfipbbijngaaGreatDoor
