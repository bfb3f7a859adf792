/-
  What place.Check and place.Text answer, over every world that holds the sentinels ErrName and ErrBound (and, for Text, strconv's table of powers) as the program lays them.
-/
import Derived.Test.YtcipbkaopnaiiacDoorPCmpA
import Derived.Test.YtcipbkaopnaiiacDoorBzA
namespace Go.Proofs.YtcipbkaopnaiiacDoor
open Go.RowKit Go.Lib Go.Sort

set_option maxHeartbeats 1000000 in
/-- place.Check. -/
theorem pcheck_any (x : Pl) (w : World) (s : Nat → Addr) (hz : x.1.size ≤ maxLen) (hs : Two w s) :
    Calls Tryd.prog 27 #[agP x] w fun e w' => e = .returned (errP s (placeErr x)) ∧ Below w.heap.size w w' := by
  obtain ⟨a, r, b⟩ := x
  unfold agP
  simp only at hz ⊢
  have hB : ∀ o, Below w.heap.size w (w.alloc o) := fun o => (Below.refl _ w).alloc (Nat.le_refl _) _
  have hs2 := hs.below (hB (.cells #[.string a, .int .i64 r, .int .i64 b] 27))
  obtain ⟨c1, c2⟩ := hs2
  have hn : ∀ w, Calls Tryd.prog 25 #[.string a] w _ := fun w => name_any a w hz
  cases h1 : isName a.data.toList with
  | false =>
    rw [h1] at hn
    have HE : Hid (errP s (placeErr (a, r, b)) = err (s 4)) := by
      show _ = _
      unfold placeErr; simp only [h1]; rfl
    clear hs
    go_enter Tryd.func27, Tryd.ntmps27
    go_wp2_with (go_at_call 25; refine (hn _).mono ?_; rintro e w1 ⟨rfl, rfl⟩)
    go_ret
    exact ⟨by rw [HE.out]; rfl, hB _⟩
  | true =>
    rw [h1] at hn
    clear hs
    have h2 : (1 ≤ r ∧ r ≤ 20 ∧ 1 ≤ b ∧ b ≤ 40) ∨ (r < 1) ∨ (1 ≤ r ∧ 20 < r) ∨ (1 ≤ r ∧ r ≤ 20 ∧ b < 1) ∨ (1 ≤ r ∧ r ≤ 20 ∧ 1 ≤ b ∧ 40 < b) := by omega
    rcases h2 with ⟨q1, q2, q3, q4⟩ | h2
    · have HE : Hid (errP s (placeErr (a, r, b)) = .nilIface) := by
        show _ = _
        have : well r b = true := by unfold well; simp [q1, q2, q3, q4]
        unfold placeErr; simp only [h1, this]; rfl
      go_enter Tryd.func27, Tryd.ntmps27
      go_wp2_with (go_at_call 25; refine (hn _).mono ?_; rintro e w1 ⟨rfl, rfl⟩)
      go_ret
      exact ⟨by rw [HE.out]; rfl, hB _⟩
    · have HE : Hid (errP s (placeErr (a, r, b)) = err (s 1)) := by
        show _ = _
        have : well r b = false := by unfold well; simp; omega
        unfold placeErr; simp only [h1, this]; rfl
      rcases h2 with h2 | ⟨q1, q2⟩ | ⟨q1, q2, q3⟩ | ⟨q1, q2, q3, q4⟩
      all_goals
        go_enter Tryd.func27, Tryd.ntmps27
        go_wp2_with (go_at_call 25; refine (hn _).mono ?_; rintro e w1 ⟨rfl, rfl⟩)
        go_ret
        exact ⟨by rw [HE.out]; rfl, hB _⟩
/-- A place as a text. -/
def ptext (x : Pl) : ByteArray := if okP x then (((x.1 ++ ⟨#[45]⟩) ++ ⟨(decDigits x.2.1.toNat).toArray⟩) ++ ⟨#[45]⟩) ++ ⟨(decDigits x.2.2.toNat).toArray⟩ else ⟨#[]⟩
/-- Four joinings, one behind the other. -/
theorem joins (a d1 d2 : ByteArray) (ha : a.size ≤ 8) (h1 : d1.size ≤ 13) (h2 : d2.size ≤ 13) : ∃ t1 t2 t3 : ByteArray,
    (∀ w, (Op.stringOp .add a ⟨#[45]⟩).run Tryd.prog w = .ok (.string t1) w) ∧ (∀ w, (Op.stringOp .add t1 d1).run Tryd.prog w = .ok (.string t2) w) ∧ (∀ w, (Op.stringOp .add t2 ⟨#[45]⟩).run Tryd.prog w = .ok (.string t3) w) ∧
    (∀ w, (Op.stringOp .add t3 d2).run Tryd.prog w = .ok (.string ((((a ++ ⟨#[45]⟩) ++ d1) ++ ⟨#[45]⟩) ++ d2)) w) := by
  have e : (⟨#[45]⟩ : ByteArray).size = 1 := rfl
  refine ⟨_, _, _, fun w => run_string_add_sum w _ _ ?_, fun w => run_string_add_sum w _ _ ?_, fun w => run_string_add_sum w _ _ ?_, fun w => run_string_add_sum w _ _ ?_⟩
  all_goals
    simp only [ByteArray.size_append, e]
    omega
set_option maxRecDepth 100000 in
set_option maxHeartbeats 4000000 in
/-- place.Text at a place that is well. -/
theorem ptext_in (x : Pl) (w : World) (s : Nat → Addr) (hz : x.1.size ≤ maxLen) (hs : Two w s) (hp : Pow w) (h : okP x = true) :
    Calls Tryd.prog 24 #[agP x] w fun e w' => e = .returned (.string (ptext x)) ∧ Below w.heap.size w w' := by
  have hc := fun w hs => pcheck_any x w s hz hs
  rw [(okP_err x).1 h, errP_zero] at hc
  obtain ⟨hn, a1, a2, a3, a4⟩ := okP_bounds h
  have ha := name_short hn
  unfold ptext
  rw [if_pos h]
  clear h hn
  obtain ⟨a, r, b⟩ := x
  unfold agP at *
  simp only at *
  have hB : ∀ o, Below w.heap.size w (w.alloc o) := fun o => (Below.refl _ w).alloc (Nat.le_refl _) _
  have hl1 := dec_size r.toNat (by omega)
  have hl2 := dec_size b.toNat (by omega)
  have hI1 := fun w1 (hb : Below w.heap.size w w1) => itoa_any r (by omega) (by omega) w1 (hp.below hb)
  have hI2 := fun w1 (hb : Below w.heap.size w w1) => itoa_any b (by omega) (by omega) w1 (hp.below hb)
  have HC : Hid (Calls Tryd.prog 27 #[.agg #[.string a, .int .i64 r, .int .i64 b]] (w.alloc (.cells #[.string a, .int .i64 r, .int .i64 b] 27)) _) := hc _ (hs.below (hB _))
  clear hc hs hp hz
  generalize (⟨(decDigits r.toNat).toArray⟩ : ByteArray) = d1 at *
  generalize (⟨(decDigits b.toNat).toArray⟩ : ByteArray) = d2 at *
  obtain ⟨t1, t2, t3, s1, s2, s3, s4⟩ := joins a d1 d2 ha hl1 hl2
  generalize ((((a ++ ⟨#[45]⟩) ++ d1) ++ ⟨#[45]⟩) ++ d2 : ByteArray) = t4 at *
  clear hl1 hl2 ha
  go_enter Tryd.func24, Tryd.ntmps24
  go_wp2_with (go_at_call 27; refine HC.out.mono ?_; rintro e w1 ⟨rfl, hb⟩; have g0 : w1.cell? ⟨w.heap.size, 0, none⟩ = some (.string a) := (hb.cell (p := ⟨w.heap.size, 0, none⟩) (by simp)).trans (by simp); have g1 : w1.cell? ⟨w.heap.size, 1, none⟩ = some (.int .i64 r) := (hb.cell (p := ⟨w.heap.size, 1, none⟩) (by simp)).trans (by simp); have g2 : w1.cell? ⟨w.heap.size, 2, none⟩ = some (.int .i64 b) := (hb.cell (p := ⟨w.heap.size, 2, none⟩) (by simp)).trans (by simp); have hb1 : Below w.heap.size w w1 := (hB _).trans (hb.mono (by simp)))
  have hbR : ∀ d os, Below w.heap.size w (grow (redrawn w1 d) os) := fun d os => hb1.trans ((below_regrown w1 d os).mono hb1.size)
  have k0 := cell_regrown g0
  have k1 := cell_regrown g1
  have k2 := cell_regrown g2
  have cI1 := fun d os => Calls.regrown_of (w := w1) (hI1 _ (hbR d os))
  have cI2 := fun d os => Calls.regrown_of (w := w1) (hI2 _ (hbR d os))
  clear g0 g1 g2 hb hb1 HC hI1 hI2
  refine wp_region_quiet_below (by kernel_rfl) (by kernel_rfl) ?_
  repeat (quiet_step (first | (go_at_call_of 12 (Value.int .i64 r); exact cI1 _ _) | (go_at_call_of 12 (Value.int .i64 b); exact cI2 _ _)))
  refine wpQuiet_nil ?_
  intro _ hw'
  obtain ⟨⟨dq, osq⟩, hw''⟩ := hw'
  subst hw''
  have hbE := hbR dq osq
  go_wp2
  go_ret
  exact ⟨rfl, hbE⟩
set_option maxHeartbeats 1000000 in
theorem ptext_out (x : Pl) (w : World) (s : Nat → Addr) (hz : x.1.size ≤ maxLen) (hs : Two w s) (h : okP x = false) :
    Calls Tryd.prog 24 #[agP x] w fun e w' => e = .returned (.string (ptext x)) ∧ Below w.heap.size w w' := by
  have hc := fun w hs => pcheck_any x w s hz hs
  have hk : placeErr x ≠ 0 := fun e => by rw [(okP_err x).2 e] at h; cases h
  rw [errP_pos s hk] at hc
  unfold ptext
  rw [h, if_neg (by decide)]
  clear h
  generalize s (placeErr x - 1) = ad at *
  obtain ⟨a, r, b⟩ := x
  unfold agP at *
  simp only at *
  have hB : ∀ o, Below w.heap.size w (w.alloc o) := fun o => (Below.refl _ w).alloc (Nat.le_refl _) _
  have HC : Hid (Calls Tryd.prog 27 #[.agg #[.string a, .int .i64 r, .int .i64 b]] (w.alloc (.cells #[.string a, .int .i64 r, .int .i64 b] 27)) _) := hc _ (hs.below (hB _))
  clear hc hs hz hk
  go_enter Tryd.func24, Tryd.ntmps24
  go_wp2_with (go_at_call 27; refine HC.out.mono ?_; rintro e w1 ⟨rfl, hb⟩)
  go_ret
  exact ⟨rfl, (hB _).trans (hb.mono (by simp))⟩
/-- place.Text. -/
theorem ptext_any (x : Pl) (w : World) (s : Nat → Addr) (hz : x.1.size ≤ maxLen) (hs : Two w s) (hp : Pow w) :
    Calls Tryd.prog 24 #[agP x] w fun e w' => e = .returned (.string (ptext x)) ∧ Below w.heap.size w w' := by
  cases h : okP x with
  | true => exact ptext_in x w s hz hs hp h
  | false => exact ptext_out x w s hz hs h
end Go.Proofs.YtcipbkaopnaiiacDoor
