/-
  What lot.Check, lot.Text and the reference's LotError, LotText answer, over every world that holds the sentinels ErrName and ErrBound (and, for Text, strconv's table of powers) as the program lays them.
-/
import Derived.Test.YtcipbkaopnaiiacDoorLBox
import Derived.Test.YtcipbkaopnaiiacDoorBzA
namespace Go.Proofs.YtcipbkaopnaiiacDoor
open Go.RowKit Go.Lib Go.Sort

/-- Where a lot's numbers are not well. -/
theorem not_well {u k : Int} (h : wellL u k = false) : (u < 0) ∨ (0 ≤ u ∧ 100000 < u) ∨ (0 ≤ u ∧ u ≤ 100000 ∧ k < 0) ∨ (0 ≤ u ∧ u ≤ 100000 ∧ 0 ≤ k ∧ 1048576 < k) := by
  unfold wellL at h; simp at h; omega
theorem is_well {u k : Int} (h : wellL u k = true) : 0 ≤ u ∧ u ≤ 100000 ∧ 0 ≤ k ∧ k ≤ 1048576 := by
  unfold wellL at h; simp at h; omega
set_option maxHeartbeats 1000000 in
/-- lot.Check. -/
theorem lcheck_any (x : Lo) (w : World) (s : Nat → Addr) (hz : x.1.size ≤ maxLen) (hz2 : x.2.1.size ≤ maxLen) (hs : Two w s) :
    Calls Tryd.prog 16 #[agL x] w fun e w' => e = .returned (errP s (lotErr x)) ∧ Below w.heap.size w w' := by
  obtain ⟨a, c, u, k⟩ := x
  unfold agL
  simp only at hz hz2 ⊢
  have hB : ∀ o, Below w.heap.size w (w.alloc o) := fun o => (Below.refl _ w).alloc (Nat.le_refl _) _
  have hs2 := hs.below (hB (.cells #[.string a, .string c, .int .i64 u, .int .i64 k] 25))
  obtain ⟨c1, c2⟩ := hs2
  have hn : ∀ w, Calls Tryd.prog 25 #[.string a] w _ := fun w => name_any a w hz
  have hm : ∀ w, Calls Tryd.prog 25 #[.string c] w _ := fun w => name_any c w hz2
  clear hs hz hz2
  cases h1 : isName a.data.toList with
  | false =>
    rw [h1] at hn
    have HE : Hid (errP s (lotErr (a, c, u, k)) = err (s 4)) := by
      show _ = _
      unfold lotErr namesL; simp only [h1]; rfl
    clear hm
    go_enter Tryd.func16, Tryd.ntmps16
    go_wp2_with (go_at_call 25; refine (hn _).mono ?_; rintro e w1 ⟨rfl, rfl⟩)
    go_ret
    exact ⟨by rw [HE.out]; rfl, hB _⟩
  | true =>
    rw [h1] at hn
    cases h2 : isName c.data.toList with
    | false =>
      rw [h2] at hm
      have HE : Hid (errP s (lotErr (a, c, u, k)) = err (s 4)) := by
        show _ = _
        unfold lotErr namesL; simp only [h1, h2]; rfl
      go_enter Tryd.func16, Tryd.ntmps16
      go_wp2_with (first | (go_at_call_of 25 (Value.string a); refine (hn _).mono ?_; rintro e w1 ⟨rfl, rfl⟩) | (go_at_call_of 25 (Value.string c); refine (hm _).mono ?_; rintro e w2 ⟨rfl, rfl⟩))
      go_ret
      exact ⟨by rw [HE.out]; rfl, hB _⟩
    | true =>
      rw [h2] at hm
      cases h3 : wellL u k with
      | true =>
        have HE : Hid (errP s (lotErr (a, c, u, k)) = .nilIface) := by
          show _ = _
          unfold lotErr namesL; simp only [h1, h2, h3]; rfl
        obtain ⟨q1, q2, q3, q4⟩ := is_well h3
        clear h3
        go_enter Tryd.func16, Tryd.ntmps16
        go_wp2_with (first | (go_at_call_of 25 (Value.string a); refine (hn _).mono ?_; rintro e w1 ⟨rfl, rfl⟩) | (go_at_call_of 25 (Value.string c); refine (hm _).mono ?_; rintro e w2 ⟨rfl, rfl⟩))
        go_ret
        exact ⟨by rw [HE.out]; rfl, hB _⟩
      | false =>
        have HE : Hid (errP s (lotErr (a, c, u, k)) = err (s 1)) := by
          show _ = _
          unfold lotErr namesL; simp only [h1, h2, h3]; rfl
        rcases not_well h3 with q1 | ⟨q1, q2⟩ | ⟨q1, q2, q3⟩ | ⟨q1, q2, q3, q4⟩
        all_goals
          clear h3
          go_enter Tryd.func16, Tryd.ntmps16
          go_wp2_with (first | (go_at_call_of 25 (Value.string a); refine (hn _).mono ?_; rintro e w1 ⟨rfl, rfl⟩) | (go_at_call_of 25 (Value.string c); refine (hm _).mono ?_; rintro e w2 ⟨rfl, rfl⟩))
          go_ret
          exact ⟨by rw [HE.out]; rfl, hB _⟩
/-- A lot as a text. -/
def ltext (x : Lo) : ByteArray := if okL x then (((((x.1 ++ ⟨#[32]⟩) ++ x.2.1) ++ ⟨#[32]⟩) ++ ⟨(decDigits x.2.2.1.toNat).toArray⟩) ++ ⟨#[32]⟩) ++ ⟨(decDigits x.2.2.2.toNat).toArray⟩ else ⟨#[]⟩
/-- Six joinings, one behind the other. -/
theorem joins6 (a c d1 d2 : ByteArray) (ha : a.size ≤ 8) (hc : c.size ≤ 8) (h1 : d1.size ≤ 13) (h2 : d2.size ≤ 13) : ∃ t1 t2 t3 t4 t5 : ByteArray,
    (∀ w, (Op.stringOp .add a ⟨#[32]⟩).run Tryd.prog w = .ok (.string t1) w) ∧ (∀ w, (Op.stringOp .add t1 c).run Tryd.prog w = .ok (.string t2) w) ∧ (∀ w, (Op.stringOp .add t2 ⟨#[32]⟩).run Tryd.prog w = .ok (.string t3) w) ∧
    (∀ w, (Op.stringOp .add t3 d1).run Tryd.prog w = .ok (.string t4) w) ∧ (∀ w, (Op.stringOp .add t4 ⟨#[32]⟩).run Tryd.prog w = .ok (.string t5) w) ∧
    (∀ w, (Op.stringOp .add t5 d2).run Tryd.prog w = .ok (.string ((((((a ++ ⟨#[32]⟩) ++ c) ++ ⟨#[32]⟩) ++ d1) ++ ⟨#[32]⟩) ++ d2)) w) := by
  have e : (⟨#[32]⟩ : ByteArray).size = 1 := rfl
  refine ⟨_, _, _, _, _, fun w => run_string_add_sum w _ _ ?_, fun w => run_string_add_sum w _ _ ?_, fun w => run_string_add_sum w _ _ ?_, fun w => run_string_add_sum w _ _ ?_, fun w => run_string_add_sum w _ _ ?_, fun w => run_string_add_sum w _ _ ?_⟩
  all_goals
    simp only [ByteArray.size_append, e]
    omega
set_option maxRecDepth 100000 in
set_option maxHeartbeats 4000000 in
/-- lot.Text at a lot that is well. -/
theorem ltext_in (x : Lo) (w : World) (s : Nat → Addr) (hz : x.1.size ≤ maxLen) (hz2 : x.2.1.size ≤ maxLen) (hs : Two w s) (hp : Pow w) (h : okL x = true) :
    Calls Tryd.prog 13 #[agL x] w fun e w' => e = .returned (.string (ltext x)) ∧ Below w.heap.size w w' := by
  have hc := fun w hs => lcheck_any x w s hz hz2 hs
  rw [(okL_err x).1 h, errP_zero] at hc
  obtain ⟨hn, hn', a1, a2, a3, a4⟩ := okL_bounds h
  have ha := name_short hn
  have hcs := name_short hn'
  unfold ltext
  rw [if_pos h]
  clear h hn hn'
  obtain ⟨a, c, u, k⟩ := x
  unfold agL at *
  simp only at *
  have hB : ∀ o, Below w.heap.size w (w.alloc o) := fun o => (Below.refl _ w).alloc (Nat.le_refl _) _
  have hl1 := dec_size u.toNat (by omega)
  have hl2 := dec_size k.toNat (by omega)
  have hI1 := fun w1 (hb : Below w.heap.size w w1) => itoa_any u (by omega) (by omega) w1 (hp.below hb)
  have hI2 := fun w1 (hb : Below w.heap.size w w1) => itoa_any k (by omega) (by omega) w1 (hp.below hb)
  have HC : Hid (Calls Tryd.prog 16 #[.agg #[.string a, .string c, .int .i64 u, .int .i64 k]] (w.alloc (.cells #[.string a, .string c, .int .i64 u, .int .i64 k] 25)) _) := hc _ (hs.below (hB _))
  have HK : BoxL w.heap.size (a, c, u, k) (w.alloc (.cells #[.string a, .string c, .int .i64 u, .int .i64 k] 25)) := BoxL.new w (a, c, u, k) _ rfl
  clear hc hs hp hz hz2
  generalize (⟨(decDigits u.toNat).toArray⟩ : ByteArray) = d1 at *
  generalize (⟨(decDigits k.toNat).toArray⟩ : ByteArray) = d2 at *
  obtain ⟨t1, t2, t3, t4, t5, s1, s2, s3, s4, s5, s6⟩ := joins6 a c d1 d2 ha hcs hl1 hl2
  generalize ((((((a ++ ⟨#[32]⟩) ++ c) ++ ⟨#[32]⟩) ++ d1) ++ ⟨#[32]⟩) ++ d2 : ByteArray) = t6 at *
  clear hl1 hl2 ha hcs
  go_enter Tryd.func13, Tryd.ntmps13
  go_wp2_with (go_at_call 16; refine HC.out.mono ?_; rintro e w1 ⟨rfl, hb⟩; have hK1 := HK.below hb; have hb1 : Below w.heap.size w w1 := (hB _).trans (hb.mono (by simp)))
  have hbR : ∀ d os, Below w.heap.size w (grow (redrawn w1 d) os) := fun d os => hb1.trans ((below_regrown w1 d os).mono hb1.size)
  have k0 := cell_regrown hK1.c0
  have k1 := cell_regrown hK1.c1
  have k2 := cell_regrown hK1.c2
  have k3 := cell_regrown hK1.c3
  have cI1 := fun d os => Calls.regrown_of (w := w1) (hI1 _ (hbR d os))
  have cI2 := fun d os => Calls.regrown_of (w := w1) (hI2 _ (hbR d os))
  clear HK hK1 hb hb1 HC hI1 hI2
  simp only at k0 k1 k2 k3
  refine wp_region_quiet_below (by kernel_rfl) (by kernel_rfl) ?_
  repeat (quiet_step (first | (go_at_call_of 12 (Value.int .i64 u); exact cI1 _ _) | (go_at_call_of 12 (Value.int .i64 k); exact cI2 _ _)))
  refine wpQuiet_nil ?_
  intro _ hw'
  obtain ⟨⟨dq, osq⟩, hw''⟩ := hw'
  subst hw''
  have hbE := hbR dq osq
  go_wp2
  go_ret
  exact ⟨rfl, hbE⟩
set_option maxHeartbeats 1000000 in
theorem ltext_out (x : Lo) (w : World) (s : Nat → Addr) (hz : x.1.size ≤ maxLen) (hz2 : x.2.1.size ≤ maxLen) (hs : Two w s) (h : okL x = false) :
    Calls Tryd.prog 13 #[agL x] w fun e w' => e = .returned (.string (ltext x)) ∧ Below w.heap.size w w' := by
  have hc := fun w hs => lcheck_any x w s hz hz2 hs
  have hk : lotErr x ≠ 0 := fun e => by rw [(okL_err x).2 e] at h; cases h
  rw [errP_pos s hk] at hc
  unfold ltext
  rw [h, if_neg (by decide)]
  clear h
  generalize s (lotErr x - 1) = ad at *
  obtain ⟨a, c, u, k⟩ := x
  unfold agL at *
  simp only at *
  have hB : ∀ o, Below w.heap.size w (w.alloc o) := fun o => (Below.refl _ w).alloc (Nat.le_refl _) _
  have HC : Hid (Calls Tryd.prog 16 #[.agg #[.string a, .string c, .int .i64 u, .int .i64 k]] (w.alloc (.cells #[.string a, .string c, .int .i64 u, .int .i64 k] 25)) _) := hc _ (hs.below (hB _))
  clear hc hs hz hz2 hk
  go_enter Tryd.func13, Tryd.ntmps13
  go_wp2_with (go_at_call 16; refine HC.out.mono ?_; rintro e w1 ⟨rfl, hb⟩)
  go_ret
  exact ⟨rfl, (hB _).trans (hb.mono (by simp))⟩
/-- lot.Text. -/
theorem ltext_any (x : Lo) (w : World) (s : Nat → Addr) (hz : x.1.size ≤ maxLen) (hz2 : x.2.1.size ≤ maxLen) (hs : Two w s) (hp : Pow w) :
    Calls Tryd.prog 13 #[agL x] w fun e w' => e = .returned (.string (ltext x)) ∧ Below w.heap.size w w' := by
  cases h : okL x with
  | true => exact ltext_in x w s hz hz2 hs hp h
  | false => exact ltext_out x w s hz hz2 hs h

end Go.Proofs.YtcipbkaopnaiiacDoor
