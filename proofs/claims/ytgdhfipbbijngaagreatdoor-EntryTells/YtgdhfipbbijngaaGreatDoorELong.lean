/-
  The closed fact of the laws on entries, and what LongEntry answers; over every world that holds the sentinels and strconv's table of powers as the program lays them.
-/
import Derived.Test.YtgdhfipbbijngaaGreatDoorEText
namespace Go.Proofs.YtgdhfipbbijngaaGreatDoor
open Go.RowKit Go.Lib Go.Sort

def e0 : En := (kIn, zeroG, (⟨#[108, 49]⟩, ⟨#[]⟩, 0, 0), zeroP, (⟨#[97]⟩, 1, 2), 5)
theorem e0_ok : entErr e0 = 0 := by decide
theorem e0_text : etext e0 = ⟨#[105, 110, 32, 108, 49, 32, 97, 45, 49, 45, 50, 32, 53]⟩ := by
  have e1 : decDigits 1 = [49] := by rw [decDigits_one (by decide)]; rfl
  have e2 : decDigits 2 = [50] := by rw [decDigits_one (by decide)]; rfl
  have e5 : decDigits 5 = [53] := by rw [decDigits_one (by decide)]; rfl
  have h1 : pbytes (⟨#[97]⟩, 1, 2) = [97, 45, 49, 45, 50] := by
    rw [pbytes_ok (by decide)]
    show [97] ++ 45 :: (decDigits 1 ++ 45 :: decDigits 2) = _
    rw [e1, e2]; rfl
  rw [etext_ok e0_ok]
  have h2 : entB e0 = [105, 110] ++ 32 :: ([108, 49] ++ 32 :: (pbytes (⟨#[97]⟩, 1, 2) ++ 32 :: decDigits 5)) := rfl
  rw [h2, h1, e5]
  rfl
theorem e0_sz : SzE e0 := ⟨by decide, by decide, by decide, by decide, by decide, by decide⟩
set_option maxRecDepth 100000 in
set_option maxHeartbeats 4000000 in
theorem entered_any (w : World) (s : Nat → Addr) (hs : Es w s) (hp : Pow w) :
    Calls Tryz.prog 4 #[] w fun e w' => e = .returned (.bool true) ∧ Below w.heap.size w w' := by
  have hB : Below w.heap.size w (w.alloc (celE e0)) := (Below.refl _ w).alloc (Nat.le_refl _) _
  have hT := etext_any e0 (w.alloc (celE e0)) s e0_sz (hs.below hB) (hp.below hB)
  rw [e0_text] at hT
  have HT : Hid (Calls Tryz.prog 11 _ _ _) := hT
  have HB : Hid (Below _ _ _) := hB
  clear hT hB hs hp
  unfold e0 celE agE zeroG zeroP at HT
  unfold e0 celE zeroG zeroP at HB
  simp only at HT HB
  go_enter Tryz.func4, Tryz.ntmps4
  go_wp2_with (go_at_call 11; refine HT.out.mono ?_; rintro e w1 ⟨rfl, hb⟩)
  go_ret
  exact ⟨rfl, HB.out.trans (hb.mono HB.out.size)⟩
/-- Is an entry too long for a law? -/
def longE (e : En) : Bool := decide (20 < e.1.size) || (decide (30 < e.2.1.1.size) || (decide (30 < e.2.2.1.1.size) || (decide (30 < e.2.2.1.2.1.size) || (decide (30 < e.2.2.2.1.1.size) || decide (30 < e.2.2.2.2.1.1.size)))))
theorem longE_cases (e : En) : (longE e = true ∧ ((20 < e.1.size) ∨ (e.1.size ≤ 20 ∧ 30 < e.2.1.1.size) ∨ (e.1.size ≤ 20 ∧ e.2.1.1.size ≤ 30 ∧ 30 < e.2.2.1.1.size) ∨ (e.1.size ≤ 20 ∧ e.2.1.1.size ≤ 30 ∧ e.2.2.1.1.size ≤ 30 ∧ 30 < e.2.2.1.2.1.size) ∨ (e.1.size ≤ 20 ∧ e.2.1.1.size ≤ 30 ∧ e.2.2.1.1.size ≤ 30 ∧ e.2.2.1.2.1.size ≤ 30 ∧ 30 < e.2.2.2.1.1.size) ∨ (e.1.size ≤ 20 ∧ e.2.1.1.size ≤ 30 ∧ e.2.2.1.1.size ≤ 30 ∧ e.2.2.1.2.1.size ≤ 30 ∧ e.2.2.2.1.1.size ≤ 30 ∧ 30 < e.2.2.2.2.1.1.size))) ∨ (longE e = false ∧ e.1.size ≤ 20 ∧ e.2.1.1.size ≤ 30 ∧ e.2.2.1.1.size ≤ 30 ∧ e.2.2.1.2.1.size ≤ 30 ∧ e.2.2.2.1.1.size ≤ 30 ∧ e.2.2.2.2.1.1.size ≤ 30) := by
  unfold longE
  cases h : (decide (20 < e.1.size) || (decide (30 < e.2.1.1.size) || (decide (30 < e.2.2.1.1.size) || (decide (30 < e.2.2.1.2.1.size) || (decide (30 < e.2.2.2.1.1.size) || decide (30 < e.2.2.2.2.1.1.size)))))) with
  | true =>
    simp only [Bool.or_eq_true, decide_eq_true_eq] at h
    exact Or.inl ⟨rfl, by omega⟩
  | false =>
    simp only [Bool.or_eq_false_iff, decide_eq_false_iff_not] at h
    exact Or.inr ⟨rfl, by omega⟩
set_option maxRecDepth 100000 in
set_option maxHeartbeats 8000000 in
theorem long_any (e : En) (w : World) (hz : SzE e) :
    Calls Tryz.prog 5 #[agE e] w fun r w' => r = .returned (.int .i64 (if longE e then 1 else 0)) ∧ Below w.heap.size w w' := by
  have hB : Below w.heap.size w (w.alloc (celE e)) := (Below.refl _ w).alloc (Nat.le_refl _) _
  have hc := longE_cases e
  obtain ⟨m0, m1, m2, m3, m4, m5⟩ := hz
  unfold maxLen at m0 m1 m2 m3 m4 m5
  obtain ⟨k, ⟨gc, gp⟩, ⟨li, lc, lu, lk⟩, ⟨fz, fr, fb⟩, ⟨tz, tr, tb⟩, n⟩ := e
  unfold agE celE at *
  simp only at *
  rcases hc with ⟨h, hc⟩ | ⟨h, q1, q2, q3, q4, q5, q6⟩
  · rw [h, if_pos rfl]
    clear h
    rcases hc with q1 | ⟨q1, q2⟩ | ⟨q1, q2, q3⟩ | ⟨q1, q2, q3, q4⟩ | ⟨q1, q2, q3, q4, q5⟩ | ⟨q1, q2, q3, q4, q5, q6⟩
    all_goals
      go_enter Tryz.func5, Tryz.ntmps5
      go_wp2
      go_ret
      exact ⟨rfl, hB⟩
  · rw [h, if_neg (by decide)]
    clear h
    go_enter Tryz.func5, Tryz.ntmps5
    go_wp2
    go_ret
    exact ⟨rfl, hB⟩
end Go.Proofs.YtgdhfipbbijngaaGreatDoor
