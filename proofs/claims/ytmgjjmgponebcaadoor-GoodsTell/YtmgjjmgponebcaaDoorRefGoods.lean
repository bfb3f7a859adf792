/-
  What the reference's PiecesText and ReadPieces answer: textOf and readOf.
-/
import Derived.Test.YtmgjjmgponebcaaDoorName
namespace Go.Proofs.YtmgjjmgponebcaaDoor
open Go.RowKit Go.Lib Go.Sort

theorem rem_eq (n pack : Int) : n - n / pack * pack = n % pack := by
  have := Int.mul_ediv_add_emod n pack
  rw [Int.mul_comm] at this
  omega

theorem pt_none (n pack : Int) (w : World) (h : ¬ (0 ≤ n ∧ n ≤ maxQ ∧ pw pack = true)) : Calls Tryd.prog 16 #[.int .i64 n, .int .i64 pack] w fun e w' => e = .returned (.string ⟨#[]⟩) ∧ w' = w := by
  have hq : maxQ = 1099511627776 := rfl
  have h' : n < 0 ∨ (0 ≤ n ∧ 1099511627776 < n) ∨ (0 ≤ n ∧ n ≤ 1099511627776 ∧ pack < 1) ∨ (0 ≤ n ∧ n ≤ 1099511627776 ∧ 1 ≤ pack ∧ 1000 < pack) := by
    have hp : pw pack = true ↔ 1 ≤ pack ∧ pack ≤ 1000 := by unfold pw; simp
    rw [hp, hq] at h
    omega
  clear h hq
  rcases h' with h1 | ⟨h1, h2⟩ | ⟨h1, h2, h3⟩ | ⟨h1, h2, h3, h4⟩
  all_goals
    go_enter Tryd.func16, Tryd.ntmps16
    go_wp2
    go_ret
    exact ⟨rfl, rfl⟩
set_option maxHeartbeats 1000000 in
theorem pt_few (n pack : Int) (w : World) (h0 : 0 ≤ n) (h1 : n ≤ 1099511627776) (p1 : 1 ≤ pack) (p2 : pack ≤ 1000) (h : pack = 1 ∨ n < pack) :
    Calls Tryd.prog 16 #[.int .i64 n, .int .i64 pack] w fun e w' => e = .returned (.string ⟨(decDigits n.toNat).toArray⟩) ∧ Below w.heap.size w w' := by
  have hi := refDecimal n h0 (by omega) w
  have H : Hid (Calls Tryd.prog 25 #[.int .i64 n] w fun e w' => e = .returned (.string ⟨(decDigits n.toNat).toArray⟩) ∧ Below w.heap.size w w') := hi
  clear hi
  by_cases h3 : pack = 1
  · subst h3
    clear h
    go_enter Tryd.func16, Tryd.ntmps16
    go_wp2_with (go_at_call 25; refine H.out.mono ?_; rintro e w1 ⟨rfl, hb⟩)
    go_ret
    exact ⟨rfl, hb⟩
  · have h4 : (pack == 1) = false := by simpa using h3
    have h5 : n < pack := by omega
    clear h h3
    go_enter Tryd.func16, Tryd.ntmps16
    go_wp2_with (go_at_call 25; refine H.out.mono ?_; rintro e w1 ⟨rfl, hb⟩)
    go_ret
    exact ⟨rfl, hb⟩
set_option maxHeartbeats 1000000 in
theorem pt_even (n pack : Int) (w : World) (h0 : 0 ≤ n) (h1 : n ≤ 1099511627776) (p1 : 1 ≤ pack) (p2 : pack ≤ 1000) (h : ¬ (pack = 1 ∨ n < pack)) (hr : n % pack = 0) :
    Calls Tryd.prog 16 #[.int .i64 n, .int .i64 pack] w fun e w' => e = .returned (.string ⟨(decDigits (n / pack).toNat ++ [99]).toArray⟩) ∧ Below w.heap.size w w' := by
  have h3 : (pack == 1) = false := by simp; omega
  have h4 : pack ≤ n := by omega
  have hd0 : 0 ≤ n / pack := Int.ediv_nonneg h0 (by omega)
  have hd1 : n / pack ≤ n := Int.ediv_le_self pack h0
  have he := rem_eq n pack
  have hr0 := Int.emod_nonneg n (show pack ≠ 0 by omega)
  have hm1 : 0 ≤ n / pack * pack := Int.mul_nonneg hd0 (by omega)
  have hm2 : n / pack * pack ≤ n := by omega
  have hr' : (n - n / pack * pack == 0) = true := by rw [he]; simpa using hr
  have hl1 := dec_short (n / pack).toNat (by omega)
  rw [← str_append]
  clear h hr he hr0
  go_enter Tryd.func16, Tryd.ntmps16
  go_wp2_with (go_at_call 25; refine (refDecimal _ hd0 (by omega) _).mono ?_; rintro e w1 ⟨rfl, hb⟩)
  go_ret
  exact ⟨rfl, hb⟩
set_option maxHeartbeats 1000000 in
theorem pt_odd (n pack : Int) (w : World) (h0 : 0 ≤ n) (h1 : n ≤ 1099511627776) (p1 : 1 ≤ pack) (p2 : pack ≤ 1000) (h : ¬ (pack = 1 ∨ n < pack)) (hr : n % pack ≠ 0) :
    Calls Tryd.prog 16 #[.int .i64 n, .int .i64 pack] w fun e w' => e = .returned (.string ⟨(decDigits (n / pack).toNat ++ 99 :: decDigits (n % pack).toNat).toArray⟩) ∧ Below w.heap.size w w' := by
  have h3 : (pack == 1) = false := by simp; omega
  have h4 : pack ≤ n := by omega
  have hd0 : 0 ≤ n / pack := Int.ediv_nonneg h0 (by omega)
  have hd1 : n / pack ≤ n := Int.ediv_le_self pack h0
  have he := rem_eq n pack
  have hr0 := Int.emod_nonneg n (show pack ≠ 0 by omega)
  have hr1 := Int.emod_lt_of_pos n (show 0 < pack by omega)
  have hm1 : 0 ≤ n / pack * pack := Int.mul_nonneg hd0 (by omega)
  have hm2 : n / pack * pack ≤ n := by omega
  have hr' : (n - n / pack * pack == 0) = false := by rw [he]; simpa using hr
  have hl1 := dec_short (n / pack).toNat (by omega)
  have hl2 := dec_short (n - n / pack * pack).toNat (by omega)
  have e : decDigits (n / pack).toNat ++ 99 :: decDigits (n % pack).toNat = (decDigits (n / pack).toNat ++ [99]) ++ decDigits (n - n / pack * pack).toNat := by rw [he]; simp
  rw [e, ← str_append, ← str_append]
  have k0 : 0 ≤ n - n / pack * pack := by omega
  clear h hr e he hr0 hr1
  go_enter Tryd.func16, Tryd.ntmps16
  go_wp2_with (first | (go_at_call_of 25 (Value.int .i64 (n / pack)); refine (refDecimal _ hd0 (by omega) _).mono ?_; rintro e w1 ⟨rfl, hb⟩) | (go_at_call_of 25 (Value.int .i64 (n - n / pack * pack)); refine (refDecimal _ k0 (by omega) _).mono ?_; rintro e w2 ⟨rfl, hb2⟩))
  go_ret
  exact ⟨rfl, hb.trans (hb2.mono hb.size)⟩
/-- PiecesText. -/
theorem piecesText_any (n pack : Int) (w : World) :
    Calls Tryd.prog 16 #[.int .i64 n, .int .i64 pack] w fun e w' => e = .returned (.string ⟨(textOf n pack).toArray⟩) ∧ Below w.heap.size w w' := by
  by_cases h : 0 ≤ n ∧ n ≤ maxQ ∧ pw pack = true
  · have hpw : 1 ≤ pack ∧ pack ≤ 1000 := by have := h.2.2; unfold pw at this; simpa using this
    have hq : n ≤ 1099511627776 := h.2.1
    unfold textOf
    rw [if_pos h]
    by_cases hc : pack = 1 ∨ n < pack
    · rw [if_pos hc]
      exact pt_few n pack w h.1 hq hpw.1 hpw.2 hc
    · rw [if_neg hc]
      by_cases hr : n % pack = 0
      · rw [if_pos hr]
        exact pt_even n pack w h.1 hq hpw.1 hpw.2 hc hr
      · rw [if_neg hr]
        exact pt_odd n pack w h.1 hq hpw.1 hpw.2 hc hr
  · have e : textOf n pack = [] := by unfold textOf; rw [if_neg h]
    rw [e]
    refine (pt_none n pack w h).mono ?_
    rintro e w' ⟨rfl, rfl⟩
    exact ⟨rfl, Below.refl _ _⟩
end Go.Proofs.YtmgjjmgponebcaaDoor
