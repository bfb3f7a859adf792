/-
  coded, of the statements on the book: is an error's number n, without a place?
-/
import Derived.Test.YtefkchmahcjleaaDoorCom
namespace Go.Proofs.YtefkchmahcjleaaDoor
open Go.RowKit Go.Lib Go.Sort

theorem coded_nil2 (n : Int) (w : World) : Calls Tryd.prog 11 #[.nilIface, .int .i64 n] w fun e w' => e = .returned (.bool (decide (0 = n))) ∧ w' = w := by
  go_enter Tryd.func11, Tryd.ntmps11
  by_cases h : (0 : Int) = n
  · subst h
    go_wp2_with (go_at_call 24; refine (code_nil _).mono ?_; rintro e w1 ⟨rfl, rfl⟩)
    go_ret
    exact ⟨rfl, rfl⟩
  · have hb : ((0 : Int) == n) = false := by simpa using h
    go_wp2_with (go_at_call 24; refine (code_nil _).mono ?_; rintro e w1 ⟨rfl, rfl⟩)
    go_ret
    exact ⟨by simp [h], rfl⟩
/-- coded at an error of errors.New whose number is c. -/
theorem coded_of2 (v : Value) (c n : Int) (w : World) (B : Nat) (hv : Calls Tryd.prog 24 #[v] w fun e w' => e = .returned (.tuple #[.int .i64 c, .int .i64 (-1)]) ∧ Below B w w') :
    Calls Tryd.prog 11 #[v, .int .i64 n] w fun e w' => e = .returned (.bool (decide (c = n))) ∧ Below B w w' := by
  go_enter Tryd.func11, Tryd.ntmps11
  have H : Hid (Calls Tryd.prog 24 #[v] w fun e w' => e = .returned (.tuple #[.int .i64 c, .int .i64 (-1)]) ∧ Below B w w') := hv
  clear hv
  by_cases h : c = n
  · subst h
    go_wp2_with (go_at_call 24; refine H.out.mono ?_; rintro e w1 ⟨rfl, hb⟩)
    go_ret
    exact ⟨by simp, hb⟩
  · have hb : (c == n) = false := by simpa using h
    go_wp2_with (go_at_call 24; refine H.out.mono ?_; rintro e w1 ⟨rfl, hb⟩)
    go_ret
    exact ⟨by simp [h], ‹Below B w w1›⟩

/-- coded at a sentinel, with its own number. -/
theorem coded_sent2 (i : Nat) (hi : i < 12) (n : Int) (hn : n = i + 1) (w : World) (s : Nat → Addr) (hs : Sent w s) (hh : Handle w) :
    Calls Tryd.prog 11 #[err (s i), .int .i64 n] w fun e w' => e = .returned (.bool true) ∧ Below w.heap.size w w' := by
  refine (coded_of2 _ _ n w _ (code_sent i hi w s hs hh)).mono ?_
  rintro e w' ⟨rfl, hb⟩
  exact ⟨by simp [hn], hb⟩

theorem codedP_any2 (s : Nat → Addr) (code : Nat) (hc : code ≤ 12) (n : Int) (w : World) (hs : Sent w s) (hh : Handle w) :
    Calls Tryd.prog 11 #[errP s code, .int .i64 n] w fun e w' => e = .returned (.bool (decide ((code : Int) = n))) ∧ Below w.heap.size w w' := by
  rcases code with _ | k
  · rw [errP_zero]
    refine (coded_nil2 n w).mono ?_
    rintro e w' ⟨rfl, rfl⟩
    exact ⟨rfl, Below.refl _ _⟩
  · rw [errP_pos s (by omega)]
    refine (coded_of2 _ _ n w _ (code_sent k (by omega) w s hs hh)).mono ?_
    rintro e w' ⟨rfl, hb⟩
    exact ⟨rfl, hb⟩
end Go.Proofs.YtefkchmahcjleaaDoor
