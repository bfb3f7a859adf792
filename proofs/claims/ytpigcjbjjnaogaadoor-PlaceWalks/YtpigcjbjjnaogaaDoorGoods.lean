/-
  What goods.parts, goods.Read and goods.Text answer, over every world that holds the sentinels ErrText and ErrBound and strconv's table of powers as the program lays them.
-/
import Derived.Test.YtpigcjbjjnaogaaDoorNumWalk
import Derived.Lib.LaidTab
namespace Go.Proofs.YtpigcjbjjnaogaaDoor
open Go.RowKit Go.Lib

theorem isEmpty_nil {s : ByteArray} (h : s.data.toList = []) : s = ByteArray.empty := by
  cases s; simp at h; subst h; rfl
theorem size_pos_of {s : ByteArray} (h : s.data.toList ≠ []) : 1 ≤ s.size := by
  rw [← size_len]; exact List.length_pos_iff.2 h

set_option maxHeartbeats 1000000 in
theorem parts_plain (s : ByteArray) (w : World) (hz : s.size ≤ maxLen) (h : has 99 s.data.toList = false) :
    Calls Tryd.prog 37 #[.string s] w fun e w' => e = .returned (.tuple #[.int .i64 0, .int .i64 (numR 13 s.data.toList), .bool (isNum 13 s.data.toList)]) ∧ w' = w := by
  have hc := scut_miss s 99 w h
  have hr := numRead s 13 w (by decide) hz
  clear h
  go_enter Tryd.func37, Tryd.ntmps37
  go_wp2_with (first | (go_at_call 55; refine hc.mono ?_; rintro e w1 ⟨rfl, rfl⟩) | (go_at_call 56; refine hr.mono ?_; rintro e w1 ⟨rfl, rfl⟩))
  go_ret3
  exact ⟨rfl, rfl⟩

set_option maxHeartbeats 1000000 in
theorem parts_cut_bad (s : ByteArray) (w : World) (a b : ByteArray) (ha : a.size ≤ maxLen) (h : oneB a.data.toList = false)
    (hc : Calls Tryd.prog 55 #[.string s, .string ⟨#[99]⟩] w fun e w' => e = .returned (.tuple #[.string a, .string b, .bool true]) ∧ ∃ n, w' = w.drewN n) :
    Calls Tryd.prog 37 #[.string s] w fun e w' => e = .returned (.tuple #[.int .i64 (numR 13 a.data.toList), .int .i64 0, .bool false]) ∧ ∃ n, w' = w.drewN n := by
  have HC : Hid (Calls Tryd.prog 55 #[.string s, .string ⟨#[99]⟩] w fun e w' => e = .returned (.tuple #[.string a, .string b, .bool true]) ∧ ∃ n, w' = w.drewN n) := hc
  have f1 : ∀ w, Calls Tryd.prog 57 #[.string a] w _ := fun w => fromOne_any a w ha
  rw [h] at f1
  clear h
  clear hc
  generalize numR 13 a.data.toList = na at *
  go_enter Tryd.func37, Tryd.ntmps37
  go_wp2_with (first | (go_at_call 55; refine HC.out.mono ?_; rintro e w1 ⟨rfl, n, rfl⟩) | (go_at_call 57; refine (f1 _).mono ?_; rintro e w1 ⟨rfl, rfl⟩))
  go_ret3
  exact ⟨rfl, _, rfl⟩
set_option maxHeartbeats 1000000 in
theorem parts_cut_end (s : ByteArray) (w : World) (a b : ByteArray) (ha : a.size ≤ maxLen) (h : oneB a.data.toList = true) (hb : b = ByteArray.empty)
    (hc : Calls Tryd.prog 55 #[.string s, .string ⟨#[99]⟩] w fun e w' => e = .returned (.tuple #[.string a, .string b, .bool true]) ∧ ∃ n, w' = w.drewN n) :
    Calls Tryd.prog 37 #[.string s] w fun e w' => e = .returned (.tuple #[.int .i64 (numR 13 a.data.toList), .int .i64 0, .bool true]) ∧ ∃ n, w' = w.drewN n := by
  have HC : Hid (Calls Tryd.prog 55 #[.string s, .string ⟨#[99]⟩] w fun e w' => e = .returned (.tuple #[.string a, .string b, .bool true]) ∧ ∃ n, w' = w.drewN n) := hc
  have f1 : ∀ w, Calls Tryd.prog 57 #[.string a] w _ := fun w => fromOne_any a w ha
  rw [h] at f1
  subst hb
  clear h
  clear hc
  generalize numR 13 a.data.toList = na at *
  go_enter Tryd.func37, Tryd.ntmps37
  go_wp2_with (first | (go_at_call 55; refine HC.out.mono ?_; rintro e w1 ⟨rfl, n, rfl⟩) | (go_at_call 57; refine (f1 _).mono ?_; rintro e w1 ⟨rfl, rfl⟩))
  go_ret3
  exact ⟨rfl, _, rfl⟩
set_option maxHeartbeats 1000000 in
theorem parts_cut_two (s : ByteArray) (w : World) (a b : ByteArray) (ha : a.size ≤ maxLen) (h : oneB a.data.toList = true) (hb : b.data.toList ≠ []) (hz : b.size ≤ maxLen)
    (hc : Calls Tryd.prog 55 #[.string s, .string ⟨#[99]⟩] w fun e w' => e = .returned (.tuple #[.string a, .string b, .bool true]) ∧ ∃ n, w' = w.drewN n) :
    Calls Tryd.prog 37 #[.string s] w fun e w' => e = .returned (.tuple #[.int .i64 (numR 13 a.data.toList), .int .i64 (numR 13 b.data.toList), .bool (oneB b.data.toList)]) ∧ ∃ n, w' = w.drewN n := by
  have HC : Hid (Calls Tryd.prog 55 #[.string s, .string ⟨#[99]⟩] w fun e w' => e = .returned (.tuple #[.string a, .string b, .bool true]) ∧ ∃ n, w' = w.drewN n) := hc
  have f1 : ∀ w, Calls Tryd.prog 57 #[.string a] w _ := fun w => fromOne_any a w ha
  have f2 : ∀ w, Calls Tryd.prog 57 #[.string b] w _ := fun w => fromOne_any b w hz
  have hs := size_pos_of hb
  have he := isEmpty_of b hs
  have he' : ¬ b.toList = [] := by rw [← List.isEmpty_iff, he]; decide
  rw [h] at f1
  clear h hb hs
  generalize numR 13 b.data.toList = nb at *
  generalize oneB b.data.toList = ob at *
  clear hc
  generalize numR 13 a.data.toList = na at *
  go_enter Tryd.func37, Tryd.ntmps37
  go_wp2_with (first | (go_at_call 55; refine HC.out.mono ?_; rintro e w1 ⟨rfl, n, rfl⟩) | (go_at_call_of 57 (Value.string a); refine (f1 _).mono ?_; rintro e w1 ⟨rfl, rfl⟩) | (go_at_call_of 57 (Value.string b); refine (f2 _).mono ?_; rintro e w1 ⟨rfl, rfl⟩))
  go_ret3
  exact ⟨rfl, _, rfl⟩

theorem bytes_toList (l : List UInt8) : (⟨l.toArray⟩ : ByteArray).data.toList = l := by simp
theorem pre_size (c : UInt8) (s : ByteArray) (hz : s.size ≤ maxLen) : (⟨(pre c s.data.toList).toArray⟩ : ByteArray).size ≤ maxLen := by
  rw [← size_len, bytes_toList]
  have := pre_length_le c s.data.toList
  rw [size_len] at this
  omega
theorem post_size (c : UInt8) (s : ByteArray) (hz : s.size ≤ maxLen) : (⟨(post c s.data.toList).toArray⟩ : ByteArray).size ≤ maxLen := by
  rw [← size_len, bytes_toList, ← drop_pre, List.length_drop, size_len]
  omega
theorem oneB_val {l : List UInt8} (h : oneB l = true) : isNum 13 l = true ∧ 0 < numVal l := by
  unfold oneB at h; simpa using h
theorem isNum_lt {l : List UInt8} (h : isNum 13 l = true) : numVal l < 10 ^ 13 := by
  unfold isNum at h
  simp only [Bool.and_eq_true, decide_eq_true_eq] at h
  have h1 := numVal_lt l h.2
  have h2 : 10 ^ l.length ≤ 10 ^ 13 := Nat.pow_le_pow_right (by decide) h.1.1.2
  omega

theorem parts_any (s : ByteArray) (w : World) (hz : s.size ≤ maxLen) :
    Calls Tryd.prog 37 #[.string s] w fun e w' => (match partsOf s.data.toList with
      | some (c, p) => e = .returned (.tuple #[.int .i64 c, .int .i64 p, .bool true])
      | none => ∃ x y : Int, e = .returned (.tuple #[.int .i64 x, .int .i64 y, .bool false])) ∧ ∃ n, w' = w.drewN n := by
  by_cases hh : has 99 s.data.toList = true
  · have hc := scut_hit s 99 w hz hh
    by_cases h1 : oneB (pre 99 s.data.toList) = true
    · obtain ⟨n1, n2⟩ := oneB_val h1
      by_cases h2 : post 99 s.data.toList = []
      · refine (parts_cut_end s w _ _ (pre_size 99 s hz) (by rw [bytes_toList]; exact h1) (by rw [h2]; rfl) hc).mono ?_
        rintro e w' ⟨rfl, n, rfl⟩
        refine ⟨?_, n, rfl⟩
        have e1 : partsOf s.data.toList = some (numVal (pre 99 s.data.toList), 0) := by
          unfold partsOf
          rw [if_pos hh, n1, decide_eq_true n2, h2]; rfl
        rw [e1, bytes_toList, numR_yes n1]; rfl
      · refine (parts_cut_two s w _ _ (pre_size 99 s hz) (by rw [bytes_toList]; exact h1) (by rw [bytes_toList]; exact h2) (post_size 99 s hz) hc).mono ?_
        rintro e w' ⟨rfl, n, rfl⟩
        refine ⟨?_, n, rfl⟩
        have he : (post 99 s.data.toList).isEmpty = false := by rw [List.isEmpty_eq_false_iff]; exact h2
        cases h3 : oneB (post 99 s.data.toList) with
        | true =>
          obtain ⟨m1, m2⟩ := oneB_val h3
          have e1 : partsOf s.data.toList = some (numVal (pre 99 s.data.toList), numVal (post 99 s.data.toList)) := by
            unfold partsOf
            rw [if_pos hh, n1, decide_eq_true n2, he, m1, decide_eq_true m2]; rfl
          rw [e1]; simp only [numR_yes n1, numR_yes m1]
        | false =>
          have e1 : partsOf s.data.toList = none := by
            unfold partsOf
            rw [if_pos hh, n1, decide_eq_true n2, he]
            unfold oneB at h3
            rw [h3]; rfl
          rw [e1]
          exact ⟨_, _, rfl⟩
    · have h1' : oneB (pre 99 s.data.toList) = false := by simpa using h1
      refine (parts_cut_bad s w _ _ (pre_size 99 s hz) (by rw [bytes_toList]; exact h1') hc).mono ?_
      rintro e w' ⟨rfl, n, rfl⟩
      refine ⟨?_, n, rfl⟩
      have e1 : partsOf s.data.toList = none := by
        unfold partsOf
        unfold oneB at h1'
        rw [if_pos hh, h1']; rfl
      rw [e1]
      exact ⟨_, _, rfl⟩
  · have hh' : has 99 s.data.toList = false := by simpa using hh
    refine (parts_plain s w hz hh').mono ?_
    rintro e w' ⟨rfl, rfl⟩
    refine ⟨?_, 0, rfl⟩
    cases h1 : isNum 13 s.data.toList with
    | true =>
      have e1 : partsOf s.data.toList = some (0, numVal s.data.toList) := by
        unfold partsOf
        rw [hh', h1]; rfl
      rw [e1, numR_yes h1]; rfl
    | false =>
      have e1 : partsOf s.data.toList = none := by
        unfold partsOf
        rw [hh', h1]; rfl
      rw [e1]
      exact ⟨_, _, rfl⟩
theorem parts_yes (s : ByteArray) (w : World) (hz : s.size ≤ maxLen) (c p : Nat) (h : partsOf s.data.toList = some (c, p)) :
    Calls Tryd.prog 37 #[.string s] w fun e w' => e = .returned (.tuple #[.int .i64 c, .int .i64 p, .bool true]) ∧ ∃ n, w' = w.drewN n := by
  have := parts_any s w hz
  rw [h] at this
  exact this
theorem parts_no (s : ByteArray) (w : World) (hz : s.size ≤ maxLen) (h : partsOf s.data.toList = none) :
    Calls Tryd.prog 37 #[.string s] w fun e w' => (∃ x y : Int, e = .returned (.tuple #[.int .i64 x, .int .i64 y, .bool false])) ∧ ∃ n, w' = w.drewN n := by
  have := parts_any s w hz
  rw [h] at this
  exact this
theorem parts_lt {l : List UInt8} {c p : Nat} (h : partsOf l = some (c, p)) : c < 10 ^ 13 ∧ p < 10 ^ 13 := by
  unfold partsOf at h
  split at h
  · split at h
    · rename_i h1
      simp only [Bool.and_eq_true] at h1
      split at h
      · simp only [Option.some.injEq, Prod.mk.injEq] at h
        obtain ⟨rfl, rfl⟩ := h
        exact ⟨isNum_lt h1.1, by decide⟩
      · split at h
        · rename_i h2
          simp only [Bool.and_eq_true] at h2
          simp only [Option.some.injEq, Prod.mk.injEq] at h
          obtain ⟨rfl, rfl⟩ := h
          exact ⟨isNum_lt h1.1, isNum_lt h2.1⟩
        · cases h
    · cases h
  · split at h
    · rename_i h1
      simp only [Option.some.injEq, Prod.mk.injEq] at h
      obtain ⟨rfl, rfl⟩ := h
      exact ⟨by decide, isNum_lt h1⟩
    · cases h

set_option maxHeartbeats 1000000 in
/-- goods.Read, where the text is one and there are not too many. -/
theorem read_good (s : ByteArray) (pack : Int) (w : World) (hz : s.size ≤ maxLen) (p1 : 1 ≤ pack) (p2 : pack ≤ 1000) (c p : Nat) (h : partsOf s.data.toList = some (c, p)) (hq : (c : Int) * pack + p ≤ 1099511627776) :
    Calls Tryd.prog 14 #[.string s, .int .i64 pack] w fun e w' => e = .returned (.tuple #[.int .i64 ((c : Int) * pack + p), .nilIface]) ∧ ∃ n, w' = w.drewN n := by
  have hp := parts_yes s w hz c p h
  have hc : (c : Int) * pack ≤ 10 ^ 13 * 1000 := Int.mul_le_mul (by have := (parts_lt h).1; omega) p2 (by omega) (by decide)
  have hc0 : 0 ≤ (c : Int) * pack := Int.mul_nonneg (by omega) (by omega)
  have hp0 := (parts_lt h).2
  clear h hz
  have hc1 : (c : Int) * pack ≤ 10000000000000000 := hc
  have hp1 : p ≤ 10000000000000 := by omega
  clear hc hp0
  go_enter Tryd.func14, Tryd.ntmps14
  go_wp2_with (first | (go_at_call 36; refine (packWell_yes pack _ p1 p2).mono ?_; rintro e w1 ⟨rfl, rfl⟩) | (go_at_call 37; refine hp.mono ?_; rintro e w1 ⟨rfl, n, rfl⟩))
  go_ret2
  exact ⟨rfl, _, rfl⟩
end Go.Proofs.YtpigcjbjjnaogaaDoor
