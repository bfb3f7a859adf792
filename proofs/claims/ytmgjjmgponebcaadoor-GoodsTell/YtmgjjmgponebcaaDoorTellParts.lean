/-
  What goods.Read and goods.Check answer, with their errors, and the reference's ReadPieces and GoodsError, over every world that holds the sentinels as the program lays them.
-/
import Derived.Test.YtmgjjmgponebcaaDoorRefRead
import Derived.Test.YtmgjjmgponebcaaDoorCode
namespace Go.Proofs.YtmgjjmgponebcaaDoor
open Go.RowKit Go.Lib Go.Sort

/-- The error of a number. -/
def errOf (s : Nat → Addr) (code : Nat) : Value := if code = 0 then .nilIface else err (s (code - 1))
theorem errOf_zero (s : Nat → Addr) : errOf s 0 = .nilIface := rfl
theorem errOf_succ (s : Nat → Addr) (k : Nat) : errOf s (k + 1) = err (s k) := rfl

theorem coded_any (s : Nat → Addr) (code : Nat) (hc : code ≤ 12) (n : Int) (w : World) (hs : Sent w s) (hh : Handle w) :
    Calls Tryd.prog 8 #[errOf s code, .int .i64 n] w fun e w' => e = .returned (.bool (decide ((code : Int) = n))) ∧ Below w.heap.size w w' := by
  rcases code with _ | k
  · rw [errOf_zero]
    refine (coded_nil n w).mono ?_
    rintro e w' ⟨rfl, rfl⟩
    exact ⟨rfl, Below.refl _ _⟩
  · rw [errOf_succ]
    refine (coded_of _ _ n w _ (code_sent k (by omega) w s hs hh)).mono ?_
    rintro e w' ⟨rfl, hb⟩
    exact ⟨rfl, hb⟩

theorem readPieces_any (x : ByteArray) (pack : Int) (w : World) (hz : x.size ≤ maxLen) :
    Calls Tryd.prog 12 #[.string x, .int .i64 pack] w fun e w' => e = .returned (two (readOf x.data.toList pack)) ∧ w' = w := by
  cases hp : pw pack with
  | true =>
    have h : 1 ≤ pack ∧ pack ≤ 1000 := by unfold pw at hp; simpa using hp
    exact rp_in x pack w hz h.1 h.2
  | false =>
    have h : pack < 1 ∨ (1 ≤ pack ∧ 1000 < pack) := by unfold pw at hp; simp at hp; omega
    rw [readOf_pack _ pack hp]
    clear hp
    rcases h with h | ⟨h1, h2⟩
    all_goals
      go_enter Tryd.func12, Tryd.ntmps12
      go_wp2
      go_ret2
      exact ⟨rfl, rfl⟩

set_option maxHeartbeats 1000000 in
theorem read_pack (x : ByteArray) (pack : Int) (v : Value) (w : World) (hp : pw pack = false) (hv : w.cell? ⟨1, 0, none⟩ = some v) :
    Calls Tryd.prog 11 #[.string x, .int .i64 pack] w fun e w' => e = .returned (.tuple #[.int .i64 0, v]) ∧ ∃ n, w' = w.drewN n := by
  have hc := packWell_no pack w hp
  clear hp
  go_enter Tryd.func11, Tryd.ntmps11
  go_wp2_with (go_at_call 21; refine hc.mono ?_; rintro e w1 ⟨rfl, rfl⟩)
  go_quiet (fail)
  go_wp2
  go_ret2
  exact ⟨rfl, _, rfl⟩
set_option maxHeartbeats 1000000 in
theorem read_bad (x : ByteArray) (pack : Int) (v : Value) (w : World) (hz : x.size ≤ maxLen) (p1 : 1 ≤ pack) (p2 : pack ≤ 1000) (h : partsOf x.data.toList = none) (hv : w.cell? ⟨0, 0, none⟩ = some v) :
    Calls Tryd.prog 11 #[.string x, .int .i64 pack] w fun e w' => e = .returned (.tuple #[.int .i64 0, v]) ∧ ∃ n, w' = w.drewN n := by
  have hp := parts_no x w hz h
  clear h hz
  go_enter Tryd.func11, Tryd.ntmps11
  go_wp2_with (first | (go_at_call 21; refine (packWell_yes pack _ p1 p2).mono ?_; rintro e w1 ⟨rfl, rfl⟩) | (go_at_call 22; refine hp.mono ?_; rintro e w1 ⟨⟨a, b, rfl⟩, n, rfl⟩))
  go_quiet (fail)
  go_wp2
  go_ret2
  exact ⟨rfl, _, World.drewN_drewN _ _ _⟩
set_option maxHeartbeats 1000000 in
theorem read_much (x : ByteArray) (pack : Int) (v : Value) (w : World) (hz : x.size ≤ maxLen) (p1 : 1 ≤ pack) (p2 : pack ≤ 1000) (c p : Nat) (h : partsOf x.data.toList = some (c, p)) (hq : 1099511627776 < (c : Int) * pack + p) (hv : w.cell? ⟨1, 0, none⟩ = some v) :
    Calls Tryd.prog 11 #[.string x, .int .i64 pack] w fun e w' => e = .returned (.tuple #[.int .i64 0, v]) ∧ ∃ n, w' = w.drewN n := by
  have hp := parts_yes x w hz c p h
  have hl := parts_lt h
  have hb := mul_bounds c pack (by omega) (by omega) p1 p2
  have hp1 : p ≤ 10000000000000 := by omega
  clear h hz hl
  go_enter Tryd.func11, Tryd.ntmps11
  go_wp2_with (first | (go_at_call 21; refine (packWell_yes pack _ p1 p2).mono ?_; rintro e w1 ⟨rfl, rfl⟩) | (go_at_call 22; refine hp.mono ?_; rintro e w1 ⟨rfl, n, rfl⟩))
  go_quiet (fail)
  go_wp2
  go_ret2
  exact ⟨rfl, _, World.drewN_drewN _ _ _⟩
/-- goods.Read. -/
theorem read_any (x : ByteArray) (pack : Int) (w : World) (s : Nat → Addr) (hz : x.size ≤ maxLen) (hs : Sent w s) :
    Calls Tryd.prog 11 #[.string x, .int .i64 pack] w fun e w' => e = .returned (.tuple #[.int .i64 (readOf x.data.toList pack).1, errOf s (readOf x.data.toList pack).2]) ∧ ∃ n, w' = w.drewN n := by
  have hT : w.cell? ⟨0, 0, none⟩ = some (err (s 0)) := hs.cell 0 (by decide)
  have hB : w.cell? ⟨1, 0, none⟩ = some (err (s 1)) := hs.cell 1 (by decide)
  cases hp : pw pack with
  | false =>
    rw [readOf_pack _ pack hp]
    exact read_pack x pack _ w hp hB
  | true =>
    have h : 1 ≤ pack ∧ pack ≤ 1000 := by unfold pw at hp; simpa using hp
    cases hq : partsOf x.data.toList with
    | none =>
      rw [readOf_bad _ pack hp hq]
      exact read_bad x pack _ w hz h.1 h.2 hq hT
    | some cp =>
      obtain ⟨c, p⟩ := cp
      by_cases hm : (c : Int) * pack + p ≤ 1099511627776
      · rw [readOf_good _ pack hp c p hq hm]
        exact read_good x pack w hz h.1 h.2 c p hq hm
      · rw [readOf_much _ pack hp c p hq (by unfold maxQ; omega)]
        exact read_much x pack _ w hz h.1 h.2 c p hq (by omega) hB
theorem readOf_code (l : List UInt8) (pack : Int) : (readOf l pack).2 ≤ 2 := by
  unfold readOf
  split
  · split
    · decide
    · split
      · decide
      · exact Nat.zero_le _
  · decide
theorem readOf_val (l : List UInt8) (pack : Int) : 0 ≤ (readOf l pack).1 ∧ (readOf l pack).1 ≤ 1099511627776 := by
  unfold readOf
  split
  · rename_i hp
    have h : 1 ≤ pack ∧ pack ≤ 1000 := by unfold pw at hp; simpa using hp
    split
    · decide
    · split
      · decide
      · rename_i c p _ hq
        unfold maxQ at hq
        have : 0 ≤ (c : Int) * pack := Int.mul_nonneg (by omega) (by omega)
        simp only
        omega
  · decide

/-- The number of an error of goods. -/
def goodsErr (l : List UInt8) (pack : Int) : Nat := if isName l then (if pw pack then 0 else 2) else 5
set_option maxHeartbeats 1000000 in
theorem check_any (x : ByteArray) (pack : Int) (w : World) (s : Nat → Addr) (hz : x.size ≤ maxLen) (hs : Sent w s) :
    Calls Tryd.prog 13 #[.agg #[.string x, .int .i64 pack]] w fun e w' => e = .returned (errOf s (goodsErr x.data.toList pack)) ∧ Below w.heap.size w w' := by
  have hs2 : Sent (w.alloc (.cells #[.string x, .int .i64 pack] 36)) s := hs.below ((Below.refl _ _).alloc (Nat.le_refl _) _)
  have hB : (w.alloc (.cells #[.string x, .int .i64 pack] 36)).cell? ⟨1, 0, none⟩ = some (err (s 1)) := hs2.cell 1 (by decide)
  have hN : (w.alloc (.cells #[.string x, .int .i64 pack] 36)).cell? ⟨4, 0, none⟩ = some (err (s 4)) := hs2.cell 4 (by decide)
  have hn : ∀ w, Calls Tryd.prog 18 #[.string x] w _ := fun w => name_any x w hz
  unfold goodsErr
  cases h1 : isName x.data.toList with
  | false =>
    rw [h1] at hn
    rw [if_neg (by decide)]
    show Calls _ _ _ _ fun e w' => e = .returned (err (s 4)) ∧ _
    go_enter Tryd.func13, Tryd.ntmps13
    go_wp2_with (go_at_call 18; refine (hn _).mono ?_; rintro e w1 ⟨rfl, rfl⟩)
    go_ret
    exact ⟨rfl, (Below.refl _ _).alloc (Nat.le_refl _) _⟩
  | true =>
    rw [h1] at hn
    rw [if_pos rfl]
    cases h2 : pw pack with
    | false =>
      rw [if_neg (by decide)]
      show Calls _ _ _ _ fun e w' => e = .returned (err (s 1)) ∧ _
      have hc := fun w => packWell_no pack w h2
      go_enter Tryd.func13, Tryd.ntmps13
      go_wp2_with (first | (go_at_call 18; refine (hn _).mono ?_; rintro e w1 ⟨rfl, rfl⟩) | (go_at_call 21; refine (hc _).mono ?_; rintro e w1 ⟨rfl, rfl⟩))
      go_ret
      exact ⟨rfl, (Below.refl _ _).alloc (Nat.le_refl _) _⟩
    | true =>
      rw [if_pos rfl]
      show Calls _ _ _ _ fun e w' => e = .returned .nilIface ∧ _
      have h : 1 ≤ pack ∧ pack ≤ 1000 := by unfold pw at h2; simpa using h2
      have hc := fun w => packWell_yes pack w h.1 h.2
      go_enter Tryd.func13, Tryd.ntmps13
      go_wp2_with (first | (go_at_call 18; refine (hn _).mono ?_; rintro e w1 ⟨rfl, rfl⟩) | (go_at_call 21; refine (hc _).mono ?_; rintro e w1 ⟨rfl, rfl⟩))
      go_ret
      exact ⟨rfl, (Below.refl _ _).alloc (Nat.le_refl _) _⟩
set_option maxHeartbeats 1000000 in
theorem goodsError_any (x : ByteArray) (pack : Int) (w : World) (hz : x.size ≤ maxLen) :
    Calls Tryd.prog 14 #[.agg #[.string x, .int .i64 pack]] w fun e w' => e = .returned (.int .i64 (goodsErr x.data.toList pack)) ∧ Below w.heap.size w w' := by
  have hn : ∀ w, Calls Tryd.prog 17 #[.string x] w _ := fun w => isName_any x w hz
  unfold goodsErr
  cases h1 : isName x.data.toList with
  | false =>
    rw [h1] at hn
    rw [if_neg (by decide)]
    go_enter Tryd.func14, Tryd.ntmps14
    go_wp2_with (go_at_call 17; refine (hn _).mono ?_; rintro e w1 ⟨rfl, rfl⟩)
    go_ret
    exact ⟨rfl, (Below.refl _ _).alloc (Nat.le_refl _) _⟩
  | true =>
    rw [h1] at hn
    rw [if_pos rfl]
    by_cases q1 : pack < 1
    · have h2 : pw pack = false := by unfold pw; simp; omega
      rw [if_neg (by rw [h2]; decide)]
      clear h2
      go_enter Tryd.func14, Tryd.ntmps14
      go_wp2_with (go_at_call 17; refine (hn _).mono ?_; rintro e w1 ⟨rfl, rfl⟩)
      go_ret
      exact ⟨rfl, (Below.refl _ _).alloc (Nat.le_refl _) _⟩
    · by_cases q2 : 1000 < pack
      · have h2 : pw pack = false := by unfold pw; simp; omega
        rw [if_neg (by rw [h2]; decide)]
        clear h2
        go_enter Tryd.func14, Tryd.ntmps14
        go_wp2_with (go_at_call 17; refine (hn _).mono ?_; rintro e w1 ⟨rfl, rfl⟩)
        go_ret
        exact ⟨rfl, (Below.refl _ _).alloc (Nat.le_refl _) _⟩
      · have h2 : pw pack = true := by unfold pw; simp; omega
        rw [if_pos h2]
        clear h2
        go_enter Tryd.func14, Tryd.ntmps14
        go_wp2_with (go_at_call 17; refine (hn _).mono ?_; rintro e w1 ⟨rfl, rfl⟩)
        go_ret
        exact ⟨rfl, (Below.refl _ _).alloc (Nat.le_refl _) _⟩
end Go.Proofs.YtmgjjmgponebcaaDoor
