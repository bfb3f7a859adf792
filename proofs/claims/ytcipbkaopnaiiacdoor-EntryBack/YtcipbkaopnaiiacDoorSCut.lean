/-
  What strings.Cut at one byte answers, over whatever world.
-/
import Derived.Test.YtcipbkaopnaiiacDoorItoa
namespace Go.Proofs.YtcipbkaopnaiiacDoor
open Go.RowKit Go.Lib

theorem scut_miss (s : ByteArray) (c : UInt8) (w : World) (h : has c s.data.toList = false) :
    Calls Tryd.prog 19 #[.string s, .string ⟨#[c]⟩] w fun e w' => e = .returned (.tuple #[.string s, .string ByteArray.empty, .bool false]) ∧ w' = w := by
  have hi := Tryd.stringslite_Index_one s c w
  rw [indexByte_eq, h, if_neg (by decide)] at hi
  have hc : Calls Tryd.prog 28 #[.string s, .string ⟨#[c]⟩] w fun e w' => e = .returned (.tuple #[.string s, .string ByteArray.empty, .bool false]) ∧ w' = w := by
    go_enter Tryd.func28, Tryd.ntmps28
    go_wp2_with (go_at_call 34; refine hi.mono ?_; rintro e w1 ⟨rfl, rfl⟩)
    go_ret3
    exact ⟨rfl, rfl⟩
  clear hi
  go_enter Tryd.func19, Tryd.ntmps19
  go_wp2_with (go_at_call 28; refine hc.mono ?_; rintro e w1 ⟨rfl, rfl⟩)
  go_ret3
  exact ⟨rfl, rfl⟩
set_option maxHeartbeats 1000000 in
theorem scut_hit (s : ByteArray) (c : UInt8) (w : World) (hz : s.size ≤ maxLen) (h : has c s.data.toList = true) :
    Calls Tryd.prog 19 #[.string s, .string ⟨#[c]⟩] w fun e w' => e = .returned (.tuple #[.string ⟨(pre c s.data.toList).toArray⟩, .string ⟨(post c s.data.toList).toArray⟩, .bool true]) ∧ ∃ n, w' = w.drewN n := by
  have hi := Tryd.stringslite_Index_one s c w
  rw [indexByte_eq, h, if_pos rfl] at hi
  have hl := pre_length_lt c s.data.toList h
  rw [size_len] at hl
  have e1 : (⟨(pre c s.data.toList).toArray⟩ : ByteArray) = s.extract 0 (pre c s.data.toList).length := by
    rw [extract_eq]; simp [take_pre]
  have e2 : (⟨(post c s.data.toList).toArray⟩ : ByteArray) = s.extract ((pre c s.data.toList).length + 1) s.size := by
    rw [extract_eq, drop_pre, List.take_of_length_le]
    rw [← drop_pre, List.length_drop, size_len]; exact Nat.le_refl _
  rw [e1, e2]
  clear e1 e2 h
  unfold maxLen at hz
  generalize (pre c s.data.toList).length = i at *
  have hc : Calls Tryd.prog 28 #[.string s, .string ⟨#[c]⟩] w fun e w' => e = .returned (.tuple #[.string (s.extract 0 i), .string (s.extract (i + 1) s.size), .bool true]) ∧ ∃ n, w' = w.drewN n := by
    go_enter Tryd.func28, Tryd.ntmps28
    go_wp2_with (go_at_call 34; refine hi.mono ?_; rintro e w1 ⟨rfl, rfl⟩)
    go_quiet (fail)
    go_wp2
    go_ret3
    exact ⟨rfl, _, rfl⟩
  clear hi
  go_enter Tryd.func19, Tryd.ntmps19
  go_wp2_with (go_at_call 28; refine hc.mono ?_; rintro e w1 ⟨rfl, n, rfl⟩)
  go_ret3
  exact ⟨rfl, _, rfl⟩
end Go.Proofs.YtcipbkaopnaiiacDoor
