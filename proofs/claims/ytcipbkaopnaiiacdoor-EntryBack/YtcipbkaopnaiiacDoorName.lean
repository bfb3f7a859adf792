/-
  What goods.Name and the reference's IsName answer, over whatever world.
-/
import Derived.Test.YtcipbkaopnaiiacDoorRef
namespace Go.Proofs.YtcipbkaopnaiiacDoor
open Go.RowKit Go.Lib Go.Sort

def nameB (c : UInt8) : Bool := (decide (97 ≤ c.toNat) && decide (c.toNat ≤ 122)) || (decide (48 ≤ c.toNat) && decide (c.toNat ≤ 57))
def isName (l : List UInt8) : Bool := l.all nameB && (decide (1 ≤ l.length) && decide (l.length ≤ 8))

theorem name_false_of (s : ByteArray) (k : Nat) (h : k < s.size) (hd : nameB s[k] = false) : s.data.toList.all nameB = false := by
  rw [List.all_eq_false]
  refine ⟨s[k], ?_, by rw [hd]; decide⟩
  have := List.getElem_mem (l := s.data.toList) (n := k) (by rw [size_len]; exact h)
  exact this
theorem name_bad (s : ByteArray) (k : Nat) (w : World) (h : k < s.size) (hd : nameB s[k] = false) : Ending.returned (.bool false) = Ending.returned (.bool (isName s.data.toList)) ∧ w = w := by
  unfold isName
  rw [name_false_of s k h hd]; exact ⟨rfl, rfl⟩
theorem name_good (s : ByteArray) (k : Nat) (w : World) (h : s.size ≤ k) (ha : (s.data.toList.take k).all nameB = true) : Ending.returned (.bool (decide (1 ≤ s.size) && decide (s.size ≤ 8))) = Ending.returned (.bool (isName s.data.toList)) ∧ w = w := by
  rw [List.take_of_length_le (by rw [size_len]; exact h)] at ha
  unfold isName
  rw [ha, size_len]; exact ⟨rfl, rfl⟩

theorem nameByte_any (c : Int) (w : World) (h0 : 0 ≤ c) (h1 : c ≤ 255) :
    Calls Tryd.prog 33 #[.int .u8 c] w fun e w' => e = .returned (.bool ((decide (97 ≤ c) && decide (c ≤ 122)) || (decide (48 ≤ c) && decide (c ≤ 57)))) ∧ w' = w := by
  by_cases a : 97 ≤ c
  · by_cases b : c ≤ 122
    · go_enter Tryd.func33, Tryd.ntmps33
      go_wp2
      go_ret
      exact ⟨by simp [a, b], rfl⟩
    · go_enter Tryd.func33, Tryd.ntmps33
      go_wp2
      go_ret
      exact ⟨by simp <;> omega, rfl⟩
  · by_cases b : 48 ≤ c
    · by_cases d : c ≤ 57
      · go_enter Tryd.func33, Tryd.ntmps33
        go_wp2
        go_ret
        exact ⟨by simp <;> omega, rfl⟩
      · go_enter Tryd.func33, Tryd.ntmps33
        go_wp2
        go_ret
        exact ⟨by simp <;> omega, rfl⟩
    · go_enter Tryd.func33, Tryd.ntmps33
      go_wp2
      go_ret
      exact ⟨by simp <;> omega, rfl⟩
theorem nameByte_yes (c : Int) (w : World) (h0 : 0 ≤ c) (h1 : c ≤ 255) (h : (97 ≤ c ∧ c ≤ 122) ∨ (48 ≤ c ∧ c ≤ 57)) :
    Calls Tryd.prog 33 #[.int .u8 c] w fun e w' => e = .returned (.bool true) ∧ w' = w := by
  refine (nameByte_any c w h0 h1).mono ?_
  rintro e w' ⟨rfl, rfl⟩
  exact ⟨by simp <;> omega, rfl⟩
theorem nameByte_no (c : Int) (w : World) (h0 : 0 ≤ c) (h1 : c ≤ 255) (h : ¬ ((97 ≤ c ∧ c ≤ 122) ∨ (48 ≤ c ∧ c ≤ 57))) :
    Calls Tryd.prog 33 #[.int .u8 c] w fun e w' => e = .returned (.bool false) ∧ w' = w := by
  refine (nameByte_any c w h0 h1).mono ?_
  rintro e w' ⟨rfl, rfl⟩
  exact ⟨by simp <;> omega, rfl⟩

set_option maxHeartbeats 1000000 in
/-- goods.Name. -/
theorem name_any (s : ByteArray) (w : World) (hz : s.size ≤ maxLen) :
    Calls Tryd.prog 25 #[.string s] w fun e w' => e = .returned (.bool (isName s.data.toList)) ∧ w' = w := by
  unfold maxLen at hz
  by_cases h0 : 1 ≤ s.size
  · have he := isEmpty_of s h0
    have he' : ¬ s.toList = [] := by rw [← List.isEmpty_iff, he]; decide
    by_cases h1 : s.size ≤ 8
    · go_enter Tryd.func25, Tryd.ntmps25
      go_wp2
      go_loop [13] (fun i => ∃ k : Nat, k ≤ s.size ∧ i = .int .i64 k ∧ (s.data.toList.take k).all nameB = true) (fun i => s.size - (RowKit.intOf i).toNat)
      case atStart => exact ⟨0, Nat.zero_le _, rfl, rfl⟩
      case round =>
        obtain ⟨k, hk, rfl, hall⟩ := hrel
        by_cases hlt : k < s.size
        · have HS : Hid (s.data.toList.take (k + 1) = s.data.toList.take k ++ [s[k]]) := take_snoc s k hlt
          have HA : Hid ((s.data.toList.take k).all nameB = true) := hall
          clear hall
          have hb : 0 ≤ (s[k].toNat : Int) ∧ (s[k].toNat : Int) ≤ 255 := by have := s[k].toNat_lt; omega
          by_cases hc : (97 ≤ (s[k].toNat : Int) ∧ (s[k].toNat : Int) ≤ 122) ∨ (48 ≤ (s[k].toNat : Int) ∧ (s[k].toNat : Int) ≤ 57)
          · have hy := nameByte_yes s[k].toNat w hb.1 hb.2 hc
            have HC : Hid (nameB s[k] = true) := by show _ = _; unfold nameB; simp; omega
            clear hc
            go_wp2_with (go_at_call 33; refine hy.mono ?_; rintro e w1 ⟨rfl, rfl⟩)
            go_round
            case rel => exact ⟨k + 1, by omega, by go_num, by rw [HS.out, List.all_append, HA.out]; simp [HC.out]⟩
            case measure => simp [RowKit.intOf]; omega
          · have hy := nameByte_no s[k].toNat w hb.1 hb.2 hc
            have HC : Hid (nameB s[k] = false) := by show _ = _; unfold nameB; simp; omega
            clear hc
            go_wp2_with (go_at_call 33; refine hy.mono ?_; rintro e w1 ⟨rfl, rfl⟩)
            go_ret
            exact name_bad s k _ hlt HC.out
        · go_wp2
          go_ret
          have := name_good s k w (by omega) hall
          rw [decide_eq_true h0, decide_eq_true h1] at this
          exact this
    · go_enter Tryd.func25, Tryd.ntmps25
      go_wp2
      go_ret
      refine ⟨?_, rfl⟩
      unfold isName
      rw [size_len, decide_eq_false h1]; simp
  · have hs : s.data.toList = [] := List.eq_nil_of_length_eq_zero (by rw [size_len]; omega)
    have he : s = ByteArray.empty := isEmpty_nil hs
    clear hs
    subst he
    go_enter Tryd.func25, Tryd.ntmps25
    go_wp2
    go_ret
    exact ⟨rfl, rfl⟩

end Go.Proofs.YtcipbkaopnaiiacDoor
