/-
  What number.Read answers, over whatever world.
-/
import Derived.Test.YtcipbkaopnaiiacDoorProg
import Derived.Test.YtcipbkaopnaiiacDoorShelf
import Derived.Test.YtcipbkaopnaiiacDoorNums
import Derived.WalkKit
import Derived.BigQuiet
import Derived.WalkSmall
import Derived.Below
namespace Go.Proofs.YtcipbkaopnaiiacDoor
open Go.RowKit Go.Lib

theorem take_snoc (s : ByteArray) (k : Nat) (h : k < s.size) : s.data.toList.take (k + 1) = s.data.toList.take k ++ [s[k]] := by
  rw [List.take_succ_eq_append_getElem (by simpa using h)]; rfl

theorem isEmpty_of (s : ByteArray) (h : 1 ≤ s.size) : s.toList.isEmpty = false := by
  rw [← decide_eq_emptyBytes]
  apply decide_eq_false
  rintro rfl
  exact absurd h (by decide)
theorem isNum_all {most : Nat} {l : List UInt8} (h0 : 1 ≤ l.length) (h1 : l.length ≤ most) (h2 : 1 < l.length → (l.headD 0).toNat ≠ 48) : isNum most l = l.all dig := by
  unfold isNum
  have e1 : l.isEmpty = false := by rw [List.isEmpty_eq_false_iff]; rintro rfl; exact absurd h0 (by decide)
  rw [e1, decide_eq_true h1]
  by_cases h : 1 < l.length
  · rw [decide_eq_true h, decide_eq_false (h2 h)]; simp
  · rw [decide_eq_false h]; simp
theorem all_take_snoc (s : ByteArray) (k : Nat) (h : k < s.size) : (s.data.toList.take (k + 1)).all dig = ((s.data.toList.take k).all dig && dig s[k]) := by
  rw [take_snoc s k h, List.all_append]; simp
theorem head_eq (s : ByteArray) (h : 0 < s.size) : s.data.toList.headD 0 = s[0] := by
  have e : s.data.toList = s[0] :: s.data.toList.drop 1 := by
    have := List.take_append_drop 1 s.data.toList
    rw [take_snoc s 0 h] at this
    simpa using this.symm
  rw [e]; rfl
theorem size_len (s : ByteArray) : s.data.toList.length = s.size := (Lib.size_eq s).symm

theorem val_bound (s : ByteArray) (k most : Nat) (h : k < s.size) (h1 : s.size ≤ most) (hm : most ≤ 18) (ha : (s.data.toList.take k).all dig = true) : numVal (s.data.toList.take k) ≤ 99999999999999999 := by
  have hl := numVal_lt _ ha
  have hk : (s.data.toList.take k).length ≤ 17 := Nat.le_trans (List.length_take_le _ _) (by omega)
  have hp : 10 ^ (s.data.toList.take k).length ≤ 10 ^ 17 := Nat.pow_le_pow_right (by decide) hk
  have : (10 : Nat) ^ 17 = 100000000000000000 := by decide
  omega
theorem all_false_of (s : ByteArray) (k : Nat) (h : k < s.size) (hd : dig s[k] = false) : s.data.toList.all dig = false := by
  rw [List.all_eq_false]
  refine ⟨s[k], ?_, by rw [hd]; decide⟩
  have := List.getElem_mem (l := s.data.toList) (n := k) (by rw [size_len]; exact h)
  exact this
theorem num_bad (s : ByteArray) (k most : Nat) (w : World) (H : isNum most s.data.toList = s.data.toList.all dig) (h : k < s.size) (hd : dig s[k] = false) :
    Ending.returned (.tuple #[.int .i64 0, .bool false]) = Ending.returned (.tuple #[.int .i64 (numR most s.data.toList), .bool (isNum most s.data.toList)]) ∧ w = w := by
  have e : isNum most s.data.toList = false := by rw [H]; exact all_false_of s k h hd
  rw [numR_no e, e]; exact ⟨rfl, rfl⟩
theorem num_good (s : ByteArray) (k most : Nat) (w : World) (H : isNum most s.data.toList = s.data.toList.all dig) (h : s.size ≤ k) (ha : (s.data.toList.take k).all dig = true) :
    Ending.returned (.tuple #[.int .i64 (numVal (s.data.toList.take k)), .bool true]) = Ending.returned (.tuple #[.int .i64 (numR most s.data.toList), .bool (isNum most s.data.toList)]) ∧ w = w := by
  rw [List.take_of_length_le (by rw [size_len]; exact h)] at ha ⊢
  have e : isNum most s.data.toList = true := by rw [H]; exact ha
  rw [numR_yes e, e]; exact ⟨rfl, rfl⟩
theorem num_step (s : ByteArray) (k N : Nat) (h : k < s.size) (hN : numVal (s.data.toList.take k) = N) (hd : 48 ≤ s[k].toNat) :
    Value.int .i64 ((N : Int) * 10 + ((s[k].toNat : Int) - 48)) = .int .i64 (numVal (s.data.toList.take (k + 1))) := by
  rw [take_snoc s k h, numVal_snoc, hN]
  congr 1
  omega

set_option maxHeartbeats 1000000 in
/-- number.Read behind its first test. -/
theorem numRead_all (s : ByteArray) (most : Nat) (w : World) (hm : most ≤ 18) (h0 : 1 ≤ s.size) (h1 : s.size ≤ most) (h2 : 1 < s.size → ((s.data.toList.headD 0).toNat : Int) ≠ 48) :
    Calls Tryd.prog 36 #[.string s, .int .i64 most] w fun e w' => e = .returned (.tuple #[.int .i64 (numR most s.data.toList), .bool (isNum most s.data.toList)]) ∧ w' = w := by
  have H : Hid (isNum most s.data.toList = s.data.toList.all dig) := isNum_all (by rw [size_len]; exact h0) (by rw [size_len]; exact h1) (fun h => by rw [size_len] at h; have := h2 h; omega)
  have he := isEmpty_of s h0
  have he' : ¬ s.toList = [] := by rw [← List.isEmpty_iff, he]; decide
  rw [head_eq s h0] at h2
  by_cases hs : 1 < s.size
  · have h3 : ((s[0].toNat : Int) == 48) = false := by simpa using h2 hs
    clear h2
    go_enter Tryd.func36, Tryd.ntmps36
    go_wp2
    go_loop [6, 29] (fun n i => ∃ k : Nat, k ≤ s.size ∧ i = .int .i64 k ∧ n = .int .i64 (numVal (s.data.toList.take k)) ∧ (s.data.toList.take k).all dig = true) (fun _ i => s.size - (RowKit.intOf i).toNat)
    case atStart => exact ⟨0, Nat.zero_le _, rfl, rfl, rfl⟩
    case round =>
      obtain ⟨k, hk, rfl, rfl, hall⟩ := hrel
      by_cases hlt : k < s.size
      · have hv := val_bound s k most hlt h1 hm hall
        have HS : Hid (s.data.toList.take (k + 1) = s.data.toList.take k ++ [s[k]]) := take_snoc s k hlt
        have HA : Hid ((s.data.toList.take k).all dig = true) := hall
        clear hall
        generalize hN : (numVal (s.data.toList.take k)) = N at hv
        have HN : Hid (numVal (s.data.toList.take k) = N) := hN
        clear hN
        have hb : 0 ≤ (s[k].toNat : Int) ∧ (s[k].toNat : Int) ≤ 255 := by have := s[k].toNat_lt; omega
        by_cases d1 : (s[k].toNat : Int) < 48
        · go_wp2
          go_ret2
          exact num_bad s k most w H.out hlt (by unfold dig; simp; omega)
        · by_cases d2 : 57 < (s[k].toNat : Int)
          · go_wp2
            go_ret2
            exact num_bad s k most w H.out hlt (by unfold dig; simp; omega)
          · go_wp2
            go_round
            case rel => exact ⟨k + 1, by omega, by go_num, num_step s k N hlt HN.out (by omega), by rw [HS.out, List.all_append, HA.out]; simp [dig]; omega⟩
            case measure => simp [RowKit.intOf]; omega
      · go_wp2
        go_ret2
        exact num_good s k most w H.out (by omega) hall
  · clear h2
    go_enter Tryd.func36, Tryd.ntmps36
    go_wp2
    go_loop [6, 29] (fun n i => ∃ k : Nat, k ≤ s.size ∧ i = .int .i64 k ∧ n = .int .i64 (numVal (s.data.toList.take k)) ∧ (s.data.toList.take k).all dig = true) (fun _ i => s.size - (RowKit.intOf i).toNat)
    case atStart => exact ⟨0, Nat.zero_le _, rfl, rfl, rfl⟩
    case round =>
      obtain ⟨k, hk, rfl, rfl, hall⟩ := hrel
      by_cases hlt : k < s.size
      · have hv := val_bound s k most hlt h1 hm hall
        have HS : Hid (s.data.toList.take (k + 1) = s.data.toList.take k ++ [s[k]]) := take_snoc s k hlt
        have HA : Hid ((s.data.toList.take k).all dig = true) := hall
        clear hall
        generalize hN : (numVal (s.data.toList.take k)) = N at hv
        have HN : Hid (numVal (s.data.toList.take k) = N) := hN
        clear hN
        have hb : 0 ≤ (s[k].toNat : Int) ∧ (s[k].toNat : Int) ≤ 255 := by have := s[k].toNat_lt; omega
        by_cases d1 : (s[k].toNat : Int) < 48
        · go_wp2
          go_ret2
          exact num_bad s k most w H.out hlt (by unfold dig; simp; omega)
        · by_cases d2 : 57 < (s[k].toNat : Int)
          · go_wp2
            go_ret2
            exact num_bad s k most w H.out hlt (by unfold dig; simp; omega)
          · go_wp2
            go_round
            case rel => exact ⟨k + 1, by omega, by go_num, num_step s k N hlt HN.out (by omega), by rw [HS.out, List.all_append, HA.out]; simp [dig]; omega⟩
            case measure => simp [RowKit.intOf]; omega
      · go_wp2
        go_ret2
        exact num_good s k most w H.out (by omega) hall

theorem isNum_nil (most : Nat) : isNum most [] = false := rfl
theorem isNum_long {most : Nat} {l : List UInt8} (h : most < l.length) : isNum most l = false := by
  unfold isNum
  rw [decide_eq_false (by omega)]; simp
theorem isNum_zero {most : Nat} {l : List UInt8} (h : 1 < l.length) (h0 : (l.headD 0).toNat = 48) : isNum most l = false := by
  unfold isNum
  rw [decide_eq_true h, decide_eq_true h0]; simp
theorem num_none (most : Nat) (l : List UInt8) (w : World) (h : isNum most l = false) :
    Ending.returned (.tuple #[.int .i64 0, .bool false]) = Ending.returned (.tuple #[.int .i64 (numR most l), .bool (isNum most l)]) ∧ w = w := by
  rw [numR_no h, h]; exact ⟨rfl, rfl⟩

set_option maxHeartbeats 1000000 in
/-- number.Read. -/
theorem numRead (s : ByteArray) (most : Nat) (w : World) (hm : most ≤ 18) (hz : s.size ≤ maxLen) :
    Calls Tryd.prog 36 #[.string s, .int .i64 most] w fun e w' => e = .returned (.tuple #[.int .i64 (numR most s.data.toList), .bool (isNum most s.data.toList)]) ∧ w' = w := by
  unfold maxLen at hz
  by_cases h0 : 1 ≤ s.size
  · have he := isEmpty_of s h0
    have he' : ¬ s.toList = [] := by rw [← List.isEmpty_iff, he]; decide
    by_cases h1 : s.size ≤ most
    · by_cases h2 : 1 < s.size ∧ ((s.data.toList.headD 0).toNat : Int) = 48
      · obtain ⟨h2, h3⟩ := h2
        have HN : Hid (isNum most s.data.toList = false) := isNum_zero (by rw [size_len]; exact h2) (by omega)
        rw [head_eq s h0] at h3
        have h4 : ((s[0].toNat : Int) == 48) = true := by simpa using h3
        clear h3
        go_enter Tryd.func36, Tryd.ntmps36
        go_wp2
        go_ret2
        exact num_none most _ w HN.out
      · exact numRead_all s most w hm h0 h1 (fun h h' => h2 ⟨h, h'⟩)
    · have HN : Hid (isNum most s.data.toList = false) := isNum_long (by rw [size_len]; omega)
      go_enter Tryd.func36, Tryd.ntmps36
      go_wp2
      go_ret2
      exact num_none most _ w HN.out
  · have hs : s.data.toList = [] := List.eq_nil_of_length_eq_zero (by rw [size_len]; omega)
    have HN : Hid (isNum most s.data.toList = false) := by rw [hs]; exact isNum_nil most
    have he : s = ByteArray.empty := by cases s; simp at hs; subst hs; rfl
    clear hs
    subst he
    go_enter Tryd.func36, Tryd.ntmps36
    go_wp2
    go_ret2
    exact num_none most _ w HN.out

end Go.Proofs.YtcipbkaopnaiiacDoor
