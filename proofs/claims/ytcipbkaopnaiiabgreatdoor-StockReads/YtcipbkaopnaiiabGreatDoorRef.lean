/-
  What the reference's Byte, below, Decimal, NumberOf and IsName answer, and the program's goods.Name, over whatever world.
-/
import Derived.Test.YtcipbkaopnaiiabGreatDoorItoa
namespace Go.Proofs.YtcipbkaopnaiiabGreatDoor
open Go.RowKit Go.Lib Go.Sort

set_option maxRecDepth 20000 in
theorem refByte0 (n : Int) (h0 : 0 ≤ n) (h1 : n ≤ 255) (w : World) :
    Calls Tryz.prog 116 #[.int .i64 n] w fun e w' => e = .returned (.string ⟨#[UInt8.ofNat n.toNat]⟩) ∧ Below w.heap.size w w' := by
  have hc : (convert 89 9 (.slice (some ⟨w.heap.size, 0, none⟩) 1 1)).run Tryz.prog (w.alloc (.cells #[.int .u8 n] 5)) = .ok (.string ⟨#[UInt8.ofNat n.toNat]⟩) (w.alloc (.cells #[.int .u8 n] 5)) :=
    run_convert_bytes_arg (w.alloc (.cells #[.int .u8 n] 5)) 89 5 Tryz.underlying89 Tryz.underlying5 w.heap.size 0 1 1 [n] rfl (fun i hi => by
      obtain rfl : i = 0 := by omega
      simp) 9 Tryz.underlying9
  go_enter Tryz.func116, Tryz.ntmps116
  go_wp2
  go_ret
  exact ⟨rfl, ((Below.refl _ _).alloc (Nat.le_refl _) _)⟩

theorem refByte (n : Int) (k : Nat) (hk : n = k) (h : k ≤ 255) (w : World) :
    Calls Tryz.prog 116 #[.int .i64 n] w fun e w' => e = .returned (.string ⟨#[UInt8.ofNat k]⟩) ∧ Below w.heap.size w w' := by
  subst hk
  exact refByte0 k (by omega) (by omega) w

theorem refBelow : ∀ (m : Nat), m ≤ 9223372036854775807 → ∀ (n : Int), n = -(m : Int) → ∀ (w : World),
    Calls Tryz.prog 96 #[.int .i64 n] w fun e w' => e = .returned (.string ⟨(decDigits m).toArray⟩) ∧ Below w.heap.size w w' := by
  intro m
  induction m using Nat.strongRecOn with
  | _ m ih =>
    intro hm n hn w
    subst hn
    by_cases h : m < 10
    · rw [decDigits_one h]
      go_enter Tryz.func96, Tryz.ntmps96
      go_wp2_with (go_at_call 116; refine (refByte _ (48 + m) (by omega) (by omega) _).mono ?_; rintro e w1 ⟨rfl, hb⟩)
      go_ret
      exact ⟨by simp, hb⟩
    · have hi := ih (m / 10) (by omega) (by omega)
      have HI : Hid (∀ (n : Int), n = -((m / 10 : Nat) : Int) → ∀ (w : World), Calls Tryz.prog 96 #[.int .i64 n] w fun e w' => e = .returned (.string ⟨(decDigits (m / 10)).toArray⟩) ∧ Below w.heap.size w w') := hi
      clear ih hi
      have hl := decDigits_length (m / 10)
      have hl2 := nDigits_le 19 (m / 10) (by decide) (by omega)
      have hl3 : (decDigits (m / 10)).length ≤ 19 := by omega
      clear hl hl2
      rw [decDigits, dif_neg h, ← str_append]
      go_enter Tryz.func96, Tryz.ntmps96
      go_wp2_with (first | (go_at_call 96; refine (HI.out _ (by omega) _).mono ?_; rintro e w1 ⟨rfl, hb⟩) | (go_at_call 116; refine (refByte _ (48 + m % 10) (by omega) (by omega) _).mono ?_; rintro e w2 ⟨rfl, hb2⟩))
      go_ret
      exact ⟨by simp, hb.trans (hb2.mono hb.size)⟩

theorem refDecimal (n : Int) (h0 : 0 ≤ n) (h1 : n ≤ 9223372036854775807) (w : World) :
    Calls Tryz.prog 72 #[.int .i64 n] w fun e w' => e = .returned (.string ⟨(decDigits n.toNat).toArray⟩) ∧ Below w.heap.size w w' := by
  go_enter Tryz.func72, Tryz.ntmps72
  go_wp2_with (go_at_call 96; refine (refBelow n.toNat (by omega) _ (by omega) _).mono ?_; rintro e w1 ⟨rfl, hb⟩)
  go_ret
  exact ⟨rfl, hb⟩

/-- The number, or -1. -/
def numM (most : Nat) (l : List UInt8) : Int := if isNum most l then numVal l else -1
theorem numM_yes {most : Nat} {l : List UInt8} (h : isNum most l = true) : numM most l = numVal l := by unfold numM; rw [if_pos h]
theorem numM_no {most : Nat} {l : List UInt8} (h : isNum most l = false) : numM most l = -1 := by unfold numM; rw [if_neg (by rw [h]; decide)]
theorem ref_bad (s : ByteArray) (k most : Nat) (w : World) (H : isNum most s.data.toList = s.data.toList.all dig) (h : k < s.size) (hd : dig s[k] = false) :
    Ending.returned (.int .i64 (-1)) = Ending.returned (.int .i64 (numM most s.data.toList)) ∧ w = w := by
  have e : isNum most s.data.toList = false := by rw [H]; exact all_false_of s k h hd
  rw [numM_no e]; exact ⟨rfl, rfl⟩
theorem ref_good (s : ByteArray) (k most : Nat) (w : World) (H : isNum most s.data.toList = s.data.toList.all dig) (h : s.size ≤ k) (ha : (s.data.toList.take k).all dig = true) :
    Ending.returned (.int .i64 (numVal (s.data.toList.take k))) = Ending.returned (.int .i64 (numM most s.data.toList)) ∧ w = w := by
  rw [List.take_of_length_le (by rw [size_len]; exact h)] at ha ⊢
  have e : isNum most s.data.toList = true := by rw [H]; exact ha
  rw [numM_yes e]; exact ⟨rfl, rfl⟩
theorem ref_step (s : ByteArray) (k N : Nat) (h : k < s.size) (hN : numVal (s.data.toList.take k) = N) (hd : 48 ≤ s[k].toNat) :
    Value.int .i64 (10 * (N : Int) + ((s[k].toNat : Int) - 48)) = .int .i64 (numVal (s.data.toList.take (k + 1))) := by
  rw [take_snoc s k h, numVal_snoc, hN]
  congr 1
  omega
theorem ref_none (most : Nat) (l : List UInt8) (w : World) (h : isNum most l = false) : Ending.returned (.int .i64 (-1)) = Ending.returned (.int .i64 (numM most l)) ∧ w = w := by
  rw [numM_no h]; exact ⟨rfl, rfl⟩

set_option maxHeartbeats 1000000 in
theorem numberOf_all (s : ByteArray) (most : Nat) (w : World) (hm : most ≤ 18) (h0 : 1 ≤ s.size) (h1 : s.size ≤ most) (h2 : 1 < s.size → ((s.data.toList.headD 0).toNat : Int) ≠ 48) :
    Calls Tryz.prog 61 #[.string s, .int .i64 most] w fun e w' => e = .returned (.int .i64 (numM most s.data.toList)) ∧ w' = w := by
  have H : Hid (isNum most s.data.toList = s.data.toList.all dig) := isNum_all (by rw [size_len]; exact h0) (by rw [size_len]; exact h1) (fun h => by rw [size_len] at h; have := h2 h; omega)
  rw [head_eq s h0] at h2
  by_cases hs : 1 < s.size
  · have h3 : ((s[0].toNat : Int) == 48) = false := by simpa using h2 hs
    clear h2
    go_enter Tryz.func61, Tryz.ntmps61
    go_wp2
    go_loop [5, 6] (fun n i => ∃ k : Nat, k ≤ s.size ∧ i = .int .i64 k ∧ n = .int .i64 (numVal (s.data.toList.take k)) ∧ (s.data.toList.take k).all dig = true) (fun _ i => s.size - (RowKit.intOf i).toNat)
    case atStart => exact ⟨0, Nat.zero_le _, rfl, rfl, rfl⟩
    case round =>
      obtain ⟨k, hk, rfl, rfl, hall⟩ := hrel
      by_cases hlt : k < s.size
      · have hv := val_bound s k most hlt h1 hm hall
        have HS : Hid (s.data.toList.take (k + 1) = s.data.toList.take k ++ [s[k]]) := take_snoc s k hlt
        have HA : Hid ((s.data.toList.take k).all dig = true) := hall
        clear hall
        generalize hN : (numVal (s.data.toList.take k)) = N at hv
        have HN : Hid (numVal (s.data.toList.take k) = N) := hN
        clear hN
        have hb : 0 ≤ (s[k].toNat : Int) ∧ (s[k].toNat : Int) ≤ 255 := by have := s[k].toNat_lt; omega
        by_cases d1 : (s[k].toNat : Int) < 48
        · go_wp2
          go_ret
          exact ref_bad s k most w H.out hlt (by unfold dig; simp; omega)
        · by_cases d2 : 57 < (s[k].toNat : Int)
          · go_wp2
            go_ret
            exact ref_bad s k most w H.out hlt (by unfold dig; simp; omega)
          · go_wp2
            go_round
            case rel => exact ⟨k + 1, by omega, by go_num, ref_step s k N hlt HN.out (by omega), by rw [HS.out, List.all_append, HA.out]; simp [dig]; omega⟩
            case measure => simp [RowKit.intOf]; omega
      · go_wp2
        go_ret
        exact ref_good s k most w H.out (by omega) hall
  · clear h2
    go_enter Tryz.func61, Tryz.ntmps61
    go_wp2
    go_loop [5, 6] (fun n i => ∃ k : Nat, k ≤ s.size ∧ i = .int .i64 k ∧ n = .int .i64 (numVal (s.data.toList.take k)) ∧ (s.data.toList.take k).all dig = true) (fun _ i => s.size - (RowKit.intOf i).toNat)
    case atStart => exact ⟨0, Nat.zero_le _, rfl, rfl, rfl⟩
    case round =>
      obtain ⟨k, hk, rfl, rfl, hall⟩ := hrel
      by_cases hlt : k < s.size
      · have hv := val_bound s k most hlt h1 hm hall
        have HS : Hid (s.data.toList.take (k + 1) = s.data.toList.take k ++ [s[k]]) := take_snoc s k hlt
        have HA : Hid ((s.data.toList.take k).all dig = true) := hall
        clear hall
        generalize hN : (numVal (s.data.toList.take k)) = N at hv
        have HN : Hid (numVal (s.data.toList.take k) = N) := hN
        clear hN
        have hb : 0 ≤ (s[k].toNat : Int) ∧ (s[k].toNat : Int) ≤ 255 := by have := s[k].toNat_lt; omega
        by_cases d1 : (s[k].toNat : Int) < 48
        · go_wp2
          go_ret
          exact ref_bad s k most w H.out hlt (by unfold dig; simp; omega)
        · by_cases d2 : 57 < (s[k].toNat : Int)
          · go_wp2
            go_ret
            exact ref_bad s k most w H.out hlt (by unfold dig; simp; omega)
          · go_wp2
            go_round
            case rel => exact ⟨k + 1, by omega, by go_num, ref_step s k N hlt HN.out (by omega), by rw [HS.out, List.all_append, HA.out]; simp [dig]; omega⟩
            case measure => simp [RowKit.intOf]; omega
      · go_wp2
        go_ret
        exact ref_good s k most w H.out (by omega) hall

set_option maxHeartbeats 1000000 in
/-- NumberOf. -/
theorem numberOf (s : ByteArray) (most : Nat) (w : World) (hm : most ≤ 18) (hz : s.size ≤ maxLen) :
    Calls Tryz.prog 61 #[.string s, .int .i64 most] w fun e w' => e = .returned (.int .i64 (numM most s.data.toList)) ∧ w' = w := by
  unfold maxLen at hz
  by_cases h0 : 1 ≤ s.size
  · by_cases h1 : s.size ≤ most
    · by_cases h2 : 1 < s.size ∧ ((s.data.toList.headD 0).toNat : Int) = 48
      · obtain ⟨h2, h3⟩ := h2
        have HN : Hid (isNum most s.data.toList = false) := isNum_zero (by rw [size_len]; exact h2) (by omega)
        rw [head_eq s h0] at h3
        have h4 : ((s[0].toNat : Int) == 48) = true := by simpa using h3
        clear h3
        go_enter Tryz.func61, Tryz.ntmps61
        go_wp2
        go_ret
        exact ref_none most _ w HN.out
      · exact numberOf_all s most w hm h0 h1 (fun h h' => h2 ⟨h, h'⟩)
    · have HN : Hid (isNum most s.data.toList = false) := isNum_long (by rw [size_len]; omega)
      go_enter Tryz.func61, Tryz.ntmps61
      go_wp2
      go_ret
      exact ref_none most _ w HN.out
  · have hs : s.data.toList = [] := List.eq_nil_of_length_eq_zero (by rw [size_len]; omega)
    have HN : Hid (isNum most s.data.toList = false) := by rw [hs]; exact isNum_nil most
    have he : s = ByteArray.empty := isEmpty_nil hs
    clear hs
    subst he
    go_enter Tryz.func61, Tryz.ntmps61
    go_wp2
    go_ret
    exact ref_none most _ w HN.out
end Go.Proofs.YtcipbkaopnaiiabGreatDoor
