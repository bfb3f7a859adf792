/-
  What the reference's Byte, below, Decimal, NumberOf and IsName answer, and the program's goods.Name, over whatever world.
-/
import Derived.Test.YtefkchmahcjleaaDoorItoa
namespace Go.Proofs.YtefkchmahcjleaaDoor
open Go.RowKit Go.Lib Go.Sort

set_option maxRecDepth 20000 in
theorem refByte0 (n : Int) (h0 : 0 ≤ n) (h1 : n ≤ 255) (w : World) :
    Calls Tryd.prog 42 #[.int .i64 n] w fun e w' => e = .returned (.string ⟨#[UInt8.ofNat n.toNat]⟩) ∧ Below w.heap.size w w' := by
  have hc : (convert 59 9 (.slice (some ⟨w.heap.size, 0, none⟩) 1 1)).run Tryd.prog (w.alloc (.cells #[.int .u8 n] 5)) = .ok (.string ⟨#[UInt8.ofNat n.toNat]⟩) (w.alloc (.cells #[.int .u8 n] 5)) :=
    run_convert_bytes_arg (w.alloc (.cells #[.int .u8 n] 5)) 59 5 Tryd.underlying59 Tryd.underlying5 w.heap.size 0 1 1 [n] rfl (fun i hi => by
      obtain rfl : i = 0 := by omega
      simp) 9 Tryd.underlying9
  go_enter Tryd.func42, Tryd.ntmps42
  go_wp2
  go_ret
  exact ⟨rfl, ((Below.refl _ _).alloc (Nat.le_refl _) _)⟩

theorem refByte (n : Int) (k : Nat) (hk : n = k) (h : k ≤ 255) (w : World) :
    Calls Tryd.prog 42 #[.int .i64 n] w fun e w' => e = .returned (.string ⟨#[UInt8.ofNat k]⟩) ∧ Below w.heap.size w w' := by
  subst hk
  exact refByte0 k (by omega) (by omega) w

theorem refBelow : ∀ (m : Nat), m ≤ 9223372036854775807 → ∀ (n : Int), n = -(m : Int) → ∀ (w : World),
    Calls Tryd.prog 32 #[.int .i64 n] w fun e w' => e = .returned (.string ⟨(decDigits m).toArray⟩) ∧ Below w.heap.size w w' := by
  intro m
  induction m using Nat.strongRecOn with
  | _ m ih =>
    intro hm n hn w
    subst hn
    by_cases h : m < 10
    · rw [decDigits_one h]
      go_enter Tryd.func32, Tryd.ntmps32
      go_wp2_with (go_at_call 42; refine (refByte _ (48 + m) (by omega) (by omega) _).mono ?_; rintro e w1 ⟨rfl, hb⟩)
      go_ret
      exact ⟨by simp, hb⟩
    · have hi := ih (m / 10) (by omega) (by omega)
      have HI : Hid (∀ (n : Int), n = -((m / 10 : Nat) : Int) → ∀ (w : World), Calls Tryd.prog 32 #[.int .i64 n] w fun e w' => e = .returned (.string ⟨(decDigits (m / 10)).toArray⟩) ∧ Below w.heap.size w w') := hi
      clear ih hi
      have hl := decDigits_length (m / 10)
      have hl2 := nDigits_le 19 (m / 10) (by decide) (by omega)
      have hl3 : (decDigits (m / 10)).length ≤ 19 := by omega
      clear hl hl2
      rw [decDigits, dif_neg h, ← str_append]
      go_enter Tryd.func32, Tryd.ntmps32
      go_wp2_with (first | (go_at_call 32; refine (HI.out _ (by omega) _).mono ?_; rintro e w1 ⟨rfl, hb⟩) | (go_at_call 42; refine (refByte _ (48 + m % 10) (by omega) (by omega) _).mono ?_; rintro e w2 ⟨rfl, hb2⟩))
      go_ret
      exact ⟨by simp, hb.trans (hb2.mono hb.size)⟩

theorem refDecimal (n : Int) (h0 : 0 ≤ n) (h1 : n ≤ 9223372036854775807) (w : World) :
    Calls Tryd.prog 25 #[.int .i64 n] w fun e w' => e = .returned (.string ⟨(decDigits n.toNat).toArray⟩) ∧ Below w.heap.size w w' := by
  go_enter Tryd.func25, Tryd.ntmps25
  go_wp2_with (go_at_call 32; refine (refBelow n.toNat (by omega) _ (by omega) _).mono ?_; rintro e w1 ⟨rfl, hb⟩)
  go_ret
  exact ⟨rfl, hb⟩

/-- The number, or -1. -/
def numM (most : Nat) (l : List UInt8) : Int := if isNum most l then numVal l else -1
theorem numM_yes {most : Nat} {l : List UInt8} (h : isNum most l = true) : numM most l = numVal l := by unfold numM; rw [if_pos h]
theorem numM_no {most : Nat} {l : List UInt8} (h : isNum most l = false) : numM most l = -1 := by unfold numM; rw [if_neg (by rw [h]; decide)]
theorem ref_bad (s : ByteArray) (k most : Nat) (w : World) (H : isNum most s.data.toList = s.data.toList.all dig) (h : k < s.size) (hd : dig s[k] = false) :
    Ending.returned (.int .i64 (-1)) = Ending.returned (.int .i64 (numM most s.data.toList)) ∧ w = w := by
  have e : isNum most s.data.toList = false := by rw [H]; exact all_false_of s k h hd
  rw [numM_no e]; exact ⟨rfl, rfl⟩
theorem ref_good (s : ByteArray) (k most : Nat) (w : World) (H : isNum most s.data.toList = s.data.toList.all dig) (h : s.size ≤ k) (ha : (s.data.toList.take k).all dig = true) :
    Ending.returned (.int .i64 (numVal (s.data.toList.take k))) = Ending.returned (.int .i64 (numM most s.data.toList)) ∧ w = w := by
  rw [List.take_of_length_le (by rw [size_len]; exact h)] at ha ⊢
  have e : isNum most s.data.toList = true := by rw [H]; exact ha
  rw [numM_yes e]; exact ⟨rfl, rfl⟩
theorem ref_step (s : ByteArray) (k N : Nat) (h : k < s.size) (hN : numVal (s.data.toList.take k) = N) (hd : 48 ≤ s[k].toNat) :
    Value.int .i64 (10 * (N : Int) + ((s[k].toNat : Int) - 48)) = .int .i64 (numVal (s.data.toList.take (k + 1))) := by
  rw [take_snoc s k h, numVal_snoc, hN]
  congr 1
  omega
theorem ref_none (most : Nat) (l : List UInt8) (w : World) (h : isNum most l = false) : Ending.returned (.int .i64 (-1)) = Ending.returned (.int .i64 (numM most l)) ∧ w = w := by
  rw [numM_no h]; exact ⟨rfl, rfl⟩

end Go.Proofs.YtefkchmahcjleaaDoor
