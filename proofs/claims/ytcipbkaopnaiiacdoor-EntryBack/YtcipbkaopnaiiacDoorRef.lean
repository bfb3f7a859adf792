/-
  What the reference's Byte, below, Decimal, NumberOf and IsName answer, and the program's goods.Name, over whatever world.
-/
import Derived.Test.YtcipbkaopnaiiacDoorItoa
namespace Go.Proofs.YtcipbkaopnaiiacDoor
open Go.RowKit Go.Lib Go.Sort

/-- The number, or -1. -/
def numM (most : Nat) (l : List UInt8) : Int := if isNum most l then numVal l else -1
theorem numM_yes {most : Nat} {l : List UInt8} (h : isNum most l = true) : numM most l = numVal l := by unfold numM; rw [if_pos h]
theorem numM_no {most : Nat} {l : List UInt8} (h : isNum most l = false) : numM most l = -1 := by unfold numM; rw [if_neg (by rw [h]; decide)]
theorem ref_bad (s : ByteArray) (k most : Nat) (w : World) (H : isNum most s.data.toList = s.data.toList.all dig) (h : k < s.size) (hd : dig s[k] = false) :
    Ending.returned (.int .i64 (-1)) = Ending.returned (.int .i64 (numM most s.data.toList)) ∧ w = w := by
  have e : isNum most s.data.toList = false := by rw [H]; exact all_false_of s k h hd
  rw [numM_no e]; exact ⟨rfl, rfl⟩
theorem ref_good (s : ByteArray) (k most : Nat) (w : World) (H : isNum most s.data.toList = s.data.toList.all dig) (h : s.size ≤ k) (ha : (s.data.toList.take k).all dig = true) :
    Ending.returned (.int .i64 (numVal (s.data.toList.take k))) = Ending.returned (.int .i64 (numM most s.data.toList)) ∧ w = w := by
  rw [List.take_of_length_le (by rw [size_len]; exact h)] at ha ⊢
  have e : isNum most s.data.toList = true := by rw [H]; exact ha
  rw [numM_yes e]; exact ⟨rfl, rfl⟩
theorem ref_step (s : ByteArray) (k N : Nat) (h : k < s.size) (hN : numVal (s.data.toList.take k) = N) (hd : 48 ≤ s[k].toNat) :
    Value.int .i64 (10 * (N : Int) + ((s[k].toNat : Int) - 48)) = .int .i64 (numVal (s.data.toList.take (k + 1))) := by
  rw [take_snoc s k h, numVal_snoc, hN]
  congr 1
  omega
theorem ref_none (most : Nat) (l : List UInt8) (w : World) (h : isNum most l = false) : Ending.returned (.int .i64 (-1)) = Ending.returned (.int .i64 (numM most l)) ∧ w = w := by
  rw [numM_no h]; exact ⟨rfl, rfl⟩

end Go.Proofs.YtcipbkaopnaiiacDoor
