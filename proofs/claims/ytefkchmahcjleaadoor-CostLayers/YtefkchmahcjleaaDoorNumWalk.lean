/-
  What number.Read answers, over whatever world.
-/
import Derived.Test.YtefkchmahcjleaaDoorProg
import Derived.Test.YtefkchmahcjleaaDoorShelf
import Derived.Test.YtefkchmahcjleaaDoorNums
import Derived.WalkKit
import Derived.BigQuiet
import Derived.WalkSmall
import Derived.Below
namespace Go.Proofs.YtefkchmahcjleaaDoor
open Go.RowKit Go.Lib

theorem take_snoc (s : ByteArray) (k : Nat) (h : k < s.size) : s.data.toList.take (k + 1) = s.data.toList.take k ++ [s[k]] := by
  rw [List.take_succ_eq_append_getElem (by simpa using h)]; rfl

theorem isEmpty_of (s : ByteArray) (h : 1 ≤ s.size) : s.toList.isEmpty = false := by
  rw [← decide_eq_emptyBytes]
  apply decide_eq_false
  rintro rfl
  exact absurd h (by decide)
theorem isNum_all {most : Nat} {l : List UInt8} (h0 : 1 ≤ l.length) (h1 : l.length ≤ most) (h2 : 1 < l.length → (l.headD 0).toNat ≠ 48) : isNum most l = l.all dig := by
  unfold isNum
  have e1 : l.isEmpty = false := by rw [List.isEmpty_eq_false_iff]; rintro rfl; exact absurd h0 (by decide)
  rw [e1, decide_eq_true h1]
  by_cases h : 1 < l.length
  · rw [decide_eq_true h, decide_eq_false (h2 h)]; simp
  · rw [decide_eq_false h]; simp
theorem all_take_snoc (s : ByteArray) (k : Nat) (h : k < s.size) : (s.data.toList.take (k + 1)).all dig = ((s.data.toList.take k).all dig && dig s[k]) := by
  rw [take_snoc s k h, List.all_append]; simp
theorem head_eq (s : ByteArray) (h : 0 < s.size) : s.data.toList.headD 0 = s[0] := by
  have e : s.data.toList = s[0] :: s.data.toList.drop 1 := by
    have := List.take_append_drop 1 s.data.toList
    rw [take_snoc s 0 h] at this
    simpa using this.symm
  rw [e]; rfl
theorem size_len (s : ByteArray) : s.data.toList.length = s.size := (Lib.size_eq s).symm

theorem val_bound (s : ByteArray) (k most : Nat) (h : k < s.size) (h1 : s.size ≤ most) (hm : most ≤ 18) (ha : (s.data.toList.take k).all dig = true) : numVal (s.data.toList.take k) ≤ 99999999999999999 := by
  have hl := numVal_lt _ ha
  have hk : (s.data.toList.take k).length ≤ 17 := Nat.le_trans (List.length_take_le _ _) (by omega)
  have hp : 10 ^ (s.data.toList.take k).length ≤ 10 ^ 17 := Nat.pow_le_pow_right (by decide) hk
  have : (10 : Nat) ^ 17 = 100000000000000000 := by decide
  omega
theorem all_false_of (s : ByteArray) (k : Nat) (h : k < s.size) (hd : dig s[k] = false) : s.data.toList.all dig = false := by
  rw [List.all_eq_false]
  refine ⟨s[k], ?_, by rw [hd]; decide⟩
  have := List.getElem_mem (l := s.data.toList) (n := k) (by rw [size_len]; exact h)
  exact this
theorem num_bad (s : ByteArray) (k most : Nat) (w : World) (H : isNum most s.data.toList = s.data.toList.all dig) (h : k < s.size) (hd : dig s[k] = false) :
    Ending.returned (.tuple #[.int .i64 0, .bool false]) = Ending.returned (.tuple #[.int .i64 (numR most s.data.toList), .bool (isNum most s.data.toList)]) ∧ w = w := by
  have e : isNum most s.data.toList = false := by rw [H]; exact all_false_of s k h hd
  rw [numR_no e, e]; exact ⟨rfl, rfl⟩
theorem num_good (s : ByteArray) (k most : Nat) (w : World) (H : isNum most s.data.toList = s.data.toList.all dig) (h : s.size ≤ k) (ha : (s.data.toList.take k).all dig = true) :
    Ending.returned (.tuple #[.int .i64 (numVal (s.data.toList.take k)), .bool true]) = Ending.returned (.tuple #[.int .i64 (numR most s.data.toList), .bool (isNum most s.data.toList)]) ∧ w = w := by
  rw [List.take_of_length_le (by rw [size_len]; exact h)] at ha ⊢
  have e : isNum most s.data.toList = true := by rw [H]; exact ha
  rw [numR_yes e, e]; exact ⟨rfl, rfl⟩
theorem num_step (s : ByteArray) (k N : Nat) (h : k < s.size) (hN : numVal (s.data.toList.take k) = N) (hd : 48 ≤ s[k].toNat) :
    Value.int .i64 ((N : Int) * 10 + ((s[k].toNat : Int) - 48)) = .int .i64 (numVal (s.data.toList.take (k + 1))) := by
  rw [take_snoc s k h, numVal_snoc, hN]
  congr 1
  omega

theorem isNum_nil (most : Nat) : isNum most [] = false := rfl
theorem isNum_long {most : Nat} {l : List UInt8} (h : most < l.length) : isNum most l = false := by
  unfold isNum
  rw [decide_eq_false (by omega)]; simp
theorem isNum_zero {most : Nat} {l : List UInt8} (h : 1 < l.length) (h0 : (l.headD 0).toNat = 48) : isNum most l = false := by
  unfold isNum
  rw [decide_eq_true h, decide_eq_true h0]; simp
theorem num_none (most : Nat) (l : List UInt8) (w : World) (h : isNum most l = false) :
    Ending.returned (.tuple #[.int .i64 0, .bool false]) = Ending.returned (.tuple #[.int .i64 (numR most l), .bool (isNum most l)]) ∧ w = w := by
  rw [numR_no h, h]; exact ⟨rfl, rfl⟩

end Go.Proofs.YtefkchmahcjleaaDoor
