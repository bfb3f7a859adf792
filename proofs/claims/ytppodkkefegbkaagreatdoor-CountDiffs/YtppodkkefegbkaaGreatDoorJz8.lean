/-
 Plain mathematics of lots: which one is sooner, the number of their error; no program is named here.
-/
import Derived.Test.YtppodkkefegbkaaGreatDoorJz3
import Derived.Test.YtppodkkefegbkaaGreatDoorJz4
import Derived.Test.YtppodkkefegbkaaGreatDoorGen2
import Derived.Deep.RegionHeld3
import Derived.Lib.SplitLaws
import Derived.Test.YtppodkkefegbkaaGreatDoorJz7
import Derived.Test.YtppodkkefegbkaaGreatDoorGen
set_option maxRecDepth 100000
set_option maxHeartbeats 16000000
namespace Go.Proofs.YtppodkkefegbkaaGreatDoor
open Go.Lib Go.Sort
abbrev Lo := ByteArray × ByteArray × Int × Int
def wellL (u k : Int) : Bool := decide (0 ≤ u) && decide (u ≤ 100000) && (decide (0 ≤ k) && decide (k ≤ 1048576))
def namesL (x : Lo) : Bool := isName x.1.data.toList && isName x.2.1.data.toList
def lotErr (x : Lo) : Nat := if namesL x then (if wellL x.2.2.1 x.2.2.2 then 0 else 2) else 5
end Go.Proofs.YtppodkkefegbkaaGreatDoor
namespace Go.Proofs.YtppodkkefegbkaaGreatDoor
open Go.RowKit Go.Lib Go.Sort
abbrev agL (x : Lo) : Value := .agg #[.string x.1, .string x.2.1, .int .i64 x.2.2.1, .int .i64 x.2.2.2]
theorem not_well {u k : Int} (h : wellL u k = false) : (u < 0) ∨ (0 ≤ u ∧ 100000 < u) ∨ (0 ≤ u ∧ u ≤ 100000 ∧ k < 0) ∨ (0 ≤ u ∧ u ≤ 100000 ∧ 0 ≤ k ∧ 1048576 < k) := by
 unfold wellL at h; simp at h; omega
theorem is_well {u k : Int} (h : wellL u k = true) : 0 ≤ u ∧ u ≤ 100000 ∧ 0 ≤ k ∧ k ≤ 1048576 := by
 unfold wellL at h; simp at h; omega
theorem lcheck_any (x : Lo) (w : World) (s : Nat → Addr) (hz : x.1.size ≤ maxLen) (hz2 : x.2.1.size ≤ maxLen) (hs : Two w s) :
  Calls Tryz.prog 95 #[agL x] w fun e w' => e = .returned (errP s (lotErr x)) ∧ Below w.heap.size w w' := by
 obtain ⟨a, c, u, k⟩ := x
 unfold agL
 simp only at hz hz2 ⊢
 have hB : ∀ o, Below w.heap.size w (w.alloc o) := fun o => (Below.refl _ w).alloc (Nat.le_refl _) _
 have hs2 := hs.below (hB (.cells #[.string a, .string c, .int .i64 u, .int .i64 k] 39))
 obtain ⟨c1, c2⟩ := hs2
 have hn : ∀ w, Calls Tryz.prog 77 #[.string a] w _ := fun w => name_any a w hz
 have hm : ∀ w, Calls Tryz.prog 77 #[.string c] w _ := fun w => name_any c w hz2
 clear hs hz hz2
 cases h1 : isName a.data.toList with
 | false =>
  rw [h1] at hn
  have HE : Hid (errP s (lotErr (a, c, u, k)) = err (s 4)) := by
   show _ = _
   unfold lotErr namesL; simp only [h1]; rfl
  clear hm
  go_enter Tryz.func95, Tryz.ntmps95
  go_wp2_with (go_at_call 77; refine (hn _).mono ?_; rintro e w1 ⟨rfl, rfl⟩)
  go_ret
  exact ⟨by rw [HE.out]; rfl, hB _⟩
 | true =>
  rw [h1] at hn
  cases h2 : isName c.data.toList with
  | false =>
   rw [h2] at hm
   have HE : Hid (errP s (lotErr (a, c, u, k)) = err (s 4)) := by
    show _ = _
    unfold lotErr namesL; simp only [h1, h2]; rfl
   go_enter Tryz.func95, Tryz.ntmps95
   go_wp2_with (first | (go_at_call_of 77 (Value.string a); refine (hn _).mono ?_; rintro e w1 ⟨rfl, rfl⟩) | (go_at_call_of 77 (Value.string c); refine (hm _).mono ?_; rintro e w2 ⟨rfl, rfl⟩))
   go_ret
   exact ⟨by rw [HE.out]; rfl, hB _⟩
  | true =>
   rw [h2] at hm
   cases h3 : wellL u k with
   | true =>
    have HE : Hid (errP s (lotErr (a, c, u, k)) = .nilIface) := by
     show _ = _
     unfold lotErr namesL; simp only [h1, h2, h3]; rfl
    obtain ⟨q1, q2, q3, q4⟩ := is_well h3
    clear h3
    go_enter Tryz.func95, Tryz.ntmps95
    go_wp2_with (first | (go_at_call_of 77 (Value.string a); refine (hn _).mono ?_; rintro e w1 ⟨rfl, rfl⟩) | (go_at_call_of 77 (Value.string c); refine (hm _).mono ?_; rintro e w2 ⟨rfl, rfl⟩))
    go_ret
    exact ⟨by rw [HE.out]; rfl, hB _⟩
   | false =>
    have HE : Hid (errP s (lotErr (a, c, u, k)) = err (s 1)) := by
     show _ = _
     unfold lotErr namesL; simp only [h1, h2, h3]; rfl
    rcases not_well h3 with q1 | ⟨q1, q2⟩ | ⟨q1, q2, q3⟩ | ⟨q1, q2, q3, q4⟩
    all_goals
     clear h3
     go_enter Tryz.func95, Tryz.ntmps95
     go_wp2_with (first | (go_at_call_of 77 (Value.string a); refine (hn _).mono ?_; rintro e w1 ⟨rfl, rfl⟩) | (go_at_call_of 77 (Value.string c); refine (hm _).mono ?_; rintro e w2 ⟨rfl, rfl⟩))
     go_ret
     exact ⟨by rw [HE.out]; rfl, hB _⟩
theorem lotError_any (x : Lo) (w : World) (hz : x.1.size ≤ maxLen) (hz2 : x.2.1.size ≤ maxLen) :
  Calls Tryz.prog 90 #[agL x] w fun e w' => e = .returned (.int .i64 (lotErr x)) ∧ Below w.heap.size w w' := by
 obtain ⟨a, c, u, k⟩ := x
 unfold agL
 simp only at hz hz2 ⊢
 have hB : ∀ o, Below w.heap.size w (w.alloc o) := fun o => (Below.refl _ w).alloc (Nat.le_refl _) _
 have hn : ∀ w, Calls Tryz.prog 43 #[.string a] w _ := fun w => isName_any a w hz
 have hm : ∀ w, Calls Tryz.prog 43 #[.string c] w _ := fun w => isName_any c w hz2
 clear hz hz2
 cases h1 : isName a.data.toList with
 | false =>
  rw [h1] at hn
  have HE : Hid (lotErr (a, c, u, k) = 5) := by
   show _ = _
   unfold lotErr namesL; simp only [h1]; rfl
  generalize isName c.data.toList = bc at hm
  go_enter Tryz.func90, Tryz.ntmps90
  go_wp2_with (first | (go_at_call_of 43 (Value.string a); refine (hn _).mono ?_; rintro e w1 ⟨rfl, rfl⟩) | (go_at_call_of 43 (Value.string c); refine (hm _).mono ?_; rintro e w2 ⟨rfl, rfl⟩))
  go_ret
  exact ⟨by rw [HE.out]; rfl, hB _⟩
 | true =>
  rw [h1] at hn
  cases h2 : isName c.data.toList with
  | false =>
   rw [h2] at hm
   have HE : Hid (lotErr (a, c, u, k) = 5) := by
    show _ = _
    unfold lotErr namesL; simp only [h1, h2]; rfl
   go_enter Tryz.func90, Tryz.ntmps90
   go_wp2_with (first | (go_at_call_of 43 (Value.string a); refine (hn _).mono ?_; rintro e w1 ⟨rfl, rfl⟩) | (go_at_call_of 43 (Value.string c); refine (hm _).mono ?_; rintro e w2 ⟨rfl, rfl⟩))
   go_ret
   exact ⟨by rw [HE.out]; rfl, hB _⟩
  | true =>
   rw [h2] at hm
   cases h3 : wellL u k with
   | true =>
    have HE : Hid (lotErr (a, c, u, k) = 0) := by
     show _ = _
     unfold lotErr namesL; simp only [h1, h2, h3]; rfl
    obtain ⟨q1, q2, q3, q4⟩ := is_well h3
    clear h3
    go_enter Tryz.func90, Tryz.ntmps90
    go_wp2_with (first | (go_at_call_of 43 (Value.string a); refine (hn _).mono ?_; rintro e w1 ⟨rfl, rfl⟩) | (go_at_call_of 43 (Value.string c); refine (hm _).mono ?_; rintro e w2 ⟨rfl, rfl⟩))
    go_ret
    exact ⟨by rw [HE.out]; rfl, hB _⟩
   | false =>
    have HE : Hid (lotErr (a, c, u, k) = 2) := by
     show _ = _
     unfold lotErr namesL; simp only [h1, h2, h3]; rfl
    rcases not_well h3 with q1 | ⟨q1, q2⟩ | ⟨q1, q2, q3⟩ | ⟨q1, q2, q3, q4⟩
    all_goals
     clear h3
     go_enter Tryz.func90, Tryz.ntmps90
     go_wp2_with (first | (go_at_call_of 43 (Value.string a); refine (hn _).mono ?_; rintro e w1 ⟨rfl, rfl⟩) | (go_at_call_of 43 (Value.string c); refine (hm _).mono ?_; rintro e w2 ⟨rfl, rfl⟩))
     go_ret
     exact ⟨by rw [HE.out]; rfl, hB _⟩
def three (l : List UInt8) : Bool := has 32 l && (has 32 (cutB 32 l) && has 32 (cutB 32 (cutB 32 l)))
def zeroL : Lo := (⟨#[]⟩, ⟨#[]⟩, 0, 0)
end Go.Proofs.YtppodkkefegbkaaGreatDoor
namespace Go.Proofs.YtppodkkefegbkaaGreatDoor
open Go.Shelf Go.RowKit Go.Lib Go.Sort
end Go.Proofs.YtppodkkefegbkaaGreatDoor
