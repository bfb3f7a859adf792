/-
 Plain mathematics of lots: which one is sooner, the number of their error; no program is named here.
-/
import Derived.Test.YtefkchmahcjleaaGreatDoorJz3
set_option maxRecDepth 100000
set_option maxHeartbeats 16000000
namespace Go.Proofs.YtefkchmahcjleaaGreatDoor
open Go.Lib Go.Sort
abbrev Lo := ByteArray × ByteArray × Int × Int
def cmpL (x y : Lo) : Int := or2 (compareInt x.2.2.1 y.2.2.1) (cmpZ x.1 y.1)
def soonL (x y : Lo) : Bool := decide (cmpL x y < 0)
def soonW (x y : Lo) : Prop := x.2.2.1 < y.2.2.1 ∨ (x.2.2.1 = y.2.2.1 ∧ zLt x.1 y.1 = true)
theorem soonL_iff (x y : Lo) : soonL x y = true ↔ soonW x y := by
 obtain ⟨a, c, u, k⟩ := x
 obtain ⟨a', c', u', k'⟩ := y
 unfold soonL soonW cmpL or2
 simp only [decide_eq_true_eq]
 rcases cmpI_cases u u' with ⟨k1, k2⟩ | ⟨k1, k2⟩ | ⟨k1, k2⟩
 ·rw [k2]; simp [k1]
 ·rw [k2]; simp; omega
 ·rw [k2]; subst k1
  rcases cmpZ_cases a a' with ⟨h1, h2, h3, h4⟩ | ⟨h1, h2, h3, h4⟩ | ⟨h1, h2, h3, h4⟩ <;> simp [h4, h1]
theorem soonL_no (x y : Lo) : soonL x y = false ↔ ¬ soonW x y := by rw [← soonL_iff]; simp
theorem swoL : SWO soonL where
 irrefl x := (soonL_no x x).2 (by unfold soonW; rw [zLt_irrefl]; simp)
 trans x y z h1 h2 := by
  rw [soonL_iff] at *
  unfold soonW at *
  rcases h1 with h1 | ⟨e1, h1⟩
  ·rcases h2 with h2 | ⟨e2, h2⟩
   ·exact Or.inl (by omega)
   ·exact Or.inl (by omega)
  ·rcases h2 with h2 | ⟨e2, h2⟩
   ·exact Or.inl (by omega)
   ·exact Or.inr ⟨by omega, zLt_trans h1 h2⟩
 ntrans x y z h1 h2 := by
  rw [soonL_no] at *
  unfold soonW at *
  intro h
  rcases h with h | ⟨e, h⟩
  ·by_cases hxy : x.2.2.1 < y.2.2.1
   ·exact h1 (Or.inl hxy)
   ·exact h2 (Or.inl (by omega))
  ·rcases Int.lt_trichotomy x.2.2.1 y.2.2.1 with k | k | k
   ·exact h1 (Or.inl k)
   ·rcases cmpZ_cases x.1 y.1 with ⟨q1, q2, q3, q4⟩ | ⟨q1, q2, q3, q4⟩ | ⟨q1, q2, q3, q4⟩
    ·exact h1 (Or.inr ⟨k, q1⟩)
    ·exact h2 (Or.inr ⟨by omega, zLt_trans q2 h⟩)
    ·rw [q3] at h; exact h2 (Or.inr ⟨by omega, h⟩)
   ·exact h2 (Or.inl (by omega))
def wellL (u k : Int) : Bool := decide (0 ≤ u) && decide (u ≤ 100000) && (decide (0 ≤ k) && decide (k ≤ 1048576))
def namesL (x : Lo) : Bool := isName x.1.data.toList && isName x.2.1.data.toList
def lotErr (x : Lo) : Nat := if namesL x then (if wellL x.2.2.1 x.2.2.2 then 0 else 2) else 5
end Go.Proofs.YtefkchmahcjleaaGreatDoor
namespace Go.Proofs.YtefkchmahcjleaaGreatDoor
open Go.RowKit Go.Lib Go.Sort
def encL (x : Lo) : List Value := [.string x.1, .string x.2.1, .int .i64 x.2.2.1, .int .i64 x.2.2.2]
abbrev agL (x : Lo) : Value := .agg #[.string x.1, .string x.2.1, .int .i64 x.2.2.1, .int .i64 x.2.2.2]
theorem not_well {u k : Int} (h : wellL u k = false) : (u < 0) ∨ (0 ≤ u ∧ 100000 < u) ∨ (0 ≤ u ∧ u ≤ 100000 ∧ k < 0) ∨ (0 ≤ u ∧ u ≤ 100000 ∧ 0 ≤ k ∧ 1048576 < k) := by
 unfold wellL at h; simp at h; omega
theorem is_well {u k : Int} (h : wellL u k = true) : 0 ≤ u ∧ u ≤ 100000 ∧ 0 ≤ k ∧ k ≤ 1048576 := by
 unfold wellL at h; simp at h; omega
theorem lcheck_any (x : Lo) (w : World) (s : Nat → Addr) (hz : x.1.size ≤ maxLen) (hz2 : x.2.1.size ≤ maxLen) (hs : Two w s) :
  Calls Tryz.prog 106 #[agL x] w fun e w' => e = .returned (errP s (lotErr x)) ∧ Below w.heap.size w w' := by
 obtain ⟨a, c, u, k⟩ := x
 unfold agL
 simp only at hz hz2 ⊢
 have hB : ∀ o, Below w.heap.size w (w.alloc o) := fun o => (Below.refl _ w).alloc (Nat.le_refl _) _
 have hs2 := hs.below (hB (.cells #[.string a, .string c, .int .i64 u, .int .i64 k] 40))
 obtain ⟨c1, c2⟩ := hs2
 have hn : ∀ w, Calls Tryz.prog 131 #[.string a] w _ := fun w => name_any a w hz
 have hm : ∀ w, Calls Tryz.prog 131 #[.string c] w _ := fun w => name_any c w hz2
 clear hs hz hz2
 cases h1 : isName a.data.toList with
 | false =>
  rw [h1] at hn
  have HE : Hid (errP s (lotErr (a, c, u, k)) = err (s 4)) := by
   show _ = _
   unfold lotErr namesL; simp only [h1]; rfl
  clear hm
  go_enter Tryz.func106, Tryz.ntmps106
  go_wp2_with (go_at_call 131; refine (hn _).mono ?_; rintro e w1 ⟨rfl, rfl⟩)
  go_ret
  exact ⟨by rw [HE.out]; rfl, hB _⟩
 | true =>
  rw [h1] at hn
  cases h2 : isName c.data.toList with
  | false =>
   rw [h2] at hm
   have HE : Hid (errP s (lotErr (a, c, u, k)) = err (s 4)) := by
    show _ = _
    unfold lotErr namesL; simp only [h1, h2]; rfl
   go_enter Tryz.func106, Tryz.ntmps106
   go_wp2_with (first | (go_at_call_of 131 (Value.string a); refine (hn _).mono ?_; rintro e w1 ⟨rfl, rfl⟩) | (go_at_call_of 131 (Value.string c); refine (hm _).mono ?_; rintro e w2 ⟨rfl, rfl⟩))
   go_ret
   exact ⟨by rw [HE.out]; rfl, hB _⟩
  | true =>
   rw [h2] at hm
   cases h3 : wellL u k with
   | true =>
    have HE : Hid (errP s (lotErr (a, c, u, k)) = .nilIface) := by
     show _ = _
     unfold lotErr namesL; simp only [h1, h2, h3]; rfl
    obtain ⟨q1, q2, q3, q4⟩ := is_well h3
    clear h3
    go_enter Tryz.func106, Tryz.ntmps106
    go_wp2_with (first | (go_at_call_of 131 (Value.string a); refine (hn _).mono ?_; rintro e w1 ⟨rfl, rfl⟩) | (go_at_call_of 131 (Value.string c); refine (hm _).mono ?_; rintro e w2 ⟨rfl, rfl⟩))
    go_ret
    exact ⟨by rw [HE.out]; rfl, hB _⟩
   | false =>
    have HE : Hid (errP s (lotErr (a, c, u, k)) = err (s 1)) := by
     show _ = _
     unfold lotErr namesL; simp only [h1, h2, h3]; rfl
    rcases not_well h3 with q1 | ⟨q1, q2⟩ | ⟨q1, q2, q3⟩ | ⟨q1, q2, q3, q4⟩
    all_goals
     clear h3
     go_enter Tryz.func106, Tryz.ntmps106
     go_wp2_with (first | (go_at_call_of 131 (Value.string a); refine (hn _).mono ?_; rintro e w1 ⟨rfl, rfl⟩) | (go_at_call_of 131 (Value.string c); refine (hm _).mono ?_; rintro e w2 ⟨rfl, rfl⟩))
     go_ret
     exact ⟨by rw [HE.out]; rfl, hB _⟩
theorem lotError_any (x : Lo) (w : World) (hz : x.1.size ≤ maxLen) (hz2 : x.2.1.size ≤ maxLen) :
  Calls Tryz.prog 96 #[agL x] w fun e w' => e = .returned (.int .i64 (lotErr x)) ∧ Below w.heap.size w w' := by
 obtain ⟨a, c, u, k⟩ := x
 unfold agL
 simp only at hz hz2 ⊢
 have hB : ∀ o, Below w.heap.size w (w.alloc o) := fun o => (Below.refl _ w).alloc (Nat.le_refl _) _
 have hn : ∀ w, Calls Tryz.prog 97 #[.string a] w _ := fun w => isName_any a w hz
 have hm : ∀ w, Calls Tryz.prog 97 #[.string c] w _ := fun w => isName_any c w hz2
 clear hz hz2
 cases h1 : isName a.data.toList with
 | false =>
  rw [h1] at hn
  have HE : Hid (lotErr (a, c, u, k) = 5) := by
   show _ = _
   unfold lotErr namesL; simp only [h1]; rfl
  generalize isName c.data.toList = bc at hm
  go_enter Tryz.func96, Tryz.ntmps96
  go_wp2_with (first | (go_at_call_of 97 (Value.string a); refine (hn _).mono ?_; rintro e w1 ⟨rfl, rfl⟩) | (go_at_call_of 97 (Value.string c); refine (hm _).mono ?_; rintro e w2 ⟨rfl, rfl⟩))
  go_ret
  exact ⟨by rw [HE.out]; rfl, hB _⟩
 | true =>
  rw [h1] at hn
  cases h2 : isName c.data.toList with
  | false =>
   rw [h2] at hm
   have HE : Hid (lotErr (a, c, u, k) = 5) := by
    show _ = _
    unfold lotErr namesL; simp only [h1, h2]; rfl
   go_enter Tryz.func96, Tryz.ntmps96
   go_wp2_with (first | (go_at_call_of 97 (Value.string a); refine (hn _).mono ?_; rintro e w1 ⟨rfl, rfl⟩) | (go_at_call_of 97 (Value.string c); refine (hm _).mono ?_; rintro e w2 ⟨rfl, rfl⟩))
   go_ret
   exact ⟨by rw [HE.out]; rfl, hB _⟩
  | true =>
   rw [h2] at hm
   cases h3 : wellL u k with
   | true =>
    have HE : Hid (lotErr (a, c, u, k) = 0) := by
     show _ = _
     unfold lotErr namesL; simp only [h1, h2, h3]; rfl
    obtain ⟨q1, q2, q3, q4⟩ := is_well h3
    clear h3
    go_enter Tryz.func96, Tryz.ntmps96
    go_wp2_with (first | (go_at_call_of 97 (Value.string a); refine (hn _).mono ?_; rintro e w1 ⟨rfl, rfl⟩) | (go_at_call_of 97 (Value.string c); refine (hm _).mono ?_; rintro e w2 ⟨rfl, rfl⟩))
    go_ret
    exact ⟨by rw [HE.out]; rfl, hB _⟩
   | false =>
    have HE : Hid (lotErr (a, c, u, k) = 2) := by
     show _ = _
     unfold lotErr namesL; simp only [h1, h2, h3]; rfl
    rcases not_well h3 with q1 | ⟨q1, q2⟩ | ⟨q1, q2, q3⟩ | ⟨q1, q2, q3, q4⟩
    all_goals
     clear h3
     go_enter Tryz.func96, Tryz.ntmps96
     go_wp2_with (first | (go_at_call_of 97 (Value.string a); refine (hn _).mono ?_; rintro e w1 ⟨rfl, rfl⟩) | (go_at_call_of 97 (Value.string c); refine (hm _).mono ?_; rintro e w2 ⟨rfl, rfl⟩))
     go_ret
     exact ⟨by rw [HE.out]; rfl, hB _⟩
theorem lcompare_any (x y : Lo) (w : World) : Calls Tryz.prog 130 #[agL x, agL y] w fun e w' => e = .returned (.int .i64 (cmpL x y)) ∧ ∃ q os, w' = grow (w.drewN q) os := by
 obtain ⟨a, c, u, k⟩ := x
 obtain ⟨a', c', u', k'⟩ := y
 unfold cmpL agL
 simp only
 have h1 := fun w => cmpS_any a a' w
 have h2 := fun w => cmpI_any u u' w
 generalize cmpZ a a' = c1 at *
 generalize compareInt u u' = c2 at *
 have h4 := fun bk c w => or2_any bk c c2 c1 w
 generalize or2 c2 c1 = c4 at *
 go_enter Tryz.func130, Tryz.ntmps130
 go_wp2
 go_region_held3 (fun w' => w'.cell? ⟨w.heap.size, 0, none⟩ = some (.string a) ∧ w'.cell? ⟨w.heap.size, 2, none⟩ = some (.int .i64 u) ∧ w'.cell? ⟨w.heap.size + 1, 0, none⟩ = some (.string a') ∧ w'.cell? ⟨w.heap.size + 1, 2, none⟩ = some (.int .i64 u')) (go_keep)
  (first | (go_at_call 116; refine (h1 _).mono ?_; rintro e w1 ⟨rfl, rfl⟩) | (go_at_call 148; refine (h2 _).mono ?_; rintro e w1 ⟨rfl, rfl⟩) | (go_at_call 114; refine (h4 _ _ _ (new_cell _ _ _ _ _ (by simp) rfl) (new_cell _ _ _ _ _ (by simp) rfl)).mono ?_; rintro e w1 ⟨rfl, rfl⟩))
 go_wp2
 go_ret
 exact ⟨rfl, 1, _, grow_three _ _ _ _⟩
theorem good_any (x : Lo) (day : Int) (w : World) : Calls Tryz.prog 69 #[agL x, .int .i64 day] w fun e w' => e = .returned (.bool (decide (day ≤ x.2.2.1))) ∧ Below w.heap.size w w' := by
 obtain ⟨a, c, u, k⟩ := x
 unfold agL
 simp only
 go_enter Tryz.func69, Tryz.ntmps69
 go_wp2
 go_ret
 exact ⟨rfl, (Below.refl _ w).alloc (Nat.le_refl _) _⟩
end Go.Proofs.YtefkchmahcjleaaGreatDoor
