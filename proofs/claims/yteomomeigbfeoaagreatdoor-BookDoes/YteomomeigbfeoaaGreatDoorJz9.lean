/-
 Plain mathematics of lots: which one is sooner, the number of their error; no program is named here.
-/
import Derived.Test.YteomomeigbfeoaaGreatDoorJz2
import Derived.Test.YteomomeigbfeoaaGreatDoorJz3
import Derived.Test.YteomomeigbfeoaaGreatDoorGen2
import Derived.Deep.RegionHeld3
import Derived.Lib.SplitLaws
import Derived.Test.YteomomeigbfeoaaGreatDoorJz8
import Derived.Test.YteomomeigbfeoaaGreatDoorGen
set_option maxRecDepth 100000
set_option maxHeartbeats 16000000
namespace Go.Proofs.YteomomeigbfeoaaGreatDoor
open Go.Lib Go.Sort
abbrev Lo := ByteArray × ByteArray × Int × Int
def cmpL (x y : Lo) : Int := or2 (compareInt x.2.2.1 y.2.2.1) (cmpZ x.1 y.1)
def soonL (x y : Lo) : Bool := decide (cmpL x y < 0)
def soonW (x y : Lo) : Prop := x.2.2.1 < y.2.2.1 ∨ (x.2.2.1 = y.2.2.1 ∧ zLt x.1 y.1 = true)
theorem soonL_iff (x y : Lo) : soonL x y = true ↔ soonW x y := by
 obtain ⟨a, c, u, k⟩ := x
 obtain ⟨a', c', u', k'⟩ := y
 unfold soonL soonW cmpL or2
 simp only [decide_eq_true_eq]
 rcases cmpI_cases u u' with ⟨k1, k2⟩ | ⟨k1, k2⟩ | ⟨k1, k2⟩
 ·rw [k2]; simp [k1]
 ·rw [k2]; simp; omega
 ·rw [k2]; subst k1
  rcases cmpZ_cases a a' with ⟨h1, h2, h3, h4⟩ | ⟨h1, h2, h3, h4⟩ | ⟨h1, h2, h3, h4⟩ <;> simp [h4, h1]
theorem soonL_no (x y : Lo) : soonL x y = false ↔ ¬ soonW x y := by rw [← soonL_iff]; simp
theorem swoL : SWO soonL where
 irrefl x := (soonL_no x x).2 (by unfold soonW; rw [zLt_irrefl]; simp)
 trans x y z h1 h2 := by
  rw [soonL_iff] at *
  unfold soonW at *
  rcases h1 with h1 | ⟨e1, h1⟩
  ·rcases h2 with h2 | ⟨e2, h2⟩
   ·exact Or.inl (by omega)
   ·exact Or.inl (by omega)
  ·rcases h2 with h2 | ⟨e2, h2⟩
   ·exact Or.inl (by omega)
   ·exact Or.inr ⟨by omega, zLt_trans h1 h2⟩
 ntrans x y z h1 h2 := by
  rw [soonL_no] at *
  unfold soonW at *
  intro h
  rcases h with h | ⟨e, h⟩
  ·by_cases hxy : x.2.2.1 < y.2.2.1
   ·exact h1 (Or.inl hxy)
   ·exact h2 (Or.inl (by omega))
  ·rcases Int.lt_trichotomy x.2.2.1 y.2.2.1 with k | k | k
   ·exact h1 (Or.inl k)
   ·rcases cmpZ_cases x.1 y.1 with ⟨q1, q2, q3, q4⟩ | ⟨q1, q2, q3, q4⟩ | ⟨q1, q2, q3, q4⟩
    ·exact h1 (Or.inr ⟨k, q1⟩)
    ·exact h2 (Or.inr ⟨by omega, zLt_trans q2 h⟩)
    ·rw [q3] at h; exact h2 (Or.inr ⟨by omega, h⟩)
   ·exact h2 (Or.inl (by omega))
def wellL (u k : Int) : Bool := decide (0 ≤ u) && decide (u ≤ 100000) && (decide (0 ≤ k) && decide (k ≤ 1048576))
def namesL (x : Lo) : Bool := isName x.1.data.toList && isName x.2.1.data.toList
def lotErr (x : Lo) : Nat := if namesL x then (if wellL x.2.2.1 x.2.2.2 then 0 else 2) else 5
end Go.Proofs.YteomomeigbfeoaaGreatDoor
namespace Go.Proofs.YteomomeigbfeoaaGreatDoor
open Go.RowKit Go.Lib Go.Sort
def encL (x : Lo) : List Value := [.string x.1, .string x.2.1, .int .i64 x.2.2.1, .int .i64 x.2.2.2]
abbrev agL (x : Lo) : Value := .agg #[.string x.1, .string x.2.1, .int .i64 x.2.2.1, .int .i64 x.2.2.2]
structure BoxL (n : Nat) (x : Lo) (W : World) : Prop where
 c0 : W.cell? ⟨n, 0, none⟩ = some (.string x.1)
 c1 : W.cell? ⟨n, 1, none⟩ = some (.string x.2.1)
 c2 : W.cell? ⟨n, 2, none⟩ = some (.int .i64 x.2.2.1)
 c3 : W.cell? ⟨n, 3, none⟩ = some (.int .i64 x.2.2.2)
theorem BoxL.below {n : Nat} {x : Lo} {W W' : World} (h : BoxL n x W) (hb : Below W.heap.size W W') : BoxL n x W' where
 c0 := by rw [hb.cell (p := ⟨n, 0, none⟩) (cell_lt h.c0)]; exact h.c0
 c1 := by rw [hb.cell (p := ⟨n, 1, none⟩) (cell_lt h.c1)]; exact h.c1
 c2 := by rw [hb.cell (p := ⟨n, 2, none⟩) (cell_lt h.c2)]; exact h.c2
 c3 := by rw [hb.cell (p := ⟨n, 3, none⟩) (cell_lt h.c3)]; exact h.c3
abbrev boxL (w : World) (x : Lo) : World := w.alloc (.cells #[.string x.1, .string x.2.1, .int .i64 x.2.2.1, .int .i64 x.2.2.2] 26)
theorem BoxL.new (w : World) (x : Lo) (n : Nat) (hn : n = w.heap.size) : BoxL n x (boxL w x) where
 c0 := by rw [World.cell?_alloc_at _ _ _ _ hn]; rfl
 c1 := by rw [World.cell?_alloc_at _ _ _ _ hn]; rfl
 c2 := by rw [World.cell?_alloc_at _ _ _ _ hn]; rfl
 c3 := by rw [World.cell?_alloc_at _ _ _ _ hn]; rfl
theorem not_well {u k : Int} (h : wellL u k = false) : (u < 0) ∨ (0 ≤ u ∧ 100000 < u) ∨ (0 ≤ u ∧ u ≤ 100000 ∧ k < 0) ∨ (0 ≤ u ∧ u ≤ 100000 ∧ 0 ≤ k ∧ 1048576 < k) := by
 unfold wellL at h; simp at h; omega
theorem is_well {u k : Int} (h : wellL u k = true) : 0 ≤ u ∧ u ≤ 100000 ∧ 0 ≤ k ∧ k ≤ 1048576 := by
 unfold wellL at h; simp at h; omega
theorem lcheck_any (x : Lo) (w : World) (s : Nat → Addr) (hz : x.1.size ≤ maxLen) (hz2 : x.2.1.size ≤ maxLen) (hs : Two w s) :
  Calls Tryz.prog 135 #[agL x] w fun e w' => e = .returned (errP s (lotErr x)) ∧ Below w.heap.size w w' := by
 obtain ⟨a, c, u, k⟩ := x
 unfold agL
 simp only at hz hz2 ⊢
 have hB : ∀ o, Below w.heap.size w (w.alloc o) := fun o => (Below.refl _ w).alloc (Nat.le_refl _) _
 have hs2 := hs.below (hB (.cells #[.string a, .string c, .int .i64 u, .int .i64 k] 26))
 obtain ⟨c1, c2⟩ := hs2
 have hn : ∀ w, Calls Tryz.prog 114 #[.string a] w _ := fun w => name_any a w hz
 have hm : ∀ w, Calls Tryz.prog 114 #[.string c] w _ := fun w => name_any c w hz2
 clear hs hz hz2
 cases h1 : isName a.data.toList with
 | false =>
  rw [h1] at hn
  have HE : Hid (errP s (lotErr (a, c, u, k)) = err (s 4)) := by
   show _ = _
   unfold lotErr namesL; simp only [h1]; rfl
  clear hm
  go_enter Tryz.func135, Tryz.ntmps135
  go_wp2_with (go_at_call 114; refine (hn _).mono ?_; rintro e w1 ⟨rfl, rfl⟩)
  go_ret
  exact ⟨by rw [HE.out]; rfl, hB _⟩
 | true =>
  rw [h1] at hn
  cases h2 : isName c.data.toList with
  | false =>
   rw [h2] at hm
   have HE : Hid (errP s (lotErr (a, c, u, k)) = err (s 4)) := by
    show _ = _
    unfold lotErr namesL; simp only [h1, h2]; rfl
   go_enter Tryz.func135, Tryz.ntmps135
   go_wp2_with (first | (go_at_call_of 114 (Value.string a); refine (hn _).mono ?_; rintro e w1 ⟨rfl, rfl⟩) | (go_at_call_of 114 (Value.string c); refine (hm _).mono ?_; rintro e w2 ⟨rfl, rfl⟩))
   go_ret
   exact ⟨by rw [HE.out]; rfl, hB _⟩
  | true =>
   rw [h2] at hm
   cases h3 : wellL u k with
   | true =>
    have HE : Hid (errP s (lotErr (a, c, u, k)) = .nilIface) := by
     show _ = _
     unfold lotErr namesL; simp only [h1, h2, h3]; rfl
    obtain ⟨q1, q2, q3, q4⟩ := is_well h3
    clear h3
    go_enter Tryz.func135, Tryz.ntmps135
    go_wp2_with (first | (go_at_call_of 114 (Value.string a); refine (hn _).mono ?_; rintro e w1 ⟨rfl, rfl⟩) | (go_at_call_of 114 (Value.string c); refine (hm _).mono ?_; rintro e w2 ⟨rfl, rfl⟩))
    go_ret
    exact ⟨by rw [HE.out]; rfl, hB _⟩
   | false =>
    have HE : Hid (errP s (lotErr (a, c, u, k)) = err (s 1)) := by
     show _ = _
     unfold lotErr namesL; simp only [h1, h2, h3]; rfl
    rcases not_well h3 with q1 | ⟨q1, q2⟩ | ⟨q1, q2, q3⟩ | ⟨q1, q2, q3, q4⟩
    all_goals
     clear h3
     go_enter Tryz.func135, Tryz.ntmps135
     go_wp2_with (first | (go_at_call_of 114 (Value.string a); refine (hn _).mono ?_; rintro e w1 ⟨rfl, rfl⟩) | (go_at_call_of 114 (Value.string c); refine (hm _).mono ?_; rintro e w2 ⟨rfl, rfl⟩))
     go_ret
     exact ⟨by rw [HE.out]; rfl, hB _⟩
theorem lotError_any (x : Lo) (w : World) (hz : x.1.size ≤ maxLen) (hz2 : x.2.1.size ≤ maxLen) :
  Calls Tryz.prog 126 #[agL x] w fun e w' => e = .returned (.int .i64 (lotErr x)) ∧ Below w.heap.size w w' := by
 obtain ⟨a, c, u, k⟩ := x
 unfold agL
 simp only at hz hz2 ⊢
 have hB : ∀ o, Below w.heap.size w (w.alloc o) := fun o => (Below.refl _ w).alloc (Nat.le_refl _) _
 have hn : ∀ w, Calls Tryz.prog 127 #[.string a] w _ := fun w => isName_any a w hz
 have hm : ∀ w, Calls Tryz.prog 127 #[.string c] w _ := fun w => isName_any c w hz2
 clear hz hz2
 cases h1 : isName a.data.toList with
 | false =>
  rw [h1] at hn
  have HE : Hid (lotErr (a, c, u, k) = 5) := by
   show _ = _
   unfold lotErr namesL; simp only [h1]; rfl
  generalize isName c.data.toList = bc at hm
  go_enter Tryz.func126, Tryz.ntmps126
  go_wp2_with (first | (go_at_call_of 127 (Value.string a); refine (hn _).mono ?_; rintro e w1 ⟨rfl, rfl⟩) | (go_at_call_of 127 (Value.string c); refine (hm _).mono ?_; rintro e w2 ⟨rfl, rfl⟩))
  go_ret
  exact ⟨by rw [HE.out]; rfl, hB _⟩
 | true =>
  rw [h1] at hn
  cases h2 : isName c.data.toList with
  | false =>
   rw [h2] at hm
   have HE : Hid (lotErr (a, c, u, k) = 5) := by
    show _ = _
    unfold lotErr namesL; simp only [h1, h2]; rfl
   go_enter Tryz.func126, Tryz.ntmps126
   go_wp2_with (first | (go_at_call_of 127 (Value.string a); refine (hn _).mono ?_; rintro e w1 ⟨rfl, rfl⟩) | (go_at_call_of 127 (Value.string c); refine (hm _).mono ?_; rintro e w2 ⟨rfl, rfl⟩))
   go_ret
   exact ⟨by rw [HE.out]; rfl, hB _⟩
  | true =>
   rw [h2] at hm
   cases h3 : wellL u k with
   | true =>
    have HE : Hid (lotErr (a, c, u, k) = 0) := by
     show _ = _
     unfold lotErr namesL; simp only [h1, h2, h3]; rfl
    obtain ⟨q1, q2, q3, q4⟩ := is_well h3
    clear h3
    go_enter Tryz.func126, Tryz.ntmps126
    go_wp2_with (first | (go_at_call_of 127 (Value.string a); refine (hn _).mono ?_; rintro e w1 ⟨rfl, rfl⟩) | (go_at_call_of 127 (Value.string c); refine (hm _).mono ?_; rintro e w2 ⟨rfl, rfl⟩))
    go_ret
    exact ⟨by rw [HE.out]; rfl, hB _⟩
   | false =>
    have HE : Hid (lotErr (a, c, u, k) = 2) := by
     show _ = _
     unfold lotErr namesL; simp only [h1, h2, h3]; rfl
    rcases not_well h3 with q1 | ⟨q1, q2⟩ | ⟨q1, q2, q3⟩ | ⟨q1, q2, q3, q4⟩
    all_goals
     clear h3
     go_enter Tryz.func126, Tryz.ntmps126
     go_wp2_with (first | (go_at_call_of 127 (Value.string a); refine (hn _).mono ?_; rintro e w1 ⟨rfl, rfl⟩) | (go_at_call_of 127 (Value.string c); refine (hm _).mono ?_; rintro e w2 ⟨rfl, rfl⟩))
     go_ret
     exact ⟨by rw [HE.out]; rfl, hB _⟩
def three (l : List UInt8) : Bool := has 32 l && (has 32 (cutB 32 l) && has 32 (cutB 32 (cutB 32 l)))
def zeroL : Lo := (⟨#[]⟩, ⟨#[]⟩, 0, 0)
theorem lcompare_any (x y : Lo) (w : World) : Calls Tryz.prog 62 #[agL x, agL y] w fun e w' => e = .returned (.int .i64 (cmpL x y)) ∧ ∃ q os, w' = grow (w.drewN q) os := by
 obtain ⟨a, c, u, k⟩ := x
 obtain ⟨a', c', u', k'⟩ := y
 unfold cmpL agL
 simp only
 have h1 := fun w => cmpS_any a a' w
 have h2 := fun w => cmpI_any u u' w
 generalize cmpZ a a' = c1 at *
 generalize compareInt u u' = c2 at *
 have h4 := fun bk c w => or2_any bk c c2 c1 w
 generalize or2 c2 c1 = c4 at *
 go_enter Tryz.func62, Tryz.ntmps62
 go_wp2
 go_region_held3 (fun w' => w'.cell? ⟨w.heap.size, 0, none⟩ = some (.string a) ∧ w'.cell? ⟨w.heap.size, 2, none⟩ = some (.int .i64 u) ∧ w'.cell? ⟨w.heap.size + 1, 0, none⟩ = some (.string a') ∧ w'.cell? ⟨w.heap.size + 1, 2, none⟩ = some (.int .i64 u')) (go_keep)
  (first | (go_at_call 59; refine (h1 _).mono ?_; rintro e w1 ⟨rfl, rfl⟩) | (go_at_call 102; refine (h2 _).mono ?_; rintro e w1 ⟨rfl, rfl⟩) | (go_at_call 101; refine (h4 _ _ _ (new_cell _ _ _ _ _ (by simp) rfl) (new_cell _ _ _ _ _ (by simp) rfl)).mono ?_; rintro e w1 ⟨rfl, rfl⟩))
 go_wp2
 go_ret
 exact ⟨rfl, 1, _, grow_three _ _ _ _⟩
theorem isSooner_any (x y : Lo) (w : World) : Calls Tryz.prog 104 #[agL x, agL y] w fun e w' => e = .returned (.bool (soonL x y)) ∧ Below w.heap.size w w' := by
 obtain ⟨a, c, u, k⟩ := x
 obtain ⟨a', c', u', k'⟩ := y
 unfold agL
 simp only
 have hB : ∀ o o', Below w.heap.size w ((w.alloc o).alloc o') := fun o o' => ((Below.refl _ w).alloc (Nat.le_refl _) _).alloc (by simp) _
 have e1 := less_eq a a'
 rcases Int.lt_trichotomy u u' with hu | hu | hu
 ·have HE : Hid (soonL (a, c, u, k) (a', c', u', k') = true) := by
   show _ = _
   rw [soonL_iff]; exact Or.inl hu
  clear e1
  go_enter Tryz.func104, Tryz.ntmps104
  go_wp2
  go_ret
  exact ⟨by rw [HE.out]; rfl, hB _ _⟩
 ·subst hu
  have HE : Hid (soonL (a, c, u, k) (a', c', u, k') = zLt a a') := by
   show _ = _
   rw [Bool.eq_iff_iff, soonL_iff]; unfold soonW; simp
  have hn : ¬ u < u := by omega
  have H1 : Hid (Op.bytesLess a.toList a'.toList = zLt a a') := e1
  clear e1
  go_enter Tryz.func104, Tryz.ntmps104
  go_wp2
  go_ret
  exact ⟨by rw [HE.out, ← H1.out]; simp, hB _ _⟩
 ·have HE : Hid (soonL (a, c, u, k) (a', c', u', k') = false) := by
   show _ = _
   rw [soonL_no]; unfold soonW; simp; omega
  have hn : ¬ u < u' := by omega
  have hn' : (u == u') = false := by simp; omega
  clear e1
  go_enter Tryz.func104, Tryz.ntmps104
  go_wp2
  go_ret
  exact ⟨by rw [HE.out]; first | rfl | simp, hB _ _⟩
end Go.Proofs.YteomomeigbfeoaaGreatDoor
namespace Go.Proofs.YteomomeigbfeoaaGreatDoor
open Go.Shelf Go.RowKit Go.Lib Go.Sort
theorem encL_len (x : Lo) : (encL x).length = 4 := rfl
theorem encL_one (x : Lo) : ∀ v ∈ encL x, v.oneCell' = true := by
 intro v hv; simp [encL] at hv; rcases hv with rfl | rfl | rfl | rfl <;> rfl
theorem cmpLaysL (blk off size : Nat) (w : World) : CmpLays Tryz.prog 62 #[] encL 4 cmpL blk off size w := fun _ _ _ _ x y => lcompare_any x y _
theorem stL : St Tryz.prog 4 where
 mixed := by kernel_rfl
 fS := Tryz.func221
 fR := Tryz.func208
 fM := Tryz.func183
 t0 := Tryz.underlying0
 a0 := Tryz.isAgg0
 z0 := Tryz.sizeOf0
 v0 := Tryz.zeroValue0
 t3 := Tryz.underlying3
 a3 := Tryz.isAgg3
 z3 := Tryz.sizeOf3
 v3 := Tryz.zeroValue3
 t4 := Tryz.underlying4
 a4 := Tryz.isAgg4
 z4 := Tryz.sizeOf4
 v4 := Tryz.zeroValue4
 tU := Tryz.underlying178
 aU := Tryz.isAgg178
 zU := Tryz.sizeOf178
 vU := Tryz.zeroValue178
 tL := Tryz.underlying52
 aL := Tryz.isAgg52
 zL := Tryz.sizeOf52
 vL := Tryz.zeroValue52
 tF := Tryz.underlying119
 aF := Tryz.isAgg119
 zF := Tryz.sizeOf119
 vF := Tryz.zeroValue119
 aE := Tryz.isAgg26
 zE := Tryz.sizeOf26
def Stably (n : Nat) (d d' : Array Lo) : Prop := PermIn 0 n d d' ∧ SortedIn soonL 0 n d' ∧ (SortedIn soonL 0 n d → d' = d)
theorem stably_one {n : Nat} {d : Array Lo} (hn : n ≤ d.size) : Stably n d (insertionSort soonL d 0 n) :=
 have h := insertionSort_holds swoL d 0 n (Nat.zero_le _) hn
 ⟨h.1, h.2, fun hs => insertion_id hs⟩
theorem ins_none {n : Nat} {d : Array Lo} : insertionSort soonL d n n = d := insertion_id fun i j h1 h2 h3 => by omega
theorem stably_two {n : Nat} {d d' : Array Lo} (h20 : 20 ≤ n) (hn : n ≤ d.size) (hm : Merged soonL 0 20 n (insertionSort soonL (insertionSort soonL d 0 20) 20 n) d') : Stably n d d' := by
 obtain ⟨p1, s1⟩ := insertionSort_holds swoL d 0 20 (Nat.zero_le _) (by omega)
 generalize he1 : insertionSort soonL d 0 20 = d1 at *
 have z1 : d1.size = d.size := p1.1
 obtain ⟨p2, s2⟩ := insertionSort_holds swoL d1 20 n h20 (by omega)
 generalize he2 : insertionSort soonL d1 20 n = d2 at *
 have z2 : d2.size = d.size := by rw [p2.1, z1]
 have s1' : SortedIn soonL 0 20 d2 := SortedIn.congr_in s1 fun x _ hx => p2.2.1 x (Or.inl hx)
 refine ⟨?_, hm.2.1 s1' s2, fun hs => ?_⟩
 ·exact permIn_trans _ _ _ 0 n (permIn_mono _ _ 0 20 0 n (Nat.le_refl _) h20 hn p1) (permIn_trans _ _ _ 0 n (permIn_mono _ _ 20 n 0 n (Nat.zero_le _) (Nat.le_refl _) (by omega) p2) hm.1)
 ·have e1 : d1 = d := by rw [← he1]; exact insertion_id (SortedIn.rot_lo hs (Nat.le_refl _) h20)
  have e2 : d2 = d := by rw [← he2, e1]; exact insertion_id (SortedIn.rot_lo hs (Nat.zero_le _) (Nat.le_refl _))
  rw [e2] at hm
  exact hm.2.2 hs
theorem stably_three {n : Nat} {d d4 d' : Array Lo} (h40 : 40 ≤ n) (hn : n ≤ d.size) (hm : Merged soonL 0 20 40 (insertionSort soonL (insertionSort soonL (insertionSort soonL d 0 20) 20 40) 40 n) d4) (hm' : Merged soonL 0 40 n d4 d') : Stably n d d' := by
 obtain ⟨p1, s1⟩ := insertionSort_holds swoL d 0 20 (Nat.zero_le _) (by omega)
 generalize he1 : insertionSort soonL d 0 20 = d1 at *
 have z1 : d1.size = d.size := p1.1
 obtain ⟨p2, s2⟩ := insertionSort_holds swoL d1 20 40 (by decide) (by omega)
 generalize he2 : insertionSort soonL d1 20 40 = d2 at *
 have z2 : d2.size = d.size := by rw [p2.1, z1]
 obtain ⟨p3, s3⟩ := insertionSort_holds swoL d2 40 n h40 (by omega)
 generalize he3 : insertionSort soonL d2 40 n = d3 at *
 have z3 : d3.size = d.size := by rw [p3.1, z2]
 have s1' : SortedIn soonL 0 20 d2 := SortedIn.congr_in s1 fun x _ hx => p2.2.1 x (Or.inl hx)
 have s1'' : SortedIn soonL 0 20 d3 := SortedIn.congr_in s1' fun x _ hx => p3.2.1 x (Or.inl (by omega))
 have s2' : SortedIn soonL 20 40 d3 := SortedIn.congr_in s2 fun x _ hx => p3.2.1 x (Or.inl hx)
 have s4 := hm.2.1 s1'' s2'
 have z4 : d4.size = d.size := by rw [hm.1.1, z3]
 have s3' : SortedIn soonL 40 n d4 := SortedIn.congr_in s3 fun x hx _ => hm.1.2.1 x (Or.inr hx)
 refine ⟨?_, hm'.2.1 s4 s3', fun hs => ?_⟩
 ·exact permIn_trans _ _ _ 0 n (permIn_mono _ _ 0 20 0 n (Nat.le_refl _) (by omega) hn p1) (permIn_trans _ _ _ 0 n (permIn_mono _ _ 20 40 0 n (Nat.zero_le _) h40 (by omega) p2) (permIn_trans _ _ _ 0 n (permIn_mono _ _ 40 n 0 n (Nat.zero_le _) (Nat.le_refl _) (by omega) p3) (permIn_trans _ _ _ 0 n (permIn_mono _ _ 0 40 0 n (Nat.le_refl _) h40 (by omega) hm.1) hm'.1)))
 ·have e1 : d1 = d := by rw [← he1]; exact insertion_id (SortedIn.rot_lo hs (Nat.le_refl _) (by omega))
  have e2 : d2 = d := by rw [← he2, e1]; exact insertion_id (SortedIn.rot_lo hs (Nat.zero_le _) h40)
  have e3 : d3 = d := by rw [← he3, e2]; exact insertion_id (SortedIn.rot_lo hs (Nat.zero_le _) (Nat.le_refl _))
  rw [e3] at hm
  have e4 : d4 = d := hm.2.2 (SortedIn.rot_lo hs (Nat.le_refl _) h40)
  rw [e4] at hm'
  exact hm'.2.2 hs
theorem insL (blk off cap : Nat) (d0 : Array Lo) (w0 : World) (R : RowK encL 4 w0 blk off d0) (hsz : d0.size < 1000) (a b : Nat) (d : Array Lo) (w : World) (hab : a ≤ b) (hb : b ≤ d0.size) (hZ : SZ encL 4 w0 blk off d0.size d w) :
  Calls Tryz.prog 182 #[.slice (some ⟨blk, off, none⟩) d0.size cap, .int .i64 a, .int .i64 b, .func (.func 62) #[] #[]] w fun e w' => e = .returned (.tuple #[]) ∧ SZ encL 4 w0 blk off d0.size (insertionSort soonL d a b) w' := by
 have eg : ∀ args w, (callFunc 62 args).run Tryz.prog w = .ok (.enter 62 args) w := enters_of Tryz.func62 (by kernel_rfl) rfl
 have hs := hZ.1
 have h := AnyQ.insertionSortCmpFunc Tryz.laysInsL 4 Tryz.isAgg26 Tryz.sizeOf26 encL encL_len encL_one cmpL 62 #[] blk off cap a b d w eg (cmpLaysL blk off d.size w) (hZ.2.holds R.hblk R.hH hs) (hZ.2.lt R.hblk) hab (by omega) (by omega)
 rw [hs] at h
 refine h.mono fun e w' ⟨he, n, os, hw⟩ => ⟨he, ?_⟩
 have hp : (insertionSort soonL d a b).size = d.size := (insertionSort_holds swoL d a b hab (by omega)).1.1
 refine ⟨by rw [hp]; exact hs, ?_⟩
 rw [hw]
 exact hZ.2.on R.hblk n _ os hp
theorem symL (blk off cap : Nat) (d0 : Array Lo) (w0 : World) (R : RowK encL 4 w0 blk off d0) (hsz : d0.size < 1000) (a m b : Nat) (d : Array Lo) (w : World) (ham : a < m) (hmb : m < b) (hb : b ≤ d0.size) (hZ : SZ encL 4 w0 blk off d0.size d w) :
  Calls Tryz.prog 183 #[.slice (some ⟨blk, off, none⟩) d0.size cap, .int .i64 a, .int .i64 m, .int .i64 b, .func (.func 62) #[] #[]] w fun e w' => e = .returned (.tuple #[]) ∧ ∃ d', Merged soonL a m b d d' ∧ SZ encL 4 w0 blk off d0.size d' w' := by
 have eg : ∀ args w, (callFunc 62 args).run Tryz.prog w = .ok (.enter 62 args) w := enters_of Tryz.func62 (by kernel_rfl) rfl
 exact sym_any stL encL cmpL 62 #[] swoL blk off cap d0 w0 eg (cmpLaysL blk off d0.size w0) R (by omega) (b - a + 1) a m b d w (by omega) ham hmb hb hZ
theorem stable_few (blk off cap : Nat) (d : Array Lo) (w : World) (R : RowK encL 4 w blk off d) (hn : d.size < 20) :
  Calls Tryz.prog 142 #[.slice (some ⟨blk, off, none⟩) d.size cap, .int .i64 d.size, .func (.func 62) #[] #[]] w fun e w' => e = .returned (.tuple #[]) ∧ ∃ d', Stably d.size d d' ∧ SZ encL 4 w blk off d.size d' w' := by
 have h0 : Calls Tryz.prog 182 #[.slice (some ⟨blk, off, none⟩) d.size cap, .int .i64 0, .int .i64 d.size, .func (.func 62) #[] #[]] w _ := insL blk off cap d w R (by omega) 0 d.size d w (Nat.zero_le _) (Nat.le_refl _) ⟨rfl, SWK.start R.hH⟩
 have HS : Hid (Stably d.size d (insertionSort soonL d 0 d.size)) := stably_one (Nat.le_refl _)
 have H0 : Hid (Calls Tryz.prog _ _ _ _) := h0
 clear h0 R
 generalize insertionSort soonL d 0 d.size = d1 at *
 generalize d.size = n at *
 go_enter Tryz.func142, Tryz.ntmps142
 go_wp2
 refine wp_loop_rounds 1 ?_
 rw [rounds_succ]
 go_wp2_with (go_at_call 182; refine H0.out.mono ?_; rintro e w1 ⟨rfl, Z1⟩)
 refine wp_loop_rounds 1 ?_
 rw [rounds_succ]
 go_wp2
 go_end0
 exact ⟨rfl, d1, HS.out, Z1⟩
theorem stable_twenty (blk off cap : Nat) (d : Array Lo) (w : World) (R : RowK encL 4 w blk off d) (hn : d.size = 20) :
  Calls Tryz.prog 142 #[.slice (some ⟨blk, off, none⟩) 20 cap, .int .i64 20, .func (.func 62) #[] #[]] w fun e w' => e = .returned (.tuple #[]) ∧ ∃ d', Stably 20 d d' ∧ SZ encL 4 w blk off 20 d' w' := by
 have i1 := fun a b d1 w1 h1 h2 => insL blk off cap d w R (by omega) a b d1 w1 h1 h2
 rw [hn] at i1
 have h0 : Calls Tryz.prog 182 #[.slice (some ⟨blk, off, none⟩) 20 cap, .int .i64 0, .int .i64 20, .func (.func 62) #[] #[]] w _ := i1 0 20 d w (by decide) (by decide) ⟨hn, SWK.start R.hH⟩
 have h1 : ∀ d1 w1, SZ encL 4 w blk off 20 d1 w1 → Calls Tryz.prog 182 #[.slice (some ⟨blk, off, none⟩) 20 cap, .int .i64 20, .int .i64 20, .func (.func 62) #[] #[]] w1 _ := fun d1 w1 h => i1 20 20 d1 w1 (by decide) (by decide) h
 have HS : Hid (Stably 20 d (insertionSort soonL d 0 20)) := stably_one (by omega)
 have H0 : Hid (Calls Tryz.prog _ _ _ _) := h0
 have H1 : Aside _ := h1
 clear h0 h1 i1 R
 generalize insertionSort soonL d 0 20 = d1 at *
 go_enter Tryz.func142, Tryz.ntmps142
 go_wp2
 refine wp_loop_rounds 2 ?_
 rw [rounds_succ]
 go_wp2_with (go_at_call_of 182 (Value.int .i64 0); refine H0.out.mono ?_; rintro e w1 ⟨rfl, Z1⟩)
 rw [rounds_succ]
 go_wp2_with (go_at_call 182; refine (H1.out _ _ Z1).mono ?_; rintro e w2 ⟨rfl, Z2⟩)
 refine wp_loop_rounds 1 ?_
 rw [rounds_succ]
 go_wp2
 go_end0
 rw [ins_none] at Z2
 exact ⟨rfl, d1, HS.out, Z2⟩
theorem stable_more (blk off cap : Nat) (d : Array Lo) (w : World) (R : RowK encL 4 w blk off d) (hn : 20 < d.size) (hn' : d.size < 40) :
  Calls Tryz.prog 142 #[.slice (some ⟨blk, off, none⟩) d.size cap, .int .i64 d.size, .func (.func 62) #[] #[]] w fun e w' => e = .returned (.tuple #[]) ∧ ∃ d', Stably d.size d d' ∧ SZ encL 4 w blk off d.size d' w' := by
 have h0 : Calls Tryz.prog 182 #[.slice (some ⟨blk, off, none⟩) d.size cap, .int .i64 0, .int .i64 20, .func (.func 62) #[] #[]] w _ := insL blk off cap d w R (by omega) 0 20 d w (by decide) (by omega) ⟨rfl, SWK.start R.hH⟩
 have h1 : ∀ d1 w1, SZ encL 4 w blk off d.size d1 w1 → Calls Tryz.prog 182 #[.slice (some ⟨blk, off, none⟩) d.size cap, .int .i64 20, .int .i64 d.size, .func (.func 62) #[] #[]] w1 _ := fun d1 w1 h => insL blk off cap d w R (by omega) 20 d.size d1 w1 (by omega) (Nat.le_refl _) h
 have h2 : ∀ d1 w1, SZ encL 4 w blk off d.size d1 w1 → Calls Tryz.prog 183 #[.slice (some ⟨blk, off, none⟩) d.size cap, .int .i64 0, .int .i64 20, .int .i64 d.size, .func (.func 62) #[] #[]] w1 _ := fun d1 w1 h => symL blk off cap d w R (by omega) 0 20 d.size d1 w1 (by decide) hn (Nat.le_refl _) h
 have HS : Hid (∀ d', Merged soonL 0 20 d.size (insertionSort soonL (insertionSort soonL d 0 20) 20 d.size) d' → Stably d.size d d') := fun d' h => stably_two (by omega) (Nat.le_refl _) h
 have H0 : Hid (Calls Tryz.prog _ _ _ _) := h0
 have H1 : Aside _ := h1
 have H2 : Aside _ := h2
 clear h0 h1 h2 R
 generalize insertionSort soonL d 0 20 = d1 at *
 generalize d.size = n at *
 go_enter Tryz.func142, Tryz.ntmps142
 go_wp2
 refine wp_loop_rounds 2 ?_
 rw [rounds_succ]
 go_wp2_with (go_at_call_of 182 (Value.int .i64 0); refine H0.out.mono ?_; rintro e w1 ⟨rfl, Z1⟩)
 rw [rounds_succ]
 go_wp2_with (go_at_call 182; refine (H1.out _ _ Z1).mono ?_; rintro e w2 ⟨rfl, Z2⟩)
 refine wp_loop_rounds 2 ?_
 rw [rounds_succ]
 go_wp2
 refine wp_loop_rounds 1 ?_
 rw [rounds_succ]
 go_wp2_with (go_at_call 183; refine (H2.out _ _ Z2).mono ?_; rintro e w3 ⟨rfl, d3, hm3, Z3⟩)
 rw [rounds_succ]
 go_wp2
 go_end0
 exact ⟨rfl, d3, HS.out d3 hm3, Z3⟩
theorem stable_forty (blk off cap : Nat) (d : Array Lo) (w : World) (R : RowK encL 4 w blk off d) (hn : d.size = 40) :
  Calls Tryz.prog 142 #[.slice (some ⟨blk, off, none⟩) 40 cap, .int .i64 40, .func (.func 62) #[] #[]] w fun e w' => e = .returned (.tuple #[]) ∧ ∃ d', Stably 40 d d' ∧ SZ encL 4 w blk off 40 d' w' := by
 have i1 := fun a b d1 w1 h1 h2 => insL blk off cap d w R (by omega) a b d1 w1 h1 h2
 have i2 := fun a m b d1 w1 h1 h2 h3 => symL blk off cap d w R (by omega) a m b d1 w1 h1 h2 h3
 rw [hn] at i1 i2
 have h0 : Calls Tryz.prog 182 #[.slice (some ⟨blk, off, none⟩) 40 cap, .int .i64 0, .int .i64 20, .func (.func 62) #[] #[]] w _ := i1 0 20 d w (by decide) (by decide) ⟨hn, SWK.start R.hH⟩
 have h1 : ∀ d1 w1, SZ encL 4 w blk off 40 d1 w1 → Calls Tryz.prog 182 #[.slice (some ⟨blk, off, none⟩) 40 cap, .int .i64 20, .int .i64 40, .func (.func 62) #[] #[]] w1 _ := fun d1 w1 h => i1 20 40 d1 w1 (by decide) (by decide) h
 have h3 : ∀ d1 w1, SZ encL 4 w blk off 40 d1 w1 → Calls Tryz.prog 182 #[.slice (some ⟨blk, off, none⟩) 40 cap, .int .i64 40, .int .i64 40, .func (.func 62) #[] #[]] w1 _ := fun d1 w1 h => i1 40 40 d1 w1 (by decide) (by decide) h
 have h2 : ∀ d1 w1, SZ encL 4 w blk off 40 d1 w1 → Calls Tryz.prog 183 #[.slice (some ⟨blk, off, none⟩) 40 cap, .int .i64 0, .int .i64 20, .int .i64 40, .func (.func 62) #[] #[]] w1 _ := fun d1 w1 h => i2 0 20 40 d1 w1 (by decide) (by decide) (by decide) h
 have HS : Hid (∀ d', Merged soonL 0 20 40 (insertionSort soonL (insertionSort soonL d 0 20) 20 40) d' → Stably 40 d d') := fun d' h => stably_two (by omega) (by omega) h
 have H0 : Hid (Calls Tryz.prog _ _ _ _) := h0
 have H1 : Aside _ := h1
 have H2 : Aside _ := h2
 have H3 : Aside _ := h3
 clear h0 h1 h2 h3 i1 i2 R
 generalize insertionSort soonL d 0 20 = d1 at *
 go_enter Tryz.func142, Tryz.ntmps142
 go_wp2
 refine wp_loop_rounds 3 ?_
 rw [rounds_succ]
 go_wp2_with (go_at_call_of 182 (Value.int .i64 0); refine H0.out.mono ?_; rintro e w1 ⟨rfl, Z1⟩)
 rw [rounds_succ]
 go_wp2_with (go_at_call 182; refine (H1.out _ _ Z1).mono ?_; rintro e w2 ⟨rfl, Z2⟩)
 rw [rounds_succ]
 go_wp2_with (go_at_call 182; refine (H3.out _ _ Z2).mono ?_; rintro e w3 ⟨rfl, Z3⟩)
 refine wp_loop_rounds 2 ?_
 rw [rounds_succ]
 go_wp2
 refine wp_loop_rounds 2 ?_
 rw [rounds_succ]
 rw [ins_none] at Z3
 go_wp2_with (go_at_call 183; refine (H2.out _ _ Z3).mono ?_; rintro e w4 ⟨rfl, d4, hm4, Z4⟩)
 rw [rounds_succ]
 go_wp2
 rw [rounds_succ]
 go_wp2
 go_end0
 exact ⟨rfl, d4, HS.out d4 hm4, Z4⟩
theorem stable_fifty (blk off cap : Nat) (d : Array Lo) (w : World) (R : RowK encL 4 w blk off d) (hn : 40 < d.size) (hn' : d.size < 60) :
  Calls Tryz.prog 142 #[.slice (some ⟨blk, off, none⟩) d.size cap, .int .i64 d.size, .func (.func 62) #[] #[]] w fun e w' => e = .returned (.tuple #[]) ∧ ∃ d', Stably d.size d d' ∧ SZ encL 4 w blk off d.size d' w' := by
 have h0 : Calls Tryz.prog 182 #[.slice (some ⟨blk, off, none⟩) d.size cap, .int .i64 0, .int .i64 20, .func (.func 62) #[] #[]] w _ := insL blk off cap d w R (by omega) 0 20 d w (by decide) (by omega) ⟨rfl, SWK.start R.hH⟩
 have h1 : ∀ d1 w1, SZ encL 4 w blk off d.size d1 w1 → Calls Tryz.prog 182 #[.slice (some ⟨blk, off, none⟩) d.size cap, .int .i64 20, .int .i64 40, .func (.func 62) #[] #[]] w1 _ := fun d1 w1 h => insL blk off cap d w R (by omega) 20 40 d1 w1 (by decide) (by omega) h
 have h3 : ∀ d1 w1, SZ encL 4 w blk off d.size d1 w1 → Calls Tryz.prog 182 #[.slice (some ⟨blk, off, none⟩) d.size cap, .int .i64 40, .int .i64 d.size, .func (.func 62) #[] #[]] w1 _ := fun d1 w1 h => insL blk off cap d w R (by omega) 40 d.size d1 w1 (by omega) (Nat.le_refl _) h
 have h2 : ∀ d1 w1, SZ encL 4 w blk off d.size d1 w1 → Calls Tryz.prog 183 #[.slice (some ⟨blk, off, none⟩) d.size cap, .int .i64 0, .int .i64 20, .int .i64 40, .func (.func 62) #[] #[]] w1 _ := fun d1 w1 h => symL blk off cap d w R (by omega) 0 20 40 d1 w1 (by decide) (by decide) (by omega) h
 have h4 : ∀ d1 w1, SZ encL 4 w blk off d.size d1 w1 → Calls Tryz.prog 183 #[.slice (some ⟨blk, off, none⟩) d.size cap, .int .i64 0, .int .i64 40, .int .i64 d.size, .func (.func 62) #[] #[]] w1 _ := fun d1 w1 h => symL blk off cap d w R (by omega) 0 40 d.size d1 w1 (by decide) hn (Nat.le_refl _) h
 have HS : Hid (∀ d4 d', Merged soonL 0 20 40 (insertionSort soonL (insertionSort soonL (insertionSort soonL d 0 20) 20 40) 40 d.size) d4 → Merged soonL 0 40 d.size d4 d' → Stably d.size d d') := fun d4 d' h h' => stably_three (by omega) (Nat.le_refl _) h h'
 have H0 : Hid (Calls Tryz.prog _ _ _ _) := h0
 have H1 : Aside _ := h1
 have H2 : Aside _ := h2
 have H3 : Aside _ := h3
 have H4 : Aside _ := h4
 clear h0 h1 h2 h3 h4 R
 generalize insertionSort soonL d 0 20 = d1 at *
 generalize d.size = n at *
 go_enter Tryz.func142, Tryz.ntmps142
 go_wp2
 refine wp_loop_rounds 3 ?_
 rw [rounds_succ]
 go_wp2_with (go_at_call_of 182 (Value.int .i64 0); refine H0.out.mono ?_; rintro e w1 ⟨rfl, Z1⟩)
 rw [rounds_succ]
 go_wp2_with (go_at_call 182; refine (H1.out _ _ Z1).mono ?_; rintro e w2 ⟨rfl, Z2⟩)
 rw [rounds_succ]
 go_wp2_with (go_at_call 182; refine (H3.out _ _ Z2).mono ?_; rintro e w3 ⟨rfl, Z3⟩)
 refine wp_loop_rounds 3 ?_
 rw [rounds_succ]
 go_wp2
 refine wp_loop_rounds 2 ?_
 rw [rounds_succ]
 go_wp2_with (go_at_call 183; refine (H2.out _ _ Z3).mono ?_; rintro e w4 ⟨rfl, d4, hm4, Z4⟩)
 rw [rounds_succ]
 go_wp2
 rw [rounds_succ]
 go_wp2
 refine wp_loop_rounds 1 ?_
 rw [rounds_succ]
 go_wp2_with (go_at_call 183; refine (H4.out _ _ Z4).mono ?_; rintro e w5 ⟨rfl, d5, hm5, Z5⟩)
 rw [rounds_succ]
 go_wp2
 go_end0
 exact ⟨rfl, d5, HS.out d4 d5 hm4 hm5, Z5⟩
theorem sortStable_any (blk off cap : Nat) (d : Array Lo) (w : World) (hH : HoldsK encL 4 w blk off d) (hblk : blk < w.heap.size) (hn : d.size ≤ 59) :
  Calls Tryz.prog 100 #[.slice (some ⟨blk, off, none⟩) d.size cap, .func (.func 62) #[] #[]] w fun e w' => e = .returned (.tuple #[]) ∧ ∃ d', Stably d.size d d' ∧ SZ encL 4 w blk off d.size d' w' := by
 have R : RowK encL 4 w blk off d := ⟨encL_len, encL_one, hH, hblk⟩
 have hs : Calls Tryz.prog 142 #[.slice (some ⟨blk, off, none⟩) d.size cap, .int .i64 d.size, .func (.func 62) #[] #[]] w fun e w' => e = .returned (.tuple #[]) ∧ ∃ d', Stably d.size d d' ∧ SZ encL 4 w blk off d.size d' w' := by
  rcases Nat.lt_trichotomy d.size 20 with h | h | h
  ·exact stable_few blk off cap d w R h
  ·have := stable_twenty blk off cap d w R h
   rw [h]; exact this
  ·by_cases h' : d.size < 40
   ·exact stable_more blk off cap d w R h h'
   ·by_cases h4 : d.size = 40
    ·have := stable_forty blk off cap d w R h4
     rw [h4]; exact this
    ·exact stable_fifty blk off cap d w R (by omega) (by omega)
 have HS : Hid (Calls Tryz.prog _ _ _ _) := hs
 clear hs R hH hblk
 go_enter Tryz.func100, Tryz.ntmps100
 go_wp2_with (go_at_call 142; refine HS.out.mono ?_; rintro e w1 ⟨rfl, d1, h1, Z1⟩)
 go_end0
 exact ⟨rfl, d1, h1, Z1⟩
end Go.Proofs.YteomomeigbfeoaaGreatDoor
