/-
 What place.Compare answers, over whatever world: the order of places by the way; nothing old is turned.
-/
import Derived.Test.YtppodkkefegbkaaGreatDoorJz3
import Derived.Test.YtppodkkefegbkaaGreatDoorJz2
import Derived.Lib.QuietBelow
import Derived.Laws.Concat
import Derived.BigQuiet
import Derived.LaidMore
import Derived.Lib.LaidTab
set_option maxRecDepth 100000
set_option maxHeartbeats 16000000
namespace Go.Proofs.YtppodkkefegbkaaGreatDoor
open Go.RowKit Go.Lib Go.Sort
abbrev agP (x : Pl) : Value := .agg #[.string x.1, .int .i64 x.2.1, .int .i64 x.2.2]
structure Two (w : World) (s : Nat → Addr) : Prop where
 bound : w.cell? ⟨5, 0, none⟩ = some (err (s 1))
 name : w.cell? ⟨8, 0, none⟩ = some (err (s 4))
theorem Two.below {w w' : World} {s : Nat → Addr} (h : Two w s) (hb : Below w.heap.size w w') : Two w' s where
 bound := by rw [hb.cell (p := ⟨5, 0, none⟩) (cell_lt h.bound)]; exact h.bound
 name := by rw [hb.cell (p := ⟨8, 0, none⟩) (cell_lt h.name)]; exact h.name
theorem Sent.two {w : World} {s : Nat → Addr} (h : Sent w s) : Two w s := ⟨h.cell 1 (by decide), h.cell 4 (by decide)⟩
def errP (s : Nat → Addr) (code : Nat) : Value := if code = 0 then .nilIface else err (s (code - 1))
theorem errP_zero (s : Nat → Addr) : errP s 0 = .nilIface := rfl
theorem errP_pos (s : Nat → Addr) {k : Nat} (h : k ≠ 0) : errP s k = err (s (k - 1)) := by unfold errP; rw [if_neg h]
structure Three (w : World) (s : Nat → Addr) : Prop where
 two : Two w s
 text : w.cell? ⟨6, 0, none⟩ = some (err (s 0))
theorem Three.below {w w' : World} {s : Nat → Addr} (h : Three w s) (hb : Below w.heap.size w w') : Three w' s where
 two := h.two.below hb
 text := by rw [hb.cell (p := ⟨6, 0, none⟩) (cell_lt h.text)]; exact h.text
theorem Sent.three {w : World} {s : Nat → Addr} (h : Sent w s) : Three w s := ⟨h.two, h.cell 0 (by decide)⟩
def cutB (c : UInt8) (l : List UInt8) : List UInt8 := if has c l then post c l else []
theorem pcheck_any (x : Pl) (w : World) (s : Nat → Addr) (hz : x.1.size ≤ maxLen) (hs : Two w s) :
  Calls Tryz.prog 76 #[agP x] w fun e w' => e = .returned (errP s (placeErr x)) ∧ Below w.heap.size w w' := by
 obtain ⟨a, r, b⟩ := x
 unfold agP
 simp only at hz ⊢
 have hB : ∀ o, Below w.heap.size w (w.alloc o) := fun o => (Below.refl _ w).alloc (Nat.le_refl _) _
 have hs2 := hs.below (hB (.cells #[.string a, .int .i64 r, .int .i64 b] 41))
 obtain ⟨c1, c2⟩ := hs2
 have hn : ∀ w, Calls Tryz.prog 77 #[.string a] w _ := fun w => name_any a w hz
 cases h1 : isName a.data.toList with
 | false =>
  rw [h1] at hn
  have HE : Hid (errP s (placeErr (a, r, b)) = err (s 4)) := by
   show _ = _
   unfold placeErr; simp only [h1]; rfl
  clear hs
  go_enter Tryz.func76, Tryz.ntmps76
  go_wp2_with (go_at_call 77; refine (hn _).mono ?_; rintro e w1 ⟨rfl, rfl⟩)
  go_ret
  exact ⟨by rw [HE.out]; rfl, hB _⟩
 | true =>
  rw [h1] at hn
  clear hs
  have h2 : (1 ≤ r ∧ r ≤ 20 ∧ 1 ≤ b ∧ b ≤ 40) ∨ (r < 1) ∨ (1 ≤ r ∧ 20 < r) ∨ (1 ≤ r ∧ r ≤ 20 ∧ b < 1) ∨ (1 ≤ r ∧ r ≤ 20 ∧ 1 ≤ b ∧ 40 < b) := by omega
  rcases h2 with ⟨q1, q2, q3, q4⟩ | h2
  ·have HE : Hid (errP s (placeErr (a, r, b)) = .nilIface) := by
    show _ = _
    have : well r b = true := by unfold well; simp [q1, q2, q3, q4]
    unfold placeErr; simp only [h1, this]; rfl
   go_enter Tryz.func76, Tryz.ntmps76
   go_wp2_with (go_at_call 77; refine (hn _).mono ?_; rintro e w1 ⟨rfl, rfl⟩)
   go_ret
   exact ⟨by rw [HE.out]; rfl, hB _⟩
  ·have HE : Hid (errP s (placeErr (a, r, b)) = err (s 1)) := by
    show _ = _
    have : well r b = false := by unfold well; simp; omega
    unfold placeErr; simp only [h1, this]; rfl
   rcases h2 with h2 | ⟨q1, q2⟩ | ⟨q1, q2, q3⟩ | ⟨q1, q2, q3, q4⟩
   all_goals
    go_enter Tryz.func76, Tryz.ntmps76
    go_wp2_with (go_at_call 77; refine (hn _).mono ?_; rintro e w1 ⟨rfl, rfl⟩)
    go_ret
    exact ⟨by rw [HE.out]; rfl, hB _⟩
structure BoxAt (n : Nat) (x : Pl) (W : World) : Prop where
 c0 : W.cell? ⟨n, 0, none⟩ = some (.string x.1)
 c1 : W.cell? ⟨n, 1, none⟩ = some (.int .i64 x.2.1)
 c2 : W.cell? ⟨n, 2, none⟩ = some (.int .i64 x.2.2)
theorem BoxAt.below {n : Nat} {x : Pl} {W W' : World} (h : BoxAt n x W) (hb : Below W.heap.size W W') : BoxAt n x W' where
 c0 := by rw [hb.cell (p := ⟨n, 0, none⟩) (cell_lt h.c0)]; exact h.c0
 c1 := by rw [hb.cell (p := ⟨n, 1, none⟩) (cell_lt h.c1)]; exact h.c1
 c2 := by rw [hb.cell (p := ⟨n, 2, none⟩) (cell_lt h.c2)]; exact h.c2
theorem BoxAt.new (w : World) (x : Pl) (t n : Nat) (hn : n = w.heap.size) : BoxAt n x (w.alloc (.cells #[.string x.1, .int .i64 x.2.1, .int .i64 x.2.2] t)) where
 c0 := by rw [World.cell?_alloc_at _ _ _ _ hn]; rfl
 c1 := by rw [World.cell?_alloc_at _ _ _ _ hn]; rfl
 c2 := by rw [World.cell?_alloc_at _ _ _ _ hn]; rfl
abbrev boxTwo (w : World) (x y : Pl) : World := (w.alloc (.cells #[.string x.1, .int .i64 x.2.1, .int .i64 x.2.2] 41)).alloc (.cells #[.string y.1, .int .i64 y.2.1, .int .i64 y.2.2] 41)
theorem boxTwo_below (w : World) (x y : Pl) : Below w.heap.size w (boxTwo w x y) := ((Below.refl _ w).alloc (Nat.le_refl _) _).alloc (by simp) _
theorem boxTwo_first (w : World) (x y : Pl) : BoxAt w.heap.size x (boxTwo w x y) := (BoxAt.new w x _ _ rfl).below ((Below.refl _ _).alloc (Nat.le_refl _) _)
theorem boxTwo_second (w : World) (x y : Pl) : BoxAt (w.heap.size + 1) y (boxTwo w x y) := BoxAt.new _ y _ _ (by simp)
def zeroP : Pl := (⟨#[]⟩, 0, 0)
theorem placeError_any (x : Pl) (w : World) (hz : x.1.size ≤ maxLen) :
  Calls Tryz.prog 42 #[agP x] w fun e w' => e = .returned (.int .i64 (placeErr x)) ∧ Below w.heap.size w w' := by
 obtain ⟨a, r, b⟩ := x
 unfold agP
 simp only at hz ⊢
 have hB : ∀ o, Below w.heap.size w (w.alloc o) := fun o => (Below.refl _ w).alloc (Nat.le_refl _) _
 have hn : ∀ w, Calls Tryz.prog 43 #[.string a] w _ := fun w => isName_any a w hz
 cases h1 : isName a.data.toList with
 | false =>
  rw [h1] at hn
  have HE : Hid (placeErr (a, r, b) = 5) := by
   show _ = _
   unfold placeErr; simp only [h1]; rfl
  go_enter Tryz.func42, Tryz.ntmps42
  go_wp2_with (go_at_call 43; refine (hn _).mono ?_; rintro e w1 ⟨rfl, rfl⟩)
  go_ret
  exact ⟨by rw [HE.out]; rfl, hB _⟩
 | true =>
  rw [h1] at hn
  have h2 : (1 ≤ r ∧ r ≤ 20 ∧ 1 ≤ b ∧ b ≤ 40) ∨ (r < 1) ∨ (1 ≤ r ∧ 20 < r) ∨ (1 ≤ r ∧ r ≤ 20 ∧ b < 1) ∨ (1 ≤ r ∧ r ≤ 20 ∧ 1 ≤ b ∧ 40 < b) := by omega
  rcases h2 with ⟨q1, q2, q3, q4⟩ | h2
  ·have HE : Hid (placeErr (a, r, b) = 0) := by
    show _ = _
    have : well r b = true := by unfold well; simp [q1, q2, q3, q4]
    unfold placeErr; simp only [h1, this]; rfl
   go_enter Tryz.func42, Tryz.ntmps42
   go_wp2_with (go_at_call 43; refine (hn _).mono ?_; rintro e w1 ⟨rfl, rfl⟩)
   go_ret
   exact ⟨by rw [HE.out]; rfl, hB _⟩
  ·have HE : Hid (placeErr (a, r, b) = 2) := by
    show _ = _
    have : well r b = false := by unfold well; simp; omega
    unfold placeErr; simp only [h1, this]; rfl
   rcases h2 with h2 | ⟨q1, q2⟩ | ⟨q1, q2, q3⟩ | ⟨q1, q2, q3, q4⟩
   all_goals
    go_enter Tryz.func42, Tryz.ntmps42
    go_wp2_with (go_at_call 43; refine (hn _).mono ?_; rintro e w1 ⟨rfl, rfl⟩)
    go_ret
    exact ⟨by rw [HE.out]; rfl, hB _⟩
theorem isAhead_any (x y : Pl) (w : World) : Calls Tryz.prog 133 #[agP x, agP y] w fun e w' => e = .returned (.bool (aheadP x y)) ∧ Below w.heap.size w w' := by
 obtain ⟨a, r, b⟩ := x
 obtain ⟨a', r', b'⟩ := y
 unfold agP
 simp only
 have hB : ∀ o o', Below w.heap.size w ((w.alloc o).alloc o') := fun o o' => ((Below.refl _ w).alloc (Nat.le_refl _) _).alloc (by simp) _
 have e1 := less_eq a a'
 by_cases hz : a = a'
 ·subst hz
  by_cases hr : r = r'
  ·subst hr
   by_cases hp : r.tmod 2 = 0
   ·have hp' : (r.tmod 2 == 0) = true := by simpa using hp
    have HE : Hid (aheadP (a, r, b) (a, r, b') = decide (b' < b)) := by
     show _ = _
     rw [Bool.eq_iff_iff, aheadP_iff]; unfold aheadW; simp [zLt_irrefl, hp]
    clear hp e1
    go_enter Tryz.func133, Tryz.ntmps133
    go_wp2
    go_ret
    exact ⟨by rw [HE.out]; rfl, hB _ _⟩
   ·have hp' : (r.tmod 2 == 0) = false := by simpa using hp
    have HE : Hid (aheadP (a, r, b) (a, r, b') = decide (b < b')) := by
     show _ = _
     rw [Bool.eq_iff_iff, aheadP_iff]; unfold aheadW; simp [zLt_irrefl, hp]
    clear hp e1
    go_enter Tryz.func133, Tryz.ntmps133
    go_wp2
    go_ret
    exact ⟨by rw [HE.out]; rfl, hB _ _⟩
  ·have hr' : (r == r') = false := by simpa using hr
   have HE : Hid (aheadP (a, r, b) (a, r', b') = decide (r < r')) := by
    show _ = _
    rw [Bool.eq_iff_iff, aheadP_iff]; unfold aheadW; simp [zLt_irrefl, hr]
   clear hr e1
   go_enter Tryz.func133, Tryz.ntmps133
   go_wp2
   go_ret
   exact ⟨by rw [HE.out]; rfl, hB _ _⟩
 ·have e3 := same_eq a a'
  rw [decide_eq_false hz] at e3
  have HE : Hid (aheadP (a, r, b) (a', r', b') = zLt a a') := by
   show _ = _
   rw [Bool.eq_iff_iff, aheadP_iff]; unfold aheadW; simp [hz]
  have H1 : Hid (Op.bytesLess a.toList a'.toList = zLt a a') := e1
  clear e1 hz
  go_enter Tryz.func133, Tryz.ntmps133
  go_wp2
  go_ret
  exact ⟨by rw [HE.out, ← H1.out]; rfl, hB _ _⟩
theorem coded_nil2 (n : Int) (w : World) : Calls Tryz.prog 23 #[.nilIface, .int .i64 n] w fun e w' => e = .returned (.bool (decide (0 = n))) ∧ w' = w := by
 go_enter Tryz.func23, Tryz.ntmps23
 by_cases h : (0 : Int) = n
 ·subst h
  go_wp2_with (go_at_call 40; refine (code_nil _).mono ?_; rintro e w1 ⟨rfl, rfl⟩)
  go_ret
  exact ⟨rfl, rfl⟩
 ·have hb : ((0 : Int) == n) = false := by simpa using h
  go_wp2_with (go_at_call 40; refine (code_nil _).mono ?_; rintro e w1 ⟨rfl, rfl⟩)
  go_ret
  exact ⟨by simp [h], rfl⟩
theorem coded_of2 (v : Value) (c n : Int) (w : World) (B : Nat) (hv : Calls Tryz.prog 40 #[v] w fun e w' => e = .returned (.tuple #[.int .i64 c, .int .i64 (-1)]) ∧ Below B w w') :
  Calls Tryz.prog 23 #[v, .int .i64 n] w fun e w' => e = .returned (.bool (decide (c = n))) ∧ Below B w w' := by
 go_enter Tryz.func23, Tryz.ntmps23
 have H : Hid (Calls Tryz.prog 40 #[v] w fun e w' => e = .returned (.tuple #[.int .i64 c, .int .i64 (-1)]) ∧ Below B w w') := hv
 clear hv
 by_cases h : c = n
 ·subst h
  go_wp2_with (go_at_call 40; refine H.out.mono ?_; rintro e w1 ⟨rfl, hb⟩)
  go_ret
  exact ⟨by simp, hb⟩
 ·have hb : (c == n) = false := by simpa using h
  go_wp2_with (go_at_call 40; refine H.out.mono ?_; rintro e w1 ⟨rfl, hb⟩)
  go_ret
  exact ⟨by simp [h], ‹Below B w w1›⟩
theorem coded_sent2 (i : Nat) (hi : i < 12) (n : Int) (hn : n = i + 1) (w : World) (s : Nat → Addr) (hs : Sent w s) (hh : Handle w) :
  Calls Tryz.prog 23 #[err (s i), .int .i64 n] w fun e w' => e = .returned (.bool true) ∧ Below w.heap.size w w' := by
 refine (coded_of2 _ _ n w _ (code_sent i hi w s hs hh)).mono ?_
 rintro e w' ⟨rfl, hb⟩
 exact ⟨by simp [hn], hb⟩
theorem codedP_any2 (s : Nat → Addr) (code : Nat) (hc : code ≤ 12) (n : Int) (w : World) (hs : Sent w s) (hh : Handle w) :
  Calls Tryz.prog 23 #[errP s code, .int .i64 n] w fun e w' => e = .returned (.bool (decide ((code : Int) = n))) ∧ Below w.heap.size w w' := by
 rcases code with _ | k
 ·rw [errP_zero]
  refine (coded_nil2 n w).mono ?_
  rintro e w' ⟨rfl, rfl⟩
  exact ⟨rfl, Below.refl _ _⟩
 ·rw [errP_pos s (by omega)]
  refine (coded_of2 _ _ n w _ (code_sent k (by omega) w s hs hh)).mono ?_
  rintro e w' ⟨rfl, hb⟩
  exact ⟨rfl, hb⟩
end Go.Proofs.YtppodkkefegbkaaGreatDoor
namespace Go.Proofs.YtppodkkefegbkaaGreatDoor
open Go.ChangeShapes Go.WideShapes Go.RowKit
end Go.Proofs.YtppodkkefegbkaaGreatDoor
