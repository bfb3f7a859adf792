/-
 What place.Compare answers, over whatever world: the order of places by the way; nothing old is turned.
-/
import Derived.Test.YtpnmbomjnpheeaaGreatDoorJz3
import Derived.Test.YtpnmbomjnpheeaaGreatDoorJz1
import Derived.Lib.QuietBelow
import Derived.Laws.Concat
import Derived.BigQuiet
import Derived.LaidMore
import Derived.Lib.LaidTab
set_option maxRecDepth 100000
set_option maxHeartbeats 16000000
namespace Go.Proofs.YtpnmbomjnpheeaaGreatDoor
open Go.RowKit Go.Lib Go.Sort
abbrev agP (x : Pl) : Value := .agg #[.string x.1, .int .i64 x.2.1, .int .i64 x.2.2]
structure Two (w : World) (s : Nat → Addr) : Prop where
 bound : w.cell? ⟨2, 0, none⟩ = some (err (s 1))
 name : w.cell? ⟨6, 0, none⟩ = some (err (s 4))
theorem Two.below {w w' : World} {s : Nat → Addr} (h : Two w s) (hb : Below w.heap.size w w') : Two w' s where
 bound := by rw [hb.cell (p := ⟨2, 0, none⟩) (cell_lt h.bound)]; exact h.bound
 name := by rw [hb.cell (p := ⟨6, 0, none⟩) (cell_lt h.name)]; exact h.name
theorem Sent.two {w : World} {s : Nat → Addr} (h : Sent w s) : Two w s := ⟨h.cell 1 (by decide), h.cell 4 (by decide)⟩
def errP (s : Nat → Addr) (code : Nat) : Value := if code = 0 then .nilIface else err (s (code - 1))
theorem errP_zero (s : Nat → Addr) : errP s 0 = .nilIface := rfl
theorem errP_pos (s : Nat → Addr) {k : Nat} (h : k ≠ 0) : errP s k = err (s (k - 1)) := by unfold errP; rw [if_neg h]
structure Three (w : World) (s : Nat → Addr) : Prop where
 two : Two w s
 text : w.cell? ⟨4, 0, none⟩ = some (err (s 0))
theorem Three.below {w w' : World} {s : Nat → Addr} (h : Three w s) (hb : Below w.heap.size w w') : Three w' s where
 two := h.two.below hb
 text := by rw [hb.cell (p := ⟨4, 0, none⟩) (cell_lt h.text)]; exact h.text
theorem Sent.three {w : World} {s : Nat → Addr} (h : Sent w s) : Three w s := ⟨h.two, h.cell 0 (by decide)⟩
def cutB (c : UInt8) (l : List UInt8) : List UInt8 := if has c l then post c l else []
theorem pcheck_any (x : Pl) (w : World) (s : Nat → Addr) (hz : x.1.size ≤ maxLen) (hs : Two w s) :
  Calls Tryz.prog 107 #[agP x] w fun e w' => e = .returned (errP s (placeErr x)) ∧ Below w.heap.size w w' := by
 obtain ⟨a, r, b⟩ := x
 unfold agP
 simp only at hz ⊢
 have hB : ∀ o, Below w.heap.size w (w.alloc o) := fun o => (Below.refl _ w).alloc (Nat.le_refl _) _
 have hs2 := hs.below (hB (.cells #[.string a, .int .i64 r, .int .i64 b] 48))
 obtain ⟨c1, c2⟩ := hs2
 have hn : ∀ w, Calls Tryz.prog 105 #[.string a] w _ := fun w => name_any a w hz
 cases h1 : isName a.data.toList with
 | false =>
  rw [h1] at hn
  have HE : Hid (errP s (placeErr (a, r, b)) = err (s 4)) := by
   show _ = _
   unfold placeErr; simp only [h1]; rfl
  clear hs
  go_enter Tryz.func107, Tryz.ntmps107
  go_wp2_with (go_at_call 105; refine (hn _).mono ?_; rintro e w1 ⟨rfl, rfl⟩)
  go_ret
  exact ⟨by rw [HE.out]; rfl, hB _⟩
 | true =>
  rw [h1] at hn
  clear hs
  have h2 : (1 ≤ r ∧ r ≤ 20 ∧ 1 ≤ b ∧ b ≤ 40) ∨ (r < 1) ∨ (1 ≤ r ∧ 20 < r) ∨ (1 ≤ r ∧ r ≤ 20 ∧ b < 1) ∨ (1 ≤ r ∧ r ≤ 20 ∧ 1 ≤ b ∧ 40 < b) := by omega
  rcases h2 with ⟨q1, q2, q3, q4⟩ | h2
  ·have HE : Hid (errP s (placeErr (a, r, b)) = .nilIface) := by
    show _ = _
    have : well r b = true := by unfold well; simp [q1, q2, q3, q4]
    unfold placeErr; simp only [h1, this]; rfl
   go_enter Tryz.func107, Tryz.ntmps107
   go_wp2_with (go_at_call 105; refine (hn _).mono ?_; rintro e w1 ⟨rfl, rfl⟩)
   go_ret
   exact ⟨by rw [HE.out]; rfl, hB _⟩
  ·have HE : Hid (errP s (placeErr (a, r, b)) = err (s 1)) := by
    show _ = _
    have : well r b = false := by unfold well; simp; omega
    unfold placeErr; simp only [h1, this]; rfl
   rcases h2 with h2 | ⟨q1, q2⟩ | ⟨q1, q2, q3⟩ | ⟨q1, q2, q3, q4⟩
   all_goals
    go_enter Tryz.func107, Tryz.ntmps107
    go_wp2_with (go_at_call 105; refine (hn _).mono ?_; rintro e w1 ⟨rfl, rfl⟩)
    go_ret
    exact ⟨by rw [HE.out]; rfl, hB _⟩
structure BoxAt (n : Nat) (x : Pl) (W : World) : Prop where
 c0 : W.cell? ⟨n, 0, none⟩ = some (.string x.1)
 c1 : W.cell? ⟨n, 1, none⟩ = some (.int .i64 x.2.1)
 c2 : W.cell? ⟨n, 2, none⟩ = some (.int .i64 x.2.2)
theorem BoxAt.below {n : Nat} {x : Pl} {W W' : World} (h : BoxAt n x W) (hb : Below W.heap.size W W') : BoxAt n x W' where
 c0 := by rw [hb.cell (p := ⟨n, 0, none⟩) (cell_lt h.c0)]; exact h.c0
 c1 := by rw [hb.cell (p := ⟨n, 1, none⟩) (cell_lt h.c1)]; exact h.c1
 c2 := by rw [hb.cell (p := ⟨n, 2, none⟩) (cell_lt h.c2)]; exact h.c2
theorem BoxAt.new (w : World) (x : Pl) (t n : Nat) (hn : n = w.heap.size) : BoxAt n x (w.alloc (.cells #[.string x.1, .int .i64 x.2.1, .int .i64 x.2.2] t)) where
 c0 := by rw [World.cell?_alloc_at _ _ _ _ hn]; rfl
 c1 := by rw [World.cell?_alloc_at _ _ _ _ hn]; rfl
 c2 := by rw [World.cell?_alloc_at _ _ _ _ hn]; rfl
abbrev boxTwo (w : World) (x y : Pl) : World := (w.alloc (.cells #[.string x.1, .int .i64 x.2.1, .int .i64 x.2.2] 48)).alloc (.cells #[.string y.1, .int .i64 y.2.1, .int .i64 y.2.2] 48)
theorem boxTwo_below (w : World) (x y : Pl) : Below w.heap.size w (boxTwo w x y) := ((Below.refl _ w).alloc (Nat.le_refl _) _).alloc (by simp) _
theorem boxTwo_first (w : World) (x y : Pl) : BoxAt w.heap.size x (boxTwo w x y) := (BoxAt.new w x _ _ rfl).below ((Below.refl _ _).alloc (Nat.le_refl _) _)
theorem boxTwo_second (w : World) (x y : Pl) : BoxAt (w.heap.size + 1) y (boxTwo w x y) := BoxAt.new _ y _ _ (by simp)
def zeroP : Pl := (⟨#[]⟩, 0, 0)
theorem placeError_any (x : Pl) (w : World) (hz : x.1.size ≤ maxLen) :
  Calls Tryz.prog 61 #[agP x] w fun e w' => e = .returned (.int .i64 (placeErr x)) ∧ Below w.heap.size w w' := by
 obtain ⟨a, r, b⟩ := x
 unfold agP
 simp only at hz ⊢
 have hB : ∀ o, Below w.heap.size w (w.alloc o) := fun o => (Below.refl _ w).alloc (Nat.le_refl _) _
 have hn : ∀ w, Calls Tryz.prog 58 #[.string a] w _ := fun w => isName_any a w hz
 cases h1 : isName a.data.toList with
 | false =>
  rw [h1] at hn
  have HE : Hid (placeErr (a, r, b) = 5) := by
   show _ = _
   unfold placeErr; simp only [h1]; rfl
  go_enter Tryz.func61, Tryz.ntmps61
  go_wp2_with (go_at_call 58; refine (hn _).mono ?_; rintro e w1 ⟨rfl, rfl⟩)
  go_ret
  exact ⟨by rw [HE.out]; rfl, hB _⟩
 | true =>
  rw [h1] at hn
  have h2 : (1 ≤ r ∧ r ≤ 20 ∧ 1 ≤ b ∧ b ≤ 40) ∨ (r < 1) ∨ (1 ≤ r ∧ 20 < r) ∨ (1 ≤ r ∧ r ≤ 20 ∧ b < 1) ∨ (1 ≤ r ∧ r ≤ 20 ∧ 1 ≤ b ∧ 40 < b) := by omega
  rcases h2 with ⟨q1, q2, q3, q4⟩ | h2
  ·have HE : Hid (placeErr (a, r, b) = 0) := by
    show _ = _
    have : well r b = true := by unfold well; simp [q1, q2, q3, q4]
    unfold placeErr; simp only [h1, this]; rfl
   go_enter Tryz.func61, Tryz.ntmps61
   go_wp2_with (go_at_call 58; refine (hn _).mono ?_; rintro e w1 ⟨rfl, rfl⟩)
   go_ret
   exact ⟨by rw [HE.out]; rfl, hB _⟩
  ·have HE : Hid (placeErr (a, r, b) = 2) := by
    show _ = _
    have : well r b = false := by unfold well; simp; omega
    unfold placeErr; simp only [h1, this]; rfl
   rcases h2 with h2 | ⟨q1, q2⟩ | ⟨q1, q2, q3⟩ | ⟨q1, q2, q3, q4⟩
   all_goals
    go_enter Tryz.func61, Tryz.ntmps61
    go_wp2_with (go_at_call 58; refine (hn _).mono ?_; rintro e w1 ⟨rfl, rfl⟩)
    go_ret
    exact ⟨by rw [HE.out]; rfl, hB _⟩
theorem isAhead_any (x y : Pl) (w : World) : Calls Tryz.prog 99 #[agP x, agP y] w fun e w' => e = .returned (.bool (aheadP x y)) ∧ Below w.heap.size w w' := by
 obtain ⟨a, r, b⟩ := x
 obtain ⟨a', r', b'⟩ := y
 unfold agP
 simp only
 have hB : ∀ o o', Below w.heap.size w ((w.alloc o).alloc o') := fun o o' => ((Below.refl _ w).alloc (Nat.le_refl _) _).alloc (by simp) _
 have e1 := less_eq a a'
 by_cases hz : a = a'
 ·subst hz
  by_cases hr : r = r'
  ·subst hr
   by_cases hp : r.tmod 2 = 0
   ·have hp' : (r.tmod 2 == 0) = true := by simpa using hp
    have HE : Hid (aheadP (a, r, b) (a, r, b') = decide (b' < b)) := by
     show _ = _
     rw [Bool.eq_iff_iff, aheadP_iff]; unfold aheadW; simp [zLt_irrefl, hp]
    clear hp e1
    go_enter Tryz.func99, Tryz.ntmps99
    go_wp2
    go_ret
    exact ⟨by rw [HE.out]; rfl, hB _ _⟩
   ·have hp' : (r.tmod 2 == 0) = false := by simpa using hp
    have HE : Hid (aheadP (a, r, b) (a, r, b') = decide (b < b')) := by
     show _ = _
     rw [Bool.eq_iff_iff, aheadP_iff]; unfold aheadW; simp [zLt_irrefl, hp]
    clear hp e1
    go_enter Tryz.func99, Tryz.ntmps99
    go_wp2
    go_ret
    exact ⟨by rw [HE.out]; rfl, hB _ _⟩
  ·have hr' : (r == r') = false := by simpa using hr
   have HE : Hid (aheadP (a, r, b) (a, r', b') = decide (r < r')) := by
    show _ = _
    rw [Bool.eq_iff_iff, aheadP_iff]; unfold aheadW; simp [zLt_irrefl, hr]
   clear hr e1
   go_enter Tryz.func99, Tryz.ntmps99
   go_wp2
   go_ret
   exact ⟨by rw [HE.out]; rfl, hB _ _⟩
 ·have e3 := same_eq a a'
  rw [decide_eq_false hz] at e3
  have HE : Hid (aheadP (a, r, b) (a', r', b') = zLt a a') := by
   show _ = _
   rw [Bool.eq_iff_iff, aheadP_iff]; unfold aheadW; simp [hz]
  have H1 : Hid (Op.bytesLess a.toList a'.toList = zLt a a') := e1
  clear e1 hz
  go_enter Tryz.func99, Tryz.ntmps99
  go_wp2
  go_ret
  exact ⟨by rw [HE.out, ← H1.out]; rfl, hB _ _⟩
end Go.Proofs.YtpnmbomjnpheeaaGreatDoor
namespace Go.Proofs.YtpnmbomjnpheeaaGreatDoor
open Go.RowKit Go.Lib
structure Cs (w : World) (s : Nat → Addr) : Prop where
 bound : w.cell? ⟨2, 0, none⟩ = some (err (s 1))
 short : w.cell? ⟨3, 0, none⟩ = some (err (s 8))
theorem Sent.cs {w : World} {s : Nat → Addr} (h : Sent w s) : Cs w s := ⟨h.cell 1 (by decide), h.cell 8 (by decide)⟩
theorem Cs.below {w w' : World} {s : Nat → Addr} (h : Cs w s) (hb : Below w.heap.size w w') : Cs w' s where
 bound := by rw [hb.cell (p := ⟨2, 0, none⟩) (cell_lt h.bound)]; exact h.bound
 short := by rw [hb.cell (p := ⟨3, 0, none⟩) (cell_lt h.short)]; exact h.short
theorem ynew_any (w : World) : Calls Tryz.prog 11 #[] w fun e w' => e = .returned (ptrK w.heap.size) ∧ w' = w.alloc (.cells #[nilP, nilP, .int .i64 0] 82) := by
 go_enter Tryz.func11, Tryz.ntmps11
 go_wp2
 go_ret
 exact ⟨rfl, rfl⟩
theorem ynum_any (n : Int) (w : World) : Calls Tryz.prog 30 #[.int .i64 n] w fun e w' => e = .returned (.bool (decide (1 ≤ n) && decide (n ≤ 1099511627776))) ∧ w' = w := by
 go_enter Tryz.func30, Tryz.ntmps30
 by_cases h1 : 1 ≤ n
 ·by_cases h2 : n ≤ 1099511627776
  ·rw [decide_eq_true h1, decide_eq_true h2]
   go_wp2
   go_ret
   exact ⟨rfl, rfl⟩
  ·rw [decide_eq_true h1, decide_eq_false h2]
   go_wp2
   go_ret
   exact ⟨rfl, rfl⟩
 ·rw [decide_eq_false h1]
  go_wp2
  go_ret
  exact ⟨rfl, rfl⟩
theorem ywhole_any (q : Nat) (w : World) : Calls Tryz.prog 26 #[ptrK q] w fun e w' => e = .returned (ptrK q) ∧ w' = w := by
 go_enter Tryz.func26, Tryz.ntmps26
 go_wp2
 go_ret
 exact ⟨rfl, rfl⟩
theorem set_blk {w : World} {q : Nat} {c c' : Array Value} {T : TypeId} (h : w.heap[q]? = some (.cells c T (0, 0))) (i : Nat) (v : Value) (e : c.setIfInBounds i v = c') : ∃ w1, w.setCell ⟨q, i, none⟩ v = w1 ∧ w1.heap[q]? = some (.cells c' T (0, 0)) ∧ (∀ k, k ≠ q → w1.heap[k]? = w.heap[k]?) ∧ Off [q] w w1 ∧ (∀ x, Off x w w1 ∨ q ∉ x) :=
 ⟨_, rfl, by rw [← e]; exact Joins.block_setCell h v, fun k hk => Below.heap_setCell w ⟨q, i, none⟩ v k hk, (Off.refl [q] w).set (by simp) v, fun x => by
  by_cases hx : q ∈ x
  ·exact Or.inl ((Off.refl x w).set hx v)
  ·exact Or.inr hx⟩
theorem yadd_nil (q p : Nat) (e h : Value) (w : World) (hq : w.heap[q]? = some (.cells #[e, nilP, h] 82 (0, 0))) :
  Calls Tryz.prog 31 #[ptrK q, ptrK p] w fun r w' => r = .returned (.tuple #[]) ∧ w'.heap[q]? = some (.cells #[ptrK p, ptrK p, h] 82 (0, 0)) ∧ Off [q] w w' := by
 have c0 : w.cell? ⟨q, 0, none⟩ = some e := cell_blk hq 0
 have c1 : w.cell? ⟨q, 1, none⟩ = some nilP := cell_blk hq 1
 have f0 := frozen_of_heap hq 0
 obtain ⟨w1, e1, h1, _, o1, _⟩ := set_blk (c' := #[ptrK p, nilP, h]) hq 0 (ptrK p) rfl
 have d1 : w1.cell? ⟨q, 1, none⟩ = some nilP := cell_blk h1 1
 have g1 := frozen_of_heap h1 1
 obtain ⟨w2, e2, h2, _, o2, _⟩ := set_blk (c' := #[ptrK p, ptrK p, h]) h1 1 (ptrK p) rfl
 have HH : Hid (w2.heap[q]? = some (.cells #[ptrK p, ptrK p, h] 82 (0, 0))) := h2
 have HO : Hid (Off [q] w w2) := o1.trans o2
 clear h1 h2 hq o1 o2
 go_enter Tryz.func31, Tryz.ntmps31
 go_wp2
 go_end0
 exact ⟨rfl, HH.out, HO.out⟩
theorem yadd_some (q k p : Nat) (e h : Value) (x : Ly) (v : Value) (w : World) (hq : w.heap[q]? = some (.cells #[e, ptrK k, h] 82 (0, 0))) (hk : w.heap[k]? = some (celY x v)) (hne : q ≠ k) :
  Calls Tryz.prog 31 #[ptrK q, ptrK p] w fun r w' => r = .returned (.tuple #[]) ∧ w'.heap[q]? = some (.cells #[e, ptrK p, h] 82 (0, 0)) ∧ w'.heap[k]? = some (celY x (ptrK p)) ∧ Off [q, k] w w' := by
 have c1 : w.cell? ⟨q, 1, none⟩ = some (ptrK k) := cell_blk hq 1
 have c2 : w.cell? ⟨k, 2, none⟩ = some v := cell_blk hk 2
 have f0 := frozen_of_heap hk 2
 obtain ⟨w1, e1, h1, k1, o1, _⟩ := set_blk (c' := #[.int .i64 x.1, .int .i64 x.2, ptrK p]) hk 2 (ptrK p) rfl
 have hq1 := (k1 q hne).trans hq
 have d1 : w1.cell? ⟨q, 1, none⟩ = some (ptrK k) := cell_blk hq1 1
 have g1 := frozen_of_heap hq1 1
 obtain ⟨w2, e2, h2, k2, o2, _⟩ := set_blk (c' := #[e, ptrK p, h]) hq1 1 (ptrK p) rfl
 have HH : Hid (w2.heap[q]? = some (.cells #[e, ptrK p, h] 82 (0, 0))) := h2
 have HK : Hid (w2.heap[k]? = some (celY x (ptrK p))) := (k2 k (fun e => hne e.symm)).trans h1
 have HO : Hid (Off [q, k] w w2) := (o1.mono (by simp)).trans (o2.mono (by simp))
 clear h1 h2 hq hk o1 o2 k1 k2 hq1
 go_enter Tryz.func31, Tryz.ntmps31
 go_wp2
 go_end0
 exact ⟨rfl, HH.out, HK.out, HO.out⟩
theorem yless_part (w : World) (B q k : Nat) (ks : List Nat) (x : Ly) (m : List Ly) (H p : Int) (h : LyR w B q (k :: ks) (x :: m) H) (h0 : 0 ≤ p) (h1 : p < x.1) (h2 : x.1 ≤ 1099511627776) :
  Calls Tryz.prog 32 #[ptrK q, .int .i64 p] w fun r w' => r = .returned (.tuple #[]) ∧ LyR w' B q (k :: ks) ((x.1 - p, x.2) :: m) H ∧ Off (q :: k :: ks) w w' := by
 have hk := h.lnk.1
 have hq := h.top
 have hqk : q ≠ k := fun e => by have := (List.nodup_cons.1 h.nd).1; exact this (by simp [e])
 have c0 : w.cell? ⟨q, 0, none⟩ = some (ptrK k) := cell_blk hq 0
 have d0 : w.cell? ⟨k, 0, none⟩ = some (.int .i64 x.1) := cell_blk hk 0
 have f0 := frozen_of_heap hk 0
 obtain ⟨w1, hw1, k1, q1, hO, _⟩ := set_blk (c' := #[.int .i64 (x.1 - p), .int .i64 x.2, hdY ks nilP]) hk 0 (.int .i64 (x.1 - p)) rfl
 have q1 := (q1 q hqk).trans hq
 have k1' : w1.heap[k]? = some (celY (x.1 - p, x.2) (hdY ks nilP)) := k1
 have c1 : w1.cell? ⟨q, 0, none⟩ = some (ptrK k) := cell_blk q1 0
 have d1 : w1.cell? ⟨k, 0, none⟩ = some (.int .i64 (x.1 - p)) := cell_blk k1' 0
 have HR : Hid (LyR w1 B q (k :: ks) ((x.1 - p, x.2) :: m) H) := by
  refine ⟨q1, ⟨k1', h.lnk.2.of_blocks fun j hj => hO.block j (h.lnk.2.lt j hj) ?_⟩, h.nd, h.lo⟩
  have := (List.nodup_cons.1 (List.nodup_cons.1 h.nd).2).1
  intro e
  rw [List.mem_singleton.1 e] at hj
  exact this hj
 have HO : Hid (Off (q :: k :: ks) w w1) := hO.mono (by simp)
 clear h hk hq k1 q1 hO k1'
 go_enter Tryz.func32, Tryz.ntmps32
 go_wp2
 refine bodyPost_ret (results_none rfl _ _ _) rfl ?_
 exact ⟨rfl, HR.out, HO.out⟩
theorem yless_all (w : World) (B q k k' : Nat) (ks : List Nat) (x : Ly) (m : List Ly) (H : Int) (h : LyR w B q (k :: k' :: ks) (x :: m) H) :
  Calls Tryz.prog 32 #[ptrK q, .int .i64 x.1] w fun r w' => r = .returned (.tuple #[]) ∧ LyR w' B q (k' :: ks) m H ∧ Off (q :: k :: k' :: ks) w w' := by
 have hk := h.lnk.1
 have hq := h.top
 have hqk : q ≠ k := fun e => by have := (List.nodup_cons.1 h.nd).1; exact this (by simp [e])
 have c0 : w.cell? ⟨q, 0, none⟩ = some (ptrK k) := cell_blk hq 0
 have d0 : w.cell? ⟨k, 0, none⟩ = some (.int .i64 x.1) := cell_blk hk 0
 have f0 := frozen_of_heap hk 0
 obtain ⟨w1, hw1, k1, q1, hO, _⟩ := set_blk (c' := #[.int .i64 0, .int .i64 x.2, hdY (k' :: ks) nilP]) hk 0 (.int .i64 0) rfl
 have q1 := (q1 q hqk).trans hq
 have k1' : w1.heap[k]? = some (celY (0, x.2) (ptrK k')) := k1
 have c1 : w1.cell? ⟨q, 0, none⟩ = some (ptrK k) := cell_blk q1 0
 have d1 : w1.cell? ⟨k, 0, none⟩ = some (.int .i64 0) := cell_blk k1' 0
 have d2 : w1.cell? ⟨k, 2, none⟩ = some (ptrK k') := cell_blk k1' 2
 have f1 := frozen_of_heap q1 0
 obtain ⟨w2, hw2, q2, _, oO2, _⟩ := set_blk (c' := #[ptrK k', lastY (k :: k' :: ks), .int .i64 H]) q1 0 (ptrK k') rfl
 have hO2 : Off [q, k] w w2 := (hO.mono (by simp)).trans (oO2.mono (by simp))
 have q2' : w2.heap[q]? = some (.cells #[ptrK k', lastY (k' :: ks), .int .i64 H] 82 (0, 0)) := by rw [lastY_cons2] at q2; exact q2
 have c2 : w2.cell? ⟨q, 0, none⟩ = some (ptrK k') := cell_blk q2' 0
 have HR : Hid (LyR w2 B q (k' :: ks) m H) := by
  have hn := List.nodup_cons.1 h.nd
  have hn2 := List.nodup_cons.1 hn.2
  refine ⟨q2', h.lnk.2.of_blocks fun j hj => hO2.block j (h.lnk.2.lt j hj) ?_, ?_, fun j hj => h.lo j ?_⟩
  ·intro e
   rcases List.mem_cons.1 e with e | e
   ·exact hn.1 (by rw [← e]; exact List.mem_cons_of_mem _ hj)
   ·rw [List.mem_singleton.1 e] at hj
    exact hn2.1 hj
  ·exact List.nodup_cons.2 ⟨fun e => hn.1 (List.mem_cons_of_mem _ e), hn2.2⟩
  ·rcases List.mem_cons.1 hj with rfl | hj
   ·exact List.mem_cons_self ..
   ·exact List.mem_cons_of_mem _ (List.mem_cons_of_mem _ hj)
 have HO : Hid (Off (q :: k :: k' :: ks) w w2) := hO2.mono (by simp)
 clear h hk hq k1 q1 hO k1' q2 hO2 q2' oO2
 go_enter Tryz.func32, Tryz.ntmps32
 go_wp2
 go_end0
 exact ⟨rfl, HR.out, HO.out⟩
theorem yless_last (w : World) (B q k : Nat) (x : Ly) (m : List Ly) (H : Int) (h : LyR w B q [k] (x :: m) H) :
  Calls Tryz.prog 32 #[ptrK q, .int .i64 x.1] w fun r w' => r = .returned (.tuple #[]) ∧ LyR w' B q [] m H ∧ Off [q, k] w w' := by
 have hk := h.lnk.1
 have hq := h.top
 have hqk : q ≠ k := fun e => by have := (List.nodup_cons.1 h.nd).1; exact this (by simp [e])
 have c0 : w.cell? ⟨q, 0, none⟩ = some (ptrK k) := cell_blk hq 0
 have d0 : w.cell? ⟨k, 0, none⟩ = some (.int .i64 x.1) := cell_blk hk 0
 have f0 := frozen_of_heap hk 0
 obtain ⟨w1, hw1, k1, q1, hO, _⟩ := set_blk (c' := #[.int .i64 0, .int .i64 x.2, hdY [] nilP]) hk 0 (.int .i64 0) rfl
 have q1 := (q1 q hqk).trans hq
 have k1' : w1.heap[k]? = some (celY (0, x.2) nilP) := k1
 have c1 : w1.cell? ⟨q, 0, none⟩ = some (ptrK k) := cell_blk q1 0
 have d1 : w1.cell? ⟨k, 0, none⟩ = some (.int .i64 0) := cell_blk k1' 0
 have d2 : w1.cell? ⟨k, 2, none⟩ = some nilP := cell_blk k1' 2
 have f1 := frozen_of_heap q1 0
 obtain ⟨w2, hw2, q2, _, oO2, _⟩ := set_blk (c' := #[nilP, ptrK k, .int .i64 H]) q1 0 nilP rfl
 have hO2 : Off [q, k] w w2 := (hO.mono (by simp)).trans (oO2.mono (by simp))
 have c2 : w2.cell? ⟨q, 0, none⟩ = some nilP := cell_blk q2 0
 have d3 : w2.cell? ⟨q, 1, none⟩ = some (ptrK k) := cell_blk q2 1
 have f2 := frozen_of_heap q2 1
 obtain ⟨w3, hw3, q3, _, oO3, _⟩ := set_blk (c' := #[nilP, nilP, .int .i64 H]) q2 1 nilP rfl
 have hO3 : Off [q, k] w w3 := hO2.trans (oO3.mono (by simp))
 have hm : m = [] := List.eq_nil_of_length_eq_zero h.lnk.2.len.symm
 have HR : Hid (LyR w3 B q [] m H) := by
  subst hm
  exact ⟨q3, trivial, by simp, fun j hj => h.lo j (by simp at hj; simp [hj])⟩
 have HO : Hid (Off [q, k] w w3) := hO3
 clear h hk hq k1 q1 hO k1' q2 hO2 q3 hO3 hm oO2 oO3
 go_enter Tryz.func32, Tryz.ntmps32
 go_wp2
 go_end0
 exact ⟨rfl, HR.out, HO.out⟩
theorem yless_any (w : World) (B q : Nat) (ks : List Nat) (x : Ly) (m : List Ly) (H p : Int) (h : LyR w B q ks (x :: m) H) (h0 : 0 ≤ p) (h1 : p ≤ x.1) (h2 : x.1 ≤ 1099511627776) :
  Calls Tryz.prog 32 #[ptrK q, .int .i64 p] w fun r w' => r = .returned (.tuple #[]) ∧ ∃ ks', LyR w' B q ks' (lessL x m p) H ∧ (∀ j ∈ ks', j ∈ ks) ∧ Off (q :: ks) w w' := by
 unfold lessL
 obtain ⟨k, ks', rfl, _, _⟩ := h.lnk.cons
 by_cases hp : x.1 ≤ p
 ·rw [if_pos hp]
  obtain rfl : p = x.1 := by omega
  cases ks' with
  | nil => exact (yless_last w B q k x m H h).mono fun r w' ⟨a, b, c⟩ => ⟨a, [], b, fun j hj => (by cases hj), c⟩
  | cons k' ks => exact (yless_all w B q k k' ks x m H h).mono fun r w' ⟨a, b, c⟩ => ⟨a, k' :: ks, b, fun j hj => List.mem_cons_of_mem _ hj, c⟩
 ·rw [if_neg hp]
  exact (yless_part w B q k ks' x m H p h h0 (by omega) h2).mono fun r w' ⟨a, b, c⟩ => ⟨a, k :: ks', b, fun j hj => hj, c⟩
def InL (w : World) (B q : Nat) (ks : List Nat) (m : List Ly) (n c : Int) (w' : World) : Prop :=
 ∃ ks', LyAt w' B q ks' (inL m n c) ∧ (∀ k ∈ ks', k ∈ ks ∨ w.heap.size ≤ k) ∧ Off (q :: ks) w w'
theorem inL_err {w : World} {B q : Nat} {ks : List Nat} {m : List Ly} {n c : Int} (h : LyAt w B q ks m) (hE : inE m n c = 2) : InL w B q ks m n c w := by
 refine ⟨ks, ?_, fun k hk => Or.inl hk, Off.refl _ _⟩
 unfold inL
 rw [if_neg (by rw [hE]; decide)]
 exact h
theorem yin_bound (w : World) (s : Nat → Addr) (q : Nat) (n c : Int) (hs : Cs w s) (hx : ¬ (1 ≤ n ∧ n ≤ 1099511627776 ∧ 0 ≤ c ∧ c ≤ 1048576)) :
  Calls Tryz.prog 12 #[ptrK q, .int .i64 n, .int .i64 c] w fun e w' => e = .returned (err (s 1)) ∧ w' = w := by
 have g1 := hs.bound
 have HN : Hid (Calls Tryz.prog 30 _ w _) := ynum_any n w
 clear hs
 by_cases h1 : 1 ≤ n
 ·by_cases h2 : n ≤ 1099511627776
  ·rw [decide_eq_true h1, decide_eq_true h2] at HN
   by_cases h3 : c < 0
   ·clear hx h1 h2
    go_enter Tryz.func12, Tryz.ntmps12
    go_wp2_with (go_at_call 30; refine HN.out.mono ?_; rintro e w1 ⟨rfl, hw⟩; have hw' := hw.symm; subst hw')
    go_ret
    exact ⟨rfl, rfl⟩
   ·have h4 : 1048576 < c := by omega
    clear hx h1 h2
    go_enter Tryz.func12, Tryz.ntmps12
    go_wp2_with (go_at_call 30; refine HN.out.mono ?_; rintro e w1 ⟨rfl, hw⟩; have hw' := hw.symm; subst hw')
    go_ret
    exact ⟨rfl, rfl⟩
  ·rw [decide_eq_true h1, decide_eq_false h2] at HN
   clear hx h1 h2
   go_enter Tryz.func12, Tryz.ntmps12
   go_wp2_with (go_at_call 30; refine HN.out.mono ?_; rintro e w1 ⟨rfl, hw⟩; have hw' := hw.symm; subst hw')
   go_ret
   exact ⟨rfl, rfl⟩
 ·rw [decide_eq_false h1] at HN
  clear hx h1
  go_enter Tryz.func12, Tryz.ntmps12
  go_wp2_with (go_at_call 30; refine HN.out.mono ?_; rintro e w1 ⟨rfl, hw⟩; have hw' := hw.symm; subst hw')
  go_ret
  exact ⟨rfl, rfl⟩
theorem yin_many (w : World) (s : Nat → Addr) (B q : Nat) (ks : List Nat) (m : List Ly) (n c : Int) (h : LyAt w B q ks m) (hs : Cs w s) (h1 : 1 ≤ n) (h2 : n ≤ 1099511627776) (h3 : 0 ≤ c) (h4 : c ≤ 1048576) (hx : 1099511627776 < hasY m + n) :
  Calls Tryz.prog 12 #[ptrK q, .int .i64 n, .int .i64 c] w fun e w' => e = .returned (err (s 1)) ∧ w' = w := by
 have g1 := hs.bound
 have hm := h.ok.most
 have hm0 := hasY_nonneg h.ok.pos
 have c2 : w.cell? ⟨q, 2, none⟩ = some (.int .i64 (hasY m)) := cell_blk h.r.top 2
 have hN := ynum_any n w
 rw [decide_eq_true h1, decide_eq_true h2] at hN
 have HN : Hid (Calls Tryz.prog 30 _ w _) := hN
 generalize hasY m = H at *
 clear h hs hN
 go_enter Tryz.func12, Tryz.ntmps12
 go_wp2_with (go_at_call 30; refine HN.out.mono ?_; rintro e w1 ⟨rfl, hw⟩; have hw' := hw.symm; subst hw')
 go_ret
 exact ⟨rfl, rfl⟩
theorem inE_ok {m : List Ly} {n c : Int} (h1 : 1 ≤ n) (h2 : n ≤ 1099511627776) (h3 : 0 ≤ c) (h4 : c ≤ 1048576) (h5 : hasY m + n ≤ 1099511627776) : inE m n c = 0 := by unfold inE; rw [if_pos ⟨h1, h2, h3, h4, h5⟩]
theorem yin_first (w : World) (B q : Nat) (n c : Int) (h : LyAt w B q [] []) (h1 : 1 ≤ n) (h2 : n ≤ 1099511627776) (h3 : 0 ≤ c) (h4 : c ≤ 1048576) :
  Calls Tryz.prog 12 #[ptrK q, .int .i64 n, .int .i64 c] w fun e w' => e = .returned .nilIface ∧ InL w B q [] [] n c w' := by
 have hE := inE_ok (m := []) h1 h2 h3 h4 (by rw [hasY_nil]; omega)
 have c1 : w.cell? ⟨q, 1, none⟩ = some nilP := cell_blk h.r.top 1
 have c2 : w.cell? ⟨q, 2, none⟩ = some (.int .i64 0) := cell_blk h.r.top 2
 have hN := ynum_any n w
 rw [decide_eq_true h1, decide_eq_true h2] at hN
 have HN : Hid (Calls Tryz.prog 30 _ w _) := hN
 -- a new layer
 have hql := h.r.lt q (by simp)
 have nA := heap_alloc_new w (.cells #[.int .i64 0, .int .i64 c, nilP] 84)
 have bA : Below w.heap.size w (w.alloc (.cells #[.int .i64 0, .int .i64 c, nilP] 84)) := (Below.refl _ w).alloc (Nat.le_refl _) _
 obtain ⟨wA, hA⟩ : ∃ wA, w.alloc (.cells #[.int .i64 0, .int .i64 c, nilP] 84) = wA := ⟨_, rfl⟩
 rw [hA] at nA bA
 obtain ⟨p, hp⟩ : ∃ p, w.heap.size = p := ⟨_, rfl⟩
 rw [hp] at nA
 have hqp : q ≠ p := by omega
 have qA : wA.heap[q]? = _ := (bA.block q hql).trans h.r.top
 have HAd : Hid (Calls Tryz.prog 31 _ wA _) := yadd_nil q p _ _ wA qA
 have hst : ∀ w2, w2.heap[q]? = some (.cells #[ptrK p, ptrK p, .int .i64 0] 82 (0, 0)) → Off [q] wA w2 → ∃ w3 w4, w2.setCell ⟨p, 0, none⟩ (.int .i64 n) = w3 ∧ w3.setCell ⟨q, 2, none⟩ (.int .i64 n) = w4 ∧
   w2.cell? ⟨q, 1, none⟩ = some (ptrK p) ∧ w2.cell? ⟨p, 0, none⟩ = some (.int .i64 0) ∧ w2.frozen? ⟨p, 0, none⟩ = false ∧ w3.cell? ⟨q, 2, none⟩ = some (.int .i64 0) ∧ w3.frozen? ⟨q, 2, none⟩ = false ∧ InL w B q [] [] n c w4 := by
  intro w2 hq2 ho2
  have hp2 : w2.heap[p]? = _ := (ho2.block p (Array.getElem?_eq_some_iff.1 nA).1 (by simp; exact fun e => hqp e.symm)).trans nA
  obtain ⟨w3, e3, a3, k3, o3, _⟩ := set_blk (c' := #[.int .i64 n, .int .i64 c, nilP]) hp2 0 (.int .i64 n) rfl
  have hq3 := (k3 q hqp).trans hq2
  obtain ⟨w4, e4, a4, k4, o4, _⟩ := set_blk (c' := #[ptrK p, ptrK p, .int .i64 n]) hq3 2 (.int .i64 n) rfl
  have hp4 := (k4 p (fun e => hqp e.symm)).trans a3
  refine ⟨w3, w4, e3, e4, cell_blk hq2 1, cell_blk hp2 0, frozen_of_heap hp2 0, cell_blk hq3 2, frozen_of_heap hq3 2, [p], ⟨⟨?_, ?_, ?_, ?_⟩, h.ok.in_ n c⟩, fun k hk => Or.inr ?_, ?_⟩
  ·unfold inL
   rw [if_pos hE, addL_nil, hasY_cons, hasY_nil]
   rw [Int.add_zero]; exact a4
  ·unfold inL
   rw [if_pos hE, addL_nil]
   exact ⟨hp4, trivial⟩
  ·simp [hqp]
  ·intro k hk
   rcases List.mem_cons.1 hk with rfl | hk
   ·exact h.r.lo k (by simp)
   ·rw [List.mem_singleton.1 hk]
    have := h.r.lo q (by simp)
    omega
  ·rw [List.mem_singleton.1 hk]; omega
  ·have z := Nat.le_trans bA.size (Nat.le_trans ho2.size (Nat.le_trans o3.size o4.size))
   exact ⟨((o4.os.trans o3.os).trans ho2.os).trans bA.os, ((o4.tape.trans o3.tape).trans ho2.tape).trans bA.tape, ((o4.output.trans o3.output).trans ho2.output).trans bA.output, z, fun k hk hx => by
    have hkq : k ≠ q := fun e => hx (by simp [e])
    have hkp : k ≠ p := by omega
    exact (k4 k hkq).trans ((k3 k hkp).trans ((ho2.block k (by have := bA.size; omega) (by simp [hkq])).trans (bA.block k hk)))⟩
 have HS : Hid (∀ w2, w2.heap[q]? = some (.cells #[ptrK p, ptrK p, .int .i64 0] 82 (0, 0)) → Off [q] wA w2 → _) := hst
 generalize InL w B q [] [] n c = PP at *
 clear h hE hN nA bA qA hst hql hqp
 go_enter Tryz.func12, Tryz.ntmps12
 go_wp2_with (first
  | (go_at_call 30; refine HN.out.mono ?_; rintro e w1 ⟨rfl, hw⟩; have hw' := hw.symm; subst hw')
  | (go_at_call 31; (try rw [hp]); refine HAd.out.mono ?_; rintro e w2 ⟨rfl, hq2, ho2⟩; obtain ⟨w3, w4, e3, e4, x1, x2, x3, x4, x5, HPx⟩ := HS.out w2 hq2 ho2; have HPx : Hid (PP w4) := HPx; clear hq2 ho2))
 go_ret
 exact ⟨rfl, HPx.out⟩
theorem part_last {w : World} {ks : List Nat} {m : List Ly} {x : Ly} (h : Lnk w ks (m ++ [x]) nilP) : ∃ k0 k, ks = k0 ++ [k] ∧ Lnk w k0 m (ptrK k) ∧ w.heap[k]? = some (celY x nilP) := by
 obtain ⟨k1, k2, rfl, h1, h2⟩ := h.part
 obtain ⟨k, k3, rfl, h3, h4⟩ := h2.cons
 obtain rfl := h4.nil
 exact ⟨k1, k, rfl, h1, h3⟩
theorem yin_same (w : World) (B q : Nat) (ks : List Nat) (m : List Ly) (x : Ly) (n c : Int) (h : LyAt w B q ks (m ++ [x])) (hx : x.2 = c) (h1 : 1 ≤ n) (h2 : n ≤ 1099511627776) (h3 : 0 ≤ c) (h4 : c ≤ 1048576) (h5 : hasY (m ++ [x]) + n ≤ 1099511627776) :
  Calls Tryz.prog 12 #[ptrK q, .int .i64 n, .int .i64 c] w fun e w' => e = .returned .nilIface ∧ InL w B q ks (m ++ [x]) n c w' := by
 have hE := inE_ok h1 h2 h3 h4 h5
 have hm0 := hasY_nonneg h.ok.pos
 have hx1 := (h.ok.pos x (by simp)).1
 have hx2 : x.1 ≤ hasY (m ++ [x]) := by
  have h9 : PosY m := fun y hy => h.ok.pos y (by simp [hy])
  have := hasY_nonneg h9
  rw [hasY_app, hasY_cons, hasY_nil]
  omega
 obtain ⟨k0, k, rfl, hl0, hk⟩ := part_last h.r.lnk
 have hq := h.r.top
 rw [lastY_snoc] at hq
 have hqk : q ≠ k := fun e => by have := (List.nodup_cons.1 h.r.nd).1; exact this (by simp [e])
 have hk0 : k ∉ k0 := fun e => by
  have := (List.nodup_append.1 (List.nodup_cons.1 h.r.nd).2).2.2 k e k (by simp)
  exact this rfl
 have c1 : w.cell? ⟨q, 1, none⟩ = some (ptrK k) := cell_blk hq 1
 have c2 : w.cell? ⟨q, 2, none⟩ = some (.int .i64 (hasY (m ++ [x]))) := cell_blk hq 2
 have d0 : w.cell? ⟨k, 0, none⟩ = some (.int .i64 x.1) := cell_blk hk 0
 have d1 : w.cell? ⟨k, 1, none⟩ = some (.int .i64 c) := by rw [← hx]; exact cell_blk hk 1
 have f0 := frozen_of_heap hk 0
 obtain ⟨w1, e1, a1, k1, o1, _⟩ := set_blk (c' := #[.int .i64 (x.1 + n), .int .i64 x.2, nilP]) hk 0 (.int .i64 (x.1 + n)) rfl
 have hq1 := (k1 q hqk).trans hq
 have c3 : w1.cell? ⟨q, 2, none⟩ = some (.int .i64 (hasY (m ++ [x]))) := cell_blk hq1 2
 have f1 := frozen_of_heap hq1 2
 obtain ⟨w2, e2, a2, k2, o2, _⟩ := set_blk (c' := #[hdY (k0 ++ [k]) nilP, ptrK k, .int .i64 (hasY (m ++ [x]) + n)]) hq1 2 (.int .i64 (hasY (m ++ [x]) + n)) rfl
 have hO : Off (q :: (k0 ++ [k])) w w2 := (o1.mono (by simp)).trans (o2.mono (by simp))
 have HP : Hid (InL w B q (k0 ++ [k]) (m ++ [x]) n c w2) := by
  have e9 : inL (m ++ [x]) n c = m ++ [(x.1 + n, c)] := by
   unfold inL
   rw [if_pos hE, addL_snoc, if_pos hx]
  have hb : w2.heap[k]? = some (celY (x.1 + n, c) nilP) := by rw [← hx]; exact (k2 k (fun e => hqk e.symm)).trans a1
  refine ⟨k0 ++ [k], ⟨⟨?_, ?_, h.r.nd, h.r.lo⟩, h.ok.in_ n c⟩, fun j hj => Or.inl hj, hO⟩
  ·rw [e9, lastY_snoc, hasY_app, hasY_cons, hasY_nil]
   rw [hasY_app, hasY_cons, hasY_nil] at a2
   rw [a2]
   show some (Obj.cells #[_, _, .int .i64 (hasY m + (x.1 + 0) + n)] _ _) = some (Obj.cells #[_, _, .int .i64 (hasY m + (x.1 + n + 0))] _ _)
   rw [show hasY m + (x.1 + 0) + n = hasY m + (x.1 + n + 0) by omega]
  ·rw [e9]
   refine Lnk.app (hl0.of_blocks fun j hj => ?_) ⟨hb, trivial⟩
   have hjq : j ≠ q := fun e => (List.nodup_cons.1 h.r.nd).1 (by rw [← e]; simp [hj])
   have hjk : j ≠ k := fun e => hk0 (e ▸ hj)
   exact (k2 j hjq).trans (k1 j hjk)
 have hN := ynum_any n w
 rw [decide_eq_true h1, decide_eq_true h2] at hN
 have HN : Hid (Calls Tryz.prog 30 _ w _) := hN
 generalize InL w B q (k0 ++ [k]) (m ++ [x]) n c = PP at *
 generalize hasY (m ++ [x]) = H at *
 generalize x.1 = x1 at *
 clear h hE hN hq hk hl0 hk0 a1 a2 k1 k2 o1 o2 hO hq1 hx
 go_enter Tryz.func12, Tryz.ntmps12
 go_wp2_with (go_at_call 30; refine HN.out.mono ?_; rintro e w1 ⟨rfl, hw⟩; have hw' := hw.symm; subst hw')
 go_ret
 exact ⟨rfl, HP.out⟩
theorem yin_next (w : World) (B q : Nat) (ks : List Nat) (m : List Ly) (x : Ly) (n c : Int) (h : LyAt w B q ks (m ++ [x])) (hx : x.2 ≠ c) (h1 : 1 ≤ n) (h2 : n ≤ 1099511627776) (h3 : 0 ≤ c) (h4 : c ≤ 1048576) (h5 : hasY (m ++ [x]) + n ≤ 1099511627776) :
  Calls Tryz.prog 12 #[ptrK q, .int .i64 n, .int .i64 c] w fun e w' => e = .returned .nilIface ∧ InL w B q ks (m ++ [x]) n c w' := by
 have hE := inE_ok h1 h2 h3 h4 h5
 have hm0 := hasY_nonneg h.ok.pos
 obtain ⟨k0, k, rfl, hl0, hk⟩ := part_last h.r.lnk
 have hq := h.r.top
 rw [lastY_snoc] at hq
 have hqk : q ≠ k := fun e => by have := (List.nodup_cons.1 h.r.nd).1; exact this (by simp [e])
 have hk0 : k ∉ k0 := fun e => by
  have := (List.nodup_append.1 (List.nodup_cons.1 h.r.nd).2).2.2 k e k (by simp)
  exact this rfl
 have c1 : w.cell? ⟨q, 1, none⟩ = some (ptrK k) := cell_blk hq 1
 have c2 : w.cell? ⟨q, 2, none⟩ = some (.int .i64 (hasY (m ++ [x]))) := cell_blk hq 2
 have d1 : w.cell? ⟨k, 1, none⟩ = some (.int .i64 x.2) := cell_blk hk 1
 have hql := h.r.lt q (by simp)
 have hkl := h.r.lt k (by simp)
 have nA := heap_alloc_new w (.cells #[.int .i64 0, .int .i64 c, nilP] 84)
 have bA : Below w.heap.size w (w.alloc (.cells #[.int .i64 0, .int .i64 c, nilP] 84)) := (Below.refl _ w).alloc (Nat.le_refl _) _
 obtain ⟨wA, hA⟩ : ∃ wA, w.alloc (.cells #[.int .i64 0, .int .i64 c, nilP] 84) = wA := ⟨_, rfl⟩
 rw [hA] at nA bA
 obtain ⟨p, hp⟩ : ∃ p, w.heap.size = p := ⟨_, rfl⟩
 rw [hp] at nA
 have hqp : q ≠ p := by omega
 have hkp : k ≠ p := by omega
 have HAd : Hid (Calls Tryz.prog 31 _ wA _) := yadd_some q k p _ _ x _ wA ((bA.block q hql).trans hq) ((bA.block k hkl).trans hk) hqk
 have hst : ∀ w2, w2.heap[q]? = some (.cells #[hdY (k0 ++ [k]) nilP, ptrK p, .int .i64 (hasY (m ++ [x]))] 82 (0, 0)) → w2.heap[k]? = some (celY x (ptrK p)) → Off [q, k] wA w2 → ∃ w3 w4, w2.setCell ⟨p, 0, none⟩ (.int .i64 n) = w3 ∧ w3.setCell ⟨q, 2, none⟩ (.int .i64 (hasY (m ++ [x]) + n)) = w4 ∧
   w2.cell? ⟨q, 1, none⟩ = some (ptrK p) ∧ w2.cell? ⟨p, 0, none⟩ = some (.int .i64 0) ∧ w2.frozen? ⟨p, 0, none⟩ = false ∧ w3.cell? ⟨q, 2, none⟩ = some (.int .i64 (hasY (m ++ [x]))) ∧ w3.frozen? ⟨q, 2, none⟩ = false ∧ InL w B q (k0 ++ [k]) (m ++ [x]) n c w4 := by
  intro w2 hq2 hk2 ho2
  have hp2 : w2.heap[p]? = _ := (ho2.block p (Array.getElem?_eq_some_iff.1 nA).1 (by simp; exact ⟨fun e => hqp e.symm, fun e => hkp e.symm⟩)).trans nA
  obtain ⟨w3, e3, a3, k3, o3, _⟩ := set_blk (c' := #[.int .i64 n, .int .i64 c, nilP]) hp2 0 (.int .i64 n) rfl
  have hq3 := (k3 q hqp).trans hq2
  obtain ⟨w4, e4, a4, k4, o4, _⟩ := set_blk (c' := #[hdY (k0 ++ [k]) nilP, ptrK p, .int .i64 (hasY (m ++ [x]) + n)]) hq3 2 (.int .i64 (hasY (m ++ [x]) + n)) rfl
  have hp4 := (k4 p (fun e => hqp e.symm)).trans a3
  have hk4 := (k4 k (fun e => hqk e.symm)).trans ((k3 k hkp).trans hk2)
  have e9 : inL (m ++ [x]) n c = m ++ [x] ++ [(n, c)] := by
   unfold inL
   rw [if_pos hE, addL_snoc, if_neg hx]
  have old : ∀ j, j < w.heap.size → j ≠ q → j ≠ k → w4.heap[j]? = w.heap[j]? := fun j hj hjq hjk =>
   (k4 j hjq).trans ((k3 j (by omega)).trans ((ho2.block j (by have := bA.size; omega) (by simp [hjq, hjk])).trans (bA.block j hj)))
  have hnq := List.nodup_cons.1 h.r.nd
  have hlt := h.r.lt
  refine ⟨w3, w4, e3, e4, cell_blk hq2 1, cell_blk hp2 0, frozen_of_heap hp2 0, cell_blk hq3 2, frozen_of_heap hq3 2, k0 ++ [k] ++ [p], ⟨⟨?_, ?_, ?_, ?_⟩, h.ok.in_ n c⟩, fun j hj => ?_, ?_⟩
  ·have e8 : hdY (k0 ++ [k] ++ [p]) nilP = hdY (k0 ++ [k]) nilP := by cases k0 <;> rfl
   rw [e9, e8, lastY_snoc, hasY_app (m ++ [x]), hasY_cons, hasY_nil, a4]
   simp only [Int.add_zero]
  ·rw [e9]
   refine Lnk.app (Lnk.app (hl0.of_blocks fun j hj => ?_) ⟨hk4, trivial⟩) ⟨hp4, trivial⟩
   exact old j (hlt j (by simp [hj])) (fun e => hnq.1 (by rw [← e]; simp [hj])) (fun e => hk0 (e ▸ hj))
  ·rw [← List.cons_append]
   refine List.nodup_append.2 ⟨h.r.nd, by simp, fun a ha b hb e => ?_⟩
   rw [List.mem_singleton.1 hb] at e
   have := hlt a ha
   omega
  ·intro j hj
   rw [← List.cons_append] at hj
   rcases List.mem_append.1 hj with hj | hj
   ·exact h.r.lo j hj
   ·rw [List.mem_singleton.1 hj]
    have := h.r.lo q (by simp)
    omega
  ·rcases List.mem_append.1 hj with hj | hj
   ·exact Or.inl hj
   ·rw [List.mem_singleton.1 hj]; exact Or.inr (by omega)
  ·exact ⟨((o4.os.trans o3.os).trans ho2.os).trans bA.os, ((o4.tape.trans o3.tape).trans ho2.tape).trans bA.tape, ((o4.output.trans o3.output).trans ho2.output).trans bA.output, Nat.le_trans bA.size (Nat.le_trans ho2.size (Nat.le_trans o3.size o4.size)), fun j hj hx9 => old j hj (fun e => hx9 (by simp [e])) (fun e => hx9 (by simp [e]))⟩
 have HS : Hid (∀ w2, w2.heap[q]? = some (.cells #[hdY (k0 ++ [k]) nilP, ptrK p, .int .i64 (hasY (m ++ [x]))] 82 (0, 0)) → w2.heap[k]? = some (celY x (ptrK p)) → Off [q, k] wA w2 → _) := hst
 have hN := ynum_any n w
 rw [decide_eq_true h1, decide_eq_true h2] at hN
 have HN : Hid (Calls Tryz.prog 30 _ w _) := hN
 have hxb : (x.2 == c) = false := by simpa using hx
 generalize InL w B q (k0 ++ [k]) (m ++ [x]) n c = PP at *
 generalize hasY (m ++ [x]) = H at *
 clear h hE hN hq hk hl0 hk0 hst nA bA hqp hkp hqk hql hkl
 go_enter Tryz.func12, Tryz.ntmps12
 go_wp2_with (first
  | (go_at_call 30; refine HN.out.mono ?_; rintro e w1 ⟨rfl, hw⟩; have hw' := hw.symm; subst hw')
  | (go_at_call 31; (try rw [hp]); refine HAd.out.mono ?_; rintro e w2 ⟨rfl, hq2, hk2, ho2⟩; obtain ⟨w3, w4, e3, e4, x1, x2, x3, x4, x5, HPx⟩ := HS.out w2 hq2 hk2 ho2; have HPx : Hid (PP w4) := HPx; clear hq2 hk2 ho2))
 go_ret
 exact ⟨rfl, HPx.out⟩
theorem yin_any (w : World) (s : Nat → Addr) (B q : Nat) (ks : List Nat) (m : List Ly) (n c : Int) (h : LyAt w B q ks m) (hs : Cs w s) :
  Calls Tryz.prog 12 #[ptrK q, .int .i64 n, .int .i64 c] w fun e w' => e = .returned (errP s (inE m n c)) ∧ InL w B q ks m n c w' := by
 by_cases hx : 1 ≤ n ∧ n ≤ 1099511627776 ∧ 0 ≤ c ∧ c ≤ 1048576
 ·obtain ⟨h1, h2, h3, h4⟩ := hx
  by_cases h5 : hasY m + n ≤ 1099511627776
  ·rw [inE_ok h1 h2 h3 h4 h5, errP_zero]
   rcases List.eq_nil_or_concat m with rfl | ⟨m, x, rfl⟩
   ·obtain rfl := h.r.lnk.nil
    exact yin_first w B q n c h h1 h2 h3 h4
   ·rw [List.concat_eq_append] at *
    by_cases hx : x.2 = c
    ·exact yin_same w B q ks m x n c h hx h1 h2 h3 h4 h5
    ·exact yin_next w B q ks m x n c h hx h1 h2 h3 h4 h5
  ·have hE : inE m n c = 2 := by unfold inE; rw [if_neg fun h9 => h5 h9.2.2.2.2]
   rw [hE]
   refine (yin_many w s B q ks m n c h hs h1 h2 h3 h4 (by omega)).mono ?_
   rintro e w' ⟨rfl, rfl⟩
   exact ⟨rfl, inL_err h hE⟩
 ·have hE : inE m n c = 2 := by unfold inE; rw [if_neg fun h9 => hx ⟨h9.1, h9.2.1, h9.2.2.1, h9.2.2.2.1⟩]
  rw [hE]
  refine (yin_bound w s q n c hs hx).mono ?_
  rintro e w' ⟨rfl, rfl⟩
  exact ⟨rfl, inL_err h hE⟩
def OutL (w : World) (B q : Nat) (ks : List Nat) (m : List Ly) (n : Int) (w' : World) : Prop :=
 ∃ ks', LyAt w' B q ks' (outL m n) ∧ (∀ k ∈ ks', k ∈ ks) ∧ Off (q :: ks) w w'
theorem outL_err {w w' : World} {B q : Nat} {ks : List Nat} {m : List Ly} {n : Int} (h : LyAt w B q ks m) (hE : outE m n ≠ 0) (hb : Below w.heap.size w w') : OutL w B q ks m n w' := by
 refine ⟨ks, ?_, fun k hk => hk, Off.of_below hb⟩
 unfold outL
 rw [if_neg hE]
 exact h.below hb
theorem yout_bound (w : World) (s : Nat → Addr) (q : Nat) (n : Int) (hs : Cs w s) (hx : ¬ (1 ≤ n ∧ n ≤ 1099511627776)) :
  Calls Tryz.prog 13 #[ptrK q, .int .i64 n] w fun e w' => e = .returned (.tuple #[.int .i64 0, err (s 1)]) ∧ Below w.heap.size w w' := by
 have g1 := hs.bound
 have hN := ynum_any n w
 have e1 : (decide (1 ≤ n) && decide (n ≤ 1099511627776)) = false := by
  by_cases h1 : 1 ≤ n
  ·have h2 : ¬ n ≤ 1099511627776 := fun h2 => hx ⟨h1, h2⟩
   rw [decide_eq_false h2]; simp
  ·rw [decide_eq_false h1]; rfl
 rw [e1] at hN
 have HN : Hid (Calls Tryz.prog 30 _ w _) := hN
 clear hs hN hx e1
 go_enter Tryz.func13, Tryz.ntmps13
 go_wp2_with (go_at_call 30; refine HN.out.mono ?_; rintro e w1 ⟨rfl, hw⟩; have hw' := hw.symm; subst hw')
 go_quiet (fail)
 go_wp2
 go_ret2
 exact ⟨rfl, below_drewN (Below.refl _ _) nq⟩
theorem yout_short (w : World) (s : Nat → Addr) (B q : Nat) (ks : List Nat) (m : List Ly) (n : Int) (h : LyAt w B q ks m) (hs : Cs w s) (h1 : 1 ≤ n) (h2 : n ≤ 1099511627776) (hx : hasY m < n) :
  Calls Tryz.prog 13 #[ptrK q, .int .i64 n] w fun e w' => e = .returned (.tuple #[.int .i64 0, err (s 8)]) ∧ Below w.heap.size w w' := by
 have g1 := hs.short
 have hN := ynum_any n w
 rw [decide_eq_true h1, decide_eq_true h2] at hN
 have HN : Hid (Calls Tryz.prog 30 _ w _) := hN
 have HW : Hid (Calls Tryz.prog 26 _ w _) := ywhole_any q w
 have c2 : w.cell? ⟨q, 2, none⟩ = some (.int .i64 (hasY m)) := cell_blk h.r.top 2
 have hm := h.ok.most
 have hm0 := hasY_nonneg h.ok.pos
 generalize hasY m = H at *
 clear hs hN h
 go_enter Tryz.func13, Tryz.ntmps13
 go_wp2_with (first
  | (go_at_call 30; refine HN.out.mono ?_; rintro e w1 ⟨rfl, hw⟩; have hw' := hw.symm; subst hw')
  | (go_at_call 26; refine HW.out.mono ?_; rintro e w1 ⟨rfl, hw⟩; have hw' := hw.symm; subst hw'))
 go_quiet (fail)
 go_wp2
 go_ret2
 exact ⟨rfl, below_drewN (Below.refl _ _) nq⟩
theorem yout_fine (w : World) (B q : Nat) (ks : List Nat) (m : List Ly) (n : Int) (h : LyAt w B q ks m) (h1 : 1 ≤ n) (h2 : n ≤ 1099511627776) (hx : n ≤ hasY m) :
  Calls Tryz.prog 13 #[ptrK q, .int .i64 n] w fun e w' => e = .returned (.tuple #[.int .i64 (outS m n), .nilIface]) ∧ OutL w B q ks m n w' := by
 have hE := outE_of h1 h2 hx
 have hN := ynum_any n w
 rw [decide_eq_true h1, decide_eq_true h2] at hN
 have HN : Hid (Calls Tryz.prog 30 _ w _) := hN
 have HW : Hid (Calls Tryz.prog 26 _ w _) := ywhole_any q w
 have hq := h.r.top
 have c2 : w.cell? ⟨q, 2, none⟩ = some (.int .i64 (hasY m)) := cell_blk hq 2
 have f2 := frozen_of_heap hq 2
 have hm := h.ok.most
 have hwm := worth_most h.ok
 obtain ⟨hS0, hS1⟩ := outS_bound (n := n) h.ok.pos (by omega)
 have hS2 : outS m n ≤ 1152921504606846976 := by omega
 obtain ⟨w1, e1, a1, k1, o1, _⟩ := set_blk (c' := #[hdY ks nilP, lastY ks, .int .i64 (hasY m - n)]) hq 2 (.int .i64 (hasY m - n)) rfl
 have hR1 : LyR w1 B q ks m (hasY m - n) := ⟨a1, h.r.lnk.of_blocks fun k hk => k1 k fun e => (List.nodup_cons.1 h.r.nd).1 (e ▸ hk), h.r.nd, h.r.lo⟩
 have hfin : ∀ wr ks', LyR wr B q ks' (restY m n) (hasY m - n) → (∀ j ∈ ks', j ∈ ks) → Off (q :: ks) w1 wr → OutL w B q ks m n wr := fun wr ks' hr hj ho => by
  have e9 : outL m n = restY m n := by unfold outL; rw [if_pos hE]
  refine ⟨ks', ⟨?_, h.ok.out n⟩, hj, (o1.mono (by simp)).trans ho⟩
  rw [e9, restY_has h.ok.pos (by omega) hx]
  exact hr
 have HF : Hid (∀ wr ks', LyR wr B q ks' (restY m n) (hasY m - n) → (∀ j ∈ ks', j ∈ ks) → Off (q :: ks) w1 wr → OutL w B q ks m n wr) := hfin
 have HR1 : Hid (LyR w1 B q ks m (hasY m - n)) := hR1
 have HP : Hid (PosY m ∧ hasY m ≤ 1099511627776) := ⟨h.ok.pos, hm⟩
 obtain ⟨H, hH⟩ : ∃ H, hasY m = H := ⟨_, rfl⟩
 have HH : Hid (hasY m = H) := hH
 rw [hH] at c2 e1 hx hm HR1 HF
 clear hfin hR1 hN h hq a1 k1 o1 hE hwm hH hS1
 go_enter Tryz.func13, Tryz.ntmps13
 go_wp2_with (first
  | (go_at_call 30; refine HN.out.mono ?_; rintro e w1 ⟨rfl, hw⟩; have hw' := hw.symm; subst hw')
  | (go_at_call 26; refine HW.out.mono ?_; rintro e w1 ⟨rfl, hw⟩; have hw' := hw.symm; subst hw'))
 clear HN HW c2 f2 e1
 go_loopw [1, 6, 7] (fun vn vs vp wr => ∃ (r S : Int) (ks' : List Nat) (m' : List Ly), vn = .int .i64 r ∧ vs = .int .i64 S ∧ LyR wr B q ks' m' (H - n) ∧ (∀ j ∈ ks', j ∈ ks) ∧ Off (q :: ks) w1 wr ∧ PosY m' ∧ 0 ≤ r ∧ r ≤ hasY m' ∧ hasY m' ≤ 1099511627776 ∧ 0 ≤ S ∧ S + outS m' r = outS m n ∧ restY m' r = restY m n) (fun vn _ _ _ => (RowKit.intOf vn).toNat)
 case atStart => exact ⟨n, 0, ks, m, rfl, rfl, HR1.out, fun j hj => hj, Off.refl _ _, HP.out.1, by omega, by rw [HH.out]; exact hx, HP.out.2, Int.le_refl _, by omega, rfl⟩
 case round =>
  obtain ⟨r, S, ks', m', rfl, rfl, hr, hj, ho, hp, hr0, hr1, hr2, hs0, hs1, hs2⟩ := hrel
  by_cases hz : 0 < r
  ·cases m' with
   | nil => rw [hasY_nil] at hr1; omega
   | cons x m2 =>
    obtain ⟨k, ks2, rfl, hk, _⟩ := hr.lnk.cons
    have c0 : wr.cell? ⟨q, 0, none⟩ = some (ptrK k) := cell_blk hr.top 0
    have d0 : wr.cell? ⟨k, 0, none⟩ = some (.int .i64 x.1) := cell_blk hk 0
    have d1 : wr.cell? ⟨k, 1, none⟩ = some (.int .i64 x.2) := cell_blk hk 1
    obtain ⟨x1, x2, x3⟩ := hp.head
    have hxq : x.1 ≤ 1099511627776 := by
     have := hasY_nonneg hp.tail
     rw [hasY_cons] at hr2
     omega
    obtain ⟨pt, hpt⟩ : ∃ pt, min r x.1 = pt := ⟨_, rfl⟩
    obtain ⟨t1, t2, t3, t4⟩ := out_step hp hpt
    have p1 : 1 ≤ pt := by omega
    have p2 : pt ≤ r := by omega
    have p3 : pt ≤ x.1 := by omega
    obtain ⟨b1, b2⟩ := cost_bound (n := pt) (by omega) x2 x3
    have b3 : pt * x.2 ≤ 1152921504606846976 := by omega
    have HL : Hid (Calls Tryz.prog 32 _ wr _) := yless_any wr B q (k :: ks2) x m2 (H - n) pt hr (by omega) p3 hxq
    obtain ⟨t5, _⟩ := outS_bound (n := r - pt) t3 (by omega)
    have b4 : S + pt * x.2 ≤ 1152921504606846976 := by omega
    have HT : Hid (PosY (lessL x m2 pt) ∧ r - pt ≤ hasY (lessL x m2 pt) ∧ hasY (lessL x m2 pt) ≤ 1099511627776 ∧ S + pt * x.2 + outS (lessL x m2 pt) (r - pt) = outS m n ∧ restY (lessL x m2 pt) (r - pt) = restY m n) := ⟨t3, by omega, by omega, by omega, t2.symm.trans hs2⟩
    have HJ : Hid ((∀ j ∈ k :: ks2, j ∈ ks) ∧ Off (q :: ks) w1 wr) := ⟨hj, ho⟩
    have hr5 : r ≤ 1099511627776 := by omega
    clear hr hk hp t1 t2 t3 t4 t5 hs1 hs2 hj ho b2 hr1 hr2
    generalize lessL x m2 pt = mz at *
    obtain ⟨xa, xb⟩ := x
    simp only at *
    go_wp2_with (first
     | (go_at_call 32; refine HL.out.mono ?_; rintro e w3 ⟨rfl, ks3, hr3, hj3, ho3⟩; have HR3 : Hid (LyR w3 B q ks3 _ (H - n)) := hr3; have HJ3 : Hid (_ ∧ _) := (And.intro hj3 ho3); clear hr3 hj3 ho3))
    go_roundw
    case rel => exact ⟨r - pt, S + pt * xb, ks3, mz, rfl, rfl, HR3.out, fun j hj => HJ.out.1 j (HJ3.out.1 j hj), HJ.out.2.trans (HJ3.out.2.mono fun j hj => by
      rcases List.mem_cons.1 hj with rfl | hj
      ·simp
      ·exact List.mem_cons_of_mem _ (HJ.out.1 j hj)), HT.out.1, by omega, HT.out.2.1, HT.out.2.2.1, by omega, HT.out.2.2.2.1, HT.out.2.2.2.2⟩
    case measure => simp [RowKit.intOf]; omega
  ·have hr0' : r = 0 := by omega
   subst hr0'
   rw [outS_zero hp, Int.add_zero] at hs1
   rw [restY_zero hp] at hs2
   subst hs1 hs2
   have HFin : Hid (OutL w B q ks m n wr) := HF.out wr ks' hr hj ho
   clear hr hj ho hp
   go_wp2
   go_ret2
   exact ⟨rfl, HFin.out⟩
theorem yout_any (w : World) (s : Nat → Addr) (B q : Nat) (ks : List Nat) (m : List Ly) (n : Int) (h : LyAt w B q ks m) (hs : Cs w s) :
  Calls Tryz.prog 13 #[ptrK q, .int .i64 n] w fun e w' => e = .returned (.tuple #[.int .i64 (outN m n), errP s (outE m n)]) ∧ OutL w B q ks m n w' := by
 by_cases hx : 1 ≤ n ∧ n ≤ 1099511627776
 ·by_cases h3 : n ≤ hasY m
  ·have hE := outE_of hx.1 hx.2 h3
   unfold outN
   rw [hE, errP_zero, if_pos rfl]
   exact yout_fine w B q ks m n h hx.1 hx.2 h3
  ·have hE : outE m n = 9 := by unfold outE; rw [if_pos hx, if_neg h3]
   unfold outN
   rw [hE]
   refine (yout_short w s B q ks m n h hs hx.1 hx.2 (by omega)).mono ?_
   rintro e w' ⟨rfl, hb⟩
   exact ⟨rfl, outL_err h (by rw [hE]; decide) hb⟩
 ·have hE : outE m n = 2 := by unfold outE; rw [if_neg hx]
  unfold outN
  rw [hE]
  refine (yout_bound w s q n hs hx).mono ?_
  rintro e w' ⟨rfl, hb⟩
  exact ⟨rfl, outL_err h (by rw [hE]; decide) hb⟩
end Go.Proofs.YtpnmbomjnpheeaaGreatDoor
namespace Go.Proofs.YtpnmbomjnpheeaaGreatDoor
open Go.RowKit Go.Lib Go.Sort
end Go.Proofs.YtpnmbomjnpheeaaGreatDoor
namespace Go.Proofs.YtpnmbomjnpheeaaGreatDoor
open Go.ChangeShapes Go.WideShapes Go.RowKit
theorem Tryz.gPow : Tryz.prog.globalNamed "internal/strconv.uint64pow10" = some 13 := by kernel_rfl
theorem Tryz.gPowType : (Tryz.prog.globals[13]?).map (·.type) = some 191 := by kernel_rfl
theorem Tryz.cellsPow : Tryz.prog.cellsOf 191 = 20 := by kernel_rfl
theorem Tryz.cellsU64 : Tryz.prog.cellsOf 172 = 1 := by kernel_rfl
end Go.Proofs.YtpnmbomjnpheeaaGreatDoor
