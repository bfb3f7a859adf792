/-
 What Move answers and leaves: pieces of a lot at another place, or an error and no turn; nothing else that is old is turned.
-/
import Derived.Test.YtppodkkefegbkaaGreatDoorJz6
import Derived.Laws.StructEq
set_option maxRecDepth 100000
set_option maxHeartbeats 16000000
namespace Go.Proofs.YtppodkkefegbkaaGreatDoor
open Go.RowKit Go.Lib Go.Sort
open Go.Maps (Keyed)
theorem Tryz.guardK : Tryz.prog.eqGuardType Tryz.prog.depth 41 = false := by kernel_rfl
theorem eqK_run (x y : Pl) (w : World) : (Op.equalIn 10000 41 (.agg #[.string x.1, .int .i64 x.2.1, .int .i64 x.2.2]) (.agg #[.string y.1, .int .i64 y.2.1, .int .i64 y.2.2])).run Tryz.prog w = .ok (decide (x = y)) w := by
 obtain ⟨a, r, b⟩ := x
 obtain ⟨a', r', b'⟩ := y
 have u3 := Tryz.underlying3
 have a3 := Tryz.isAgg3
 have z3 := Tryz.sizeOf3
 have u9 := Tryz.underlying9
 have a9 := Tryz.isAgg9
 have z9 := Tryz.sizeOf9
 have hS : Tryz.prog.underlying 41 = some (.struct (Tryz.prog.fieldsOf 41)) := by kernel_rfl
 have hp : Tryz.prog.stoodInHeld 41 = false := by kernel_rfl
 rw [show (10000 : Nat) = 9999 + 1 from rfl, run_equalIn_agg w 9999 41 _ _ hS hp]
 simp only [Program.fieldsOf, Tryz.underlying41]
 have e3 := same_eq a a'
 go_simp
 by_cases h1 : a = a' <;> by_cases h2 : r = r' <;> by_cases h3 : b = b' <;> simp [h1, h2, h3]
theorem moveE_take {m : List Ln} {x y : Pl} {c : ByteArray} {n : Int} (h : takeE m (x, c) n ≠ 0) : moveE m x y c n = takeE m (x, c) n := by unfold moveE; rw [if_neg h]
theorem moveE_place {m : List Ln} {x y : Pl} {c : ByteArray} {n : Int} (h : takeE m (x, c) n = 0) (h1 : placeErr y ≠ 0) : moveE m x y c n = placeErr y := by unfold moveE; rw [if_pos h, if_neg h1]
theorem moveE_shape {m : List Ln} {x y : Pl} {c : ByteArray} {n : Int} (h : takeE m (x, c) n = 0) (h1 : placeErr y = 0) (h2 : x = y) : moveE m x y c n = 3 := by unfold moveE; rw [if_pos h, if_pos h1, if_pos h2]
theorem moveE_full {m : List Ln} {x y : Pl} {c : ByteArray} {n : Int} (h : takeE m (x, c) n = 0) (h1 : placeErr y = 0) (h2 : x ≠ y) : moveE m x y c n = if 200 < linesA m (x, c) (y, c) n then 8 else 0 := by unfold moveE; rw [if_pos h, if_pos h1, if_neg h2]
theorem moveL_err {m : List Ln} {x y : Pl} {c : ByteArray} {n : Int} (h : moveE m x y c n ≠ 0) : moveL m x y c n = m := by unfold moveL; rw [if_neg h]
theorem moveL_zero {m : List Ln} {x y : Pl} {c : ByteArray} {n : Int} (h : moveE m x y c n = 0) : moveL m x y c n = withL (withL m (x, c) (atL m (x, c) - n)) (y, c) (atL m (y, c) + n) := by unfold moveL; rw [if_pos h]
structure MoveW (w W : World) (x y : Pl) (c : ByteArray) (q q' : Nat) : Prop where
 below : Below w.heap.size w W
 bx : BoxAt w.heap.size x W
 by_ : BoxAt (w.heap.size + 1) y W
 hs : BoxS q (x, c) W
 ht : BoxS q' (y, c) W
 hq' : w.heap.size ≤ q'
theorem MoveW.later {w W W' : World} {x y : Pl} {c : ByteArray} {q q' : Nat} (h : MoveW w W x y c q q') (hb : Below W.heap.size W W') : MoveW w W' x y c q q' :=
 ⟨h.below.trans (hb.mono h.below.size), h.bx.below hb, h.by_.below hb, h.hs.below hb, h.ht.below hb, h.hq'⟩
theorem MoveW.ne {w W : World} {x y : Pl} {c : ByteArray} {q q' b : Nat} (h : MoveW w W x y c q q') (hb : b < w.heap.size) : q' ≠ b := fun e => by have := h.hq'; omega
theorem moveW0 (w : World) (x y : Pl) : Below w.heap.size w (boxTwo w x y) ∧ BoxAt w.heap.size x (boxTwo w x y) ∧ BoxAt (w.heap.size + 1) y (boxTwo w x y) ∧ (boxTwo w x y).heap.size = w.heap.size + 1 + 1 := ⟨boxTwo_below w x y, boxTwo_first w x y, boxTwo_second w x y, by simp⟩
theorem moveW_any (w W : World) (x y : Pl) (k k' : Sp) (hw : Below w.heap.size w W ∧ BoxAt w.heap.size x W ∧ BoxAt (w.heap.size + 1) y W ∧ W.heap.size = w.heap.size + 1 + 1) :
  Below w.heap.size w (boxSS W k k').drew ∧ BoxAt w.heap.size x (boxSS W k k').drew ∧ BoxAt (w.heap.size + 1) y (boxSS W k k').drew ∧ BoxS (w.heap.size + 1 + 1) k (boxSS W k k').drew ∧ BoxS (w.heap.size + 1 + 1 + 1) k' (boxSS W k k').drew := by
 obtain ⟨h1, h2, h3, h4⟩ := hw
 have hB : Below W.heap.size W (boxSS W k k').drew := (((Below.refl _ W).alloc (Nat.le_refl _) _).alloc (by simp) _).drew
 refine ⟨h1.trans (hB.mono h1.size), h2.below hB, h3.below hB, ?_, ?_⟩
 ·exact ((BoxS.new W k _ _ h4.symm).below ((Below.refl _ _).alloc (Nat.le_refl _) _)).of_block rfl
 ·exact (BoxS.new _ k' _ _ (by simp [h4])).of_block rfl
theorem moveW1 (w : World) (x y : Pl) (c : ByteArray) : MoveW w (((((w.alloc (.cells #[.string x.1, .int .i64 x.2.1, .int .i64 x.2.2] 41)).alloc (.cells #[.string y.1, .int .i64 y.2.1, .int .i64 y.2.2] 41)).alloc (.cells #[.string x.1, .int .i64 x.2.1, .int .i64 x.2.2, .string c] 99)).alloc (.cells #[.string y.1, .int .i64 y.2.1, .int .i64 y.2.2, .string c] 99)).drew) x y c (w.heap.size + 1 + 1) (w.heap.size + 1 + 1 + 1) := by
 obtain ⟨h1, h2, h3, h4, h5⟩ := moveW_any w _ x y (x, c) (y, c) (moveW0 w x y)
 exact ⟨h1, h2, h3, h4, h5, by omega⟩
theorem moveW2 (w : World) (x y : Pl) (c : ByteArray) : MoveW w (((((w.alloc (.cells #[.string x.1, .int .i64 x.2.1, .int .i64 x.2.2] 41)).alloc (.cells #[.string y.1, .int .i64 y.2.1, .int .i64 y.2.2] 41)).alloc (.cells #[.string y.1, .int .i64 y.2.1, .int .i64 y.2.2, .string c] 99)).alloc (.cells #[.string x.1, .int .i64 x.2.1, .int .i64 x.2.2, .string c] 99)).drew) x y c (w.heap.size + 1 + 1 + 1) (w.heap.size + 1 + 1) := by
 obtain ⟨h1, h2, h3, h4, h5⟩ := moveW_any w _ x y (y, c) (x, c) (moveW0 w x y)
 exact ⟨h1, h2, h3, h5, h4, by omega⟩
theorem IsStock.add {w : World} {p b : Nat} {m : List Ln} (h : IsStock w p b m) {k : Sp} (hk : KeyOk k) {n : Int} (hw : Wf (withL m k (atL m k + n))) (hn : atL m k + n ≠ 0) {q : Nat} (hq : BoxS q k w) (hqb : q ≠ b) :
  ∃ w5, w.grownBy w5 (some b) ∧ IsStock w5 p b (withL m k (atL m k + n)) ∧ ∃ (st : Nat) (w4 : World), (Instr.mapEntry 95 (.map (some b)) (agS k)).run Tryz.prog w = .ok (.tuple #[.int .i64 (atL m k), .int .i64 st]) w4 ∧ (Instr.lookup 95 (.map (some b)) (agS k) false).run Tryz.prog w4 = .ok (.int .i64 (atL m k)) w4 ∧ BoxS q k w4 ∧ w4.cell? ⟨p, 0, none⟩ = some (.map (some b)) ∧
   (Instr.entryStore 95 (.map (some b)) (.int .i64 st) (.int .i64 (atL m k + n))).run Tryz.prog w4 = .ok () w5 := by
 obtain ⟨st, w4, g1, g2, g3, g4⟩ := h.entry hk
 obtain ⟨w5, g5, g6, g7⟩ := g4 (atL m k + n)
 have hpb := h.ne
 exact ⟨w5, g7.grown, ⟨(turned_cell (p := ⟨p, 0, none⟩) g7 hpb).trans h.cell, g6.perm ((withL_perm hn).symm.map entN), hw⟩, st, w4, g1, g2, hq.of_block (turned_block g3 hqb), (turned_cell (p := ⟨p, 0, none⟩) g3 hpb).trans h.cell, g5⟩
theorem move_take (x y : Pl) (c : ByteArray) (n : Int) (w : World) (s : Nat → Addr) (p b : Nat) (m : List Ln) (h : IsStock w p b m) (hk : KeyOk (x, c)) (hs : Five w s) (h0 : takeE m (x, c) n ≠ 0) :
  Calls Tryz.prog 100 #[.pointer (some ⟨p, 0, none⟩), agP x, agP y, .string c, .int .i64 n] w fun e w' => e = .returned (errP s (takeE m (x, c) n)) ∧ Below w.heap.size w w' := by
 have HC : Hid (∀ W, Below w.heap.size w W → Calls Tryz.prog 117 #[.pointer (some ⟨p, 0, none⟩), agS (x, c), .int .i64 n] W fun e w' => e = .returned (errP s (takeE m (x, c) n)) ∧ Below W.heap.size W w') := fun W hb => checkTake_any (x, c) n W s p b m (h.all hb) hk (hs.below hb)
 rw [errP_pos s h0] at HC ⊢
 generalize s (takeE m (x, c) n - 1) = ad at *
 clear hs hk h h0
 obtain ⟨a, r, bb⟩ := x
 obtain ⟨a', r', bb'⟩ := y
 unfold agP agS at *
 simp only at *
 go_enter Tryz.func100, Tryz.ntmps100
 go_wp2
 go_region
 ·have hM := moveW1 w (a, r, bb) (a', r', bb') c
  simp only at hM
  generalize (((((w.alloc (.cells #[.string a, .int .i64 r, .int .i64 bb] 41)).alloc (.cells #[.string a', .int .i64 r', .int .i64 bb'] 41)).alloc (.cells #[.string a, .int .i64 r, .int .i64 bb, .string c] 99)).alloc (.cells #[.string a', .int .i64 r', .int .i64 bb', .string c] 99)).drew) = W at hM ⊢
  generalize w.heap.size + 1 + 1 + 1 = q3 at hM ⊢
  generalize w.heap.size + 1 + 1 = q2 at hM ⊢
  obtain ⟨h0, h1, h2, h3⟩ := hM.hs
  simp only at h0 h1 h2 h3
  go_wp2_with (go_at_call 117; refine (HC.out _ hM.below).mono ?_; rintro e w1 ⟨rfl, hb1⟩)
  go_ret
  exact ⟨rfl, (hM.later hb1).below⟩
 ·have hM := moveW2 w (a, r, bb) (a', r', bb') c
  simp only at hM
  generalize (((((w.alloc (.cells #[.string a, .int .i64 r, .int .i64 bb] 41)).alloc (.cells #[.string a', .int .i64 r', .int .i64 bb'] 41)).alloc (.cells #[.string a', .int .i64 r', .int .i64 bb', .string c] 99)).alloc (.cells #[.string a, .int .i64 r, .int .i64 bb, .string c] 99)).drew) = W at hM ⊢
  generalize w.heap.size + 1 + 1 + 1 = q3 at hM ⊢
  generalize w.heap.size + 1 + 1 = q2 at hM ⊢
  obtain ⟨h0, h1, h2, h3⟩ := hM.hs
  simp only at h0 h1 h2 h3
  go_wp2_with (go_at_call 117; refine (HC.out _ hM.below).mono ?_; rintro e w1 ⟨rfl, hb1⟩)
  go_ret
  exact ⟨rfl, (hM.later hb1).below⟩
theorem move_place (x y : Pl) (c : ByteArray) (n : Int) (w : World) (s : Nat → Addr) (p b : Nat) (m : List Ln) (h : IsStock w p b m) (hk : KeyOk (x, c)) (hz : y.1.size ≤ maxLen) (hs : Five w s) (t0 : takeE m (x, c) n = 0) (h0 : placeErr y ≠ 0) :
  Calls Tryz.prog 100 #[.pointer (some ⟨p, 0, none⟩), agP x, agP y, .string c, .int .i64 n] w fun e w' => e = .returned (errP s (placeErr y)) ∧ Below w.heap.size w w' := by
 have HC : Hid (∀ W, Below w.heap.size w W → Calls Tryz.prog 117 #[.pointer (some ⟨p, 0, none⟩), agS (x, c), .int .i64 n] W fun e w' => e = .returned (errP s (takeE m (x, c) n)) ∧ Below W.heap.size W w') := fun W hb => checkTake_any (x, c) n W s p b m (h.all hb) hk (hs.below hb)
 have HP : Hid (∀ W, Below w.heap.size w W → Calls Tryz.prog 76 #[agP y] W fun e w' => e = .returned (errP s (placeErr y)) ∧ Below W.heap.size W w') := fun W hb => pcheck_any y W s hz (hs.two.below hb)
 rw [t0, errP_zero] at HC
 rw [errP_pos s h0] at HP ⊢
 generalize s (placeErr y - 1) = ad at *
 clear hs hk hz h h0 t0
 obtain ⟨a, r, bb⟩ := x
 obtain ⟨a', r', bb'⟩ := y
 unfold agP agS at *
 simp only at *
 go_enter Tryz.func100, Tryz.ntmps100
 go_wp2
 go_region
 ·have hM := moveW1 w (a, r, bb) (a', r', bb') c
  simp only at hM
  generalize (((((w.alloc (.cells #[.string a, .int .i64 r, .int .i64 bb] 41)).alloc (.cells #[.string a', .int .i64 r', .int .i64 bb'] 41)).alloc (.cells #[.string a, .int .i64 r, .int .i64 bb, .string c] 99)).alloc (.cells #[.string a', .int .i64 r', .int .i64 bb', .string c] 99)).drew) = W at hM ⊢
  generalize w.heap.size + 1 + 1 + 1 = q3 at hM ⊢
  generalize w.heap.size + 1 + 1 = q2 at hM ⊢
  obtain ⟨h0, h1, h2, h3⟩ := hM.hs
  simp only at h0 h1 h2 h3
  go_wp2_with (first
   | (go_at_call 117; refine (HC.out _ hM.below).mono ?_; rintro e w1 ⟨rfl, hb1⟩; have hM1 := hM.later hb1; obtain ⟨y0, y1, y2⟩ := hM1.by_; simp only at y0 y1 y2)
   | (go_at_call 76; refine (HP.out _ hM1.below).mono ?_; rintro e w2 ⟨rfl, hb2⟩))
  go_ret
  exact ⟨rfl, (hM1.later hb2).below⟩
 ·have hM := moveW2 w (a, r, bb) (a', r', bb') c
  simp only at hM
  generalize (((((w.alloc (.cells #[.string a, .int .i64 r, .int .i64 bb] 41)).alloc (.cells #[.string a', .int .i64 r', .int .i64 bb'] 41)).alloc (.cells #[.string a', .int .i64 r', .int .i64 bb', .string c] 99)).alloc (.cells #[.string a, .int .i64 r, .int .i64 bb, .string c] 99)).drew) = W at hM ⊢
  generalize w.heap.size + 1 + 1 + 1 = q3 at hM ⊢
  generalize w.heap.size + 1 + 1 = q2 at hM ⊢
  obtain ⟨h0, h1, h2, h3⟩ := hM.hs
  simp only at h0 h1 h2 h3
  go_wp2_with (first
   | (go_at_call 117; refine (HC.out _ hM.below).mono ?_; rintro e w1 ⟨rfl, hb1⟩; have hM1 := hM.later hb1; obtain ⟨y0, y1, y2⟩ := hM1.by_; simp only at y0 y1 y2)
   | (go_at_call 76; refine (HP.out _ hM1.below).mono ?_; rintro e w2 ⟨rfl, hb2⟩))
  go_ret
  exact ⟨rfl, (hM1.later hb2).below⟩
theorem move_shape (x y : Pl) (c : ByteArray) (n : Int) (w : World) (s : Nat → Addr) (p b : Nat) (m : List Ln) (h : IsStock w p b m) (hk : KeyOk (x, c)) (hz : y.1.size ≤ maxLen) (hs : Five w s) (t0 : takeE m (x, c) n = 0) (h0 : placeErr y = 0) (hxy : x = y) :
  Calls Tryz.prog 100 #[.pointer (some ⟨p, 0, none⟩), agP x, agP y, .string c, .int .i64 n] w fun e w' => e = .returned (err (s 2)) ∧ Below w.heap.size w w' := by
 have HC : Hid (∀ W, Below w.heap.size w W → Calls Tryz.prog 117 #[.pointer (some ⟨p, 0, none⟩), agS (x, c), .int .i64 n] W fun e w' => e = .returned (errP s (takeE m (x, c) n)) ∧ Below W.heap.size W w') := fun W hb => checkTake_any (x, c) n W s p b m (h.all hb) hk (hs.below hb)
 have HP : Hid (∀ W, Below w.heap.size w W → Calls Tryz.prog 76 #[agP y] W fun e w' => e = .returned (errP s (placeErr y)) ∧ Below W.heap.size W w') := fun W hb => pcheck_any y W s hz (hs.two.below hb)
 have hG := Tryz.guardK
 have HF : Hid (∀ W, Below w.heap.size w W → W.cell? ⟨0, 0, none⟩ = some (err (s 2))) := fun W hb => (hs.below hb).shape
 have hE := fun W => eqK_run x y W
 rw [t0, errP_zero] at HC
 rw [h0, errP_zero] at HP
 rw [decide_eq_true hxy] at hE
 clear hs hk hz h h0 t0 hxy
 obtain ⟨a, r, bb⟩ := x
 obtain ⟨a', r', bb'⟩ := y
 unfold agP agS at *
 simp only at *
 go_enter Tryz.func100, Tryz.ntmps100
 go_wp2
 go_region
 ·have hM := moveW1 w (a, r, bb) (a', r', bb') c
  simp only at hM
  generalize (((((w.alloc (.cells #[.string a, .int .i64 r, .int .i64 bb] 41)).alloc (.cells #[.string a', .int .i64 r', .int .i64 bb'] 41)).alloc (.cells #[.string a, .int .i64 r, .int .i64 bb, .string c] 99)).alloc (.cells #[.string a', .int .i64 r', .int .i64 bb', .string c] 99)).drew) = W at hM ⊢
  generalize w.heap.size + 1 + 1 + 1 = q3 at hM ⊢
  generalize w.heap.size + 1 + 1 = q2 at hM ⊢
  obtain ⟨h0, h1, h2, h3⟩ := hM.hs
  simp only at h0 h1 h2 h3
  go_wp2_with (first
   | (go_at_call 117; refine (HC.out _ hM.below).mono ?_; rintro e w1 ⟨rfl, hb1⟩; have hM1 := hM.later hb1; obtain ⟨y0, y1, y2⟩ := hM1.by_; simp only at y0 y1 y2)
   | (go_at_call 76; refine (HP.out _ hM1.below).mono ?_; rintro e w2 ⟨rfl, hb2⟩; have hM2 := hM1.later hb2; obtain ⟨x0, x1, x2⟩ := hM2.bx; obtain ⟨z0, z1, z2⟩ := hM2.by_; obtain ⟨k0, k1, k2, k3⟩ := hM2.hs; obtain ⟨l0, l1, l2, l3⟩ := hM2.ht; simp only at x0 x1 x2 z0 z1 z2 k0 k1 k2 k3 l0 l1 l2 l3; have g := HF.out _ hM2.below))
  go_ret
  exact ⟨rfl, hM2.below⟩
 ·have hM := moveW2 w (a, r, bb) (a', r', bb') c
  simp only at hM
  generalize (((((w.alloc (.cells #[.string a, .int .i64 r, .int .i64 bb] 41)).alloc (.cells #[.string a', .int .i64 r', .int .i64 bb'] 41)).alloc (.cells #[.string a', .int .i64 r', .int .i64 bb', .string c] 99)).alloc (.cells #[.string a, .int .i64 r, .int .i64 bb, .string c] 99)).drew) = W at hM ⊢
  generalize w.heap.size + 1 + 1 + 1 = q3 at hM ⊢
  generalize w.heap.size + 1 + 1 = q2 at hM ⊢
  obtain ⟨h0, h1, h2, h3⟩ := hM.hs
  simp only at h0 h1 h2 h3
  go_wp2_with (first
   | (go_at_call 117; refine (HC.out _ hM.below).mono ?_; rintro e w1 ⟨rfl, hb1⟩; have hM1 := hM.later hb1; obtain ⟨y0, y1, y2⟩ := hM1.by_; simp only at y0 y1 y2)
   | (go_at_call 76; refine (HP.out _ hM1.below).mono ?_; rintro e w2 ⟨rfl, hb2⟩; have hM2 := hM1.later hb2; obtain ⟨x0, x1, x2⟩ := hM2.bx; obtain ⟨z0, z1, z2⟩ := hM2.by_; obtain ⟨k0, k1, k2, k3⟩ := hM2.hs; obtain ⟨l0, l1, l2, l3⟩ := hM2.ht; simp only at x0 x1 x2 z0 z1 z2 k0 k1 k2 k3 l0 l1 l2 l3; have g := HF.out _ hM2.below))
  go_ret
  exact ⟨rfl, hM2.below⟩
theorem move_full (x y : Pl) (c : ByteArray) (n : Int) (w : World) (s : Nat → Addr) (p b : Nat) (m : List Ln) (h : IsStock w p b m) (hk : KeyOk (x, c)) (hz : y.1.size ≤ maxLen) (hz' : c.size ≤ maxLen) (hs : Five w s) (t0 : takeE m (x, c) n = 0) (h0 : placeErr y = 0) (hxy : x ≠ y) (hf : 200 < linesA m (x, c) (y, c) n) :
  Calls Tryz.prog 100 #[.pointer (some ⟨p, 0, none⟩), agP x, agP y, .string c, .int .i64 n] w fun e w' => e = .returned (err (s 7)) ∧ Below w.heap.size w w' := by
 have HC : Hid (∀ W, Below w.heap.size w W → Calls Tryz.prog 117 #[.pointer (some ⟨p, 0, none⟩), agS (x, c), .int .i64 n] W fun e w' => e = .returned (errP s (takeE m (x, c) n)) ∧ Below W.heap.size W w') := fun W hb => checkTake_any (x, c) n W s p b m (h.all hb) hk (hs.below hb)
 have HP : Hid (∀ W, Below w.heap.size w W → Calls Tryz.prog 76 #[agP y] W fun e w' => e = .returned (errP s (placeErr y)) ∧ Below W.heap.size W w') := fun W hb => pcheck_any y W s hz (hs.two.below hb)
 have hk' : KeyOk (y, c) := keyOk_of h0 hz hz'
 have HL : Hid (∀ W, Below w.heap.size w W → Calls Tryz.prog 119 #[.pointer (some ⟨p, 0, none⟩), agS (x, c), agS (y, c), .int .i64 n] W fun e w' => e = .returned (.int .i64 (linesA m (x, c) (y, c) n)) ∧ Below W.heap.size W w') := fun W hb => linesAfter_any (x, c) (y, c) n W p b m (h.all hb) hk hk'
 have hG := Tryz.guardK
 have HF : Hid (∀ W, Below w.heap.size w W → W.cell? ⟨3, 0, none⟩ = some (err (s 7))) := fun W hb => (hs.below hb).full
 have hE := fun W => eqK_run x y W
 rw [t0, errP_zero] at HC
 rw [h0, errP_zero] at HP
 rw [decide_eq_false hxy] at hE
 generalize linesA m (x, c) (y, c) n = la at *
 clear hs hk hk' hz hz' h h0 t0 hxy
 obtain ⟨a, r, bb⟩ := x
 obtain ⟨a', r', bb'⟩ := y
 unfold agP agS at *
 simp only at *
 go_enter Tryz.func100, Tryz.ntmps100
 go_wp2
 go_region
 ·have hM := moveW1 w (a, r, bb) (a', r', bb') c
  simp only at hM
  generalize (((((w.alloc (.cells #[.string a, .int .i64 r, .int .i64 bb] 41)).alloc (.cells #[.string a', .int .i64 r', .int .i64 bb'] 41)).alloc (.cells #[.string a, .int .i64 r, .int .i64 bb, .string c] 99)).alloc (.cells #[.string a', .int .i64 r', .int .i64 bb', .string c] 99)).drew) = W at hM ⊢
  generalize w.heap.size + 1 + 1 + 1 = q3 at hM ⊢
  generalize w.heap.size + 1 + 1 = q2 at hM ⊢
  obtain ⟨h0, h1, h2, h3⟩ := hM.hs
  simp only at h0 h1 h2 h3
  go_wp2_with (first
   | (go_at_call 117; refine (HC.out _ hM.below).mono ?_; rintro e w1 ⟨rfl, hb1⟩; have hM1 := hM.later hb1; obtain ⟨y0, y1, y2⟩ := hM1.by_; simp only at y0 y1 y2)
   | (go_at_call 76; refine (HP.out _ hM1.below).mono ?_; rintro e w2 ⟨rfl, hb2⟩; have hM2 := hM1.later hb2; obtain ⟨x0, x1, x2⟩ := hM2.bx; obtain ⟨z0, z1, z2⟩ := hM2.by_; obtain ⟨k0, k1, k2, k3⟩ := hM2.hs; obtain ⟨l0, l1, l2, l3⟩ := hM2.ht; simp only at x0 x1 x2 z0 z1 z2 k0 k1 k2 k3 l0 l1 l2 l3)
   | (go_at_call 119; refine (HL.out _ hM2.below).mono ?_; rintro e w3 ⟨rfl, hb3⟩; have hM3 := hM2.later hb3; have g := HF.out _ hM3.below))
  go_ret
  exact ⟨rfl, hM3.below⟩
 ·have hM := moveW2 w (a, r, bb) (a', r', bb') c
  simp only at hM
  generalize (((((w.alloc (.cells #[.string a, .int .i64 r, .int .i64 bb] 41)).alloc (.cells #[.string a', .int .i64 r', .int .i64 bb'] 41)).alloc (.cells #[.string a', .int .i64 r', .int .i64 bb', .string c] 99)).alloc (.cells #[.string a, .int .i64 r, .int .i64 bb, .string c] 99)).drew) = W at hM ⊢
  generalize w.heap.size + 1 + 1 + 1 = q3 at hM ⊢
  generalize w.heap.size + 1 + 1 = q2 at hM ⊢
  obtain ⟨h0, h1, h2, h3⟩ := hM.hs
  simp only at h0 h1 h2 h3
  go_wp2_with (first
   | (go_at_call 117; refine (HC.out _ hM.below).mono ?_; rintro e w1 ⟨rfl, hb1⟩; have hM1 := hM.later hb1; obtain ⟨y0, y1, y2⟩ := hM1.by_; simp only at y0 y1 y2)
   | (go_at_call 76; refine (HP.out _ hM1.below).mono ?_; rintro e w2 ⟨rfl, hb2⟩; have hM2 := hM1.later hb2; obtain ⟨x0, x1, x2⟩ := hM2.bx; obtain ⟨z0, z1, z2⟩ := hM2.by_; obtain ⟨k0, k1, k2, k3⟩ := hM2.hs; obtain ⟨l0, l1, l2, l3⟩ := hM2.ht; simp only at x0 x1 x2 z0 z1 z2 k0 k1 k2 k3 l0 l1 l2 l3)
   | (go_at_call 119; refine (HL.out _ hM2.below).mono ?_; rintro e w3 ⟨rfl, hb3⟩; have hM3 := hM2.later hb3; have g := HF.out _ hM3.below))
  go_ret
  exact ⟨rfl, hM3.below⟩
theorem move_in (x y : Pl) (c : ByteArray) (n : Int) (w : World) (s : Nat → Addr) (p b : Nat) (m : List Ln) (h : IsStock w p b m) (hk : KeyOk (x, c)) (hz : y.1.size ≤ maxLen) (hz' : c.size ≤ maxLen) (hs : Five w s) (t0 : takeE m (x, c) n = 0) (h0 : placeErr y = 0) (hxy : x ≠ y) (hf : linesA m (x, c) (y, c) n ≤ 200) :
  Calls Tryz.prog 100 #[.pointer (some ⟨p, 0, none⟩), agP x, agP y, .string c, .int .i64 n] w fun e w' => e = .returned (.nilIface) ∧ IsStock w' p b (moveL m x y c n) ∧ w.grownBy w' (some b) := by
 have HC : Hid (∀ W, Below w.heap.size w W → Calls Tryz.prog 117 #[.pointer (some ⟨p, 0, none⟩), agS (x, c), .int .i64 n] W fun e w' => e = .returned (errP s (takeE m (x, c) n)) ∧ Below W.heap.size W w') := fun W hb => checkTake_any (x, c) n W s p b m (h.all hb) hk (hs.below hb)
 have HP : Hid (∀ W, Below w.heap.size w W → Calls Tryz.prog 76 #[agP y] W fun e w' => e = .returned (errP s (placeErr y)) ∧ Below W.heap.size W w') := fun W hb => pcheck_any y W s hz (hs.two.below hb)
 have hk' : KeyOk (y, c) := keyOk_of h0 hz hz'
 have HL : Hid (∀ W, Below w.heap.size w W → Calls Tryz.prog 119 #[.pointer (some ⟨p, 0, none⟩), agS (x, c), agS (y, c), .int .i64 n] W fun e w' => e = .returned (.int .i64 (linesA m (x, c) (y, c) n)) ∧ Below W.heap.size W w') := fun W hb => linesAfter_any (x, c) (y, c) n W p b m (h.all hb) hk hk'
 have hG := Tryz.guardK
 have hE := fun W => eqK_run x y W
 obtain ⟨t1, t2, t3⟩ := takeE_zero t0
 have hme : moveE m x y c n = 0 := by rw [moveE_full t0 h0 hxy, if_neg (by omega)]
 obtain ⟨_, p2⟩ := move_parts h.wf t0 h0 hxy
 have hv0 := h.wf.at_nonneg (y, c)
 have hv1 : atL m (y, c) ≤ 1099511627776 := Int.le_trans (h.wf.at_le (y, c)) (h.wf.most _)
 have HS : Hid (∀ W, Below w.heap.size w W → Calls Tryz.prog 118 #[.pointer (some ⟨p, 0, none⟩), agS (x, c), .int .i64 n] W fun e w' => e = .returned (.tuple #[]) ∧ IsStock w' p b (withL m (x, c) (atL m (x, c) - n)) ∧ W.grownBy w' (some b)) := fun W hb => less_any (x, c) n W p b m (h.all hb) hk t1 t3
 have hmv := h.wf.move x y c n
 rw [moveL_zero hme] at hmv ⊢
 have HA : Hid (∀ W q, IsStock W p b (withL m (x, c) (atL m (x, c) - n)) → BoxS q (y, c) W → q ≠ b → ∃ w5, W.grownBy w5 (some b) ∧ IsStock w5 p b (withL (withL m (x, c) (atL m (x, c) - n)) (y, c) (atL m (y, c) + n)) ∧ ∃ (st : Nat) (w4 : World), (Instr.mapEntry 95 (.map (some b)) (agS (y, c))).run Tryz.prog W = .ok (.tuple #[.int .i64 (atL m (y, c)), .int .i64 st]) w4 ∧ (Instr.lookup 95 (.map (some b)) (agS (y, c)) false).run Tryz.prog w4 = .ok (.int .i64 (atL m (y, c))) w4 ∧ BoxS q (y, c) w4 ∧ w4.cell? ⟨p, 0, none⟩ = some (.map (some b)) ∧ (Instr.entryStore 95 (.map (some b)) (.int .i64 st) (.int .i64 (atL m (y, c) + n))).run Tryz.prog w4 = .ok () w5) := fun W q hS hq hqb => by
  have := hS.add hk' (n := n) (by rw [p2]; exact hmv) (by rw [p2]; omega) hq hqb
  rw [p2] at this
  exact this
 have HV : Hid (∀ W, IsStock W p b (withL m (x, c) (atL m (x, c) - n)) → (Instr.lookup 95 (.map (some b)) (agS (y, c)) false).run Tryz.prog W = .ok (.int .i64 (atL m (y, c))) W) := fun W hS => by
  have := hS.look hk'
  rw [p2] at this
  exact this
 have Hb : Hid (b < w.heap.size) := h.lt.2
 rw [t0, errP_zero] at HC
 rw [h0, errP_zero] at HP
 rw [decide_eq_false hxy] at hE
 generalize linesA m (x, c) (y, c) n = la at *
 generalize withL (withL m (x, c) (atL m (x, c) - n)) (y, c) (atL m (y, c) + n) = m2 at *
 generalize withL m (x, c) (atL m (x, c) - n) = m1 at *
 generalize atL m (y, c) = v at *
 clear hs hk hk' hz hz' h h0 t0 hxy hme hmv p2 t3
 obtain ⟨a, r, bb⟩ := x
 obtain ⟨a', r', bb'⟩ := y
 unfold agP agS at *
 simp only at *
 go_enter Tryz.func100, Tryz.ntmps100
 go_wp2
 go_region
 ·have hM := moveW1 w (a, r, bb) (a', r', bb') c
  simp only at hM
  generalize (((((w.alloc (.cells #[.string a, .int .i64 r, .int .i64 bb] 41)).alloc (.cells #[.string a', .int .i64 r', .int .i64 bb'] 41)).alloc (.cells #[.string a, .int .i64 r, .int .i64 bb, .string c] 99)).alloc (.cells #[.string a', .int .i64 r', .int .i64 bb', .string c] 99)).drew) = W at hM ⊢
  generalize w.heap.size + 1 + 1 + 1 = q3 at hM ⊢
  generalize w.heap.size + 1 + 1 = q2 at hM ⊢
  obtain ⟨h0, h1, h2, h3⟩ := hM.hs
  simp only at h0 h1 h2 h3
  go_wp2_with (first
   | (go_at_call 117; refine (HC.out _ hM.below).mono ?_; rintro e w1 ⟨rfl, hb1⟩; have hM1 := hM.later hb1; obtain ⟨y0, y1, y2⟩ := hM1.by_; simp only at y0 y1 y2)
   | (go_at_call 76; refine (HP.out _ hM1.below).mono ?_; rintro e w2 ⟨rfl, hb2⟩; have hM2 := hM1.later hb2; obtain ⟨x0, x1, x2⟩ := hM2.bx; obtain ⟨z0, z1, z2⟩ := hM2.by_; obtain ⟨k0, k1, k2, k3⟩ := hM2.hs; obtain ⟨l0, l1, l2, l3⟩ := hM2.ht; simp only at x0 x1 x2 z0 z1 z2 k0 k1 k2 k3 l0 l1 l2 l3)
   | (go_at_call 119; refine (HL.out _ hM2.below).mono ?_; rintro e w3 ⟨rfl, hb3⟩; have hM3 := hM2.later hb3; obtain ⟨m0, m1', m2', m3⟩ := hM3.hs; simp only at m0 m1' m2' m3)
   | (go_at_call 118; refine (HS.out _ hM3.below).mono ?_; rintro e w4 ⟨rfl, hi4, hg4⟩))
  have hqb := hM3.ne Hb.out
  have hb4 := hM3.ht.of_block (hg4.block _ hM3.ht.lt (by simp; exact hqb))
  have hi5 : IsStock w4.drew p b m1 := ⟨hi4.cell, hi4.map, hi4.wf⟩
  have hc4 := hi4.cell
  have hl4 := HV.out w4.drew hi5
  obtain ⟨n0, n1, n2, n3⟩ := hb4
  simp only at n0 n1 n2 n3
  obtain ⟨w5, hg5, hi6, st, w6, e1, e2, ⟨o0, o1, o2, o3⟩, e4, e5⟩ := HA.out w4.drew _ hi5 ⟨n0, n1, n2, n3⟩ hqb
  simp only at o0 o1 o2 o3
  go_region
  go_wp2
  go_ret
  exact ⟨rfl, hi6, grown_trans (grown_trans (Below.grownAll hM3.below _) hg4) (grown_trans (grown_drewN _ 1 _) hg5)⟩
 ·have hM := moveW2 w (a, r, bb) (a', r', bb') c
  simp only at hM
  generalize (((((w.alloc (.cells #[.string a, .int .i64 r, .int .i64 bb] 41)).alloc (.cells #[.string a', .int .i64 r', .int .i64 bb'] 41)).alloc (.cells #[.string a', .int .i64 r', .int .i64 bb', .string c] 99)).alloc (.cells #[.string a, .int .i64 r, .int .i64 bb, .string c] 99)).drew) = W at hM ⊢
  generalize w.heap.size + 1 + 1 + 1 = q3 at hM ⊢
  generalize w.heap.size + 1 + 1 = q2 at hM ⊢
  obtain ⟨h0, h1, h2, h3⟩ := hM.hs
  simp only at h0 h1 h2 h3
  go_wp2_with (first
   | (go_at_call 117; refine (HC.out _ hM.below).mono ?_; rintro e w1 ⟨rfl, hb1⟩; have hM1 := hM.later hb1; obtain ⟨y0, y1, y2⟩ := hM1.by_; simp only at y0 y1 y2)
   | (go_at_call 76; refine (HP.out _ hM1.below).mono ?_; rintro e w2 ⟨rfl, hb2⟩; have hM2 := hM1.later hb2; obtain ⟨x0, x1, x2⟩ := hM2.bx; obtain ⟨z0, z1, z2⟩ := hM2.by_; obtain ⟨k0, k1, k2, k3⟩ := hM2.hs; obtain ⟨l0, l1, l2, l3⟩ := hM2.ht; simp only at x0 x1 x2 z0 z1 z2 k0 k1 k2 k3 l0 l1 l2 l3)
   | (go_at_call 119; refine (HL.out _ hM2.below).mono ?_; rintro e w3 ⟨rfl, hb3⟩; have hM3 := hM2.later hb3; obtain ⟨m0, m1', m2', m3⟩ := hM3.hs; simp only at m0 m1' m2' m3)
   | (go_at_call 118; refine (HS.out _ hM3.below).mono ?_; rintro e w4 ⟨rfl, hi4, hg4⟩))
  have hqb := hM3.ne Hb.out
  have hb4 := hM3.ht.of_block (hg4.block _ hM3.ht.lt (by simp; exact hqb))
  have hi5 : IsStock w4.drew p b m1 := ⟨hi4.cell, hi4.map, hi4.wf⟩
  have hc4 := hi4.cell
  have hl4 := HV.out w4.drew hi5
  obtain ⟨n0, n1, n2, n3⟩ := hb4
  simp only at n0 n1 n2 n3
  obtain ⟨w5, hg5, hi6, st, w6, e1, e2, ⟨o0, o1, o2, o3⟩, e4, e5⟩ := HA.out w4.drew _ hi5 ⟨n0, n1, n2, n3⟩ hqb
  simp only at o0 o1 o2 o3
  go_region
  go_wp2
  go_ret
  exact ⟨rfl, hi6, grown_trans (grown_trans (Below.grownAll hM3.below _) hg4) (grown_trans (grown_drewN _ 1 _) hg5)⟩
theorem move_any (x y : Pl) (c : ByteArray) (n : Int) (w : World) (s : Nat → Addr) (p b : Nat) (m : List Ln) (h : IsStock w p b m) (hk : KeyOk (x, c)) (hz : y.1.size ≤ maxLen) (hz' : c.size ≤ maxLen) (hs : Five w s) :
  Calls Tryz.prog 100 #[.pointer (some ⟨p, 0, none⟩), agP x, agP y, .string c, .int .i64 n] w fun e w' => e = .returned (errP s (moveE m x y c n)) ∧ IsStock w' p b (moveL m x y c n) ∧ w.grownBy w' (some b) := by
 by_cases t0 : takeE m (x, c) n = 0
 ·by_cases h0 : placeErr y = 0
  ·by_cases hxy : x = y
   ·have e := moveE_shape t0 h0 hxy
    rw [moveL_err (by rw [e]; decide), e]
    exact (move_shape x y c n w s p b m h hk hz hs t0 h0 hxy).mono fun e w' ⟨he, hb⟩ => ⟨he, h.all hb, Below.grownAll hb _⟩
   ·have e := moveE_full (m := m) t0 h0 hxy
    by_cases hf : 200 < linesA m (x, c) (y, c) n
    ·rw [if_pos hf] at e
     rw [moveL_err (by rw [e]; decide), e]
     exact (move_full x y c n w s p b m h hk hz hz' hs t0 h0 hxy hf).mono fun e w' ⟨he, hb⟩ => ⟨he, h.all hb, Below.grownAll hb _⟩
    ·rw [if_neg hf] at e
     rw [e]
     exact move_in x y c n w s p b m h hk hz hz' hs t0 h0 hxy (by omega)
  ·have e := moveE_place (m := m) t0 h0
   rw [moveL_err (by rw [e]; exact h0), e]
   exact (move_place x y c n w s p b m h hk hz hs t0 h0).mono fun e w' ⟨he, hb⟩ => ⟨he, h.all hb, Below.grownAll hb _⟩
 ·have e := moveE_take (y := y) t0
  rw [moveL_err (by rw [e]; exact t0), e]
  exact (move_take x y c n w s p b m h hk hs t0).mono fun e w' ⟨he, hb⟩ => ⟨he, h.all hb, Below.grownAll hb _⟩
end Go.Proofs.YtppodkkefegbkaaGreatDoor
