/-
 What Put answers and leaves where the place, the lot and the number are well: n pieces more, or ErrFull and no turn.
-/
import Derived.Test.YtppodkkefegbkaaGreatDoorJz7
import Derived.Laws.StructEq
import Derived.Test.YtppodkkefegbkaaGreatDoorJz5
import Derived.Lib.SmallJoins
import Derived.BigQuiet
import Derived.Shelf.SlSortCmp.WholeK
set_option maxRecDepth 100000
set_option maxHeartbeats 16000000
namespace Go.Proofs.YtppodkkefegbkaaGreatDoor
open Go.RowKit Go.Lib Go.Sort
open Go.Maps (Keyed)
theorem keyOk_of {x : Pl} {c : ByteArray} (h0 : placeErr x = 0) (hz : x.1.size ≤ maxLen) (hz' : c.size ≤ maxLen) : KeyOk (x, c) := by
 obtain ⟨_, a1, a2, a3, a4⟩ := okP_bounds ((okP_err x).2 h0)
 obtain ⟨a, r, bb⟩ := x
 simp only at a1 a2 a3 a4
 exact ⟨hz, WalkArith.wf_i64 (show _ ≤ r ∧ r ≤ _ by omega), WalkArith.wf_i64 (show _ ≤ bb ∧ bb ≤ _ by omega), hz'⟩
theorem put_in (x : Pl) (c : ByteArray) (n : Int) (w : World) (s : Nat → Addr) (p b : Nat) (m : List Ln) (h : IsStock w p b m) (hz : x.1.size ≤ maxLen) (hz' : c.size ≤ maxLen) (hs : Five w s) (h0 : placeErr x = 0) (h1 : isName c.data.toList = true) (h2 : numW n = true) (h3 : ofL m c + n ≤ 1099511627776) :
  Calls Tryz.prog 98 #[.pointer (some ⟨p, 0, none⟩), agP x, .string c, .int .i64 n] w fun e w' => e = .returned (errP s (putE m x c n)) ∧ IsStock w' p b (putL m x c n) ∧ w.grownBy w' (some b) := by
 have hB := boxP_below w x
 have hbx : BoxAt w.heap.size x (boxP w x) := BoxAt.new w x _ _ rfl
 have hC := pcheck_any x _ s hz (hs.two.below hB)
 rw [h0, errP_zero] at hC
 have hN : ∀ w, Calls Tryz.prog 77 #[.string c] w _ := fun w => name_any c w hz'
 rw [h1] at hN
 have hW := fun w => numWell_any n w
 rw [h2] at hW
 have hO := fun w1 (hb : Below w.heap.size w w1) => of_any c w1 p b m (h.all hb)
 obtain ⟨o1, o2⟩ := h.wf.of_bound c
 obtain ⟨n1, n2⟩ := (numW_iff n).1 h2
 have hk : KeyOk (x, c) := keyOk_of h0 hz hz'
 have HE := putE_full (m := m) (n := n) h0 h1 h2 h3
 have hv0 := h.wf.at_nonneg (x, c)
 have hv1 : atL m (x, c) ≤ 1099511627776 := Int.le_trans (h.wf.at_le (x, c)) (h.wf.most _)
 have HF : Hid (∀ w4, Below w.heap.size w w4 → IsStock w4 p b m) := fun w4 hb => h.all hb
 have HV : Hid (∀ w4, Below w.heap.size w w4 → Five w4 s) := fun w4 hb => hs.below hb
 have hpb : Hid (p ≠ b) := h.ne
 have hlb : Hid (b < w.heap.size) := h.lt.2
 have HP := h.wf.put x c n
 have HK : Hid (KeyOk (x, c)) := hk
 have HA : Hid (atL m (x, c) + n ≤ 9223372036854775807) := by have := h.wf.at_le (x, c); show _ ≤ _; omega
 clear hs hz hz' h0 h1 h hk
 generalize hO' : ofL m c = O at *
 have HO' : Hid (ofL m c = O) := hO'
 clear hO'
 obtain ⟨a, r, bb⟩ := x
 unfold agP boxP at *
 simp only at *
 have HC : Hid (Calls Tryz.prog 76 _ _ _) := hC
 have HB : Hid (Below _ _ _) := hB
 have HE' : Hid (putE m (a, r, bb) c n = _) := HE
 have HP' : Hid (Wf _) := HP
 clear hC hB HE HP
 obtain ⟨v, hv⟩ : ∃ v, v = atL m ((a, r, bb), c) := ⟨_, rfl⟩
 rw [← hv] at hv0 hv1
 have Hv : Hid (v = atL m ((a, r, bb), c)) := hv
 clear hv
 go_enter Tryz.func98, Tryz.ntmps98
 go_wp2_with (first
  | (go_at_call 76; refine HC.out.mono ?_; rintro e w1 ⟨rfl, hb⟩; have hb1 : Below w.heap.size w w1 := HB.out.trans (hb.mono HB.out.size); have hbx1 := hbx.below hb)
  | (go_at_call 77; refine (hN _).mono ?_; rintro e w2 ⟨rfl, rfl⟩)
  | (go_at_call 116; refine (hW _).mono ?_; rintro e w3 ⟨rfl, rfl⟩)
  | (go_at_call 70; refine (hO _ hb1).mono ?_; rintro e w4 ⟨rfl, hb4⟩; obtain ⟨y0, y1, y2⟩ := hbx1.below hb4; simp only at y0 y1 y2; have hb5 : Below w.heap.size w w4 := hb1.trans (hb4.mono hb1.size)))
 have hbS : BoxS w4.heap.size ((a, r, bb), c) (w4.alloc (.cells #[.string a, .int .i64 r, .int .i64 bb, .string c] 99)) := BoxS.new w4 ((a, r, bb), c) _ _ rfl
 have hbW : Below w.heap.size w (w4.alloc (.cells #[.string a, .int .i64 r, .int .i64 bb, .string c] 99)) := hb5.alloc hb5.size _
 have hqb : w4.heap.size ≠ b := fun e => by have := hlb.out; have := hb5.size; omega
 clear y0 y1 y2 hb5 hb4 hb1 hb hbx1 hbx hO hN hW HB HC
 generalize w4.alloc (.cells #[.string a, .int .i64 r, .int .i64 bb, .string c] 99) = W at *
 generalize w4.heap.size = q at *
 have hSt := HF.out W hbW
 have hl : ∀ k, (Instr.lookup 95 (.map (some b)) (.agg #[.string a, .int .i64 r, .int .i64 bb, .string c]) false).run Tryz.prog (W.drewN k) = .ok (.int .i64 v) (W.drewN k) := fun k => by rw [Hv.out]; exact hSt.looks HK.out k
 obtain ⟨ln, hes⟩ : ∃ ln : Nat, ln = m.length := ⟨_, rfl⟩
 have ho : ∀ k, (Builtin.len_ #[95] 3 #[.map (some b)]).run Tryz.prog (W.drewN k) = .ok (.int .i64 ln) (W.drewN k) := fun k => by
  have := (hSt.drew k).map.len Tryz.underlying95 3
  rw [List.length_map, ← hes] at this
  exact this
 have hlen := hSt.wf.len
 have hc := hSt.cell
 have HS : Hid (IsStock W p b m) := hSt
 have HL : Hid (ln = m.length) := hes
 have hg := (HV.out W hbW).full
 have HbW : Hid (Below w.heap.size w W) := hbW
 have hl200 : ln ≤ 200 := by rw [hes]; exact hlen
 obtain ⟨x0, x1, x2, x3⟩ := hbS
 have HBS : Hid (BoxS q ((a, r, bb), c) W) := ⟨x0, x1, x2, x3⟩
 simp only at x0 x1 x2 x3
 clear hSt hbW hlen hes
 by_cases hf : v = 0 ∧ 200 ≤ ln
 ·obtain ⟨f1, f2⟩ := hf
  have e1 : (v == 0) = true := by simpa using f1
  have hd : decide (200 ≤ ln) = true := decide_eq_true f2
  have HZ : Hid (putE m (a, r, bb) c n = 8) := by
   show _ = _
   rw [HE'.out, if_pos ⟨by rw [← Hv.out]; exact f1, by rw [← HL.out]; exact f2⟩]
  clear f1
  go_quiet (fail)
  go_wp2
  go_ret
  refine ⟨by rw [HZ.out]; rfl, ?_, grown_trans (Below.grownAll HbW.out _) (grown_drewN _ _ _)⟩
  rw [putL_err (by rw [HZ.out]; decide)]
  exact HS.out.drew _
 ·have HZ : Hid (putE m (a, r, bb) c n = 0) := by
   show _ = _
   rw [HE'.out, if_neg]
   rintro ⟨f1, f2⟩
   exact hf ⟨by rw [Hv.out]; exact f1, by rw [HL.out]; exact f2⟩
  have HQ : Hid (∀ k, ∃ w3, w.grownBy w3 (some b) ∧ IsStock w3 p b (putL m (a, r, bb) c n) ∧ ∃ (st : Nat) (w2 : World), (Instr.mapEntry 95 (.map (some b)) (.agg #[.string a, .int .i64 r, .int .i64 bb, .string c])).run Tryz.prog (W.drewN (k + 1)) = .ok (.tuple #[.int .i64 v, .int .i64 st]) w2 ∧ (Instr.lookup 95 (.map (some b)) (.agg #[.string a, .int .i64 r, .int .i64 bb, .string c]) false).run Tryz.prog w2 = .ok (.int .i64 v) w2 ∧ BoxS q ((a, r, bb), c) w2 ∧ w2.cell? ⟨p, 0, none⟩ = some (.map (some b)) ∧
    (Instr.entryStore 95 (.map (some b)) (.int .i64 st) (.int .i64 (v + n))).run Tryz.prog w2 = .ok () w3) := fun k => by
   have hS : IsStock (W.drewN (k + 1)) p b m := ⟨HS.out.cell, HS.out.map, HS.out.wf⟩
   obtain ⟨st, w2, g1, g2, g3, g4⟩ := hS.entry HK.out
   rw [← Hv.out] at g1 g2
   obtain ⟨w3, g5, g6, g7⟩ := g4 (v + n)
   have hne : v + n ≠ 0 := by omega
   refine ⟨w3, grown_trans (grown_trans (Below.grownAll HbW.out _) (grown_drewN _ (k + 1) _)) g7.grown, ⟨(turned_cell (p := ⟨p, 0, none⟩) g7 hpb.out).trans hS.cell, ?_, HP'.out⟩, st, w2, g1, g2, BoxS.of_block (W := W.drewN (k + 1)) (HBS.out.of_block rfl) (turned_block g3 hqb), (turned_cell (p := ⟨p, 0, none⟩) g3 hpb.out).trans hS.cell, g5⟩
   rw [putL_zero HZ.out, ← Hv.out]
   exact g6.perm ((withL_perm hne).symm.map entN)
  have hn9 := HA.out
  rw [← Hv.out] at hn9
  by_cases f1 : v = 0
  ·have e1 : (v == 0) = true := by simpa using f1
   have f2 : ln < 200 := Nat.lt_of_not_le fun f2 => hf ⟨f1, f2⟩
   have hd : decide (200 ≤ ln) = false := decide_eq_false (by omega)
   clear hf f1
   go_quiet (fail)
   go_wp2
   obtain ⟨w3, hg3, hS3, st, w2, g1, g2, ⟨z0, z1, z2, z3⟩, g4, g5⟩ := HQ.out nq
   simp only at z0 z1 z2 z3
   go_region
   go_wp2
   go_ret
   exact ⟨by rw [HZ.out]; rfl, hS3, hg3⟩
  ·have e1 : (v == 0) = false := by simpa using f1
   clear hf f1
   go_quiet (fail)
   go_wp2
   obtain ⟨w3, hg3, hS3, st, w2, g1, g2, ⟨z0, z1, z2, z3⟩, g4, g5⟩ := HQ.out nq
   simp only at z0 z1 z2 z3
   go_region
   go_wp2
   go_ret
   exact ⟨by rw [HZ.out]; rfl, hS3, hg3⟩
theorem put_any (x : Pl) (c : ByteArray) (n : Int) (w : World) (s : Nat → Addr) (p b : Nat) (m : List Ln) (h : IsStock w p b m) (hz : x.1.size ≤ maxLen) (hz' : c.size ≤ maxLen) (hs : Five w s) :
  Calls Tryz.prog 98 #[.pointer (some ⟨p, 0, none⟩), agP x, .string c, .int .i64 n] w fun e w' => e = .returned (errP s (putE m x c n)) ∧ IsStock w' p b (putL m x c n) ∧ w.grownBy w' (some b) := by
 by_cases h0 : placeErr x = 0
 ·cases h1 : isName c.data.toList with
  | false =>
   have e := putE_name (m := m) (n := n) h0 h1
   rw [putL_err (by rw [e]; decide), e]
   exact (put_name x c n w s p hz hz' hs h0 h1).mono fun e w' ⟨he, hb⟩ => ⟨he, h.all hb, Below.grownAll hb _⟩
  | true =>
   cases h2 : numW n with
   | false =>
    have e := putE_num (m := m) (n := n) h0 h1 (Or.inl h2)
    rw [putL_err (by rw [e]; decide), e]
    exact (put_num x c n w s p b m h hz hz' hs h0 h1 (Or.inl h2)).mono fun e w' ⟨he, hb⟩ => ⟨he, h.all hb, Below.grownAll hb _⟩
   | true =>
    by_cases h3 : ofL m c + n ≤ 1099511627776
    ·exact put_in x c n w s p b m h hz hz' hs h0 h1 h2 h3
    ·have h4 : 1099511627776 < ofL m c + n := by omega
     have e := putE_num (m := m) (n := n) h0 h1 (Or.inr h4)
     rw [putL_err (by rw [e]; decide), e]
     exact (put_num x c n w s p b m h hz hz' hs h0 h1 (Or.inr ⟨h2, h4⟩)).mono fun e w' ⟨he, hb⟩ => ⟨he, h.all hb, Below.grownAll hb _⟩
 ·have e := putE_place (m := m) (c := c) (n := n) h0
  rw [putL_err (by rw [e]; exact h0), e]
  exact (put_place x c n w s p hz hs h0).mono fun e w' ⟨he, hb⟩ => ⟨he, h.all hb, Below.grownAll hb _⟩
theorem Tryz.guardK : Tryz.prog.eqGuardType Tryz.prog.depth 41 = false := by kernel_rfl
theorem eqK_run (x y : Pl) (w : World) : (Op.equalIn 10000 41 (.agg #[.string x.1, .int .i64 x.2.1, .int .i64 x.2.2]) (.agg #[.string y.1, .int .i64 y.2.1, .int .i64 y.2.2])).run Tryz.prog w = .ok (decide (x = y)) w := by
 obtain ⟨a, r, b⟩ := x
 obtain ⟨a', r', b'⟩ := y
 have u3 := Tryz.underlying3
 have a3 := Tryz.isAgg3
 have z3 := Tryz.sizeOf3
 have u9 := Tryz.underlying9
 have a9 := Tryz.isAgg9
 have z9 := Tryz.sizeOf9
 have hS : Tryz.prog.underlying 41 = some (.struct (Tryz.prog.fieldsOf 41)) := by kernel_rfl
 have hp : Tryz.prog.stoodInHeld 41 = false := by kernel_rfl
 rw [show (10000 : Nat) = 9999 + 1 from rfl, run_equalIn_agg w 9999 41 _ _ hS hp]
 simp only [Program.fieldsOf, Tryz.underlying41]
 have e3 := same_eq a a'
 go_simp
 by_cases h1 : a = a' <;> by_cases h2 : r = r' <;> by_cases h3 : b = b' <;> simp [h1, h2, h3]
theorem moveE_take {m : List Ln} {x y : Pl} {c : ByteArray} {n : Int} (h : takeE m (x, c) n ≠ 0) : moveE m x y c n = takeE m (x, c) n := by unfold moveE; rw [if_neg h]
theorem moveE_place {m : List Ln} {x y : Pl} {c : ByteArray} {n : Int} (h : takeE m (x, c) n = 0) (h1 : placeErr y ≠ 0) : moveE m x y c n = placeErr y := by unfold moveE; rw [if_pos h, if_neg h1]
theorem moveE_shape {m : List Ln} {x y : Pl} {c : ByteArray} {n : Int} (h : takeE m (x, c) n = 0) (h1 : placeErr y = 0) (h2 : x = y) : moveE m x y c n = 3 := by unfold moveE; rw [if_pos h, if_pos h1, if_pos h2]
theorem moveE_full {m : List Ln} {x y : Pl} {c : ByteArray} {n : Int} (h : takeE m (x, c) n = 0) (h1 : placeErr y = 0) (h2 : x ≠ y) : moveE m x y c n = if 200 < linesA m (x, c) (y, c) n then 8 else 0 := by unfold moveE; rw [if_pos h, if_pos h1, if_neg h2]
theorem moveL_err {m : List Ln} {x y : Pl} {c : ByteArray} {n : Int} (h : moveE m x y c n ≠ 0) : moveL m x y c n = m := by unfold moveL; rw [if_neg h]
theorem moveL_zero {m : List Ln} {x y : Pl} {c : ByteArray} {n : Int} (h : moveE m x y c n = 0) : moveL m x y c n = withL (withL m (x, c) (atL m (x, c) - n)) (y, c) (atL m (y, c) + n) := by unfold moveL; rw [if_pos h]
structure MoveW (w W : World) (x y : Pl) (c : ByteArray) (q q' : Nat) : Prop where
 below : Below w.heap.size w W
 bx : BoxAt w.heap.size x W
 by_ : BoxAt (w.heap.size + 1) y W
 hs : BoxS q (x, c) W
 ht : BoxS q' (y, c) W
 hq' : w.heap.size ≤ q'
theorem MoveW.later {w W W' : World} {x y : Pl} {c : ByteArray} {q q' : Nat} (h : MoveW w W x y c q q') (hb : Below W.heap.size W W') : MoveW w W' x y c q q' :=
 ⟨h.below.trans (hb.mono h.below.size), h.bx.below hb, h.by_.below hb, h.hs.below hb, h.ht.below hb, h.hq'⟩
theorem MoveW.ne {w W : World} {x y : Pl} {c : ByteArray} {q q' b : Nat} (h : MoveW w W x y c q q') (hb : b < w.heap.size) : q' ≠ b := fun e => by have := h.hq'; omega
theorem moveW0 (w : World) (x y : Pl) : Below w.heap.size w (boxTwo w x y) ∧ BoxAt w.heap.size x (boxTwo w x y) ∧ BoxAt (w.heap.size + 1) y (boxTwo w x y) ∧ (boxTwo w x y).heap.size = w.heap.size + 1 + 1 := ⟨boxTwo_below w x y, boxTwo_first w x y, boxTwo_second w x y, by simp⟩
theorem moveW_any (w W : World) (x y : Pl) (k k' : Sp) (hw : Below w.heap.size w W ∧ BoxAt w.heap.size x W ∧ BoxAt (w.heap.size + 1) y W ∧ W.heap.size = w.heap.size + 1 + 1) :
  Below w.heap.size w (boxSS W k k').drew ∧ BoxAt w.heap.size x (boxSS W k k').drew ∧ BoxAt (w.heap.size + 1) y (boxSS W k k').drew ∧ BoxS (w.heap.size + 1 + 1) k (boxSS W k k').drew ∧ BoxS (w.heap.size + 1 + 1 + 1) k' (boxSS W k k').drew := by
 obtain ⟨h1, h2, h3, h4⟩ := hw
 have hB : Below W.heap.size W (boxSS W k k').drew := (((Below.refl _ W).alloc (Nat.le_refl _) _).alloc (by simp) _).drew
 refine ⟨h1.trans (hB.mono h1.size), h2.below hB, h3.below hB, ?_, ?_⟩
 ·exact ((BoxS.new W k _ _ h4.symm).below ((Below.refl _ _).alloc (Nat.le_refl _) _)).of_block rfl
 ·exact (BoxS.new _ k' _ _ (by simp [h4])).of_block rfl
theorem moveW1 (w : World) (x y : Pl) (c : ByteArray) : MoveW w (((((w.alloc (.cells #[.string x.1, .int .i64 x.2.1, .int .i64 x.2.2] 41)).alloc (.cells #[.string y.1, .int .i64 y.2.1, .int .i64 y.2.2] 41)).alloc (.cells #[.string x.1, .int .i64 x.2.1, .int .i64 x.2.2, .string c] 99)).alloc (.cells #[.string y.1, .int .i64 y.2.1, .int .i64 y.2.2, .string c] 99)).drew) x y c (w.heap.size + 1 + 1) (w.heap.size + 1 + 1 + 1) := by
 obtain ⟨h1, h2, h3, h4, h5⟩ := moveW_any w _ x y (x, c) (y, c) (moveW0 w x y)
 exact ⟨h1, h2, h3, h4, h5, by omega⟩
theorem moveW2 (w : World) (x y : Pl) (c : ByteArray) : MoveW w (((((w.alloc (.cells #[.string x.1, .int .i64 x.2.1, .int .i64 x.2.2] 41)).alloc (.cells #[.string y.1, .int .i64 y.2.1, .int .i64 y.2.2] 41)).alloc (.cells #[.string y.1, .int .i64 y.2.1, .int .i64 y.2.2, .string c] 99)).alloc (.cells #[.string x.1, .int .i64 x.2.1, .int .i64 x.2.2, .string c] 99)).drew) x y c (w.heap.size + 1 + 1 + 1) (w.heap.size + 1 + 1) := by
 obtain ⟨h1, h2, h3, h4, h5⟩ := moveW_any w _ x y (y, c) (x, c) (moveW0 w x y)
 exact ⟨h1, h2, h3, h5, h4, by omega⟩
theorem IsStock.add {w : World} {p b : Nat} {m : List Ln} (h : IsStock w p b m) {k : Sp} (hk : KeyOk k) {n : Int} (hw : Wf (withL m k (atL m k + n))) (hn : atL m k + n ≠ 0) {q : Nat} (hq : BoxS q k w) (hqb : q ≠ b) :
  ∃ w5, w.grownBy w5 (some b) ∧ IsStock w5 p b (withL m k (atL m k + n)) ∧ ∃ (st : Nat) (w4 : World), (Instr.mapEntry 95 (.map (some b)) (agS k)).run Tryz.prog w = .ok (.tuple #[.int .i64 (atL m k), .int .i64 st]) w4 ∧ (Instr.lookup 95 (.map (some b)) (agS k) false).run Tryz.prog w4 = .ok (.int .i64 (atL m k)) w4 ∧ BoxS q k w4 ∧ w4.cell? ⟨p, 0, none⟩ = some (.map (some b)) ∧
   (Instr.entryStore 95 (.map (some b)) (.int .i64 st) (.int .i64 (atL m k + n))).run Tryz.prog w4 = .ok () w5 := by
 obtain ⟨st, w4, g1, g2, g3, g4⟩ := h.entry hk
 obtain ⟨w5, g5, g6, g7⟩ := g4 (atL m k + n)
 have hpb := h.ne
 exact ⟨w5, g7.grown, ⟨(turned_cell (p := ⟨p, 0, none⟩) g7 hpb).trans h.cell, g6.perm ((withL_perm hn).symm.map entN), hw⟩, st, w4, g1, g2, hq.of_block (turned_block g3 hqb), (turned_cell (p := ⟨p, 0, none⟩) g3 hpb).trans h.cell, g5⟩
theorem move_take (x y : Pl) (c : ByteArray) (n : Int) (w : World) (s : Nat → Addr) (p b : Nat) (m : List Ln) (h : IsStock w p b m) (hk : KeyOk (x, c)) (hs : Five w s) (h0 : takeE m (x, c) n ≠ 0) :
  Calls Tryz.prog 100 #[.pointer (some ⟨p, 0, none⟩), agP x, agP y, .string c, .int .i64 n] w fun e w' => e = .returned (errP s (takeE m (x, c) n)) ∧ Below w.heap.size w w' := by
 have HC : Hid (∀ W, Below w.heap.size w W → Calls Tryz.prog 117 #[.pointer (some ⟨p, 0, none⟩), agS (x, c), .int .i64 n] W fun e w' => e = .returned (errP s (takeE m (x, c) n)) ∧ Below W.heap.size W w') := fun W hb => checkTake_any (x, c) n W s p b m (h.all hb) hk (hs.below hb)
 rw [errP_pos s h0] at HC ⊢
 generalize s (takeE m (x, c) n - 1) = ad at *
 clear hs hk h h0
 obtain ⟨a, r, bb⟩ := x
 obtain ⟨a', r', bb'⟩ := y
 unfold agP agS at *
 simp only at *
 go_enter Tryz.func100, Tryz.ntmps100
 go_wp2
 go_region
 ·have hM := moveW1 w (a, r, bb) (a', r', bb') c
  simp only at hM
  generalize (((((w.alloc (.cells #[.string a, .int .i64 r, .int .i64 bb] 41)).alloc (.cells #[.string a', .int .i64 r', .int .i64 bb'] 41)).alloc (.cells #[.string a, .int .i64 r, .int .i64 bb, .string c] 99)).alloc (.cells #[.string a', .int .i64 r', .int .i64 bb', .string c] 99)).drew) = W at hM ⊢
  generalize w.heap.size + 1 + 1 + 1 = q3 at hM ⊢
  generalize w.heap.size + 1 + 1 = q2 at hM ⊢
  obtain ⟨h0, h1, h2, h3⟩ := hM.hs
  simp only at h0 h1 h2 h3
  go_wp2_with (go_at_call 117; refine (HC.out _ hM.below).mono ?_; rintro e w1 ⟨rfl, hb1⟩)
  go_ret
  exact ⟨rfl, (hM.later hb1).below⟩
 ·have hM := moveW2 w (a, r, bb) (a', r', bb') c
  simp only at hM
  generalize (((((w.alloc (.cells #[.string a, .int .i64 r, .int .i64 bb] 41)).alloc (.cells #[.string a', .int .i64 r', .int .i64 bb'] 41)).alloc (.cells #[.string a', .int .i64 r', .int .i64 bb', .string c] 99)).alloc (.cells #[.string a, .int .i64 r, .int .i64 bb, .string c] 99)).drew) = W at hM ⊢
  generalize w.heap.size + 1 + 1 + 1 = q3 at hM ⊢
  generalize w.heap.size + 1 + 1 = q2 at hM ⊢
  obtain ⟨h0, h1, h2, h3⟩ := hM.hs
  simp only at h0 h1 h2 h3
  go_wp2_with (go_at_call 117; refine (HC.out _ hM.below).mono ?_; rintro e w1 ⟨rfl, hb1⟩)
  go_ret
  exact ⟨rfl, (hM.later hb1).below⟩
theorem move_place (x y : Pl) (c : ByteArray) (n : Int) (w : World) (s : Nat → Addr) (p b : Nat) (m : List Ln) (h : IsStock w p b m) (hk : KeyOk (x, c)) (hz : y.1.size ≤ maxLen) (hs : Five w s) (t0 : takeE m (x, c) n = 0) (h0 : placeErr y ≠ 0) :
  Calls Tryz.prog 100 #[.pointer (some ⟨p, 0, none⟩), agP x, agP y, .string c, .int .i64 n] w fun e w' => e = .returned (errP s (placeErr y)) ∧ Below w.heap.size w w' := by
 have HC : Hid (∀ W, Below w.heap.size w W → Calls Tryz.prog 117 #[.pointer (some ⟨p, 0, none⟩), agS (x, c), .int .i64 n] W fun e w' => e = .returned (errP s (takeE m (x, c) n)) ∧ Below W.heap.size W w') := fun W hb => checkTake_any (x, c) n W s p b m (h.all hb) hk (hs.below hb)
 have HP : Hid (∀ W, Below w.heap.size w W → Calls Tryz.prog 76 #[agP y] W fun e w' => e = .returned (errP s (placeErr y)) ∧ Below W.heap.size W w') := fun W hb => pcheck_any y W s hz (hs.two.below hb)
 rw [t0, errP_zero] at HC
 rw [errP_pos s h0] at HP ⊢
 generalize s (placeErr y - 1) = ad at *
 clear hs hk hz h h0 t0
 obtain ⟨a, r, bb⟩ := x
 obtain ⟨a', r', bb'⟩ := y
 unfold agP agS at *
 simp only at *
 go_enter Tryz.func100, Tryz.ntmps100
 go_wp2
 go_region
 ·have hM := moveW1 w (a, r, bb) (a', r', bb') c
  simp only at hM
  generalize (((((w.alloc (.cells #[.string a, .int .i64 r, .int .i64 bb] 41)).alloc (.cells #[.string a', .int .i64 r', .int .i64 bb'] 41)).alloc (.cells #[.string a, .int .i64 r, .int .i64 bb, .string c] 99)).alloc (.cells #[.string a', .int .i64 r', .int .i64 bb', .string c] 99)).drew) = W at hM ⊢
  generalize w.heap.size + 1 + 1 + 1 = q3 at hM ⊢
  generalize w.heap.size + 1 + 1 = q2 at hM ⊢
  obtain ⟨h0, h1, h2, h3⟩ := hM.hs
  simp only at h0 h1 h2 h3
  go_wp2_with (first
   | (go_at_call 117; refine (HC.out _ hM.below).mono ?_; rintro e w1 ⟨rfl, hb1⟩; have hM1 := hM.later hb1; obtain ⟨y0, y1, y2⟩ := hM1.by_; simp only at y0 y1 y2)
   | (go_at_call 76; refine (HP.out _ hM1.below).mono ?_; rintro e w2 ⟨rfl, hb2⟩))
  go_ret
  exact ⟨rfl, (hM1.later hb2).below⟩
 ·have hM := moveW2 w (a, r, bb) (a', r', bb') c
  simp only at hM
  generalize (((((w.alloc (.cells #[.string a, .int .i64 r, .int .i64 bb] 41)).alloc (.cells #[.string a', .int .i64 r', .int .i64 bb'] 41)).alloc (.cells #[.string a', .int .i64 r', .int .i64 bb', .string c] 99)).alloc (.cells #[.string a, .int .i64 r, .int .i64 bb, .string c] 99)).drew) = W at hM ⊢
  generalize w.heap.size + 1 + 1 + 1 = q3 at hM ⊢
  generalize w.heap.size + 1 + 1 = q2 at hM ⊢
  obtain ⟨h0, h1, h2, h3⟩ := hM.hs
  simp only at h0 h1 h2 h3
  go_wp2_with (first
   | (go_at_call 117; refine (HC.out _ hM.below).mono ?_; rintro e w1 ⟨rfl, hb1⟩; have hM1 := hM.later hb1; obtain ⟨y0, y1, y2⟩ := hM1.by_; simp only at y0 y1 y2)
   | (go_at_call 76; refine (HP.out _ hM1.below).mono ?_; rintro e w2 ⟨rfl, hb2⟩))
  go_ret
  exact ⟨rfl, (hM1.later hb2).below⟩
theorem move_shape (x y : Pl) (c : ByteArray) (n : Int) (w : World) (s : Nat → Addr) (p b : Nat) (m : List Ln) (h : IsStock w p b m) (hk : KeyOk (x, c)) (hz : y.1.size ≤ maxLen) (hs : Five w s) (t0 : takeE m (x, c) n = 0) (h0 : placeErr y = 0) (hxy : x = y) :
  Calls Tryz.prog 100 #[.pointer (some ⟨p, 0, none⟩), agP x, agP y, .string c, .int .i64 n] w fun e w' => e = .returned (err (s 2)) ∧ Below w.heap.size w w' := by
 have HC : Hid (∀ W, Below w.heap.size w W → Calls Tryz.prog 117 #[.pointer (some ⟨p, 0, none⟩), agS (x, c), .int .i64 n] W fun e w' => e = .returned (errP s (takeE m (x, c) n)) ∧ Below W.heap.size W w') := fun W hb => checkTake_any (x, c) n W s p b m (h.all hb) hk (hs.below hb)
 have HP : Hid (∀ W, Below w.heap.size w W → Calls Tryz.prog 76 #[agP y] W fun e w' => e = .returned (errP s (placeErr y)) ∧ Below W.heap.size W w') := fun W hb => pcheck_any y W s hz (hs.two.below hb)
 have hG := Tryz.guardK
 have HF : Hid (∀ W, Below w.heap.size w W → W.cell? ⟨0, 0, none⟩ = some (err (s 2))) := fun W hb => (hs.below hb).shape
 have hE := fun W => eqK_run x y W
 rw [t0, errP_zero] at HC
 rw [h0, errP_zero] at HP
 rw [decide_eq_true hxy] at hE
 clear hs hk hz h h0 t0 hxy
 obtain ⟨a, r, bb⟩ := x
 obtain ⟨a', r', bb'⟩ := y
 unfold agP agS at *
 simp only at *
 go_enter Tryz.func100, Tryz.ntmps100
 go_wp2
 go_region
 ·have hM := moveW1 w (a, r, bb) (a', r', bb') c
  simp only at hM
  generalize (((((w.alloc (.cells #[.string a, .int .i64 r, .int .i64 bb] 41)).alloc (.cells #[.string a', .int .i64 r', .int .i64 bb'] 41)).alloc (.cells #[.string a, .int .i64 r, .int .i64 bb, .string c] 99)).alloc (.cells #[.string a', .int .i64 r', .int .i64 bb', .string c] 99)).drew) = W at hM ⊢
  generalize w.heap.size + 1 + 1 + 1 = q3 at hM ⊢
  generalize w.heap.size + 1 + 1 = q2 at hM ⊢
  obtain ⟨h0, h1, h2, h3⟩ := hM.hs
  simp only at h0 h1 h2 h3
  go_wp2_with (first
   | (go_at_call 117; refine (HC.out _ hM.below).mono ?_; rintro e w1 ⟨rfl, hb1⟩; have hM1 := hM.later hb1; obtain ⟨y0, y1, y2⟩ := hM1.by_; simp only at y0 y1 y2)
   | (go_at_call 76; refine (HP.out _ hM1.below).mono ?_; rintro e w2 ⟨rfl, hb2⟩; have hM2 := hM1.later hb2; obtain ⟨x0, x1, x2⟩ := hM2.bx; obtain ⟨z0, z1, z2⟩ := hM2.by_; obtain ⟨k0, k1, k2, k3⟩ := hM2.hs; obtain ⟨l0, l1, l2, l3⟩ := hM2.ht; simp only at x0 x1 x2 z0 z1 z2 k0 k1 k2 k3 l0 l1 l2 l3; have g := HF.out _ hM2.below))
  go_ret
  exact ⟨rfl, hM2.below⟩
 ·have hM := moveW2 w (a, r, bb) (a', r', bb') c
  simp only at hM
  generalize (((((w.alloc (.cells #[.string a, .int .i64 r, .int .i64 bb] 41)).alloc (.cells #[.string a', .int .i64 r', .int .i64 bb'] 41)).alloc (.cells #[.string a', .int .i64 r', .int .i64 bb', .string c] 99)).alloc (.cells #[.string a, .int .i64 r, .int .i64 bb, .string c] 99)).drew) = W at hM ⊢
  generalize w.heap.size + 1 + 1 + 1 = q3 at hM ⊢
  generalize w.heap.size + 1 + 1 = q2 at hM ⊢
  obtain ⟨h0, h1, h2, h3⟩ := hM.hs
  simp only at h0 h1 h2 h3
  go_wp2_with (first
   | (go_at_call 117; refine (HC.out _ hM.below).mono ?_; rintro e w1 ⟨rfl, hb1⟩; have hM1 := hM.later hb1; obtain ⟨y0, y1, y2⟩ := hM1.by_; simp only at y0 y1 y2)
   | (go_at_call 76; refine (HP.out _ hM1.below).mono ?_; rintro e w2 ⟨rfl, hb2⟩; have hM2 := hM1.later hb2; obtain ⟨x0, x1, x2⟩ := hM2.bx; obtain ⟨z0, z1, z2⟩ := hM2.by_; obtain ⟨k0, k1, k2, k3⟩ := hM2.hs; obtain ⟨l0, l1, l2, l3⟩ := hM2.ht; simp only at x0 x1 x2 z0 z1 z2 k0 k1 k2 k3 l0 l1 l2 l3; have g := HF.out _ hM2.below))
  go_ret
  exact ⟨rfl, hM2.below⟩
theorem move_full (x y : Pl) (c : ByteArray) (n : Int) (w : World) (s : Nat → Addr) (p b : Nat) (m : List Ln) (h : IsStock w p b m) (hk : KeyOk (x, c)) (hz : y.1.size ≤ maxLen) (hz' : c.size ≤ maxLen) (hs : Five w s) (t0 : takeE m (x, c) n = 0) (h0 : placeErr y = 0) (hxy : x ≠ y) (hf : 200 < linesA m (x, c) (y, c) n) :
  Calls Tryz.prog 100 #[.pointer (some ⟨p, 0, none⟩), agP x, agP y, .string c, .int .i64 n] w fun e w' => e = .returned (err (s 7)) ∧ Below w.heap.size w w' := by
 have HC : Hid (∀ W, Below w.heap.size w W → Calls Tryz.prog 117 #[.pointer (some ⟨p, 0, none⟩), agS (x, c), .int .i64 n] W fun e w' => e = .returned (errP s (takeE m (x, c) n)) ∧ Below W.heap.size W w') := fun W hb => checkTake_any (x, c) n W s p b m (h.all hb) hk (hs.below hb)
 have HP : Hid (∀ W, Below w.heap.size w W → Calls Tryz.prog 76 #[agP y] W fun e w' => e = .returned (errP s (placeErr y)) ∧ Below W.heap.size W w') := fun W hb => pcheck_any y W s hz (hs.two.below hb)
 have hk' : KeyOk (y, c) := keyOk_of h0 hz hz'
 have HL : Hid (∀ W, Below w.heap.size w W → Calls Tryz.prog 119 #[.pointer (some ⟨p, 0, none⟩), agS (x, c), agS (y, c), .int .i64 n] W fun e w' => e = .returned (.int .i64 (linesA m (x, c) (y, c) n)) ∧ Below W.heap.size W w') := fun W hb => linesAfter_any (x, c) (y, c) n W p b m (h.all hb) hk hk'
 have hG := Tryz.guardK
 have HF : Hid (∀ W, Below w.heap.size w W → W.cell? ⟨3, 0, none⟩ = some (err (s 7))) := fun W hb => (hs.below hb).full
 have hE := fun W => eqK_run x y W
 rw [t0, errP_zero] at HC
 rw [h0, errP_zero] at HP
 rw [decide_eq_false hxy] at hE
 generalize linesA m (x, c) (y, c) n = la at *
 clear hs hk hk' hz hz' h h0 t0 hxy
 obtain ⟨a, r, bb⟩ := x
 obtain ⟨a', r', bb'⟩ := y
 unfold agP agS at *
 simp only at *
 go_enter Tryz.func100, Tryz.ntmps100
 go_wp2
 go_region
 ·have hM := moveW1 w (a, r, bb) (a', r', bb') c
  simp only at hM
  generalize (((((w.alloc (.cells #[.string a, .int .i64 r, .int .i64 bb] 41)).alloc (.cells #[.string a', .int .i64 r', .int .i64 bb'] 41)).alloc (.cells #[.string a, .int .i64 r, .int .i64 bb, .string c] 99)).alloc (.cells #[.string a', .int .i64 r', .int .i64 bb', .string c] 99)).drew) = W at hM ⊢
  generalize w.heap.size + 1 + 1 + 1 = q3 at hM ⊢
  generalize w.heap.size + 1 + 1 = q2 at hM ⊢
  obtain ⟨h0, h1, h2, h3⟩ := hM.hs
  simp only at h0 h1 h2 h3
  go_wp2_with (first
   | (go_at_call 117; refine (HC.out _ hM.below).mono ?_; rintro e w1 ⟨rfl, hb1⟩; have hM1 := hM.later hb1; obtain ⟨y0, y1, y2⟩ := hM1.by_; simp only at y0 y1 y2)
   | (go_at_call 76; refine (HP.out _ hM1.below).mono ?_; rintro e w2 ⟨rfl, hb2⟩; have hM2 := hM1.later hb2; obtain ⟨x0, x1, x2⟩ := hM2.bx; obtain ⟨z0, z1, z2⟩ := hM2.by_; obtain ⟨k0, k1, k2, k3⟩ := hM2.hs; obtain ⟨l0, l1, l2, l3⟩ := hM2.ht; simp only at x0 x1 x2 z0 z1 z2 k0 k1 k2 k3 l0 l1 l2 l3)
   | (go_at_call 119; refine (HL.out _ hM2.below).mono ?_; rintro e w3 ⟨rfl, hb3⟩; have hM3 := hM2.later hb3; have g := HF.out _ hM3.below))
  go_ret
  exact ⟨rfl, hM3.below⟩
 ·have hM := moveW2 w (a, r, bb) (a', r', bb') c
  simp only at hM
  generalize (((((w.alloc (.cells #[.string a, .int .i64 r, .int .i64 bb] 41)).alloc (.cells #[.string a', .int .i64 r', .int .i64 bb'] 41)).alloc (.cells #[.string a', .int .i64 r', .int .i64 bb', .string c] 99)).alloc (.cells #[.string a, .int .i64 r, .int .i64 bb, .string c] 99)).drew) = W at hM ⊢
  generalize w.heap.size + 1 + 1 + 1 = q3 at hM ⊢
  generalize w.heap.size + 1 + 1 = q2 at hM ⊢
  obtain ⟨h0, h1, h2, h3⟩ := hM.hs
  simp only at h0 h1 h2 h3
  go_wp2_with (first
   | (go_at_call 117; refine (HC.out _ hM.below).mono ?_; rintro e w1 ⟨rfl, hb1⟩; have hM1 := hM.later hb1; obtain ⟨y0, y1, y2⟩ := hM1.by_; simp only at y0 y1 y2)
   | (go_at_call 76; refine (HP.out _ hM1.below).mono ?_; rintro e w2 ⟨rfl, hb2⟩; have hM2 := hM1.later hb2; obtain ⟨x0, x1, x2⟩ := hM2.bx; obtain ⟨z0, z1, z2⟩ := hM2.by_; obtain ⟨k0, k1, k2, k3⟩ := hM2.hs; obtain ⟨l0, l1, l2, l3⟩ := hM2.ht; simp only at x0 x1 x2 z0 z1 z2 k0 k1 k2 k3 l0 l1 l2 l3)
   | (go_at_call 119; refine (HL.out _ hM2.below).mono ?_; rintro e w3 ⟨rfl, hb3⟩; have hM3 := hM2.later hb3; have g := HF.out _ hM3.below))
  go_ret
  exact ⟨rfl, hM3.below⟩
theorem move_in (x y : Pl) (c : ByteArray) (n : Int) (w : World) (s : Nat → Addr) (p b : Nat) (m : List Ln) (h : IsStock w p b m) (hk : KeyOk (x, c)) (hz : y.1.size ≤ maxLen) (hz' : c.size ≤ maxLen) (hs : Five w s) (t0 : takeE m (x, c) n = 0) (h0 : placeErr y = 0) (hxy : x ≠ y) (hf : linesA m (x, c) (y, c) n ≤ 200) :
  Calls Tryz.prog 100 #[.pointer (some ⟨p, 0, none⟩), agP x, agP y, .string c, .int .i64 n] w fun e w' => e = .returned (.nilIface) ∧ IsStock w' p b (moveL m x y c n) ∧ w.grownBy w' (some b) := by
 have HC : Hid (∀ W, Below w.heap.size w W → Calls Tryz.prog 117 #[.pointer (some ⟨p, 0, none⟩), agS (x, c), .int .i64 n] W fun e w' => e = .returned (errP s (takeE m (x, c) n)) ∧ Below W.heap.size W w') := fun W hb => checkTake_any (x, c) n W s p b m (h.all hb) hk (hs.below hb)
 have HP : Hid (∀ W, Below w.heap.size w W → Calls Tryz.prog 76 #[agP y] W fun e w' => e = .returned (errP s (placeErr y)) ∧ Below W.heap.size W w') := fun W hb => pcheck_any y W s hz (hs.two.below hb)
 have hk' : KeyOk (y, c) := keyOk_of h0 hz hz'
 have HL : Hid (∀ W, Below w.heap.size w W → Calls Tryz.prog 119 #[.pointer (some ⟨p, 0, none⟩), agS (x, c), agS (y, c), .int .i64 n] W fun e w' => e = .returned (.int .i64 (linesA m (x, c) (y, c) n)) ∧ Below W.heap.size W w') := fun W hb => linesAfter_any (x, c) (y, c) n W p b m (h.all hb) hk hk'
 have hG := Tryz.guardK
 have hE := fun W => eqK_run x y W
 obtain ⟨t1, t2, t3⟩ := takeE_zero t0
 have hme : moveE m x y c n = 0 := by rw [moveE_full t0 h0 hxy, if_neg (by omega)]
 obtain ⟨_, p2⟩ := move_parts h.wf t0 h0 hxy
 have hv0 := h.wf.at_nonneg (y, c)
 have hv1 : atL m (y, c) ≤ 1099511627776 := Int.le_trans (h.wf.at_le (y, c)) (h.wf.most _)
 have HS : Hid (∀ W, Below w.heap.size w W → Calls Tryz.prog 118 #[.pointer (some ⟨p, 0, none⟩), agS (x, c), .int .i64 n] W fun e w' => e = .returned (.tuple #[]) ∧ IsStock w' p b (withL m (x, c) (atL m (x, c) - n)) ∧ W.grownBy w' (some b)) := fun W hb => less_any (x, c) n W p b m (h.all hb) hk t1 t3
 have hmv := h.wf.move x y c n
 rw [moveL_zero hme] at hmv ⊢
 have HA : Hid (∀ W q, IsStock W p b (withL m (x, c) (atL m (x, c) - n)) → BoxS q (y, c) W → q ≠ b → ∃ w5, W.grownBy w5 (some b) ∧ IsStock w5 p b (withL (withL m (x, c) (atL m (x, c) - n)) (y, c) (atL m (y, c) + n)) ∧ ∃ (st : Nat) (w4 : World), (Instr.mapEntry 95 (.map (some b)) (agS (y, c))).run Tryz.prog W = .ok (.tuple #[.int .i64 (atL m (y, c)), .int .i64 st]) w4 ∧ (Instr.lookup 95 (.map (some b)) (agS (y, c)) false).run Tryz.prog w4 = .ok (.int .i64 (atL m (y, c))) w4 ∧ BoxS q (y, c) w4 ∧ w4.cell? ⟨p, 0, none⟩ = some (.map (some b)) ∧ (Instr.entryStore 95 (.map (some b)) (.int .i64 st) (.int .i64 (atL m (y, c) + n))).run Tryz.prog w4 = .ok () w5) := fun W q hS hq hqb => by
  have := hS.add hk' (n := n) (by rw [p2]; exact hmv) (by rw [p2]; omega) hq hqb
  rw [p2] at this
  exact this
 have HV : Hid (∀ W, IsStock W p b (withL m (x, c) (atL m (x, c) - n)) → (Instr.lookup 95 (.map (some b)) (agS (y, c)) false).run Tryz.prog W = .ok (.int .i64 (atL m (y, c))) W) := fun W hS => by
  have := hS.look hk'
  rw [p2] at this
  exact this
 have Hb : Hid (b < w.heap.size) := h.lt.2
 rw [t0, errP_zero] at HC
 rw [h0, errP_zero] at HP
 rw [decide_eq_false hxy] at hE
 generalize linesA m (x, c) (y, c) n = la at *
 generalize withL (withL m (x, c) (atL m (x, c) - n)) (y, c) (atL m (y, c) + n) = m2 at *
 generalize withL m (x, c) (atL m (x, c) - n) = m1 at *
 generalize atL m (y, c) = v at *
 clear hs hk hk' hz hz' h h0 t0 hxy hme hmv p2 t3
 obtain ⟨a, r, bb⟩ := x
 obtain ⟨a', r', bb'⟩ := y
 unfold agP agS at *
 simp only at *
 go_enter Tryz.func100, Tryz.ntmps100
 go_wp2
 go_region
 ·have hM := moveW1 w (a, r, bb) (a', r', bb') c
  simp only at hM
  generalize (((((w.alloc (.cells #[.string a, .int .i64 r, .int .i64 bb] 41)).alloc (.cells #[.string a', .int .i64 r', .int .i64 bb'] 41)).alloc (.cells #[.string a, .int .i64 r, .int .i64 bb, .string c] 99)).alloc (.cells #[.string a', .int .i64 r', .int .i64 bb', .string c] 99)).drew) = W at hM ⊢
  generalize w.heap.size + 1 + 1 + 1 = q3 at hM ⊢
  generalize w.heap.size + 1 + 1 = q2 at hM ⊢
  obtain ⟨h0, h1, h2, h3⟩ := hM.hs
  simp only at h0 h1 h2 h3
  go_wp2_with (first
   | (go_at_call 117; refine (HC.out _ hM.below).mono ?_; rintro e w1 ⟨rfl, hb1⟩; have hM1 := hM.later hb1; obtain ⟨y0, y1, y2⟩ := hM1.by_; simp only at y0 y1 y2)
   | (go_at_call 76; refine (HP.out _ hM1.below).mono ?_; rintro e w2 ⟨rfl, hb2⟩; have hM2 := hM1.later hb2; obtain ⟨x0, x1, x2⟩ := hM2.bx; obtain ⟨z0, z1, z2⟩ := hM2.by_; obtain ⟨k0, k1, k2, k3⟩ := hM2.hs; obtain ⟨l0, l1, l2, l3⟩ := hM2.ht; simp only at x0 x1 x2 z0 z1 z2 k0 k1 k2 k3 l0 l1 l2 l3)
   | (go_at_call 119; refine (HL.out _ hM2.below).mono ?_; rintro e w3 ⟨rfl, hb3⟩; have hM3 := hM2.later hb3; obtain ⟨m0, m1', m2', m3⟩ := hM3.hs; simp only at m0 m1' m2' m3)
   | (go_at_call 118; refine (HS.out _ hM3.below).mono ?_; rintro e w4 ⟨rfl, hi4, hg4⟩))
  have hqb := hM3.ne Hb.out
  have hb4 := hM3.ht.of_block (hg4.block _ hM3.ht.lt (by simp; exact hqb))
  have hi5 : IsStock w4.drew p b m1 := ⟨hi4.cell, hi4.map, hi4.wf⟩
  have hc4 := hi4.cell
  have hl4 := HV.out w4.drew hi5
  obtain ⟨n0, n1, n2, n3⟩ := hb4
  simp only at n0 n1 n2 n3
  obtain ⟨w5, hg5, hi6, st, w6, e1, e2, ⟨o0, o1, o2, o3⟩, e4, e5⟩ := HA.out w4.drew _ hi5 ⟨n0, n1, n2, n3⟩ hqb
  simp only at o0 o1 o2 o3
  go_region
  go_wp2
  go_ret
  exact ⟨rfl, hi6, grown_trans (grown_trans (Below.grownAll hM3.below _) hg4) (grown_trans (grown_drewN _ 1 _) hg5)⟩
 ·have hM := moveW2 w (a, r, bb) (a', r', bb') c
  simp only at hM
  generalize (((((w.alloc (.cells #[.string a, .int .i64 r, .int .i64 bb] 41)).alloc (.cells #[.string a', .int .i64 r', .int .i64 bb'] 41)).alloc (.cells #[.string a', .int .i64 r', .int .i64 bb', .string c] 99)).alloc (.cells #[.string a, .int .i64 r, .int .i64 bb, .string c] 99)).drew) = W at hM ⊢
  generalize w.heap.size + 1 + 1 + 1 = q3 at hM ⊢
  generalize w.heap.size + 1 + 1 = q2 at hM ⊢
  obtain ⟨h0, h1, h2, h3⟩ := hM.hs
  simp only at h0 h1 h2 h3
  go_wp2_with (first
   | (go_at_call 117; refine (HC.out _ hM.below).mono ?_; rintro e w1 ⟨rfl, hb1⟩; have hM1 := hM.later hb1; obtain ⟨y0, y1, y2⟩ := hM1.by_; simp only at y0 y1 y2)
   | (go_at_call 76; refine (HP.out _ hM1.below).mono ?_; rintro e w2 ⟨rfl, hb2⟩; have hM2 := hM1.later hb2; obtain ⟨x0, x1, x2⟩ := hM2.bx; obtain ⟨z0, z1, z2⟩ := hM2.by_; obtain ⟨k0, k1, k2, k3⟩ := hM2.hs; obtain ⟨l0, l1, l2, l3⟩ := hM2.ht; simp only at x0 x1 x2 z0 z1 z2 k0 k1 k2 k3 l0 l1 l2 l3)
   | (go_at_call 119; refine (HL.out _ hM2.below).mono ?_; rintro e w3 ⟨rfl, hb3⟩; have hM3 := hM2.later hb3; obtain ⟨m0, m1', m2', m3⟩ := hM3.hs; simp only at m0 m1' m2' m3)
   | (go_at_call 118; refine (HS.out _ hM3.below).mono ?_; rintro e w4 ⟨rfl, hi4, hg4⟩))
  have hqb := hM3.ne Hb.out
  have hb4 := hM3.ht.of_block (hg4.block _ hM3.ht.lt (by simp; exact hqb))
  have hi5 : IsStock w4.drew p b m1 := ⟨hi4.cell, hi4.map, hi4.wf⟩
  have hc4 := hi4.cell
  have hl4 := HV.out w4.drew hi5
  obtain ⟨n0, n1, n2, n3⟩ := hb4
  simp only at n0 n1 n2 n3
  obtain ⟨w5, hg5, hi6, st, w6, e1, e2, ⟨o0, o1, o2, o3⟩, e4, e5⟩ := HA.out w4.drew _ hi5 ⟨n0, n1, n2, n3⟩ hqb
  simp only at o0 o1 o2 o3
  go_region
  go_wp2
  go_ret
  exact ⟨rfl, hi6, grown_trans (grown_trans (Below.grownAll hM3.below _) hg4) (grown_trans (grown_drewN _ 1 _) hg5)⟩
theorem move_any (x y : Pl) (c : ByteArray) (n : Int) (w : World) (s : Nat → Addr) (p b : Nat) (m : List Ln) (h : IsStock w p b m) (hk : KeyOk (x, c)) (hz : y.1.size ≤ maxLen) (hz' : c.size ≤ maxLen) (hs : Five w s) :
  Calls Tryz.prog 100 #[.pointer (some ⟨p, 0, none⟩), agP x, agP y, .string c, .int .i64 n] w fun e w' => e = .returned (errP s (moveE m x y c n)) ∧ IsStock w' p b (moveL m x y c n) ∧ w.grownBy w' (some b) := by
 by_cases t0 : takeE m (x, c) n = 0
 ·by_cases h0 : placeErr y = 0
  ·by_cases hxy : x = y
   ·have e := moveE_shape t0 h0 hxy
    rw [moveL_err (by rw [e]; decide), e]
    exact (move_shape x y c n w s p b m h hk hz hs t0 h0 hxy).mono fun e w' ⟨he, hb⟩ => ⟨he, h.all hb, Below.grownAll hb _⟩
   ·have e := moveE_full (m := m) t0 h0 hxy
    by_cases hf : 200 < linesA m (x, c) (y, c) n
    ·rw [if_pos hf] at e
     rw [moveL_err (by rw [e]; decide), e]
     exact (move_full x y c n w s p b m h hk hz hz' hs t0 h0 hxy hf).mono fun e w' ⟨he, hb⟩ => ⟨he, h.all hb, Below.grownAll hb _⟩
    ·rw [if_neg hf] at e
     rw [e]
     exact move_in x y c n w s p b m h hk hz hz' hs t0 h0 hxy (by omega)
  ·have e := moveE_place (m := m) t0 h0
   rw [moveL_err (by rw [e]; exact h0), e]
   exact (move_place x y c n w s p b m h hk hz hs t0 h0).mono fun e w' ⟨he, hb⟩ => ⟨he, h.all hb, Below.grownAll hb _⟩
 ·have e := moveE_take (y := y) t0
  rw [moveL_err (by rw [e]; exact t0), e]
  exact (move_take x y c n w s p b m h hk hs t0).mono fun e w' ⟨he, hb⟩ => ⟨he, h.all hb, Below.grownAll hb _⟩
end Go.Proofs.YtppodkkefegbkaaGreatDoor
namespace Go.Proofs.YtppodkkefegbkaaGreatDoor
open Go.RowKit Go.Lib Go.Sort
def RefS (w : World) (v : Value) (m : List Ln) : Prop := w.ownsRow 0 48 5 v m.length (flatN m)
theorem RefS.nil (w : World) : RefS w (.slice none 0 0) [] := World.ownsRow_nil w 0 _ 5
theorem RefS.all {w w' : World} {v : Value} {m : List Ln} (h : RefS w v m) (hb : Below w.heap.size w w') : RefS w' v m :=
 h.kept (row := none) ⟨hb.os, hb.tape, hb.output, hb.size, fun k hk _ => hb.block k hk⟩ (by cases e : v.ownBlock with | none => exact Or.inl rfl | some k => exact Or.inr (by simp))
theorem RefS.forms {w : World} {v : Value} {m : List Ln} (h : RefS w v m) : (v = .slice none 0 0 ∧ m = []) ∨ ∃ g cap, v = .slice (some ⟨g, 0, none⟩) m.length cap ∧ g < w.heap.size ∧ RowN w g m := by
 rcases Joins.ownsRow_forms h with ⟨h1, h2⟩ | ⟨g, cap, rfl⟩
 ·exact Or.inl ⟨h1, List.eq_nil_of_length_eq_zero h2⟩
 ·exact Or.inr ⟨g, cap, rfl, (h.lt g rfl).2, own_rowN h⟩
def findR (m : List Ln) (k : Sp) : Int := match m.findIdx? (fun l => decide (keyL l = k)) with | some i => (i : Int) | none => -1
theorem findR_none {m : List Ln} {k : Sp} (h : ∀ l ∈ m, keyL l ≠ k) : findR m k = -1 := by
 unfold findR
 rw [List.findIdx?_eq_none_iff.2 (fun l hl => by simpa using h l hl)]
theorem findR_at {m : List Ln} {k : Sp} {i : Nat} {l : Ln} (hl : m[i]? = some l) (hk : keyL l = k) (hno : ∀ y ∈ m.take i, keyL y ≠ k) : findR m k = i := by
 obtain ⟨hi, e⟩ := List.getElem?_eq_some_iff.1 hl
 unfold findR
 rw [List.findIdx?_eq_some_iff_getElem.2 ⟨hi, by rw [e]; simpa using hk, fun j hj => by
  have := hno m[j] (List.mem_take_iff_getElem.2 ⟨j, by omega, rfl⟩)
  simpa using this⟩]
theorem findR_cases (m : List Ln) (k : Sp) : (findR m k = -1 ∧ ∀ l ∈ m, keyL l ≠ k) ∨ ∃ (i : Nat) (l : Ln), findR m k = i ∧ m[i]? = some l ∧ keyL l = k := by
 unfold findR
 cases h : m.findIdx? (fun l => decide (keyL l = k)) with
 | none => exact Or.inl ⟨rfl, fun l hl => by simpa using List.findIdx?_eq_none_iff.1 h l hl⟩
 | some i =>
  obtain ⟨hi, h1, _⟩ := List.findIdx?_eq_some_iff_getElem.1 h
  exact Or.inr ⟨i, m[i], rfl, List.getElem?_eq_getElem hi, by simpa using h1⟩
abbrev boxR (w : World) (v : Value) (x : Pl) : World := (w.alloc (.cells #[v] 76)).alloc (.cells #[.string x.1, .int .i64 x.2.1, .int .i64 x.2.2] 41)
theorem boxR_below (w : World) (v : Value) (x : Pl) : Below w.heap.size w (boxR w v x) := ((Below.refl _ w).alloc (Nat.le_refl _) _).alloc (by simp) _
theorem boxR_cells (w : World) (v : Value) (x : Pl) : (boxR w v x).cell? ⟨w.heap.size, 0, none⟩ = some v ∧ BoxAt (w.heap.size + 1) x (boxR w v x) := by
 refine ⟨?_, BoxAt.new _ x _ _ (by simp)⟩
 rw [((Below.refl _ (w.alloc (.cells #[v] 76))).alloc (Nat.le_refl _) _).cell (p := ⟨w.heap.size, 0, none⟩) (by simp), World.cell?_alloc_at _ _ _ _ rfl]; rfl
theorem keyL_ne_place {l : Ln} {x : Pl} {c : ByteArray} (h : l.1 ≠ x) : keyL l ≠ (x, c) := fun e => h (congrArg Prod.fst e)
theorem keyL_ne_lot {l : Ln} {x : Pl} {c : ByteArray} (h : l.2.1 ≠ c) : keyL l ≠ (x, c) := fun e => h (congrArg Prod.snd e)
theorem take_next {m : List Ln} {k : Nat} {l : Ln} {P : Ln → Prop} (hl : m[k]? = some l) (h : ∀ y ∈ m.take k, P y) (h1 : P l) : ∀ y ∈ m.take (k + 1), P y := by
 obtain ⟨hk, e⟩ := List.getElem?_eq_some_iff.1 hl
 rw [List.take_succ_eq_append_getElem hk, e]
 intro y hy
 rcases List.mem_append.1 hy with hy | hy
 ·exact h y hy
 ·obtain rfl : y = l := by simpa using hy
  exact h1
theorem find_any (v : Value) (m : List Ln) (x : Pl) (c : ByteArray) (w : World) (h : RefS w v m) (h200 : m.length ≤ 200) :
  Calls Tryz.prog 82 #[.agg #[v], agP x, .string c] w fun e w' => e = .returned (.int .i64 (findR m (x, c))) ∧ Below w.heap.size w w' := by
 have hB := boxR_below w v x
 obtain ⟨hv, hbx⟩ := boxR_cells w v x
 have hf := (h.all hB).forms
 have hlt0 : w.heap.size + 1 < (boxR w v x).heap.size := by simp
 have hE := fun (l : Ln) W => eqK_run l.1 x W
 have hG := Tryz.guardK
 clear h
 obtain ⟨a, r, bb⟩ := x
 unfold agP boxR at *
 simp only at *
 rcases hf with ⟨rfl, rfl⟩ | ⟨g, cap, rfl, hg, hrow⟩
 ·have HB : Hid (Below _ _ _) := hB
  clear hB hE
  go_enter Tryz.func82, Tryz.ntmps82
  go_wp2
  refine wp_loop_rounds 1 ?_
  rw [rounds_succ]
  go_wp2
  go_ret
  exact ⟨rfl, HB.out⟩
 ·generalize hln : m.length = ln at *
  have HN : Hid (ln = m.length) := hln.symm
  clear hln
  have HB : Hid (Below _ _ _) := hB
  have HR : Hid (RowN _ g m) := hrow
  have HE : Hid (∀ (l : Ln) W, _) := hE
  have HV : Hid (_ = some (Value.slice (some ⟨g, 0, none⟩) ln cap)) := hv
  have HX : Hid (BoxAt _ (a, r, bb) _) := hbx
  have HL0 : Hid (w.heap.size + 1 < _) := hlt0
  clear hB hrow hE hbx hlt0 hg
  go_enter Tryz.func82, Tryz.ntmps82
  go_wp2
  generalize (w.alloc (.cells #[.slice (some ⟨g, 0, none⟩) ln cap] 76)).alloc (.cells #[.string a, .int .i64 r, .int .i64 bb] 41) = W at *
  go_loopw [7] (fun i wr => ∃ k : Nat, k ≤ ln ∧ i = .int .i64 k ∧ Below W.heap.size W wr ∧ ∀ l ∈ m.take k, keyL l ≠ ((a, r, bb), c)) (fun i _ => ln - (RowKit.intOf i).toNat)
  case atStart => exact ⟨0, Nat.zero_le _, rfl, Below.refl _ _, by simp⟩
  case round =>
   obtain ⟨k, hk, rfl, hwr, hno⟩ := hrel
   have HNo : Hid (∀ l ∈ m.take k, keyL l ≠ ((a, r, bb), c)) := hno
   clear hno
   have hvr : wr.cell? ⟨w.heap.size, 0, none⟩ = some (.slice (some ⟨g, 0, none⟩) ln cap) := by rw [hwr.cell (p := ⟨w.heap.size, 0, none⟩) (by have := HL0.out; simp; omega)]; exact HV.out
   obtain ⟨b0, b1, b2⟩ := HX.out.below hwr
   simp only at b0 b1 b2
   by_cases hlt : k < ln
   ·have hkm : k < m.length := by rw [← HN.out]; exact hlt
    obtain ⟨l, hl⟩ : ∃ l, m[k]? = some l := ⟨_, List.getElem?_eq_getElem hkm⟩
    have HLl : Hid (m[k]? = some l) := hl
    obtain ⟨c0, c1, c2, c3, c4⟩ := HR.out.below hwr k l hl
    have hq := HE.out l
    clear hl hkm hv
    obtain ⟨⟨la, lr, lb⟩, lc, lnn⟩ := l
    simp only at c0 c1 c2 c3 c4 hq
    by_cases hp : ((la, lr, lb) : Pl) = (a, r, bb)
    ·rw [decide_eq_true hp] at hq
     by_cases hc : lc = c
     ·have HK : Hid (keyL ((la, lr, lb), lc, lnn) = ((a, r, bb), c)) := by show (((la, lr, lb), lc) : Sp) = _; rw [hp, hc]
      subst hc
      clear hp
      go_wp2
      go_quiet (fail)
      go_wp2
      go_ret
      exact ⟨by rw [findR_at HLl.out HK.out HNo.out]; rfl, HB.out.trans ((below_drewN hwr _).mono HB.out.size)⟩
     ·have HK : Hid (keyL ((la, lr, lb), lc, lnn) ≠ ((a, r, bb), c)) := keyL_ne_lot hc
      have e3 := same_eq lc c
      rw [decide_eq_false hc] at e3
      clear hp hc
      go_wp2
      go_quiet (fail)
      go_wp2
      go_roundw
      case rel => exact ⟨k + 1, by omega, by go_num, below_drewN hwr _, take_next HLl.out HNo.out HK.out⟩
      case measure => simp [RowKit.intOf]; omega
    ·have HK : Hid (keyL ((la, lr, lb), lc, lnn) ≠ ((a, r, bb), c)) := keyL_ne_place hp
     rw [decide_eq_false hp] at hq
     clear hp
     go_wp2
     go_quiet (fail)
     go_wp2
     go_roundw
     case rel => exact ⟨k + 1, by omega, by go_num, below_drewN hwr _, take_next HLl.out HNo.out HK.out⟩
     case measure => simp [RowKit.intOf]; omega
   ·have e : m.take k = m := List.take_of_length_le (by rw [← HN.out]; omega)
    have HNm : Hid (∀ l ∈ m, keyL l ≠ ((a, r, bb), c)) := by show ∀ l ∈ m, _; rw [← e]; exact HNo.out
    clear e hv
    go_wp2
    go_ret
    exact ⟨by rw [findR_none HNm.out]; rfl, HB.out.trans (hwr.mono HB.out.size)⟩
end Go.Proofs.YtppodkkefegbkaaGreatDoor
namespace Go.Proofs.YtppodkkefegbkaaGreatDoor
open Go.RowKit Go.Lib Go.Sort Go.Shelf
theorem encN_cells (w : World) (l : Ln) (t n : Nat) (hn : n = w.heap.size) : ∀ j u, (encN l)[j]? = some u → (w.alloc (.cells #[.string l.1.1, .int .i64 l.1.2.1, .int .i64 l.1.2.2, .string l.2.1, .int .i64 l.2.2] t)).cell? ((⟨n, 0, none⟩ : Addr).add j) = some u := by
 intro j u hj
 rw [Go.WideShapes.add_plain, Nat.zero_add, World.cell?_alloc_at _ _ _ _ hn]
 simpa [encN] using hj
end Go.Proofs.YtppodkkefegbkaaGreatDoor
